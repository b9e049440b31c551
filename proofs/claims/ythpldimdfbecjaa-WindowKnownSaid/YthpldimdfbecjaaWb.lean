/- window: how many bytes are kept, whatever order the map is gone through in. By an AI agent. -/
import Derived.Test.YthpldimdfbecjaaMp
import Derived.Deep.Fields
import Derived.Tactics2
namespace Go.Proofs.Ythpldimdfbecjaa.So
open Go Go.RowKit Go.ChangeMaps Go.Proofs.Ythpldimdfbecjaa.Abs Go.Proofs.Ythpldimdfbecjaa.Ky
set_option linter.unusedVariables false
abbrev BYTES : FuncId := 22
abbrev ISNONE : FuncId := 29
/-- how long an entry's payload is -/
def vlen (m : MapEntry) : Nat := match m.val with
  | .agg c => (match c.toList with | .string s :: _ => s.size | _ => 0)
  | _ => 0
def sumV : List MapEntry → Nat
  | [] => 0
  | m :: l => vlen m + sumV l
theorem sumV_perm {l m : List MapEntry} (h : l.Perm m) : sumV l = sumV m := by
  induction h with
  | nil => rfl
  | cons x _ ih => simp [sumV, ih]
  | swap x y l => simp only [sumV]; omega
  | trans _ _ h1 h2 => exact h1.trans h2
theorem sumV_snoc (l : List MapEntry) (e : MapEntry) : sumV (l ++ [e]) = sumV l + vlen e := by
  induction l with
  | nil => simp [sumV]
  | cons x l ih => simp only [List.cons_append, sumV, ih]; omega
theorem sumV_le {l : List MapEntry} (h : ∀ m ∈ l, vlen m ≤ 1048576) : sumV l ≤ l.length * 1048576 := by
  induction l with
  | nil => simp [sumV]
  | cons x l ih =>
    have h1 := h x List.mem_cons_self
    have h2 := ih fun m hm => h m (List.mem_cons_of_mem _ hm)
    simp only [sumV, List.length_cons]
    omega
theorem Came.perm {es : Array MapEntry} {clock : Nat} {ks : List Int} {seen : Array Nat} {done : List MapEntry} {ss : List Int} (hm : MapOk es clock ks) (h : Came es seen done ss) (h0 : (leftOf es seen).size = 0) : done.Perm es.toList := by
  have hd : done.Nodup := nodup_of_map (·.born) (by rw [h.stamps]; exact h.nd)
  refine (List.perm_ext_iff_of_nodup hd (nodup_of_map _ hm.born)).2 fun e => ⟨h.sub e, fun he => ?_⟩
  have hc : seen.contains e.born = true := by
    cases hc : seen.contains e.born with
    | true => rfl
    | false =>
      have : e ∈ (leftOf es seen).toList := by simp [leftOf]; exact ⟨by simpa using he, by simpa using hc⟩
      rw [Array.size_eq_zero_iff.1 h0] at this
      simp at this
  have : e.born ∈ done.map (·.born) := by rw [h.stamps]; simpa using hc
  obtain ⟨d, hd1, hd2⟩ := List.mem_map.1 this
  have f1 := Go.find_born d es.toList hm.born (h.sub d hd1)
  have f2 := Go.find_born e es.toList hm.born he
  rw [hd2, f2] at f1
  exact (Option.some.inj f1).symm ▸ hd1
theorem isNone_some (w : World) (g o : Nat) (a : Addr) (hc : w.cell? ⟨g, o, none⟩ = some (.pointer (some a))) : CallsIn Fence.wide 8 Try.prog ISNONE #[.pointer (some ⟨g, o, none⟩)] w fun e w' => e = .returned (.bool false) ∧ w' = w := by
  refine callsIn_of_wp Try.func29 rfl trivial ?_ rfl
  simp only [Try.ntmps29, List.size_toArray, List.length_cons, List.length_nil, Nat.reduceAdd, Nat.reduceSub, Array.replicate_succ, Array.replicate_zero, List.push_toArray, List.append_toArray, List.nil_append, List.cons_append]
  gi_wp2
  go_ret
  exact ⟨rfl, rfl⟩
set_option maxRecDepth 100000 in
set_option maxHeartbeats 2000000 in
theorem bytes_some (w : World) (g o gm : Nat) (a : Addr) (ms : Array MapEntry) (clock : Nat) (ks : List Int) (hc : w.cell? ⟨g, o, none⟩ = some (.pointer (some a))) (hi : w.cell? ⟨g, o + 3, none⟩ = some (.map (some gm))) (hm : w.heap[gm]? = some (.map ms clock)) (hok : MapOk ms clock ks) (h16 : ks.length ≤ 1048576)
    (hv : ∀ m ∈ ms.toList, ∃ (s : ByteArray) (t d : Int), m.val = .agg #[.string s, .int .i64 t, .int .i64 d] ∧ s.size ≤ 1048576) :
    CallsIn Fence.wide 9 Try.prog BYTES #[.pointer (some ⟨g, o, none⟩)] w fun e w' => e = .returned (.int .i64 (sumV ms.toList : Int)) ∧ Below w.heap.size w w' := by
  have hgl : gm < w.heap.size := (Array.getElem?_eq_some_iff.1 hm).1
  have hvl : ∀ m ∈ ms.toList, vlen m ≤ 1048576 := fun m hm => by
    obtain ⟨s, t, d, e, h⟩ := hv m hm
    simpa [vlen, e] using h
  have hfI : Fence.wide.fn 29 := trivial
  refine callsIn_of_wp Try.func22 rfl trivial ?_ rfl
  simp only [Try.ntmps22, List.size_toArray, List.length_cons, List.length_nil, Nat.reduceAdd, Nat.reduceSub, Array.replicate_succ, Array.replicate_zero, List.push_toArray, List.append_toArray, List.nil_append, List.cons_append]
  gi_wp2_with (first
    | (gi_at_call 29; refine (isNone_some w g o a hc).mono ?_; rintro e w' ⟨rfl, rfl⟩)
    | (gi_at_range; refine range_raw _ rfl _ 68 22 81 rfl (by kernel_rfl) gm ms clock rfl hm ?_)
    | gi_in)
  go_frame
  gi_loopw [3] (fun x wr => ∃ (seen : Array Nat) (done : List MapEntry) (ss : List Int), x = .int .i64 (sumV done : Int) ∧ wr.heap[w'.heap.size]? = some (.mapIter (some gm) clock seen clock) ∧ wr.heap[gm]? = some (.map ms clock) ∧ Came ms seen done ss ∧ Below w'.heap.size w' wr)
    (fun _ wr => match wr.heap[w'.heap.size]? with | some (.mapIter _ _ seen _) => ks.length - seen.size | _ => 0)
  case atStart =>
    refine ⟨#[], [], [], rfl, World.alloc_heap_new w' _, (Below.heap_alloc _ _ gm hgl).trans hm, Came.start ms, (Below.refl _ w').alloc (Nat.le_refl _) _⟩
  case round =>
    obtain ⟨seen, done, ss, rfl, hr, hm2, hC, hB⟩ := hrel
    gi_wp2_with (first
      | (gi_at_next; refine next_raw _ rfl _ rfl w'.heap.size gm clock seen ms rfl hr hm2 hok.old hok.born ?_ ?_)
      | gi_in)
    · intro h0
      have hp := sumV_perm (Came.perm hok hC (by rw [h0]; rfl))
      gi_wp2
      go_ret
      exact ⟨by rw [hp]; rfl, hB⟩
    · intro e w2 he hr2 hg2 hs2 hen
      have he : e ∈ (leftOf ms seen).toList := by simpa using he
      obtain ⟨s, t, d, hval, hsz⟩ := hv e (mem_left he).1
      rw [hval] at hen ⊢
      have hlen := hC.few hok he
      have hm3 : w2.heap[gm]? = some (.map ms clock) := (hg2.block gm (Array.getElem?_eq_some_iff.1 hm2).1 (fun e => by cases e; omega)).trans hm2
      have hB2 : Below w'.heap.size w' w2 := hB.grown hg2 hB.size (fun k e => by cases e; exact Nat.le_refl _)
      clear hs2
      gi_wp2
      obtain ⟨x, hx⟩ := mem_key hok (mem_left he).1
      have hseen : seen.size = ss.length := by
        have h1 := congrArg List.length hC.stamps
        have h2 := congrArg List.length hC.keys
        simp at h1 h2
        omega
      have hdl : done.length = ss.length := by simpa using congrArg List.length hC.keys
      have hle := sumV_le (l := done) fun m hm => hvl m (hC.sub m hm)
      have hve : vlen e = s.size := by simp [vlen, hval]
      have hil : w'.heap.size < w2.heap.size := (Array.getElem?_eq_some_iff.1 hr2).1
      refine ⟨⟨seen.push e.born, done ++ [e], ss ++ [x], ?_, (Below.heap_alloc _ _ _ hil).trans hr2, (Below.heap_alloc _ _ gm (Array.getElem?_eq_some_iff.1 hm3).1).trans hm3, hC.step he hx, hB2.alloc hB2.size _⟩, ?_⟩
      · rw [show wrap64 ((sumV done : Int) + (s.size : Int)) = (sumV done : Int) + (s.size : Int) by unfold wrap64; omega, sumV_snoc, hve]
        simp
      · rw [(Below.heap_alloc _ _ _ hil).trans hr2, hr]
        simp
        omega
#print axioms bytes_some
theorem isNone_nil (w : World) : CallsIn Fence.wide 8 Try.prog ISNONE #[.pointer none] w fun e w' => e = .returned (.bool true) ∧ w' = w := by
  refine callsIn_of_wp Try.func29 rfl trivial ?_ rfl
  simp only [Try.ntmps29, List.size_toArray, List.length_cons, List.length_nil, Nat.reduceAdd, Nat.reduceSub, Array.replicate_succ, Array.replicate_zero, List.push_toArray, List.append_toArray, List.nil_append, List.cons_append]
  gi_wp2
  go_ret
  exact ⟨rfl, rfl⟩
theorem isNone_zero (w : World) (g o : Nat) (hc : w.cell? ⟨g, o, none⟩ = some (.pointer none)) : CallsIn Fence.wide 8 Try.prog ISNONE #[.pointer (some ⟨g, o, none⟩)] w fun e w' => e = .returned (.bool true) ∧ w' = w := by
  refine callsIn_of_wp Try.func29 rfl trivial ?_ rfl
  simp only [Try.ntmps29, List.size_toArray, List.length_cons, List.length_nil, Nat.reduceAdd, Nat.reduceSub, Array.replicate_succ, Array.replicate_zero, List.push_toArray, List.append_toArray, List.nil_append, List.cons_append]
  gi_wp2
  go_ret
  exact ⟨rfl, rfl⟩
theorem bytes_none (w : World) (p : Option Addr) (h : CallsIn Fence.wide 8 Try.prog ISNONE #[.pointer p] w fun e w' => e = .returned (.bool true) ∧ w' = w) :
    CallsIn Fence.wide 9 Try.prog BYTES #[.pointer p] w fun e w' => e = .returned (.int .i64 0) ∧ w' = w := by
  have hfI : Fence.wide.fn 29 := trivial
  refine callsIn_of_wp Try.func22 rfl trivial ?_ rfl
  simp only [Try.ntmps22, List.size_toArray, List.length_cons, List.length_nil, Nat.reduceAdd, Nat.reduceSub, Array.replicate_succ, Array.replicate_zero, List.push_toArray, List.append_toArray, List.nil_append, List.cons_append]
  gi_wp2_with (first
    | (gi_at_call 29; refine h.mono ?_; rintro e w' ⟨rfl, rfl⟩)
    | gi_in)
  go_ret
  exact ⟨rfl, rfl⟩
def sumC : List (AVal × AVal) → Option Nat
  | [] => some 0
  | e :: es => match e.2, sumC es with
    | .agg [.str l, .int .i64 _, .int .i64 _], some r => bif Nat.ble (lenL l 0) 1048576 then some (lenL l 0 + r) else none
    | _, _ => none
theorem sumC_ok {φ : Phi} : ∀ {es : List (AVal × AVal)} {T : Nat} {ms : List MapEntry}, sumC es = some T → ms.length = es.length → (∀ (i : Nat) (e : AVal × AVal), es[i]? = some e → ∃ m : MapEntry, ms[i]? = some m ∧ VRel φ e.1 m.key ∧ VRel φ e.2 m.val) →
    sumV ms = T ∧ ∀ m ∈ ms, ∃ (s : ByteArray) (t d : Int), m.val = .agg #[.string s, .int .i64 t, .int .i64 d] ∧ s.size ≤ 1048576
  | [], T, ms, h, hl, hr => by
    cases h
    obtain rfl : ms = [] := List.eq_nil_of_length_eq_zero hl
    exact ⟨rfl, by simp⟩
  | e :: es, T, ms, h, hl, hr => by
    cases ms with
    | nil => cases hl
    | cons m ms =>
    obtain ⟨m', e1, _, e2⟩ := hr 0 e rfl
    obtain rfl : m = m' := by simpa using e1
    unfold sumC at h
    split at h
    · rename_i l t d r hk hrest
      cases hb : Nat.ble (lenL l 0) 1048576 with
      | false => rw [hb] at h; cases h
      | true =>
        rw [hb] at h
        cases h
        have hb := Nat.le_of_ble_eq_true hb
        rw [lenL0] at hb ⊢
        rw [hk] at e2
        obtain ⟨q1, q2⟩ := sumC_ok hrest (by simpa using hl) (fun i e he => by
          obtain ⟨m1, c1, c2⟩ := hr (i + 1) e (by simpa using he)
          exact ⟨m1, by simpa using c1, c2⟩)
        generalize hkv : m.val = kv at e2
        cases e2 with
        | agg _ c hc =>
        obtain ⟨s, rfl, rfl⟩ : ∃ s : ByteArray, c = #[.string s, .int .i64 t, .int .i64 d] ∧ l = s.data.toList.map UInt8.toNat := by
          generalize hq : c.toList = q at hc
          cases hc with
          | cons _ u1 _ us1 a1 a2 => cases a2 with
            | cons _ u2 _ us2 a3 a4 => cases a4 with
              | cons _ u3 _ us3 a5 a6 =>
                cases a6; cases a1 with | str s => cases a3; cases a5; exact ⟨s, by apply Array.toList_inj.1; rw [hq], rfl⟩
        have hsz : (s.data.toList.map UInt8.toNat).length = s.size := by rw [List.length_map, Array.length_toList]; rfl
        rw [hsz] at hb ⊢
        refine ⟨by simp [sumV, vlen, hkv, q1], fun x hx => ?_⟩
        rcases List.mem_cons.1 hx with rfl | hx
        · exact ⟨s, t, d, hkv, hb⟩
        · exact q2 x hx
    · cases h
noncomputable def bytesH (RO : PT AObj) : Hook := fun args st =>
  match args with
  | [.ptr none] => some (none, .int .i64 0, st)
  | [.ptr (some (x, o))] => (match rd RO st x with
    | some (.cells l _) => (match nth l o with
      | some (.ptr none) => some (none, .int .i64 0, st)
      | some (.ptr (some _)) => (match nth l (o + 3) with
        | some (.map (some m)) => (match st.heap.get m with
          | some (.map es) => (match keysC es, sumC es with
            | some ks, some T => bif Nat.ble (lenL ks 0) 65536 then some (none, .int .i64 T, st) else none
            | _, _ => none)
          | _ => none)
        | _ => none)
      | _ => none)
    | _ => none)
  | _ => none
theorem bytesH_ok {w0 : World} {RO : PT AObj} : Call1Ok Try.prog w0 RO BYTES (fun args st => got (bytesH RO args st)) := by
  intro args st v st' h0
  obtain ⟨ob, h, hob⟩ := got_some h0
  clear h0
  unfold bytesH at h
  split at h
  · cases h
    refine ⟨Logs.refl _, ⟨_, rfl, rfl, by kernel_rfl⟩, fun φ us w hus hw hro => ?_⟩
    cases hus with
    | cons _ u _ us1 hv hus1 =>
    cases hus1
    cases hv
    refine ((callsIn_wide (n := 9)).1 (bytes_none w none (isNone_nil w))).mono ?_
    rintro e w' ⟨rfl, rfl⟩
    exact ⟨_, rfl, quiet_ok hw (Below.refl _ _) (.int _ _)⟩
  · rename_i x o
    split at h
    · rename_i l tl hrd
      split at h
      · rename_i hn
        cases h
        refine ⟨Logs.refl _, ⟨_, rfl, rfl, by kernel_rfl⟩, fun φ us w hus hw hro => ?_⟩
        cases hus with
        | cons _ u _ us1 hv hus1 =>
        cases hus1
        cases hv with
        | ptr _ _ g b n hφ =>
        obtain ⟨g', b', n', x1, e1, e2, e3⟩ := rd_some hrd hw hro rfl
        obtain ⟨rfl, rfl, rfl⟩ : g = g' ∧ b = b' ∧ n = n' := by rw [hφ] at e1; simpa using e1
        rw [nth_eq] at hn
        obtain ⟨um, f1, f2⟩ := orel_cell e3 hn
        cases f1
        refine ((callsIn_wide (n := 9)).1 (bytes_none w _ (isNone_zero w g (b + o) (f2 w g e2)))).mono ?_
        rintro e w' ⟨rfl, rfl⟩
        exact ⟨_, rfl, quiet_ok hw (Below.refl _ _) (.int _ _)⟩
      · rename_i hn
        split at h
        · rename_i m hn3
          split at h
          · rename_i es hes
            split at h
            · rename_i ks T hks hT
              cases hc : Nat.ble (lenL ks 0) 65536 with
              | false => rw [hc] at h; cases h
              | true =>
              rw [hc] at h
              cases h
              have h16 := Nat.le_of_ble_eq_true hc
              rw [lenL0] at h16
              refine ⟨Logs.refl _, ⟨_, rfl, rfl, by kernel_rfl⟩, fun φ us w hus hw hro => ?_⟩
              cases hus with
              | cons _ u _ us1 hv hus1 =>
              cases hus1
              cases hv with
              | ptr _ _ g b n hφ =>
              obtain ⟨g', b', n', x1, e1, e2, e3⟩ := rd_some hrd hw hro rfl
              obtain ⟨rfl, rfl, rfl⟩ : g = g' ∧ b = b' ∧ n = n' := by rw [hφ] at e1; simpa using e1
              rw [nth_eq] at hn hn3
              obtain ⟨um, f1, f2⟩ := orel_cell e3 hn
              obtain ⟨um3, f3, f4⟩ := orel_cell e3 hn3
              cases f1 with
              | ptr _ _ ga ba na hφa =>
              cases f3 with
              | map _ gm bm nm hφm =>
              obtain ⟨g2, b2, n2, x2, k1, k2, k3, k4⟩ := hw.obj_at hes rfl
              obtain ⟨rfl, rfl, rfl⟩ : gm = g2 ∧ bm = b2 ∧ nm = n2 := by rw [hφm] at k1; simpa using k1
              obtain ⟨ms, clock, rfl, c1, c2, c3, c4⟩ := map_entries k4
              obtain ⟨d1, d2⟩ := keysC_ok hks c1 c4
              obtain ⟨t1, t2⟩ := sumC_ok hT c1 c4
              have hc4 := f4 w g e2
              rw [← Nat.add_assoc] at hc4
              refine ((callsIn_wide (n := 9)).1 (bytes_some w g (b + o) gm _ ms clock (ks.map fun n : Nat => (n : Int)) (f2 w g e2) hc4 k3 ⟨d1, c2, c3⟩ (by simp; omega) t2)).mono ?_
              rintro e w' ⟨rfl, hb⟩
              rw [t1]
              exact ⟨_, rfl, quiet_ok hw hb (.int _ _)⟩
            · cases h
          · cases h
        · cases h
      · cases h
    · cases h
  · cases h
#print axioms bytesH_ok
end Go.Proofs.Ythpldimdfbecjaa.So
