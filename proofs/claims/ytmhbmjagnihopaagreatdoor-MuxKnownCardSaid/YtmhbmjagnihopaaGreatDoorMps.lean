/- slices.Sorted(maps.Keys(m)) as a hook. By an AI agent. -/
import Derived.Test.YtmhbmjagnihopaaGreatDoorSps
namespace Go.Proofs.YtmhbmjagnihopaaGreatDoor.Ss
open Go Go.RowKit Go.Proofs.YtmhbmjagnihopaaGreatDoor.Abs Go.Proofs.YtmhbmjagnihopaaGreatDoor.Ky Go.Proofs.YtmhbmjagnihopaaGreatDoor.So
set_option linter.unusedVariables false
set_option maxRecDepth 100000
section
variable {w0 : World} {φ : Phi}
/-- a call that leaves all that was there, and hands out a new block -/
theorem new_grow {H : PT AObj} {next : Nat} {w w' : World} (hw : WRel w0 φ H next w) (hbe : Below w.heap.size w w') {g n : Nat} {o : AObj} {x : Obj} (hg : w.heap.size ≤ g) (hgx : w'.heap[g]? = some x) (ho : ORel (φ.ext next (g, 0, n)) o 0 n x) :
    WRel w0 (φ.ext next (g, 0, n)) (H.set next (some o)) (next + 1) w' ∧ Step φ H w (φ.ext next (g, 0, n)) (H.set next (some o)) w' := by
  have hle : φ.le (φ.ext next (g, 0, n)) := Phi.ext_le _ (hw.fresh _ (Nat.le_refl _))
  have hold : ∀ k, k < w.heap.size → w'.heap[k]? = w.heap[k]? := fun k hk => hbe.block k hk
  have hdom : ∀ y o' g' b m, H.get y = some o' → φ y = some (g', b, m) → g' < w.heap.size := fun y o' g' b m hy hφ => by
    obtain ⟨g2, b', m', u, e1, _, e3, _⟩ := hw.obj_of hy hφ
    rw [hφ] at e1
    obtain ⟨rfl, _⟩ : g' = g2 ∧ _ := by simpa using e1
    exact (Array.getElem?_eq_some_iff.1 e3).1
  have hbel : Below w0.heap.size w0 w' := hw.below.trans (hbe.mono hw.below.size)
  refine with_pool hw (fun _ _ _ => rfl) ?_
  refine ⟨⟨hbel, fun y hy => ?_, fun y o' hy => ?_, fun y z o1 o2 g1 b b' m m' hy hz h4 h5 => ?_, fun y o' hy => by
    rw [PT.get_set] at hy
    split at hy
    · omega
    · have := hw.lt y o' hy; omega⟩, ⟨hle, hbe.size, fun y o' g1 b m hy hφ => ?_, fun g1 hg1 _ => hold g1 hg1, Phi.only_ext _ hw.fresh⟩⟩
  · rw [Phi.ext_ne _ _ (by omega)]; exact hw.fresh _ (by omega)
  · rw [PT.get_set] at hy
    by_cases he : y = next
    · subst he
      rw [if_pos rfl] at hy
      cases hy
      exact .inr ⟨g, 0, n, x, Phi.ext_at _ _ _, Nat.le_trans hw.below.size hg, hgx, ho⟩
    · rw [if_neg he] at hy
      rcases hw.obj y o' hy with ⟨e1, e2⟩ | ⟨g1, b, m, u, e1, e2, e3, e4⟩
      · exact .inl ⟨by rw [Phi.ext_ne _ _ he]; exact e1, e2⟩
      · exact .inr ⟨g1, b, m, u, hle _ _ e1, e2, (hold g1 (Array.getElem?_eq_some_iff.1 e3).1).trans e3, e4.mono hle⟩
  · rw [PT.get_set] at hy hz
    by_cases he : y = next <;> by_cases he2 : z = next
    · rw [he, he2]
    · rw [if_neg he2] at hz
      subst he
      rw [Phi.ext_at] at h4
      rw [Phi.ext_ne _ _ he2] at h5
      have := hdom z o2 g1 b' m' hz h5
      have : g = g1 := by simpa using (Prod.mk.inj (Option.some.inj h4)).1
      omega
    · rw [if_neg he] at hy
      subst he2
      rw [Phi.ext_at] at h5
      rw [Phi.ext_ne _ _ he] at h4
      have := hdom y o1 g1 b m hy h4
      have : g = g1 := by simpa using (Prod.mk.inj (Option.some.inj h5)).1
      omega
    · rw [if_neg he] at hy
      rw [if_neg he2] at hz
      rw [Phi.ext_ne _ _ he] at h4
      rw [Phi.ext_ne _ _ he2] at h5
      exact hw.inj y z o1 o2 g1 b b' m m' hy hz h4 h5
  · rw [PT.get_set] at hy
    by_cases he : y = next
    · subst he
      rw [Phi.ext_at] at hφ
      have : g = g1 := by simpa using (Prod.mk.inj (Option.some.inj hφ)).1
      exact .inl (by omega)
    · rw [if_neg he] at hy
      rw [Phi.ext_ne _ _ he] at hφ
      exact .inr ⟨y, o', b, m, hy, hφ⟩
/-- the keys of entries -/
def keysC : List (AVal × AVal) → Option (List Nat)
  | [] => some []
  | e :: es => match e.1, keysC es with
    | .int .u32 (.ofNat n), some r => bif Nat.blt n 4294967296 then some (n :: r) else none
    | _, _ => none
def insN (x : Nat) : List Nat → List Nat
  | [] => [x]
  | y :: l => bif Nat.ble x y then x :: y :: l else y :: insN x l
def sortN : List Nat → List Nat
  | [] => []
  | x :: l => insN x (sortN l)
def distN : List Nat → Bool
  | [] => true
  | x :: l => !memN x l && distN l
noncomputable def sortedH (RO : PT AObj) : Hook := fun args st =>
  match args with
  | [.func f [] [.ptr (some (bx, o))]] => (match rd RO st bx with
    | some (.cells l _) => (match nth l o with
      | some (.map (some m)) => (match st.heap.get m with
        | some (.map es) => (match keysC es with
          | some ks => bif Nat.beq f KEYS1 && Nat.ble (lenL ks 0) 12 && distN ks then (match ks with
            | [] => some (none, .slice none 0 0 true 1, st)
            | _ :: _ => some (none, .slice (some (st.next, 0)) (lenL ks 0) (lenL ks 0) false 1, { heap := st.heap.set st.next (some (.cells ((sortN ks).map fun (n : Nat) => .int .u32 n) 68)), next := Nat.succ st.next, log := st.log })) else none
          | none => none)
        | _ => none)
      | _ => none)
    | _ => none)
  | _ => none
theorem insN_perm (x : Nat) : ∀ l, (insN x l).Perm (x :: l)
  | [] => .refl _
  | y :: l => by
    unfold insN
    cases Nat.ble x y with
    | true => exact .refl _
    | false => exact (List.Perm.cons y (insN_perm x l)).trans (List.Perm.swap x y l)
theorem sortN_perm : ∀ l, (sortN l).Perm l
  | [] => .refl _
  | x :: l => (insN_perm x _).trans (List.Perm.cons x (sortN_perm l))
theorem insN_sorted (x : Nat) : ∀ {l : List Nat}, l.Pairwise (· ≤ ·) → (insN x l).Pairwise (· ≤ ·)
  | [], _ => by simp [insN]
  | y :: l, h => by
    unfold insN
    rw [List.pairwise_cons] at h
    cases hb : Nat.ble x y with
    | true =>
      have hle := Nat.le_of_ble_eq_true hb
      simp only [cond_true]
      refine List.pairwise_cons.2 ⟨fun z hz => ?_, List.pairwise_cons.2 h⟩
      rcases List.mem_cons.1 hz with rfl | hz
      · exact hle
      · exact Nat.le_trans hle (h.1 z hz)
    | false =>
      have hn : ¬ x ≤ y := fun hle => by rw [Nat.ble_eq_true_of_le hle] at hb; cases hb
      simp only [cond_false]
      refine List.pairwise_cons.2 ⟨fun z hz => ?_, insN_sorted x h.2⟩
      rcases List.mem_cons.1 ((insN_perm x l).mem_iff.1 hz) with rfl | hz
      · omega
      · exact h.1 z hz
theorem sortN_sorted : ∀ l, (sortN l).Pairwise (· ≤ ·)
  | [] => .nil
  | x :: l => insN_sorted x (sortN_sorted l)
theorem memN_false {x : Nat} : ∀ {l : List Nat}, memN x l = false → x ∉ l
  | [], _ => by simp
  | y :: l, h => by
    unfold memN at h
    rw [Bool.or_eq_false_iff] at h
    intro hx
    rcases List.mem_cons.1 hx with rfl | hx
    · have := h.1; rw [Nat.beq_refl] at this; cases this
    · exact memN_false h.2 hx
theorem distN_nodup : ∀ {l : List Nat}, distN l = true → l.Nodup
  | [], _ => .nil
  | x :: l, h => by
    unfold distN at h
    rw [Bool.and_eq_true, Bool.not_eq_true'] at h
    exact List.nodup_cons.2 ⟨memN_false h.1, distN_nodup h.2⟩
theorem keysC_ok : ∀ {es : List (AVal × AVal)} {ks : List Nat} {ms : List MapEntry}, keysC es = some ks → ms.length = es.length → (∀ (i : Nat) (e : AVal × AVal), es[i]? = some e → ∃ m : MapEntry, ms[i]? = some m ∧ VRel φ e.1 m.key ∧ VRel φ e.2 m.val) →
    ms.map (·.key) = (ks.map fun n : Nat => (n : Int)).map (Value.int .u32) ∧ ∀ n ∈ ks, n < 4294967296
  | [], ks, ms, h, hl, hr => by
    cases h
    obtain rfl : ms = [] := List.eq_nil_of_length_eq_zero hl
    exact ⟨rfl, by simp⟩
  | e :: es, ks, ms, h, hl, hr => by
    cases ms with
    | nil => cases hl
    | cons m ms =>
    obtain ⟨m', e1, e2, _⟩ := hr 0 e rfl
    obtain rfl : m = m' := by simpa using e1
    unfold keysC at h
    split at h
    · rename_i n r hk hrest
      cases hb : Nat.blt n 4294967296 with
      | false => rw [hb] at h; cases h
      | true =>
        rw [hb] at h
        cases h
        rw [hk] at e2
        obtain ⟨q1, q2⟩ := keysC_ok hrest (by simpa using hl) (fun i e he => by
          obtain ⟨m1, c1, c2⟩ := hr (i + 1) e (by simpa using he)
          exact ⟨m1, by simpa using c1, c2⟩)
        have hn : n < 4294967296 := by simpa [Nat.blt_eq] using hb
        generalize hkv : m.key = kv at e2
        cases e2
        refine ⟨by simp [q1, hkv], fun x hx => ?_⟩
        rcases List.mem_cons.1 hx with rfl | hx
        · exact hn
        · exact q2 x hx
    · cases h
theorem perm_sorted {l m : List Int} (h : l.Perm m) (hl : l.Pairwise (· ≤ ·)) (hm : m.Pairwise (· ≤ ·)) : l = m :=
  List.Perm.eq_of_pairwise (fun x y _ _ h1 h2 => Int.le_antisymm h1 h2) hl hm h
set_option maxHeartbeats 1000000 in
theorem sortedH_ok {RO : PT AObj} : Call1Ok Tryz.prog w0 RO SORTED (fun args st => got (sortedH RO args st)) := by
  intro args st v st' h0
  obtain ⟨ob, h, hob⟩ := got_some h0
  clear h0
  unfold sortedH at h
  split at h
  · rename_i f bx o
    split at h
    · rename_i l tl hrd
      split at h
      · rename_i m hn
        split at h
        · rename_i es hes
          split at h
          · rename_i ks hks
            cases hc : (Nat.beq f KEYS1 && Nat.ble (lenL ks 0) 12 && distN ks) with
            | false => rw [hc] at h; cases h
            | true =>
            rw [hc] at h
            rw [Bool.and_eq_true, Bool.and_eq_true] at hc
            obtain ⟨⟨hf, h16⟩, hdist⟩ := hc
            obtain rfl := Nat.eq_of_beq_eq_true hf
            have h16 := Nat.le_of_ble_eq_true h16
            rw [lenL0] at h16
            have hlogs : Logs st st' := by
              split at h
              · cases h; exact Logs.refl _
              · cases h
                exact ⟨[], rfl, Nat.le_succ _, fun b hb _ => by
                  show (PT.set _ _ _).get b = _
                  rw [PT.get_set, if_neg (by omega)]⟩
            refine ⟨hlogs, ⟨_, rfl, rfl, by kernel_rfl⟩, fun φ us w hus hw hro => ?_⟩
            cases hus with
            | cons _ u _ us1 hv hus1 =>
            cases hus1
            cases hv with
            | func _ _ _ va vb ha hbv =>
            have hva : va = #[] := by
              apply Array.toList_inj.1
              generalize va.toList = q at ha
              cases ha
              rfl
            subst hva
            obtain ⟨up, hup, hrel⟩ : ∃ up, vb = #[up] ∧ VRel φ (.ptr (some (bx, o))) up := by
              generalize hq : vb.toList = q at hbv
              cases hbv with
              | cons _ u2 _ us2 q1 q2 =>
                cases q2
                exact ⟨u2, by apply Array.toList_inj.1; rw [hq], q1⟩
            subst hup
            cases hrel with
            | ptr _ _ g b n hφ =>
            obtain ⟨g', b', n', x, e1, e2, e3⟩ := rd_some hrd hw hro rfl
            obtain ⟨rfl, rfl, rfl⟩ : g = g' ∧ b = b' ∧ n = n' := by rw [hφ] at e1; simpa using e1
            rw [nth_eq] at hn
            obtain ⟨um, f1, f2⟩ := orel_cell e3 hn
            cases f1 with
            | map _ gm bm nm hφm =>
            have hcell := f2 w g e2
            obtain ⟨g2, b2, n2, x2, k1, k2, k3, k4⟩ := hw.obj_at hes rfl
            obtain ⟨rfl, rfl, rfl⟩ : gm = g2 ∧ bm = b2 ∧ nm = n2 := by rw [hφm] at k1; simpa using k1
            obtain ⟨ms, clock, rfl, c1, c2, c3, c4⟩ := map_entries k4
            obtain ⟨d1, d2⟩ := keysC_ok hks c1 c4
            have hnd : (ks.map fun n : Nat => (n : Int)).Nodup := by
              have := distN_nodup hdist
              refine List.pairwise_map.2 (this.imp fun h => ?_)
              omega
            refine (sorted_keys w g (b + o) gm ms clock (ks.map fun n : Nat => (n : Int)) hcell (Array.getElem?_eq_some_iff.1 e2).1 k3 ⟨d1, c2, c3⟩ (fun y hy => by
              obtain ⟨z, hz, rfl⟩ := List.mem_map.1 hy
              have := d2 z hz
              simp only [in_u32]; omega) (by simpa using h16) hnd).mono fun e w' he => ?_
            obtain ⟨hbel, ⟨hk0, rfl⟩ | ⟨gr, cap, m2, c, t2, fz, p0, rfl, p1, p2, p3, p4, p5, p6, p7, p8⟩⟩ := he
            · obtain rfl : ks = [] := by simpa using hk0
              cases h
              exact ⟨_, rfl, quiet_ok hw hbel (.slice0 _ _)⟩
            · cases ks with
              | nil =>
                simp at p0
              | cons k0 kr =>
                cases h
                have hm2 : m2 = (sortN (k0 :: kr)).map fun n : Nat => (n : Int) := by
                  refine perm_sorted (p1.trans ((sortN_perm _).map _).symm) p2 ?_
                  exact List.pairwise_map.2 ((sortN_sorted _).imp fun h => by omega)
                have hle := Phi.ext_le (gr, 0, cap) (hw.fresh _ (Nat.le_refl _))
                have hlen : (sortN (k0 :: kr)).length = (k0 :: kr).length := (sortN_perm _).length_eq
                obtain ⟨q1, q2⟩ := new_grow (o := .cells ((sortN (k0 :: kr)).map fun (n : Nat) => .int .u32 n) 68) hw hbel p3 p4 (by
                  refine .cells _ _ _ _ _ _ _ p6 (by rw [List.length_map, hlen]; simp at p5 ⊢; omega) ?_ p7
                  rw [List.drop_zero, List.length_map, hlen]
                  have : c.toList.take (k0 :: kr).length = u32v m2 := by simpa using p8
                  rw [this, hm2]
                  generalize sortN (k0 :: kr) = q
                  clear hm2 hlen this
                  induction q with
                  | nil => exact .nil
                  | cons y q ih => exact .cons _ _ _ _ (.int _ _) ih)
                refine ⟨_, rfl, _, ?_, q1, q2⟩
                rw [lenL0]
                have := VRel.slice (φ := φ.ext st.next (gr, 0, cap)) st.next 0 (k0 :: kr).length (k0 :: kr).length 1 gr 0 cap cap false ⟨gr, 0, none⟩ (Phi.ext_at _ _ _) (Nat.le_refl _) (by simpa using p5) (fun e => (by cases e)) (fun _ => by omega) (.inr rfl)
                simpa using this
          · cases h
        · cases h
      · cases h
    · cases h
  · cases h
#print axioms sortedH_ok
end
end Go.Proofs.YtmhbmjagnihopaaGreatDoor.Ss
