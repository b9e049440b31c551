/- slices.Sorted(maps.Keys(m)): the keys of a map, in order. By an AI agent. -/
import Derived.Test.YtmhbmjagnihopaaGreatDoorSs
import Derived.Test.YtmhbmjagnihopaaGreatDoorKz
namespace Go.Proofs.YtmhbmjagnihopaaGreatDoor.Ss
open Go Go.RowKit Go.Proofs.YtmhbmjagnihopaaGreatDoor.Abs Go.Proofs.YtmhbmjagnihopaaGreatDoor.Ky Go.Proofs.YtmhbmjagnihopaaGreatDoor.So
set_option linter.unusedVariables false
set_option linter.unusedSimpArgs false
abbrev SORTED : FuncId := 130
--forms
def sorn  : Prop :=
    True ∧ True ∧ True ∧ True
theorem sorn_eq  : nestW Tryz.prog (hp []) hkNone (annU []) SORT [.slice none 0 0 true 1] [] (endK (.tuple []) []) = sorn  := by kernel_rfl
set_option maxRecDepth 100000 in
theorem sort_nil (w : World) : Calls Tryz.prog SORT #[.slice none 0 0] w fun e w' => e = .returned (.tuple #[]) ∧ Below w.heap.size w w' := by
  have h : sorn := by unfold sorn; exact ⟨trivial, trivial, trivial, trivial⟩
  rw [← sorn_eq] at h
  refine (nest_run (φ := fun _ => none) (us := [.slice none 0 0]) (w0 := w) follows named hkNone_ok (rolow_of rfl) h ⟨fun x hx => rfl, fun _ _ _ _ h => (by cases h)⟩ (fun x o hx => by cases hx) (.cons _ _ _ _ (.slice0 _ _) .nil)).mono ?_
  rintro e w' ⟨u, v, st', rfl, hK, ψ, e1, e2, _⟩
  refine ⟨?_, e2.below⟩
  have hv := hK.1
  cases v with
  | tuple l =>
    cases l with
    | nil => cases e1 with | tuple _ c hc => rw [show c = #[] from by apply Array.toList_inj.1; cases h0 : c.toList with | nil => rfl | cons a l => rw [h0] at hc; cases hc]
    | cons a l => exact hv.elim
  | _ => exact hv.elim
set_option maxRecDepth 100000 in
/-- slices.Sort of a row of the call's own -/
theorem sort_row {w0 w : World} (hbel : Below w0.heap.size w0 w) {g cap : Nat} {cur : Array Value} {l : List Int} (hg0 : w0.heap.size ≤ g) (hg : w.heap[g]? = some (.cells cur 68 (0, 0))) (hcap : l.length ≤ cap) (hsz : cur.size = cap) (hl : cur.toList.take l.length = u32v l)
    (hr : ∀ x ∈ l, inR .u32 x) (h0 : 0 < l.length) (h16 : l.length ≤ 12) (hd : l.Nodup) :
    Calls Tryz.prog SORT #[.slice (some ⟨g, 0, none⟩) l.length cap] w fun e w' => e = .returned (.tuple #[]) ∧ Below w0.heap.size w0 w' ∧ ∃ (m : List Int) (c : Array Value) (t : TypeId) (fz : Nat × Nat), Sw 0 l.length l m ∧ Srt m 0 l.length ∧ w'.heap[g]? = some (.cells c t fz) ∧ c.size = cap ∧ (fz.1 = fz.2 ∨ cap ≤ fz.1) ∧ c.toList.take l.length = u32v m := by
  have hp1 := sorf_ok (c := cap) (t := 68) h0 h16 hd
  rw [← sorf_eq] at hp1
  let φs : Phi := fun k => match k with
    | .blk x => if x = 1000 then some (g, 0, cap) else none
    | .pool _ _ _ => none
  have hφ : φs 1000 = some (g, 0, cap) := if_pos rfl
  have hget1 : ∀ y o1, (rowSt .u32 l 68).heap.get y = some o1 → y = 1000 ∧ o1 = .sints .u32 l 68 := fun y o1 hy => by
    have hh : (rowSt .u32 l 68).heap.get y = if y = 1000 then some (.sints .u32 l 68) else (PT.leaf : PT AObj).get y := by
      show (PT.set (.leaf : PT AObj) 1000 (some (.sints .u32 l 68))).get y = _
      exact PT.get_set _ _ _ _
    rw [hh] at hy
    by_cases hy1 : y = 1000
    · rw [if_pos hy1] at hy; exact ⟨hy1, (Option.some.inj hy).symm⟩
    · rw [if_neg hy1] at hy; cases hy
  have hw1 : WRel w0 φs (rowSt .u32 l 68).heap 1001 w := by
    refine ⟨⟨hbel, fun x hx => if_neg (show ¬ x = 1000 by omega), fun x o1 hx => ?_, fun x y o1 o2 g1 b1 b2 n1 n2 hx hy _ _ => (hget1 x o1 hx).1.trans (hget1 y o2 hy).1.symm, fun x o1 hx => by have := (hget1 x o1 hx).1; omega⟩, fun _ _ _ _ h => (by cases h), fun _ _ _ _ _ _ _ _ h => (by cases h)⟩
    obtain ⟨rfl, rfl⟩ := hget1 x o1 hx
    refine .inr ⟨g, 0, cap, _, hφ, hg0, hg, ?_⟩
    refine .sints _ _ _ _ _ _ hr (.cells _ _ _ _ _ _ _ hsz (by simpa using hcap) ?_ (.inl rfl))
    rw [List.drop_zero, List.length_map, hl]
    exact ints_rel _ _
  have hus : VRels φs [.sslice (1000, 0) l.length cap false 1] [.slice (some ⟨g, 0, none⟩) l.length cap] := .cons _ _ _ _ (.sslice 1000 0 l.length cap 1 g 0 cap cap false ⟨g, 0, none⟩ hφ hcap (Nat.le_refl _) (fun e => (by cases e)) (fun _ => by omega) (.inr rfl)) .nil
  have hr0 : RelsOk Tryz.prog w0 .leaf (annR [] [(PDQ, relM smlM)]) := fun g S x y h => by
    simp only [annR, relsU] at h
    cases hb : Nat.beq PDQ g with
    | false => rw [hb] at h; cases h
    | true => rw [hb] at h; cases h; obtain rfl := Nat.eq_of_beq_eq_true hb; exact sml_rel x y
  refine (nest_from (RO := .leaf) follows named (hkAdd_ok lenH_ok soHooks_ok) rolow_leaf hp1 hus hw1 rrel_leaf hr0).mono ?_
  rintro e w' ⟨u, v, st', rfl, hK, ψ, e1, e2, e3⟩
  unfold rowK at hK
  split at hK
  · rename_i k2 l2 t2 hg2
    obtain ⟨⟨hk2, rfl⟩, rfl, hlen, hsw, hso⟩ := hK
    obtain rfl := kindEq_eq _ _ hk2
    refine ⟨by cases e1 with | tuple _ c hc => rw [show c = #[] from by apply Array.toList_inj.1; cases h0 : c.toList with | nil => rfl | cons a l => rw [h0] at hc; cases hc], e2.below, ?_⟩
    have hψ : ψ (.blk 1000) = some (g, 0, cap) := e3.le _ _ hφ
    rcases e2.obj 1000 _ hg2 with ⟨h1, _⟩ | ⟨g1, b1, n1, u1, f1, f2, f3, f4⟩
    · rw [hψ] at h1; cases h1
    · rw [hψ] at f1
      cases f1
      cases f4 with
      | sints _ _ _ _ _ _ hi h2 => cases h2 with
        | cells _ _ t' _ _ cc fz hn hb hc hf =>
          rw [List.drop_zero, List.length_map] at hc
          exact ⟨l2, cc, t', fz, hsw, hso, f3, hn, hf, by rw [← hlen]; exact ints_vals hc⟩
  · exact hK.elim
theorem srt_sorted {m : List Int} (h : Srt m 0 m.length) : m.Pairwise (· ≤ ·) := by
  rw [List.pairwise_iff_getElem]
  intro i j hi hj hij
  have := h.le i j (Nat.zero_le _) (by omega) hj
  rwa [List.getD_eq_getElem?_getD, List.getD_eq_getElem?_getD, List.getElem?_eq_getElem hi, List.getElem?_eq_getElem hj] at this
set_option maxHeartbeats 1000000 in
/-- slices.Sorted(maps.Keys(m)), m of at most 12 -/
theorem sorted_keys (w : World) (Bm Bo b : Nat) (es : Array MapEntry) (clock : Nat) (ks : List Int) (hm : w.cell? ⟨Bm, Bo, none⟩ = some (.map (some b))) (hBm : Bm < w.heap.size) (hb : w.heap[b]? = some (.map es clock)) (hok : MapOk es clock ks) (hr : ∀ x ∈ ks, inR .u32 x) (h16 : ks.length ≤ 12) (hd : ks.Nodup) :
    Calls Tryz.prog SORTED #[.func (.func KEYS1) #[] #[.pointer (some ⟨Bm, Bo, none⟩)]] w fun e w' => Below w.heap.size w w' ∧ ((ks = [] ∧ e = .returned (.slice none 0 0)) ∨ ∃ (g cap : Nat) (m : List Int) (c : Array Value) (t : TypeId) (fz : Nat × Nat), 0 < ks.length ∧ e = .returned (.slice (some ⟨g, 0, none⟩) ks.length cap) ∧ m.Perm ks ∧ m.Pairwise (· ≤ ·) ∧ w.heap.size ≤ g ∧ w'.heap[g]? = some (.cells c t fz) ∧ ks.length ≤ cap ∧ c.size = cap ∧ (fz.1 = fz.2 ∨ cap ≤ fz.1) ∧ c.toList.take ks.length = u32v m) := by
  have hblt : b < w.heap.size := (Array.getElem?_eq_some_iff.1 hb).1
  refine (callsIn_wide (n := 9)).1 ?_
  refine callsIn_of_wp Tryz.func130 rfl trivial ?_ rfl
  simp only [Tryz.ntmps130, List.size_toArray, List.length_cons, List.length_nil, Nat.reduceAdd, Nat.reduceSub, Array.replicate_succ, Array.replicate_zero, List.push_toArray, List.append_toArray, List.nil_append, List.cons_append]
  have hseq := keys_gives Fence.wide (8 - 1 - 1) trivial rfl (by omega) Bm Bo b es clock ks w hBm hblt hm hb hok
  have hfC : Fence.wide.fn 143 := trivial
  have hfS : Fence.wide.fn 144 := trivial
  gi_wp2_with (gi_at_call 143; refine (collect_in Fence.wide 8 trivial trivial rfl (by omega) KEYS1 #[.pointer (some ⟨Bm, Bo, none⟩)] trivial (fun args w => enters_of Tryz.func145 (by kernel_rfl) rfl args w) _ ks.length (by omega) _ hseq).mono ?_; rintro e W ⟨v, ss, rfl, hS, hrow, hnil, hbw⟩)
  have hp := (hS : ss.Perm ks)
  have hl : ss.length = ks.length := hp.length_eq
  rcases hrow.2 with ⟨rfl, hz⟩ | ⟨gb, cap, cur, rfl, hbase, hgb, r1, r2, r3, r4⟩
  · have hss : ss = [] := List.eq_nil_of_length_eq_zero hz
    have hks : ks = [] := List.eq_nil_of_length_eq_zero (by rw [← hl, hss]; rfl)
    clear hnil hseq
    gi_wp2_with (gi_at_call 144; refine ((callsIn_wide (n := 8)).2 (sort_nil W)).mono ?_; rintro e w' ⟨rfl, hb2⟩)
    go_ret
    exact ⟨hbw.trans (hb2.mono hbw.size), .inl ⟨hks, rfl⟩⟩
  · have h0 : 0 < ss.length := by
      rcases Nat.eq_zero_or_pos ss.length with h | h
      · have := hnil.2 (List.eq_nil_of_length_eq_zero h); cases this
      · exact h
    have hS2 := sort_row (w0 := w) hbw hbase hgb r1 (by simpa using r3) (by simpa using r4) (fun x hx => hr x (hp.mem_iff.1 hx)) h0 (by omega) (hp.nodup_iff.2 hd)
    clear hnil hseq
    gi_wp2_with (gi_at_call 144; refine ((callsIn_wide (n := 8)).2 hS2).mono ?_; rintro e w' ⟨rfl, hb2, m, c, t, fz, q1, q2, q3, q4, q5, q6⟩)
    go_ret
    have hlm := q1.len
    refine ⟨hb2, .inr ⟨gb, cap, m, c, t, fz, by omega, rfl, q1.perm.trans hp, srt_sorted (by rw [hlm]; exact q2), hbase, q3, by omega, q4, q5, by first | exact q6 | (rw [← hl]; exact q6)⟩⟩
#print axioms sorted_keys
end Go.Proofs.YtmhbmjagnihopaaGreatDoor.Ss
