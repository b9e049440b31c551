/- Rows that come in, as tables. By an AI agent. -/
import Derived.Test.YtcofcojjofkgcaaOpen
import Derived.Test.YtcofcojjofkgcaaHk4
namespace Go.Proofs.Ytcofcojjofkgcaa.Ot
open Go Go.ChangeShapes Go.WideShapes Go.ChangeAt Go.RowKit Go.Deep
open Go.ChangeMaps (open_string shut_string)
open Go.Proofs.Ytcofcojjofkgcaa.M Go.Proofs.Ytcofcojjofkgcaa.Abs Go.Proofs.Ytcofcojjofkgcaa.Open
set_option linter.unusedVariables false
set_option maxRecDepth 20000

open Classical in
/-- rows of bytes that stand in a world -/
noncomputable def poolW (W : World) (g b : Nat) (L : List UInt8) : Option (Nat × Nat × Nat) := match W.heap[g]? with
  | some (.cells c t fz) => if b + L.length ≤ c.size ∧ (c.toList.drop b).take L.length = vals L then some (g, b, c.size) else none
  | _ => none
noncomputable def phiW (W : World) (l : List (Nat × (Nat × Nat × Nat))) : Phi := fun k => match k with
  | .blk x => (l.find? fun e => Nat.beq e.1 x).map (·.2)
  | .pool g b L => poolW W g b L
theorem poolW_ok (W : World) (l : List (Nat × (Nat × Nat × Nat))) : Pool (phiW W l) W := fun k b L t ht => by
  have ht : poolW W k b L = some t := ht
  unfold poolW at ht
  split at ht
  · rename_i c ty fz hg
    split at ht
    · rename_i hc
      cases ht
      exact ⟨c.size, _, rfl, hg, sbytes_cells rfl hc.1 hc.2 (.inl rfl)⟩
    · cases ht
  · cases ht
theorem phiW_fresh {W : World} {l : List (Nat × (Nat × Nat × Nat))} {next : Nat} (h : (l.all fun e => Nat.blt e.1 next) = true) : Fresh0 (phiW W l) next W := ⟨fun x hx => by
  show (l.find? fun e => Nat.beq e.1 x).map (·.2) = none
  rw [Option.map_eq_none_iff, List.find?_eq_none]
  intro e he hb
  have := List.all_eq_true.1 h e he
  have h1 : e.1 < next := by simpa [Nat.blt_eq] using this
  have h2 := Nat.eq_of_beq_eq_true hb
  omega, poolW_ok W l⟩
/-- bytes that can be read -/
theorem pbytes_in {W : World} {v : Value} {L : List UInt8} (h : Byts W (fun k => k < W.heap.size) v L) (l : List (Nat × (Nat × Nat × Nat))) : VRel (phiW W l) (.pbytes L) v := by
  obtain ⟨t3, cap, _, h1, h2⟩ := lay_bytes h
  cases L with
  | nil =>
    obtain ⟨A, n, c, rfl, hl, _⟩ := h
    obtain rfl : n = 0 := by simpa using hl.symm
    exact .pemp _ _
  | cons b0 L0 =>
    rcases h2 (fun _ => none) 0 with h3 | ⟨u, e1, e2, e3⟩
    · cases h3
    · have h4 := h1 (fun _ => some t3) 0 rfl
      obtain ⟨g, b, n⟩ := t3
      generalize hL : (b0 :: L0) = L at *
      have hpos : 0 < L.length := by rw [← hL]; simp
      have hp : phiW W l (.pool g b L) = some (g, b, n) := by
        show poolW W g b L = _
        unfold poolW
        rw [e2]
        generalize hth : thaw u = uu at e3
        cases e3 with
        | sbytes _ _ _ _ _ e3 => cases e3 with
          | cells _ _ t' _ _ c fz i0 i1 i2 i3 =>
            cases u with
            | cells c2 t2 fz2 =>
              cases hth
              rw [List.length_map] at i1 i2
              simp only
              have i1' : b + L.length ≤ n := i1
              have i0' : c.size = n := i0
              rw [if_pos ⟨by omega, rel_vals i2⟩, i0']
            | _ => cases hth
      generalize hm : L.length = m at h4
      cases h4 with
      | sslice _ _ _ _ _ g' b' nb cap' _ a hφ hl hc he hz ha =>
        cases hφ
        rcases ha with ⟨h0, _⟩ | rfl
        · omega
        · subst hm
          have := VRel.pbytes (φ := phiW W l) L L 0 g b n cap' hp (by simp) (by simp) (by omega)
          simpa using this
      | snil => omega
      | semp => omega
/-- kinds of columns -/
inductive CK where
  | z (k : IntKind)
  | b
  | s
  | p
def TCol.kind : TCol → CK
  | .zs k _ => .z k
  | .bs _ => .b
  | .ss _ => .s
  | .ps _ => .p
def TCol.good : TCol → Prop
  | .zs k l => ∀ z ∈ l, inR k z
  | .bs _ => True
  | .ss l => ∀ s ∈ l, s.length ≤ maxLen
  | .ps l => ∀ s ∈ l, s.length ≤ maxLen
/-- a column of a row that stands in a world -/
structure ColIn (W : World) (a : Addr) (wd j n : Nat) (c : TCol) : Prop where
  len : c.lenIs n
  good : TCol.good c
  at_ : ∀ i, i < n → ∃ v, W.cell? (a.add (i * wd + j)) = some v ∧ ∀ l, VRel (phiW W l) (c.val i) v
theorem list_of {α : Type} : ∀ (n : Nat) (Q : Nat → α → Prop), (∀ i, i < n → ∃ a, Q i a) → ∃ l : List α, l.length = n ∧ ∀ i a, l[i]? = some a → Q i a
  | 0, _, _ => ⟨[], rfl, fun i a h => by simp at h⟩
  | n + 1, Q, h => by
    obtain ⟨l, hl, hq⟩ := list_of n Q fun i hi => h i (by omega)
    obtain ⟨a, ha⟩ := h n (by omega)
    refine ⟨l ++ [a], by simp [hl], fun i b hb => ?_⟩
    by_cases hi : i < n
    · rw [List.getElem?_append_left (by omega)] at hb
      exact hq i b hb
    · rw [List.getElem?_append_right (by omega)] at hb
      have : i = n := by
        have := (List.getElem?_eq_some_iff.1 hb).1
        simp at this; omega
      subst this
      simp [hl] at hb
      subst hb
      exact ha
section
variable {H : Type} {enc : TypeId × Value → H} {W : World} {sp : Nat → Bool} {hd : Bool} {b0 : Nat} {a : Addr} {wd j n : Nat} {ty : TypeId}
theorem zs_in {k : IntKind} (ht : Try.prog.underlying ty = some (.int k)) (h : ∀ i, i < n → ∃ m v y, W.cell? (a.add (i * wd + j)) = some v ∧ DataW.trod enc Try.prog W b0 sp hd m ty [v] = some y) : ∃ l : List Int, ColIn W a wd j n (.zs k l) := by
  obtain ⟨l, hl, hq⟩ := list_of n (fun i z => W.cell? (a.add (i * wd + j)) = some (.int k z) ∧ inR k z) fun i hi => by
    obtain ⟨m, v, y, h1, h2⟩ := h i hi
    obtain ⟨z, hz, _, hw⟩ := DataW.trod_int ht h2
    simp at hz
    subst hz
    refine ⟨z, h1, ?_⟩
    cases k <;> simp [Lit.wf, IntKind.min, IntKind.max, IntKind.signed, IntKind.bits] at hw <;> simp only [inR, loI, hiI] <;> omega
  refine ⟨l, hl, fun z hz => ?_, fun i hi => ?_⟩
  · obtain ⟨i, hi⟩ := List.getElem?_of_mem hz
    exact (hq i z hi).2
  · have hg := List.getElem?_eq_getElem (show i < l.length by omega)
    refine ⟨_, (hq i _ hg).1, fun _ => ?_⟩
    show VRel _ (.sint k (l.getD i 0)) _
    rw [List.getD_eq_getElem?_getD, hg]
    exact .sint _ _ (hq i _ hg).2
theorem ss_in (ht : Try.prog.underlying ty = some .string) (h : ∀ i, i < n → ∃ m v y, W.cell? (a.add (i * wd + j)) = some v ∧ DataW.trod enc Try.prog W b0 sp hd m ty [v] = some y) : ∃ l : List (List UInt8), ColIn W a wd j n (.ss l) := by
  obtain ⟨l, hl, hq⟩ := list_of n (fun i (s : List UInt8) => W.cell? (a.add (i * wd + j)) = some (.string ⟨s.toArray⟩) ∧ s.length ≤ maxLen) fun i hi => by
    obtain ⟨m, v, y, h1, h2⟩ := h i hi
    obtain ⟨s, hs, hr⟩ := DataW.trod_string ht h2
    simp at hs
    subst hs
    refine ⟨s.data.toList, by simpa using h1, ?_⟩
    have := hr.2
    rw [Array.length_toList]; exact this
  refine ⟨l, hl, fun z hz => ?_, fun i hi => ?_⟩
  · obtain ⟨i, hi⟩ := List.getElem?_of_mem hz
    exact (hq i z hi).2
  · have hg := List.getElem?_eq_getElem (show i < l.length by omega)
    refine ⟨_, (hq i _ hg).1, fun _ => ?_⟩
    show VRel _ (.sstr (l.getD i [])) _
    rw [List.getD_eq_getElem?_getD, hg]
    exact sstr_rel _
theorem ps_in {e : TypeId} (ht : Try.prog.underlying ty = some (.slice e)) (he : Try.prog.underlying e = some (.int .u8)) (hc : Try.prog.cellsOf e = 1) (h : ∀ i, i < n → ∃ m v y, W.cell? (a.add (i * wd + j)) = some v ∧ DataW.trod enc Try.prog W b0 sp hd m ty [v] = some y) : ∃ l : List (List UInt8), ColIn W a wd j n (.ps l) := by
  obtain ⟨l, hl, hq⟩ := list_of n (fun i (s : List UInt8) => s.length ≤ maxLen ∧ ∃ v, W.cell? (a.add (i * wd + j)) = some v ∧ ∀ l, VRel (phiW W l) (.pbytes s) v) fun i hi => by
    obtain ⟨m, v, y, h1, h2⟩ := h i hi
    have hv : ∃ a0 len cap, v = .slice a0 len cap := by
      rcases open_slice ht h2 with h3 | ⟨a1, len, cap, _, _, _, _, h3, _⟩
      · have := h3.1; simp at this; exact ⟨_, _, _, this⟩
      · simp at h3; exact ⟨_, _, _, h3⟩
    obtain ⟨a0, len, cap, rfl⟩ := hv
    obtain ⟨s, hs⟩ := bytes_cells ht he hc h2
    exact ⟨s, by obtain ⟨A, n1, c, e1, e2, e3, e4, _⟩ := hs; omega, _, h1, fun l => pbytes_in hs l⟩
  refine ⟨l, hl, fun z hz => ?_, fun i hi => ?_⟩
  · obtain ⟨i, hi⟩ := List.getElem?_of_mem hz
    exact (hq i z hi).1
  · have hg := List.getElem?_eq_getElem (show i < l.length by omega)
    obtain ⟨_, v, h1, h2⟩ := hq i _ hg
    refine ⟨v, h1, fun l' => ?_⟩
    show VRel _ (.pbytes (l.getD i [])) _
    rw [List.getD_eq_getElem?_getD, hg]
    exact h2 l'
end
/-- a slice of rows that stands in a world, as a table -/
def TabIn (W : World) (v : Value) (n : Nat) (cs : List TCol) : Prop := lensT n cs ∧ (∀ c ∈ cs, TCol.good c) ∧ n ≤ maxLen ∧ ∃ (t3 : Nat × Nat × Nat) (cap : Nat), n ≤ cap ∧
  (∀ l x, phiW W l (.blk x) = some t3 → VRel (phiW W l) (.tslice x 0 n cap true cs.length) v) ∧ ∀ l t, (AObj.tab n cs t).nul = true ∨ ∃ u, t3.1 < W.heap.size ∧ W.heap[t3.1]? = some u ∧ ORel (phiW W l) (.tab n cs t) t3.2.1 t3.2.2 (thaw u)
theorem tabIn_none {W : World} {A : Option Addr} {c : Nat} {cs : List TCol} (h : lensT 0 cs) (hg : ∀ c ∈ cs, TCol.good c) : TabIn W (.slice A 0 c) 0 cs :=
  ⟨h, hg, Nat.zero_le _, (0, 0, 0), 0, Nat.le_refl _, fun l x _ => .tslice _ _ _ _ _ _ _ (.semp _ _ _ _), fun l t => .inl rfl⟩
theorem tab_in {W : World} {a : Addr} {n cap : Nat} {cs : List TCol} (hw : 0 < cs.length) (hl : n ≤ cap) (hm : cap ≤ maxLen) (h : ∀ j c, cs[j]? = some c → ColIn W a cs.length j n c) : TabIn W (.slice (some a) n cap) n cs := by
  have hlens : ∀ {ds : List TCol}, (∀ c ∈ ds, c.lenIs n) → lensT n ds := fun {ds} => by
    induction ds with
    | nil => intro _; trivial
    | cons c ds ih => intro h; exact ⟨h c List.mem_cons_self, ih fun c' hc => h c' (List.mem_cons_of_mem _ hc)⟩
  have hmem : ∀ c ∈ cs, ∃ j, ColIn W a cs.length j n c := fun c hc => by
    obtain ⟨j, hj⟩ := List.getElem?_of_mem hc
    exact ⟨j, h j c hj⟩
  have h1 : lensT n cs := hlens fun c hc => by obtain ⟨j, hj⟩ := hmem c hc; exact hj.len
  have h2 : ∀ c ∈ cs, TCol.good c := fun c hc => by obtain ⟨j, hj⟩ := hmem c hc; exact hj.good
  cases n with
  | zero => exact tabIn_none h1 h2
  | succ n' =>
    generalize hn : n' + 1 = n at *
    have hn0 : 0 < n := by omega
    obtain ⟨g, off, spot⟩ := a
    have hcell : ∀ i j, i < n → j < cs.length → ∃ v, W.cell? ((⟨g, off, spot⟩ : Addr).add (i * cs.length + j)) = some v := fun i j hi hj => by
      obtain ⟨v, hv, _⟩ := (h j _ (List.getElem?_eq_getElem hj)).at_ i hi
      exact ⟨v, hv⟩
    obtain ⟨v0, hv0⟩ := hcell 0 0 hn0 hw
    have hspot : spot = none := by simpa [Addr.add] using World.cell?_spot hv0
    subst hspot
    have hg : ∃ cc t fz, W.heap[g]? = some (.cells cc t fz) := by
      rw [add_lit] at hv0
      unfold World.cell? at hv0
      simp only at hv0
      split at hv0
      · exact ⟨_, _, _, ‹_›⟩
      all_goals first | (cases hv0; done) | (simp at hv0; done)
    obtain ⟨cc, t', fz, hg⟩ := hg
    have hat : ∀ k v, W.cell? ((⟨g, off, none⟩ : Addr).add k) = some v → cc[off + k]? = some v := fun k v hv => by
      rw [add_lit] at hv
      unfold World.cell? at hv
      simp only [hg] at hv
      simpa using hv
    have hsz : off + n * cs.length ≤ cc.size := by
      obtain ⟨v, hv⟩ := hcell (n - 1) (cs.length - 1) (by omega) (by omega)
      have := (Array.getElem?_eq_some_iff.1 (hat _ _ hv)).1
      have e : n * cs.length = (n - 1) * cs.length + cs.length := by
        rw [← Nat.succ_mul]; congr 1; omega
      omega
    refine ⟨h1, h2, by omega, (g, off, cc.size), cap, hl, fun l x hx => .tslice _ _ _ _ _ _ _ ?_, fun l t => .inr ⟨_, (Array.getElem?_eq_some_iff.1 hg).1, hg, ?_⟩⟩
    · rw [Nat.zero_mul]
      exact VRel.sslice x 0 _ _ _ g off cc.size cap true ⟨g, off, none⟩ hx hl (Nat.le_refl _) (fun _ => rfl) (by simp) (.inr rfl)
    · refine ORel.tab _ _ _ t' _ _ cc (0, 0) rfl hsz (fun i hi => VRels.of_get ?_ fun j v hj => ?_) (.inl rfl)
      · have e : i * cs.length + cs.length ≤ n * cs.length := by
          have := Nat.mul_le_mul_right cs.length (Nat.succ_le_of_lt hi)
          rwa [Nat.succ_mul] at this
        have hcc : cc.toList.length = cc.size := Array.length_toList
        show ((cc.toList.drop (off + i * cs.length)).take cs.length).length = _
        rw [rowT_length, List.length_take, List.length_drop]
        omega
      · have hjl : j < cs.length := by
          have := (List.getElem?_eq_some_iff.1 hj).1
          rwa [rowT_length] at this
        have hc := List.getElem?_eq_getElem hjl
        obtain ⟨u, q1, q2⟩ := (h j _ hc).at_ i hi
        refine ⟨u, ?_, ?_⟩
        · rw [List.getElem?_take_of_lt hjl, List.getElem?_drop, Array.getElem?_toList, Nat.add_assoc]
          exact hat _ _ q1
        · have hrow : ∀ (ds : List TCol) (k : Nat) (c : TCol), ds[k]? = some c → (rowT i ds)[k]? = some (c.val i) := fun ds => by
            induction ds with
            | nil => intro k c hk; simp at hk
            | cons d ds ih =>
              intro k c hk
              cases k with
              | zero => simp at hk; subst hk; rfl
              | succ k => simpa [rowT] using ih k c (by simpa using hk)
          rw [hrow cs j _ hc] at hj
          cases hj
          exact q2 l
end Go.Proofs.Ytcofcojjofkgcaa.Ot
