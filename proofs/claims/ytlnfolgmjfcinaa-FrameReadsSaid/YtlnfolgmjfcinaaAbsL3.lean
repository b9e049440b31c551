/- Closed functions run by an interpreter: the rest of the operations that read at most one block. By an AI agent. -/
import Derived.Test.YtlnfolgmjfcinaaAbsL2
namespace Go.Proofs.Ytlnfolgmjfcinaa.Abs
open Go Go.RowKit
set_option linter.unusedVariables false
section
variable {φ : Phi} {P : Program} {ev : Operand → Option AVal} {ρ : Operand → Value}
theorem bslice_ok (he : EvOk φ ev ρ) (o : Oper) (t : TypeId) (len : Nat) (parts : Array (Nat × Operand)) (ho : o.op = .buildSlice t len parts) (r : LRes) (h : lBuildSlice P ev t len parts = some r) : LSpec φ (fun w => (execOp ρ o).run P w) r := by
  unfold lBuildSlice at h
  split at h
  · rename_i e hu
    split at h
    · split at h
      · rename_i n hp hn
        cases h
        intro w
        refine ⟨.cells #[] e (0, 0), 0, .slice (some ⟨w.heap.size, 0, none⟩) 0 0, w.alloc (.cells #[] e), ?_, rfl, rfl, rfl, rfl, cells_new e (c := #[]) .nil, fun ψ r hle hr => ?_⟩
        · have hpe : parts = #[] := by simpa using hp
          subst hpe
          simp [execOp, ho, Instr.buildSlice, run_und hu, run_size hn, Instr.fill, newRow, Array.range_zero']
        · exact .slice r 0 0 0 n w.heap.size 0 0 0 true _ hr (Nat.le_refl _) (Nat.le_refl _) (fun _ => rfl) (by simp) (.inr rfl)
      · cases h
    · rename_i x m
      split at h
      · rename_i n z vs hn hz hvs
        rw [lenL0] at h
        cases hb : (Nat.ble ((m + 1) * n) 65536 && Nat.beq z.cells.length n && Nat.blt 0 n) with
        | false => rw [hb] at h; cases h
        | true =>
          rw [hb] at h
          simp only [cond_true] at h
          simp only [Bool.and_eq_true, Nat.blt_eq] at hb
          obtain ⟨⟨b1, b2⟩, b3⟩ := hb
          have b1 := Nat.le_of_ble_eq_true b1
          have b2 := Nat.eq_of_beq_eq_true b2
          split at h
          · rename_i l hl
            cases h
            obtain ⟨ie, zv, hie, hiz, hzr, _⟩ := zero_some (φ := φ) hz
            obtain ⟨ie', hie', hsz⟩ := size_info hn
            obtain rfl : ie = ie' := by rw [hie] at hie'; simpa using hie'
            obtain ⟨e1, e2⟩ := evps_some he _ _ hvs
            have hzc := cells_rel hzr
            have hrel := made_rel hzc (by omega) (m + 1) ((m + 1) * ie.size) (by rw [b2, hsz])
            have hpos : 0 < (m + 1) * ie.size := Nat.mul_pos (by omega) (by omega)
            obtain ⟨ps, hps⟩ : ∃ ps : Array (Nat × Value), ps = parts.map fun (i, x) => (i, ρ x) := ⟨_, rfl⟩
            obtain ⟨c', h1, h2⟩ := fill_some (fun i => some (i * n, n)) vs _ _ ps.toList _ hl hrel (by rw [hps]; simpa using e1) (by rw [hps]; simpa using e2)
            intro w
            subst hsz
            have hr := run_buildSlice (P := P) w t e (m + 1) ps c' ie zv hu hie hiz (by omega) (by omega) h1
            refine ⟨.cells c' e, c'.size, .slice (some ⟨w.heap.size, 0, none⟩) (m + 1) (m + 1), w.alloc (.cells c' e), ?_, rfl, rfl, rfl, rfl, cells_new e h2, fun ψ r hle hr => ?_⟩
            · simp only [execOp, ho, ← hps, Sem.run_bind, hr]; rfl
            · exact .slice r 0 (m + 1) (m + 1) ie.size w.heap.size 0 c'.size (m + 1) true _ hr (Nat.le_refl _) (Nat.le_refl _) (fun _ => rfl) (by simp) (.inr rfl)
          · cases h
      · cases h
  · cases h
theorem arrp_ok (he : EvOk φ ev ρ) (o : Oper) (t : TypeId) (x : Operand) (ho : o.op = .sliceToArrayPointer t x) (r : LRes) (h : lSliceToArrayPointer P ev t x = some r) : LSpec φ (fun w => (execOp ρ o).run P w) r := by
  unfold lSliceToArrayPointer at h
  split at h
  · rename_i n e a len c ex z hu hx
    cases hb : (Nat.ble n len && Nat.blt 0 n) with
    | false => rw [hb] at h; cases h
    | true =>
      rw [hb] at h
      cases h
      simp only [Bool.and_eq_true, Nat.blt_eq] at hb
      have b1 := Nat.le_of_ble_eq_true hb.1
      have h1 := he _ _ hx
      generalize hρ : ρ x = q at h1
      cases h1 with
      | slice0 => omega
      | slice x o' _ _ _ g b m cap _ a hφ hl hc hex hz ha =>
        rcases ha with ⟨rfl, _⟩ | rfl
        · omega
        · exact ⟨_, .ptr _ _ _ _ _ hφ, fun w => by simp [execOp, ho, hρ, Instr.arrayAt, run_und hu, Nat.not_lt.2 b1]⟩
  · cases h
theorem mfunc_ok (he : EvOk φ ev ρ) (o : Oper) (f : FuncId) (first captured : Array Operand) (ho : o.op = .makeFunc (.func f) first captured) (r : LRes) (h : lMakeFunc ev f first captured = some r) : LSpec φ (fun w => (execOp ρ o).run P w) r := by
  unfold lMakeFunc at h
  split at h
  · rename_i a b ha hb
    cases h
    have h1 := evs_some he _ _ ha
    have h2 := evs_some he _ _ hb
    exact ⟨.func (.func f) (first.map ρ) (captured.map ρ), .func _ _ _ _ _ (by simpa using h1) (by simpa using h2), fun w => by simp [execOp, ho, Instr.makeFunc]⟩
  · cases h
theorem evo_none {x : Option Operand} (h : evo ev x = some none) : x = none := by
  cases x with
  | none => rfl
  | some x => simp [evo] at h
theorem mmap_ok (he : EvOk φ ev ρ) (o : Oper) (t : TypeId) (x : Option Operand) (ho : o.op = .makeMap t x) (r : LRes) (h : lMakeMap ev t x = some r) : LSpec φ (fun w => (execOp ρ o).run P w) r := by
  unfold lMakeMap at h
  split at h
  · rename_i hx
    cases h
    obtain rfl := evo_none hx
    intro w
    refine ⟨.map #[] 0, 0, .map (some w.heap.size), w.alloc (.map #[] 0), ?_, rfl, rfl, rfl, rfl, .map _ _ _ _ _ rfl (by simp), fun ψ r hle hr => .map _ _ _ _ hr⟩
    simp [execOp, ho, Instr.makeMap]
  · cases h
theorem iaddr_ok (he : EvOk φ ev ρ) (o : Oper) (t : TypeId) (x i : Operand) (ho : o.op = .indexAddr t x i) (r : LRes) (h : lIndexAddr P ev t x i = some r) : LSpec φ (fun w => (execOp ρ o).run P w) r := by
  unfold lIndexAddr at h
  split at h
  · rename_i len e b off k n hu hx hi
    split at h
    · rename_i s hs
      cases hb : Nat.blt n len with
      | false => rw [hb] at h; cases h
      | true =>
        rw [hb] at h; cases h
        have hlt : n < len := by simpa [Nat.blt_eq] using hb
        have h1 := he _ _ hx
        have h2 := he _ _ hi
        generalize hρ : ρ x = q at h1
        generalize hρ2 : ρ i = q2 at h2
        cases h2
        cases h1 with
        | ptr _ _ g b0 m hφ =>
        refine ⟨_, .ptr _ _ _ _ _ hφ, fun w => ?_⟩
        simp [execOp, ho, hρ, hρ2, Instr.indexAt, asIntOf, run_und hu, Instr.sureAddr, run_size hs, add_lit, hlt, Nat.add_assoc]
    · cases h
  · rename_i e b off len c ex z k n hu hx hi
    split at h
    · rename_i s hs
      cases hb : Nat.blt n len with
      | false => rw [hb] at h; cases h
      | true =>
        rw [hb] at h; cases h
        have hlt : n < len := by simpa [Nat.blt_eq] using hb
        have h1 := he _ _ hx
        have h2 := he _ _ hi
        generalize hρ : ρ x = q at h1
        generalize hρ2 : ρ i = q2 at h2
        cases h2
        cases h1 with
        | slice _ _ _ _ _ g b0 m cap _ a hφ hl hc hex hz ha =>
        rcases ha with ⟨rfl, _⟩ | rfl
        · omega
        · refine ⟨_, .ptr _ _ _ _ _ hφ, fun w => ?_⟩
          simp [execOp, ho, hρ, hρ2, Instr.indexAt, asIntOf, run_und hu, Instr.sureAddr, run_size hs, add_lit, hlt, Nat.add_assoc]
    · cases h
  · cases h
theorem index_ok (he : EvOk φ ev ρ) (o : Oper) (t : TypeId) (x i : Operand) (ho : o.op = .index t x i) (r : LRes) (h : lIndex P ev t x i = some r) : LSpec φ (fun w => (execOp ρ o).run P w) r := by
  unfold lIndex at h
  split at h
  · rename_i len e l k n hu hx hi
    split at h
    · rename_i s hs
      cases hb : Nat.blt n len with
      | false => rw [hb] at h; cases h
      | true =>
        rw [hb] at h
        have hlt : n < len := by simpa [Nat.blt_eq] using hb
        cases hv : partA P e l (n * s) with
        | none => rw [hv] at h; cases h
        | some v =>
        rw [hv] at h; cases h
        have h1 := he _ _ hx
        have h2 := he _ _ hi
        generalize hρ : ρ x = q at h1
        generalize hρ2 : ρ i = q2 at h2
        cases h2
        cases h1 with
        | agg _ c hc =>
        obtain ⟨u, h3, h4⟩ := part_some hv hc
        exact ⟨u, h3, fun w => by simp [execOp, ho, hρ, hρ2, Instr.index, asIntOf, run_und hu, run_size hs, hlt, h4 w]⟩
    · cases h
  · rename_i l k n hu hx hi
    split at h
    · rename_i c hc
      cases h
      have h1 := he _ _ hx
      have h2 := he _ _ hi
      generalize hρ : ρ x = q at h1
      generalize hρ2 : ρ i = q2 at h2
      cases h2
      cases h1 with
      | str s =>
      rw [List.getElem?_map] at hc
      cases hs : s.data.toList[n]? with
      | none => rw [hs] at hc; cases hc
      | some b =>
        rw [hs] at hc
        obtain rfl : b.toNat = c := by simpa using hc
        have hsb : s[n]? = some b := by
          rw [Array.getElem?_toList] at hs
          obtain ⟨hlt, hb⟩ := Array.getElem?_eq_some_iff.1 hs
          rw [getElem?_pos s n (show n < s.size from hlt)]
          exact congrArg some hb
        exact ⟨_, .int _ _, fun w => by simp [execOp, ho, hρ, hρ2, Instr.index, asIntOf, run_und hu, hsb]⟩
    · cases h
  · cases h
theorem call_ok (he : EvOk φ ev ρ) (o : Oper) (c : Call) (ho : o.op = .call c) (r : LRes) (h : lCall P ev c = some r) : LSpec φ (fun w => (execOp ρ o).run P w) r := by
  unfold lCall at h
  split at h
  · rename_i hcal
    split at h
    · rename_i t x ht hxa
      have hargs : (c.args.map ρ)[0]? = some (ρ x) := by simp [hxa]
      have hrun : ∀ w u, (Builtin.len_ c.argTypes o.type (c.args.map ρ)).run P w = .ok u w → (execOp ρ o).run P w = .ok (.value u) w := fun w u hu => by
        simp [execOp, ho, resolve, hcal, invoke, builtin, hu]
      split at h
      · rename_i l hu hx
        cases h
        have h1 := he _ _ hx
        generalize hρ : ρ x = q at h1
        cases h1 with
        | str s =>
        rw [lenL0]
        refine ⟨_, .int _ _, fun w => hrun w _ ?_⟩
        unfold Builtin.len_
        simp [ht, hxa, hρ, run_und hu, goInt]
      · rename_i n e v hu hx
        cases h
        refine ⟨_, .int _ _, fun w => hrun w _ ?_⟩
        unfold Builtin.len_
        simp [ht, hxa, run_und hu, goInt]
      · rename_i e a n c' ex z hu hx
        cases h
        have h1 := he _ _ hx
        generalize hρ : ρ x = q at h1
        refine ⟨_, .int _ _, fun w => hrun w _ ?_⟩
        cases h1 <;> (unfold Builtin.len_; simp [ht, hxa, hρ, run_und hu, goInt])
      · rename_i k e hu hx
        cases h
        have h1 := he _ _ hx
        generalize hρ : ρ x = q at h1
        cases h1
        refine ⟨_, .int _ _, fun w => hrun w _ ?_⟩
        unfold Builtin.len_
        simp [ht, hxa, hρ, run_und hu, goInt]
      · rename_i k e b hu hx
        cases h
        have h1 := he _ _ hx
        generalize hρ : ρ x = q at h1
        cases h1 with
        | map _ g b0 n hφ =>
        refine ⟨fun ob v hk g' b0' n' x' hφ' hx' => ?_, fun ob v hk hn => by cases ob <;> first | (cases hn; done) | (simp only at hk; cases hk)⟩
        obtain ⟨rfl, rfl, rfl⟩ : g = g' ∧ b0 = b0' ∧ n = n' := by rw [hφ] at hφ'; simpa using hφ'
        simp only at hk
        split at hk
        · obtain ⟨_, hk, _⟩ := got_some hk
          cases hk
          obtain ⟨ms0, cl0, rfl⟩ : ∃ ms cl, x' = .map ms cl := by
            cases x' with
            | map ms cl => exact ⟨ms, cl, rfl⟩
            | _ => cases hx'
          cases hx' with
          | map es _ _ ms clock hl hm =>
          refine ⟨_, .int _ _, fun w hg => hrun w _ ?_⟩
          unfold Builtin.len_
          have hgo : (getObj g).run P w = .ok (.map ms0 cl0) w := by simp [getObj, Sem.run, hg]
          simp [ht, hxa, hρ, run_und hu, goInt, hgo, lenL0, hl]
        · cases hk
      · cases h
    · cases h
  · rename_i hcal
    split at h
    · rename_i k a j b hargs
      cases h
      have h1 := evs_some he _ _ hargs
      have hL2 : (c.args.map ρ).toList = c.args.toList.map ρ := by simp
      generalize hL : c.args.toList.map ρ = L at h1
      rw [hL] at hL2
      have hv : (bif intLe a b then a else b) = if b < a then b else a := by
        rw [intLe_eq]; by_cases hab : a ≤ b
        · simp [hab, Int.not_lt.2 hab]
        · simp [hab, Int.not_le.1 hab]
      rw [hv]
      refine ⟨_, .int _ _, fun w => ?_⟩
      cases h1 with | cons _ u1 _ us hu1 hr => cases hr with | cons _ u2 _ us hu2 hr2 =>
      cases hu1; cases hu2; cases hr2
      simp [execOp, ho, resolve, hcal, invoke, builtin, Builtin.min_, hL, Builtin.min2]
    · cases h
  · rename_i hcal
    split at h
    · rename_i k a j b hargs
      cases h
      have h1 := evs_some he _ _ hargs
      generalize hL : c.args.toList.map ρ = L at h1
      have hv : (bif intLe a b then b else a) = if a < b then b else a := by
        rw [intLe_eq]; by_cases hab : a < b
        · simp [hab, Int.le_of_lt hab]
        · by_cases hab2 : a = b
          · subst hab2; simp
          · have : ¬ a ≤ b := by omega
            simp [hab, this]
      rw [hv]
      refine ⟨_, .int _ _, fun w => ?_⟩
      cases h1 with | cons _ u1 _ us hu1 hr => cases hr with | cons _ u2 _ us hu2 hr2 =>
      cases hu1; cases hu2; cases hr2
      simp [execOp, ho, resolve, hcal, invoke, builtin, Builtin.max_, hL, Builtin.max2]
    · cases h
  · cases h
end
end Go.Proofs.Ytlnfolgmjfcinaa.Abs
