/- Closed functions run by an interpreter: parts of rows, conversions; all that reads at most one block. By an AI agent. -/
import Derived.Test.YtlnfolgmjfcinaaAbsL3
namespace Go.Proofs.Ytlnfolgmjfcinaa.Abs
open Go Go.RowKit
set_option linter.unusedVariables false
section
variable {φ : Phi} {P : Program} {ev : Operand → Option AVal} {ρ : Operand → Value}
/-- an operand that may be none -/
inductive ORl (φ : Phi) (ρ : Operand → Value) : Option Operand → Option AVal → Prop
  | none : ORl φ ρ none none
  | some (x : Operand) (v : AVal) (h : VRel φ v (ρ x)) : ORl φ ρ (some x) (some v)
theorem evo_some (he : EvOk φ ev ρ) {x : Option Operand} {y : Option AVal} (h : evo ev x = some y) : ORl φ ρ x y := by
  cases x with
  | none => simp [evo] at h; subst h; exact .none
  | some x =>
    simp only [evo] at h
    cases hv : ev x with
    | none => rw [hv] at h; cases h
    | some v => rw [hv] at h; cases h; exact .some _ _ (he _ _ hv)
theorem bound_some {v : AVal} {d y n : Nat} (h : bound (some v) d y = some n) {u : Value} (hv : VRel φ v u) : n ≤ y ∧ ∀ code w, (Instr.sliceBound u y code).run P w = .ok n w := by
  unfold bound at h
  split at h
  · rename_i hx; cases hx
  · rename_i k i hx
    cases hx
    cases hv
    cases hb : Nat.ble i y with
    | false => rw [hb] at h; cases h
    | true =>
      rw [hb] at h; cases h
      have hle := Nat.le_of_ble_eq_true hb
      refine ⟨hle, fun code w => ?_⟩
      have := run_sliceBound (P := P) (w := w) k (n : Int) y code (by omega) (by omega)
      simpa using this
  · cases h
theorem bound_mono {v : AVal} {d y y' n : Nat} (h : bound (some v) d y = some n) (hy : y ≤ y') (d' : Nat) : bound (some v) d' y' = some n := by
  unfold bound at h ⊢
  split at h
  · rename_i hx; cases hx
  · rename_i k i hx
    cases hx
    cases hb : Nat.ble i y with
    | false => rw [hb] at h; cases h
    | true =>
      rw [hb] at h; cases h
      have hle := Nat.le_of_ble_eq_true hb
      simp [Nat.ble_eq_true_of_le (Nat.le_trans hle hy)]
  · cases h
theorem bounds_some (s : Bool) {len lo cap m h l : Nat} {xlo xhi xmx : Option Operand} {vlo vhi vmx : Option AVal} (r1 : ORl φ ρ xlo vlo) (r2 : ORl φ ρ xhi vhi) (r3 : ORl φ ρ xmx vmx)
    (e1 : bound vmx lo lo = some m) (e2 : bound vhi len m = some h) (e3 : bound vlo 0 h = some l) (e4 : (bif isNone vhi then isNone vmx else true) = true) (hl : len ≤ lo) (hc : lo ≤ cap) :
    l ≤ h ∧ h ≤ m ∧ m ≤ lo ∧ ∃ mc, m ≤ mc ∧ mc ≤ cap ∧ (isNone vmx = true → mc = cap ∧ m = lo) ∧ (isNone vmx = false → mc = m) ∧ ∀ w, (Instr.sliceBounds s len cap (xlo.map ρ) (xhi.map ρ) (xmx.map ρ)).run P w = .ok (l, h, mc) w := by
  have hml : m ≤ lo := by
    cases r3 with
    | none => simp [bound] at e1; omega
    | some x v hv => exact (bound_some (P := P) e1 hv).1
  have hhm : h ≤ m := by
    cases r2 with
    | none =>
      cases r3 with
      | none => simp [bound] at e1 e2; omega
      | some x v hv => simp [isNone] at e4
    | some x v hv => exact (bound_some (P := P) e2 hv).1
  have hlh : l ≤ h := by
    cases r1 with
    | none => simp [bound] at e3; omega
    | some x v hv => exact (bound_some (P := P) e3 hv).1
  refine ⟨hlh, hhm, hml, ?_⟩
  cases r3 with
  | none =>
    simp [bound] at e1
    subst e1
    refine ⟨cap, hc, Nat.le_refl _, by simp, by simp [isNone], fun w => ?_⟩
    cases r2 with
    | none =>
      simp [bound] at e2
      subst e2
      cases r1 with
      | none => simp [bound] at e3; subst e3; simp [Instr.sliceBounds]
      | some x v hv => simp [Instr.sliceBounds, (bound_some (P := P) e3 hv).2]
    | some x2 v2 hv2 =>
      have e2' := bound_mono e2 hc 0
      cases r1 with
      | none => simp [bound] at e3; subst e3; simp [Instr.sliceBounds, (bound_some (P := P) e2' hv2).2]
      | some x v hv => simp [Instr.sliceBounds, (bound_some (P := P) e2' hv2).2, (bound_some (P := P) e3 hv).2]
  | some x3 v3 hv3 =>
    refine ⟨m, Nat.le_refl _, by omega, by simp [isNone], fun _ => rfl, fun w => ?_⟩
    have e1' := bound_mono e1 hc 0
    cases r2 with
    | none => simp [isNone] at e4
    | some x2 v2 hv2 =>
      cases r1 with
      | none => simp [bound] at e3; subst e3; simp [Instr.sliceBounds, (bound_some (P := P) e1' hv3).2, (bound_some (P := P) e2 hv2).2]
      | some x v hv => simp [Instr.sliceBounds, (bound_some (P := P) e1' hv3).2, (bound_some (P := P) e2 hv2).2, (bound_some (P := P) e3 hv).2]
theorem sliceP_parts {n len cap : Nat} {ex : Bool} {a : Option (Nat × Nat)} {lo hi mx : Option AVal} {v : AVal} (h : sliceP n len cap ex a lo hi mx = some v) :
    ∃ m h l, bound mx cap cap = some m ∧ (bif isNone hi then isNone mx else true) = true ∧ bound hi len m = some h ∧ bound lo 0 h = some l ∧
      v = .slice (moveA a (l * n)) (h - l) (m - l) (bif isNone mx then ex else true) n := by
  unfold sliceP at h
  split at h
  · rename_i m e1 e4
    split at h
    · rename_i h' e2
      split at h
      · rename_i l e3
        exact ⟨m, h', l, e1, e4, e2, e3, (Option.some.inj h).symm⟩
      · cases h
    · cases h
  · cases h
/-- a part's value -/
theorem slice_rel {x o g b0 nb n lo cap m mc h l : Nat} {ex nx : Bool} {a : Addr} (hφ : φ x = some (g, b0, nb)) (hex : ex = true → cap = lo) (hz : ex = false → b0 + o + cap * n ≤ nb) (ha : (cap = 0 ∧ a.block = g) ∨ a = ⟨g, b0 + o, none⟩)
    (h1 : l ≤ h) (h2 : h ≤ m) (h3 : m ≤ mc) (h4 : mc ≤ cap) (h5 : nx = true → mc = cap ∧ m = lo) (h6 : nx = false → mc = m) :
    VRel φ (.slice (some (x, o + l * n)) (h - l) (m - l) (bif nx then ex else true) n) (.slice (some (if mc = l then a else a.add (l * n))) (h - l) (mc - l)) := by
  refine .slice _ _ _ _ _ g b0 nb _ _ _ hφ (by omega) (by omega) (fun he => ?_) (fun he => ?_) ?_
  · cases nx with
    | true => obtain ⟨e1, e2⟩ := h5 rfl; have := hex he; omega
    | false => have := h6 rfl; omega
  · cases nx with
    | true =>
      obtain ⟨rfl, e2⟩ := h5 rfl
      have := hz he
      have e : l * n + (mc - l) * n = mc * n := by rw [← Nat.add_mul]; congr 1; omega
      omega
    | false => cases he
  · by_cases hml : mc = l
    · rw [if_pos hml]
      refine .inl ⟨by omega, ?_⟩
      rcases ha with ⟨_, h⟩ | rfl
      · exact h
      · rfl
    · rcases ha with ⟨rfl, _⟩ | rfl
      · omega
      · rw [if_neg hml, add_lit, Nat.add_assoc]; exact .inr rfl
theorem slice_ok (he : EvOk φ ev ρ) (o : Oper) (t : TypeId) (x : Operand) (lo hi mx : Option Operand) (ho : o.op = .slice t x lo hi mx) (r : LRes) (h : lSlice P ev t x lo hi mx = some r) : LSpec φ (fun w => (execOp ρ o).run P w) r := by
  unfold lSlice at h
  split at h
  · rename_i v vl vh vm hx hlo hhi hmx
    have rl := evo_some he hlo
    have rh := evo_some he hhi
    have rm := evo_some he hmx
    have h1 := he _ _ hx
    generalize hρ : ρ x = q at h1
    cases hs : sliceA P t v vl vh vm with
    | none => rw [hs] at h; cases h
    | some rv =>
      rw [hs] at h; cases h
      suffices hh : ∃ u, VRel φ rv u ∧ ∀ w, (Instr.sliceAt t q (lo.map ρ) (hi.map ρ) (mx.map ρ)).run P w = .ok u w by
        obtain ⟨u, h2, h3⟩ := hh
        exact ⟨u, h2, fun w => by simp only [execOp, ho, hρ, Sem.run_bind, h3 w]; rfl⟩
      unfold sliceA at hs
      split at hs
      · rename_i hu
        split at hs
        · rename_i l
          cases h1 with
          | str s =>
          unfold sliceS at hs
          split at hs
          · cases hs
          · cases rm
            rw [lenL0, List.length_map, Array.length_toList] at hs
            split at hs
            · rename_i hh e2
              split at hs
              · rename_i ll e3
                cases hs
                obtain ⟨b1, b2, b3, mc, b4, b5, b6, b7, b8⟩ := bounds_some (P := P) (φ := φ) (ρ := ρ) false (len := s.size) (lo := s.size) (cap := s.size) (m := s.size) rl rh .none rfl e2 e3 (by cases vh <;> rfl) (Nat.le_refl _) (Nat.le_refl _)
                refine ⟨.string (s.extract ll hh), ?_, fun w => ?_⟩
                · have := VRel.str (φ := φ) (s.extract ll hh)
                  have e : (s.extract ll hh).data.toList = (s.data.toList.take hh).drop ll := by
                    rw [ByteArray.data_extract, Array.toList_extract, List.extract_eq_take_drop, List.drop_take]
                  rw [e, List.map_drop, List.map_take] at this
                  exact this
                · have hb := b8 w
                  simp [Instr.sliceAt, run_und hu, Instr.slice] at hb ⊢
                  rw [hb]
                  rfl
              · cases hs
            · cases hs
        · cases hs
      · rename_i e hu
        split at hs
        · rename_i a len cap ex z
          split at hs
          · rename_i n hn
            cases hzz : (ex || Nat.beq z n) with
            | false => rw [hzz] at hs; cases hs
            | true =>
              rw [hzz] at hs
              obtain ⟨m, hh, l, e1, e4, e2, e3, rfl⟩ := sliceP_parts hs
              cases h1 with
              | slice0 =>
                obtain ⟨b1, b2, b3, mc, b4, b5, b6, b7, b8⟩ := bounds_some (P := P) (φ := φ) (ρ := ρ) true (cap := 0) rl rh rm e1 e2 e3 e4 (Nat.le_refl _) (Nat.le_refl _)
                have hl0 : l = 0 := by omega
                have hh0 : hh = 0 := by omega
                have hm0 : m = 0 := by omega
                have hc0 : mc = 0 := by omega
                subst hl0 hh0 hm0 hc0
                refine ⟨.slice none 0 0, .slice0 _ _, fun w => ?_⟩
                have hb := b8 w
                simp [Instr.sliceAt, run_und hu, Instr.slice, run_size hn] at hb ⊢
                rw [hb]
                simp []
              | slice x' o' _ _ _ g b0 nb cap' _ a' hφ hl hc hex hz ha =>
                obtain ⟨b1, b2, b3, mc, b4, b5, b6, b7, b8⟩ := bounds_some (P := P) (φ := φ) (ρ := ρ) true (cap := cap') rl rh rm e1 e2 e3 e4 hl hc
                have hz' : ex = false → b0 + o' + cap' * n ≤ nb := fun he' => by
                  rw [he'] at hzz
                  have : z = n := Nat.eq_of_beq_eq_true (by simpa using hzz)
                  subst this
                  exact hz he'
                refine ⟨_, slice_rel (nx := isNone vm) hφ hex hz' ha b1 b2 b4 b5 b6 b7, fun w => ?_⟩
                have hb := b8 w
                simp [Instr.sliceAt, run_und hu, Instr.slice, run_size hn] at hb ⊢
                rw [hb]
                simp []
                split <;> rfl
          · cases hs
        · cases hs
      · rename_i k e hu
        split at hs
        · rename_i a
          split at hs
          · rename_i n hn
            obtain ⟨m, hh, l, e1, e4, e2, e3, rfl⟩ := sliceP_parts hs
            cases h1 with
            | ptr x' o' g b0 nb hφ =>
              obtain ⟨b1, b2, b3, mc, b4, b5, b6, b7, b8⟩ := bounds_some (P := P) (φ := φ) (ρ := ρ) false (cap := k) rl rh rm e1 e2 e3 e4 (Nat.le_refl _) (Nat.le_refl _)
              have hr := slice_rel (φ := φ) (nx := isNone vm) (ex := true) (n := n) (o := o') (a := ⟨g, b0 + o', none⟩) hφ (fun _ => rfl) (by simp) (.inr rfl) b1 b2 b4 b5 b6 b7
              refine ⟨_, hr, fun w => ?_⟩
              have hb := b8 w
              simp [Instr.sliceAt, run_und hu, Instr.sureAddr] at hb ⊢
              rw [hb]
              simp [run_size hn]
          · cases hs
        · cases hs
      · cases hs
  · cases h
theorem u8_some {e : TypeId} (h : isU8 P e = true) : P.underlying e = some (.int .u8) := by
  unfold isU8 at h; split at h
  · assumption
  · cases h
theorem bytesOf_some : ∀ {l : List AVal} {ns : List Nat} {us : List Value}, bytesOf l = some ns → VRels φ l us → us = ns.map (fun (n : Nat) => Value.int .u8 n) ∧ ∀ n ∈ ns, n < 256
  | [], ns, us, h, hu => by simp [bytesOf] at h; subst h; cases hu; simp
  | v :: l, ns, us, h, hu => by
    unfold bytesOf at h
    split at h
    · rename_i n r hv hr
      have hv := asI_some hv
      subst hv
      cases hb : Nat.blt n 256 with
      | false => rw [hb] at h; cases h
      | true =>
        rw [hb] at h; cases h
        have hlt : n < 256 := by simpa [Nat.blt_eq] using hb
        cases hu with
        | cons _ u _ us' h1 h2 =>
        cases h1
        obtain ⟨e1, e2⟩ := bytesOf_some hr h2
        refine ⟨by rw [e1]; rfl, fun m hm => ?_⟩
        rcases List.mem_cons.1 hm with rfl | hm
        · exact hlt
        · exact e2 _ hm
    · cases h
theorem text_of (ns : List Nat) (h : ∀ n ∈ ns, n < 256) : ∃ s : ByteArray, s.data.toList.map UInt8.toNat = ns ∧ (ns.map (fun (n : Nat) => (n : Int))).foldl (fun r n => r.push (UInt8.ofNat n.toNat)) ByteArray.empty = s := by
  refine ⟨_, ?_, rfl⟩
  have e : ns.map (fun (n : Nat) => (n : Int)) = (ns.map UInt8.ofNat).map (fun b => (b.toNat : Int)) := by
    rw [List.map_map]
    refine List.map_congr_left fun n hn => ?_
    simp [Function.comp, UInt8.toNat_ofNat', Nat.mod_eq_of_lt (h n hn)]
  rw [e, foldl_push_byteCells]
  simp only [ByteArray.data_empty, List.append_toArray, List.map_append]
  have : (ns.map UInt8.ofNat).map UInt8.toNat = ns := by
    rw [List.map_map]
    conv => rhs; rw [← List.map_id ns]
    refine List.map_congr_left fun n hn => ?_
    simp [Function.comp, UInt8.toNat_ofNat', Nat.mod_eq_of_lt (h n hn)]
  simpa using this
theorem orel_turn {ψ : Phi} {ob : AObj} {b n : Nat} {x x' : Obj} (h : ORel ψ ob b n x) : ∀ (cc : Array Value) (t' : TypeId) (fz fz' : Nat × Nat), x = .cells cc t' fz → x' = .cells cc t' fz' → (fz'.1 = fz'.2 ∨ cc.size ≤ fz'.1) → ORel ψ ob b n x' := by
  induction h with
  | cells l1 _ _ _ _ _ _ i0 i1 i2 i3 =>
    intro cc t' fz fz' h1 h2 h3
    cases h1; subst h2
    exact .cells _ _ _ _ _ _ _ i0 i1 i2 (by omega)
  | sbytes l t b n u h ih => intro cc t' fz fz' h1 h2 h3; exact .sbytes _ _ _ _ _ (ih cc t' fz fz' h1 h2 h3)
  | sints k l t b n u hr h ih => intro cc t' fz fz' h1 h2 h3; exact .sints _ _ _ _ _ _ hr (ih cc t' fz fz' h1 h2 h3)
  | map => intro cc t' fz fz' h1; cases h1
  | loop => intro cc t' fz fz' h1; cases h1
  | defd => intro cc t' fz fz' h1; cases h1
theorem sliced_bytes {l : List UInt8} {o n : Nat} (h : o + n ≤ l.length) : slicedL (l.map fun c => AVal.int .u8 (c.toNat : Int)) o n = some (((l.drop o).take n).map fun c => AVal.int .u8 (c.toNat : Int)) := by
  unfold slicedL
  rw [lenL0, List.length_map]
  have : Nat.ble (o + n) l.length = true := Nat.ble_eq_true_of_le h
  rw [this, ← List.map_drop, ← List.map_take]
  rfl
theorem bytesOf_map (l : List UInt8) : bytesOf (l.map fun c => AVal.int .u8 (c.toNat : Int)) = some (l.map UInt8.toNat) := by
  induction l with
  | nil => rfl
  | cons c l ih =>
    have hc : Nat.blt c.toNat 256 = true := by rw [Nat.blt_eq]; exact c.toNat_lt
    show (match asI (AVal.int .u8 (c.toNat : Int)), bytesOf (l.map fun c => AVal.int .u8 (c.toNat : Int)) with | some (.u8, .ofNat n), some r => bif Nat.blt n 256 then some (n :: r) else none | _, _ => none) = _
    rw [ih]
    show (bif Nat.blt c.toNat 256 then some (c.toNat :: l.map UInt8.toNat) else none) = _
    rw [hc]; rfl
theorem text_of_bytes (l : List UInt8) : ∃ s : ByteArray, s.data.toList = l ∧ (l.map (fun (n : UInt8) => (n.toNat : Int))).foldl (fun r n => r.push (UInt8.ofNat n.toNat)) ByteArray.empty = s := by
  obtain ⟨s, h1, h2⟩ := text_of (l.map UInt8.toNat) (fun n hn => by simp at hn; obtain ⟨c, _, rfl⟩ := hn; exact c.toNat_lt)
  refine ⟨s, ?_, by rw [List.map_map] at h2; exact h2⟩
  have h3 := congrArg (List.map UInt8.ofNat) h1
  rw [List.map_map, List.map_map] at h3
  have e : UInt8.ofNat ∘ UInt8.toNat = id := by funext c; simp
  rw [e] at h3
  simpa using h3
theorem cvText_ok {o : Oper} {s d e : TypeId} {q : Value} {a : Nat × Nat} {n : Nat} {r : LRes} (hs : P.underlying s = some (.slice e)) (hd : P.underlying d = some .string) (hu8 : P.underlying e = some (.int .u8))
    (hrun : ∀ w u w', (convert s d q).run P w = .ok u w' → (execOp ρ o).run P w = .ok (.value u) w') (h : cvText P e (some a) n = some r)
    (hq : (∃ g b0 nb cap a2, φ a.1 = some (g, b0, nb) ∧ q = .slice (some a2) n cap ∧ n ≤ cap ∧ ((cap = 0 ∧ a2.block = g) ∨ a2 = ⟨g, b0 + a.2, none⟩)) ∨ (∃ A c, q = .slice A 0 c ∧ n = 0)) : LSpec φ (fun w => (execOp ρ o).run P w) r := by
  obtain ⟨x2, o2⟩ := a
  unfold cvText at h
  cases hb : isU8 P e with
  | false => rw [hb] at h; cases h
  | true =>
  rw [hb] at h
  simp only [cond_true] at h
  cases h
  have empty : ∀ cap a2, q = .slice (some a2) 0 cap → ∀ w, (execOp ρ o).run P w = .ok (.value (.string ByteArray.empty)) w := fun cap a2 hq2 w => hrun w _ _ (by subst hq2; rw [run_convert_bytes_string w s d e _ _ _ hs hu8 hd, run_bytesToString w a2 0 cap [] rfl]; rfl)
  have none_ : ∀ A c, q = .slice A 0 c → ∀ w, (execOp ρ o).run P w = .ok (.value (.string ByteArray.empty)) w := fun A c hq2 w => by
    cases A with
    | none => exact hrun w _ _ (by subst hq2; rw [run_convert_bytes_string w s d e _ _ _ hs hu8 hd]; rfl)
    | some a2 => exact empty c a2 hq2 w
  have none0 : n = 0 → ∀ w, (execOp ρ o).run P w = .ok (.value (.string ByteArray.empty)) w := fun hn w => by
    rcases hq with ⟨g, b0, nb, cap, a2, hφ, hq, hle, ha⟩ | ⟨A, c, hq, _⟩
    · subst hn; exact empty cap a2 hq w
    · exact none_ A c hq w
  refine ⟨fun ob v hk g b0 nb x' hφ hx' => ?_, fun ob v hk hnul => ?_⟩
  · simp only at hk
    have main : ∀ (l : List AVal) (t : TypeId) (ns : List Nat), ORel φ (.cells l t) b0 nb (thaw x') → o2 + n ≤ l.length → bytesOf ((l.drop o2).take n) = some ns → ∃ st : ByteArray, st.data.toList.map UInt8.toNat = ns ∧ ∀ w, w.heap[g]? = some x' → (execOp ρ o).run P w = .ok (.value (.string st)) w := fun l t ns hx' hle hns => by
      obtain ⟨us, e1, e2, e3⟩ := orel_row hx' hle
      obtain ⟨rfl, hns2⟩ := bytesOf_some hns e2
      obtain ⟨st, f1, f2⟩ := text_of ns hns2
      have hns3 : ns.length = n := by simpa using e1
      refine ⟨st, f1, fun w hg => ?_⟩
      rcases hq with ⟨g', b0', nb', cap, a2, hφ', hq, hle, ha⟩ | ⟨A, c, hq, hn⟩
      · obtain ⟨rfl, rfl, rfl⟩ : g = g' ∧ b0 = b0' ∧ nb = nb' := by rw [hφ] at hφ'; simpa using hφ'
        refine hrun w _ _ ?_
        subst hq
        rw [run_convert_bytes_string w s d e _ _ _ hs hu8 hd]
        have hload : (loadCells a2 n).run P w = .ok ((ns.map (fun (n : Nat) => (n : Int))).map (Value.int .u8)).toArray w := by
          rcases ha with ⟨hc0, _⟩ | rfl
          · have : n = 0 := by omega
            subst this
            have : ns = [] := List.eq_nil_of_length_eq_zero hns3
            subst this
            rfl
          · have := run_loadCells_list (P := P) w ⟨g, b0 + o2, none⟩ _ (e3 w g hg)
            rw [e1] at this
            rw [this, List.map_map]
            rfl
        rw [run_bytesToString w a2 n cap _ hload, f2]
      · have : ns = [] := List.eq_nil_of_length_eq_zero (by omega)
        subst this
        have : st = ByteArray.empty := by rw [← f2]; rfl
        rw [this]
        exact none_ A c hq w
    split at hk
    · rename_i l t
      rw [got_free] at hk
      split at hk
      · rename_i r hr
        split at hk
        · rename_i ns hns
          cases hk
          obtain ⟨rfl, hle⟩ := slicedL_some hr
          obtain ⟨st, h1, h2⟩ := main l t ns hx' hle hns
          exact ⟨.string st, h1 ▸ .str st, h2⟩
        · cases hk
      · cases hk
    · rename_i l t
      obtain ⟨op, h1, h2⟩ := got_some hk
      cases h1
      have h2 : o2 + n ≤ l.length := h2
      cases hx' with
      | sbytes _ _ _ _ _ hx' =>
      obtain ⟨st, h3, h4⟩ := main _ _ (((l.drop o2).take n).map UInt8.toNat) hx' (by simpa using h2) (by rw [← List.map_drop, ← List.map_take, bytesOf_map])
      have h5 : st.data.toList = (l.drop o2).take n := by
        have h6 := congrArg (List.map UInt8.ofNat) h3
        rw [List.map_map, List.map_map] at h6
        have e : UInt8.ofNat ∘ UInt8.toNat = id := by funext c; simp
        rw [e] at h6
        simpa using h6
      exact ⟨.string st, h5 ▸ .sstr st, h4⟩
    · cases hk
  · simp only at hk
    split at hk
    · cases hnul
    · rename_i l t
      obtain ⟨op, h1, h2⟩ := got_some hk
      cases h1
      have h2 : o2 + n ≤ l.length := h2
      cases l with
      | cons _ _ => cases hnul
      | nil =>
      have hn : n = 0 := by simp at h2; omega
      refine ⟨.string ByteArray.empty, ?_, none0 hn⟩
      have : (List.take n (List.drop o2 ([] : List UInt8))) = ByteArray.empty.data.toList := by simp
      rw [this]
      exact .sstr _
    · cases hk
theorem conv_ok (he : EvOk φ ev ρ) (o : Oper) (s d : TypeId) (x : Operand) (ho : o.op = .convert s d x) (r : LRes) (h : lConvert P ev s d x = some r) : LSpec φ (fun w => (execOp ρ o).run P w) r := by
  have hrun : ∀ w u w', (convert s d (ρ x)).run P w = .ok u w' → (execOp ρ o).run P w = .ok (.value u) w' := fun w u w' hu => by simp [execOp, ho, hu]
  unfold lConvert at h
  split at h
  · rename_i d' k k' n hs hd hx
    cases h
    have h1 := he _ _ hx
    generalize ρ x = q at h1 hrun
    cases h1
    exact ⟨_, .int _ _, fun w => hrun w _ _ (by rw [wrapA_eq]; simp [convert, run_und hs, run_und hd, Conv.intToInt])⟩
  · rename_i l hs hd hx
    cases h
    have h1 := he _ _ hx
    generalize ρ x = q at h1 hrun
    cases h1
    exact ⟨_, .str _, fun w => hrun w _ _ (by simp [convert, run_und hs, run_und hd])⟩
  · rename_i e e' a n c ex z hs hd hx
    cases hb : (Nat.beq s d && isU8 P e) with
    | false => rw [hb] at h; cases h
    | true =>
      rw [hb] at h; cases h
      rw [Bool.and_eq_true] at hb
      have hsd := Nat.eq_of_beq_eq_true hb.1
      have hu8 := u8_some hb.2
      have h1 := he _ _ hx
      generalize ρ x = q at h1 hrun
      intro l t g b0 nb x' hφ hx'
      refine ⟨q, h1, fun w hg => ?_⟩
      cases h1 with
      | slice x2 o2 _ _ _ g2 b2 nb2 cap _ a2 hφ2 hl hc hex hz ha =>
      obtain ⟨rfl, rfl, rfl⟩ : g = g2 ∧ b0 = b2 ∧ nb = nb2 := by rw [hφ] at hφ2; simpa using hφ2
      have hab : a2.block = g := by rcases ha with ⟨_, h⟩ | rfl <;> first | assumption | rfl
      cases hx' with
      | cells _ _ t' _ _ cc fz hn hb1 hb2 hf =>
      subst hn
      obtain ⟨fz', hfz', hfz2⟩ : ∃ fz' : Nat × Nat, (fz'.1 = fz'.2 ∨ cc.size ≤ fz'.1) ∧ fz' = (if fz.1 == fz.2 then (cc.size, cc.size + 1) else (min fz.1 cc.size, max fz.2 (cc.size + 1))) := by
        refine ⟨_, ?_, rfl⟩
        split
        · exact .inr (Nat.le_refl _)
        · rename_i hne
          rcases hf with hf | hf
          · rw [hf] at hne; simp at hne
          · exact .inr (by simp; omega)
      have hgs : g < w.heap.size := (Array.getElem?_eq_some_iff.1 hg).1
      have hfreeze : w.freeze ⟨g, cc.size, none⟩ 1 = { w with heap := w.heap.modify g fun | .cells c elem (lo, hi) => .cells c elem (if lo == hi then (cc.size, cc.size + 1) else (min lo cc.size, max hi (cc.size + 1))) | o => o } := rfl
      refine ⟨.cells cc t' fz', w.freeze ⟨g, cc.size, none⟩ 1, fun ψ ob hob => orel_turn hob _ _ _ _ rfl rfl hfz', hrun w _ _ ?_, ?_, ?_, fun k hk => ?_, rfl, rfl, rfl⟩
      · have hd' : P.underlying d = some (.slice e) := by rw [← hsd]; exact hs
        have hsh : w.shape? g = some (t', cc.size) := by unfold World.shape?; rw [hg]
        simp [convert, run_und hd', run_und hu8, hsd, markStringish, hab, hsh]
      · rw [hfreeze]; simp
      · rw [hfreeze]
        simp only [Array.getElem?_modify, if_true, hg, Option.map_some]
        obtain ⟨lo, hi⟩ := fz
        rw [hfz2]
      · rw [hfreeze]
        simp only [Array.getElem?_modify]
        rw [if_neg (Ne.symm hk)]
  · rename_i e l hs hd hx
    unfold cvBytes at h
    cases hb : isU8 P e with
    | false => rw [hb] at h; cases h
    | true =>
      rw [hb] at h; cases h
      have hu8 := u8_some hb
      have h1 := he _ _ hx
      generalize ρ x = q at h1 hrun
      cases h1 with
      | str t =>
      intro w
      have hr := run_bytes_of_string (P := P) w s d e t hs hd hu8
      have hge := grownCap_ge w t.size 0 e
      have hsz : (bytesRow t (grownCap w t.size 0 e)).size = grownCap w t.size 0 e := by
        have : t.data.size = t.size := rfl
        simp [bytesRow, this]; omega
      refine ⟨_, _, _, _, hrun w _ _ hr, rfl, rfl, rfl, rfl, ORel.cells _ _ _ 0 _ _ _ rfl ?_ ?_ (.inr (by simp)), fun ψ r hle hr => ?_⟩
      · rw [hsz]; simp; exact hge
      · rw [List.drop_zero]
        refine VRels.of_get ?_ fun i v hi => ?_
        · simp [bytesRow]
        · simp only [List.map_map, List.getElem?_map] at hi
          cases hq : t.data.toList[i]? with
          | none => rw [hq] at hi; cases hi
          | some b =>
            rw [hq] at hi
            cases hi
            have hlt := (List.getElem?_eq_some_iff.1 hq).1
            have hlt2 : i < t.data.size := by simpa using hlt
            refine ⟨.int .u8 b.toNat, ?_, .int _ _⟩
            rw [List.getElem?_take_of_lt (by simpa using hlt), Array.getElem?_toList]
            unfold bytesRow
            rw [Array.getElem?_append_left (by simpa using hlt2)]
            rw [Array.getElem?_toList] at hq
            simp [hq]
      · rw [hsz] at hr
        rw [lenL0, List.length_map, Array.length_toList]
        exact .slice r 0 _ _ _ w.heap.size 0 _ _ _ _ hr (Nat.le_refl _) hge (by simp) (fun _ => by omega) (.inr rfl)
  · rename_i e a n c ex z hs hd hx
    unfold cvText at h
    cases hb : isU8 P e with
    | false => rw [hb] at h; cases h
    | true =>
      rw [hb] at h
      have hu8 := u8_some hb
      have h1 := he _ _ hx
      generalize ρ x = q at h1 hrun
      cases h1 with
      | slice0 =>
        cases h
        exact ⟨.string ByteArray.empty, VRel.str (φ := φ) ByteArray.empty, fun w => hrun w _ _ (by rw [run_convert_bytes_string w s d e none 0 0 hs hu8 hd]; rfl)⟩
      | slice x2 o2 _ _ _ g2 b2 nb2 cap _ a2 hφ2 hl hc hex hz ha =>
        cases h
        refine cvText_ok (a := (x2, o2)) hs hd hu8 hrun ?_ (.inl ⟨g2, b2, nb2, cap, a2, hφ2, rfl, by omega, ha⟩)
        unfold cvText; rw [hb]; rfl
  · cases h
/-- ALL OF THEM. -/
theorem light0_ok (he : EvOk φ ev ρ) (o : Oper) (r : LRes) (h : light0 P ev o.op = some r) : LSpec φ (fun w => (execOp ρ o).run P w) r := by
  unfold light0 at h
  split at h
  · exact move_ok he o _ (.inl ‹_›) r h
  · exact move_ok he o _ (.inr ‹_›) r h
  · exact pick_ok he o _ _ _ ‹_› r h
  · exact alloc_ok he o _ ‹_› r h
  · exact box_ok he o _ _ ‹_› r h
  · exact build_ok he o _ _ ‹_› r h
  · exact bslice_ok he o _ _ _ ‹_› r h
  · exact load_ok he o _ _ ‹_› r h
  · exact nil_ok he o _ ‹_› r h
  · exact bin_ok he o _ _ _ _ _ ‹_› r h
  · exact un_ok he o _ _ _ ‹_› r h
  · exact conv_ok he o _ _ _ ‹_› r h
  · exact arrp_ok he o _ _ ‹_› r h
  · exact mfunc_ok he o _ _ _ ‹_› r h
  · exact mmap_ok he o _ _ ‹_› r h
  · exact mslice_ok he o _ _ _ ‹_› r h
  · exact slice_ok he o _ _ _ _ _ ‹_› r h
  · exact faddr_ok he o _ _ _ ‹_› r h
  · exact field_ok he o _ _ _ ‹_› r h
  · exact iaddr_ok he o _ _ _ ‹_› r h
  · exact index_ok he o _ _ _ ‹_› r h
  · exact extract_ok he o _ _ ‹_› r h
  · exact call_ok he o _ ‹_› r h
  · cases h
end
end Go.Proofs.Ytlnfolgmjfcinaa.Abs
