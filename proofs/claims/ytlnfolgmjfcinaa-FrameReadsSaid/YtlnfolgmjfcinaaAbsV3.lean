/- Operations on what is known by terms alone: the rest. By an AI agent. -/
import Derived.Test.YtlnfolgmjfcinaaAbsV2
namespace Go.Proofs.Ytlnfolgmjfcinaa.Abs
open Go Go.RowKit
set_option linter.unusedVariables false
section
variable {φ : Phi} {P : Program} {ev : Operand → Option AVal} {ρ : Operand → Value}
theorem subK_some {j k : IntKind} (h : subK j k = true) {z : Int} (hz : inR j z) : inR k z := by
  unfold subK at h
  rw [Bool.and_eq_true, intLe_eq, intLe_eq, decide_eq_true_iff, decide_eq_true_iff] at h
  exact ⟨Int.le_trans h.1 hz.1, Int.le_trans hz.2 h.2⟩
theorem sbytes_new {l : List UInt8} (e : TypeId) {c : Array Value} (hc : c.toList = l.map fun b => Value.int .u8 (b.toNat : Int)) : ORel φ (.sbytes l e) 0 c.size (.cells c e (0, 0)) := by
  refine .sbytes _ _ _ _ _ (cells_new e ?_)
  rw [hc]
  induction l generalizing c with
  | nil => exact .nil
  | cons b l ih => exact .cons _ _ _ _ (.int _ _) (ih (c := (l.map fun b => Value.int .u8 (b.toNat : Int)).toArray) (by simp))
theorem sidx_ok (he : EvOk φ ev ρ) (o : Oper) (t : TypeId) (x i : Operand) (ho : o.op = .indexAddr t x i) (ob : OP) (r : LRes) (h : sIndexAddr P ev t x i = some (ob, r)) (hob : ob.ok) : LSpec φ (fun w => (execOp ρ o).run P w) r := by
  unfold sIndexAddr at h
  split at h
  · rename_i len e b off v hu hx hi
    split at h
    · rename_i s z n hs hn
      cases h
      obtain ⟨h0, h3⟩ : 0 ≤ z ∧ z < (len : Int) := hob
      have h1 := he _ _ hx
      obtain ⟨k, e1, e2⟩ := asN_rel hn (he _ _ hi)
      have e2 := e2 h0
      subst e2
      have hlt : n < len := by omega
      generalize hρ : ρ x = q at h1
      cases h1 with
      | ptr _ _ g b0 m hφ =>
      refine ⟨_, .ptr _ _ _ _ _ hφ, fun w => ?_⟩
      simp [execOp, ho, hρ, e1, Instr.indexAt, asIntOf, run_und hu, Instr.sureAddr, run_size hs, add_lit, hlt, Nat.add_assoc]
    · cases h
  · rename_i e b off len c ex z' v hu hx hi
    split at h
    · rename_i s z n hs hn
      cases h
      obtain ⟨h0, h3⟩ : 0 ≤ z ∧ z < (len : Int) := hob
      have h1 := he _ _ hx
      obtain ⟨k, e1, e2⟩ := asN_rel hn (he _ _ hi)
      have e2 := e2 h0
      subst e2
      have hlt : n < len := by omega
      generalize hρ : ρ x = q at h1
      cases h1 with
      | slice _ _ _ _ _ g b0 m cap _ a hφ hl hc hex hz ha =>
      rcases ha with ⟨rfl, _⟩ | rfl
      · omega
      · refine ⟨_, .ptr _ _ _ _ _ hφ, fun w => ?_⟩
        simp [execOp, ho, hρ, e1, Instr.indexAt, asIntOf, run_und hu, Instr.sureAddr, run_size hs, add_lit, hlt, Nat.add_assoc]
    · cases h
  · rename_i e b off len c ex z' v hu hx hi
    split at h
    · rename_i s z n hs hn
      cases h
      obtain ⟨h0, h3⟩ : 0 ≤ z ∧ z < (len : Int) := hob
      have h1 := he _ _ hx
      obtain ⟨k, e1, e2⟩ := asN_rel hn (he _ _ hi)
      have e2 := e2 h0
      subst e2
      have hlt : n < len := by omega
      generalize hρ : ρ x = q at h1
      cases h1 with
      | snil => omega
      | semp => omega
      | sslice _ _ _ _ _ g b0 m cap _ a hφ hl hc hex hz ha =>
      rcases ha with ⟨rfl, _⟩ | rfl
      · omega
      · refine ⟨_, .ptr _ _ _ _ _ hφ, fun w => ?_⟩
        simp [execOp, ho, hρ, e1, Instr.indexAt, asIntOf, run_und hu, Instr.sureAddr, run_size hs, add_lit, hlt, Nat.add_assoc]
    · cases h
  · cases h
theorem sindex_ok (he : EvOk φ ev ρ) (o : Oper) (t : TypeId) (x i : Operand) (ho : o.op = .index t x i) (ob : OP) (r : LRes) (h : sIndex P ev t x i = some (ob, r)) (hob : ob.ok) : LSpec φ (fun w => (execOp ρ o).run P w) r := by
  unfold sIndex at h
  split at h
  · rename_i xv v hu hx hi
    split at h
    · rename_i l z n hl hn
      cases h
      obtain ⟨h0, h3⟩ : 0 ≤ z ∧ z < (l.length : Int) := hob
      obtain ⟨s, e3, rfl⟩ := asB_rel hl (he _ _ hx)
      obtain ⟨k, e1, e2⟩ := asN_rel hn (he _ _ hi)
      have e2 := e2 h0
      subst e2
      have hlt : n < s.data.toList.length := by omega
      have hsb : s[n]? = some s.data.toList[n] := by
        have hlt' : n < s.data.size := by simpa using hlt
        rw [getElem?_pos s n (show n < s.size from hlt')]
        simp; rfl
      rw [List.getD, List.getElem?_eq_getElem hlt]
      exact ⟨_, .sint _ _ (inR_u8 _ (UInt8.toNat_lt _)), fun w => by simp [execOp, ho, e3, e1, Instr.index, asIntOf, run_und hu, hsb]⟩
    · cases h
  · cases h
theorem bnd_rel {v : Option AVal} {x : Option Operand} (r : ORl φ ρ x v) {d : Nat} {p : Prop} {n : Nat} (h : bnd v d = some (p, n)) (hp : p) : (x = none ∧ v = none ∧ n = d) ∨ ∃ y k, x = some y ∧ isNone v = false ∧ ρ y = .int k (n : Int) := by
  unfold bnd at h
  cases r with
  | none => cases h; exact .inl ⟨rfl, rfl, rfl⟩
  | some y v hv =>
    simp only at h
    split at h
    · rename_i z m hz
      cases h
      obtain ⟨k, e1, e2⟩ := asN_rel hz hv
      exact .inr ⟨y, k, rfl, rfl, by rw [e1, e2 hp]⟩
    · cases h
/-- the bounds of a slice expression, whatever they are -/
theorem sbounds {len lo cap m h l : Nat} {pm ph pl : Prop} {xlo xhi xmx : Option Operand} {vlo vhi vmx : Option AVal} (s : Bool) (r1 : ORl φ ρ xlo vlo) (r2 : ORl φ ρ xhi vhi) (r3 : ORl φ ρ xmx vmx)
    (e1 : bnd vmx lo = some (pm, m)) (e2 : bnd vhi len = some (ph, h)) (e3 : bnd vlo 0 = some (pl, l)) (q1 : pm) (q2 : ph) (q3 : pl) (e4 : (isNone vhi && !isNone vmx) = false) (h1 : l ≤ h) (h2 : h ≤ m) (h3 : m ≤ lo) (hl : len ≤ lo) (hc : lo ≤ cap) :
    ∃ mc, m ≤ mc ∧ mc ≤ cap ∧ (isNone vmx = true → mc = cap ∧ m = lo) ∧ (isNone vmx = false → mc = m) ∧ ∀ w, (Instr.sliceBounds s len cap (xlo.map ρ) (xhi.map ρ) (xmx.map ρ)).run P w = .ok (l, h, mc) w := by
  have one : ∀ (k : IntKind) (n y : Nat) code w, n ≤ y → (Instr.sliceBound (.int k (n : Int)) y code).run P w = .ok n w := fun k n y code w hle => by
    have := run_sliceBound (P := P) (w := w) k (n : Int) y code (by omega) (by omega)
    simpa using this
  rcases bnd_rel r3 e1 q1 with ⟨rfl, rfl, rfl⟩ | ⟨y3, k3, rfl, i3, f3⟩
  · refine ⟨cap, hc, Nat.le_refl _, fun _ => ⟨rfl, rfl⟩, fun h => by simp [isNone] at h, fun w => ?_⟩
    rcases bnd_rel r2 e2 q2 with ⟨rfl, rfl, rfl⟩ | ⟨y2, k2, rfl, i2, f2⟩ <;> rcases bnd_rel r1 e3 q3 with ⟨rfl, rfl, rfl⟩ | ⟨y1, k1, rfl, i1, f1⟩
    · simp [Instr.sliceBounds]
    · simp [Instr.sliceBounds, f1, one _ _ _ _ _ h1]
    · simp [Instr.sliceBounds, f2, one _ _ _ _ _ (Nat.le_trans h2 hc)]
    · simp [Instr.sliceBounds, f1, f2, one _ _ _ _ _ h1, one _ _ _ _ _ (Nat.le_trans h2 hc)]
  · refine ⟨m, Nat.le_refl _, by omega, fun h => (by rw [i3] at h; cases h), fun _ => rfl, fun w => ?_⟩
    rcases bnd_rel r2 e2 q2 with ⟨rfl, rfl, rfl⟩ | ⟨y2, k2, rfl, i2, f2⟩
    · rw [i3] at e4; simp [isNone] at e4
    · rcases bnd_rel r1 e3 q3 with ⟨rfl, rfl, rfl⟩ | ⟨y1, k1, rfl, i1, f1⟩
      · simp [Instr.sliceBounds, f2, f3, one _ _ _ _ _ h2, one _ _ _ _ _ (Nat.le_trans h3 hc)]
      · simp [Instr.sliceBounds, f1, f2, f3, one _ _ _ _ _ h1, one _ _ _ _ _ h2, one _ _ _ _ _ (Nat.le_trans h3 hc)]
theorem sslice_rel {x o g b0 nb n lo cap m mc h l : Nat} {ex nx : Bool} {a : Addr} (hφ : φ x = some (g, b0, nb)) (hex : ex = true → cap = lo) (hz : ex = false → b0 + o + cap * n ≤ nb) (ha : (cap = 0 ∧ a.block = g) ∨ a = ⟨g, b0 + o, none⟩)
    (h1 : l ≤ h) (h2 : h ≤ m) (h3 : m ≤ mc) (h4 : mc ≤ cap) (h5 : nx = true → mc = cap ∧ m = lo) (h6 : nx = false → mc = m) :
    VRel φ (.sslice (x, o + l * n) (h - l) (m - l) (bif nx then ex else true) n) (.slice (some (if mc = l then a else a.add (l * n))) (h - l) (mc - l)) := by
  have := slice_rel (n := n) (nx := nx) hφ hex hz ha h1 h2 h3 h4 h5 h6
  cases this with
  | slice _ _ _ _ _ g b n cap ex a h hl hc he hz ha => exact .sslice _ _ _ _ _ _ _ _ _ _ _ h hl hc he hz ha
theorem sSliceP_parts {n len cap : Nat} {ex : Bool} {a : Nat × Nat} {lo hi mx : Option AVal} {ob : OP} {r : LRes} (hs : sSliceP n len cap ex a lo hi mx = some (ob, r)) (hob : ob.ok) :
    ∃ pm m ph h pl l, bnd mx cap = some (pm, m) ∧ bnd hi len = some (ph, h) ∧ bnd lo 0 = some (pl, l) ∧ pm ∧ ph ∧ pl ∧ l ≤ h ∧ h ≤ m ∧ m ≤ cap ∧ (isNone hi && !isNone mx) = false ∧ r = .pure (.sslice (a.1, a.2 + l * n) (h - l) (m - l) (bif isNone mx then ex else true) n) := by
  unfold sSliceP at hs
  split at hs
  · rename_i pm m ph h pl l e1 e2 e3
    cases hb : (isNone hi && !isNone mx) with
    | true => rw [hb] at hs; cases hs
    | false =>
      rw [hb] at hs
      cases hs
      obtain ⟨q1, q2, q3, q4, q5, q6⟩ : pm ∧ ph ∧ pl ∧ l ≤ h ∧ h ≤ m ∧ m ≤ cap := hob
      exact ⟨pm, m, ph, h, pl, l, e1, e2, e3, q1, q2, q3, q4, q5, q6, rfl, rfl⟩
  · cases hs
theorem sslice_ok (he : EvOk φ ev ρ) (o : Oper) (t : TypeId) (x : Operand) (lo hi mx : Option Operand) (ho : o.op = .slice t x lo hi mx) (ob : OP) (r : LRes) (h : sSlice P ev t x lo hi mx = some (ob, r)) (hob : ob.ok) : LSpec φ (fun w => (execOp ρ o).run P w) r := by
  unfold sSlice at h
  split at h
  · rename_i v vl vh vm hx hlo hhi hmx
    have rl := evo_some he hlo
    have rh := evo_some he hhi
    have rm := evo_some he hmx
    have h1 := he _ _ hx
    generalize hρ : ρ x = q at h1
    suffices hh : ∃ v' u, r = .pure v' ∧ VRel φ v' u ∧ ∀ w, (Instr.sliceAt t q (lo.map ρ) (hi.map ρ) (mx.map ρ)).run P w = .ok u w by
      obtain ⟨v', u, rfl, h2, h3⟩ := hh
      exact ⟨u, h2, fun w => by simp only [execOp, ho, hρ, Sem.run_bind, h3 w]; rfl⟩
    split at h
    · rename_i hu
      split at h
      · rename_i s pl l hb hbl
        split at h
        · rename_i ph hh hbh
          cases h
          obtain ⟨q1, q2, q3, q4⟩ : ph ∧ pl ∧ l ≤ hh ∧ hh ≤ s.length := hob
          obtain ⟨s', rfl, hs'⟩ := asB_rel hb h1
          subst hs'
          cases rm
          have hsz : s'.data.toList.length = s'.size := by rw [Array.length_toList]; rfl
          rw [hsz] at q4 hbh
          obtain ⟨mc, b4, b5, b6, b7, b8⟩ := sbounds (P := P) (φ := φ) (ρ := ρ) false (len := s'.size) (lo := s'.size) (cap := s'.size) (m := s'.size) (pm := True) rl rh .none rfl hbh hbl trivial q1 q2 (by cases vh <;> rfl) q3 q4 (Nat.le_refl _) (Nat.le_refl _) (Nat.le_refl _)
          refine ⟨_, .string (s'.extract l hh), rfl, ?_, fun w => ?_⟩
          · have := VRel.sstr (φ := φ) (s'.extract l hh)
            have e : (s'.extract l hh).data.toList = (s'.data.toList.take hh).drop l := by
              rw [ByteArray.data_extract, Array.toList_extract, List.extract_eq_take_drop, List.drop_take]
            rw [e] at this
            exact this
          · have hb := b8 w
            simp [Instr.sliceAt, run_und hu, Instr.slice] at hb ⊢
            rw [hb]
            rfl
        · cases h
      · cases h
    · rename_i e hu
      split at h
      · rename_i n a len cap ex z hn
        cases hzz : (ex || Nat.beq z n) with
        | false => rw [hzz] at h; cases h
        | true =>
          rw [hzz] at h
          obtain ⟨pm, m, ph, hh, pl, l, e1, e2, e3, q1, q2, q3, q4, q5, q6, e4, rfl⟩ := sSliceP_parts h hob
          cases h1 with
          | slice x' o' _ _ _ g b0 nb cap' _ a' hφ hl hc hex hz ha =>
            obtain ⟨mc, b4, b5, b6, b7, b8⟩ := sbounds (P := P) (φ := φ) (ρ := ρ) true (cap := cap') rl rh rm e1 e2 e3 q1 q2 q3 e4 q4 q5 q6 hl hc
            have hz' : ex = false → b0 + o' + cap' * n ≤ nb := fun he' => by
              rw [he'] at hzz
              have : z = n := Nat.eq_of_beq_eq_true (by simpa using hzz)
              subst this
              exact hz he'
            refine ⟨_, _, rfl, sslice_rel (nx := isNone vm) hφ hex hz' ha q4 q5 b4 b5 b6 b7, fun w => ?_⟩
            have hb := b8 w
            simp [Instr.sliceAt, run_und hu, Instr.slice, run_size hn] at hb ⊢
            rw [hb]
            simp []
            split <;> rfl
      · rename_i n a len cap ex z hn
        cases hzz : Nat.beq z n with
        | false => rw [hzz] at h; cases h
        | true =>
          rw [hzz] at h
          obtain rfl : z = n := Nat.eq_of_beq_eq_true hzz
          obtain ⟨pm, m, ph, hh, pl, l, e1, e2, e3, q1, q2, q3, q4, q5, q6, e4, rfl⟩ := sSliceP_parts h hob
          cases h1 with
          | snil =>
            obtain ⟨mc, b4, b5, b6, b7, b8⟩ := sbounds (P := P) (φ := φ) (ρ := ρ) true (cap := 0) rl rh rm e1 e2 e3 q1 q2 q3 e4 q4 q5 q6 (Nat.le_refl _) (Nat.le_refl _)
            have hl0 : l = 0 := by omega
            have hh0 : hh = 0 := by omega
            have hm0 : m = 0 := by omega
            have hc0 : mc = 0 := by omega
            subst hl0 hh0 hm0 hc0
            refine ⟨_, .slice none 0 0, rfl, .snil _ _ _, fun w => ?_⟩
            have hb := b8 w
            simp [Instr.sliceAt, run_und hu, Instr.slice, run_size hn] at hb ⊢
            rw [hb]
            simp []
          | semp _ A c _ =>
            obtain ⟨mc, b4, b5, b6, b7, b8⟩ := sbounds (P := P) (φ := φ) (ρ := ρ) true (cap := c) rl rh rm e1 e2 e3 q1 q2 q3 e4 q4 q5 q6 (Nat.le_refl _) (Nat.zero_le _)
            have hl0 : l = 0 := by omega
            have hh0 : hh = 0 := by omega
            have hm0 : m = 0 := by omega
            subst hl0 hh0 hm0
            have hx : (bif isNone vm then true else true) = true := by cases isNone vm <;> rfl
            have hb : ∀ w, _ := b8
            cases A with
            | none =>
              refine ⟨_, .slice none 0 mc, rfl, by rw [hx]; exact .semp _ _ _ _, fun w => ?_⟩
              have hb := b8 w
              simp [Instr.sliceAt, run_und hu, Instr.slice, run_size hn] at hb ⊢
              rw [hb]
              simp []
            | some a' =>
              refine ⟨_, .slice (some (if mc = 0 then a' else a'.add (0 * z))) 0 mc, rfl, by rw [hx]; exact .semp _ _ _ _, fun w => ?_⟩
              have hb := b8 w
              simp [Instr.sliceAt, run_und hu, Instr.slice, run_size hn] at hb ⊢
              rw [hb]
              simp []
              split <;> rfl
          | sslice x' o' _ _ _ g b0 nb cap' _ a' hφ hl hc hex hz ha =>
            obtain ⟨mc, b4, b5, b6, b7, b8⟩ := sbounds (P := P) (φ := φ) (ρ := ρ) true (cap := cap') rl rh rm e1 e2 e3 q1 q2 q3 e4 q4 q5 q6 hl hc
            refine ⟨_, _, rfl, sslice_rel (nx := isNone vm) hφ hex hz ha q4 q5 b4 b5 b6 b7, fun w => ?_⟩
            have hb := b8 w
            simp [Instr.sliceAt, run_und hu, Instr.slice, run_size hn] at hb ⊢
            rw [hb]
            simp []
            split <;> rfl
      · cases h
    · rename_i k e hu
      split at h
      · rename_i n a hn
        obtain ⟨pm, m, ph, hh, pl, l, e1, e2, e3, q1, q2, q3, q4, q5, q6, e4, rfl⟩ := sSliceP_parts h hob
        cases h1 with
        | ptr x' o' g b0 nb hφ =>
          obtain ⟨mc, b4, b5, b6, b7, b8⟩ := sbounds (P := P) (φ := φ) (ρ := ρ) false (cap := k) rl rh rm e1 e2 e3 q1 q2 q3 e4 q4 q5 q6 (Nat.le_refl _) (Nat.le_refl _)
          have hr := sslice_rel (φ := φ) (nx := isNone vm) (ex := true) (n := n) (o := o') (a := ⟨g, b0 + o', none⟩) hφ (fun _ => rfl) (by simp) (.inr rfl) q4 q5 b4 b5 b6 b7
          refine ⟨_, _, rfl, hr, fun w => ?_⟩
          have hb := b8 w
          simp [Instr.sliceAt, run_und hu, Instr.sureAddr] at hb ⊢
          rw [hb]
          simp [run_size hn]
      · cases h
    · cases h
  · cases h
theorem smake_ok (he : EvOk φ ev ρ) (o : Oper) (t : TypeId) (l c : Operand) (ho : o.op = .makeSlice t l c) (ob : OP) (r : LRes) (h : sMake P ev t l c = some (ob, r)) (hob : ob.ok) : LSpec φ (fun w => (execOp ρ o).run P w) r := by
  unfold sMake at h
  split at h
  · rename_i e lv cv hu hl hc
    split at h
    · rename_i x n y m k hn hm hk hs
      have key : ∀ (hob : 0 ≤ x ∧ x ≤ y ∧ y ≤ 1048576) (z : Value), (∃ i, P.info? e = some i ∧ i.zero = some z ∧ i.bytes ≤ 1048576) → x = (n : Int) ∧ y = (m : Int) ∧ n ≤ m ∧ ∀ w, (execOp ρ o).run P w = .ok (.value (.slice (some ⟨w.heap.size, 0, none⟩) n m)) (w.alloc (.cells (madeCells z.cells (m * 1)) e)) := fun hob z hz => by
        obtain ⟨i, hi, hiz, hib⟩ := hz
        obtain ⟨h0, h1, h2⟩ := hob
        obtain ⟨k1, e1, f1⟩ := asN_rel hn (he _ _ hl)
        obtain ⟨k2, e2, f2⟩ := asN_rel hm (he _ _ hc)
        have f1 := f1 h0
        have f2 := f2 (by omega)
        subst f1 f2
        refine ⟨rfl, rfl, by omega, fun w => ?_⟩
        have hsz : i.size = 1 := by unfold sizeA at hs; rw [hi] at hs; simpa using hs
        have hbm : (i.bytes : Int) * (m : Int) ≤ 281474976710656 := by
          have : i.bytes * m ≤ 1048576 * 1048576 := Nat.mul_le_mul hib (by omega)
          have h3 : ((i.bytes * m : Nat) : Int) ≤ 281474976710656 := by omega
          rwa [Int.natCast_mul] at h3
        have hr := run_make (P := P) w t e i z hu hi hiz k1 k2 (n : Int) (m : Int) (by omega) (by omega) hbm (by omega)
        rw [hsz] at hr
        simp [execOp, ho, e1, e2]
        simp at hr
        rw [hr]
        simp
      cases hz : zeroA P e with
      | none => rw [hz] at h; cases h
      | some zv =>
      rw [hz] at h
      simp only at h
      cases hzb : (zeroIs k zv && Nat.ble (P.bytesOf e) 1048576) with
      | false => rw [hzb] at h; cases h
      | true =>
      rw [hzb] at h
      simp only [cond_true] at h
      rw [Bool.and_eq_true] at hzb
      obtain ⟨ie, z, hie, hiz, hzr, _⟩ := zero_some (φ := φ) hz
      have hby : P.bytesOf e = ie.bytes := by unfold Program.bytesOf; rw [hie]; rfl
      have hib := Nat.le_of_ble_eq_true hzb.2
      rw [hby] at hib
      have hz0 : z = .int k 0 := by
        have h1 := hzb.1
        unfold zeroIs at h1
        split at h1
        · rename_i k2 z2
          cases hzr
          rw [Bool.and_eq_true, intBeq_eq] at h1
          obtain rfl := kindEq_eq _ _ h1.1
          have : z2 = 0 := by simpa using h1.2
          rw [this]
        · cases h1
      subst hz0
      have hcells : (madeCells (Value.int k 0).cells (m * 1)).toList = List.replicate m (Value.int k 0) := by
        have hml : (madeCells (Value.int k 0).cells (m * 1)).size = m := by rw [size_madeCells]; simp
        apply List.ext_getElem?
        intro i
        by_cases hi : i < m
        · rw [List.getElem?_replicate, if_pos hi]
          have hg := made_rel (φ := fun _ => none) (z := [AVal.int k 0]) (c := #[Value.int k 0]) (.cons _ _ _ _ (.int _ _) .nil) (by simp) m (m * 1) (by simp)
          have h3 : (repL [AVal.int k 0] m)[i]? = some (.int k 0) := by rw [rep_get _ (by simp) _ _ (by simpa using hi)]; simp [Nat.mod_one]
          obtain ⟨u, h4, h5⟩ := hg.get h3
          cases h5
          exact h4
        · rw [List.getElem?_eq_none (by rw [Array.length_toList, hml]; omega), List.getElem?_eq_none (by simpa using hi)]
      cases hu8 : isU8 P e with
      | true =>
        rw [hu8] at h
        cases h
        obtain ⟨h1, h2, h3, h4⟩ := key hob _ ⟨ie, hie, hiz, hib⟩
        have hk8 := u8_some hu8
        rw [hk] at hk8
        obtain rfl : k = .u8 := by simpa using hk8
        intro w
        have hsz : (madeCells (Value.int .u8 0).cells (m * 1)).size = m := by rw [size_madeCells]; simp
        have hr := sbytes_new (φ := φ) (l := List.replicate m 0) e (c := madeCells (Value.int .u8 0).cells (m * 1)) (by rw [hcells, List.map_replicate]; rfl)
        exact ⟨_, _, _, _, h4 w, rfl, rfl, rfl, rfl, hr, fun ψ r hle hr => .sslice r 0 n m 1 w.heap.size 0 _ m true _ hr h3 (Nat.le_refl _) (fun _ => rfl) (by simp) (.inr rfl)⟩
      | false =>
        rw [hu8] at h
        cases h
        obtain ⟨h1, h2, h3, h4⟩ := key hob _ ⟨ie, hie, hiz, hib⟩
        intro w
        have hin : inR k 0 := ⟨lo_neg k, by cases k <;> simp [hiI]⟩
        have hr : ORel φ (.sints k (List.replicate m 0) e) 0 (madeCells (Value.int k 0).cells (m * 1)).size (.cells (madeCells (Value.int k 0).cells (m * 1)) e (0, 0)) := by
          refine .sints _ _ _ _ _ _ (fun z hz => by rw [List.eq_of_mem_replicate hz]; exact hin) (cells_new e ?_)
          rw [hcells, List.map_replicate]
          clear key h4 hcells
          induction m with
          | zero => exact .nil
          | succ m ih => exact .cons _ _ _ _ (.int _ _) (by
              have : ∀ m, VRels φ (List.replicate m (AVal.int k 0)) (List.replicate m (Value.int k 0)) := fun m => by
                induction m with
                | zero => exact .nil
                | succ m ih => exact .cons _ _ _ _ (.int _ _) ih
              exact this m)
        exact ⟨_, _, _, _, h4 w, rfl, rfl, rfl, rfl, hr, fun ψ r hle hr => .sslice r 0 n m 1 w.heap.size 0 _ m true _ hr h3 (Nat.le_refl _) (fun _ => rfl) (by simp) (.inr rfl)⟩
    · cases h
  · cases h
theorem scall_ok (he : EvOk φ ev ρ) (o : Oper) (c : Call) (ho : o.op = .call c) (ob : OP) (r : LRes) (h : sCall P ev c = some (ob, r)) (hob : ob.ok) : LSpec φ (fun w => (execOp ρ o).run P w) r := by
  unfold sCall at h
  split at h
  · rename_i hcal
    split at h
    · rename_i t x ht hxa
      have hrun : ∀ w u, (Builtin.len_ c.argTypes o.type (c.args.map ρ)).run P w = .ok u w → (execOp ρ o).run P w = .ok (.value u) w := fun w u hu => by
        simp [execOp, ho, resolve, hcal, invoke, builtin, hu]
      split at h
      · rename_i l hu hx
        cases h
        have h1 := he _ _ hx
        generalize hρ : ρ x = q at h1
        cases h1 with
        | sstr s =>
        have hob : s.data.toList.length ≤ 9223372036854775807 := hob
        refine ⟨_, .sint _ _ ⟨by show (-9223372036854775808 : Int) ≤ _; omega, by show _ ≤ (9223372036854775807 : Int); omega⟩, fun w => hrun w _ ?_⟩
        unfold Builtin.len_
        simp [ht, hxa, hρ, run_und hu, goInt]
      · rename_i e a n c' ex z hu hx
        cases h
        have h1 := he _ _ hx
        generalize hρ : ρ x = q at h1
        have hob : n ≤ 9223372036854775807 := hob
        refine ⟨_, .sint _ _ ⟨by show (-9223372036854775808 : Int) ≤ _; omega, by show _ ≤ (9223372036854775807 : Int); omega⟩, fun w => hrun w _ ?_⟩
        cases h1 <;> (unfold Builtin.len_; simp [ht, hxa, hρ, run_und hu, goInt])
      · cases h
    · cases h
  · rename_i hcal
    split at h
    · rename_i x y hargs
      split at h
      · rename_i k a k' b hx hy
        cases hk : kindEq k k' with
        | false => rw [hk] at h; cases h
        | true =>
        rw [hk] at h
        obtain rfl := kindEq_eq _ _ hk
        cases h
        have h1 := evs_some he _ _ hargs
        generalize hL : c.args.toList.map ρ = L at h1
        cases h1 with | cons _ u1 _ us hu1 hr => cases hr with | cons _ u2 _ us hu2 hr2 =>
        cases hr2
        obtain ⟨rfl, i1⟩ := asR_rel hx hu1
        obtain ⟨rfl, i2⟩ := asR_rel hy hu2
        have hin : inR k (min a b) := by by_cases hab : a ≤ b; (rw [Int.min_eq_left hab]; exact i1); (rw [Int.min_eq_right (by omega)]; exact i2)
        refine ⟨_, .sint _ _ hin, fun w => ?_⟩
        have hv : min a b = if b < a then b else a := by omega
        rw [hv]
        simp [execOp, ho, resolve, hcal, invoke, builtin, Builtin.min_, hL, Builtin.min2]
      · cases h
    · cases h
  · rename_i hcal
    split at h
    · rename_i x y hargs
      split at h
      · rename_i k a k' b hx hy
        cases hk : kindEq k k' with
        | false => rw [hk] at h; cases h
        | true =>
        rw [hk] at h
        obtain rfl := kindEq_eq _ _ hk
        cases h
        have h1 := evs_some he _ _ hargs
        generalize hL : c.args.toList.map ρ = L at h1
        cases h1 with | cons _ u1 _ us hu1 hr => cases hr with | cons _ u2 _ us hu2 hr2 =>
        cases hr2
        obtain ⟨rfl, i1⟩ := asR_rel hx hu1
        obtain ⟨rfl, i2⟩ := asR_rel hy hu2
        have hin : inR k (max a b) := by by_cases hab : a ≤ b; (rw [Int.max_eq_right hab]; exact i2); (rw [Int.max_eq_left (by omega)]; exact i1)
        refine ⟨_, .sint _ _ hin, fun w => ?_⟩
        have hv : max a b = if a < b then b else a := by omega
        rw [hv]
        simp [execOp, ho, resolve, hcal, invoke, builtin, Builtin.max_, hL, Builtin.max2]
      · cases h
    · cases h
  · cases h
theorem sconv_ok (he : EvOk φ ev ρ) (o : Oper) (s d : TypeId) (x : Operand) (ho : o.op = .convert s d x) (ob : OP) (r : LRes) (h : sConv P ev s d x = some (ob, r)) (hob : ob.ok) : LSpec φ (fun w => (execOp ρ o).run P w) r := by
  have hrun : ∀ w u w', (convert s d (ρ x)).run P w = .ok u w' → (execOp ρ o).run P w = .ok (.value u) w' := fun w u w' hu => by simp [execOp, ho, hu]
  unfold sConv at h
  split at h
  · rename_i d' k j z hs hd hx
    have h1 := he _ _ hx
    generalize ρ x = q at h1 hrun
    cases h1 with
    | sint _ _ hin =>
    have hr : ∀ w, (execOp ρ o).run P w = .ok (.value (.int k (k.wrap z))) w := fun w => hrun w _ _ (by simp [convert, run_und hs, run_und hd, Conv.intToInt])
    cases hsub : subK j k with
    | true =>
      rw [hsub] at h
      cases h
      have := subK_some hsub hin
      exact ⟨_, .sint _ _ this, fun w => (hr w).trans (by rw [wrap_inR this])⟩
    | false =>
      rw [hsub] at h
      simp only [cond_false] at h
      cases hk : isU k with
      | true =>
        rw [hk] at h
        cases h
        obtain ⟨h1, h2⟩ := wrap_mod_inR hk z
        exact ⟨_, .sint _ _ h2, fun w => (hr w).trans (by rw [h1])⟩
      | false =>
        rw [hk] at h
        cases h
        have hob : inR k z := hob
        exact ⟨_, .sint _ _ hob, fun w => (hr w).trans (by rw [wrap_inR hob])⟩
  · rename_i l hs hd hx
    cases h
    have h1 := he _ _ hx
    generalize ρ x = q at h1 hrun
    cases h1
    exact ⟨_, .sstr _, fun w => hrun w _ _ (by simp [convert, run_und hs, run_und hd])⟩
  · rename_i e l hs hd hx
    cases hb : isU8 P e with
    | false => rw [hb] at h; cases h
    | true =>
    rw [hb] at h
    cases h
    have hu8 := u8_some hb
    have hob : l.length ≤ 1048576 := hob
    have h1 := he _ _ hx
    generalize ρ x = q at h1 hrun
    cases h1 with
    | sstr t =>
    obtain ⟨r0, hr0⟩ : ∃ r0, lConvert P (fun _ => some (.str (t.data.toList.map UInt8.toNat))) s d x = some r0 := ⟨_, by unfold lConvert; rw [hs, hd]; simp only [cvBytes, hb, cond_true]; rfl⟩
    have hc := conv_ok (φ := φ) (P := P) (ev := fun _ => some (.str (t.data.toList.map UInt8.toNat))) (ρ := fun _ => .string t) (fun y v hy => by cases hy; exact .str t) o s d x ho r0 hr0
    unfold lConvert at hr0
    rw [hs, hd] at hr0
    simp only [cvBytes, hb, cond_true] at hr0
    cases hr0
    intro w
    obtain ⟨x', n, u, w', e1, e2, e3, e4, e5, e6, e7⟩ := hc w
    have e1' : (execOp ρ o).run P w = .ok (.value u) w' := by
      have h9 : (execOp (fun _ => Value.string t) o).run P w = .ok (.value u) w' := e1
      simp only [execOp, ho, Sem.run_bind] at h9
      cases hcv : (convert s d (.string t)).run P w with
      | ok u2 w2 =>
        rw [hcv] at h9
        simp at h9
        obtain ⟨rfl, rfl⟩ := h9
        exact hrun w _ _ hcv
      | _ => rw [hcv] at h9; simp at h9
    refine ⟨x', n, u, w', e1', e2, e3, e4, e5, .sbytes _ _ _ _ _ (by rw [List.map_map] at e6; exact e6), fun ψ r hle hr => ?_⟩
    have h8 := e7 ψ r hle hr
    rw [lenL0, List.length_map] at h8
    cases h8 with
    | slice _ _ _ _ _ g b n cap ex a h hl hc he hz ha => exact .sslice _ _ _ _ _ _ _ _ _ _ _ h hl hc he hz ha
  · rename_i e a n cap ex z hs hd hx
    split at h
    · rename_i r' hr'
      cases h
      have h1 := he _ _ hx
      have hu8 : P.underlying e = some (.int .u8) := by
        cases hb : isU8 P e with
        | true => exact u8_some hb
        | false => unfold cvText at hr'; rw [hb] at hr'; cases hr'
      generalize ρ x = q at h1 hrun
      cases h1 with
      | snil => exact cvText_ok hs hd hu8 hrun hr' (.inr ⟨none, 0, rfl, rfl⟩)
      | semp _ A c _ => exact cvText_ok hs hd hu8 hrun hr' (.inr ⟨A, c, rfl, rfl⟩)
      | sslice x2 o2 _ _ _ g2 b2 nb2 cap _ a2 hφ2 hl hc hex hz ha => exact cvText_ok (a := (x2, o2)) hs hd hu8 hrun hr' (.inl ⟨g2, b2, nb2, cap, a2, hφ2, rfl, by omega, ha⟩)
    · cases h
  · cases h
theorem sym_ok (he : EvOk φ ev ρ) (o : Oper) (ob : OP) (r : LRes) (h : sym P ev o.op = some (ob, r)) (hob : ob.ok) : LSpec φ (fun w => (execOp ρ o).run P w) r := by
  unfold sym at h
  split at h
  · exact spick_ok he o _ _ _ ‹_› ob r h hob
  · exact sbin_ok he o _ _ _ _ _ ‹_› ob r h hob
  · exact sun_ok he o _ _ _ ‹_› ob r h hob
  · exact sconv_ok he o _ _ _ ‹_› ob r h hob
  · exact smake_ok he o _ _ _ ‹_› ob r h hob
  · exact sslice_ok he o _ _ _ _ _ ‹_› ob r h hob
  · exact sidx_ok he o _ _ _ ‹_› ob r h hob
  · exact sindex_ok he o _ _ _ ‹_› ob r h hob
  · exact scall_ok he o _ ‹_› ob r h hob
  · cases h
/-- ALL OF THEM, symbolic ones too -/
theorem light_ok (he : EvOk φ ev ρ) (o : Oper) (r : LRes) (h : light P ev o.op = some r) : LSpec φ (fun w => (execOp ρ o).run P w) r := by
  unfold light at h
  obtain ⟨ob, h1, h2⟩ := got_some h
  unfold lightP at h1
  split at h1
  · cases h1; exact light0_ok he o r ‹_›
  · exact sym_ok he o ob r h1 h2
end
end Go.Proofs.Ytlnfolgmjfcinaa.Abs
