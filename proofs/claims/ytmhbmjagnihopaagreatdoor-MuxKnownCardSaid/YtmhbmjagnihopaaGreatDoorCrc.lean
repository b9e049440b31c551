/- The check: the program's Crc and the reference's are one function of the bytes. By an AI agent. -/
import Derived.Test.YtmhbmjagnihopaaGreatDoorProg
import Derived.Test.YtmhbmjagnihopaaGreatDoorM
namespace Go.Proofs.YtmhbmjagnihopaaGreatDoor.Crc
open Go.RowKit Go.Proofs.YtmhbmjagnihopaaGreatDoor.M
set_option linter.unusedVariables false

/-- one step of the register -/
def step (n : Nat) : Nat := if n % 2 = 1 then (n / 2) ^^^ 3988292384 else n / 2
def steps : Nat → Nat → Nat
  | 0, n => n
  | k + 1, n => step (steps k n)
theorem step_lt {n : Nat} (h : n < 4294967296) : step n < 4294967296 := by
  unfold step
  split
  · exact Nat.xor_lt_two_pow (n := 32) (by omega) (by omega)
  · omega
theorem steps_lt {n : Nat} (h : n < 4294967296) : ∀ k, steps k n < 4294967296
  | 0 => h
  | k + 1 => step_lt (steps_lt h k)
def one (r : Nat) (b : UInt8) : Nat := steps 8 (r ^^^ b.toNat)
theorem one_lt {r : Nat} (b : UInt8) (h : r < 4294967296) : one r b < 4294967296 :=
  steps_lt (Nat.xor_lt_two_pow (n := 32) h (by have := b.toNat_lt; omega)) 8
def reg (l : List UInt8) : Nat := l.foldl one 4294967295
theorem foldl_lt (l : List UInt8) : ∀ r, r < 4294967296 → l.foldl one r < 4294967296 := by
  induction l with
  | nil => intro r h; exact h
  | cons b l ih => intro r h; exact ih _ (one_lt b h)
theorem reg_lt (l : List UInt8) : reg l < 4294967296 := foldl_lt l _ (by omega)
theorem reg_snoc (l : List UInt8) (b : UInt8) : reg (l ++ [b]) = one (reg l) b := by simp [reg]
def crc (l : List UInt8) : Nat := 4294967295 - reg l

set_option maxHeartbeats 400000 in
theorem turn_any (n : Nat) (w : World) (hn : n < 4294967296) :
    Calls Tryz.prog 127 #[.int .u32 (n : Int)] w fun e w' => e = .returned (.int .u32 (steps 8 n : Nat)) ∧ w = w' := by
  go_enter Tryz.func127, Tryz.ntmps127
  go_wp2
  go_loop [0, 4] (fun r i => ∃ k : Nat, k ≤ 8 ∧ i = .int .i64 k ∧ r = .int .u32 (steps k n : Nat)) (fun _ i => 8 - (intOf i).toNat)
  case atStart => exact ⟨0, by omega, rfl, rfl⟩
  case round =>
    obtain ⟨k, hk, rfl, rfl⟩ := hrel
    have hl := steps_lt hn k
    have hs : steps (k + 1) n = step (steps k n) := rfl
    generalize hm : steps k n = m at *
    have HM := Lib.hid hm
    clear hm
    have e1 : bits .and .u32 (m : Int) 1 = ((m &&& 1 : Nat) : Int) := u32_and_nat m 1 hl (by omega)
    rw [nat_mask1] at e1
    have e2 : bits .xor .u32 ((m : Int) / 2) 3988292384 = (((m / 2) ^^^ 3988292384 : Nat) : Int) := u32_xor_nat (m / 2) 3988292384 (by omega) (by omega)
    have H1 := Lib.hid hs
    clear hs
    by_cases hlt : k < 8
    · by_cases ho : m % 2 = 1
      · have hb : (((m % 2 : Nat) : Int) == 1) = true := by rw [beq_iff_eq]; omega
        go_wp2
        go_round
        case rel => exact ⟨k + 1, by omega, by go_num, by rw [H1.out]; simp [step, ho]⟩
        case measure => simp [intOf]; omega
      · have hb : (((m % 2 : Nat) : Int) == 1) = false := by rw [beq_eq_false_iff_ne]; omega
        go_wp2
        go_round
        case rel => exact ⟨k + 1, by omega, by go_num, by rw [H1.out]; simp [step, ho]⟩
        case measure => simp [intOf]; omega
    · go_wp2
      go_ret
      obtain rfl : k = 8 := by omega
      exact ⟨by rw [HM.out]; rfl, rfl⟩

def crcOf (r : Nat) : Nat := 4294967295 - r
theorem unxor (r : Nat) (h : r < 4294967296) : 4294967295 ^^^ r = 4294967295 - r := by
  have e := BitVec.toNat_not (x := BitVec.ofNat 32 r)
  have h2 : (BitVec.ofNat 32 r).toNat = r := by rw [BitVec.toNat_ofNat]; exact Nat.mod_eq_of_lt h
  have h3 : (BitVec.allOnes 32 ^^^ BitVec.ofNat 32 r) = ~~~ (BitVec.ofNat 32 r) := BitVec.allOnes_xor
  have h4 := congrArg BitVec.toNat h3
  rw [BitVec.toNat_xor, h2, e, h2] at h4
  simpa using h4

theorem take_snoc {α : Type} (l : List α) (k : Nat) (x : α) (h : l[k]? = some x) : l.take (k + 1) = l.take k ++ [x] := by
  rw [List.take_add_one, h]; rfl

set_option maxHeartbeats 400000 in
theorem crc_any (v : Value) (l : List UInt8) (S : Nat → Prop) (w : World) (hv : Byts w S v l) :
    Calls Tryz.prog 106 #[v] w fun e w' => e = .returned (.int .u32 (crc l : Nat)) ∧ w = w' := by
  obtain ⟨A, c, rfl, _, hm, hc⟩ := hv.row
  unfold maxLen at hm
  go_enter Tryz.func106, Tryz.ntmps106
  go_wp2
  go_loop [3, 8] (fun r i => ∃ k : Nat, k ≤ l.length ∧ i = .int .i64 k ∧ r = .int .u32 (reg (l.take k) : Nat)) (fun _ i => l.length - (intOf i).toNat)
  case atStart => exact ⟨0, by omega, rfl, rfl⟩
  case round =>
    obtain ⟨k, hk, rfl, rfl⟩ := hrel
    have hr := reg_lt (l.take k)
    by_cases hlt : k < l.length
    · obtain ⟨b, off, rfl, _, hcell⟩ := hc k _ (List.getElem?_eq_getElem hlt)
      have ht := reg_snoc (l.take k) l[k]
      rw [← take_snoc l k _ (List.getElem?_eq_getElem hlt)] at ht
      have hb := (l[k]).toNat_lt
      unfold one at ht
      generalize reg (l.take k) = m at *
      generalize (l[k]).toNat = x at *
      have e2 : bits .xor .u32 (m : Int) (x : Int) = ((m ^^^ x : Nat) : Int) := u32_xor_nat m x hr (by omega)
      have hx : m ^^^ x < 4294967296 := Nat.xor_lt_two_pow (n := 32) hr (by omega)
      have HT := Lib.hid ht
      clear ht
      go_wp2_with (go_at_call 127; refine (turn_any _ _ hx).mono ?_; rintro e w' ⟨rfl, rfl⟩)
      go_round
      case rel => exact ⟨k + 1, by omega, by go_num, by rw [HT.out]⟩
      case measure => simp [intOf]; omega
    · obtain rfl : k = l.length := by omega
      have H2 : crc l = 4294967295 - reg (l.take l.length) := by simp [crc]
      have e3 : bits .xor .u32 IntKind.u32.max (reg (l.take l.length) : Int) = ((4294967295 - reg (l.take l.length) : Nat) : Int) := by
        rw [← unxor _ hr]; exact u32_xor_nat 4294967295 _ (by omega) hr
      generalize reg (l.take l.length) = m at *
      have H := Lib.hid H2
      clear H2
      go_wp2
      go_ret
      exact ⟨by rw [H.out]; rfl, rfl⟩

end Go.Proofs.YtmhbmjagnihopaaGreatDoor.Crc
