/- SHA-256 and HMAC as functions of lists: the vocabulary of layer 2's contracts. By an AI agent. -/
namespace Go.Proofs.YtmhbmjagnihopaaGreatDoor.Sha
set_option linter.unusedVariables false

abbrev W32 : Nat := 4294967296
/-- a word turned right -/
def rotr (n k : Nat) : Nat := n / 2 ^ k + n % 2 ^ k * 2 ^ (32 - k)
theorem rotr_lt {n k : Nat} (hn : n < 4294967296) (hk : k ≤ 32) : rotr n k < 4294967296 := by
  unfold rotr
  have h1 : n < 2 ^ k * 2 ^ (32 - k) := by rw [← Nat.pow_add, show k + (32 - k) = 32 by omega]; exact hn
  have h2 : n / 2 ^ k < 2 ^ (32 - k) := Nat.div_lt_of_lt_mul h1
  have h3 : n % 2 ^ k < 2 ^ k := Nat.mod_lt _ (Nat.two_pow_pos k)
  calc n / 2 ^ k + n % 2 ^ k * 2 ^ (32 - k) < 2 ^ (32 - k) + n % 2 ^ k * 2 ^ (32 - k) := by omega
    _ = (n % 2 ^ k + 1) * 2 ^ (32 - k) := by rw [Nat.add_mul, Nat.one_mul, Nat.add_comm]
    _ ≤ 2 ^ k * 2 ^ (32 - k) := Nat.mul_le_mul_right _ h3
    _ = 4294967296 := by rw [← Nat.pow_add, show k + (32 - k) = 32 by omega]
/-- by one more place -/
theorem rotr_succ {n k : Nat} (hn : n < 4294967296) (hk : k < 32) : rotr n (k + 1) = rotr n k / 2 + rotr n k % 2 * 2147483648 := by
  unfold rotr
  have e1 : 2 ^ (32 - k) = 2 * 2 ^ (31 - k) := by rw [show 32 - k = (31 - k) + 1 by omega, Nat.pow_succ]; omega
  have e2 : 32 - (k + 1) = 31 - k := by omega
  have hp : 2 ^ k * 2 ^ (31 - k) = 2147483648 := by rw [← Nat.pow_add, show k + (31 - k) = 31 by omega]
  have q0 : 0 < 2 ^ k := Nat.two_pow_pos k
  rw [e2, e1, Nat.pow_succ]
  have e3 : n % (2 ^ k * 2) = n % 2 ^ k + 2 ^ k * (n / 2 ^ k % 2) := Nat.mod_mul
  have e4 : n / (2 ^ k * 2) = n / 2 ^ k / 2 := by rw [Nat.div_div_eq_div_mul]
  rw [e3, e4]
  generalize n / 2 ^ k = q
  generalize n % 2 ^ k = r
  have e5 : r * (2 * 2 ^ (31 - k)) = 2 * (r * 2 ^ (31 - k)) := by rw [Nat.mul_left_comm]
  rw [e5, Nat.add_mul, Nat.mul_right_comm, hp]
  generalize r * 2 ^ (31 - k) = z
  omega
theorem rotr_zero {n : Nat} (hn : n < 4294967296) : rotr n 0 = n := by unfold rotr; simp; omega
theorem rotr_or {n k : Nat} (hn : n < 4294967296) (h0 : 0 < k) (hk : k < 32) : (n * 2 ^ (32 - k)) % 4294967296 ||| n / 2 ^ k = rotr n k := by
  unfold rotr
  have e1 : (4294967296 : Nat) = 2 ^ k * 2 ^ (32 - k) := by rw [← Nat.pow_add, show k + (32 - k) = 32 by omega]
  rw [e1, Nat.mul_mod_mul_right]
  have h2 : n / 2 ^ k < 2 ^ (32 - k) := Nat.div_lt_of_lt_mul (by rw [← e1]; exact hn)
  rw [Nat.mul_comm (n % 2 ^ k), ← Nat.two_pow_add_eq_or_of_lt h2]
  omega

/-- the schedule's two mixes -/
def sg0 (x : Nat) : Nat := (rotr x 7 ^^^ rotr x 18) ^^^ x / 8
def sg1 (x : Nat) : Nat := (rotr x 17 ^^^ rotr x 19) ^^^ x / 1024
theorem xor_lt {a b : Nat} (ha : a < 4294967296) (hb : b < 4294967296) : a ^^^ b < 4294967296 := Nat.xor_lt_two_pow (n := 32) ha hb
theorem and_lt {a b : Nat} (ha : a < 4294967296) : a &&& b < 4294967296 := Nat.lt_of_le_of_lt Nat.and_le_left ha
theorem sg0_lt {x : Nat} (h : x < 4294967296) : sg0 x < 4294967296 := xor_lt (xor_lt (rotr_lt h (by omega)) (rotr_lt h (by omega))) (by omega)
theorem sg1_lt {x : Nat} (h : x < 4294967296) : sg1 x < 4294967296 := xor_lt (xor_lt (rotr_lt h (by omega)) (rotr_lt h (by omega))) (by omega)
/-- the word behind those of l -/
def nextWord (l : List Nat) : Nat :=
  let t := l.length
  (l.getD (t - 16) 0 + l.getD (t - 7) 0 + sg0 (l.getD (t - 15) 0) + sg1 (l.getD (t - 2) 0)) % 4294967296
def extend : Nat → List Nat → List Nat
  | 0, l => l
  | k + 1, l => let m := extend k l; m ++ [nextWord m]
theorem extend_length (k : Nat) (l : List Nat) : (extend k l).length = l.length + k := by
  induction k with
  | zero => rfl
  | succ k ih => simp [extend, ih]; omega
/-- a word of four bytes -/
def word4 (a b c d : UInt8) : Nat := a.toNat * 16777216 + b.toNat * 65536 + c.toNat * 256 + d.toNat
def words : List UInt8 → List Nat
  | a :: b :: c :: d :: l => word4 a b c d :: words l
  | _ => []
def sched (block : List UInt8) : List Nat := extend 48 (words block)
structure H8 where
  a : Nat
  b : Nat
  c : Nat
  d : Nat
  e : Nat
  f : Nat
  g : Nat
  h : Nat
def H8.list (s : H8) : List Nat := [s.a, s.b, s.c, s.d, s.e, s.f, s.g, s.h]
def H8.Ok (s : H8) : Prop := s.a < 4294967296 ∧ s.b < 4294967296 ∧ s.c < 4294967296 ∧ s.d < 4294967296 ∧ s.e < 4294967296 ∧ s.f < 4294967296 ∧ s.g < 4294967296 ∧ s.h < 4294967296
def big1 (e : Nat) : Nat := (rotr e 6 ^^^ rotr e 11) ^^^ rotr e 25
def big0 (a : Nat) : Nat := (rotr a 2 ^^^ rotr a 13) ^^^ rotr a 22
def choose (e f g : Nat) : Nat := (e &&& f) ^^^ ((4294967295 - e) &&& g)
def major (a b c : Nat) : Nat := ((a &&& b) ^^^ (a &&& c)) ^^^ (b &&& c)
def one (s : H8) (k w : Nat) : Nat := (s.h + big1 s.e + choose s.e s.f s.g + k + w) % 4294967296
def two (s : H8) : Nat := (big0 s.a + major s.a s.b s.c) % 4294967296
def round (s : H8) (k w : Nat) : H8 := ⟨(one s k w + two s) % 4294967296, s.a, s.b, s.c, (s.d + one s k w) % 4294967296, s.e, s.f, s.g⟩
theorem round_ok {s : H8} (h : s.Ok) (k w : Nat) : (round s k w).Ok := by
  obtain ⟨h1, h2, h3, h4, h5, h6, h7, h8⟩ := h
  exact ⟨Nat.mod_lt _ (by omega), h1, h2, h3, Nat.mod_lt _ (by omega), h5, h6, h7⟩
def K : List Nat := [1116352408, 1899447441, 3049323471, 3921009573, 961987163, 1508970993, 2453635748, 2870763221, 3624381080, 310598401, 607225278, 1426881987, 1925078388, 2162078206, 2614888103, 3248222580, 3835390401, 4022224774, 264347078, 604807628, 770255983, 1249150122, 1555081692, 1996064986, 2554220882, 2821834349, 2952996808, 3210313671, 3336571891, 3584528711, 113926993, 338241895, 666307205, 773529912, 1294757372, 1396182291, 1695183700, 1986661051, 2177026350, 2456956037, 2730485921, 2820302411, 3259730800, 3345764771, 3516065817, 3600352804, 4094571909, 275423344, 430227734, 506948616, 659060556, 883997877, 958139571, 1322822218, 1537002063, 1747873779, 1955562222, 2024104815, 2227730452, 2361852424, 2428436474, 2756734187, 3204031479, 3329325298]
theorem K_length : K.length = 64 := rfl
theorem K_lt : ∀ k ∈ K, k < 4294967296 := by decide
def init : H8 := ⟨1779033703, 3144134277, 1013904242, 2773480762, 1359893119, 2600822924, 528734635, 1541459225⟩
theorem init_ok : init.Ok := by unfold H8.Ok init; decide
/-- the first t rounds -/
def rounds (w : List Nat) : Nat → H8 → H8
  | 0, s => s
  | t + 1, s => let r := rounds w t s; round r (K.getD t 0) (w.getD t 0)
theorem rounds_ok (w : List Nat) {s : H8} (h : s.Ok) : ∀ t, (rounds w t s).Ok
  | 0 => h
  | t + 1 => round_ok (rounds_ok w h t) _ _
def H8.add (s r : H8) : H8 := ⟨(s.a + r.a) % 4294967296, (s.b + r.b) % 4294967296, (s.c + r.c) % 4294967296, (s.d + r.d) % 4294967296, (s.e + r.e) % 4294967296, (s.f + r.f) % 4294967296, (s.g + r.g) % 4294967296, (s.h + r.h) % 4294967296⟩
theorem add_ok (s r : H8) : (s.add r).Ok := by
  unfold H8.Ok H8.add
  exact ⟨Nat.mod_lt _ (by omega), Nat.mod_lt _ (by omega), Nat.mod_lt _ (by omega), Nat.mod_lt _ (by omega), Nat.mod_lt _ (by omega), Nat.mod_lt _ (by omega), Nat.mod_lt _ (by omega), Nat.mod_lt _ (by omega)⟩
def mix (s : H8) (block : List UInt8) : H8 := s.add (rounds (sched block) 64 s)
/-- so many blocks taken in -/
def blocks : Nat → H8 → List UInt8 → H8
  | 0, s, _ => s
  | n + 1, s, l => blocks n (mix s (l.take 64)) (l.drop 64)
theorem mix_ok (s : H8) (b : List UInt8) : (mix s b).Ok := add_ok _ _
theorem blocks_ok : ∀ (n : Nat) {s : H8} (l : List UInt8), s.Ok → (blocks n s l).Ok
  | 0, _, _, h => h
  | n + 1, _, _, _ => blocks_ok n _ (mix_ok _ _)
theorem blocks_snoc (n : Nat) : ∀ (s : H8) (l : List UInt8), blocks (n + 1) s l = mix (blocks n s l) ((l.drop (64 * n)).take 64) := by
  induction n with
  | zero => intro s l; simp [blocks]
  | succ n ih =>
    intro s l
    rw [blocks, ih]
    simp only [blocks, List.drop_drop]
    rw [show 64 + 64 * n = 64 * (n + 1) by omega]
theorem blocks_append (n : Nat) : ∀ (s : H8) (l m : List UInt8), 64 * n ≤ l.length → blocks n s (l ++ m) = blocks n s l := by
  induction n with
  | zero => intro s l m _; rfl
  | succ n ih =>
    intro s l m h
    simp only [blocks]
    rw [List.take_append_of_le_length (by omega), List.drop_append_of_le_length (by omega)]
    exact ih _ _ _ (by rw [List.length_drop]; omega)
/-- what the state holds behind a first part of a message -/
def behind (l : List UInt8) : H8 := blocks (l.length / 64) init l
theorem behind_ok (l : List UInt8) : (behind l).Ok := blocks_ok _ _ init_ok
def byteAt (n i : Nat) : UInt8 := UInt8.ofNat (n / 256 ^ i)
/-- the lowest bytes, so many, the highest first -/
def beBytes (n : Nat) : Nat → List UInt8
  | 0 => []
  | k + 1 => byteAt n k :: beBytes n k
theorem beBytes_length (n k : Nat) : (beBytes n k).length = k := by
  induction k with
  | zero => rfl
  | succ k ih => simp [beBytes, ih]
def zeros (n : Nat) : Nat := (119 - n % 64) % 64
def pad (l : List UInt8) : List UInt8 := l ++ [128] ++ List.replicate (zeros l.length) 0 ++ beBytes (8 * l.length % 18446744073709551616) 8
theorem pad_length (l : List UInt8) : (pad l).length % 64 = 0 := by
  unfold pad zeros
  simp [beBytes_length]
  omega
def sumOf (s : H8) : List UInt8 := s.list.flatMap fun n => beBytes n 4
def sha256 (l : List UInt8) : List UInt8 := sumOf (behind (pad l))
theorem sumOf_length (s : H8) : (sumOf s).length = 32 := by simp [sumOf, H8.list, beBytes_length]
theorem sha_length (l : List UInt8) : (sha256 l).length = 32 := sumOf_length _
def block (key : List UInt8) : List UInt8 := let k := if key.length ≤ 64 then key else sha256 key; k ++ List.replicate (64 - k.length) 0
def keyed (b : List UInt8) (x : UInt8) : List UInt8 := b.map (· ^^^ x)
def hmac (key l : List UInt8) : List UInt8 := sha256 (keyed (block key) 92 ++ sha256 (keyed (block key) 54 ++ l))
end Go.Proofs.YtmhbmjagnihopaaGreatDoor.Sha
