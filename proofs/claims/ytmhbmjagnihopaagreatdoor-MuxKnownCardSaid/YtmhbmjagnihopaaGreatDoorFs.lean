/- SHA-256 and HMAC over numbers alone, in a form that the kernel evaluates quickly; the same as the vocabulary's. By an AI agent. -/
import Derived.Test.YtmhbmjagnihopaaGreatDoorSha
namespace Go.Proofs.YtmhbmjagnihopaaGreatDoor.Shn
open Go.Proofs.YtmhbmjagnihopaaGreatDoor.Sha
set_option linter.unusedVariables false
set_option linter.unusedSimpArgs false
universe u
/-- x, evaluated ahead -/
noncomputable def fc {α : Sort u} (x : Nat) (k : Nat → α) : α := Nat.rec (motive := fun _ => α) (k 0) (fun n _ => k (Nat.succ n)) x
theorem fc_eq {α : Sort u} (x : Nat) (k : Nat → α) : fc x k = k x := by cases x <;> rfl
def fg0 (x : Nat) : Nat := Nat.xor (Nat.mod (Nat.xor (Nat.div (Nat.mul x 4294967297) 128) (Nat.div (Nat.mul x 4294967297) 262144)) 4294967296) (Nat.div x 8)
def fg1 (x : Nat) : Nat := Nat.xor (Nat.mod (Nat.xor (Nat.div (Nat.mul x 4294967297) 131072) (Nat.div (Nat.mul x 4294967297) 524288)) 4294967296) (Nat.div x 1024)
def fb1 (e : Nat) : Nat := Nat.mod (Nat.xor (Nat.xor (Nat.div (Nat.mul e 4294967297) 64) (Nat.div (Nat.mul e 4294967297) 2048)) (Nat.div (Nat.mul e 4294967297) 33554432)) 4294967296
def fb0 (e : Nat) : Nat := Nat.mod (Nat.xor (Nat.xor (Nat.div (Nat.mul e 4294967297) 4) (Nat.div (Nat.mul e 4294967297) 8192)) (Nat.div (Nat.mul e 4294967297) 4194304)) 4294967296
theorem rot_mul {n k : Nat} (hn : n < 4294967296) (hk : k ≤ 32) : n * 4294967297 / 2 ^ k % 2 ^ 32 = rotr n k := by
  unfold rotr
  have e1 : (2 : Nat) ^ 32 = 2 ^ k * 2 ^ (32 - k) := by rw [← Nat.pow_add, show k + (32 - k) = 32 by omega]
  have e2 : n * 4294967297 = n + 2 ^ k * (n * 2 ^ (32 - k)) := by
    have : 2 ^ k * (n * 2 ^ (32 - k)) = n * 2 ^ 32 := by rw [e1, Nat.mul_left_comm]
    omega
  have h2 : n / 2 ^ k < 2 ^ (32 - k) := Nat.div_lt_of_lt_mul (by rw [← e1]; exact hn)
  rw [e2, Nat.add_mul_div_left _ _ (Nat.two_pow_pos k)]
  have h3 : n % 2 ^ k * 2 ^ (32 - k) + n / 2 ^ k < 2 ^ 32 := by
    have h4 : n % 2 ^ k + 1 ≤ 2 ^ k := Nat.mod_lt _ (Nat.two_pow_pos k)
    have h5 : (n % 2 ^ k + 1) * 2 ^ (32 - k) ≤ 2 ^ k * 2 ^ (32 - k) := Nat.mul_le_mul_right _ h4
    rw [← e1, Nat.add_mul] at h5
    omega
  have h6 : n * 2 ^ (32 - k) % 2 ^ 32 = n % 2 ^ k * 2 ^ (32 - k) := by rw [e1, Nat.mul_mod_mul_right]
  rw [Nat.add_mod, h6, Nat.mod_eq_of_lt (by omega : n / 2 ^ k < 2 ^ 32), Nat.mod_eq_of_lt (by omega), Nat.add_comm]
theorem rot2 {n : Nat} (a b : Nat) (hn : n < 4294967296) (ha : a ≤ 32) (hb : b ≤ 32) : (n * 4294967297 / 2 ^ a ^^^ n * 4294967297 / 2 ^ b) % 4294967296 = rotr n a ^^^ rotr n b := by
  have := @Nat.xor_mod_two_pow (n * 4294967297 / 2 ^ a) (n * 4294967297 / 2 ^ b) 32
  rw [rot_mul hn ha, rot_mul hn hb] at this
  exact this
theorem rot3 {n : Nat} (a b c : Nat) (hn : n < 4294967296) (ha : a ≤ 32) (hb : b ≤ 32) (hc : c ≤ 32) : ((n * 4294967297 / 2 ^ a ^^^ n * 4294967297 / 2 ^ b) ^^^ n * 4294967297 / 2 ^ c) % 4294967296 = (rotr n a ^^^ rotr n b) ^^^ rotr n c := by
  have := @Nat.xor_mod_two_pow (n * 4294967297 / 2 ^ a ^^^ n * 4294967297 / 2 ^ b) (n * 4294967297 / 2 ^ c) 32
  rw [rot_mul hn hc] at this
  have h2 := rot2 a b hn ha hb
  rw [show (4294967296 : Nat) = 2 ^ 32 by rfl] at h2 ⊢
  rw [h2] at this
  exact this
theorem fg0_eq {x : Nat} (h : x < 4294967296) : fg0 x = sg0 x := congrArg (· ^^^ x / 8) (rot2 7 18 h (by omega) (by omega))
theorem fg1_eq {x : Nat} (h : x < 4294967296) : fg1 x = sg1 x := congrArg (· ^^^ x / 1024) (rot2 17 19 h (by omega) (by omega))
theorem fb1_eq {x : Nat} (h : x < 4294967296) : fb1 x = big1 x := rot3 6 11 25 h (by omega) (by omega) (by omega)
theorem fb0_eq {x : Nat} (h : x < 4294967296) : fb0 x = big0 x := rot3 2 13 22 h (by omega) (by omega) (by omega)
def fch (e f g : Nat) : Nat := Nat.xor (Nat.land e f) (Nat.land (Nat.sub 4294967295 e) g)
def fmj (a b c : Nat) : Nat := Nat.xor (Nat.xor (Nat.land a b) (Nat.land a c)) (Nat.land b c)
def f1 (e f g h k w : Nat) : Nat := Nat.mod (Nat.add (Nat.add (Nat.add (Nat.add h (fb1 e)) (fch e f g)) k) w) 4294967296
def f2 (a b c : Nat) : Nat := Nat.mod (Nat.add (fb0 a) (fmj a b c)) 4294967296
def fw (w0 w1 w9 w14 : Nat) : Nat := Nat.mod (Nat.add (Nat.add (Nat.add w0 w9) (fg0 w1)) (fg1 w14)) 4294967296
/-- the rounds of the constants that are left; what is done behind them -/
noncomputable def rnd {α : Type} (Q : Nat → Nat → Nat → Nat → Nat → Nat → Nat → Nat → α) (ks : List Nat) : Nat → Nat → Nat → Nat → Nat → Nat → Nat → Nat → Nat → Nat → Nat → Nat → Nat → Nat → Nat → Nat → Nat → Nat → Nat → Nat → Nat → Nat → Nat → Nat → α :=
  List.rec (motive := fun _ => Nat → Nat → Nat → Nat → Nat → Nat → Nat → Nat → Nat → Nat → Nat → Nat → Nat → Nat → Nat → Nat → Nat → Nat → Nat → Nat → Nat → Nat → Nat → Nat → α)
    (fun _ _ _ _ _ _ _ _ _ _ _ _ _ _ _ _ a b c d e f g h => Q a b c d e f g h)
    (fun k _ ih w0 w1 w2 w3 w4 w5 w6 w7 w8 w9 w10 w11 w12 w13 w14 w15 a b c d e f g h =>
      fc (f1 e f g h k w0) fun t => fc (Nat.mod (Nat.add t (f2 a b c)) 4294967296) fun a' => fc (Nat.mod (Nat.add d t) 4294967296) fun e' => fc (fw w0 w1 w9 w14) fun w16 =>
        ih w1 w2 w3 w4 w5 w6 w7 w8 w9 w10 w11 w12 w13 w14 w15 w16 a' a b c e' e f g) ks
theorem extend_get (ws : List Nat) (i k d : Nat) (h : i < ws.length + k) : (extend (k + d) ws).getD i 0 = (extend k ws).getD i 0 := by
  induction d with
  | zero => rfl
  | succ d ih =>
    rw [show k + (d + 1) = (k + d) + 1 by omega]
    simp only [extend]
    rw [List.getD_eq_getElem?_getD, List.getElem?_append_left (by rw [extend_length]; omega), ← List.getD_eq_getElem?_getD]
    exact ih
/-- the words of the schedule, and 16 more -/
def Wd (ws : List Nat) (i : Nat) : Nat := (extend 64 ws).getD i 0
theorem Wd_old (ws : List Nat) (hl : ws.length = 16) {i k : Nat} (hk : k ≤ 64) (h : i < 16 + k) : Wd ws i = (extend k ws).getD i 0 := by
  unfold Wd
  rw [show 64 = k + (64 - k) by omega]
  exact extend_get ws i k _ (by omega)
theorem Wd_next (ws : List Nat) (hl : ws.length = 16) {t : Nat} (ht : t < 64) : Wd ws (t + 16) = (Wd ws t + Wd ws (t + 9) + sg0 (Wd ws (t + 1)) + sg1 (Wd ws (t + 14))) % 4294967296 := by
  rw [Wd_old ws hl (k := t + 1) (by omega) (by omega), Wd_old ws hl (i := t) (k := t) (by omega) (by omega), Wd_old ws hl (i := t + 9) (k := t) (by omega) (by omega), Wd_old ws hl (i := t + 1) (k := t) (by omega) (by omega), Wd_old ws hl (i := t + 14) (k := t) (by omega) (by omega)]
  simp only [extend]
  rw [List.getD_eq_getElem?_getD, List.getElem?_append_right (by rw [extend_length]; omega), ← List.getD_eq_getElem?_getD]
  simp only [extend_length, hl]
  rw [show t + 16 - (16 + t) = 0 by omega]
  simp only [List.getD_cons_zero, nextWord, extend_length, hl]
  rw [show 16 + t - 16 = t by omega, show 16 + t - 7 = t + 9 by omega, show 16 + t - 15 = t + 1 by omega, show 16 + t - 2 = t + 14 by omega]
theorem Wd_lt (ws : List Nat) (hl : ws.length = 16) (hw : ∀ x ∈ ws, x < 4294967296) (i : Nat) (hi : i < 80) : Wd ws i < 4294967296 := by
  by_cases h : i < 16
  · rw [Wd_old ws hl (k := 0) (by omega) (by omega)]
    simp only [extend]
    rw [List.getD_eq_getElem?_getD, List.getElem?_eq_getElem (by omega)]
    exact hw _ (List.getElem_mem _)
  · have := Wd_next ws hl (t := i - 16) (by omega)
    rw [show i - 16 + 16 = i by omega] at this
    rw [this]
    exact Nat.mod_lt _ (by omega)
theorem rnd_cons {α : Type} (Q : Nat → Nat → Nat → Nat → Nat → Nat → Nat → Nat → α) (k : Nat) (ks : List Nat) (w0 w1 w2 w3 w4 w5 w6 w7 w8 w9 w10 w11 w12 w13 w14 w15 a b c d e f g h : Nat) :
    rnd Q (k :: ks) w0 w1 w2 w3 w4 w5 w6 w7 w8 w9 w10 w11 w12 w13 w14 w15 a b c d e f g h = rnd Q ks w1 w2 w3 w4 w5 w6 w7 w8 w9 w10 w11 w12 w13 w14 w15 (fw w0 w1 w9 w14) ((f1 e f g h k w0 + f2 a b c) % 4294967296) a b c ((d + f1 e f g h k w0) % 4294967296) e f g := by
  show (fc (f1 e f g h k w0) fun t => fc (Nat.mod (Nat.add t (f2 a b c)) 4294967296) fun a' => fc (Nat.mod (Nat.add d t) 4294967296) fun e' => fc (fw w0 w1 w9 w14) fun w16 => rnd Q ks w1 w2 w3 w4 w5 w6 w7 w8 w9 w10 w11 w12 w13 w14 w15 w16 a' a b c e' e f g) = _
  rw [fc_eq, fc_eq, fc_eq, fc_eq]
  rfl
theorem rnd_ok {α : Type} (Q : Nat → Nat → Nat → Nat → Nat → Nat → Nat → Nat → α) (ws : List Nat) (hl : ws.length = 16) (hw : ∀ x ∈ ws, x < 4294967296) (s0 : H8) (h0 : s0.Ok) (N : Nat) (hN : N = 64) :
    ∀ (n t : Nat), t + n = N → ∀ s, s = rounds (extend 48 ws) t s0 → rnd Q (K.drop t) (Wd ws t) (Wd ws (t + 1)) (Wd ws (t + 2)) (Wd ws (t + 3)) (Wd ws (t + 4)) (Wd ws (t + 5)) (Wd ws (t + 6)) (Wd ws (t + 7)) (Wd ws (t + 8)) (Wd ws (t + 9)) (Wd ws (t + 10)) (Wd ws (t + 11)) (Wd ws (t + 12)) (Wd ws (t + 13)) (Wd ws (t + 14)) (Wd ws (t + 15)) s.a s.b s.c s.d s.e s.f s.g s.h
      = (fun r : H8 => Q r.a r.b r.c r.d r.e r.f r.g r.h) (rounds (extend 48 ws) N s0) := by
  intro n
  induction n with
  | zero =>
    intro t ht s hs
    obtain rfl : t = N := by omega
    rw [show K.drop t = [] by subst hN; rfl]
    subst hs
    rfl
  | succ n ih =>
    intro t ht s hs
    have htl : t < K.length := by rw [K_length]; omega
    have hok : s.Ok := hs ▸ rounds_ok _ h0 t
    obtain ⟨ka, kb, kc, kd, ke, kf, kg, kh⟩ := hok
    have ih := ih (t + 1) (by omega) (round s (K.getD t 0) (Wd ws t)) (by
      subst hs
      show _ = round _ (K.getD t 0) ((extend 48 ws).getD t 0)
      rw [Wd_old ws hl (k := 48) (by omega) (by omega)])
    rw [← ih, List.drop_eq_getElem_cons htl, rnd_cons]
    have e1 : f1 s.e s.f s.g s.h K[t] (Wd ws t) = one s (K.getD t 0) (Wd ws t) := by
      unfold f1 one
      rw [fb1_eq ke, List.getD_eq_getElem?_getD, List.getElem?_eq_getElem htl]
      rfl
    have e2 : f2 s.a s.b s.c = two s := by
      unfold f2 two
      rw [fb0_eq ka]
      rfl
    have e3 : fw (Wd ws t) (Wd ws (t + 1)) (Wd ws (t + 9)) (Wd ws (t + 14)) = Wd ws (t + 16) := by
      rw [Wd_next ws hl (by omega)]
      unfold fw
      rw [fg0_eq (Wd_lt ws hl hw _ (by omega)), fg1_eq (Wd_lt ws hl hw _ (by omega))]
      rfl
    rw [e1, e2, e3]
    simp only [Nat.add_assoc, Nat.reduceAdd]
    rfl
/-! a message's words -/
def u8n (l : List Nat) : List UInt8 := l.map UInt8.ofNat
noncomputable def w4 {α : Type} (l : List Nat) (k : Nat → List Nat → α) : α :=
  List.rec (motive := fun _ => α) (k 0 []) (fun a l _ => List.rec (motive := fun _ => α) (k 0 []) (fun b l _ => List.rec (motive := fun _ => α) (k 0 []) (fun c l _ => List.rec (motive := fun _ => α) (k 0 [])
    (fun d l _ => fc (Nat.add (Nat.add (Nat.add (Nat.mul (Nat.mod a 256) 16777216) (Nat.mul (Nat.mod b 256) 65536)) (Nat.mul (Nat.mod c 256) 256)) (Nat.mod d 256)) fun w => k w l) l) l) l) l
theorem toNat_ofNat (n : Nat) : (UInt8.ofNat n).toNat = n % 256 := by simp
theorem w4_eq {α : Type} (l : List Nat) (k : Nat → List Nat → α) (h : 4 ≤ l.length) : w4 l k = k ((words (u8n l)).headD 0) (l.drop 4) := by
  match l, h with
  | a :: b :: c :: d :: l, _ =>
    show fc (Nat.add (Nat.add (Nat.add (Nat.mul (Nat.mod a 256) 16777216) (Nat.mul (Nat.mod b 256) 65536)) (Nat.mul (Nat.mod c 256) 256)) (Nat.mod d 256)) (fun w => k w l) = _
    rw [fc_eq]
    simp only [u8n, List.map_cons, words, List.headD_cons, List.drop_succ_cons, List.drop_zero, word4, toNat_ofNat]
    rfl
theorem words_get : ∀ (i : Nat) (l : List UInt8), (words l).getD i 0 = (words (l.drop (4 * i))).headD 0
  | 0, l => by
    rw [Nat.mul_zero, List.drop_zero]
    cases words l <;> rfl
  | i + 1, l => by
    match l with
    | [] => simp [words]
    | [a] => rw [List.drop_eq_nil_of_le (by simp; omega)]; simp [words]
    | [a, b] => rw [List.drop_eq_nil_of_le (by simp; omega)]; simp [words]
    | [a, b, c] => rw [List.drop_eq_nil_of_le (by simp; omega)]; simp [words]
    | a :: b :: c :: d :: l =>
      rw [show 4 * (i + 1) = 4 * i + 1 + 1 + 1 + 1 by omega]
      simp only [words, List.getD_cons_succ, List.drop_succ_cons]
      exact words_get i l
theorem words_head_take (l : List UInt8) (n : Nat) (hn : 4 ≤ n) : (words (l.take n)).headD 0 = (words l).headD 0 := by
  match l, n, hn with
  | [], n, _ => simp
  | [a], n, _ => rw [List.take_of_length_le (by simp; omega)]
  | [a, b], n, _ => rw [List.take_of_length_le (by simp; omega)]
  | [a, b, c], n, _ => rw [List.take_of_length_le (by simp; omega)]
  | a :: b :: c :: d :: l, n + 4, _ => rfl
theorem words_length : ∀ (n : Nat) (l : List UInt8), l.length = 4 * n → (words l).length = n
  | 0, l, h => by obtain rfl := List.eq_nil_of_length_eq_zero (by omega : l.length = 0); rfl
  | n + 1, l, h => by
    match l, h with
    | a :: b :: c :: d :: l, h =>
      simp only [words, List.length_cons] at h ⊢
      rw [words_length n l (by omega)]
    | [], h => simp at h
    | [a], h => simp at h; omega
    | [a, b], h => simp at h; omega
    | [a, b, c], h => simp at h; omega
theorem words_lt : ∀ (l : List UInt8) (x : Nat), x ∈ words l → x < 4294967296
  | a :: b :: c :: d :: l, x, h => by
    simp only [words, List.mem_cons] at h
    rcases h with rfl | h
    · have := a.toNat_lt; have := b.toNat_lt; have := c.toNat_lt; have := d.toNat_lt
      unfold word4
      omega
    · exact words_lt l x h
  | [], x, h => by simp [words] at h
  | [a], x, h => by simp [words] at h
  | [a, b], x, h => by simp [words] at h
  | [a, b, c], x, h => by simp [words] at h
theorem u8n_drop (l : List Nat) (n : Nat) : u8n (l.drop n) = (u8n l).drop n := by unfold u8n; rw [List.map_drop]
/-- the words of the first block -/
theorem head_at (l : List Nat) (hl : 64 ≤ l.length) (i : Nat) (hi : i < 16) : (words (u8n (l.drop (4 * i)))).headD 0 = Wd (words ((u8n l).take 64)) i := by
  have h1 : (words ((u8n l).take 64)).length = 16 := words_length 16 _ (by simp [u8n]; omega)
  rw [Wd_old _ h1 (k := 0) (by omega) (by omega)]
  simp only [extend]
  rw [words_get, List.drop_take, words_head_take _ _ (by omega), u8n_drop]
noncomputable def bstep {α : Type} (ih : List Nat → Nat → Nat → Nat → Nat → Nat → Nat → Nat → Nat → α) (l : List Nat) (a b c d e f g h : Nat) : α :=
  w4 l fun w0 l => w4 l fun w1 l => w4 l fun w2 l => w4 l fun w3 l => w4 l fun w4' l => w4 l fun w5 l => w4 l fun w6 l => w4 l fun w7 l =>
      w4 l fun w8 l => w4 l fun w9 l => w4 l fun w10 l => w4 l fun w11 l => w4 l fun w12 l => w4 l fun w13 l => w4 l fun w14 l => w4 l fun w15 l =>
      rnd (fun a' b' c' d' e' f' g' h' => fc (Nat.mod (Nat.add a a') 4294967296) fun A => fc (Nat.mod (Nat.add b b') 4294967296) fun B => fc (Nat.mod (Nat.add c c') 4294967296) fun C => fc (Nat.mod (Nat.add d d') 4294967296) fun D =>
        fc (Nat.mod (Nat.add e e') 4294967296) fun E => fc (Nat.mod (Nat.add f f') 4294967296) fun F => fc (Nat.mod (Nat.add g g') 4294967296) fun G => fc (Nat.mod (Nat.add h h') 4294967296) fun H => ih l A B C D E F G H)
        K w0 w1 w2 w3 w4' w5 w6 w7 w8 w9 w10 w11 w12 w13 w14 w15 a b c d e f g h
noncomputable def blks {α : Type} (Q : Nat → Nat → Nat → Nat → Nat → Nat → Nat → Nat → α) (n : Nat) : List Nat → Nat → Nat → Nat → Nat → Nat → Nat → Nat → Nat → α :=
  Nat.rec (motive := fun _ => List Nat → Nat → Nat → Nat → Nat → Nat → Nat → Nat → Nat → α) (fun _ a b c d e f g h => Q a b c d e f g h) (fun _ ih l a b c d e f g h => bstep ih l a b c d e f g h) n
theorem w4_at {α : Type} (l : List Nat) (hl : 64 ≤ l.length) (i : Nat) (hi : i < 16) (k : Nat → List Nat → α) : w4 (l.drop (4 * i)) k = k (Wd (words ((u8n l).take 64)) i) (l.drop (4 * (i + 1))) := by
  rw [w4_eq _ _ (by rw [List.length_drop]; omega), head_at l hl i hi, List.drop_drop, show 4 * i + 4 = 4 * (i + 1) by omega]
theorem w4_0 {α : Type} (l : List Nat) (hl : 64 ≤ l.length) (k : Nat → List Nat → α) : w4 l k = k (Wd (words ((u8n l).take 64)) 0) (l.drop (4 * 1)) := w4_at l hl 0 (by omega) k
theorem rnd_blk {α : Type} (Q : Nat → Nat → Nat → Nat → Nat → Nat → Nat → Nat → α) (b : List UInt8) (hb : b.length = 64) (s : H8) (h0 : s.Ok) :
    rnd Q K (Wd (words b) 0) (Wd (words b) 1) (Wd (words b) 2) (Wd (words b) 3) (Wd (words b) 4) (Wd (words b) 5) (Wd (words b) 6) (Wd (words b) 7) (Wd (words b) 8) (Wd (words b) 9) (Wd (words b) 10) (Wd (words b) 11) (Wd (words b) 12) (Wd (words b) 13) (Wd (words b) 14) (Wd (words b) 15) s.a s.b s.c s.d s.e s.f s.g s.h
      = (fun r : H8 => Q r.a r.b r.c r.d r.e r.f r.g r.h) (rounds (sched b) 64 s) := by
  have := rnd_ok Q (words b) (words_length 16 b (by omega)) (words_lt b) s h0 64 rfl 64 0 (by omega) s rfl
  unfold sched
  simpa only [Nat.zero_add, List.drop_zero] using this
theorem blks_succ {α : Type} (Q : Nat → Nat → Nat → Nat → Nat → Nat → Nat → Nat → α) (n : Nat) (l : List Nat) (s : H8) (h0 : s.Ok) (hl : 64 ≤ l.length) :
    blks Q (n + 1) l s.a s.b s.c s.d s.e s.f s.g s.h = (fun r : H8 => blks Q n (l.drop 64) r.a r.b r.c r.d r.e r.f r.g r.h) (mix s ((u8n l).take 64)) := by
  show bstep (blks Q n) l s.a s.b s.c s.d s.e s.f s.g s.h = _
  unfold bstep
  rw [w4_0 l hl, w4_at l hl 1 (by omega), w4_at l hl 2 (by omega), w4_at l hl 3 (by omega), w4_at l hl 4 (by omega), w4_at l hl 5 (by omega), w4_at l hl 6 (by omega), w4_at l hl 7 (by omega),
    w4_at l hl 8 (by omega), w4_at l hl 9 (by omega), w4_at l hl 10 (by omega), w4_at l hl 11 (by omega), w4_at l hl 12 (by omega), w4_at l hl 13 (by omega), w4_at l hl 14 (by omega), w4_at l hl 15 (by omega)]
  rw [rnd_blk _ _ (by simp [u8n]; omega) s h0]
  unfold mix
  generalize rounds (sched ((u8n l).take 64)) 64 s = R
  simp only [fc_eq]
  rfl
theorem blks_ok {α : Type} (Q : Nat → Nat → Nat → Nat → Nat → Nat → Nat → Nat → α) : ∀ (n : Nat) (l : List Nat) (s : H8), s.Ok → 64 * n ≤ l.length →
    blks Q n l s.a s.b s.c s.d s.e s.f s.g s.h = (fun r : H8 => Q r.a r.b r.c r.d r.e r.f r.g r.h) (blocks n s (u8n l))
  | 0, l, s, h, _ => rfl
  | n + 1, l, s, h, hl => by
    rw [blks_succ Q n l s h (by omega)]
    show blks Q n (l.drop 64) _ _ _ _ _ _ _ _ = _
    rw [blks_ok Q n (l.drop 64) (mix s ((u8n l).take 64)) (mix_ok _ _) (by rw [List.length_drop]; omega)]
    simp only [blocks, u8n_drop]
/-! a message whole -/
noncomputable def app (l m : List Nat) : List Nat := List.rec (motive := fun _ => List Nat) m (fun a _ ih => a :: ih) l
theorem app_eq (l m : List Nat) : app l m = l ++ m := by
  induction l with
  | nil => rfl
  | cons a l ih => show a :: app l m = _; rw [ih]; rfl
noncomputable def rep0 (n : Nat) : List Nat := Nat.rec (motive := fun _ => List Nat) [] (fun _ ih => 0 :: ih) n
theorem rep0_eq (n : Nat) : rep0 n = List.replicate n 0 := by
  induction n with
  | zero => rfl
  | succ n ih => show 0 :: rep0 n = _; rw [ih]; rfl
noncomputable def lenN (l : List Nat) : Nat → Nat := List.rec (motive := fun _ => Nat → Nat) (fun a => a) (fun _ _ ih a => fc (Nat.add a 1) ih) l
theorem lenN_eq (l : List Nat) : ∀ a, lenN l a = l.length + a := by
  induction l with
  | nil => intro a; exact (Nat.zero_add a).symm
  | cons x l ih =>
    intro a
    show fc (Nat.add a 1) (lenN l) = _
    rw [fc_eq, ih, List.length_cons]
    show l.length + (a + 1) = _
    omega
noncomputable def be8 (n : Nat) : List Nat := [Nat.div n 72057594037927936, Nat.div n 281474976710656, Nat.div n 1099511627776, Nat.div n 4294967296, Nat.div n 16777216, Nat.div n 65536, Nat.div n 256, n]
theorem be8_eq (n : Nat) : u8n (be8 n) = beBytes n 8 := by
  show [_, _, _, _, _, _, _, _] = [UInt8.ofNat (n / 256 ^ 7), UInt8.ofNat (n / 256 ^ 6), UInt8.ofNat (n / 256 ^ 5), UInt8.ofNat (n / 256 ^ 4), UInt8.ofNat (n / 256 ^ 3), UInt8.ofNat (n / 256 ^ 2), UInt8.ofNat (n / 256 ^ 1), UInt8.ofNat (n / 256 ^ 0)]
  rw [Nat.pow_zero, Nat.div_one]
  rfl
noncomputable def shaK {α : Type} (l : List Nat) (Q : Nat → Nat → Nat → Nat → Nat → Nat → Nat → Nat → α) : α :=
  fc (lenN l 0) fun n => fc (Nat.mod (Nat.sub 119 (Nat.mod n 64)) 64) fun z => fc (Nat.div (Nat.add n (Nat.add z 9)) 64) fun m => fc (Nat.mod (Nat.mul 8 n) 18446744073709551616) fun q =>
    blks Q m (app l (128 :: app (rep0 z) (be8 q))) 1779033703 3144134277 1013904242 2773480762 1359893119 2600822924 528734635 1541459225
theorem u8n_app (l m : List Nat) : u8n (l ++ m) = u8n l ++ u8n m := by unfold u8n; rw [List.map_append]
theorem u8n_rep (n : Nat) : u8n (List.replicate n 0) = List.replicate n 0 := by unfold u8n; rw [List.map_replicate]; rfl
theorem shaK_eq {α : Type} (l : List Nat) (Q : Nat → Nat → Nat → Nat → Nat → Nat → Nat → Nat → α) : shaK l Q = (fun r : H8 => Q r.a r.b r.c r.d r.e r.f r.g r.h) (behind (pad (u8n l))) := by
  unfold shaK
  simp only [fc_eq, lenN_eq, Nat.add_zero, app_eq, rep0_eq]
  have hlen : (u8n l).length = l.length := by simp [u8n]
  have e1 : u8n (l ++ 128 :: (List.replicate ((119 - l.length % 64) % 64) 0 ++ be8 (8 * l.length % 18446744073709551616))) = pad (u8n l) := by
    unfold pad
    rw [show (128 :: (List.replicate ((119 - l.length % 64) % 64) 0 ++ be8 (8 * l.length % 18446744073709551616))) = [128] ++ (List.replicate ((119 - l.length % 64) % 64) 0 ++ be8 (8 * l.length % 18446744073709551616)) from rfl]
    rw [u8n_app, u8n_app, u8n_app, be8_eq, u8n_rep, hlen]
    simp only [List.append_assoc]
    rfl
  have e2 : (pad (u8n l)).length / 64 = (l.length + ((119 - l.length % 64) % 64 + 9)) / 64 := by
    unfold pad zeros
    simp only [List.length_append, List.length_cons, List.length_nil, List.length_replicate, beBytes_length, hlen]
    congr 1
    omega
  have := blks_ok Q ((l.length + ((119 - l.length % 64) % 64 + 9)) / 64) (l ++ 128 :: (List.replicate ((119 - l.length % 64) % 64) 0 ++ be8 (8 * l.length % 18446744073709551616))) init init_ok (by
    have h1 : (l ++ 128 :: (List.replicate ((119 - l.length % 64) % 64) 0 ++ be8 (8 * l.length % 18446744073709551616))).length = l.length + ((119 - l.length % 64) % 64 + 9) := by
      simp only [be8, List.length_append, List.length_cons, List.length_nil, List.length_replicate] <;> omega
    rw [h1]
    exact Nat.mul_div_le _ _)
  rw [e1] at this
  rw [behind, e2]
  exact this
noncomputable def sumN (a b c d e f g h : Nat) : List Nat :=
  [Nat.div a 16777216, Nat.div a 65536, Nat.div a 256, a, Nat.div b 16777216, Nat.div b 65536, Nat.div b 256, b, Nat.div c 16777216, Nat.div c 65536, Nat.div c 256, c, Nat.div d 16777216, Nat.div d 65536, Nat.div d 256, d,
   Nat.div e 16777216, Nat.div e 65536, Nat.div e 256, e, Nat.div f 16777216, Nat.div f 65536, Nat.div f 256, f, Nat.div g 16777216, Nat.div g 65536, Nat.div g 256, g, Nat.div h 16777216, Nat.div h 65536, Nat.div h 256, h]
theorem be4 (n : Nat) : beBytes n 4 = [UInt8.ofNat (Nat.div n 16777216), UInt8.ofNat (Nat.div n 65536), UInt8.ofNat (Nat.div n 256), UInt8.ofNat n] := by
  show [UInt8.ofNat (n / 256 ^ 3), UInt8.ofNat (n / 256 ^ 2), UInt8.ofNat (n / 256 ^ 1), UInt8.ofNat (n / 256 ^ 0)] = _
  rw [Nat.pow_zero, Nat.div_one]
  rfl
theorem sumN_eq (r : H8) : u8n (sumN r.a r.b r.c r.d r.e r.f r.g r.h) = sumOf r := by
  unfold sumOf H8.list
  simp only [List.flatMap_cons, List.flatMap_nil, be4]
  rfl
noncomputable def xorN (x : Nat) (l : List Nat) : List Nat := List.rec (motive := fun _ => List Nat) [] (fun a _ ih => Nat.xor (Nat.mod a 256) x :: ih) l
theorem xorN_eq (x : Nat) (hx : x < 256) (l : List Nat) : u8n (xorN x l) = keyed (u8n l) (UInt8.ofNat x) := by
  induction l with
  | nil => rfl
  | cons a l ih =>
    show UInt8.ofNat ((a % 256) ^^^ x) :: u8n (xorN x l) = _
    rw [ih]
    show _ = (UInt8.ofNat a ^^^ UInt8.ofNat x) :: _
    congr 1
    apply UInt8.toNat_inj.1
    rw [UInt8.toNat_xor, toNat_ofNat, toNat_ofNat, toNat_ofNat, Nat.mod_eq_of_lt hx]
    exact Nat.mod_eq_of_lt (Nat.xor_lt_two_pow (n := 8) (Nat.mod_lt _ (by omega)) hx)
noncomputable def hmacB {α : Type} (b l : List Nat) (Q : Nat → Nat → Nat → Nat → Nat → Nat → Nat → Nat → α) : α :=
  shaK (app (xorN 54 b) l) fun a' b' c d e f g h => shaK (app (xorN 92 b) (sumN a' b' c d e f g h)) Q
noncomputable def hmacK {α : Type} (k l : List Nat) (Q : Nat → Nat → Nat → Nat → Nat → Nat → Nat → Nat → α) : α :=
  fc (lenN k 0) fun n => bif Nat.ble n 64 then hmacB (app k (rep0 (Nat.sub 64 n))) l Q else shaK k fun a b c d e f g h => hmacB (app (sumN a b c d e f g h) (rep0 32)) l Q
theorem hmacB_eq {α : Type} (b l : List Nat) (Q : Nat → Nat → Nat → Nat → Nat → Nat → Nat → Nat → α) : ∃ r : H8, hmacB b l Q = Q r.a r.b r.c r.d r.e r.f r.g r.h ∧ sumOf r = sha256 (keyed (u8n b) 92 ++ sha256 (keyed (u8n b) 54 ++ u8n l)) := by
  unfold hmacB
  rw [shaK_eq]
  dsimp only
  rw [shaK_eq]
  refine ⟨_, rfl, ?_⟩
  simp only [app_eq, u8n_app, sumN_eq, xorN_eq _ (by omega : 54 < 256), xorN_eq _ (by omega : 92 < 256)]
  rfl
theorem hmacK_eq {α : Type} (k l : List Nat) (Q : Nat → Nat → Nat → Nat → Nat → Nat → Nat → Nat → α) : ∃ r : H8, hmacK k l Q = Q r.a r.b r.c r.d r.e r.f r.g r.h ∧ sumOf r = hmac (u8n k) (u8n l) := by
  have hlen : (u8n k).length = k.length := by simp [u8n]
  unfold hmacK
  rw [fc_eq, lenN_eq, Nat.add_zero]
  cases h : Nat.ble k.length 64 with
  | true =>
    have hle := Nat.le_of_ble_eq_true h
    obtain ⟨r, e1, e2⟩ := hmacB_eq (app k (rep0 (Nat.sub 64 k.length))) l Q
    refine ⟨r, e1, ?_⟩
    rw [e2, app_eq, rep0_eq, u8n_app, u8n_rep]
    unfold hmac block
    simp only [hlen, if_pos hle]
    rfl
  | false =>
    have hle : ¬ k.length ≤ 64 := fun hh => by rw [Nat.ble_eq_true_of_le hh] at h; cases h
    show ∃ r : H8, shaK k _ = _ ∧ _
    rw [shaK_eq]
    dsimp only
    obtain ⟨r, e1, e2⟩ := hmacB_eq (app (sumN (behind (pad (u8n k))).a (behind (pad (u8n k))).b (behind (pad (u8n k))).c (behind (pad (u8n k))).d (behind (pad (u8n k))).e (behind (pad (u8n k))).f (behind (pad (u8n k))).g (behind (pad (u8n k))).h) (rep0 32)) l Q
    refine ⟨r, e1, ?_⟩
    rw [e2, app_eq, rep0_eq, u8n_app, u8n_rep, sumN_eq]
    unfold hmac block
    simp only [hlen, if_neg hle, sha_length]
    rfl
end Go.Proofs.YtmhbmjagnihopaaGreatDoor.Shn
