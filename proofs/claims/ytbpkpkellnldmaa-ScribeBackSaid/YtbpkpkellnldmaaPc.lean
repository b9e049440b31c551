/- The pieces of layer 1's statements: rows of structs, 'few'. By an AI agent. -/
import Derived.Test.YtbpkpkellnldmaaProg
import Derived.Test.YtbpkpkellnldmaaM
import Derived.Deep.AppendLies
namespace Go.Proofs.Ytbpkpkellnldmaa.Pc
open Go.RowKit Go.Proofs.Ytbpkpkellnldmaa.M
set_option linter.unusedVariables false

/-- a slice value of n elements of 'size' cells each, all of them 'xs'; they lie in blocks of S -/
def Sl (w : World) (S : Nat → Prop) (size : Nat) (v : Value) (n : Nat) (xs : List Value) : Prop :=
  ∃ (A : Option Addr) (c : Nat), v = .slice A n c ∧ xs.length = n * size ∧ n ≤ c ∧ n ≤ maxLen ∧
    (A = none → n = 0) ∧ ∀ ad, A = some ad → 0 < n → S ad.block ∧ ∀ j u, xs[j]? = some u → w.cell? (ad.add j) = some u
section
variable {w w' : World} {S T : Nat → Prop} {size n : Nat} {v : Value} {xs : List Value}
theorem Sl.same (h : Sl w S size v n xs) (hs : Same S w w') : Sl w' S size v n xs := by
  obtain ⟨A, c, rfl, hl, hnc, hm, h0, hc⟩ := h
  exact ⟨A, c, rfl, hl, hnc, hm, h0, fun ad e hn => ⟨(hc ad e hn).1, fun j b hb => by rw [hs.cell (by rw [M.block_add]; exact (hc ad e hn).1)]; exact (hc ad e hn).2 j b hb⟩⟩
theorem Sl.sub (h : Sl w S size v n xs) (k : ∀ i, S i → T i) : Sl w T size v n xs := by
  obtain ⟨A, c, rfl, hl, hnc, hm, h0, hc⟩ := h
  exact ⟨A, c, rfl, hl, hnc, hm, h0, fun ad e hn => ⟨k _ (hc ad e hn).1, (hc ad e hn).2⟩⟩
/-- the elements, where there is one -/
theorem Sl.at_ (h : Sl w S size v n xs) (hsz : 0 < size) : ∃ A c, v = .slice A n c ∧ n ≤ c ∧ n ≤ maxLen ∧ ∀ k, k < n → ∃ b off, A = some ⟨b, off, none⟩ ∧ S b ∧ ∀ j u, j < size → xs[k * size + j]? = some u → w.cell? ⟨b, off + (k * size + j), none⟩ = some u := by
  obtain ⟨A, c, rfl, hl, hnc, hm, h0, hc⟩ := h
  refine ⟨A, c, rfl, hnc, hm, fun k hk => ?_⟩
  rcases A with _ | ad
  · have := h0 rfl; omega
  · obtain ⟨hs, hcell⟩ := hc ad rfl (by omega)
    obtain ⟨b, off, spot⟩ := ad
    have hp : 0 < xs.length := by rw [hl]; exact Nat.mul_pos (by omega) hsz
    have hc0 := hcell 0 _ (List.getElem?_eq_getElem hp)
    have hspot : spot = none := by simpa [Addr.add] using World.cell?_spot hc0
    subst hspot
    refine ⟨b, off, rfl, hs, fun j u _ hj => ?_⟩
    have := hcell _ u hj
    rwa [Addr.add_lit] at this
theorem sl_of_own {base e : Nat} (h : w.ownsRow base e size v n xs) : Sl w (fun k => base ≤ k ∧ k < w.heap.size) size v n xs := by
  have hl := h.1
  rcases h.2 with ⟨rfl, rfl⟩ | ⟨g, cap, cur, rfl, hb, hg, hnc, hcm, hsz, htake⟩
  · exact ⟨none, 0, rfl, hl, Nat.le_refl _, by unfold maxLen; omega, fun _ => rfl, fun _ e => by cases e⟩
  · refine ⟨_, cap, rfl, hl, hnc, by omega, (fun h0 => by cases h0), ?_⟩
    intro ad h1 _
    cases h1
    exact ⟨⟨hb, (Array.getElem?_eq_some_iff.1 hg).1⟩, h.cells (g := g) rfl⟩
end

structure P where
  what : Int
  n : Nat
  text : ByteArray
def P.cells (p : P) : List Value := [.int .i64 p.what, .int .u64 (p.n : Int), .string p.text]
def P.Ok (p : P) : Prop := -9223372036854775808 ≤ p.what ∧ p.what ≤ 9223372036854775807 ∧ p.n < 18446744073709551616 ∧ p.text.size ≤ maxLen
def flat (l : List P) : List Value := l.flatMap P.cells
theorem flat_length (l : List P) : (flat l).length = l.length * 3 := by
  induction l with
  | nil => rfl
  | cons p l ih => simp [flat, P.cells] at *; omega
theorem flat_at (l : List P) (k : Nat) (p : P) (h : l[k]? = some p) (j : Nat) (hj : j < 3) : (flat l)[k * 3 + j]? = p.cells[j]? := by
  induction l generalizing k with
  | nil => simp at h
  | cons q l ih =>
    cases k with
    | zero =>
      simp at h
      subst h
      have hq : q.cells.length = 3 := rfl
      simp only [flat, List.flatMap_cons, Nat.zero_mul, Nat.zero_add]
      rw [List.getElem?_append_left (by omega)]
    | succ k =>
      simp at h
      have hq : q.cells.length = 3 := rfl
      simp only [flat, List.flatMap_cons]
      rw [List.getElem?_append_right (by omega), hq, show (k + 1) * 3 + j - 3 = k * 3 + j from by omega]
      exact ih k h
theorem infoPiece : (Try.prog.info? 31).map (fun i => (i.zero, i.size, i.bytes)) = some (some (.agg #[.int .i64 0, .int .u64 0, .string ⟨#[]⟩]), 3, 32) := by kernel_rfl
/-- what a text's cut leaves -/
def cut (p : P) : P := ⟨p.what, p.n, p.text.extract 0 (min p.text.size 100)⟩

def fewOf (l : List P) (m k : Nat) : List P := ((l.take k).map cut).take m
theorem fewOf_zero (l : List P) (m : Nat) : fewOf l m 0 = [] := by simp [fewOf]
theorem fewOf_more (l : List P) (m k : Nat) (p : P) (h : l[k]? = some p) (hk : k < m) : fewOf l m (k + 1) = fewOf l m k ++ [cut p] := by
  have hlt := (List.getElem?_eq_some_iff.1 h).1
  unfold fewOf
  rw [List.take_add_one, h, List.map_append, List.take_append, List.length_map, List.length_take, Nat.min_eq_left (by omega), List.take_of_length_le (by simp; omega)]
  simp
  rw [List.take_of_length_le (by simp; omega)]
theorem fewOf_same (l : List P) (m k : Nat) (p : P) (h : l[k]? = some p) (hk : m ≤ k) : fewOf l m (k + 1) = fewOf l m k := by
  have hlt := (List.getElem?_eq_some_iff.1 h).1
  unfold fewOf
  rw [List.take_add_one, h, List.map_append, List.take_append_of_le_length (by rw [List.length_map, List.length_take]; omega)]
theorem fewOf_le (l : List P) (m k : Nat) : (fewOf l m k).length ≤ m := by unfold fewOf; rw [List.length_take]; omega
theorem fewOf_all (l : List P) (m : Nat) : fewOf l m l.length = (l.map cut).take m := by simp [fewOf]
theorem news2 (w : World) (C : Obj) (cs : Array Value) (t : TypeId) (j : Nat) (u : Value) (h : cs.toList[j]? = some u) : ((w.alloc C).alloc (.cells cs t)).cell? ((⟨w.heap.size + 1, 0, none⟩ : Addr).add j) = some u := by
  have hb := heap_alloc_new (w.alloc C) (.cells cs t)
  rw [show (w.alloc C).heap.size = w.heap.size + 1 from by simp] at hb
  exact World.news_of_block hb j u h
theorem flat_snoc (l : List P) (p : P) : flat (l ++ [p]) = flat l ++ p.cells := by simp [flat]

set_option maxRecDepth 100000 in
set_option maxHeartbeats 800000 in
theorem few_any (v : Value) (l : List P) (m : Nat) (S : Nat → Prop) (w : World) (hv : Sl w S 3 v l.length (flat l)) (hok : ∀ p ∈ l, p.Ok) (hS : ∀ i, S i → i < w.heap.size) (hm : m ≤ 1000) :
    Calls Try.prog 9 #[v, .int .i64 (m : Int)] w fun e w' => ∃ v', e = .returned v' ∧ Sl w' (fun k => w.heap.size ≤ k ∧ k < w'.heap.size) 3 v' (fewOf l m l.length).length (flat (fewOf l m l.length)) ∧ Below w.heap.size w w' := by
  obtain ⟨A, c, rfl, hnc, hml, hat⟩ := hv.at_ (by omega)
  unfold maxLen at hml
  obtain ⟨i0, hi0, hz0, hz1, hz2⟩ := info_parts infoPiece
  go_enter Try.func9, Try.ntmps9
  go_wp2
  go_loopw [5, 10] (fun o i wr => ∃ k : Nat, k ≤ l.length ∧ i = .int .i64 k ∧ wr.ownsRow w.heap.size 31 3 o (fewOf l m k).length (flat (fewOf l m k)) ∧ Below w.heap.size w wr) (fun _ i _ => l.length - (intOf i).toNat)
  case atStart => exact ⟨0, Nat.zero_le _, rfl, by rw [fewOf_zero]; exact World.ownsRow_nil _ _ _ _, Below.refl _ _⟩
  case round =>
    obtain ⟨k, hk, rfl, hown, hbel⟩ := hrel
    have HO := Lib.hid hown
    have HB := Lib.hid hbel
    have hz := hbel.size
    clear hown
    by_cases hlt : k < l.length
    · obtain ⟨b, off, rfl, hSb, hcell⟩ := hat k hlt
      have hp := List.getElem?_eq_getElem hlt
      have hpk := hok l[k] (List.getElem_mem hlt)
      generalize l[k] = p at hp hpk
      have hb := hS b hSb
      have c0 : wr.cell? ⟨b, off + k * 3, none⟩ = some (.int .i64 p.what) := (hbel.cell (p := ⟨b, _, none⟩) hb).trans (hcell 0 _ (by omega) (flat_at l k p hp 0 (by omega)))
      have c1 : wr.cell? ⟨b, off + k * 3 + 1, none⟩ = some (.int .u64 (p.n : Int)) := (hbel.cell (p := ⟨b, _, none⟩) hb).trans (by simpa [Nat.add_assoc] using hcell 1 _ (by omega) (flat_at l k p hp 1 (by omega)))
      have c2 : wr.cell? ⟨b, off + k * 3 + 2, none⟩ = some (.string p.text) := (hbel.cell (p := ⟨b, _, none⟩) hb).trans (by simpa [Nat.add_assoc] using hcell 2 _ (by omega) (flat_at l k p hp 2 (by omega)))
      have HP := Lib.hid hp
      obtain ⟨p1, p2, p3, p4⟩ := hpk
      unfold maxLen at p4
      have hle := fewOf_le l m k
      have hn1 : (fewOf l m k).length + 1 ≤ maxLen := by unfold maxLen; omega
      have hn2 : ((fewOf l m k).length + 1) * 32 ≤ 140737488355328 := by omega
      have HN1 := Lib.hid hn1
      have HN2 := Lib.hid hn2
      clear hp hat hok hcell hS hn1 hn2 hle hbel
      have hsz : wr.heap.size + 1 + 1 = wr.heap.size + 2 := rfl
      by_cases hkm : k < m
      · by_cases ht : p.text.size ≤ 100
        · have hct : (cut p).cells = [.int .i64 p.what, .int .u64 (p.n : Int), .string p.text] := by
            unfold cut P.cells
            rw [Nat.min_eq_left ht]
            simp
          have HC := Lib.hid hct
          clear hct
          go_wp2_with (at_builtin; refine wpList_append_own _ rfl (.tmp 26) (.tmp 28) _ rfl w.heap.size _ i0 _ 3 32 Try.underlying22 hi0 hz0 hz1 hz2 rfl (by omega) _ _ _ rfl ((HO.out.alloc _).alloc _) ⟨wr.heap.size + 1, 0, none⟩ 1 1 [.int .i64 p.what, .int .u64 (p.n : Int), .string p.text] (by rfl) (by rfl) (news2 _ _ _ _) (by simp [Value.oneCell']) HN1.out HN2.out (by simp; omega) ?_; intro v1 w1 hown1 hg1 hnil)
          have hbel := HB.out
          go_roundw
          case rel =>
            refine ⟨k + 1, by omega, by go_num, ?_, (((hbel.alloc hz _).alloc (by simp; omega) _).grown hg1 (by simp; omega) (fun i hi => (HO.out.lt i hi).1))⟩
            rw [fewOf_more l m k p HP.out hkm, flat_snoc, HC.out, List.length_append]
            exact hown1
          case measure => simp [intOf]; omega
        · have hct : (cut p).cells = [.int .i64 p.what, .int .u64 (p.n : Int), .string (p.text.extract 0 100)] := by
            unfold cut P.cells
            rw [Nat.min_eq_right (by omega)]
          have HC := Lib.hid hct
          clear hct
          go_wp2_with (at_builtin; refine wpList_append_own _ rfl (.tmp 26) (.tmp 28) _ rfl w.heap.size _ i0 _ 3 32 Try.underlying22 hi0 hz0 hz1 hz2 rfl (by omega) _ _ _ rfl ((HO.out.alloc _).alloc _) ⟨wr.heap.size + 1, 0, none⟩ 1 1 [.int .i64 p.what, .int .u64 (p.n : Int), .string (p.text.extract 0 100)] (by rfl) (by rfl) (news2 _ _ _ _) (by simp [Value.oneCell']) HN1.out HN2.out (by simp; omega) ?_; intro v1 w1 hown1 hg1 hnil)
          have hbel := HB.out
          go_roundw
          case rel =>
            refine ⟨k + 1, by omega, by go_num, ?_, (((hbel.alloc hz _).alloc (by simp; omega) _).grown hg1 (by simp; omega) (fun i hi => (HO.out.lt i hi).1))⟩
            rw [fewOf_more l m k p HP.out hkm, flat_snoc, HC.out, List.length_append]
            exact hown1
          case measure => simp [intOf]; omega
      · go_wp2
        have hbel := HB.out
        go_roundw
        case rel =>
          refine ⟨k + 1, by omega, by go_num, ?_, hbel.alloc hz _⟩
          rw [fewOf_same l m k p HP.out (by omega)]
          exact HO.out.alloc _
        case measure => simp [intOf]; omega
    · obtain rfl : k = l.length := by omega
      go_wp2
      go_ret
      exact ⟨_, rfl, sl_of_own HO.out, HB.out⟩
end Go.Proofs.Ytbpkpkellnldmaa.Pc
