/- Words for memory: what a block holds, what a slice of bytes reads as, and what keeps it. By an AI agent. -/
import Derived.WalkKit
import Derived.ProofKit
import Derived.OpenShut
import Derived.Lib.Hide
import Derived.Laws.BytesArg
import Derived.Lib.ConvBytes
namespace Go.Proofs.Ytcofcojjofkgcaa.M
open Go.RowKit
set_option linter.unusedVariables false

/-- the blocks of S hold what they held -/
def Same (S : Nat → Prop) (w w' : World) : Prop := ∀ b, S b → w'.heap[b]? = w.heap[b]?
theorem Same.refl (S : Nat → Prop) (w : World) : Same S w w := fun _ _ => rfl
theorem Same.trans {S : Nat → Prop} {a b c : World} (h : Same S a b) (k : Same S b c) : Same S a c := fun i hi => (k i hi).trans (h i hi)
theorem Same.sub {S T : Nat → Prop} {a b : World} (h : Same S a b) (k : ∀ i, T i → S i) : Same T a b := fun i hi => h i (k i hi)
theorem Same.cell {S : Nat → Prop} {a b : World} (h : Same S a b) {p : Addr} (hp : S p.block) : b.cell? p = a.cell? p := World.cell?_of_block (h p.block hp)

theorem block_add (a : Addr) (n : Nat) : (a.add n).block = a.block := by unfold Addr.add; split <;> rfl
theorem add_add (a : Addr) (i j : Nat) : (a.add i).add j = a.add (i + j) := by
  unfold Addr.add
  by_cases hi : i = 0 <;> by_cases hj : j = 0 <;> simp [hi, hj, Nat.add_assoc]

def Blk (w : World) (g : Nat) (t : TypeId) (cs : Array Value) : Prop := w.heap[g]? = some (.cells cs t (0, 0))
section
variable {w w' : World} {g : Nat} {t : TypeId} {cs : Array Value}
theorem Blk.lt (h : Blk w g t cs) : g < w.heap.size := by
  rcases Nat.lt_or_ge g w.heap.size with hlt | hge
  · exact hlt
  · unfold Blk at h; rw [Array.getElem?_eq_none hge] at h; cases h
theorem Blk.cell (h : Blk w g t cs) (i : Nat) : w.cell? ⟨g, i, none⟩ = cs[i]? := cell_of_row w g i cs t (0, 0) h
theorem Blk.frozen (h : Blk w g t cs) (i : Nat) : w.frozen? ⟨g, i, none⟩ = false := by
  unfold Blk at h
  simp [World.frozen?, h]
theorem Blk.new (w : World) (t : TypeId) (cs : Array Value) : Blk (w.alloc (.cells cs t)) w.heap.size t cs := heap_alloc_new w _
theorem Blk.same {S : Nat → Prop} (h : Blk w g t cs) (hs : Same S w w') (hg : S g) : Blk w' g t cs := (hs g hg).trans h
end

theorem Blk.alloc {w : World} {g : Nat} {t : TypeId} {cs : Array Value} (h : Blk w g t cs) (o : Obj) : Blk (w.alloc o) g t cs := (Below.heap_alloc w o g h.lt).trans h
/-- a slice value that reads as bytes; its cells lie in blocks of S -/
def Byts (w : World) (S : Nat → Prop) (v : Value) (l : List UInt8) : Prop :=
  ∃ (A : Option Addr) (n c : Nat), v = .slice A n c ∧ l.length = n ∧ n ≤ c ∧ n ≤ maxLen ∧
    (A = none → n = 0) ∧ ∀ ad, A = some ad → 0 < n → S ad.block ∧ ∀ j b, l[j]? = some b → w.cell? (ad.add j) = some (.int .u8 (b.toNat : Int))
section
variable {w w' : World} {S T : Nat → Prop} {v : Value} {l : List UInt8}
theorem Byts.same (h : Byts w S v l) (hs : Same S w w') : Byts w' S v l := by
  obtain ⟨A, n, c, rfl, hl, hnc, hm, h0, hc⟩ := h
  exact ⟨A, n, c, rfl, hl, hnc, hm, h0, fun ad e hn => ⟨(hc ad e hn).1, fun j b hb => by rw [hs.cell (by rw [block_add]; exact (hc ad e hn).1)]; exact (hc ad e hn).2 j b hb⟩⟩
theorem Byts.sub (h : Byts w S v l) (k : ∀ i, S i → T i) : Byts w T v l := by
  obtain ⟨A, n, c, rfl, hl, hnc, hm, h0, hc⟩ := h
  exact ⟨A, n, c, rfl, hl, hnc, hm, h0, fun ad e hn => ⟨k _ (hc ad e hn).1, (hc ad e hn).2⟩⟩
theorem Byts.drew (h : Byts w S v l) : Byts w.drew S v l := h
theorem Byts.nil_ (w : World) (S : Nat → Prop) (c : Nat) : Byts w S (.slice none 0 c) [] := ⟨none, 0, c, rfl, rfl, Nat.zero_le _, by unfold maxLen; omega, fun _ => rfl, fun _ e => by cases e⟩
end

theorem Byts.len {w : World} {S : Nat → Prop} {A : Option Addr} {n c : Nat} {l : List UInt8} (h : Byts w S (.slice A n c) l) : l.length = n := by
  obtain ⟨A', n', c', h1, hl, _⟩ := h
  cases h1
  exact hl

/-- what a walk asks of it: it is empty, or stands at a plain address -/
theorem Byts.open_ {w : World} {S : Nat → Prop} {v : Value} {l : List UInt8} (h : Byts w S v l) :
    (∃ A c, v = .slice A 0 c ∧ l = []) ∨ ∃ b off c, v = .slice (some ⟨b, off, none⟩) l.length c ∧ l.length ≤ c ∧ 0 < l.length ∧ l.length ≤ maxLen ∧ S b ∧ ∀ j x, l[j]? = some x → w.cell? ⟨b, off + j, none⟩ = some (.int .u8 (x.toNat : Int)) := by
  obtain ⟨A, n, c, rfl, rfl, hnc, hm, h0, hc⟩ := h
  rcases Nat.eq_zero_or_pos l.length with hz | hp
  · exact .inl ⟨A, c, by rw [hz], List.eq_nil_of_length_eq_zero hz⟩
  · rcases A with _ | ad
    · have := h0 rfl; omega
    · obtain ⟨hs, hcell⟩ := hc ad rfl hp
      obtain ⟨b, off, spot⟩ := ad
      have hc0 := hcell 0 _ (List.getElem?_eq_getElem hp)
      have hspot : spot = none := by simpa [Addr.add] using World.cell?_spot hc0
      subst hspot
      refine .inr ⟨b, off, c, rfl, hnc, hp, hm, hs, fun j x hj => ?_⟩
      have := hcell j x hj
      rwa [Addr.add_lit] at this

/-- the same, without parting the empty one off: one walk for all -/
theorem Byts.row {w : World} {S : Nat → Prop} {v : Value} {l : List UInt8} (h : Byts w S v l) :
    ∃ A c, v = .slice A l.length c ∧ l.length ≤ c ∧ l.length ≤ maxLen ∧ ∀ j x, l[j]? = some x → ∃ b off, A = some ⟨b, off, none⟩ ∧ S b ∧ w.cell? ⟨b, off + j, none⟩ = some (.int .u8 (x.toNat : Int)) := by
  rcases h.open_ with ⟨A, c, rfl, rfl⟩ | ⟨b, off, c, rfl, hnc, hp, hm, hs, hc⟩
  · exact ⟨A, c, rfl, Nat.zero_le _, by unfold maxLen; simp, fun j x hj => by simp at hj⟩
  · exact ⟨_, c, rfl, hnc, hm, fun j x hj => ⟨b, off, rfl, hs, hc j x hj⟩⟩

/-- the numbers of bytes -/
def nums (l : List UInt8) : List Int := l.map fun b => (b.toNat : Int)
theorem nums_length (l : List UInt8) : (nums l).length = l.length := by simp [nums]
theorem nums_getD (l : List UInt8) (i : Nat) (b : UInt8) (h : l[i]? = some b) : (nums l).getD i 0 = (b.toNat : Int) := by
  simp [nums, List.getD, h]

end Go.Proofs.Ytcofcojjofkgcaa.M
