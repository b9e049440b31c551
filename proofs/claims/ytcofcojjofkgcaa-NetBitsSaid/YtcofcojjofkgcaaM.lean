/- Words for memory: what a block holds, what a slice of bytes reads as, and what keeps it. By an AI agent. -/
import Derived.WalkKit
import Derived.ProofKit
import Derived.OpenShut
import Derived.Lib.Hide
import Derived.Laws.BytesArg
import Derived.Lib.ConvBytes
namespace Go.Proofs.Ytcofcojjofkgcaa.M
open Go.RowKit
set_option linter.unusedVariables false

/-- the blocks of S hold what they held -/
def Same (S : Nat → Prop) (w w' : World) : Prop := ∀ b, S b → w'.heap[b]? = w.heap[b]?
theorem Same.refl (S : Nat → Prop) (w : World) : Same S w w := fun _ _ => rfl
theorem Same.trans {S : Nat → Prop} {a b c : World} (h : Same S a b) (k : Same S b c) : Same S a c := fun i hi => (k i hi).trans (h i hi)
theorem Same.sub {S T : Nat → Prop} {a b : World} (h : Same S a b) (k : ∀ i, T i → S i) : Same T a b := fun i hi => h i (k i hi)
theorem Same.cell {S : Nat → Prop} {a b : World} (h : Same S a b) {p : Addr} (hp : S p.block) : b.cell? p = a.cell? p := World.cell?_of_block (h p.block hp)

theorem block_add (a : Addr) (n : Nat) : (a.add n).block = a.block := by unfold Addr.add; split <;> rfl
theorem add_add (a : Addr) (i j : Nat) : (a.add i).add j = a.add (i + j) := by
  unfold Addr.add
  by_cases hi : i = 0 <;> by_cases hj : j = 0 <;> simp [hi, hj, Nat.add_assoc]

def Blk (w : World) (g : Nat) (t : TypeId) (cs : Array Value) : Prop := w.heap[g]? = some (.cells cs t (0, 0))
section
variable {w w' : World} {g : Nat} {t : TypeId} {cs : Array Value}
theorem Blk.lt (h : Blk w g t cs) : g < w.heap.size := by
  rcases Nat.lt_or_ge g w.heap.size with hlt | hge
  · exact hlt
  · unfold Blk at h; rw [Array.getElem?_eq_none hge] at h; cases h
theorem Blk.cell (h : Blk w g t cs) (i : Nat) : w.cell? ⟨g, i, none⟩ = cs[i]? := cell_of_row w g i cs t (0, 0) h
theorem Blk.frozen (h : Blk w g t cs) (i : Nat) : w.frozen? ⟨g, i, none⟩ = false := by
  unfold Blk at h
  simp [World.frozen?, h]
theorem Blk.new (w : World) (t : TypeId) (cs : Array Value) : Blk (w.alloc (.cells cs t)) w.heap.size t cs := heap_alloc_new w _
theorem Blk.set_ (h : Blk w g t cs) (i : Nat) (u : Value) : Blk (w.setCell ⟨g, i, none⟩ u) g t (cs.setIfInBounds i u) := by
  unfold Blk at h ⊢
  simp [World.setCell, Array.getElem?_modify, h]
theorem Blk.same {S : Nat → Prop} (h : Blk w g t cs) (hs : Same S w w') (hg : S g) : Blk w' g t cs := (hs g hg).trans h
end

/-- the world's writes go to block g and to new blocks alone -/
theorem same_grown {w w' : World} {row : Option Nat} (h : w.grownBy w' row) : Same (fun k => k < w.heap.size ∧ some k ≠ row) w w' := fun k hk => h.block k hk.1 hk.2
theorem same_below {B : Nat} {w w' : World} (h : Below B w w') : Same (fun k => k < B) w w' := fun k hk => h.block k hk

theorem undrew {B : Nat} {w w' : World} (h : Below B w.drew w') : Below B w w' := ⟨h.os, h.tape, h.output, h.size, h.block⟩
theorem drewBelow {B : Nat} {w w' : World} (h : Below B w w') : Below B w.drew w' := ⟨h.os, h.tape, h.output, h.size, h.block⟩

theorem Blk.alloc {w : World} {g : Nat} {t : TypeId} {cs : Array Value} (h : Blk w g t cs) (o : Obj) : Blk (w.alloc o) g t cs := (Below.heap_alloc w o g h.lt).trans h
theorem grown_below {a w : World} (h : Below a.heap.size a w) (row : Option Nat) : a.grownBy w row := ⟨h.os, h.tape, h.output, h.size, fun i hi _ => h.block i hi⟩
theorem grown_drew {a w : World} {row : Option Nat} (h : a.grownBy w row) : a.grownBy w.drew row := ⟨h.os, h.tape, h.output, h.size, h.block⟩
theorem grown_undrew {a w : World} {row : Option Nat} (h : a.drew.grownBy w row) : a.grownBy w row := ⟨h.os, h.tape, h.output, h.size, h.block⟩
theorem grown_alloc {a w : World} {row : Option Nat} (h : a.grownBy w row) (o : Obj) : a.grownBy (w.alloc o) row :=
  ⟨h.os, h.tape, h.output, Nat.le_trans h.size (by simp), fun i hi hne => (Below.heap_alloc w o i (Nat.lt_of_lt_of_le hi h.size)).trans (h.block i hi hne)⟩
theorem grown_set {a w : World} {g : Nat} (h : a.grownBy w (some g)) {p : Addr} (hp : p.block = g ∨ a.heap.size ≤ p.block) (u : Value) : a.grownBy (w.setCell p u) (some g) :=
  ⟨h.os, h.tape, h.output, by simpa [World.setCell] using h.size, fun i hi hne => (Below.heap_setCell w p u i (by
    rintro rfl
    rcases hp with hp | hp
    · exact hne (by rw [hp])
    · omega)).trans (h.block i hi hne)⟩
theorem grown_trans {a b c : World} {row : Option Nat} (h : a.grownBy b row) (k : b.grownBy c row) : a.grownBy c row :=
  ⟨k.os.trans h.os, k.tape.trans h.tape, k.output.trans h.output, Nat.le_trans h.size k.size, fun i hi hne => (k.block i (Nat.lt_of_lt_of_le hi h.size) hne).trans (h.block i hi hne)⟩
/-- writes to a row that is new for a, or is the one, are none for it -/
theorem grown_own {a b c : World} {row r2 : Option Nat} (h : a.grownBy b row) (k : b.grownBy c r2) (hr : ∀ g, r2 = some g → a.heap.size ≤ g ∨ row = some g) : a.grownBy c row :=
  ⟨k.os.trans h.os, k.tape.trans h.tape, k.output.trans h.output, Nat.le_trans h.size k.size, fun i hi hne => (k.block i (Nat.lt_of_lt_of_le hi h.size) (fun e => by
    rcases hr i e.symm with h1 | h1
    · omega
    · exact hne h1.symm)).trans (h.block i hi hne)⟩
/-- writes to a block that is new for a are none for it -/
theorem below_grown {a b c : World} {g : Nat} (h : Below a.heap.size a b) (k : b.grownBy c (some g)) (hg : a.heap.size ≤ g) : Below a.heap.size a c :=
  ⟨k.os.trans h.os, k.tape.trans h.tape, k.output.trans h.output, Nat.le_trans h.size k.size, fun i hi => (k.block i (Nat.lt_of_lt_of_le hi h.size) (fun e => by cases e; omega)).trans (h.block i hi)⟩
theorem same_set (w : World) (p : Addr) (u : Value) : Same (fun k => k ≠ p.block) w (w.setCell p u) := fun k hk => Below.heap_setCell w p u k hk
theorem same_alloc (w : World) (o : Obj) : Same (fun k => k < w.heap.size) w (w.alloc o) := fun k hk => Below.heap_alloc w o k hk

/-- a slice value that reads as bytes; its cells lie in blocks of S -/
def Byts (w : World) (S : Nat → Prop) (v : Value) (l : List UInt8) : Prop :=
  ∃ (A : Option Addr) (n c : Nat), v = .slice A n c ∧ l.length = n ∧ n ≤ c ∧ n ≤ maxLen ∧
    (A = none → n = 0) ∧ ∀ ad, A = some ad → 0 < n → S ad.block ∧ ∀ j b, l[j]? = some b → w.cell? (ad.add j) = some (.int .u8 (b.toNat : Int))
section
variable {w w' : World} {S T : Nat → Prop} {v : Value} {l : List UInt8}
theorem Byts.same (h : Byts w S v l) (hs : Same S w w') : Byts w' S v l := by
  obtain ⟨A, n, c, rfl, hl, hnc, hm, h0, hc⟩ := h
  exact ⟨A, n, c, rfl, hl, hnc, hm, h0, fun ad e hn => ⟨(hc ad e hn).1, fun j b hb => by rw [hs.cell (by rw [block_add]; exact (hc ad e hn).1)]; exact (hc ad e hn).2 j b hb⟩⟩
theorem Byts.sub (h : Byts w S v l) (k : ∀ i, S i → T i) : Byts w T v l := by
  obtain ⟨A, n, c, rfl, hl, hnc, hm, h0, hc⟩ := h
  exact ⟨A, n, c, rfl, hl, hnc, hm, h0, fun ad e hn => ⟨k _ (hc ad e hn).1, (hc ad e hn).2⟩⟩
theorem Byts.drew (h : Byts w S v l) : Byts w.drew S v l := h
theorem Byts.nil_ (w : World) (S : Nat → Prop) (c : Nat) : Byts w S (.slice none 0 c) [] := ⟨none, 0, c, rfl, rfl, Nat.zero_le _, by unfold maxLen; omega, fun _ => rfl, fun _ e => by cases e⟩
end

/-- its first k bytes -/
theorem Byts.take_ {w : World} {S : Nat → Prop} {A : Option Addr} {n c : Nat} {l : List UInt8} (h : Byts w S (.slice A n c) l) {k : Nat} (hk : k ≤ n) : Byts w S (.slice A k c) (l.take k) := by
  obtain ⟨A', n', c', h1, hl, hnc, hm, h0, hc⟩ := h
  cases h1
  refine ⟨A, k, c, rfl, by rw [List.length_take]; omega, by omega, by omega, (fun e => by have := h0 e; omega), fun ad e hp => ⟨(hc ad e (by omega)).1, fun j b hj => ?_⟩⟩
  have hlt : j < k := by
    have := (List.getElem?_eq_some_iff.1 hj).1
    rw [List.length_take] at this; omega
  rw [List.getElem?_take_of_lt hlt] at hj
  exact (hc ad e (by omega)).2 j b hj
theorem Byts.len {w : World} {S : Nat → Prop} {A : Option Addr} {n c : Nat} {l : List UInt8} (h : Byts w S (.slice A n c) l) : l.length = n := by
  obtain ⟨A', n', c', h1, hl, _⟩ := h
  cases h1
  exact hl

/-- what a walk asks of it: it is empty, or stands at a plain address -/
theorem Byts.open_ {w : World} {S : Nat → Prop} {v : Value} {l : List UInt8} (h : Byts w S v l) :
    (∃ A c, v = .slice A 0 c ∧ l = []) ∨ ∃ b off c, v = .slice (some ⟨b, off, none⟩) l.length c ∧ l.length ≤ c ∧ 0 < l.length ∧ l.length ≤ maxLen ∧ S b ∧ ∀ j x, l[j]? = some x → w.cell? ⟨b, off + j, none⟩ = some (.int .u8 (x.toNat : Int)) := by
  obtain ⟨A, n, c, rfl, rfl, hnc, hm, h0, hc⟩ := h
  rcases Nat.eq_zero_or_pos l.length with hz | hp
  · exact .inl ⟨A, c, by rw [hz], List.eq_nil_of_length_eq_zero hz⟩
  · rcases A with _ | ad
    · have := h0 rfl; omega
    · obtain ⟨hs, hcell⟩ := hc ad rfl hp
      obtain ⟨b, off, spot⟩ := ad
      have hc0 := hcell 0 _ (List.getElem?_eq_getElem hp)
      have hspot : spot = none := by simpa [Addr.add] using World.cell?_spot hc0
      subst hspot
      refine .inr ⟨b, off, c, rfl, hnc, hp, hm, hs, fun j x hj => ?_⟩
      have := hcell j x hj
      rwa [Addr.add_lit] at this

/-- the same, without parting the empty one off: one walk for all -/
theorem Byts.row {w : World} {S : Nat → Prop} {v : Value} {l : List UInt8} (h : Byts w S v l) :
    ∃ A c, v = .slice A l.length c ∧ l.length ≤ c ∧ l.length ≤ maxLen ∧ ∀ j x, l[j]? = some x → ∃ b off, A = some ⟨b, off, none⟩ ∧ S b ∧ w.cell? ⟨b, off + j, none⟩ = some (.int .u8 (x.toNat : Int)) := by
  rcases h.open_ with ⟨A, c, rfl, rfl⟩ | ⟨b, off, c, rfl, hnc, hp, hm, hs, hc⟩
  · exact ⟨A, c, rfl, Nat.zero_le _, by unfold maxLen; simp, fun j x hj => by simp at hj⟩
  · exact ⟨_, c, rfl, hnc, hm, fun j x hj => ⟨b, off, rfl, hs, hc j x hj⟩⟩

/-- a row that was just made -/
theorem byts_new (w : World) (cs : Array Value) (e : TypeId) (l : List UInt8) (c : Nat) {fr : Nat × Nat} (hn : l.length ≤ maxLen ∧ l.length ≤ c) (h : cs.toList = l.map fun b => Value.int .u8 (b.toNat : Int)) :
    Byts (w.alloc (.cells cs e fr)) (fun k => k = w.heap.size) (.slice (some ⟨w.heap.size, 0, none⟩) l.length c) l := by
  refine ⟨_, _, c, rfl, rfl, hn.2, hn.1, (fun h0 => by cases h0), ?_⟩
  intro ad h1 _
  cases h1
  refine ⟨rfl, fun j b hj => ?_⟩
  rw [Addr.add_lit, cell_of_row _ w.heap.size _ cs e fr (heap_alloc_new w _), ← Array.getElem?_toList, h]
  simp [hj]
theorem byts_new_at (w : World) (g : Nat) (hg : w.heap.size = g) (cs : Array Value) (e : TypeId) (l : List UInt8) (c : Nat) {fr : Nat × Nat} (hn : l.length ≤ maxLen ∧ l.length ≤ c) (h : cs.toList = l.map fun b => Value.int .u8 (b.toNat : Int)) :
    Byts (w.alloc (.cells cs e fr)) (fun k => k = g) (.slice (some ⟨g, 0, none⟩) l.length c) l := by
  subst hg; exact byts_new w cs e l c hn h
theorem u8v {z : Int} {n : Nat} (h : z = ((n % 256 : Nat) : Int)) : Value.int .u8 z = Value.int .u8 ((UInt8.ofNat n).toNat : Int) := by
  rw [h]; simp [UInt8.toNat_ofNat']

/-- a string made bytes -/
theorem conv_bytes {P : Program} (w : World) (src dst e : TypeId) (s : ByteArray) {u : TypeDesc} (hs : P.underlying src = some u) (hd : P.underlying dst = some (.slice e)) (he : P.underlying e = some (.int .u8)) (hm : s.size ≤ maxLen) :
    ∃ c w2, (convert src dst (.string s)).run P w = .ok (.slice (some ⟨w.heap.size, 0, none⟩) s.size c) w2 ∧ Byts w2 (fun k => k = w.heap.size) (.slice (some ⟨w.heap.size, 0, none⟩) s.size c) s.data.toList ∧
      Below w.heap.size w w2 ∧ w2.heap.size = w.heap.size + 1 := by
  refine ⟨_, _, Lib.run_convert_string_bytes w src dst e s hs hd he, ?_, ⟨?_, ?_, ?_, ?_, fun k hk => Lib.bytesWorld_at_old w e s k hk⟩, Lib.bytesWorld_size w e s⟩
  · have hl : s.data.toList.length = s.size := by rw [Array.length_toList]; rfl
    refine ⟨_, _, _, rfl, hl, grownCap_ge _ _ _ _, hm, (fun h0 => by cases h0), ?_⟩
    intro ad h1 _
    cases h1
    refine ⟨rfl, fun j b hj => ?_⟩
    have hjl : j < s.size := by rw [← hl]; exact (List.getElem?_eq_some_iff.1 hj).1
    rw [Addr.add_lit]
    simp only [Nat.zero_add]
    rw [Lib.bytesWorld_cell w e s j hjl]
    simp [List.getD, hj]
  · unfold Lib.bytesWorld World.freeze; split <;> rfl
  · unfold Lib.bytesWorld World.freeze; split <;> rfl
  · unfold Lib.bytesWorld World.freeze; split <;> rfl
  · rw [Lib.bytesWorld_size]; omega

/-- bytes made a string -/
theorem conv_str {P : Program} {w : World} {S : Nat → Prop} {v : Value} {l : List UInt8} (h : Byts w S v l) (src dst e : TypeId) (hs : P.underlying src = some (.slice e)) (he : P.underlying e = some (.int .u8)) (hd : P.underlying dst = some .string) :
    (convert src dst v).run P w = .ok (.string ⟨l.toArray⟩) w := by
  obtain ⟨A, n, c, rfl, rfl, hnc, hm, h0, hc⟩ := h
  rcases A with _ | a
  · have hz := h0 rfl
    have : l = [] := List.eq_nil_of_length_eq_zero hz
    subst this
    exact run_convert_bytes_nil w src e hs he _ _ dst hd
  · exact run_convert_bytes_back w src dst e a c l hs he hd fun j hj => (hc a rfl (by omega)).2 j _ (List.getElem?_eq_getElem hj)

/-- the numbers of bytes -/
def nums (l : List UInt8) : List Int := l.map fun b => (b.toNat : Int)
theorem nums_length (l : List UInt8) : (nums l).length = l.length := by simp [nums]
theorem nums_getD (l : List UInt8) (i : Nat) (b : UInt8) (h : l[i]? = some b) : (nums l).getD i 0 = (b.toNat : Int) := by
  simp [nums, List.getD, h]

theorem byts_of_own {w : World} {base e n : Nat} {v : Value} {xs : List Value} {l : List UInt8} (h : w.ownsRow base e 1 v n xs) (hx : xs = l.map fun b => Value.int .u8 (b.toNat : Int)) :
    Byts w (fun k => base ≤ k ∧ k < w.heap.size) v l := by
  have hl : l.length = n := by have := h.1; subst hx; simpa using this
  rcases h.2 with ⟨rfl, rfl⟩ | ⟨g, cap, cur, rfl, hb, hg, hnc, hcm, hsz, htake⟩
  · have : l = [] := List.eq_nil_of_length_eq_zero hl
    subst this
    exact Byts.nil_ _ _ _
  · refine ⟨_, n, cap, rfl, hl, hnc, by omega, (fun h0 => by cases h0), ?_⟩
    intro ad h1 _
    cases h1
    refine ⟨⟨hb, (Array.getElem?_eq_some_iff.1 hg).1⟩, fun j b hj => ?_⟩
    refine h.cells (g := g) rfl j _ ?_
    rw [hx]; simp [hj]
end Go.Proofs.Ytcofcojjofkgcaa.M
