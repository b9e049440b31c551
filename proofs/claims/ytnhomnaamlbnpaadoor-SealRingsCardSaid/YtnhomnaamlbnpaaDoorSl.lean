/- Rows of anything: what a slice of n elements holds; append onto a row of the call's own. By an AI agent. -/
import Derived.Test.YtnhomnaamlbnpaaDoorProg
import Derived.Test.YtnhomnaamlbnpaaDoorM
import Derived.Deep.AppendLies
import Derived.Maps.AppendAt
namespace Go.Proofs.YtnhomnaamlbnpaaDoor.Sl
open Go.RowKit Go.Proofs.YtnhomnaamlbnpaaDoor.M
set_option linter.unusedVariables false

/-- a slice value of n elements of 'size' cells each, all of them 'xs'; they lie in blocks of S -/
def Sl (w : World) (S : Nat → Prop) (size : Nat) (v : Value) (n : Nat) (xs : List Value) : Prop :=
  ∃ (A : Option Addr) (c : Nat), v = .slice A n c ∧ xs.length = n * size ∧ n ≤ c ∧ n ≤ maxLen ∧
    (A = none → n = 0) ∧ ∀ ad, A = some ad → 0 < n → S ad.block ∧ ∀ j u, xs[j]? = some u → w.cell? (ad.add j) = some u
section
variable {w w' : World} {S T : Nat → Prop} {size n : Nat} {v : Value} {xs : List Value}
theorem Sl.same (h : Sl w S size v n xs) (hs : Same S w w') : Sl w' S size v n xs := by
  obtain ⟨A, c, rfl, hl, hnc, hm, h0, hc⟩ := h
  exact ⟨A, c, rfl, hl, hnc, hm, h0, fun ad e hn => ⟨(hc ad e hn).1, fun j b hb => by rw [hs.cell (by rw [block_add]; exact (hc ad e hn).1)]; exact (hc ad e hn).2 j b hb⟩⟩
theorem Sl.sub (h : Sl w S size v n xs) (k : ∀ i, S i → T i) : Sl w T size v n xs := by
  obtain ⟨A, c, rfl, hl, hnc, hm, h0, hc⟩ := h
  exact ⟨A, c, rfl, hl, hnc, hm, h0, fun ad e hn => ⟨k _ (hc ad e hn).1, (hc ad e hn).2⟩⟩
/-- the elements, where there is one -/
theorem Sl.at_ (h : Sl w S size v n xs) (hsz : 0 < size) : ∃ A c, v = .slice A n c ∧ n ≤ c ∧ n ≤ maxLen ∧ ∀ k, k < n → ∃ b off, A = some ⟨b, off, none⟩ ∧ S b ∧ ∀ j u, j < size → xs[k * size + j]? = some u → w.cell? ⟨b, off + (k * size + j), none⟩ = some u := by
  obtain ⟨A, c, rfl, hl, hnc, hm, h0, hc⟩ := h
  refine ⟨A, c, rfl, hnc, hm, fun k hk => ?_⟩
  rcases A with _ | ad
  · have := h0 rfl; omega
  · obtain ⟨hs, hcell⟩ := hc ad rfl (by omega)
    obtain ⟨b, off, spot⟩ := ad
    have hp : 0 < xs.length := by rw [hl]; exact Nat.mul_pos (by omega) hsz
    have hc0 := hcell 0 _ (List.getElem?_eq_getElem hp)
    have hspot : spot = none := by simpa [Addr.add] using World.cell?_spot hc0
    subst hspot
    refine ⟨b, off, rfl, hs, fun j u _ hj => ?_⟩
    have := hcell _ u hj
    rwa [Addr.add_lit] at this
theorem sl_of_own {base e : Nat} (h : w.ownsRow base e size v n xs) : Sl w (fun k => base ≤ k ∧ k < w.heap.size) size v n xs := by
  have hl := h.1
  rcases h.2 with ⟨rfl, rfl⟩ | ⟨g, cap, cur, rfl, hb, hg, hnc, hcm, hsz, htake⟩
  · exact ⟨none, 0, rfl, hl, Nat.le_refl _, by unfold maxLen; omega, fun _ => rfl, fun _ e => by cases e⟩
  · refine ⟨_, cap, rfl, hl, hnc, by omega, (fun h0 => by cases h0), ?_⟩
    intro ad h1 _
    cases h1
    exact ⟨⟨hb, (Array.getElem?_eq_some_iff.1 hg).1⟩, h.cells (g := g) rfl⟩
end

section
variable {P : Program} (w : World)
theorem run_append_nil (base : Nat) (t ty e : TypeId) (i : TypeInfo) (size : Nat) (ht : P.underlying t = some (.slice e)) (hi : P.info? e = some i)
    (v : Value) (n : Nat) (xs : List Value) (hown : w.ownsRow base e size v n xs) (c : Nat) : (Builtin.append_ #[t, t] ty #[v, .slice none 0 c]).run P w = .ok v w := by
  rcases hown.2 with ⟨rfl, rfl⟩ | ⟨g, cap, cur, rfl, _, _, hnc, _⟩
  · simp [Builtin.append_, run_underlying ht, sizeOf, typeInfo, hi, Builtin.lenOf, Builtin.firstCells]
  · simp [Builtin.append_, run_underlying ht, sizeOf, typeInfo, hi, Builtin.lenOf, Builtin.firstCells, hnc, storeCells]
theorem run_append_sl (base : Nat) (t ty e : TypeId) (i : TypeInfo) (z : Value) (size bytes : Nat) (ht : P.underlying t = some (.slice e)) (hi : P.info? e = some i) (hz : i.zero = some z)
    (hsize : i.size = size) (hby : i.bytes = bytes) (hzs : z.cells.size = size) (hsz : 0 < size)
    (v : Value) (n : Nat) (xs : List Value) (hown : w.ownsRow base e size v n xs)
    (S : Nat → Prop) (x : Value) (m : Nat) (news : List Value) (hr : Sl w S size x m news) (h1 : ∀ u ∈ news, u.oneCell' = true)
    (h63 : n + m ≤ maxLen) (hbytes : (n + m) * bytes ≤ 140737488355328) (hbase : base ≤ w.heap.size) :
    ∃ v' w', (Builtin.append_ #[t, t] ty #[v, x]).run P w = .ok v' w' ∧ w'.ownsRow base e size v' (n + m) (xs ++ news) ∧ w.grownBy w' v.ownBlock ∧
      (v'.ownBlock = v.ownBlock ∨ v'.ownBlock = some w.heap.size) := by
  obtain ⟨A, c, rfl, hl, hnc, hm, h0, hc⟩ := hr
  rcases A with _ | ad
  · have hm := h0 rfl
    subst hm
    have hn : news = [] := List.eq_nil_of_length_eq_zero (by simpa using hl)
    subst hn
    exact ⟨v, w, run_append_nil w base t ty e i size ht hi v n xs hown c, by simpa using hown, World.grownBy.refl w _, .inl rfl⟩
  · have hcells : ∀ j u, news[j]? = some u → w.cell? (ad.add j) = some u := by
      intro j u hu
      rcases Nat.eq_zero_or_pos m with h0 | h0
      · subst h0
        have hn : news = [] := List.eq_nil_of_length_eq_zero (by simpa using hl)
        subst hn
        simp at hu
      · exact (hc ad rfl h0).2 j u hu
    obtain ⟨v', w', hrun, h2, h3, _, h5⟩ := run_append_own_at (P := P) w base t ty e i z size bytes ht hi hz hsize hby hzs hsz v n xs hown ad m c news hl hcells h1 h63 hbytes hbase
    exact ⟨v', w', hrun, h2, h3, h5⟩
theorem wpList_append_sl {ops : Array Oper} {rest : List Oper} {o : Oper} {a : Act} {Q : Exit → Act → World → Prop} (hgd : o.guard = none) (s x : Operand) (t : TypeId)
    (ho : o.op = .call { callee := .builtin .append, args := #[s, x], argTypes := #[t, t] })
    (base : Nat) (e : TypeId) (i : TypeInfo) (z : Value) (size bytes : Nat) (ht : P.underlying t = some (.slice e)) (hi : P.info? e = some i) (hz : i.zero = some z)
    (hsize : i.size = size) (hby : i.bytes = bytes) (hzs : z.cells.size = size) (hsz : 0 < size)
    (v : Value) (n : Nat) (xs : List Value) (hs : a.eval s = v) (hown : w.ownsRow base e size v n xs)
    (S : Nat → Prop) (u : Value) (m : Nat) (news : List Value) (hx : a.eval x = u) (hr : Sl w S size u m news) (h1 : ∀ u ∈ news, u.oneCell' = true)
    (h63 : n + m ≤ maxLen) (hbytes : (n + m) * bytes ≤ 140737488355328) (hbase : base ≤ w.heap.size)
    (h : ∀ v' w', w'.ownsRow base e size v' (n + m) (xs ++ news) → w.grownBy w' v.ownBlock → (v'.ownBlock = v.ownBlock ∨ v'.ownBlock = some w.heap.size) → wpList P ops Q rest (a.put o.dst v') w') : wpList P ops Q (o :: rest) a w :=
  wpList_plain hgd fun K hK => by
    obtain ⟨v', w', hrun, h2, h3, h4⟩ := run_append_sl (P := P) w base t o.type e i z size bytes ht hi hz hsize hby hzs hsz v n xs hown S u m news hr h1 h63 hbytes hbase
    unfold Oper.wp execOp
    simp only [ho, resolve, invoke, builtin, Sem.run_bind, Sem.run_pure, Result.andThen_ok, List.map_toArray, List.map_cons, List.map_nil, hs, hx, hrun]
    exact hK _ _ (h v' w' h2 h3 h4)
end
theorem sl_of_byts {w : World} {S : Nat → Prop} {v : Value} {l : List UInt8} (h : Byts w S v l) : Sl w S 1 v l.length (l.map fun b => Value.int .u8 (b.toNat : Int)) := by
  obtain ⟨A, n, c, rfl, rfl, hnc, hm, h0, hc⟩ := h
  refine ⟨A, c, rfl, by simp, hnc, hm, h0, fun ad e hp => ⟨(hc ad e hp).1, fun j u hj => ?_⟩⟩
  obtain ⟨b, hb, rfl⟩ : ∃ b, l[j]? = some b ∧ Value.int .u8 (b.toNat : Int) = u := by simpa using hj
  exact (hc ad e hp).2 j b hb
theorem sl_one (w : World) (u : Value) (e : TypeId) : Sl (w.alloc (.cells #[u] e)) (fun g => g = w.heap.size) 1 (.slice (some ⟨w.heap.size, 0, none⟩) 1 1) 1 [u] := by
  refine ⟨_, 1, rfl, rfl, Nat.le_refl _, by unfold maxLen; omega, (fun h => by cases h), ?_⟩
  intro ad h1 _
  cases h1
  refine ⟨rfl, fun j x hj => ?_⟩
  rw [Addr.add_lit, cell_of_row _ w.heap.size _ #[u] e (0, 0) (heap_alloc_new w _), ← Array.getElem?_toList]
  simpa using hj
theorem oneCell_bytes (l : List UInt8) : ∀ u ∈ l.map (fun b => Value.int .u8 (b.toNat : Int)), u.oneCell' = true := fun u hu => by
  obtain ⟨b, _, rfl⟩ := List.mem_map.1 hu
  rfl
theorem wpList_append_of {P : Program} {ops : Array Oper} {rest : List Oper} {o : Oper} {a : Act} {w : World} {Q : Exit → Act → World → Prop} (hgd : o.guard = none) (s x : Operand) (t t2 : TypeId)
    (ho : o.op = .call { callee := .builtin .append, args := #[s, x], argTypes := #[t, t2] }) (u u2 : Value) (hs : a.eval s = u) (hx : a.eval x = u2) (v : Value) (w' : World)
    (hrun : (Builtin.append_ #[t, t2] o.type #[u, u2]).run P w = .ok v w') (h : wpList P ops Q rest (a.put o.dst v) w') : wpList P ops Q (o :: rest) a w :=
  wpList_plain hgd fun K hK => by
    unfold Oper.wp execOp
    simp only [ho, resolve, invoke, builtin, Sem.run_bind, Sem.run_pure, Result.andThen_ok, List.map_toArray, List.map_cons, List.map_nil, hs, hx, hrun]
    exact hK _ _ h
end Go.Proofs.YtnhomnaamlbnpaaDoor.Sl
