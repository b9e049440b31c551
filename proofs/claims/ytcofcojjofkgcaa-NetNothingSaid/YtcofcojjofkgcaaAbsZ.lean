/- States seen otherwise; code with loops that are told of by invariants. By an AI agent. -/
import Derived.Test.YtcofcojjofkgcaaAbsW
namespace Go.Proofs.Ytcofcojjofkgcaa.Abs
open Go Go.RowKit
set_option linter.unusedVariables false
noncomputable def tau (l : List (Nat × AVal)) : PT AVal := l.foldr (fun x τ => τ.set x.1 (some x.2)) .leaf
noncomputable def hp (l : List (Nat × AObj)) : PT AObj := l.foldr (fun x τ => τ.set x.1 (some x.2)) .leaf
theorem foldr_get {α : Type} : ∀ {l : List (Nat × α)} {t : Nat} {v : α}, (l.foldr (fun x τ => PT.set τ x.1 (some x.2)) (.leaf : PT α)).get t = some v → (t, v) ∈ l
  | [], t, v, h => by cases h
  | (x, u) :: l, t, v, h => by
    simp only [List.foldr_cons] at h
    rw [PT.get_set] at h
    split at h
    · cases h; rename_i he; subst he; exact List.mem_cons_self
    · exact List.mem_cons_of_mem _ (foldr_get h)
/-- what a tree holds, each with its number -/
noncomputable def ents {α : Type} (t : PT α) : Nat → Nat → List (Nat × α) :=
  PT.rec (motive := fun _ => Nat → Nat → List (Nat × α)) (fun _ _ => []) (fun _ v _ hl hr a b => List.append (match v with | some x => [(b, x)] | none => []) (List.append (hl (Nat.mul 2 a) (Nat.add a b)) (hr (Nat.mul 2 a) (Nat.add (Nat.mul 2 a) b)))) t
theorem ents_mem {α : Type} : ∀ {t : PT α} {a b k : Nat} {v : α}, t.get k = some v → (a * k + b, v) ∈ ents t a b
  | .leaf, a, b, k, v, h => by cases h
  | .node l u r, a, b, 0, v, h => by
    rw [PT.get_zero] at h
    subst h
    show (a * 0 + b, v) ∈ [(b, v)] ++ _
    simp
  | .node l u r, a, b, m + 1, v, h => by
    rw [PT.get_succ] at h
    show _ ∈ (match u with | some x => [(b, x)] | none => []) ++ (ents l (2 * a) (a + b) ++ ents r (2 * a) (2 * a + b))
    refine List.mem_append_right _ ?_
    by_cases hm : m % 2 = 0
    · rw [if_pos hm] at h
      refine List.mem_append_left _ ?_
      have := ents_mem (a := 2 * a) (b := a + b) h
      have e : 2 * a * (m / 2) + (a + b) = a * (m + 1) + b := by
        have : m = 2 * (m / 2) := by omega
        generalize m / 2 = q at this ⊢
        subst this
        rw [Nat.mul_add, show a * (2 * q) = 2 * a * q by rw [← Nat.mul_assoc, Nat.mul_comm a 2]]
        omega
      rw [e] at this
      exact this
    · rw [if_neg hm] at h
      refine List.mem_append_right _ ?_
      have := ents_mem (a := 2 * a) (b := 2 * a + b) h
      have e : 2 * a * (m / 2) + (2 * a + b) = a * (m + 1) + b := by
        have : m = 2 * (m / 2) + 1 := by omega
        generalize m / 2 = q at this ⊢
        subst this
        rw [Nat.mul_add, Nat.mul_add, show a * (2 * q) = 2 * a * q by rw [← Nat.mul_assoc, Nat.mul_comm a 2]]
        omega
      rw [e] at this
      exact this
theorem ents_all {α : Type} {t : PT α} {k : Nat} {v : α} (h : t.get k = some v) : (k, v) ∈ ents t 1 0 := by
  have := ents_mem (a := 1) (b := 0) h
  rwa [Nat.one_mul, Nat.add_zero] at this
def lookN : List (Nat × Nat) → Nat → Option Nat
  | [], _ => none
  | (x, y) :: r, t => bif Nat.beq x t then some y else lookN r t
/-- which block of the elder state a block is -/
def renX (base : Nat) (ρ : List (Nat × Nat)) (x : Nat) : Option Nat := bif Nat.blt x base then some x else lookN ρ x
def renTo (base : Nat) (ρ : List (Nat × Nat)) (x y : Nat) : Bool := match renX base ρ x with | some z => Nat.beq z y | none => false
def eqLS : LSt → LSt → Bool
  | .ready, .ready => true
  | .busy, .busy => true
  | .done, .done => true
  | .exhausted, .exhausted => true
  | _, _ => false
def eqJ : Jump → Jump → Bool
  | .none, .none => true
  | .ret, .ret => true
  | .exit i, .exit j => Nat.beq i j
  | _, _ => false
def eqNs : List Nat → List Nat → Bool
  | [], [] => true
  | a :: l, b :: m => Nat.beq a b && eqNs l m
  | _, _ => false
theorem eqLS_eq {a b : LSt} (h : eqLS a b = true) : a = b := by cases a <;> cases b <;> first | rfl | cases h
theorem eqJ_eq {a b : Jump} (h : eqJ a b = true) : a = b := by
  cases a <;> cases b <;> first | rfl | (cases h; done) | rw [Nat.eq_of_beq_eq_true h]
theorem eqNs_eq : ∀ {a b : List Nat}, eqNs a b = true → a = b
  | [], [], _ => rfl
  | [], _ :: _, h => by cases h
  | _ :: _, [], h => by cases h
  | a :: l, b :: m, h => by
    have h : (Nat.beq a b && eqNs l m) = true := h
    rw [Bool.and_eq_true] at h
    rw [Nat.eq_of_beq_eq_true h.1, eqNs_eq h.2]
def eqB (a b : Bool) : Bool := match a, b with | true, true => true | false, false => true | _, _ => false
section
variable (base : Nat) (ρ : List (Nat × Nat))
mutual
/-- what must be so for a value to be another, seen otherwise -/
def valE : AVal → AVal → Prop
  | .int k z, v => (match v with
    | .int k' z' => bif kindEq k k' then z = z' else False
    | .sint k' z' => bif kindEq k k' then z = z' else False
    | _ => False)
  | .sint k z, v => (match v with
    | .int k' z' => bif kindEq k k' then z = z' ∧ inR k z else False
    | .sint k' z' => bif kindEq k k' then z = z' else False
    | _ => False)
  | .bool b, v => (match v with | .bool c => b = c | .sbool c => b = c | _ => False)
  | .sbool b, v => (match v with | .bool c => b = c | .sbool c => b = c | _ => False)
  | .str l, v => (match v with | .str m => l = m | _ => False)
  | .sstr l, v => (match v with | .sstr m => l = m | .str m => l = m.map UInt8.ofNat | _ => False)
  | .ptr none, v => (match v with | .ptr none => True | _ => False)
  | .ptr (some (x, o)), v => (match v with | .ptr (some (y, p)) => bif renTo base ρ x y then o = p else False | _ => False)
  | .slice none n c _ _, v => (match v with | .slice none _ _ _ _ => n = 0 ∧ c = 0 | _ => False)
  | .slice (some (x, o)) n c ex z, v => (match v with | .slice (some (y, p)) n' c' ex' z' => bif renTo base ρ x y && eqB ex ex' && Nat.beq z z' then o = p ∧ n = n' ∧ c = c' else False | _ => False)
  | .sslice (x, o) n c ex z, v => (match v with
    | .slice (some (y, p)) n' c' ex' z' => bif renTo base ρ x y && eqB ex ex' && Nat.beq z z' then o = p ∧ n = n' ∧ c = c' else False
    | .sslice (y, p) n' c' ex' z' => bif renTo base ρ x y && eqB ex ex' && Nat.beq z z' then o = p ∧ n = n' ∧ c = c' else False
    | .slice none _ _ _ _ => n = 0 ∧ c = 0
    | _ => False)
  | .tslice x i n c ex wd, v => (match v with
    | .tslice y j n' c' ex' wd' => bif renTo base ρ x y && eqB ex ex' && Nat.beq wd wd' then i = j ∧ n = n' ∧ c = c' else False
    | .slice none _ _ _ _ => n = 0 ∧ c = 0
    | _ => False)
  | .tptr x i wd c, v => (match v with | .tptr y j wd' c' => bif renTo base ρ x y && Nat.beq wd wd' && Nat.beq c c' then i = j else False | _ => False)
  | .pbytes l, v => (match v with | .pbytes m => l = m | .slice none _ _ _ _ => l = [] | _ => False)
  | .pptr l i, v => (match v with | .pptr m j => l = m ∧ i = j | _ => False)
  | .map none, v => (match v with | .map none => True | _ => False)
  | .map (some x), v => (match v with | .map (some y) => bif renTo base ρ x y then True else False | _ => False)
  | .nilFunc, v => (match v with | .nilFunc => True | _ => False)
  | .yield x, v => (match v with | .yield y => bif renTo base ρ x y then True else False | _ => False)
  | .func f a b, v => (match v with | .func g c d => bif Nat.beq f g then valsE a c ∧ valsE b d else False | _ => False)
  | .agg l, v => (match v with | .agg m => valsE l m | _ => False)
  | .tuple l, v => (match v with | .tuple m => valsE l m | _ => False)
def valsE : List AVal → List AVal → Prop
  | [], m => (match m with | [] => True | _ => False)
  | v :: l, m => (match m with | u :: m => valE v u ∧ valsE l m | _ => False)
end
noncomputable def tempsE (τ : PT AVal) : List (Nat × AVal) → Prop
  | [] => True
  | (t, v) :: r => (match τ.get t with | some u => valE base ρ v u | none => False) ∧ tempsE τ r
noncomputable def mapE : List (AVal × AVal) → List (AVal × AVal) → Prop
  | [], [] => True
  | e :: es, f :: fs => (valE base ρ e.1 f.1 ∧ valE base ρ e.2 f.2) ∧ mapE es fs
  | _, _ => False
def colE : TCol → TCol → Prop
  | .zs k l, .zs j m => bif kindEq k j then l = m else False
  | .bs l, .bs m => l = m
  | .ss l, .ss m => l = m
  | .ps l, .ps m => l = m
  | _, _ => False
def colsE : List TCol → List TCol → Prop
  | [], [] => True
  | a :: l, b :: m => colE a b ∧ colsE l m
  | _, _ => False
noncomputable def objE : AObj → AObj → Prop
  | .tab n cs t, o => (match o with | .tab m ds _ => n = m ∧ colsE cs ds | _ => False)
  | .smap k ks cs one, o => (match o with
    | .smap j js ds one' => bif kindEq k j && eqB one one' then ks = js ∧ colsE cs ds else False
    | .map [] => ks = []
    | _ => False)
  | .cells l t, o => (match o with | .cells m _ => valsE base ρ l m | _ => False)
  | .sbytes l t, o => (match o with | .sbytes m _ => l = m | .cells m _ => (match bytesS m with | some q => l = q | none => False) | _ => False)
  | .sints k l t, o => (match o with | .sints j m _ => bif kindEq k j then l = m else False | .cells m _ => (match intsS k m with | some q => l = q | none => False) | _ => False)
  | .defd, o => (match o with | .defd => True | _ => False)
  | .map es, o => (match o with | .map fs => mapE base ρ es fs | _ => False)
  | .loop s j τ m ps a b, o => (match o with
    | .loop s' j' τ' m' ps' a' b' => bif eqLS s s' && eqJ j j' && Nat.beq m m' && eqNs ps ps' then a = a' ∧ b = b' ∧ tempsE base ρ τ' (ents τ 1 0) else False
    | _ => False)
noncomputable def heapE (H : PT AObj) : List (Nat × AObj) → Prop
  | [] => True
  | (x, o) :: r => (match renX base ρ x with
    | some y => (match H.get y with | some o' => objE base ρ o o' | none => False)
    | none => (match o with | .sbytes l _ => l = [] | .sints _ l _ => l = [] | .tab n _ _ => n = 0 | _ => False)) ∧ heapE H r
/-- no two blocks are one, and all are below the next -/
def idsOk (next : Nat) : List (Nat × AObj) → List Nat → Bool
  | [], _ => true
  | (x, _) :: r, seen => Nat.blt x next && (match renX base ρ x with | some y => !memN y seen && idsOk next r (y :: seen) | none => idsOk next r seen)
def keysOk (next : Nat) : List (Nat × Nat) → Bool
  | [] => true
  | (x, _) :: r => Nat.blt x next && keysOk next r
/-- a state is another, seen otherwise -/
noncomputable def stE (τ : PT AVal) (st : St) (L : List (Nat × AVal)) (Hl : List (Nat × AObj)) (next : Nat) : Prop :=
  (bif Nat.ble base next && keysOk next ρ && idsOk base ρ next Hl [] then True else False) ∧ tempsE base ρ τ L ∧ heapE base ρ st.heap Hl
end
def psi (base : Nat) (ρ : List (Nat × Nat)) (φ : Phi) : Phi := fun k => match k with
  | .blk x => (match renX base ρ x with | some y => φ y | none => none)
  | .pool g b l => φ (.pool g b l)
section
variable {base : Nat} {ρ : List (Nat × Nat)} {φ : Phi}
theorem renTo_some {x y : Nat} (h : renTo base ρ x y = true) : renX base ρ x = some y := by
  unfold renTo at h
  split at h
  · rename_i z hz; rw [hz, Nat.eq_of_beq_eq_true h]
  · cases h
theorem psi_at {x y : Nat} (h : renX base ρ x = some y) : psi base ρ φ x = φ y := by unfold psi; simp only [h]
theorem psi_no {x : Nat} (h : renX base ρ x = none) : psi base ρ φ x = none := by unfold psi; simp only [h]
theorem eqB_some {a b : Bool} (h : eqB a b = true) : a = b := by cases a <;> cases b <;> first | rfl | cases h
theorem cond_some {b : Bool} {p : Prop} (h : bif b then p else False) : b = true ∧ p := by
  cases b with
  | true => exact ⟨rfl, h⟩
  | false => exact h.elim
theorem col_pool {φ ψ : Phi} (hp : ∀ g b L, φ (.pool g b L) = ψ (.pool g b L)) {i : Nat} {c : TCol} {u : Value} (h : VRel φ (c.val i) u) : VRel ψ (c.val i) u := by
  cases c with
  | zs k l => simp only [TCol.val] at h ⊢; cases h with | sint _ _ h => exact .sint _ _ h
  | bs l => simp only [TCol.val] at h ⊢; cases h with | sbool => exact .sbool _
  | ss l =>
    simp only [TCol.val] at h ⊢
    generalize l.getD i [] = q at h ⊢
    cases h with | sstr s => exact .sstr s
  | ps l =>
    simp only [TCol.val] at h ⊢
    generalize l.getD i [] = q at h ⊢
    cases h with
    | pemp A c => exact .pemp A c
    | pbytes _ L o g b n c h hl ho hc => exact .pbytes _ L o g b n c ((hp g b L).symm.trans h) hl ho hc
theorem rowT_pool {φ ψ : Phi} (hp : ∀ g b L, φ (.pool g b L) = ψ (.pool g b L)) {i : Nat} : ∀ {cs : List TCol} {us : List Value}, VRels φ (rowT i cs) us → VRels ψ (rowT i cs) us
  | [], _, .nil => .nil
  | c :: cs, _, .cons _ _ _ _ h hs => .cons _ _ _ _ (col_pool hp h) (rowT_pool hp hs)
theorem colE_eq {a b : TCol} (h : colE a b) : a = b := by
  cases a <;> cases b <;> first | exact h.elim | (obtain ⟨hk, rfl⟩ := cond_some h; rw [kindEq_eq _ _ hk]) | (have h2 : _ = _ := h; rw [h2])
theorem colsE_eq : ∀ {l m : List TCol}, colsE l m → l = m
  | [], [], _ => rfl
  | [], _ :: _, h => h.elim
  | _ :: _, [], h => h.elim
  | a :: l, b :: m, h => by rw [colE_eq h.1, colsE_eq h.2]
mutual
theorem valE_ok : ∀ {v' v : AVal} {u : Value}, valE base ρ v' v → VRel φ v u → VRel (psi base ρ φ) v' u
  | .int k z, v, u, h, hr => by
    unfold valE at h
    split at h
    · obtain ⟨hk, rfl⟩ := cond_some h; obtain rfl := kindEq_eq _ _ hk; cases hr; exact .int _ _
    · obtain ⟨hk, rfl⟩ := cond_some h; obtain rfl := kindEq_eq _ _ hk; cases hr; exact .int _ _
    · exact h.elim
  | .sint k z, v, u, h, hr => by
    unfold valE at h
    split at h
    · obtain ⟨hk, rfl, hi⟩ := cond_some h; obtain rfl := kindEq_eq _ _ hk; cases hr; exact .sint _ _ hi
    · obtain ⟨hk, rfl⟩ := cond_some h; obtain rfl := kindEq_eq _ _ hk; cases hr; exact .sint _ _ ‹_›
    · exact h.elim
  | .bool b, v, u, h, hr => by
    unfold valE at h
    split at h
    · subst h; cases hr; exact .bool _
    · subst h; cases hr; exact .bool _
    · exact h.elim
  | .sbool b, v, u, h, hr => by
    unfold valE at h
    split at h
    · subst h; cases hr; exact .sbool _
    · subst h; cases hr; exact .sbool _
    · exact h.elim
  | .str l, v, u, h, hr => by
    unfold valE at h
    split at h
    · subst h; cases hr; exact .str _
    · exact h.elim
  | .sstr l, v, u, h, hr => by
    unfold valE at h
    split at h
    · subst h; cases hr; exact .sstr _
    · subst h
      cases hr with
      | str s => rw [toNat_ofNat_map]; exact .sstr _
    · exact h.elim
  | .ptr none, v, u, h, hr => by
    unfold valE at h
    split at h
    · cases hr; exact .ptr0
    · exact h.elim
  | .ptr (some (x, o)), v, u, h, hr => by
    unfold valE at h
    split at h
    · obtain ⟨hx, rfl⟩ := cond_some h
      cases hr with
      | ptr _ _ g b n hφ => exact .ptr _ _ g b n ((psi_at (renTo_some hx)).trans hφ)
    · exact h.elim
  | .slice none n c ex z, v, u, h, hr => by
    unfold valE at h
    split at h
    · obtain ⟨rfl, rfl⟩ := h; cases hr; exact .slice0 _ _
    · exact h.elim
  | .slice (some (x, o)) n c ex z, v, u, h, hr => by
    unfold valE at h
    split at h
    · obtain ⟨hx, rfl, rfl, rfl⟩ := cond_some h
      rw [Bool.and_eq_true, Bool.and_eq_true] at hx
      obtain ⟨⟨hx1, hx2⟩, hx3⟩ := hx
      obtain rfl := eqB_some hx2
      obtain rfl := Nat.eq_of_beq_eq_true hx3
      cases hr with
      | slice _ _ _ _ _ g b nb cap _ a hφ hl hc he hz ha => exact .slice _ _ _ _ _ g b nb cap _ a ((psi_at (renTo_some hx1)).trans hφ) hl hc he hz ha
    · exact h.elim
  | .sslice (x, o) n c ex z, v, u, h, hr => by
    unfold valE at h
    split at h
    · obtain ⟨hx, rfl, rfl, rfl⟩ := cond_some h
      rw [Bool.and_eq_true, Bool.and_eq_true] at hx
      obtain ⟨⟨hx1, hx2⟩, hx3⟩ := hx
      obtain rfl := eqB_some hx2
      obtain rfl := Nat.eq_of_beq_eq_true hx3
      cases hr with
      | slice _ _ _ _ _ g b nb cap _ a hφ hl hc he hz ha => exact .sslice _ _ _ _ _ g b nb cap _ a ((psi_at (renTo_some hx1)).trans hφ) hl hc he hz ha
    · obtain ⟨hx, rfl, rfl, rfl⟩ := cond_some h
      rw [Bool.and_eq_true, Bool.and_eq_true] at hx
      obtain ⟨⟨hx1, hx2⟩, hx3⟩ := hx
      obtain rfl := eqB_some hx2
      obtain rfl := Nat.eq_of_beq_eq_true hx3
      cases hr with
      | sslice _ _ _ _ _ g b nb cap _ a hφ hl hc he hz ha => exact .sslice _ _ _ _ _ g b nb cap _ a ((psi_at (renTo_some hx1)).trans hφ) hl hc he hz ha
      | snil => exact .snil _ _ _
      | semp _ A c _ => exact .semp _ A c _
    · obtain ⟨rfl, rfl⟩ := h; cases hr; exact .snil _ _ _
    · exact h.elim
  | .tslice x i n c ex wd, v, u, h, hr => by
    unfold valE at h
    split at h
    · obtain ⟨hx, rfl, rfl, rfl⟩ := cond_some h
      rw [Bool.and_eq_true, Bool.and_eq_true] at hx
      obtain ⟨⟨hx1, hx2⟩, hx3⟩ := hx
      obtain rfl := eqB_some hx2
      obtain rfl := Nat.eq_of_beq_eq_true hx3
      cases hr with
      | tslice _ _ _ _ _ _ _ hr =>
      refine .tslice _ _ _ _ _ _ _ ?_
      cases hr with
      | sslice _ _ _ _ _ g b nb cap _ a hφ hl hc he hz ha => exact .sslice _ _ _ _ _ g b nb cap _ a ((psi_at (renTo_some hx1)).trans hφ) hl hc he hz ha
      | snil => exact .snil _ _ _
      | semp _ A c _ => exact .semp _ A c _
    · obtain ⟨rfl, rfl⟩ := h; cases hr; exact .tslice _ _ _ _ _ _ _ (.snil _ _ _)
    · exact h.elim
  | .tptr x i wd c, v, u, h, hr => by
    unfold valE at h
    split at h
    · obtain ⟨hx, rfl⟩ := cond_some h
      rw [Bool.and_eq_true, Bool.and_eq_true] at hx
      obtain ⟨⟨hx1, hx2⟩, hx3⟩ := hx
      obtain rfl := Nat.eq_of_beq_eq_true hx2
      obtain rfl := Nat.eq_of_beq_eq_true hx3
      cases hr with
      | tptr _ _ _ _ g b n hφ => exact .tptr _ _ _ _ g b n ((psi_at (renTo_some hx1)).trans hφ)
    · exact h.elim
  | .pbytes l, v, u, h, hr => by
    unfold valE at h
    split at h
    · subst h
      exact col_pool (φ := φ) (ψ := psi base ρ φ) (i := 0) (c := .ps [l]) (fun _ _ _ => rfl) hr
    · subst h; cases hr; exact .pemp _ _
    · exact h.elim
  | .pptr l i, v, u, h, hr => by
    unfold valE at h
    split at h
    · obtain ⟨rfl, rfl⟩ := h
      cases hr with
      | pptr _ L o _ g b n h hl ho => exact .pptr _ L o _ g b n h hl ho
    · exact h.elim
  | .map none, v, u, h, hr => by
    unfold valE at h
    split at h
    · cases hr; exact .map0
    · exact h.elim
  | .map (some x), v, u, h, hr => by
    unfold valE at h
    split at h
    · obtain ⟨hx, _⟩ := cond_some h
      cases hr with
      | map _ g b n hφ => exact .map _ g b n ((psi_at (renTo_some hx)).trans hφ)
    · exact h.elim
  | .nilFunc, v, u, h, hr => by
    unfold valE at h
    split at h
    · cases hr; exact .nilFunc
    · exact h.elim
  | .yield x, v, u, h, hr => by
    unfold valE at h
    split at h
    · obtain ⟨hx, _⟩ := cond_some h
      cases hr with
      | yield _ g b n hφ => exact .yield _ g b n ((psi_at (renTo_some hx)).trans hφ)
    · exact h.elim
  | .func f a b, v, u, h, hr => by
    unfold valE at h
    split at h
    · obtain ⟨hf, h1, h2⟩ := cond_some h
      obtain rfl := Nat.eq_of_beq_eq_true hf
      cases hr with
      | func _ _ _ va vb ha hb => exact .func _ _ _ va vb (valsE_ok h1 ha) (valsE_ok h2 hb)
    · exact h.elim
  | .agg l, v, u, h, hr => by
    unfold valE at h
    split at h
    · cases hr with
      | agg _ c hc => exact .agg _ _ (valsE_ok h hc)
    · exact h.elim
  | .tuple l, v, u, h, hr => by
    unfold valE at h
    split at h
    · cases hr with
      | tuple _ c hc => exact .tuple _ _ (valsE_ok h hc)
    · exact h.elim
theorem valsE_ok : ∀ {l m : List AVal} {us : List Value}, valsE base ρ l m → VRels φ m us → VRels (psi base ρ φ) l us
  | [], m, us, h, hr => by
    unfold valsE at h
    split at h
    · cases hr; exact .nil
    · exact h.elim
  | v :: l, m, us, h, hr => by
    unfold valsE at h
    split at h
    · cases hr with
      | cons _ u _ us h1 h2 => exact .cons _ _ _ _ (valE_ok h.1 h1) (valsE_ok h.2 h2)
    · exact h.elim
end
theorem valsE_len : ∀ {l m : List AVal}, valsE base ρ l m → l.length = m.length
  | [], m, h => by
    unfold valsE at h
    split at h
    · rfl
    · exact h.elim
  | v :: l, m, h => by
    unfold valsE at h
    split at h
    · simp [valsE_len h.2]
    · exact h.elim
theorem tempsE_mem {τ : PT AVal} : ∀ {L : List (Nat × AVal)}, tempsE base ρ τ L → ∀ t v, (t, v) ∈ L → ∃ u, τ.get t = some u ∧ valE base ρ v u
  | (x, y) :: r, h, t, v, hm => by
    simp only [tempsE] at h
    rcases List.mem_cons.1 hm with he | hm
    · cases he
      split at h
      · exact ⟨_, ‹_›, h.1⟩
      · exact h.1.elim
    · exact tempsE_mem h.2 t v hm
theorem objE_ok {o' o : AObj} {b n : Nat} {u : Obj} (h : objE base ρ o' o) (hr : ORel φ o b n u) : ORel (psi base ρ φ) o' b n u := by
  cases o' with
  | cells l t =>
    unfold objE at h
    simp only at h
    split at h
    · cases hr with
      | cells _ _ t' _ _ c fz hn hb hc hf =>
      have hl := valsE_len h
      exact .cells _ _ _ _ _ _ _ hn (by omega) (by rw [hl]; exact valsE_ok h hc) hf
    · exact h.elim
  | sbytes l t =>
    unfold objE at h
    simp only at h
    split at h
    · subst h
      cases hr with
      | sbytes _ _ _ _ _ hr => cases hr with
        | cells _ _ t' _ _ c fz hn hb hc hf =>
        rw [List.length_map] at hb hc
        exact sbytes_cells hn hb (rel_vals hc) hf
    · rename_i m _
      split at h
      · rename_i q hq
        subst h
        cases hr with
        | cells _ _ t' _ _ c fz hn hb hc hf =>
        have hv := bytesS_rel hq hc
        have hl : m.length = l.length := by have := hc.length; rw [hv, vals_length] at this; exact this.symm
        exact sbytes_cells hn (by omega) (by rw [← hl]; exact hv) hf
      · exact h.elim
    · exact h.elim
  | sints k l t =>
    unfold objE at h
    simp only at h
    split at h
    · obtain ⟨hk, rfl⟩ := cond_some h
      obtain rfl := kindEq_eq _ _ hk
      cases hr with
      | sints _ _ _ _ _ _ hi hr => cases hr with
        | cells _ _ t' _ _ c fz hn hb hc hf =>
        have hv := ints_vals hc
        exact .sints _ _ _ _ _ _ hi (.cells _ _ _ _ _ _ _ hn hb (by rw [hv]; exact ints_rel k l) hf)
    · rename_i m _
      split at h
      · rename_i q hq
        subst h
        cases hr with
        | cells _ _ t' _ _ c fz hn hb hc hf =>
        obtain ⟨hv, hi⟩ := intsS_rel hq hc
        have hl : m.length = l.length := by have := hc.length; rw [hv, List.length_map] at this; exact this.symm
        exact .sints _ _ _ _ _ _ hi (.cells _ _ _ _ _ _ _ hn (by rw [List.length_map]; omega) (by rw [List.length_map, ← hl, hv]; exact ints_rel k l) hf)
      · exact h.elim
    · exact h.elim
  | tab m cs t =>
    unfold objE at h
    simp only at h
    split at h
    · obtain ⟨rfl, hc⟩ := h
      obtain rfl := colsE_eq hc
      cases hr with
      | tab _ _ _ t' _ _ c fz hn hb h0 hf => exact .tab _ _ _ _ _ _ _ _ hn hb (fun i hi => rowT_pool (φ := φ) (ψ := psi base ρ φ) (fun _ _ _ => rfl) (h0 i hi)) hf
    · exact h.elim
  | smap k ks cs one =>
    unfold objE at h
    simp only at h
    split at h
    · obtain ⟨hk, rfl, hc⟩ := cond_some h
      rw [Bool.and_eq_true] at hk
      obtain rfl := kindEq_eq _ _ hk.1
      obtain rfl := eqB_some hk.2
      obtain rfl := colsE_eq hc
      cases hr with
      | smap _ _ _ _ _ _ ms clock hl hbn hbo h0 => exact .smap _ _ _ _ _ _ ms clock hl hbn hbo fun i z hz => let ⟨h0, m, h1, h2, vs, h3, h4⟩ := h0 i z hz; ⟨h0, m, h1, h2, vs, rowT_pool (φ := φ) (ψ := psi base ρ φ) (fun _ _ _ => rfl) h3, h4⟩
    · subst h
      cases hr with
      | map _ _ _ ms clock hl hbn hbo h0 => exact .smap _ _ _ _ _ _ ms clock hl hbn hbo fun i z hz => by simp at hz
    · exact h.elim
  | map es =>
    unfold objE at h
    simp only at h
    split at h
    · rename_i fs
      cases hr with
      | map _ _ _ ms clock hl hbn hbo h0 =>
      have hlen : es.length = fs.length := by
        clear h0 hl
        revert h
        induction es generalizing fs with
        | nil => intro h; cases fs with | nil => rfl | cons _ _ => exact h.elim
        | cons e es ih => intro h; cases fs with | nil => exact h.elim | cons f fs => simp [ih fs h.2]
      refine .map _ _ _ _ _ (by omega) hbn hbo fun i e he => ?_
      have key : ∀ {es fs : List (AVal × AVal)} {i : Nat} {e : AVal × AVal}, mapE base ρ es fs → es[i]? = some e → ∃ f, fs[i]? = some f ∧ valE base ρ e.1 f.1 ∧ valE base ρ e.2 f.2 := by
        intro es
        induction es with
        | nil => intro fs i e _ he; simp at he
        | cons x es ih =>
          intro fs i e h he
          cases fs with
          | nil => exact h.elim
          | cons f fs =>
            cases i with
            | zero => simp at he; subst he; exact ⟨f, rfl, h.1.1, h.1.2⟩
            | succ i => have := ih (fs := fs) (i := i) h.2 (by simpa using he); simpa using this
      obtain ⟨f, q1, q2, q3⟩ := key h he
      obtain ⟨m, c1, c2, c3⟩ := h0 i f q1
      exact ⟨m, c1, valE_ok q2 c2, valE_ok q3 c3⟩
    · exact h.elim
  | loop s j τ m ps assign body =>
    unfold objE at h
    simp only at h
    split at h
    · obtain ⟨hc, rfl, rfl, hτ⟩ := cond_some h
      rw [Bool.and_eq_true, Bool.and_eq_true, Bool.and_eq_true] at hc
      obtain ⟨⟨⟨c1, c2⟩, c3⟩, c4⟩ := hc
      obtain rfl := eqLS_eq c1
      obtain rfl := eqJ_eq c2
      obtain rfl := Nat.eq_of_beq_eq_true c3
      obtain rfl := eqNs_eq c4
      cases hr with
      | loop _ _ _ _ _ _ _ _ _ r h1 h2 h3 h4 h5 h6 =>
      refine .loop _ _ _ _ _ _ _ _ _ r h1 h2 ⟨h3.size, fun t v hv => ?_⟩ h4 h5 h6
      obtain ⟨u, k1, k2⟩ := tempsE_mem hτ t v (ents_all hv)
      exact valE_ok k2 (h3.at_ t u k1)
    · exact h.elim
  | defd =>
    unfold objE at h
    simp only at h
    split at h
    · cases hr; exact .defd _ _
    · exact h.elim
theorem objE_nul {o' o : AObj} (h : objE base ρ o' o) (hn : o.nul = true) : o'.nul = true := by
  cases o' <;> (unfold objE at h; simp only at h)
  case cells l t => split at h <;> first | exact h.elim | cases hn
  case map es => split at h <;> first | exact h.elim | cases hn
  case sbytes l t =>
    split at h
    · subst h; cases l with | nil => rfl | cons _ _ => cases hn
    · cases hn
    · exact h.elim
  case sints k l t =>
    split at h
    · obtain ⟨_, rfl⟩ := cond_some h
      cases l with | nil => rfl | cons _ _ => cases hn
    · cases hn
    · exact h.elim
  case tab n cs t =>
    split at h
    · rename_i m ds t'
      obtain ⟨rfl, _⟩ := h
      cases n with | zero => rfl | succ _ => cases hn
    · exact h.elim
  case smap k ks cs one => split at h <;> first | exact h.elim | cases hn
  case defd => split at h <;> first | exact h.elim | cases hn
  case loop s j τ m ps a b => split at h <;> first | exact h.elim | cases hn
theorem heapE_mem {H : PT AObj} : ∀ {L : List (Nat × AObj)}, heapE base ρ H L → ∀ x o, (x, o) ∈ L → (∃ y o', renX base ρ x = some y ∧ H.get y = some o' ∧ objE base ρ o o') ∨ (renX base ρ x = none ∧ o.nul = true)
  | (z, p) :: r, h, x, o, hm => by
    simp only [heapE] at h
    rcases List.mem_cons.1 hm with he | hm
    · cases he
      obtain ⟨h, _⟩ := h
      split at h
      · rename_i y hy
        split at h
        · exact .inl ⟨y, _, hy, ‹_›, h⟩
        · exact h.elim
      · rename_i hy
        refine .inr ⟨hy, ?_⟩
        split at h
        · subst h; rfl
        · subst h; rfl
        · subst h; rfl
        · exact h.elim
    · exact heapE_mem h.2 x o hm
theorem idsOk_mem {next : Nat} : ∀ {L : List (Nat × AObj)} {seen : List Nat}, idsOk base ρ next L seen = true → (∀ x o, (x, o) ∈ L → x < next ∧ ∀ y, renX base ρ x = some y → y ∉ seen) ∧ ∀ x o x' o' y, (x, o) ∈ L → (x', o') ∈ L → renX base ρ x = some y → renX base ρ x' = some y → x = x'
  | [], seen, h => ⟨fun x o hm => by (cases hm), fun x o x' o' y hm => by (cases hm)⟩
  | (z, p) :: r, seen, h => by
    simp only [idsOk, Bool.and_eq_true] at h
    obtain ⟨hz, h⟩ := h
    have hz : z < next := by simpa [Nat.blt_eq] using hz
    split at h
    · rename_i y hy
      rw [Bool.and_eq_true] at h
      obtain ⟨h1, h2⟩ := h
      obtain ⟨k1, k2⟩ := idsOk_mem h2
      have hns : y ∉ seen := fun hm => by rw [(memN_iff y seen).2 hm] at h1; cases h1
      refine ⟨fun x o hm => ?_, fun x o x' o' y' hm hm' hx hx' => ?_⟩
      · rcases List.mem_cons.1 hm with he | hm
        · cases he; exact ⟨hz, fun y' hy' => by rw [hy] at hy'; cases hy'; exact hns⟩
        · exact ⟨(k1 x o hm).1, fun y' hy' => fun hin => (k1 x o hm).2 y' hy' (List.mem_cons_of_mem _ hin)⟩
      · rcases List.mem_cons.1 hm with he | hm <;> rcases List.mem_cons.1 hm' with he' | hm'
        · cases he; cases he'; rfl
        · cases he; rw [hy] at hx; cases hx; exact absurd List.mem_cons_self ((k1 x' o' hm').2 _ hx')
        · cases he'; rw [hy] at hx'; cases hx'; exact absurd List.mem_cons_self ((k1 x o hm).2 _ hx)
        · exact k2 x o x' o' y' hm hm' hx hx'
    · rename_i hy
      obtain ⟨k1, k2⟩ := idsOk_mem h
      refine ⟨fun x o hm => ?_, fun x o x' o' y' hm hm' hx hx' => ?_⟩
      · rcases List.mem_cons.1 hm with he | hm
        · cases he; exact ⟨hz, fun y' hy' => by rw [hy] at hy'; cases hy'⟩
        · exact k1 x o hm
      · rcases List.mem_cons.1 hm with he | hm <;> rcases List.mem_cons.1 hm' with he' | hm'
        · cases he; cases he'; rfl
        · cases he; rw [hy] at hx; cases hx
        · cases he'; rw [hy] at hx'; cases hx'
        · exact k2 x o x' o' y' hm hm' hx hx'
theorem keysOk_mem {next : Nat} : ∀ {ρ : List (Nat × Nat)}, keysOk next ρ = true → ∀ x y, lookN ρ x = some y → x < next
  | [], h, x, y, hl => by cases hl
  | (a, b) :: r, h, x, y, hl => by
    simp only [keysOk, Bool.and_eq_true] at h
    simp only [lookN] at hl
    cases hb : Nat.beq a x with
    | true => rw [← Nat.eq_of_beq_eq_true hb]; simpa [Nat.blt_eq] using h.1
    | false => rw [hb] at hl; exact keysOk_mem h.2 x y hl
/-- THE STATE IS SEEN OTHERWISE. -/
theorem stE_ok {w0 ws w : World} {φ0 : Phi} {H0 : PT AObj} {n : Nat} {τ : PT AVal} {tmps : Array Value} {st : St} {L : List (Nat × AVal)} {Hl : List (Nat × AObj)} {next : Nat} (h : stE base ρ τ st L Hl next) (h0 : ∀ x : Nat, φ0 x ≠ none → x < base)
    (hs : Step φ0 H0 ws φ st.heap w) (ht : TRel φ n τ tmps) (hw : WRel w0 φ st.heap st.next w) :
    TRel (psi base ρ φ) n (tau L) tmps ∧ WRel w0 (psi base ρ φ) (hp Hl) next w ∧ Step φ0 H0 ws (psi base ρ φ) (hp Hl) w := by
  obtain ⟨hb, hL, hH⟩ := h
  obtain ⟨hb, _⟩ := cond_some hb
  rw [Bool.and_eq_true, Bool.and_eq_true] at hb
  obtain ⟨⟨hb2, hb3⟩, hb4⟩ := hb
  have hb2 := Nat.le_of_ble_eq_true hb2
  obtain ⟨i1, i2⟩ := idsOk_mem hb4
  have low : ∀ x : Nat, x < base → psi base ρ φ x = φ x := fun x hx => psi_at (by unfold renX; rw [show Nat.blt x base = true by simpa [Nat.blt_eq] using hx]; rfl)
  have mem : ∀ {x o}, (hp Hl).get x = some o → (x, o) ∈ Hl := fun h => foldr_get h
  refine ⟨⟨ht.size, fun t v hv => ?_⟩, ?_⟩
  · obtain ⟨u, h1, h2⟩ := tempsE_mem hL t v (foldr_get hv)
    exact valE_ok h2 (ht.at_ t u h1)
  suffices hh2 : WRel0 w0 (psi base ρ φ) (hp Hl) next w ∧ Step0 φ0 H0 ws (psi base ρ φ) (hp Hl) w by
    refine ⟨⟨hh2.1, fun k b L t ht => ?_, fun k b L t x o b' n1 ht hx h4 => ?_⟩, ⟨hh2.2, fun k b L t ht => hs.pl k b L t ht⟩⟩
    · obtain ⟨n1, x, e1, e2, e3⟩ := hw.pool k b L t ht
      exact ⟨n1, x, e1, e2, sbytes_any e3⟩
    · rcases heapE_mem hH x o (mem hx) with ⟨y, o', h1, h2, h3⟩ | ⟨h1, h2⟩
      · rw [psi_at h1] at h4
        exact hw.apart k b L t y o' b' n1 ht h2 h4
      · rw [psi_no h1] at h4; cases h4
  refine ⟨⟨hw.below, fun x hx => ?_, fun x o hx => ?_, fun x y o o' g b b' m m' hx hy e1 e2 => ?_, fun x o hx => (i1 x o (mem hx)).1⟩, ⟨fun x t hx => ?_, hs.size, fun x o g b m hx e1 => ?_, hs.frame, fun x hx hn y hy => ?_⟩⟩
  · show (match renX base ρ x with | some y => φ y | none => none) = none
    unfold renX
    rw [show Nat.blt x base = false by rw [Bool.eq_false_iff]; intro h; have : x < base := by simpa [Nat.blt_eq] using h
                                       omega]
    simp only [cond_false]
    split
    · rename_i y hy; have := keysOk_mem hb3 x y hy; omega
    · rfl
  · rcases heapE_mem hH x o (mem hx) with ⟨y, o', h1, h2, h3⟩ | ⟨h1, h2⟩
    · rcases hw.obj y o' h2 with ⟨e1, e2⟩ | ⟨g, b, m, u, e1, e2, e3, e4⟩
      · exact .inl ⟨(psi_at h1).trans e1, objE_nul h3 e2⟩
      · exact .inr ⟨g, b, m, u, (psi_at h1).trans e1, e2, e3, objE_ok h3 e4⟩
    · exact .inl ⟨psi_no h1, h2⟩
  · rcases heapE_mem hH x o (mem hx) with ⟨z, p, h1, h2, h3⟩ | ⟨h1, h2⟩
    · rcases heapE_mem hH y o' (mem hy) with ⟨z', p', k1, k2, k3⟩ | ⟨k1, k2⟩
      · rw [psi_at h1] at e1
        rw [psi_at k1] at e2
        have := hw.inj z z' p p' g b b' m m' h2 k2 e1 e2
        subst this
        exact i2 x o y o' z (mem hx) (mem hy) h1 k1
      · rw [psi_no k1] at e2; cases e2
    · rw [psi_no h1] at e1; cases e1
  · cases x with
    | blk x =>
      have := h0 x (by rw [hx]; exact Option.some_ne_none _)
      exact (low x this).trans (hs.le x t hx)
    | pool g b L => exact hs.le _ t hx
  · rcases heapE_mem hH x o (mem hx) with ⟨y, o', h1, h2, h3⟩ | ⟨h1, h2⟩
    · rw [psi_at h1] at e1
      exact hs.orig y o' g b m h2 e1
    · rw [psi_no h1] at e1; cases e1
  · rcases Nat.lt_or_ge x base with hlt | hge
    · rw [low x hlt] at hx; exact hs.only x hx hn y hy
    · have := h0 y hy; omega
end
end Go.Proofs.Ytcofcojjofkgcaa.Abs
