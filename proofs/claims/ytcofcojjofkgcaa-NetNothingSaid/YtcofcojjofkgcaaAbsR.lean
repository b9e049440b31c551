/- Closed functions run by an interpreter: what its values and its state say of the model's. By an AI agent. -/
import Derived.Test.YtcofcojjofkgcaaAbs
import Derived.Below
import Derived.Laws.Sem
namespace Go.Proofs.Ytcofcojjofkgcaa.Abs
open Go Go.RowKit
set_option linter.unusedVariables false

theorem PT.get_leaf {α : Type} (k : Nat) : (PT.leaf : PT α).get k = none := rfl
theorem PT.get_zero {α : Type} (l r : PT α) (v : Option α) : (PT.node l v r).get 0 = v := rfl
theorem PT.get_succ {α : Type} (l r : PT α) (v : Option α) (m : Nat) : (PT.node l v r).get (m + 1) = if m % 2 = 0 then l.get (m / 2) else r.get (m / 2) := by
  show Nat.rec (motive := fun _ => Option α) (l.get (m / 2)) (fun _ _ => r.get (m / 2)) (m % 2) = _
  rcases Nat.mod_two_eq_zero_or_one m with h | h <;> rw [h] <;> rfl
theorem PT.single_succ {α : Type} (x : Option α) (f m : Nat) : PT.single x (f + 1) (m + 1) = if m % 2 = 0 then .node (PT.single x f (m / 2)) none .leaf else .node .leaf none (PT.single x f (m / 2)) := by
  show Nat.rec (motive := fun _ => PT α) (.node (PT.single x f (m / 2)) none .leaf) (fun _ _ => .node .leaf none (PT.single x f (m / 2))) (m % 2) = _
  rcases Nat.mod_two_eq_zero_or_one m with h | h <;> rw [h] <;> rfl
theorem PT.get_single {α : Type} (x : Option α) : ∀ (f n k : Nat), n < f → (PT.single x f n).get k = if k = n then x else none
  | 0, n, k, h => by omega
  | f + 1, 0, 0, h => rfl
  | f + 1, 0, k + 1, h => by
    show (PT.node .leaf x .leaf).get (k + 1) = _
    rw [PT.get_succ]; simp [PT.get_leaf]
  | f + 1, m + 1, 0, h => by
    rw [PT.single_succ]
    split <;> simp [PT.get_zero]
  | f + 1, m + 1, k + 1, h => by
    rw [PT.single_succ]
    have ih := PT.get_single x f (m / 2) (k / 2) (by omega)
    by_cases h1 : m % 2 = 0 <;> by_cases h2 : k % 2 = 0 <;> simp only [h1, h2, if_true, if_false, PT.get_succ, ih, PT.get_leaf]
    · by_cases h3 : k = m
      · subst h3; simp
      · rw [if_neg (by omega), if_neg (by omega)]
    · rw [if_neg (by omega)]
    · rw [if_neg (by omega)]
    · by_cases h3 : k = m
      · subst h3; simp
      · rw [if_neg (by omega), if_neg (by omega)]
theorem PT.set_leaf {α : Type} (n : Nat) (x : Option α) : (PT.leaf : PT α).set n x = PT.single x (n + 1) n := rfl
theorem PT.set_zero {α : Type} (l r : PT α) (v x : Option α) : (PT.node l v r).set 0 x = .node l x r := rfl
theorem PT.set_succ {α : Type} (l r : PT α) (v x : Option α) (m : Nat) : (PT.node l v r).set (m + 1) x = if m % 2 = 0 then .node (l.set (m / 2) x) v r else .node l v (r.set (m / 2) x) := by
  show Nat.rec (motive := fun _ => PT α) (.node (l.set (m / 2) x) v r) (fun _ _ => .node l v (r.set (m / 2) x)) (m % 2) = _
  rcases Nat.mod_two_eq_zero_or_one m with h | h <;> rw [h] <;> rfl
theorem PT.get_set {α : Type} (x : Option α) : ∀ (t : PT α) (n k : Nat), (t.set n x).get k = if k = n then x else t.get k
  | .leaf, n, k => by rw [PT.set_leaf, PT.get_single x (n + 1) n k (by omega)]; simp [PT.get_leaf]
  | .node l v r, 0, 0 => rfl
  | .node l v r, 0, k + 1 => by rw [PT.set_zero, PT.get_succ, PT.get_succ]; simp
  | .node l v r, m + 1, 0 => by rw [PT.set_succ]; split <;> simp [PT.get_zero]
  | .node l v r, m + 1, k + 1 => by
    rw [PT.set_succ]
    have ih1 := PT.get_set x l (m / 2) (k / 2)
    have ih2 := PT.get_set x r (m / 2) (k / 2)
    by_cases h1 : m % 2 = 0 <;> by_cases h2 : k % 2 = 0 <;> simp only [h1, h2, if_true, if_false, PT.get_succ, ih1, ih2]
    · by_cases h3 : k = m
      · subst h3; simp
      · rw [if_neg (by omega), if_neg (by omega)]
    · rw [if_neg (by omega)]
    · rw [if_neg (by omega)]
    · by_cases h3 : k = m
      · subst h3; simp
      · rw [if_neg (by omega), if_neg (by omega)]

/-- where the interpreter's blocks lie: the block, where it begins there, how many cells that block has -/
inductive PKey where
  | blk (n : Nat)
  /-- a row of bytes that nobody changes any more -/
  | pool (g b : Nat) (l : List UInt8)
  deriving DecidableEq
instance : Coe Nat PKey := ⟨.blk⟩
instance (n : Nat) : OfNat PKey n := ⟨.blk n⟩
abbrev Phi := PKey → Option (Nat × Nat × Nat)
mutual
inductive VRel (φ : Phi) : AVal → Value → Prop
  | bool (b : Bool) : VRel φ (.bool b) (.bool b)
  | int (k : IntKind) (n : Int) : VRel φ (.int k n) (.int k n)
  | str (s : ByteArray) : VRel φ (.str (s.data.toList.map UInt8.toNat)) (.string s)
  | ptr0 : VRel φ (.ptr none) (.pointer none)
  | ptr (x o g b n : Nat) (h : φ x = some (g, b, n)) : VRel φ (.ptr (some (x, o))) (.pointer (some ⟨g, b + o, none⟩))
  | slice0 (ex : Bool) (z : Nat) : VRel φ (.slice none 0 0 ex z) (.slice none 0 0)
  | slice (x o len lo z g b n cap : Nat) (ex : Bool) (a : Addr) (h : φ x = some (g, b, n)) (hl : len ≤ lo) (hc : lo ≤ cap) (he : ex = true → cap = lo) (hz : ex = false → b + o + cap * z ≤ n) (ha : (cap = 0 ∧ a.block = g) ∨ a = ⟨g, b + o, none⟩) : VRel φ (.slice (some (x, o)) len lo ex z) (.slice (some a) len cap)
  | map0 : VRel φ (.map none) (.map none)
  | map (x g b n : Nat) (h : φ x = some (g, b, n)) : VRel φ (.map (some x)) (.map (some g))
  | func (f : FuncId) (a b : List AVal) (va vb : Array Value) (ha : VRels φ a va.toList) (hb : VRels φ b vb.toList) : VRel φ (.func f a b) (.func (.func f) va vb)
  | nilFunc : VRel φ .nilFunc .nilFunc
  | yield (x g b n : Nat) (h : φ x = some (g, b, n)) : VRel φ (.yield x) (.func (.yield g) #[] #[])
  | agg (l : List AVal) (c : Array Value) (h : VRels φ l c.toList) : VRel φ (.agg l) (.agg c)
  | tuple (l : List AVal) (c : Array Value) (h : VRels φ l c.toList) : VRel φ (.tuple l) (.tuple c)
  | sint (k : IntKind) (n : Int) (h : inR k n) : VRel φ (.sint k n) (.int k n)
  | sbool (b : Bool) : VRel φ (.sbool b) (.bool b)
  | sstr (s : ByteArray) : VRel φ (.sstr s.data.toList) (.string s)
  | sslice (x o len lo z g b n cap : Nat) (ex : Bool) (a : Addr) (h : φ x = some (g, b, n)) (hl : len ≤ lo) (hc : lo ≤ cap) (he : ex = true → cap = lo) (hz : ex = false → b + o + cap * z ≤ n) (ha : (cap = 0 ∧ a.block = g) ∨ a = ⟨g, b + o, none⟩) : VRel φ (.sslice (x, o) len lo ex z) (.slice (some a) len cap)
  | snil (a : Nat × Nat) (ex : Bool) (z : Nat) : VRel φ (.sslice a 0 0 ex z) (.slice none 0 0)
  /-- of none, wherever it stands: nothing is appended to it -/
  | semp (a : Nat × Nat) (A : Option Addr) (c z : Nat) : VRel φ (.sslice a 0 0 true z) (.slice A 0 c)
  | tslice (x i len lo wd : Nat) (ex : Bool) (u : Value) (h : VRel φ (.sslice (x, i * wd) len lo ex wd) u) : VRel φ (.tslice x i len lo ex wd) u
  | tptr (x i wd c g b n : Nat) (h : φ x = some (g, b, n)) : VRel φ (.tptr x i wd c) (.pointer (some ⟨g, b + (i * wd + c), none⟩))
  | pemp (A : Option Addr) (c : Nat) : VRel φ (.pbytes []) (.slice A 0 c)
  | pbytes (l L : List UInt8) (o g b n c : Nat) (h : φ (.pool g b L) = some (g, b, n)) (hl : l = (L.drop o).take l.length) (ho : o + l.length ≤ L.length) (hc : l.length ≤ c) : VRel φ (.pbytes l) (.slice (some ⟨g, b + o, none⟩) l.length c)
  | pptr (l L : List UInt8) (o i g b n : Nat) (h : φ (.pool g b L) = some (g, b, n)) (hl : l = (L.drop o).take l.length) (ho : o + l.length ≤ L.length) : VRel φ (.pptr l i) (.pointer (some ⟨g, b + o + i, none⟩))
inductive VRels (φ : Phi) : List AVal → List Value → Prop
  | nil : VRels φ [] []
  | cons (v : AVal) (u : Value) (vs : List AVal) (us : List Value) (h : VRel φ v u) (hs : VRels φ vs us) : VRels φ (v :: vs) (u :: us)
end
def Phi.le (φ ψ : Phi) : Prop := ∀ x t, φ x = some t → ψ x = some t
theorem Phi.le_refl (φ : Phi) : φ.le φ := fun _ _ h => h
theorem Phi.le.trans {φ ψ χ : Phi} (h : φ.le ψ) (k : ψ.le χ) : φ.le χ := fun x t e => k x t (h x t e)
mutual
theorem VRel.mono {φ ψ : Phi} (hle : φ.le ψ) : ∀ {v : AVal} {u : Value}, VRel φ v u → VRel ψ v u
  | _, _, .bool b => .bool b
  | _, _, .int k n => .int k n
  | _, _, .str s => .str s
  | _, _, .ptr0 => .ptr0
  | _, _, .ptr x o g b n h => .ptr x o g b n (hle _ _ h)
  | _, _, .slice0 ex z => .slice0 ex z
  | _, _, .slice x o len lo z g b n cap ex a h hl hc he hz ha => .slice x o len lo z g b n cap ex a (hle _ _ h) hl hc he hz ha
  | _, _, .map0 => .map0
  | _, _, .map x g b n h => .map x g b n (hle _ _ h)
  | _, _, .func f a b va vb ha hb => .func f a b va vb (VRels.mono hle ha) (VRels.mono hle hb)
  | _, _, .nilFunc => .nilFunc
  | _, _, .yield x g b n h => .yield x g b n (hle _ _ h)
  | _, _, .agg l c h => .agg l c (VRels.mono hle h)
  | _, _, .tuple l c h => .tuple l c (VRels.mono hle h)
  | _, _, .sint k n h => .sint k n h
  | _, _, .sbool b => .sbool b
  | _, _, .sstr s => .sstr s
  | _, _, .sslice x o len lo z g b n cap ex a h hl hc he hz ha => .sslice x o len lo z g b n cap ex a (hle _ _ h) hl hc he hz ha
  | _, _, .snil a ex z => .snil a ex z
  | _, _, .semp a A c z => .semp a A c z
  | _, _, .tslice x i len lo wd ex u h => .tslice x i len lo wd ex u (VRel.mono hle h)
  | _, _, .tptr x i wd c g b n h => .tptr x i wd c g b n (hle _ _ h)
  | _, _, .pemp A c => .pemp A c
  | _, _, .pbytes l L o g b n c h hl ho hc => .pbytes l L o g b n c (hle _ _ h) hl ho hc
  | _, _, .pptr l L o i g b n h hl ho => .pptr l L o i g b n (hle _ _ h) hl ho
theorem VRels.mono {φ ψ : Phi} (hle : φ.le ψ) : ∀ {v : List AVal} {u : List Value}, VRels φ v u → VRels ψ v u
  | _, _, .nil => .nil
  | _, _, .cons v u vs us h hs => .cons v u vs us (VRel.mono hle h) (VRels.mono hle hs)
end
section
variable {φ : Phi}
theorem VRels.length {l : List AVal} {m : List Value} (h : VRels φ l m) : m.length = l.length := by
  induction l generalizing m with
  | nil => cases h; rfl
  | cons v vs ih => cases h; simp [ih ‹_›]
theorem VRels.get {l : List AVal} {m : List Value} (h : VRels φ l m) : ∀ {i : Nat} {v : AVal}, l[i]? = some v → ∃ u, m[i]? = some u ∧ VRel φ v u := by
  induction l generalizing m with
  | nil => intro i v hi; simp at hi
  | cons x xs ih =>
    cases h with
    | cons _ u _ us h hs =>
      intro i v hi
      rcases i with _ | i
      · obtain rfl : x = v := by simpa using hi
        exact ⟨u, rfl, h⟩
      · exact ih hs (by simpa using hi)
theorem VRels.of_get : ∀ {l : List AVal} {m : List Value}, m.length = l.length → (∀ (i : Nat) (v : AVal), l[i]? = some v → ∃ u, m[i]? = some u ∧ VRel φ v u) → VRels φ l m
  | [], [], _, _ => .nil
  | [], _ :: _, h, _ => by simp at h
  | _ :: _, [], h, _ => by simp at h
  | v :: vs, u :: us, h, k => by
    refine .cons _ _ _ _ ?_ (VRels.of_get (by simpa using h) fun i w hi => ?_)
    · obtain ⟨u', h1, h2⟩ := k 0 v rfl
      obtain rfl : u = u' := by simpa using h1
      exact h2
    · obtain ⟨u', h1, h2⟩ := k (i + 1) w (by simpa using hi)
      exact ⟨u', by simpa using h1, h2⟩
theorem VRels.append {l l' : List AVal} {m m' : List Value} (h : VRels φ l m) (h' : VRels φ l' m') : VRels φ (l ++ l') (m ++ m') := by
  induction l generalizing m with
  | nil => cases h; exact h'
  | cons v vs ih => cases h with | cons _ u _ us h hs => exact .cons _ _ _ _ h (ih hs)
theorem VRels.take {l : List AVal} {m : List Value} (h : VRels φ l m) (n : Nat) : VRels φ (l.take n) (m.take n) := by
  induction l generalizing m n with
  | nil => cases h; simp; exact .nil
  | cons v vs ih => cases h with
    | cons _ u _ us h hs =>
      rcases n with _ | n
      · exact .nil
      · exact .cons _ _ _ _ h (ih hs n)
theorem VRels.drop {l : List AVal} {m : List Value} (h : VRels φ l m) (n : Nat) : VRels φ (l.drop n) (m.drop n) := by
  induction l generalizing m n with
  | nil => cases h; simp; exact .nil
  | cons v vs ih => cases h with
    | cons _ u _ us h hs =>
      rcases n with _ | n
      · exact .cons _ _ _ _ h hs
      · exact ih hs n
theorem lenL_eq {α : Type} : ∀ (l : List α) (n : Nat), lenL l n = l.length + n
  | [], n => by simp [lenL]
  | _ :: l, n => by rw [lenL, lenL_eq l]; simp; omega
theorem lenL0 {α : Type} (l : List α) : lenL l 0 = l.length := by rw [lenL_eq]; rfl
theorem nth_eq {α : Type} : ∀ (l : List α) (n : Nat), nth l n = l[n]?
  | [], n => by simp [nth]
  | x :: xs, 0 => rfl
  | x :: xs, n + 1 => by simp [nth, nth_eq xs n]
theorem mapO_some {f : Value → Option AVal} (hf : ∀ v a, f v = some a → VRel φ a v) : ∀ {l : List Value} {r : List AVal}, mapO f l = some r → VRels φ r l
  | [], r, h => by simp [mapO] at h; subst h; exact .nil
  | x :: xs, r, h => by
    unfold mapO at h
    split at h
    · split at h
      · rename_i y hy _ ys hys
        cases h
        exact .cons _ _ _ _ (hf _ _ hy) (mapO_some hf hys)
      · cases h
    · cases h
theorem ofValue_some : ∀ (d : Nat) (v : Value) (a : AVal), ofValue d v = some a → VRel φ a v
  | 0, v, a, h => by simp [ofValue] at h
  | d + 1, v, a, h => by
    unfold ofValue at h
    split at h <;> (try (cases h; first | exact .bool _ | exact .int _ _ | exact .str _ | exact .ptr0 | exact .slice0 _ _ | exact .map0 | exact .nilFunc | exact .func _ _ _ _ _ .nil .nil))
    · split at h
      · cases h; exact .agg _ _ (mapO_some (ofValue_some d) ‹_›)
      · cases h
    · split at h
      · cases h; exact .tuple _ _ (mapO_some (ofValue_some d) ‹_›)
      · cases h
    · cases h
theorem VRel.undef : VRel φ .undef undef := .tuple _ _ .nil

structure TRel (φ : Phi) (n : Nat) (τ : PT AVal) (tmps : Array Value) : Prop where
  size : tmps.size = n
  at_ : ∀ t v, τ.get t = some v → VRel φ v (tmps.getD t Go.undef)
theorem TRel.mono {φ ψ : Phi} (hle : φ.le ψ) {n : Nat} {τ : PT AVal} {tmps : Array Value} (h : TRel φ n τ tmps) : TRel ψ n τ tmps := ⟨h.size, fun t v hv => (h.at_ t v hv).mono hle⟩
def lsOf : LSt → LoopState
  | .ready => .ready
  | .busy => .busy
  | .done => .done
  | .exhausted => .exhausted
def codeOf : Jump → Option Code
  | .none => none
  | .ret => some .ret
  | .exit id => some (.exit id)
/-- what stands in a block -/
inductive ORel (φ : Phi) : AObj → Nat → Nat → Obj → Prop
  | cells (l : List AVal) (t t' : TypeId) (b n : Nat) (c : Array Value) (fz : Nat × Nat) (hn : c.size = n) (hb : b + l.length ≤ n) (h : VRels φ l ((c.toList.drop b).take l.length)) (hf : fz.1 = fz.2 ∨ n ≤ fz.1) : ORel φ (.cells l t) b n (.cells c t' fz)
  | sbytes (l : List UInt8) (t : TypeId) (b n : Nat) (u : Obj) (h : ORel φ (.cells (l.map fun c => .int .u8 (c.toNat : Int)) t) b n u) : ORel φ (.sbytes l t) b n u
  | sints (k : IntKind) (l : List Int) (t : TypeId) (b n : Nat) (u : Obj) (hr : ∀ z ∈ l, inR k z) (h : ORel φ (.cells (l.map fun z => .int k z) t) b n u) : ORel φ (.sints k l t) b n u
  | tab (m : Nat) (cs : List TCol) (t t' : TypeId) (b n : Nat) (c : Array Value) (fz : Nat × Nat) (hn : c.size = n) (hb : b + m * cs.length ≤ n) (h : ∀ i, i < m → VRels φ (rowT i cs) ((c.toList.drop (b + i * cs.length)).take cs.length)) (hf : fz.1 = fz.2 ∨ n ≤ fz.1) : ORel φ (.tab m cs t) b n (.cells c t' fz)
  | smap (k : IntKind) (ks : List Int) (cs : List TCol) (one : Bool) (b n : Nat) (ms : Array MapEntry) (clock : Nat) (hl : ms.size = ks.length) (hbn : (ms.toList.map (·.born)).Nodup) (hbo : ∀ m ∈ ms.toList, m.born < clock) (h : ∀ (i : Nat) (z : Int), ks[i]? = some z → inR k z ∧ ∃ m : MapEntry, ms[i]? = some m ∧ m.key = .int k z ∧ ∃ vs, VRels φ (rowT i cs) vs ∧ (one = true → vs = [m.val]) ∧ (one = false → m.val = .agg vs.toArray)) : ORel φ (.smap k ks cs one) b n (.map ms clock)
  | map (es : List (AVal × AVal)) (b n : Nat) (ms : Array MapEntry) (clock : Nat) (hl : ms.size = es.length) (hbn : (ms.toList.map (·.born)).Nodup) (hbo : ∀ m ∈ ms.toList, m.born < clock) (h : ∀ (i : Nat) (e : AVal × AVal), es[i]? = some e → ∃ m : MapEntry, ms[i]? = some m ∧ VRel φ e.1 m.key ∧ VRel φ e.2 m.val) : ORel φ (.map es) b n (.map ms clock)
  | loop (s : LSt) (j : Jump) (τ : PT AVal) (m : Nat) (ps : List Nat) (assign body : Code) (b n : Nat) (r : Loop) (h1 : r.state = lsOf s) (h2 : r.pending = codeOf j) (h3 : TRel φ m τ r.tmps) (h4 : r.params.toList = ps) (h5 : r.assign = assign) (h6 : r.body = body) : ORel φ (.loop s j τ m ps assign body) b n (.loop r)
  | defd (b n : Nat) : ORel φ .defd b n (.deferred (some []))
theorem ORel.mono {φ ψ : Phi} (hle : φ.le ψ) {o : AObj} {b n : Nat} {u : Obj} (h : ORel φ o b n u) : ORel ψ o b n u := by
  induction h with
  | cells l t t' b n c fz hn hb h hf => exact .cells l t t' b n c fz hn hb (h.mono hle) hf
  | sbytes l t b n u h ih => exact .sbytes l t b n u ih
  | sints k l t b n u hr h ih => exact .sints k l t b n u hr ih
  | tab m cs t t' b n c fz hn hb h hf => exact .tab m cs t t' b n c fz hn hb (fun i hi => (h i hi).mono hle) hf
  | smap k ks cs one b n ms clock hl hbn hbo h => exact .smap k ks cs one b n ms clock hl hbn hbo fun i z hz => let ⟨h0, m, h1, h2, vs, h3, h4⟩ := h i z hz; ⟨h0, m, h1, h2, vs, h3.mono hle, h4⟩
  | map es b n ms clock hl hbn hbo h => exact .map es b n ms clock hl hbn hbo fun i e he => let ⟨m, h1, h2, h3⟩ := h i e he; ⟨m, h1, h2.mono hle, h3.mono hle⟩
  | loop s j τ m ps assign body b n r h1 h2 h3 h4 h5 h6 => exact .loop s j τ m ps assign body b n r h1 h2 (h3.mono hle) h4 h5 h6
  | defd b n => exact .defd b n
/-- an object, whatever of it is frozen -/
def thaw : Obj → Obj
  | .cells c t _ => .cells c t (0, 0)
  | u => u
theorem ORel.thaw {φ : Phi} {o : AObj} {b n : Nat} {u : Obj} (h : ORel φ o b n u) : ORel φ o b n (thaw u) := by
  induction h with
  | cells l t t' b n c fz hn hb h hf => exact .cells l t t' b n c (0, 0) hn hb h (.inl rfl)
  | sbytes l t b n u h ih => exact .sbytes l t b n _ ih
  | sints k l t b n u hr h ih => exact .sints k l t b n _ hr ih
  | tab m cs t t' b n c fz hn hb h hf => exact .tab m cs t t' b n c (0, 0) hn hb h (.inl rfl)
  | smap k ks cs one b n ms clock hl hbn hbo h => exact .smap k ks cs one b n ms clock hl hbn hbo h
  | map es b n ms clock hl hbn hbo h => exact .map es b n ms clock hl hbn hbo h
  | loop s j τ m ps assign body b n r h1 h2 h3 h4 h5 h6 => exact .loop s j τ m ps assign body b n r h1 h2 h3 h4 h5 h6
  | defd b n => exact .defd b n
/-- a row of none: it may stand nowhere -/
def AObj.nul : AObj → Bool
  | .sbytes [] _ => true
  | .sints _ [] _ => true
  | .tab 0 _ _ => true
  | _ => false
/-- the interpreter's state, and the world's -/
structure WRel0 (w0 : World) (φ : Phi) (H : PT AObj) (next : Nat) (w : World) : Prop where
  below : Below w0.heap.size w0 w
  fresh : ∀ x, next ≤ x → φ x = none
  obj : ∀ x o, H.get x = some o → (φ x = none ∧ o.nul = true) ∨ ∃ g b n u, φ x = some (g, b, n) ∧ w0.heap.size ≤ g ∧ w.heap[g]? = some u ∧ ORel φ o b n u
  inj : ∀ x y o o' g b b' n n', H.get x = some o → H.get y = some o' → φ x = some (g, b, n) → φ y = some (g, b', n') → x = y
  lt : ∀ x o, H.get x = some o → x < next
/-- rows that nobody changes any more -/
def Pool (φ : Phi) (w : World) : Prop := ∀ k b L t, φ (.pool k b L) = some t → ∃ n x, t = (k, b, n) ∧ w.heap[k]? = some x ∧ ORel φ (.sbytes L 0) b n (thaw x)
structure WRel (w0 : World) (φ : Phi) (H : PT AObj) (next : Nat) (w : World) : Prop extends WRel0 w0 φ H next w where
  pool : Pool φ w
  apart : ∀ k b L t x o b' n, φ (.pool k b L) = some t → H.get x = some o → φ x ≠ some (k, b', n)
def RRel (w0 : World) (φ : Phi) (RO : PT AObj) : Prop :=
  ∀ x o, RO.get x = some o → (o.nul = true ∧ 900 ≤ x) ∨ ∃ g b n u, φ x = some (g, b, n) ∧ (x < 900 → g = x ∧ b = 0) ∧ g < w0.heap.size ∧ w0.heap[g]? = some u ∧ ORel φ o b n (thaw u)
theorem WRel.obj_of {w0 : World} {φ : Phi} {H : PT AObj} {next : Nat} {w : World} (hw : WRel w0 φ H next w) {x : Nat} {o : AObj} (h : H.get x = some o) {t : Nat × Nat × Nat} (hφ : φ x = some t) : ∃ g b n u, φ x = some (g, b, n) ∧ w0.heap.size ≤ g ∧ w.heap[g]? = some u ∧ ORel φ o b n u := by
  rcases hw.obj x o h with ⟨h1, _⟩ | h1
  · rw [hφ] at h1; cases h1
  · exact h1
theorem WRel.obj_at {w0 : World} {φ : Phi} {H : PT AObj} {next : Nat} {w : World} (hw : WRel w0 φ H next w) {x : Nat} {o : AObj} (h : H.get x = some o) (hn : o.nul = false) : ∃ g b n u, φ x = some (g, b, n) ∧ w0.heap.size ≤ g ∧ w.heap[g]? = some u ∧ ORel φ o b n u := by
  rcases hw.obj x o h with ⟨_, h1⟩ | h1
  · rw [hn] at h1; cases h1
  · exact h1
theorem TRel.put {n : Nat} {τ τ' : PT AVal} {a : Act} {d : Option Tmp} {v : AVal} {u : Value} (h : TRel φ n τ a.tmps) (hp : putA n τ d v = some τ') (hv : VRel φ v u) : TRel φ n τ' (a.put d u).tmps := by
  unfold putA at hp
  cases d with
  | none => cases hp; exact h
  | some d =>
    simp only at hp
    cases hb : Nat.blt d n with
    | false => rw [hb] at hp; cases hp
    | true =>
      rw [hb] at hp
      cases hp
      have hd : d < n := by simpa [Nat.blt_eq] using hb
      refine ⟨by simp [Act.put, h.size], fun t v' hv' => ?_⟩
      rw [PT.get_set] at hv'
      by_cases ht : t = d
      · subst ht
        rw [if_pos rfl] at hv'
        cases hv'
        simp [Act.put, h.size, hd, hv]
      · rw [if_neg ht] at hv'
        have := h.at_ t v' hv'
        simp only [Act.put]
        rw [Array.getD_eq_getD_getElem?, Array.getElem?_setIfInBounds_ne (Ne.symm ht), ← Array.getD_eq_getD_getElem?]
        exact this
theorem ev_some {w0 : World} {RO : PT AObj} {n : Nat} {τ : PT AVal} {a : Act} (hr : RRel w0 φ RO) (h : TRel φ n τ a.tmps) (x : Operand) (v : AVal) (hx : evA RO τ x = some v) : VRel φ v (a.eval x) := by
  cases x with
  | tmp t => simp only [evA] at hx; exact h.at_ t v hx
  | const u => exact ofValue_some 4 u v hx
  | global g =>
    simp only [evA] at hx
    cases hb : Nat.blt g 900 with
    | false => rw [hb] at hx; cases hx
    | true =>
    rw [hb] at hx
    simp only [cond_true] at hx
    have hb : g < 900 := by simpa [Nat.blt_eq] using hb
    split at hx
    · cases hx
      rcases hr _ _ ‹_› with ⟨_, h9⟩ | ⟨g', b, n, u, h1, h2, _⟩
      · omega
      · obtain ⟨rfl, rfl⟩ := h2 hb
        exact VRel.ptr (φ := φ) g' 0 g' 0 n h1
    · cases hx
  | func f => simp only [evA] at hx; cases hx; exact .func _ _ _ _ _ .nil .nil
end
end Go.Proofs.Ytcofcojjofkgcaa.Abs
