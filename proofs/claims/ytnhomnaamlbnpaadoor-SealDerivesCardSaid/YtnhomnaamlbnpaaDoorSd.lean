/- seal: the law's few parts, as a hook. By an AI agent. -/
import Derived.Test.YtnhomnaamlbnpaaDoorNd
import Derived.Test.YtnhomnaamlbnpaaDoorRt
namespace Go.Proofs.YtnhomnaamlbnpaaDoor.Sd
open Go Go.RowKit Go.Proofs.YtnhomnaamlbnpaaDoor.Abs Go.Proofs.YtnhomnaamlbnpaaDoor.M
set_option linter.unusedVariables false
set_option maxRecDepth 100000
set_option linter.unusedSimpArgs false
abbrev FEW : FuncId := 10
abbrev TP : TypeId := 23
def fewL (L : List (List UInt8)) (i : Nat) : List (List UInt8) := ((L.take i).take 6).map fun p => p.take 80
noncomputable def fewA (L : List (List UInt8)) (n : Nat) (τ : PT AVal) (st : St) : USpec :=
  { X := Nat, ok := fun i => i ≤ n, m := fun i => n - i, I := fun i => ([(8, .sint .i64 (i : Int)), (3, .tslice st.next 0 (min i 6) (min i 6) false 1)], [(st.next, .tab (min i 6) [.ps (fewL L i)] TP)]), dc := [],
    outs := [(.exit 0, { Z := Unit, post := fun _ => True, J := fun _ => ([(3, .tslice st.next 0 (min n 6) (min n 6) false 1)], [(st.next, .tab (min n 6) [.ps (fewL L n)] TP)]) })] }
noncomputable abbrev roF (L : List (List UInt8)) (n : Nat) (ty : TypeId) : PT AObj := hp [(900, .tab n [.ps L] ty)]
--forms
def fewf (L : List (List UInt8)) (n c : Nat) (ty : TypeId) : Prop :=
    n ≤ 9223372036854775807 ∧ (Go.Proofs.YtnhomnaamlbnpaaDoor.Abs.ExT Nat fun x => x ≤ n ∧ True ∧ (((↑x : Int) = (0 : Int) ∧ Go.Proofs.YtnhomnaamlbnpaaDoor.Abs.inR Go.IntKind.i64 (↑x : Int)) ∧ (Min.min x 6 = 0 ∧ Min.min x 6 = 0) ∧ ((0 : Nat) = 0 ∧ n = n ∧ c = c) ∧ (↑n : Int) = (↑n : Int) ∧ ((0 : Nat) = 0 ∧ (0 : Nat) = 0) ∧ ((0 : Nat) = 0 ∧ n = n ∧ c = c) ∧ True) ∧ Min.min x 6 = 0 ∧ True) ∧ (∀ (x : Nat), x ≤ n →
    (Decidable.decide ((↑x : Int) < (↑n : Int)) = Bool.true →
    ((0 : Int) ≤ (↑x : Int) ∧ (↑x : Int) < (↑n : Int)) ∧ 0 + Int.toNat (↑x : Int) < n ∧ (Decidable.decide ((↑x : Int) < (6 : Int)) = Bool.true →
    List.length (List.getD L (0 + Int.toNat (↑x : Int)) []) ≤ 9223372036854775807 ∧ ∀ (z' : Int), z' = Min.min (↑(List.length (List.getD L (0 + Int.toNat (↑x : Int)) [])) : Int) (80 : Int) →
    ((0 : Int) ≤ z' ∧ True ∧ 0 ≤ Int.toNat z' ∧ Int.toNat z' ≤ List.length (List.getD L (0 + Int.toNat (↑x : Int)) [])) ∧ (Min.min x 6 = Min.min x 6 ∧ Min.min x 6 + 1 ≤ 65536 ∧ List.length (Go.Proofs.YtnhomnaamlbnpaaDoor.Sd.fewL L x) = Min.min x 6 ∧ True) ∧ ∀ (l' : List (List UInt8)), l' = Go.Proofs.YtnhomnaamlbnpaaDoor.Sd.fewL L x ++ [List.drop 0 (List.take (Int.toNat z') (List.getD L (0 + Int.toNat (↑x : Int)) []))] →
    Go.Proofs.YtnhomnaamlbnpaaDoor.Abs.inR Go.IntKind.i64 ((↑x : Int) + (1 : Int)) ∧ ∀ (z' : Int), z' = (↑x : Int) + (1 : Int) →
    Go.Proofs.YtnhomnaamlbnpaaDoor.Abs.ExT Nat fun y => (n - y < n - x ∧ y ≤ n) ∧ True ∧ ((↑y : Int) = z' ∧ ((0 : Nat) = 0 ∧ Min.min y 6 = Min.min x 6 + 1 ∧ Min.min y 6 = Min.min x 6 + 1) ∧ ((0 : Nat) = 0 ∧ n = n ∧ c = c) ∧ (↑n : Int) = (↑n : Int) ∧ ((0 : Nat) = 0 ∧ (0 : Nat) = 0) ∧ ((0 : Nat) = 0 ∧ n = n ∧ c = c) ∧ True) ∧ (Min.min y 6 = Min.min x 6 + 1 ∧ Go.Proofs.YtnhomnaamlbnpaaDoor.Sd.fewL L y = l' ∧ True) ∧ True) ∧ (Decidable.decide ((↑x : Int) < (6 : Int)) = Bool.false →
    Go.Proofs.YtnhomnaamlbnpaaDoor.Abs.inR Go.IntKind.i64 ((↑x : Int) + (1 : Int)) ∧ ∀ (z' : Int), z' = (↑x : Int) + (1 : Int) →
    Go.Proofs.YtnhomnaamlbnpaaDoor.Abs.ExT Nat fun y => (n - y < n - x ∧ y ≤ n) ∧ True ∧ ((↑y : Int) = z' ∧ ((0 : Nat) = 0 ∧ Min.min y 6 = Min.min x 6 ∧ Min.min y 6 = Min.min x 6) ∧ ((0 : Nat) = 0 ∧ n = n ∧ c = c) ∧ (↑n : Int) = (↑n : Int) ∧ ((0 : Nat) = 0 ∧ (0 : Nat) = 0) ∧ ((0 : Nat) = 0 ∧ n = n ∧ c = c) ∧ True) ∧ (Min.min y 6 = Min.min x 6 ∧ Go.Proofs.YtnhomnaamlbnpaaDoor.Sd.fewL L y = Go.Proofs.YtnhomnaamlbnpaaDoor.Sd.fewL L x ∧ True) ∧ True)) ∧ (Decidable.decide ((↑x : Int) < (↑n : Int)) = Bool.false →
    Go.Proofs.YtnhomnaamlbnpaaDoor.Abs.ExT Unit fun z => True ∧ True ∧ (((0 : Nat) = 0 ∧ Min.min n 6 = Min.min x 6 ∧ Min.min n 6 = Min.min x 6) ∧ ((0 : Nat) = 0 ∧ n = n ∧ c = c) ∧ (↑n : Int) = (↑n : Int) ∧ ((0 : Nat) = 0 ∧ (0 : Nat) = 0) ∧ ((0 : Nat) = 0 ∧ n = n ∧ c = c) ∧ True) ∧ (Min.min n 6 = Min.min x 6 ∧ Go.Proofs.YtnhomnaamlbnpaaDoor.Sd.fewL L n = Go.Proofs.YtnhomnaamlbnpaaDoor.Sd.fewL L x ∧ True) ∧ True)) ∧ (∀ (z : Unit), True →
    ((0 : Nat) = 0 ∧ Min.min n 6 = Min.min n 6 ∧ Min.min n 6 = Min.min n 6) ∧ True ∧ True ∧ (Min.min n 6 = Min.min n 6 ∧ Go.Proofs.YtnhomnaamlbnpaaDoor.Sd.fewL L n = Go.Proofs.YtnhomnaamlbnpaaDoor.Sd.fewL L n ∧ True) ∧ True) ∧ True
theorem fewf_eq (L : List (List UInt8)) (n c : Nat) (ty : TypeId) : nestW Tryd.prog (roF L n ty) hkNone (annU [(FEW, 0, fewA L n)]) FEW [.tslice 900 0 n c true 1] [] (endK (.tslice 5000 0 (min n 6) (min n 6) false 1) [.tab (min n 6) [.ps (fewL L n)] TP]) = fewf L n c ty := by kernel_rfl
def fewfS (L : List (List UInt8)) (n c : Nat) (ty : TypeId) : Prop :=
    n ≤ 9223372036854775807 ∧ (Go.Proofs.YtnhomnaamlbnpaaDoor.Abs.ExT Nat fun x => x ≤ n ∧ (((↑x : Int) = (0 : Int) ∧ Go.Proofs.YtnhomnaamlbnpaaDoor.Abs.inR Go.IntKind.i64 (↑x : Int)) ∧ Min.min x 6 = 0 ∧ Min.min x 6 = 0) ∧ Min.min x 6 = 0) ∧ ∀ (x : Nat), x ≤ n →
    ((↑x : Int) < (↑n : Int) →
    ((0 : Int) ≤ (↑x : Int) ∧ (↑x : Int) < (↑n : Int)) ∧ 0 + x < n ∧ ((↑x : Int) < (6 : Int) →
    List.length (List.getD L (0 + x) []) ≤ 9223372036854775807 ∧ ∀ (z' : Int), z' = Min.min (↑(List.length (List.getD L (0 + x) [])) : Int) (80 : Int) →
    ((0 : Int) ≤ z' ∧ 0 ≤ Int.toNat z' ∧ Int.toNat z' ≤ List.length (List.getD L (0 + x) [])) ∧ (Min.min x 6 + 1 ≤ 65536 ∧ List.length (Go.Proofs.YtnhomnaamlbnpaaDoor.Sd.fewL L x) = Min.min x 6) ∧ ∀ (l' : List (List UInt8)), l' = Go.Proofs.YtnhomnaamlbnpaaDoor.Sd.fewL L x ++ [List.take (Int.toNat z') (List.getD L (0 + x) [])] →
    Go.Proofs.YtnhomnaamlbnpaaDoor.Abs.inR Go.IntKind.i64 ((↑x : Int) + (1 : Int)) ∧ ∀ (z' : Int), z' = (↑x : Int) + (1 : Int) →
    Go.Proofs.YtnhomnaamlbnpaaDoor.Abs.ExT Nat fun y => (n - y < n - x ∧ y ≤ n) ∧ ((↑y : Int) = z' ∧ Min.min y 6 = Min.min x 6 + 1 ∧ Min.min y 6 = Min.min x 6 + 1) ∧ Min.min y 6 = Min.min x 6 + 1 ∧ Go.Proofs.YtnhomnaamlbnpaaDoor.Sd.fewL L y = l') ∧ (¬(↑x : Int) < (6 : Int) →
    Go.Proofs.YtnhomnaamlbnpaaDoor.Abs.inR Go.IntKind.i64 ((↑x : Int) + (1 : Int)) ∧ ∀ (z' : Int), z' = (↑x : Int) + (1 : Int) →
    Go.Proofs.YtnhomnaamlbnpaaDoor.Abs.ExT Nat fun y => (n - y < n - x ∧ y ≤ n) ∧ ((↑y : Int) = z' ∧ Min.min y 6 = Min.min x 6 ∧ Min.min y 6 = Min.min x 6) ∧ Min.min y 6 = Min.min x 6 ∧ Go.Proofs.YtnhomnaamlbnpaaDoor.Sd.fewL L y = Go.Proofs.YtnhomnaamlbnpaaDoor.Sd.fewL L x)) ∧ (¬(↑x : Int) < (↑n : Int) →
    (Min.min n 6 = Min.min x 6 ∧ Min.min n 6 = Min.min x 6) ∧ Min.min n 6 = Min.min x 6 ∧ Go.Proofs.YtnhomnaamlbnpaaDoor.Sd.fewL L n = Go.Proofs.YtnhomnaamlbnpaaDoor.Sd.fewL L x)
theorem fewf_of (L : List (List UInt8)) (n c : Nat) (ty : TypeId) (hS0 : fewfS L n c ty) : fewf L n c ty := by
  unfold fewfS at hS0
  unfold fewf
  exact (have b105 := hS0.2; ⟨hS0.1, (have b103 := b105.2; ⟨(Exists.elim b105.1 fun x1 k2 => ⟨x1, (have b12 := k2.2; ⟨k2.1, trivial, (have a9 := b12.1; have b10 := b12.2; ⟨(have b8 := a9.2; ⟨a9.1, b8, ⟨rfl, rfl, rfl⟩, rfl, ⟨rfl, rfl⟩, ⟨rfl, rfl, rfl⟩, trivial⟩), b10, trivial⟩)⟩)⟩), (fun x13 => have y100 := b103 x13; (fun k14 => have y99 := y100 k14; (have b98 := y99.2; ⟨(fun k15 => have y88 := y99.1 (of_decide_eq_true k15); (have b87 := y88.2; ⟨y88.1, (have b85 := b87.2; ⟨b87.1, (have b83 := b85.2; ⟨(fun k18 => have y59 := b85.1 (of_decide_eq_true k18); (have b58 := y59.2; ⟨y59.1, (fun x19 => have y56 := b58 x19; (fun k20 => have y55 := y56 k20; (have a53 := y55.1; have b54 := y55.2; ⟨(have b24 := a53.2; ⟨a53.1, trivial, b24⟩), (have a51 := b54.1; have b52 := b54.2; ⟨⟨rfl, (have b26 := a51.2; ⟨a51.1, b26, trivial⟩)⟩, (fun x27 => have y50 := b52 x27; (fun k28 => have y49 := y50 k28; (have b48 := y49.2; ⟨y49.1, (fun x29 => have y46 := b48 x29; (fun k30 => have y45 := y46 k30; (Exists.elim y45 fun x31 k32 => ⟨x31, (have b44 := k32.2; ⟨k32.1, trivial, (have a41 := b44.1; have b42 := b44.2; ⟨(have b38 := a41.2; ⟨a41.1, ⟨rfl, b38⟩, ⟨rfl, rfl, rfl⟩, rfl, ⟨rfl, rfl⟩, ⟨rfl, rfl, rfl⟩, trivial⟩), (have b40 := b42.2; ⟨b42.1, b40, trivial⟩), trivial⟩)⟩)⟩)))⟩)))⟩)⟩)))⟩)), (fun k60 => have y81 := b83 (of_decide_eq_false k60); (have b80 := y81.2; ⟨y81.1, (fun x61 => have y78 := b80 x61; (fun k62 => have y77 := y78 k62; (Exists.elim y77 fun x63 k64 => ⟨x63, (have b76 := k64.2; ⟨k64.1, trivial, (have a73 := b76.1; have b74 := b76.2; ⟨(have b70 := a73.2; ⟨a73.1, ⟨rfl, b70⟩, ⟨rfl, rfl, rfl⟩, rfl, ⟨rfl, rfl⟩, ⟨rfl, rfl, rfl⟩, trivial⟩), (have b72 := b74.2; ⟨b74.1, b72, trivial⟩), trivial⟩)⟩)⟩)))⟩))⟩)⟩)⟩)), (fun k89 => have y96 := b98 (of_decide_eq_false k89); ⟨(), trivial, trivial, (have b95 := y96.2; ⟨⟨⟨rfl, y96.1⟩, ⟨rfl, rfl, rfl⟩, rfl, ⟨rfl, rfl⟩, ⟨rfl, rfl, rfl⟩, trivial⟩, (have b93 := b95.2; ⟨b95.1, b93, trivial⟩), trivial⟩)⟩)⟩))), (fun _ => (fun _ => ⟨⟨rfl, rfl, rfl⟩, trivial, trivial, ⟨rfl, rfl, trivial⟩, trivial⟩)), trivial⟩)⟩)
theorem fewL_length (L : List (List UInt8)) (n : Nat) (h : n ≤ L.length) : (fewL L n).length = min n 6 := by unfold fewL; simp; omega
theorem fewL_next {L : List (List UInt8)} {n i : Nat} (hL : L.length = n) (hi : i < n) (h6 : i < 6) {m : Nat} (hm : m = min (L.getD i []).length 80) : fewL L (i + 1) = fewL L i ++ [List.drop 0 (List.take m (L.getD i []))] := by
  unfold fewL
  have h1 : L[i]? = some (L.getD i []) := by rw [List.getD_eq_getElem?_getD, List.getElem?_eq_getElem (by omega)]; rfl
  rw [List.take_of_length_le (l := L.take (i + 1)) (by simp; omega), List.take_of_length_le (l := L.take i) (by simp; omega), List.take_add_one, h1]
  simp only [Option.toList_some, List.map_append, List.map_cons, List.map_nil, List.drop_zero]
  rw [hm]
  congr 2
  rcases Nat.le_total (L.getD i []).length 80 with h | h
  · rw [Nat.min_eq_left h, List.take_length, List.take_of_length_le h]
  · rw [Nat.min_eq_right h]
theorem fewL_over {L : List (List UInt8)} {n i : Nat} (hL : L.length = n) (hi : i < n) (h6 : 6 ≤ i) : fewL L (i + 1) = fewL L i := by
  unfold fewL
  rw [List.take_take, List.take_take, Nat.min_eq_left (by omega), Nat.min_eq_left (by omega)]
theorem fewf_ok {L : List (List UInt8)} {n c : Nat} {ty : TypeId} (hL : L.length = n) (hn : n ≤ 9223372036854775807) (hp : ∀ p ∈ L, p.length ≤ 9223372036854775807) : fewf L n c ty := by
  refine fewf_of _ _ _ _ ?_
  unfold fewfS
  have e : ∀ i : Nat, 0 + i = i := by omega
  simp only [e]
  refine ⟨hn, ⟨0, Nat.zero_le _, ⟨⟨rfl, by simp [in_i64]⟩, by simp, by simp⟩, by simp⟩, fun x hx => ⟨fun h => ?_, fun h => ?_⟩⟩
  · have hxn : x < n := by omega
    have hg : (L.getD x []).length ≤ 9223372036854775807 := hp _ (by rw [List.getD_eq_getElem?_getD, List.getElem?_eq_getElem (by omega)]; exact List.getElem_mem _)
    refine ⟨⟨by omega, h⟩, hxn, fun h6 => ?_, fun h6 => ?_⟩
    · refine ⟨hg, fun z hz => ⟨⟨by omega, Nat.zero_le _, by omega⟩, ⟨by omega, by rw [fewL_length L x (by omega)]⟩, fun l' hl' => ⟨by rw [in_i64]; omega, fun z' hz' => ⟨x + 1, ⟨by omega, by omega⟩, ⟨by omega, by omega, by omega⟩, by omega, ?_⟩⟩⟩⟩
      rw [hl']
      exact fewL_next hL hxn (by omega) (by omega)
    · exact ⟨by rw [in_i64]; omega, fun z' hz' => ⟨x + 1, ⟨by omega, by omega⟩, ⟨by omega, by omega, by omega⟩, by omega, fewL_over hL hxn (by omega)⟩⟩
  · obtain rfl : x = n := by omega
    exact ⟨⟨rfl, rfl⟩, rfl, rfl⟩
def fewPre : List TA → Prop
  | [.t n [.ps L] c true 1 ty] => L.length = n ∧ n ≤ 9223372036854775807 ∧ ∀ p ∈ L, p.length ≤ 9223372036854775807
  | _ => False
def fewRes : List TA → AVal
  | [.t n [.ps L] c true 1 ty] => .tslice 5000 0 (min n 6) (min n 6) false 1
  | _ => .tuple []
def fewObj : List TA → List AObj
  | [.t n [.ps L] c true 1 ty] => [.tab (min n 6) [.ps (fewL L n)] TP]
  | _ => []
noncomputable def fewH (RO : PT AObj) : Hook := hookT 1 fewPre fewRes fewObj RO
theorem fewH_ok {w0 : World} {RO : PT AObj} : Call1Ok Tryd.prog w0 RO FEW (fun args st => got (fewH RO args st)) := by
  refine hookT_ok (by decide) ⟨_, rfl, rfl, by kernel_rfl⟩ (fun xs _ h => ?_) fun xs w φs us _ h hf hro hus => ?_
  · unfold fewPre at h
    split at h
    · exact ⟨rfl, rfl⟩
    · exact h.elim
  · match xs, h with
    | [.t n [.ps L] c true 1 ty], h =>
      have hl : ROlow (roF L n ty) 1000 := rolow_of rfl
      have hF := fewf_ok (c := c) (ty := ty) h.1 h.2.1 h.2.2
      rw [← fewf_eq] at hF
      exact nest_run (RO := roF L n ty) Rs.follows Rs.named hkNone_ok hl hF hf hro hus
end Go.Proofs.YtnhomnaamlbnpaaDoor.Sd
