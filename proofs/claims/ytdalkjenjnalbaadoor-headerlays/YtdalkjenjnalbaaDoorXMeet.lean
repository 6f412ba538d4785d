/-
  Extents, plainly: whether two have a byte in common; sums; the order that the program sorts by; what a size leaves. No conditions.
-/
import Derived.Test.YtdalkjenjnalbaaDoorXMath
import Derived.Shelf.SlSortCmp.InsertionK
namespace Go.Proofs.YtdalkjenjnalbaaDoor
open Go.Sort
set_option linter.unusedVariables false
set_option maxRecDepth 100000

/-- Two have a byte in common. -/
def comB (x y : Ext) : Bool := decide (max x.1 y.1 < min (x.1 + x.2) (y.1 + y.2))
theorem comB_iff {x y : Ext} : comB x y = true ↔ max x.1 y.1 < min (x.1 + x.2) (y.1 + y.2) := by simp [comB]
theorem comB_false {x y : Ext} : comB x y = false ↔ ¬ max x.1 y.1 < min (x.1 + x.2) (y.1 + y.2) := by simp [comB]
def bothB (x y : Ext) : Bool := mayB x && mayB y && comB x y
theorem bothB_comm (x y : Ext) : bothB x y = bothB y x := by
  unfold bothB
  rw [show comB x y = comB y x by unfold comB; rw [Int.max_comm, Int.min_comm], Bool.and_comm (mayB x)]
/-- Two of a list that may be have a byte in common. -/
def meetsB : List Ext → Bool
  | [] => false
  | x :: r => r.any (bothB x) || meetsB r
theorem meetsB_false {l : List Ext} : meetsB l = false ↔ l.Pairwise fun x y => bothB x y = false := by
  induction l with
  | nil => simp [meetsB]
  | cons x r ih => simp [meetsB, List.pairwise_cons, ih]
theorem meetsB_of {l : List Ext} {i k : Nat} (hi : i < l.length) (hk : k < i) (h : bothB (l.getD i (0, 0)) (l.getD k (0, 0)) = true) : meetsB l = true := by
  rw [← Bool.not_eq_false]
  intro hm
  have := List.pairwise_iff_getElem.1 (meetsB_false.1 hm) k i (by omega) hi hk
  rw [bothB_comm] at h
  simp [List.getD, hi, show k < l.length by omega] at h
  rw [h] at this; cases this
theorem meetsB_no {l : List Ext} (h : ∀ i, i < l.length → ∀ k, k < i → bothB (l.getD i (0, 0)) (l.getD k (0, 0)) = false) : meetsB l = false := by
  rw [meetsB_false, List.pairwise_iff_getElem]
  intro k i hk hi hki
  have := h i hi k hki
  rw [bothB_comm] at this
  simpa [List.getD, hi, hk] using this
theorem meetsB_perm {l m : List Ext} (h : l.Perm m) : meetsB l = meetsB m := by
  rw [Bool.eq_iff_iff, ← Bool.not_eq_false, ← Bool.not_eq_false, meetsB_false, meetsB_false]
  have := h.pairwise_iff (R := fun x y => bothB x y = false) (fun {x y} e => by rw [bothB_comm]; exact e)
  rw [this]
/-- Those that may be and have a byte. -/
def fitB (x : Ext) : Bool := mayB x && decide (0 < x.2)
theorem fitB_iff {x : Ext} : fitB x = true ↔ 0 ≤ x.1 ∧ 1 ≤ x.2 ∧ x.1 + x.2 ≤ 4194304 := by unfold fitB; rw [Bool.and_eq_true, mayB_iff]; simp; omega
theorem bothB_fit {x y : Ext} (h : bothB x y = true) : fitB x = true ∧ fitB y = true := by
  unfold bothB at h
  simp only [Bool.and_eq_true, mayB_iff, comB_iff] at h
  rw [fitB_iff, fitB_iff]; omega
theorem meetsB_filter {l : List Ext} : meetsB (l.filter fitB) = meetsB l := by
  induction l with
  | nil => rfl
  | cons x r ih =>
    by_cases hx : fitB x = true
    · rw [List.filter_cons_of_pos hx, meetsB, meetsB, ih]
      congr 1
      rw [Bool.eq_iff_iff, List.any_eq_true, List.any_eq_true]
      constructor
      · rintro ⟨y, hy, h⟩; exact ⟨y, (List.mem_filter.1 hy).1, h⟩
      · rintro ⟨y, hy, h⟩; exact ⟨y, List.mem_filter.2 ⟨hy, (bothB_fit h).2⟩, h⟩
    · rw [List.filter_cons_of_neg hx, meetsB, ih]
      have : r.any (bothB x) = false := by
        rw [← Bool.not_eq_true, List.any_eq_true]
        rintro ⟨y, hy, h⟩; exact hx (bothB_fit h).1
      simp [this]

/-- Of a list in order, one begins ahead of where the one ahead ends. -/
def overFrom : Int → List Ext → Bool
  | _, [] => false
  | r, x :: t => decide (x.1 < r) || overFrom (x.1 + x.2) t
theorem overFrom_false : ∀ {l : List Ext} {r : Int}, (∀ x ∈ l, 1 ≤ x.2) → (overFrom r l = false ↔ (∀ x ∈ l, r ≤ x.1) ∧ l.Pairwise fun x y => x.1 + x.2 ≤ y.1)
  | [], _, _ => by simp [overFrom]
  | x :: t, r, h => by
    have hx := h x (List.mem_cons_self ..)
    have ih := overFrom_false (l := t) (r := x.1 + x.2) fun y hy => h y (List.mem_cons_of_mem _ hy)
    simp only [overFrom, Bool.or_eq_false_iff, ih, decide_eq_false_iff_not, List.pairwise_cons, List.mem_cons, forall_eq_or_imp]
    constructor
    · rintro ⟨h1, h2, h3⟩; exact ⟨⟨by omega, fun y hy => by have := h2 y hy; omega⟩, h2, h3⟩
    · rintro ⟨⟨h1, h2⟩, h3, h4⟩; exact ⟨by omega, h3, h4⟩
/-- The last reached, behind a list. -/
def reachOf (l : List Ext) : Int := match l.getLast? with | none => 0 | some x => x.1 + x.2
theorem overFrom_append : ∀ (l m : List Ext) (r : Int), overFrom r (l ++ m) = (overFrom r l || overFrom (match l.getLast? with | none => r | some x => x.1 + x.2) m)
  | [], m, r => by simp [overFrom]
  | x :: t, m, r => by
    simp only [List.cons_append, overFrom, overFrom_append t m, Bool.or_assoc]
    cases ht : t.getLast? with
    | none => obtain rfl : t = [] := by simpa using ht
              simp
    | some y => simp [List.getLast?_cons, ht]
theorem overFrom_meets {l : List Ext} (h1 : ∀ x ∈ l, fitB x = true) (h2 : InOrd l) : overFrom 0 l = meetsB l := by
  have hs : ∀ x ∈ l, 1 ≤ x.2 := fun x hx => (fitB_iff.1 (h1 x hx)).2.1
  rw [Bool.eq_iff_iff, ← Bool.not_eq_false, ← Bool.not_eq_false, overFrom_false hs, meetsB_false]
  refine not_congr ?_
  constructor
  · rintro ⟨_, h⟩
    refine h.imp_of_mem ?_
    intro a b ha hb hab
    have h3 := hs a ha; have h4 := hs b hb
    unfold bothB
    rw [show comB a b = false by rw [comB_false]; omega]; simp
  · intro h
    refine ⟨fun x hx => (fitB_iff.1 (h1 x hx)).1, ?_⟩
    have := List.pairwise_and_iff.2 ⟨h, h2⟩
    refine this.imp_of_mem ?_
    rintro a b ha hb ⟨k1, k2⟩
    have h3 := fitB_iff.1 (h1 a ha); have h4 := fitB_iff.1 (h1 b hb)
    unfold bothB at k1
    rw [mayB_iff.2 ⟨by omega, by omega, by omega⟩, mayB_iff.2 ⟨by omega, by omega, by omega⟩] at k1
    simp only [Bool.and_true, Bool.true_and] at k1
    rw [comB_false] at k1
    omega

/-- The order that the program sorts by. -/
def cmpE (x y : Ext) : Int := if Lib.compareInt x.1 y.1 = 0 then Lib.compareInt x.2 y.2 else Lib.compareInt x.1 y.1
theorem cmpE_lt (x y : Ext) : ltOf cmpE x y = decide (x.1 < y.1 ∨ (x.1 = y.1 ∧ x.2 < y.2)) := by
  unfold ltOf cmpE Lib.compareInt
  by_cases h1 : x.1 < y.1
  · simp [h1]
  · by_cases h2 : y.1 < x.1
    · have : ¬ x.1 = y.1 := by omega
      simp [h1, h2, this]
    · have e : x.1 = y.1 := by omega
      by_cases h3 : x.2 < y.2
      · simp [e, h3]
      · by_cases h4 : y.2 < x.2 <;> simp [e, h3, h4]
theorem swoE : SWO (ltOf cmpE) where
  irrefl x := by rw [cmpE_lt]; simp
  trans x y z h1 h2 := by rw [cmpE_lt] at *; simp at *; omega
  ntrans x y z h1 h2 := by rw [cmpE_lt] at *; simp at *; omega

/-- Sizes added up. -/
def totalL (l : List Ext) : Int := l.foldl (fun n x => if mayB x = true then min (n + x.2) 4611686018427387904 else n) 0
theorem totalL_snoc (l : List Ext) (x : Ext) : totalL (l ++ [x]) = if mayB x = true then min (totalL l + x.2) 4611686018427387904 else totalL l := by simp [totalL]
theorem totalL_bd (l : List Ext) : 0 ≤ totalL l ∧ totalL l ≤ 4611686018427387904 := by
  rw [← List.reverse_reverse l]
  generalize l.reverse = r
  induction r with
  | nil => simp [totalL]
  | cons x r ih =>
    rw [List.reverse_cons, totalL_snoc]
    split
    · rename_i h; have := mayB_iff.1 h; omega
    · exact ih

end Go.Proofs.YtdalkjenjnalbaaDoor
