/-
  Extents, plainly: whether two have a byte in common; sums; the order that the program sorts by; what a size leaves. No conditions.
  Slices of extents in memory: what reads as a list of extents; a row of the call's own; a row that was sorted. No conditions.
  The walks of extent's small functions (isSize, isWithin, mayBe, end, withSize) and of the document's May and common. Conditions: the numbers are ints.
-/
import Derived.Test.YtdalkjenjnalbaaDoorXMath
import Derived.Shelf.SlSortCmp.InsertionK
import Derived.WalkKit
import Derived.WalkSpells
import Derived.Laws.CopyOwn
import Derived.Laws.AppendOwnNone
import Derived.Laws.Concat
import Derived.WalkSmall
import Derived.Deep.QuietTactic
import Derived.BigQuiet
import Derived.Deep.RegionLaw
import Derived.Deep.RegionHeld
import Derived.Sort.OwnSorted
import Derived.Test.YtdalkjenjnalbaaDoorRows
namespace Go.Proofs.YtdalkjenjnalbaaDoor
open Go.Sort
set_option linter.unusedVariables false
set_option maxRecDepth 100000

/-- Two have a byte in common. -/
def comB (x y : Ext) : Bool := decide (max x.1 y.1 < min (x.1 + x.2) (y.1 + y.2))
theorem comB_iff {x y : Ext} : comB x y = true ↔ max x.1 y.1 < min (x.1 + x.2) (y.1 + y.2) := by simp [comB]
theorem comB_false {x y : Ext} : comB x y = false ↔ ¬ max x.1 y.1 < min (x.1 + x.2) (y.1 + y.2) := by simp [comB]
def bothB (x y : Ext) : Bool := mayB x && mayB y && comB x y
theorem bothB_comm (x y : Ext) : bothB x y = bothB y x := by
  unfold bothB
  rw [show comB x y = comB y x by unfold comB; rw [Int.max_comm, Int.min_comm], Bool.and_comm (mayB x)]
/-- Two of a list that may be have a byte in common. -/
def meetsB : List Ext → Bool
  | [] => false
  | x :: r => r.any (bothB x) || meetsB r
theorem meetsB_false {l : List Ext} : meetsB l = false ↔ l.Pairwise fun x y => bothB x y = false := by
  induction l with
  | nil => simp [meetsB]
  | cons x r ih => simp [meetsB, List.pairwise_cons, ih]
theorem meetsB_of {l : List Ext} {i k : Nat} (hi : i < l.length) (hk : k < i) (h : bothB (l.getD i (0, 0)) (l.getD k (0, 0)) = true) : meetsB l = true := by
  rw [← Bool.not_eq_false]
  intro hm
  have := List.pairwise_iff_getElem.1 (meetsB_false.1 hm) k i (by omega) hi hk
  rw [bothB_comm] at h
  simp [List.getD, hi, show k < l.length by omega] at h
  rw [h] at this; cases this
theorem meetsB_no {l : List Ext} (h : ∀ i, i < l.length → ∀ k, k < i → bothB (l.getD i (0, 0)) (l.getD k (0, 0)) = false) : meetsB l = false := by
  rw [meetsB_false, List.pairwise_iff_getElem]
  intro k i hk hi hki
  have := h i hi k hki
  rw [bothB_comm] at this
  simpa [List.getD, hi, hk] using this
theorem meetsB_perm {l m : List Ext} (h : l.Perm m) : meetsB l = meetsB m := by
  rw [Bool.eq_iff_iff, ← Bool.not_eq_false, ← Bool.not_eq_false, meetsB_false, meetsB_false]
  have := h.pairwise_iff (R := fun x y => bothB x y = false) (fun {x y} e => by rw [bothB_comm]; exact e)
  rw [this]
/-- Those that may be and have a byte. -/
def fitB (x : Ext) : Bool := mayB x && decide (0 < x.2)
theorem fitB_iff {x : Ext} : fitB x = true ↔ 0 ≤ x.1 ∧ 1 ≤ x.2 ∧ x.1 + x.2 ≤ 4194304 := by unfold fitB; rw [Bool.and_eq_true, mayB_iff]; simp; omega
theorem bothB_fit {x y : Ext} (h : bothB x y = true) : fitB x = true ∧ fitB y = true := by
  unfold bothB at h
  simp only [Bool.and_eq_true, mayB_iff, comB_iff] at h
  rw [fitB_iff, fitB_iff]; omega
theorem meetsB_filter {l : List Ext} : meetsB (l.filter fitB) = meetsB l := by
  induction l with
  | nil => rfl
  | cons x r ih =>
    by_cases hx : fitB x = true
    · rw [List.filter_cons_of_pos hx, meetsB, meetsB, ih]
      congr 1
      rw [Bool.eq_iff_iff, List.any_eq_true, List.any_eq_true]
      constructor
      · rintro ⟨y, hy, h⟩; exact ⟨y, (List.mem_filter.1 hy).1, h⟩
      · rintro ⟨y, hy, h⟩; exact ⟨y, List.mem_filter.2 ⟨hy, (bothB_fit h).2⟩, h⟩
    · rw [List.filter_cons_of_neg hx, meetsB, ih]
      have : r.any (bothB x) = false := by
        rw [← Bool.not_eq_true, List.any_eq_true]
        rintro ⟨y, hy, h⟩; exact hx (bothB_fit h).1
      simp [this]

/-- Of a list in order, one begins ahead of where the one ahead ends. -/
def overFrom : Int → List Ext → Bool
  | _, [] => false
  | r, x :: t => decide (x.1 < r) || overFrom (x.1 + x.2) t
theorem overFrom_false : ∀ {l : List Ext} {r : Int}, (∀ x ∈ l, 1 ≤ x.2) → (overFrom r l = false ↔ (∀ x ∈ l, r ≤ x.1) ∧ l.Pairwise fun x y => x.1 + x.2 ≤ y.1)
  | [], _, _ => by simp [overFrom]
  | x :: t, r, h => by
    have hx := h x (List.mem_cons_self ..)
    have ih := overFrom_false (l := t) (r := x.1 + x.2) fun y hy => h y (List.mem_cons_of_mem _ hy)
    simp only [overFrom, Bool.or_eq_false_iff, ih, decide_eq_false_iff_not, List.pairwise_cons, List.mem_cons, forall_eq_or_imp]
    constructor
    · rintro ⟨h1, h2, h3⟩; exact ⟨⟨by omega, fun y hy => by have := h2 y hy; omega⟩, h2, h3⟩
    · rintro ⟨⟨h1, h2⟩, h3, h4⟩; exact ⟨by omega, h3, h4⟩
/-- The last reached, behind a list. -/
def reachOf (l : List Ext) : Int := match l.getLast? with | none => 0 | some x => x.1 + x.2
theorem overFrom_append : ∀ (l m : List Ext) (r : Int), overFrom r (l ++ m) = (overFrom r l || overFrom (match l.getLast? with | none => r | some x => x.1 + x.2) m)
  | [], m, r => by simp [overFrom]
  | x :: t, m, r => by
    simp only [List.cons_append, overFrom, overFrom_append t m, Bool.or_assoc]
    cases ht : t.getLast? with
    | none => obtain rfl : t = [] := by simpa using ht
              simp
    | some y => simp [List.getLast?_cons, ht]
theorem overFrom_meets {l : List Ext} (h1 : ∀ x ∈ l, fitB x = true) (h2 : InOrd l) : overFrom 0 l = meetsB l := by
  have hs : ∀ x ∈ l, 1 ≤ x.2 := fun x hx => (fitB_iff.1 (h1 x hx)).2.1
  rw [Bool.eq_iff_iff, ← Bool.not_eq_false, ← Bool.not_eq_false, overFrom_false hs, meetsB_false]
  refine not_congr ?_
  constructor
  · rintro ⟨_, h⟩
    refine h.imp_of_mem ?_
    intro a b ha hb hab
    have h3 := hs a ha; have h4 := hs b hb
    unfold bothB
    rw [show comB a b = false by rw [comB_false]; omega]; simp
  · intro h
    refine ⟨fun x hx => (fitB_iff.1 (h1 x hx)).1, ?_⟩
    have := List.pairwise_and_iff.2 ⟨h, h2⟩
    refine this.imp_of_mem ?_
    rintro a b ha hb ⟨k1, k2⟩
    have h3 := fitB_iff.1 (h1 a ha); have h4 := fitB_iff.1 (h1 b hb)
    unfold bothB at k1
    rw [mayB_iff.2 ⟨by omega, by omega, by omega⟩, mayB_iff.2 ⟨by omega, by omega, by omega⟩] at k1
    simp only [Bool.and_true, Bool.true_and] at k1
    rw [comB_false] at k1
    omega

/-- The order that the program sorts by. -/
def cmpE (x y : Ext) : Int := if Lib.compareInt x.1 y.1 = 0 then Lib.compareInt x.2 y.2 else Lib.compareInt x.1 y.1
theorem cmpE_lt (x y : Ext) : ltOf cmpE x y = decide (x.1 < y.1 ∨ (x.1 = y.1 ∧ x.2 < y.2)) := by
  unfold ltOf cmpE Lib.compareInt
  by_cases h1 : x.1 < y.1
  · simp [h1]
  · by_cases h2 : y.1 < x.1
    · have : ¬ x.1 = y.1 := by omega
      simp [h1, h2, this]
    · have e : x.1 = y.1 := by omega
      by_cases h3 : x.2 < y.2
      · simp [e, h3]
      · by_cases h4 : y.2 < x.2 <;> simp [e, h3, h4]
theorem swoE : SWO (ltOf cmpE) where
  irrefl x := by rw [cmpE_lt]; simp
  trans x y z h1 h2 := by rw [cmpE_lt] at *; simp at *; omega
  ntrans x y z h1 h2 := by rw [cmpE_lt] at *; simp at *; omega

/-- Sizes added up. -/
def totalL (l : List Ext) : Int := l.foldl (fun n x => if mayB x = true then min (n + x.2) 4611686018427387904 else n) 0
theorem totalL_snoc (l : List Ext) (x : Ext) : totalL (l ++ [x]) = if mayB x = true then min (totalL l + x.2) 4611686018427387904 else totalL l := by simp [totalL]
theorem totalL_bd (l : List Ext) : 0 ≤ totalL l ∧ totalL l ≤ 4611686018427387904 := by
  rw [← List.reverse_reverse l]
  generalize l.reverse = r
  induction r with
  | nil => simp [totalL]
  | cons x r ih =>
    rw [List.reverse_cons, totalL_snoc]
    split
    · rename_i h; have := mayB_iff.1 h; omega
    · exact ih

end Go.Proofs.YtdalkjenjnalbaaDoor

namespace Go.Proofs.YtdalkjenjnalbaaDoor
open Go.RowKit Go.Sort Go.Shelf
set_option linter.unusedVariables false
set_option maxRecDepth 100000

theorem addr_addX (g o i : Nat) : (⟨g, o, none⟩ : Addr).add i = ⟨g, o + i, none⟩ := by unfold Addr.add; split <;> simp_all
theorem below_of_grownX {w w' : World} (h : w.grownBy w' none) : Below w.heap.size w w' := ⟨h.os, h.tape, h.output, h.size, fun k hk => h.block k hk (by simp)⟩
theorem grown_transX {a b c : World} {r : Option Nat} (h : a.grownBy b r) (k : b.grownBy c r) : a.grownBy c r :=
  ⟨k.os.trans h.os, k.tape.trans h.tape, k.output.trans h.output, Nat.le_trans h.size k.size, fun i hi hne => (k.block i (Nat.lt_of_lt_of_le hi h.size) hne).trans (h.block i hi hne)⟩
theorem cell_later {w w' : World} {b o : Nat} {x : Value} (hb : Below w.heap.size w w') (h : w.cell? ⟨b, o, none⟩ = some x) : w'.cell? ⟨b, o, none⟩ = some x := (hb.cell (World.block_lt_of_cell? w _ h)).trans h

/-- The cells of extents. -/
def encE (x : Ext) : List Value := [.int .i64 x.1, .int .i64 x.2]
def ecells (l : List Ext) : List Value := l.flatMap encE
theorem ecells_length (l : List Ext) : (ecells l).length = l.length * 2 := by
  induction l with
  | nil => rfl
  | cons r l ih => simp [ecells, encE] at ih ⊢; omega
theorem ecells_append (a b : List Ext) : ecells (a ++ b) = ecells a ++ ecells b := by simp [ecells]
theorem ecells_nil : ecells [] = [] := rfl
theorem ecells_one (x : Ext) : ecells [x] = [.int .i64 x.1, .int .i64 x.2] := rfl
theorem ecells_at (l : List Ext) : ∀ (i : Nat), i < l.length → (ecells l)[i * 2]? = some (.int .i64 (l.getD i (0, 0)).1) ∧ (ecells l)[i * 2 + 1]? = some (.int .i64 (l.getD i (0, 0)).2) := by
  induction l with
  | nil => intro i h; simp at h
  | cons x l ih =>
    intro i h
    cases i with
    | zero => simp [ecells, encE]
    | succ i =>
      have := ih i (by simpa using h)
      rw [show (i + 1) * 2 = i * 2 + 2 by omega, show i * 2 + 2 + 1 = i * 2 + 1 + 2 by omega]
      simpa [ecells, encE] using this
theorem ecells_oneCell (l : List Ext) : ∀ u ∈ ecells l, u.oneCell' = true := by
  intro u hu
  simp only [ecells, List.mem_flatMap] at hu
  obtain ⟨r, hr, hu⟩ := hu
  simp [encE] at hu
  rcases hu with rfl | rfl <;> rfl
theorem ecells_set (l : List Ext) : ∀ (i : Nat) (x : Ext), i < l.length → ecells (l.set i x) = ((ecells l).set (i * 2) (.int .i64 x.1)).set (i * 2 + 1) (.int .i64 x.2) := by
  induction l with
  | nil => intro i x h; simp at h
  | cons y l ih =>
    intro i x h
    cases i with
    | zero => simp [ecells, encE]
    | succ i =>
      have := ih i x (by simpa using h)
      rw [show (i + 1) * 2 = i * 2 + 2 by omega, show i * 2 + 2 + 1 = i * 2 + 1 + 2 by omega]
      simpa [ecells, encE] using this
theorem ecells_get {l : List Ext} {j : Nat} {u : Value} (h : (ecells l)[j]? = some u) : j < l.length * 2 := by
  have := (List.getElem?_eq_some_iff.1 h).1
  rwa [ecells_length] at this

theorem set_self {α : Type} {l : List α} {i : Nat} {x : α} (h : l[i]? = some x) : l.set i x = l := by
  obtain ⟨hi, rfl⟩ := List.getElem?_eq_some_iff.1 h
  exact List.set_getElem_self hi

/-- A slice that reads as extents. -/
def Xs (w : World) (v : Value) (l : List Ext) : Prop :=
  ∃ ao cap, v = .slice ao l.length cap ∧ l.length ≤ cap ∧ (ao = none → cap = 0) ∧ ∀ ad, ao = some ad → ∀ j u, (ecells l)[j]? = some u → w.cell? (ad.add j) = some u
theorem Xs.keep {w w' : World} {v : Value} {l : List Ext} (h : Xs w v l) (hk : ∀ p x, w.cell? p = some x → w'.cell? p = some x) : Xs w' v l := by
  obtain ⟨ao, cap, hv, hc, hn, hcell⟩ := h
  exact ⟨ao, cap, hv, hc, hn, fun ad ha j u hj => hk _ _ (hcell ad ha j u hj)⟩
theorem Xs.below {w w' : World} {v : Value} {l : List Ext} (h : Xs w v l) (hb : Below w.heap.size w w') : Xs w' v l :=
  h.keep fun p x hx => (hb.cell (World.block_lt_of_cell? w p hx)).trans hx
theorem Xs.nil (w : World) : Xs w (.slice none 0 0) [] := ⟨none, 0, rfl, Nat.le_refl _, fun _ => rfl, fun _ h => by cases h⟩
theorem Xs.drew {w : World} {v : Value} {l : List Ext} (h : Xs w v l) : Xs w.drew v l := h
theorem Xs.none_len {w : World} {n cap : Nat} {l : List Ext} (h : Xs w (.slice none n cap) l) : l = [] := by
  obtain ⟨ao, c, hv, hc, hn, hcell⟩ := h
  injection hv with h1 h2 h3
  subst h1
  have := hn rfl
  exact List.eq_nil_of_length_eq_zero (by omega)
/-- Its shape, and its cells one by one. -/
theorem Xs.opened {w : World} {v : Value} {l : List Ext} (h : Xs w v l) :
    ∃ ao cap, v = .slice ao l.length cap ∧ l.length ≤ cap ∧ ∀ i, i < l.length → ∃ b off, ao = some ⟨b, off, none⟩ ∧
      w.cell? ⟨b, off + i * 2, none⟩ = some (.int .i64 (l.getD i (0, 0)).1) ∧ w.cell? ⟨b, off + i * 2 + 1, none⟩ = some (.int .i64 (l.getD i (0, 0)).2) ∧ b < w.heap.size := by
  obtain ⟨ao, cap, rfl, hc, hn, hcell⟩ := h
  refine ⟨ao, cap, rfl, hc, fun i hi => ?_⟩
  cases ao with
  | none => have := hn rfl; omega
  | some ad =>
    obtain ⟨b, off, spot⟩ := ad
    obtain ⟨e1, e2⟩ := ecells_at l i hi
    have h1 := hcell _ rfl _ _ e1
    have h2 := hcell _ rfl _ _ e2
    have h0 := hcell _ rfl _ _ (ecells_at l 0 (by omega)).1
    have hspot : spot = none := by simpa [Addr.add] using World.cell?_spot h0
    subst hspot
    rw [addr_addX] at h1 h2
    exact ⟨b, off, rfl, h1, h2, World.block_lt_of_cell? w _ h1⟩

/-- A row of the call's own, from block B on, of extents of a type. -/
def OwnX (w : World) (B : Nat) (T : TypeId) (v : Value) (l : List Ext) : Prop := w.ownsRow B T 2 v l.length (ecells l)
theorem OwnX.nil (w : World) (B : Nat) (T : TypeId) : OwnX w B T (.slice none 0 0) [] := World.ownsRow_nil _ _ _ _
theorem OwnX.empty (w : World) (B : Nat) (T : TypeId) (hB : B ≤ w.heap.size) : OwnX (w.alloc (.cells #[] T)) B T (.slice (some ⟨w.heap.size, 0, none⟩) 0 0) [] :=
  World.ownsRow_made w #[] 0 hB (Nat.zero_le _) rfl
theorem OwnX.emptyAt (w : World) (B g : Nat) (T : TypeId) (hB : B ≤ w.heap.size) (hg : g = w.heap.size) : OwnX (w.alloc (.cells #[] T)) B T (.slice (some ⟨g, 0, none⟩) 0 0) [] := by
  subst hg; exact OwnX.empty w B T hB
theorem Xs.grownX {w w' : World} {g n c : Nat} {l : List Ext} {r : Option Nat} (h : Xs w (.slice (some ⟨g, 0, none⟩) n c) l) (hg : w.grownBy w' r) (hr : ∀ k, r = some k → g ≠ k) : Xs w' (.slice (some ⟨g, 0, none⟩) n c) l := by
  obtain ⟨ao, cap, hv, hc, hn, hcell⟩ := h
  have hv' := hv
  injection hv with e1
  subst e1
  refine ⟨_, cap, hv', hc, hn, fun ad ha j u hj => ?_⟩
  have h0 := hcell ad ha j u hj
  obtain rfl := Option.some.inj ha
  rw [addr_addX] at h0 ⊢
  exact (World.cell?_of_block (w := w) (a := ⟨g, 0 + j, none⟩) (hg.block g (World.block_lt_of_cell? w _ h0) (fun e => hr g e.symm rfl))).trans h0
theorem OwnX.xs {w : World} {B : Nat} {T : TypeId} {v : Value} {l : List Ext} (h : OwnX w B T v l) : Xs w v l := by
  have h' : w.ownsRow B T 2 v l.length (ecells l) := h
  obtain ⟨_, ⟨rfl, h0⟩ | ⟨g, cap, cur, rfl, hB, hg, hle, hm, hs, ht⟩⟩ := h
  · obtain rfl : l = [] := List.eq_nil_of_length_eq_zero h0
    exact Xs.nil _
  · refine ⟨some ⟨g, 0, none⟩, cap, rfl, hle, (fun h => by cases h), ?_⟩
    intro ad ha j u hj
    obtain rfl := Option.some.inj ha
    exact World.ownsRow.cells h' (g := g) rfl j u hj
theorem OwnX.mono {w : World} {B B' : Nat} {T : TypeId} {v : Value} {l : List Ext} (h : OwnX w B T v l) (hB : B' ≤ B) : OwnX w B' T v l := by
  obtain ⟨h1, h2 | ⟨g, cap, cur, rfl, hg, r⟩⟩ := h
  · exact ⟨h1, .inl h2⟩
  · exact ⟨h1, .inr ⟨g, cap, cur, rfl, Nat.le_trans hB hg, r⟩⟩
theorem OwnX.below {w w' : World} {B : Nat} {T : TypeId} {v : Value} {l : List Ext} (h : OwnX w B T v l) (hb : Below w.heap.size w w') : OwnX w' B T v l := by
  have h' : w.ownsRow B T 2 v l.length (ecells l) := h
  obtain ⟨h1, h2 | ⟨g, cap, cur, rfl, hB, hg, r⟩⟩ := h
  · exact ⟨h1, .inl h2⟩
  · exact ⟨h1, .inr ⟨g, cap, cur, rfl, hB, (hb.block g (h'.lt g rfl).2).trans hg, r⟩⟩
theorem OwnX.lt {w : World} {B : Nat} {T : TypeId} {v : Value} {l : List Ext} (h : OwnX w B T v l) : ∀ k, v.ownBlock = some k → B ≤ k ∧ k < w.heap.size := fun k hk => World.ownsRow.lt h k hk
theorem OwnX.grown {w w' : World} {lo : Nat} {T : TypeId} {x : Value} {l : List Ext} {r : Option Nat} (h : OwnX w lo T x l) (hb : w.grownBy w' r) (hr : ∀ k, r = some k → x.ownBlock ≠ some k) : OwnX w' lo T x l := by
  have h' : w.ownsRow lo T 2 x l.length (ecells l) := h
  refine World.ownsRow.kept h' hb ?_
  cases hx : x.ownBlock with
  | none => exact .inl rfl
  | some k => exact .inr (fun e => hr k e.symm hx)
/-- Its shape. -/
theorem OwnX.shape {w : World} {B : Nat} {T : TypeId} {v : Value} {l : List Ext} (h : OwnX w B T v l) : ∃ ao cap, v = .slice ao l.length cap ∧ l.length ≤ cap ∧ cap ≤ maxLen ∧
    ((ao = none ∧ l = [] ∧ cap = 0) ∨ ∃ g, ao = some ⟨g, 0, none⟩ ∧ B ≤ g ∧ g < w.heap.size ∧ ∀ j, w.frozen? ⟨g, j, none⟩ = false) := by
  have h' : w.ownsRow B T 2 v l.length (ecells l) := h
  obtain ⟨_, ⟨rfl, h0⟩ | ⟨g, cap, cur, rfl, hB, hg, hle, hm, hs, ht⟩⟩ := h
  · obtain rfl : l = [] := List.eq_nil_of_length_eq_zero h0
    exact ⟨none, 0, rfl, Nat.le_refl _, Nat.zero_le _, .inl ⟨rfl, rfl, rfl⟩⟩
  · exact ⟨_, _, rfl, hle, hm, .inr ⟨g, rfl, hB, (h'.lt g rfl).2, fun j => by simp [World.frozen?, hg]⟩⟩
theorem OwnX.cell {w : World} {B : Nat} {T : TypeId} {g n cap : Nat} {l : List Ext} (h : OwnX w B T (.slice (some ⟨g, 0, none⟩) n cap) l) {i : Nat} (hi : i < l.length) :
    w.cell? ⟨g, i * 2, none⟩ = some (.int .i64 (l.getD i (0, 0)).1) ∧ w.cell? ⟨g, i * 2 + 1, none⟩ = some (.int .i64 (l.getD i (0, 0)).2) := by
  have h' : w.ownsRow B T 2 _ l.length (ecells l) := h
  obtain ⟨e1, e2⟩ := ecells_at l i hi
  have h1 := World.ownsRow.cells h' (g := g) rfl _ _ e1
  have h2 := World.ownsRow.cells h' (g := g) rfl _ _ e2
  rw [addr_addX, Nat.zero_add] at h1 h2
  exact ⟨h1, h2⟩

/-- A cell of a row is written: At, or Size. -/
theorem OwnX.setCell {w : World} {B : Nat} {T : TypeId} {g n cap : Nat} {l : List Ext} (h : OwnX w B T (.slice (some ⟨g, 0, none⟩) n cap) l) {j : Nat} {u : Value} {m : List Ext} (hj : j < l.length * 2) (hm : ecells m = (ecells l).set j u) (hl : m.length = l.length) :
    OwnX (w.setCell ⟨g, j, none⟩ u) B T (.slice (some ⟨g, 0, none⟩) n cap) m := by
  obtain ⟨h1, ⟨h2, _⟩ | ⟨g', cap', cur, hv, hB, hg, hle, hmm, hs, ht⟩⟩ := h
  · cases h2
  · injection hv with e1 e2 e3
    obtain rfl : g = g' := by simpa using e1
    subst e2; subst e3
    have hset := heap_setCell_same w g j _ _ u hg
    refine ⟨by rw [ecells_length], .inr ⟨g, cap, _, by rw [hl], hB, hset, by omega, hmm, by simpa using hs, ?_⟩⟩
    rw [hm, ← ht, hl, Array.toList_setIfInBounds, List.take_set]
theorem OwnX.setAt {w : World} {B : Nat} {T : TypeId} {g n cap : Nat} {l : List Ext} (h : OwnX w B T (.slice (some ⟨g, 0, none⟩) n cap) l) {i : Nat} (a : Int) (hi : i < l.length) :
    OwnX (w.setCell ⟨g, i * 2, none⟩ (.int .i64 a)) B T (.slice (some ⟨g, 0, none⟩) n cap) (l.set i (a, (l.getD i (0, 0)).2)) := by
  refine h.setCell (by omega) ?_ (by simp)
  rw [ecells_set l i _ hi]
  obtain ⟨_, e2⟩ := ecells_at l i hi
  exact set_self (by rw [List.getElem?_set_ne (by omega)]; exact e2)
theorem OwnX.setSize {w : World} {B : Nat} {T : TypeId} {g n cap : Nat} {l : List Ext} (h : OwnX w B T (.slice (some ⟨g, 0, none⟩) n cap) l) {i : Nat} (a : Int) (hi : i < l.length) :
    OwnX (w.setCell ⟨g, i * 2 + 1, none⟩ (.int .i64 a)) B T (.slice (some ⟨g, 0, none⟩) n cap) (l.set i ((l.getD i (0, 0)).1, a)) := by
  refine h.setCell (by omega) ?_ (by simp)
  rw [ecells_set l i _ hi]
  obtain ⟨e1, _⟩ := ecells_at l i hi
  rw [set_self (l := ecells l) (i := i * 2) e1]
theorem OwnX.drew {w : World} {B : Nat} {T : TypeId} {v : Value} {l : List Ext} (h : OwnX w B T v l) : OwnX w.drew B T v l := h

theorem grown_setX {w wr : World} {g n c : Nat} (h : w.grownBy wr (Value.slice (some ⟨g, 0, none⟩) n c).ownBlock) (k : Nat) (a : Int) : w.grownBy (wr.setCell ⟨g, k * 2, none⟩ (.int .i64 a)) (Value.slice (some ⟨g, 0, none⟩) n c).ownBlock :=
  ⟨h.os, h.tape, h.output, Nat.le_trans h.size (by simp [World.setCell]), fun i hi hne => (Below.heap_setCell _ _ _ _ (fun e => hne (by rw [e]; rfl))).trans (h.block i hi hne)⟩

/-! ### sorted -/
theorem flatK_list (l : List Ext) : flatK encE 2 l.toArray = (ecells l).toArray := by
  apply Array.ext'
  apply List.ext_getElem?
  intro j
  by_cases hj : j < l.length * 2
  · have e0 : j / 2 < l.length := by omega
    obtain ⟨e1, e2⟩ := ecells_at l (j / 2) e0
    have hg : l.toArray[j / 2]! = l.getD (j / 2) (0, 0) := by simp [List.getD, e0]
    have hf : (flatK encE 2 l.toArray).toList[j]? = some ((encE l.toArray[j / 2]!)[j % 2]!) := by
      simp [flatK, hj]
    rw [hf, hg]
    rcases Nat.mod_two_eq_zero_or_one j with h | h
    · rw [h, show (ecells l).toArray.toList[j]? = (ecells l)[j / 2 * 2]? by rw [show j / 2 * 2 = j by omega], e1]; rfl
    · rw [h, show (ecells l).toArray.toList[j]? = (ecells l)[j / 2 * 2 + 1]? by rw [show j / 2 * 2 + 1 = j by omega], e2]; rfl
  · rw [List.getElem?_eq_none (by simp [flatK]; omega), List.getElem?_eq_none (by simp [ecells_length]; omega)]
theorem OwnX.holds {w : World} {B : Nat} {T : TypeId} {g n cap : Nat} {l : List Ext} (h : OwnX w B T (.slice (some ⟨g, 0, none⟩) n cap) l) : HoldsK encE 2 w g 0 l.toArray := by
  unfold HoldsK
  rw [flatK_list]
  have h' : w.ownsRow B T 2 _ l.length (ecells l) := h
  obtain ⟨_, ⟨h2, _⟩ | ⟨g', cap', cur, hv, hB, hg, hle, hm, hs, ht⟩⟩ := h
  · cases h2
  · injection hv with e1 e2 e3
    obtain rfl : g = g' := by simpa using e1
    intro j hj
    have hj' : j < (ecells l).length := by simpa using hj
    refine ⟨?_, by simp [World.frozen?, hg]⟩
    have := World.ownsRow.cells h' (g := g) rfl j (ecells l)[j] (List.getElem?_eq_getElem hj')
    rw [addr_addX] at this
    rw [this]
    simp [hj']
theorem putCells_take (cur : Array Value) (F : Array Value) (n : Nat) (hn : F.size = n) (h : n ≤ cur.size) : (putCells id 0 F cur).toList.take n = F.toList := by
  subst hn
  apply List.ext_getElem?
  intro j
  by_cases hj : j < F.size
  · rw [List.getElem?_take_of_lt hj, Array.getElem?_toList]
    simp [putCells, hj, show j < cur.size by omega]
  · rw [List.getElem?_take_eq_none (by omega), List.getElem?_eq_none (by simp; omega)]
theorem OwnX.sorted {w : World} {B : Nat} {T : TypeId} {g n cap : Nat} {l m : List Ext} (h : OwnX w B T (.slice (some ⟨g, 0, none⟩) n cap) l) (hl : m.length = l.length) (q : Nat) (os : Array Obj) :
    OwnX (sortWorldK encE 2 w g 0 q m.toArray os) B T (.slice (some ⟨g, 0, none⟩) n cap) m := by
  obtain ⟨h1, ⟨h2, _⟩ | ⟨g', cap', cur, hv, hB, hg, hle, hm, hs, ht⟩⟩ := h
  · cases h2
  · injection hv with e1 e2 e3
    obtain rfl : g = g' := by simpa using e1
    subst e2; subst e3
    have hgl : g < w.heap.size := (Array.getElem?_eq_some_iff.1 hg).1
    have hh : (sortWorldK encE 2 w g 0 q m.toArray os).heap[g]? = some (.cells (putCells id 0 (ecells m).toArray cur) T (0, 0)) := by
      unfold sortWorldK putRowK
      rw [heap_grow_old _ _ (by simpa [putRow, mapBlock, Sort.ahead] using hgl), flatK_list]
      simp [putRow, mapBlock, Sort.ahead, Array.getElem?_modify, hg, onCells]
    refine ⟨by rw [ecells_length], .inr ⟨g, cap, _, by rw [hl], hB, hh, by omega, hm, by simp [putCells, hs], ?_⟩⟩
    exact putCells_take cur _ _ (by simp [ecells_length]) (by rw [hs, hl]; omega)
theorem grown_sorted {w : World} {g : Nat} (m : List Ext) (q : Nat) (os : Array Obj) : w.grownBy (sortWorldK encE 2 w g 0 q m.toArray os) (some g) := by
  refine ⟨rfl, rfl, rfl, by simp [sortWorldK, putRowK, putRow, mapBlock, Sort.ahead], fun k hk hne => ?_⟩
  unfold sortWorldK putRowK
  rw [heap_grow_old _ _ (by simpa [putRow, mapBlock, Sort.ahead] using hk)]
  have : g ≠ k := fun e => hne (by rw [e])
  simp [putRow, mapBlock, Sort.ahead, Array.getElem?_modify, this]
theorem perm_list {l : List Ext} {d' : Array Ext} (h : PermIn 0 l.toArray.size l.toArray d') : d'.toList.Perm l ∧ d'.size = l.length := by
  obtain ⟨h1, h2, h3⟩ := h
  refine ⟨?_, by simpa using h1⟩
  have e1 : d'.extract 0 l.toArray.size = d' := by rw [← h1]; simp
  have e2 : l.toArray.extract 0 l.toArray.size = l.toArray := by simp
  rw [e1, e2] at h3
  simpa using h3
theorem sorted_list {n : Nat} {d' : Array Ext} (hs : d'.size = n) (h : SortedIn (ltOf cmpE) 0 n d') : InOrd d'.toList := by
  unfold InOrd
  rw [List.pairwise_iff_getElem]
  intro i j hi hj hij
  have hi' : i < d'.size := by simpa using hi
  have hj' : j < d'.size := by simpa using hj
  have := h i j (Nat.zero_le _) hij (by omega)
  rw [getElem!_pos d' j hj', getElem!_pos d' i hi', cmpE_lt] at this
  simp at this
  simp only [Array.getElem_toList]
  omega

end Go.Proofs.YtdalkjenjnalbaaDoor

namespace Go.Proofs.YtdalkjenjnalbaaDoor
open Go.RowKit
set_option linter.unusedVariables false
set_option maxRecDepth 100000

theorem ret_intX {k : IntKind} {a b : Int} (h : a = b) : Ending.returned (.int k a) = .returned (.int k b) := by rw [h]
theorem ret_boolX {a b : Bool} (h : a = b) : Ending.returned (.bool a) = .returned (.bool b) := by rw [h]
/-- Both numbers are ints. -/
def EW (x : Ext) : Prop := (-9223372036854775808 ≤ x.1 ∧ x.1 ≤ 9223372036854775807) ∧ -9223372036854775808 ≤ x.2 ∧ x.2 ≤ 9223372036854775807
theorem EW.zero : EW (0, 0) := by unfold EW; simp
def withinB (x : Ext) (size : Int) : Bool := decide (0 ≤ x.1 ∧ 0 ≤ x.2 ∧ x.2 ≤ size - x.1)
theorem withinB_may (x : Ext) : withinB x 4194304 = mayB x := rfl
/-- An extent as a value. -/
def xv (x : Ext) : Value := .agg #[.int .i64 x.1, .int .i64 x.2]

theorem isSize_any (n : Int) (w : World) : Calls Tryd.prog 64 #[.int .i64 n] w fun e w' => e = .returned (.bool (szB n)) ∧ w' = w := by
  by_cases h1 : 0 ≤ n
  · by_cases h2 : n ≤ 4194304
    · have H : Hid (szB n = true) := szB_iff.2 ⟨h1, h2⟩
      go_enter Tryd.func64, Tryd.ntmps64
      go_wp2
      go_ret
      exact ⟨ret_boolX H.out.symm, rfl⟩
    · have H : Hid (szB n = false) := by unfold Hid szB; simp; omega
      go_enter Tryd.func64, Tryd.ntmps64
      go_wp2
      go_ret
      exact ⟨ret_boolX H.out.symm, rfl⟩
  · have H : Hid (szB n = false) := by unfold Hid szB; simp; omega
    go_enter Tryd.func64, Tryd.ntmps64
    go_wp2
    go_ret
    exact ⟨ret_boolX H.out.symm, rfl⟩

set_option maxHeartbeats 1000000 in
theorem isWithin_any (a b size : Int) (w : World) (hx : EW (a, b)) (hs : 0 ≤ size ∧ size ≤ 4194304) :
    Calls Tryd.prog 65 #[.agg #[.int .i64 a, .int .i64 b], .int .i64 size] w fun e w' => e = .returned (.bool (withinB (a, b) size)) ∧ Below w.heap.size w w' := by
  obtain ⟨⟨a1, a2⟩, b1, b2⟩ := hx
  obtain ⟨s1, s2⟩ := hs
  dsimp only at a1 a2 b1 b2
  by_cases h1 : 0 ≤ a
  · by_cases h2 : 0 ≤ b
    · by_cases h3 : b ≤ size - a
      · have H : Hid (withinB (a, b) size = true) := by unfold Hid withinB; simp; omega
        go_enter Tryd.func65, Tryd.ntmps65
        go_wp2
        go_ret
        exact ⟨ret_boolX H.out.symm, (Below.refl _ _).alloc (Nat.le_refl _) _⟩
      · have H : Hid (withinB (a, b) size = false) := by unfold Hid withinB; simp; omega
        go_enter Tryd.func65, Tryd.ntmps65
        go_wp2
        go_ret
        exact ⟨ret_boolX H.out.symm, (Below.refl _ _).alloc (Nat.le_refl _) _⟩
    · have H : Hid (withinB (a, b) size = false) := by unfold Hid withinB; simp; omega
      go_enter Tryd.func65, Tryd.ntmps65
      go_wp2
      go_ret
      exact ⟨ret_boolX H.out.symm, (Below.refl _ _).alloc (Nat.le_refl _) _⟩
  · have H : Hid (withinB (a, b) size = false) := by unfold Hid withinB; simp; omega
    go_enter Tryd.func65, Tryd.ntmps65
    go_wp2
    go_ret
    exact ⟨ret_boolX H.out.symm, (Below.refl _ _).alloc (Nat.le_refl _) _⟩

theorem mayBe_any (a b : Int) (w : World) (hx : EW (a, b)) :
    Calls Tryd.prog 50 #[.agg #[.int .i64 a, .int .i64 b]] w fun e w' => e = .returned (.bool (mayB (a, b))) ∧ Below w.heap.size w w' := by
  have HX : Hid (EW (a, b)) := hx
  clear hx
  have hs : w.heap.size < (w.alloc (.cells #[.int .i64 a, .int .i64 b] 49)).heap.size := by simp
  have HB : Hid (Below w.heap.size w (w.alloc (.cells #[.int .i64 a, .int .i64 b] 49))) := (Below.refl _ _).alloc (Nat.le_refl _) _
  go_enter Tryd.func50, Tryd.ntmps50
  go_wp2_with (go_at_call 65; refine (isWithin_any _ _ _ _ HX.out (by omega)).mono ?_; rintro e w' ⟨rfl, hb⟩)
  go_ret
  exact ⟨rfl, HB.out.trans (hb.mono (Nat.le_of_lt hs))⟩

theorem end_any (a b : Int) (w : World) (ha : 0 ≤ a) (hb : 0 ≤ b) (hab : a + b ≤ 9223372036854775807) :
    Calls Tryd.prog 66 #[.agg #[.int .i64 a, .int .i64 b]] w fun e w' => e = .returned (.int .i64 (a + b)) ∧ Below w.heap.size w w' := by
  go_enter Tryd.func66, Tryd.ntmps66
  go_wp2
  go_ret
  exact ⟨rfl, (Below.refl _ _).alloc (Nat.le_refl _) _⟩

theorem end_eq (a b : Int) (w : World) (ha : 0 ≤ a) (hb : 0 ≤ b) (hab : a + b ≤ 9223372036854775807) :
    Calls Tryd.prog 66 #[.agg #[.int .i64 a, .int .i64 b]] w fun e w' => e = .returned (.int .i64 (a + b)) ∧ w' = w.alloc (.cells #[.int .i64 a, .int .i64 b] 49) := by
  go_enter Tryd.func66, Tryd.ntmps66
  go_wp2
  go_ret
  exact ⟨rfl, rfl⟩

theorem withSize_any (n s : Int) (w : World) (h1 : 0 ≤ n) (h2 : n ≤ 4611686018427387904) (h3 : 0 ≤ s) (h4 : s ≤ 4194304) :
    Calls Tryd.prog 51 #[.int .i64 n, .int .i64 s] w fun e w' => e = .returned (.int .i64 (min (n + s) 4611686018427387904)) ∧ w' = w := by
  go_enter Tryd.func51, Tryd.ntmps51
  go_wp2
  go_ret
  exact ⟨ret_intX (by omega), rfl⟩

set_option maxHeartbeats 1000000 in
theorem refMay_any (a b : Int) (w : World) (hx : EW (a, b)) :
    Calls Tryd.prog 55 #[.agg #[.int .i64 a, .int .i64 b]] w fun e w' => e = .returned (.bool (mayB (a, b))) ∧ Below w.heap.size w w' := by
  obtain ⟨⟨a1, a2⟩, b1, b2⟩ := hx
  dsimp only at a1 a2 b1 b2
  by_cases h1 : 0 ≤ a
  · by_cases h2 : 0 ≤ b
    · by_cases h4 : a ≤ 4194304
      · by_cases h3 : b ≤ 4194304 - a
        · have H : Hid (mayB (a, b) = true) := by unfold Hid mayB; simp; omega
          go_enter Tryd.func55, Tryd.ntmps55
          go_wp2
          go_ret
          exact ⟨ret_boolX H.out.symm, (Below.refl _ _).alloc (Nat.le_refl _) _⟩
        · have H : Hid (mayB (a, b) = false) := by unfold Hid mayB; simp; omega
          go_enter Tryd.func55, Tryd.ntmps55
          go_wp2
          go_ret
          exact ⟨ret_boolX H.out.symm, (Below.refl _ _).alloc (Nat.le_refl _) _⟩
      · have H : Hid (mayB (a, b) = false) := by unfold Hid mayB; simp; omega
        go_enter Tryd.func55, Tryd.ntmps55
        go_wp2
        go_ret
        exact ⟨ret_boolX H.out.symm, (Below.refl _ _).alloc (Nat.le_refl _) _⟩
    · have H : Hid (mayB (a, b) = false) := by unfold Hid mayB; simp; omega
      go_enter Tryd.func55, Tryd.ntmps55
      go_wp2
      go_ret
      exact ⟨ret_boolX H.out.symm, (Below.refl _ _).alloc (Nat.le_refl _) _⟩
  · have H : Hid (mayB (a, b) = false) := by unfold Hid mayB; simp; omega
    go_enter Tryd.func55, Tryd.ntmps55
    go_wp2
    go_ret
    exact ⟨ret_boolX H.out.symm, (Below.refl _ _).alloc (Nat.le_refl _) _⟩

end Go.Proofs.YtdalkjenjnalbaaDoor
