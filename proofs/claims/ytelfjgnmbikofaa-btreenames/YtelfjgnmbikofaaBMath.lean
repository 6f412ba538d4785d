/-
  Trees as lists: all items of a node in order. No conditions.
-/
import Derived.Test.YtelfjgnmbikofaaBFind
namespace Go.Proofs.Ytelfjgnmbikofaa
open Go.RowKit
set_option linter.unusedVariables false
set_option maxRecDepth 100000

section
variable {α : Type}
/-- Items, each with what lies behind it. -/
def post : List α → List (List α) → List α
  | x :: L, k :: K => x :: (k ++ post L K)
  | _, _ => []
/-- Items, each with what lies ahead of it. -/
def pre : List α → List (List α) → List α
  | x :: L, k :: K => k ++ x :: pre L K
  | _, _ => []
/-- All items of a node, in order. -/
def il (L : List α) : List (List α) → List α
  | [] => L
  | k :: K => k ++ post L K
theorem post_append : ∀ (a : List α) (A : List (List α)) (b : List α) (B : List (List α)), a.length = A.length → post (a ++ b) (A ++ B) = post a A ++ post b B
  | [], [], b, B, _ => by simp [post]
  | x :: a, k :: A, b, B, h => by
    have ih := post_append a A b B (by simpa using h)
    simp [post, ih]
theorem pre_append : ∀ (a : List α) (A : List (List α)) (b : List α) (B : List (List α)), a.length = A.length → pre (a ++ b) (A ++ B) = pre a A ++ pre b B
  | [], [], b, B, _ => by simp [pre]
  | x :: a, k :: A, b, B, h => by
    have ih := pre_append a A b B (by simpa using h)
    simp [pre, ih]
theorem il_mid : ∀ (L1 : List α) (K1 : List (List α)) (c : List α) (L2 : List α) (K2 : List (List α)), L1.length = K1.length → il (L1 ++ L2) (K1 ++ c :: K2) = pre L1 K1 ++ (c ++ post L2 K2)
  | [], [], c, L2, K2, _ => by simp [il, pre]
  | x :: L1, k :: K1, c, L2, K2, h => by
    have ih := il_mid L1 K1 c L2 K2 (by simpa using h)
    have e : ∀ (X : List (List α)), il (x :: L1 ++ L2) (k :: X) = k ++ post (x :: (L1 ++ L2)) X := fun X => rfl
    rw [List.cons_append, List.cons_append]
    show k ++ post (x :: (L1 ++ L2)) (K1 ++ c :: K2) = _
    match K1, h, ih with
    | [], h, ih =>
      have h1 : L1 = [] := List.eq_nil_of_length_eq_zero (by simpa using h)
      subst h1
      simp [post, pre]
    | k2 :: K1, h, ih =>
      simp only [List.cons_append, post, il, pre] at ih ⊢
      rw [ih]
      simp
/-- A node's items cut in two about one of them. -/
theorem il_cut (a b : List α) (x : α) (A B : List (List α)) (hA : A.length = a.length + 1) (hB : B.length = b.length + 1) : il (a ++ x :: b) (A ++ B) = il a A ++ x :: il b B := by
  match A, hA, B, hB with
  | k :: A, hA, k2 :: B, hB =>
    show k ++ post (a ++ x :: b) (A ++ k2 :: B) = k ++ post a A ++ x :: (k2 ++ post b B)
    rw [post_append a A (x :: b) (k2 :: B) (by simpa using hA.symm)]
    simp [post]
theorem il_cut0 (a b : List α) (x : α) : il (a ++ x :: b) [] = il a [] ++ x :: il b [] := rfl
/-- With a child more in front. -/
theorem il_front (x : α) (b : List α) (k : List α) (B : List (List α)) (hB : B.length = b.length + 1) : il (x :: b) (k :: B) = k ++ x :: il b B := by
  match B, hB with
  | k2 :: B, hB => simp [il, post]
/-- With a child more at the end. -/
theorem il_end (a : List α) (x : α) (A : List (List α)) (k : List α) (hA : A.length = a.length + 1) : il (a ++ [x]) (A ++ [k]) = il a A ++ x :: k := by
  match A, hA with
  | k1 :: A, hA =>
    show k1 ++ post (a ++ [x]) (A ++ [k]) = k1 ++ post a A ++ x :: k
    rw [post_append a A [x] [k] (by simpa using hA.symm)]
    simp [post]
theorem il_length (L : List α) : ∀ (K : List (List α)), (K ≠ [] → K.length = L.length + 1) → (il L K).length = L.length + (K.map List.length).sum
  | [], _ => by simp [il]
  | k :: K, h => by
    have hp : ∀ (L : List α) (K : List (List α)), K.length = L.length → (post L K).length = L.length + (K.map List.length).sum := by
      intro L
      induction L with
      | nil => intro K hK; have : K = [] := List.eq_nil_of_length_eq_zero (by simpa using hK); subst this; simp [post]
      | cons x L ih =>
        intro K hK
        match K, hK with
        | k :: K, hK => simp [post, ih K (by simpa using hK)]; omega
    have h1 := hp L K (by have := h (by simp); simpa using this)
    simp [il, h1]; omega
theorem mem_post : ∀ (L : List α) (K : List (List α)), L.length = K.length → ∀ y, y ∈ post L K ↔ y ∈ L ∨ ∃ k ∈ K, y ∈ k
  | [], [], _, y => by simp [post]
  | x :: L, k :: K, h, y => by
    have ih := mem_post L K (by simpa using h) y
    simp only [post, List.mem_cons, List.mem_append, ih]
    constructor
    · rintro (h | h | h | ⟨k', h1, h2⟩)
      · exact .inl (.inl h)
      · exact .inr ⟨k, .inl rfl, h⟩
      · exact .inl (.inr h)
      · exact .inr ⟨k', .inr h1, h2⟩
    · rintro ((h | h) | ⟨k', rfl | h1, h2⟩)
      · exact .inl h
      · exact .inr (.inr (.inl h))
      · exact .inr (.inl h2)
      · exact .inr (.inr (.inr ⟨k', h1, h2⟩))
theorem mem_il (L : List α) (K : List (List α)) (h : K ≠ [] → K.length = L.length + 1) (y : α) : y ∈ il L K ↔ y ∈ L ∨ ∃ k ∈ K, y ∈ k := by
  match K, h with
  | [], _ => simp [il]
  | k :: K, h =>
    have h1 : L.length = K.length := by have := h (by simp); simpa using this.symm
    simp only [il, List.mem_append, mem_post L K h1, List.mem_cons]
    constructor
    · rintro (h | h | ⟨k', h1, h2⟩)
      · exact .inr ⟨k, .inl rfl, h⟩
      · exact .inl h
      · exact .inr ⟨k', .inr h1, h2⟩
    · rintro (h | ⟨k', rfl | h1, h2⟩)
      · exact .inr (.inl h)
      · exact .inl h2
      · exact .inr (.inr ⟨k', h1, h2⟩)
theorem pre_mem : ∀ (L : List α) (K : List (List α)), L.length = K.length → ∀ y ∈ L, y ∈ pre L K
  | [], _, _, y, h => by simp at h
  | x :: L, k :: K, hl, y, h => by
    simp only [pre, List.mem_append, List.mem_cons]
    rcases List.mem_cons.1 h with rfl | h
    · exact .inr (.inl rfl)
    · exact .inr (.inr (pre_mem L K (by simpa using hl) y h))
theorem mem_pre : ∀ (L : List α) (K : List (List α)), L.length = K.length → ∀ y, y ∈ pre L K ↔ y ∈ L ∨ ∃ k ∈ K, y ∈ k
  | [], [], _, y => by simp [pre]
  | x :: L, k :: K, h, y => by
    have ih := mem_pre L K (by simpa using h) y
    simp only [pre, List.mem_cons, List.mem_append, ih]
    constructor
    · rintro (h | h | h | ⟨k', h1, h2⟩)
      · exact .inr ⟨k, .inl rfl, h⟩
      · exact .inl (.inl h)
      · exact .inl (.inr h)
      · exact .inr ⟨k', .inr h1, h2⟩
    · rintro ((h | h) | ⟨k', rfl | h1, h2⟩)
      · exact .inr (.inl h)
      · exact .inr (.inr (.inl h))
      · exact .inl h2
      · exact .inr (.inr (.inr ⟨k', h1, h2⟩))
/-- A node's own items stand among all, in order. -/
theorem post_sub : ∀ (L : List α) (K : List (List α)), L.length = K.length → List.Sublist L (post L K)
  | [], _, _ => List.nil_sublist _
  | x :: L, k :: K, h => by
    simp only [post]
    exact (((post_sub L K (by simpa using h)).trans (List.sublist_append_right k _))).cons_cons x
theorem il_sub (L : List α) (K : List (List α)) (h : K ≠ [] → K.length = L.length + 1) : List.Sublist L (il L K) := by
  match K, h with
  | [], _ => exact List.Sublist.refl _
  | k :: K, h =>
    have h1 : L.length = K.length := by have := h (by simp); simpa using this.symm
    exact (post_sub L K h1).trans (List.sublist_append_right k _)
theorem kid_sub (L : List α) (K : List (List α)) (h : K ≠ [] → K.length = L.length + 1) (c : List α) (hc : c ∈ K) : List.Sublist c (il L K) := by
  obtain ⟨K1, K2, rfl⟩ := List.append_of_mem hc
  have hl := h (by simp)
  have e : il L (K1 ++ c :: K2) = pre (L.take K1.length) K1 ++ (c ++ post (L.drop K1.length) K2) := by
    rw [← il_mid _ _ _ _ _ (by simp at hl ⊢; omega), List.take_append_drop]
  rw [e]
  exact (List.sublist_append_left c _).trans (List.sublist_append_right _ _)
end

theorem cmpB_swap : ∀ (a b : List UInt8), Lib.compareBytes b a = - Lib.compareBytes a b
  | [], [] => rfl
  | [], _ :: _ => rfl
  | _ :: _, [] => rfl
  | a :: p, b :: q => by
    simp only [Lib.compareBytes]
    by_cases h1 : a < b
    · have h2 : ¬ b < a := fun h => UInt8.lt_irrefl _ (UInt8.lt_trans h h1)
      simp [h1, h2]
    · by_cases h2 : b < a
      · simp [h1, h2]
      · simp [h1, h2, cmpB_swap p q]
theorem cmpB_zero : ∀ (a b : List UInt8), Lib.compareBytes a b = 0 → a = b
  | [], [], _ => rfl
  | [], _ :: _, h => by simp [Lib.compareBytes] at h
  | _ :: _, [], h => by simp [Lib.compareBytes] at h
  | a :: p, b :: q, h => by
    simp only [Lib.compareBytes] at h
    by_cases h1 : a < b
    · simp [h1] at h
    · by_cases h2 : b < a
      · simp [h1, h2] at h
      · simp only [h1, h2, if_false] at h
        rw [cmpB_zero p q h, show a = b from UInt8.le_antisymm (UInt8.not_lt.1 h2) (UInt8.not_lt.1 h1)]
theorem cmpB_self : ∀ (a : List UInt8), Lib.compareBytes a a = 0
  | [] => rfl
  | a :: p => by simp [Lib.compareBytes, cmpB_self p]
theorem cmpB_trans : ∀ (a b c : List UInt8), Lib.compareBytes a b < 0 → Lib.compareBytes b c < 0 → Lib.compareBytes a c < 0
  | [], [], _, h, _ => by simp [Lib.compareBytes] at h
  | _ :: _, [], _, h, _ => by simp [Lib.compareBytes] at h
  | _, _ :: _, [], _, h => by simp [Lib.compareBytes] at h
  | [], _ :: _, _ :: _, _, _ => by simp [Lib.compareBytes]
  | a :: p, b :: q, c :: r, h1, h2 => by
    simp only [Lib.compareBytes] at h1 h2 ⊢
    by_cases p1 : a < b
    · by_cases p2 : b < c
      · simp [UInt8.lt_trans p1 p2]
      · by_cases p3 : c < b
        · simp [p2, p3] at h2
        · rw [show c = b from UInt8.le_antisymm (UInt8.not_lt.1 p2) (UInt8.not_lt.1 p3)]; simp [p1]
    · by_cases p3 : b < a
      · simp [p1, p3] at h1
      · obtain rfl : a = b := UInt8.le_antisymm (UInt8.not_lt.1 p3) (UInt8.not_lt.1 p1)
        by_cases p2 : a < c
        · simp [p2]
        · by_cases p4 : c < a
          · simp [p2, p4] at h2
          · simp only [p2, p4, if_false] at h2 ⊢
            simp only [p1, if_false] at h1
            exact cmpB_trans p q r h1 h2
theorem cmpN_swap (a b : ByteArray) : cmpN b a = - cmpN a b := cmpB_swap _ _
theorem cmpN_zero {a b : ByteArray} (h : cmpN a b = 0) : a = b := by
  have := cmpB_zero _ _ h
  exact ByteArray.ext (Array.toList_inj.1 this)
theorem cmpN_self (a : ByteArray) : cmpN a a = 0 := cmpB_self _
theorem cmpN_trans {a b c : ByteArray} (h : cmpN a b < 0) (k : cmpN b c < 0) : cmpN a c < 0 := cmpB_trans _ _ _ h k
theorem cmpN_pos {a b : ByteArray} : 0 < cmpN a b ↔ cmpN b a < 0 := by rw [cmpN_swap a b]; omega
/-- Keys rise. -/
def Rise (l : List It) : Prop := l.Pairwise (fun x y => cmpN x.1 y.1 < 0)
theorem Rise.sub {a b : List It} (h : Rise b) (s : List.Sublist a b) : Rise a := List.Pairwise.sublist s h
theorem Rise.low {l : List It} (h : Rise l) (k : ByteArray) : Low l k := by
  intro i j x y hij hx hy hk
  obtain ⟨hi, rfl⟩ := List.getElem?_eq_some_iff.1 hx
  obtain ⟨hj, rfl⟩ := List.getElem?_eq_some_iff.1 hy
  exact cmpN_trans (List.pairwise_iff_getElem.1 h i j hi hj hij) hk
/-- The place of a key among rising ones: what lies ahead is below, what lies behind is not. -/
theorem At.split {l : List It} {k : ByteArray} {p : Nat} (h : At l k p) : (∀ x ∈ l.take p, cmpN x.1 k < 0) ∧ (∀ x ∈ l.drop p, ¬ cmpN x.1 k < 0) := by
  refine ⟨fun x hx => ?_, fun x hx => ?_⟩
  · obtain ⟨i, hi⟩ := List.mem_iff_getElem?.1 hx
    rw [List.getElem?_take] at hi
    split at hi
    · exact (h.2 i x hi).1 (by assumption)
    · cases hi
  · obtain ⟨i, hi⟩ := List.mem_iff_getElem?.1 hx
    rw [List.getElem?_drop] at hi
    intro hk
    have := (h.2 _ x hi).2 hk
    omega
theorem isAt_true {l : List It} {k : ByteArray} {p : Nat} (h : isAt l k p = true) : ∃ y, l[p]? = some (k, y) := by
  unfold isAt at h
  split at h
  · rename_i x hx
    have : cmpN x.1 k = 0 := by simpa using h
    obtain ⟨a, b⟩ := x
    obtain rfl := cmpN_zero this
    exact ⟨b, hx⟩
  · cases h
/-- What is not at its place is nowhere, where keys rise. -/
theorem isAt_false {l : List It} {k : ByteArray} {p : Nat} (hr : Rise l) (ha : At l k p) (h : isAt l k p = false) : ∀ x ∈ l.drop p, 0 < cmpN x.1 k := by
  intro x hx
  have h1 := ha.split.2 x hx
  by_cases h0 : cmpN x.1 k = 0
  · exfalso
    obtain ⟨i, hi⟩ := List.mem_iff_getElem?.1 hx
    rw [List.getElem?_drop] at hi
    by_cases hz : i = 0
    · subst hz
      rw [Nat.add_zero] at hi
      unfold isAt at h
      rw [hi] at h
      simp [h0] at h
    · obtain ⟨hl, hxe⟩ := List.getElem?_eq_some_iff.1 hi
      have hp : p < l.length := by omega
      have h2 := List.pairwise_iff_getElem.1 hr p (p + i) hp hl (by omega)
      rw [hxe] at h2
      have h3 := ha.split.2 l[p] (List.mem_iff_getElem?.2 ⟨0, by rw [List.getElem?_drop]; exact List.getElem?_eq_getElem (by omega)⟩)
      rw [← cmpN_zero h0] at h3
      exact h3 h2
  · omega
theorem Rise.mid {a b : List It} {x : It} (h : Rise (a ++ x :: b)) : (∀ y ∈ a, cmpN y.1 x.1 < 0) ∧ (∀ y ∈ b, cmpN x.1 y.1 < 0) := by
  unfold Rise at h
  rw [List.pairwise_append] at h
  obtain ⟨_, h2, h3⟩ := h
  exact ⟨fun y hy => h3 y hy x (by simp), fun y hy => (List.pairwise_cons.1 h2).1 y hy⟩
theorem Rise.apart {a b : List It} (h : Rise (a ++ b)) : ∀ x ∈ a, ∀ y ∈ b, cmpN x.1 y.1 < 0 := fun x hx y hy => (List.pairwise_append.1 h).2.2 x hx y hy
end Go.Proofs.Ytelfjgnmbikofaa
