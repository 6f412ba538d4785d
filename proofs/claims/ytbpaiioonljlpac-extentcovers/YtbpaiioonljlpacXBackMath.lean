/-
  What was taken and is given back, plainly: bytes, sums, joins. No conditions.
-/
import Derived.Test.YtbpaiioonljlpacXGive
namespace Go.Proofs.Ytbpaiioonljlpac
set_option linter.unusedVariables false

/-- Sizes added up, plainly. -/
def sumL : List Ext → Int
  | [] => 0
  | x :: r => x.2 + sumL r
theorem sumL_append (l m : List Ext) : sumL (l ++ m) = sumL l + sumL m := by
  induction l with
  | nil => simp [sumL]
  | cons x r ih => simp only [List.cons_append, sumL, ih]; omega
theorem sumL_nonneg {l : List Ext} (h : ∀ x ∈ l, 0 ≤ x.2) : 0 ≤ sumL l := by
  induction l with
  | nil => simp [sumL]
  | cons x r ih =>
    have h1 := h x (List.mem_cons_self ..)
    have h2 := ih (fun y hy => h y (List.mem_cons_of_mem _ hy))
    simp only [sumL]; omega
theorem totalL_sum {l : List Ext} (h : ∀ x ∈ l, mayB x = true) (hs : sumL l ≤ 4611686018427387904) : totalL l = sumL l := by
  rw [← List.reverse_reverse l] at h hs ⊢
  generalize l.reverse = r at h hs
  induction r with
  | nil => rfl
  | cons x r ih =>
    rw [List.reverse_cons] at h hs ⊢
    have hx := h x (by simp)
    have hr : ∀ y ∈ r.reverse, mayB y = true := fun y hy => h y (List.mem_append.2 (.inl hy))
    rw [sumL_append] at hs ⊢
    have h1 := sumL_nonneg (l := r.reverse) (fun y hy => (mayB_iff.1 (hr y hy)).2.1)
    have h2 := (mayB_iff.1 hx).2.1
    simp only [sumL] at hs ⊢
    rw [totalL_snoc, if_pos hx, ih hr (by omega)]
    omega
/-- A separate list within a size is no longer than it. -/
theorem sep_sum {l : List Ext} (h : Sep l) {f size : Int} (hb : ∀ x ∈ l, f ≤ x.1 ∧ x.1 + x.2 ≤ size) (hf : f ≤ size) : sumL l ≤ size - f := by
  induction l generalizing f with
  | nil => simp [sumL]; omega
  | cons x r ih =>
    obtain ⟨h1, h2, h3⟩ := sep_cons.1 h
    have hx := hb x (List.mem_cons_self ..)
    have := ih h3 (f := x.1 + x.2) (fun y hy => ⟨by have := h2 y hy; omega, (hb y (List.mem_cons_of_mem _ hy)).2⟩) (by omega)
    simp only [sumL]; omega
theorem split_at {l : List Ext} {k : Nat} (hk : k < l.length) : l = l.take k ++ (l.getD k (0, 0) :: l.drop (k + 1)) := by
  have : l.getD k (0, 0) = l[k] := by simp [List.getD, hk]
  rw [this, ← List.drop_eq_getElem_cons hk, List.take_append_drop]

/-- What stands of a list of which bytes were taken. -/
theorem cut_facts {A D : List Ext} {x : Ext} {n : Int} (h : Sep (A ++ (x :: D))) (hn : 1 ≤ n) (hx : n ≤ x.2) :
    Sep (A ++ ((if n < x.2 then [(x.1 + n, x.2 - n)] else []) ++ D)) ∧ sumL (A ++ ((if n < x.2 then [(x.1 + n, x.2 - n)] else []) ++ D)) + n = sumL (A ++ (x :: D)) ∧
    (∀ b, Cov (A ++ ((if n < x.2 then [(x.1 + n, x.2 - n)] else []) ++ D) ++ [(x.1, n)]) b ↔ Cov (A ++ (x :: D)) b) ∧
    (∀ y ∈ A ++ ((if n < x.2 then [(x.1 + n, x.2 - n)] else []) ++ D), y.1 + y.2 ≤ x.1 ∨ x.1 + n ≤ y.1) := by
  obtain ⟨hA, hxD, hAx⟩ := sep_append.1 h
  obtain ⟨h1, h2, hD⟩ := sep_cons.1 hxD
  have hAx' : ∀ y ∈ A, y.1 + y.2 < x.1 := fun y hy => hAx y hy x (List.mem_cons_self ..)
  have hAD : ∀ y ∈ A, ∀ z ∈ D, y.1 + y.2 < z.1 := fun y hy z hz => hAx y hy z (List.mem_cons_of_mem _ hz)
  by_cases hlt : n < x.2
  · rw [if_pos hlt]
    refine ⟨?_, ?_, ?_, ?_⟩
    · refine sep_append.2 ⟨hA, sep_cons.2 ⟨by simp; omega, fun y hy => by have := h2 y hy; simp; omega, hD⟩, fun y hy z hz => ?_⟩
      rcases List.mem_cons.1 hz with rfl | hz
      · have := hAx' y hy; simp; omega
      · exact hAD y hy z hz
    · simp only [sumL_append, sumL]; omega
    · intro b
      simp only [cov_append, cov_cons, cov_nil, or_false]
      constructor
      · rintro ((h | ⟨h, h'⟩ | h) | ⟨h, h'⟩)
        · exact .inl h
        · exact .inr (.inl ⟨by omega, by omega⟩)
        · exact .inr (.inr h)
        · exact .inr (.inl ⟨by omega, by omega⟩)
      · rintro (h | ⟨h, h'⟩ | h)
        · exact .inl (.inl h)
        · by_cases hb : b < x.1 + n
          · exact .inr ⟨h, hb⟩
          · exact .inl (.inr (.inl ⟨by omega, by omega⟩))
        · exact .inl (.inr (.inr h))
    · intro y hy
      rcases List.mem_append.1 hy with hy | hy
      · have := hAx' y hy; exact .inl (by omega)
      · rcases List.mem_cons.1 hy with rfl | hy
        · exact .inr (by simp)
        · have := h2 y hy; exact .inr (by omega)
  · rw [if_neg hlt]
    have e : x.2 = n := by omega
    refine ⟨?_, ?_, ?_, ?_⟩
    · exact sep_append.2 ⟨hA, hD, hAD⟩
    · simp only [List.nil_append, sumL_append, sumL]; omega
    · intro b
      simp only [List.nil_append, cov_append, cov_cons, cov_nil, or_false]
      constructor
      · rintro ((h | h) | ⟨h, h'⟩)
        · exact .inl h
        · exact .inr (.inr h)
        · exact .inr (.inl ⟨by omega, by omega⟩)
      · rintro (h | ⟨h, h'⟩ | h)
        · exact .inl (.inl h)
        · exact .inr ⟨h, by omega⟩
        · exact .inl (.inr h)
    · intro y hy
      rw [List.nil_append] at hy
      rcases List.mem_append.1 hy with hy | hy
      · have := hAx' y hy; exact .inl (by omega)
      · have := h2 y hy; exact .inr (by omega)

/-- Parted lists meet nowhere. -/
theorem meets_sep {l : List Ext} (h : Sep l) {x : Ext} (hx : ∀ y ∈ l, y.1 + y.2 ≤ x.1 ∨ x.1 + x.2 ≤ y.1) : meetsB (l ++ [x]) = false := by
  rw [meetsB_false, List.pairwise_append]
  refine ⟨?_, List.pairwise_singleton _ _, fun y hy z hz => ?_⟩
  · refine h.2.imp_of_mem fun {a b} ha hb hab => ?_
    unfold bothB
    rw [show comB a b = false by rw [comB_false]; have := h.1 a ha; have := h.1 b hb; omega, Bool.and_false]
  · simp at hz
    subst hz
    unfold bothB
    rw [show comB y z = false by rw [comB_false]; have := hx y hy; omega, Bool.and_false]

theorem normL_of {l m : List Ext} (hm : ∀ x ∈ m, mayB x = true) (hl : Sep l) (h : ∀ b, Cov m b ↔ Cov l b) : normL m = l := by
  obtain ⟨s, c⟩ := joinL_sep (fit_one (fit_perm (sortE_perm m))) (sortE_ord m)
  refine Sep.uniq s hl fun b => ?_
  rw [show normL m = joinL (sortE m) from rfl, c, cov_perm (sortE_perm m)]
  refine Iff.trans ?_ (h b)
  constructor
  · rintro ⟨x, hx, k⟩; exact ⟨x, (List.mem_filter.1 hx).1, k⟩
  · rintro ⟨x, hx, k⟩; exact ⟨x, List.mem_filter.2 ⟨hx, by have := mayB_iff.1 (hm x hx); rw [fitB_iff]; omega⟩, k⟩

/-- What was taken, given back. -/
theorem back_facts {l : List Ext} {n : Int} (he : takeErr l n = 0) :
    1 ≤ n ∧ goodB (takeList l n) 4194304 = true ∧ meetsB (takeList l n ++ [(takeAt l n, n)]) = false ∧ totalL (takeList l n) + n = totalL l ∧ mayB (takeAt l n, n) = true ∧ giveErr (takeList l n) (takeAt l n, n) = 0 ∧ giveList (takeList l n) (takeAt l n, n) = l ∧ 0 ≤ totalL (takeList l n) ∧ totalL l ≤ 4194304 ∧ n ≤ 4194304 ∧ 0 ≤ takeAt l n := by
  have hok : tOk l n = true ∧ tIdx l n < l.length := by
    unfold takeErr at he
    split at he
    · rename_i h
      split at he
      · exact ⟨h, by assumption⟩
      · omega
    · omega
  obtain ⟨ho, hk⟩ := hok
  have ho' := ho
  unfold tOk at ho
  simp only [Bool.and_eq_true, decide_eq_true_eq] at ho
  obtain ⟨hn, hg⟩ := ho
  obtain ⟨hsz, hlen, hgf⟩ := goodB_iff.1 hg
  obtain ⟨hsep, hbd⟩ := goodFrom_sep hgf
  have hnx : n ≤ (l.getD (tIdx l n) (0, 0)).2 := by
    have h2 : decide (n ≤ (l[tIdx l n]).2) = true := List.findIdx_getElem (xs := l) (w := hk)
    have e : l.getD (tIdx l n) (0, 0) = l[tIdx l n] := by simp [List.getD, hk]
    rw [e]
    exact of_decide_eq_true h2
  have eA : takeAt l n = (l.getD (tIdx l n) (0, 0)).1 := by unfold takeAt; rw [if_pos he]
  have eL : takeList l n = cutL l (tIdx l n) n := by unfold takeList; rw [if_pos he]
  have hll := takeList_length l n
  have hx := hbd _ (getD_mem hk)
  have hs := split_at hk
  rw [eA, eL]
  rw [eL] at hll
  unfold cutL at hll ⊢
  rw [hs] at hsep
  generalize hA : l.take (tIdx l n) = A at *
  generalize hD : l.drop (tIdx l n + 1) = D at *
  generalize l.getD (tIdx l n) (0, 0) = x at *
  obtain ⟨f1, f2, f3, f4⟩ := cut_facts hsep hn hnx
  have hlb : ∀ y ∈ A ++ ((if n < x.2 then [(x.1 + n, x.2 - n)] else []) ++ D), 0 ≤ y.1 ∧ y.1 + y.2 ≤ 4194304 := by
    intro y hy
    have old : ∀ z ∈ A ++ D, 0 ≤ z.1 ∧ z.1 + z.2 ≤ 4194304 := fun z hz => by
      have := hbd z (by rw [hs]; rcases List.mem_append.1 hz with h | h; exact List.mem_append.2 (.inl h); exact List.mem_append.2 (.inr (List.mem_cons_of_mem _ h)))
      omega
    rcases List.mem_append.1 hy with hy | hy
    · exact old y (List.mem_append.2 (.inl hy))
    · rcases List.mem_append.1 hy with hy | hy
      · split at hy
        · simp at hy; subst hy; simp; omega
        · cases hy
      · exact old y (List.mem_append.2 (.inr hy))
  have hmr : ∀ y ∈ A ++ ((if n < x.2 then [(x.1 + n, x.2 - n)] else []) ++ D), mayB y = true := fun y hy => by
    have h1 := hlb y hy
    have h2 := f1.1 y hy
    exact mayB_iff.2 ⟨h1.1, by omega, h1.2⟩
  have hml : ∀ y ∈ l, mayB y = true := fun y hy => by have := hbd y hy; exact mayB_iff.2 ⟨by omega, by omega, by omega⟩
  generalize hR : A ++ ((if n < x.2 then [(x.1 + n, x.2 - n)] else []) ++ D) = R at *
  have hsl : sumL l ≤ 4194304 := by
    have := sep_sum (l := l) (by rw [hs]; exact hsep) (f := 0) (size := 4194304) (fun y hy => by have := hbd y hy; omega) (by omega)
    omega
  have hnr := sumL_nonneg (l := R) (fun y hy => by have := mayB_iff.1 (hmr y hy); omega)
  have t1 : totalL R = sumL R := totalL_sum hmr (by rw [← hs] at f2; omega)
  have t2 : totalL l = sumL l := totalL_sum hml (by omega)
  rw [← hs] at f2
  have gR : goodB R 4194304 = true := goodB_iff.2 ⟨⟨by omega, by omega⟩, by omega, goodFrom_of_sep f1 (fun y hy => by have := hlb y hy; omega)⟩
  have mR : meetsB (R ++ [(x.1, n)]) = false := meets_sep f1 (fun y hy => f4 y hy)
  have hmx : mayB (x.1, n) = true := mayB_iff.2 ⟨by omega, by simp; omega, by simp; omega⟩
  have hnl : normL (R ++ [(x.1, n)]) = l := normL_of (fun y hy => by
      rcases List.mem_append.1 hy with hy | hy
      · exact hmr y hy
      · simp at hy; subst hy; exact hmx) (by rw [hs]; exact hsep) (fun b => by rw [f3 b, ← hs])
  have ge : giveErr R (x.1, n) = 0 := by unfold giveErr gvOk; rw [gR, hmx, mR, hnl, if_neg (by omega : ¬ 65536 < l.length)]; rfl
  refine ⟨hn, gR, mR, by rw [t1, t2]; omega, hmx, ge, by unfold giveList; rw [if_pos ge]; exact hnl, by rw [t1]; exact hnr, by rw [t2]; exact hsl, by omega, by omega⟩
end Go.Proofs.Ytbpaiioonljlpac
