/-
  What extents leave of a size, plainly: each byte below it is one's of theirs or one's of the rest. No conditions.
-/
import Derived.Test.YtbpaiioonljlpacXBackMath
import Derived.Test.YtbpaiioonljlpacXRest
namespace Go.Proofs.Ytbpaiioonljlpac
set_option linter.unusedVariables false

/-- How many extents have a byte. -/
def hasB (b : Int) (x : Ext) : Bool := decide (x.1 ≤ b ∧ b < x.1 + x.2)
def cntL (l : List Ext) (b : Int) : Nat := l.countP (hasB b)
theorem cntL_nil (b : Int) : cntL [] b = 0 := rfl
theorem cntL_cons (x : Ext) (l : List Ext) (b : Int) : cntL (x :: l) b = cntL l b + if hasB b x = true then 1 else 0 := by unfold cntL; rw [List.countP_cons]
theorem cntL_append (l m : List Ext) (b : Int) : cntL (l ++ m) b = cntL l b + cntL m b := List.countP_append
theorem cntL_pos {l : List Ext} {b : Int} : 0 < cntL l b ↔ Cov l b := by
  unfold cntL
  rw [List.countP_pos_iff]
  constructor
  · rintro ⟨x, hx, h⟩; exact ⟨x, hx, by simpa [hasB] using h⟩
  · rintro ⟨x, hx, h⟩; exact ⟨x, hx, by simpa [hasB] using h⟩
theorem cntL_zero {l : List Ext} {b : Int} (h : ∀ x ∈ l, b < x.1 ∨ x.1 + x.2 ≤ b) : cntL l b = 0 := by
  rcases Nat.eq_zero_or_pos (cntL l b) with h0 | h0
  · exact h0
  · obtain ⟨x, hx, h1, h2⟩ := cntL_pos.1 h0
    have := h x hx
    omega
theorem gapB_mem {a b : Int} {g : Ext} (h : g ∈ gapB a b) : a < b ∧ g = (a, b - a) := by
  unfold gapB at h
  split at h
  · rename_i hab; simp at h; exact ⟨hab, h⟩
  · cases h
theorem gapB_cnt {a b c : Int} : cntL (gapB a b) c = if a ≤ c ∧ c < b then 1 else 0 := by
  unfold gapB
  split
  · rw [cntL_cons, cntL_nil]
    by_cases h : a ≤ c ∧ c < b
    · rw [if_pos h, if_pos (by simp [hasB]; omega)]
    · rw [if_neg h, if_neg (by simp [hasB]; omega)]
  · rw [cntL_nil, if_neg (by omega)]
theorem gapB_sum {a b : Int} (h : a ≤ b) : sumL (gapB a b) = b - a := by
  unfold gapB
  split
  · simp [sumL]
  · simp [sumL]; omega
theorem gapB_sep {a b : Int} : Sep (gapB a b) := by
  unfold gapB
  split
  · exact sep_cons.2 ⟨by simp; omega, (fun _ h => by cases h), Sep.nil⟩
  · exact Sep.nil

/-- The gaps from a place on. -/
def gapsFrom (size : Int) : Int → List Ext → List Ext
  | a, [] => gapB a size
  | a, x :: t => gapB a x.1 ++ gapsFrom size (x.1 + x.2) t
theorem gapsFrom_fold (size : Int) : ∀ (l : List Ext) (a : Int) (acc : List Ext), (l.foldl (fun st x => (x.1 + x.2, st.2 ++ gapB st.1 x.1)) (a, acc)).2 ++ gapB (l.foldl (fun st x => (x.1 + x.2, st.2 ++ gapB st.1 x.1)) (a, acc)).1 size = acc ++ gapsFrom size a l
  | [], a, acc => rfl
  | x :: t, a, acc => by
    rw [List.foldl_cons, gapsFrom_fold size t, gapsFrom, List.append_assoc]
theorem gapsL_from (l : List Ext) (size : Int) : gapsL l size = gapsFrom size 0 l := by
  have := gapsFrom_fold size l 0 []
  unfold gapsL gapsTo
  simpa using this
theorem gapsFrom_facts {size : Int} : ∀ {l : List Ext} {a : Int}, Sep l → (∀ x ∈ l, a ≤ x.1 ∧ x.1 + x.2 ≤ size) → a ≤ size →
    Sep (gapsFrom size a l) ∧ (∀ g ∈ gapsFrom size a l, a ≤ g.1 ∧ g.1 + g.2 ≤ size) ∧ sumL l + sumL (gapsFrom size a l) = size - a ∧ ∀ b, a ≤ b → b < size → cntL l b + cntL (gapsFrom size a l) b = 1
  | [], a, _, _, ha => by
    refine ⟨gapB_sep, fun g hg => ?_, by simp only [gapsFrom, sumL, gapB_sum ha]; omega, fun b h1 h2 => by rw [gapsFrom, cntL_nil, gapB_cnt, if_pos ⟨h1, h2⟩]⟩
    obtain ⟨h1, rfl⟩ := gapB_mem hg
    simp; omega
  | x :: t, a, hs, hb, ha => by
    obtain ⟨s1, s2, s3⟩ := sep_cons.1 hs
    have hx := hb x (List.mem_cons_self ..)
    have hbt : ∀ y ∈ t, x.1 + x.2 ≤ y.1 ∧ y.1 + y.2 ≤ size := fun y hy => ⟨by have := s2 y hy; omega, (hb y (List.mem_cons_of_mem _ hy)).2⟩
    obtain ⟨i1, i2, i3, i4⟩ := gapsFrom_facts (size := size) (l := t) (a := x.1 + x.2) s3 hbt (by omega)
    refine ⟨?_, ?_, ?_, ?_⟩
    · rw [gapsFrom]
      refine sep_append.2 ⟨gapB_sep, i1, fun g hg y hy => ?_⟩
      obtain ⟨_, rfl⟩ := gapB_mem hg
      have := (i2 y hy).1
      simp; omega
    · intro g hg
      rw [gapsFrom] at hg
      rcases List.mem_append.1 hg with hg | hg
      · obtain ⟨_, rfl⟩ := gapB_mem hg
        simp; omega
      · have := i2 g hg; omega
    · rw [gapsFrom, sumL_append, gapB_sum (by omega)]
      simp only [sumL]; omega
    · intro b h1 h2
      rw [gapsFrom, cntL_append, cntL_cons, gapB_cnt]
      by_cases c1 : b < x.1
      · rw [cntL_zero (l := t) (fun y hy => .inl (by have := s2 y hy; omega)), cntL_zero (l := gapsFrom size (x.1 + x.2) t) (fun y hy => .inl (by have := (i2 y hy).1; omega)), if_neg (by simp [hasB]; omega), if_pos ⟨h1, c1⟩]
      · by_cases c2 : b < x.1 + x.2
        · rw [cntL_zero (l := t) (fun y hy => .inl (by have := s2 y hy; omega)), cntL_zero (l := gapsFrom size (x.1 + x.2) t) (fun y hy => .inl (by have := (i2 y hy).1; omega)), if_pos (by simp [hasB]; omega), if_neg (by omega)]
        · rw [if_neg (by simp [hasB]; omega), if_neg (by omega)]
          have := i4 b (by omega) h2
          omega
/-- Where no byte is two's, none meet. -/
theorem meets_cnt : ∀ {l : List Ext}, (∀ b, cntL l b ≤ 1) → meetsB l = false
  | [], _ => rfl
  | x :: r, h => by
    have hr : ∀ b, cntL r b ≤ 1 := fun b => by have := h b; rw [cntL_cons] at this; omega
    rw [meetsB, meets_cnt hr, Bool.or_false]
    rw [← Bool.not_eq_true, List.any_eq_true]
    rintro ⟨y, hy, hb⟩
    unfold bothB at hb
    simp only [Bool.and_eq_true, comB_iff] at hb
    have h1 := h (max x.1 y.1)
    rw [cntL_cons, if_pos (by simp [hasB]; omega)] at h1
    have h2 : 0 < cntL r (max x.1 y.1) := cntL_pos.2 ⟨y, hy, by omega, by omega⟩
    omega

theorem norm_cov {l : List Ext} (hm : ∀ x ∈ l, mayB x = true) (b : Int) : Cov (normL l) b ↔ Cov l b := by
  obtain ⟨s, c⟩ := joinL_sep (fit_one (fit_perm (sortE_perm l))) (sortE_ord l)
  rw [show normL l = joinL (sortE l) from rfl, c, cov_perm (sortE_perm l)]
  constructor
  · rintro ⟨x, hx, k⟩; exact ⟨x, (List.mem_filter.1 hx).1, k⟩
  · rintro ⟨x, hx, k⟩; exact ⟨x, List.mem_filter.2 ⟨hx, by have := mayB_iff.1 (hm x hx); rw [fitB_iff]; omega⟩, k⟩

/-- What a list and its rest are. -/
theorem cover_facts {l : List Ext} {size : Int} (he : restErr l size = 0) :
    (0 ≤ size ∧ size ≤ 4194304) ∧ normErr l = 0 ∧ normList l = normL l ∧ restList l size = gapsL (normL l) size ∧ (∀ x ∈ l, mayB x = true) ∧ goodB (normL l) size = true ∧ goodB (gapsL (normL l) size) size = true ∧
    totalL (normL l) + totalL (gapsL (normL l) size) = size ∧ meetsB (normL l ++ gapsL (normL l) size) = false ∧ (∀ b, 0 ≤ b → b < size → (0 < cntL l b ↔ cntL (normL l) b = 1) ∧ cntL (normL l) b + cntL (gapsL (normL l) size) b = 1) ∧ 0 ≤ totalL (normL l) ∧ 0 ≤ totalL (gapsL (normL l) size) := by
  have h := he
  unfold restErr at h
  split at h
  case isFalse => omega
  rename_i hs
  split at h
  case isFalse => rename_i hn; exact absurd h hn
  rename_i hn
  split at h
  case isFalse => omega
  rename_i hg
  split at h
  case isTrue => omega
  rename_i hl
  have hsz := szB_iff.1 hs
  have hall : ∀ x ∈ l, mayB x = true := by
    have h2 := hn
    unfold normErr at h2
    split at h2
    · omega
    · split at h2
      · rename_i h3; exact List.all_eq_true.1 h3
      · omega
  obtain ⟨_, hlen, hgf⟩ := goodB_iff.1 hg
  obtain ⟨hsep, hbd⟩ := goodFrom_sep hgf
  obtain ⟨g1, g2, g3, g4⟩ := gapsFrom_facts (size := size) (l := normL l) (a := 0) hsep (fun x hx => by have := hbd x hx; omega) hsz.1
  rw [← gapsL_from] at g1 g2 g3 g4
  have hmn : ∀ x ∈ normL l, mayB x = true := fun x hx => by have := hbd x hx; exact mayB_iff.2 ⟨by omega, by omega, by omega⟩
  have hmg : ∀ x ∈ gapsL (normL l) size, mayB x = true := fun x hx => by have h1 := g2 x hx; have h2 := g1.1 x hx; exact mayB_iff.2 ⟨by omega, by omega, by omega⟩
  have n1 := sumL_nonneg (l := normL l) (fun x hx => by have := mayB_iff.1 (hmn x hx); omega)
  have n2 := sumL_nonneg (l := gapsL (normL l) size) (fun x hx => by have := mayB_iff.1 (hmg x hx); omega)
  have t1 := totalL_sum hmn (by omega)
  have t2 := totalL_sum hmg (by omega)
  have hcn : ∀ b, 0 ≤ b → b < size → cntL (normL l) b + cntL (gapsL (normL l) size) b = 1 := g4
  refine ⟨hsz, hn, by unfold normList; rw [if_pos hn], by unfold restList; rw [if_pos he], hall, hg, ?_, by rw [t1, t2]; omega, ?_, fun b h1 h2 => ⟨?_, hcn b h1 h2⟩, by rw [t1]; exact n1, by rw [t2]; exact n2⟩
  · exact goodB_iff.2 ⟨hsz, by omega, goodFrom_of_sep g1 (fun x hx => by have := g2 x hx; omega)⟩
  · refine meets_cnt fun b => ?_
    rw [cntL_append]
    by_cases hb : 0 ≤ b ∧ b < size
    · have := hcn b hb.1 hb.2; omega
    · rw [cntL_zero (l := normL l) (fun x hx => by have := hbd x hx; omega), cntL_zero (l := gapsL (normL l) size) (fun x hx => by have := g2 x hx; omega)]; omega
  · have h3 := hcn b h1 h2
    rw [cntL_pos, ← norm_cov hall, ← cntL_pos]
    omega
theorem cover_no {l : List Ext} {size : Int} (hlen : l.length ≤ 50) (he : restErr l size ≠ 0) : restErr l size = 2 ∧ restList l size = [] := by
  have e : restErr l size = 2 := by
    have h := he
    unfold restErr at h ⊢
    split
    · rename_i hs
      rw [if_pos hs] at h
      split
      · rename_i hn
        rw [if_pos hn] at h
        split
        · rename_i hg
          rw [if_pos hg] at h
          have h1 := gapsTo_length (normL l)
          have h2 := gapB_length (gapsTo (normL l)).1 size
          have h3 := joinL_length (sortE l)
          have h4 := (sortE_perm l).length_eq
          have h5 := List.length_filter_le fitB l
          have h6 : (normL l).length = (joinL (sortE l)).length := rfl
          rw [if_neg (by unfold gapsL; rw [List.length_append]; omega)] at h
          exact absurd rfl h
        · rfl
      · rename_i hn
        unfold normErr at hn ⊢
        rw [if_neg (by omega)] at hn ⊢
        split
        · rename_i h2; rw [if_pos h2] at hn; exact absurd rfl hn
        · rfl
    · rfl
  exact ⟨e, by unfold restList; rw [if_neg he]⟩
end Go.Proofs.Ytbpaiioonljlpac
