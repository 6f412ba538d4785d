/-
  How long bytes become by the match coder that are alike but for a few: by how often neighbours differ. No conditions.
-/
import Derived.Test.YtgodoogmbdgeoaaFiM
import Derived.Test.YtgodoogmbdgeoaaFCount
namespace Go.Proofs.Ytgodoogmbdgeoaa
set_option linter.unusedVariables false
set_option maxRecDepth 100000

/-- How often neighbours differ; how many are as the first one is. -/
def chgL : List Int → Nat
  | [] => 0
  | [_] => 0
  | x :: y :: t => (if x = y then 0 else 1) + chgL (y :: t)
def runX (x : Int) : List Int → Nat
  | [] => 0
  | y :: t => if y = x then 1 + runX x t else 0
def rnH : List Int → Nat
  | [] => 0
  | x :: t => 1 + runX x t
theorem runX_le (x : Int) : ∀ t : List Int, runX x t ≤ t.length
  | [] => Nat.le_refl _
  | y :: t => by
    rw [runX, List.length_cons]
    have := runX_le x t
    split <;> omega
theorem runX_at (x : Int) : ∀ (t : List Int) (i : Nat), i < runX x t → t[i]? = some x
  | [], i, h => by simp [runX] at h
  | y :: t, i, h => by
    rw [runX] at h
    split at h
    · rename_i e
      cases i with
      | zero => rw [e]; rfl
      | succ i => exact runX_at x t i (by omega)
    · omega
def cg (b : List Int) (p : Nat) : Nat := chgL (b.drop p)
def rr (b : List Int) (p : Nat) : Nat := rnH (b.drop p)
def inB (b : List Int) (p : Nat) : Prop := 1 ≤ p ∧ b[p]? = b[p - 1]?
instance (b : List Int) (p : Nat) : Decidable (inB b p) := by unfold inB; infer_instance
theorem drop_at {b : List Int} {p : Nat} (h : p < b.length) : b.drop p = b[p] :: b.drop (p + 1) := List.drop_eq_getElem_cons h
theorem rr_pos {b : List Int} {p : Nat} (h : p < b.length) : 1 ≤ rr b p ∧ p + rr b p ≤ b.length := by
  have h1 := runX_le b[p] (b.drop (p + 1))
  rw [List.length_drop] at h1
  have e : rr b p = 1 + runX b[p] (b.drop (p + 1)) := by rw [rr, drop_at h]; rfl
  omega
theorem rr_at {b : List Int} {p : Nat} (h : p < b.length) {i : Nat} (hi : i < rr b p) : b[p + i]? = b[p]? := by
  have e : rr b p = 1 + runX b[p] (b.drop (p + 1)) := by rw [rr, drop_at h]; rfl
  cases i with
  | zero => rfl
  | succ i =>
    have := runX_at b[p] (b.drop (p + 1)) i (by omega)
    rw [List.getElem?_drop] at this
    rw [show p + (i + 1) = p + 1 + i by omega, this, List.getElem?_eq_getElem h]
theorem rr_two {b : List Int} {p : Nat} (h : p < b.length) (h2 : 2 ≤ rr b p) : p + 1 < b.length ∧ cg b (p + 1) = cg b p ∧ rr b (p + 1) + 1 = rr b p ∧ inB b (p + 1) := by
  have hl := (rr_pos h).2
  have h1 : p + 1 < b.length := by omega
  have e1 : rr b p = 1 + runX b[p] (b.drop (p + 1)) := by rw [rr, drop_at h]; rfl
  have e2 : rr b (p + 1) = 1 + runX b[p + 1] (b.drop (p + 1 + 1)) := by rw [rr, drop_at h1]; rfl
  have e3 : cg b p = (if b[p] = b[p + 1] then 0 else 1) + cg b (p + 1) := by rw [cg, cg, drop_at h, drop_at h1]; rfl
  rw [drop_at h1, runX] at e1
  have heq : b[p + 1] = b[p] := by
    by_cases hh : b[p + 1] = b[p]
    · exact hh
    · rw [if_neg hh] at e1; omega
  rw [if_pos heq] at e1
  rw [if_pos heq.symm] at e3
  rw [heq] at e2
  refine ⟨h1, by omega, by omega, by omega, ?_⟩
  rw [Nat.add_sub_cancel, List.getElem?_eq_getElem h1, List.getElem?_eq_getElem h, heq]
theorem rr_one {b : List Int} {p : Nat} (h : p < b.length) (h1 : rr b p = 1) : (p + 1 = b.length ∧ cg b p = 0) ∨ (p + 1 < b.length ∧ cg b (p + 1) + 1 = cg b p ∧ ¬ inB b (p + 1)) := by
  by_cases hl : p + 1 = b.length
  · refine .inl ⟨hl, ?_⟩
    rw [cg, drop_at h, List.drop_of_length_le (by omega)]; rfl
  · have h2 : p + 1 < b.length := by omega
    have e1 : rr b p = 1 + runX b[p] (b.drop (p + 1)) := by rw [rr, drop_at h]; rfl
    have e3 : cg b p = (if b[p] = b[p + 1] then 0 else 1) + cg b (p + 1) := by rw [cg, cg, drop_at h, drop_at h2]; rfl
    rw [drop_at h2, runX] at e1
    have hne : ¬ b[p + 1] = b[p] := by
      intro hh
      rw [if_pos hh] at e1; omega
    rw [if_neg (fun e => hne e.symm)] at e3
    refine .inr ⟨h2, by omega, ?_⟩
    rintro ⟨_, h5⟩
    rw [Nat.add_sub_cancel, List.getElem?_eq_getElem h2, List.getElem?_eq_getElem h] at h5
    exact hne (Option.some.inj h5)
theorem rr_jump {b : List Int} {p : Nat} (h : p < b.length) : ∀ L, p + L < b.length → (L < rr b p ∧ cg b (p + L) = cg b p ∧ rr b (p + L) + L = rr b p ∧ (1 ≤ L → inB b (p + L))) ∨ (rr b p ≤ L ∧ cg b (p + L) + 1 ≤ cg b p ∧ (rr b p < L → ¬ inB b (p + L) → cg b (p + L) + 2 ≤ cg b p))
  | 0, _ => .inl ⟨by have := (rr_pos h).1; omega, rfl, rfl, fun h => by omega⟩
  | L + 1, hL => by
    have ih := rr_jump h L (by omega)
    have hp : p + L < b.length := by omega
    by_cases h2 : 2 ≤ rr b (p + L)
    · obtain ⟨g1, g2, g3, g4⟩ := rr_two hp h2
      rcases ih with ⟨i1, i2, i3, i4⟩ | ⟨i1, i2, i3⟩
      · refine .inl ⟨by omega, ?_, ?_, fun _ => g4⟩
        · rw [← i2]; exact g2
        · show rr b (p + L + 1) + (L + 1) = _; omega
      · refine .inr ⟨by omega, ?_, fun _ hn => absurd g4 hn⟩
        show cg b (p + L + 1) + 1 ≤ _; omega
    · have h1 : rr b (p + L) = 1 := by have := (rr_pos hp).1; omega
      rcases rr_one hp h1 with ⟨g1, g2⟩ | ⟨g1, g2, g3⟩
      · omega
      · rcases ih with ⟨i1, i2, i3, i4⟩ | ⟨i1, i2, i3⟩
        · refine .inr ⟨by omega, ?_, fun h5 => by omega⟩
          show cg b (p + L + 1) + 1 ≤ _; omega
        · refine .inr ⟨by omega, ?_, fun _ _ => ?_⟩
          · show cg b (p + L + 1) + 1 ≤ _; omega
          · show cg b (p + L + 1) + 2 ≤ _; omega
/-- How many bytes a place is good for. -/
def sS (b : List Int) (p : Nat) (o : Bool) : Nat := if inB b p then (if 4 ≤ rr b p then 4 else rr b p + (if o then 0 else 1)) else 6
def ph (b : List Int) (p : Nat) (o : Bool) : Nat := if p < b.length then 6 * cg b p + sS b p o else 0
theorem sS_six (b : List Int) (p : Nat) (o : Bool) : sS b p o ≤ 6 := by
  unfold sS; split
  · split
    · omega
    · split <;> omega
  · omega
theorem sS_four {b : List Int} {p : Nat} (h : inB b p) (o : Bool) : sS b p o ≤ 4 := by
  unfold sS; rw [if_pos h]; split
  · omega
  · split <;> omega
theorem alkF_low {b : List Int} {p d m : Nat} (h : ∀ i, i < m → p + i < b.length ∧ b[p + i]? = b[p + i - d]?) : ∀ (f n : Nat), n ≤ m → min (n + f) m ≤ alkF b p d f n
  | 0, n, hn => by rw [alkF]; omega
  | f + 1, n, hn => by
    rw [alkF]
    split
    · rename_i hc
      by_cases hm : n < m
      · have := alkF_low h f (n + 1) hm; omega
      · have h9 := (alkF_spec (b := b) (p := p) (d := d) f (n + 1))
        obtain rfl : n = m := by omega
        have : n ≤ alkF b p d f (n + 1) := by
          rcases Nat.lt_or_ge (alkF b p d f (n + 1)) n with h8 | h8
          · have : ∀ (f n : Nat), n ≤ alkF b p d f n := by
              intro f
              induction f with
              | zero => intro n; rw [alkF]; exact Nat.le_refl _
              | succ f ih => intro n; rw [alkF]; split
                             · exact Nat.le_trans (Nat.le_succ _) (ih _)
                             · exact Nat.le_refl _
            have := this f (n + 1); omega
          · exact h8
        omega
    · rename_i hc
      by_cases hm : n < m
      · exact absurd (h n hm) hc
      · omega
theorem bst_in {b : List Int} {p : Nat} (hp : p < b.length) (h : inB b p) : min 131 (rr b p) ≤ (bst b p).1 := by
  have h1 := (bstF_spec b p (min 255 p)).2 1 (Nat.le_refl _) (by have := h.1; omega)
  have h2 : min (0 + 131) (rr b p) ≤ alkF b p 1 131 0 := alkF_low (fun i hi => by
    have hr := (rr_pos hp).2
    refine ⟨by omega, ?_⟩
    cases i with
    | zero => exact h.2
    | succ i =>
      rw [rr_at hp hi, show p + (i + 1) - 1 = p + i by omega, rr_at hp (by omega)]) 131 0 (Nat.zero_le _)
  have h3 : alk b p 1 = alkF b p 1 131 0 := rfl
  have h4 : (bst b p).1 = (bstF b p (min 255 p)).1 := rfl
  omega
theorem ph_lit {b : List Int} {p : Nat} (hp : p < b.length) (h4 : (bst b p).1 < 4) (o : Bool) : (if o then 1 else 2) + ph b (p + 1) true ≤ ph b p o := by
  have e0 : ph b p o = 6 * cg b p + sS b p o := by rw [ph, if_pos hp]
  have hr := (rr_pos hp).1
  by_cases hin : inB b p
  · have hb := bst_in hp hin
    have hr4 : ¬ 4 ≤ rr b p := by omega
    have e1 : sS b p o = rr b p + (if o then 0 else 1) := by rw [sS, if_pos hin, if_neg hr4]
    by_cases h2 : 2 ≤ rr b p
    · obtain ⟨g1, g2, g3, g4⟩ := rr_two hp h2
      have e2 : ph b (p + 1) true = 6 * cg b (p + 1) + rr b (p + 1) := by rw [ph, if_pos g1, sS, if_pos g4, if_neg (by omega)]; simp
      cases o <;> simp only [Bool.false_eq_true, if_false, if_true] at * <;> omega
    · rcases rr_one hp (by omega) with ⟨g1, g2⟩ | ⟨g1, g2, g3⟩
      · have e2 : ph b (p + 1) true = 0 := by rw [ph, if_neg (by omega)]
        cases o <;> simp only [Bool.false_eq_true, if_false, if_true] at * <;> omega
      · have e2 : ph b (p + 1) true = 6 * cg b (p + 1) + 6 := by rw [ph, if_pos g1, sS, if_neg g3]
        cases o <;> simp only [Bool.false_eq_true, if_false, if_true] at * <;> omega
  · have e1 : sS b p o = 6 := by rw [sS, if_neg hin]
    have ho : (if o then 1 else 2) ≤ 2 := by cases o <;> simp
    by_cases h2 : 2 ≤ rr b p
    · obtain ⟨g1, g2, g3, g4⟩ := rr_two hp h2
      have e2 : ph b (p + 1) true = 6 * cg b (p + 1) + sS b (p + 1) true := by rw [ph, if_pos g1]
      have := sS_four g4 true
      omega
    · rcases rr_one hp (by omega) with ⟨g1, g2⟩ | ⟨g1, g2, g3⟩
      · have e2 : ph b (p + 1) true = 0 := by rw [ph, if_neg (by omega)]
        omega
      · have e2 : ph b (p + 1) true = 6 * cg b (p + 1) + sS b (p + 1) true := by rw [ph, if_pos g1]
        have := sS_six b (p + 1) true
        omega
theorem ph_copy {b : List Int} {p : Nat} (hp : p < b.length) {L : Nat} (h4 : 4 ≤ L) (h131 : L ≤ 131) (hl : p + L ≤ b.length) (hin : inB b p → min 131 (rr b p) ≤ L) (o : Bool) : 2 + ph b (p + L) false ≤ ph b p o ∨ (L = 131 ∧ ph b (p + L) false ≤ ph b p o) := by
  have e0 : ph b p o = 6 * cg b p + sS b p o := by rw [ph, if_pos hp]
  have hr := rr_pos hp
  by_cases hend : p + L = b.length
  · have e1 : ph b (p + L) false = 0 := by rw [ph, if_neg (by omega)]
    refine .inl ?_
    by_cases h : inB b p
    · by_cases hr4 : 4 ≤ rr b p
      · have : sS b p o = 4 := by rw [sS, if_pos h, if_pos hr4]
        omega
      · rcases rr_jump hp (rr b p) (by omega) with ⟨i1, _⟩ | ⟨_, i2, _⟩
        · omega
        · omega
    · have : sS b p o = 6 := by rw [sS, if_neg h]
      omega
  · have hlt : p + L < b.length := by omega
    have e1 : ph b (p + L) false = 6 * cg b (p + L) + sS b (p + L) false := by rw [ph, if_pos hlt]
    have h6 := sS_six b (p + L) false
    rcases rr_jump hp L hlt with ⟨i1, i2, i3, i4⟩ | ⟨i1, i2, i3⟩
    · have h5 := sS_four (i4 (by omega)) false
      by_cases h : inB b p
      · have : sS b p o = 4 := by rw [sS, if_pos h, if_pos (by omega)]
        have := hin h
        exact .inr ⟨by omega, by omega⟩
      · have : sS b p o = 6 := by rw [sS, if_neg h]
        exact .inl (by omega)
    · refine .inl ?_
      by_cases h : inB b p
      · by_cases hr4 : 4 ≤ rr b p
        · have : sS b p o = 4 := by rw [sS, if_pos h, if_pos hr4]
          omega
        · by_cases h' : inB b (p + L)
          · have := sS_four h' false
            omega
          · have := i3 (by omega) h'
            omega
      · have : sS b p o = 6 := by rw [sS, if_neg h]
        omega
theorem run_sz {b : List Int} {p q : Nat} (hq : q ≤ p) (hp : p ≤ b.length) : sz (runT ((b.take p).drop q)) ≤ (p - q) + (if q < p then 1 else 0) := by
  have hl : ((b.take p).drop q).length = p - q := by rw [List.length_drop, List.length_take]; omega
  by_cases h : q < p
  · have := sz_run ((b.take p).drop q)
    rw [if_pos h]; omega
  · have : (b.take p).drop q = [] := List.eq_nil_of_length_eq_zero (by omega)
    rw [this]
    exact Nat.zero_le _
theorem tok_sz (b : List Int) : ∀ (f p q : Nat), q ≤ p → p ≤ b.length → (p - q) + ph b p (decide (q < p)) ≤ 127 → sz (tokF b f p q) ≤ (p - q) + (if q < p then 1 else 0) + ph b p (decide (q < p)) + 2 * ((b.length - p) / 131)
  | 0, p, q, _, _, _ => Nat.zero_le _
  | f + 1, p, q, hq, hp, hi => by
    rw [tokF]
    split
    · rename_i hlt
      split
      · rename_i h4
        obtain ⟨s1, s2, s3, s4, s5⟩ := bst_spec (b := b) (p := p) (by omega)
        have hpn : p + (bst b p).1 ≤ b.length := by
          have := (s5 ((bst b p).1 - 1) (by omega)).1
          omega
        have hc := ph_copy hlt h4 s4 hpn (fun h => bst_in hlt h) (decide (q < p))
        generalize (bst b p).1 = L at *
        have hdf : decide (p + L < p + L) = false := by simp
        have ih := tok_sz b f (p + L) (p + L) (Nat.le_refl _) hpn (by rw [hdf]; omega)
        rw [hdf, if_neg (by omega)] at ih
        have hr := run_sz hq hp
        rw [sz_append, sz_cp]
        rcases hc with hc | ⟨rfl, hc⟩
        · have : (b.length - (p + L)) / 131 ≤ (b.length - p) / 131 := Nat.div_le_div_right (by omega)
          omega
        · have : (b.length - p) / 131 = (b.length - (p + 131)) / 131 + 1 := by
            rw [show b.length - p = (b.length - (p + 131)) + 131 by omega, Nat.add_div_right _ (by omega)]
          omega
      · rename_i h4
        have hc := ph_lit hlt (by omega) (decide (q < p))
        have hd : decide (q < p + 1) = true := by simp; omega
        have ih := tok_sz b f (p + 1) q (by omega) (by omega) (by
          rw [hd]
          by_cases hqp : q < p
          · simp only [hqp, decide_true, if_true] at hc hi; omega
          · simp only [hqp, decide_false, Bool.false_eq_true, if_false] at hc hi; omega)
        rw [hd, if_pos (by omega)] at ih
        have hdv : (b.length - (p + 1)) / 131 ≤ (b.length - p) / 131 := Nat.div_le_div_right (by omega)
        rw [if_neg (by
          by_cases hqp : q < p
          · simp only [hqp, decide_true, if_true] at hc hi; omega
          · omega)]
        by_cases hqp : q < p
        · simp only [hqp, decide_true, if_true] at hc hi ⊢; omega
        · simp only [hqp, decide_false, Bool.false_eq_true, if_false] at hc hi ⊢; omega
    · rename_i hlt
      obtain rfl : p = b.length := by omega
      have hr := run_sz hq hp
      rw [List.take_length] at hr
      omega
theorem pk_few {b : List Int} (h : chgL b ≤ 16) : (pkX 0 b).length ≤ 103 + 2 * (b.length / 131) := by
  have hph : ph b 0 false ≤ 102 := by
    unfold ph
    split
    · have := sS_six b 0 false
      have e : cg b 0 = chgL b := rfl
      omega
    · omega
  have hd : decide (0 < 0) = false := by simp
  have key := tok_sz b (b.length + 1) 0 0 (Nat.le_refl _) (Nat.zero_le _) (by rw [hd]; omega)
  rw [hd] at key
  have e : (tokB b).length = sz (tokF b (b.length + 1) 0 0) := rfl
  simp only [Nat.lt_irrefl, if_false, Nat.sub_zero, Nat.sub_self] at key
  unfold pkX
  split
  · rw [List.length_cons]; omega
  · rw [List.length_cons]; omega
/-- How many are not x. -/
def od (x : Int) (l : List Int) : Nat := l.countP fun y => decide (y ≠ x)
theorem chg_od (x : Int) : ∀ (y : Int) (t : List Int), chgL (y :: t) + (if y = x then 0 else 1) ≤ 2 * od x (y :: t)
  | y, [] => by
    unfold od
    by_cases h : y = x <;> simp [chgL, h]
  | y, z :: t => by
    have ih := chg_od x z t
    have e : od x (y :: z :: t) = (if y = x then 0 else 1) + od x (z :: t) := by
      unfold od
      rw [List.countP_cons (a := y)]
      by_cases h : y = x <;> simp [h] <;> omega
    rw [chgL, e]
    by_cases h1 : y = x
    · by_cases h2 : z = x
      · rw [if_pos h1, if_pos h2] at *
        rw [if_pos (h1.trans h2.symm)]; omega
      · rw [if_pos h1] at *
        rw [if_neg h2] at ih
        split <;> omega
    · rw [if_neg h1] at *
      split <;> split at ih <;> omega
theorem chg_two (x : Int) (l : List Int) : chgL l ≤ 2 * od x l := by
  cases l with
  | nil => exact Nat.zero_le _
  | cons y t => have := chg_od x y t; omega
theorem chg_append : ∀ (a s : List Int), chgL (a ++ s) ≤ chgL a + s.length
  | [], s => by
    have : ∀ s : List Int, chgL s ≤ s.length := by
      intro s
      induction s with
      | nil => exact Nat.le_refl _
      | cons x s ih =>
        cases s with
        | nil => exact Nat.zero_le _
        | cons y s =>
          rw [chgL, List.length_cons]
          split <;> omega
    have := this s
    rw [List.nil_append]
    omega
  | [x], s => by
    have ih := chg_append [] s
    rw [List.nil_append] at ih
    cases s with
    | nil => exact Nat.zero_le _
    | cons y s =>
      show chgL (x :: y :: s) ≤ _
      have h0 : chgL ([] : List Int) = 0 := rfl
      have : chgL (y :: s) ≤ s.length := by
        have : ∀ (s : List Int) (y : Int), chgL (y :: s) ≤ s.length := by
          intro s
          induction s with
          | nil => intro y; exact Nat.zero_le _
          | cons z s ih =>
            intro y
            have := ih z
            rw [chgL, List.length_cons]
            split <;> omega
        exact this s y
      have e1 : chgL (x :: y :: s) = (if x = y then 0 else 1) + chgL (y :: s) := rfl
      have e2 : chgL [x] = 0 := rfl
      rw [e1, e2, List.length_cons]
      split <;> omega
  | x :: y :: t, s => by
    have ih := chg_append (y :: t) s
    show chgL (x :: y :: (t ++ s)) ≤ _
    have e : (y :: t) ++ s = y :: (t ++ s) := rfl
    rw [e] at ih
    rw [chgL, chgL]
    omega
theorem chg_rep (k : Nat) (x : Int) : chgL (List.replicate k x) = 0 := by
  induction k with
  | zero => rfl
  | succ k ih =>
    cases k with
    | zero => rfl
    | succ k =>
      show chgL (x :: x :: List.replicate k x) = 0
      rw [chgL, if_pos rfl]
      have : x :: List.replicate k x = List.replicate (k + 1) x := rfl
      rw [this, ih]
theorem od_rep (k : Nat) (x : Int) : od x (List.replicate k x) = 0 := by
  unfold od
  rw [List.countP_eq_zero]
  intro y hy
  rw [List.eq_of_mem_replicate hy]
  simp
theorem od_append (x : Int) (a s : List Int) : od x (a ++ s) ≤ od x a + s.length := by
  unfold od
  rw [List.countP_append]
  have := List.countP_le_length (p := fun y => decide (y ≠ x)) (l := s)
  omega
theorem od_sh (x : Int) (z : Nat) (l : List Int) : od x (shL z l) = od x l := (sh_perm z l).countP_eq _
/-- Ahead of the match coder: sums and shuffles of bytes that are all alike. -/
def MsP (x : Int) (k s t : Nat) (b : List Int) : Prop := od x b ≤ 4 * s ∧ chgL b ≤ (if t = 0 then 4 * s else 8 * s) ∧ b.length ≤ k + 4 * s
theorem ms_all (x : Int) (k : Nat) : ∀ (P : List Fil) (s t : Nat) (b : List Int), (∀ f ∈ P, mayP f ∧ f.1 ≠ 2 ∧ f.1 ≠ 3) → MsP x k s t b → ∃ s' t', s' + t' = s + t + P.length ∧ MsP x k s' t' (apL P b)
  | [], s, t, b, _, h => ⟨s, t, rfl, h⟩
  | f :: P, s, t, b, hP, h => by
    obtain ⟨hm, h2, h3⟩ := hP f (List.mem_cons_self ..)
    obtain ⟨m1, m2, m3⟩ := h
    rw [apL_cons]
    rcases may_form hm with ⟨z, rfl, hz1, hz8⟩ | ⟨z, rfl, hz1, hz8⟩ | rfl | rfl
    · obtain ⟨s', t', e, hh⟩ := ms_all x k P s (t + 1) (doF (1, (z : Int)) b) (fun g hg => hP g (List.mem_cons_of_mem _ hg)) (by
        rw [do_1]
        refine ⟨by rw [od_sh]; exact m1, ?_, by rw [shL_len]; exact m3⟩
        have := chg_two x (shL (z : Int).toNat b)
        rw [od_sh] at this
        rw [if_neg (by omega)]
        omega)
      exact ⟨s', t', by rw [e, List.length_cons]; omega, hh⟩
    · exact absurd rfl h2
    · exact absurd rfl h3
    · obtain ⟨s', t', e, hh⟩ := ms_all x k P (s + 1) t (doF (4, 0) b) (fun g hg => hP g (List.mem_cons_of_mem _ hg)) (by
        rw [do_4]
        have h1 := od_append x b (smB b)
        have h2 := chg_append b (smB b)
        rw [smB_len] at h1 h2
        refine ⟨by omega, ?_, by rw [List.length_append, smB_len]; omega⟩
        by_cases ht : t = 0
        · rw [if_pos ht] at m2 ⊢; omega
        · rw [if_neg ht] at m2 ⊢; omega)
      exact ⟨s', t', by rw [e, List.length_cons]; omega, hh⟩
theorem do_one (f : Fil) (b : List Int) (h : 1 ≤ b.length) : 1 ≤ (doF f b).length := by
  unfold doF
  split
  · rw [shL_len]; exact h
  · split
    · rw [deL_len]; exact h
    · split
      · exact (pkX_short 0 b).1
      · rw [List.length_append]; omega
theorem ap_one : ∀ (L : List Fil) (b : List Int), 1 ≤ b.length → 1 ≤ (apL L b).length
  | [], b, h => h
  | f :: L, b, h => ap_one L _ (do_one f b h)
theorem apL_app (P Q : List Fil) (b : List Int) : apL (P ++ Q) b = apL Q (apL P b) := by rw [apL, apL, apL, List.foldl_append]
/-- What is alike becomes short. -/
theorem alike_all {L : List Fil} (hL : chE L = 0) {i : Nat} (hi : i < L.length) (h3 : (L.getD i (0, 0)).1 = 3) (hb : ∀ j, j < i → (L.getD j (0, 0)).1 ≠ 2 ∧ (L.getD j (0, 0)).1 ≠ 3) (k : Nat) (x : Int) :
    1 ≤ (apL L (List.replicate k x)).length ∧ (apL L (List.replicate k x)).length ≤ k / 64 + 128 := by
  obtain ⟨h4, hm⟩ := chE_ok hL
  have e : L = L.take i ++ (L.getD i (0, 0) :: L.drop (i + 1)) := by
    rw [List.getD, List.getElem?_eq_getElem hi]
    show L = L.take i ++ (L[i] :: L.drop (i + 1))
    rw [← List.drop_eq_getElem_cons hi, List.take_append_drop]
  obtain ⟨s, t, est, m1, m2, m3⟩ := ms_all x k (L.take i) 0 0 (List.replicate k x) (fun f hf => by
    refine ⟨hm f (List.mem_of_mem_take hf), ?_⟩
    obtain ⟨j, hj, rfl⟩ := List.getElem_of_mem hf
    rw [List.length_take] at hj
    have := hb j (by omega)
    rw [List.getD, List.getElem?_eq_getElem (by omega)] at this
    rw [List.getElem_take]
    exact this) ⟨by rw [od_rep]; omega, by rw [chg_rep]; omega, by rw [List.length_replicate]; omega⟩
  rw [List.length_take] at est
  have hc : chgL (apL (L.take i) (List.replicate k x)) ≤ 16 := by
    split at m2 <;> omega
  have hp := pk_few hc
  have hs : s ≤ 3 := by omega
  generalize hA : apL (L.take i) (List.replicate k x) = A at *
  have eq : apL L (List.replicate k x) = apL (L.drop (i + 1)) (pkX 0 A) := by
    conv => lhs; rw [e]
    rw [apL_app, hA, apL_cons]
    obtain ⟨z, hz⟩ : ∃ z, L.getD i (0, 0) = (3, z) := ⟨(L.getD i (0, 0)).2, by rw [← h3]⟩
    rw [hz, do_3]
  rw [eq]
  refine ⟨ap_one _ _ (pkX_short 0 A).1, ?_⟩
  have h5 := ap_len (L.drop (i + 1)) (pkX 0 A)
  rw [List.length_drop] at h5
  have h6 : A.length / 131 ≤ (k + 12) / 131 := Nat.div_le_div_right (by omega)
  have h7 := Nat.div_mul_le_self (k + 12) 131
  have h8 := Nat.lt_div_mul_add (a := k) (b := 64) (by omega)
  omega
end Go.Proofs.Ytgodoogmbdgeoaa
