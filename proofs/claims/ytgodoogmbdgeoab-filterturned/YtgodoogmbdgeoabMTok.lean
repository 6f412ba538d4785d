/-
  Package match in plain words: tokens, what they make of bytes, and that the document's tokens of bytes make these bytes again. No conditions.
-/
import Derived.Test.YtgodoogmbdgeoabNums
namespace Go.Proofs.Ytgodoogmbdgeoab
set_option linter.unusedVariables false

/-- How many bytes from a place on are those d places ahead (f more are looked at, n are known). -/
def alkF (b : List Int) (p d : Nat) : Nat → Nat → Nat
  | 0, n => n
  | f + 1, n => if p + n < b.length ∧ b[p + n]? = b[p + n - d]? then alkF b p d f (n + 1) else n
def alk (b : List Int) (p d : Nat) : Nat := alkF b p d 131 0
theorem alkF_spec {b : List Int} {p d : Nat} : ∀ (f n : Nat), (∀ i, i < n → p + i < b.length ∧ b[p + i]? = b[p + i - d]?) → n ≤ alkF b p d f n ∧ alkF b p d f n ≤ n + f ∧ ∀ i, i < alkF b p d f n → p + i < b.length ∧ b[p + i]? = b[p + i - d]?
  | 0, n, h => ⟨Nat.le_refl _, Nat.le_refl _, h⟩
  | f + 1, n, h => by
    rw [alkF]
    split
    · rename_i hc
      obtain ⟨h1, h2, h3⟩ := alkF_spec f (n + 1) (fun i hi => by
        by_cases e : i = n
        · rw [e]; exact hc
        · exact h i (by omega))
      exact ⟨by omega, by omega, h3⟩
    · exact ⟨Nat.le_refl _, by omega, h⟩
theorem alk_spec (b : List Int) (p d : Nat) : alk b p d ≤ 131 ∧ ∀ i, i < alk b p d → p + i < b.length ∧ b[p + i]? = b[p + i - d]? := by
  obtain ⟨_, h2, h3⟩ := alkF_spec (b := b) (p := p) (d := d) 131 0 (fun i hi => by omega)
  exact ⟨by rw [alk]; omega, h3⟩
/-- The best copy at a place: how many bytes, and how far ahead. -/
def bstF (b : List Int) (p : Nat) : Nat → Nat × Nat
  | 0 => (0, 0)
  | k + 1 => if (bstF b p k).1 < alk b p (k + 1) then (alk b p (k + 1), k + 1) else bstF b p k
def bst (b : List Int) (p : Nat) : Nat × Nat := bstF b p (min 255 p)
theorem bstF_spec (b : List Int) (p : Nat) : ∀ k, ((bstF b p k).1 = 0 ∨ (1 ≤ (bstF b p k).2 ∧ (bstF b p k).2 ≤ k ∧ (bstF b p k).1 = alk b p (bstF b p k).2)) ∧ ∀ d, 1 ≤ d → d ≤ k → alk b p d ≤ (bstF b p k).1
  | 0 => ⟨.inl rfl, fun d h1 h2 => by omega⟩
  | k + 1 => by
    obtain ⟨h1, h2⟩ := bstF_spec b p k
    rw [bstF]
    split
    · rename_i hc
      refine ⟨.inr ⟨by omega, Nat.le_refl _, rfl⟩, fun d h3 h4 => ?_⟩
      by_cases e : d = k + 1
      · rw [e]; exact Nat.le_refl _
      · have := h2 d h3 (by omega)
        simp only []
        omega
    · rename_i hc
      refine ⟨?_, fun d h3 h4 => ?_⟩
      · rcases h1 with h | ⟨h3, h4, h5⟩
        · exact .inl h
        · exact .inr ⟨h3, by omega, h5⟩
      · by_cases e : d = k + 1
        · rw [e]; omega
        · exact h2 d h3 (by omega)
theorem bst_spec {b : List Int} {p : Nat} (h : 0 < (bst b p).1) : 1 ≤ (bst b p).2 ∧ (bst b p).2 ≤ 255 ∧ (bst b p).2 ≤ p ∧ (bst b p).1 ≤ 131 ∧ ∀ i, i < (bst b p).1 → p + i < b.length ∧ b[p + i]? = b[p + i - (bst b p).2]? := by
  rcases (bstF_spec b p (min 255 p)).1 with h0 | ⟨h1, h2, h3⟩
  · rw [bst] at h; omega
  · have hs := alk_spec b p (bst b p).2
    have e : (bst b p).1 = alk b p (bst b p).2 := h3
    rw [← e] at hs
    have h1' : 1 ≤ (bst b p).2 := h1
    have h2' : (bst b p).2 ≤ min 255 p := h2
    exact ⟨h1', by omega, by omega, hs.1, hs.2⟩
inductive Tok
  | run (l : List Int)
  | cp (n d : Nat)
/-- A token: bytes as they are, or a copy of what was told. -/
def Tok.byt : Tok → List Int
  | .run l => ((l.length : Int) - 1) :: l
  | .cp n d => [(n : Int) + 124, (d : Int)]
def cpOut (d : Nat) : Nat → List Int → List Int
  | 0, o => o
  | n + 1, o => cpOut d n (o ++ [o.getD (o.length - d) 0])
def Tok.app : Tok → List Int → List Int
  | .run l, o => o ++ l
  | .cp n d, o => cpOut d n o
def Tok.ok : Tok → List Int → Prop
  | .run l, _ => 1 ≤ l.length ∧ l.length ≤ 128
  | .cp n d, o => 4 ≤ n ∧ n ≤ 131 ∧ 1 ≤ d ∧ d ≤ 255 ∧ d ≤ o.length
theorem cpOut_len (d : Nat) : ∀ (n : Nat) (o : List Int), (cpOut d n o).length = o.length + n
  | 0, o => rfl
  | n + 1, o => by rw [cpOut, cpOut_len d n, List.length_append]; simp; omega
theorem Tok.app_len (t : Tok) (o : List Int) (h : t.ok o) : o.length + 1 ≤ (t.app o).length := by
  cases t with
  | run l => rw [Tok.app, List.length_append]; have := h.1; omega
  | cp n d => rw [Tok.app, cpOut_len]; have := h.1; omega
/-- What tokens make, and that each is one that may be. -/
def appAll (ts : List Tok) (o : List Int) : List Int := ts.foldl (fun o t => t.app o) o
def Good : List Tok → List Int → Prop
  | [], _ => True
  | t :: ts, o => t.ok o ∧ Good ts (t.app o)
theorem appAll_append (a b : List Tok) (o : List Int) : appAll (a ++ b) o = appAll b (appAll a o) := by rw [appAll, List.foldl_append]; rfl
theorem good_append : ∀ (a b : List Tok) (o : List Int), Good (a ++ b) o ↔ Good a o ∧ Good b (appAll a o)
  | [], b, o => by simp [Good, appAll]
  | t :: a, b, o => by
    rw [List.cons_append, Good, Good, good_append a b]
    exact ⟨fun ⟨h1, h2, h3⟩ => ⟨⟨h1, h2⟩, h3⟩, fun ⟨⟨h1, h2⟩, h3⟩ => ⟨h1, h2, h3⟩⟩
theorem appAll_len : ∀ (ts : List Tok) (o : List Int), Good ts o → o.length ≤ (appAll ts o).length
  | [], o, _ => Nat.le_refl _
  | t :: ts, o, h => by
    have h1 := t.app_len o h.1
    have h2 := appAll_len ts (t.app o) h.2
    have e : appAll (t :: ts) o = appAll ts (t.app o) := rfl
    rw [e]; omega
theorem take_at {b : List Int} {p : Nat} (h : p < b.length) : b.take (p + 1) = b.take p ++ [b.getD p 0] := by
  rw [List.take_add_one, List.getD, List.getElem?_eq_getElem h]; rfl
theorem cp_take {b : List Int} {d : Nat} (hd : 1 ≤ d) : ∀ (n p : Nat), d ≤ p → (∀ i, i < n → p + i < b.length ∧ b[p + i]? = b[p + i - d]?) → cpOut d n (b.take p) = b.take (p + n)
  | 0, p, _, _ => rfl
  | n + 1, p, hp, h => by
    have h0 := h 0 (by omega)
    have hl : (b.take p).length = p := by rw [List.length_take]; omega
    have e : (b.take p).getD ((b.take p).length - d) 0 = b.getD p 0 := by
      rw [hl, List.getD, List.getD, List.getElem?_take_of_lt (by omega)]
      have := h0.2
      rw [Nat.add_zero] at this
      rw [this]
    rw [cpOut, e, ← take_at (by have := h0.1; omega), cp_take hd n (p + 1) (by omega) (fun i hi => by
      have := h (i + 1) (by omega)
      rw [show p + 1 + i = p + (i + 1) by omega]
      exact this)]
    congr 1
    omega
def runT (l : List Int) : List Tok := if l = [] then [] else [.run l]
theorem runT_app (l o : List Int) : appAll (runT l) o = o ++ l := by
  unfold runT
  split
  · rename_i h; rw [h, List.append_nil]; rfl
  · rfl
theorem runT_good (l o : List Int) (h : l.length ≤ 128) : Good (runT l) o := by
  unfold runT
  split
  · exact True.intro
  · rename_i hl
    refine ⟨⟨?_, h⟩, True.intro⟩
    cases l with
    | nil => exact absurd rfl hl
    | cons => simp
/-- The document's tokens of bytes, from a place on, behind what is not told yet. -/
def tokF (b : List Int) : Nat → Nat → Nat → List Tok
  | 0, _, _ => []
  | f + 1, p, q =>
    if p < b.length then
      if 4 ≤ (bst b p).1 then runT ((b.take p).drop q) ++ .cp (bst b p).1 (bst b p).2 :: tokF b f (p + (bst b p).1) (p + (bst b p).1)
      else if p + 1 - q = 128 then runT ((b.take (p + 1)).drop q) ++ tokF b f (p + 1) (p + 1)
      else tokF b f (p + 1) q
    else runT (b.drop q)
theorem take_drop {b : List Int} {p q : Nat} (h : q ≤ p) : b.take q ++ (b.take p).drop q = b.take p := by
  have h1 := List.take_append_drop q (b.take p)
  rwa [List.take_take, Nat.min_eq_left h] at h1
theorem tok_all (b : List Int) : ∀ (f p q : Nat), q ≤ p → p ≤ b.length → p - q < 128 → b.length < f + p → appAll (tokF b f p q) (b.take q) = b ∧ Good (tokF b f p q) (b.take q)
  | 0, p, q, _, h, _, hf => by omega
  | f + 1, p, q, hq, hp, h128, hf => by
    rw [tokF]
    split
    · rename_i hlt
      split
      · rename_i h4
        obtain ⟨s1, s2, s3, s4, s5⟩ := bst_spec (b := b) (p := p) (by omega)
        have hpn : p + (bst b p).1 ≤ b.length := by
          have := (s5 ((bst b p).1 - 1) (by omega)).1
          omega
        have ha : appAll (runT ((b.take p).drop q)) (b.take q) = b.take p := by rw [runT_app, take_drop hq]
        have hl : (b.take p).length = p := by rw [List.length_take]; omega
        have hc : Tok.app (.cp (bst b p).1 (bst b p).2) (b.take p) = b.take (p + (bst b p).1) := cp_take s1 _ _ s3 s5
        obtain ⟨i1, i2⟩ := tok_all b f (p + (bst b p).1) (p + (bst b p).1) (Nat.le_refl _) hpn (by omega) (by omega)
        constructor
        · rw [appAll_append, ha]
          show appAll (tokF b f _ _) (Tok.app (.cp (bst b p).1 (bst b p).2) (b.take p)) = b
          rw [hc]
          exact i1
        · rw [good_append, ha]
          refine ⟨runT_good _ _ (by rw [List.length_drop, hl]; omega), ⟨⟨h4, s4, s1, s2, by rw [hl]; exact s3⟩, ?_⟩⟩
          rw [hc]
          exact i2
      · split
        · rename_i h5
          have ha : appAll (runT ((b.take (p + 1)).drop q)) (b.take q) = b.take (p + 1) := by rw [runT_app, take_drop (by omega)]
          have hl : (b.take (p + 1)).length = p + 1 := by rw [List.length_take]; omega
          obtain ⟨i1, i2⟩ := tok_all b f (p + 1) (p + 1) (Nat.le_refl _) hlt (by omega) (by omega)
          constructor
          · rw [appAll_append, ha]; exact i1
          · rw [good_append, ha]
            exact ⟨runT_good _ _ (by rw [List.length_drop, hl]; omega), i2⟩
        · rename_i h5
          exact tok_all b f (p + 1) q (by omega) hlt (by omega) (by omega)
    · rename_i hge
      have hpe : p = b.length := by omega
      refine ⟨by rw [runT_app, List.take_append_drop], runT_good _ _ (by rw [List.length_drop]; omega)⟩
/-- The tokens' bytes, read. -/
def decF (most : Nat) : Nat → List Int → List Int → List Int × Int
  | 0, _, o => (o, 0)
  | f + 1, [], o => (o, 0)
  | f + 1, k :: t, o =>
    if k < 128 then
      if (t.length : Int) ≤ k then ([], 5)
      else if most < (o ++ t.take (k.toNat + 1)).length then ([], 3) else decF most f (t.drop (k.toNat + 1)) (o ++ t.take (k.toNat + 1))
    else
      if t = [] ∨ t.headD 0 = 0 ∨ (o.length : Int) < t.headD 0 then ([], 5) else if most < (cpOut (t.headD 0).toNat (k.toNat - 124) o).length then ([], 3) else decF most f t.tail (cpOut (t.headD 0).toNat (k.toNat - 124) o)
/-- Tokens that may be are read as what they make, if there is room. -/
theorem dec_good (most : Nat) : ∀ (ts : List Tok) (f : Nat) (o : List Int), Good ts o → o.length ≤ most → ts.length < f → decF most f (ts.flatMap Tok.byt) o = if (appAll ts o).length ≤ most then (appAll ts o, 0) else ([], 3)
  | [], 0, _, _, _, hf => by simp at hf
  | [], f + 1, o, _, ho, _ => by
    show (o, (0 : Int)) = _
    rw [show appAll [] o = o from rfl, if_pos ho]
  | t :: ts, 0, _, _, _, hf => by simp at hf
  | t :: ts, f + 1, o, hg, ho, hf => by
    have h1 := t.app_len o hg.1
    have h2 := appAll_len ts (t.app o) hg.2
    have e : appAll (t :: ts) o = appAll ts (t.app o) := rfl
    have ih := fun h => dec_good most ts f (t.app o) hg.2 h (by simp at hf; omega)
    rw [e]
    cases t with
    | run l =>
      have hk := hg.1
      have e1 : ((l.length : Int) - 1).toNat + 1 = l.length := by have := hk.1; omega
      have e2 : (Tok.run l :: ts).flatMap Tok.byt = ((l.length : Int) - 1) :: (l ++ ts.flatMap Tok.byt) := by rw [List.flatMap_cons]; rfl
      rw [e2, decF, if_pos (by have := hk.2; omega), if_neg (by rw [List.length_append]; omega), e1, List.take_left' rfl, List.drop_left' rfl]
      by_cases hm : most < (o ++ l).length
      · rw [if_pos hm, if_neg]
        have : (Tok.app (.run l) o) = o ++ l := rfl
        rw [this] at h2 ⊢
        omega
      · rw [if_neg hm]
        exact ih (by show (o ++ l).length ≤ most; omega)
    | cp n d =>
      obtain ⟨k1, k2, k3, k4, k5⟩ := hg.1
      have e2 : (Tok.cp n d :: ts).flatMap Tok.byt = ((n : Int) + 124) :: (d : Int) :: ts.flatMap Tok.byt := by rw [List.flatMap_cons]; rfl
      have e3 : ((n : Int) + 124).toNat - 124 = n := by omega
      rw [e2, decF, if_neg (by omega), List.headD_cons, List.tail_cons, if_neg (by simp; omega), e3, show ((d : Int)).toNat = d from rfl]
      by_cases hm : most < (cpOut d n o).length
      · rw [if_pos hm, if_neg]
        have : (Tok.app (.cp n d) o) = cpOut d n o := rfl
        rw [this] at h2 ⊢
        omega
      · rw [if_neg hm]
        exact ih (by show (cpOut d n o).length ≤ most; omega)
end Go.Proofs.Ytgodoogmbdgeoab
