/-
  copyBox: a box of elements from one part to another. Conditions: the box lies within both.
-/
import Derived.Test.YtneegijbbbebkaaGRows
namespace Go.Proofs.Ytneegijbbbebkaa
open Go.RowKit Go.Shelf
set_option linter.unusedVariables false
set_option maxRecDepth 100000

/-- A row's first tuple. -/
def tpl (r : Nat) (p : List Int) : List Int := p ++ List.replicate (r - p.length) 0
theorem tp_eq {r : Nat} {p T : List Int} (h : Tp r p.length p T) (hp : p.length + 1 = r ∨ (p = [] ∧ r = 0)) : T = tpl r p := by
  rcases hp with hp | ⟨rfl, rfl⟩
  · have h1 : T = T.take p.length ++ T.drop p.length := (List.take_append_drop _ _).symm
    rw [h1, h.pre, tpl, show r - p.length = 1 by omega]
    congr 1
    have h2 := h.last p.length (by omega) (by omega)
    have h3 : (T.drop p.length).length = 1 := by rw [List.length_drop, h.len]; omega
    match hq : T.drop p.length, h3 with
    | [y], _ =>
      have h4 : (T.drop p.length)[0]? = T[p.length]? := by rw [List.getElem?_drop]; rfl
      rw [hq, h2] at h4
      obtain rfl : y = 0 := by simpa using h4
      rfl
  · have := h.len
    rw [List.eq_nil_of_length_eq_zero this]; rfl
/-- A box lies within a part of an extent. -/
structure BoxIn (D S X : List Int) (r : Nat) : Prop where
  d : D.length = r
  s : S.length = r
  x : X.length = r
  fit : ∀ (i : Nat) (a b c : Int), D[i]? = some a → S[i]? = some b → X[i]? = some c → 0 ≤ b ∧ 0 ≤ c ∧ b + c ≤ a
theorem BoxIn.ins {D S X : List Int} {r : Nat} (h : BoxIn D S X r) {t : List Int} (hl : t.length = r) (ht : InB X t) : Ins2 D (addL S t) := by
  refine ⟨by rw [addL_length h.s hl, h.d], fun i x n hx hn => ?_⟩
  have hi : i < r := by rw [← h.d]; exact (List.getElem?_eq_some_iff.1 hn).1
  obtain ⟨b, hb⟩ : ∃ b, S[i]? = some b := ⟨_, List.getElem?_eq_getElem (by rw [h.s]; exact hi)⟩
  obtain ⟨c, hc⟩ : ∃ c, X[i]? = some c := ⟨_, List.getElem?_eq_getElem (by rw [h.x]; exact hi)⟩
  obtain ⟨y, hy⟩ : ∃ y, t[i]? = some y := ⟨_, List.getElem?_eq_getElem (by rw [hl]; exact hi)⟩
  rw [addL_at hb hy] at hx
  obtain rfl : b + y = x := by simpa using hx
  have h1 := h.fit i n b c hn hb hc
  have h2 := ht i y c hy hc
  omega
theorem BoxIn.snn {D S X : List Int} {r : Nat} (h : BoxIn D S X r) : ∀ y ∈ S, 0 ≤ y := fun y hy => by
  obtain ⟨i, hi⟩ := List.getElem?_of_mem hy
  have hl := (List.getElem?_eq_some_iff.1 hi).1
  exact (h.fit i _ y _ (List.getElem?_eq_getElem (by rw [h.d, ← h.s]; exact hl)) hi (List.getElem?_eq_getElem (by rw [h.x, ← h.s]; exact hl))).1
theorem tpl_len {r : Nat} {p : List Int} (hp : p.length + 1 = r ∨ (p = [] ∧ r = 0)) : (tpl r p).length = r := by
  rcases hp with hp | ⟨rfl, rfl⟩
  · simp [tpl]; omega
  · rfl
theorem tpl_at {r : Nat} {p : List Int} (hp : p.length + 1 = r) : tpl r p = p ++ [0] := by
  rw [tpl, show r - p.length = 1 by omega]; rfl
theorem snoc_of {D : List Int} {n : Nat} (h : D.length = n + 1) : ∃ D' m, D = D' ++ [m] ∧ D'.length = n := by
  refine ⟨D.take n, D[n]'(by omega), ?_, by simp; omega⟩
  have h1 := List.take_append_drop n D
  have h2 : D.drop n = [D[n]'(by omega)] := by rw [List.drop_eq_getElem_cons (by omega), List.drop_of_length_le (by omega)]
  rw [h2] at h1; exact h1.symm
theorem addL_snoc {S p : List Int} {s k : Int} (h : S.length = p.length) : addL (S ++ [s]) (p ++ [k]) = addL S p ++ [s + k] := by
  rw [addL, List.zipWith_append h]; rfl
/-- The last number along a row is a step. -/
theorem plc_row {D S p : List Int} {r : Nat} (hd : D.length = r) (hs : S.length = r) (hp : p.length + 1 = r) (k : Int) : plc D (addL S (p ++ [k])) = plc D (addL S (p ++ [0])) + k := by
  obtain ⟨D', m, rfl, hd'⟩ := snoc_of (hd.trans hp.symm)
  obtain ⟨S', sv, rfl, hs'⟩ := snoc_of (hs.trans hp.symm)
  have hl : (addL S' p).length = D'.length := by rw [addL, List.length_zipWith]; omega
  rw [addL_snoc hs', addL_snoc hs']
  unfold plc
  rw [placeZ_snoc _ _ _ _ _ hl, placeZ_snoc _ _ _ _ _ hl]
  omega
theorem lenX_at {X p : List Int} {r : Nat} (hx : X.length = r) (hp : p.length + 1 = r) (h0 : ∀ x ∈ X, 0 ≤ x) : X[p.length]? = some (lenX X : Int) := by
  have hl : p.length < X.length := by omega
  have h1 : X.getLast? = some (X[p.length]'hl) := by
    rw [List.getLast?_eq_getElem?, show X.length - 1 = p.length by omega]; exact List.getElem?_eq_getElem hl
  rw [List.getElem?_eq_getElem hl, lenX, h1]
  have := h0 _ (List.getElem_mem hl)
  simp only []
  congr 1
  omega
theorem inB_snoc {X p : List Int} {r : Nat} {k c : Int} (h : InB X p) (hp : p.length + 1 = r) (hc : X[p.length]? = some c) (h0 : 0 ≤ k) (hk : k < c) : InB X (p ++ [k]) := fun i x y hx hy => by
  rcases Nat.lt_or_ge i p.length with h1 | h1
  · rw [List.getElem?_append_left h1] at hx
    exact h i x y hx hy
  · have hi : i = p.length := by
      have := (List.getElem?_eq_some_iff.1 hx).1
      simp at this
      omega
    subst hi
    rw [List.getElem?_append_right (Nat.le_refl _), Nat.sub_self] at hx
    obtain rfl : k = x := by simpa using hx
    rw [hc] at hy
    obtain rfl : c = y := by simpa using hy
    exact ⟨h0, hk⟩
/-- A row lies inside. -/
theorem row_in {D S X p : List Int} {r : Nat} (h : BoxIn D S X r) (hp : p.length + 1 = r ∨ (p = [] ∧ r = 0)) (hb : InB X p) (h0 : (0 : Int) ∉ X) (hX0 : ∀ x ∈ X, 0 ≤ x) :
    Ins2 D (addL S (tpl r p)) ∧ 0 ≤ plc D (addL S (tpl r p)) ∧ plc D (addL S (tpl r p)) + (lenX X : Int) ≤ prd D ∧ 1 ≤ lenX X := by
  rcases hp with hp | ⟨rfl, rfl⟩
  · have hc := lenX_at h.x hp hX0
    have hc1 : (lenX X : Int) ≠ 0 := fun e => h0 (by rw [e] at hc; exact List.mem_of_getElem? hc)
    have hi0 := h.ins (t := p ++ [0]) (by simp; omega) (inB_snoc hb hp hc (by omega) (by omega))
    have hi1 := h.ins (t := p ++ [(lenX X : Int) - 1]) (by simp; omega) (inB_snoc hb hp hc (by omega) (by omega))
    have h1 := plc_in hi1
    rw [plc_row h.d h.s hp] at h1
    rw [tpl_at hp]
    exact ⟨hi0, (plc_in hi0).1, by omega, by omega⟩
  · have hD : D = [] := List.eq_nil_of_length_eq_zero h.d
    have hS : S = [] := List.eq_nil_of_length_eq_zero h.s
    have hX : X = [] := List.eq_nil_of_length_eq_zero h.x
    subst hD hS hX
    exact ⟨⟨rfl, fun i x n hx => by simp [addL] at hx⟩, by decide, by decide, by decide⟩
/-- What becomes of the bytes by one row. -/
def rowF (Dt St Df Sf x : List Int) (z n r : Nat) (p s : List Int) : List Int := cpy s ((x.drop ((plc Df (addL Sf (tpl r p))).toNat * z)).take (n * z)) ((plc Dt (addL St (tpl r p))).toNat * z)
theorem rowF_len {Dt St Df Sf x p s X : List Int} {z r sl : Nat} (ht : BoxIn Dt St X r) (hf : BoxIn Df Sf X r) (hX0 : ∀ y ∈ X, 0 ≤ y) (hs : s.length = sl) (hsl : (sl : Int) = prd Dt * z) (hx : (x.length : Int) = prd Df * z) (hp : p.length + 1 = r ∨ (p = [] ∧ r = 0)) (hb : InB X p) (h0 : (0 : Int) ∉ X) : (rowF Dt St Df Sf x z (lenX X) r p s).length = sl := by
  obtain ⟨_, a1, a2, _⟩ := row_in ht hp hb h0 hX0
  obtain ⟨_, b1, b2, _⟩ := row_in hf hp hb h0 hX0
  have h1 := Int.mul_le_mul_of_nonneg_right a2 (show (0 : Int) ≤ z by omega)
  have h2 := Int.mul_le_mul_of_nonneg_right b2 (show (0 : Int) ≤ z by omega)
  rw [Int.add_mul] at h1 h2
  have e1 : ((plc Dt (addL St (tpl r p))).toNat : Int) = plc Dt (addL St (tpl r p)) := by omega
  have e2 : ((plc Df (addL Sf (tpl r p))).toNat : Int) = plc Df (addL Sf (tpl r p)) := by omega
  rw [← e1] at h1
  rw [← e2] at h2
  generalize hA : (plc Dt (addL St (tpl r p))).toNat = A at *
  generalize hB : (plc Df (addL Sf (tpl r p))).toNat = B at *
  rw [← hsl] at h1
  rw [← hx] at h2
  have h3 : A * z + lenX X * z ≤ sl := by exact_mod_cast h1
  have h4 : B * z + lenX X * z ≤ x.length := by exact_mod_cast h2
  rw [rowF, hA, hB]
  rw [cpy_len, hs]
  rw [List.length_take, List.length_drop, hs]
  omega
end Go.Proofs.Ytneegijbbbebkaa
