/-
  What the document's Check comes to, in plain words. No conditions.
-/
import Derived.Test.YtnikbcljonbpcaaSRefT
namespace Go.Proofs.Ytnikbcljonbpcaa
open Go.RowKit Go.Shelf
set_option linter.unusedVariables false
set_option maxRecDepth 100000

theorem chk_el {D : List Int} {s : Sel} (h : elE D ≠ 0) : slE D s = elE D := by rw [slE, if_pos h]
theorem chk_no {D : List Int} {s : Sel} (h : elE D = 0) (hm : mayS D.length s = false) : slE D s = 2 := by
  rw [slE, if_neg (by rw [h]; simp)]
  unfold mayS at hm
  by_cases k1 : s.kind = 1
  · rw [if_pos k1] at hm; cases hm
  · rw [if_neg k1] at hm ⊢
    by_cases k2 : s.kind = 2
    · rw [if_pos k2] at hm ⊢
      rw [ptE, if_pos hm]
    · rw [if_neg k2] at hm ⊢
      by_cases k3 : s.kind = 3
      · rw [if_pos k3] at hm ⊢
        rw [if_neg (by rw [hm]; simp)]
      · rw [if_neg k3]
theorem chk_1 {D : List Int} {s : Sel} (h : elE D = 0) (k1 : s.kind = 1) : slE D s = if slN D s ≤ 4096 then 0 else 18 := by
  have h9 : slN D s = prd D := by rw [slN, if_neg (by omega), axA, if_pos k1, whole_prd]
  rw [slE, if_neg (by rw [h]; simp), if_pos k1, whole_err fun x hx => ((dims_of (elE_ok h).1).2 x hx).1, h9]
theorem chk_2 {D : List Int} {s : Sel} (h : elE D = 0) (hm : mayS D.length s = true) (k2 : s.kind = 2) : slE D s = if s.pts.any (outB D) = true then 17 else if slN D s ≤ 4096 then 0 else 18 := by
  rw [mayS, if_neg (by omega), if_pos k2] at hm
  rw [slE, if_neg (by rw [h]; simp), if_neg (by omega), if_pos k2, ptE, if_neg (by rw [hm]; simp), slN, if_pos k2]
  by_cases hl : s.pts.length ≤ 4096
  · rw [if_pos hl, if_pos (show ((s.pts.length : Nat) : Int) ≤ 4096 by omega)]
  · rw [if_neg hl, if_neg (show ¬ ((s.pts.length : Nat) : Int) ≤ 4096 by omega)]
theorem chk_2_bad {D : List Int} {s : Sel} (h : elE D = 0) (hm : mayS D.length s = true) (k2 : s.kind = 2) {i k : Nat} {t : List Int} {x n : Int} (hk : s.pts[k]? = some t) (hx : t[i]? = some x) (hn : D[i]? = some n) (hle : n ≤ x) : slE D s = 17 := by
  rw [chk_2 h hm k2, if_pos]
  rw [List.any_eq_true]
  refine ⟨t, List.mem_of_getElem? hk, ?_⟩
  rw [outB, List.any_eq_true]
  exact ⟨(n, x), List.mem_of_getElem? (i := i) (by rw [List.getElem?_zip_eq_some]; exact ⟨hn, hx⟩), by simpa using hle⟩
theorem chk_2_good {D : List Int} {s : Sel} (h : elE D = 0) (hm : mayS D.length s = true) (k2 : s.kind = 2) (hg : ∀ (i k : Nat) (t : List Int) (x n : Int), s.pts[k]? = some t → t[i]? = some x → D[i]? = some n → x < n) : slE D s = if slN D s ≤ 4096 then 0 else 18 := by
  rw [chk_2 h hm k2, if_neg]
  intro ha
  rw [List.any_eq_true] at ha
  obtain ⟨t, ht, ho⟩ := ha
  rw [outB, List.any_eq_true] at ho
  obtain ⟨⟨n, x⟩, hz, hle⟩ := ho
  obtain ⟨k, hk⟩ := List.getElem?_of_mem ht
  obtain ⟨i, hi⟩ := List.getElem?_of_mem hz
  rw [List.getElem?_zip_eq_some] at hi
  have := hg i k t x n hk hi.2 hi.1
  simp at hle
  omega
theorem chk_3 {D : List Int} {s : Sel} (h : elE D = 0) (hm : mayS D.length s = true) (k3 : s.kind = 3) : slE D s = axE D (slabA s.st s.sd s.ct s.bl) := by
  rw [mayS, if_neg (by omega), if_neg (by omega), if_pos k3] at hm
  rw [slE, if_neg (by rw [h]; simp), if_neg (by omega), if_neg (by omega), if_pos k3, if_pos hm]
theorem chk_3_bad {D : List Int} {s : Sel} (h : elE D = 0) (hm : mayS D.length s = true) (k3 : s.kind = 3) {i : Nat} {n : Int} {a : Ax} (hz : slN D s ≠ 0) (ha : (slabA s.st s.sd s.ct s.bl)[i]? = some a) (hn : D[i]? = some n) (hf : fitB n a = false) : slE D s = 17 := by
  have hz' : prd (cnts (slabA s.st s.sd s.ct s.bl)) ≠ 0 := by
    rw [slN, if_neg (by omega), axA, if_neg (by omega)] at hz; exact hz
  rw [chk_3 h hm k3, axE, if_pos]
  refine ⟨hz', ?_⟩
  rw [fitsB, List.all_eq_false]
  exact ⟨(n, a), List.mem_of_getElem? (i := i) (by rw [List.getElem?_zip_eq_some]; exact ⟨hn, ha⟩), by simp [hf]⟩
theorem chk_3_good {D : List Int} {s : Sel} (h : elE D = 0) (hm : mayS D.length s = true) (k3 : s.kind = 3) (hg : slN D s = 0 ∨ ∀ (i : Nat) (n : Int) (a : Ax), (slabA s.st s.sd s.ct s.bl)[i]? = some a → D[i]? = some n → fitB n a = true) : slE D s = if slN D s ≤ 4096 then 0 else 18 := by
  have hs : slN D s = prd (cnts (slabA s.st s.sd s.ct s.bl)) := by rw [slN, if_neg (by omega), axA, if_neg (by omega)]
  rw [chk_3 h hm k3, axE, if_neg, hs]
  rintro ⟨hz, hf⟩
  rcases hg with hg | hg
  · exact hz (by rw [← hs]; exact hg)
  · rw [fitsB, List.all_eq_false] at hf
    obtain ⟨⟨n, a⟩, hm, hf⟩ := hf
    obtain ⟨i, hi⟩ := List.getElem?_of_mem hm
    rw [List.getElem?_zip_eq_some] at hi
    exact hf (hg i n a hi.2 hi.1)
theorem slN_nonneg {w : World} {V : SV} {D : List Int} {s : Sel} (hS : Ss w V s) (h : elE D = 0) (hm : mayS D.length s = true) : 0 ≤ slN D s := by
  have hD := (dims_of (elE_ok h).1).2
  by_cases k2 : s.kind = 2
  · rw [slN, if_pos k2]; omega
  · rw [slN, if_neg k2, axA]
    by_cases k1 : s.kind = 1
    · rw [if_pos k1, whole_prd]
      exact prd_nonneg fun x hx => (hD x hx).1
    · rw [if_neg k1]
      by_cases k3 : s.kind = 3
      · rw [mayS, if_neg k1, if_neg k2, if_pos k3] at hm
        simp only [Bool.and_eq_true] at hm
        obtain ⟨⟨⟨o1, o2⟩, o3⟩, o4⟩ := hm
        have hok := slabA_ok s.st s.sd s.ct s.bl D.length (okB_iff.1 o1).1 (okB_iff.1 o2).1 (okB_iff.1 o3).1 (okB_iff.1 o4).1 (by
          rintro x (hx | hx | hx | hx)
          · exact ⟨(okB_iff.1 o1).2 x hx, (hS.a.rng x hx).2⟩
          · exact ⟨(okB_iff.1 o2).2 x hx, (hS.b.rng x hx).2⟩
          · exact ⟨(okB_iff.1 o3).2 x hx, (hS.c.rng x hx).2⟩
          · exact ⟨(okB_iff.1 o4).2 x hx, (hS.d.rng x hx).2⟩)
        refine prd_nonneg fun x hx => ?_
        obtain ⟨a, ha, e | e⟩ := cnts_mem hx
        · rw [e]; exact (hok a ha).c0
        · rw [e]; exact (hok a ha).b0
      · rw [mayS, if_neg k1, if_neg k2, if_neg k3] at hm; cases hm
end Go.Proofs.Ytnikbcljonbpcaa
