/-
  What the law of covers asks of Clip and Of, in one form. Conditions: the extent and the shape fit.
-/
import Derived.Test.YtmefpnpfapochaaGCovC
namespace Go.Proofs.Ytmefpnpfapochaa
open Go.RowKit Go.Shelf
set_option linter.unusedVariables false
set_option maxRecDepth 100000

theorem clip_yes {D S C : List Int} {r : Nat} (vd vs vc : Value) (w : World) (hD : Is w vd D) (hS : Is w vs S) (hC : Is w vc C) (hfe : fitE D S = 0) (hr : D.length = r) (hc : C.length = r) (hnn : ∀ x ∈ C, 0 ≤ x) :
    Calls Try.prog 15 #[vd, vs, vc] w fun e w' => ∃ u uc v vc, e = .returned (.tuple #[.slice u r uc, .slice v r vc, .int .i64 0]) ∧ Is w' (.slice u r uc) (clS D S C) ∧ Is w' (.slice v r vc) (clB D S C) ∧ Below w.heap.size w w' := by
  have h0 : cpE D S C = 0 := by rw [cpE, if_neg (by omega), if_pos (okB_iff.2 ⟨by omega, hnn⟩)]
  have hs : S.length = D.length := (shB_iff.1 (fitE_zero hfe).2.1).1
  refine Calls.mono (clipX_any D S C vd vs vc w hD hS hC) ?_
  rintro e w' ⟨u, v, rfl, h1, h2, h3⟩
  rw [h0, if_pos rfl] at h1 h2
  obtain ⟨ua, un, uc, rfl, e1, _⟩ := h1.open
  obtain ⟨va, vn, vc, rfl, e2, _⟩ := h2.open
  rw [clS_length D S C hs (by omega)] at e1
  rw [clB_length D S C hs (by omega)] at e2
  obtain rfl : un = r := by omega
  obtain rfl : vn = un := by omega
  exact ⟨ua, uc, va, vc, by rw [h0], h1, h2, h3⟩
theorem of_yes {A S : List Int} {r : Nat} (va vs : Value) (w : World) (hA : Is w va A) (hS : Is w vs S) (hr : A.length = r) (hr4 : r ≤ 4) (hs : shB r S = true) (hnn : ∀ x ∈ A, 0 ≤ x) :
    Calls Try.prog 11 #[va, vs] w fun e w' => ∃ u uc v vc, e = .returned (.tuple #[.slice u r uc, .slice v r vc, .int .i64 0]) ∧ Is w' (.slice u r uc) (divL A S) ∧ Is w' (.slice v r vc) (modL A S) ∧ Below w.heap.size w w' := by
  have h0 : ofE A S = 0 := by rw [ofE, if_pos ⟨by omega, okB_iff.2 ⟨rfl, hnn⟩, by rw [hr]; exact hs⟩]
  have hsl := (shB_iff.1 hs).1
  refine Calls.mono (of_any A S va vs w hA hS) ?_
  rintro e w' ⟨u, v, rfl, h1, h2, h3⟩
  rw [h0, if_pos rfl] at h1 h2
  obtain ⟨ua, un, uc, rfl, e1, _⟩ := h1.open
  obtain ⟨va, vn, vc, rfl, e2, _⟩ := h2.open
  rw [divL_length hr hsl] at e1
  rw [modL_length hr hsl] at e2
  subst e1 e2
  exact ⟨ua, uc, va, vc, by rw [h0], h1, h2, h3⟩
theorem own_mod {a n : Int} (hn : 1 ≤ n) : (a.tmod n + n).tmod n = a % n ∧ -n < a.tmod n ∧ a.tmod n < n := by
  have h0 := Int.emod_nonneg a (show n ≠ 0 by omega)
  have h1 := Int.emod_lt_of_pos a (show 0 < n by omega)
  have h2 := Int.tmod_eq_emod (a := a) (b := n)
  have h3 : (n.natAbs : Int) = n := by omega
  have hz : a.tmod n = a % n ∨ a.tmod n = a % n - n := by
    rw [h2]
    split
    · left; omega
    · right; omega
  have hlo : -n < a.tmod n := by
    have := Int.lt_tmod_of_pos a (show 0 < n by omega)
    omega
  rcases hz with h | h
  · rw [h]
    refine ⟨?_, by omega, by omega⟩
    rw [Int.tmod_eq_emod_of_nonneg (by omega), Int.add_emod_right, Int.emod_emod_of_dvd _ (Int.dvd_refl n)]
  · rw [h] at hlo ⊢
    refine ⟨?_, by omega, by omega⟩
    rw [show a % n - n + n = a % n by omega, Int.tmod_eq_emod_of_nonneg h0, Int.emod_emod_of_dvd _ (Int.dvd_refl n)]
theorem own_at {A D S : List Int} {i : Nat} {a n s : Int} (ha : A[i]? = some a) (hn : D[i]? = some n) (hs : S[i]? = some s) (pn : 1 ≤ n) (ps : 1 ≤ s) :
    ∃ o c, (modL A D)[i]? = some o ∧ 0 ≤ o ∧ o < n ∧ (divL (modL A D) S)[i]? = some c ∧ (modL (modL A D) S)[i]? = some (o % s) ∧ (clS D S (divL (modL A D) S))[i]? = some (c * s) ∧ 0 ≤ o % s ∧ o = c * s + o % s ∧ ∃ b, (clB D S (divL (modL A D) S))[i]? = some b ∧ o % s < b := by
  have ho := modL_at ha hn
  have h0 := Int.emod_nonneg a (show n ≠ 0 by omega)
  have h1 := Int.emod_lt_of_pos a (show 0 < n by omega)
  have hc := divL_at ho hs
  have hm := modL_at ho hs
  obtain ⟨o, hoo⟩ : ∃ o, a % n = o := ⟨_, rfl⟩
  rw [hoo] at ho hc hm h0 h1
  have q0 := Int.emod_nonneg o (show s ≠ 0 by omega)
  have q1 := Int.emod_lt_of_pos o (show 0 < s by omega)
  have q2 : o / s * s + o % s = o := by rw [Int.mul_comm]; exact Int.mul_ediv_add_emod o s
  have q3 : o / s ≤ n / s := Int.ediv_le_ediv (by omega) (by omega)
  refine ⟨o, o / s, ho, h0, h1, hc, hm, ?_, q0, by omega, _, clB_at D S _ i n s _ hn hs hc, ?_⟩
  · rw [clS_at D S _ i n s _ hn hs hc, if_pos q3]
  · rw [if_pos q3]; omega
theorem nx_step {D S : List Int} {k K : Nat} {w w' : World} {g : Nat} {e : Ending} (hK : prdN (cntN D S) = K) (hp : ∀ x ∈ cntN D S, 0 < x) (hk : k < K) (h : NxP w g (cntN D S) (dig (cntN D S) k) e w') :
    ∃ b, e = .returned (.bool b) ∧ b = decide (k + 1 < K) ∧ (k + 1 < K → RI w' g (cdig D S (k + 1))) ∧ Kp (· = g) w w' := by
  obtain ⟨b, T, rfl, h1, h2, h3⟩ := h
  rw [inc_dig _ k hp (by rw [hK]; exact hk), hK] at h1
  refine ⟨b, rfl, ?_, fun hlt => ?_, h3⟩
  · by_cases hlt : k + 1 < K
    · rw [if_pos hlt] at h1
      cases b with
      | true => simp [hlt]
      | false => simp at h1
    · rw [if_neg hlt] at h1
      cases b with
      | true => simp at h1
      | false => simp [hlt]
  · rw [if_pos hlt] at h1
    cases b with
    | true =>
      simp only [if_true, Option.some.injEq] at h1
      rw [cdig, h1]; exact h2
    | false => simp at h1
end Go.Proofs.Ytmefpnpfapochaa
