/-
  A box of elements, tuple by tuple. Conditions: the box lies within both parts.
-/
import Derived.Test.YtneegijbbbebkaaGTup
import Derived.Test.YtneegijbbbebkaaGRes
import Derived.Test.YtneegijbbbebkaaGBack
import Derived.Test.YtneegijbbbebkaaGGrow
namespace Go.Proofs.Ytneegijbbbebkaa
open Go.RowKit
set_option linter.unusedVariables false
set_option maxRecDepth 100000

/-- Does a tuple lie in a box? -/
def inbB : List Int → List Int → Bool
  | x :: X, u :: U => decide (0 ≤ u) && decide (u < x) && inbB X U
  | _, _ => true
theorem inbB_iff : ∀ {X U : List Int}, U.length = X.length → (inbB X U = true ↔ InB X U)
  | [], [], _ => ⟨fun _ i x y h => by simp at h, fun _ => rfl⟩
  | [], _ :: _, h => by simp at h
  | _ :: _, [], h => by simp at h
  | x :: X, u :: U, h => by
    rw [inbB, Bool.and_eq_true, Bool.and_eq_true, decide_eq_true_eq, decide_eq_true_eq, inbB_iff (X := X) (U := U) (by simpa using h)]
    constructor
    · rintro ⟨h1, h2⟩ i a b ha hb
      cases i with
      | zero =>
        obtain rfl : u = a := by simpa using ha
        obtain rfl : x = b := by simpa using hb
        exact h1
      | succ i => exact h2 i a b (by simpa using ha) (by simpa using hb)
    · intro hh
      exact ⟨hh 0 u x rfl rfl, fun i a b ha hb => hh (i + 1) a b (by simpa using ha) (by simpa using hb)⟩
/-- What a whole row adds. -/
theorem take_row {R y : List Int} {i z N : Nat} (hR : R.length = N * z) (hi : i < N) (hy : y.length = z) (h : ∀ k, k < z → R[i * z + k]? = y[k]?) : R.take ((i + 1) * z) = R.take (i * z) ++ y := by
  have hle : (i + 1) * z ≤ N * z := Nat.mul_le_mul_right _ hi
  rw [Nat.succ_mul] at hle
  have e : (R.drop (i * z)).take z = y := by
    refine List.ext_getElem? (fun k => ?_)
    rcases Nat.lt_or_ge k z with hk | hk
    · rw [List.getElem?_take_of_lt hk, List.getElem?_drop, h k hk]
    · rw [List.getElem?_eq_none (by rw [List.length_take]; omega), List.getElem?_eq_none (by omega)]
  rw [Nat.succ_mul, List.take_add, e]
theorem repL_at {fill : List Int} {z N K k : Nat} (hf : fill.length = z) (hK : K < N) (hk : k < z) : (repL N fill)[K * z + k]? = fill[k]? := by
  have h1 : repL N fill = repL K fill ++ (fill ++ repL (N - K - 1) fill) := by
    have h2 := repL_add K (1 + (N - K - 1)) fill
    rw [show K + (1 + (N - K - 1)) = N by omega] at h2
    rw [h2, repL_add 1, repL_one]
  have h3 : (repL K fill).length = K * z := by rw [repL_len, hf]
  rw [h1, List.getElem?_append_right (by omega), h3, show K * z + k - K * z = k by omega, List.getElem?_append_left (by omega)]
theorem mul_inj {a b z k l : Nat} (hk : k < z) (hl : l < z) (h : a * z + k = b * z + l) : a = b ∧ k = l := by
  have e1 : (a * z + k) / z = a := by rw [Nat.mul_comm, Nat.mul_add_div (by omega), Nat.div_eq_of_lt hk, Nat.add_zero]
  have e2 : (b * z + l) / z = b := by rw [Nat.mul_comm, Nat.mul_add_div (by omega), Nat.div_eq_of_lt hl, Nat.add_zero]
  have e3 : a = b := by rw [← e1, h, e2]
  subst e3
  exact ⟨rfl, by omega⟩
/-- A box laid over a fill: where the tuple lies within it, the source's element, else the fill. -/
theorem box_el {Dt Df Sf X x fill : List Int} {r z N : Nat} (ht : BoxIn Dt (List.replicate r 0) X r) (hf : BoxIn Df Sf X r) (hz : 1 ≤ z) (hx : (x.length : Int) = prd Df * z) (hfl : fill.length = z) (hd : ∀ y ∈ Dt, 0 ≤ y) (hN : prdN (dN Dt) = N) :
    (boxB Dt (List.replicate r 0) Df Sf x z X (repL N fill)).length = N * z ∧ ∀ K, K < N → ∃ t, tG Dt K = t ∧ t.length = r ∧ Ins2 Dt t ∧
      (inbB X t = true → Ins2 Df (addL Sf t) ∧ ∃ p : Nat, plc Df (addL Sf t) = (p : Int) ∧ (p + 1) * z ≤ x.length ∧ (boxB Dt (List.replicate r 0) Df Sf x z X (repL N fill)).take ((K + 1) * z) = (boxB Dt (List.replicate r 0) Df Sf x z X (repL N fill)).take (K * z) ++ (x.drop (p * z)).take z) ∧
      (inbB X t = false → (boxB Dt (List.replicate r 0) Df Sf x z X (repL N fill)).take ((K + 1) * z) = (boxB Dt (List.replicate r 0) Df Sf x z X (repL N fill)).take (K * z) ++ fill) := by
  have hP : prd Dt = (N : Int) := by rw [← prd_dN hd, hN]
  have lS : ((repL N fill).length : Int) = prd Dt * z := by rw [repL_len, hfl, hP, Int.natCast_mul]
  have wr := box_wr (z := z) ht hf rfl lS hx hz
  obtain ⟨R, hR⟩ : ∃ R, boxB Dt (List.replicate r 0) Df Sf x z X (repL N fill) = R := ⟨_, rfl⟩
  rw [hR] at wr ⊢
  have hRl : R.length = N * z := by rw [wr.len, repL_len, hfl]
  refine ⟨hRl, fun K hK => ?_⟩
  obtain ⟨hin, hpl⟩ := tG_plc hd (K := K) (by rw [hN]; exact hK)
  have htl : (tG Dt K).length = r := by rw [tG_length, ht.d]
  have hiff : inbB X (tG Dt K) = true ↔ InB X (tG Dt K) := inbB_iff (by rw [htl, ht.x])
  refine ⟨_, rfl, htl, hin, fun hb => ?_, fun hb => ?_⟩
  · have hb' := hiff.1 hb
    have hi2 := hf.ins htl hb'
    have hp := plc_in hi2
    obtain ⟨p, hpp⟩ : ∃ p : Nat, plc Df (addL Sf (tG Dt K)) = (p : Int) := ⟨(plc Df (addL Sf (tG Dt K))).toNat, by omega⟩
    have hpx : (p + 1) * z ≤ x.length := by
      have h1 := Int.mul_le_mul_of_nonneg_right (show (p : Int) + 1 ≤ prd Df by omega) (show (0 : Int) ≤ z by omega)
      rw [← hx] at h1
      exact_mod_cast h1
    refine ⟨hi2, p, hpp, hpx, take_row hRl hK (by rw [List.length_take, List.length_drop]; rw [Nat.succ_mul] at hpx; omega) (fun k hk => ?_)⟩
    have h1 := wr.yes (K * z + k) ⟨tG Dt K, k, htl, hb', hk, by rw [addL_zero htl, hpl]; rfl⟩ (tG Dt K) k htl hb' hk (by rw [addL_zero htl, hpl]; rfl)
    rw [h1, hpp, List.getElem?_take_of_lt hk, List.getElem?_drop]
    rfl
  · refine take_row hRl hK hfl (fun k hk => ?_)
    rw [wr.no (K * z + k) ?_, repL_at hfl hK hk]
    rintro ⟨u, l, hu, hbu, hl, he⟩
    have hiu := ht.ins hu hbu
    rw [addL_zero hu] at he hiu
    have hpu := plc_in hiu
    obtain ⟨h1, _⟩ := mul_inj hk hl he
    have e : u = tG Dt K := plc_inj hiu hin (by rw [hpl]; omega)
    rw [e] at hbu
    rw [hiff.2 hbu] at hb
    cases hb
/-- Where a tuple of a chunk lies: within the extent just where it lies in the chunk's part. -/
theorem in_clip {D S C t : List Int} {r : Nat} (hd : D.length = r) (hs : S.length = r) (hc : C.length = r) (ht : Ins2 S t) (hD : ∀ x ∈ D, 0 ≤ x) (hS : ∀ x ∈ S, 1 ≤ x) (hC : ∀ x ∈ C, 0 ≤ x) :
    (∀ (i : Nat) (n s c x : Int), D[i]? = some n → S[i]? = some s → C[i]? = some c → t[i]? = some x → (c ≤ n ∧ c * s + x < n → 0 ≤ x ∧ ∃ b, (clB D S C)[i]? = some b ∧ x < b ∧ (clS D S C)[i]? = some (c * s)) ∧ (¬ (c ≤ n ∧ c * s + x < n) → ∃ b, (clB D S C)[i]? = some b ∧ ¬ x < b)) := by
  intro i n s c x hn hs' hc' hx
  have h1 := clB_at D S C i n s c hn hs' hc'
  have h2 := clS_at D S C i n s c hn hs' hc'
  have h3 := ht.2 i x s hx hs'
  have hn0 := hD n (List.mem_of_getElem? hn)
  have hs1 := hS s (List.mem_of_getElem? hs')
  have hc0 := hC c (List.mem_of_getElem? hc')
  have h4 := Int.ediv_mul_le n (show s ≠ 0 by omega)
  have h5 := Int.lt_ediv_add_one_mul_self n (show 0 < s by omega)
  refine ⟨fun ⟨_, hlt⟩ => ?_, fun hno => ?_⟩
  · have hle : c ≤ n / s := by
      by_cases h : c ≤ n / s
      · exact h
      · have := Int.mul_le_mul_of_nonneg_right (show n / s + 1 ≤ c by omega) (show 0 ≤ s by omega)
        omega
    rw [if_pos hle] at h1 h2
    exact ⟨h3.1, _, h1, by omega, h2⟩
  · refine ⟨_, h1, ?_⟩
    by_cases hle : c ≤ n / s
    · rw [if_pos hle]
      have h6 := Int.mul_le_mul_of_nonneg_right hle (show 0 ≤ s by omega)
      have h7 : c * 1 ≤ c * s := Int.mul_le_mul_of_nonneg_left hs1 hc0
      rw [Int.mul_one] at h7
      have : ¬ c * s + x < n := fun h => hno ⟨by omega, h⟩
      omega
    · rw [if_neg hle]; omega
end Go.Proofs.Ytneegijbbbebkaa
