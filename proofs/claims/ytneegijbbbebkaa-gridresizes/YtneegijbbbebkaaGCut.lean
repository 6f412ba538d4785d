/-
  Cut and Resize of the program. Conditions: lengths are such as memory bears.
-/
import Derived.Test.YtneegijbbbebkaaGCopy2
namespace Go.Proofs.Ytneegijbbbebkaa
open Go.RowKit Go.Shelf
set_option linter.unusedVariables false
set_option maxRecDepth 100000

/-- Why there may not be so many bytes. -/
def wgE (z a b : Int) : Int := if z < 1 ∨ 256 < z then 2 else if 65536 < max a b * z then 3 else 0
theorem wgE_zero {z a b : Int} (h : wgE z a b = 0) : 1 ≤ z ∧ z ≤ 256 ∧ max a b * z ≤ 65536 := by
  unfold wgE at h
  split at h
  · omega
  · split at h
    · omega
    · rename_i h1 h2; exact ⟨by omega, by omega, by omega⟩
theorem weigh_any (z a b : Int) (w : World) (ha : 0 ≤ a) (hb : 0 ≤ b) (ha1 : a ≤ 1048576) (hb1 : b ≤ 1048576) : Calls Try.prog 46 #[.int .i64 z, .int .i64 a, .int .i64 b] w fun e w' => e = .returned (.int .i64 (wgE z a b)) ∧ w' = w := by
  by_cases h1 : z < 1
  · have e1 : decide (z < 1) = true := by simpa using h1
    have HV : Hid (wgE z a b = 2) := by rw [Hid, wgE, if_pos (.inl h1)]
    go_enter Try.func46, Try.ntmps46
    go_wp2_with fail
    go_ret
    exact ⟨by rw [HV.out]; rfl, rfl⟩
  · have e1 : decide (z < 1) = false := by simpa using h1
    by_cases h2 : 256 < z
    · have e2 : decide (256 < z) = true := by simpa using h2
      have HV : Hid (wgE z a b = 2) := by rw [Hid, wgE, if_pos (.inr h2)]
      go_enter Try.func46, Try.ntmps46
      go_wp2_with fail
      go_ret
      exact ⟨by rw [HV.out]; rfl, rfl⟩
    · have e2 : decide (256 < z) = false := by simpa using h2
      obtain ⟨m, hm⟩ : ∃ m, max a b = m := ⟨_, rfl⟩
      have hm0 : 0 ≤ m := by omega
      have hm1 : m ≤ 1048576 := by omega
      have hmz0 : 0 ≤ m * z := Int.mul_nonneg hm0 (by omega)
      have hmz : m * z ≤ 1048576 * 256 := Int.mul_le_mul hm1 (by omega) (by omega) (by omega)
      have hw : IntKind.i64.wrap (m * z) = m * z := wrap_i64_in _ (by omega) (by omega)
      by_cases h3 : 65536 < m * z
      · have e3 : decide (65536 < m * z) = true := by simpa using h3
        have HV : Hid (wgE z a b = 3) := by rw [Hid, wgE, if_neg (by omega), hm, if_pos h3]
        go_enter Try.func46, Try.ntmps46
        go_wp2_with fail
        go_ret
        exact ⟨by rw [HV.out]; rfl, rfl⟩
      · have e3 : decide (65536 < m * z) = false := by simpa using h3
        have HV : Hid (wgE z a b = 0) := by rw [Hid, wgE, if_neg (by omega), hm, if_neg h3]
        go_enter Try.func46, Try.ntmps46
        go_wp2_with fail
        go_ret
        exact ⟨by rw [HV.out]; rfl, rfl⟩
theorem elN_bd (D : List Int) : 0 ≤ elN D ∧ elN D ≤ 1048576 := by
  unfold elN
  split
  · rename_i h
    exact ⟨prd_nonneg fun x hx => ((dims_of h.1).2 x hx).1, h.2⟩
  · omega
/-- Why dims, shape and size do not fit. -/
def fbE (D S : List Int) (z : Int) : Int := if fitE D S ≠ 0 then fitE D S else wgE z (elN D) (elN S)
def fbN (D S : List Int) (z n : Int) : Int := if fbE D S z = 0 then n else 0
set_option maxHeartbeats 4000000 in
theorem fitBytes_any (D S : List Int) (vd vs : Value) (z : Int) (w : World) (hD : Is w vd D) (hS : Is w vs S) : Calls Try.prog 37 #[.int .i64 z, vd, vs] w fun e w' => e = .returned (.tuple #[.int .i64 (fbN D S z (elN D)), .int .i64 (fbN D S z (elN S)), .int .i64 (fbE D S z)]) ∧ Below w.heap.size w w' := by
  have HFI : Hid _ := fit_any D S vd vs w hD hS
  obtain ⟨a1, m1, c1, rfl, _⟩ := hD.open
  obtain ⟨a2, m2, c2, rfl, _⟩ := hS.open
  obtain ⟨en, HEN⟩ : ∃ en, Hid (elN D = en) := ⟨_, rfl⟩
  obtain ⟨sn, HSN⟩ : ∃ sn, Hid (elN S = sn) := ⟨_, rfl⟩
  obtain ⟨fe, HFE⟩ : ∃ fe, Hid (fitE D S = fe) := ⟨_, rfl⟩
  have hb1 := elN_bd D
  have hb2 := elN_bd S
  rw [HEN.out] at hb1
  rw [HSN.out] at hb2
  by_cases h1 : fe = 0
  · have HF : Hid (fitN D S en = en ∧ fitN D S sn = sn) := by simp only [Hid, fitN, HFE.out, h1, if_pos, and_self]
    obtain ⟨we, HWE⟩ : ∃ we, Hid (wgE z en sn = we) := ⟨_, rfl⟩
    have HWG : Hid (∀ w, Calls Try.prog 46 #[.int .i64 z, .int .i64 en, .int .i64 sn] w fun e w' => e = .returned (.int .i64 we) ∧ w' = w) := fun w => by
      have := weigh_any z en sn w hb1.1 hb2.1 hb1.2 hb2.2
      rwa [HWE.out] at this
    have HV : Hid (fbE D S z = we) := by rw [Hid, fbE, HFE.out, h1, if_neg (by simp), HEN.out, HSN.out, HWE.out]
    rw [HFE.out, HEN.out, HSN.out, HF.out.1, HF.out.2] at HFI
    subst h1
    clear hD hS hb1 hb2
    by_cases h2 : we = 0
    · subst h2
      go_enter Try.func37, Try.ntmps37
      go_wp2_with (first
        | (go_at_call 31; refine Calls.mono HFI.out ?_; rintro e w1 ⟨rfl, hb1⟩; have HB1 : Hid (Below w.heap.size w w1) := hb1; clear hb1)
        | (go_at_call 46; refine Calls.mono (HWG.out _) ?_; rintro e w2 ⟨rfl, hw2⟩; obtain rfl := hw2.symm))
      go_ret3
      exact ⟨by rw [fbN, fbN, HV.out, HEN.out, HSN.out]; rfl, HB1.out⟩
    · have e2 : (we != 0) = true := by simpa using h2
      have HV2 : Hid (∀ x : Int, fbN D S z x = 0) := fun x => by rw [fbN, HV.out, if_neg h2]
      go_enter Try.func37, Try.ntmps37
      go_wp2_with (first
        | (go_at_call 31; refine Calls.mono HFI.out ?_; rintro e w1 ⟨rfl, hb1⟩; have HB1 : Hid (Below w.heap.size w w1) := hb1; clear hb1)
        | (go_at_call 46; refine Calls.mono (HWG.out _) ?_; rintro e w2 ⟨rfl, hw2⟩; obtain rfl := hw2.symm))
      go_ret3
      exact ⟨by rw [HV2.out, HV2.out, HV.out]; rfl, HB1.out⟩
  · have HV : Hid (fbE D S z = fe) := by rw [Hid, fbE, HFE.out, if_pos h1]
    have HV2 : Hid (∀ x : Int, fbN D S z x = 0) := fun x => by rw [fbN, HV.out, if_neg h1]
    have HF : Hid (∀ x, fitN D S x = 0) := fun x => by rw [fitN, HFE.out, if_neg h1]
    have e2 : (fe != 0) = true := by simpa using h1
    rw [HFE.out, HF.out, HF.out] at HFI
    clear hD hS hb1 hb2
    go_enter Try.func37, Try.ntmps37
    go_wp2_with (go_at_call 31; refine Calls.mono HFI.out ?_; rintro e w1 ⟨rfl, hb1⟩; have HB1 : Hid (Below w.heap.size w w1) := hb1; clear hb1)
    go_ret3
    exact ⟨by rw [HV2.out, HV2.out, HV.out]; rfl, HB1.out⟩
/-- What a clip is: a box within the chunk and within the extent. -/
theorem clip_box {D S C : List Int} {r : Nat} (hd : D.length = r) (hs : S.length = r) (hc : C.length = r) (pd : ∀ x ∈ D, 0 ≤ x) (ps : ∀ x ∈ S, 1 ≤ x) (pc : ∀ x ∈ C, 0 ≤ x) :
    BoxIn S (List.replicate r 0) (clB D S C) r ∧ BoxIn D (clS D S C) (clB D S C) r := by
  have h1 := clB_length D S C (by omega) (by omega)
  have h2 := clS_length D S C (by omega) (by omega)
  have key : ∀ (i : Nat) a b, D[i]? = some a → S[i]? = some b → ∃ st bx, (clS D S C)[i]? = some st ∧ (clB D S C)[i]? = some bx ∧ 0 ≤ st ∧ 0 ≤ bx ∧ bx ≤ b ∧ st + bx ≤ a := fun i a b ha hb => by
    have hil := (List.getElem?_eq_some_iff.1 ha).1
    obtain ⟨c, hcc⟩ : ∃ c, C[i]? = some c := ⟨_, List.getElem?_eq_getElem (by omega)⟩
    have p1 := pd a (List.mem_of_getElem? ha)
    have p2 := ps b (List.mem_of_getElem? hb)
    have p3 := pc c (List.mem_of_getElem? hcc)
    have hbd := clip_bd (n := a) (s := b) (c := c) p1 p2 p3
    exact ⟨_, _, clS_at D S C i a b c ha hb hcc, clB_at D S C i a b c ha hb hcc, hbd.1, by omega, by omega, by omega⟩
  refine ⟨⟨hs, by simp, by omega, fun i a b c ha hb hcc => ?_⟩, ⟨hd, by omega, by omega, fun i a b c ha hb hcc => ?_⟩⟩
  · have hil := (List.getElem?_eq_some_iff.1 ha).1
    obtain ⟨st, bx, k1, k2, k3, k4, k5, k6⟩ := key i (D[i]'(by omega)) a (List.getElem?_eq_getElem (by omega)) ha
    rw [k2] at hcc
    obtain rfl := Option.some.inj hcc
    rw [List.getElem?_replicate, if_pos (by omega)] at hb
    obtain rfl := Option.some.inj hb
    omega
  · have hil := (List.getElem?_eq_some_iff.1 ha).1
    obtain ⟨st, bx, k1, k2, k3, k4, k5, k6⟩ := key i a (S[i]'(by omega)) ha (List.getElem?_eq_getElem (by omega))
    rw [k2] at hcc
    obtain rfl := Option.some.inj hcc
    rw [k1] at hb
    obtain rfl := Option.some.inj hb
    omega
theorem BoxIn.xnn {D S X : List Int} {r : Nat} (h : BoxIn D S X r) : ∀ y ∈ X, 0 ≤ y := fun y hy => by
  obtain ⟨i, hi⟩ := List.getElem?_of_mem hy
  have hl := (List.getElem?_eq_some_iff.1 hi).1
  exact (h.fit i _ _ y (List.getElem?_eq_getElem (by rw [h.d, ← h.x]; exact hl)) (List.getElem?_eq_getElem (by rw [h.s, ← h.x]; exact hl)) hi).2.1
end Go.Proofs.Ytneegijbbbebkaa
