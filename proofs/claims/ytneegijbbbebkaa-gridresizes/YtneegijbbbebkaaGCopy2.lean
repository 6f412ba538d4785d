/-
  copyBox, as a contract. Conditions: the box lies within both parts, which have at most 65536 bytes.
-/
import Derived.Test.YtneegijbbbebkaaGBox
namespace Go.Proofs.Ytneegijbbbebkaa
open Go.RowKit Go.Shelf
set_option linter.unusedVariables false
set_option maxRecDepth 100000

/-- What becomes of the bytes by a box. -/
def boxB (Dt St Df Sf x : List Int) (z : Nat) (X s : List Int) : List Int := boxF (rowF Dt St Df Sf x z (lenX X) X.length) X s
set_option maxHeartbeats 16000000 in
theorem copyBox_any (Dt St Df Sf s x X : List Int) (g cap sl xl xc r z : Nat) (xa : Option Addr) (vdt vst vdf vsf xv : Value) (w : World)
    (ht : BoxIn Dt St X r) (hf : BoxIn Df Sf X r) (hr4 : r ≤ 4) (hX0 : ∀ y ∈ X, 0 ≤ y) (q1 : prd Dt ≤ 1048576) (q2 : prd Df ≤ 1048576)
    (hs : s.length = sl) (hx : x.length = xl) (hsl : (sl : Int) = prd Dt * z) (hxl : (xl : Int) = prd Df * z) (hs6 : sl ≤ 65536) (hx6 : xl ≤ 65536) (hz1 : 1 ≤ z) (hz2 : z ≤ 256) (hcap : sl ≤ cap) (hxc : xl ≤ xc)
    (hD : Dst w g s) (k1 : ∀ w', Kp (fun y => y = g) w w' → Is w' vdt Dt ∧ Is w' vst St ∧ Is w' vdf Df ∧ Is w' vsf Sf ∧ Is w' xv X ∧ Bs w' (.slice xa xl xc) x) :
    Calls Try.prog 39 #[.agg #[.slice (some ⟨g, 0, none⟩) sl cap, vdt, vst], .agg #[.slice xa xl xc, vdf, vsf], xv, .int .i64 (z : Int)] w (RsP w g (boxB Dt St Df Sf x z X s)) := by
  obtain ⟨j1, j2, j3, j4, j5, j6⟩ := k1 w (Kp.refl _ _)
  obtain ⟨d1, m1, c1, rfl, e1, _, _⟩ := j1.open
  obtain ⟨d2, m2, c2, rfl, e2, _, _⟩ := j2.open
  obtain ⟨d3, m3, c3, rfl, e3, _, _⟩ := j3.open
  obtain ⟨d4, m4, c4, rfl, e4, _, _⟩ := j4.open
  obtain ⟨d5, m5, c5, rfl, e5, _, _⟩ := j5.open
  obtain ⟨w1, hw1, b1, s1, t0, t1, t2⟩ := box_part w (.slice (some ⟨g, 0, none⟩) sl cap) (.slice d1 m1 c1) (.slice d2 m2 c2)
  obtain ⟨w2, hw2, b2, s2, f0, f1, f2⟩ := box_part w1 (.slice xa xl xc) (.slice d3 m3 c3) (.slice d4 m4 c4)
  obtain ⟨w3, hw3, o3, b3, s3⟩ := oc_new w2 (.int .i64 (z : Int)) 3
  have HB3 : Hid (Below w.heap.size w w3) := (b1.trans (b2.mono b1.size)).trans (b3.mono (Nat.le_trans b1.size b2.size))
  have hgl := hD.lt
  have HK : Hid (∀ w', Kp (fun y => y = g) w3 w' → Kp (fun y => y = g) w w') := fun w' h => (Kp.of HB3.out).trans h (fun _ _ e => e)
  have b23 : Below w1.heap.size w1 w3 := b2.trans (b3.mono b2.size)
  have HC : Hid (∀ w', Kp (fun y => y = g) w3 w' → w'.cell? ⟨w2.heap.size, 0, none⟩ = some (.int .i64 (z : Int)) ∧ w'.cell? ⟨w.heap.size, 0, none⟩ = some (.slice (some ⟨g, 0, none⟩) sl cap) ∧ w'.cell? ⟨w.heap.size, 1, none⟩ = some (.slice d1 m1 c1) ∧ w'.cell? ⟨w.heap.size, 2, none⟩ = some (.slice d2 m2 c2) ∧ w'.cell? ⟨w1.heap.size, 0, none⟩ = some (.slice xa xl xc) ∧ w'.cell? ⟨w1.heap.size, 1, none⟩ = some (.slice d3 m3 c3) ∧ w'.cell? ⟨w1.heap.size, 2, none⟩ = some (.slice d4 m4 c4)) := fun w' h => by
    refine ⟨h.cell o3.cell (by simp; omega), h.cell ((b23.cell (World.block_lt_of_cell? _ _ t0)).trans t0) (by simp; omega), h.cell ((b23.cell (World.block_lt_of_cell? _ _ t1)).trans t1) (by simp; omega), h.cell ((b23.cell (World.block_lt_of_cell? _ _ t2)).trans t2) (by simp; omega), h.cell ((b3.cell (World.block_lt_of_cell? _ _ f0)).trans f0) (by simp; omega), h.cell ((b3.cell (World.block_lt_of_cell? _ _ f1)).trans f1) (by simp; omega), h.cell ((b3.cell (World.block_lt_of_cell? _ _ f2)).trans f2) (by simp; omega)⟩
  have HR : Hid (Calls Try.prog 53 #[.slice d5 m5 c5, .func (.func 54) #[] #[.pointer (some ⟨w2.heap.size, 0, none⟩), .pointer (some ⟨w.heap.size, 0, none⟩), .pointer (some ⟨w1.heap.size, 0, none⟩)]] w3 (RsP w3 g (boxB Dt St Df Sf x z X s))) := by
    refine rows_any (rowF Dt St Df Sf x z (lenX X) X.length) X s r sl g w2.heap.size w.heap.size w1.heap.size _ w3 ?_ (fun w' h => (k1 w' (HK.out w' h)).2.2.2.2.1) ht.x hr4 hX0 (hD.below HB3.out) hs ?_
    · intro h0 p s' hs' hp hb
      rw [ht.x]
      exact rowF_len ht hf hX0 hs' hsl (by rw [hx]; exact hxl) hp hb h0
    · intro w' gt p T s' hk hgt hT hTp hp hb h0 hD' hs'
      rw [ht.x]
      obtain ⟨u1, u2, u3, u4, u5, u6, u7⟩ := HC.out w' hk
      obtain ⟨v1, v2, v3, v4, v5, v6⟩ := k1 w' (HK.out w' hk)
      obtain ⟨i1, a1, a2, a3⟩ := row_in ht hp hb h0 hX0
      obtain ⟨i2, b1', b2', b3'⟩ := row_in hf hp hb h0 hX0
      have hTe := tp_eq hTp hp
      have hTl := hTp.len
      have hpr : 1 ≤ prd Df := by omega
      have hxp : 0 < x.length := by
        have h9 := Int.mul_le_mul_of_nonneg_right hpr (show (0 : Int) ≤ (z : Int) by omega)
        rw [← hxl] at h9
        omega
      obtain ⟨b0, o0, cap', ee, _, _⟩ := v6.opened hxp
      injection ee with ee1 ee2 ee3
      subst ee1
      have hIT : Is w' (.slice (some ⟨gt, 0, none⟩) r r) T := by
        have := hT.is (by rw [hTl]; omega) (fun y hy => by
          obtain ⟨i, hi⟩ := List.getElem?_of_mem hy
          rw [hTe] at hi
          have hil : i < r := by have := (List.getElem?_eq_some_iff.1 hi).1; rw [tpl_len hp] at this; exact this
          rcases hp with hp' | ⟨rfl, rfl⟩
          · rw [tpl_at hp'] at hi
            have h8 := inB_snoc hb hp' (lenX_at ht.x hp' hX0) (show (0 : Int) ≤ 0 by omega) (by omega)
            have h7 := h8 i y _ hi (List.getElem?_eq_getElem (by rw [ht.x]; exact hil))
            have h6 := v5.rng _ (List.getElem_mem (show i < X.length by rw [ht.x]; exact hil))
            exact ⟨by omega, by have := h6.2; omega⟩
          · omega)
        rwa [hTl] at this
      have hTn : ∀ y ∈ T, 0 ≤ y := fun y hy => by
        obtain ⟨i, hi⟩ := List.getElem?_of_mem hy
        rw [hTe] at hi
        have hil : i < r := by have := (List.getElem?_eq_some_iff.1 hi).1; rw [tpl_len hp] at this; exact this
        rcases hp with hp' | ⟨rfl, rfl⟩
        · rw [tpl_at hp'] at hi
          have h8 := inB_snoc hb hp' (lenX_at ht.x hp' hX0) (show (0 : Int) ≤ 0 by omega) (by omega)
          exact (h8 i y _ hi (List.getElem?_eq_getElem (by rw [ht.x]; exact hil))).1
        · omega
      have e7 : ((plc Dt (addL St T)).toNat : Int) = plc Dt (addL St T) := by rw [hTe]; omega
      have e8 : ((plc Df (addL Sf T)).toNat : Int) = plc Df (addL Sf T) := by rw [hTe]; omega
      have h1 := Int.mul_le_mul_of_nonneg_right a2 (show (0 : Int) ≤ (z : Int) by omega)
      have h2 := Int.mul_le_mul_of_nonneg_right b2' (show (0 : Int) ≤ (z : Int) by omega)
      rw [← hTe, ← e7, ← hsl] at h1
      rw [← hTe, ← e8, ← hxl] at h2
      have h3 : ((plc Dt (addL St T)).toNat + lenX X) * z ≤ sl := by exact_mod_cast h1
      have h4 : ((plc Df (addL Sf T)).toNat + lenX X) * z ≤ xl := by exact_mod_cast h2
      have key := line_any Dt St Df Sf T s' x _ _ _ _ (some ⟨gt, 0, none⟩) r r w2.heap.size w.heap.size w1.heap.size g cap b0 o0 xc (lenX X) z r sl xl (plc Dt (addL St T)).toNat (plc Df (addL Sf T)).toNat w' u1 u2 u3 u4 u5 u6 u7 v1 v2 v3 v4 hIT ht.d ht.s hf.d hf.s hTl hTn ht.snn hf.snn (by rw [hTe]; exact i1) (by rw [hTe]; exact i2) q1 q2 e7.symm e8.symm hs' hx hs6 hx6 hcap hxc hD' v6 a3 hz1 hz2 h3 h4
      refine Calls.mono key ?_
      rintro e w'' ⟨r1, r2, r3⟩
      refine ⟨r1, ?_, r3⟩
      rw [rowF, ← hTe]
      exact r2
  obtain ⟨R, HRR⟩ : ∃ R, Hid (boxB Dt St Df Sf x z X s = R) := ⟨_, rfl⟩
  rw [HRR.out] at HR ⊢
  clear j1 j2 j3 j4 j5 j6 b1 b2 b3 s1 s2 s3 t0 t1 t2 f0 f1 f2 o3 b23 k1 ht hf hX0 hD hs hx hsl hxl e1 e2 e3 e4 e5 HC
  go_enter Try.func39, Try.ntmps39
  go_wp2_with (go_at_call 53; refine Calls.mono HR.out ?_; rintro e w4 ⟨rfl, hd4, hk4⟩; have HEND : Hid (Dst w4 g R ∧ Kp (fun y => y = g) w w4) := ⟨hd4, HK.out _ hk4⟩; clear hd4 hk4)
  go_end0
  exact ⟨rfl, HEND.out.1, HEND.out.2⟩
end Go.Proofs.Ytneegijbbbebkaa
