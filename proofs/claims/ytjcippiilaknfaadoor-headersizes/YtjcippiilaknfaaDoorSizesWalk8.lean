/-
  The walk of HeaderSizes. Conditions: none but what memory bears; the two listed variables stand.
-/
import Derived.Test.YtjcippiilaknfaaDoorERef
namespace Go.Proofs.YtjcippiilaknfaaDoor
open Go.RowKit
set_option linter.unusedVariables false
set_option maxRecDepth 100000

/-- It is true or false. -/
def HvS (t : Value) : Prop := ∃ b, t = .bool b
set_option maxHeartbeats 8000000 in
theorem headerSizes_walk (v0 : Value) (l : List Msg) (w : World) (hT : Tab w ∧ NoX w) (b0 : Ms w v0 l) (y0 : MOk l) (z0 : l.length ≤ 4398046510976) :
    Calls Tryd.prog 3 #[v0] w fun e w' => e = .returned (.bool true) ∧ Below w.heap.size w w' := by
  have HHV : Hid _ := heavy_any w v0 (.slice none 0 0) l [] b0 (by omega) (Xs.nil w) (by simp)
  have HSZ : Hid (∀ W, Below w.heap.size w W → Calls Tryd.prog 11 #[v0] W fun e w' => e = .returned (.tuple #[.int .i64 (szN l), .int .i64 (szErr l)]) ∧ Below w.heap.size w w') := fun W hW => (size_any W v0 l (b0.below hW) (by omega)).mono (by rintro e w' ⟨rfl, hb⟩; exact ⟨rfl, hW.trans (hb.mono hW.size)⟩)
  have HPL : Hid (∀ W, Below w.heap.size w W → Calls Tryd.prog 13 #[v0] W fun e w' => ∃ v', e = .returned v' ∧ Ms w' v' l ∧ Below w.heap.size w w') := fun W hW => (plain_any W v0 l (b0.below hW) z0).mono (by rintro e w' ⟨v', rfl, h1, hb⟩; exact ⟨v', rfl, h1, hW.trans (hb.mono hW.size)⟩)
  have HMY : Hid (∀ W v', Ms W v' l → Calls Tryd.prog 12 #[v'] W fun e w' => e = .returned (.int .i64 (szErr l)) ∧ w' = W) := fun W v' h => refMay8_any W v' l h (by omega)
  have HLV : Hid (∀ W, Below w.heap.size w W → Calls Tryd.prog 10 #[] W fun e w' => e = .returned (.bool true) ∧ Below w.heap.size w w') := fun W hW => (lives8_any W (hT.1.below hW) (hT.2.below hW)).mono (by rintro e w' ⟨rfl, hb⟩; exact ⟨rfl, hW.trans (hb.mono hW.size)⟩)
  obtain ⟨ao0, cap0, hv0, _⟩ := b0
  subst hv0
  obtain ⟨se, HSE⟩ : ∃ se, Hid (szErr l = se) := ⟨_, rfl⟩
  obtain ⟨sn, HSN⟩ : ∃ sn, Hid (szN l = sn) := ⟨_, rfl⟩
  obtain ⟨ln, HLN⟩ : ∃ ln, Hid (l.length = ln) := ⟨_, rfl⟩
  rw [HSE.out, HSN.out] at HSZ
  rw [HSE.out] at HMY
  have HST : Hid (se = 0 → ∀ W v', Below w.heap.size w W → Ms W v' l → Calls Tryd.prog 14 #[v'] W fun e w' => ∃ ao cap, e = .returned (.slice ao sn.toNat cap) ∧ Below w.heap.size w w') := by
    intro h W v' hW hM
    obtain ⟨h1, h2, h3⟩ := szErr_zero (l := l) (by rw [HSE.out]; exact h)
    have h4 := szOf_bd (l := l) (by rw [HSE.out]; exact h)
    refine (refStream_any W v' l hM h1 h2 h3).mono ?_
    rintro e w' ⟨v9, rfl, ho, hb⟩
    obtain ⟨ao, cap, hv9, _⟩ := ho.opened
    have h5 := strm_len l
    refine ⟨ao, cap, ?_, hW.trans (hb.mono hW.size)⟩
    rw [hv9, ← HSN.out, h4.1]
    congr 2
    omega
  have HS0 : Hid (se = 0 → 0 ≤ sn) := fun h => by have h4 := szOf_bd (l := l) (by rw [HSE.out]; exact h); rw [← HSN.out, h4.1]; exact h4.2.1
  have HSX : Hid (se ≠ 0 → sn = 0) := fun h => by rw [← HSN.out, szN, if_neg (by rw [HSE.out]; exact h)]
  rw [HLN.out] at HHV HSZ HPL z0 ⊢
  clear hT y0
  go_enter Tryd.func3, Tryd.ntmps3
  go_upto_region 1 with fail
  go_cut [12] (fun t wc => HvS t ∧ Hid (wc = w))
  case first =>
    go_wp2_with (go_at_call 9; refine Calls.mono HHV.out ?_; rintro e w1 ⟨bh, rfl, hw1⟩; obtain rfl := hw1.symm)
    all_goals go_meet
    all_goals exact ⟨⟨_, rfl⟩, rfl⟩
  case rest =>
    obtain ⟨⟨bh, rfl⟩, hwc⟩ := hcut
    obtain rfl := hwc.out
    clear hwc HHV
    cases bh with
    | true =>
      go_wp2_with (go_at_call 10; refine Calls.mono (HLV.out _ (Below.refl _ _)) ?_; rintro e w8 ⟨rfl, hb8⟩; have HB8 : Hid (Below wc.heap.size wc w8) := hb8; clear hb8)
      go_ret
      exact ⟨rfl, HB8.out⟩
    | false =>
      by_cases hse : se = 0
      · have HST' : Hid _ := HST.out hse
        obtain ⟨s9, rfl⟩ : ∃ s9 : Nat, sn = (s9 : Int) := ⟨sn.toNat, by have := HS0.out hse; omega⟩
        subst hse
        clear HST HS0 HSX
        go_wp2_with (first
          | (have hg := HB5; clear hg; go_at_call 10; refine Calls.mono (HLV.out _ HB5.out) ?_; rintro e w8 ⟨rfl, hb8⟩; have HB8 : Hid (Below wc.heap.size wc w8) := hb8; clear hb8)
          | (have hg := HB4; clear hg; go_at_call 14; refine Calls.mono (HST'.out _ v4 HB4.out HM4.out) ?_; rintro e w5 ⟨ao5, cap5, rfl, hb5⟩; have HB5 : Hid (Below wc.heap.size wc w5) := hb5; clear hb5)
          | (have hg := HB3; clear hg; go_at_call 13; refine Calls.mono (HPL.out _ HB3.out) ?_; rintro e w4 ⟨v4, rfl, hm4, hb4⟩; have HM4 : Hid (Ms w4 v4 l) := hm4; have HB4 : Hid (Below wc.heap.size wc w4) := hb4; clear hm4 hb4)
          | (have hg := HB2; clear hg; go_at_call 12; refine Calls.mono (HMY.out _ v2 HM2.out) ?_; rintro e w3 ⟨rfl, hw3⟩; obtain rfl := hw3.symm; have HB3 : Hid (Below wc.heap.size wc w2) := HB2.out)
          | (have hg := HB1; clear hg; go_at_call 13; refine Calls.mono (HPL.out _ HB1.out) ?_; rintro e w2 ⟨v2, rfl, hm2, hb2⟩; have HM2 : Hid (Ms w2 v2 l) := hm2; have HB2 : Hid (Below wc.heap.size wc w2) := hb2; clear hm2 hb2)
          | (go_at_call 11; refine Calls.mono (HSZ.out _ (Below.refl _ _)) ?_; rintro e w1 ⟨rfl, hb1⟩; have HB1 : Hid (Below wc.heap.size wc w1) := hb1; clear hb1))
        go_ret
        exact ⟨rfl, HB8.out⟩
      · have e1 : sn = 0 := HSX.out hse
        subst e1
        clear HST HS0 HSX
        go_wp2_with (first
          | (have hg := HB3; clear hg; go_at_call 10; refine Calls.mono (HLV.out _ HB3.out) ?_; rintro e w8 ⟨rfl, hb8⟩; have HB8 : Hid (Below wc.heap.size wc w8) := hb8; clear hb8)
          | (have hg := HB2; clear hg; go_at_call 12; refine Calls.mono (HMY.out _ v2 HM2.out) ?_; rintro e w3 ⟨rfl, hw3⟩; obtain rfl := hw3.symm; have HB3 : Hid (Below wc.heap.size wc w2) := HB2.out)
          | (have hg := HB1; clear hg; go_at_call 13; refine Calls.mono (HPL.out _ HB1.out) ?_; rintro e w2 ⟨v2, rfl, hm2, hb2⟩; have HM2 : Hid (Ms w2 v2 l) := hm2; have HB2 : Hid (Below wc.heap.size wc w2) := hb2; clear hm2 hb2)
          | (go_at_call 11; refine Calls.mono (HSZ.out _ (Below.refl _ _)) ?_; rintro e w1 ⟨rfl, hb1⟩; have HB1 : Hid (Below wc.heap.size wc w1) := hb1; clear hb1))
        go_ret
        exact ⟨rfl, HB8.out⟩
end Go.Proofs.YtjcippiilaknfaaDoor
