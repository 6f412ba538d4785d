/-
  Of any chunk the part is told that lies within the extent: the law's walk. No conditions.
-/
import Derived.Test.YtmefpnpfapochaaGRefK
namespace Go.Proofs.Ytmefpnpfapochaa
open Go.RowKit Go.Shelf
set_option linter.unusedVariables false
set_option maxRecDepth 100000

set_option maxHeartbeats 16000000 in
theorem gridClips_walk (vd : Value) (D : List Int) (vs : Value) (S : List Int) (vc : Value) (C : List Int) (w : World) (hD : Is w vd D) (hS : Is w vs S) (hC : Is w vc C) : Calls Try.prog 4 #[vd, vs, vc] w fun e w' => e = .returned (.bool true) ∧ Below w.heap.size w w' := by
  have HD : Hid (Is w vd D) := hD
  have HS : Hid (Is w vs S) := hS
  have HC : Hid (Is w vc C) := hC
  obtain ⟨a1, m1, c1, rfl, _⟩ := hD.open
  obtain ⟨a2, m2, c2, rfl, _⟩ := hS.open
  obtain ⟨a3, m3, c3, rfl, _⟩ := hC.open
  obtain ⟨er, HER⟩ : ∃ er, Hid (cpE D S C = er) := ⟨_, rfl⟩
  obtain ⟨L, HL⟩ : ∃ L, Hid ((if cpE D S C = 0 then clS D S C else []) = L) := ⟨_, rfl⟩
  obtain ⟨M, HM⟩ : ∃ M, Hid ((if cpE D S C = 0 then clB D S C else []) = M) := ⟨_, rfl⟩
  obtain ⟨l, HLN⟩ : ∃ l, Hid (L.length = l) := ⟨_, rfl⟩
  obtain ⟨m, HMN⟩ : ∃ m, Hid (M.length = m) := ⟨_, rfl⟩
  have un : ∀ {w1 e w'}, CpP w1 D S C e w' → (∃ u uc v vc, e = .returned (.tuple #[.slice u l uc, .slice v m vc, .int .i64 er]) ∧ Is w' (.slice u l uc) L ∧ Is w' (.slice v m vc) M) ∧ Below w1.heap.size w1 w' := fun {w1 e w'} h => by
    obtain ⟨u, v, rfl, h1, h2, h3⟩ := h
    rw [HL.out] at h1
    rw [HM.out] at h2
    obtain ⟨ua, un, uc, rfl, e1, _⟩ := h1.open
    obtain ⟨va, vn, vc, rfl, e2, _⟩ := h2.open
    obtain rfl : l = un := by rw [← e1, HLN.out]
    obtain rfl : m = vn := by rw [← e2, HMN.out]
    exact ⟨⟨ua, uc, va, vc, by rw [HER.out], h1, h2⟩, h3⟩
  have HP : Hid (Calls Try.prog 15 #[.slice a1 m1 c1, .slice a2 m2 c2, .slice a3 m3 c3] w fun e w' => (∃ u uc v vc, e = .returned (.tuple #[.slice u l uc, .slice v m vc, .int .i64 er]) ∧ Is w' (.slice u l uc) L ∧ Is w' (.slice v m vc) M) ∧ Below w.heap.size w w') := Calls.mono (clipX_any D S C _ _ _ w hD hS hC) (fun e w' h => un h)
  have HR : Hid (∀ w1, Below w.heap.size w w1 → Calls Try.prog 16 #[.slice a1 m1 c1, .slice a2 m2 c2, .slice a3 m3 c3] w1 fun e w' => (∃ u uc v vc, e = .returned (.tuple #[.slice u l uc, .slice v m vc, .int .i64 er]) ∧ Is w' (.slice u l uc) L ∧ Is w' (.slice v m vc) M) ∧ Below w1.heap.size w1 w') := fun w1 h1 => Calls.mono (refClip_any D S C _ _ _ w1 (HD.out.below h1) (HS.out.below h1) (HC.out.below h1)) (fun e w' h => un h)
  have HIL : Hid (∀ w6 xo xc yo yc, Is w6 (.slice xo l xc) L → Is w6 (.slice yo l yc) L → Calls Try.prog 13 #[.slice xo l xc, .slice yo l yc] w6 fun e w' => e = .returned (.bool true) ∧ Below w6.heap.size w6 w') := fun w6 xo xc yo yc h1 h2 => by
    have := ints_any _ _ _ _ w6 h1 h2
    rwa [decide_eq_true rfl] at this
  have HIM : Hid (∀ w6 xo xc yo yc, Is w6 (.slice xo m xc) M → Is w6 (.slice yo m yc) M → Calls Try.prog 13 #[.slice xo m xc, .slice yo m yc] w6 fun e w' => e = .returned (.bool true) ∧ Below w6.heap.size w6 w') := fun w6 xo xc yo yc h1 h2 => by
    have := ints_any _ _ _ _ w6 h1 h2
    rwa [decide_eq_true rfl] at this
  clear hD hS hC un
  go_enter Try.func4, Try.ntmps4
  go_wp2_with (first
    | (have hg := HB4; clear hg; go_at_call 14; refine (lives13_any _).mono ?_; rintro e w5 ⟨rfl, hb5⟩; have HB5 : Hid (Below w.heap.size w w5) := HB4.out.trans (hb5.mono HB4.out.size); clear hb5)
    | (have hg := HB3; clear hg; go_at_call 13; refine (HIM.out _ _ _ _ _ (HX2.out.2.below HB23.out) (HY2.out.2.below HB23.out)).mono ?_; rintro e w4 ⟨rfl, hb4⟩; have HB4 : Hid (Below w.heap.size w w4) := HB3.out.trans (hb4.mono HB3.out.size); clear hb4)
    | (go_at_call 13; refine (HIL.out _ _ _ _ _ HX2.out.1 HY2.out.1).mono ?_; rintro e w3 ⟨rfl, hb3⟩; have HB23 : Hid (Below w2.heap.size w2 w3) := hb3; have HB3 : Hid (Below w.heap.size w w3) := HB2.out.trans (hb3.mono HB2.out.size); clear hb3)
    | (go_at_call 16; refine (HR.out _ HB1.out).mono ?_; rintro e w2 ⟨⟨y1, yc1, y2, yc2, rfl, hy1, hy2⟩, hb2⟩; have HY2 : Hid (Is w2 (.slice y1 l yc1) L ∧ Is w2 (.slice y2 m yc2) M) := ⟨hy1, hy2⟩; have HX2 : Hid (Is w2 (.slice x1 l xc1) L ∧ Is w2 (.slice x2 m xc2) M) := ⟨HX1.out.1.below hb2, HX1.out.2.below hb2⟩; have HB2 : Hid (Below w.heap.size w w2) := HB1.out.trans (hb2.mono HB1.out.size); clear hy1 hy2 hb2)
    | (go_at_call 15; refine HP.out.mono ?_; rintro e w1 ⟨⟨x1, xc1, x2, xc2, rfl, hx1, hx2⟩, hb1⟩; have HX1 : Hid (Is w1 (.slice x1 l xc1) L ∧ Is w1 (.slice x2 m xc2) M) := ⟨hx1, hx2⟩; have HB1 : Hid (Below w.heap.size w w1) := hb1; clear hx1 hx2 hb1))
  go_ret
  exact ⟨rfl, HB5.out⟩
end Go.Proofs.Ytmefpnpfapochaa
