/-
  Any extent has the document's number of chunks, and any tuple lies in the document's chunk: the law's walk. No conditions.
-/
import Derived.Test.YtmefpnpfapochaaGRefO
namespace Go.Proofs.Ytmefpnpfapochaa
open Go.RowKit Go.Shelf
set_option linter.unusedVariables false
set_option maxRecDepth 100000

set_option maxHeartbeats 16000000 in
theorem gridCounts_walk (vd : Value) (D : List Int) (vs : Value) (S : List Int) (va : Value) (A : List Int) (w : World) (hD : Is w vd D) (hS : Is w vs S) (hA : Is w va A) : Calls Try.prog 3 #[vd, vs, va] w fun e w' => e = .returned (.bool true) ∧ Below w.heap.size w w' := by
  have HD : Hid (Is w vd D) := hD
  have HS : Hid (Is w vs S) := hS
  have HA : Hid (Is w va A) := hA
  obtain ⟨a1, m1, c1, rfl, _⟩ := hD.open
  obtain ⟨a2, m2, c2, rfl, _⟩ := hS.open
  obtain ⟨a3, m3, c3, rfl, _⟩ := hA.open
  obtain ⟨cn, HCN⟩ : ∃ cn, Hid (chN D S = cn) := ⟨_, rfl⟩
  obtain ⟨ce, HCE⟩ : ∃ ce, Hid (fitE D S = ce) := ⟨_, rfl⟩
  obtain ⟨er, HER⟩ : ∃ er, Hid (ofE A S = er) := ⟨_, rfl⟩
  obtain ⟨L, HL⟩ : ∃ L, Hid ((if ofE A S = 0 then divL A S else []) = L) := ⟨_, rfl⟩
  obtain ⟨M, HM⟩ : ∃ M, Hid ((if ofE A S = 0 then modL A S else []) = M) := ⟨_, rfl⟩
  obtain ⟨l, HLN⟩ : ∃ l, Hid (L.length = l) := ⟨_, rfl⟩
  obtain ⟨m, HMN⟩ : ∃ m, Hid (M.length = m) := ⟨_, rfl⟩
  have un : ∀ {w1 e w'}, OfP w1 A S e w' → (∃ u uc v vc, e = .returned (.tuple #[.slice u l uc, .slice v m vc, .int .i64 er]) ∧ Is w' (.slice u l uc) L ∧ Is w' (.slice v m vc) M) ∧ Below w1.heap.size w1 w' := fun {w1 e w'} h => by
    obtain ⟨u, v, rfl, h1, h2, h3⟩ := h
    rw [HL.out] at h1
    rw [HM.out] at h2
    obtain ⟨ua, un, uc, rfl, e1, _⟩ := h1.open
    obtain ⟨va, vn, vc, rfl, e2, _⟩ := h2.open
    obtain rfl : l = un := by rw [← e1, HLN.out]
    obtain rfl : m = vn := by rw [← e2, HMN.out]
    exact ⟨⟨ua, uc, va, vc, by rw [HER.out], h1, h2⟩, h3⟩
  have HP0 : Hid (Calls Try.prog 9 #[.slice a1 m1 c1, .slice a2 m2 c2] w fun e w' => e = .returned (.tuple #[.int .i64 cn, .int .i64 ce]) ∧ Below w.heap.size w w') := by
    have := chunks_any D S _ _ w hD hS
    rwa [HCN.out, HCE.out] at this
  have HR0 : Hid (∀ w1, Below w.heap.size w w1 → Calls Try.prog 10 #[.slice a1 m1 c1, .slice a2 m2 c2] w1 fun e w' => e = .returned (.tuple #[.int .i64 cn, .int .i64 ce]) ∧ Below w1.heap.size w1 w') := fun w1 h1 => by
    have := refChunks_any D S _ _ w1 (HD.out.below h1) (HS.out.below h1)
    rwa [HCN.out, HCE.out] at this
  have HP : Hid (∀ w1, Below w.heap.size w w1 → Calls Try.prog 11 #[.slice a3 m3 c3, .slice a2 m2 c2] w1 fun e w' => (∃ u uc v vc, e = .returned (.tuple #[.slice u l uc, .slice v m vc, .int .i64 er]) ∧ Is w' (.slice u l uc) L ∧ Is w' (.slice v m vc) M) ∧ Below w1.heap.size w1 w') := fun w1 h1 => Calls.mono (of_any A S _ _ w1 (HA.out.below h1) (HS.out.below h1)) (fun e w' h => un h)
  have HR : Hid (∀ w1, Below w.heap.size w w1 → Calls Try.prog 12 #[.slice a3 m3 c3, .slice a2 m2 c2] w1 fun e w' => (∃ u uc v vc, e = .returned (.tuple #[.slice u l uc, .slice v m vc, .int .i64 er]) ∧ Is w' (.slice u l uc) L ∧ Is w' (.slice v m vc) M) ∧ Below w1.heap.size w1 w') := fun w1 h1 => Calls.mono (refOf_any A S _ _ w1 (HA.out.below h1) (HS.out.below h1)) (fun e w' h => un h)
  have HIL : Hid (∀ w6 xo xc yo yc, Is w6 (.slice xo l xc) L → Is w6 (.slice yo l yc) L → Calls Try.prog 13 #[.slice xo l xc, .slice yo l yc] w6 fun e w' => e = .returned (.bool true) ∧ Below w6.heap.size w6 w') := fun w6 xo xc yo yc h1 h2 => by
    have := ints_any _ _ _ _ w6 h1 h2
    rwa [decide_eq_true rfl] at this
  have HIM : Hid (∀ w6 xo xc yo yc, Is w6 (.slice xo m xc) M → Is w6 (.slice yo m yc) M → Calls Try.prog 13 #[.slice xo m xc, .slice yo m yc] w6 fun e w' => e = .returned (.bool true) ∧ Below w6.heap.size w6 w') := fun w6 xo xc yo yc h1 h2 => by
    have := ints_any _ _ _ _ w6 h1 h2
    rwa [decide_eq_true rfl] at this
  clear hD hS hA un
  go_enter Try.func3, Try.ntmps3
  go_wp2_with (first
    | (have hg := HB6; clear hg; go_at_call 14; refine (lives13_any _).mono ?_; rintro e w7 ⟨rfl, hb7⟩; have HB7 : Hid (Below w.heap.size w w7) := HB6.out.trans (hb7.mono HB6.out.size); clear hb7)
    | (have hg := HB5; clear hg; go_at_call 13; refine (HIM.out _ _ _ _ _ (HX4.out.2.below HB45.out) (HY4.out.2.below HB45.out)).mono ?_; rintro e w6 ⟨rfl, hb6⟩; have HB6 : Hid (Below w.heap.size w w6) := HB5.out.trans (hb6.mono HB5.out.size); clear hb6)
    | (go_at_call 13; refine (HIL.out _ _ _ _ _ HX4.out.1 HY4.out.1).mono ?_; rintro e w5 ⟨rfl, hb5⟩; have HB45 : Hid (Below w4.heap.size w4 w5) := hb5; have HB5 : Hid (Below w.heap.size w w5) := HB4.out.trans (hb5.mono HB4.out.size); clear hb5)
    | (go_at_call 12; refine (HR.out _ HB3.out).mono ?_; rintro e w4 ⟨⟨y1, yc1, y2, yc2, rfl, hy1, hy2⟩, hb4⟩; have HY4 : Hid (Is w4 (.slice y1 l yc1) L ∧ Is w4 (.slice y2 m yc2) M) := ⟨hy1, hy2⟩; have HX4 : Hid (Is w4 (.slice x1 l xc1) L ∧ Is w4 (.slice x2 m xc2) M) := ⟨HX3.out.1.below hb4, HX3.out.2.below hb4⟩; have HB4 : Hid (Below w.heap.size w w4) := HB3.out.trans (hb4.mono HB3.out.size); clear hy1 hy2 hb4)
    | (go_at_call 11; refine (HP.out _ HB2.out).mono ?_; rintro e w3 ⟨⟨x1, xc1, x2, xc2, rfl, hx1, hx2⟩, hb3⟩; have HX3 : Hid (Is w3 (.slice x1 l xc1) L ∧ Is w3 (.slice x2 m xc2) M) := ⟨hx1, hx2⟩; have HB3 : Hid (Below w.heap.size w w3) := HB2.out.trans (hb3.mono HB2.out.size); clear hx1 hx2 hb3)
    | (go_at_call 10; refine (HR0.out _ HB1.out).mono ?_; rintro e w2 ⟨rfl, hb2⟩; have HB2 : Hid (Below w.heap.size w w2) := HB1.out.trans (hb2.mono HB1.out.size); clear hb2)
    | (go_at_call 9; refine HP0.out.mono ?_; rintro e w1 ⟨rfl, hb1⟩; have HB1 : Hid (Below w.heap.size w w1) := hb1; clear hb1))
  go_ret
  exact ⟨rfl, HB7.out⟩
end Go.Proofs.Ytmefpnpfapochaa
