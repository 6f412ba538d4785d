/-
  The walk of the law OctetRuns: it returns true, and writes nothing that was there. Condition: the arguments read as bytes, at most 1048576 of them.
-/
import Derived.Test.YtnmmpllokejelaaWalkG
namespace Go.Proofs.Ytnmmpllokejelaa
open Go.RowKit
set_option linter.unusedVariables false

set_option maxHeartbeats 4000000 in
theorem octetRuns_walk (v0 : Value) (l0 : List Int) (v1 : Value) (l1 : List Int) (a2 : Int) (w : World) (hB0 : Bs w v0 l0) (hY0 : Byt l0) (hL0 : l0.length ≤ 1048576) (hB1 : Bs w v1 l1) (hY1 : Byt l1) (hL1 : l1.length ≤ 1048576) :
    Calls Try.prog 7 #[v0, v1, .int .i64 a2] w fun e w' => e = .returned (.bool true) ∧ Below w.heap.size w w' := by
  have HP : Hid ((pbList l0 l1).length ≤ l0.length + 65540) := pbList_length _ _
  have HG : Hid ((gbList l0 a2).length ≤ l0.length) := by
    show _ ≤ _
    unfold gbList; split
    · simp; omega
    · simp
  go_enter Try.func7, Try.ntmps7
  go_wp2_with fail
  refine (lent_any v0 l0 w hB0 (by omega)).mono ?_
  rintro e w1 ⟨g, cap, rfl, hg1, hg2, hc, hown, hb1⟩
  have hz1 := hb1.size
  go_wp2_with fail
  refine (lent_any v1 l1 w1 (hB1.below hb1) (by omega)).mono ?_
  rintro e w2 ⟨g', cap', rfl, hg1', hg2', hc', hown', hb2⟩
  have hz2 := hb2.size
  have HI2 : Hid (Bs w2 (.slice (some ⟨g, 0, none⟩) (l0.length + 1) cap) (l0 ++ [90])) := hown.bs.below hb2
  have HJ2 : Hid (Bs w2 (.slice (some ⟨g', 0, none⟩) (l1.length + 1) cap') (l1 ++ [90])) := hown'.bs
  have HR2 : Hid (Below w.heap.size w w2) := hb1.trans (hb2.mono hz1)
  have HB2 : Hid (Bs w2 v0 l0) := hB0.below HR2.out
  have HC2 : Hid (Bs w2 v1 l1) := hB1.below HR2.out
  clear hown hown' hb1 hb2 hg1 hg2 hg1' hg2' hB0 hB1
  go_wp2_with fail
  refine (putBytes_any _ _ l0 l1 w2 (lent_bs HI2.out) (lent_bs HJ2.out) (by omega) (by omega)).mono ?_
  rintro e w3 ⟨x, rfl, hx3, hb3⟩
  have hz3 := hb3.size
  go_wp2_with fail
  refine (refPutBytes_any v0 v1 l0 l1 w3 (HB2.out.below hb3) (HC2.out.below hb3) (by omega) (by omega)).mono ?_
  rintro e w4 ⟨z, rfl, ho4, hb4⟩
  have hz4 := hb4.size
  have hsx := str_run (hx3.below hb4).bs
  have hsz := str_run ho4.bs
  have HX4 : Hid (Fr w4 w2.heap.size x (pbList l0 l1)) := hx3.below hb4
  have HXL : Hid (∀ q, x.ownBlock = some q → w2.heap.size ≤ q ∧ q < w3.heap.size) := hx3.lt
  have HB24 : Hid (Below w2.heap.size w2 w4) := hb3.trans (hb4.mono hz3)
  clear hx3 ho4 hb3 hb4
  go_wp2_with fail
  refine (kept_any g l0.length cap v0 l0 _ (HI2.out.below HB24.out) (HB2.out.below HB24.out) hc (by omega)).mono ?_
  rintro e w5 ⟨rfl, k5, rfl⟩
  have HB25 : Hid (Below w2.heap.size w2 (w4.drewN k5)) := below_drewN HB24.out k5
  go_wp2_with fail
  refine (kept_any g' l1.length cap' v1 l1 _ (HJ2.out.below HB25.out) (HC2.out.below HB25.out) hc' (by omega)).mono ?_
  rintro e w6 ⟨rfl, k6, rfl⟩
  go_wp2_with fail
  have hd : Below w4.heap.size w4 (w4.drewN (k5 + k6)) := below_drewN (Below.refl _ _) (k5 + k6)
  refine (spoil_any w2.heap.size x _ _ (HX4.out.below hd) (by have := HP.out; omega)).mono ?_
  rintro e w7 ⟨rfl, hg7⟩
  have HB27 : Hid (Below w2.heap.size w2 w7) := (HB24.out.trans (hd.mono (by omega))).grown hg7 (by show w2.heap.size ≤ w4.heap.size; omega) (fun q hq => (HXL.out q hq).1)
  have hz7 := HB27.out.size
  clear hg7 hd hsx hsz HX4 HXL HB24 HB25
  go_wp2_with fail
  refine (getBytes_any _ l0 a2 w7 (lent_bs (HI2.out.below HB27.out)) (by omega) hY0).mono ?_
  rintro e w8 ⟨y, rfl, hy8, hb8⟩
  have hz8 := hb8.size
  have HB28 : Hid (Below w2.heap.size w2 w8) := HB27.out.trans (hb8.mono hz7)
  go_wp2_with fail
  refine (refGetBytes_any v0 l0 a2 w8 (HB2.out.below HB28.out) (by omega) hY0).mono ?_
  rintro e w9 ⟨z9, rfl, ho9, hb9⟩
  have hz9 := hb9.size
  have hsy := str_run (hy8.below hb9).bs
  have hsz := str_run ho9.bs
  have HY9 : Hid (Fr w9 w7.heap.size y (gbList l0 a2)) := hy8.below hb9
  have HYL : Hid (∀ q, y.ownBlock = some q → w7.heap.size ≤ q ∧ q < w8.heap.size) := hy8.lt
  have HB29 : Hid (Below w2.heap.size w2 w9) := HB28.out.trans (hb9.mono (by omega))
  clear hy8 hb8 ho9 hb9
  go_wp2_with fail
  refine (spoil_any w7.heap.size y _ _ HY9.out (by have := HG.out; omega)).mono ?_
  rintro e w10 ⟨rfl, hg10⟩
  have HB210 : Hid (Below w2.heap.size w2 w10) := HB29.out.grown hg10 (by omega) (fun q hq => Nat.le_trans hz7 (HYL.out q hq).1)
  clear hg10 hsy hsz HY9 HYL
  go_wp2_with fail
  refine (kept_any g l0.length cap v0 l0 _ (HI2.out.below HB210.out) (HB2.out.below HB210.out) hc (by omega)).mono ?_
  rintro e w11 ⟨rfl, k11, rfl⟩
  have HB211 : Hid (Below w2.heap.size w2 (w10.drewN k11)) := below_drewN HB210.out k11
  go_wp2_with fail
  refine (kept_any g' l1.length cap' v1 l1 _ (HJ2.out.below HB211.out) (HC2.out.below HB211.out) hc' (by omega)).mono ?_
  rintro e w12 ⟨rfl, k12, rfl⟩
  have HF : Hid (Below w.heap.size w (w10.drewN (k11 + k12))) := HR2.out.trans ((below_drewN HB210.out (k11 + k12)).mono HR2.out.size)
  go_wp2_with fail
  refine (lives_any _).mono ?_
  rintro e w13 ⟨rfl, hb13⟩
  go_wp2
  go_ret
  exact ⟨rfl, HF.out.trans (hb13.mono HF.out.size)⟩
end Go.Proofs.Ytnmmpllokejelaa
