/-
  The walks of the laws CheckFletchers and CheckCrcs: true for all bytes. Conditions: lengths within the machine's bounds; the table stands as the program's text lays it.
-/
import Derived.Test.YtdpjoldabnkboaaDoorSealWalk
import Derived.Test.YtdpjoldabnkboaaDoorFrame
namespace Go.Proofs.YtdpjoldabnkboaaDoor
open Go.ChangeShapes Go.WideShapes Go.ChangeAt Go.RowKit
set_option linter.unusedVariables false

theorem checkFletchers_walk (v0 : Value) (l0 : List Int) (w : World) (hT : Tab w) (b0 : Bs w v0 l0) (y0 : Byt l0) (z0 : l0.length ≤ 140737488351232) :
    Calls Tryd.prog 3 #[v0] w fun e w' => e = .returned (.bool true) ∧ Below w.heap.size w w' := by
  go_enter Tryd.func3, Tryd.ntmps3
  go_wp2_with fail
  refine (lent_any v0 l0 w b0 z0).mono ?_
  rintro e w1 ⟨g, cap, rfl, hg1, hg2, hc1, ho1, hb1⟩
  have HL1 : Hid (Bs w1 (.slice (some ⟨g, 0, none⟩) l0.length cap) l0) := lent_bs ho1.bs
  have HO1 : Hid (Bs w1 (.slice (some ⟨g, 0, none⟩) (l0.length + 1) cap) (l0 ++ [90])) := ho1.bs
  have HB : Hid (Bs w1 v0 l0) := b0.below hb1
  have HT1 : Hid (Tab w1) := hT.below hb1
  clear ho1 hT b0
  go_wp2_with (first | (go_at_call 10; refine (fletcher_any _ l0 _ HL1.out (by omega) y0).mono ?_; rintro e w2 ⟨rfl, rfl⟩) | (go_at_call 11; refine (refFletcher_any _ l0 _ HB.out (by omega) y0).mono ?_; rintro e w2 ⟨rfl, rfl⟩) | (go_at_call 12; refine (kept_any g _ cap v0 l0 _ HO1.out HB.out hc1 z0).mono ?_; rintro e w2 ⟨rfl, k2, rfl⟩) | (go_at_call 13; refine (lives2_any _ (HT1.out.below (below_drewN (Below.refl _ _) _))).mono ?_; rintro e w3 ⟨rfl, hb3⟩))
  go_ret
  exact ⟨rfl, hb1.trans ((below_drewN (Below.refl _ _) _).trans (hb3.mono (by have := hb1.size; simpa using this)))⟩

theorem checkCrcs_walk (a0 : Int) (v1 : Value) (l1 : List Int) (w : World) (hT : Tab w) (w0 : (Lit.int .u32 a0).wf = true) (b1 : Bs w v1 l1) (y1 : Byt l1) (z1 : l1.length ≤ 140737488351232) :
    Calls Tryd.prog 4 #[.int .u32 a0, v1] w fun e w' => e = .returned (.bool true) ∧ Below w.heap.size w w' := by
  have h0 := bounds_u32 w0
  obtain ⟨c, rfl⟩ := Int.eq_ofNat_of_zero_le h0.1
  have hc32 : c < 4294967296 := by omega
  clear h0 w0
  go_enter Tryd.func4, Tryd.ntmps4
  go_wp2_with fail
  refine (lent_any v1 l1 w b1 z1).mono ?_
  rintro e w1 ⟨g, cap, rfl, hg1, hg2, hc1, ho1, hb1⟩
  have HL1 : Hid (Bs w1 (.slice (some ⟨g, 0, none⟩) l1.length cap) l1) := lent_bs ho1.bs
  have HO1 : Hid (Bs w1 (.slice (some ⟨g, 0, none⟩) (l1.length + 1) cap) (l1 ++ [90])) := ho1.bs
  have HB : Hid (Bs w1 v1 l1) := b1.below hb1
  have HT1 : Hid (Tab w1) := hT.below hb1
  clear ho1 hT b1
  go_wp2_with (first | (go_at_call 14; refine (crc_any _ l1 _ HL1.out (by omega) y1 HT1.out).mono ?_; rintro e w2 ⟨rfl, rfl⟩) | (go_at_call 15; refine (refCrc_any _ l1 _ HB.out (by omega) y1).mono ?_; rintro e w2 ⟨rfl, rfl⟩) | (go_at_call 16; refine (more_any _ l1 c _ HL1.out (by omega) y1 HT1.out hc32).mono ?_; rintro e w2 ⟨rfl, rfl⟩) | (go_at_call 17; refine (refMore_any _ l1 c _ HB.out (by omega) y1 hc32).mono ?_; rintro e w2 ⟨rfl, rfl⟩) | (go_at_call 12; refine (kept_any g _ cap v1 l1 _ HO1.out HB.out hc1 z1).mono ?_; rintro e w2 ⟨rfl, k2, rfl⟩) | (go_at_call 13; refine (lives2_any _ (HT1.out.below (below_drewN (Below.refl _ _) _))).mono ?_; rintro e w3 ⟨rfl, hb3⟩))
  go_ret
  exact ⟨rfl, hb1.trans ((below_drewN (Below.refl _ _) _).trans (hb3.mono (by have := hb1.size; simpa using this)))⟩

end Go.Proofs.YtdpjoldabnkboaaDoor
