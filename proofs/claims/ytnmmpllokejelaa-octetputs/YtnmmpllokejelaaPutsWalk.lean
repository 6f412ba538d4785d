/-
  The walk of the law OctetPuts: it returns true, and writes nothing that was there. Condition: the arguments read within the machine's bounds.
-/
import Derived.Test.YtnmmpllokejelaaWalkF
import Derived.Deep.DeepCutAuto
import Derived.OpenShut
namespace Go.Proofs.Ytnmmpllokejelaa
open Go.RowKit
set_option linter.unusedVariables false




set_option maxHeartbeats 2000000 in
theorem octetPuts_walk (v0 : Value) (l0 : List Int) (a1 a2 : Int) (w : World) (hB : Bs w v0 l0) (hY : Byt l0) (hL : l0.length ≤ 140737488351232) (w1 : (Lit.int .i64 a1).wf = true) (w2 : (Lit.int .u64 a2).wf = true) :
    Calls Try.prog 3 #[v0, .int .i64 a1, .int .u64 a2] w fun e w' => e = .returned (.bool true) ∧ Below w.heap.size w w' := by
  obtain ⟨hu0, hu1⟩ := bounds_u64 w2
  have hu1 : a2 < 18446744073709551616 := by omega
  clear w1 w2
  go_enter Try.func3, Try.ntmps3
  go_wp2
  go_loopw [7] (fun i wr => ∃ k : Nat, k ≤ 2 ∧ i = .int .i64 k ∧ Below w.heap.size w wr) (fun i _ => 2 - (intOf i).toNat)
  case atStart => exact ⟨0, by omega, rfl, Below.refl _ _⟩
  case round =>
    obtain ⟨k, hk, rfl, hbr⟩ := hrel
    by_cases hlt : k < 2
    · have hzr := hbr.size
      have HBr : Hid (Bs wr v0 l0) := hB.below hbr
      have HN : Hid ((putList l0 a2 a1 ((k : Int) == 1)).length ≤ l0.length + 8) := putList_length _ _ _ _ hu0
      go_wp2_with fail
      refine (lent_any v0 l0 wr HBr.out hL).mono ?_
      rintro e w1 ⟨g, cap, rfl, hg1, hg2, hc, hown, hb1⟩
      have hz1 := hb1.size
      have HI1 : Hid (Bs w1 (.slice (some ⟨g, 0, none⟩) (l0.length + 1) cap) (l0 ++ [90])) := hown.bs
      have HB1 : Hid (Bs w1 v0 l0) := HBr.out.below hb1
      have HR1 : Hid (Below w.heap.size w w1) := hbr.trans (hb1.mono hzr)
      clear hown hb1
      go_wp2_with fail
      refine (put_any _ l0 a2 a1 _ w1 (lent_bs HI1.out) hL hu0 hu1).mono ?_
      rintro e w2 ⟨x, rfl, hx2, hb2⟩
      have hz2 := hb2.size
      go_wp2_with fail
      refine (put_any _ l0 a2 a1 _ w2 ((lent_bs HI1.out).below hb2) hL hu0 hu1).mono ?_
      rintro e w3 ⟨y, rfl, hy3, hb3⟩
      have hz3 := hb3.size
      go_wp2_with fail
      refine (refPut_any v0 l0 a2 a1 _ w3 ((HB1.out.below hb2).below (hb3)) hL hu0 hu1).mono ?_
      rintro e w4 ⟨z, rfl, ho4, hb4⟩
      have hz4 := hb4.size
      have hx4 := (hx2.below hb3).below hb4
      have hy4 := hy3.below hb4
      have hb14 : Below w1.heap.size w1 w4 := (hb2.trans (hb3.mono hz2)).trans (hb4.mono (by omega))
      have hsx := str_run hx4.bs
      have hsz := str_run ho4.bs
      have HX4 : Hid (Fr w4 w1.heap.size x (putList l0 a2 a1 ((k : Int) == 1))) := hx4
      have HXL : Hid (∀ q, x.ownBlock = some q → w1.heap.size ≤ q ∧ q < w2.heap.size) := hx2.lt
      have HY4 : Hid (Fr w4 w2.heap.size y (putList l0 a2 a1 ((k : Int) == 1))) := hy4
      have HO4 : Hid (Own w4 w3.heap.size z (putList l0 a2 a1 ((k : Int) == 1))) := ho4
      have HB14 : Hid (Below w1.heap.size w1 w4) := hb14
      clear hx2 hy3 hx4 hy4 ho4 hb14 hb2 hb3 hb4
      go_wp2_with (go_at_call 12; refine (kept_any g l0.length cap v0 l0 _ (HI1.out.below HB14.out) (HB1.out.below HB14.out) hc hL).mono ?_; rintro e w5 ⟨rfl, k5, rfl⟩)
      have hd5 : Below (w4.heap.size) w4 (w4.drewN k5) := below_drewN (Below.refl _ _) k5
      refine (spoil_any w1.heap.size x _ _ (HX4.out.below hd5) (by have := HN.out; omega)).mono ?_
      rintro e w6 ⟨rfl, hg6⟩
      have hsy := str_run ((HY4.out.below hd5).grown hg6 (fun q hq => (HXL.out q hq).2)).bs
      have hsz := str_run ((HO4.out.below hd5).grown hg6 (fun q hq => Nat.lt_of_lt_of_le (HXL.out q hq).2 hz3)).bs
      have HB16 : Hid (Below w1.heap.size w1 w6) := (HB14.out.trans (hd5.mono (by omega))).grown hg6 (by show w1.heap.size ≤ w4.heap.size; omega) (fun q hq => (HXL.out q hq).1)
      clear hg6 hd5 hsx
      go_wp2_with (go_at_call 12; refine (kept_any g l0.length cap v0 l0 _ (HI1.out.below HB16.out) (HB1.out.below HB16.out) hc hL).mono ?_; rintro e w7 ⟨rfl, k7, rfl⟩)
      go_roundw
      case rel => exact ⟨k + 1, by omega, by go_num, below_drewN (HR1.out.trans (HB16.out.mono HR1.out.size)) k7⟩
      case measure => simp [intOf]; omega
    · go_wp2_with (go_at_call 14; refine (lives_any _).mono ?_; rintro e w8 ⟨rfl, hb8⟩)
      go_ret
      exact ⟨rfl, hbr.trans (hb8.mono hbr.size)⟩
end Go.Proofs.Ytnmmpllokejelaa
