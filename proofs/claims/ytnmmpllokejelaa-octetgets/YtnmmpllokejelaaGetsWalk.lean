/-
  The walk of the law OctetGets: it returns true, and writes nothing that was there. Condition: the arguments read within the machine's bounds.
-/
import Derived.Test.YtnmmpllokejelaaWalkF
namespace Go.Proofs.Ytnmmpllokejelaa
open Go.RowKit
set_option linter.unusedVariables false

set_option maxHeartbeats 2000000 in
theorem octetGets_walk (v0 : Value) (l0 : List Int) (a1 a2 : Int) (w : World) (hB : Bs w v0 l0) (hY : Byt l0) (hL : l0.length ≤ 140737488351232) (w1 : (Lit.int .i64 a1).wf = true) (w2 : (Lit.int .i64 a2).wf = true) :
    Calls Try.prog 4 #[v0, .int .i64 a1, .int .i64 a2] w fun e w' => e = .returned (.bool true) ∧ Below w.heap.size w w' := by
  clear w1 w2
  go_enter Try.func4, Try.ntmps4
  go_wp2
  go_loopw [7] (fun i wr => ∃ k : Nat, k ≤ 2 ∧ i = .int .i64 k ∧ Below w.heap.size w wr) (fun i _ => 2 - (intOf i).toNat)
  case atStart => exact ⟨0, by omega, rfl, Below.refl _ _⟩
  case round =>
    obtain ⟨k, hk, rfl, hbr⟩ := hrel
    by_cases hlt : k < 2
    · have hzr := hbr.size
      have HBr : Hid (Bs wr v0 l0) := hB.below hbr
      go_wp2_with fail
      refine (lent_any v0 l0 wr HBr.out hL).mono ?_
      rintro e w1 ⟨g, cap, rfl, hg1, hg2, hc, hown, hb1⟩
      have hz1 := hb1.size
      have HI1 : Hid (Bs w1 (.slice (some ⟨g, 0, none⟩) (l0.length + 1) cap) (l0 ++ [90])) := hown.bs
      have HB1 : Hid (Bs w1 v0 l0) := HBr.out.below hb1
      have HR1 : Hid (Below w.heap.size w w1) := hbr.trans (hb1.mono hzr)
      clear hown hb1
      go_wp2_with fail
      refine (get_any _ l0 a1 a2 _ w1 (lent_bs HI1.out) hL hY).mono ?_
      rintro e w2 ⟨rfl, hb2⟩
      have hz2 := hb2.size
      go_wp2_with fail
      refine (refGet_any v0 l0 a1 a2 _ w2 (HB1.out.below hb2) hL hY).mono ?_
      rintro e w3 ⟨rfl, rfl⟩
      have HB13 : Hid (Below w1.heap.size w1 w3) := hb2
      clear hb2
      go_wp2_with (go_at_call 12; refine (kept_any g l0.length cap v0 l0 _ (HI1.out.below HB13.out) (HB1.out.below HB13.out) hc hL).mono ?_; rintro e w5 ⟨rfl, k5, rfl⟩)
      go_roundw
      case rel => exact ⟨k + 1, by omega, by go_num, below_drewN (HR1.out.trans (HB13.out.mono HR1.out.size)) k5⟩
      case measure => simp [intOf]; omega
    · go_wp2_with (go_at_call 14; refine (lives_any _).mono ?_; rintro e w8 ⟨rfl, hb8⟩)
      go_ret
      exact ⟨rfl, hbr.trans (hb8.mono hbr.size)⟩
end Go.Proofs.Ytnmmpllokejelaa
