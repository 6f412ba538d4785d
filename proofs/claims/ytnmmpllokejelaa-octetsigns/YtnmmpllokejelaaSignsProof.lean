/-
  Proved: octet's Signed tells any number of any width as the document says, with the document's examples (the law OctetSigns), for every input. No condition.
-/
import Derived.Test.YtnmmpllokejelaaWalkE
import Derived.ProofKit
import Derived.OpenShut
namespace Go.Proofs.Ytnmmpllokejelaa.octetSigns
open Go.ChangeShapes Go.WideShapes Go.ChangeAt Go.RowKit
set_option linter.unusedVariables false

theorem own : ownKnob Try.prog.godebug = none := by kernel_rfl
theorem laidOut : laidOutB Try.prog = true := by kernel_rfl

theorem walk (a0 : Int) (a1 : Int) (w0 : (Lit.int .u64 a0).wf = true) (w1 : (Lit.int .i64 a1).wf = true) (w : World) :
    Calls Try.prog 5 #[.int .u64 a0, .int .i64 a1] w fun e w' => e = .returned (.bool true) ∧ Below w.heap.size w w' := by
  have hu := bounds_u64 w0
  obtain ⟨hu0, hu1⟩ := hu
  have hu1 : a0 < 18446744073709551616 := by omega
  rcases numErr_cases a0 a1 with h | ⟨h1, h2, hE⟩ | hE
  · have hE : numErr a0 a1 = 2 := numErr_arg h
    have HA : Hid (a1 < 1 ∨ 8 < a1) := h
    clear h
    go_enter Try.func5, Try.ntmps5
    go_wp2_with (first | (go_at_call 17; refine (signed_no a0 a1 _ hu0 hu1 (by simp [hE])).mono ?_; rintro e w2 ⟨rfl, rfl⟩) | (go_at_call 18; refine (refSigned_arg a0 a1 _ HA.out).mono ?_; rintro e w2 ⟨rfl, rfl⟩) | (go_at_call 14; refine (lives_any _).mono ?_; rintro e w2 ⟨rfl, hb2⟩))
    go_ret
    exact ⟨rfl, by assumption⟩
  · go_enter Try.func5, Try.ntmps5
    go_wp2_with (first | (go_at_call 17; refine (signed_no a0 a1 _ hu0 hu1 (by simp [hE])).mono ?_; rintro e w2 ⟨rfl, rfl⟩) | (go_at_call 18; refine (refSigned_big a0 a1 _ hu0 hu1 h1 h2 (by simp [hE])).mono ?_; rintro e w2 ⟨rfl, rfl⟩) | (go_at_call 14; refine (lives_any _).mono ?_; rintro e w2 ⟨rfl, hb2⟩))
    go_ret
    exact ⟨rfl, by assumption⟩
  · go_enter Try.func5, Try.ntmps5
    go_wp2_with (first | (go_at_call 17; refine (signed_yes a0 a1 _ hu0 hu1 hE).mono ?_; rintro e w2 ⟨rfl, rfl⟩) | (go_at_call 18; refine (refSigned_yes a0 a1 _ hu0 hu1 hE).mono ?_; rintro e w2 ⟨rfl, rfl⟩) | (go_at_call 14; refine (lives_any _).mono ?_; rintro e w2 ⟨rfl, hb2⟩))
    go_ret
    exact ⟨rfl, by assumption⟩

set_option maxRecDepth 100000 in
theorem lifted (os : Os) (started : os.Started) (H : Type) (enc : TypeId × Value → H) :
    ReturnsInHanded {} Try.checked os 5 .any (Rows.octetSignsSpec.pre6 enc Try.prog Try.f5 Rows.octetSignsRow.domain false) (Rows.octetSignsSpec.post enc Try.prog Try.f5 false true false false) := by
  refine returnsInHanded_of_change (C := Try.checked) own started (by kernel_rfl) Try.func5
    (ChangeSpec.witness6 (enc := enc) (C := Try.checked) false ⟨#[], #[.int .u64 0, .int .i64 0], []⟩ 8 (by kernel_rfl) (by kernel_rfl) (by kernel_rfl) (by kernel_rfl)) ?_
  intro W base args ds gs before hval0 hW hcnd _
  have hval : ∀ (j : Nat) t v, Try.f5.params[j]? = some t → args[j]? = some v → Value.okWide Try.prog W .any base t v := hval0
  have hW' := hW
  obtain ⟨p, q, hA0, hV, rfl, hfz, hnd⟩ := hW
  have hA : DataW.TrodAll enc Try.prog W 0 (fun _ => true) true Try.f5.params.toList args.toList ds p := hA0
  rw [Try.params5] at hA hval
  obtain ⟨v0, vs0, d0, ds0, p0, q0, hargs, rfl, rfl, h0, r0⟩ := trodAll_cons hA
  obtain ⟨v1, vs1, d1, ds1, p1, q1, rfl, rfl, rfl, h1, r1⟩ := trodAll_cons r0
  obtain ⟨rfl, rfl, rfl⟩ := trodAll_nil r1
  obtain rfl : args = #[v0, v1] := by cases args; simp_all
  obtain ⟨rfl, rfl⟩ := trodVars_none hV
  obtain ⟨a0, rfl, rfl, rfl, w0⟩ := open_int Try.underlying23 (hval 0 23 v0 rfl rfl) h0
  obtain ⟨a1, rfl, rfl, rfl, w1⟩ := open_int Try.underlying3 (hval 1 3 v1 rfl rfl) h1
  clear hA0 hval0
  refine (walk a0 a1 w0 w1 W).mono fun e W' ⟨he, bel⟩ => ?_
  subst he
  exact ⟨_, rfl, _, _, _, [], _, [], hW', trodAll_mk1 (shut_bool Try.underlying4 _), (trodAll_cons_mk (shut_int Try.underlying23 w0) (trodAll_cons_mk (shut_int Try.underlying3 w1) trodAll_mk0)), rfl, bel.frame _, fun h => by cases h⟩

theorem over : Rows.octetSignsRow.holds Try.pinned (OpenSpec.ofChange Rows.octetSignsSpec) :=
  OpenClaim.holds_of_wide 5 Try.f5 rfl rfl rfl rfl rfl rfl rfl ⟨rfl, rfl, rfl, rfl, rfl⟩ rfl rfl rfl rfl rfl (by kernel_rfl) Try.func5 (by kernel_rfl)
    (of_decide_eq_true (by kernel_rfl)) (by unfold Func.isWrapper; first | (rw [if_pos (by decide +kernel)]; kernel_rfl) | (rw [if_neg (by decide +kernel)]; exact ⟨rfl, rfl⟩))
    (fun os started H enc _ => lifted os started H enc)

end Go.Proofs.Ytnmmpllokejelaa.octetSigns
namespace Go.Proofs.Ytnmmpllokejelaa
theorem octetSigns_holds : Rows.OctetSignsSaid := octetSigns.over
end Go.Proofs.Ytnmmpllokejelaa
