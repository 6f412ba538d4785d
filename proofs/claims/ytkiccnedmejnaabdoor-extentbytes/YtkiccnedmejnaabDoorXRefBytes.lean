/-
  The document's bytes of a list of extents. Conditions: the numbers are ints, the list's length is one that memory bears.
-/
import Derived.Test.YtkiccnedmejnaabDoorXRefGood
import Derived.Test.YtkiccnedmejnaabDoorXBytes
namespace Go.Proofs.YtkiccnedmejnaabDoor
open Go.RowKit Go.Sort Go.Shelf Go.Lib
set_option linter.unusedVariables false
set_option maxRecDepth 100000

theorem refXBytes_no (v : Value) (l : List Ext) (w : World) (hl : Xs w v l) (hE : EWs l) (hn : l.length ≤ 8796093022208) (hg : goodB l 4194304 = false) :
    Calls Tryd.prog 13 #[v] w fun e w' => e = .returned (.tuple #[.slice none 0 0, .int .i64 2]) ∧ Below w.heap.size w w' := by
  have HX : Hid (Xs w v l) := hl
  have HE : Hid (EWs l) := hE
  clear hl hE
  go_enter Tryd.func13, Tryd.ntmps13
  go_wp2_with (go_at_call 40; refine (refGood_any _ l _ _ HX.out HE.out (by omega)).mono ?_; rintro e w1 ⟨rfl, hb1⟩; rw [hg])
  go_ret2
  exact ⟨rfl, hb1⟩

set_option maxHeartbeats 4000000 in
theorem refXBytes_ok (v : Value) (l : List Ext) (w : World) (hl : Xs w v l) (hE : EWs l) (hg : goodB l 4194304 = true) :
    Calls Tryd.prog 13 #[v] w fun e w' => ∃ x, e = .returned (.tuple #[x, .int .i64 0]) ∧ Own w' w.heap.size x (sealN (plainL l)) ∧ Below w.heap.size w w' := by
  obtain ⟨i0, hi, hz0, hz1, hz2⟩ := info_parts Tryd.info5
  have HX : Hid (Xs w v l) := hl
  have HE : Hid (EWs l) := hE
  have HG : Hid (goodB l 4194304 = true) := hg
  have HFI : Hid (∀ x ∈ l, 0 ≤ x.1 ∧ 0 ≤ x.1 ∧ 1 ≤ x.2 ∧ x.1 + x.2 ≤ 4194304) := (goodFrom_sep (goodB_iff.1 hg).2.2).2
  obtain ⟨ao, cap, rfl, hcap, hcell⟩ := hl.opened
  have hlen := (goodB_iff.1 hg).2.1
  obtain ⟨N, HN⟩ : ∃ N, Hid (l.length = N) := ⟨_, rfl⟩
  have HC : Hid (∀ i, i < l.length → ∃ b off, ao = some ⟨b, off, none⟩ ∧ w.cell? ⟨b, off + i * 2, none⟩ = some (.int .i64 (l.getD i (0, 0)).1) ∧ w.cell? ⟨b, off + i * 2 + 1, none⟩ = some (.int .i64 (l.getD i (0, 0)).2) ∧ b < w.heap.size) := hcell
  rw [HN.out] at hcap hlen HX ⊢
  clear hl hE hg hcell
  have hwN : IntKind.u64.wrap (N : Int) = N := by simp [IntKind.wrap, IntKind.bits, IntKind.signed]; omega
  go_enter Tryd.func13, Tryd.ntmps13
  go_wp2_with (first | (go_at_call 40; refine (refGood_any _ l _ _ HX.out HE.out (by rw [HN.out]; omega)).mono ?_; rintro e w1 ⟨rfl, hb1⟩; rw [HG.out]; have HB1 : Hid (Below w.heap.size w w1) := hb1; clear hb1) | (go_at_call 41; refine (refDigits_any 4 true (N : Int) _ (by omega) (by omega) (by omega)).mono ?_; rintro e w2 ⟨v2, rfl, ho2, hb2⟩; have HV2 : Hid (Own w2 w.heap.size v2 (d4 N)) := ho2.mono HB1.out.size; have HB2 : Hid (Below w.heap.size w w2) := HB1.out.trans (hb2.mono HB1.out.size); clear ho2 hb2))
  obtain ⟨a2, c2, e2, hc2, _⟩ := HV2.out.opened
  rw [d4_length] at e2 hc2
  subst e2
  go_loopw [4, 5] (fun b i wr => ∃ (k : Nat) (a : Option Addr) (c : Nat), k ≤ N ∧ i = .int .i64 (k : Int) ∧ b = .slice a (4 + 8 * k) c ∧ Hid (Own wr w.heap.size (.slice a (4 + 8 * k) c) (d4 N ++ xbs (l.take k))) ∧ Hid (Below w.heap.size w wr)) (fun _ i _ => N - (intOf i).toNat)
  case atStart => exact ⟨0, a2, c2, Nat.zero_le _, rfl, rfl, by simpa [xbs, Hid] using HV2.out, HB2.out⟩
  case round =>
    obtain ⟨k, a, c, hk, rfl, rfl, HO, HB⟩ := hrel
    have HL : Hid ((d4 (N : Int) ++ xbs (l.take k)).length = 4 + 8 * k) := by unfold Hid; rw [List.length_append, d4_length, xbs_length, List.length_take, HN.out, Nat.min_eq_left hk]
    by_cases hlt : k < N
    · have hkl : k < l.length := by rw [HN.out]; exact hlt
      obtain ⟨b, off, rfl, q1, q2, hb⟩ := HC.out k hkl
      have HD : Hid (∀ w', Below w.heap.size w w' → w'.cell? ⟨b, off + k * 2, none⟩ = some (.int .i64 (l.getD k (0, 0)).1) ∧ w'.cell? ⟨b, off + k * 2 + 1, none⟩ = some (.int .i64 (l.getD k (0, 0)).2)) := fun w' h => ⟨(h.cell (p := ⟨b, off + k * 2, none⟩) hb).trans q1, (h.cell (p := ⟨b, off + k * 2 + 1, none⟩) hb).trans q2⟩
      have hx := HFI.out _ (getD_mem hkl)
      have HG1 : Hid (xbs (l.take (k + 1)) = xbs (l.take k) ++ d4 (l.getD k (0, 0)).1 ++ d4 (l.getD k (0, 0)).2) := xbs_take hkl
      clear q1 q2
      generalize l.getD k (0, 0) = x at *
      obtain ⟨L, HLL⟩ : ∃ L, Hid (d4 (N : Int) ++ xbs (l.take k) = L) := ⟨_, rfl⟩
      rw [HLL.out] at HO HL
      obtain ⟨xa, xs⟩ := x
      dsimp only at hx
      obtain ⟨x1, _, x2, x3⟩ := hx
      have hwa : IntKind.u64.wrap xa = xa := by simp [IntKind.wrap, IntKind.bits, IntKind.signed]; omega
      have hws : IntKind.u64.wrap xs = xs := by simp [IntKind.wrap, IntKind.bits, IntKind.signed]; omega
      obtain ⟨d1, d2⟩ := HD.out _ HB.out
      dsimp only at d1 d2
      go_wp2_with fail
      refine (refDigits_any 4 true xa _ (by omega) (by omega) (by omega)).mono ?_
      rintro e w4 ⟨v4, rfl, ho4, hb4⟩
      have HV4 : Hid (Bs w4 v4 (d4 xa)) := ho4.bs
      have HO4 : Hid (Own w4 w.heap.size (.slice a (4 + 8 * k) c) L) := HO.out.below hb4
      have HB4 : Hid (Below w.heap.size w w4) := HB.out.trans (hb4.mono HB.out.size)
      clear ho4 hb4 d1 d2
      go_wp2_with (at_builtin; refine wpList_append_bytes _ rfl (.tmp 19) (.tmp 26) 23 rfl i0 Tryd.underlying23 hi hz0 hz1 hz2 w.heap.size _ _ L (d4 xa) rfl rfl HO4.out HV4.out (by rw [HL.out, d4_length]; omega) w HB4.out HB4.out.size ?_; intro a5 c5 w5 ho5 hb5 _ _; rw [HL.out, d4_length] at ho5 ⊢; have HO5 : Hid (Own w5 w.heap.size (.slice a5 (4 + 8 * k + 4) c5) (L ++ d4 xa)) := ho5; have HB5 : Hid (Below w.heap.size w w5) := hb5; clear ho5 hb5; obtain ⟨d1, d2⟩ := HD.out _ HB5.out; try dsimp only at d1 d2)
      refine (refDigits_any 4 true xs _ (by omega) (by omega) (by omega)).mono ?_
      rintro e w6 ⟨v6, rfl, ho6, hb6⟩
      have HV6 : Hid (Bs w6 v6 (d4 xs)) := ho6.bs
      have HO6 : Hid (Own w6 w.heap.size (.slice a5 (4 + 8 * k + 4) c5) (L ++ d4 xa)) := HO5.out.below hb6
      have HB6 : Hid (Below w.heap.size w w6) := HB5.out.trans (hb6.mono HB5.out.size)
      have HL6 : Hid ((L ++ d4 xa).length = 4 + 8 * k + 4) := by unfold Hid; rw [List.length_append, HL.out, d4_length]
      clear ho6 hb6 d1 d2
      go_wp2_with (at_builtin; refine wpList_append_bytes _ rfl (.tmp 28) (.tmp 35) 23 rfl i0 Tryd.underlying23 hi hz0 hz1 hz2 w.heap.size _ _ (L ++ d4 xa) (d4 xs) rfl rfl HO6.out HV6.out (by rw [HL6.out, d4_length]; omega) w HB6.out HB6.out.size ?_; intro a7 c7 w7 ho7 hb7 _ _; rw [HL6.out, d4_length] at ho7 ⊢; have HO7 : Hid (Own w7 w.heap.size (.slice a7 (4 + 8 * k + 4 + 4) c7) (L ++ d4 xa ++ d4 xs)) := ho7; have HB7 : Hid (Below w.heap.size w w7) := hb7; clear ho7 hb7)
      go_roundw
      case rel =>
        refine ⟨k + 1, a7, c7, by omega, by simp, ?_, ?_, HB7.out⟩
        · rw [show 4 + 8 * (k + 1) = 4 + 8 * k + 4 + 4 by omega]
        · unfold Hid
          rw [show 4 + 8 * (k + 1) = 4 + 8 * k + 4 + 4 by omega, HG1.out, ← List.append_assoc, ← List.append_assoc, HLL.out]
          exact HO7.out
      case measure => simp [intOf]; omega
    · obtain rfl : k = N := by omega
      have HF : Hid (d4 (k : Int) ++ xbs (l.take k) = plainL l) := by unfold Hid plainL; rw [List.take_of_length_le (by rw [HN.out]; omega), HN.out]
      have HPL : Hid ((plainL l).length = 4 + 8 * k) := by unfold Hid; rw [plainL_length, HN.out]
      rw [HF.out] at HO
      go_wp2_with fail
      refine (refSeal_any _ (plainL l) _ HO.out.bs (by rw [HPL.out]; omega) (plainL_byt l)).mono ?_
      rintro e w6 ⟨x6, rfl, ho6, hb6⟩
      go_wp2_with fail
      go_ret2
      exact ⟨_, rfl, ho6.mono HB.out.size, HB.out.trans (hb6.mono HB.out.size)⟩
end Go.Proofs.YtkiccnedmejnaabDoor
