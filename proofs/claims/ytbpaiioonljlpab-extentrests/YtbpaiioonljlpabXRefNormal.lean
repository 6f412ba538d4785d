/-
  The walk of the document's Normal. Conditions: the numbers are ints, the list's length is one that memory bears.
-/
import Derived.Test.YtbpaiioonljlpabXRefJoin
namespace Go.Proofs.Ytbpaiioonljlpab
open Go.RowKit Go.Sort Go.Shelf Go.Lib
set_option linter.unusedVariables false
set_option maxRecDepth 100000

set_option maxHeartbeats 2000000 in
theorem refNormal_any (v : Value) (l : List Ext) (w : World) (hl : Xs w v l) (hE : EWs l) (hn : l.length ≤ 8796093022208) :
    Calls Try.prog 20 #[v] w fun e w' => ∃ ao cap, e = .returned (.tuple #[.slice ao (normList l).length cap, .int .i64 (normErr l)]) ∧ OwnX w' w.heap.size 51 (.slice ao (normList l).length cap) (normList l) ∧ Below w.heap.size w w' := by
  have HX : Hid (Xs w v l) := hl
  obtain ⟨ao, cap, rfl, hcap, hcell⟩ := hl.opened
  have HC : Hid (∀ i, i < l.length → ∃ b off, ao = some ⟨b, off, none⟩ ∧ w.cell? ⟨b, off + i * 2, none⟩ = some (.int .i64 (l.getD i (0, 0)).1) ∧ w.cell? ⟨b, off + i * 2 + 1, none⟩ = some (.int .i64 (l.getD i (0, 0)).2) ∧ b < w.heap.size) := hcell
  have HE : Hid (EWs l) := hE
  clear hl hcell hE
  obtain ⟨N, HN⟩ : ∃ N, Hid (l.length = N) := ⟨_, rfl⟩
  rw [HN.out] at hcap hn HX ⊢
  by_cases hbig : 65536 < N
  · have H1 : Hid (normErr l = 3) := by unfold Hid normErr; rw [HN.out, if_pos hbig]
    have H2 : Hid (normList l = []) := by unfold Hid normList; rw [H1.out]; rfl
    go_enter Try.func20, Try.ntmps20
    go_wp2
    go_ret2
    rw [H1.out, H2.out]
    exact ⟨none, 0, rfl, OwnX.nil _ _ _, Below.refl _ _⟩
  · have HNL : Hid (∀ b : Bool, l.all mayB = b → normErr l = if b = true then 0 else 2) := by intro b hb; unfold normErr; rw [HN.out, if_neg hbig, hb]
    go_enter Try.func20, Try.ntmps20
    go_wp2
    go_loopw [4] (fun i wr => ∃ k : Nat, k ≤ N ∧ i = .int .i64 k ∧ Hid ((l.take k).all mayB = true) ∧ Hid (Below w.heap.size w wr)) (fun i _ => N - (intOf i).toNat)
    case atStart => exact ⟨0, Nat.zero_le _, rfl, rfl, Below.refl _ _⟩
    case round =>
      obtain ⟨k, hk, rfl, HA, HB⟩ := hrel
      by_cases hlt : k < N
      · have hkl : k < l.length := by rw [HN.out]; exact hlt
        obtain ⟨b, off, rfl, c1, c2, hb⟩ := HC.out k hkl
        have d1 := (HB.out.cell (p := ⟨b, off + k * 2, none⟩) hb).trans c1
        have d2 := (HB.out.cell (p := ⟨b, off + k * 2 + 1, none⟩) hb).trans c2
        have hx := HE.out.at k
        have HM : Hid (l.getD k (0, 0) ∈ l) := getD_mem hkl
        have HT : Hid (l.take (k + 1) = l.take k ++ [l.getD k (0, 0)]) := take_snoc l hkl
        clear c1 c2
        generalize l.getD k (0, 0) = x at *
        obtain ⟨xa, xs⟩ := x
        have HXW : Hid (EW (xa, xs)) := hx
        clear hx
        dsimp only at d1 d2
        cases hm : mayB (xa, xs) with
        | false =>
          have H1 : Hid (normErr l = 2) := HNL.out false (by rw [← Bool.not_eq_true, List.all_eq_true]; intro h; rw [h _ HM.out] at hm; cases hm)
          have H2 : Hid (normList l = []) := by unfold Hid normList; rw [H1.out]; rfl
          go_wp2_with (go_at_call 32; refine (refMay_eq _ _ _ HXW.out).mono ?_; rintro e w' ⟨rfl, nq, osq, rfl⟩; rw [hm])
          go_ret2
          rw [H1.out, H2.out]
          exact ⟨none, 0, rfl, OwnX.nil _ _ _, below_grown HB.out HB.out.size nq osq⟩
        | true =>
          have HM1 : Hid (mayB (xa, xs) = true) := hm
          clear hm
          go_wp2_with (go_at_call 32; refine (refMay_eq _ _ _ HXW.out).mono ?_; rintro e w' ⟨rfl, nq, osq, rfl⟩; rw [HM1.out])
          go_roundw
          case rel =>
            exact ⟨k + 1, by omega, by simp, by unfold Hid; rw [HT.out, List.all_append, HA.out]; simp [HM1.out], below_grown HB.out HB.out.size nq osq⟩
          case measure => simp [intOf]; omega
      · obtain rfl : k = N := by omega
        have H1 : Hid (normErr l = 0) := HNL.out true (by have := HA.out; rwa [List.take_of_length_le (by rw [HN.out]; omega)] at this)
        have H2 : Hid (normList l = normL l) := by unfold Hid normList; rw [H1.out]; rfl
        have HMA : Hid (∀ x ∈ l, mayB x = true) := by
          have := HA.out
          rw [List.take_of_length_le (by rw [HN.out]; omega)] at this
          exact List.all_eq_true.1 this
        go_wp2_with (go_at_call 39; refine (refJoin_any _ l _ (HX.out.below HB.out) HMA.out (by rw [HN.out]; omega)).mono ?_; rintro e w3 ⟨ao3, cap3, rfl, hx3, hb3⟩)
        go_ret2
        rw [H1.out, H2.out]
        exact ⟨ao3, cap3, rfl, hx3.mono HB.out.size, HB.out.trans (hb3.mono HB.out.size)⟩
end Go.Proofs.Ytbpaiioonljlpab
