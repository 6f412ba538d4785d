/-
  The iterator over points tells each of them. Conditions: none.
-/
import Derived.Test.YtnikbcljonbpcaaSIter
namespace Go.Proofs.Ytnikbcljonbpcaa
open Go.RowKit Go.Shelf
set_option linter.unusedVariables false
set_option maxRecDepth 100000
attribute [local go_sem] Oper.semAt_some

set_option maxHeartbeats 4000000 in
theorem values_gives (gb : Nat) (ao : Option Addr) (m cap : Nat) (P : List (List Int)) (w0 : World) (hc0 : w0.cell? ⟨gb, 0, none⟩ = some (.slice ao m cap)) (hP0 : Iss w0 (.slice ao m cap) P) :
    Gives 53 #[.pointer (some ⟨gb, 0, none⟩)] P.length (fun k W as' => ∃ v, as' = #[v] ∧ ∃ l, P[k]? = some l ∧ Is W v l) w0 := by
  intro n l J W hb0 hst hmv hbw hY
  have HP : Hid (Iss w0 (.slice ao m cap) P) := hP0
  obtain ⟨_, _, _, e, hm, hmc, hmb⟩ := hP0.open
  injection e with e1 e2 e3
  subst e1 e2 e3
  have HM : Hid (P.length = m) := hm
  have HBW : Hid _ := hbw
  have HC : Hid _ := hc0
  have HY : Hid (∀ k W1 v, k < m → J W.heap.size k W1 → W.heap.size ≤ W1.heap.size → (∃ l, P[k]? = some l ∧ Is W1 v l) → YieldAt Fence.wide (n - 1) Try.prog l #[v] W1 fun e W2 => e = .returned (.bool true) ∧ Keep W.heap.size W1 W2 ∧ J W.heap.size (k + 1) W2) :=
    fun k W1 v hk hj hs hl => hY _ k W1 _ (by rw [hm]; exact hk) hj (Nat.le_refl _) hs ⟨v, rfl, hl⟩
  have HJ0 : Hid (J W.heap.size 0 W) := hst W (Below.refl _ _)
  have hcw : W.cell? ⟨gb, 0, none⟩ = some (.slice ao m cap) := (hb0.cell (World.block_lt_of_cell? w0 _ hc0)).trans hc0
  rw [hm]
  clear hst hmv hbw hY hc0 hP0 hm
  refine callsIn_of_wp Try.func53 rfl trivial ?_ rfl
  simp only [Try.ntmps53, List.size_toArray, List.length_cons, List.length_nil, Nat.reduceAdd, Nat.reduceSub, Array.replicate_succ, Array.replicate_zero, List.push_toArray, List.append_toArray, List.nil_append, List.cons_append]
  gi_wp2
  gi_loopw [7] (fun i wr => ∃ k : Nat, i = .int .i64 (k : Int) ∧ k ≤ m ∧ Hid (J W.heap.size k wr) ∧ Hid (W.heap.size ≤ wr.heap.size)) (fun i _ => m - (intOf i).toNat)
  case atStart => exact ⟨0, rfl, by omega, HJ0.out, Nat.le_refl _⟩
  case round =>
    obtain ⟨k, rfl, hk, HJ, HS⟩ := hrel
    by_cases hlt : k < m
    · have hbk := HBW.out _ _ _ HJ.out
      obtain ⟨g, o, l1, u, q, c, rfl, hl, hlm, hmc1, hmm1, hcell, his⟩ := (HP.out.below hbk).at hlt
      obtain ⟨fn, tmps, assign, body, hy, hR⟩ := HY.out k wr (.slice u q c) hlt HJ.out HS.out ⟨l1, hl, his⟩
      have HR : Hid _ := hR
      have HD : Hid (Fence.wide.depth.isSome = true → 1 ≤ n) := fun h => by simp [Fence.wide] at h
      have hili : (k : Int) < (m : Int) := by omega
      clear hbk hl his hR
      gi_wp2_with fail
      refine ⟨HD.out, ?_⟩
      refine RoundIn.mono HR.out ?_
      rintro e W3 ⟨rfl, hkeep, hj3⟩
      have HJ3 : Hid (J W.heap.size (k + 1) W3) := hj3
      have HS3 : Hid (W.heap.size ≤ W3.heap.size) := Nat.le_trans HS.out hkeep.size
      clear hj3 hkeep
      gi_wp2
      go_roundw
      case rel => exact ⟨k + 1, by simp, by omega, HJ3.out, HS3.out⟩
      case measure => simp [intOf]; omega
    · obtain rfl : k = m := by omega
      gi_wp2
      go_end0
      exact ⟨⟨_, rfl⟩, W.heap.size, HJ.out⟩
end Go.Proofs.Ytnikbcljonbpcaa
