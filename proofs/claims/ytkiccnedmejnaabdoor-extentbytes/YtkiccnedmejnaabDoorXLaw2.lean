/-
  The walks of the laws' own functions: same, lent, kept, spoil. Conditions: the numbers are ints, the list's length is one that memory bears.
-/
import Derived.Test.YtkiccnedmejnaabDoorXLaw
import Derived.Shelf.SlicesE.Kit
import Derived.Laws.StructEq
namespace Go.Proofs.YtkiccnedmejnaabDoor
open Go.RowKit Go.Sort Go.Shelf Go.Lib
set_option linter.unusedVariables false
set_option maxRecDepth 100000

theorem eqX_run (a b c d : Int) (w : World) : (binOp .eql 79 (.agg #[.int .i64 a, .int .i64 b]) (.agg #[.int .i64 c, .int .i64 d])).run Tryd.prog w = .ok (.bool (a == c && b == d)) w := by
  have u3 := Tryd.underlying3
  have a3 := Tryd.isAgg3
  have z3 := Tryd.sizeOf3
  have hS : Tryd.prog.underlying 79 = some (.struct (Tryd.prog.fieldsOf 79)) := by kernel_rfl
  have hp : Tryd.prog.stoodInHeld 79 = false := by kernel_rfl
  rw [run_eql_struct, show (10000 : Nat) = 9999 + 1 from rfl, run_equalIn_agg w 9999 79 _ _ hS hp]
  simp only [Program.fieldsOf, Tryd.underlying79]
  go_simp
  by_cases h1 : a = c <;> by_cases h2 : b = d <;> simp [h1, h2]
theorem eqX_guard (op : BinOp) (p q : Operand) (x y : Array Value) (w : World) : (eqGuard op 79 p q (.agg x) (.agg y)).run Tryd.prog w = .ok () w :=
  (GuardAt.agg (P := Tryd.prog) (T := 79) (fun x : Array Value => x) (by kernel_rfl)) op p q x y w

theorem take_eq_snoc {l m : List Ext} {k : Nat} (h : l.take k = m.take k) (hl : k < l.length) (hm : k < m.length) (he : l.getD k (0, 0) = m.getD k (0, 0)) : l.take (k + 1) = m.take (k + 1) := by
  rw [take_snoc l hl, take_snoc m hm, h, he]
theorem ne_of_at {l m : List Ext} {k : Nat} (he : l.getD k (0, 0) ≠ m.getD k (0, 0)) : decide (l = m) = false := by
  rw [decide_eq_false_iff_not]; intro h; exact he (by rw [h])

set_option maxHeartbeats 4000000 in
theorem same_any (va vb : Value) (la lb : List Ext) (w : World) (ha : Xs w va la) (hb : Xs w vb lb) (hna : la.length ≤ 8796093022208) (hnb : lb.length ≤ 8796093022208) :
    Calls Tryd.prog 17 #[va, vb] w fun e w' => e = .returned (.bool (decide (la = lb))) ∧ Below w.heap.size w w' := by
  obtain ⟨aa, ca, rfl, hca, hcella⟩ := ha.opened
  obtain ⟨ab, cb, rfl, hcb, hcellb⟩ := hb.opened
  have HA : Hid (∀ i, i < la.length → ∃ b off, aa = some ⟨b, off, none⟩ ∧ w.cell? ⟨b, off + i * 2, none⟩ = some (.int .i64 (la.getD i (0, 0)).1) ∧ w.cell? ⟨b, off + i * 2 + 1, none⟩ = some (.int .i64 (la.getD i (0, 0)).2) ∧ b < w.heap.size) := hcella
  have HB : Hid (∀ i, i < lb.length → ∃ b off, ab = some ⟨b, off, none⟩ ∧ w.cell? ⟨b, off + i * 2, none⟩ = some (.int .i64 (lb.getD i (0, 0)).1) ∧ w.cell? ⟨b, off + i * 2 + 1, none⟩ = some (.int .i64 (lb.getD i (0, 0)).2) ∧ b < w.heap.size) := hcellb
  clear ha hb hcella hcellb
  obtain ⟨N, HN⟩ : ∃ N, Hid (la.length = N) := ⟨_, rfl⟩
  obtain ⟨M, HM⟩ : ∃ M, Hid (lb.length = M) := ⟨_, rfl⟩
  rw [HN.out] at hna hca ⊢
  rw [HM.out] at hnb hcb ⊢
  by_cases hNM : N = M
  · subst hNM
    go_enter Tryd.func17, Tryd.ntmps17
    go_wp2
    go_loopw [5] (fun i wr => ∃ k : Nat, k ≤ N ∧ i = .int .i64 (k : Int) ∧ Hid (la.take k = lb.take k) ∧ Hid (Below w.heap.size w wr)) (fun i _ => N - (intOf i).toNat)
    case atStart => exact ⟨0, Nat.zero_le _, rfl, rfl, Below.refl _ _⟩
    case round =>
      obtain ⟨k, hk, rfl, HT, HW⟩ := hrel
      by_cases hlt : k < N
      · have hka : k < la.length := by rw [HN.out]; exact hlt
        have hkb : k < lb.length := by rw [HM.out]; exact hlt
        obtain ⟨b, off, rfl, c1, c2, hb⟩ := HA.out k hka
        obtain ⟨b', off', rfl, c1', c2', hb'⟩ := HB.out k hkb
        have d1 := (HW.out.cell (p := ⟨b, off + k * 2, none⟩) hb).trans c1
        have d2 := (HW.out.cell (p := ⟨b, off + k * 2 + 1, none⟩) hb).trans c2
        have e1 := (HW.out.cell (p := ⟨b', off' + k * 2, none⟩) hb').trans c1'
        have e2 := (HW.out.cell (p := ⟨b', off' + k * 2 + 1, none⟩) hb').trans c2'
        have HEQ : Hid (la.getD k (0, 0) = lb.getD k (0, 0) → la.take (k + 1) = lb.take (k + 1)) := take_eq_snoc HT.out hka hkb
        have HNE : Hid (la.getD k (0, 0) ≠ lb.getD k (0, 0) → decide (la = lb) = false) := ne_of_at
        clear c1 c2 c1' c2'
        generalize la.getD k (0, 0) = x at *
        generalize lb.getD k (0, 0) = y at *
        obtain ⟨xa, xs⟩ := x
        obtain ⟨ya, ys⟩ := y
        dsimp only at d1 d2 e1 e2
        have hk1 : (k : Int) < (N : Int) := by omega
        by_cases h1 : xa = ya
        · subst h1
          have h1' : (xa != xa) = false := by simp
          by_cases h2 : xs = ys
          · subst h2
            have h2' : (xs != xs) = false := by simp
            go_wp2
            go_quiet (fail)
            go_wp2
            go_roundw
            case rel => exact ⟨k + 1, by omega, by simp, HEQ.out (by first | rfl | trivial), below_drewN HW.out _⟩
            case measure => simp [intOf]; omega
          · have h2' : (xs != ys) = true := by simp [h2]
            go_wp2
            go_quiet (fail)
            go_wp2
            go_ret
            exact ⟨ret_boolX (HNE.out (fun e => h2 (by injection e))).symm, below_drewN HW.out _⟩
        · have h1' : (xa != ya) = true := by simp [h1]
          go_wp2
          go_quiet (fail)
          go_wp2
          go_ret
          exact ⟨ret_boolX (HNE.out (fun e => h1 (by injection e))).symm, below_drewN HW.out _⟩
      · obtain rfl : k = N := by omega
        have HF : Hid (decide (la = lb) = true) := by
          have h := HT.out
          rw [List.take_of_length_le (by rw [HN.out]; omega), List.take_of_length_le (by rw [HM.out]; omega)] at h
          unfold Hid; rw [decide_eq_true_eq]; exact h
        go_wp2
        go_ret
        exact ⟨ret_boolX HF.out.symm, HW.out⟩
  · have HF : Hid (decide (la = lb) = false) := by
      unfold Hid; rw [decide_eq_false_iff_not]; intro h; apply hNM; rw [← HN.out, ← HM.out, h]
    have hne : ((N : Int) != (M : Int)) = true := by simp; omega
    go_enter Tryd.func17, Tryd.ntmps17
    go_wp2
    go_ret
    exact ⟨ret_boolX HF.out.symm, Below.refl _ _⟩
end Go.Proofs.YtkiccnedmejnaabDoor
