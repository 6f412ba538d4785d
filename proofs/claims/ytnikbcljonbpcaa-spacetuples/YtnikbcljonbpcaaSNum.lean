/-
  The program's small functions over lists of numbers: is a number in it, the product, an extent's elements, is it a list of a rank, does a tuple lie outside. Conditions: lengths are such as memory bears.
-/
import Derived.Test.YtnikbcljonbpcaaSMem
namespace Go.Proofs.Ytnikbcljonbpcaa
open Go.RowKit
set_option linter.unusedVariables false
set_option maxRecDepth 100000

theorem wrap_i64_in (n : Int) (h0 : -9223372036854775808 ≤ n) (h1 : n ≤ 9223372036854775807) : IntKind.i64.wrap n = n := by rw [IntKind.wrap_i64]; omega
theorem bel_same {w w' : World} (h : w' = w) : Below w.heap.size w w' := by subst h; exact Below.refl _ _
/-- Where a number stands first. -/
def idx0 (l : List Int) : Int := match l.findIdx? (fun x => decide (x = 0)) with | some i => (i : Int) | none => -1
set_option maxHeartbeats 4000000 in
theorem index_any (l : List Int) (v : Value) (w : World) (h : Is w v l) : Calls Try.prog 39 #[v, .int .i64 0] w fun e w' => (∃ n : Int, e = .returned (.int .i64 n) ∧ (0 ≤ n ↔ (0 : Int) ∈ l)) ∧ Below w.heap.size w w' := by
  have HI : Hid _ := h
  obtain ⟨ao, n, cap, rfl, hn, hc, hb⟩ := h.open
  have HN : Hid _ := hn
  clear h hn
  go_enter Try.func39, Try.ntmps39
  go_wp2_with fail
  go_loopw [8] (fun y wr => ∃ i : Nat, i ≤ n ∧ y = .int .i64 (i : Int) ∧ Hid (∀ j x, j < i → l[j]? = some x → x ≠ 0) ∧ Hid (Below w.heap.size w wr)) (fun y _ => n - (intOf y).toNat)
  case atStart => exact ⟨0, by omega, by simp, fun j x hj => by omega, Below.refl _ _⟩
  case round =>
    obtain ⟨i, hin, rfl, HP, HB⟩ := hrel
    by_cases h1 : i < n
    · obtain ⟨g, o, x, rfl, hx, hr, c1⟩ := HI.out.at h1
      have d1 : wr.cell? ⟨g, o + i, none⟩ = some (.int .i64 x) := (HB.out.cell (World.block_lt_of_cell? w _ c1)).trans c1
      have HX : Hid _ := hx
      clear c1 hx
      by_cases q1 : x = 0
      · subst q1
        go_wp2_with fail
        go_ret
        exact ⟨⟨(i : Int), rfl, by simp only [Int.natCast_nonneg, true_iff]; exact List.mem_of_getElem? HX.out⟩, HB.out⟩
      · have e1 : decide (0 = x) = false := by simpa using fun e => q1 e.symm
        go_wp2_with fail
        go_roundw
        case rel => exact ⟨i + 1, by omega, by simp, fun j y hj hy => by
          rcases Nat.lt_or_ge j i with h2 | h2
          · exact HP.out j y h2 hy
          · obtain rfl : j = i := by omega
            rw [HX.out] at hy
            injection hy with e
            exact e ▸ q1, HB.out⟩
        case measure => simp [intOf]; omega
    · go_wp2_with fail
      go_ret
      refine ⟨⟨-1, rfl, ⟨fun e => by omega, fun hm => ?_⟩⟩, HB.out⟩
      obtain ⟨j, hj⟩ := List.mem_iff_getElem?.1 hm
      have hjl := (List.getElem?_eq_some_iff.1 hj).1
      rw [HN.out] at hjl
      exact absurd rfl (HP.out j 0 (by omega) hj)
theorem contains_any (l : List Int) (v : Value) (w : World) (h : Is w v l) : Calls Try.prog 32 #[v, .int .i64 0] w fun e w' => e = .returned (.bool (decide ((0 : Int) ∈ l))) ∧ Below w.heap.size w w' := by
  have HI : Hid _ := h
  obtain ⟨ao, n, cap, rfl, hn, hc, hb⟩ := h.open
  clear h hn
  go_enter Try.func32, Try.ntmps32
  go_wp2_with (go_at_call 39; refine (index_any _ _ _ HI.out).mono ?_; rintro e w1 ⟨⟨m, rfl, hm⟩, hb1⟩; have HM : Hid _ := hm; have HB1 : Hid _ := hb1; clear hm hb1)
  go_ret
  refine ⟨?_, HB1.out⟩
  by_cases h0 : (0 : Int) ∈ l
  · have := HM.out.2 h0
    simp [h0, this]
  · have h9 : ¬ 0 ≤ m := fun e => h0 (HM.out.1 e)
    simp [h0, h9]
    try omega
set_option maxHeartbeats 4000000 in
theorem product_any (l : List Int) (v : Value) (most : Int) (w : World) (h : Is w v l) (h0 : ∀ x ∈ l, 0 ≤ x) (hm1 : 1 ≤ most) (hm2 : most ≤ 1048576) : Calls Try.prog 24 #[v, .int .i64 most] w fun e w' => e = .returned (.tuple #[.int .i64 (prodM most l).1, .bool (prodM most l).2]) ∧ Below w.heap.size w w' := by
  have HI : Hid _ := h
  have H0 : Hid _ := h0
  obtain ⟨ao, n, cap, rfl, hn, hc, hb⟩ := h.open
  have HN : Hid _ := hn
  clear h hn h0
  by_cases hz : (0 : Int) ∈ l
  · have HC : Hid (Calls Try.prog 32 #[.slice ao n cap, .int .i64 0] w fun e w' => e = .returned (.bool true) ∧ Below w.heap.size w w') := by
      have := contains_any l _ w HI.out
      rwa [decide_eq_true hz] at this
    have HP : Hid (prodM most l = (0, true)) := prodM_zero hz (by omega)
    clear hz
    go_enter Try.func24, Try.ntmps24
    go_wp2_with (go_at_call 32; refine Calls.mono HC.out ?_; rintro e w1 ⟨rfl, hb1⟩; have HB1 : Hid _ := hb1; clear hb1)
    go_ret2
    exact ⟨by rw [HP.out]; rfl, HB1.out⟩
  · have HC : Hid (Calls Try.prog 32 #[.slice ao n cap, .int .i64 0] w fun e w' => e = .returned (.bool false) ∧ Below w.heap.size w w') := by
      have := contains_any l _ w HI.out
      rwa [decide_eq_false hz] at this
    have HP : Hid (prodM most l = prodG most l 1) := prodM_eq H0.out hz hm1
    have HZ : Hid _ := hz
    clear hz
    go_enter Try.func24, Try.ntmps24
    go_wp2_with (go_at_call 32; refine Calls.mono HC.out ?_; rintro e w1 ⟨rfl, hb1⟩; have HB1 : Hid _ := hb1; clear hb1)
    go_loopw [13, 6] (fun y z wr => ∃ (i : Nat) (p : Int), i ≤ n ∧ y = .int .i64 (i : Int) ∧ z = .int .i64 p ∧ 1 ≤ p ∧ p ≤ most ∧ Hid (prodM most l = prodG most (l.drop i) p) ∧ Hid (Below w.heap.size w wr)) (fun y _ _ => n - (intOf y).toNat)
    case atStart => exact ⟨0, 1, by omega, by simp, rfl, by omega, by omega, HP.out, HB1.out⟩
    case round =>
      obtain ⟨i, p, hin, rfl, rfl, hp1, hp2, HPP, HB⟩ := hrel
      by_cases h1 : i < n
      · obtain ⟨g, o, x, rfl, hx, hr, c1⟩ := HI.out.at h1
        have d1 : wr.cell? ⟨g, o + i, none⟩ = some (.int .i64 x) := (HB.out.cell (World.block_lt_of_cell? w _ c1)).trans c1
        have hx0 : 0 ≤ x := H0.out x (List.mem_of_getElem? hx)
        have hxn : x ≠ 0 := fun e => HZ.out (e ▸ List.mem_of_getElem? hx)
        have HX : Hid (prodM most l = if most / p < x then (0, false) else prodG most (l.drop (i + 1)) (p * x)) := by
          obtain ⟨hl, rfl⟩ := List.getElem?_eq_some_iff.1 hx
          rw [Hid, HPP.out, List.drop_eq_getElem_cons hl, prodG]
        clear c1 hx
        have hq0 : 0 ≤ most / p := Int.ediv_nonneg (by omega) (by omega)
        have hq1 : most / p ≤ most := Int.ediv_le_self _ (by omega)
        have HQ : Hid (most.tdiv p = most / p) := Int.tdiv_eq_ediv_of_nonneg (by omega)
        have hpn : (p == 0) = false := by simpa using (by omega : p ≠ 0)
        have hpn2 : p ≠ 0 := by omega
        have hpn3 : p ≠ -1 := by omega
        have hw1 : IntKind.i64.wrap (most.tdiv p) = most / p := by rw [HQ.out]; exact wrap_i64_in _ (by omega) (by omega)
        by_cases q1 : most / p < x
        · have HV : Hid (prodM most l = (0, false)) := by rw [Hid, HX.out, if_pos q1]
          have e1 : decide (most / p < x) = true := by simpa using q1
          go_wp2_with fail
          go_ret2
          exact ⟨by rw [HV.out]; rfl, HB.out⟩
        · have HV : Hid (prodM most l = prodG most (l.drop (i + 1)) (p * x)) := by rw [Hid, HX.out, if_neg q1]
          have e1 : decide (most / p < x) = false := by simpa using q1
          have hpx : p * x ≤ most := by
            have := Int.mul_le_mul_of_nonneg_left (show x ≤ most / p by omega) (show 0 ≤ p by omega)
            have h3 := Int.mul_ediv_self_le (x := most) (k := p) (by omega)
            omega
          have hpx1 : 1 * 1 ≤ p * x := Int.mul_le_mul hp1 (by omega) (by omega) (by omega)
          have hw2 : IntKind.i64.wrap (p * x) = p * x := wrap_i64_in _ (by omega) (by omega)
          go_wp2_with fail
          go_roundw
          case rel => exact ⟨i + 1, p * x, by omega, by simp, rfl, by omega, hpx, HV.out, HB.out⟩
          case measure => simp [intOf]; omega
      · go_wp2_with fail
        go_ret2
        refine ⟨?_, HB.out⟩
        rw [HPP.out, List.drop_of_length_le (by rw [HN.out]; omega)]
        rfl
/-- Which numbers may be dimensions. -/
def dimB (x : Int) : Bool := decide (0 ≤ x) && decide (x ≤ 1048576)
set_option maxHeartbeats 4000000 in
theorem elements_any (D : List Int) (v : Value) (w : World) (h : Is w v D) : Calls Try.prog 9 #[v] w fun e w' => e = .returned (.tuple #[.int .i64 (elN D), .int .i64 (elE D)]) ∧ Below w.heap.size w w' := by
  have HI : Hid _ := h
  obtain ⟨ao, n, cap, rfl, hn, hc, hb⟩ := h.open
  have HN : Hid _ := hn
  clear h hn
  by_cases hr : n ≤ 4
  · have hr1 : decide (4 < (n : Int)) = false := by simpa using (by omega : ¬ 4 < (n : Int))
    go_enter Try.func9, Try.ntmps9
    go_wp2_with fail
    go_loopw [13] (fun y wr => ∃ i : Nat, i ≤ n ∧ y = .int .i64 (i : Int) ∧ Hid (∀ x ∈ D.take i, 0 ≤ x ∧ x ≤ 1048576) ∧ Hid (Below w.heap.size w wr)) (fun y _ => n - (intOf y).toNat)
    case atStart => exact ⟨0, by omega, by simp, fun x hx => by simp at hx, Below.refl _ _⟩
    case round =>
      obtain ⟨i, hin, rfl, HP, HB⟩ := hrel
      by_cases h1 : i < n
      · obtain ⟨g, o, x, rfl, hx, hxr, c1⟩ := HI.out.at h1
        have d1 : wr.cell? ⟨g, o + i, none⟩ = some (.int .i64 x) := (HB.out.cell (World.block_lt_of_cell? w _ c1)).trans c1
        have HX : Hid _ := hx
        have HBAD : Hid (¬ (0 ≤ x ∧ x ≤ 1048576) → elN D = 0 ∧ elE D = 2) := by
          intro hbad
          have : dimsB D = false := by
            unfold dimsB
            have h3 : (D.all fun x => decide (0 ≤ x) && decide (x ≤ 1048576)) = false := by
              rw [List.all_eq_false]
              refine ⟨x, List.mem_of_getElem? HX.out, ?_⟩
              simpa using hbad
            rw [h3, Bool.and_false]
          simp [elN, elE, this]
        clear c1 hx
        by_cases q1 : x < 0
        · have e1 : decide (x < 0) = true := by simpa using q1
          have HV := HBAD.out (by omega)
          have HV' : Hid _ := HV
          clear HV HBAD
          go_wp2_with fail
          go_ret2
          exact ⟨by rw [HV'.out.1, HV'.out.2]; rfl, HB.out⟩
        · have e1 : decide (x < 0) = false := by simpa using q1
          by_cases q2 : 1048576 < x
          · have e2 : decide (1048576 < x) = true := by simpa using q2
            have HV := HBAD.out (by omega)
            have HV' : Hid _ := HV
            clear HV HBAD
            go_wp2_with fail
            go_ret2
            exact ⟨by rw [HV'.out.1, HV'.out.2]; rfl, HB.out⟩
          · have e2 : decide (1048576 < x) = false := by simpa using q2
            clear HBAD
            go_wp2_with fail
            go_roundw
            case rel =>
              refine ⟨i + 1, by omega, by simp, fun y hy => ?_, HB.out⟩
              rw [List.take_add_one, HX.out] at hy
              rcases List.mem_append.1 hy with h3 | h3
              · exact HP.out y h3
              · have : y = x := by simpa using h3
                omega
            case measure => simp [intOf]; omega
      · have HD : Hid (∀ x ∈ D, 0 ≤ x ∧ x ≤ 1048576) := fun x hx => HP.out x (by rwa [List.take_of_length_le (by rw [HN.out]; omega)])
        have HDB : Hid (dimsB D = true) := by
          rw [Hid, dimsB, Bool.and_eq_true]
          refine ⟨by rw [HN.out]; simpa using hr, ?_⟩
          rw [List.all_eq_true]
          intro x hx
          have := HD.out x hx
          simp [this.1, this.2]
        have HPR : Hid _ := product_any D _ 1048576 wr (HI.out.below HB.out) (fun x hx => (HD.out x hx).1) (by omega) (by omega)
        obtain ⟨r1, HR1⟩ : ∃ r1, Hid ((prodM 1048576 D).1 = r1) := ⟨_, rfl⟩
        cases hr2 : (prodM 1048576 D).2 with
        | true =>
          rw [HR1.out, hr2] at HPR
          have HE : Hid (elN D = r1 ∧ elE D = 0) := by
            unfold prodM at HR1 hr2
            by_cases hp : prd D ≤ 1048576
            · rw [if_pos hp] at HR1
              have h9 : prd D = r1 := HR1.out
              exact ⟨by rw [elN, if_pos ⟨HDB.out, hp⟩]; exact h9, by rw [elE, if_pos HDB.out, if_pos hp]⟩
            · rw [if_neg hp] at hr2
              cases hr2
          clear hr2
          go_wp2_with (go_at_call 24; refine Calls.mono HPR.out ?_; rintro e w1 ⟨rfl, hb1⟩; have HB1 : Hid _ := hb1; clear hb1)
          go_ret2
          exact ⟨by rw [HE.out.1, HE.out.2]; rfl, HB.out.trans (HB1.out.mono HB.out.size)⟩
        | false =>
          rw [HR1.out, hr2] at HPR
          have HE : Hid (elN D = 0 ∧ elE D = 3) := by
            unfold prodM at HR1 hr2
            by_cases hp : prd D ≤ 1048576
            · rw [if_pos hp] at hr2
              cases hr2
            · simp [Hid, elN, elE, HDB.out, hp]
          clear hr2
          go_wp2_with (go_at_call 24; refine Calls.mono HPR.out ?_; rintro e w1 ⟨rfl, hb1⟩; have HB1 : Hid _ := hb1; clear hb1)
          go_ret2
          exact ⟨by rw [HE.out.1, HE.out.2]; rfl, HB.out.trans (HB1.out.mono HB.out.size)⟩
  · have hr1 : decide (4 < (n : Int)) = true := by simpa using (by omega : 4 < (n : Int))
    have HV : Hid (elN D = 0 ∧ elE D = 2) := by
      have : dimsB D = false := by unfold dimsB; rw [HN.out, decide_eq_false hr, Bool.false_and]
      simp [Hid, elN, elE, this]
    go_enter Try.func9, Try.ntmps9
    go_wp2_with fail
    go_ret2
    exact ⟨by rw [HV.out.1, HV.out.2]; rfl, Below.refl _ _⟩
end Go.Proofs.Ytnikbcljonbpcaa
