/-
  The program's axes: is one empty, does it fit, how many numbers, which one. Conditions: its numbers are not below 0, and what is added fits.
-/
import Derived.Test.YtnikbcljonbpcaaSNum
import Derived.Shelf.Abstract
namespace Go.Proofs.Ytnikbcljonbpcaa
open Go.RowKit Go.Shelf
set_option linter.unusedVariables false
set_option maxRecDepth 100000

structure AxOk (a : Ax) : Prop where
  s0 : 0 ≤ a.st
  s1 : a.st ≤ 9223372036854775807
  d0 : 0 ≤ a.sd
  d1 : a.sd ≤ 9223372036854775807
  c0 : 0 ≤ a.ct
  c1 : a.ct ≤ 9223372036854775807
  b0 : 0 ≤ a.bl
  b1 : a.bl ≤ 9223372036854775807
theorem wrap64_in (n : Int) (h0 : -9223372036854775808 ≤ n) (h1 : n ≤ 9223372036854775807) : wrap64 n = n := by unfold wrap64; omega
def axV (a : Ax) : Value := .agg #[.int .i64 a.st, .int .i64 a.sd, .int .i64 a.ct, .int .i64 a.bl]
def emptyB (a : Ax) : Bool := decide (a.ct = 0) || decide (a.bl = 0)
theorem isEmpty_any (a : Ax) (w : World) : Calls Try.prog 47 #[axV a] w fun e w' => e = .returned (.bool (emptyB a)) ∧ Below w.heap.size w w' := by
  obtain ⟨st, sd, ct, bl⟩ := a
  unfold axV emptyB
  simp only []
  by_cases h1 : ct = 0
  · subst h1
    go_enter Try.func47, Try.ntmps47
    go_wp2_with fail
    go_ret
    exact ⟨rfl, (Below.refl _ _).alloc (Nat.le_refl _) _⟩
  · have e1 : decide (ct = 0) = false := by simpa using h1
    rw [e1, Bool.false_or]
    by_cases h2 : bl = 0
    · subst h2
      go_enter Try.func47, Try.ntmps47
      go_wp2_with fail
      go_ret
      exact ⟨rfl, (Below.refl _ _).alloc (Nat.le_refl _) _⟩
    · have e2 : decide (bl = 0) = false := by simpa using h2
      rw [e2]
      go_enter Try.func47, Try.ntmps47
      go_wp2_with fail
      go_ret
      exact ⟨congrArg (fun b => Ending.returned (Value.bool b)) (show (ct == 0 || bl == 0) = false by simp [h1, h2]), (Below.refl _ _).alloc (Nat.le_refl _) _⟩
theorem alen_eq (a : Ax) (w : World) (h0 : 0 ≤ a.ct * a.bl) (h1 : a.ct * a.bl ≤ 9223372036854775807) : Calls Try.prog 50 #[axV a] w fun e w' => e = .returned (.int .i64 (a.ct * a.bl)) ∧ w' = w.alloc (.cells #[.int .i64 a.st, .int .i64 a.sd, .int .i64 a.ct, .int .i64 a.bl] 71) := by
  obtain ⟨st, sd, ct, bl⟩ := a
  simp only [axV] at *
  have hw : IntKind.i64.wrap (ct * bl) = ct * bl := wrap_i64_in _ (by omega) (by omega)
  go_enter Try.func50, Try.ntmps50
  go_wp2_with fail
  go_ret
  exact ⟨rfl, rfl⟩
theorem alen_any (a : Ax) (w : World) (h0 : 0 ≤ a.ct * a.bl) (h1 : a.ct * a.bl ≤ 9223372036854775807) : Calls Try.prog 50 #[axV a] w fun e w' => e = .returned (.int .i64 (a.ct * a.bl)) ∧ Below w.heap.size w w' :=
  (alen_eq a w h0 h1).mono fun e w' ⟨h2, h3⟩ => ⟨h2, by rw [h3]; exact (Below.refl _ _).alloc (Nat.le_refl _) _⟩
set_option maxHeartbeats 4000000 in
theorem at_eq (a : Ax) (k : Nat) (w : World) (hk : (k : Int) ≤ 1048576) (hb : 1 ≤ a.bl) (hs0 : 0 ≤ a.st) (hs1 : a.st ≤ 1048576) (h0 : 0 ≤ (k : Int) / a.bl * a.sd) (h1 : (k : Int) / a.bl * a.sd ≤ 1048576) (hm : (k : Int) % a.bl ≤ 1048576) : Calls Try.prog 48 #[axV a, .int .i64 (k : Int)] w fun e w' => e = .returned (.int .i64 (atA a k)) ∧ w' = (w.alloc (.cells #[.int .i64 a.st, .int .i64 a.sd, .int .i64 a.ct, .int .i64 a.bl] 71)).drew := by
  obtain ⟨st, sd, ct, bl⟩ := a
  simp only [axV, atA] at *
  have hm0 : 0 ≤ (k : Int) % bl := Int.emod_nonneg _ (by omega)
  have hq0 : 0 ≤ (k : Int) / bl := Int.ediv_nonneg (by omega) (by omega)
  have hq1 : (k : Int) / bl ≤ k := Int.ediv_le_self _ (by omega)
  have hA : wrap64 (wrap64 (st + wrap64 (wrap64 ((k : Int) / bl) * sd)) + (k : Int) % bl) = st + (k : Int) / bl * sd + (k : Int) % bl := by
    rw [wrap64_in ((k : Int) / bl) (by omega) (by omega), wrap64_in ((k : Int) / bl * sd) (by omega) (by omega), wrap64_in (st + (k : Int) / bl * sd) (by omega) (by omega), wrap64_in _ (by omega) (by omega)]
  have HA : Hid _ := hA
  have hbn : (bl == 0) = false := by simpa using (by omega : bl ≠ 0)
  have hbn2 : bl ≠ 0 := by omega
  have hbn3 : bl ≠ -1 := by omega
  clear hA
  go_enter Try.func48, Try.ntmps48
  go_wp2_with fail
  go_region
  go_wp2_with fail
  go_ret
  exact ⟨rfl, rfl⟩
theorem at_any (a : Ax) (k : Nat) (w : World) (hk : (k : Int) ≤ 1048576) (hb : 1 ≤ a.bl) (hs0 : 0 ≤ a.st) (hs1 : a.st ≤ 1048576) (h0 : 0 ≤ (k : Int) / a.bl * a.sd) (h1 : (k : Int) / a.bl * a.sd ≤ 1048576) (hm : (k : Int) % a.bl ≤ 1048576) : Calls Try.prog 48 #[axV a, .int .i64 (k : Int)] w fun e w' => e = .returned (.int .i64 (atA a k)) ∧ Below w.heap.size w w' :=
  (at_eq a k w hk hb hs0 hs1 h0 h1 hm).mono fun e w' ⟨h2, h3⟩ => ⟨h2, by rw [h3]; exact ((Below.refl _ _).alloc (Nat.le_refl _) _).drew⟩
set_option maxHeartbeats 4000000 in
theorem fits_any (a : Ax) (n : Int) (w : World) (ha : AxOk a) (hn0 : 0 ≤ n) (hn1 : n ≤ 1048576) (hb : 1 ≤ a.bl) (hc : 1 ≤ a.ct) : Calls Try.prog 40 #[axV a, .int .i64 n] w fun e w' => e = .returned (.bool (fitB n a)) ∧ Below w.heap.size w w' := by
  obtain ⟨s0, s1, d0, d1, c0, c1, b0, b1⟩ := ha
  obtain ⟨st, sd, ct, bl⟩ := a
  simp only [axV, fitB] at *
  have w0 : IntKind.i64.wrap (n - 1) = n - 1 := wrap_i64_in _ (by omega) (by omega)
  have w1 : IntKind.i64.wrap (n - 1 - st) = n - 1 - st := wrap_i64_in _ (by omega) (by omega)
  have w2 : IntKind.i64.wrap (bl - 1) = bl - 1 := wrap_i64_in _ (by omega) (by omega)
  by_cases h1 : bl - 1 ≤ n - 1 - st
  · have e1 : decide (bl - 1 ≤ n - 1 - st) = true := by simpa using h1
    have e1' : decide (n - 1 - st < bl - 1) = false := by simpa using (by omega : ¬ n - 1 - st < bl - 1)
    have w3 : IntKind.i64.wrap (n - 1 - st - (bl - 1)) = n - 1 - st - (bl - 1) := wrap_i64_in _ (by omega) (by omega)
    have w4 : IntKind.i64.wrap (ct - 1) = ct - 1 := wrap_i64_in _ (by omega) (by omega)
    rw [e1, Bool.true_and]
    by_cases h2 : sd = 0
    · subst h2
      go_enter Try.func40, Try.ntmps40
      go_wp2_with fail
      go_region
      go_wp2_with fail
      go_ret
      exact ⟨rfl, ((Below.refl _ _).alloc (Nat.le_refl _) _).drew⟩
    · have e2 : decide (sd = 0) = false := by simpa using h2
      rw [e2, Bool.false_or]
      have hbn : (sd == 0) = false := by simpa using h2
      have hbn3 : sd ≠ -1 := by omega
      have hr0 : 0 ≤ n - 1 - st - (bl - 1) := by omega
      go_enter Try.func40, Try.ntmps40
      go_wp2_with fail
      go_region
      go_wp2_with fail
      go_ret
      exact ⟨rfl, ((Below.refl _ _).alloc (Nat.le_refl _) _).drew⟩
  · have e1 : decide (bl - 1 ≤ n - 1 - st) = false := by simpa using h1
    have e1' : decide (n - 1 - st < bl - 1) = true := by simpa using (by omega : n - 1 - st < bl - 1)
    rw [e1, Bool.false_and]
    go_enter Try.func40, Try.ntmps40
    go_wp2_with fail
    go_ret
    exact ⟨rfl, (Below.refl _ _).alloc (Nat.le_refl _) _⟩
/-- A slice that reads as axes. -/
structure Axs (w : World) (v : Value) (A : List Ax) : Prop where
  len : A.length ≤ 4
  ok : ∀ a ∈ A, AxOk a
  is : ∃ ao cap, v = .slice ao A.length cap ∧ A.length ≤ cap ∧ ∀ i a, A[i]? = some a → ∃ g o, ao = some ⟨g, o, none⟩ ∧ w.cell? ⟨g, o + i * 4, none⟩ = some (.int .i64 a.st) ∧ w.cell? ⟨g, o + i * 4 + 1, none⟩ = some (.int .i64 a.sd) ∧ w.cell? ⟨g, o + i * 4 + 2, none⟩ = some (.int .i64 a.ct) ∧ w.cell? ⟨g, o + i * 4 + 3, none⟩ = some (.int .i64 a.bl)
theorem Axs.below {w w' : World} {v : Value} {A : List Ax} (h : Axs w v A) (hb : Below w.heap.size w w') : Axs w' v A := by
  obtain ⟨h1, h2, ao, cap, rfl, h3, h4⟩ := h
  refine ⟨h1, h2, ao, cap, rfl, h3, fun i x hx => ?_⟩
  obtain ⟨g, o, rfl, c0, c1, c2, c3⟩ := h4 i x hx
  exact ⟨g, o, rfl, (hb.cell (World.block_lt_of_cell? w _ c0)).trans c0, (hb.cell (World.block_lt_of_cell? w _ c1)).trans c1, (hb.cell (World.block_lt_of_cell? w _ c2)).trans c2, (hb.cell (World.block_lt_of_cell? w _ c3)).trans c3⟩
theorem Axs.open {w : World} {v : Value} {A : List Ax} (h : Axs w v A) : ∃ ao n cap, v = .slice ao n cap ∧ A.length = n ∧ n ≤ cap ∧ n ≤ 4 := by
  obtain ⟨h1, h2, ao, cap, rfl, h3, h4⟩ := h
  exact ⟨ao, _, cap, rfl, rfl, h3, h1⟩
theorem Axs.at {w : World} {ao : Option Addr} {n cap : Nat} {A : List Ax} (h : Axs w (.slice ao n cap) A) {i : Nat} (hi : i < n) : ∃ g o a, ao = some ⟨g, o, none⟩ ∧ A[i]? = some a ∧ AxOk a ∧ w.cell? ⟨g, o + i * 4, none⟩ = some (.int .i64 a.st) ∧ w.cell? ⟨g, o + i * 4 + 1, none⟩ = some (.int .i64 a.sd) ∧ w.cell? ⟨g, o + i * 4 + 2, none⟩ = some (.int .i64 a.ct) ∧ w.cell? ⟨g, o + i * 4 + 3, none⟩ = some (.int .i64 a.bl) := by
  obtain ⟨h1, h2, ao', cap', e, h3, h4⟩ := h
  injection e with e1 e2 e3
  subst e1 e3
  have hl : i < A.length := by omega
  obtain ⟨g, o, rfl, hc⟩ := h4 i A[i] (List.getElem?_eq_getElem hl)
  exact ⟨g, o, A[i], rfl, List.getElem?_eq_getElem hl, h2 _ (List.getElem_mem hl), hc⟩
set_option maxHeartbeats 4000000 in
theorem idxA_any (w : World) (v : Value) (A : List Ax) (hM : Axs w v A) :
    Calls Try.prog 54 #[v, .func (.func 47) #[] #[]] w fun e w' => ∃ b : Int, e = .returned (.int .i64 b) ∧ decide (0 ≤ b) = A.any emptyB ∧ Below w.heap.size w w' := by
  have HI : Hid (Axs w v A) := hM
  obtain ⟨ao, n, cap, rfl, hn, hc, hb⟩ := hM.open
  have HN : Hid _ := hn
  clear hM hn
  have eg : ∀ args w, (callFunc 47 args).run Try.prog w = .ok (.enter 47 args) w := enters_of Try.func47 (by kernel_rfl) rfl
  go_enter Try.func54, Try.ntmps54
  go_wp2_with fail
  go_loopw [8] (fun x wr => ∃ i : Nat, i ≤ n ∧ x = .int .i64 (i : Int) ∧ Hid ((A.take i).any emptyB = false) ∧ Hid (Below w.heap.size w wr)) (fun x _ => n - (intOf x).toNat)
  case atStart => exact ⟨0, Nat.zero_le _, rfl, rfl, Below.refl _ _⟩
  case round =>
    obtain ⟨i, hin, rfl, HA, HB⟩ := hrel
    by_cases hlt : i < n
    · obtain ⟨g, o, a, rfl, hm, hok, c0, c1, c2, c3⟩ := HI.out.at hlt
      have d0 := (HB.out.cell (World.block_lt_of_cell? w _ c0)).trans c0
      have d1 := (HB.out.cell (World.block_lt_of_cell? w _ c1)).trans c1
      have d2 := (HB.out.cell (World.block_lt_of_cell? w _ c2)).trans c2
      have d3 := (HB.out.cell (World.block_lt_of_cell? w _ c3)).trans c3
      have HT : Hid ((A.take (i + 1)).any emptyB = emptyB a) := by unfold Hid; rw [List.take_add_one, hm, List.any_append, HA.out]; simp
      have hili : (i : Int) < (n : Int) := by omega
      have HALL : Hid (emptyB a = true → A.any emptyB = true) := fun h => List.any_eq_true.2 ⟨a, List.mem_of_getElem? hm, h⟩
      obtain ⟨b, hb⟩ : ∃ b, emptyB a = b := ⟨_, rfl⟩
      have HF : Hid _ := isEmpty_any a wr
      unfold axV at HF
      rw [hb] at HF HT HALL
      clear c0 c1 c2 c3 hm hb hok
      cases b with
      | true =>
        have HAL : Hid (A.any emptyB = true) := HALL.out rfl
        clear HALL
        go_wp2_with (go_at_call 47; refine Calls.mono HF.out ?_; rintro e w1 ⟨rfl, hb1⟩; have HB1 : Hid (Below w.heap.size w w1) := HB.out.trans (hb1.mono HB.out.size); clear hb1)
        go_ret
        exact ⟨_, rfl, by rw [HAL.out]; simp, HB1.out⟩
      | false =>
        clear HALL
        go_wp2_with (go_at_call 47; refine Calls.mono HF.out ?_; rintro e w1 ⟨rfl, hb1⟩; have HB1 : Hid (Below w.heap.size w w1) := HB.out.trans (hb1.mono HB.out.size); clear hb1)
        go_roundw
        case rel => exact ⟨i + 1, by omega, by simp, HT.out, HB1.out⟩
        case measure => simp [intOf]; omega
    · have HE : Hid (A.any emptyB = false) := by rw [Hid, ← HA.out, List.take_of_length_le (by rw [HN.out]; omega)]
      go_wp2_with fail
      go_ret
      exact ⟨_, rfl, by rw [HE.out]; rfl, HB.out⟩
theorem hasA_any (w : World) (v : Value) (A : List Ax) (hM : Axs w v A) :
    Calls Try.prog 46 #[v, .func (.func 47) #[] #[]] w fun e w' => e = .returned (.bool (A.any emptyB)) ∧ Below w.heap.size w w' := by
  have HI : Hid _ := idxA_any w v A hM
  obtain ⟨ao, n, cap, rfl, hn, hc, hb⟩ := hM.open
  clear hM hn
  go_enter Try.func46, Try.ntmps46
  go_wp2_with (go_at_call 54; refine Calls.mono HI.out ?_; rintro e w1 ⟨b, rfl, hd, hb1⟩; have HD : Hid (decide (0 ≤ b) = A.any emptyB) := hd; have HB1 : Hid (Below w.heap.size w w1) := hb1; clear hd hb1)
  go_ret
  exact ⟨by rw [← HD.out]; rfl, HB1.out⟩
/-- isList: as many numbers, none below 0. -/
theorem neg_any (x : Int) (w : World) : Calls Try.prog 52 #[.int .i64 x] w fun e w' => e = .returned (.bool (decide (x < 0))) ∧ w' = w := by
  go_enter Try.func52, Try.ntmps52
  go_wp2_with fail
  go_ret
  exact ⟨rfl, rfl⟩
set_option maxHeartbeats 4000000 in
theorem idxN_any (w : World) (v : Value) (l : List Int) (hM : Is w v l) :
    Calls Try.prog 56 #[v, .func (.func 52) #[] #[]] w fun e w' => ∃ b : Int, e = .returned (.int .i64 b) ∧ decide (0 ≤ b) = l.any (fun x => decide (x < 0)) ∧ Below w.heap.size w w' := by
  have HI : Hid (Is w v l) := hM
  obtain ⟨ao, n, cap, rfl, hn, hc, hb⟩ := hM.open
  have HN : Hid _ := hn
  clear hM hn
  have eg : ∀ args w, (callFunc 52 args).run Try.prog w = .ok (.enter 52 args) w := enters_of Try.func52 (by kernel_rfl) rfl
  obtain ⟨f, HF0⟩ : ∃ f : Int → Bool, Hid ((fun x => decide (x < 0)) = f) := ⟨_, rfl⟩
  rw [HF0.out]
  go_enter Try.func56, Try.ntmps56
  go_wp2_with fail
  go_loopw [8] (fun x wr => ∃ i : Nat, i ≤ n ∧ x = .int .i64 (i : Int) ∧ Hid ((l.take i).any f = false) ∧ Hid (Below w.heap.size w wr)) (fun x _ => n - (intOf x).toNat)
  case atStart => exact ⟨0, Nat.zero_le _, rfl, rfl, Below.refl _ _⟩
  case round =>
    obtain ⟨i, hin, rfl, HA, HB⟩ := hrel
    by_cases hlt : i < n
    · obtain ⟨g, o, a, rfl, hm, hok, c0⟩ := HI.out.at hlt
      have d0 := (HB.out.cell (World.block_lt_of_cell? w _ c0)).trans c0
      have HT : Hid ((l.take (i + 1)).any f = f a) := by unfold Hid; rw [List.take_add_one, hm, List.any_append, HA.out]; simp
      have hili : (i : Int) < (n : Int) := by omega
      have HALL : Hid (f a = true → l.any f = true) := fun h => List.any_eq_true.2 ⟨a, List.mem_of_getElem? hm, h⟩
      obtain ⟨b, hb⟩ : ∃ b, f a = b := ⟨_, rfl⟩
      have HF : Hid _ := neg_any a wr
      rw [show decide (a < 0) = f a from congrFun HF0.out a, hb] at HF
      rw [hb] at HT HALL
      clear c0 hm hb hok
      cases b with
      | true =>
        have HAL : Hid (l.any f = true) := HALL.out rfl
        clear HALL
        go_wp2_with (go_at_call 52; refine Calls.mono HF.out ?_; rintro e w1 ⟨rfl, hw1⟩; obtain rfl := hw1.symm)
        go_ret
        exact ⟨_, rfl, by rw [HAL.out]; simp, HB.out⟩
      | false =>
        clear HALL
        go_wp2_with (go_at_call 52; refine Calls.mono HF.out ?_; rintro e w1 ⟨rfl, hw1⟩; obtain rfl := hw1.symm)
        go_roundw
        case rel => exact ⟨i + 1, by omega, by simp, HT.out, HB.out⟩
        case measure => simp [intOf]; omega
    · have HE : Hid (l.any f = false) := by rw [Hid, ← HA.out, List.take_of_length_le (by rw [HN.out]; omega)]
      go_wp2_with fail
      go_ret
      exact ⟨_, rfl, by rw [HE.out]; rfl, HB.out⟩
theorem hasN_any (w : World) (v : Value) (l : List Int) (hM : Is w v l) :
    Calls Try.prog 51 #[v, .func (.func 52) #[] #[]] w fun e w' => e = .returned (.bool (l.any (fun x => decide (x < 0)))) ∧ Below w.heap.size w w' := by
  have HI : Hid _ := idxN_any w v l hM
  obtain ⟨ao, n, cap, rfl, hn, hc, hb⟩ := hM.open
  clear hM hn
  go_enter Try.func51, Try.ntmps51
  go_wp2_with (go_at_call 56; refine Calls.mono HI.out ?_; rintro e w1 ⟨b, rfl, hd, hb1⟩; have HD : Hid (decide (0 ≤ b) = l.any (fun x => decide (x < 0))) := hd; have HB1 : Hid (Below w.heap.size w w1) := hb1; clear hd hb1)
  go_ret
  exact ⟨by rw [← HD.out]; rfl, HB1.out⟩
theorem isList_any (l : List Int) (v : Value) (rank : Nat) (w : World) (h : Is w v l) (hr : rank ≤ 4) : Calls Try.prog 42 #[v, .int .i64 (rank : Int)] w fun e w' => e = .returned (.bool (okB rank l)) ∧ Below w.heap.size w w' := by
  have HI : Hid _ := hasN_any w v l h
  obtain ⟨ao, n, cap, rfl, hn, hc, hb⟩ := h.open
  have HO : Hid (okB rank l = (decide (n = rank) && !(l.any (fun x => decide (x < 0))))) := by
    rw [Hid, okB, hn]
    congr 1
    rw [List.not_any_eq_all_not]
    refine List.all_congr rfl ?_ |>.trans rfl
    intro x
    by_cases hx : x < 0
    · simp [hx, show ¬ 0 ≤ x by omega]
    · simp [hx, show 0 ≤ x by omega]
  obtain ⟨b, HBB⟩ : ∃ b, Hid (l.any (fun x => decide (x < 0)) = b) := ⟨_, rfl⟩
  rw [HBB.out] at HI HO
  clear h hn
  by_cases h1 : n = rank
  · subst h1
    rw [HO.out, decide_eq_true rfl, Bool.true_and]
    go_enter Try.func42, Try.ntmps42
    go_wp2_with (go_at_call 51; refine Calls.mono HI.out ?_; rintro e w1 ⟨rfl, hb1⟩; have HB1 : Hid (Below w.heap.size w w1) := hb1; clear hb1)
    go_ret
    exact ⟨rfl, HB1.out⟩
  · have e1 : decide ((n : Int) = (rank : Int)) = false := decide_eq_false (by omega)
    rw [HO.out, decide_eq_false h1, Bool.false_and]
    go_enter Try.func42, Try.ntmps42
    go_wp2_with fail
    go_ret
    exact ⟨rfl, Below.refl _ _⟩
set_option maxHeartbeats 4000000 in
theorem isOutside_any (D p : List Int) (vd vp : Value) (w : World) (hD : Is w vd D) (hp : Is w vp p) (hl : D.length = p.length) : Calls Try.prog 43 #[vd, vp] w fun e w' => e = .returned (.bool (outB D p)) ∧ Below w.heap.size w w' := by
  have HI : Hid (Is w vd D) := hD
  have HJ : Hid (Is w vp p) := hp
  obtain ⟨ao, n, cap, rfl, hn, hc, hb⟩ := hD.open
  obtain ⟨bo, m, dap, rfl, hm, hd, hb2⟩ := hp.open
  have HN : Hid _ := hn
  obtain rfl : n = m := by omega
  have HM : Hid _ := hm
  have HL : Hid _ := hl
  clear hD hp hn hm hl
  obtain ⟨f, HF⟩ : ∃ f : Int × Int → Bool, Hid ((fun x : Int × Int => decide (x.1 ≤ x.2)) = f) := ⟨_, rfl⟩
  have HO : Hid (outB D p = (D.zip p).any f) := by rw [Hid, outB, HF.out]
  go_enter Try.func43, Try.ntmps43
  go_wp2_with fail
  go_loopw [9] (fun x wr => ∃ i : Nat, i ≤ n ∧ x = .int .i64 (i : Int) ∧ Hid (((D.zip p).take i).any f = false) ∧ Hid (Below w.heap.size w wr)) (fun x _ => n - (intOf x).toNat)
  case atStart => exact ⟨0, Nat.zero_le _, rfl, rfl, Below.refl _ _⟩
  case round =>
    obtain ⟨i, hin, rfl, HA, HB⟩ := hrel
    by_cases hlt : i < n
    · obtain ⟨g, o, a, rfl, hm, hok, c0⟩ := HI.out.at hlt
      obtain ⟨g2, o2, b, rfl, hm2, hok2, c1⟩ := HJ.out.at hlt
      have d0 := (HB.out.cell (World.block_lt_of_cell? w _ c0)).trans c0
      have d1 := (HB.out.cell (World.block_lt_of_cell? w _ c1)).trans c1
      have hz : (D.zip p)[i]? = some (a, b) := by rw [List.getElem?_zip_eq_some]; exact ⟨hm, hm2⟩
      have HT : Hid (((D.zip p).take (i + 1)).any f = f (a, b)) := by unfold Hid; rw [List.take_add_one, hz, List.any_append, HA.out]; simp
      have hili : (i : Int) < (n : Int) := by omega
      have HALL : Hid (f (a, b) = true → outB D p = true) := fun h => by rw [HO.out]; exact List.any_eq_true.2 ⟨_, List.mem_of_getElem? hz, h⟩
      have hf : f (a, b) = decide (a ≤ b) := (congrFun HF.out (a, b)).symm
      rw [hf] at HT HALL
      clear c0 c1 hm hm2 hok hok2 hz hf
      by_cases q : a ≤ b
      · have e1 : decide (a ≤ b) = true := by simpa using q
        have HAL : Hid (outB D p = true) := HALL.out e1
        clear HALL
        go_wp2_with fail
        go_ret
        exact ⟨by rw [HAL.out]; rfl, HB.out⟩
      · have e1 : decide (a ≤ b) = false := by simpa using q
        rw [e1] at HT
        clear HALL
        go_wp2_with fail
        go_roundw
        case rel => exact ⟨i + 1, by omega, by simp, HT.out, HB.out⟩
        case measure => simp [intOf]; omega
    · have HE : Hid (outB D p = false) := by rw [Hid, HO.out, ← HA.out, List.take_of_length_le (by rw [List.length_zip, HN.out, HM.out]; omega)]
      go_wp2_with fail
      go_ret
      exact ⟨by rw [HE.out]; rfl, HB.out⟩
end Go.Proofs.Ytnikbcljonbpcaa
