/-
  The program's tests over lists of numbers: is it a tuple, is it a shape, do dims and shape fit, may there be so many bytes. Conditions: lengths are such as memory bears.
-/
import Derived.Test.YtneegijbbbebkaaGRefE
import Derived.Shelf.Abstract
import Derived.OwnWalk
namespace Go.Proofs.Ytneegijbbbebkaa
open Go.RowKit Go.Shelf
set_option linter.unusedVariables false
set_option maxRecDepth 100000

theorem okB_iff {n : Nat} {l : List Int} : okB n l = true ↔ l.length = n ∧ ∀ x ∈ l, 0 ≤ x := by
  simp [okB, List.all_eq_true]
def negB (x : Int) : Bool := decide (x < 0)
def badB (x : Int) : Bool := decide (x < 1) || decide (1048576 < x)
theorem neg_any (x : Int) (w : World) : Calls Try.prog 49 #[.int .i64 x] w fun e w' => e = .returned (.bool (negB x)) ∧ Below w.heap.size w w' := by
  go_enter Try.func49, Try.ntmps49
  go_wp2_with fail
  go_ret
  exact ⟨rfl, Below.refl _ _⟩
theorem bad_any (x : Int) (w : World) : Calls Try.prog 50 #[.int .i64 x] w fun e w' => e = .returned (.bool (badB x)) ∧ Below w.heap.size w w' := by
  by_cases h : x < 1
  · have h' : decide (x < 1) = true := by simpa using h
    go_enter Try.func50, Try.ntmps50
    go_wp2_with fail
    go_ret
    exact ⟨by rw [badB, h']; rfl, Below.refl _ _⟩
  · have h' : decide (x < 1) = false := by simpa using h
    go_enter Try.func50, Try.ntmps50
    go_wp2_with fail
    go_ret
    exact ⟨by rw [badB, h', Bool.false_or]; rfl, Below.refl _ _⟩
set_option maxHeartbeats 4000000 in
theorem idxTuple_any (w : World) (v : Value) (l : List Int) (h : Is w v l) :
    Calls Try.prog 57 #[v, .func (.func 49) #[] #[]] w fun e w' => ∃ b : Int, e = .returned (.int .i64 b) ∧ decide (0 ≤ b) = l.any negB ∧ Below w.heap.size w w' := by
  have HI : Hid (Is w v l) := h
  obtain ⟨ao, n, cap, rfl, hn, hc, hb⟩ := h.open
  have HN : Hid (l.length = n) := hn
  have eg : ∀ args w, (callFunc 49 args).run Try.prog w = .ok (.enter 49 args) w := enters_of Try.func49 (by kernel_rfl) rfl
  clear h hn
  go_enter Try.func57, Try.ntmps57
  go_wp2_with fail
  go_loopw [8] (fun x wr => ∃ i : Nat, i ≤ n ∧ x = .int .i64 (i : Int) ∧ Hid ((l.take i).any negB = false) ∧ Hid (Below w.heap.size w wr)) (fun x _ => n - (intOf x).toNat)
  case atStart => exact ⟨0, Nat.zero_le _, rfl, rfl, Below.refl _ _⟩
  case round =>
    obtain ⟨i, hin, rfl, HA, HB⟩ := hrel
    by_cases hlt : i < n
    · obtain ⟨g, o, m, rfl, hm, _, c1⟩ := (HI.out.below HB.out).at hlt
      have HT : Hid ((l.take (i + 1)).any negB = (negB m)) := by unfold Hid; rw [List.take_add_one, hm, List.any_append, HA.out]; simp
      have hili : (i : Int) < (n : Int) := by omega
      have HALL : Hid (negB m = true → l.any negB = true) := fun h => List.any_eq_true.2 ⟨m, List.mem_of_getElem? hm, h⟩
      obtain ⟨b, hb⟩ : ∃ b, negB m = b := ⟨_, rfl⟩
      have HF : Hid _ := neg_any m wr
      rw [hb] at HF
      rw [hb] at HT HALL
      clear hm hb
      cases b with
      | true =>
        have HAL : Hid (l.any negB = true) := HALL.out rfl
        clear HALL
        go_wp2_with (go_at_call 49; refine Calls.mono HF.out ?_; rintro e w1 ⟨rfl, hb1⟩; have HB1 : Hid (Below w.heap.size w w1) := HB.out.trans (hb1.mono HB.out.size); clear hb1)
        go_ret
        exact ⟨_, rfl, by rw [HAL.out]; simp, HB1.out⟩
      | false =>
        clear HALL
        go_wp2_with (go_at_call 49; refine Calls.mono HF.out ?_; rintro e w1 ⟨rfl, hb1⟩; have HB1 : Hid (Below w.heap.size w w1) := HB.out.trans (hb1.mono HB.out.size); clear hb1)
        go_roundw
        case rel => exact ⟨i + 1, by omega, by simp, HT.out, HB1.out⟩
        case measure => simp [intOf]; omega
    · obtain rfl : i = n := by omega
      have HE : Hid (l.any negB = false) := by have h := HA.out; rwa [List.take_of_length_le (by rw [HN.out]; exact Nat.le_refl _)] at h
      go_wp2_with fail
      go_ret
      exact ⟨_, rfl, by rw [HE.out]; rfl, HB.out⟩
theorem hasTuple_any (w : World) (v : Value) (l : List Int) (h : Is w v l) :
    Calls Try.prog 48 #[v, .func (.func 49) #[] #[]] w fun e w' => e = .returned (.bool (l.any negB)) ∧ Below w.heap.size w w' := by
  have HI : Hid _ := idxTuple_any w v l h
  obtain ⟨ao, n, cap, rfl, hn, hc, hb⟩ := h.open
  go_enter Try.func48, Try.ntmps48
  go_wp2_with (go_at_call 57; refine Calls.mono HI.out ?_; rintro e w1 ⟨b, rfl, hd, hb1⟩; have HD : Hid (decide (0 ≤ b) = l.any negB) := hd; have HB1 : Hid (Below w.heap.size w w1) := hb1; clear hd hb1)
  go_ret
  exact ⟨by rw [← HD.out]; rfl, HB1.out⟩
set_option maxHeartbeats 4000000 in
theorem idxShape_any (w : World) (v : Value) (l : List Int) (h : Is w v l) :
    Calls Try.prog 57 #[v, .func (.func 50) #[] #[]] w fun e w' => ∃ b : Int, e = .returned (.int .i64 b) ∧ decide (0 ≤ b) = l.any badB ∧ Below w.heap.size w w' := by
  have HI : Hid (Is w v l) := h
  obtain ⟨ao, n, cap, rfl, hn, hc, hb⟩ := h.open
  have HN : Hid (l.length = n) := hn
  have eg : ∀ args w, (callFunc 50 args).run Try.prog w = .ok (.enter 50 args) w := enters_of Try.func50 (by kernel_rfl) rfl
  clear h hn
  go_enter Try.func57, Try.ntmps57
  go_wp2_with fail
  go_loopw [8] (fun x wr => ∃ i : Nat, i ≤ n ∧ x = .int .i64 (i : Int) ∧ Hid ((l.take i).any badB = false) ∧ Hid (Below w.heap.size w wr)) (fun x _ => n - (intOf x).toNat)
  case atStart => exact ⟨0, Nat.zero_le _, rfl, rfl, Below.refl _ _⟩
  case round =>
    obtain ⟨i, hin, rfl, HA, HB⟩ := hrel
    by_cases hlt : i < n
    · obtain ⟨g, o, m, rfl, hm, _, c1⟩ := (HI.out.below HB.out).at hlt
      have HT : Hid ((l.take (i + 1)).any badB = (badB m)) := by unfold Hid; rw [List.take_add_one, hm, List.any_append, HA.out]; simp
      have hili : (i : Int) < (n : Int) := by omega
      have HALL : Hid (badB m = true → l.any badB = true) := fun h => List.any_eq_true.2 ⟨m, List.mem_of_getElem? hm, h⟩
      obtain ⟨b, hb⟩ : ∃ b, badB m = b := ⟨_, rfl⟩
      have HF : Hid _ := bad_any m wr
      rw [hb] at HF
      rw [hb] at HT HALL
      clear hm hb
      cases b with
      | true =>
        have HAL : Hid (l.any badB = true) := HALL.out rfl
        clear HALL
        go_wp2_with (go_at_call 50; refine Calls.mono HF.out ?_; rintro e w1 ⟨rfl, hb1⟩; have HB1 : Hid (Below w.heap.size w w1) := HB.out.trans (hb1.mono HB.out.size); clear hb1)
        go_ret
        exact ⟨_, rfl, by rw [HAL.out]; simp, HB1.out⟩
      | false =>
        clear HALL
        go_wp2_with (go_at_call 50; refine Calls.mono HF.out ?_; rintro e w1 ⟨rfl, hb1⟩; have HB1 : Hid (Below w.heap.size w w1) := HB.out.trans (hb1.mono HB.out.size); clear hb1)
        go_roundw
        case rel => exact ⟨i + 1, by omega, by simp, HT.out, HB1.out⟩
        case measure => simp [intOf]; omega
    · obtain rfl : i = n := by omega
      have HE : Hid (l.any badB = false) := by have h := HA.out; rwa [List.take_of_length_le (by rw [HN.out]; exact Nat.le_refl _)] at h
      go_wp2_with fail
      go_ret
      exact ⟨_, rfl, by rw [HE.out]; rfl, HB.out⟩
theorem hasShape_any (w : World) (v : Value) (l : List Int) (h : Is w v l) :
    Calls Try.prog 48 #[v, .func (.func 50) #[] #[]] w fun e w' => e = .returned (.bool (l.any badB)) ∧ Below w.heap.size w w' := by
  have HI : Hid _ := idxShape_any w v l h
  obtain ⟨ao, n, cap, rfl, hn, hc, hb⟩ := h.open
  go_enter Try.func48, Try.ntmps48
  go_wp2_with (go_at_call 57; refine Calls.mono HI.out ?_; rintro e w1 ⟨b, rfl, hd, hb1⟩; have HD : Hid (decide (0 ≤ b) = l.any badB) := hd; have HB1 : Hid (Below w.heap.size w w1) := hb1; clear hd hb1)
  go_ret
  exact ⟨by rw [← HD.out]; rfl, HB1.out⟩
/-- Is it a shape of a rank? -/
def shB (n : Nat) (l : List Int) : Bool := decide (l.length = n) && !(l.any badB)
theorem shB_iff {n : Nat} {l : List Int} : shB n l = true ↔ l.length = n ∧ ∀ x ∈ l, 1 ≤ x ∧ x ≤ 1048576 := by
  simp only [shB, Bool.and_eq_true, decide_eq_true_eq, Bool.not_eq_true', List.any_eq_false, badB, Bool.or_eq_true, not_or, Int.not_lt]
theorem okB_neg (n : Nat) (l : List Int) : okB n l = (decide (l.length = n) && !(l.any negB)) := by
  rw [Bool.eq_iff_iff, okB_iff]
  simp only [Bool.and_eq_true, decide_eq_true_eq, Bool.not_eq_true', List.any_eq_false, negB, Int.not_lt]
theorem isTuple_any (w : World) (v : Value) (l : List Int) (r : Nat) (hr : r ≤ 17592186043904) (h : Is w v l) : Calls Try.prog 33 #[v, .int .i64 (r : Int)] w fun e w' => e = .returned (.bool (okB r l)) ∧ Below w.heap.size w w' := by
  have HC : Hid _ := hasTuple_any w v l h
  obtain ⟨ao, n, cap, rfl, hn, hc, hb⟩ := h.open
  have HN : Hid (l.length = n) := hn
  clear h hn
  obtain ⟨b, hb⟩ : ∃ b, l.any negB = b := ⟨_, rfl⟩
  have HBB : Hid (l.any negB = b) := hb
  rw [hb] at HC
  clear hb
  by_cases h1 : n = r
  · have HV : Hid (okB r l = !b) := by rw [Hid, okB_neg, HBB.out, HN.out, decide_eq_true h1, Bool.true_and]
    subst h1
    go_enter Try.func33, Try.ntmps33
    go_wp2_with (go_at_call 48; refine Calls.mono HC.out ?_; rintro e w1 ⟨rfl, hb1⟩; have HB1 : Hid (Below w.heap.size w w1) := hb1; clear hb1)
    go_ret
    exact ⟨by rw [HV.out]; rfl, HB1.out⟩
  · have HV : Hid (okB r l = false) := by rw [Hid, okB_neg, HN.out, decide_eq_false h1, Bool.false_and]
    have e1 : decide ((n : Int) = (r : Int)) = false := by simp; omega
    have e2 : ((n : Int) == (r : Int)) = false := by simp; omega
    go_enter Try.func33, Try.ntmps33
    go_wp2_with fail
    go_ret
    exact ⟨by rw [HV.out]; rfl, Below.refl _ _⟩
theorem isShape_any (w : World) (v : Value) (l : List Int) (r : Nat) (hr : r ≤ 17592186043904) (h : Is w v l) : Calls Try.prog 34 #[v, .int .i64 (r : Int)] w fun e w' => e = .returned (.bool (shB r l)) ∧ Below w.heap.size w w' := by
  have HC : Hid _ := hasShape_any w v l h
  obtain ⟨ao, n, cap, rfl, hn, hc, hb⟩ := h.open
  have HN : Hid (l.length = n) := hn
  clear h hn
  obtain ⟨b, hb⟩ : ∃ b, l.any badB = b := ⟨_, rfl⟩
  have HBB : Hid (l.any badB = b) := hb
  rw [hb] at HC
  clear hb
  by_cases h1 : n = r
  · have HV : Hid (shB r l = !b) := by rw [Hid, shB, HBB.out, HN.out, decide_eq_true h1, Bool.true_and]
    subst h1
    go_enter Try.func34, Try.ntmps34
    go_wp2_with (go_at_call 48; refine Calls.mono HC.out ?_; rintro e w1 ⟨rfl, hb1⟩; have HB1 : Hid (Below w.heap.size w w1) := hb1; clear hb1)
    go_ret
    exact ⟨by rw [HV.out]; rfl, HB1.out⟩
  · have HV : Hid (shB r l = false) := by rw [Hid, shB, HN.out, decide_eq_false h1, Bool.false_and]
    have e1 : decide ((n : Int) = (r : Int)) = false := by simp; omega
    have e2 : ((n : Int) == (r : Int)) = false := by simp; omega
    go_enter Try.func34, Try.ntmps34
    go_wp2_with fail
    go_ret
    exact ⟨by rw [HV.out]; rfl, Below.refl _ _⟩
/-- Why dims and shape do not fit. -/
def fitE (D S : List Int) : Int := if elE D ≠ 0 then elE D else if shB D.length S = false then 2 else elE S
def fitN (D S : List Int) (n : Int) : Int := if fitE D S = 0 then n else 0
theorem fitE_zero {D S : List Int} (h : fitE D S = 0) : elE D = 0 ∧ shB D.length S = true ∧ elE S = 0 := by
  unfold fitE at h
  by_cases h1 : elE D = 0
  · rw [if_neg (by rw [h1]; simp)] at h
    cases h2 : shB D.length S with
    | false => rw [h2, if_pos rfl] at h; omega
    | true => rw [h2, if_neg (by simp)] at h; exact ⟨h1, rfl, h⟩
  · rw [if_pos h1] at h; exact absurd h h1
set_option maxHeartbeats 4000000 in
theorem fit_any (D S : List Int) (vd vs : Value) (w : World) (hD : Is w vd D) (hS : Is w vs S) : Calls Try.prog 31 #[vd, vs] w fun e w' => e = .returned (.tuple #[.int .i64 (fitN D S (elN D)), .int .i64 (fitN D S (elN S)), .int .i64 (fitE D S)]) ∧ Below w.heap.size w w' := by
  have HD : Hid (Is w vd D) := hD
  have HS : Hid (Is w vs S) := hS
  obtain ⟨ao, n, cap, rfl, hn, hc, hb⟩ := hD.open
  obtain ⟨ao2, n2, cap2, rfl, hn2, hc2, hb2⟩ := hS.open
  have HN : Hid (D.length = n) := hn
  obtain ⟨en, HEN⟩ : ∃ en, Hid (elN D = en) := ⟨_, rfl⟩
  obtain ⟨ee, HEE⟩ : ∃ ee, Hid (elE D = ee) := ⟨_, rfl⟩
  obtain ⟨sn, HSN⟩ : ∃ sn, Hid (elN S = sn) := ⟨_, rfl⟩
  obtain ⟨se, HSE⟩ : ∃ se, Hid (elE S = se) := ⟨_, rfl⟩
  obtain ⟨sb, HSB⟩ : ∃ sb, Hid (shB n S = sb) := ⟨_, rfl⟩
  have HE1 : Hid (Calls Try.prog 45 #[.slice ao n cap] w fun e w' => e = .returned (.tuple #[.int .i64 en, .int .i64 ee]) ∧ Below w.heap.size w w') := by
    have := elements_any D _ w hD
    rwa [HEN.out, HEE.out] at this
  have HE2 : Hid (∀ w1, Below w.heap.size w w1 → Calls Try.prog 45 #[.slice ao2 n2 cap2] w1 fun e w' => e = .returned (.tuple #[.int .i64 sn, .int .i64 se]) ∧ Below w1.heap.size w1 w') := fun w1 h1 => by
    have := elements_any S _ w1 (HS.out.below h1)
    rwa [HSN.out, HSE.out] at this
  have HSH : Hid (∀ w1, Below w.heap.size w w1 → Calls Try.prog 34 #[.slice ao2 n2 cap2, .int .i64 (n : Int)] w1 fun e w' => e = .returned (.bool sb) ∧ Below w1.heap.size w1 w') := fun w1 h1 => by
    have := isShape_any w1 _ S n hb (HS.out.below h1)
    rwa [HSB.out] at this
  clear hD hS hn hn2
  have HF : Hid (fitE D S = if ee ≠ 0 then ee else if sb = false then 2 else se) := by rw [Hid, fitE, HEE.out, HN.out, HSB.out, HSE.out]
  by_cases h1 : ee = 0
  · subst h1
    cases sb with
    | false =>
      have HV : Hid (fitE D S = 2) := by rw [Hid, HF.out]; rfl
      go_enter Try.func31, Try.ntmps31
      go_wp2_with (first
        | (go_at_call 45; refine Calls.mono HE1.out ?_; rintro e w1 ⟨rfl, hb1⟩; have HB1 : Hid (Below w.heap.size w w1) := hb1; clear hb1)
        | (go_at_call 34; refine Calls.mono (HSH.out _ HB1.out) ?_; rintro e w2 ⟨rfl, hb2⟩; have HB2 : Hid (Below w.heap.size w w2) := HB1.out.trans (hb2.mono HB1.out.size); clear hb2))
      go_ret3
      exact ⟨by rw [fitN, fitN, HV.out]; rfl, HB2.out⟩
    | true =>
      by_cases h2 : se = 0
      · subst h2
        have HV : Hid (fitE D S = 0) := by rw [Hid, HF.out]; rfl
        go_enter Try.func31, Try.ntmps31
        go_wp2_with (first
          | (have hg := HB2; clear hg; go_at_call 45; refine Calls.mono (HE2.out _ HB2.out) ?_; rintro e w3 ⟨rfl, hb3⟩; have HB3 : Hid (Below w.heap.size w w3) := HB2.out.trans (hb3.mono HB2.out.size); clear hb3)
          | (go_at_call 34; refine Calls.mono (HSH.out _ HB1.out) ?_; rintro e w2 ⟨rfl, hb2⟩; have HB2 : Hid (Below w.heap.size w w2) := HB1.out.trans (hb2.mono HB1.out.size); clear hb2)
          | (go_at_call 45; refine Calls.mono HE1.out ?_; rintro e w1 ⟨rfl, hb1⟩; have HB1 : Hid (Below w.heap.size w w1) := hb1; clear hb1))
        go_ret3
        exact ⟨by rw [fitN, fitN, HV.out, HEN.out, HSN.out]; rfl, HB3.out⟩
      · have HV : Hid (fitE D S = se) := by rw [Hid, HF.out]; rfl
        have HV2 : Hid (∀ x : Int, fitN D S x = 0) := fun x => by rw [fitN, HV.out, if_neg h2]
        have e2 : (se != 0) = true := by simpa using h2
        go_enter Try.func31, Try.ntmps31
        go_wp2_with (first
          | (have hg := HB2; clear hg; go_at_call 45; refine Calls.mono (HE2.out _ HB2.out) ?_; rintro e w3 ⟨rfl, hb3⟩; have HB3 : Hid (Below w.heap.size w w3) := HB2.out.trans (hb3.mono HB2.out.size); clear hb3)
          | (go_at_call 34; refine Calls.mono (HSH.out _ HB1.out) ?_; rintro e w2 ⟨rfl, hb2⟩; have HB2 : Hid (Below w.heap.size w w2) := HB1.out.trans (hb2.mono HB1.out.size); clear hb2)
          | (go_at_call 45; refine Calls.mono HE1.out ?_; rintro e w1 ⟨rfl, hb1⟩; have HB1 : Hid (Below w.heap.size w w1) := hb1; clear hb1))
        go_ret3
        exact ⟨by rw [HV2.out, HV2.out, HV.out]; rfl, HB3.out⟩
  · have HV : Hid (fitE D S = ee) := by rw [Hid, HF.out, if_pos h1]
    have HV2 : Hid (∀ x : Int, fitN D S x = 0) := fun x => by rw [fitN, HV.out, if_neg h1]
    have e2 : (ee != 0) = true := by simpa using h1
    go_enter Try.func31, Try.ntmps31
    go_wp2_with (go_at_call 45; refine Calls.mono HE1.out ?_; rintro e w1 ⟨rfl, hb1⟩; have HB1 : Hid (Below w.heap.size w w1) := hb1; clear hb1)
    go_ret3
    exact ⟨by rw [HV2.out, HV2.out, HV.out]; rfl, HB1.out⟩
end Go.Proofs.Ytneegijbbbebkaa
