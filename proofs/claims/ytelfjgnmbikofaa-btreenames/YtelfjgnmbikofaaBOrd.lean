/-
  The order of coordinates: the program's and the document's. Conditions: lengths are such as memory bears.
-/
import Derived.Test.YtelfjgnmbikofaaGApp
import Derived.Lib.Hide
import Derived.Lib.Walk
import Derived.BigQuiet
import Derived.Deep.LoopGhost
namespace Go.Proofs.Ytelfjgnmbikofaa
open Go.RowKit
set_option linter.unusedVariables false
set_option maxRecDepth 100000

/-- How two lists of numbers are ordered. -/
def cmpI : List Int → List Int → Int
  | [], [] => 0
  | [], _ :: _ => -1
  | _ :: _, [] => 1
  | x :: xs, y :: ys => if x < y then -1 else if y < x then 1 else cmpI xs ys
theorem cmpI_step {a b : List Int} {i : Nat} {x y : Int} (ha : a[i]? = some x) (hb : b[i]? = some y) : cmpI (a.drop i) (b.drop i) = if x < y then -1 else if y < x then 1 else cmpI (a.drop (i + 1)) (b.drop (i + 1)) := by
  obtain ⟨h1, rfl⟩ := List.getElem?_eq_some_iff.1 ha
  obtain ⟨h2, rfl⟩ := List.getElem?_eq_some_iff.1 hb
  rw [List.drop_eq_getElem_cons h1, List.drop_eq_getElem_cons h2]
  rfl
theorem cmpI_end {a b : List Int} {i : Nat} (ha : i ≤ a.length) (hb : i ≤ b.length) (h : i = a.length ∨ i = b.length) : cmpI (a.drop i) (b.drop i) = if (a.length : Int) - b.length < 0 then -1 else if 0 < (a.length : Int) - b.length then 1 else 0 := by
  rcases Nat.lt_or_ge i a.length with h1 | h1
  · obtain rfl : i = b.length := by omega
    rw [List.drop_eq_getElem_cons h1, List.drop_of_length_le (Nat.le_refl _), if_neg (by omega), if_pos (by omega)]
    rfl
  · obtain rfl : i = a.length := by omega
    rw [List.drop_of_length_le (Nat.le_refl a.length)]
    rcases Nat.lt_or_ge a.length b.length with h2 | h2
    · rw [List.drop_eq_getElem_cons h2, if_pos (by omega)]; rfl
    · rw [List.drop_of_length_le h2, if_neg (by omega), if_neg (by omega)]; rfl
/-- A slice that reads as numbers. -/
def Cs (w : World) (v : Value) (l : List Int) : Prop := ∃ ao cap, v = .slice ao l.length cap ∧ l.length ≤ cap ∧ ∀ i x, l[i]? = some x → ∃ g o, ao = some ⟨g, o, none⟩ ∧ w.cell? ⟨g, o + i, none⟩ = some (.int .i64 x)
theorem sign_any (n : Int) (w : World) : Calls Try.prog 40 #[.int .i64 n] w fun e w' => e = .returned (.int .i64 (if n < 0 then -1 else if 0 < n then 1 else 0)) ∧ w' = w := by
  by_cases h1 : n < 0
  · have d1 : decide (n < 0) = true := by simpa using h1
    rw [if_pos h1]
    go_enter Try.func40, Try.ntmps40
    go_wp2
    go_ret
    exact ⟨rfl, rfl⟩
  · have d1 : decide (n < 0) = false := by simpa using h1
    rw [if_neg h1]
    by_cases h2 : 0 < n
    · have d2 : decide (0 < n) = true := by simpa using h2
      rw [if_pos h2]
      go_enter Try.func40, Try.ntmps40
      go_wp2
      go_ret
      exact ⟨rfl, rfl⟩
    · have d2 : decide (0 < n) = false := by simpa using h2
      rw [if_neg h2]
      go_enter Try.func40, Try.ntmps40
      go_wp2
      go_ret
      exact ⟨rfl, rfl⟩
theorem cmpc_any (x y : Int) (w : World) : Calls Try.prog 52 #[.int .i64 x, .int .i64 y] w fun e w' => e = .returned (.int .i64 (if x < y then -1 else if y < x then 1 else 0)) ∧ w' = w := by
  by_cases h1 : x < y
  · have d1 : decide (x < y) = true := by simpa using h1
    rw [if_pos h1]
    go_enter Try.func52, Try.ntmps52
    go_wp2
    go_ret
    exact ⟨rfl, rfl⟩
  · have d1 : decide (x < y) = false := by simpa using h1
    rw [if_neg h1]
    by_cases h2 : y < x
    · have d2 : decide (y < x) = true := by simpa using h2
      rw [if_pos h2]
      go_enter Try.func52, Try.ntmps52
      go_wp2
      go_ret
      exact ⟨rfl, rfl⟩
    · have d2 : decide (y < x) = false := by simpa using h2
      rw [if_neg h2]
      go_enter Try.func52, Try.ntmps52
      go_wp2
      go_ret
      exact ⟨rfl, rfl⟩

set_option maxHeartbeats 4000000 in
theorem refCmpC_any (a b : List Int) (va vb : Value) (w : World) (ha : Cs w va a) (hb : Cs w vb b) (hla : a.length ≤ 140737488355328) (hlb : b.length ≤ 140737488355328) :
    Calls Try.prog 24 #[va, vb] w fun e w' => e = .returned (.int .i64 (cmpI a b)) ∧ Below w.heap.size w w' := by
  obtain ⟨ao, ca, rfl, hca, hA⟩ := ha
  obtain ⟨bo, cb, rfl, hcb, hB⟩ := hb
  have HA : Hid _ := hA
  have HBb : Hid _ := hB
  obtain ⟨m, HM⟩ : ∃ m, Hid (a.length = m) := ⟨_, rfl⟩
  obtain ⟨n, HN⟩ : ∃ n, Hid (b.length = n) := ⟨_, rfl⟩
  rw [HM.out] at hla hca ⊢
  rw [HN.out] at hlb hcb ⊢
  clear hA hB
  go_enter Try.func24, Try.ntmps24
  go_wp2_with fail
  go_loopw [5] (fun y wr => ∃ i : Nat, i ≤ m ∧ i ≤ n ∧ y = .int .i64 (i : Int) ∧ Hid (cmpI a b = cmpI (a.drop i) (b.drop i)) ∧ Hid (Below w.heap.size w wr)) (fun y _ => m - (intOf y).toNat)
  case atStart => exact ⟨0, by omega, by omega, by simp, rfl, Below.refl _ _⟩
  case round =>
    obtain ⟨i, him, hin, rfl, HP, HB⟩ := hrel
    have HE : Hid ((i = m ∨ i = n) → cmpI a b = if (m : Int) - n < 0 then -1 else if 0 < (m : Int) - n then 1 else 0) := fun h => by
      rw [HP.out, cmpI_end (by rw [HM.out]; exact him) (by rw [HN.out]; exact hin) (by rw [HM.out, HN.out]; exact h), HM.out, HN.out]
    have HS : Hid _ := sign_any ((m : Int) - n) wr
    obtain ⟨r, HR⟩ : ∃ r, Hid ((if (m : Int) - n < 0 then -1 else if 0 < (m : Int) - n then 1 else 0 : Int) = r) := ⟨_, rfl⟩
    rw [HR.out] at HS HE
    by_cases h1 : i < m
    · by_cases h2 : i < n
      · obtain ⟨x, hx⟩ : ∃ x, a[i]? = some x := ⟨a[i]'(by rw [HM.out]; omega), List.getElem?_eq_getElem _⟩
        obtain ⟨y, hy⟩ : ∃ y, b[i]? = some y := ⟨b[i]'(by rw [HN.out]; omega), List.getElem?_eq_getElem _⟩
        obtain ⟨ga, oa, rfl, c1⟩ := HA.out i x hx
        obtain ⟨gb, ob, rfl, c2⟩ := HBb.out i y hy
        have d1 : wr.cell? ⟨ga, oa + i, none⟩ = some (.int .i64 x) := (HB.out.cell (World.block_lt_of_cell? w _ c1)).trans c1
        have d2 : wr.cell? ⟨gb, ob + i, none⟩ = some (.int .i64 y) := (HB.out.cell (World.block_lt_of_cell? w _ c2)).trans c2
        have HX : Hid (cmpI a b = if x < y then -1 else if y < x then 1 else cmpI (a.drop (i + 1)) (b.drop (i + 1))) := HP.out.trans (cmpI_step hx hy)
        clear c1 c2 hx hy
        by_cases q1 : x < y
        · have e1 : decide (x < y) = true := by simpa using q1
          have HV : Hid (cmpI a b = -1) := by rw [HX.out, if_pos q1]; rfl
          go_wp2_with fail
          go_quiet (fail)
          go_wp2_with fail
          go_ret
          exact ⟨by rw [HV.out]; rfl, HB.out.trans (Below.mono ⟨rfl, rfl, rfl, Nat.le_refl _, fun _ _ => rfl⟩ HB.out.size)⟩
        · have e1 : decide (x < y) = false := by simpa using q1
          by_cases q2 : y < x
          · have e2 : decide (y < x) = true := by simpa using q2
            have HV : Hid (cmpI a b = 1) := by rw [HX.out, if_neg q1, if_pos q2]; rfl
            go_wp2_with fail
            go_quiet (fail)
            go_wp2_with fail
            go_quiet (fail)
            go_wp2_with fail
            go_ret
            exact ⟨by rw [HV.out]; rfl, HB.out.trans (Below.mono ⟨rfl, rfl, rfl, Nat.le_refl _, fun _ _ => rfl⟩ HB.out.size)⟩
          · have e2 : decide (y < x) = false := by simpa using q2
            have HV : Hid (cmpI a b = cmpI (a.drop (i + 1)) (b.drop (i + 1))) := by rw [HX.out, if_neg q1, if_neg q2]; rfl
            go_wp2_with fail
            go_quiet (fail)
            go_wp2_with fail
            go_quiet (fail)
            go_wp2_with fail
            go_roundw
            case rel => exact ⟨i + 1, by omega, by omega, by simp, HV.out, HB.out.trans (Below.mono ⟨rfl, rfl, rfl, Nat.le_refl _, fun _ _ => rfl⟩ HB.out.size)⟩
            case measure => simp [intOf]; omega
      · obtain rfl : i = n := by omega
        have HV : Hid (cmpI a b = r) := HE.out (.inr rfl)
        clear HE
        go_wp2_with (go_at_call 40; refine Calls.mono HS.out ?_; rintro e w1 ⟨rfl, hw1⟩; obtain rfl := hw1.symm)
        all_goals go_ret
        all_goals exact ⟨by rw [HV.out]; rfl, HB.out⟩
    · obtain rfl : i = m := by omega
      have HV : Hid (cmpI a b = r) := HE.out (.inl rfl)
      clear HE
      go_wp2_with (go_at_call 40; refine Calls.mono HS.out ?_; rintro e w1 ⟨rfl, hw1⟩; obtain rfl := hw1.symm)
      all_goals go_ret
      all_goals exact ⟨by rw [HV.out]; rfl, HB.out⟩
set_option maxHeartbeats 4000000 in
theorem scmp_any (a b : List Int) (va vb : Value) (w : World) (ha : Cs w va a) (hb : Cs w vb b) (hla : a.length ≤ 140737488355328) (hlb : b.length ≤ 140737488355328) :
    Calls Try.prog 41 #[va, vb] w fun e w' => e = .returned (.int .i64 (cmpI a b)) ∧ Below w.heap.size w w' := by
  obtain ⟨ao, ca, rfl, hca, hA⟩ := ha
  obtain ⟨bo, cb, rfl, hcb, hB⟩ := hb
  have HA : Hid _ := hA
  have HBb : Hid _ := hB
  obtain ⟨m, HM⟩ : ∃ m, Hid (a.length = m) := ⟨_, rfl⟩
  obtain ⟨n, HN⟩ : ∃ n, Hid (b.length = n) := ⟨_, rfl⟩
  rw [HM.out] at hla hca ⊢
  rw [HN.out] at hlb hcb ⊢
  clear hA hB
  go_enter Try.func41, Try.ntmps41
  go_wp2_with fail
  go_loopw [11] (fun y wr => ∃ i : Nat, i ≤ m ∧ i ≤ n ∧ y = .int .i64 (i : Int) ∧ Hid (cmpI a b = cmpI (a.drop i) (b.drop i)) ∧ Hid (Below w.heap.size w wr)) (fun y _ => m - (intOf y).toNat)
  case atStart => exact ⟨0, by omega, by omega, by simp, rfl, Below.refl _ _⟩
  case round =>
    obtain ⟨i, him, hin, rfl, HP, HB⟩ := hrel
    have HE : Hid ((i = m ∨ i = n) → cmpI a b = if (m : Int) - n < 0 then -1 else if 0 < (m : Int) - n then 1 else 0) := fun h => by
      rw [HP.out, cmpI_end (by rw [HM.out]; exact him) (by rw [HN.out]; exact hin) (by rw [HM.out, HN.out]; exact h), HM.out, HN.out]
    by_cases h1 : i < m
    · obtain ⟨x, hx⟩ : ∃ x, a[i]? = some x := ⟨a[i]'(by rw [HM.out]; omega), List.getElem?_eq_getElem _⟩
      obtain ⟨ga, oa, rfl, c1⟩ := HA.out i x hx
      have d1 : wr.cell? ⟨ga, oa + i, none⟩ = some (.int .i64 x) := (HB.out.cell (World.block_lt_of_cell? w _ c1)).trans c1
      by_cases h2 : i < n
      · obtain ⟨y, hy⟩ : ∃ y, b[i]? = some y := ⟨b[i]'(by rw [HN.out]; omega), List.getElem?_eq_getElem _⟩
        obtain ⟨gb, ob, rfl, c2⟩ := HBb.out i y hy
        have d2 : wr.cell? ⟨gb, ob + i, none⟩ = some (.int .i64 y) := (HB.out.cell (World.block_lt_of_cell? w _ c2)).trans c2
        have HX : Hid (cmpI a b = if x < y then -1 else if y < x then 1 else cmpI (a.drop (i + 1)) (b.drop (i + 1))) := HP.out.trans (cmpI_step hx hy)
        have HCC : Hid _ := cmpc_any x y wr
        clear c1 c2 hx hy
        by_cases q1 : x < y
        · have HV : Hid (cmpI a b = -1) := by rw [HX.out, if_pos q1]; rfl
          rw [if_pos q1] at HCC
          clear q1
          go_wp2_with (go_at_call 52; refine Calls.mono HCC.out ?_; rintro e w1 ⟨rfl, hw1⟩; obtain rfl := hw1.symm)
          go_ret
          exact ⟨by rw [HV.out]; rfl, HB.out⟩
        · by_cases q2 : y < x
          · have HV : Hid (cmpI a b = 1) := by rw [HX.out, if_neg q1, if_pos q2]; rfl
            rw [if_neg q1, if_pos q2] at HCC
            clear q1 q2
            go_wp2_with (go_at_call 52; refine Calls.mono HCC.out ?_; rintro e w1 ⟨rfl, hw1⟩; obtain rfl := hw1.symm)
            go_ret
            exact ⟨by rw [HV.out]; rfl, HB.out⟩
          · have HV : Hid (cmpI a b = cmpI (a.drop (i + 1)) (b.drop (i + 1))) := by rw [HX.out, if_neg q1, if_neg q2]; rfl
            rw [if_neg q1, if_neg q2] at HCC
            clear q1 q2
            go_wp2_with (go_at_call 52; refine Calls.mono HCC.out ?_; rintro e w1 ⟨rfl, hw1⟩; obtain rfl := hw1.symm)
            go_roundw
            case rel => exact ⟨i + 1, by omega, by omega, by simp, HV.out, HB.out⟩
            case measure => simp [intOf]; omega
      · obtain rfl : i = n := by omega
        have HV : Hid (cmpI a b = 1) := by rw [HE.out (.inr rfl), if_neg (by omega), if_pos (by omega)]; rfl
        clear hx c1
        go_wp2_with fail
        go_ret
        exact ⟨by rw [HV.out]; rfl, HB.out⟩
    · obtain rfl : i = m := by omega
      by_cases h2 : i < n
      · have HV : Hid (cmpI a b = -1) := by rw [HE.out (.inl rfl), if_pos (by omega)]; rfl
        go_wp2_with fail
        go_ret
        exact ⟨by rw [HV.out]; rfl, HB.out⟩
      · obtain rfl : i = n := by omega
        have HV : Hid (cmpI a b = 0) := by rw [HE.out (.inl rfl), if_neg (by omega), if_neg (by omega)]; rfl
        go_wp2_with fail
        go_ret
        exact ⟨by rw [HV.out]; rfl, HB.out⟩
theorem cmpC_any (a b : List Int) (va vb : Value) (w : World) (ha : Cs w va a) (hb : Cs w vb b) (hla : a.length ≤ 140737488355328) (hlb : b.length ≤ 140737488355328) :
    Calls Try.prog 23 #[va, vb] w fun e w' => e = .returned (.int .i64 (cmpI a b)) ∧ Below w.heap.size w w' := by
  have HC : Hid _ := scmp_any a b va vb w ha hb hla hlb
  obtain ⟨ao, ca, rfl, hca, _⟩ := ha
  obtain ⟨bo, cb, rfl, hcb, _⟩ := hb
  go_enter Try.func23, Try.ntmps23
  go_wp2_with (go_at_call 41; refine Calls.mono HC.out ?_; rintro e w1 ⟨rfl, hb1⟩; have HB1 : Hid (Below w.heap.size w w1) := hb1; clear hb1)
  go_ret
  exact ⟨rfl, HB1.out⟩
end Go.Proofs.Ytelfjgnmbikofaa
