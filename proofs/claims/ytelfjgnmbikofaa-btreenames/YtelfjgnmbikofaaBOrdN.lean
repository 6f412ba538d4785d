/-
  The order of names: the document's. Conditions: a name is no longer than memory bears.
-/
import Derived.Test.YtelfjgnmbikofaaBCmp
import Derived.Test.YtelfjgnmbikofaaBOrd
namespace Go.Proofs.Ytelfjgnmbikofaa
open Go.RowKit
set_option linter.unusedVariables false
set_option maxRecDepth 100000

theorem cmpB_step {a b : List UInt8} {i : Nat} {x y : UInt8} (ha : a[i]? = some x) (hb : b[i]? = some y) : Lib.compareBytes (a.drop i) (b.drop i) = if x < y then -1 else if y < x then 1 else Lib.compareBytes (a.drop (i + 1)) (b.drop (i + 1)) := by
  obtain ⟨h1, rfl⟩ := List.getElem?_eq_some_iff.1 ha
  obtain ⟨h2, rfl⟩ := List.getElem?_eq_some_iff.1 hb
  rw [List.drop_eq_getElem_cons h1, List.drop_eq_getElem_cons h2]
  rfl
theorem cmpB_end {a b : List UInt8} {i : Nat} (ha : i ≤ a.length) (hb : i ≤ b.length) (h : i = a.length ∨ i = b.length) : Lib.compareBytes (a.drop i) (b.drop i) = if (a.length : Int) - b.length < 0 then -1 else if 0 < (a.length : Int) - b.length then 1 else 0 := by
  rcases Nat.lt_or_ge i a.length with h1 | h1
  · obtain rfl : i = b.length := by omega
    rw [List.drop_eq_getElem_cons h1, List.drop_of_length_le (Nat.le_refl _), if_neg (by omega), if_pos (by omega)]
    rfl
  · obtain rfl : i = a.length := by omega
    rw [List.drop_of_length_le (Nat.le_refl a.length)]
    rcases Nat.lt_or_ge a.length b.length with h2 | h2
    · rw [List.drop_eq_getElem_cons h2, if_pos (by omega)]; rfl
    · rw [List.drop_of_length_le h2, if_neg (by omega), if_neg (by omega)]; rfl
set_option maxHeartbeats 4000000 in
theorem refCmpN_any (a b : ByteArray) (w : World) (hla : a.size ≤ maxLen) (hlb : b.size ≤ maxLen) :
    Calls Try.prog 22 #[.string a, .string b] w fun e w' => e = .returned (.int .i64 (cmpN a b)) ∧ Below w.heap.size w w' := by
  obtain ⟨m, HM⟩ : ∃ m, Hid (a.size = m) := ⟨_, rfl⟩
  obtain ⟨n, HN⟩ : ∃ n, Hid (b.size = n) := ⟨_, rfl⟩
  have hm := HM.out
  have hn := HN.out
  unfold maxLen at hla hlb
  rw [HM.out] at hla
  rw [HN.out] at hlb
  go_enter Try.func22, Try.ntmps22
  go_wp2_with fail
  go_loopw [5] (fun y wr => ∃ i : Nat, i ≤ m ∧ i ≤ n ∧ y = .int .i64 (i : Int) ∧ Hid (cmpN a b = Lib.compareBytes (a.data.toList.drop i) (b.data.toList.drop i)) ∧ Hid (Below w.heap.size w wr)) (fun y _ => m - (intOf y).toNat)
  case atStart => exact ⟨0, by omega, by omega, by simp, rfl, Below.refl _ _⟩
  case round =>
    obtain ⟨i, him, hin, rfl, HP, HB⟩ := hrel
    have HE : Hid ((i = m ∨ i = n) → cmpN a b = if (m : Int) - n < 0 then -1 else if 0 < (m : Int) - n then 1 else 0) := fun h => by
      have e1 : a.data.toList.length = m := HM.out
      have e2 : b.data.toList.length = n := HN.out
      rw [HP.out, cmpB_end (by rw [e1]; exact him) (by rw [e2]; exact hin) (by rw [e1, e2]; exact h), e1, e2]
    have HS : Hid _ := sign_any ((m : Int) - n) wr
    obtain ⟨r, HR⟩ : ∃ r, Hid ((if (m : Int) - n < 0 then -1 else if 0 < (m : Int) - n then 1 else 0 : Int) = r) := ⟨_, rfl⟩
    rw [HR.out] at HS HE
    have hww : IntKind.i64.wrap ((m : Int) - n) = (m : Int) - n := by simp [IntKind.wrap, IntKind.bits, IntKind.signed]; omega
    by_cases h1 : i < m
    · by_cases h2 : i < n
      · have ha' : i < a.size := by rw [HM.out]; exact h1
        have hb' : i < b.size := by rw [HN.out]; exact h2
        have hx : a.data.toList[i]? = some (a[i]'ha') := List.getElem?_eq_getElem (l := a.data.toList) ha'
        have hy : b.data.toList[i]? = some (b[i]'hb') := List.getElem?_eq_getElem (l := b.data.toList) hb'
        have HX : Hid (cmpN a b = if (a[i]'ha').toNat < (b[i]'hb').toNat then -1 else if (b[i]'hb').toNat < (a[i]'ha').toNat then 1 else Lib.compareBytes (a.data.toList.drop (i + 1)) (b.data.toList.drop (i + 1))) := by
          have h := HP.out.trans (cmpB_step hx hy)
          simp only [UInt8.lt_iff_toNat_lt] at h
          exact h
        clear hx hy
        by_cases q1 : (a[i]'ha').toNat < (b[i]'hb').toNat
        · have e1 : decide ((a[i]'ha').toNat < (b[i]'hb').toNat) = true := by simpa using q1
          have HV : Hid (cmpN a b = -1) := by rw [HX.out, if_pos q1]; rfl
          clear HX HE
          go_wp2_with fail
          go_quiet (fail)
          go_wp2_with fail
          go_ret
          exact ⟨by rw [HV.out]; rfl, HB.out.trans (Below.mono ⟨rfl, rfl, rfl, Nat.le_refl _, fun _ _ => rfl⟩ HB.out.size)⟩
        · have e1 : decide ((a[i]'ha').toNat < (b[i]'hb').toNat) = false := by simpa using q1
          by_cases q2 : (b[i]'hb').toNat < (a[i]'ha').toNat
          · have e2 : decide ((b[i]'hb').toNat < (a[i]'ha').toNat) = true := by simpa using q2
            have HV : Hid (cmpN a b = 1) := by rw [HX.out, if_neg q1, if_pos q2]; rfl
            clear HX HE
            go_wp2_with fail
            go_quiet (fail)
            go_wp2_with fail
            go_quiet (fail)
            go_wp2_with fail
            go_ret
            exact ⟨by rw [HV.out]; rfl, HB.out.trans (Below.mono ⟨rfl, rfl, rfl, Nat.le_refl _, fun _ _ => rfl⟩ HB.out.size)⟩
          · have e2 : decide ((b[i]'hb').toNat < (a[i]'ha').toNat) = false := by simpa using q2
            have HV : Hid (cmpN a b = Lib.compareBytes (a.data.toList.drop (i + 1)) (b.data.toList.drop (i + 1))) := by rw [HX.out, if_neg q1, if_neg q2]; rfl
            clear HX HE
            go_wp2_with fail
            go_quiet (fail)
            go_wp2_with fail
            go_quiet (fail)
            go_wp2_with fail
            go_roundw
            case rel => exact ⟨i + 1, by omega, by omega, by simp, HV.out, HB.out.trans (Below.mono ⟨rfl, rfl, rfl, Nat.le_refl _, fun _ _ => rfl⟩ HB.out.size)⟩
            case measure => simp [intOf]; omega
      · obtain rfl : i = n := by omega
        have HV : Hid (cmpN a b = r) := HE.out (.inr rfl)
        clear HE
        go_wp2_with (go_at_call 40; refine Calls.mono HS.out ?_; rintro e w1 ⟨rfl, hw1⟩; obtain rfl := hw1.symm)
        all_goals go_ret
        all_goals exact ⟨by rw [HV.out]; rfl, HB.out⟩
    · obtain rfl : i = m := by omega
      have HV : Hid (cmpN a b = r) := HE.out (.inl rfl)
      clear HE
      go_wp2_with (go_at_call 40; refine Calls.mono HS.out ?_; rintro e w1 ⟨rfl, hw1⟩; obtain rfl := hw1.symm)
      all_goals go_ret
      all_goals exact ⟨by rw [HV.out]; rfl, HB.out⟩
end Go.Proofs.Ytelfjgnmbikofaa
