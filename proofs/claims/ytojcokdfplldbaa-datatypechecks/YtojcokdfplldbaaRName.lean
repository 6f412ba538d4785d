/-
  The document's Name, number, Fits and fits. Conditions: widths of 1 to 8.
-/
import Derived.Test.YtojcokdfplldbaaDSize
namespace Go.Proofs.Ytojcokdfplldbaa
open Go.RowKit Go.Shelf
set_option linter.unusedVariables false
set_option maxRecDepth 100000

theorem contains_byte (s : ByteArray) (c : UInt8) : s.data.toList.contains c = true ↔ ∃ (j : Nat) (h : j < s.size), s[j] = c := by
  rw [List.contains_iff_mem, List.mem_iff_getElem]
  constructor
  · rintro ⟨j, h, e⟩
    exact ⟨j, by simpa using h, by rw [← e]; rfl⟩
  · rintro ⟨j, h, e⟩
    exact ⟨j, by simpa using h, by rw [← e]; rfl⟩
theorem name_end {s : ByteArray} (h : ∀ (j : Nat) (hj : j < s.size), (s[j]).toNat ≠ 0 ∧ (s[j]).toNat ≠ 47) : (!(s.data.toList.contains 0) && !(s.data.toList.contains 47)) = true := by
  have h0 : s.data.toList.contains 0 = false := by
    rw [← Bool.not_eq_true, contains_byte]
    rintro ⟨j, hj, e⟩
    exact (h j hj).1 (by rw [e]; rfl)
  have h1 : s.data.toList.contains 47 = false := by
    rw [← Bool.not_eq_true, contains_byte]
    rintro ⟨j, hj, e⟩
    exact (h j hj).2 (by rw [e]; rfl)
  rw [h0, h1]; rfl
theorem name_stop {s : ByteArray} {j : Nat} {hj : j < s.size} (h : (s[j]).toNat = 0 ∨ (s[j]).toNat = 47) : (!(s.data.toList.contains 0) && !(s.data.toList.contains 47)) = false := by
  rcases h with h | h
  · have h0 : s.data.toList.contains 0 = true := (contains_byte s 0).2 ⟨j, hj, UInt8.toNat_inj.1 h⟩
    rw [h0]; rfl
  · have h0 : s.data.toList.contains 47 = true := (contains_byte s 47).2 ⟨j, hj, UInt8.toNat_inj.1 h⟩
    rw [h0]; simp
set_option maxHeartbeats 8000000 in
theorem refName_any (s : ByteArray) (w : World) : Calls Try.prog 80 #[.string s] w fun e w' => e = .returned (.bool (nameB s)) ∧ w' = w := by
  obtain ⟨n, hn⟩ : ∃ n, s.size = n := ⟨_, rfl⟩
  have HN : Hid (s.size = n) := hn
  have HD : Hid (nameB s = (decide (1 ≤ n ∧ n ≤ 64) && (!decide (s.toList = [46]) && (!decide (s.toList = [46, 46]) && (!(s.data.toList.contains 0) && !(s.data.toList.contains 47)))))) := by rw [Hid, nameB, hn]
  by_cases h1 : 1 ≤ n ∧ n ≤ 64
  · obtain ⟨h1a, h1b⟩ := id h1
    by_cases h2 : s.toList = [46]
    · have HE : Hid (nameB s = false) := by rw [Hid, HD.out]; simp [h2]
      clear HD
      go_enter Try.func80, Try.ntmps80
      go_wp2_with fail
      go_ret
      exact ⟨by rw [HE.out]; rfl, rfl⟩
    · by_cases h3 : s.toList = [46, 46]
      · have HE : Hid (nameB s = false) := by rw [Hid, HD.out]; simp [h3]
        clear HD
        go_enter Try.func80, Try.ntmps80
        go_wp2_with fail
        go_ret
        exact ⟨by rw [HE.out]; rfl, rfl⟩
      · have HD2 : Hid (nameB s = (!(s.data.toList.contains 0) && !(s.data.toList.contains 47))) := by rw [Hid, HD.out, decide_eq_true h1, decide_eq_false h2, decide_eq_false h3]; rfl
        clear HD
        have b2 : (s.toList == [46]) = false := by simpa using h2
        have b3 : (s.toList == [46, 46]) = false := by simpa using h3
        have b0 : ¬ (n : Int) < 1 := by omega
        have b1 : ¬ 64 < (n : Int) := by omega
        go_enter Try.func80, Try.ntmps80
        go_wp2_with fail
        go_loopw [3] (fun y wr => ∃ i : Nat, i ≤ n ∧ y = .int .i64 (i : Int) ∧ Hid (∀ (j : Nat) (hj : j < s.size), j < i → (s[j]).toNat ≠ 0 ∧ (s[j]).toNat ≠ 47) ∧ wr = w) (fun y _ => n - (intOf y).toNat)
        case atStart => exact ⟨0, Nat.zero_le _, by simp, fun j hj h => by omega, rfl⟩
        case round =>
          obtain ⟨i, hin, rfl, HI, rfl⟩ := hrel
          by_cases hlt : i < n
          · have hi : i < s.size := by rw [hn]; exact hlt
            by_cases q : (s[i]'hi).toNat = 0 ∨ (s[i]'hi).toNat = 47
            · have HE : Hid (nameB s = false) := by rw [Hid, HD2.out]; exact name_stop (hj := hi) q
              have q' : ((s[i]'hi).toNat = 0) ∨ (¬ (s[i]'hi).toNat = 0 ∧ (s[i]'hi).toNat = 47) := by omega
              rcases q' with q0 | ⟨q0, q1⟩
              · have e0 : ((((s[i]'hi).toNat : Nat) : Int) == 0) = true := by rw [q0]; rfl
                clear q q0
                go_wp2_with fail
                go_ret
                exact ⟨by rw [HE.out]; rfl, rfl⟩
              · have e0 : ((((s[i]'hi).toNat : Nat) : Int) == 0) = false := by rw [q1]; rfl
                have e1 : ((((s[i]'hi).toNat : Nat) : Int) == 47) = true := by rw [q1]; rfl
                clear q q0 q1
                go_wp2_with fail
                go_ret
                exact ⟨by rw [HE.out]; rfl, rfl⟩
            · have HS : Hid (∀ (j : Nat) (hj : j < s.size), j < i + 1 → (s[j]).toNat ≠ 0 ∧ (s[j]).toNat ≠ 47) := fun j hj h => by
                rcases Nat.lt_or_ge j i with h3 | h3
                · exact HI.out j hj h3
                · obtain rfl : j = i := by omega
                  exact ⟨fun e => q (.inl e), fun e => q (.inr e)⟩
              have e0 : ((((s[i]'hi).toNat : Nat) : Int) == 0) = false := by
                rw [beq_eq_false_iff_ne]; intro e; exact q (.inl (by omega))
              have e1 : ((((s[i]'hi).toNat : Nat) : Int) == 47) = false := by
                rw [beq_eq_false_iff_ne]; intro e; exact q (.inr (by omega))
              clear q
              go_wp2_with fail
              go_roundw
              case rel => exact ⟨i + 1, hlt, by go_num, HS.out, by trivial⟩
              case measure => simp [intOf]; omega
          · obtain rfl : i = n := by omega
            have HE : Hid (nameB s = true) := by rw [Hid, HD2.out]; exact name_end (fun j hj => HI.out j hj (by rw [← HN.out]; exact hj))
            go_wp2_with fail
            go_ret
            exact ⟨by rw [HE.out]; rfl, rfl⟩
  · have HE : Hid (nameB s = false) := by rw [Hid, HD.out, decide_eq_false h1]; rfl
    have h1' : (n : Int) < 1 ∨ (¬ (n : Int) < 1 ∧ 64 < (n : Int)) := by omega
    clear HD h1
    rcases h1' with b0 | ⟨b0, b1⟩
    all_goals
      go_enter Try.func80, Try.ntmps80
      go_wp2_with fail
      go_ret
      exact ⟨by rw [HE.out]; rfl, rfl⟩
end Go.Proofs.Ytojcokdfplldbaa
