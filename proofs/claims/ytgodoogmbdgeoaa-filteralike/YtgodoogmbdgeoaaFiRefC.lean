/-
  The document's Check, and its sum in bytes. Conditions: bytes are bytes; their number is one that memory bears.
-/
import Derived.Test.YtgodoogmbdgeoaaFiWay
import Derived.Test.YtgodoogmbdgeoaaFletchWalk
import Derived.Test.YtgodoogmbdgeoaaWalkF
namespace Go.Proofs.Ytgodoogmbdgeoaa
open Go.RowKit
set_option linter.unusedVariables false
set_option maxRecDepth 100000

theorem may_yes12 {k z : Int} (h : k = 1 ∨ k = 2) (h1 : 1 ≤ z) (h8 : z ≤ 8) : mayP (k, z) := .inl ⟨h, h1, h8⟩
theorem may_yes34 {k : Int} (h : k = 3 ∨ k = 4) : mayP (k, 0) := .inr ⟨h, rfl⟩
theorem may_no12 {k z : Int} (h : k = 1 ∨ k = 2) (h1 : z < 1 ∨ 8 < z) : ¬ mayP (k, z) := by
  rcases h with rfl | rfl <;> simp [mayP] <;> omega
theorem may_no34 {k z : Int} (h : k = 3 ∨ k = 4) (h1 : z ≠ 0) : ¬ mayP (k, z) := by
  rcases h with rfl | rfl <;> simp [mayP] <;> omega
theorem may_none {k z : Int} (h1 : k ≠ 1) (h2 : k ≠ 2) (h3 : k ≠ 3) (h4 : k ≠ 4) : ¬ mayP (k, z) := by
  simp [mayP]; omega
set_option maxHeartbeats 32000000 in
theorem refCheck_any (v : Value) (L : List Fil) (w : World) (hl : Fls w v L) (hlb : L.length ≤ 8796093021952) : Calls Try.prog 10 #[v] w fun e w' => e = .returned (.int .i64 (chE L)) ∧ w' = w := by
  obtain ⟨ao, cap, rfl, hc, hcell⟩ := hl.opened
  obtain ⟨n, hn⟩ : ∃ n, L.length = n := ⟨_, rfl⟩
  have HC : Hid (∀ i, i < n → ∃ b off, ao = some ⟨b, off, none⟩ ∧ w.cell? ⟨b, off + i * 2, none⟩ = some (.int .i64 (L.getD i (0, 0)).1) ∧ w.cell? ⟨b, off + i * 2 + 1, none⟩ = some (.int .i64 (L.getD i (0, 0)).2) ∧ b < w.heap.size) := by rw [← hn]; exact hcell
  have HN : Hid (L.length = n) := hn
  rw [hn] at hlb hc ⊢
  clear hl hcell hn
  by_cases hb : 4 < n
  · have HE : Hid (chE L = 3) := chE_big (by rw [HN.out]; exact hb)
    have hbi : (4 : Int) < (n : Int) := by omega
    go_enter Try.func10, Try.ntmps10
    go_wp2_with fail
    go_ret
    exact ⟨by rw [HE.out]; rfl, rfl⟩
  · have hbi : ¬ (4 : Int) < (n : Int) := by omega
    have HBB : Hid (¬ 4 < n) := hb
    go_enter Try.func10, Try.ntmps10
    go_wp2_with fail
    clear hbi hb
    go_loop [3] (fun i => ∃ j : Nat, j ≤ n ∧ i = .int .i64 j ∧ Hid (∀ q, q < j → mayP (L.getD q (0, 0)))) (fun i => n - (intOf i).toNat)
    case atStart => exact ⟨0, Nat.zero_le _, rfl, fun q hq => by omega⟩
    case round =>
      obtain ⟨j, hj, rfl, HP⟩ := hrel
      by_cases hlt : j < n
      · obtain ⟨b, off, rfl, c0, c1, hbl⟩ := HC.out j hlt
        clear hbl
        obtain ⟨k, hk⟩ : ∃ k, (L.getD j (0, 0)).1 = k := ⟨_, rfl⟩
        obtain ⟨z, hz⟩ : ∃ z, (L.getD j (0, 0)).2 = z := ⟨_, rfl⟩
        have HE : Hid (L.getD j (0, 0) = (k, z)) := by rw [Hid, ← hk, ← hz]
        rw [hk] at c0
        rw [hz] at c1
        clear hk hz
        have HYES : Hid (mayP (k, z) → ∀ q, q < j + 1 → mayP (L.getD q (0, 0))) := fun hm q hq => by
          rcases Nat.lt_succ_iff_lt_or_eq.1 hq with h | rfl
          · exact HP.out q h
          · rw [HE.out]; exact hm
        have HNO : Hid (¬ mayP (k, z) → chE L = 2) := fun hm => chE_bad (by rw [HN.out]; exact HBB.out) (by rw [HN.out]; exact hlt) (by rw [HE.out]; exact hm)
        clear HE HP
        by_cases k1 : k = 1
        · subst k1
          by_cases z1 : z < 1
          · have HM : Hid (chE L = 2) := HNO.out (may_no12 (.inl rfl) (.inl z1))
            clear HYES HNO
            go_wp2_with fail
            go_ret
            exact ⟨by rw [HM.out]; rfl, rfl⟩
          · by_cases z8 : 8 < z
            · have HM : Hid (chE L = 2) := HNO.out (may_no12 (.inl rfl) (.inr z8))
              clear HYES HNO
              go_wp2_with fail
              go_ret
              exact ⟨by rw [HM.out]; rfl, rfl⟩
            · have HM : Hid (∀ q, q < j + 1 → mayP (L.getD q (0, 0))) := HYES.out (may_yes12 (.inl rfl) (by omega) (by omega))
              clear HYES HNO
              go_wp2_with fail
              go_round
              case rel => exact ⟨j + 1, by omega, by go_num, HM.out⟩
              case measure => simp [intOf]; omega
        by_cases k2 : k = 2
        · subst k2
          by_cases z1 : z < 1
          · have HM : Hid (chE L = 2) := HNO.out (may_no12 (.inr rfl) (.inl z1))
            clear HYES HNO
            go_wp2_with fail
            go_ret
            exact ⟨by rw [HM.out]; rfl, rfl⟩
          · by_cases z8 : 8 < z
            · have HM : Hid (chE L = 2) := HNO.out (may_no12 (.inr rfl) (.inr z8))
              clear HYES HNO
              go_wp2_with fail
              go_ret
              exact ⟨by rw [HM.out]; rfl, rfl⟩
            · have HM : Hid (∀ q, q < j + 1 → mayP (L.getD q (0, 0))) := HYES.out (may_yes12 (.inr rfl) (by omega) (by omega))
              clear HYES HNO
              go_wp2_with fail
              go_round
              case rel => exact ⟨j + 1, by omega, by go_num, HM.out⟩
              case measure => simp [intOf]; omega
        by_cases k3 : k = 3
        · subst k3
          by_cases z0 : z = 0
          · subst z0
            have HM : Hid (∀ q, q < j + 1 → mayP (L.getD q (0, 0))) := HYES.out (may_yes34 (.inl rfl))
            clear HYES HNO
            go_wp2_with fail
            go_round
            case rel => exact ⟨j + 1, by omega, by go_num, HM.out⟩
            case measure => simp [intOf]; omega
          · have HM : Hid (chE L = 2) := HNO.out (may_no34 (.inl rfl) z0)
            have hz0 : (z != 0) = true := by simp [z0]
            clear HYES HNO z0
            go_wp2_with fail
            go_ret
            exact ⟨by rw [HM.out]; rfl, rfl⟩
        by_cases k4 : k = 4
        · subst k4
          by_cases z0 : z = 0
          · subst z0
            have HM : Hid (∀ q, q < j + 1 → mayP (L.getD q (0, 0))) := HYES.out (may_yes34 (.inr rfl))
            clear HYES HNO
            go_wp2_with fail
            go_round
            case rel => exact ⟨j + 1, by omega, by go_num, HM.out⟩
            case measure => simp [intOf]; omega
          · have HM : Hid (chE L = 2) := HNO.out (may_no34 (.inr rfl) z0)
            have hz0 : (z != 0) = true := by simp [z0]
            clear HYES HNO z0
            go_wp2_with fail
            go_ret
            exact ⟨by rw [HM.out]; rfl, rfl⟩
        have HM : Hid (chE L = 2) := HNO.out (may_none k1 k2 k3 k4)
        clear HYES HNO
        go_wp2_with fail
        go_ret
        exact ⟨by rw [HM.out]; rfl, rfl⟩
      · obtain rfl : j = n := by omega
        go_wp2_with fail
        go_ret
        exact ⟨by rw [chE_yes (by rw [HN.out]; exact HBB.out) (by rw [HN.out]; exact HP.out)]; rfl, rfl⟩
set_option maxHeartbeats 4000000 in
theorem refSum_any (v : Value) (l : List Int) (w : World) (hl : Bs w v l) (hby : Byt l) (hlb : l.length ≤ 140737488351232) :
    Calls Try.prog 25 #[v] w fun e w' => ∃ x, e = .returned x ∧ Own w' w.heap.size x (smB l) ∧ Below w.heap.size w w' := by
  have HF : Hid _ := refFletcher_any v l w hl (by omega) hby
  have hfi := fletch_in l
  have hw : IntKind.u64.wrap (fletch l) = fletch l := by simp [IntKind.wrap, IntKind.bits, IntKind.signed]; omega
  have HD : Hid _ := refDigits_any 4 true (fletch l) w (by omega) hfi.1 (by omega)
  have HS : Hid (smB l = dig2 true (fletch l) 4) := rfl
  rw [← HS.out] at HD
  clear HS
  generalize smB l = S at *
  generalize fletch l = F at *
  clear hl
  go_enter Try.func25, Try.ntmps25
  go_wp2_with fail
  refine Calls.mono HF.out ?_
  rintro e w' ⟨rfl, rfl⟩
  go_wp2_with fail
  refine Calls.mono HD.out ?_
  rintro e w2 ⟨x, rfl, ho, hb⟩
  go_wp2_with fail
  go_ret
  exact ⟨_, rfl, ho, hb⟩
end Go.Proofs.Ytgodoogmbdgeoaa
