/-
  Walks of the document's functions on bytes (Swap, Digits, Put, Get) and of the law's helpers (lent, kept, spoil). Conditions: lengths within the machine's bounds.
-/
import Derived.Test.YtdpjoldabnkboaaDoorWalkC
import Derived.Deep.QuietTactic
import Derived.BigQuiet
namespace Go.Proofs.YtdpjoldabnkboaaDoor
open Go.RowKit
set_option linter.unusedVariables false

/-- A copy with one more byte behind its end. -/
theorem lent_any (v : Value) (l : List Int) (w : World) (hl : Bs w v l) (hb : l.length ≤ 140737488351232) :
    Calls Tryd.prog 9 #[v] w fun e w' => ∃ g cap, e = .returned (.slice (some ⟨g, 0, none⟩) l.length cap) ∧ w.heap.size ≤ g ∧ g < w'.heap.size ∧ l.length + 1 ≤ cap ∧ Own w' w.heap.size (.slice (some ⟨g, 0, none⟩) (l.length + 1) cap) (l ++ [90]) ∧ Below w.heap.size w w' := by
  obtain ⟨i0, hi, hz0, hz1, hz2⟩ := info_parts Tryd.info5
  have hl0 := hl
  obtain ⟨ao, cap, rfl, hc, hn, hcell⟩ := hl
  clear hcell hn
  go_enter Tryd.func9, Tryd.ntmps9
  go_wp2_with (first | (at_builtin; refine wpList_append_bytes _ rfl (.tmp 3) (.tmp 4) 22 rfl i0 Tryd.underlying22 hi hz0 hz1 hz2 w.heap.size _ _ [] l rfl rfl (Own.empty _ _ (Nat.le_refl _)) (hl0.below ((Below.refl _ _).alloc (Nat.le_refl _) _)) (by simp; omega) w ((Below.refl _ _).alloc (Nat.le_refl _) _) (by simp) ?_; intro ao1 cap1 w1 ho1 hb1 _ _; simp only [List.length_nil, Nat.zero_add, List.nil_append] at ho1) | (at_builtin; refine wpList_append_bytes _ rfl (.tmp 5) (.tmp 6) 22 rfl i0 Tryd.underlying22 hi hz0 hz1 hz2 w.heap.size _ _ l [90] rfl rfl (ho1.alloc _) (Bs.one _ _) (by simp; omega) w (hb1.alloc hb1.size _) (by have := hb1.size; simp; omega) ?_; intro ao2 cap2 w2 ho2 hb2 hs2 hc2; obtain ⟨g, rfl, hg1, hg2⟩ := hs2 (by simp); clear hs2; simp only [List.length_cons, List.length_nil, Nat.zero_add] at hc2 ho2))
  go_ret
  exact ⟨g, cap2, rfl, hg1, hg2, hc2, ho2, hb2⟩

/-- What was lent is as it was. -/
theorem kept_any (g n cap : Nat) (v : Value) (l : List Int) (w : World) (hx : Bs w (.slice (some ⟨g, 0, none⟩) (l.length + 1) cap) (l ++ [90])) (hl : Bs w v l) (hc : l.length + 1 ≤ cap) (hb : l.length ≤ 140737488351232) :
    Calls Tryd.prog 12 #[.slice (some ⟨g, 0, none⟩) n cap, v] w fun e w' => e = .returned (.bool true) ∧ ∃ k, w' = w.drewN k := by
  have hs1 := fun k => Bs.str (P := Tryd.prog) (w := w.drewN k) (hx.drewN k) Tryd.underlying22 Tryd.underlying5 (dst := 9) Tryd.underlying9
  have hs2 := fun k => Bs.str (P := Tryd.prog) (w := w.drewN k) (hl.drewN k) Tryd.underlying22 Tryd.underlying5 (dst := 9) Tryd.underlying9
  obtain ⟨ao, cap', rfl, hc', hn, hcell⟩ := hl
  clear hcell hn
  have hwr : IntKind.i64.wrap ((l.length : Int) + 1) = (l.length : Int) + 1 := wrap_i64_in _ (by omega) (by omega)
  have hci : ((l.length : Int) + 1) ≤ (cap : Int) := by omega
  have hci0 : 0 ≤ ((l.length : Int) + 1) := by omega
  have hadd := fun W => str_add (P := Tryd.prog) l 90 ⟨#[90]⟩ rfl (by omega) W
  go_enter Tryd.func12, Tryd.ntmps12
  go_wp2
  go_quiet (fail)
  go_wp2
  go_ret
  exact ⟨rfl, _, rfl⟩

/-- spoil writes over a row, and over nothing else. -/
theorem spoil_row (g n : Nat) (L : List Int) (w : World) (hr : Row w g L) (hn : L.length = n) (hb : n ≤ 281474976710656) :
    Calls Tryd.prog 22 #[.slice (some ⟨g, 0, none⟩) n n] w fun e w' => e = .returned (.tuple #[]) ∧ w.grownBy w' (some g) := by
  go_enter Tryd.func22, Tryd.ntmps22
  go_wp2
  go_loopw [2] (fun i wr => ∃ (k : Nat) (M : List Int), k ≤ n ∧ i = .int .i64 k ∧ Row wr g M ∧ M.length = n ∧ w.grownBy wr (some g)) (fun i _ => n - (intOf i).toNat)
  case atStart => exact ⟨0, L, Nat.zero_le _, rfl, hr, hn, World.grownBy.refl _ _⟩
  case round =>
    obtain ⟨k, M, hk, rfl, hrr, hM, hgr⟩ := hrel
    have HM : Hid (M.length = n) := hM
    by_cases hlt : k < n
    · have hc1 := hrr.cell (i := k) (by omega)
      have hf1 := hrr.free k
      clear hM
      go_wp2
      go_roundw
      case rel => exact ⟨k + 1, M.set k _, by omega, by go_num, hrr.set k _, by simp [HM.out], grown_set hgr _ _⟩
      case measure => simp [intOf]; omega
    · go_wp2
      go_end0
      exact ⟨rfl, hgr⟩
theorem spoil_nil (w : World) : Calls Tryd.prog 22 #[.slice none 0 0] w fun e w' => e = .returned (.tuple #[]) ∧ w' = w := by
  go_enter Tryd.func22, Tryd.ntmps22
  go_wp2
  refine wp_loop_rounds 1 ?_
  rw [rounds_succ]
  go_wp2
  go_end0
  exact ⟨rfl, rfl⟩

/-- The document's Swap. -/
theorem refSwap_any (v : Value) (l : List Int) (w : World) (hl : Bs w v l) (hb : l.length ≤ 140737488351232) :
    Calls Tryd.prog 33 #[v] w fun e w' => ∃ v', e = .returned v' ∧ Own w' w.heap.size v' l.reverse ∧ Below w.heap.size w w' := by
  obtain ⟨i0, hi, hz0, hz1, hz2⟩ := info_parts Tryd.info5
  obtain ⟨ao, cap, rfl, hc, hn, hcell⟩ := hl
  have HC : Hid (∀ ad, ao = some ad → ∀ i, i < l.length → w.cell? (ad.add i) = some (.int .u8 (l.getD i 0))) := hcell
  have HN : Hid (ao = none → cap = 0) := hn
  clear hcell hn
  go_enter Tryd.func33, Tryd.ntmps33
  go_wp2
  go_loopw [3, 4] (fun v i wr => ∃ k : Nat, k ≤ l.length ∧ i = .int .i64 ((l.length : Int) - 1 - k) ∧ Own wr w.heap.size v (l.reverse.take k) ∧ Below w.heap.size w wr) (fun _ i _ => (intOf i + 1).toNat)
  case atStart => exact ⟨0, Nat.zero_le _, by simp, Own.nil _ _, Below.refl _ _⟩
  case round =>
    obtain ⟨k, hk, rfl, hor, hbr⟩ := hrel
    by_cases hlt : k < l.length
    · obtain ⟨ad, rfl⟩ : ∃ ad, ao = some ad := by
        cases ao with
        | none => have := HN.out rfl; omega
        | some ad => exact ⟨ad, rfl⟩
      obtain ⟨b, off, spot⟩ := ad
      have h00 := HC.out _ rfl 0 (by omega)
      have hspot : spot = none := by simpa [Addr.add] using World.cell?_spot h00
      subst hspot
      have hc0 := HC.out _ rfl (l.length - 1 - k) (by omega)
      rw [addr_add] at hc0
      have hc1 := cell_later hbr hc0
      obtain ⟨x, hx⟩ : ∃ x, x = l.getD (l.length - 1 - k) 0 := ⟨_, rfl⟩
      rw [← hx] at hc1
      have HX : Hid (x = l.getD (l.length - 1 - k) 0) := hx
      have hsz := hbr.size
      have HT : Hid (l.reverse.take (k + 1) = l.reverse.take k ++ [x]) := by show _ = _; rw [hx]; exact take_rev_succ l k hlt
      have hlk : (l.reverse.take k).length = k := by simp; omega
      have HL : Hid ((l.reverse.take k).length = k) := hlk
      clear hx h00 hc0 hlk
      go_wp2_with (first | (at_builtin; refine wpList_append_bytes _ rfl (.tmp 12) (.tmp 17) 22 rfl i0 Tryd.underlying22 hi hz0 hz1 hz2 w.heap.size _ _ (l.reverse.take k) [x] rfl rfl (hor.alloc _) (Bs.one _ _) (by rw [HL.out]; simp; omega) w (hbr.alloc hbr.size _) (by simp; omega) ?_; intro ao1 cap1 w1 ho1 hb1 _ _; rw [← HT.out, HL.out] at ho1; simp only [List.length_cons, List.length_nil, Nat.zero_add] at ho1))
      go_roundw
      case rel => exact ⟨k + 1, by omega, by go_num, ho1, hb1⟩
      case measure => simp [intOf]; omega
    · go_wp2
      go_ret
      obtain rfl : k = l.length := by omega
      rw [List.take_of_length_le (by simp)] at hor
      exact ⟨_, rfl, hor, hbr⟩

/-- The document's digits. -/
theorem refDigits_any (m : Nat) (big : Bool) (u : Int) (w : World) (hm : m ≤ 8) (hu0 : 0 ≤ u) (hu1 : u < 18446744073709551616) :
    Calls Tryd.prog 26 #[.int .i64 m, .bool big, .int .u64 u] w fun e w' => ∃ v', e = .returned v' ∧ Own w' w.heap.size v' (dig2 big u m) ∧ Below w.heap.size w w' := by
  obtain ⟨i0, hi, hz0, hz1, hz2⟩ := info_parts Tryd.info5
  go_enter Tryd.func26, Tryd.ntmps26
  go_wp2
  go_loopw [2, 7, 8] (fun x v i wr => ∃ k : Nat, k ≤ m ∧ i = .int .i64 k ∧ x = .int .u64 (qd u k) ∧ Own wr w.heap.size v (digs u k) ∧ Below w.heap.size w wr) (fun _ _ i _ => m - (intOf i).toNat)
  case atStart => exact ⟨0, Nat.zero_le _, rfl, by rw [qd_zero], Own.nil _ _, Below.refl _ _⟩
  case round =>
    obtain ⟨k, hk, rfl, rfl, hor, hbr⟩ := hrel
    have b0 := qd_nonneg hu0 k
    have b1 := qd_le hu0 k
    have hsz := hbr.size
    have HL : Hid ((digs u k).length = k) := digs_length u k
    by_cases hlt : k < m
    · go_wp2_with (first | (at_builtin; refine wpList_append_bytes _ rfl (.tmp 14) (.tmp 18) 22 rfl i0 Tryd.underlying22 hi hz0 hz1 hz2 w.heap.size _ _ (digs u k) [qd u k % 256] rfl rfl (hor.alloc _) (Bs.one _ _) (by rw [HL.out]; simp; omega) w (hbr.alloc hbr.size _) (by simp; omega) ?_; intro ao1 cap1 w1 ho1 hb1 _ _))
      go_roundw
      case rel => exact ⟨k + 1, by omega, by go_num, by rw [qd_succ], ho1, hb1⟩
      case measure => simp [intOf]; omega
    · obtain rfl : k = m := by omega
      cases big
      · go_wp2
        go_ret
        exact ⟨_, rfl, hor, hbr⟩
      · have hbs := hor.bs
        go_wp2_with (go_at_call 33; refine (refSwap_any _ (digs u k) _ hbs (by rw [HL.out]; omega)).mono ?_; rintro e w1 ⟨v', rfl, ho1, hb1⟩)
        go_ret
        exact ⟨_, rfl, ho1.mono hsz, hbr.trans (hb1.mono hsz)⟩

end Go.Proofs.YtdpjoldabnkboaaDoor
