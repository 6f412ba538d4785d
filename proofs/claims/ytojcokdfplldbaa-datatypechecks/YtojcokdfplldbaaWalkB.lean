/-
  Walks of octet's functions that make memory: room, digitPlace, layDigits. Conditions: lengths within the machine's bounds.
-/
import Derived.Test.YtojcokdfplldbaaWalkA
import Derived.Test.YtojcokdfplldbaaMem
import Derived.Deep.RegionWith
namespace Go.Proofs.Ytojcokdfplldbaa
open Go.RowKit
set_option linter.unusedVariables false
set_option maxRecDepth 100000


set_option maxRecDepth 100000 in
/-- A copy of bytes with noughts behind it, in a new row. -/
theorem room_any (v : Value) (l : List Int) (n : Nat) (w : World) (hl : Bs w v l) (hb : l.length + n ≤ 281474976710656) :
    Calls Try.prog 63 #[v, .int .i64 n] w fun e w' => e = .returned (.slice (some ⟨w.heap.size, 0, none⟩) (l.length + n) (l.length + n)) ∧ Row w' w.heap.size (l ++ List.replicate n 0) ∧ Below w.heap.size w w' := by
  obtain ⟨i0, hi, hz0, hz1, hz2⟩ := info_parts Try.info5
  have hl0 := hl
  obtain ⟨ao, cap, rfl, hc, hn, hcell⟩ := hl
  clear hcell hn
  go_enter Try.func63, Try.ntmps63
  go_wp2_with (first | (at_make; refine wpList_make_bytes _ rfl _ _ 55 rfl i0 Try.underlying55 hi hz0 hz1 hz2 _ _ _ _ (l.length + n) rfl rfl (by omega) (by omega) (by omega) ?_; intro w1 hr1 hg1) | (refine wpList_copy_bytes rfl (.tmp 11) (.tmp 12) 55 rfl Try.underlying55 Try.size5 w.heap.size 0 (l.length + n) (l.length + n) _ rfl _ rfl (List.replicate (l.length + n) 0) l (fun _ => rfl) (by assumption) (hl0.below (below_of_grown (by assumption))) (by omega) (by simp) (l ++ List.replicate n 0) (by simp) w.heap.size w (below_of_grown (by assumption)) (Nat.le_refl _) ?_; intro w2 hr2 hb2))
  go_ret
  exact ⟨rfl, hr2, hb2⟩

theorem place2_any (d : Int) (w : World) : Calls Try.prog 96 #[.int .i64 d] w fun e w' => e = .returned (.int .i64 d) ∧ w' = w := by
  go_enter Try.func96, Try.ntmps96
  go_wp2
  go_ret
  exact ⟨rfl, rfl⟩

theorem place1_any (d n : Int) (b : Nat) (w : World) (hc : w.cell? ⟨b, 0, none⟩ = some (.int .i64 n)) (h0 : 0 ≤ d) (h1 : d < n) (h2 : n ≤ 9223372036854775807) :
    Calls Try.prog 95 #[.int .i64 d, .pointer (some ⟨b, 0, none⟩)] w fun e w' => e = .returned (.int .i64 (n - 1 - d)) ∧ w' = w := by
  go_enter Try.func95, Try.ntmps95
  go_wp2
  go_ret
  exact ⟨rfl, rfl⟩

theorem digitPlace_big (n : Int) (w : World) : Calls Try.prog 83 #[.int .i64 n, .bool true] w fun e w' => e = .returned (.func (.func 95) #[] #[.pointer (some ⟨w.heap.size, 0, none⟩)]) ∧ w' = w.alloc (.cells #[.int .i64 n] 3) := by
  go_enter Try.func83, Try.ntmps83
  go_wp2
  go_ret
  exact ⟨rfl, rfl⟩
theorem digitPlace_small (n : Int) (w : World) : Calls Try.prog 83 #[.int .i64 n, .bool false] w fun e w' => e = .returned (.func (.func 96) #[] #[]) ∧ w' = w.alloc (.cells #[.int .i64 n] 3) := by
  go_enter Try.func83, Try.ntmps83
  go_wp2
  go_ret
  exact ⟨rfl, rfl⟩

/-- layDigits, the highest digit first. -/
theorem layDigits_big (g off m c : Nat) (L : List Int) (u : Int) (w : World) (hr : Row w g L) (hfit : off + m ≤ L.length) (hm : m ≤ 8) (hu0 : 0 ≤ u) (hu1 : u < 18446744073709551616) :
    Calls Try.prog 64 #[.slice (some ⟨g, off, none⟩) m c, .bool true, .int .u64 u] w fun e w' => e = .returned (.tuple #[]) ∧ Row w' g (layBig L off m u m) ∧ w.grownBy w' (some g) := by
  have hgl := hr.lt
  go_enter Try.func64, Try.ntmps64
  go_wp2_with (go_at_call 83; refine (digitPlace_big _ _).mono ?_; rintro e w' ⟨rfl, rfl⟩)
  go_loopw [14] (fun i wr => ∃ k : Nat, k ≤ m ∧ i = .int .i64 k ∧ Row wr g (layBig L off m u k) ∧ wr.cell? ⟨w.heap.size, 0, none⟩ = some (.int .i64 m) ∧ w.grownBy wr (some g)) (fun i _ => m - (intOf i).toNat)
  case atStart => exact ⟨0, Nat.zero_le _, rfl, hr.alloc _, by simp, grown_alloc _ _ _⟩
  case round =>
    obtain ⟨k, hk, rfl, hrr, hcr, hgr⟩ := hrel
    by_cases hlt : k < m
    · have hc1 := hrr.cell (i := off + (m - 1 - k)) (by rw [layBig_length]; omega)
      have hf1 := hrr.free (off + (m - 1 - k))
      have hw8 : IntKind.i64.wrap (8 * (k : Int)) = 8 * k := wrap_i64_in _ (by omega) (by omega)
      go_wp2
      go_region_with (go_at_call 95; refine (place1_any k m w.heap.size _ (by exact hcr) (by omega) (by omega) (by omega)).mono ?_; rintro e w' ⟨rfl, rfl⟩)
      go_wp2
      go_roundw
      case rel => exact ⟨k + 1, by omega, by go_num, lay_set hrr _ k u, cell_set_other hcr (by omega), grown_drew (grown_set hgr _ _)⟩
      case measure => simp [intOf]; omega
    · go_wp2
      go_end0
      obtain rfl : k = m := by omega
      exact ⟨rfl, hrr, hgr⟩
/-- layDigits, the lowest digit first. -/
theorem layDigits_small (g off m c : Nat) (L : List Int) (u : Int) (w : World) (hr : Row w g L) (hfit : off + m ≤ L.length) (hm : m ≤ 8) (hu0 : 0 ≤ u) (hu1 : u < 18446744073709551616) :
    Calls Try.prog 64 #[.slice (some ⟨g, off, none⟩) m c, .bool false, .int .u64 u] w fun e w' => e = .returned (.tuple #[]) ∧ Row w' g (layLow L off u m) ∧ w.grownBy w' (some g) := by
  have hgl := hr.lt
  go_enter Try.func64, Try.ntmps64
  go_wp2_with (go_at_call 83; refine (digitPlace_small _ _).mono ?_; rintro e w' ⟨rfl, rfl⟩)
  go_loopw [14] (fun i wr => ∃ k : Nat, k ≤ m ∧ i = .int .i64 k ∧ Row wr g (layLow L off u k) ∧ wr.cell? ⟨w.heap.size, 0, none⟩ = some (.int .i64 m) ∧ w.grownBy wr (some g)) (fun i _ => m - (intOf i).toNat)
  case atStart => exact ⟨0, Nat.zero_le _, rfl, hr.alloc _, by simp, grown_alloc _ _ _⟩
  case round =>
    obtain ⟨k, hk, rfl, hrr, hcr, hgr⟩ := hrel
    by_cases hlt : k < m
    · have hc1 := hrr.cell (i := off + k) (by rw [layLow_length]; omega)
      have hf1 := hrr.free (off + k)
      have hw8 : IntKind.i64.wrap (8 * (k : Int)) = 8 * k := wrap_i64_in _ (by omega) (by omega)
      go_wp2
      go_region_with (go_at_call 96; refine (place2_any k _).mono ?_; rintro e w' ⟨rfl, rfl⟩)
      go_wp2
      go_roundw
      case rel => exact ⟨k + 1, by omega, by go_num, lay_set hrr _ k u, cell_set_other hcr (by omega), grown_drew (grown_set hgr _ _)⟩
      case measure => simp [intOf]; omega
    · go_wp2
      go_end0
      obtain rfl : k = m := by omega
      exact ⟨rfl, hrr, hgr⟩

/-- layDigits, in either order: the digits stand where the slice stood. -/
theorem layDigits_any (g off m c : Nat) (big : Bool) (L : List Int) (u : Int) (w : World) (hr : Row w g L) (hfit : off + m ≤ L.length) (hm : m ≤ 8) (hu0 : 0 ≤ u) (hu1 : u < 18446744073709551616) :
    Calls Try.prog 64 #[.slice (some ⟨g, off, none⟩) m c, .bool big, .int .u64 u] w fun e w' => e = .returned (.tuple #[]) ∧ Row w' g (L.take off ++ (dig2 big u m ++ L.drop (off + m))) ∧ w.grownBy w' (some g) := by
  cases big
  · refine (layDigits_small g off m c L u w hr hfit hm hu0 hu1).mono fun e w' ⟨h1, h2, h3⟩ => ⟨h1, ?_, h3⟩
    rw [layLow_eq L off u m hfit] at h2
    exact h2
  · refine (layDigits_big g off m c L u w hr hfit hm hu0 hu1).mono fun e w' ⟨h1, h2, h3⟩ => ⟨h1, ?_, h3⟩
    rw [layBig_eq L off m u hfit m (Nat.le_refl _), Nat.sub_self, Nat.add_zero] at h2
    exact h2

end Go.Proofs.Ytojcokdfplldbaa
