/-
  Walks of octet's Put, readDigits, isPlace, Get, Swap. Conditions: lengths within the machine's bounds.
-/
import Derived.Test.YtojcokdfplldbaaWalkB
namespace Go.Proofs.Ytojcokdfplldbaa
open Go.RowKit
set_option linter.unusedVariables false
set_option maxRecDepth 100000

/-- Put refuses what is no number of the width. -/
theorem put_no (v : Value) (u n : Int) (big : Bool) (w : World) (hu0 : 0 ≤ u) (hu1 : u < 18446744073709551616) (hE : (numErr u n != 0) = true) :
    Calls Try.prog 43 #[v, .int .i64 n, .bool big, .int .u64 u] w fun e w' => e = .returned (.tuple #[.slice none 0 0, .int .i64 (numErr u n)]) ∧ w' = w := by
  go_enter Try.func43, Try.ntmps43
  go_wp2_with (go_at_call 62; refine (numberError_any _ _ _ hu0 hu1).mono ?_; rintro e w' ⟨rfl, rfl⟩)
  go_ret2
  exact ⟨rfl, rfl⟩

/-- Put lays the digits behind a copy of the bytes. -/
theorem put_yes (v : Value) (l : List Int) (u : Int) (m : Nat) (big : Bool) (w : World) (hl : Bs w v l) (hb : l.length ≤ 140737488351232) (hu0 : 0 ≤ u) (hu1 : u < 18446744073709551616) (hE : numErr u m = 0) :
    Calls Try.prog 43 #[v, .int .i64 m, .bool big, .int .u64 u] w fun e w' =>
      e = .returned (.tuple #[.slice (some ⟨w.heap.size, 0, none⟩) (l.length + m) (l.length + m), .int .i64 0]) ∧ Row w' w.heap.size (l ++ dig2 big u m) ∧ Below w.heap.size w w' := by
  obtain ⟨h1, h2, _⟩ := numErr_zero hu0 hE
  have hl0 := hl
  obtain ⟨ao, cap, rfl, hc, hn, hcell⟩ := hl
  clear hcell hn
  go_enter Try.func43, Try.ntmps43
  go_wp2_with (first | (go_at_call 62; refine (numberError_any _ _ _ hu0 hu1).mono ?_; rintro e w' ⟨rfl, rfl⟩) | (go_at_call 63; refine (room_any _ l m _ hl0 (by omega)).mono ?_; rintro e w1 ⟨rfl, hr1, hb1⟩) | (go_at_call 64; refine (layDigits_any _ l.length m m big (l ++ List.replicate m 0) u _ (by assumption) (by simp) (by omega) hu0 hu1).mono ?_; rintro e w2 ⟨rfl, hr2, hg2⟩))
  go_ret2
  refine ⟨rfl, ?_, ?_⟩
  · have e : l ++ dig2 big u m = (l ++ List.replicate m 0).take l.length ++ (dig2 big u m ++ (l ++ List.replicate m 0).drop (l.length + m)) := by
      rw [List.take_left, List.drop_of_length_le (by simp), List.append_nil]
    rw [e]; exact hr2
  · exact hb1.grown hg2 hb1.size (fun k hk => by simp at hk; omega)

/-- A place in bytes, or right behind the last. -/
def pOk (n : Nat) (at_ : Int) : Bool := decide (0 ≤ at_) && decide (at_ ≤ n)
theorem isPlace_wide (v : Value) (l : List Int) (p : Int) (w : World) (hl : Bs w v l) (hb : l.length ≤ 281474976710656) :
    Calls Try.prog 97 #[v, .int .i64 p] w fun e w' => e = .returned (.bool (pOk l.length p)) ∧ w' = w := by
  obtain ⟨ao, cap, rfl, hc, hn, hcell⟩ := hl
  clear hcell hn
  by_cases h1 : 0 ≤ p
  · by_cases h2 : p ≤ (l.length : Int)
    · have H : Hid (pOk l.length p = true) := by show _ = _; simp [pOk, h1, h2]
      go_enter Try.func97, Try.ntmps97
      go_wp2
      go_ret
      exact ⟨ret_bool H.out.symm, rfl⟩
    · have H : Hid (pOk l.length p = false) := by show _ = _; simp [pOk]; omega
      go_enter Try.func97, Try.ntmps97
      go_wp2
      go_ret
      exact ⟨ret_bool H.out.symm, rfl⟩
  · have H : Hid (pOk l.length p = false) := by show _ = _; simp [pOk]; omega
    go_enter Try.func97, Try.ntmps97
    go_wp2
    go_ret
    exact ⟨ret_bool H.out.symm, rfl⟩
theorem isPlace_any (v : Value) (l : List Int) (p : Int) (w : World) (hl : Bs w v l) (hb : l.length ≤ 140737488351232) :
    Calls Try.prog 97 #[v, .int .i64 p] w fun e w' => e = .returned (.bool (pOk l.length p)) ∧ w' = w := isPlace_wide v l p w hl (by omega)

/-- readDigits, the highest digit first. -/
theorem readDigits_big (l : List Int) (b off m c : Nat) (w : World) (hlen : l.length = m) (hcell : ∀ i, i < m → w.cell? ⟨b, off + i, none⟩ = some (.int .u8 (l.getD i 0))) (hm : m ≤ 8) (hm1 : 1 ≤ m) (hby : Byt l) :
    Calls Try.prog 98 #[.slice (some ⟨b, off, none⟩) m c, .bool true] w fun e w' => e = .returned (.int .u64 (num l.reverse m)) ∧ Below w.heap.size w w' := by
  go_enter Try.func98, Try.ntmps98
  go_wp2_with (go_at_call 83; refine (digitPlace_big _ _).mono ?_; rintro e w' ⟨rfl, rfl⟩)
  go_loopw [6, 14] (fun v i wr => ∃ k : Nat, k ≤ m ∧ i = .int .i64 k ∧ v = .int .u64 (num l.reverse k) ∧ wr.cell? ⟨w.heap.size, 0, none⟩ = some (.int .i64 m) ∧ Below w.heap.size w wr) (fun _ i _ => m - (intOf i).toNat)
  case atStart => exact ⟨0, Nat.zero_le _, rfl, rfl, by simp, (Below.refl _ _).alloc (Nat.le_refl _) _⟩
  case round =>
    obtain ⟨k, hk, rfl, rfl, hcr, hbr⟩ := hrel
    by_cases hlt : k < m
    · have hc1 := cell_later hbr (hcell (m - 1 - k) (by omega))
      have hx := hby (m - 1 - k)
      have hnb := num_bounds (byt_reverse hby) k
      obtain ⟨x, hxe⟩ : ∃ x, x = l.getD (m - 1 - k) 0 := ⟨_, rfl⟩
      rw [← hxe] at hc1 hx
      have HX : Hid (x = l.getD (m - 1 - k) 0) := hxe
      clear hxe
      go_wp2_with (go_at_call 95; refine (place1_any k m w.heap.size _ hcr (by omega) (by omega) (by omega)).mono ?_; rintro e w' ⟨rfl, rfl⟩)
      go_roundw
      case rel => exact ⟨k + 1, by omega, by go_num, by rw [or_step _ _ k (by omega) hnb.1 hnb.2 hx.1 hx.2, num, HX.out, getD_reverse l k (by omega), hlen], hcr, hbr⟩
      case measure => simp [intOf]; omega
    · go_wp2
      go_ret
      obtain rfl : k = m := by omega
      exact ⟨rfl, hbr⟩
/-- readDigits, the lowest digit first. -/
theorem readDigits_small (l : List Int) (b off m c : Nat) (w : World) (hlen : l.length = m) (hcell : ∀ i, i < m → w.cell? ⟨b, off + i, none⟩ = some (.int .u8 (l.getD i 0))) (hm : m ≤ 8) (hm1 : 1 ≤ m) (hby : Byt l) :
    Calls Try.prog 98 #[.slice (some ⟨b, off, none⟩) m c, .bool false] w fun e w' => e = .returned (.int .u64 (num l m)) ∧ Below w.heap.size w w' := by
  go_enter Try.func98, Try.ntmps98
  go_wp2_with (go_at_call 83; refine (digitPlace_small _ _).mono ?_; rintro e w' ⟨rfl, rfl⟩)
  go_loopw [6, 14] (fun v i wr => ∃ k : Nat, k ≤ m ∧ i = .int .i64 k ∧ v = .int .u64 (num l k) ∧ wr.cell? ⟨w.heap.size, 0, none⟩ = some (.int .i64 m) ∧ Below w.heap.size w wr) (fun _ i _ => m - (intOf i).toNat)
  case atStart => exact ⟨0, Nat.zero_le _, rfl, rfl, by simp, (Below.refl _ _).alloc (Nat.le_refl _) _⟩
  case round =>
    obtain ⟨k, hk, rfl, rfl, hcr, hbr⟩ := hrel
    by_cases hlt : k < m
    · have hc1 := cell_later hbr (hcell (k) (by omega))
      have hx := hby (k)
      have hnb := num_bounds (hby) k
      obtain ⟨x, hxe⟩ : ∃ x, x = l.getD (k) 0 := ⟨_, rfl⟩
      rw [← hxe] at hc1 hx
      have HX : Hid (x = l.getD (k) 0) := hxe
      clear hxe
      go_wp2_with (go_at_call 96; refine (place2_any k _).mono ?_; rintro e w' ⟨rfl, rfl⟩)
      go_roundw
      case rel => exact ⟨k + 1, by omega, by go_num, by rw [or_step _ _ k (by omega) hnb.1 hnb.2 hx.1 hx.2, num, HX.out], hcr, hbr⟩
      case measure => simp [intOf]; omega
    · go_wp2
      go_ret
      obtain rfl : k = m := by omega
      exact ⟨rfl, hbr⟩
/-- readDigits of a part of bytes, in either order. -/
theorem readDigits_any (big : Bool) (l : List Int) (b off m c : Nat) (w : World) (hlen : l.length = m) (hcell : ∀ i, i < m → w.cell? ⟨b, off + i, none⟩ = some (.int .u8 (l.getD i 0))) (hm : m ≤ 8) (hm1 : 1 ≤ m) (hby : Byt l) :
    Calls Try.prog 98 #[.slice (some ⟨b, off, none⟩) m c, .bool big] w fun e w' => e = .returned (.int .u64 (val big l)) ∧ Below w.heap.size w w' := by
  subst hlen
  cases big
  · exact readDigits_small l b off _ c w rfl hcell hm hm1 hby
  · exact readDigits_big l b off _ c w rfl hcell hm hm1 hby

/-- Get refuses a width or a place that is none. -/
theorem get_arg (v : Value) (l : List Int) (p n : Int) (big : Bool) (w : World) (hl : Bs w v l) (hb : l.length ≤ 140737488351232) (h : wOk n = false ∨ pOk l.length p = false) :
    Calls Try.prog 85 #[v, .int .i64 p, .int .i64 n, .bool big] w fun e w' => e = .returned (.tuple #[.int .u64 0, .int .i64 2]) ∧ w' = w := by
  rcases Bool.eq_false_or_eq_true (wOk n) with hw | hw
  · have hp : pOk l.length p = false := by rcases h with h | h; simp [hw] at h; exact h
    clear h
    go_enter Try.func85, Try.ntmps85
    go_wp2_with (first | (go_at_call 82; refine (isWidth_any _ _).mono ?_; rintro e w' ⟨rfl, rfl⟩) | (go_at_call 97; refine (isPlace_any _ l _ _ hl hb).mono ?_; rintro e w' ⟨rfl, rfl⟩))
    go_ret2
    exact ⟨rfl, rfl⟩
  · clear h
    go_enter Try.func85, Try.ntmps85
    go_wp2_with (first | (go_at_call 82; refine (isWidth_any _ _).mono ?_; rintro e w' ⟨rfl, rfl⟩) | (go_at_call 97; refine (isPlace_any _ l _ _ hl hb).mono ?_; rintro e w' ⟨rfl, rfl⟩))
    go_ret2
    exact ⟨rfl, rfl⟩

theorem get_short (v : Value) (l : List Int) (p n : Nat) (big : Bool) (w : World) (hl : Bs w v l) (hb : l.length ≤ 140737488351232) (hn1 : 1 ≤ n) (hn2 : n ≤ 8) (hp : p ≤ l.length) (hs : l.length - p < n) :
    Calls Try.prog 85 #[v, .int .i64 p, .int .i64 n, .bool big] w fun e w' => e = .returned (.tuple #[.int .u64 0, .int .i64 4]) ∧ w' = w := by
  have hw : wOk n = true := wOk_true (by omega) (by omega)
  have hpp : pOk l.length p = true := by simp [pOk]; omega
  have hl0 := hl
  obtain ⟨ao, cap, rfl, hc, hn, hcell⟩ := hl
  clear hcell hn
  go_enter Try.func85, Try.ntmps85
  go_wp2_with (first | (go_at_call 82; refine (isWidth_any _ _).mono ?_; rintro e w' ⟨rfl, rfl⟩) | (go_at_call 97; refine (isPlace_any _ l _ _ hl0 hb).mono ?_; rintro e w' ⟨rfl, rfl⟩))
  go_ret2
  exact ⟨rfl, rfl⟩

theorem get_wide (v : Value) (l : List Int) (p n : Nat) (big : Bool) (w : World) (hl : Bs w v l) (hb : l.length ≤ 281474976710656) (hby : Byt l) (hn1 : 1 ≤ n) (hn2 : n ≤ 8) (hp : p + n ≤ l.length) :
    Calls Try.prog 85 #[v, .int .i64 p, .int .i64 n, .bool big] w fun e w' => e = .returned (.tuple #[.int .u64 (val big ((l.drop p).take n)), .int .i64 0]) ∧ Below w.heap.size w w' := by
  have hw : wOk n = true := wOk_true (by omega) (by omega)
  have hpp : pOk l.length p = true := by simp [pOk]; omega
  obtain ⟨b, off, cap, rfl, hc, hcell⟩ := hl.opened (by omega)
  have hB : Hid (Bs w (.slice (some ⟨b, off, none⟩) l.length cap) l) := hl
  have hpart : Hid (∀ i, i < n → w.cell? ⟨b, off + p + i, none⟩ = some (.int .u8 (((l.drop p).take n).getD i 0))) := fun i hi => by
    rw [Nat.add_assoc, hcell (p + i) (by omega)]; simp [List.getD, hi]
  clear hcell hl
  go_enter Try.func85, Try.ntmps85
  go_wp2_with (first | (go_at_call 82; refine (isWidth_any _ _).mono ?_; rintro e w' ⟨rfl, rfl⟩) | (go_at_call 97; refine (isPlace_wide _ l _ _ hB.out hb).mono ?_; rintro e w' ⟨rfl, rfl⟩) | (go_at_call 98; refine (readDigits_any big ((l.drop p).take n) b (off + p) n _ _ (by simp; omega) hpart.out hn2 hn1 (byt_take hby p n)).mono ?_; rintro e w' ⟨rfl, hb'⟩))
  go_ret2
  exact ⟨rfl, by assumption⟩
theorem get_yes (v : Value) (l : List Int) (p n : Nat) (big : Bool) (w : World) (hl : Bs w v l) (hb : l.length ≤ 140737488351232) (hby : Byt l) (hn1 : 1 ≤ n) (hn2 : n ≤ 8) (hp : p + n ≤ l.length) :
    Calls Try.prog 85 #[v, .int .i64 p, .int .i64 n, .bool big] w fun e w' => e = .returned (.tuple #[.int .u64 (val big ((l.drop p).take n)), .int .i64 0]) ∧ Below w.heap.size w w' :=
  get_wide v l p n big w hl (by omega) hby hn1 hn2 hp

end Go.Proofs.Ytojcokdfplldbaa
