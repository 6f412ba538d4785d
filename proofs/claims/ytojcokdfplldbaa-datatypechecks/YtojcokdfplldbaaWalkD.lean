/-
  Walks of the document's functions on bytes (Swap, Digits, Put, Get) and of the law's helpers (lent, kept, spoil). Conditions: lengths within the machine's bounds.
-/
import Derived.Test.YtojcokdfplldbaaWalkC
import Derived.Deep.QuietTactic
import Derived.BigQuiet
namespace Go.Proofs.Ytojcokdfplldbaa
open Go.RowKit
set_option linter.unusedVariables false
set_option maxRecDepth 100000

/-- The document's Swap. -/
theorem refSwap_any (v : Value) (l : List Int) (w : World) (hl : Bs w v l) (hb : l.length ≤ 140737488351232) :
    Calls Try.prog 84 #[v] w fun e w' => ∃ v', e = .returned v' ∧ Own w' w.heap.size v' l.reverse ∧ Below w.heap.size w w' := by
  obtain ⟨i0, hi, hz0, hz1, hz2⟩ := info_parts Try.info5
  obtain ⟨ao, cap, rfl, hc, hn, hcell⟩ := hl
  have HC : Hid (∀ ad, ao = some ad → ∀ i, i < l.length → w.cell? (ad.add i) = some (.int .u8 (l.getD i 0))) := hcell
  have HN : Hid (ao = none → cap = 0) := hn
  clear hcell hn
  go_enter Try.func84, Try.ntmps84
  go_wp2
  go_loopw [3, 4] (fun v i wr => ∃ k : Nat, k ≤ l.length ∧ i = .int .i64 ((l.length : Int) - 1 - k) ∧ Own wr w.heap.size v (l.reverse.take k) ∧ Below w.heap.size w wr) (fun _ i _ => (intOf i + 1).toNat)
  case atStart => exact ⟨0, Nat.zero_le _, by simp, Own.nil _ _, Below.refl _ _⟩
  case round =>
    obtain ⟨k, hk, rfl, hor, hbr⟩ := hrel
    by_cases hlt : k < l.length
    · obtain ⟨ad, rfl⟩ : ∃ ad, ao = some ad := by
        cases ao with
        | none => have := HN.out rfl; omega
        | some ad => exact ⟨ad, rfl⟩
      obtain ⟨b, off, spot⟩ := ad
      have h00 := HC.out _ rfl 0 (by omega)
      have hspot : spot = none := by simpa [Addr.add] using World.cell?_spot h00
      subst hspot
      have hc0 := HC.out _ rfl (l.length - 1 - k) (by omega)
      rw [addr_add] at hc0
      have hc1 := cell_later hbr hc0
      obtain ⟨x, hx⟩ : ∃ x, x = l.getD (l.length - 1 - k) 0 := ⟨_, rfl⟩
      rw [← hx] at hc1
      have HX : Hid (x = l.getD (l.length - 1 - k) 0) := hx
      have hsz := hbr.size
      have HT : Hid (l.reverse.take (k + 1) = l.reverse.take k ++ [x]) := by show _ = _; rw [hx]; exact take_rev_succ l k hlt
      have hlk : (l.reverse.take k).length = k := by simp; omega
      have HL : Hid ((l.reverse.take k).length = k) := hlk
      clear hx h00 hc0 hlk
      go_wp2_with (first | (at_builtin; refine wpList_append_bytes _ rfl (.tmp 12) (.tmp 17) 55 rfl i0 Try.underlying55 hi hz0 hz1 hz2 w.heap.size _ _ (l.reverse.take k) [x] rfl rfl (hor.alloc _) (Bs.one _ _) (by rw [HL.out]; simp; omega) w (hbr.alloc hbr.size _) (by simp; omega) ?_; intro ao1 cap1 w1 ho1 hb1 _ _; rw [← HT.out, HL.out] at ho1; simp only [List.length_cons, List.length_nil, Nat.zero_add] at ho1))
      go_roundw
      case rel => exact ⟨k + 1, by omega, by go_num, ho1, hb1⟩
      case measure => simp [intOf]; omega
    · go_wp2
      go_ret
      obtain rfl : k = l.length := by omega
      rw [List.take_of_length_le (by simp)] at hor
      exact ⟨_, rfl, hor, hbr⟩

/-- The document's digits. -/
theorem refDigits_any (m : Nat) (big : Bool) (u : Int) (w : World) (hm : m ≤ 8) (hu0 : 0 ≤ u) (hu1 : u < 18446744073709551616) :
    Calls Try.prog 65 #[.int .i64 m, .bool big, .int .u64 u] w fun e w' => ∃ v', e = .returned v' ∧ Own w' w.heap.size v' (dig2 big u m) ∧ Below w.heap.size w w' := by
  obtain ⟨i0, hi, hz0, hz1, hz2⟩ := info_parts Try.info5
  go_enter Try.func65, Try.ntmps65
  go_wp2
  go_loopw [2, 7, 8] (fun x v i wr => ∃ k : Nat, k ≤ m ∧ i = .int .i64 k ∧ x = .int .u64 (qd u k) ∧ Own wr w.heap.size v (digs u k) ∧ Below w.heap.size w wr) (fun _ _ i _ => m - (intOf i).toNat)
  case atStart => exact ⟨0, Nat.zero_le _, rfl, by rw [qd_zero], Own.nil _ _, Below.refl _ _⟩
  case round =>
    obtain ⟨k, hk, rfl, rfl, hor, hbr⟩ := hrel
    have b0 := qd_nonneg hu0 k
    have b1 := qd_le hu0 k
    have hsz := hbr.size
    have HL : Hid ((digs u k).length = k) := digs_length u k
    by_cases hlt : k < m
    · go_wp2_with (first | (at_builtin; refine wpList_append_bytes _ rfl (.tmp 14) (.tmp 18) 55 rfl i0 Try.underlying55 hi hz0 hz1 hz2 w.heap.size _ _ (digs u k) [qd u k % 256] rfl rfl (hor.alloc _) (Bs.one _ _) (by rw [HL.out]; simp; omega) w (hbr.alloc hbr.size _) (by simp; omega) ?_; intro ao1 cap1 w1 ho1 hb1 _ _))
      go_roundw
      case rel => exact ⟨k + 1, by omega, by go_num, by rw [qd_succ], ho1, hb1⟩
      case measure => simp [intOf]; omega
    · obtain rfl : k = m := by omega
      cases big
      · go_wp2
        go_ret
        exact ⟨_, rfl, hor, hbr⟩
      · have hbs := hor.bs
        go_wp2_with (go_at_call 84; refine (refSwap_any _ (digs u k) _ hbs (by rw [HL.out]; omega)).mono ?_; rintro e w1 ⟨v', rfl, ho1, hb1⟩)
        go_ret
        exact ⟨_, rfl, ho1.mono hsz, hbr.trans (hb1.mono hsz)⟩

theorem refGet_arg (v : Value) (l : List Int) (p n : Int) (big : Bool) (w : World) (hl : Bs w v l) (hb : l.length ≤ 140737488351232) (h : n < 1 ∨ 8 < n ∨ p < 0 ∨ (l.length : Int) < p) :
    Calls Try.prog 87 #[v, .int .i64 p, .int .i64 n, .bool big] w fun e w' => e = .returned (.tuple #[.int .u64 0, .int .i64 2]) ∧ w' = w := by
  obtain ⟨ao, cap, rfl, hc, hn, hcell⟩ := hl
  clear hcell hn
  by_cases h1 : n < 1
  · clear h
    go_enter Try.func87, Try.ntmps87
    go_wp2
    go_ret2
    exact ⟨rfl, rfl⟩
  · by_cases h2 : 8 < n
    · clear h
      go_enter Try.func87, Try.ntmps87
      go_wp2
      go_ret2
      exact ⟨rfl, rfl⟩
    · by_cases h3 : p < 0
      · clear h
        go_enter Try.func87, Try.ntmps87
        go_wp2
        go_ret2
        exact ⟨rfl, rfl⟩
      · have h4 : (l.length : Int) < p := by omega
        clear h
        go_enter Try.func87, Try.ntmps87
        go_wp2
        go_ret2
        exact ⟨rfl, rfl⟩

theorem refGet_short (v : Value) (l : List Int) (p n : Nat) (big : Bool) (w : World) (hl : Bs w v l) (hb : l.length ≤ 140737488351232) (hn1 : 1 ≤ n) (hn2 : n ≤ 8) (hp : p ≤ l.length) (hs : l.length - p < n) :
    Calls Try.prog 87 #[v, .int .i64 p, .int .i64 n, .bool big] w fun e w' => e = .returned (.tuple #[.int .u64 0, .int .i64 4]) ∧ w' = w := by
  obtain ⟨ao, cap, rfl, hc, hn, hcell⟩ := hl
  clear hcell hn
  go_enter Try.func87, Try.ntmps87
  go_wp2
  go_ret2
  exact ⟨rfl, rfl⟩

theorem refGet_big (l : List Int) (b off cap p n : Nat) (w : World) (hcell : ∀ i, i < l.length → w.cell? ⟨b, off + i, none⟩ = some (.int .u8 (l.getD i 0))) (hb : l.length ≤ 140737488351232) (hby : Byt l) (hn1 : 1 ≤ n) (hn2 : n ≤ 8) (hp : p + n ≤ l.length) :
    Calls Try.prog 87 #[.slice (some ⟨b, off, none⟩) l.length cap, .int .i64 p, .int .i64 n, .bool true] w fun e w' => e = .returned (.tuple #[.int .u64 (hor ((l.drop p).take n) n), .int .i64 0]) ∧ w' = w := by
  have HC : Hid (∀ i, i < l.length → w.cell? ⟨b, off + i, none⟩ = some (.int .u8 (l.getD i 0))) := hcell
  have HB : Hid (Byt ((l.drop p).take n)) := byt_take hby p n
  clear hcell
  go_enter Try.func87, Try.ntmps87
  go_wp2
  go_loop [10, 11] (fun v i => ∃ k : Nat, k ≤ n ∧ i = .int .i64 k ∧ v = .int .u64 (hor ((l.drop p).take n) k)) (fun _ i => n - (intOf i).toNat)
  case atStart => exact ⟨0, Nat.zero_le _, rfl, rfl⟩
  case round =>
    obtain ⟨k, hk, rfl, rfl⟩ := hrel
    by_cases hlt : k < n
    · have hc1 := HC.out (p + k) (by omega)
      have hx := hby (p + k)
      obtain ⟨x, hxe⟩ : ∃ x, x = l.getD (p + k) 0 := ⟨_, rfl⟩
      rw [← hxe] at hc1 hx
      have HX : Hid (hor ((l.drop p).take n) (k + 1) = hor ((l.drop p).take n) k * 256 + x) := by
        show _ = _
        rw [hor, hxe]; simp [List.getD, hlt]
      have b0 := (hor_bounds HB.out k).1
      have b1 := hor_56 HB.out k (by omega)
      clear hxe
      go_wp2
      go_round
      case rel => exact ⟨k + 1, by omega, by go_num, by rw [HX.out]⟩
      case measure => simp [intOf]; omega
    · obtain rfl : k = n := by omega
      go_wp2
      go_ret2
      exact ⟨rfl, rfl⟩

theorem refGet_small (l : List Int) (b off cap p n : Nat) (w : World) (hcell : ∀ i, i < l.length → w.cell? ⟨b, off + i, none⟩ = some (.int .u8 (l.getD i 0))) (hb : l.length ≤ 140737488351232) (hby : Byt l) (hn1 : 1 ≤ n) (hn2 : n ≤ 8) (hp : p + n ≤ l.length) :
    Calls Try.prog 87 #[.slice (some ⟨b, off, none⟩) l.length cap, .int .i64 p, .int .i64 n, .bool false] w fun e w' => e = .returned (.tuple #[.int .u64 (hor ((l.drop p).take n).reverse n), .int .i64 0]) ∧ w' = w := by
  have HC : Hid (∀ i, i < l.length → w.cell? ⟨b, off + i, none⟩ = some (.int .u8 (l.getD i 0))) := hcell
  have HB : Hid (Byt ((l.drop p).take n).reverse) := byt_reverse (byt_take hby p n)
  clear hcell
  go_enter Try.func87, Try.ntmps87
  go_wp2
  go_loop [10, 11] (fun v i => ∃ k : Nat, k ≤ n ∧ i = .int .i64 k ∧ v = .int .u64 (hor ((l.drop p).take n).reverse k)) (fun _ i => n - (intOf i).toNat)
  case atStart => exact ⟨0, Nat.zero_le _, rfl, rfl⟩
  case round =>
    obtain ⟨k, hk, rfl, rfl⟩ := hrel
    by_cases hlt : k < n
    · have hc1 := HC.out (p + n - 1 - k) (by omega)
      have hx := hby (p + n - 1 - k)
      obtain ⟨x, hxe⟩ : ∃ x, x = l.getD (p + n - 1 - k) 0 := ⟨_, rfl⟩
      rw [← hxe] at hc1 hx
      have HX : Hid (hor ((l.drop p).take n).reverse (k + 1) = hor ((l.drop p).take n).reverse k * 256 + x) := by
        show _ = _
        have hlen : ((l.drop p).take n).length = n := by simp; omega
        rw [hor, hxe, getD_reverse _ _ (by omega), hlen, show p + n - 1 - k = p + (n - 1 - k) by omega]; simp [List.getD, show n - 1 - k < n by omega]
      have b0 := (hor_bounds HB.out k).1
      have b1 := hor_56 HB.out k (by omega)
      clear hxe
      go_wp2
      go_round
      case rel => exact ⟨k + 1, by omega, by go_num, by rw [HX.out]⟩
      case measure => simp [intOf]; omega
    · obtain rfl : k = n := by omega
      go_wp2
      go_ret2
      exact ⟨rfl, rfl⟩

/-- The document's Get. -/
theorem refGet_yes (v : Value) (l : List Int) (p n : Nat) (big : Bool) (w : World) (hl : Bs w v l) (hb : l.length ≤ 140737488351232) (hby : Byt l) (hn1 : 1 ≤ n) (hn2 : n ≤ 8) (hp : p + n ≤ l.length) :
    Calls Try.prog 87 #[v, .int .i64 p, .int .i64 n, .bool big] w fun e w' => e = .returned (.tuple #[.int .u64 (val big ((l.drop p).take n)), .int .i64 0]) ∧ w' = w := by
  obtain ⟨b, off, cap, rfl, hc, hcell⟩ := hl.opened (by omega)
  have hlen : ((l.drop p).take n).length = n := by simp; omega
  cases big
  · have e : val false ((l.drop p).take n) = hor ((l.drop p).take n).reverse n := by
      have := hor_whole ((l.drop p).take n).reverse
      rw [List.length_reverse, hlen, List.reverse_reverse] at this
      rw [this, val, hlen]; rfl
    rw [e]; exact refGet_small l b off cap p n w hcell hb hby hn1 hn2 hp
  · have e : val true ((l.drop p).take n) = hor ((l.drop p).take n) n := by
      have := hor_whole ((l.drop p).take n)
      rw [hlen] at this
      rw [this, val, hlen]; rfl
    rw [e]; exact refGet_big l b off cap p n w hcell hb hby hn1 hn2 hp
end Go.Proofs.Ytojcokdfplldbaa
