/-
  Walks of Fletcher's sum, the program's and the document's: both tell fletch of the bytes. Conditions: lengths within the machine's bounds.
-/
import Derived.Test.YtgodoogmbdgeoabWalkF
import Derived.Test.YtgodoogmbdgeoabTurned
namespace Go.Proofs.Ytgodoogmbdgeoab
open Go.RowKit
set_option linter.unusedVariables false
set_option maxRecDepth 100000

/-- A slice that reads as bytes, opened cell by cell. -/
theorem Bs.cells {w : World} {v : Value} {l : List Int} (h : Bs w v l) :
    ∃ ao cap, v = .slice ao l.length cap ∧ l.length ≤ cap ∧ ∀ i, i < l.length → ∃ b off, ao = some ⟨b, off, none⟩ ∧ w.cell? ⟨b, off + i, none⟩ = some (.int .u8 (l.getD i 0)) := by
  have h' := h
  obtain ⟨ao, cap, rfl, hc, hn, hcell⟩ := h
  refine ⟨ao, cap, rfl, hc, fun i hi => ?_⟩
  obtain ⟨b, off, cap', hv, _, hcell'⟩ := h'.opened (by omega)
  injection hv with h1 h2 h3
  exact ⟨b, off, h1, hcell' i hi⟩

theorem reduced_any (n : Int) (w : World) (h0 : 0 ≤ n) (h1 : n < 131070) :
    Calls Try.prog 37 #[.int .u32 n] w fun e w' => e = .returned (.int .u32 (n % 65535)) ∧ w' = w := by
  by_cases h : 65535 ≤ n
  · have H : Hid (n - 65535 = n % 65535) := by show _ = _; omega
    go_enter Try.func37, Try.ntmps37
    go_wp2
    go_ret
    exact ⟨ret_int H.out, rfl⟩
  · have H : Hid (n = n % 65535) := by show _ = _; omega
    go_enter Try.func37, Try.ntmps37
    go_wp2
    go_ret
    exact ⟨ret_int H.out, rfl⟩

/-- Fletcher's two numbers of the first k bytes. -/
def fA (l : List Int) (k : Nat) : Int := (fl 0 0 (l.take k)).1 % 65535
def fB (l : List Int) (k : Nat) : Int := (fl 0 0 (l.take k)).2 % 65535
theorem fl_take (l : List Int) (k : Nat) (h : k < l.length) : fl 0 0 (l.take (k + 1)) = ((fl 0 0 (l.take k)).1 + l.getD k 0, (fl 0 0 (l.take k)).2 + ((fl 0 0 (l.take k)).1 + l.getD k 0)) := by
  rw [List.take_succ_eq_append_getElem h, fl_append]
  have : l.getD k 0 = l[k] := by simp [List.getD, h]
  rw [this]; rfl
theorem fA_next (l : List Int) (k : Nat) (h : k < l.length) : (fA l k + l.getD k 0) % 65535 = fA l (k + 1) := by
  unfold fA; rw [fl_take l k h]; simp only; omega
theorem fB_next (l : List Int) (k : Nat) (h : k < l.length) : (fB l k + fA l (k + 1)) % 65535 = fB l (k + 1) := by
  unfold fA fB; rw [fl_take l k h]; simp only; omega
theorem fA_in (l : List Int) (k : Nat) : 0 ≤ fA l k ∧ fA l k < 65535 := by unfold fA; omega
theorem fB_in (l : List Int) (k : Nat) : 0 ≤ fB l k ∧ fB l k < 65535 := by unfold fB; omega
theorem fletch_parts (l : List Int) : fletch l = fB l l.length * 65536 + fA l l.length := by
  unfold fletch fA fB; rw [List.take_length]
theorem fletch_in (l : List Int) : 0 ≤ fletch l ∧ fletch l < 4294967296 := by
  have := fA_in l l.length; have := fB_in l l.length
  rw [fletch_parts]; omega
theorem or16 (a b : Int) (ha0 : 0 ≤ a) (ha1 : a < 65535) (hb0 : 0 ≤ b) (hb1 : b < 65535) : bits .or .u32 (a * 65536) b = a * 65536 + b := by
  rw [u32_or _ _ (by omega) (by omega) hb0 (by omega), nat_join 16 _ _ (by omega) (by omega)]
  omega

theorem fletcher_any (v : Value) (l : List Int) (w : World) (hl : Bs w v l) (hb : l.length ≤ 140737488351240) (hby : Byt l) :
    Calls Try.prog 30 #[v] w fun e w' => e = .returned (.int .u32 (fletch l)) ∧ w' = w := by
  obtain ⟨ao, cap, rfl, hc, hcell⟩ := hl.cells
  have HC : Hid (∀ i, i < l.length → ∃ b off, ao = some ⟨b, off, none⟩ ∧ w.cell? ⟨b, off + i, none⟩ = some (.int .u8 (l.getD i 0))) := hcell
  clear hcell hl
  go_enter Try.func30, Try.ntmps30
  go_wp2
  go_loop [3, 4, 9] (fun x y i => ∃ k : Nat, k ≤ l.length ∧ i = .int .i64 k ∧ x = .int .u32 (fA l k) ∧ y = .int .u32 (fB l k)) (fun _ _ i => l.length - (intOf i).toNat)
  case atStart => exact ⟨0, Nat.zero_le _, rfl, rfl, rfl⟩
  case round =>
    obtain ⟨k, hk, rfl, rfl, rfl⟩ := hrel
    by_cases hlt : k < l.length
    · obtain ⟨b, off, rfl, hc1⟩ := HC.out k hlt
      have HA : Hid ((fA l k + l.getD k 0) % 65535 = fA l (k + 1)) := fA_next l k hlt
      have HB : Hid ((fB l k + fA l (k + 1)) % 65535 = fB l (k + 1)) := fB_next l k hlt
      have hx := hby k
      have ha := fA_in l k
      have ha' := fA_in l (k + 1)
      have hb' := fB_in l k
      obtain ⟨x, hxe⟩ : ∃ x, x = l.getD k 0 := ⟨_, rfl⟩
      rw [← hxe] at hc1 hx HA
      clear hxe
      go_wp2_with fail
      refine (reduced_any _ _ (by omega) (by omega)).mono ?_
      rintro e w' ⟨rfl, rfl⟩
      rw [HA.out]
      go_wp2_with fail
      refine (reduced_any _ _ (by omega) (by omega)).mono ?_
      rintro e w' ⟨rfl, rfl⟩
      rw [HB.out]
      go_wp2
      go_round
      case rel => exact ⟨k + 1, by omega, by go_num, rfl, rfl⟩
      case measure => simp [intOf]; omega
    · obtain rfl : k = l.length := by omega
      have ha := fA_in l l.length
      have hb' := fB_in l l.length
      have HF : Hid (fletch l = fB l l.length * 65536 + fA l l.length) := fletch_parts l
      go_wp2
      go_ret
      exact ⟨ret_int (by rw [HF.out, ← or16 _ _ hb'.1 hb'.2 ha.1 ha.2]), rfl⟩

end Go.Proofs.Ytgodoogmbdgeoab
