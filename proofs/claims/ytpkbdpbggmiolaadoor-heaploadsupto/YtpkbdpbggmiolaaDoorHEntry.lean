/-
  The walk of entryAt: what stands for a number at a place. Conditions: bytes are bytes, lengths such as memory bears.
-/
import Derived.Test.YtpkbdpbggmiolaaDoorHBytes2
namespace Go.Proofs.YtpkbdpbggmiolaaDoor
open Go.RowKit Go.Maps
set_option linter.unusedVariables false
set_option maxRecDepth 100000

theorem entry_end (v : Value) (l : List Int) (p : Nat) (w : World) (hl : Bs w v l) (hb : l.length ≤ 140737488351232) (hp : l.length ≤ p) (hp2 : p ≤ 140737488355328) :
    Calls Tryd.prog 39 #[v, .int .i64 (p : Int)] w fun e w' => e = .returned (.tuple #[.slice none 0 0, .bool false, .int .i64 (-1)]) ∧ w' = w := by
  obtain ⟨ao, cap, rfl, hc, hn, hcell⟩ := hl
  obtain ⟨n, hn'⟩ : ∃ n, l.length = n := ⟨_, rfl⟩
  rw [hn'] at hc hp hb ⊢
  clear hcell hn hn'
  have h1 : decide ((n : Int) ≤ (p : Int)) = true := by simp; omega
  go_enter Tryd.func39, Tryd.ntmps39
  go_wp2
  go_ret3
  exact ⟨rfl, rfl⟩
theorem entry_absent (v : Value) (l : List Int) (p : Nat) (w : World) (hl : Bs w v l) (hb : l.length ≤ 140737488351232) (hp : p < l.length) (h0 : l.getD p 0 = 0) :
    Calls Tryd.prog 39 #[v, .int .i64 (p : Int)] w fun e w' => e = .returned (.tuple #[.slice none 0 0, .bool false, .int .i64 ((p : Int) + 1)]) ∧ w' = w := by
  obtain ⟨b, off, cap, rfl, hc, hcell⟩ := hl.opened (by omega)
  have c0 := hcell p hp
  rw [h0] at c0
  obtain ⟨n, hn'⟩ : ∃ n, l.length = n := ⟨_, rfl⟩
  rw [hn'] at hc hp hb ⊢
  clear hcell hn' hl
  have h1 : decide ((n : Int) ≤ (p : Int)) = false := by simp; omega
  go_enter Tryd.func39, Tryd.ntmps39
  go_wp2
  go_ret3
  exact ⟨rfl, rfl⟩
theorem entry_other (v : Value) (l : List Int) (p : Nat) (w : World) (hl : Bs w v l) (hb : l.length ≤ 140737488351232) (hp : p < l.length) (h0 : l.getD p 0 ≠ 0) (h1 : l.getD p 0 ≠ 1) :
    Calls Tryd.prog 39 #[v, .int .i64 (p : Int)] w fun e w' => e = .returned (.tuple #[.slice none 0 0, .bool false, .int .i64 (-1)]) ∧ w' = w := by
  obtain ⟨b, off, cap, rfl, hc, hcell⟩ := hl.opened (by omega)
  have c0 := hcell p hp
  obtain ⟨x, hx⟩ : ∃ x, l.getD p 0 = x := ⟨_, rfl⟩
  rw [hx] at c0 h0 h1
  obtain ⟨n, hn'⟩ : ∃ n, l.length = n := ⟨_, rfl⟩
  rw [hn'] at hc hp hb ⊢
  clear hcell hn' hl hx
  have h2 : decide ((n : Int) ≤ (p : Int)) = false := by simp; omega
  have h3 : (x == 0) = false := by simpa using h0
  have h4 : (x == 1) = false := by simpa using h1
  go_enter Tryd.func39, Tryd.ntmps39
  go_wp2
  go_ret3
  exact ⟨rfl, rfl⟩
theorem entry_bad (v : Value) (l : List Int) (p : Nat) (w : World) (hl : Bs w v l) (hb : l.length ≤ 140737488351232) (hby : Byt l) (hp : p < l.length) (h1 : l.getD p 0 = 1) (hE : gbErr l ((p : Int) + 1) ≠ 0) :
    Calls Tryd.prog 39 #[v, .int .i64 (p : Int)] w fun e w' => e = .returned (.tuple #[.slice none 0 0, .bool false, .int .i64 (-1)]) ∧ Below w.heap.size w w' := by
  have HG : Hid _ := getBytes_any v l ((p : Int) + 1) w hl hb hby
  obtain ⟨b, off, cap, rfl, hc, hcell⟩ := hl.opened (by omega)
  have c0 := hcell p hp
  rw [h1] at c0
  obtain ⟨n, hn'⟩ : ∃ n, l.length = n := ⟨_, rfl⟩
  obtain ⟨er, HER⟩ : ∃ er, Hid (gbErr l ((p : Int) + 1) = er) := ⟨_, rfl⟩
  rw [HER.out] at hE HG
  rw [hn'] at hc hp hb HG ⊢
  clear hcell hn' hl
  have h2 : decide ((n : Int) ≤ (p : Int)) = false := by simp; omega
  have h3 : (er == 0) = false := by simpa using hE
  go_enter Tryd.func39, Tryd.ntmps39
  go_wp2_with (go_at_call 54; refine Calls.mono HG.out ?_; rintro e w1 ⟨x1, rfl, hf1, hb1⟩; have HB1 : Hid (Below w.heap.size w w1) := hb1; clear hf1 hb1)
  go_ret3
  exact ⟨rfl, HB1.out⟩
theorem entry_yes (v : Value) (l : List Int) (p : Nat) (w : World) (hl : Bs w v l) (hb : l.length ≤ 140737488351232) (hby : Byt l) (hp : p < l.length) (h1 : l.getD p 0 = 1) (hE : gbErr l ((p : Int) + 1) = 0) :
    Calls Tryd.prog 39 #[v, .int .i64 (p : Int)] w fun e w' => ∃ x, e = .returned (.tuple #[x, .bool true, .int .i64 (gbNext l ((p : Int) + 1))]) ∧ Fr w' w.heap.size x (gbList l ((p : Int) + 1)) ∧ Below w.heap.size w w' := by
  have HG : Hid _ := getBytes_any v l ((p : Int) + 1) w hl hb hby
  rw [hE] at HG
  obtain ⟨b, off, cap, rfl, hc, hcell⟩ := hl.opened (by omega)
  have c0 := hcell p hp
  rw [h1] at c0
  obtain ⟨n, hn'⟩ : ∃ n, l.length = n := ⟨_, rfl⟩
  obtain ⟨nx, HNX⟩ : ∃ nx, Hid (gbNext l ((p : Int) + 1) = nx) := ⟨_, rfl⟩
  rw [HNX.out] at HG ⊢
  rw [hn'] at hc hp hb HG ⊢
  clear hcell hn' hl
  have h2 : decide ((n : Int) ≤ (p : Int)) = false := by simp; omega
  go_enter Tryd.func39, Tryd.ntmps39
  go_wp2_with (go_at_call 54; refine Calls.mono HG.out ?_; rintro e w1 ⟨x1, rfl, hf1, hb1⟩; have HF1 : Hid (Fr w1 w.heap.size x1 (gbList l ((p : Int) + 1))) := hf1; have HB1 : Hid (Below w.heap.size w w1) := hb1; clear hf1 hb1)
  go_ret3
  exact ⟨x1, rfl, HF1.out, HB1.out⟩
end Go.Proofs.YtpkbdpbggmiolaaDoor
