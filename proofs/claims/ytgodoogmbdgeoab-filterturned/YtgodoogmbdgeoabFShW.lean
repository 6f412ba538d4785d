/-
  What Shuffle and Unshuffle do with each number. Conditions: the number is one of those that there are.
-/
import Derived.Test.YtgodoogmbdgeoabWalkF
import Derived.Test.YtgodoogmbdgeoabCopyMin
import Derived.Test.YtgodoogmbdgeoabFDeM
namespace Go.Proofs.Ytgodoogmbdgeoab
open Go.RowKit
set_option linter.unusedVariables false
set_option maxRecDepth 100000

theorem bs_someF {w : World} {ao : Option Addr} {n cap : Nat} {l : List Int} (h : Bs w (.slice ao n cap) l) (h0 : 0 < n) : ∃ b off, ao = some ⟨b, off, none⟩ ∧ ∀ i, i < n → w.cell? ⟨b, off + i, none⟩ = some (.int .u8 (l.getD i 0)) := by
  obtain ⟨ao', cap', e, _⟩ := id h
  injection e with e1 e2 e3
  subst e2
  obtain ⟨b, off, cap2, e4, _, hc⟩ := h.opened h0
  injection e4 with e5 _ _
  exact ⟨b, off, e5, hc⟩
theorem bel_cellF {w0 w : World} {a : Addr} {x : Value} (hb : Below w0.heap.size w0 w) (h : w0.cell? a = some x) : w.cell? a = some x := (hb.cell (World.block_lt_of_cell? _ _ h)).trans h
theorem bel_drew {B : Nat} {w0 w : World} (h : Below B w0 w) : Below B w0 w.drew := ⟨h.os, h.tape, h.output, h.size, h.block⟩
theorem wrap_nat {a b : Int} {p : Nat} (h : a * b = (p : Int)) (hp : p ≤ 140737488351232) : IntKind.i64.wrap (a * b) = (p : Int) := by rw [h]; exact wrap_i64_in _ (by omega) (by omega)
theorem sh_pl {z n k r len : Nat} (hn : n * z ≤ len) (hk : k < n) (hr : r < z) : r * n + k < len ∧ k * z + r < len := by
  have h1 := mix_lt hk hr
  have h2 : r * n + k < z * n := mix_lt hr hk
  rw [Nat.mul_comm z n] at h2
  omega
set_option maxHeartbeats 4000000 in
theorem shu1_any (z k n len : Nat) (l : List Int) (ao : Option Addr) (cap g bz bb : Nat) (w0 w : World) (hl : Bs w0 (.slice ao len cap) l) (hll : l.length = len) (hlb : len ≤ 140737488351232) (hnl : l.length / z = n)
    (cz : w0.cell? ⟨bz, 0, none⟩ = some (.int .i64 (z : Int))) (cb : w0.cell? ⟨bb, 0, none⟩ = some (.slice ao len cap)) (hb : Below w0.heap.size w0 w) (hr : Row w g (shT z k 0 l)) (hg : w0.heap.size ≤ g) (hz1 : 1 ≤ z) (hz8 : z ≤ 8) (hk : k < n) :
    Calls Try.prog 21 #[.slice (some ⟨g, 0, none⟩) len len, .int .i64 (n : Int), .int .i64 (k : Int), .pointer (some ⟨bz, 0, none⟩), .pointer (some ⟨bb, 0, none⟩)] w fun e w' => e = .returned (.tuple #[]) ∧ Row w' g (shT z (k + 1) 0 l) ∧ Below w0.heap.size w0 w' := by
  have hnz : n * z ≤ len := by rw [← hnl, ← hll]; exact num_le l z
  obtain ⟨b, off, rfl, hc⟩ := bs_someF hl (by have := (sh_pl hnz hk (show 0 < z by omega)).1; omega)
  have HC : Hid (∀ i, i < len → w0.cell? ⟨b, off + i, none⟩ = some (.int .u8 (l.getD i 0))) := hc
  have HCZ : Hid (w0.cell? ⟨bz, 0, none⟩ = some (.int .i64 (z : Int))) := cz
  have HCB : Hid (w0.cell? ⟨bb, 0, none⟩ = some (.slice (some ⟨b, off, none⟩) len cap)) := cb
  have HPL : Hid (∀ r, r < z → r * n + k < len ∧ k * z + r < len) := fun r hr => sh_pl hnz hk hr
  have HST : Hid (∀ r, r < z → (shT z k r l).set (r * n + k) (l.getD (k * z + r) 0) = shT z k (r + 1) l) := fun r hr => by
    have := shT_step (z := z) (k := k) (r := r) (l := l) (by rw [hnl]; exact hk) hr
    rwa [hnl] at this
  have HLEN : Hid (∀ r, (shT z k r l).length = len) := fun r => by rw [shT_len, hll]
  have HNX : Hid (shT z k z l = shT z (k + 1) 0 l) := shT_next z k l
  have c1 := bel_cellF hb cz
  clear hl hc cz cb hnz hnl
  go_enter Try.func21, Try.ntmps21
  go_wp2_with fail
  go_loopw [10] (fun i wr => ∃ r : Nat, r ≤ z ∧ i = .int .i64 r ∧ Row wr g (shT z k r l) ∧ Below w0.heap.size w0 wr) (fun i _ => z - (intOf i).toNat)
  case atStart => exact ⟨0, Nat.zero_le _, rfl, hr, hb⟩
  case round =>
    obtain ⟨r, hrz, rfl, hrr, hbr⟩ := hrel
    by_cases hlt : r < z
    · obtain ⟨q1, q2⟩ := HPL.out r hlt
      have h1 := HC.out _ q2
      have hst := HST.out r hlt
      obtain ⟨p, hp⟩ : ∃ p, r * n = p := ⟨_, rfl⟩
      obtain ⟨s, hs⟩ : ∃ s, k * z = s := ⟨_, rfl⟩
      rw [hp] at q1 hst
      rw [hs] at q2 h1 hst
      have e1 : IntKind.i64.wrap ((r : Int) * (n : Int)) = (p : Int) := wrap_nat (by rw [← Int.natCast_mul, hp]) (by omega)
      have e2 : IntKind.i64.wrap ((k : Int) * (z : Int)) = (s : Int) := wrap_nat (by rw [← Int.natCast_mul, hs]) (by omega)
      obtain ⟨x, hx⟩ : ∃ x, l.getD (s + r) 0 = x := ⟨_, rfl⟩
      rw [hx] at h1 hst
      have hc1 := bel_cellF hbr h1
      have hc2 := bel_cellF hbr HCZ.out
      have hc3 := bel_cellF hbr HCB.out
      have hc4 := hrr.cell (i := p + k) (by rw [HLEN.out]; exact q1)
      have hf4 := hrr.free (p + k)
      have HX : Hid ((shT z k r l).set (p + k) x = shT z k (r + 1) l) := hst
      clear h1 hst hp hs hx c1
      go_wp2_with fail
      go_roundw
      case rel => exact ⟨r + 1, by omega, by go_num, by rw [← HX.out]; exact hrr.set _ _, hbr.setCell hg _⟩
      case measure => simp [intOf]; omega
    · go_wp2_with fail
      go_end0
      obtain rfl : r = z := by omega
      rw [HNX.out] at hrr
      exact ⟨rfl, hrr, hbr⟩
set_option maxHeartbeats 4000000 in
theorem uns1_any (z k n len : Nat) (l : List Int) (ao : Option Addr) (cap g bz bb : Nat) (w0 w : World) (hl : Bs w0 (.slice ao len cap) l) (hll : l.length = len) (hlb : len ≤ 140737488351232) (hnl : l.length / z = n)
    (cz : w0.cell? ⟨bz, 0, none⟩ = some (.int .i64 (z : Int))) (cb : w0.cell? ⟨bb, 0, none⟩ = some (.slice ao len cap)) (hb : Below w0.heap.size w0 w) (hr : Row w g (unT z k 0 l)) (hg : w0.heap.size ≤ g) (hz1 : 1 ≤ z) (hz8 : z ≤ 8) (hk : k < n) :
    Calls Try.prog 22 #[.slice (some ⟨g, 0, none⟩) len len, .int .i64 (n : Int), .int .i64 (k : Int), .pointer (some ⟨bz, 0, none⟩), .pointer (some ⟨bb, 0, none⟩)] w fun e w' => e = .returned (.tuple #[]) ∧ Row w' g (unT z (k + 1) 0 l) ∧ Below w0.heap.size w0 w' := by
  have hnz : n * z ≤ len := by rw [← hnl, ← hll]; exact num_le l z
  obtain ⟨b, off, rfl, hc⟩ := bs_someF hl (by have := (sh_pl hnz hk (show 0 < z by omega)).1; omega)
  have HC : Hid (∀ i, i < len → w0.cell? ⟨b, off + i, none⟩ = some (.int .u8 (l.getD i 0))) := hc
  have HCZ : Hid (w0.cell? ⟨bz, 0, none⟩ = some (.int .i64 (z : Int))) := cz
  have HCB : Hid (w0.cell? ⟨bb, 0, none⟩ = some (.slice (some ⟨b, off, none⟩) len cap)) := cb
  have HPL : Hid (∀ r, r < z → r * n + k < len ∧ k * z + r < len) := fun r hr => sh_pl hnz hk hr
  have HST : Hid (∀ r, r < z → (unT z k r l).set (k * z + r) (l.getD (r * n + k) 0) = unT z k (r + 1) l) := fun r hr => by
    have := unT_step (z := z) (k := k) (r := r) (l := l) (by rw [hnl]; exact hk) hr
    rwa [hnl] at this
  have HLEN : Hid (∀ r, (unT z k r l).length = len) := fun r => by rw [unT_len, hll]
  have HNX : Hid (unT z k z l = unT z (k + 1) 0 l) := unT_next z k l hz1
  have c1 := bel_cellF hb cz
  clear hl hc cz cb hnz hnl
  go_enter Try.func22, Try.ntmps22
  go_wp2_with fail
  go_loopw [10] (fun i wr => ∃ r : Nat, r ≤ z ∧ i = .int .i64 r ∧ Row wr g (unT z k r l) ∧ Below w0.heap.size w0 wr) (fun i _ => z - (intOf i).toNat)
  case atStart => exact ⟨0, Nat.zero_le _, rfl, hr, hb⟩
  case round =>
    obtain ⟨r, hrz, rfl, hrr, hbr⟩ := hrel
    by_cases hlt : r < z
    · obtain ⟨q1, q2⟩ := HPL.out r hlt
      have h1 := HC.out _ q1
      have hst := HST.out r hlt
      obtain ⟨p, hp⟩ : ∃ p, r * n = p := ⟨_, rfl⟩
      obtain ⟨s, hs⟩ : ∃ s, k * z = s := ⟨_, rfl⟩
      rw [hp] at q1 h1 hst
      rw [hs] at q2 hst
      have e1 : IntKind.i64.wrap ((r : Int) * (n : Int)) = (p : Int) := wrap_nat (by rw [← Int.natCast_mul, hp]) (by omega)
      have e2 : IntKind.i64.wrap ((k : Int) * (z : Int)) = (s : Int) := wrap_nat (by rw [← Int.natCast_mul, hs]) (by omega)
      obtain ⟨x, hx⟩ : ∃ x, l.getD (p + k) 0 = x := ⟨_, rfl⟩
      rw [hx] at h1 hst
      have hc1 := bel_cellF hbr h1
      have hc2 := bel_cellF hbr HCZ.out
      have hc3 := bel_cellF hbr HCB.out
      have hc4 := hrr.cell (i := s + r) (by rw [HLEN.out]; exact q2)
      have hf4 := hrr.free (s + r)
      have HX : Hid ((unT z k r l).set (s + r) x = unT z k (r + 1) l) := hst
      clear h1 hst hp hs hx c1
      go_wp2_with fail
      go_region
      go_wp2_with fail
      go_roundw
      case rel => exact ⟨r + 1, by omega, by go_num, by rw [← HX.out]; exact (hrr.set _ _).drew, bel_drew (Below.setCell (p := ⟨g, s + r, none⟩) hbr hg _)⟩
      case measure => simp [intOf]; omega
    · go_wp2_with fail
      go_end0
      obtain rfl : r = z := by omega
      rw [HNX.out] at hrr
      exact ⟨rfl, hrr, hbr⟩
end Go.Proofs.Ytgodoogmbdgeoab
