/-
  Bytes that are all alike are packed short: the law's walk. No conditions.
-/
import Derived.Test.YtbhcnpkioamjlaaMShortW
namespace Go.Proofs.Ytbhcnpkioamjlaa
open Go.RowKit
set_option linter.unusedVariables false
set_option maxRecDepth 100000

theorem rep_set {j len : Nat} (x : Int) (h : j < len) : (List.replicate j x ++ List.replicate (len - j) (0 : Int)).set j x = List.replicate (j + 1) x ++ List.replicate (len - (j + 1)) 0 := by
  rw [List.set_append_right _ _ (by simp), List.length_replicate, Nat.sub_self, show len - j = (len - (j + 1)) + 1 by omega, List.replicate_succ, List.set_cons_zero, List.replicate_succ', List.append_assoc]
  rfl
set_option maxHeartbeats 16000000 in
theorem matchAlike_walk (x a1 : Int) (w : World) (h0 : (Lit.int .u8 x).wf = true) (h1 : (Lit.int .u64 a1).wf = true) :
    Calls Try.prog 7 #[.int .u8 x, .int .u64 a1] w fun e w' => e = .returned (.bool true) ∧ Below w.heap.size w w' := by
  obtain ⟨i0, hi, hi0, hi1, hi2⟩ := info_parts Try.info5
  have ha : 0 ≤ a1 := by simp [Lit.wf, IntKind.min, IntKind.max, IntKind.bits, IntKind.signed] at h1; omega
  obtain ⟨k, hk⟩ : ∃ k : Nat, a1.tmod 10000 = (k : Int) := ⟨(a1 % 10000).toNat, by rw [Int.tmod_eq_emod_of_nonneg ha]; omega⟩
  have hkb : k < 10000 := by
    rw [Int.tmod_eq_emod_of_nonneg ha] at hk
    omega
  have hw1 : wrap64 (k : Int) = (k : Int) := by unfold wrap64; omega
  have hw2 : IntKind.i64.wrap (k : Int) = (k : Int) := wrap_i64_in _ (by omega) (by omega)
  have hw3 : IntKind.u64.wrap (k : Int) = (k : Int) := by rw [IntKind.wrap_u64]; omega
  have HS : Hid _ := pkX_alike (c := 0) (Nat.zero_le _) k x
  have HSH : Hid _ := pkX_short 0 (List.replicate k x)
  clear h0 h1
  go_enter Try.func7, Try.ntmps7
  go_wp2_with (first | (at_make; refine wpList_make_bytes _ rfl _ _ 22 rfl i0 Try.underlying22 hi hi0 hi1 hi2 _ _ _ _ k rfl rfl rfl rfl (by omega) ?_; intro w5 hr5 hg5; have HR5 : Hid (Row w5 w.heap.size (List.replicate k 0) ∧ Below w.heap.size w w5) := ⟨hr5, below_of_grown hg5⟩; clear hr5 hg5))
  go_loopw [7] (fun i ws => ∃ j : Nat, j ≤ k ∧ i = .int .i64 j ∧ Row ws w.heap.size (List.replicate j x ++ List.replicate (k - j) 0) ∧ Below w.heap.size w ws) (fun i _ => k - (intOf i).toNat)
  case atStart => exact ⟨0, Nat.zero_le _, rfl, by simpa using HR5.out.1, HR5.out.2⟩
  case round =>
    obtain ⟨j, hj, rfl, hrj, hbj⟩ := hrel
    by_cases hlt3 : j < k
    · have hc2 := hrj.cell (i := j) (by simp; omega)
      have hf2 := hrj.free j
      have HSET : Hid _ := hrj.set j x
      rw [rep_set x hlt3] at HSET
      have HBJ2 : Hid (Below w.heap.size w _) := hbj
      clear hrj hbj
      go_wp2_with fail
      go_roundw
      case rel => exact ⟨j + 1, by omega, by go_num, HSET.out, Below.setCell (p := ⟨w.heap.size, j, none⟩) HBJ2.out (Nat.le_refl _) _⟩
      case measure => simp [intOf]; omega
    · obtain rfl : k = j := by omega
      rw [Nat.sub_self, List.replicate_zero, List.append_nil] at hrj
      have HBJ2 : Hid (Below w.heap.size w _) := hbj
      have hwh := hrj.whole
      rw [List.length_replicate] at hwh
      have HP : Hid _ := pack_any _ _ _ hwh (by rw [List.length_replicate]; omega)
      have hq : (k : Int).tdiv 64 = ((k / 64 : Nat) : Int) := by rw [Int.tdiv_eq_ediv_of_nonneg (by omega)]; omega
      obtain ⟨kq, hkq⟩ : ∃ kq, k / 64 = kq := ⟨_, rfl⟩
      rw [hkq] at hq
      have hqb : kq ≤ k := by rw [← hkq]; exact Nat.div_le_self _ _
      have hq1 : IntKind.i64.wrap (kq : Int) = (kq : Int) := wrap_i64_in _ (by omega) (by omega)
      have hq2 : IntKind.i64.wrap ((kq : Int) + 128) = (kq : Int) + 128 := wrap_i64_in _ (by omega) (by omega)
      have hq3 : (k : Int) / 64 = (kq : Int) := by omega
      have HKQ : Hid (k / 64 = kq) := hkq
      clear hrj hbj hwh hkq
      go_wp2_with fail
      refine Calls.mono HP.out ?_
      intro e w2 h2
      obtain ⟨a2, m, c2, rfl, hm, ho2, hb2⟩ := h2.open
      have HB2 : Hid (Below w.heap.size w w2) := HBJ2.out.trans (hb2.mono HBJ2.out.size)
      have hs := HS.out
      have hsh := HSH.out.1
      rw [hm, HKQ.out] at hs
      rw [hm] at hsh
      have q1 : (1 : Int) ≤ (m : Int) := by omega
      have q2 : (m : Int) ≤ (kq : Int) + 128 := by omega
      clear ho2 hb2 h2 hm hs hsh
      go_wp2_with (go_at_call 9; refine (lives15_any _).mono ?_; rintro e w11 ⟨rfl, hb11⟩; have HB11 : Hid (Below w.heap.size w w11) := HB2.out.trans (hb11.mono HB2.out.size); clear hb11)
      go_ret
      exact ⟨rfl, HB11.out⟩
end Go.Proofs.Ytbhcnpkioamjlaa
