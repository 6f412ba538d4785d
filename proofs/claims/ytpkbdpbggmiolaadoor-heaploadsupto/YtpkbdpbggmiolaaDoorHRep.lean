/-
  The walk of slices.Repeat of one nought. Conditions: the count is not below nought and below 2^32.
-/
import Derived.Test.YtpkbdpbggmiolaaDoorHMul
namespace Go.Proofs.YtpkbdpbggmiolaaDoor
open Go.RowKit Go.Maps
set_option linter.unusedVariables false
set_option maxRecDepth 100000

/-- 'copy' within a row of noughts: it stays one. -/
theorem run_copy_zeros (w : World) (g off dLen dCap sLen sCap n : Nat) (hg : Row w g (List.replicate n 0)) (hdl : off + dLen ≤ n) (hsl : sLen ≤ n) (B : Nat) (w0 : World) (hb : Below B w0 w) (hBg : B ≤ g) :
    ∃ w', (Builtin.copy_ #[29, 29] 3 #[.slice (some ⟨g, off, none⟩) dLen dCap, .slice (some ⟨g, 0, none⟩) sLen sCap]).run Tryd.prog w = .ok (goInt (min sLen dLen : Nat)) w' ∧ Row w' g (List.replicate n 0) ∧ Below B w0 w' := by
  have e := bcells_length (List.replicate (min sLen dLen) 0)
  simp only [List.length_replicate] at e
  have hrun := run_copy_row (P := Tryd.prog) w 29 29 3 5 g off dLen dCap ⟨g, 0, none⟩ sLen sCap (bcells (List.replicate n 0)).toArray 5 (bcells (List.replicate (min sLen dLen) 0)) Tryd.underlying29 Tryd.size5 hg e
    (fun j u hj => by
      obtain ⟨hj', rfl⟩ := bcells_get hj
      rw [List.length_replicate] at hj'
      have h1 : j < n := by omega
      rw [addr_add]
      have := hg
      unfold Row at this
      simp [World.cell?, this, bcells, h1, List.getD, hj']) (by rw [e]; simp [bcells_length]; omega) (bcells_one _)
  rw [e] at hrun
  refine ⟨_, hrun, ?_, below_setRow hb hBg _⟩
  have e2 : (bcells (List.replicate n 0)).take off ++ (bcells (List.replicate (min sLen dLen) 0) ++ (bcells (List.replicate n 0)).drop (off + min sLen dLen)) = bcells (List.replicate n 0) := by
    simp only [bcells, List.map_replicate, List.take_replicate, List.drop_replicate]
    rw [List.replicate_append_replicate, List.replicate_append_replicate]
    congr 1
    omega
  have h9 := setRow_heap w g _ (bcells (List.replicate n 0)).toArray 5 (0, 0) hg
  unfold Row
  rw [List.append_assoc, show (bcells (List.replicate n 0)).toArray.toList = bcells (List.replicate n 0) from rfl, e2]
  exact h9

theorem rep_head {n : Nat} (h : 0 < n) : (List.replicate n (0 : Int)).take 0 ++ ([0] ++ (List.replicate n 0).drop (0 + [(0 : Int)].length)) = List.replicate n 0 := by
  obtain ⟨m, rfl⟩ : ∃ m, n = m + 1 := ⟨n - 1, by omega⟩
  simp [List.replicate_succ]
set_option maxHeartbeats 2000000 in
theorem rep_any (v : Value) (n : Nat) (w : World) (hv : Bs w v [0]) (hn : n < 4294967296) :
    Calls Tryd.prog 30 #[v, .int .i64 n] w fun e w' => ∃ v', e = .returned v' ∧ Bs w' v' (List.replicate n 0) ∧ Below w.heap.size w w' := by
  obtain ⟨i0, hi, hz0, hz1, hz2⟩ := info_parts Tryd.info5
  have HV : Hid (Bs w v [0]) := hv
  obtain ⟨ao, cap, rfl, hc, hnn, hcell⟩ := hv
  clear hcell hnn
  have HMU : Hid _ := mul_one' n hn w
  have h5 : IntKind.u64.wrap (n : Int) = n := by simp [IntKind.wrap, IntKind.bits, IntKind.signed]; omega
  have h6 : IntKind.i64.wrap (n : Int) = n := by simp [IntKind.wrap, IntKind.bits, IntKind.signed]; omega
  simp only [List.length_cons, List.length_nil, Nat.zero_add] at hc ⊢
  go_enter Tryd.func30, Tryd.ntmps30
  rcases Nat.eq_zero_or_pos n with h0 | h0
  · subst h0
    go_wp2_with (first | (go_at_call 45; refine Calls.mono HMU.out ?_; rintro e w1 ⟨rfl, hw1⟩; obtain rfl := hw1.symm) | (at_make; refine wpList_make_bytes _ rfl _ _ 29 rfl i0 Tryd.underlying29 hi hz0 hz1 hz2 _ _ _ _ 0 rfl rfl (by omega) (by omega) (by omega) ?_; intro w1 hr1 hg1) | (refine wpList_copy_nothing rfl (.tmp 31) (.tmp 32) 29 29 rfl 5 Tryd.underlying29 Tryd.size5 _ _ _ _ _ _ rfl rfl (Nat.min_eq_right (Nat.zero_le _)) ?_))
    go_loopw [8] (fun i wr => i = .int .i64 0 ∧ Hid (wr = w1)) (fun i _ => 0)
    case atStart => exact ⟨by simp, rfl⟩
    case round =>
      obtain ⟨rfl, HW⟩ := hrel
      obtain rfl := HW.out
      go_wp2
      go_ret
      exact ⟨_, rfl, hr1.bs 0 0 0 (by simp) (by simp), below_of_grown hg1⟩
  · go_wp2_with (first | (go_at_call 45; refine Calls.mono HMU.out ?_; rintro e w1 ⟨rfl, hw1⟩; obtain rfl := hw1.symm) | (at_make; refine wpList_make_bytes _ rfl _ _ 29 rfl i0 Tryd.underlying29 hi hz0 hz1 hz2 _ _ _ _ n rfl rfl (by omega) (by omega) (by omega) ?_; intro w1 hr1 hg1) | (refine wpList_copy_bytes rfl (.tmp 31) (.tmp 32) 29 rfl Tryd.underlying29 Tryd.size5 w.heap.size 0 n n _ rfl _ rfl (List.replicate n 0) [0] (fun _ => rfl) (by assumption) (HV.out.below (below_of_grown (by assumption))) (by simp; omega) (by simp; omega) (List.replicate n 0) (rep_head h0) w.heap.size w (below_of_grown (by assumption)) (Nat.le_refl _) ?_; intro w2 hr2 hb2))
    clear hr1 hg1 HV
    have HR2 : Hid (Row w2 w.heap.size (List.replicate n 0)) := hr2
    have HB2 : Hid (Below w.heap.size w w2) := hb2
    clear hr2 hb2
    go_loopw [8] (fun i wr => ∃ k : Nat, k ≤ n ∧ 1 ≤ k ∧ i = .int .i64 (k : Int) ∧ Hid (Row wr w.heap.size (List.replicate n 0)) ∧ Hid (Below w.heap.size w wr)) (fun i _ => n + 1 - (intOf i).toNat)
    case atStart => exact ⟨1, h0, Nat.le_refl _, rfl, HR2.out, HB2.out⟩
    case round =>
      obtain ⟨k, hk, hk1, rfl, HR, HB⟩ := hrel
      by_cases hlt : k < n
      · go_upto_region 9 with fail
        obtain ⟨w3, hr3, hx3, hb3⟩ := run_copy_zeros wr.drew w.heap.size k (n - k) (n - k) k n n HR.out (by omega) hk w.heap.size w (below_drewN HB.out 1) (Nat.le_refl _)
        have HR3 : Hid (Row w3 w.heap.size (List.replicate n 0)) := hx3
        have HB3 : Hid (Below w.heap.size w w3) := hb3
        clear hx3 hb3
        obtain ⟨M, HM⟩ : ∃ M, Hid (min k (n - k) = M) := ⟨_, rfl⟩
        have hM1 : 1 ≤ M := by have := HM.out; omega
        have hM2 : k + M ≤ n := by have := HM.out; omega
        rw [HM.out] at hr3
        simp only [goInt] at hr3
        have hkm : IntKind.i64.wrap ((k : Int) + (M : Int)) = (k : Int) + M := by simp [IntKind.wrap, IntKind.bits, IntKind.signed]; omega
        go_region_with (fail)
        simp [Exit.inBlock, Act.put]
        go_wp2
        go_roundw
        case rel => exact ⟨k + M, hM2, by omega, by simp, HR3.out, HB3.out⟩
        case measure => simp [intOf]; omega
      · obtain rfl : k = n := by omega
        go_wp2
        go_ret
        exact ⟨_, rfl, by have := HR.out.bs 0 k k (by simp) (Nat.le_refl _); simpa using this, HB.out⟩
end Go.Proofs.YtpkbdpbggmiolaaDoor
