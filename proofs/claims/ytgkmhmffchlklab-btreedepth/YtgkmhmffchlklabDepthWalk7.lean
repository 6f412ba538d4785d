/-
  The walk of BtreeDepth. Conditions: none but what memory bears.
-/
import Derived.Test.YtgkmhmffchlklabBPlay
import Derived.Test.YtgkmhmffchlklabBLives
namespace Go.Proofs.Ytgkmhmffchlklab
open Go.RowKit
set_option linter.unusedVariables false
set_option maxRecDepth 100000

theorem BT.rowE {w : World} {B p q most : Nat} {F : List It} {R : List Pc} {v : Value} {es : List En} (h : BT w B p q most F (rowE v es :: R)) :
    ∃ ao cap, v = .slice ao es.length cap ∧ ∀ i e, es[i]? = some e → ∃ g, ao = some ⟨g, 0, none⟩ ∧ w.cell? ⟨g, i * 3, none⟩ = some (.int .i64 e.1) := by
  obtain ⟨⟨h, t, lo, hS, _⟩, _⟩ := h
  have hr : w.ownsRow B 31 3 v es.length (gc encE es) := hS.at_ (Go.Proofs.Ytgkmhmffchlklab.rowE v es) (List.mem_append_right _ (List.mem_cons_of_mem _ (List.mem_cons_of_mem _ (List.Mem.head _))))
  obtain ⟨ao, cap, hv⟩ := row_slice hr
  refine ⟨ao, cap, hv, fun i e he => ?_⟩
  have h1 := (List.getElem?_eq_some_iff.1 he).1
  obtain ⟨g, capg, hg, _, _, _, _, _, hgc⟩ := row_some hr (by omega)
  rw [hv] at hg
  injection hg with e1 e2 e3
  exact ⟨g, e1, by have := hgc _ _ (gc_at encE_len es _ _ he 0 _ rfl); simpa using this⟩
theorem depth_ok {most b : Nat} {F : List It} {es : List En} (h : NdsP most F es) (hm : 3 ≤ most) (hb : F.length / (most / 2 + 1) < (most / 2 + 1) ^ b) : ∀ e ∈ es, e.1 ≤ (b : Int) + 1 := by
  intro e he
  rcases h with ⟨_, rfl⟩ | ⟨_, h, t, lo, hs, hlo, hF, hes⟩
  · cases he
  · have h1 : shE e ∈ nodesL (h + 1) 0 (up1 t) := by rw [← hes]; exact List.mem_map.2 ⟨e, he, rfl⟩
    have h2 := lvl_lt (h + 1) (up1 t) 0 _ h1
    have h2' : e.1 < ((0 : Nat) : Int) + ((h + 1 : Nat) : Int) := h2
    have h3 := low_pow h t lo hs
    rw [hF] at h3
    have h4 : 2 * (most / 2 + 1) ^ h ≤ (lo + 1) * (most / 2 + 1) ^ h := Nat.mul_le_mul_right _ (by omega)
    have h5 : 0 < (most / 2 + 1) ^ h := Nat.pow_pos (by omega)
    have h6 : (most / 2 + 1) ^ h ≤ F.length := by omega
    have h7 : h ≤ b := by
      apply Nat.le_of_not_lt
      intro hlt
      obtain ⟨d, rfl⟩ : ∃ d, h = b + 1 + d := ⟨h - (b + 1), by omega⟩
      have h8 : (most / 2 + 1) ^ (b + 1) ≤ (most / 2 + 1) ^ (b + 1 + d) := Nat.pow_le_pow_right (by omega) (by omega)
      have h9 : (most / 2 + 1) ^ b ≤ F.length / (most / 2 + 1) := (Nat.le_div_iff_mul_le (by omega)).2 (by have h10 : (most / 2 + 1) ^ b * (most / 2 + 1) = (most / 2 + 1) ^ (b + 1) := rfl; omega)
      omega
    omega
set_option maxHeartbeats 4000000 in
theorem btreeDepth_walk (most : Int) (v : Value) (Q : List A7) (w : World) (hm : (Lit.int .u64 most).wf = true) (hA : As7 w v Q) (hQ : Q.length ≤ 140737488351232) : Calls Try.prog 3 #[.int .u64 most, v] w fun e w' => e = .returned (.bool true) ∧ Below w.heap.size w w' := by
  have hm0 : 0 ≤ most ∧ most ≤ 18446744073709551615 := by simpa [Lit.wf, IntKind.min, IntKind.max, IntKind.signed, IntKind.bits] using hm
  obtain ⟨mm, HMM⟩ : ∃ mm : Nat, Hid ((mm : Int) = 3 + most % 62) := ⟨(3 + most % 62).toNat, by unfold Hid; omega⟩
  have hmm3 : 3 ≤ mm := by have := HMM.out; omega
  have hmm64 : mm ≤ 64 := by have := HMM.out; omega
  have e1 : 3 + most % 62 = (mm : Int) := HMM.out.symm
  have HPL : Hid _ := played_any hA hQ mm hmm3 hmm64
  obtain ⟨kk, HKK⟩ : ∃ kk, Hid (mm / 2 + 1 = kk) := ⟨_, rfl⟩
  have hkk : 2 ≤ kk := by have := HKK.out; omega
  have hkk2 : kk ≤ 33 := by have := HKK.out; omega
  have hq1 : (mm : Int).tdiv 2 + 1 = (kk : Int) := by rw [Int.tdiv_eq_ediv_of_nonneg (by omega)]; have := HKK.out; omega
  have hq0 : (mm : Int).tdiv 2 = ((mm / 2 : Nat) : Int) := by rw [Int.tdiv_eq_ediv_of_nonneg (by omega)]; omega
  have hq2 : ((mm / 2 : Nat) : Int) + 1 = (kk : Int) := by have := HKK.out; omega
  have hq3 : (mm : Int) / 2 + 1 = (kk : Int) := by have := HKK.out; omega
  have hkz : (kk : Int) ≠ 0 := by omega
  clear hA hQ hm
  go_enter Try.func3, Try.ntmps3
  go_wp2_with (first
    | (have hg := HT1; clear hg; go_at_call 6; refine Calls.mono (nodes_any hmm3 hmm64 HT1.out HB1.out.size (by have := HF1.out; omega) HZ1.out) ?_; rintro e w2 ⟨vN, es, rfl, hn2, ht2, hb2⟩; obtain ⟨ao, cap, rfl, hce⟩ := ht2.rowE; have HN2 : Hid (NdsP mm F es) := hn2; have HT2 : Hid (BT w2 w.heap.size p q mm F (rowE (.slice ao es.length cap) es :: (kp es ++ []))) := ht2; have HB2 : Hid (Below w.heap.size w w2) := HB1.out.trans hb2; have HCE : Hid (∀ (i : Nat) (e : En), es[i]? = some e → ∃ g, ao = some ⟨g, 0, none⟩ ∧ w2.cell? ⟨g, i * 3, none⟩ = some (.int .i64 e.1)) := hce; clear hn2 ht2 hb2 hce)
    | (go_at_call 5; refine Calls.mono HPL.out ?_; rintro e w1 ⟨p, q, rfl, hp1⟩; obtain ⟨F, ht1, hf1, hz1, hb1⟩ := hp1; have HT1 : Hid (BT w1 w.heap.size p q mm F []) := ht1; have HF1 : Hid (F.length ≤ 300) := hf1; have HZ1 : Hid (∀ y ∈ F, y.1.size ≤ 281474976710656) := hz1; have HB1 : Hid (Below w.heap.size w w1) := hb1; clear ht1 hf1 hz1 hb1))
  clear HPL HT1 HB1 HZ1
  obtain ⟨N, HNN⟩ : ∃ N, Hid (F.length = N) := ⟨_, rfl⟩
  have hN : N ≤ 300 := by have := HF1.out; have := HNN.out; omega
  obtain ⟨en, HEN⟩ : ∃ en, Hid (es.length = en) := ⟨_, rfl⟩
  have HLEN : Hid (Calls Try.prog 7 #[.pointer (some ⟨p, 0, none⟩)] w2 fun e w' => e = .returned (.int .i64 (N : Int)) ∧ w' = w2) := by unfold Hid; rw [← HNN.out]; exact len_any HT2.out
  have hen : en ≤ 300 := by
    rw [← HEN.out]
    rcases HN2.out with ⟨_, h9⟩ | ⟨_, h, t, lo, hs, hlo, hF, hes⟩
    · rw [h9]; simp
    · have h8 := congrArg List.length hes
      have h7 := cnt_le (by omega) (h + 1) (up1 t) 0 lo hs hlo
      rw [hF] at h7
      rw [List.length_map] at h8
      unfold cntN at h7
      have := HF1.out
      omega
  obtain ⟨dd, HDD⟩ : ∃ dd, Hid (N / kk = dd) := ⟨_, rfl⟩
  have hdd : (N : Int).tdiv (kk : Int) = (dd : Int) := by rw [Int.tdiv_eq_ediv_of_nonneg (by omega), ← HDD.out]; exact (Int.natCast_ediv N kk).symm
  have hdd2 : (N : Int) / (kk : Int) = (dd : Int) := by rw [← HDD.out]; exact (Int.natCast_ediv N kk).symm
  have hdn : dd * kk ≤ N := by rw [← HDD.out]; exact Nat.div_mul_le_self N kk
  have hdl : dd ≤ 300 := by have : dd * 1 ≤ dd * kk := Nat.mul_le_mul_left _ (by omega); omega
  rw [HEN.out]
  go_loopw [8, 9] (fun x y wr => ∃ b r : Nat, wr = w2 ∧ x = .int .i64 (b : Int) ∧ y = .int .i64 (r : Int) ∧ Hid (r = kk ^ b) ∧ 1 ≤ r ∧ r ≤ 301 ∧ b ≤ 301) (fun _ y _ => 1000 - (intOf y).toNat)
  case atStart => exact ⟨0, 1, rfl, rfl, rfl, by unfold Hid; simp, by omega, by omega, by omega⟩
  case round =>
    obtain ⟨b, r, rfl, rfl, rfl, HR, hr1, hr3, hb3⟩ := hrel
    by_cases hle : r ≤ dd
    · have hle' : (r : Int) ≤ (dd : Int) := by omega
      obtain ⟨r2, HR2⟩ : ∃ r2, Hid (r * kk = r2) := ⟨_, rfl⟩
      have hr2 : (r : Int) * (kk : Int) = (r2 : Int) := by rw [← HR2.out]; exact (Int.natCast_mul r kk).symm
      have hr4 : r2 ≤ N := by rw [← HR2.out]; exact Nat.le_trans (Nat.mul_le_mul_right _ hle) hdn
      have hr5 : r * 2 ≤ r2 := by rw [← HR2.out]; exact Nat.mul_le_mul_left _ hkk
      have HR3 : Hid (r2 = kk ^ (b + 1)) := by unfold Hid; rw [← HR2.out, HR.out, Nat.pow_succ]
      have hb4 : b + 1 < r2 := by rw [HR3.out]; exact Nat.lt_pow_self (by omega)
      go_wp2_with (go_at_call 7; refine Calls.mono HLEN.out ?_; rintro e w4 ⟨rfl, hw4⟩; obtain rfl := hw4.symm)
      go_roundw
      case rel => exact ⟨b + 1, r2, trivial, by simp, rfl, HR3.out, by omega, by omega, by omega⟩
      case measure => simp [intOf]; omega
    · have hle' : ¬ (r : Int) ≤ (dd : Int) := by omega
      have HOK : Hid (∀ e ∈ es, e.1 ≤ (b : Int) + 1) := depth_ok HN2.out hmm3 (by rw [HKK.out, HNN.out, HDD.out, ← HR.out]; omega)
      go_wp2_with (go_at_call 7; refine Calls.mono HLEN.out ?_; rintro e w4 ⟨rfl, hw4⟩; obtain rfl := hw4.symm)
      go_loopw [10] (fun x wr' => ∃ i : Nat, wr' = wr ∧ i ≤ en ∧ x = .int .i64 (i : Int)) (fun x _ => en - (intOf x).toNat)
      case atStart => exact ⟨0, rfl, Nat.zero_le _, rfl⟩
      case round =>
        obtain ⟨i, rfl, hie, rfl⟩ := hrel
        by_cases hlt : i < en
        · obtain ⟨⟨lv, lf, kv, kl⟩, he⟩ : ∃ e, es[i]? = some e := ⟨es[i]'(by rw [HEN.out]; exact hlt), List.getElem?_eq_getElem _⟩
          obtain ⟨g, rfl, c0⟩ := HCE.out i _ he
          have c0' : wr.cell? ⟨g, i * 3, none⟩ = some (.int .i64 lv) := c0
          have hlv : lv ≤ (b : Int) + 1 := HOK.out _ (List.mem_of_getElem? he)
          have hd : decide ((b : Int) + 1 < lv) = false := by simp; omega
          have hili : (i : Int) < (en : Int) := by omega
          clear he c0
          go_wp2_with fail
          go_roundw
          case rel => exact ⟨i + 1, trivial, by omega, by simp⟩
          case measure => simp [intOf]; omega
        · have hili : ¬ (i : Int) < (en : Int) := by omega
          go_wp2_with (go_at_call 8; refine (lives7_any _).mono ?_; rintro e w8 ⟨rfl, hb8⟩; have HB8 : Hid (Below wr.heap.size wr w8) := hb8; clear hb8)
          go_ret
          exact ⟨rfl, HB2.out.trans (HB8.out.mono HB2.out.size)⟩
end Go.Proofs.Ytgkmhmffchlklab
