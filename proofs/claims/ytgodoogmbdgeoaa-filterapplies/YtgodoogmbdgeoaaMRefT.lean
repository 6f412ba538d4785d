/-
  The document's tokens: how far a copy goes, the best copy, a run, and all tokens of bytes. Conditions: places are within the bytes; their number is one that may be packed.
-/
import Derived.Test.YtgodoogmbdgeoaaMPack
namespace Go.Proofs.Ytgodoogmbdgeoaa
open Go.RowKit
set_option linter.unusedVariables false
set_option maxRecDepth 100000

set_option maxHeartbeats 8000000 in
theorem refAlike_any (v : Value) (l : List Int) (p d : Nat) (w : World) (hl : Bs w v l) (hlb : l.length ≤ 140737488351232) (hp : p ≤ l.length) (hd : d ≤ p) :
    Calls Try.prog 67 #[v, .int .i64 (p : Int), .int .i64 (d : Int)] w fun e w' => e = .returned (.int .i64 (alk l p d : Int)) ∧ Below w.heap.size w w' := by
  obtain ⟨ao, cap, rfl, hc, hn, _⟩ := id hl
  obtain ⟨len, hll⟩ : ∃ len, l.length = len := ⟨_, rfl⟩
  have HLL : Hid (l.length = len) := hll
  rw [hll] at hc hlb hl hp ⊢
  have HL : Hid (Bs w (.slice ao len cap) l) := hl
  have HST : Hid (∀ n : Nat, n ≤ 131 → (∀ i, i < n → p + i < l.length ∧ l.getD (p + i) 0 = l.getD (p + i - d) 0) → (n < 131 → p + n < l.length → l.getD (p + n) 0 ≠ l.getD (p + n - d) 0) → alk l p d = n) := fun n h1 h2 h3 => alk_stop' hd h2 h1 h3
  clear hl hll hn
  go_enter Try.func67, Try.ntmps67
  go_wp2_with fail
  go_loopw [7] (fun i wr => ∃ n : Nat, n ≤ 131 ∧ p + n ≤ len ∧ i = .int .i64 n ∧ Hid (Below w.heap.size w wr) ∧ Hid (∀ i, i < n → p + i < l.length ∧ l.getD (p + i) 0 = l.getD (p + i - d) 0)) (fun i _ => 131 - (intOf i).toNat)
  case atStart => exact ⟨0, by omega, by omega, rfl, Below.refl _ _, fun i hi => by omega⟩
  case round =>
    obtain ⟨n, hn1, hn2, rfl, HB, HQ⟩ := hrel
    obtain ⟨q, hq⟩ : ∃ q, p + n = q := ⟨_, rfl⟩
    have e1 : IntKind.i64.wrap ((p : Int) + (n : Int)) = (q : Int) := by rw [show (p : Int) + (n : Int) = (q : Int) by omega]; exact wrap_i64_in _ (by omega) (by omega)
    have hql : q ≤ len := by omega
    by_cases hlt1 : n < 131
    · have hi1 : (n : Int) < 131 := by omega
      by_cases hlt2 : q < len
      · have hi2 : (q : Int) < (len : Int) := by omega
        obtain ⟨b, off, rfl, hcl⟩ := bs_some HL.out (by omega)
        obtain ⟨qd, hqd⟩ : ∃ qd, q - d = qd := ⟨_, rfl⟩
        have hqdl : qd < len := by omega
        have hc1 := bel_cell HB.out (hcl q hlt2)
        have hc2 := bel_cell HB.out (hcl qd hqdl)
        have e2 : IntKind.i64.wrap ((q : Int) - (d : Int)) = (qd : Int) := by rw [show (q : Int) - (d : Int) = (qd : Int) by omega]; exact wrap_i64_in _ (by omega) (by omega)
        obtain ⟨x, hx⟩ : ∃ x, l.getD q 0 = x := ⟨_, rfl⟩
        obtain ⟨y, hy⟩ : ∃ y, l.getD qd 0 = y := ⟨_, rfl⟩
        rw [hx] at hc1
        rw [hy] at hc2
        have HX : Hid (l.getD (p + n) 0 = x) := by rw [hq]; exact hx
        have HY : Hid (l.getD (p + n - d) 0 = y) := by rw [hq, hqd]; exact hy
        have HQL : Hid (p + n < l.length) := by rw [Hid, HLL.out]; omega
        clear hcl hx hy hql
        by_cases hxy : x = y
        · subst hxy
          have HN : Hid (∀ i, i < n + 1 → p + i < l.length ∧ l.getD (p + i) 0 = l.getD (p + i - d) 0) := fun i hi => by
            by_cases e : i = n
            · subst e
              exact ⟨HQL.out, by rw [HX.out, HY.out]⟩
            · exact HQ.out i (by omega)
          go_wp2_with fail
          go_quiet (fail)
          go_wp2_with fail
          go_roundw
          case rel => exact ⟨n + 1, by omega, by omega, by go_num, below_drewN HB.out _, HN.out⟩
          case measure => simp [intOf]; omega
        · have HE : Hid (alk l p d = n) := HST.out n hn1 HQ.out (fun _ _ => by rw [HX.out, HY.out]; exact hxy)
          go_wp2_with fail
          go_quiet (fail)
          go_wp2_with fail
          go_ret
          exact ⟨by rw [HE.out]; rfl, below_drewN HB.out _⟩
      · have hi2 : decide ((q : Int) < (len : Int)) = false := decide_eq_false (by omega)
        have HE : Hid (alk l p d = n) := HST.out n hn1 HQ.out (fun _ h => by rw [HLL.out] at h; omega)
        go_wp2_with fail
        go_quiet (fail)
        go_wp2_with fail
        go_ret
        exact ⟨by rw [HE.out]; rfl, below_drewN HB.out _⟩
    · have hi1 : decide ((n : Int) < 131) = false := decide_eq_false (by omega)
      have HE : Hid (alk l p d = n) := HST.out n hn1 HQ.out (fun h _ => by omega)
      go_wp2_with fail
      go_quiet (fail)
      go_wp2_with fail
      go_ret
      exact ⟨by rw [HE.out]; rfl, below_drewN HB.out _⟩
set_option maxHeartbeats 8000000 in
theorem refBest_any (v : Value) (l : List Int) (p : Nat) (w : World) (hl : Bs w v l) (hlb : l.length ≤ 140737488351232) (hp : p ≤ l.length) :
    Calls Try.prog 55 #[v, .int .i64 (p : Int)] w fun e w' => e = .returned (.tuple #[.int .i64 ((bst l p).1 : Int), .int .i64 ((bst l p).2 : Int)]) ∧ Below w.heap.size w w' := by
  have HV : Hid (Bs w v l) := hl
  have HAL : Hid (∀ (d : Nat) (w1 : World), d ≤ p → Bs w1 v l → Calls Try.prog 67 #[v, .int .i64 (p : Int), .int .i64 (d : Int)] w1 fun e w' => e = .returned (.int .i64 (alk l p d : Int)) ∧ Below w1.heap.size w1 w') := fun d w1 hd h => refAlike_any v l p d w1 h hlb hp hd
  have hpb : p ≤ 140737488351232 := by omega
  have HEND : Hid (∀ k, k ≤ 255 → k ≤ p → (255 ≤ k ∨ p ≤ k) → bst l p = bstF l p k) := fun k h1 h2 h3 => by rw [bst, show min 255 p = k by omega]
  have HALE : Hid (∀ d, alk l p d ≤ 131) := fun d => (alk_spec l p d).1
  have HSUC : Hid (∀ k, bstF l p (k + 1) = if (bstF l p k).1 < alk l p (k + 1) then (alk l p (k + 1), k + 1) else bstF l p k) := bstF_succ l p
  have hz : bstF l p 0 = (0, 0) := rfl
  clear hl hp hlb
  go_enter Try.func55, Try.ntmps55
  go_wp2_with fail
  go_loopw [6, 7, 8] (fun c y i wr => ∃ k n m : Nat, k ≤ 255 ∧ k ≤ p ∧ i = .int .i64 (k + 1 : Nat) ∧ Hid (bstF l p k = (n, m)) ∧ c = .int .i64 n ∧ y = .int .i64 m ∧ Hid (Below w.heap.size w wr)) (fun _ _ i _ => 300 - (intOf i).toNat)
  case atStart => exact ⟨0, 0, 0, by omega, by omega, rfl, hz, rfl, rfl, Below.refl _ _⟩
  case round =>
    obtain ⟨k, n, m, hk1, hk2, rfl, HN, rfl, rfl, HB⟩ := hrel
    by_cases hgo : k < 255 ∧ k < p
    · obtain ⟨hg1, hg2⟩ := hgo
      have hi1 : ((k + 1 : Nat) : Int) ≤ (p : Int) := by omega
      have hi2 : ((k + 1 : Nat) : Int) ≤ 255 := by omega
      have HC : Hid _ := HAL.out (k + 1) wr hg2 (HV.out.below HB.out)
      obtain ⟨a, ha⟩ : ∃ a, alk l p (k + 1) = a := ⟨_, rfl⟩
      have ha131 : a ≤ 131 := by rw [← ha]; exact HALE.out _
      have HS : Hid (bstF l p (k + 1) = if n < a then (a, k + 1) else (n, m)) := by rw [Hid, HSUC.out, HN.out, ha]
      rw [ha] at HC
      clear ha
      go_wp2_with fail
      refine Calls.mono HC.out ?_
      rintro e w2 ⟨rfl, hb2⟩
      have HB2 : Hid (Below w.heap.size w w2) := HB.out.trans (hb2.mono HB.out.size)
      clear hb2
      by_cases hna : n < a
      · have hna' : (n : Int) < (a : Int) := by omega
        go_wp2_with fail
        go_roundw
        case rel => exact ⟨k + 1, a, k + 1, by omega, by omega, by go_num, by rw [Hid, HS.out, if_pos hna], rfl, rfl, HB2.out⟩
        case measure => simp [intOf]; omega
      · have hna' : ¬ (n : Int) < (a : Int) := by omega
        go_wp2_with fail
        go_roundw
        case rel => exact ⟨k + 1, n, m, by omega, by omega, by go_num, by rw [Hid, HS.out, if_neg hna], rfl, rfl, HB2.out⟩
        case measure => simp [intOf]; omega
    · have HE : Hid (bst l p = (n, m)) := by rw [Hid, HEND.out k hk1 hk2 (by omega), HN.out]
      by_cases hi1 : ((k + 1 : Nat) : Int) ≤ (p : Int)
      all_goals
        by_cases hi2 : ((k + 1 : Nat) : Int) ≤ 255
        all_goals
          first
          | (exfalso; omega)
          | (go_wp2_with fail
             go_ret2
             exact ⟨by rw [HE.out]; rfl, HB.out⟩)
/-- A run's token. -/
def rnB (l : List Int) : List Int := (runT l).flatMap Tok.byt
theorem rnB_nil : rnB [] = [] := rfl
theorem rnB_some {l : List Int} (h : 0 < l.length) : [((l.length : Int) - 1)] ++ l = rnB l := by
  rw [rnB, runT, if_neg (fun e => by rw [e] at h; simp at h)]; simp [Tok.byt]
theorem rnB_len (l : List Int) : (rnB l).length ≤ 2 * l.length := by
  by_cases h : 0 < l.length
  · rw [← rnB_some h, List.length_append]; simp; omega
  · rw [List.length_eq_zero_iff.1 (show l.length = 0 by omega), rnB_nil]; exact Nat.zero_le _
set_option maxHeartbeats 8000000 in
theorem refRun_any (v : Value) (l : List Int) (w : World) (hl : Bs w v l) (hlb : l.length ≤ 128) :
    Calls Try.prog 56 #[v] w (ApP w (rnB l)) := by
  obtain ⟨i0, hi, hi0, hi1, hi2⟩ := info_parts Try.info5
  obtain ⟨ao, cap, rfl, _⟩ := id hl
  obtain ⟨len, hll⟩ : ∃ len, l.length = len := ⟨_, rfl⟩
  have HLL : Hid (l.length = len) := hll
  have HL : Hid (Bs w (.slice ao len cap) l) := by rw [← hll]; exact hl
  rw [hll] at hlb ⊢
  by_cases h0 : len = 0
  · subst h0
    have HE : Hid (rnB l = []) := by rw [Hid, List.length_eq_zero_iff.1 hll]; rfl
    clear hl hll
    go_enter Try.func56, Try.ntmps56
    go_wp2_with fail
    go_ret
    exact ⟨_, rfl, by rw [HE.out]; exact Own.nil _ _, Below.refl _ _⟩
  · have h0' : ¬ (len : Int) = 0 := by omega
    have HR : Hid ([((len : Int) - 1)] ++ l = rnB l) := by rw [Hid, ← hll]; exact rnB_some (by omega)
    have hc2 : IntKind.i64.wrap ((len : Int) - 1) = ((len : Int) - 1) := wrap_i64_in _ (by omega) (by omega)
    have hc3 : IntKind.u8.wrap ((len : Int) - 1) = ((len : Int) - 1) := by rw [IntKind.wrap_u8]; omega
    obtain ⟨c, hcc⟩ : ∃ c, (len : Int) - 1 = c := ⟨_, rfl⟩
    rw [hcc] at hc2 hc3 HR
    obtain ⟨w4, hw4, b4, s4, o4, n4⟩ := own_one w w c (Below.refl _ _)
    have HO4 : Hid (Own w4 w.heap.size (.slice (some ⟨w.heap.size, 0, none⟩) 1 1) [c]) := o4
    have HB4 : Hid (Below w.heap.size w w4) := b4
    have HL4 : Hid (Bs w4 (.slice ao len cap) l) := HL.out.below n4
    clear b4 o4 n4 hl hll
    go_enter Try.func56, Try.ntmps56
    go_wp2_with (at_builtin; refine wpList_append_bytes _ rfl (.tmp 10) (.tmp 11) 28 rfl i0 Try.underlying28 hi hi0 hi1 hi2 w.heap.size _ (.slice ao len cap) [c] l rfl rfl HO4.out HL4.out (by rw [HLL.out]; simp only [List.length_cons, List.length_nil]; omega) w HB4.out s4 ?_; intro ao1 cap1 w5 ho1 hb1 _ _; rw [HR.out] at ho1; generalize [c].length + l.length = N1 at ho1 ⊢; have HO5 : Hid (Own w5 w.heap.size _ _) := ho1; have HB5 : Hid (Below w.heap.size w w5) := hb1; clear ho1 hb1)
    go_ret
    exact ⟨_, rfl, HO5.out, HB5.out⟩
end Go.Proofs.Ytgodoogmbdgeoaa
