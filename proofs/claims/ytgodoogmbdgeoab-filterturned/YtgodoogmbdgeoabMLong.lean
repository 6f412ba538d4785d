/-
  The program's alike and longest. Conditions: places are within the bytes.
-/
import Derived.Test.YtgodoogmbdgeoabMPt
import Derived.Test.YtgodoogmbdgeoabWalkF
namespace Go.Proofs.Ytgodoogmbdgeoab
open Go.RowKit
set_option linter.unusedVariables false
set_option maxRecDepth 100000

theorem bs_some {w : World} {ao : Option Addr} {n cap : Nat} {l : List Int} (h : Bs w (.slice ao n cap) l) (h0 : 0 < n) : ∃ b off, ao = some ⟨b, off, none⟩ ∧ ∀ i, i < n → w.cell? ⟨b, off + i, none⟩ = some (.int .u8 (l.getD i 0)) := by
  obtain ⟨ao', cap', hv, hc, hn, hcell⟩ := id h
  injection hv with e1 e2 e3
  subst e1 e3
  rw [e2] at h0 ⊢
  obtain ⟨b, off, cap2, hv2, _, hcl⟩ := h.opened h0
  injection hv2 with e4 e5 e6
  exact ⟨b, off, e4, hcl⟩
theorem bs_n {w : World} {ao : Option Addr} {n cap : Nat} {l : List Int} (h : Bs w (.slice ao n cap) l) : l.length = n ∧ n ≤ cap ∧ (ao = none → cap = 0) := by
  obtain ⟨ao', cap', hv, hc, hn, hcell⟩ := h
  injection hv with e1 e2 e3
  subst e1 e3
  exact ⟨e2.symm, by omega, hn⟩
theorem bel_cell {w w' : World} {p : Addr} {x : Value} (h : Below w.heap.size w w') (hx : w.cell? p = some x) : w'.cell? p = some x := (h.cell (World.block_lt_of_cell? w p hx)).trans hx
theorem ret_eq {a b : Int} (h : a = b) : Ending.returned (Value.int .i64 a) = Ending.returned (Value.int .i64 b) := by rw [h]
set_option maxHeartbeats 8000000 in
theorem alike_any (v : Value) (l : List Int) (p d : Nat) (w : World) (hl : Bs w v l) (hlb : l.length ≤ 140737488351232) (hp : p ≤ l.length) (hd : d ≤ p) :
    Calls Try.prog 46 #[v, .int .i64 (p : Int), .int .i64 (d : Int)] w fun e w' => e = .returned (.int .i64 (alk l p d : Int)) ∧ Below w.heap.size w w' := by
  obtain ⟨ao, cap, rfl, hc, hn, _⟩ := id hl
  obtain ⟨len, hll⟩ : ∃ len, l.length = len := ⟨_, rfl⟩
  have HLL : Hid (l.length = len) := hll
  rw [hll] at hc hlb hl hp ⊢
  have HL : Hid (Bs w (.slice ao len cap) l) := hl
  have e1' : IntKind.i64.wrap ((p : Int) + 131) = (p : Int) + 131 := wrap_i64_in _ (by omega) (by omega)
  have KEY : ∀ m : Nat, m ≤ len → m ≤ p + 131 → p ≤ m → (m = len ∨ m = p + 131) → (∀ i, i < m - p → p + i < l.length ∧ l.getD (p + i) 0 = l.getD (p + i - d) 0) → alk l p d = m - p := fun m h1 h2 h3 h4 h5 => alk_stop' hd h5 (by omega) (fun h6 h7 => by have := HLL.out; omega)
  have HKEY : Hid _ := KEY
  have HST : Hid (∀ q : Nat, p ≤ q → q < p + 131 → q < len → (∀ i, i < q - p → p + i < l.length ∧ l.getD (p + i) 0 = l.getD (p + i - d) 0) → l.getD q 0 ≠ l.getD (q - d) 0 → alk l p d = q - p) := fun q h1 h2 h3 h4 h5 => alk_stop' hd h4 (by omega) (fun h6 h7 => by rw [show p + (q - p) = q by omega]; exact h5)
  clear hl hll hn KEY
  by_cases hb : (p : Int) + 131 < (len : Int)
  all_goals
    go_enter Try.func46, Try.ntmps46
    go_wp2_with fail
    go_loopw [8] (fun i wr => ∃ q : Nat, p ≤ q ∧ q ≤ len ∧ q ≤ p + 131 ∧ i = .int .i64 q ∧ Hid (Below w.heap.size w wr) ∧ Hid (∀ i, i < q - p → p + i < l.length ∧ l.getD (p + i) 0 = l.getD (p + i - d) 0)) (fun i _ => len - (intOf i).toNat)
    case atStart => exact ⟨p, Nat.le_refl _, hp, by omega, rfl, Below.refl _ _, fun i hi => by omega⟩
    case round =>
      obtain ⟨q, hq1, hq2, hq3, rfl, HB, HQ⟩ := hrel
      have e3 : IntKind.i64.wrap ((q : Int) - (p : Int)) = ((q - p : Nat) : Int) := by rw [show (q : Int) - (p : Int) = ((q - p : Nat) : Int) by omega]; exact wrap_i64_in _ (by omega) (by omega)
      by_cases hlt : q < len ∧ q < p + 131
      · obtain ⟨hlt1, hlt2⟩ := hlt
        obtain ⟨b, off, rfl, hcl⟩ := bs_some HL.out (by omega)
        have hc1 := bel_cell HB.out (hcl q (by omega))
        have hc2 := bel_cell HB.out (hcl (q - d) (by omega))
        have e2 : IntKind.i64.wrap ((q : Int) - (d : Int)) = ((q - d : Nat) : Int) := by rw [show (q : Int) - (d : Int) = ((q - d : Nat) : Int) by omega]; exact wrap_i64_in _ (by omega) (by omega)
        obtain ⟨x, hx⟩ : ∃ x, l.getD q 0 = x := ⟨_, rfl⟩
        obtain ⟨y, hy⟩ : ∃ y, l.getD (q - d) 0 = y := ⟨_, rfl⟩
        rw [hx] at hc1
        rw [hy] at hc2
        have HX : Hid (l.getD q 0 = x) := hx
        have HY : Hid (l.getD (q - d) 0 = y) := hy
        have hlen : q - d < len := by omega
        have hlti : (q : Int) < (p : Int) + 131 := by omega
        obtain ⟨qd, hqd⟩ : ∃ qd, q - d = qd := ⟨_, rfl⟩
        rw [hqd] at hc2 e2 hlen HY
        clear hcl hx hy
        by_cases hxy : x = y
        · subst hxy
          have HN : Hid (∀ i, i < q + 1 - p → p + i < l.length ∧ l.getD (p + i) 0 = l.getD (p + i - d) 0) := fun i hi => by
            by_cases e : i = q - p
            · subst e
              rw [show p + (q - p) = q by omega, hqd, HX.out, HY.out]
              exact ⟨by have := HLL.out; omega, rfl⟩
            · exact HQ.out i (by omega)
          go_wp2_with fail
          go_quiet (fail)
          go_wp2_with fail
          go_roundw
          case rel => exact ⟨q + 1, by omega, by omega, by omega, by go_num, below_drewN HB.out _, HN.out⟩
          case measure => simp [intOf]; omega
        · have HE : Hid (alk l p d = q - p) := HST.out q hq1 hlt2 hlt1 HQ.out (by rw [hqd, HX.out, HY.out]; exact hxy)
          go_wp2_with fail
          go_quiet (fail)
          go_wp2_with fail
          go_ret
          exact ⟨by rw [HE.out]; rfl, below_drewN HB.out _⟩
      · have HE : Hid (alk l p d = q - p) := HKEY.out q hq2 hq3 hq1 (by omega) HQ.out
        have hge : ¬ (q : Int) < (p : Int) + 131 ∨ ¬ q < len := by omega
        go_wp2_with fail
        go_ret
        exact ⟨by rw [HE.out]; exact ret_eq (by omega), HB.out⟩
set_option maxHeartbeats 8000000 in
theorem longest_any (v : Value) (l : List Int) (p : Nat) (w : World) (hl : Bs w v l) (hlb : l.length ≤ 140737488351232) (hp : p ≤ l.length) :
    Calls Try.prog 41 #[v, .int .i64 (p : Int)] w fun e w' => e = .returned (.tuple #[.int .i64 ((bst l p).1 : Int), .int .i64 ((bst l p).2 : Int)]) ∧ Below w.heap.size w w' := by
  have HV : Hid (Bs w v l) := hl
  have HAL : Hid (∀ (d : Nat) (w1 : World), d ≤ p → Bs w1 v l → Calls Try.prog 46 #[v, .int .i64 (p : Int), .int .i64 (d : Int)] w1 fun e w' => e = .returned (.int .i64 (alk l p d : Int)) ∧ Below w1.heap.size w1 w') := fun d w1 hd h => alike_any v l p d w1 h hlb hp hd
  have hpb : p ≤ 140737488351232 := by omega
  have HFULL : Hid (∀ k, k ≤ 255 → k ≤ p → 131 ≤ (bstF l p k).1 → bst l p = bstF l p k) := fun k h1 h2 h3 => bstF_full h3 _ (by omega)
  have HEND : Hid (∀ k, k ≤ 255 → k ≤ p → (255 ≤ k ∨ p ≤ k) → bst l p = bstF l p k) := fun k h1 h2 h3 => by rw [bst, show min 255 p = k by omega]
  have HLE : Hid (∀ k, (bstF l p k).1 ≤ 131 ∧ (bstF l p k).2 ≤ k) := bstF_le l p
  have HALE : Hid (∀ d, alk l p d ≤ 131) := fun d => (alk_spec l p d).1
  have HSUC : Hid (∀ k, bstF l p (k + 1) = if (bstF l p k).1 < alk l p (k + 1) then (alk l p (k + 1), k + 1) else bstF l p k) := bstF_succ l p
  have hz : bstF l p 0 = (0, 0) := rfl
  clear hl hp hlb
  by_cases h255 : (p : Int) ≤ 255
  all_goals
    go_enter Try.func41, Try.ntmps41
    go_wp2_with fail
    go_loopw [4, 5, 6] (fun c y i wr => ∃ k n m : Nat, k ≤ 255 ∧ k ≤ p ∧ i = .int .i64 (k + 1 : Nat) ∧ Hid (bstF l p k = (n, m)) ∧ c = .int .i64 n ∧ y = .int .i64 m ∧ Hid (Below w.heap.size w wr)) (fun _ _ i _ => 300 - (intOf i).toNat)
    case atStart => exact ⟨0, 0, 0, by omega, by omega, rfl, hz, rfl, rfl, Below.refl _ _⟩
    case round =>
      obtain ⟨k, n, m, hk1, hk2, rfl, HN, rfl, rfl, HB⟩ := hrel
      have hn131 : n ≤ 131 := by have := (HLE.out k).1; rw [HN.out] at this; exact this
      by_cases hgo : k < 255 ∧ k < p ∧ n < 131
      · obtain ⟨hg1, hg2, hg3⟩ := hgo
        have hi1 : ((k + 1 : Nat) : Int) ≤ (p : Int) := by omega
        have hi2 : ((k + 1 : Nat) : Int) ≤ 255 := by omega
        have hi3 : (n : Int) < 131 := by omega
        have HC : Hid _ := HAL.out (k + 1) wr hg2 (HV.out.below HB.out)
        obtain ⟨a, ha⟩ : ∃ a, alk l p (k + 1) = a := ⟨_, rfl⟩
        have ha131 : a ≤ 131 := by rw [← ha]; exact HALE.out _
        have HS : Hid (bstF l p (k + 1) = if n < a then (a, k + 1) else (n, m)) := by rw [Hid, HSUC.out, HN.out, ha]
        rw [ha] at HC
        clear ha
        go_wp2_with fail
        refine Calls.mono HC.out ?_
        rintro e w2 ⟨rfl, hb2⟩
        have HB2 : Hid (Below w.heap.size w w2) := HB.out.trans (hb2.mono HB.out.size)
        clear hb2
        by_cases hna : n < a
        · have hna' : (n : Int) < (a : Int) := by omega
          go_wp2_with fail
          go_roundw
          case rel => exact ⟨k + 1, a, k + 1, by omega, by omega, by go_num, by rw [Hid, HS.out, if_pos hna], rfl, rfl, HB2.out⟩
          case measure => simp [intOf]; omega
        · have hna' : ¬ (n : Int) < (a : Int) := by omega
          go_wp2_with fail
          go_roundw
          case rel => exact ⟨k + 1, n, m, by omega, by omega, by go_num, by rw [Hid, HS.out, if_neg hna], rfl, rfl, HB2.out⟩
          case measure => simp [intOf]; omega
      · have HE : Hid (bst l p = (n, m)) := by
          by_cases h131 : n < 131
          · rw [Hid, HEND.out k hk1 hk2 (by omega), HN.out]
          · rw [Hid, HFULL.out k hk1 hk2 (by rw [HN.out]; show 131 ≤ n; omega), HN.out]
        by_cases hi3 : (n : Int) < 131
        all_goals
          by_cases hi1 : ((k + 1 : Nat) : Int) ≤ (p : Int)
          all_goals
            by_cases hi2 : ((k + 1 : Nat) : Int) ≤ 255
            all_goals
              first
              | (exfalso; omega)
              | (go_wp2_with fail
                 go_ret2
                 exact ⟨by rw [HE.out]; rfl, HB.out⟩)
end Go.Proofs.Ytgodoogmbdgeoab
