/-
  The walks of extent.Good and Total. Conditions: the numbers are ints, the list's length is one that memory bears.
-/
import Derived.Test.YtdalkjenjnalbaaDoorXSmall
namespace Go.Proofs.YtdalkjenjnalbaaDoor
open Go.RowKit
set_option linter.unusedVariables false
set_option maxRecDepth 100000

def EWs (l : List Ext) : Prop := ∀ x ∈ l, EW x
theorem EWs.at {l : List Ext} (h : EWs l) (i : Nat) : EW (l.getD i (0, 0)) := by
  by_cases hi : i < l.length
  · exact h _ (getD_mem hi)
  · rw [List.getD, List.getElem?_eq_none (by omega)]; exact EW.zero

/-- Ways out of a round of Good. -/
theorem good_no {l : List Ext} {size : Int} {k : Nat} (hk : k < l.length) (h : ¬ (nextOf (l.take k) ≤ (l.getD k (0, 0)).1 ∧ 1 ≤ (l.getD k (0, 0)).2 ∧ withinB (l.getD k (0, 0)) size = true)) : goodB l size = false := by
  have : goodFrom size 0 l = false := by
    refine goodFrom_take (k + 1) ?_
    rw [take_snoc l hk, goodFrom_snoc, Bool.and_eq_false_iff]
    right
    rw [decide_eq_false_iff_not]
    intro hc
    apply h
    refine ⟨hc.1, hc.2.1, ?_⟩
    unfold withinB
    rw [decide_eq_true_eq]
    omega
  unfold goodB
  rw [this, Bool.and_false]
theorem good_step {l : List Ext} {size : Int} {k : Nat} (hk : k < l.length) (hg : goodFrom size 0 (l.take k) = true) (h1 : nextOf (l.take k) ≤ (l.getD k (0, 0)).1) (h2 : 1 ≤ (l.getD k (0, 0)).2) (h3 : withinB (l.getD k (0, 0)) size = true) :
    goodFrom size 0 (l.take (k + 1)) = true ∧ nextOf (l.take (k + 1)) = (l.getD k (0, 0)).1 + (l.getD k (0, 0)).2 + 1 := by
  unfold withinB at h3
  rw [decide_eq_true_eq] at h3
  rw [take_snoc l hk, goodFrom_snoc, nextOf_snoc, hg]
  refine ⟨?_, rfl⟩
  rw [Bool.true_and, decide_eq_true_eq]
  omega
theorem cells_pairX {w : World} {g : Nat} {a b : Value} {T : TypeId} (h : w.heap[g]? = some (.cells #[a, b] T (0, 0))) : w.cell? ⟨g, 0, none⟩ = some a ∧ w.cell? ⟨g, 1, none⟩ = some b := by
  simp [World.cell?, h]
theorem nextOf_bd {size : Int} {l : List Ext} (h : goodFrom size 0 l = true) (hs : 0 ≤ size) : 0 ≤ nextOf l ∧ nextOf l ≤ size + 1 := by
  unfold nextOf
  cases hx : l.getLast? with
  | none => simp; omega
  | some x =>
    have := (goodFrom_sep h).2 x (List.mem_of_getLast? hx)
    simp; omega

set_option maxHeartbeats 4000000 in
theorem good_any (v : Value) (l : List Ext) (size : Int) (w : World) (hl : Xs w v l) (hE : EWs l) (hn : l.length ≤ 281474976710656) :
    Calls Tryd.prog 47 #[v, .int .i64 size] w fun e w' => e = .returned (.bool (goodB l size)) ∧ Below w.heap.size w w' := by
  obtain ⟨ao, cap, rfl, hcap, hcell⟩ := hl.opened
  have HC : Hid (∀ i, i < l.length → ∃ b off, ao = some ⟨b, off, none⟩ ∧ w.cell? ⟨b, off + i * 2, none⟩ = some (.int .i64 (l.getD i (0, 0)).1) ∧ w.cell? ⟨b, off + i * 2 + 1, none⟩ = some (.int .i64 (l.getD i (0, 0)).2) ∧ b < w.heap.size) := hcell
  have HE : Hid (EWs l) := hE
  clear hl hcell hE
  obtain ⟨N, HN⟩ : ∃ N, Hid (l.length = N) := ⟨_, rfl⟩
  rw [HN.out] at hcap hn ⊢
  by_cases hsz : szB size = true
  · obtain ⟨s1, s2⟩ := szB_iff.1 hsz
    have HS : Hid (szB size = true) := hsz
    by_cases hlen : N ≤ 65536
    · go_enter Tryd.func47, Tryd.ntmps47
      go_wp2_with (go_at_call 64; refine (isSize_any _ _).mono ?_; rintro e w' ⟨rfl, hw'⟩; obtain rfl := hw'.symm)
      clear hsz
      go_loopw [5, 18] (fun f i wr => ∃ k : Nat, k ≤ N ∧ i = .int .i64 k ∧ f = .int .i64 (nextOf (l.take k)) ∧ Hid (goodFrom size 0 (l.take k) = true) ∧ Hid (Below w.heap.size w wr)) (fun _ i _ => N - (intOf i).toNat)
      case atStart => exact ⟨0, Nat.zero_le _, rfl, rfl, rfl, Below.refl _ _⟩
      case round =>
        obtain ⟨k, hk, rfl, rfl, HG, HB⟩ := hrel
        obtain ⟨n1, n2⟩ := nextOf_bd HG.out s1
        by_cases hlt : k < N
        · have hkl : k < l.length := by rw [HN.out]; exact hlt
          obtain ⟨b, off, rfl, c1, c2, hb⟩ := HC.out k hkl
          have d1 := (HB.out.cell (p := ⟨b, off + k * 2, none⟩) hb).trans c1
          have d2 := (HB.out.cell (p := ⟨b, off + k * 2 + 1, none⟩) hb).trans c2
          have hx := HE.out.at k
          have HNO := @good_no l size k hkl
          have HST := @good_step l size k hkl HG.out
          clear c1 c2
          generalize nextOf (l.take k) = nf at *
          generalize l.getD k (0, 0) = x at *
          obtain ⟨xa, xs⟩ := x
          have HX : Hid (EW (xa, xs)) := hx
          obtain ⟨⟨a1, a2⟩, b1, b2⟩ := hx
          dsimp only at a1 a2 b1 b2 d1 d2 HNO HST
          have HNO' : Hid (¬ (nf ≤ xa ∧ 1 ≤ xs ∧ withinB (xa, xs) size = true) → goodB l size = false) := HNO
          have HST' : Hid (nf ≤ xa → 1 ≤ xs → withinB (xa, xs) size = true → goodFrom size 0 (l.take (k + 1)) = true ∧ nextOf (l.take (k + 1)) = xa + xs + 1) := HST
          clear HNO HST
          have HB2 : Hid (Below w.heap.size w (wr.alloc (.cells #[.int .i64 xa, .int .i64 xs] 49))) := HB.out.alloc HB.out.size _
          by_cases t1 : xa < nf
          · go_wp2
            go_ret
            exact ⟨ret_boolX (HNO'.out (by omega)).symm, HB2.out⟩
          · by_cases t2 : xs < 1
            · go_wp2
              go_ret
              exact ⟨ret_boolX (HNO'.out (by omega)).symm, HB2.out⟩
            · have hc0 := cells_pairX (heap_alloc_new wr (.cells #[.int .i64 xa, .int .i64 xs] 49))
              cases hw : withinB (xa, xs) size with
              | false =>
                go_wp2_with (go_at_call 65; refine (isWithin_any _ _ _ _ HX.out ⟨s1, s2⟩).mono ?_; rintro e w' ⟨rfl, hb2⟩; rw [hw])
                go_ret
                exact ⟨ret_boolX (HNO'.out (fun h => by have := h.2.2; rw [hw] at this; cases this)).symm, HB2.out.trans (hb2.mono HB2.out.size)⟩
              | true =>
                have hw' : 0 ≤ xa ∧ 0 ≤ xs ∧ xs ≤ size - xa := by unfold withinB at hw; simpa using hw
                obtain ⟨w1, w2, w3⟩ := hw'
                have HW : Hid (withinB (xa, xs) size = true) := hw
                clear hw
                go_wp2_with (first | (go_at_call 65; refine (isWithin_any _ _ _ _ HX.out ⟨s1, s2⟩).mono ?_; rintro e w' ⟨rfl, hb2⟩; rw [HW.out]; have HB3 : Hid (Below w.heap.size w w') := HB2.out.trans (hb2.mono HB2.out.size); have e1 := cell_later hb2 hc0.1; have e2 := cell_later hb2 hc0.2) | (go_at_call 66; refine (end_any _ _ _ (by omega) (by omega) (by omega)).mono ?_; rintro e w3 ⟨rfl, hb3⟩))
                go_roundw
                case rel =>
                  obtain ⟨r1, r2⟩ := HST'.out (by omega) (by omega) HW.out
                  exact ⟨k + 1, by omega, by simp, by rw [r2], r1, HB3.out.trans (hb3.mono HB3.out.size)⟩
                case measure => simp [intOf]; omega
        · obtain rfl : k = N := by omega
          have HF : Hid (goodB l size = true) := by
            have h := HG.out
            rw [List.take_of_length_le (by rw [HN.out]; omega)] at h
            exact goodB_iff.2 ⟨⟨s1, s2⟩, by rw [HN.out]; exact hlen, h⟩
          go_wp2
          go_ret
          exact ⟨ret_boolX HF.out.symm, HB.out⟩
    · have HF : Hid (goodB l size = false) := by unfold Hid goodB; simp [HN.out]; omega
      go_enter Tryd.func47, Tryd.ntmps47
      go_wp2_with (go_at_call 64; refine (isSize_any _ _).mono ?_; rintro e w' ⟨rfl, hw'⟩; obtain rfl := hw'.symm)
      go_ret
      exact ⟨ret_boolX HF.out.symm, Below.refl _ _⟩
  · have hsz' : szB size = false := by simpa using hsz
    have HF : Hid (goodB l size = false) := by unfold Hid goodB; simp [hsz']
    clear hsz
    go_enter Tryd.func47, Tryd.ntmps47
    go_wp2_with (go_at_call 64; refine (isSize_any _ _).mono ?_; rintro e w' ⟨rfl, hw'⟩; obtain rfl := hw'.symm)
    go_ret
    exact ⟨ret_boolX HF.out.symm, Below.refl _ _⟩
end Go.Proofs.YtdalkjenjnalbaaDoor
