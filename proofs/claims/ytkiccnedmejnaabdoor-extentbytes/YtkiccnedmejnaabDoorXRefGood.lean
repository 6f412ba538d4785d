/-
  The walk of the document's Good. Conditions: the numbers are ints, the list's length is one that memory bears.
-/
import Derived.Test.YtkiccnedmejnaabDoorXGood
import Derived.Test.YtkiccnedmejnaabDoorTail
import Derived.Shelf.SlSortCmp.QuietGrown
namespace Go.Proofs.YtkiccnedmejnaabDoor
open Go.RowKit Go.Sort Go.Shelf Go.Lib
set_option linter.unusedVariables false
set_option maxRecDepth 100000

theorem refMay_eq (a b : Int) (w : World) (hx : EW (a, b)) :
    Calls Tryd.prog 73 #[.agg #[.int .i64 a, .int .i64 b]] w fun e w' => e = .returned (.bool (mayB (a, b))) ∧ ∃ q os', w' = grow (w.drewN q) os' := by
  obtain ⟨⟨a1, a2⟩, b1, b2⟩ := hx
  dsimp only at a1 a2 b1 b2
  have HA : Hid (∀ o, w.alloc o = grow (w.drewN 0) #[o]) := fun o => alloc_eq_grow w o
  by_cases h1 : 0 ≤ a
  · by_cases h2 : 0 ≤ b
    · by_cases h4 : a ≤ 4194304
      · by_cases h3 : b ≤ 4194304 - a
        · have H : Hid (mayB (a, b) = true) := by unfold Hid mayB; simp; omega
          go_enter Tryd.func73, Tryd.ntmps73
          go_wp2
          go_ret
          exact ⟨ret_boolX H.out.symm, 0, _, HA.out _⟩
        · have H : Hid (mayB (a, b) = false) := by unfold Hid mayB; simp; omega
          go_enter Tryd.func73, Tryd.ntmps73
          go_wp2
          go_ret
          exact ⟨ret_boolX H.out.symm, 0, _, HA.out _⟩
      · have H : Hid (mayB (a, b) = false) := by unfold Hid mayB; simp; omega
        go_enter Tryd.func73, Tryd.ntmps73
        go_wp2
        go_ret
        exact ⟨ret_boolX H.out.symm, 0, _, HA.out _⟩
    · have H : Hid (mayB (a, b) = false) := by unfold Hid mayB; simp; omega
      go_enter Tryd.func73, Tryd.ntmps73
      go_wp2
      go_ret
      exact ⟨ret_boolX H.out.symm, 0, _, HA.out _⟩
  · have H : Hid (mayB (a, b) = false) := by unfold Hid mayB; simp; omega
    go_enter Tryd.func73, Tryd.ntmps73
    go_wp2
    go_ret
    exact ⟨ret_boolX H.out.symm, 0, _, HA.out _⟩

theorem below_grown {w w' : World} {B : Nat} (h : Below B w w') (hB : B ≤ w'.heap.size) (n : Nat) (os : Array Obj) : Below B w (grow (w'.drewN n) os) :=
  ⟨h.os, h.tape, h.output, Nat.le_trans h.size (by simp), fun k hk => (heap_grow_old _ _ (by simp; omega)).trans (h.block k hk)⟩
theorem nextOf_take {l : List Ext} {p : Nat} (h : p < l.length) : nextOf (l.take (p + 1)) = (l.getD p (0, 0)).1 + (l.getD p (0, 0)).2 + 1 := by
  rw [take_snoc l h, nextOf_snoc]
theorem within_of_may {x : Ext} {size : Int} (h : mayB x = true) (hs : x.1 + x.2 ≤ size) : withinB x size = true := by
  have := mayB_iff.1 h
  unfold withinB; simp; omega

set_option maxHeartbeats 16000000 in
theorem refGood_any (v : Value) (l : List Ext) (size : Int) (w : World) (hl : Xs w v l) (hE : EWs l) (hn : l.length ≤ 281474976710656) :
    Calls Tryd.prog 40 #[v, .int .i64 size] w fun e w' => e = .returned (.bool (goodB l size)) ∧ Below w.heap.size w w' := by
  obtain ⟨ao, cap, rfl, hcap, hcell⟩ := hl.opened
  have HC : Hid (∀ i, i < l.length → ∃ b off, ao = some ⟨b, off, none⟩ ∧ w.cell? ⟨b, off + i * 2, none⟩ = some (.int .i64 (l.getD i (0, 0)).1) ∧ w.cell? ⟨b, off + i * 2 + 1, none⟩ = some (.int .i64 (l.getD i (0, 0)).2) ∧ b < w.heap.size) := hcell
  have HE : Hid (EWs l) := hE
  clear hl hcell hE
  obtain ⟨N, HN⟩ : ∃ N, Hid (l.length = N) := ⟨_, rfl⟩
  rw [HN.out] at hcap hn ⊢
  by_cases s1 : size < 0
  · have HF : Hid (goodB l size = false) := by unfold Hid goodB szB; simp; omega
    go_enter Tryd.func40, Tryd.ntmps40
    go_wp2
    go_ret
    exact ⟨ret_boolX HF.out.symm, Below.refl _ _⟩
  · by_cases s2 : 4194304 < size
    · have HF : Hid (goodB l size = false) := by unfold Hid goodB szB; simp; omega
      go_enter Tryd.func40, Tryd.ntmps40
      go_wp2
      go_ret
      exact ⟨ret_boolX HF.out.symm, Below.refl _ _⟩
    · by_cases hlen : 65536 < N
      · have HF : Hid (goodB l size = false) := by unfold Hid goodB; simp [HN.out]; omega
        go_enter Tryd.func40, Tryd.ntmps40
        go_wp2
        go_ret
        exact ⟨ret_boolX HF.out.symm, Below.refl _ _⟩
      · go_enter Tryd.func40, Tryd.ntmps40
        go_wp2
        go_loopw [5] (fun i wr => ∃ k : Nat, k ≤ N ∧ i = .int .i64 (k : Int) ∧ Hid (goodFrom size 0 (l.take k) = true) ∧ Hid (Below w.heap.size w wr)) (fun i _ => N - (intOf i).toNat)
        case atStart => exact ⟨0, Nat.zero_le _, rfl, rfl, Below.refl _ _⟩
        case round =>
          obtain ⟨k, hk, rfl, HG, HB⟩ := hrel
          by_cases hlt : k < N
          · have hkl : k < l.length := by rw [HN.out]; exact hlt
            obtain ⟨b, off, rfl, c1, c2, hb⟩ := HC.out k hkl
            have hbr : b < wr.heap.size := Nat.lt_of_lt_of_le hb HB.out.size
            have d1 := cell_grown (w := wr) (a := ⟨b, off + k * 2, none⟩) hbr ((HB.out.cell (p := ⟨b, off + k * 2, none⟩) hb).trans c1)
            have d2 := cell_grown (w := wr) (a := ⟨b, off + k * 2 + 1, none⟩) hbr ((HB.out.cell (p := ⟨b, off + k * 2 + 1, none⟩) hb).trans c2)
            have hx := HE.out.at k
            have HNO := @good_no l size k hkl
            have HST := @good_step l size k hkl HG.out
            have hp : k = 0 ∨ ∃ p, k = p + 1 := by cases k with | zero => exact .inl rfl | succ p => exact .inr ⟨p, rfl⟩
            have HPRE : Hid (∀ p, k = p + 1 → (∀ n os, (grow (wr.drewN n) os).cell? ⟨b, off + p * 2, none⟩ = some (.int .i64 (l.getD p (0, 0)).1)) ∧ (∀ n os, (grow (wr.drewN n) os).cell? ⟨b, off + p * 2 + 1, none⟩ = some (.int .i64 (l.getD p (0, 0)).2)) ∧ nextOf (l.take k) = (l.getD p (0, 0)).1 + (l.getD p (0, 0)).2 + 1 ∧ 0 ≤ (l.getD p (0, 0)).1 ∧ 1 ≤ (l.getD p (0, 0)).2 ∧ (l.getD p (0, 0)).1 + (l.getD p (0, 0)).2 ≤ size) := by
              intro p hp
              subst hp
              obtain ⟨b', off', e', q1, q2, _⟩ := HC.out p (by omega)
              injection e' with e'
              injection e' with e1 e2
              subst e1; subst e2
              have hm := (goodFrom_sep HG.out).2 (l.getD p (0, 0)) (by rw [take_snoc l (by omega)]; simp)
              exact ⟨cell_grown (w := wr) (a := ⟨b, off + p * 2, none⟩) hbr ((HB.out.cell (p := ⟨b, off + p * 2, none⟩) hb).trans q1), cell_grown (w := wr) (a := ⟨b, off + p * 2 + 1, none⟩) hbr ((HB.out.cell (p := ⟨b, off + p * 2 + 1, none⟩) hb).trans q2), nextOf_take (by omega), hm.2⟩
            have HNX : Hid (k = 0 → nextOf (l.take k) = 0) := by intro h; subst h; rfl
            clear c1 c2
            generalize l.getD k (0, 0) = x at *
            obtain ⟨xa, xs⟩ := x
            have HX : Hid (EW (xa, xs)) := hx
            obtain ⟨⟨a1, a2⟩, b1, b2⟩ := hx
            dsimp only at a1 a2 b1 b2 d1 d2 HNO HST
            have HNO' : Hid (¬ (nextOf (l.take k) ≤ xa ∧ 1 ≤ xs ∧ withinB (xa, xs) size = true) → goodB l size = false) := HNO
            have HST' : Hid (nextOf (l.take k) ≤ xa → 1 ≤ xs → withinB (xa, xs) size = true → goodFrom size 0 (l.take (k + 1)) = true ∧ nextOf (l.take (k + 1)) = xa + xs + 1) := HST
            clear HNO HST
            have hk1 : (k : Int) < (N : Int) := by omega
            have HWM : Hid (mayB (xa, xs) = true → xa + xs ≤ size → withinB (xa, xs) size = true) := within_of_may
            cases hm : mayB (xa, xs) with
            | false =>
              have HNW : Hid (¬ withinB (xa, xs) size = true) := by
                intro h
                unfold withinB at h
                unfold mayB at hm
                simp at h hm
                omega
              have HCL : Hid (∀ W : World, Calls Tryd.prog 73 #[.agg #[.int .i64 xa, .int .i64 xs]] W fun e w' => e = .returned (.bool false) ∧ ∃ q os', w' = grow (W.drewN q) os') := fun W => by have := refMay_eq xa xs W HX.out; rwa [hm] at this
              clear hm
              go_wp2
              refine wp_region_quiet_grown (by kernel_rfl) (by kernel_rfl) ?_
              repeat (go_big_quiet_step ((go_at_call 73; exact Calls.grown_of (HCL.out _))))
              refine wpQuiet_nil ?_
              intro w4 hw4
              obtain ⟨⟨nq, osq⟩, rfl⟩ := hw4
              go_wp2
              go_ret
              exact ⟨ret_boolX (HNO'.out (fun h => HNW.out h.2.2)).symm, below_grown HB.out HB.out.size _ _⟩
            | true =>
              have hmi := mayB_iff.1 hm
              dsimp only at hmi
              obtain ⟨m1, m2, m3⟩ := hmi
              have HMT : Hid (mayB (xa, xs) = true) := hm
              have HCL : Hid (∀ W : World, Calls Tryd.prog 73 #[.agg #[.int .i64 xa, .int .i64 xs]] W fun e w' => e = .returned (.bool true) ∧ ∃ q os', w' = grow (W.drewN q) os') := fun W => by have := refMay_eq xa xs W HX.out; rwa [hm] at this
              have HWI : Hid (withinB (xa, xs) size = true → xa + xs ≤ size) := by intro h; unfold withinB at h; simp at h; omega
              have HW0 : Hid (xa + xs ≤ size → withinB (xa, xs) size = true) := fun h => HWM.out HMT.out h
              clear hm
              by_cases t1 : xs < 1
              · have t1' : decide (xs < 1) = true := by simpa using t1
                go_wp2
                refine wp_region_quiet_grown (by kernel_rfl) (by kernel_rfl) ?_
                repeat (go_big_quiet_step ((go_at_call 73; exact Calls.grown_of (HCL.out _))))
                refine wpQuiet_nil ?_
                intro w4 hw4
                obtain ⟨⟨nq, osq⟩, rfl⟩ := hw4
                go_wp2
                go_ret
                exact ⟨ret_boolX (HNO'.out (by omega)).symm, below_grown HB.out HB.out.size _ _⟩
              · have t1' : decide (xs < 1) = false := by simpa using t1
                by_cases t2 : size < xa + xs
                · have t2' : decide (size < xa + xs) = true := by simpa using t2
                  go_wp2
                  refine wp_region_quiet_grown (by kernel_rfl) (by kernel_rfl) ?_
                  repeat (go_big_quiet_step ((go_at_call 73; exact Calls.grown_of (HCL.out _))))
                  refine wpQuiet_nil ?_
                  intro w4 hw4
                  obtain ⟨⟨nq, osq⟩, rfl⟩ := hw4
                  go_wp2
                  go_ret
                  exact ⟨ret_boolX (HNO'.out (fun h => by have := HWI.out h.2.2; omega)).symm, below_grown HB.out HB.out.size _ _⟩
                · have t2' : decide (size < xa + xs) = false := by simpa using t2
                  have HW : Hid (withinB (xa, xs) size = true) := HW0.out (by omega)
                  rcases hp with hk0 | ⟨p, rfl⟩
                  · have HN0 : Hid (nextOf (l.take k) = 0) := HNX.out hk0
                    have hp0 : ((0 : Int) < (k : Int)) = False := by simp [hk0]
                    have hp1 : (0 < k) = False := by simp [hk0]
                    generalize nextOf (l.take k) = nf at *
                    have HK0 : Hid (k = 0) := hk0
                    clear hk0
                    go_wp2
                    refine wp_region_quiet_grown (by kernel_rfl) (by kernel_rfl) ?_
                    repeat (go_big_quiet_step ((go_at_call 73; exact Calls.grown_of (HCL.out _))))
                    refine wpQuiet_nil ?_
                    intro w4 hw4
                    obtain ⟨⟨nq, osq⟩, rfl⟩ := hw4
                    go_wp2
                    go_roundw
                    case rel =>
                      obtain ⟨r1, r2⟩ := HST'.out (by have := HN0.out; omega) (by omega) HW.out
                      exact ⟨k + 1, by omega, by simp, r1, below_grown HB.out HB.out.size _ _⟩
                    case measure => simp [intOf]; omega
                  · obtain ⟨e1, e2, e3, e4, e5, e6⟩ := HPRE.out p rfl
                    generalize l.getD p (0, 0) = y at *
                    obtain ⟨ya, ys⟩ := y
                    dsimp only at e1 e2 e3 e4 e5 e6
                    generalize nextOf (l.take (p + 1)) = nf at *
                    have hp0 : decide ((0 : Int) < ((p + 1 : Nat) : Int)) = true := by simp
                    by_cases t3 : xa ≤ ya + ys
                    · have t3' : decide (xa ≤ ya + ys) = true := by simpa using t3
                      go_wp2
                      refine wp_region_quiet_grown (by kernel_rfl) (by kernel_rfl) ?_
                      repeat (go_big_quiet_step ((go_at_call 73; exact Calls.grown_of (HCL.out _))))
                      refine wpQuiet_nil ?_
                      intro w4 hw4
                      obtain ⟨⟨nq, osq⟩, rfl⟩ := hw4
                      go_wp2
                      go_ret
                      exact ⟨ret_boolX (HNO'.out (by omega)).symm, below_grown HB.out HB.out.size _ _⟩
                    · have t3' : decide (xa ≤ ya + ys) = false := by simpa using t3
                      go_wp2
                      refine wp_region_quiet_grown (by kernel_rfl) (by kernel_rfl) ?_
                      repeat (go_big_quiet_step ((go_at_call 73; exact Calls.grown_of (HCL.out _))))
                      refine wpQuiet_nil ?_
                      intro w4 hw4
                      obtain ⟨⟨nq, osq⟩, rfl⟩ := hw4
                      go_wp2
                      go_roundw
                      case rel =>
                        obtain ⟨r1, r2⟩ := HST'.out (by omega) (by omega) HW.out
                        exact ⟨p + 1 + 1, by omega, by simp, r1, below_grown HB.out HB.out.size _ _⟩
                      case measure => simp [intOf]; omega
          · obtain rfl : k = N := by omega
            have HF : Hid (goodB l size = true) := by
              have h := HG.out
              rw [List.take_of_length_le (by rw [HN.out]; omega)] at h
              exact goodB_iff.2 ⟨⟨by omega, by omega⟩, by rw [HN.out]; omega, h⟩
            go_wp2
            go_ret
            exact ⟨ret_boolX HF.out.symm, HB.out⟩
end Go.Proofs.YtkiccnedmejnaabDoor
