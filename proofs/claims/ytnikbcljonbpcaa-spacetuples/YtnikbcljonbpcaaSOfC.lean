/-
  What points select, and what axes select: the number, the iterator, the error. Conditions: the extent's dimensions may be.
-/
import Derived.Test.YtnikbcljonbpcaaSOfB
namespace Go.Proofs.Ytnikbcljonbpcaa
open Go.RowKit Go.Shelf
set_option linter.unusedVariables false
set_option maxRecDepth 100000

/-- The iterator over the tuples of axes. -/
def ItAx (w : World) (it : Value) (A : List Ax) : Prop := ∃ gb ao m cap, it = .func (.func 45) #[] #[.pointer (some ⟨gb, 0, none⟩)] ∧ w.cell? ⟨gb, 0, none⟩ = some (.slice ao m cap) ∧ Axs w (.slice ao m cap) A
/-- The iterator over points. -/
def ItPt (w : World) (it : Value) (P : List (List Int)) : Prop := ∃ gb ao m cap, it = .func (.func 53) #[] #[.pointer (some ⟨gb, 0, none⟩)] ∧ w.cell? ⟨gb, 0, none⟩ = some (.slice ao m cap) ∧ Iss w (.slice ao m cap) P
theorem ItAx.below {w w' : World} {it : Value} {A : List Ax} (h : ItAx w it A) (hb : Below w.heap.size w w') : ItAx w' it A := by
  obtain ⟨gb, ao, m, cap, h1, h2, h3⟩ := h
  exact ⟨gb, ao, m, cap, h1, (hb.cell (World.block_lt_of_cell? w _ h2)).trans h2, h3.below hb⟩
theorem ItPt.below {w w' : World} {it : Value} {A : List (List Int)} (h : ItPt w it A) (hb : Below w.heap.size w w') : ItPt w' it A := by
  obtain ⟨gb, ao, m, cap, h1, h2, h3⟩ := h
  exact ⟨gb, ao, m, cap, h1, (hb.cell (World.block_lt_of_cell? w _ h2)).trans h2, h3.below hb⟩
theorem tuplesOf_any (A : List Ax) (v : Value) (w : World) (h : Axs w v A) : Calls Try.prog 41 #[v] w fun e w' => (∃ it, e = .returned it ∧ ItAx w' it A) ∧ Below w.heap.size w w' := by
  have HI : Hid (Axs w v A) := h
  obtain ⟨ao, n, cap, rfl, hn, hc, hb⟩ := h.open
  clear h hn
  go_enter Try.func41, Try.ntmps41
  go_wp2_with fail
  go_ret
  have hb : Below w.heap.size w (w.alloc (.cells #[.slice ao n cap] 63)) := (Below.refl _ _).alloc (Nat.le_refl _) _
  exact ⟨⟨_, rfl, w.heap.size, ao, n, cap, rfl, cell_of_row _ w.heap.size 0 _ _ _ (heap_alloc_new w _), HI.out.below hb⟩, hb⟩
theorem values_any (P : List (List Int)) (v : Value) (w : World) (h : Iss w v P) : Calls Try.prog 44 #[v] w fun e w' => (∃ it, e = .returned it ∧ ItPt w' it P) ∧ Below w.heap.size w w' := by
  have HI : Hid (Iss w v P) := h
  obtain ⟨ao, n, cap, rfl, hn, hc, hb⟩ := h.open
  clear h hn
  go_enter Try.func44, Try.ntmps44
  go_wp2_with fail
  go_ret
  have hb : Below w.heap.size w (w.alloc (.cells #[.slice ao n cap] 31)) := (Below.refl _ _).alloc (Nat.le_refl _) _
  exact ⟨⟨_, rfl, w.heap.size, ao, n, cap, rfl, cell_of_row _ w.heap.size 0 _ _ _ (heap_alloc_new w _), HI.out.below hb⟩, hb⟩
/-- What ofPoints tells. -/
def PtP (w : World) (D : List Int) (P : List (List Int)) (e : Ending) (w' : World) : Prop :=
  Below w.heap.size w w' ∧ if ptE D P = 0 then ∃ it, e = .returned (.tuple #[.int .i64 (P.length : Int), it, .int .i64 0]) ∧ ItPt w' it P else e = .returned (.tuple #[.int .i64 0, .nilFunc, .int .i64 (ptE D P)])
set_option maxHeartbeats 8000000 in
theorem ofPoints_any (D : List Int) (P : List (List Int)) (vd vp : Value) (w : World) (hD : Is w vd D) (hP : Iss w vp P) (hd : dimsB D = true) : Calls Try.prog 35 #[vd, vp] w (PtP w D P) := by
  have HI : Hid (Is w vd D) := hD
  have HJ : Hid (Iss w vp P) := hP
  obtain ⟨ao, n, cap, rfl, hn, hc, hb⟩ := hD.open
  obtain ⟨bo, m, dap, rfl, hm, hdc, hb2⟩ := hP.open
  have HN : Hid _ := hn
  have HM : Hid _ := hm
  have h4 : n ≤ 4 := by
    rw [dimsB, Bool.and_eq_true] at hd
    have := of_decide_eq_true hd.1
    omega
  obtain ⟨f, HF⟩ : ∃ f, Hid (okB D.length = f) := ⟨_, rfl⟩
  have HFN : Hid (okB n = f) := by rw [Hid, ← hn]; exact HF.out
  obtain ⟨q, HQ⟩ : ∃ q, Hid (outB D = q) := ⟨_, rfl⟩
  have HPE : Hid (ptE D P = if P.all f = false then 2 else if P.any q = true then 17 else if P.length ≤ 4096 then 0 else 18) := by rw [Hid, ptE, HF.out, HQ.out]
  clear hD hP hn hm hd
  go_enter Try.func35, Try.ntmps35
  go_wp2_with fail
  go_loopw [13] (fun x wr => ∃ i : Nat, i ≤ m ∧ x = .int .i64 (i : Int) ∧ Hid ((P.take i).all f = true) ∧ Hid (Below w.heap.size w wr)) (fun x _ => m - (intOf x).toNat)
  case atStart => exact ⟨0, Nat.zero_le _, rfl, rfl, Below.refl _ _⟩
  case round =>
    obtain ⟨i, hin, rfl, HA, HB⟩ := hrel
    by_cases hlt : i < m
    · obtain ⟨g, o, l, u, k, c, rfl, hl, hlm, hmc, hmm, hcell, his⟩ := (HJ.out.below HB.out).at hlt
      have HIL : Hid _ := isList_any l (.slice u k c) n wr his h4
      rw [HFN.out] at HIL
      have HLL : Hid _ := hl
      clear hl hlm his
      have hili : (i : Int) < (m : Int) := by omega
      obtain ⟨b, hb⟩ : ∃ b, f l = b := ⟨_, rfl⟩
      rw [hb] at HIL
      have HOB : Hid _ := hb
      clear hb
      cases b with
      | true =>
        go_wp2_with (go_at_call 42; refine Calls.mono HIL.out ?_; rintro e w1 ⟨rfl, hb1⟩; have HB2 : Hid (Below w.heap.size w w1) := HB.out.trans (hb1.mono HB.out.size); clear hb1)
        go_roundw
        case rel =>
          refine ⟨i + 1, by omega, by simp, ?_, HB2.out⟩
          rw [Hid, List.take_add_one, HLL.out, List.all_append, HA.out]
          simp [HOB.out]
        case measure => simp [intOf]; omega
      | false =>
        go_wp2_with (go_at_call 42; refine Calls.mono HIL.out ?_; rintro e w1 ⟨rfl, hb1⟩; have HB2 : Hid (Below w.heap.size w w1) := HB.out.trans (hb1.mono HB.out.size); clear hb1)
        ((try simp only [Exit.inBlock, Exit.then]); refine bodyPost_ret (results_tmp3 rfl _ _ _) rfl ?_)
        have hE : ptE D P = 2 := by
          rw [HPE.out, if_pos]
          rw [List.all_eq_false]
          exact ⟨l, List.mem_of_getElem? HLL.out, by rw [HOB.out]; simp⟩
        refine ⟨HB2.out, ?_⟩
        rw [hE, if_neg (by omega)]
        rfl
    · rename World => w9
      have HALL : Hid (P.all f = true) := by rw [Hid, ← HA.out, List.take_of_length_le (by rw [HM.out]; omega)]
      have HPE2 : Hid (ptE D P = if P.any q = true then 17 else if P.length ≤ 4096 then 0 else 18) := by rw [Hid, HPE.out, if_neg (by rw [HALL.out]; simp)]
      have HLP : Hid (∀ l ∈ P, l.length = D.length) := fun l hl => by
        have := List.all_eq_true.1 HALL.out l hl
        rw [← HF.out] at this
        exact (okB_iff.1 this).1
      clear HPE HALL HA
      go_wp2_with fail
      go_loopw [25] (fun x wr => ∃ i : Nat, i ≤ m ∧ x = .int .i64 (i : Int) ∧ Hid ((P.take i).any q = false) ∧ Hid (Below w.heap.size w wr)) (fun x _ => m - (intOf x).toNat)
      case atStart => exact ⟨0, Nat.zero_le _, rfl, rfl, HB.out⟩
      case round =>
        clear HB
        obtain ⟨i2, hin2, rfl, HA, HB⟩ := hrel
        by_cases hlt2 : i2 < m
        · obtain ⟨g, o, l, u, k, c, rfl, hl, hlm, hmc, hmm, hcell, his⟩ := (HJ.out.below HB.out).at hlt2
          have HIL : Hid _ := isOutside_any D l _ (.slice u k c) wr (HI.out.below HB.out) his (HLP.out l (List.mem_of_getElem? hl)).symm
          rw [HQ.out] at HIL
          have HLL : Hid _ := hl
          clear hl hlm his
          have hili : (i2 : Int) < (m : Int) := by omega
          obtain ⟨b, hb⟩ : ∃ b, q l = b := ⟨_, rfl⟩
          rw [hb] at HIL
          have HOB : Hid _ := hb
          clear hb
          cases b with
          | false =>
            go_wp2_with (go_at_call 43; refine Calls.mono HIL.out ?_; rintro e w1 ⟨rfl, hb1⟩; have HB2 : Hid (Below w.heap.size w w1) := HB.out.trans (hb1.mono HB.out.size); clear hb1)
            go_roundw
            case rel =>
              refine ⟨i2 + 1, by omega, by simp, ?_, HB2.out⟩
              rw [Hid, List.take_add_one, HLL.out, List.any_append, HA.out]
              simp [HOB.out]
            case measure => simp [intOf]; omega
          | true =>
            go_wp2_with (go_at_call 43; refine Calls.mono HIL.out ?_; rintro e w1 ⟨rfl, hb1⟩; have HB2 : Hid (Below w.heap.size w w1) := HB.out.trans (hb1.mono HB.out.size); clear hb1)
            ((try simp only [Exit.inBlock, Exit.then]); refine bodyPost_ret (results_tmp3 rfl _ _ _) rfl ?_)
            have hE : ptE D P = 17 := by
              rw [HPE2.out, if_pos]
              rw [List.any_eq_true]
              exact ⟨l, List.mem_of_getElem? HLL.out, HOB.out⟩
            refine ⟨HB2.out, ?_⟩
            rw [hE, if_neg (by omega)]
            rfl
        · have HALL : Hid (P.any q = false) := by rw [Hid, ← HA.out, List.take_of_length_le (by rw [HM.out]; omega)]
          have HPE3 : Hid (ptE D P = if m ≤ 4096 then 0 else 18) := by rw [Hid, HPE2.out, if_neg (by rw [HALL.out]; simp), HM.out]
          clear HPE2 HALL HA
          by_cases hbig : m ≤ 4096
          · have e1 : decide (4096 < (m : Int)) = false := decide_eq_false (by omega)
            have HV : Hid _ := values_any P _ wr (HJ.out.below HB.out)
            go_wp2_with (go_at_call 44; refine Calls.mono HV.out ?_; rintro e w1 ⟨⟨it, rfl, hit⟩, hb1⟩; have HIT : Hid (ItPt w1 it P) := hit; have HB2 : Hid (Below w.heap.size w w1) := HB.out.trans (hb1.mono HB.out.size); clear hb1 hit)
            ((try simp only [Exit.inBlock, Exit.then]); refine bodyPost_ret (results_tmp3 rfl _ _ _) rfl ?_)
            refine ⟨HB2.out, ?_⟩
            rw [if_pos (by rw [HPE3.out, if_pos hbig])]
            exact ⟨it, by rw [HM.out]; rfl, HIT.out⟩
          · have e1 : decide (4096 < (m : Int)) = true := decide_eq_true (by omega)
            go_wp2_with fail
            ((try simp only [Exit.inBlock, Exit.then]); refine bodyPost_ret (results_tmp3 rfl _ _ _) rfl ?_)
            refine ⟨HB.out, ?_⟩
            rw [HPE3.out, if_neg hbig, if_neg (by omega)]
            rfl
end Go.Proofs.Ytnikbcljonbpcaa
