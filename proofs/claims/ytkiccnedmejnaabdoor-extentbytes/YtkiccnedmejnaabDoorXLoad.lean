/-
  The walks of numberAt, listOf and Load. Conditions: the bytes' length is one that memory bears; the table of check stands.
-/
import Derived.Test.YtkiccnedmejnaabDoorXBytes
import Derived.Test.YtkiccnedmejnaabDoorXTake
import Derived.Test.YtkiccnedmejnaabDoorUnsealWalk
namespace Go.Proofs.YtkiccnedmejnaabDoor
open Go.RowKit Go.Sort Go.Shelf Go.Lib
set_option linter.unusedVariables false
set_option maxRecDepth 100000

theorem at4_bd {b : List Int} (h : Byt b) {p : Nat} (hp : p + 4 ≤ b.length) : 0 ≤ at4 b p ∧ at4 b p < 4294967296 := by
  have hl : ((b.drop p).take 4).length = 4 := by rw [List.length_take, List.length_drop]; omega
  have h1 := byt_reverse (byt_take h p 4)
  have h2 := num_bounds h1 4
  unfold at4 val
  rw [hl]
  exact h2

theorem xnumberAt_any (v : Value) (b : List Int) (p : Nat) (w : World) (hl : Bs w v b) (hb : b.length ≤ 281474976710656) (hby : Byt b) (hp : p + 4 ≤ b.length) :
    Calls Tryd.prog 77 #[v, .int .i64 p] w fun e w' => e = .returned (.int .i64 (at4 b p)) ∧ Below w.heap.size w w' := by
  have HC : Hid _ := get_wide v b p 4 true w hl hb hby (by omega) (by omega) hp
  obtain ⟨h0, h1⟩ := at4_bd hby hp
  obtain ⟨u, HU⟩ : ∃ u, Hid (at4 b p = u) := ⟨_, rfl⟩
  rw [HU.out] at h0 h1
  rw [show val true ((b.drop p).take 4) = u from HU.out] at HC
  obtain ⟨ao, cap, rfl, _⟩ := hl
  have hw : IntKind.i64.wrap u = u := by simp [IntKind.wrap, IntKind.bits, IntKind.signed]; omega
  go_enter Tryd.func77, Tryd.ntmps77
  go_wp2_with (go_at_call 76; refine Calls.mono HC.out ?_; rintro e w1 ⟨rfl, hb1⟩)
  go_ret
  exact ⟨by rw [HU.out]; rfl, hb1⟩

/-- How many extents bytes tell of, if they are such. -/
def isL (b : List Int) : Bool := decide (4 ≤ b.length) && (decide (at4 b 0 ≤ 65536) && decide ((b.length : Int) = 4 + 8 * at4 b 0))
theorem made_ecells (n : Nat) : (madeCells (Value.agg #[.int .i64 0, .int .i64 0]).cells (n * 2)).toList = ecells (List.replicate n (0, 0)) := by
  refine List.ext_getElem? fun j => ?_
  by_cases hj : j < n * 2
  · have h1 : j / 2 < (List.replicate n ((0 : Int), (0 : Int))).length := by simp; omega
    obtain ⟨e1, e2⟩ := ecells_at (List.replicate n (0, 0)) (j / 2) h1
    have hr : (List.replicate n ((0 : Int), (0 : Int))).getD (j / 2) (0, 0) = (0, 0) := by simp [List.getD, List.getElem?_replicate]; split <;> rfl
    rw [hr] at e1 e2
    rcases Nat.mod_two_eq_zero_or_one j with h | h
    · rw [show j / 2 * 2 = j by omega] at e1
      rw [e1]
      simp [madeCells, Value.cells, hj, h]
    · rw [show j / 2 * 2 + 1 = j by omega] at e2
      rw [e2]
      simp [madeCells, Value.cells, hj, h]
  · rw [List.getElem?_eq_none (by simp [madeCells]; omega), List.getElem?_eq_none (by rw [ecells_length]; simp; omega)]

/-- What stands while listOf fills its list. -/
def fillL (b : List Int) (n k : Nat) : List Ext := lstOf b k ++ List.replicate (n - k) (0, 0)
theorem fillL_length (b : List Int) {n k : Nat} (h : k ≤ n) : (fillL b n k).length = n := by unfold fillL; rw [List.length_append, lstOf_length, List.length_replicate]; omega
theorem fillL_set (b : List Int) {n k : Nat} (h : k < n) : (fillL b n k).set k (extOf b k) = fillL b n (k + 1) := by
  unfold fillL
  obtain ⟨r, hr⟩ : ∃ r, n - k = r + 1 := ⟨n - k - 1, by omega⟩
  rw [hr, show n - (k + 1) = r by omega, List.replicate_succ, lstOf_succ]
  rw [List.set_append_right _ _ (by rw [lstOf_length]; omega), lstOf_length, Nat.sub_self]
  simp

set_option maxHeartbeats 4000000 in
theorem listOf_no (v : Value) (b : List Int) (w : World) (hl : Bs w v b) (hb : b.length ≤ 140737488351232) (hby : Byt b) (h : isL b = false) :
    Calls Tryd.prog 44 #[v] w fun e w' => e = .returned (.tuple #[.slice none 0 0, .bool false]) ∧ Below w.heap.size w w' := by
  have HG : Hid _ := get_any v b 0 4 true w hl hb hby
  obtain ⟨ao, cap, rfl, _⟩ := hl
  obtain ⟨n, HN⟩ : ∃ n, Hid (b.length = n) := ⟨_, rfl⟩
  by_cases h4 : 4 ≤ n
  · have he : getErr b.length 0 4 = 0 := by unfold getErr wOk pOk; rw [HN.out]; simp; omega
    have hu : getNum b 0 4 true = at4 b 0 := by unfold getNum at4; rw [he]; rfl
    obtain ⟨u0, u1⟩ := at4_bd (b := b) hby (p := 0) (by rw [HN.out]; omega)
    rw [he, hu] at HG
    unfold isL at h
    rw [HN.out] at h hb HG
    generalize at4 b 0 = u at *
    by_cases hbg : 65536 < u
    · go_enter Tryd.func44, Tryd.ntmps44
      rw [HN.out]
      go_wp2_with (go_at_call 76; refine Calls.mono HG.out ?_; rintro e w1 ⟨rfl, hb1⟩)
      go_ret2
      exact ⟨rfl, hb1⟩
    · have hne : ((n : Int) != 4 + 8 * u) = true := by simp at h ⊢; omega
      have hw : IntKind.i64.wrap u = u := by simp [IntKind.wrap, IntKind.bits, IntKind.signed]; omega
      go_enter Tryd.func44, Tryd.ntmps44
      rw [HN.out]
      go_wp2_with (go_at_call 76; refine Calls.mono HG.out ?_; rintro e w1 ⟨rfl, hb1⟩)
      go_ret2
      exact ⟨rfl, hb1⟩
  · have he : getErr b.length 0 4 = 4 := by unfold getErr wOk pOk; rw [HN.out]; simp; omega
    rw [he, HN.out] at HG
    go_enter Tryd.func44, Tryd.ntmps44
    rw [HN.out]
    go_wp2_with (go_at_call 76; refine Calls.mono HG.out ?_; rintro e w1 ⟨rfl, hb1⟩)
    go_ret2
    exact ⟨rfl, hb1⟩

set_option maxHeartbeats 4000000 in
theorem listOf_yes (v : Value) (b : List Int) (n : Nat) (w : World) (hl : Bs w v b) (hb : b.length ≤ 140737488351232) (hby : Byt b) (hn : n ≤ 65536) (hlen : b.length = 4 + 8 * n) (hc : at4 b 0 = n) :
    Calls Tryd.prog 44 #[v] w fun e w' => ∃ x, e = .returned (.tuple #[x, .bool true]) ∧ OwnX w' w.heap.size 79 x (lstOf b n) ∧ Below w.heap.size w w' := by
  obtain ⟨i1, hi, hz0, hz1, hz2⟩ := info_parts Tryd.infoX
  have HG : Hid _ := get_any v b 0 4 true w hl hb hby
  have HL : Hid (Bs w v b) := hl
  have HBY : Hid (Byt b) := hby
  have HLB : Hid (b.length ≤ 281474976710656) := by unfold Hid; omega
  obtain ⟨ao, cap, rfl, _, hno, _⟩ := hl
  have he : getErr b.length 0 4 = 0 := by unfold getErr wOk pOk; simp; omega
  have hu : getNum b 0 4 true = n := by unfold getNum; rw [he, ← hc]; rfl
  rw [he, hu] at HG
  have hw : IntKind.i64.wrap (n : Int) = n := by simp [IntKind.wrap, IntKind.bits, IntKind.signed]; omega
  obtain ⟨m, HM⟩ : ∃ m, Hid (b.length = m) := ⟨_, rfl⟩
  have hm : (m : Int) = 4 + 8 * (n : Int) := by have := HM.out; omega
  have hmne : ((m : Int) != 4 + 8 * (n : Int)) = false := by simp [hm]
  have HM8 : Hid (b.length = 4 + 8 * n) := hlen
  rw [HM.out] at HG HL ⊢
  clear hlen hc hm he hu hb hby hno
  go_enter Tryd.func44, Tryd.ntmps44
  go_wp2_with (first | (go_at_call 76; refine Calls.mono HG.out ?_; rintro e w1 ⟨rfl, hb1⟩; have HB1 : Hid (Below w.heap.size w w1) := hb1; clear hb1) | (at_make; refine wpList_make_full _ rfl _ _ 22 rfl w1.heap.size 79 i1 _ 2 Tryd.underlying22 hi hz0 hz1 _ _ _ _ n rfl rfl rfl rfl (by rw [hz2]; omega) (by unfold maxLen; omega) (Nat.le_refl _) ?_; intro w2 ho2 hg2; rw [made_ecells] at ho2; have HO2 : Hid (OwnX w2 w1.heap.size 79 (.slice (some ⟨w1.heap.size, 0, none⟩) n n) (fillL b n 0)) := (by unfold Hid OwnX; rw [fillL_length b (Nat.zero_le _), show fillL b n 0 = List.replicate n (0, 0) by simp [fillL, lstOf]]; exact ho2); have HB2 : Hid (Below w1.heap.size w1 w2) := below_of_grown hg2; clear ho2 hg2))
  go_loopw [33] (fun i wr => ∃ k : Nat, k ≤ n ∧ i = .int .i64 (k : Int) ∧ Hid (OwnX wr w1.heap.size 79 (.slice (some ⟨w1.heap.size, 0, none⟩) n n) (fillL b n k)) ∧ Hid (Below w1.heap.size w1 wr)) (fun i _ => n - (intOf i).toNat)
  case atStart => exact ⟨0, Nat.zero_le _, rfl, HO2.out, HB2.out⟩
  case round =>
    obtain ⟨k, hk, rfl, HO, HB⟩ := hrel
    have HBW : Hid (Below w.heap.size w wr) := HB1.out.trans (HB.out.mono HB1.out.size)
    by_cases hlt : k < n
    · have HC1 : Hid (∀ w', Below wr.heap.size wr w' → Calls Tryd.prog 77 #[.slice ao m cap, .int .i64 (4 + 8 * (k : Int))] w' fun e w'' => e = .returned (.int .i64 (at4 b (4 + 8 * k))) ∧ Below w'.heap.size w' w'') := fun w' h => by
        have := xnumberAt_any _ b (4 + 8 * k) w' ((HL.out.below HBW.out).below h) HLB.out HBY.out (by rw [HM8.out]; omega)
        rw [show ((4 + 8 * k : Nat) : Int) = 4 + 8 * (k : Int) by omega] at this
        exact this
      have HC2 : Hid (∀ w', Below wr.heap.size wr w' → Calls Tryd.prog 77 #[.slice ao m cap, .int .i64 (4 + 8 * (k : Int) + 4)] w' fun e w'' => e = .returned (.int .i64 (at4 b (4 + 8 * k + 4))) ∧ Below w'.heap.size w' w'') := fun w' h => by
        have := xnumberAt_any _ b (4 + 8 * k + 4) w' ((HL.out.below HBW.out).below h) HLB.out HBY.out (by rw [HM8.out]; omega)
        rw [show ((4 + 8 * k + 4 : Nat) : Int) = 4 + 8 * (k : Int) + 4 by omega] at this
        exact this
      have HFS : Hid ((fillL b n k).set k (at4 b (4 + 8 * k), at4 b (4 + 8 * k + 4)) = fillL b n (k + 1)) := fillL_set b hlt
      have HFL : Hid ((fillL b n k).length = n) := fillL_length b hk
      generalize at4 b (4 + 8 * k) = ua at *
      generalize at4 b (4 + 8 * k + 4) = us at *
      go_wp2_with fail
      refine (HC1.out _ (Below.refl _ _)).mono ?_
      rintro e w3 ⟨rfl, hb3⟩
      have HB3 : Hid (Below wr.heap.size wr w3) := hb3
      clear hb3
      go_wp2_with fail
      refine (HC2.out _ HB3.out).mono ?_
      rintro e w4 ⟨rfl, hb4⟩
      have HB4 : Hid (Below wr.heap.size wr w4) := HB3.out.trans (hb4.mono HB3.out.size)
      clear hb4
      have HO4 : Hid (OwnX w4 w1.heap.size 79 (.slice (some ⟨w1.heap.size, 0, none⟩) n n) (fillL b n k)) := HO.out.below HB4.out
      have HBW4 : Hid (Below w1.heap.size w1 w4) := HB.out.trans (HB4.out.mono HB.out.size)
      have hfz := own_free HO4.out
      obtain ⟨y1, y2⟩ := HO4.out.cell (i := k) (by rw [HFL.out]; omega)
      generalize (fillL b n k).getD k (0, 0) = yy at y1 y2
      go_wp2_with fail
      go_roundw
      case rel =>
        refine ⟨k + 1, by omega, by simp, ?_, (HBW4.out.setCell (Nat.le_refl _) _).setCell (Nat.le_refl _) _⟩
        have h6 := (HO4.out.setAt (i := k) ua (by rw [HFL.out]; omega)).setSize (i := k) us (by rw [List.length_set, HFL.out]; omega)
        rw [set_set_ext (by rw [HFL.out]; omega), HFS.out] at h6
        exact h6
      case measure => simp [intOf]; omega
    · obtain rfl : k = n := by omega
      have HF : Hid (fillL b k k = lstOf b k) := by unfold Hid fillL; simp
      go_wp2_with fail
      go_ret2
      exact ⟨_, rfl, by rw [← HF.out]; exact HO.out.mono HB1.out.size, HBW.out⟩
end Go.Proofs.YtkiccnedmejnaabDoor
