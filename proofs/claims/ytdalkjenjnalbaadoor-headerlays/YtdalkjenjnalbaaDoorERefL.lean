/-
  The laws' own places and samePlaces. Conditions: lengths are such as memory bears.
  The document's wide. No conditions but that the numbers are ints.
  The document's Lay, where messages or extents are refused ahead of the stream. Conditions: lengths are such as memory bears.
-/
import Derived.Test.YtdalkjenjnalbaaDoorXNormal
import Derived.Deep.RegionHeldLaw
import Derived.Test.YtdalkjenjnalbaaDoorERef
import Derived.Test.YtdalkjenjnalbaaDoorELay
import Derived.Test.YtdalkjenjnalbaaDoorXRefTotal
namespace Go.Proofs.YtdalkjenjnalbaaDoor
open Go.RowKit Go.Sort Go.Shelf Go.Lib
set_option linter.unusedVariables false
set_option maxRecDepth 100000

theorem Tryd.infoR : (Tryd.prog.info? 54).map (fun i => (i.zero, i.size, i.bytes)) = some (some (.agg #[.int .i64 0, .int .i64 0]), 2, 16) := by kernel_rfl
/-- append as a step of a region that draws. -/
theorem step_append_x {P : Program} {ops : Array Oper} {o : Oper} {a : Act} {w : World} {K : Act → World → Prop} {Q : Exit → Act → World → Prop} {E : Prop}
    (d : Nat) (hd : o.dst = some d) (hg : o.guard = none) (s x : Operand) (t T : TypeId) (hop : o.op = Op.call { callee := Callee.builtin Builtin.append, args := #[s, x], argTypes := #[t, t] })
    (i : TypeInfo) (h1 : P.underlying t = some (.slice T)) (h2 : P.info? T = some i) (h3 : i.zero = some (.agg #[.int .i64 0, .int .i64 0])) (h4 : i.size = 2) (h5 : i.bytes = 16)
    (B : Nat) (v : Value) (l m : List Ext) (ad : Addr) (c : Nat) (hs : a.eval s = v) (hx : a.eval x = .slice (some ad) m.length c) (hown : OwnX w B T v l) (hm : Xs w (.slice (some ad) m.length c) m)
    (hbytes : l.length + m.length ≤ 8796093022208) (hB : B ≤ w.heap.size)
    (hK : ∀ ao cap w', OwnX w' B T (.slice ao (l.length + m.length) cap) (l ++ m) → w.grownBy w' v.ownBlock → K (a.put (some d) (.slice ao (l.length + m.length) cap)) w') :
    if Region.wanted o (yielded ops a.tmps) = true then Oper.wp P o a w K Q else E := by
  have hw : Region.wanted o (yielded ops a.tmps) = true := by simp [Region.wanted, hg]
  rw [if_pos hw]
  obtain ⟨ao, cap, hv, hc, hn, hcell⟩ := hm
  injection hv with e1 e2 e3
  obtain ⟨v', w', hrun, r1, r2, _⟩ := run_append_own (P := P) w B t o.type T i (.agg #[.int .i64 0, .int .i64 0]) 2 16 h1 h2 h3 h4 h5 rfl (by decide) v l.length (ecells l) hown ad m.length c (ecells m) (by rw [ecells_length]) (fun j u hj => hcell ad e1.symm j u hj) (ecells_oneCell m) (by unfold maxLen; omega) (by omega) hB
  have ho2 : OwnX w' B T v' (l ++ m) := by unfold OwnX; rw [List.length_append, ecells_append]; exact r1
  obtain ⟨ao', cap', rfl, _, _, _⟩ := ho2.shape
  rw [List.length_append] at ho2 hrun
  unfold Oper.wp
  simp [execOp, hop, resolve, invoke, builtin, hs, hx, hrun, Result.andThen]
  have hk := hK ao' cap' w' ho2 r2
  rw [← hd] at hk
  exact hk
set_option maxHeartbeats 4000000 in
theorem places_any (v : Value) (l : List Ext) (w : World) (hl : Xs w v l) (hn : l.length ≤ 8796093022208) :
    Calls Tryd.prog 17 #[v] w fun e w' => ∃ ao cap, e = .returned (.slice ao l.length cap) ∧ OwnX w' w.heap.size 54 (.slice ao l.length cap) l ∧ Below w.heap.size w w' := by
  obtain ⟨i1, hi, hz0, hz1, hz2⟩ := info_parts Tryd.infoR
  obtain ⟨ao, cap, rfl, hcap, hcell⟩ := hl.opened
  have HC : Hid (∀ i, i < l.length → ∃ b off, ao = some ⟨b, off, none⟩ ∧ w.cell? ⟨b, off + i * 2, none⟩ = some (.int .i64 (l.getD i (0, 0)).1) ∧ w.cell? ⟨b, off + i * 2 + 1, none⟩ = some (.int .i64 (l.getD i (0, 0)).2) ∧ b < w.heap.size) := hcell
  clear hl hcell
  obtain ⟨N, HN⟩ : ∃ N, Hid (l.length = N) := ⟨_, rfl⟩
  rw [HN.out] at hcap hn ⊢
  go_enter Tryd.func17, Tryd.ntmps17
  go_wp2
  go_loopw [3, 4] (fun o i wr => ∃ (k : Nat) (a : Option Addr) (c : Nat), k ≤ N ∧ i = .int .i64 (k : Int) ∧ o = .slice a k c ∧ Hid (OwnX wr w.heap.size 54 (.slice a k c) (l.take k)) ∧ Hid (Below w.heap.size w wr)) (fun _ i _ => N - (intOf i).toNat)
  case atStart => exact ⟨0, none, 0, Nat.zero_le _, rfl, rfl, OwnX.nil _ _ _, Below.refl _ _⟩
  case round =>
    obtain ⟨k, a, c, hk, rfl, rfl, HO, HB⟩ := hrel
    by_cases hlt : k < N
    · have hkl : k < l.length := by rw [HN.out]; exact hlt
      obtain ⟨b, off, rfl, c1, c2, hb⟩ := HC.out k hkl
      have d1 := (HB.out.cell (p := ⟨b, off + k * 2, none⟩) hb).trans c1
      have d2 := (HB.out.cell (p := ⟨b, off + k * 2 + 1, none⟩) hb).trans c2
      have HT : Hid (l.take (k + 1) = l.take k ++ [l.getD k (0, 0)]) := take_snoc l hkl
      have HL : Hid ((l.take k).length = k) := by unfold Hid; rw [List.length_take]; omega
      clear c1 c2
      generalize l.getD k (0, 0) = x at *
      obtain ⟨xa, xs⟩ := x
      dsimp only at d1 d2
      have HKA : Hid (∀ w3, (wr.alloc (.cells #[.int .i64 xa, .int .i64 xs] 54)).drew.grownBy w3 (Value.slice a k c).ownBlock → w3.cell? ⟨b, off + k * 2, none⟩ = some (.int .i64 xa) ∧ w3.cell? ⟨b, off + k * 2 + 1, none⟩ = some (.int .i64 xs)) := fun w3 hg => by
        have hbw := (HB.out.alloc HB.out.size (.cells #[.int .i64 xa, .int .i64 xs] 54)).drew
        have hb3 := hbw.grown hg hbw.size (fun j hj => (HO.out.lt j hj).1)
        have e1 := (hb3.cell (p := ⟨b, off + k * 2, none⟩) hb).trans ((HB.out.cell (p := ⟨b, off + k * 2, none⟩) hb).symm.trans d1)
        have e2 := (hb3.cell (p := ⟨b, off + k * 2 + 1, none⟩) hb).trans ((HB.out.cell (p := ⟨b, off + k * 2 + 1, none⟩) hb).symm.trans d2)
        exact ⟨e1, e2⟩
      go_wp2
      go_region_held_law (fun w' => w'.cell? ⟨b, off + k * 2, none⟩ = some (.int .i64 xa) ∧ w'.cell? ⟨b, off + k * 2 + 1, none⟩ = some (.int .i64 xs)) (first | go_keep | exact HKA.out _ hg3) ((refine step_append_x 24 rfl rfl (.tmp 11) (.tmp 23) 41 54 rfl i1 Tryd.underlying41 hi hz0 hz1 hz2 w.heap.size (.slice a k c) (l.take k) [(xa, xs)] ⟨wr.heap.size, 0, none⟩ 1 rfl rfl ((HO.out.below ((Below.refl _ _).alloc (Nat.le_refl _) _)).drew) (Xs.oneAt _ _ (xa, xs) _ (by simp)).drew (by rw [HL.out]; simp; omega) (by have h1 := HB.out.size; simp; omega) ?_; intro ao3 cap3 w3 ho3 hg3))
      all_goals
        go_wp2
        go_roundw
        case rel =>
          rw [HL.out] at ho3
          refine ⟨k + 1, ao3, cap3, by omega, by simp, by simp; omega, by rw [HT.out]; exact ho3, ?_⟩
          have hbw := (HB.out.alloc HB.out.size (.cells #[.int .i64 xa, .int .i64 xs] 54)).drew
          exact hbw.grown hg3 hbw.size (fun j hj => (HO.out.lt j hj).1)
        case measure => simp [intOf]; omega
    · obtain rfl : k = N := by omega
      go_wp2
      go_ret
      refine ⟨a, c, rfl, ?_, HB.out⟩
      have := HO.out
      rwa [List.take_of_length_le (by rw [HN.out]; omega)] at this
theorem take_eq_snoc {l m : List Ext} {k : Nat} (h : l.take k = m.take k) (hl : k < l.length) (hm : k < m.length) (he : l.getD k (0, 0) = m.getD k (0, 0)) : l.take (k + 1) = m.take (k + 1) := by
  rw [take_snoc l hl, take_snoc m hm, h, he]
theorem ne_of_at {l m : List Ext} {k : Nat} (he : l.getD k (0, 0) ≠ m.getD k (0, 0)) : decide (l = m) = false := by
  rw [decide_eq_false_iff_not]; intro h; exact he (by rw [h])
set_option maxHeartbeats 4000000 in
theorem samePl_any (va vb : Value) (la lb : List Ext) (w : World) (ha : Xs w va la) (hb : Xs w vb lb) (hna : la.length ≤ 8796093022208) (hnb : lb.length ≤ 8796093022208) :
    Calls Tryd.prog 20 #[va, vb] w fun e w' => e = .returned (.bool (decide (la = lb))) ∧ Below w.heap.size w w' := by
  obtain ⟨aa, ca, rfl, hca, hcella⟩ := ha.opened
  obtain ⟨ab, cb, rfl, hcb, hcellb⟩ := hb.opened
  have HA : Hid (∀ i, i < la.length → ∃ b off, aa = some ⟨b, off, none⟩ ∧ w.cell? ⟨b, off + i * 2, none⟩ = some (.int .i64 (la.getD i (0, 0)).1) ∧ w.cell? ⟨b, off + i * 2 + 1, none⟩ = some (.int .i64 (la.getD i (0, 0)).2) ∧ b < w.heap.size) := hcella
  have HB : Hid (∀ i, i < lb.length → ∃ b off, ab = some ⟨b, off, none⟩ ∧ w.cell? ⟨b, off + i * 2, none⟩ = some (.int .i64 (lb.getD i (0, 0)).1) ∧ w.cell? ⟨b, off + i * 2 + 1, none⟩ = some (.int .i64 (lb.getD i (0, 0)).2) ∧ b < w.heap.size) := hcellb
  clear ha hb hcella hcellb
  obtain ⟨N, HN⟩ : ∃ N, Hid (la.length = N) := ⟨_, rfl⟩
  obtain ⟨M, HM⟩ : ∃ M, Hid (lb.length = M) := ⟨_, rfl⟩
  rw [HN.out] at hna hca ⊢
  rw [HM.out] at hnb hcb ⊢
  by_cases hNM : N = M
  · subst hNM
    go_enter Tryd.func20, Tryd.ntmps20
    go_wp2
    go_loopw [5] (fun i wr => ∃ k : Nat, k ≤ N ∧ i = .int .i64 (k : Int) ∧ Hid (la.take k = lb.take k) ∧ Hid (Below w.heap.size w wr)) (fun i _ => N - (intOf i).toNat)
    case atStart => exact ⟨0, Nat.zero_le _, rfl, rfl, Below.refl _ _⟩
    case round =>
      obtain ⟨k, hk, rfl, HT, HW⟩ := hrel
      by_cases hlt : k < N
      · have hka : k < la.length := by rw [HN.out]; exact hlt
        have hkb : k < lb.length := by rw [HM.out]; exact hlt
        obtain ⟨b, off, rfl, c1, c2, hb⟩ := HA.out k hka
        obtain ⟨b', off', rfl, c1', c2', hb'⟩ := HB.out k hkb
        have d1 := (HW.out.cell (p := ⟨b, off + k * 2, none⟩) hb).trans c1
        have d2 := (HW.out.cell (p := ⟨b, off + k * 2 + 1, none⟩) hb).trans c2
        have e1 := (HW.out.cell (p := ⟨b', off' + k * 2, none⟩) hb').trans c1'
        have e2 := (HW.out.cell (p := ⟨b', off' + k * 2 + 1, none⟩) hb').trans c2'
        have HEQ : Hid (la.getD k (0, 0) = lb.getD k (0, 0) → la.take (k + 1) = lb.take (k + 1)) := take_eq_snoc HT.out hka hkb
        have HNE : Hid (la.getD k (0, 0) ≠ lb.getD k (0, 0) → decide (la = lb) = false) := ne_of_at
        clear c1 c2 c1' c2'
        generalize la.getD k (0, 0) = x at *
        generalize lb.getD k (0, 0) = y at *
        obtain ⟨xa, xs⟩ := x
        obtain ⟨ya, ys⟩ := y
        dsimp only at d1 d2 e1 e2
        have hk1 : (k : Int) < (N : Int) := by omega
        by_cases h1 : xa = ya
        · subst h1
          have h1' : (xa != xa) = false := by simp
          by_cases h2 : xs = ys
          · subst h2
            have h2' : (xs != xs) = false := by simp
            go_wp2
            go_quiet (fail)
            go_wp2
            go_roundw
            case rel => exact ⟨k + 1, by omega, by simp, HEQ.out (by first | rfl | trivial), below_drewN HW.out _⟩
            case measure => simp [intOf]; omega
          · have h2' : (xs != ys) = true := by simp [h2]
            go_wp2
            go_quiet (fail)
            go_wp2
            go_ret
            exact ⟨ret_boolX (HNE.out (fun e => h2 (by injection e))).symm, below_drewN HW.out _⟩
        · have h1' : (xa != ya) = true := by simp [h1]
          go_wp2
          go_quiet (fail)
          go_wp2
          go_ret
          exact ⟨ret_boolX (HNE.out (fun e => h1 (by injection e))).symm, below_drewN HW.out _⟩
      · obtain rfl : k = N := by omega
        have HF : Hid (decide (la = lb) = true) := by
          have h := HT.out
          rw [List.take_of_length_le (by rw [HN.out]; omega), List.take_of_length_le (by rw [HM.out]; omega)] at h
          unfold Hid; rw [decide_eq_true_eq]; exact h
        go_wp2
        go_ret
        exact ⟨ret_boolX HF.out.symm, HW.out⟩
  · have HF : Hid (decide (la = lb) = false) := by
      unfold Hid; rw [decide_eq_false_iff_not]; intro h; apply hNM; rw [← HN.out, ← HM.out, h]
    have hne : ((N : Int) != (M : Int)) = true := by simp; omega
    go_enter Tryd.func20, Tryd.ntmps20
    go_wp2
    go_ret
    exact ⟨ret_boolX HF.out.symm, Below.refl _ _⟩
end Go.Proofs.YtdalkjenjnalbaaDoor

namespace Go.Proofs.YtdalkjenjnalbaaDoor
open Go.RowKit
set_option linter.unusedVariables false
set_option maxRecDepth 100000

theorem wide_iff (x : Ext) : (mayB x && decide (16 < x.2)) = !narrowB x := by
  by_cases h : narrowB x = false
  · obtain ⟨h1, h2, h3⟩ := wide_of h
    rw [h, mayB_iff.2 ⟨h1, by omega, h3⟩]
    simp [h2]
  · have hn : narrowB x = true := by cases hh : narrowB x <;> simp_all
    rw [hn]
    cases hm : mayB x with
    | false => rfl
    | true =>
      obtain ⟨m1, m2, m3⟩ := mayB_iff.1 hm
      by_cases h16 : 16 < x.2
      · exfalso
        unfold narrowB at hn
        have hg : goodB [x] 4194304 = true := by
          rw [goodB_iff]
          refine ⟨⟨by decide, by decide⟩, by simp, ?_⟩
          unfold goodFrom
          simp [goodFrom]
          omega
        rw [hg] at hn
        simp at hn
        omega
      · simp [h16]
theorem refWide_any (a b : Int) (w : World) (hx : EW (a, b)) :
    Calls Tryd.prog 35 #[.agg #[.int .i64 a, .int .i64 b]] w fun e w' => e = .returned (.bool (!narrowB (a, b))) ∧ Below w.heap.size w w' := by
  have HW : Hid ((mayB (a, b) && decide (16 < b)) = !narrowB (a, b)) := wide_iff (a, b)
  obtain ⟨W1, hW1⟩ : ∃ W1, w.alloc (.cells #[.int .i64 a, .int .i64 b] 54) = W1 := ⟨_, rfl⟩
  have HB1 : Hid (Below w.heap.size w W1) := by unfold Hid; rw [← hW1]; exact (Below.refl _ _).alloc (Nat.le_refl _) _
  have ho : W1.heap[w.heap.size]? = some (.cells #[.int .i64 a, .int .i64 b] 54 (0, 0)) := by rw [← hW1]; exact heap_alloc_new w _
  have c0 := cellO ho 0 rfl
  have c1 := cellO ho 1 rfl
  have HM : Hid _ := refMay_any a b W1 hx
  have HCC : Hid (∀ W, Below W1.heap.size W1 W → W.cell? ⟨w.heap.size, 1, none⟩ = some (.int .i64 b)) := fun W hW => (hW.cell (World.block_lt_of_cell? W1 _ c1)).trans c1
  clear ho hx
  cases hm : mayB (a, b) with
  | true =>
    rw [hm] at HM HW
    go_enter Tryd.func35, Tryd.ntmps35
    go_wp2_with (go_at_call 55; refine Calls.mono HM.out ?_; rintro e w2 ⟨rfl, hb2⟩; have d1 := HCC.out w2 hb2; have HB2 : Hid (Below w.heap.size w w2) := HB1.out.trans (hb2.mono HB1.out.size); clear hb2)
    go_ret
    exact ⟨ret_boolX (by rw [← HW.out]; simp), HB2.out⟩
  | false =>
    rw [hm] at HM HW
    go_enter Tryd.func35, Tryd.ntmps35
    go_wp2_with (go_at_call 55; refine Calls.mono HM.out ?_; rintro e w2 ⟨rfl, hb2⟩; have HB2 : Hid (Below w.heap.size w w2) := HB1.out.trans (hb2.mono HB1.out.size); clear hb2)
    go_ret
    exact ⟨ret_boolX (by rw [← HW.out]; simp), HB2.out⟩
end Go.Proofs.YtdalkjenjnalbaaDoor

namespace Go.Proofs.YtdalkjenjnalbaaDoor
open Go.RowKit
set_option linter.unusedVariables false
set_option maxRecDepth 100000
set_option maxHeartbeats 4000000

/-- The error that is told ahead of the stream. -/
def preErr (l : List Msg) (r : List Ext) : Int := if szErr l ≠ 0 then szErr l else if 65536 < r.length then 3 else if r.any narrowB then 2 else if meetsB r then 2 else 0
theorem any_at {r : List Ext} {i : Nat} {x : Ext} (h : r[i]? = some x) (hx : narrowB x = true) : r.any narrowB = true := List.any_eq_true.2 ⟨x, List.mem_of_getElem? h, hx⟩
theorem any_none {r : List Ext} (h : ∀ (i : Nat) (x : Ext), r[i]? = some x → narrowB x = false) : r.any narrowB = false := by
  rw [List.any_eq_false]
  intro x hx
  obtain ⟨i, hi, he⟩ := List.mem_iff_getElem.1 hx
  have := h i x (by rw [List.getElem?_eq_getElem hi, he])
  simp [this]

theorem refLay_pre (w : World) (vl vr : Value) (l : List Msg) (r : List Ext) (hM : Ms w vl l) (hn : l.length ≤ 140737488351232) (hR : Xs w vr r) (hE : EWs r) (hr : r.length ≤ 8796093022208) (he : preErr l r ≠ 0) :
    Calls Tryd.prog 16 #[vl, vr] w fun e w' => e = .returned (.tuple #[.slice none 0 0, .int .i64 (preErr l r)]) ∧ Below w.heap.size w w' := by
  have HMY : Hid _ := refMay8_any w vl l hM hn
  have HME : Hid (∀ W, Below w.heap.size w W → Calls Tryd.prog 36 #[vr] W fun e w' => e = .returned (.bool (meetsB r)) ∧ Below W.heap.size W w') := fun W hW => refMeets_any vr r W (hR.below hW) hE (by omega)
  obtain ⟨aor, capr, hvr, hcr, hxr⟩ := hR.opened
  have HXR : Hid (∀ i, i < r.length → ∃ b off, aor = some ⟨b, off, none⟩ ∧ w.cell? ⟨b, off + i * 2, none⟩ = some (.int .i64 (r.getD i (0, 0)).1) ∧ w.cell? ⟨b, off + i * 2 + 1, none⟩ = some (.int .i64 (r.getD i (0, 0)).2) ∧ b < w.heap.size) := hxr
  have HEE : Hid (∀ (i : Nat) (x : Ext), r[i]? = some x → EW x) := fun i x h => hE x (List.mem_of_getElem? h)
  obtain ⟨aol, capl, hvl, _⟩ := hM
  subst hvl hvr
  obtain ⟨se, HSE⟩ : ∃ se, Hid (szErr l = se) := ⟨_, rfl⟩
  obtain ⟨rn, HRN⟩ : ∃ rn, Hid (r.length = rn) := ⟨_, rfl⟩
  obtain ⟨er, HER⟩ : ∃ er, Hid (preErr l r = er) := ⟨_, rfl⟩
  have HLE : Hid (er = if se ≠ 0 then se else if 65536 < rn then 3 else if r.any narrowB then 2 else if meetsB r then 2 else 0) := by unfold Hid; rw [← HER.out, preErr, HSE.out, HRN.out]
  rw [HSE.out] at HMY
  rw [HER.out] at he ⊢
  rw [HRN.out] at hcr hr HXR HME ⊢
  clear hxr hR hE
  by_cases hs : se = 0
  · subst hs
    by_cases hbig : 65536 < rn
    · have HF : Hid (er = 3) := by unfold Hid; rw [HLE.out, if_neg (by simp), if_pos hbig]
      have hbi : (65536 : Int) < (rn : Int) := by omega
      clear HME HXR HEE
      go_enter Tryd.func16, Tryd.ntmps16
      go_wp2_with (go_at_call 12; refine Calls.mono HMY.out ?_; rintro e w1 ⟨rfl, rfl⟩)
      go_ret2
      exact ⟨by rw [HF.out]; rfl, Below.refl _ _⟩
    · have hbi : ¬ (65536 : Int) < (rn : Int) := by omega
      have HF : Hid (er = if r.any narrowB then 2 else if meetsB r then 2 else 0) := by unfold Hid; rw [HLE.out, if_neg (by simp), if_neg hbig]
      clear HLE
      go_enter Tryd.func16, Tryd.ntmps16
      go_wp2_with (go_at_call 12; refine Calls.mono HMY.out ?_; rintro e w1 ⟨rfl, rfl⟩)
      go_loopw [7] (fun x wr => ∃ i : Nat, i ≤ rn ∧ x = .int .i64 (i : Int) ∧ Hid (∀ (j : Nat) (y : Ext), j < i → r[j]? = some y → narrowB y = false) ∧ Hid (Below w1.heap.size w1 wr)) (fun x _ => rn - (intOf x).toNat)
      case atStart => exact ⟨0, Nat.zero_le _, rfl, fun j y h => absurd h (Nat.not_lt_zero _), Below.refl _ _⟩
      case round =>
        obtain ⟨i, hi, rfl, HNo, HB⟩ := hrel
        by_cases hlt : i < rn
        · have hir : i < r.length := by rw [HRN.out]; exact hlt
          obtain ⟨gr, or_, rfl, c1, c2, _⟩ := HXR.out i hlt
          have hxm : r[i]? = some (r.getD i (0, 0)) := by simp [List.getD, hir]
          generalize r.getD i (0, 0) = x at *
          obtain ⟨xa, xs⟩ := x
          dsimp only at c1 c2
          have HX : Hid (r[i]? = some (xa, xs)) := hxm
          have hew := HEE.out i _ hxm
          have d1 := (HB.out.cell (World.block_lt_of_cell? w1 _ c1)).trans c1
          have d2 := (HB.out.cell (World.block_lt_of_cell? w1 _ c2)).trans c2
          have HWI : Hid (∀ W, Calls Tryd.prog 35 #[.agg #[.int .i64 xa, .int .i64 xs]] W fun e w' => e = .returned (.bool (!narrowB (xa, xs))) ∧ Below W.heap.size W w') := fun W => refWide_any xa xs W hew
          have hili : (i : Int) < (rn : Int) := by omega
          clear c1 c2 hxm hew
          cases hnb : narrowB (xa, xs) with
          | true =>
            rw [hnb] at HWI
            have HF2 : Hid (er = 2) := by unfold Hid; rw [HF.out, if_pos (any_at HX.out hnb)]
            clear hnb
            go_wp2_with (go_at_call 35; refine Calls.mono (HWI.out _) ?_; rintro e w2 ⟨rfl, hb2⟩; have HB2 : Hid (Below w1.heap.size w1 w2) := HB.out.trans (hb2.mono HB.out.size); clear hb2)
            go_ret2
            exact ⟨by rw [HF2.out]; rfl, HB2.out⟩
          | false =>
            rw [hnb] at HWI
            have HNo2 : Hid (∀ (j : Nat) (y : Ext), j < i + 1 → r[j]? = some y → narrowB y = false) := fun j y hj hy => by
              by_cases hji : j = i
              · subst hji; rw [HX.out] at hy; cases hy; exact hnb
              · exact HNo.out j y (by omega) hy
            clear hnb
            go_wp2_with (go_at_call 35; refine Calls.mono (HWI.out _) ?_; rintro e w2 ⟨rfl, hb2⟩; have HB2 : Hid (Below w1.heap.size w1 w2) := HB.out.trans (hb2.mono HB.out.size); clear hb2)
            go_roundw
            case rel => exact ⟨i + 1, by omega, by go_num, HNo2.out, HB2.out⟩
            case measure => simp [intOf]; omega
        · have hili : ¬ (i : Int) < (rn : Int) := by omega
          have HNA : Hid (r.any narrowB = false) := any_none (fun j y hy => HNo.out j y (by obtain ⟨h9, _⟩ := List.getElem?_eq_some_iff.1 hy; rw [HRN.out] at h9; omega) hy)
          have hm : meetsB r = true := by
            cases hmb : meetsB r with
            | true => rfl
            | false => exfalso; apply he; rw [HF.out, HNA.out, hmb]; rfl
          have HF2 : Hid (er = 2) := by unfold Hid; rw [HF.out, HNA.out, hm]; rfl
          rw [hm] at HME
          clear hm
          go_wp2_with (go_at_call 36; refine Calls.mono (HME.out _ HB.out) ?_; rintro e w2 ⟨rfl, hb2⟩; have HB2 : Hid (Below w1.heap.size w1 w2) := HB.out.trans (hb2.mono HB.out.size); clear hb2)
          go_ret2
          exact ⟨by rw [HF2.out]; rfl, HB2.out⟩
  · have HF : Hid (er = se) := by unfold Hid; rw [HLE.out, if_pos hs]
    have hsb : (se != 0) = true := by simp [hs]
    clear HME HXR HEE HLE
    go_enter Tryd.func16, Tryd.ntmps16
    go_wp2_with (go_at_call 12; refine Calls.mono HMY.out ?_; rintro e w1 ⟨rfl, rfl⟩)
    go_ret2
    exact ⟨by rw [HF.out]; rfl, Below.refl _ _⟩
end Go.Proofs.YtdalkjenjnalbaaDoor
