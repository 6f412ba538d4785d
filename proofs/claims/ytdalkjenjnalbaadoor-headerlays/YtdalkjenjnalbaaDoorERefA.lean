/-
  The laws' own sameMessages and sameBlocks, where they are the same. Conditions: lengths are such as memory bears.
  The document's Lay, whole: what it tells is what the program's tells; blocks read as messages do. Conditions: lengths are such as memory bears; the table of the sum stands.
-/
import Derived.Test.YtdalkjenjnalbaaDoorERef
import Derived.Deep.QuietTactic
import Derived.BigQuiet
import Derived.Test.YtdalkjenjnalbaaDoorERefG
namespace Go.Proofs.YtdalkjenjnalbaaDoor
open Go.RowKit
set_option linter.unusedVariables false
set_option maxRecDepth 100000
set_option maxHeartbeats 2000000

theorem drewN_belowE (w : World) (k : Nat) : Below w.heap.size w (w.drewN k) := ⟨rfl, rfl, rfl, Nat.le_refl _, fun _ _ => rfl⟩
theorem sameMs_yes (va vb : Value) (la lb : List Msg) (w : World) (ha : Ms w va la) (hb : Ms w vb lb) (hl : la.length = lb.length) (he : ∀ (i : Nat) (a b : Msg), la[i]? = some a → lb[i]? = some b → a.1 = b.1 ∧ a.2.2 = b.2.2) (hn : la.length ≤ 281474976710656) :
    Calls Tryd.prog 19 #[va, vb] w fun e w' => e = .returned (.bool true) ∧ Below w.heap.size w w' := by
  obtain ⟨aoa, ca, rfl, hca, hA⟩ := ha
  obtain ⟨aob, cb, rfl, hcb, hB⟩ := hb
  have HA : Hid _ := hA
  have HB : Hid _ := hB
  have HE : Hid _ := he
  obtain ⟨n, HN⟩ : ∃ n, Hid (la.length = n) := ⟨_, rfl⟩
  have HM : Hid (lb.length = n) := by unfold Hid; rw [← hl]; exact HN.out
  rw [HN.out] at hca hn ⊢
  rw [HM.out] at hcb ⊢
  clear hA hB he hl
  go_enter Tryd.func19, Tryd.ntmps19
  go_wp2
  go_loopw [5] (fun x wr => ∃ i : Nat, i ≤ n ∧ x = .int .i64 (i : Int) ∧ Hid (Below w.heap.size w wr)) (fun x _ => n - (intOf x).toNat)
  case atStart => exact ⟨0, Nat.zero_le _, rfl, Below.refl _ _⟩
  case round =>
    obtain ⟨i, hi, rfl, HW⟩ := hrel
    by_cases hlt : i < n
    · have hia : i < la.length := by rw [HN.out]; exact hlt
      have hib : i < lb.length := by rw [HM.out]; exact hlt
      obtain ⟨⟨ka, xa, ya⟩, ea⟩ : ∃ a, la[i]? = some a := ⟨la[i], List.getElem?_eq_getElem hia⟩
      obtain ⟨⟨kb, xb, yb⟩, eb⟩ : ∃ b, lb[i]? = some b := ⟨lb[i], List.getElem?_eq_getElem hib⟩
      obtain ⟨e1, e2⟩ := HE.out i _ _ ea eb
      dsimp only at e1 e2
      subst e1; subst e2
      obtain ⟨sa, ga, oa, rfl, c1, c2⟩ := HA.out i _ ea
      obtain ⟨sb, gb, ob, rfl, c3, c4⟩ := HB.out i _ eb
      dsimp only at sa sb c1 c2 c3 c4
      have d1 := (HW.out.cell (World.block_lt_of_cell? w _ c1)).trans c1
      have d2 := (HW.out.cell (World.block_lt_of_cell? w _ c2)).trans c2
      have d3 := (HW.out.cell (World.block_lt_of_cell? w _ c3)).trans c3
      have d4 := (HW.out.cell (World.block_lt_of_cell? w _ c4)).trans c4
      have t1 : ∀ k, Sem.run Tryd.prog (convert 31 9 xa) (wr.drewN k) = .ok (.string (strOfNums ya)) (wr.drewN k) := fun k => ((sa.below (HW.out)).below (drewN_belowE wr k)).str Tryd.underlying31 Tryd.underlying5 Tryd.underlying9
      have t2 : ∀ k, Sem.run Tryd.prog (convert 31 9 xb) (wr.drewN k) = .ok (.string (strOfNums ya)) (wr.drewN k) := fun k => ((sb.below (HW.out)).below (drewN_belowE wr k)).str Tryd.underlying31 Tryd.underlying5 Tryd.underlying9
      have hk : (ka != ka) = false := by simp
      have hili : (i : Int) < (n : Int) := by omega
      have HX : Hid (∀ k, Below w.heap.size w (wr.drewN k)) := fun k => HW.out.trans ((drewN_belowE wr k).mono HW.out.size)
      clear ea eb c1 c2 c3 c4 sa sb hia hib
      go_wp2
      go_quiet (fail)
      go_wp2
      go_roundw
      case rel => exact ⟨i + 1, by omega, by go_num, HX.out _⟩
      case measure => simp [intOf]; omega
    · have hili : ¬ (i : Int) < (n : Int) := by omega
      go_wp2
      go_ret
      exact ⟨rfl, HW.out⟩
theorem sameBk_yes (va vb : Value) (la lb : List Msg) (w : World) (ha : Ms w va la) (hb : Ms w vb lb) (hl : la.length = lb.length) (he : ∀ (i : Nat) (a b : Msg), la[i]? = some a → lb[i]? = some b → a.1 = b.1 ∧ a.2.2 = b.2.2) (hn : la.length ≤ 281474976710656) :
    Calls Tryd.prog 18 #[va, vb] w fun e w' => e = .returned (.bool true) ∧ Below w.heap.size w w' := by
  obtain ⟨aoa, ca, rfl, hca, hA⟩ := ha
  obtain ⟨aob, cb, rfl, hcb, hB⟩ := hb
  have HA : Hid _ := hA
  have HB : Hid _ := hB
  have HE : Hid _ := he
  obtain ⟨n, HN⟩ : ∃ n, Hid (la.length = n) := ⟨_, rfl⟩
  have HM : Hid (lb.length = n) := by unfold Hid; rw [← hl]; exact HN.out
  rw [HN.out] at hca hn ⊢
  rw [HM.out] at hcb ⊢
  clear hA hB he hl
  go_enter Tryd.func18, Tryd.ntmps18
  go_wp2
  go_loopw [5] (fun x wr => ∃ i : Nat, i ≤ n ∧ x = .int .i64 (i : Int) ∧ Hid (Below w.heap.size w wr)) (fun x _ => n - (intOf x).toNat)
  case atStart => exact ⟨0, Nat.zero_le _, rfl, Below.refl _ _⟩
  case round =>
    obtain ⟨i, hi, rfl, HW⟩ := hrel
    by_cases hlt : i < n
    · have hia : i < la.length := by rw [HN.out]; exact hlt
      have hib : i < lb.length := by rw [HM.out]; exact hlt
      obtain ⟨⟨ka, xa, ya⟩, ea⟩ : ∃ a, la[i]? = some a := ⟨la[i], List.getElem?_eq_getElem hia⟩
      obtain ⟨⟨kb, xb, yb⟩, eb⟩ : ∃ b, lb[i]? = some b := ⟨lb[i], List.getElem?_eq_getElem hib⟩
      obtain ⟨e1, e2⟩ := HE.out i _ _ ea eb
      dsimp only at e1 e2
      subst e1; subst e2
      obtain ⟨sa, ga, oa, rfl, c1, c2⟩ := HA.out i _ ea
      obtain ⟨sb, gb, ob, rfl, c3, c4⟩ := HB.out i _ eb
      dsimp only at sa sb c1 c2 c3 c4
      have d1 := (HW.out.cell (World.block_lt_of_cell? w _ c1)).trans c1
      have d2 := (HW.out.cell (World.block_lt_of_cell? w _ c2)).trans c2
      have d3 := (HW.out.cell (World.block_lt_of_cell? w _ c3)).trans c3
      have d4 := (HW.out.cell (World.block_lt_of_cell? w _ c4)).trans c4
      have t1 : ∀ k, Sem.run Tryd.prog (convert 31 9 xa) (wr.drewN k) = .ok (.string (strOfNums ya)) (wr.drewN k) := fun k => ((sa.below (HW.out)).below (drewN_belowE wr k)).str Tryd.underlying31 Tryd.underlying5 Tryd.underlying9
      have t2 : ∀ k, Sem.run Tryd.prog (convert 31 9 xb) (wr.drewN k) = .ok (.string (strOfNums ya)) (wr.drewN k) := fun k => ((sb.below (HW.out)).below (drewN_belowE wr k)).str Tryd.underlying31 Tryd.underlying5 Tryd.underlying9
      have hk : (ka != ka) = false := by simp
      have hili : (i : Int) < (n : Int) := by omega
      have HX : Hid (∀ k, Below w.heap.size w (wr.drewN k)) := fun k => HW.out.trans ((drewN_belowE wr k).mono HW.out.size)
      clear ea eb c1 c2 c3 c4 sa sb hia hib
      go_wp2
      go_quiet (fail)
      go_wp2
      go_roundw
      case rel => exact ⟨i + 1, by omega, by go_num, HX.out _⟩
      case measure => simp [intOf]; omega
    · have hili : ¬ (i : Int) < (n : Int) := by omega
      go_wp2
      go_ret
      exact ⟨rfl, HW.out⟩
end Go.Proofs.YtdalkjenjnalbaaDoor

namespace Go.Proofs.YtdalkjenjnalbaaDoor
open Go.RowKit
set_option linter.unusedVariables false
set_option maxRecDepth 100000

theorem bks_ms {w : World} {B : Nat} {v : Value} {L : List Blk} (h : BkS w B v L) : Ms w v L :=
  ms_of_row rfl (h.at_ (rowBk v L) (List.Mem.head _)) (fun i m hm => Own.bs (B := B) (h.at_ (byR m) (List.mem_cons_of_mem _ (List.mem_map.2 ⟨m, List.mem_of_getElem? hm, rfl⟩))))
theorem bkr_ms {w : World} {B : Nat} {v : Value} {L : List Blk} (h : BkR w B v L) : Ms w v L :=
  ms_of_row rfl (h.at_ (rowBR v L) (List.Mem.head _)) (fun i m hm => Own.bs (B := B) (h.at_ (byR m) (List.mem_cons_of_mem _ (List.mem_map.2 ⟨m, List.mem_of_getElem? hm, rfl⟩))))
theorem layErr_pre {l : List Msg} {r : List Ext} (h : preErr l r ≠ 0) : layErr l r = preErr l r ∧ layL l r = [] := by
  have e : layErr l r = preErr l r := by
    unfold preErr at h
    unfold layErr preErr
    split
    · rfl
    · rename_i h1
      rw [if_neg h1] at h
      split
      · rfl
      · rename_i h2
        rw [if_neg h2] at h
        split
        · rfl
        · rename_i h3
          rw [if_neg h3] at h
          split
          · rfl
          · rename_i h4
            rw [if_neg h4] at h
            exact absurd rfl h
  refine ⟨e, ?_⟩
  unfold layL
  rw [e, if_neg h]
theorem layErr_good {l : List Msg} {r : List Ext} (h : preErr l r = 0) : layErr l r = (if roomOf r < (strm l).length then 7 else 0) ∧ layL l r = (if roomOf r < (strm l).length then [] else blksM r (strm l)) := by
  have hs := strm_len l
  have e : layErr l r = (if roomOf r < (strm l).length then 7 else 0) := by
    unfold preErr at h
    unfold layErr
    split at h
    · rename_i h1; exact absurd h h1
    · rename_i h1
      rw [if_neg h1]
      split at h
      · omega
      · rename_i h2
        rw [if_neg h2]
        split at h
        · omega
        · rename_i h3
          rw [if_neg h3]
          split at h
          · omega
          · rename_i h4
            rw [if_neg h4]
            by_cases hh : roomOf r < (strm l).length
            · rw [if_pos hh, if_pos (by omega)]
            · rw [if_neg hh, if_neg (by omega)]
  refine ⟨e, ?_⟩
  unfold layL
  rw [e]
  by_cases hh : roomOf r < (strm l).length
  · rw [if_pos hh, if_pos hh, if_neg (by decide)]
  · rw [if_neg hh, if_neg hh, if_pos rfl]
theorem refLay_any (w : World) (vl vr : Value) (l : List Msg) (r : List Ext) (hM : Ms w vl l) (hk : MOk l) (hn : l.length ≤ 140737488351232) (hR : Xs w vr r) (hE : EWs r) (hr : r.length ≤ 8796093022208) (hT : Tab w) :
    Calls Tryd.prog 16 #[vl, vr] w fun e w' => ∃ v L, e = .returned (.tuple #[v, .int .i64 (layErr l r)]) ∧ L.map plB = layL l r ∧ BkR w' w.heap.size v L ∧ Below w.heap.size w w' := by
  by_cases h : preErr l r = 0
  · obtain ⟨e1, e2⟩ := layErr_good h
    rw [e1, e2]
    exact refLay_good w vl vr l r hM hk hn hR hE hr h hT
  · obtain ⟨e1, e2⟩ := layErr_pre h
    rw [e1, e2]
    exact (refLay_pre w vl vr l r hM hn hR hE hr h).mono fun e w' ⟨he, hb⟩ => ⟨_, [], he, rfl, BkR.nil _ _, hb⟩
/-- Blocks that tell the same. -/
theorem same_of_plB {L M : List Blk} (h : L.map plB = M.map plB) : L.length = M.length ∧ ∀ (i : Nat) (a b : Msg), L[i]? = some a → M[i]? = some b → a.1 = b.1 ∧ a.2.2 = b.2.2 := by
  have hl : L.length = M.length := by have := congrArg List.length h; simpa using this
  refine ⟨hl, fun i a b ha hb => ?_⟩
  have h1 : (L.map plB)[i]? = some (plB a) := by rw [List.getElem?_map, ha]; rfl
  have h2 : (M.map plB)[i]? = some (plB b) := by rw [List.getElem?_map, hb]; rfl
  rw [h, h2] at h1
  injection h1 with h3
  injection h3 with h4 h5
  exact ⟨h4.symm, h5.symm⟩
end Go.Proofs.YtdalkjenjnalbaaDoor
