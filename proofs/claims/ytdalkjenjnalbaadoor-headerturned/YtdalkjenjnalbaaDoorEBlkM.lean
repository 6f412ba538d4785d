/-
  The bytes of one block. Conditions: the part fits, numbers fit four bytes, the table of the sum stands.
  The blocks of a stream, in plain words; a list of blocks in memory. No conditions.
-/
import Derived.Test.YtdalkjenjnalbaaDoorEStream
import Derived.Deep.DeepCutAuto
import Derived.OwnWalk
import Derived.Test.YtdalkjenjnalbaaDoorXTotal
namespace Go.Proofs.YtdalkjenjnalbaaDoor
open Go.RowKit
set_option linter.unusedVariables false
set_option maxRecDepth 100000

/-- A block, not sealed, and sealed. -/
def blkP (part : List Int) (nx : Ext) (size : Nat) : List Int := (((d4 part.length ++ d4 nx.1) ++ d4 nx.2) ++ part) ++ List.replicate (size - 16 - part.length) 0
def blkL (part : List Int) (nx : Ext) (size : Nat) : List Int := sealN (blkP part nx size)
theorem blkP_length {part : List Int} {nx : Ext} {size : Nat} (h : 16 + part.length ≤ size) : (blkP part nx size).length = size - 4 := by
  simp only [blkP, List.length_append, d4_length, List.length_replicate]; omega
theorem blkL_length {part : List Int} {nx : Ext} {size : Nat} (h : 16 + part.length ≤ size) : (blkL part nx size).length = size := by
  rw [blkL, sealN_length, blkP_length h]; omega
theorem byt_rep (n : Nat) : Byt (List.replicate n 0) := fun i => by
  simp only [List.getD_eq_getElem?_getD, List.getElem?_replicate]
  split <;> simp
theorem blkP_byt {part : List Int} {nx : Ext} {size : Nat} (h : Byt part) : Byt (blkP part nx size) :=
  byt_join (byt_join (byt_join (byt_join (byt_dig2 true _ 4) (byt_dig2 true _ 4)) (byt_dig2 true _ 4)) h) (byt_rep _)
set_option maxHeartbeats 4000000 in
theorem blockBytes_any (w : World) (vp : Value) (part : List Int) (nx : Ext) (size : Nat) (hp : Bs w vp part) (hy : Byt part) (h1 : 16 + part.length ≤ size) (h2 : size ≤ 4194304) (n0 : 0 ≤ nx.1 ∧ nx.1 < 4294967296) (n1 : 0 ≤ nx.2 ∧ nx.2 < 4294967296) (hT : Tab w) :
    Calls Tryd.prog 52 #[vp, .agg #[.int .i64 nx.1, .int .i64 nx.2], .int .i64 (size : Int)] w fun e w' => ∃ g, e = .returned (.slice (some ⟨g, 0, none⟩) size size) ∧ w.heap.size ≤ g ∧ Row w' g (blkL part nx size) ∧ Below w.heap.size w w' := by
  obtain ⟨i0, hi, hz0, hz1, hz2⟩ := info_parts Tryd.info5
  have HP : Hid (Bs w vp part) := hp
  obtain ⟨aop, capp, hvp, _⟩ := hp
  subst hvp
  have HT : Hid (Tab w) := hT
  have HW1 : Hid (Below w.heap.size w (w.alloc (.cells #[.int .i64 nx.1, .int .i64 nx.2] 49))) := (Below.refl _ _).alloc (Nat.le_refl _) _
  have HBX : Hid ((w.alloc (.cells #[.int .i64 nx.1, .int .i64 nx.2] 49)).heap[w.heap.size]? = some (.cells #[.int .i64 nx.1, .int .i64 nx.2] 49 (0, 0))) := heap_alloc_new w _
  obtain ⟨pl, HPl⟩ : ∃ pl, Hid (part.length = pl) := ⟨_, rfl⟩
  rw [HPl.out] at h1 HP ⊢
  obtain ⟨za, HZa⟩ : ∃ za, Hid (size - 16 - pl = za) := ⟨_, rfl⟩
  have HBK : Hid ((((d4 (pl : Int) ++ d4 nx.1) ++ d4 nx.2) ++ part) ++ List.replicate za 0 = blkP part nx size) := by unfold Hid blkP; rw [HPl.out, HZa.out]
  have HBL : Hid ((blkP part nx size).length = size - 4) := blkP_length (by rw [HPl.out]; exact h1)
  have HBY : Hid (Byt (blkP part nx size)) := blkP_byt hy
  have HSE : Hid (sealN (blkP part nx size) = blkL part nx size) := rfl
  have HL1 : Hid ((d4 (pl : Int)).length = 4) := d4_length _
  have HL2 : Hid ((d4 (pl : Int) ++ d4 nx.1).length = 8) := by unfold Hid; rw [List.length_append, d4_length, d4_length]
  have HL3 : Hid (((d4 (pl : Int) ++ d4 nx.1) ++ d4 nx.2).length = 12) := by unfold Hid; rw [List.length_append, HL2.out, d4_length]
  have HL4 : Hid ((((d4 (pl : Int) ++ d4 nx.1) ++ d4 nx.2) ++ part).length = 12 + pl) := by unfold Hid; rw [List.length_append, HL3.out, HPl.out]
  obtain ⟨y0, y1⟩ : ∃ a b, nx = (a, b) := ⟨nx.1, nx.2, rfl⟩
  obtain ⟨n00, n01⟩ := n0
  obtain ⟨n10, n11⟩ := n1
  generalize nx.1 = a1 at *
  generalize nx.2 = a2 at *
  have e0 : w.heap.size < (w.alloc (.cells #[.int .i64 a1, .int .i64 a2] 49)).heap.size := by simp
  generalize hg1 : w.alloc (.cells #[.int .i64 a1, .int .i64 a2] 49) = W1 at HW1 HBX e0
  have HT1 : Hid (Tab W1) := HT.out.below HW1.out
  have HP1 : Hid (Bs W1 (.slice aop pl capp) part) := HP.out.below HW1.out
  have HBXc : Hid (∀ W, Below W1.heap.size W1 W → W.cell? ⟨w.heap.size, 0, none⟩ = some (.int .i64 a1) ∧ W.cell? ⟨w.heap.size, 1, none⟩ = some (.int .i64 a2)) := fun W hW => ⟨(hW.cell (World.block_lt_of_cell? W1 _ (cellO HBX.out 0 rfl))).trans (cellO HBX.out 0 rfl), (hW.cell (World.block_lt_of_cell? W1 _ (cellO HBX.out 1 rfl))).trans (cellO HBX.out 1 rfl)⟩
  obtain ⟨wm, hrun, hom, hgm⟩ := run_make_own (P := Tryd.prog) W1 W1.heap.size 31 5 i0 _ 1 Tryd.underlying31 hi hz0 hz1 .i64 .i64 size (by rw [hz2]; omega) (by unfold maxLen; omega) (Nat.le_refl _)
  have HBM : Hid (Below W1.heap.size W1 wm) := ⟨hgm.os, hgm.tape, hgm.output, hgm.size, fun x hx => hgm.block x hx (by simp)⟩
  have HOM : Hid (Own wm W1.heap.size (.slice (some ⟨W1.heap.size, 0, none⟩) 0 size) []) := hom
  obtain ⟨b0, HB0⟩ : ∃ b0, Hid (w.heap.size = b0) := ⟨_, rfl⟩
  clear hom hgm hy hT
  go_enter Tryd.func52, Tryd.ntmps52
  go_upto_region 1 with fail
  clear hg1
  rw [HB0.out] at HW1 HBX HBXc e0 ⊢
  have HFIN : Hid (∀ W, Below W1.heap.size W1 W → Below b0 w W) := fun W h => HW1.out.trans (h.mono (Nat.le_of_lt e0))
  have HWN : Hid (∀ (n : Int) (v : Value) (l : List Int) (W : World), Below W1.heap.size W1 W → Own W W1.heap.size v l → 0 ≤ n → n < 4294967296 → l.length ≤ 1000 → Calls Tryd.prog 53 #[v, .int .i64 n] W fun e w' => ∃ v', e = .returned v' ∧ Own w' W1.heap.size v' (l ++ d4 n) ∧ Below W1.heap.size W1 w') := by
    intro n v l W hW hO h0 h1 hl
    refine (withN_any n W1.heap.size v l W hO hW.size h0 h1 (by omega)).mono ?_
    rintro e w' ⟨v', rfl, h3, h4, _⟩
    exact ⟨v', rfl, h3, hW.trans (h4.below hW.size (fun x hx => (own_lt hO x hx).1))⟩
  have hza : ((size : Int) - 4) - ((12 + pl : Nat) : Int) = (za : Int) := by have := HZa.out; omega
  have hpl : (pl : Int) ≤ 4194304 := by omega
  have HLP : Hid (part.length = pl) := HPl.out
  have HSL : Hid (∀ (W : World) (ao : Option Addr) (n cap : Nat), Below W1.heap.size W1 W → Own W W1.heap.size (.slice ao n cap) (blkP part nx size) → Calls Tryd.prog 71 #[.slice ao n cap] W fun e w' => e = .returned (.slice (some ⟨W.heap.size, 0, none⟩) size size) ∧ Row w' W.heap.size (blkL part nx size) ∧ Below W1.heap.size W1 w') := by
    intro W ao n cap hW hO
    refine (seal_any _ _ W hO.bs (by rw [HBL.out]; omega) HBY.out (HT1.out.below hW)).mono ?_
    rintro e w' ⟨rfl, hr, hb⟩
    rw [HBL.out, show size - 4 + 4 = size by omega]
    exact ⟨rfl, hr, hW.trans (hb.mono hW.size)⟩
  have hmk0 : ∀ W : World, ∃ w', (Instr.makeSlice 31 (.int .i64 (za : Int)) (.int .i64 (za : Int))).run Tryd.prog W = .ok (.slice (some ⟨W.heap.size, 0, none⟩) za za) w' ∧ Row w' W.heap.size (List.replicate za 0) ∧ W.grownBy w' none := fun W => by
    obtain ⟨w', h, r1, r2⟩ := run_make_full (P := Tryd.prog) W W.heap.size 31 5 i0 (.int .u8 0) 1 Tryd.underlying31 hi hz0 hz1 .i64 .i64 za (by rw [hz2]; omega) (by unfold maxLen; omega) (Nat.le_refl _)
    exact ⟨w', h, row_of_made r1, r2⟩
  obtain ⟨mk, hmk⟩ := Classical.axiomOfChoice hmk0
  have hrun5 : ∀ W : World, (Instr.makeSlice 31 (.int .i64 (za : Int)) (.int .i64 (za : Int))).run Tryd.prog W = .ok (.slice (some ⟨W.heap.size, 0, none⟩) za za) (mk W) := fun W => (hmk W).1
  have HMK : Hid (∀ W, Row (mk W) W.heap.size (List.replicate za 0) ∧ W.grownBy (mk W) none) := fun W => (hmk W).2
  clear hmk hmk0
  have HG6 : Hid (∀ W : World, W1.heap.size ≤ W.heap.size → b0 ≤ W.heap.size) := fun W h => Nat.le_trans (Nat.le_of_lt e0) h
  have hza2 : ((size : Int) - 4) - (12 + (pl : Int)) = (za : Int) := by have := HZa.out; omega
  go_upto_region 7 with (first
    | (have hg := HB3; clear hg; at_builtin; refine wpList_append_bg w3 rfl (.tmp 23) (.tmp 24) 31 rfl i0 Tryd.underlying31 hi hz0 hz1 hz2 W1.heap.size v3 (.slice aop pl capp) ((d4 (pl : Int) ++ d4 a1) ++ d4 a2) part 12 pl HL3.out HLP.out rfl rfl HO3.out (HP1.out.below HB3.out) (by omega) HB3.out.size ?_; intro ao4 cap4 w4 ho4 hg4 _; have HB4 : Hid (Below W1.heap.size W1 w4) := below_gr8 HB3.out HO3.out hg4; have HO4 : Hid (Own w4 W1.heap.size (.slice ao4 (12 + pl) cap4) (((d4 (pl : Int) ++ d4 a1) ++ d4 a2) ++ part)) := ho4; clear ho4 hg4)
    | (have hg := HB2; clear hg; go_at_call 53; refine Calls.mono (HWN.out a2 v2 _ w2 HB2.out HO2.out n10 n11 (by rw [HL2.out]; omega)) ?_; rintro e w3 ⟨v3, rfl, ho3, hb3⟩; have HO3 : Hid (Own w3 W1.heap.size v3 ((d4 (pl : Int) ++ d4 a1) ++ d4 a2)) := ho3; have HB3 : Hid (Below W1.heap.size W1 w3) := hb3; clear ho3 hb3)
    | (have hg := HB1; clear hg; go_at_call 53; refine Calls.mono (HWN.out a1 v1 _ w1 HB1.out HO1.out n00 n01 (by rw [HL1.out]; omega)) ?_; rintro e w2 ⟨v2, rfl, ho2, hb2⟩; have HO2 : Hid (Own w2 W1.heap.size v2 (d4 (pl : Int) ++ d4 a1)) := ho2; have HB2 : Hid (Below W1.heap.size W1 w2) := hb2; obtain ⟨_, c2⟩ := HBXc.out w2 hb2; clear ho2 hb2)
    | (go_at_call 53; refine Calls.mono (HWN.out (pl : Int) _ [] wm HBM.out HOM.out (by omega) (by omega) (by simp)) ?_; rintro e w1 ⟨v1, rfl, ho1, hb1⟩; have HO1 : Hid (Own w1 W1.heap.size v1 (d4 (pl : Int))) := ho1; have HB1 : Hid (Below W1.heap.size W1 w1) := hb1; obtain ⟨c1, _⟩ := HBXc.out w1 hb1; clear ho1 hb1))
  have HB5 : Hid (Below W1.heap.size W1 (mk w4)) := HB4.out.trans ((below_of_grown (HMK.out w4).2).mono HB4.out.size)
  have HO5 : Hid (Own (mk w4) W1.heap.size (.slice ao4 (12 + pl) cap4) (((d4 (pl : Int) ++ d4 a1) ++ d4 a2) ++ part)) := HO4.out.below (below_of_grown (HMK.out w4).2)
  have HR5 : Hid (Bs (mk w4) (.slice (some ⟨w4.heap.size, 0, none⟩) za za) (List.replicate za 0)) := by unfold Hid; have h := (HMK.out w4).1.whole; simpa using h
  go_wp2_with (first
    | (go_at_call 71; refine Calls.mono (HSL.out w6 ao6 _ cap6 HB6.out HO6.out) ?_; rintro e w7 ⟨rfl, hr7, hb7⟩; have HR7 : Hid (Row w7 w6.heap.size (blkL part nx size)) := hr7; have HB7 : Hid (Below b0 w w7) := HFIN.out _ hb7; have HG7 : Hid (b0 ≤ w6.heap.size) := HG6.out w6 HB6.out.size; clear hr7 hb7)
    | (at_builtin; refine wpList_append_bg (mk w4) rfl (.tmp 32) (.tmp 33) 31 rfl i0 Tryd.underlying31 hi hz0 hz1 hz2 W1.heap.size (.slice ao4 (12 + pl) cap4) (.slice (some ⟨w4.heap.size, 0, none⟩) za za) (((d4 (pl : Int) ++ d4 a1) ++ d4 a2) ++ part) (List.replicate za 0) (12 + pl) za HL4.out (by simp) rfl rfl HO5.out HR5.out (by omega) HB5.out.size ?_; intro ao6 cap6 w6 ho6 hg6 _; have HB6 : Hid (Below W1.heap.size W1 w6) := below_gr8 HB5.out HO5.out hg6; rw [HBK.out] at ho6; have HO6 : Hid (Own w6 W1.heap.size (.slice ao6 (12 + pl + za) cap6) (blkP part nx size)) := ho6; clear ho6 hg6))
  go_ret
  rw [HB0.out]
  exact ⟨_, rfl, HG7.out, HR7.out, HB7.out⟩
end Go.Proofs.YtdalkjenjnalbaaDoor

namespace Go.Proofs.YtdalkjenjnalbaaDoor
open Go.RowKit
set_option linter.unusedVariables false
set_option maxRecDepth 100000

/-- A block: where it lies, the slice of its bytes, its bytes. -/
abbrev Blk := Int × Value × List Int
def encBk (b : Blk) : List Value := [.int .i64 b.1, b.2.1]
theorem encBk_len (b : Blk) : (encBk b).length = 2 := rfl
def rowBk (v : Value) (L : List Blk) : Pc := .row 47 2 v L.length (gc encBk L)
def byR (b : Blk) : Pc := .row 5 1 b.2.1 b.2.2.length (bcells b.2.2)
/-- Blocks of the call's own, and each one's bytes. -/
def BkS (w : World) (B : Nat) (v : Value) (L : List Blk) : Prop := Sep w B (rowBk v L :: L.map byR)
theorem BkS.lower {w : World} {B B' : Nat} {v : Value} {L : List Blk} (h : BkS w B v L) (hB : B' ≤ B) : BkS w B' v L := by
  refine ⟨fun p hp => ?_, h.nd⟩
  have h1 := h.at_ p hp
  cases p with
  | obj g a T => exact ⟨h1.1, Nat.le_trans hB h1.2⟩
  | row T k v n xs =>
    obtain ⟨h2, h3 | ⟨g, cap, cur, rfl, hg, r⟩⟩ := h1
    · exact ⟨h2, .inl h3⟩
    · exact ⟨h2, .inr ⟨g, cap, cur, rfl, Nat.le_trans hB hg, r⟩⟩
def plB (b : Blk) : Int × List Int := (b.1, b.2.2)
/-- How much of a stream an extent has. -/
def rmX (x : Ext) : Nat := (x.2 - 16).toNat
def roomOf (r : List Ext) : Nat := (r.map rmX).sum
def blksM : List Ext → List Int → List (Int × List Int)
  | [], _ => []
  | x :: r, s => if s = [] then [] else (x.1, blkL (s.take (rmX x)) (if s.drop (rmX x) = [] then (0, 0) else r.headD (0, 0)) x.2.toNat) :: blksM r (s.drop (rmX x))
theorem blksM_nil (r : List Ext) : blksM r [] = [] := by cases r <;> rfl
theorem blksM_cons {x : Ext} {r : List Ext} {s : List Int} (h : s ≠ []) : blksM (x :: r) s = (x.1, blkL (s.take (rmX x)) (if s.drop (rmX x) = [] then (0, 0) else r.headD (0, 0)) x.2.toNat) :: blksM r (s.drop (rmX x)) := if_neg h
/-- Extents that are wide enough, as numbers. -/
def Wd (x : Ext) : Prop := 0 ≤ x.1 ∧ 16 < x.2 ∧ x.1 + x.2 ≤ 4194304
theorem wide_of {x : Ext} (h : narrowB x = false) : Wd x := by
  unfold narrowB at h
  simp at h
  obtain ⟨h1, h2⟩ := h
  have h3 := h2
  unfold goodB at h3
  simp at h3
  have h4 := h3.2
  unfold goodFrom at h4
  simp at h4
  refine ⟨?_, by omega, ?_⟩ <;> omega
theorem row_sliceE {w : World} {B k n : Nat} {T : TypeId} {v : Value} {xs : List Value} (h : w.ownsRow B T k v n xs) : ∃ ao cap, v = .slice ao n cap := by
  rcases ownsRow_shape h with ⟨rfl, rfl⟩ | ⟨g, cap, rfl, _⟩
  · exact ⟨none, 0, rfl⟩
  · exact ⟨_, cap, rfl⟩
theorem byt_dropE {l : List Int} (h : Byt l) (k : Nat) : Byt (l.drop k) := fun i => by have := h (k + i); simpa [List.getD] using this
theorem byt_takeE {l : List Int} (h : Byt l) (k : Nat) : Byt (l.take k) := by have := byt_take h 0 k; simpa using this
theorem bs_drop {w : World} {b off n cap q : Nat} {l : List Int} (h : Bs w (.slice (some ⟨b, off, none⟩) n cap) l) (hn : l.length = n) (hq : q ≤ n) (p : Option Addr) (hp : q < n → p = some ⟨b, off + q, none⟩) (hp0 : p ≠ none) : Bs w (.slice p (n - q) (cap - q)) (l.drop q) := by
  obtain ⟨ao, c, hv, hc, _, hcell⟩ := h
  injection hv with e1 e2 e3
  subst e1 e3
  refine ⟨p, cap - q, by rw [List.length_drop, hn], by rw [List.length_drop]; omega, (fun e => absurd e hp0), ?_⟩
  intro ad ha i hi
  rw [List.length_drop] at hi
  rw [hp (by omega)] at ha
  obtain rfl := Option.some.inj ha
  have h1 := hcell _ rfl (q + i) (by omega)
  rw [addG] at h1 ⊢
  rw [show off + q + i = off + (q + i) by omega, h1]
  simp [List.getD]
theorem bs_front {w : World} {ao : Option Addr} {n cap : Nat} {l : List Int} (h : Bs w (.slice ao n cap) l) (k : Nat) (hk : k ≤ l.length) : Bs w (.slice ao k cap) (l.take k) := by
  obtain ⟨ao', c, hv, hc, hn, hcell⟩ := h
  injection hv with e1 e2 e3
  subst e1 e3
  have hl : (l.take k).length = k := by rw [List.length_take]; omega
  refine ⟨ao, cap, by rw [hl], by omega, hn, fun ad ha i hi => ?_⟩
  rw [hl] at hi
  rw [hcell ad ha i (by omega)]
  simp [List.getD, hi]
theorem step_call {ops : Array Oper} {o : Oper} {a : Act} {w : World} {K : Act → World → Prop} {Q : Exit → Act → World → Prop} {E : Prop}
    (hg : o.guard = none) (f : FuncId) (he : ∀ args w, (callFunc f args).run Tryd.prog w = .ok (.enter f args) w) (xs : Array Operand) (ts : Array TypeId) (hop : o.op = Op.call { callee := Callee.value (Operand.func f), args := xs, argTypes := ts })
    (vs : Array Value) (hev : xs.map a.eval = vs) (R : Value → World → Prop) (hC : Calls Tryd.prog f vs w fun e w' => ∃ v, e = .returned v ∧ R v w') (hK : ∀ v w', R v w' → K (a.put o.dst v) w') :
    if Region.wanted o (yielded ops a.tmps) = true then Oper.wp Tryd.prog o a w K Q else E := by
  have hw : Region.wanted o (yielded ops a.tmps) = true := by simp [Region.wanted, hg]
  rw [if_pos hw]
  have hf : a.eval (Operand.func f) = .func (.func f) #[] #[] := rfl
  have hev' : xs.map (fun x => a.eval x) = vs := hev
  unfold Oper.wp
  simp [execOp, hop, resolve, invoke, hev', hf, Oper.upon, Deferred.ofValue, he]
  refine hC.mono ?_
  rintro e w' ⟨v, rfl, h2⟩
  exact hK v w' h2
end Go.Proofs.YtdalkjenjnalbaaDoor
