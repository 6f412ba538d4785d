/-
  One byte of a block is another one: the facts. No conditions.
  The walk of HeaderTurned. Conditions: none but what memory bears; the two listed variables stand.
  Proved: HeaderTurned: whatever messages, extents and picks come in, the law returns true and what came in reads as it did; conditions: none but the form's own reach; the two listed variables are tied to the program's text.
-/
import Derived.Test.YtdalkjenjnalbaaDoorBackWalk8
import Derived.Test.YtdalkjenjnalbaaDoorFrameL8
import Derived.Test.YtdalkjenjnalbaaDoorFrameM2
import Derived.Test.YtdalkjenjnalbaaDoorCards
import Derived.Test.YtdalkjenjnalbaaDoorTie
namespace Go.Proofs.YtdalkjenjnalbaaDoor
open Go.RowKit
set_option linter.unusedVariables false
set_option maxRecDepth 100000

/-- A block with one byte that is another one. -/
def turnB (m : Blk) (k : Nat) (z : Int) : Blk := (m.1, m.2.1, m.2.2.set k z)
theorem BkS.byte {w : World} {B : Nat} {v : Value} {M : List Blk} (hK : BkS w B v M) {i : Nat} {c : Blk} (hM : M[i]? = some c) {k : Nat} (hk : k < c.2.2.length) :
    ∃ gx capb, c.2.1 = .slice (some ⟨gx, 0, none⟩) c.2.2.length capb ∧ B ≤ gx ∧ w.cell? ⟨gx, k, none⟩ = some (.int .u8 (c.2.2.getD k 0)) ∧ w.frozen? ⟨gx, k, none⟩ = false ∧ ∀ z, BkS (w.setCell ⟨gx, k, none⟩ (.int .u8 z)) B v (M.set i (turnB c k z)) := by
  have hi := (List.getElem?_eq_some_iff.1 hM).1
  have hmem : byR c ∈ rowBk v M :: M.map byR := List.mem_cons_of_mem _ (List.mem_map.2 ⟨c, List.mem_of_getElem? hM, rfl⟩)
  have hown : w.ownsRow B 5 1 c.2.1 c.2.2.length (bcells c.2.2) := hK.at_ _ hmem
  rcases ownsRow_shape hown with ⟨_, h0⟩ | ⟨gx, capb, hv9, hB9, hlt9, _, _, hfz, hcell⟩
  · omega
  · refine ⟨gx, capb, hv9, hB9, hcell k _ ?_, hfz k, fun z => ?_⟩
    · simp [bcells, hk, List.getD]
    · have hsplit : M = M.take i ++ c :: M.drop (i + 1) := by
        obtain ⟨h2, h3⟩ := List.getElem?_eq_some_iff.1 hM
        rw [← h3, List.getElem_cons_drop, List.take_append_drop]
      have hset : M.set i (turnB c k z) = M.take i ++ turnB c k z :: M.drop (i + 1) := by
        rw [List.set_eq_take_append_cons_drop, if_pos hi]
      have hrow : rowBk v (M.set i (turnB c k z)) = rowBk v M := by
        unfold rowBk
        rw [List.length_set, hset]
        congr 1
        conv => rhs; rw [hsplit]
        simp [gc, encBk, turnB]
      have hsep : Sep w B ((rowBk v M :: (M.take i).map byR) ++ byR c :: (M.drop (i + 1)).map byR) := by
        have h9 := hK
        unfold BkS at h9
        rw [show M.map byR = (M.take i).map byR ++ byR c :: (M.drop (i + 1)).map byR by have h8 := congrArg (List.map byR) hsplit; rw [List.map_append, List.map_cons] at h8; exact h8] at h9
        simpa using h9
      have hbc : byR c = .row 5 1 (.slice (some ⟨gx, 0, none⟩) c.2.2.length capb) c.2.2.length (bcells c.2.2) := by
        unfold byR
        rw [hv9]
      rw [hbc] at hsep
      have h8 := hsep.storeRow (rowBk v M :: (M.take i).map byR) k (.int .u8 z)
      unfold BkS
      rw [hrow, hset, List.map_append, List.map_cons]
      have hbz : byR (turnB c k z) = .row 5 1 (.slice (some ⟨gx, 0, none⟩) c.2.2.length capb) c.2.2.length ((bcells c.2.2).set k (.int .u8 z)) := by
        unfold byR turnB
        simp only
        rw [hv9, List.length_set]
        simp [bcells, List.map_set]
      rw [hbz]
      simpa using h8
theorem blks_seal : ∀ (r : List Ext) (s : List Int), ∀ b ∈ blksM r s, ∃ c, b.2 = sealN c
  | [], s, b, hb => by simp [blksM] at hb
  | x :: r, s, b, hb => by
    by_cases h : s = []
    · rw [h, blksM_nil] at hb
      cases hb
    · rw [blksM_cons h] at hb
      rcases List.mem_cons.1 hb with rfl | hb
      · exact ⟨_, rfl⟩
      · exact blks_seal r _ b hb
theorem turn_ext {r : List Ext} {s : List Int} {Lx : List Blk} (hw : ∀ x ∈ r, Wd x) (hp : Lx.map plB = blksM r s) {kk k : Nat} {c : Blk} (hc : Lx[kk]? = some c) (z : Int) {j : Nat} {m : Blk} (hm : (Lx.set kk (turnB c k z))[j]? = some m) : ∃ x m0, r[j]? = some x ∧ Lx[j]? = some m0 ∧ m.1 = x.1 ∧ (m.2.2.length : Int) = x.2 ∧ Wd x ∧ (j ≠ kk → m = m0) ∧ (j = kk → m = turnB c k z) := by
  by_cases e : j = kk
  · subst e
    rw [List.getElem?_set_self (List.getElem?_eq_some_iff.1 hc).1] at hm
    obtain rfl := Option.some.inj hm
    obtain ⟨x, x1, x2, x3, x4⟩ := blk_ext hw hp hc
    exact ⟨x, c, x1, hc, x2, by unfold turnB; rw [List.length_set]; exact x3, x4, (fun h => absurd rfl h), fun _ => rfl⟩
  · rw [List.getElem?_set_ne (fun h => e h.symm)] at hm
    obtain ⟨x, x1, x2, x3, x4⟩ := blk_ext hw hp hm
    exact ⟨x, m, x1, hm, x2, x3, x4, (fun _ => rfl), fun h => absurd h e⟩
theorem turn_facts {l : List Msg} {r : List Ext} {Lx : List Blk} {F : List Int} (h0 : layErr l r = 0) (hw : ∀ x ∈ r, Wd x) (hl : (strm l).length ≤ roomOf r) (hp : Lx.map plB = blksM r (strm l)) (hby : ∀ m ∈ Lx, Byt m.2.2) {kk k : Nat} {c : Blk} (hc : Lx[kk]? = some c) (hk : k < c.2.2.length) (t : Nat) (ht : t < 256) (hne : (t : Int) ≠ c.2.2.getD k 0)
    (hF : Lies (Lx.set kk (turnB c k t)) Lx.length F) (hE : ∀ m ∈ Lx.set kk (turnB c k t), m.1 + m.2.2.length ≤ (F.length : Int)) : ldM F (r.headD (0, 0)) = (5, [], []) := by
  have hne' := strm_ne l
  have hlen : Lx.length = (blksM r (strm l)).length := by rw [← hp, List.length_map]
  have hkk := (List.getElem?_eq_some_iff.1 hc).1
  obtain ⟨x, r', rfl⟩ : ∃ x r', r = x :: r' := by
    cases r with
    | nil => rw [hlen] at hkk; simp [blksM] at hkk
    | cons x r' => exact ⟨x, r', rfl⟩
  have hx := hw x List.mem_cons_self
  obtain ⟨Lf, hLf⟩ : ∃ Lf, Lf = min F.length 4194304 := ⟨_, rfl⟩
  have hch := chain_turn F Lf (x :: r') (strm l) [] 0 [] (Lf + 1) kk hne' hl hw (by simpa using lay_apart h0) (fun y hy => by cases hy) rfl (by rw [← hlen]; exact hkk) (fun j z b hz hb => by
    have hj : j < Lx.length := by rw [hlen]; exact (List.getElem?_eq_some_iff.1 hb).1
    obtain ⟨m, hm⟩ : ∃ m, (Lx.set kk (turnB c k t))[j]? = some m := ⟨(Lx.set kk (turnB c k t))[j]'(by rw [List.length_set]; exact hj), List.getElem?_eq_getElem _⟩
    obtain ⟨z', m0, z1, g0, z2, z3, z4, g1, g2⟩ := turn_ext hw hp hc t hm
    rw [hz] at z1
    obtain rfl := Option.some.inj z1
    have hmb : plB m0 = b := by
      rw [← hp, List.getElem?_map, g0] at hb
      exact Option.some.inj hb
    have e := hF j m hj hm
    have ee := hE m (List.mem_of_getElem? hm)
    have hz' : (m.1, (m.2.2.length : Int)) = z := by rw [z2, z3]
    rw [hz'] at e
    refine ⟨fun h => ?_, fun h => ?_, ?_⟩
    · rw [e, g1 h, ← hmb]; rfl
    · rw [e, g2 h]
      subst h
      rw [hc] at g0
      obtain rfl := Option.some.inj g0
      obtain ⟨q, hq⟩ := blks_seal _ _ b (List.mem_of_getElem? hb)
      have hcq : c.2.2 = sealN q := by rw [← hq, ← hmb]; rfl
      have hbk := hby c (List.mem_of_getElem? hc) k
      show unErr (c.2.2.set k (t : Int)) ≠ 0
      rw [hcq]
      rw [hcq] at hk hne hbk
      rw [unErr_any q k ((sealN q).getD k 0).toNat t hk (by omega) (by omega) ht (by omega)]
      decide
    · have k3 := z4.2.2
      rw [z2, z3] at ee
      omega) (by omega)
  rw [List.headD_cons] at hch ⊢
  rw [ldM_of Lf hLf (narrow_of hx) _ _ _ hch]
  rfl
theorem turn_apt {r : List Ext} {s : List Int} {Lx : List Blk} (hw : ∀ x ∈ r, Wd x) (hp : Lx.map plB = blksM r s) (hme : meetsB r = false) {kk k : Nat} {c : Blk} (hc : Lx[kk]? = some c) (z : Int) : Apt (Lx.set kk (turnB c k z)) := by
  intro i j a b hij ha hb
  obtain ⟨x, a0, x1, a1, x2, x3, _⟩ := turn_ext hw hp hc z ha
  obtain ⟨y, b0, y1, b1, y2, y3, _⟩ := turn_ext hw hp hc z hb
  have h9 := blk_apt hw hp hme i j a0 b0 hij a1 b1
  obtain ⟨x', x1', x2', x3', _⟩ := blk_ext hw hp a1
  obtain ⟨y', y1', y2', y3', _⟩ := blk_ext hw hp b1
  rw [x1] at x1'
  rw [y1] at y1'
  obtain rfl := Option.some.inj x1'
  obtain rfl := Option.some.inj y1'
  omega
end Go.Proofs.YtdalkjenjnalbaaDoor

namespace Go.Proofs.YtdalkjenjnalbaaDoor
open Go.RowKit
set_option linter.unusedVariables false
set_option maxRecDepth 100000

/-- A place within n, whatever number is asked. -/
theorem place_any8 (a : Int) (n : Nat) (h : 1 ≤ n) : ∃ k : Nat, k < n ∧ (a.tmod (n : Int) + (n : Int)).tmod (n : Int) = (k : Int) ∧ -(n : Int) ≤ a.tmod (n : Int) ∧ a.tmod (n : Int) < (n : Int) := by
  have hp : (0 : Int) < (n : Int) := by omega
  have h1 : a.tmod (n : Int) < (n : Int) := Int.tmod_lt_of_pos a hp
  have h2 : -(n : Int) ≤ a.tmod (n : Int) := by
    have e := Int.tmod_eq_emod (a := a) (b := (n : Int))
    have := Int.emod_nonneg a (show (n : Int) ≠ 0 by omega)
    rw [e]
    split
    · omega
    · simp only [Int.natAbs_natCast]; omega
  have h3 := Int.emod_nonneg (a.tmod (n : Int) + (n : Int)) (show (n : Int) ≠ 0 by omega)
  have h4 := Int.emod_lt_of_pos (a.tmod (n : Int) + (n : Int)) hp
  refine ⟨((a.tmod (n : Int) + (n : Int)) % (n : Int)).toNat, by omega, ?_, h2, h1⟩
  rw [Int.tmod_eq_emod_of_nonneg (by omega)]
  omega
theorem byt_set8 {l : List Int} (h : Byt l) (j : Nat) {x : Int} (hx : 0 ≤ x ∧ x ≤ 255) : Byt (l.set j x) := fun i => by
  by_cases e : j = i
  · subst e
    by_cases hj : j < l.length
    · have : (l.set j x).getD j 0 = x := by simp [List.getD, hj]
      rw [this]; exact hx
    · have : (l.set j x).getD j 0 = 0 := by rw [List.getD, List.getElem?_eq_none (by simp; omega)]; rfl
      rw [this]; omega
  · have : (l.set j x).getD i 0 = l.getD i 0 := by simp [List.getD, List.getElem?_set_ne e]
    rw [this]; exact h i

theorem bkS_cells {w : World} {B n cap : Nat} {ao : Option Addr} {L : List Blk} (h : BkS w B (.slice ao n cap) L) : ∀ (i : Nat) (b : Blk), L[i]? = some b → ∃ g gb capb, ao = some ⟨g, 0, none⟩ ∧ w.cell? ⟨g, i * 2, none⟩ = some (.int .i64 b.1) ∧ w.cell? ⟨g, i * 2 + 1, none⟩ = some (.slice gb b.2.2.length capb) ∧ b.2.1 = .slice gb b.2.2.length capb := by
  obtain ⟨ao', cap', hv, hc⟩ := h.cells
  injection hv with h1 _ _
  subst h1
  exact hc
set_option maxHeartbeats 8000000 in
theorem headerTurned_walk (v0 : Value) (l : List Msg) (v1 : Value) (r : List Ext) (c0 c1 c2 : Int) (w : World) (hT : Tab w ∧ NoX w) (b0 : Ms w v0 l) (y0 : MOk l) (z0 : l.length ≤ 4398046510976) (b1 : Xs w v1 r) (y1 : EWs r) (z1 : r.length ≤ 8796093021952) (q0 : -9223372036854775808 ≤ c0 ∧ c0 ≤ 9223372036854775807) (q1 : -9223372036854775808 ≤ c1 ∧ c1 ≤ 9223372036854775807) (q2 : -9223372036854775808 ≤ c2 ∧ c2 ≤ 9223372036854775807) :
    Calls Tryd.prog 7 #[v0, v1, .agg #[.int .i64 c0, .int .i64 c1, .int .i64 c2]] w fun e w' => e = .returned (.bool true) ∧ Below w.heap.size w w' := by
  have hW0 : Below w.heap.size w (w.alloc (.cells #[.int .i64 c0, .int .i64 c1, .int .i64 c2] 60)) := (Below.refl _ w).alloc (Nat.le_refl _) _
  have hbox : (w.alloc (.cells #[.int .i64 c0, .int .i64 c1, .int .i64 c2] 60)).heap[w.heap.size]? = some (.cells #[.int .i64 c0, .int .i64 c1, .int .i64 c2] 60 (0, 0)) := heap_alloc_new w _
  replace b0 := b0.below hW0
  replace b1 := b1.below hW0
  replace hT : Tab _ ∧ NoX _ := ⟨hT.1.below hW0, hT.2.below hW0⟩
  obtain ⟨bx, HBX⟩ : ∃ bx, Hid (w.heap.size = bx) := ⟨_, rfl⟩
  generalize hg0 : w.alloc (.cells #[.int .i64 c0, .int .i64 c1, .int .i64 c2] 60) = W0 at *
  have HWW : Hid (∀ W, Below W0.heap.size W0 W → Below w.heap.size w W) := fun W h => hW0.trans (h.mono hW0.size)
  rw [HBX.out] at hbox
  have HBC : Hid (∀ W, Below W0.heap.size W0 W → W.cell? ⟨bx, 0, none⟩ = some (.int .i64 c0) ∧ W.cell? ⟨bx, 1, none⟩ = some (.int .i64 c1) ∧ W.cell? ⟨bx, 2, none⟩ = some (.int .i64 c2)) := fun W h => by
    have h9 : W.heap[bx]? = _ := (h.block bx (Array.getElem?_eq_some_iff.1 hbox).1).trans hbox
    exact ⟨cellO h9 0 rfl, cellO h9 1 rfl, cellO h9 2 rfl⟩
  clear hW0 hbox
  have HHV : Hid _ := heavy_any W0 v0 v1 l r b0 (by omega) b1 (by omega)
  have HLV : Hid (∀ W, Below W0.heap.size W0 W → Calls Tryd.prog 10 #[] W fun e W0' => e = .returned (.bool true) ∧ Below W0.heap.size W0 W0') := fun W hW => (lives8_any W (hT.1.below hW) (hT.2.below hW)).mono (by rintro e W0' ⟨rfl, hb⟩; exact ⟨rfl, hW.trans (hb.mono hW.size)⟩)
  have HLY : Hid (Calls Tryd.prog 15 #[v0, v1] W0 fun e W0' => ∃ v L, e = .returned (.tuple #[v, .int .i64 (layErr l r)]) ∧ L.map plB = layL l r ∧ BkS W0' W0.heap.size v L ∧ Below W0.heap.size W0 W0') := lay_any W0 v0 v1 l r b0 y0 (by omega) b1 y1 (by omega) hT.1 hT.2
  have HPL : Hid (∀ W, Below W0.heap.size W0 W → Calls Tryd.prog 13 #[v0] W fun e W0' => ∃ v', e = .returned v' ∧ Ms W0' v' l ∧ Below W.heap.size W W0') := fun W hW => plain_any W v0 l (b0.below hW) z0
  have HTW : Hid (∀ W, Below W0.heap.size W0 W → Tab W ∧ NoX W) := fun W hW => ⟨hT.1.below hW, hT.2.below hW⟩
  have HSM : Hid (∀ W va vb (La : List Msg), Ms W va La → Ms W vb l → La.map plM = l.map plM → Calls Tryd.prog 19 #[va, vb] W fun e W0' => e = .returned (.bool true) ∧ Below W.heap.size W W0') := fun W va vb La h1 h2 h3 => by
    have hlen : La.length = l.length := by have := congrArg List.length h3; simpa using this
    refine sameMs_yes va vb La l W h1 h2 hlen (fun i a b ha hb => ?_) (by omega)
    have k1 : (La.map plM)[i]? = some (plM a) := by rw [List.getElem?_map, ha]; rfl
    have k2 : (l.map plM)[i]? = some (plM b) := by rw [List.getElem?_map, hb]; rfl
    rw [h3, k2] at k1
    injection k1 with k3
    injection k3 with k4 k5
    exact ⟨k4.symm, k5.symm⟩
  have HSY : Hid (Byt (strm l)) := strm_byt y0
  obtain ⟨ao0, cap0, hv0, _⟩ := b0
  obtain ⟨ao1, cap1, hv1, _⟩ := b1
  subst hv0 hv1
  obtain ⟨le, HLE⟩ : ∃ le, Hid (layErr l r = le) := ⟨_, rfl⟩
  obtain ⟨rn, HRN⟩ : ∃ rn, Hid (r.length = rn) := ⟨_, rfl⟩
  obtain ⟨ln, HLN⟩ : ∃ ln, Hid (l.length = ln) := ⟨_, rfl⟩
  rw [HLE.out] at HLY
  have HCS : Hid (le ≠ 0 → layL l r = []) := fun h => by unfold layL; rw [if_neg (by rw [HLE.out]; exact h)]
  have HC0 : Hid (le = 0 → szErr l = 0 ∧ r.length ≤ 65536 ∧ (∀ x ∈ r, Wd x) ∧ (strm l).length ≤ roomOf r ∧ layL l r = blksM r (strm l)) := fun h => by
    have hsl := strm_len l
    rcases lay_cases l r with ⟨c1, c2, c3⟩ | ⟨c1, c2, c3⟩ | ⟨c1, c2, c3, c4, c5, c6⟩ | ⟨c1, c2, c3, c4, c5, c6⟩
    · rw [HLE.out, h] at c2; exact absurd c2.symm c1
    · rw [HLE.out, h] at c2; omega
    · rw [HLE.out, h] at c4; omega
    · exact ⟨c1, c2, c3, by omega, c6⟩
  rw [HRN.out] at HHV HLY z1 ⊢
  rw [HLN.out] at HHV HLY HPL z0 ⊢
  clear hT y0 y1
  go_enter Tryd.func7, Tryd.ntmps7
  go_upto_region 1 with fail
  clear hg0
  rw [HBX.out]
  go_cut [17] (fun t wc => HvB t ∧ Hid (wc = W0))
  case first =>
    go_wp2_with (go_at_call 9; refine Calls.mono HHV.out ?_; rintro e w1 ⟨bh, rfl, hw1⟩; obtain rfl := hw1.symm)
    all_goals go_meet
    all_goals exact ⟨⟨_, rfl⟩, rfl⟩
  case rest =>
    obtain ⟨⟨bh, rfl⟩, hwc⟩ := hcut
    obtain rfl := hwc.out.symm
    clear hwc HHV
    cases bh with
    | true =>
      go_wp2_with (go_at_call 10; refine Calls.mono (HLV.out _ (Below.refl _ _)) ?_; rintro e w8 ⟨rfl, hb8⟩; have HB8 : Hid (Below W0.heap.size W0 w8) := hb8; clear hb8)
      go_ret
      exact ⟨rfl, HWW.out _ HB8.out⟩
    | false =>
      go_upto_region 4 with (go_at_call 15; refine Calls.mono HLY.out ?_; rintro e w2 ⟨vx, Lx, rfl, hl2, hk2, hb2⟩; have HCX := hk2.cells; obtain ⟨aox, capx, rfl, hcx⟩ := HCX; have HL2 : Hid (Lx.map plB = layL l r) := hl2; have HK2 : Hid (BkS w2 W0.heap.size (.slice aox Lx.length capx) Lx) := hk2; have HC2 : Hid _ := hcx; have HB2 : Hid (Below W0.heap.size W0 w2) := hb2; clear hl2 hk2 hb2 hcx)
      clear HLY
      by_cases hle : le = 0
      · subst hle
        obtain ⟨hse, hr6, hwd, hroom, hlay⟩ := HC0.out rfl
        have HP : Hid (Lx.map plB = blksM r (strm l)) := by unfold Hid; rw [HL2.out, hlay]
        have hpos := blks_pos (strm_ne l) hroom
        have hxl : Lx.length = (blksM r (strm l)).length := by rw [← HP.out, List.length_map]
        have hxr := blks_len r (strm l)
        have HBF : Hid (∀ F, Lies Lx Lx.length F → (∀ m ∈ Lx, m.1 + m.2.2.length ≤ (F.length : Int)) → ldM F (r.headD (0, 0)) = (0, l.map plM, r.take Lx.length)) := fun F h1 h2 => back_facts HLE.out hse hwd hroom HP.out h1 h2
        have HEX : Hid (∀ (j : Nat) (m : Blk), Lx[j]? = some m → ∃ x, r[j]? = some x ∧ m.1 = x.1 ∧ (m.2.2.length : Int) = x.2 ∧ Wd x) := fun j m hm => blk_ext hwd HP.out hm
        have HSB := blk_small hwd HP.out
        have HBYX : Hid (∀ m ∈ Lx, Byt m.2.2) := fun m hm => blk_byt r (strm l) HSY.out (plB m) (by rw [← HP.out]; exact List.mem_map.2 ⟨m, hm, rfl⟩)
        have HAP : Hid (Apt Lx) := blk_apt hwd HP.out (lay_apart HLE.out)
        have HMX : Hid (∀ W, Below w2.heap.size w2 W → Ms W (.slice aox Lx.length capx) Lx) := fun W hW => (bks_ms HK2.out).below hW
        have HSL : Hid (Calls Tryd.prog 23 #[.slice aox Lx.length capx] w2 fun e W0' => e = .returned (.bool (Lx.all smB)) ∧ W0' = w2) := small_any w2 _ Lx (HMX.out w2 (Below.refl _ _)) (by omega) (fun m hm => ⟨(HSB m hm).1, (HSB m hm).2.1⟩) (by omega)
        obtain ⟨q, HQ⟩ : ∃ q, Hid (Lx.all smB = q) := ⟨_, rfl⟩
        obtain ⟨xn, HXN⟩ : ∃ xn, Hid (Lx.length = xn) := ⟨_, rfl⟩
        have hx1 : 1 ≤ xn := by rw [← HXN.out]; omega
        have hx2 : xn ≤ rn := by rw [← HXN.out, ← HRN.out]; omega
        have hr6' : rn ≤ 65536 := by rw [← HRN.out]; exact hr6
        rw [HQ.out] at HSL
        have HFL : Hid (q = true → ∀ W, Below w2.heap.size w2 W → Calls Tryd.prog 24 #[.slice aox Lx.length capx] W fun e W0' => FlP W Lx e W0') := fun hq W hW => file_any W _ Lx (HMX.out W hW) (by omega) (fun m hm => by
          have h9 : Lx.all smB = true := by rw [HQ.out]; exact hq
          have h8 := List.all_eq_true.1 h9 m hm
          unfold smB at h8
          simp at h8
          have h7 := HSB m hm
          exact ⟨⟨h8.1, h8.2.1⟩, h7.2.2, by omega, HBYX.out m hm⟩) HAP.out
        rw [HXN.out] at HSL HMX HFL HK2 ⊢
        have HWD : Hid (∀ x ∈ r, Wd x) := hwd
        have HRO : Hid ((strm l).length ≤ roomOf r) := hroom
        clear HSB hwd hroom hlay hxl hxr hpos hr6 hse
        cases q with
        | false =>
          clear HFL
          have hxi : (0 : Int) < (xn : Int) := by omega
          go_wp2_with (first
            | (go_at_call 10; refine Calls.mono (HLV.out _ HB2.out) ?_; rintro e w8 ⟨rfl, hb8⟩; have HB8 : Hid (Below W0.heap.size W0 w8) := hb8; clear hb8)
            | (go_at_call 23; refine Calls.mono HSL.out ?_; rintro e w3 ⟨rfl, hw3⟩; obtain rfl := hw3.symm))
          go_ret
          exact ⟨rfl, HWW.out _ HB8.out⟩
        | true =>
          have HSB2 := blk_small HWD.out HP.out
          go_upto_region 6 with (go_at_call 23; refine Calls.mono HSL.out ?_; rintro e w3 ⟨rfl, hw3⟩; obtain rfl := hw3.symm)
          clear HSL
          obtain ⟨d0, d1, d2⟩ := HBC.out w2 HB2.out
          by_cases hz : c2.tmod 256 = 0
          · have hzb : (c2.tmod 256 == 0) = true := by simp [hz]
            go_wp2_with (go_at_call 10; refine Calls.mono (HLV.out _ HB2.out) ?_; rintro e w8 ⟨rfl, hb8⟩; have HB8 : Hid (Below W0.heap.size W0 w8) := hb8; clear hb8)
            go_ret
            exact ⟨rfl, HWW.out _ HB8.out⟩
          · have hzb : (c2.tmod 256 == 0) = false := by simp [hz]
            obtain ⟨kk, hk, hk1, hk2, hk3⟩ := place_any8 c0 xn (by omega)
            obtain ⟨c, hc⟩ : ∃ c, Lx[kk]? = some c := ⟨Lx[kk]'(by rw [HXN.out]; omega), List.getElem?_eq_getElem _⟩
            obtain ⟨n, HNC⟩ : ∃ n, Hid (c.2.2.length = n) := ⟨_, rfl⟩
            have hn17 : 17 ≤ n ∧ n ≤ 4194304 := by have := HSB2 c (List.mem_of_getElem? hc); rw [HNC.out] at this; exact this.2
            obtain ⟨at', ha, ha1, ha2, ha3⟩ := place_any8 c1 n (by omega)
            obtain ⟨gb, capb, hcv, hgbB, e1, z1', hset⟩ := HK2.out.byte hc (k := at') (by rw [HNC.out]; exact ha)
            have hby := HBYX.out c (List.mem_of_getElem? hc) at'
            obtain ⟨p, hpe⟩ : ∃ p : Nat, (p : Int) = c.2.2.getD at' 0 := ⟨(c.2.2.getD at' 0).toNat, by omega⟩
            rw [← hpe] at e1 hby
            have h256 : c2 % 256 ≠ 0 := fun h => hz (by obtain ⟨q, hq⟩ := Int.dvd_of_emod_eq_zero h; rw [hq]; exact Int.mul_tmod_right _ _)
            obtain ⟨y, hy⟩ : ∃ y : Nat, IntKind.u8.wrap c2 = (y : Int) ∧ y < 256 ∧ y ≠ 0 := ⟨(c2 % 256).toNat, by simp [IntKind.wrap, IntKind.bits, IntKind.signed]; omega, by omega, by omega⟩
            obtain ⟨hy1, hy2, hy3⟩ := hy
            obtain ⟨t, HTE, hxor, htb⟩ : ∃ t, Hid (t = p ^^^ y) ∧ bits .xor .u8 (p : Int) (y : Int) = ((t : Nat) : Int) ∧ t < 256 := ⟨_, (show p ^^^ y = p ^^^ y from rfl), u8_xor_nat _ _ (by omega) (by omega), Nat.xor_lt_two_pow (n := 8) (by omega) (by omega)⟩
            have HPT : Hid ((t : Int) ≠ c.2.2.getD at' 0) := by unfold Hid; rw [← hpe, HTE.out]; have := xor_other (p := p) (y := y) hy3; omega
            obtain ⟨gx, gb9, capb9, hao, _, k2, hcv9⟩ := HC2.out kk c hc
            subst hao
            obtain ⟨m0, hm0⟩ : ∃ m0, (Lx.set kk (turnB c at' t))[0]? = some m0 := ⟨(Lx.set kk (turnB c at' t))[0]'(by rw [List.length_set, HXN.out]; omega), List.getElem?_eq_getElem _⟩
            obtain ⟨x0, _, hr0, _, e01, e02, hw0, _⟩ := turn_ext HWD.out HP.out hc t hm0
            have hhd : r.headD (0, 0) = x0 := by
              cases r with
              | nil => simp at hr0
              | cons y r' => simp at hr0; subst hr0; rfl
            have HK3 : Hid (BkS (w2.setCell ⟨gb, at', none⟩ (.int .u8 (t : Int))).drew W0.heap.size (.slice (some ⟨gx, 0, none⟩) xn capx) (Lx.set kk (turnB c at' t))) := (hset t).below (Below.refl _ _).drew
            have HB3 : Hid (Below W0.heap.size W0 (w2.setCell ⟨gb, at', none⟩ (.int .u8 (t : Int))).drew) := (HB2.out.setCell hgbB _).drew
            have HTF : Hid (∀ F, Lies (Lx.set kk (turnB c at' t)) Lx.length F → (∀ m ∈ Lx.set kk (turnB c at' t), m.1 + m.2.2.length ≤ (F.length : Int)) → ldM F (r.headD (0, 0)) = (5, [], [])) := fun F h1 h2 => turn_facts HLE.out HWD.out HRO.out HP.out HBYX.out hc (by rw [HNC.out]; exact ha) t htb HPT.out h1 h2
            have HAP2 : Hid (Apt (Lx.set kk (turnB c at' t))) := turn_apt HWD.out HP.out (lay_apart HLE.out) hc t
            have HALL : Hid (∀ m ∈ Lx.set kk (turnB c at' t), (0 ≤ m.1 ∧ m.1 ≤ 100000) ∧ m.2.2.length ≤ 4194304 ∧ 1 ≤ m.2.2.length ∧ Byt m.2.2) := fun m hm => by
              obtain ⟨j, hj⟩ := List.getElem?_of_mem hm
              obtain ⟨x, m1, _, g1, _, _, _, g2, g3⟩ := turn_ext HWD.out HP.out hc t hj
              have h9 : Lx.all smB = true := HQ.out
              by_cases e : j = kk
              · rw [g3 e]
                have h8 := List.all_eq_true.1 h9 c (List.mem_of_getElem? hc)
                unfold smB at h8
                simp at h8
                have h7 := HSB2 c (List.mem_of_getElem? hc)
                unfold turnB
                dsimp only
                rw [List.length_set]
                exact ⟨⟨h8.1, h8.2.1⟩, h7.2.2, by omega, byt_set8 (HBYX.out c (List.mem_of_getElem? hc)) _ ⟨by omega, by omega⟩⟩
              · rw [g2 e]
                have h8 := List.all_eq_true.1 h9 m1 (List.mem_of_getElem? g1)
                unfold smB at h8
                simp at h8
                have h7 := HSB2 m1 (List.mem_of_getElem? g1)
                exact ⟨⟨h8.1, h8.2.1⟩, h7.2.2, by omega, HBYX.out m1 (List.mem_of_getElem? g1)⟩
            have hxn6 : xn ≤ 65536 := by omega
            rw [hcv] at hcv9
            injection hcv9 with u1 u2 u3
            rw [← u1, ← u3, HNC.out] at k2
            clear u1 u2 u3
            obtain ⟨g9, gb0, capb0, hg9, k1', k2', _⟩ := (bkS_cells HK3.out) 0 m0 hm0
            obtain rfl : gx = g9 := by simpa using hg9
            rw [e01] at k1'
            obtain ⟨n0, HN0⟩ : ∃ n0, Hid (m0.2.2.length = n0) := ⟨_, rfl⟩
            rw [HN0.out] at k2' e02
            simp only [Nat.zero_mul, Nat.zero_add] at k1' k2'
            have hx0e : x0 = (x0.1, (n0 : Int)) := by rw [e02]
            obtain ⟨W3, HW3⟩ : ∃ W3, (w2.setCell ⟨gb, at', none⟩ (.int .u8 (t : Int))).drew = W3 := ⟨_, rfl⟩
            rw [HW3] at HK3 HB3 k1' k2'
            have HS : Hid (∀ W, Below W3.heap.size W3 W → W.cell? ⟨gx, 0, none⟩ = some (.int .i64 x0.1) ∧ W.cell? ⟨gx, 1, none⟩ = some (.slice gb0 n0 capb0)) := fun W hW => ⟨(hW.cell (World.block_lt_of_cell? W3 _ k1')).trans k1', (hW.cell (World.block_lt_of_cell? W3 _ k2')).trans k2'⟩
            have HFI : Hid (∀ W, Below W3.heap.size W3 W → Calls Tryd.prog 24 #[.slice (some ⟨gx, 0, none⟩) xn capx] W fun e w' => ∃ vf, e = .returned vf ∧ Below W3.heap.size W3 w' ∧ FlQ x0 ((5, [], []) : Int × List (Int × List Int) × List Ext) vf w') := fun W hW => by
              have hl9 : (Lx.set kk (turnB c at' t)).length = xn := by rw [List.length_set, HXN.out]
              have hMs : Ms W (.slice (some ⟨gx, 0, none⟩) xn capx) (Lx.set kk (turnB c at' t)) := (bks_ms HK3.out).below hW
              refine (file_any W _ _ hMs (by rw [hl9]; exact hxn6) HALL.out HAP2.out).mono fun e w' ⟨vf, F, h1, h2, h3, h4, h5, h6, h7⟩ => ⟨vf, h1, hW.trans (h7.mono hW.size), F, h2.bs, h3, h4, ?_⟩
              have := HTF.out F (by rw [hl9] at h6; rw [HXN.out]; exact h6) h5
              rw [hhd] at this
              exact this
            have HEW0 : Hid (EW x0) := by
              have h1 := hw0.1
              have h2 := hw0.2.1
              have h3 := hw0.2.2
              unfold Hid EW
              omega
            have HLO : Hid (∀ (W : World) (vf : Value), Below W3.heap.size W3 W → FlQ x0 ((5, [], []) : Int × List (Int × List Int) × List Ext) vf W → Calls Tryd.prog 21 #[vf, .agg #[.int .i64 x0.1, .int .i64 (n0 : Int)]] W fun e w' => ∃ vl vu, e = .returned (.tuple #[vl, vu, .int .i64 5]) ∧ Below W3.heap.size W3 w' ∧ LdQ ((5, [], []) : Int × List (Int × List Int) × List Ext) vl vu w') := fun W vf hW hF => by
              have hWw := belTr8 HB3.out hW
              have := load_q W vf x0 _ hF HEW0.out (HTW.out W hWw).1 (HTW.out W hWw).2
              rw [← e02] at this
              exact this.mono fun e w' ⟨vl, vu, h1, h2, h3⟩ => ⟨vl, vu, h1, hW.trans (h3.mono hW.size), h2⟩
            generalize x0.1 = a0 at *
            have hxi : (0 : Int) < (xn : Int) := by omega
            have hxz : ((xn : Int) == 0) = false := by simp; omega
            have hnz : ((n : Int) == 0) = false := by simp; omega
            have hkxi : (kk : Int) < (xn : Int) := by omega
            have hani : (at' : Int) < (n : Int) := by omega
            obtain ⟨hn17a, hn17b⟩ := hn17
            clear hm0 hr0 hhd hx0e hw0 e01 HK2 HC2 HEX HBF HAP HMX HFL hset hby hpe hc hcv hgbB k1' k2' HK3 HTF HAP2 HALL HPT HTE HSB2 HC0 HCS
            go_upto_region 11 with fail
            go_cut [90] (fun t wd => t = .pointer (some ⟨gb, at', none⟩) ∧ Hid (wd = W3))
            case first =>
              have HWQ : Hid _ := HW3
              clear HW3 HS HFI HLO HLV HTW HSM HPL HBC HWW HEW0 HBYX
              go_region
              all_goals
                go_wp2_with fail
                go_meet
                exact ⟨rfl, HWQ.out⟩
            case rest =>
              obtain ⟨rfl, hw⟩ := hcut
              obtain rfl := hw.out.symm
              clear hw HW3
              go_upto_region 12 with fail
              go_cut [12, 13, 14] (fun t7 t8 t9 wc => t9 = .int .i64 5 ∧ Hid (Below W3.heap.size W3 wc) ∧ Hid (LdQ ((5, [], []) : Int × List (Int × List Int) × List Ext) t7 t8 wc))
              case first =>
                rename_i r2 r1 Q9 K9 a9 J9 K8 a8 a7
                clear a9 r2 r1 HSM HPL HLV HTW HQ HEW0 HBYX
                have hx0n : 0 < xn := hx1
                have hDR : Below W3.heap.size W3 W3.drew := (Below.refl _ _).drew
                have e2 := HS.out W3.drew hDR
                refine wp_region_L (S := fun w9 => w9.cell? ⟨gx, 0, none⟩ = some (.int .i64 a0) ∧ w9.cell? ⟨gx, 1, none⟩ = some (.slice gb0 n0 capb0)) 19 (by kernel_rfl) e2 (fun hHeld => ?_)
                refine GoL.takeD (some 92) (i := 0) (v := ?_) rfl rfl (by kernel_rfl) (by kernel_rfl) (by kernel_rfl) (by decide) (fun _ _ _ h => h) (Or.inl ⟨by rfl, ?_⟩) (by assumption) ?_
                rotate_left 1
                · intro w9 hSw
                  (try dsimp only at hSw)
                  (try obtain ⟨hSa, hSb⟩ := hSw)
                  go_simp
                  try with_reducible rfl
                try simp only [Act.put, List.setIfInBounds_toArray, List.set_cons_zero, List.set_cons_succ]
                refine GoL.takeD (some 94) (i := 2) (v := ?_) rfl rfl (by kernel_rfl) (by kernel_rfl) (by kernel_rfl) (by decide) (fun _ _ _ h => h) (Or.inl ⟨by rfl, ?_⟩) (by assumption) ?_
                rotate_left 1
                · intro w9 hSw
                  (try dsimp only at hSw)
                  (try obtain ⟨hSa, hSb⟩ := hSw)
                  go_simp
                  try with_reducible rfl
                try simp only [Act.put, List.setIfInBounds_toArray, List.set_cons_zero, List.set_cons_succ]
                refine GoL.takeD (some 95) (i := 3) (v := ?_) rfl rfl (by kernel_rfl) (by kernel_rfl) (by kernel_rfl) (by decide) (fun _ _ _ h => h) (Or.inl ⟨by rfl, ?_⟩) (by assumption) ?_
                rotate_left 1
                · intro w9 hSw
                  (try dsimp only at hSw)
                  (try obtain ⟨hSa, hSb⟩ := hSw)
                  go_simp
                  try with_reducible rfl
                try simp only [Act.put, List.setIfInBounds_toArray, List.set_cons_zero, List.set_cons_succ]
                refine GoL.takeD (some 96) (i := 4) (v := ?_) rfl rfl (by kernel_rfl) (by kernel_rfl) (by kernel_rfl) (by decide) (fun _ _ _ h => h) (Or.inl ⟨by rfl, ?_⟩) (by assumption) ?_
                rotate_left 1
                · intro w9 hSw
                  (try dsimp only at hSw)
                  (try obtain ⟨hSa, hSb⟩ := hSw)
                  go_simp
                  try with_reducible rfl
                try simp only [Act.put, List.setIfInBounds_toArray, List.set_cons_zero, List.set_cons_succ]
                refine GoL.takeD (some 97) (i := 5) (v := ?_) rfl rfl (by kernel_rfl) (by kernel_rfl) (by kernel_rfl) (by decide) (fun _ _ _ h => h) (Or.inl ⟨by rfl, ?_⟩) (by assumption) ?_
                rotate_left 1
                · intro w9 hSw
                  (try dsimp only at hSw)
                  (try obtain ⟨hSa, hSb⟩ := hSw)
                  go_simp
                  try with_reducible rfl
                try simp only [Act.put, List.setIfInBounds_toArray, List.set_cons_zero, List.set_cons_succ]
                refine GoL.takeD (some 98) (i := 6) (v := ?_) rfl rfl (by kernel_rfl) (by kernel_rfl) (by kernel_rfl) (by decide) (fun _ _ _ h => h) (Or.inl ⟨by rfl, ?_⟩) (by assumption) ?_
                rotate_left 1
                · intro w9 hSw
                  (try dsimp only at hSw)
                  (try obtain ⟨hSa, hSb⟩ := hSw)
                  go_simp
                  try with_reducible rfl
                try simp only [Act.put, List.setIfInBounds_toArray, List.set_cons_zero, List.set_cons_succ]
                refine GoL.takeD (some 99) (i := 7) (v := ?_) rfl rfl (by kernel_rfl) (by kernel_rfl) (by kernel_rfl) (by decide) (fun _ _ _ h => h) (Or.inl ⟨by rfl, ?_⟩) (by assumption) ?_
                rotate_left 1
                · intro w9 hSw
                  (try dsimp only at hSw)
                  (try obtain ⟨hSa, hSb⟩ := hSw)
                  go_simp
                  try with_reducible rfl
                try simp only [Act.put, List.setIfInBounds_toArray, List.set_cons_zero, List.set_cons_succ]
                refine GoL.takeD (some 100) (i := 8) (v := ?_) rfl rfl (by kernel_rfl) (by kernel_rfl) (by kernel_rfl) (by decide) (fun _ _ _ h => h) (Or.inl ⟨by rfl, ?_⟩) (by assumption) ?_
                rotate_left 1
                · intro w9 hSw
                  (try dsimp only at hSw)
                  (try obtain ⟨hSa, hSb⟩ := hSw)
                  go_simp
                  try with_reducible rfl
                try simp only [Act.put, List.setIfInBounds_toArray, List.set_cons_zero, List.set_cons_succ]
                refine GoL.takeD (some 101) (i := 9) (v := ?_) rfl rfl (by kernel_rfl) (by kernel_rfl) (by kernel_rfl) (by decide) (fun _ _ _ h => h) (Or.inl ⟨by rfl, ?_⟩) (by assumption) ?_
                rotate_left 1
                · intro w9 hSw
                  (try dsimp only at hSw)
                  (try obtain ⟨hSa, hSb⟩ := hSw)
                  go_simp
                  try with_reducible rfl
                try simp only [Act.put, List.setIfInBounds_toArray, List.set_cons_zero, List.set_cons_succ]
                refine GoL.takeD (some 102) (i := 10) (v := ?_) rfl rfl (by kernel_rfl) (by kernel_rfl) (by kernel_rfl) (by decide) (fun _ _ _ h => h) (Or.inl ⟨by rfl, ?_⟩) (by assumption) ?_
                rotate_left 1
                · intro w9 hSw
                  (try dsimp only at hSw)
                  (try obtain ⟨hSa, hSb⟩ := hSw)
                  go_simp
                  try with_reducible rfl
                try simp only [Act.put, List.setIfInBounds_toArray, List.set_cons_zero, List.set_cons_succ]
                refine GoL.takeD (some 103) (i := 11) (v := ?_) rfl rfl (by kernel_rfl) (by kernel_rfl) (by kernel_rfl) (by decide) (fun _ _ _ h => h) (Or.inl ⟨by rfl, ?_⟩) (by assumption) ?_
                rotate_left 1
                · intro w9 hSw
                  (try dsimp only at hSw)
                  (try obtain ⟨hSa, hSb⟩ := hSw)
                  go_simp
                  try with_reducible rfl
                try simp only [Act.put, List.setIfInBounds_toArray, List.set_cons_zero, List.set_cons_succ]
                refine GoL.ready (rs := [1]) (by kernel_rfl) (by simp) (by decide) (AllL.cons rfl (fun K hK => ?_) AllL.nil)
                refine step_call rfl 24 (enters_of Tryd.func24 (by kernel_rfl) rfl) #[.tmp 92] _ rfl _ (by go_simp) (fun v w' => Below W3.heap.size W3 w' ∧ FlQ x0 ((5, [], []) : Int × List (Int × List Int) × List Ext) v w') (Calls.mono (HFI.out _ hDR) (by rintro e w' ⟨vf, rfl, hb3, hq3⟩; exact ⟨vf, rfl, hb3, hq3⟩)) ?_
                rintro vf w3 ⟨hb3, hq3⟩
                have HQ3 : Hid (FlQ x0 ((5, [], []) : Int × List (Int × List Int) × List Ext) vf w3) := hq3
                have HB3 : Hid (Below _ _ w3) := hb3
                have e3 := HS.out w3 hb3
                clear hb3 hq3 hHeld
                refine hK.out _ _ e3 (fun hHeld => ?_)
                clear hK K
                show GoL _ _ _ _ _ _ _ _ (Act.put _ (some 93) vf) _
                simp only [Act.put, List.setIfInBounds_toArray, List.set_cons_zero, List.set_cons_succ]
                refine GoL.ready (rs := [12]) (by kernel_rfl) (by simp) (by decide) (AllL.cons rfl (fun K hK => ?_) AllL.nil)
                refine step_call rfl 21 (enters_of Tryd.func21 (by kernel_rfl) rfl) #[.tmp 93, .tmp 103] _ rfl #[vf, .agg #[.int .i64 a0, .int .i64 (n0 : Int)]] (by go_simp) (fun v w' => ∃ vl vu, v = .tuple #[vl, vu, .int .i64 5] ∧ Below W3.heap.size W3 w' ∧ LdQ ((5, [], []) : Int × List (Int × List Int) × List Ext) vl vu w') (Calls.mono (HLO.out w3 vf HB3.out HQ3.out) (by rintro e w' ⟨vl, vu, rfl, hb4, hq4⟩; exact ⟨_, rfl, vl, vu, rfl, hb4, hq4⟩)) ?_
                rintro v4 w4 ⟨vl, vu, rfl, hb4, hq4⟩
                have HQ4 : Hid (LdQ ((5, [], []) : Int × List (Int × List Int) × List Ext) vl vu w4) := hq4
                have HB4 : Hid (Below W3.heap.size W3 w4) := hb4
                have e4 := HS.out w4 hb4
                clear hb4 hq4 hHeld
                refine hK.out _ _ e4 (fun hHeld => ?_)
                clear hK K
                show GoL _ _ _ _ _ _ _ _ (Act.put _ (some 104) (.tuple #[vl, vu, .int .i64 5])) _
                simp only [Act.put, List.setIfInBounds_toArray, List.set_cons_zero, List.set_cons_succ]
                refine GoL.takeD (some 91) (i := 13) (v := ?_) rfl rfl (by kernel_rfl) (by kernel_rfl) (by kernel_rfl) (by decide) (fun _ _ _ h => h) (Or.inl ⟨by rfl, ?_⟩) (by assumption) ?_
                rotate_left 1
                · intro w9 hSw
                  (try dsimp only at hSw)
                  (try obtain ⟨hSa, hSb⟩ := hSw)
                  go_simp
                  try with_reducible rfl
                try simp only [Act.put, List.setIfInBounds_toArray, List.set_cons_zero, List.set_cons_succ]
                refine GoL.takeD (some 105) (i := 14) (v := ?_) rfl rfl (by kernel_rfl) (by kernel_rfl) (by kernel_rfl) (by decide) (fun _ _ _ h => h) (Or.inl ⟨by rfl, ?_⟩) (by assumption) ?_
                rotate_left 1
                · intro w9 hSw
                  (try dsimp only at hSw)
                  (try obtain ⟨hSa, hSb⟩ := hSw)
                  go_simp
                  try with_reducible rfl
                try simp only [Act.put, List.setIfInBounds_toArray, List.set_cons_zero, List.set_cons_succ]
                refine GoL.takeD (some 106) (i := 15) (v := ?_) rfl rfl (by kernel_rfl) (by kernel_rfl) (by kernel_rfl) (by decide) (fun _ _ _ h => h) (Or.inl ⟨by rfl, ?_⟩) (by assumption) ?_
                rotate_left 1
                · intro w9 hSw
                  (try dsimp only at hSw)
                  (try obtain ⟨hSa, hSb⟩ := hSw)
                  go_simp
                  try with_reducible rfl
                try simp only [Act.put, List.setIfInBounds_toArray, List.set_cons_zero, List.set_cons_succ]
                refine GoL.takeD (some 107) (i := 16) (v := ?_) rfl rfl (by kernel_rfl) (by kernel_rfl) (by kernel_rfl) (by decide) (fun _ _ _ h => h) (Or.inl ⟨by rfl, ?_⟩) (by assumption) ?_
                rotate_left 1
                · intro w9 hSw
                  (try dsimp only at hSw)
                  (try obtain ⟨hSa, hSb⟩ := hSw)
                  go_simp
                  try with_reducible rfl
                try simp only [Act.put, List.setIfInBounds_toArray, List.set_cons_zero, List.set_cons_succ]
                refine GoL.takeD (some 12) (i := 17) (v := ?_) rfl rfl (by kernel_rfl) (by kernel_rfl) (by kernel_rfl) (by decide) (fun _ _ _ h => h) (Or.inl ⟨by rfl, ?_⟩) (by assumption) ?_
                rotate_left 1
                · intro w9 hSw
                  (try dsimp only at hSw)
                  (try obtain ⟨hSa, hSb⟩ := hSw)
                  go_simp
                  try with_reducible rfl
                try simp only [Act.put, List.setIfInBounds_toArray, List.set_cons_zero, List.set_cons_succ]
                refine GoL.takeD (some 13) (i := 18) (v := ?_) rfl rfl (by kernel_rfl) (by kernel_rfl) (by kernel_rfl) (by decide) (fun _ _ _ h => h) (Or.inl ⟨by rfl, ?_⟩) (by assumption) ?_
                rotate_left 1
                · intro w9 hSw
                  (try dsimp only at hSw)
                  (try obtain ⟨hSa, hSb⟩ := hSw)
                  go_simp
                  try with_reducible rfl
                try simp only [Act.put, List.setIfInBounds_toArray, List.set_cons_zero, List.set_cons_succ]
                refine GoL.last (by kernel_rfl) (by kernel_rfl) rfl (fun K hK => ?_)
                go_simp
                refine hK.out _ _ ?_
                all_goals go_wp2_with fail
                all_goals go_meet
                all_goals exact ⟨rfl, HB4.out, HQ4.out⟩
              case rest =>
                obtain ⟨rfl, HB4, HQ4⟩ := hcut
                obtain ⟨Lm, hlm, hms, hxs⟩ := HQ4.out
                dsimp only at hlm hxs
                have hl0 : Lm = [] := by simpa using hlm
                subst hl0
                obtain ⟨ao8, cap8, hv8, _⟩ := hms
                obtain ⟨ao9, cap9, hv9, _⟩ := hxs
                subst hv8 hv9
                have HBw : Hid (Below W0.heap.size W0 wc) := belTr8 HB3.out HB4.out
                clear hlm HQ4 HLO HFI HS
                go_wp2_with (go_at_call 10; refine Calls.mono (HLV.out _ HBw.out) ?_; rintro e w8 ⟨rfl, hb8⟩; have HB8 : Hid (Below W0.heap.size W0 w8) := hb8; clear hb8)
                go_ret
                exact ⟨rfl, HWW.out _ HB8.out⟩
      · have hx0 : Lx = [] := by
          have h9 := HL2.out
          rw [HCS.out hle] at h9
          simpa using h9
        subst hx0
        have hle2 : (le != 0) = true := by simpa using hle
        go_wp2_with (go_at_call 10; refine Calls.mono (HLV.out _ HB2.out) ?_; rintro e w8 ⟨rfl, hb8⟩; have HB8 : Hid (Below W0.heap.size W0 w8) := hb8; clear hb8)
        go_ret
        exact ⟨rfl, HWW.out _ HB8.out⟩
end Go.Proofs.YtdalkjenjnalbaaDoor

namespace Go.Proofs.YtdalkjenjnalbaaDoor.headerTurned
open Go.ChangeShapes Go.WideShapes Go.ChangeAt Go.RowKit
set_option linter.unusedVariables false

theorem arr3_of {cs : Array Value} (hs : cs.size = 3) : ∃ x0 x1 x2, cs = #[x0, x1, x2] := by
  obtain ⟨l⟩ := cs
  match l, hs with
  | [x0, x1, x2], _ => exact ⟨x0, x1, x2, rfl⟩

set_option maxRecDepth 100000 in
theorem arr3_arg {H : Type} {enc : TypeId × Value → H} {W : World} {base : Nat} {v : Value} {d : DataW H} {p : List MemPlace}
    (hok : Value.okWide Tryd.prog W .any base 60 v) (h : DataW.Trod enc Tryd.prog W 0 (fun _ => true) true 60 v d p) :
    ∃ c0 c1 c2 : Int, v = .agg #[.int .i64 c0, .int .i64 c1, .int .i64 c2] ∧ (-9223372036854775808 ≤ c0 ∧ c0 ≤ 9223372036854775807) ∧ (-9223372036854775808 ≤ c1 ∧ c1 ≤ 9223372036854775807) ∧ (-9223372036854775808 ≤ c2 ∧ c2 ≤ 9223372036854775807) := by
  have hu : Tryd.prog.underlying 60 = some (.array 3 3) := by kernel_rfl
  have hc : Tryd.prog.cellsOf 60 = 3 := by kernel_rfl
  have hv : ∃ cs : Array Value, v = .agg cs ∧ cs.size = 3 := by
    simp only [Value.okWide, hu] at hok
    obtain ⟨cs, h1, h2, _⟩ := hok
    exact ⟨cs, h1, by rw [h2, hc]⟩
  obtain ⟨cs, rfl, hs⟩ := hv
  obtain ⟨fuel, hf⟩ := h
  obtain ⟨xs, m, _, _, _, hl, each⟩ := DataW.trod_array hu hf
  obtain ⟨x0, x1, x2, rfl⟩ := arr3_of hs
  rw [Tryd.cellsI] at each
  have e0 := each 0 (by decide)
  have e1 := each 1 (by decide)
  have e2 := each 2 (by decide)
  rw [List.getElem?_eq_getElem (by omega)] at e0 e1 e2
  obtain ⟨k0, f0, _, w0⟩ := DataW.trod_int Tryd.underlying3 e0
  obtain ⟨k1, f1, _, w1⟩ := DataW.trod_int Tryd.underlying3 e1
  obtain ⟨k2, f2, _, w2⟩ := DataW.trod_int Tryd.underlying3 e2
  simp [Value.cells] at f0 f1 f2
  subst f0 f1 f2
  exact ⟨k0, k1, k2, rfl, bounds_i64 w0, bounds_i64 w1, bounds_i64 w2⟩

set_option maxRecDepth 100000 in
theorem lifted (os : Os) (started : os.Started) (H : Type) (enc : TypeId × Value → H) :
    ReturnsInHanded {} Tryd.checked os 7 .any (fun w args => (Rows.headerTurnedSpec.pre enc Tryd.prog Tryd.f7 [] false w args ∧ laidMetH Tryd.prog laidTab w) ∧ sizedMet enc Tryd.prog Tryd.f7 (OpenSpec.ofChange Rows.headerTurnedSpec) false w args)
      (Rows.headerTurnedSpec.post enc Tryd.prog Tryd.f7 false true false false) := by
  refine returnsInHanded_of_change_and (C := Tryd.checked) (X := fun w _ => laidMetH Tryd.prog laidTab w) (fun _ _ _ hh h => h.of_heap hh) Tryd.ownKnob0 started (by kernel_rfl) Tryd.func7
    (ChangeSpec.witness_shaped (enc := enc) (C := Tryd.checked) (os := os) (X := fun w _ => laidMetH Tryd.prog laidTab w) false (World.doorLaid Tryd.prog 400 os) #[.slice none 0 0, .slice none 0 0, .agg #[.int .i64 0, .int .i64 0, .int .i64 0]] 8 rfl (World.shaped_of_RefB (by kernel_rfl) (by kernel_rfl)) (by kernel_rfl) (by kernel_rfl) (by kernel_rfl) (door_met os _)) ?_
  intro W base args ds gs before hval0 hW _ hsz0 hL _
  have hT := tab_of_laid hL
  have hsz : (DataW.weightsEach Tryd.prog (Tryd.f7.params.toList ++ Rows.headerTurnedSpec.plain.varTypes Tryd.prog) (ds ++ gs)).all (· ≤ reachBytes) = true := hsz0
  clear hsz0 hL
  have hval : ∀ (j : Nat) t v, Tryd.f7.params[j]? = some t → args[j]? = some v → Value.okWide Tryd.prog W .any base t v := hval0
  have hW' := hW
  obtain ⟨p, q, hA0, hV, rfl, hfz, hnd⟩ := hW
  have hA : DataW.TrodAll enc Tryd.prog W 0 (fun _ => true) true Tryd.f7.params.toList args.toList ds p := hA0
  rw [Tryd.params7] at hA hval hsz
  obtain ⟨v0, vs0, d0, ds0, p0, q0, hargs, rfl, rfl, h0, r0⟩ := trodAll_cons hA
  obtain ⟨v1, vs1, d1, ds1, p1, q1, rfl, rfl, rfl, h1, r1⟩ := trodAll_cons r0
  obtain ⟨v2, vs2, d2, ds2, p2, q2, rfl, rfl, rfl, h2, r2⟩ := trodAll_cons r1
  obtain ⟨rfl, rfl, rfl⟩ := trodAll_nil r2
  obtain rfl : args = #[v0, v1, v2] := by cases args; simp_all
  obtain ⟨rfl, rfl⟩ := trodVars_none hV
  have k0 := h0
  have lt0 : ∀ x ∈ p0, x.block < W.heap.size := by obtain ⟨m, hm⟩ := k0; exact DataW.trod_lt m _ _ _ hm
  obtain ⟨l0, b0, y0, z0⟩ := msgs_arg (hval 0 22 v0 rfl rfl) h0 hsz 0 rfl rfl
  have k1 := h1
  have lt1 : ∀ x ∈ p1, x.block < W.heap.size := by obtain ⟨m, hm⟩ := k1; exact DataW.trod_lt m _ _ _ hm
  obtain ⟨l1, b1, y1, z1⟩ := xs_arg (hval 1 34 v1 rfl rfl) h1 hsz 1 rfl rfl
  have k2 := h2
  have lt2 : ∀ x ∈ p2, x.block < W.heap.size := by obtain ⟨m, hm⟩ := k2; exact DataW.trod_lt m _ _ _ hm
  obtain ⟨g20, g21, g22, rfl, b20, b21, b22⟩ := arr3_arg (hval 2 60 v2 rfl rfl) h2
  clear hA0 hval0
  refine (headerTurned_walk v0 l0 v1 l1 g20 g21 g22 W hT b0 y0 z0 b1 y1 z1 b20 b21 b22).mono fun e W' ⟨he, bel⟩ => ?_
  subst he
  exact ⟨_, rfl, _, _, _, [], _, [], hW', trodAll_mk1 (shut_bool Tryd.underlying4 _), (trodAll_cons_mk (Below.trod Tryd.laidOut0 (by kernel_rfl) (of_decide_eq_true (by kernel_rfl)) k0 bel lt0) (trodAll_cons_mk (Below.trod Tryd.laidOut0 (by kernel_rfl) (of_decide_eq_true (by kernel_rfl)) k1 bel lt1) (trodAll_cons_mk (Below.trod Tryd.laidOut0 (by kernel_rfl) (of_decide_eq_true (by kernel_rfl)) k2 bel lt2) trodAll_mk0))), rfl, bel.frame _, fun h => by cases h⟩

theorem over : Rows.HeaderTurnedSaid :=
  OpenClaim.holds_of_wide 7 Tryd.f7 rfl rfl rfl rfl rfl rfl rfl ⟨rfl, rfl, rfl, rfl, rfl⟩ rfl rfl rfl rfl rfl (by kernel_rfl) Tryd.func7 (by kernel_rfl)
    (of_decide_eq_true (by kernel_rfl)) (by unfold Func.isWrapper; first | (rw [if_pos (by decide +kernel)]; kernel_rfl) | (rw [if_neg (by decide +kernel)]; exact ⟨rfl, rfl⟩))
    (fun os started H enc _ => lifted os started H enc)

theorem card : Rows.HeaderTurnedCardSaid :=
  Claim7.holds_tied_plain_at .later [] [.data, .data] true _ true
    over (fun _ h => by cases h) (by kernel_rfl) (fun _ h => by cases h) headerTurned_row_tie rfl ⟨rfl, rfl⟩ (by kernel_rfl) rfl
    (fun f fn hf hfn => by
      obtain rfl : f = 7 := Option.some.inj ((show Tryd.prog.funcNamed "slabvault/slabvaultlaw08.HeaderTurned" = some 7 by kernel_rfl).symm.trans hf) |>.symm
      obtain rfl : fn = Tryd.f7 := (Option.some.inj (Tryd.func7.symm.trans hfn)).symm
      exact ⟨by kernel_rfl, fun j t ht => by
        rw [Tryd.params7] at ht
        have hm : t ∈ [22, 34, 60] := by simpa using Array.mem_of_getElem? ht
        have hall : ([22, 34, 60].all fun u => !Tryd.prog.wantsStandIn u) = true := by kernel_rfl
        exact (show Tryd.prog.wantsStandIn t = false by simpa using List.all_eq_true.1 hall t hm)⟩)
    (by kernel_rfl)

end Go.Proofs.YtdalkjenjnalbaaDoor.headerTurned
namespace Go.Proofs.YtdalkjenjnalbaaDoor
theorem headerTurned_holds : Rows.HeaderTurnedCardSaid := headerTurned.card
end Go.Proofs.YtdalkjenjnalbaaDoor
