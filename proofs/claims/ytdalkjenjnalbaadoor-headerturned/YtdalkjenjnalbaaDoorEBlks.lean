/-
  The blocks of a stream. Conditions: the extents are wide and have room for it, the table of the sum and the empty extent stand.
-/
import Derived.Test.YtdalkjenjnalbaaDoorEBlkM
import Derived.Deep.RegionLaw
namespace Go.Proofs.YtdalkjenjnalbaaDoor
open Go.RowKit
set_option linter.unusedVariables false
set_option maxRecDepth 100000

/-- The empty extent stands. -/
def NoX (w : World) : Prop := w.cell? ⟨0, 0, none⟩ = some (.int .i64 0) ∧ w.cell? ⟨0, 1, none⟩ = some (.int .i64 0)
theorem NoX.below {w w' : World} (h : NoX w) (hb : Below w.heap.size w w') : NoX w' := ⟨(hb.cell (World.block_lt_of_cell? w _ h.1)).trans h.1, (hb.cell (World.block_lt_of_cell? w _ h.2)).trans h.2⟩
theorem Tryd.infoBk : (Tryd.prog.info? 47).map (fun i => (i.zero, i.size, i.bytes)) = some (some (.agg #[.int .i64 0, .slice none 0 0]), 2, 32) := by kernel_rfl
theorem info_parts2 {t : TypeId} {z : Option Value} {s b : Nat} (h : (Tryd.prog.info? t).map (fun i => (i.zero, i.size, i.bytes)) = some (z, s, b)) : ∃ i, Tryd.prog.info? t = some i ∧ i.zero = z ∧ i.size = s ∧ i.bytes = b := by
  match hi : Tryd.prog.info? t, h with
  | some i, h =>
    simp at h
    exact ⟨i, rfl, h.1, h.2.1, h.2.2⟩
theorem al2 (w : World) (A C : Array Value) (T : TypeId) : ((w.alloc (.cells A T)).alloc (.cells C T)).drew.heap[w.heap.size]? = some (.cells A T (0, 0)) ∧ ((w.alloc (.cells A T)).alloc (.cells C T)).drew.heap[w.heap.size + 1]? = some (.cells C T (0, 0)) ∧ Below w.heap.size w ((w.alloc (.cells A T)).alloc (.cells C T)).drew := by
  have h1 : Below w.heap.size w (w.alloc (.cells A T)) := (Below.refl _ _).alloc (Nat.le_refl _) _
  have hs : (w.alloc (.cells A T)).heap.size = w.heap.size + 1 := by simp
  refine ⟨?_, ?_, (h1.alloc h1.size _).drew⟩
  · have := heap_alloc_new w (.cells A T)
    rw [← this]
    exact Below.heap_alloc _ _ _ (by rw [hs]; omega)
  · have := heap_alloc_new (w.alloc (.cells A T)) (.cells C T)
    rw [hs] at this
    exact this
theorem below_set8 {w w' : World} {B b : Nat} (h : Below B w w') (i : Nat) (v : Value) (hb : B ≤ b) : Below B w (w'.setCell ⟨b, i, none⟩ v) := h.setCell hb v
theorem blk_new {w w9 : World} {B g : Nat} {v : Value} {L : List Blk} {a : Int} {bs : List Int} {n : Nat} (h : BkS w B v L) (hb : Below w.heap.size w w9) (hB : B ≤ g) (hg : w.heap.size ≤ g) (hr : Row w9 g bs) (hl : bs.length = n) (hn : n ≤ 4194304) (o : Obj) :
    Sep (w9.alloc o) B ([byR (a, .slice (some ⟨g, 0, none⟩) n n, bs)] ++ rowBk v L :: L.map byR) := by
  subst hl
  have h1 : Sep w9 B (byR (a, .slice (some ⟨g, 0, none⟩) bs.length bs.length, bs) :: (rowBk v L :: L.map byR)) := Sep.new h hb (hr.own hB (by unfold maxLen; omega)) (by intro x hx; simp [Pc.blk, byR, Value.ownBlock] at hx; omega)
  exact h1.below ((Below.refl _ _).alloc (Nat.le_refl _) _)
theorem blk_turn {w w3 : World} {B g3 cap3 ln : Nat} {ao : Option Addr} {cap : Nat} {L : List Blk} {b : Blk} (hl : L.length = ln) (h : Sep w B ([byR b] ++ rowBk (.slice ao ln cap) L :: L.map byR)) (ho : w3.ownsRow B 47 2 (.slice (some ⟨g3, 0, none⟩) (ln + 1) cap3) (ln + 1) (gc encBk L ++ encBk b)) (hg : w.grownBy w3 (Value.slice ao ln cap).ownBlock) (ha : (Value.slice ao ln cap).ownBlock = some g3 ∨ g3 = w.heap.size) :
    BkS w3 B (.slice (some ⟨g3, 0, none⟩) (ln + 1) cap3) (L ++ [b]) := by
  have h1 := Sep.turn [byR b] (v := .slice ao ln cap) (n := L.length) (xs := gc encBk L) h ho hg (ha.elim (fun e => Or.inl e.symm) (fun e => Or.inr (by intro x hx; simp [Value.ownBlock] at hx; omega)))
  unfold BkS
  have e : rowBk (.slice (some ⟨g3, 0, none⟩) (ln + 1) cap3) (L ++ [b]) = .row 47 2 (.slice (some ⟨g3, 0, none⟩) (ln + 1) cap3) (ln + 1) (gc encBk L ++ encBk b) := by
    unfold rowBk
    rw [gc_append, gc_one, List.length_append, hl]
    rfl
  rw [e]
  refine h1.perm ?_
  classical
  refine List.perm_iff_count.2 (fun a => ?_)
  simp only [List.map_append, List.map_cons, List.map_nil, List.count_append, List.count_cons, List.count_nil]
  omega
theorem blk_below {w0 w w' : World} {v : Value} {T : TypeId} {k n : Nat} {xs : List Value} (hb : Below w0.heap.size w0 w) (hr : w.ownsRow w0.heap.size T k v n xs) (hg : w.grownBy w' v.ownBlock) : Below w0.heap.size w0 w' :=
  hb.trans ⟨hg.os, hg.tape, hg.output, hg.size, fun x hx => hg.block x (Nat.lt_of_lt_of_le hx hb.size) (fun e => by
    rcases ownsRow_shape hr with ⟨rfl, _⟩ | ⟨g, cap, rfl, h1, _⟩
    · simp [Value.ownBlock] at e
    · simp [Value.ownBlock] at e; omega)⟩
theorem room_next {r : List Ext} {i : Nat} {x : Ext} (h : r[i]? = some x) : r.drop i = x :: r.drop (i + 1) := by
  obtain ⟨h1, h2⟩ := List.getElem?_eq_some_iff.1 h
  rw [← h2, List.getElem_cons_drop]
theorem room_pos {r : List Ext} {i : Nat} (h : 0 < roomOf (r.drop i)) : i < r.length := by
  rcases Nat.lt_or_ge i r.length with h1 | h1
  · exact h1
  · rw [List.drop_eq_nil_of_le h1] at h; simp [roomOf] at h
set_option maxHeartbeats 8000000 in
theorem blocks_any (w : World) (vs vr : Value) (s : List Int) (r : List Ext) (hs : Bs w vs s) (hy : Byt s) (hr : Xs w vr r) (hw : ∀ x ∈ r, Wd x) (hn : r.length ≤ 65536) (hrm : s.length ≤ roomOf r) (hsl : s.length ≤ 5000000000) (hT : Tab w) (hX : NoX w) :
    Calls Tryd.prog 33 #[vs, vr] w fun e w' => ∃ v L, e = .returned v ∧ L.map plB = blksM r s ∧ BkS w' w.heap.size v L ∧ Below w.heap.size w w' := by
  obtain ⟨i1, hi1, hy0, hy1, hy2⟩ := info_parts2 Tryd.infoBk
  have HS : Hid (Bs w vs s) := hs
  obtain ⟨aos, caps, hvs, _⟩ := hs
  subst hvs
  obtain ⟨aor, capr, hvr, hcr, hxr⟩ := hr.opened
  subst hvr
  have HXR : Hid (∀ i, i < r.length → ∃ b off, aor = some ⟨b, off, none⟩ ∧ w.cell? ⟨b, off + i * 2, none⟩ = some (.int .i64 (r.getD i (0, 0)).1) ∧ w.cell? ⟨b, off + i * 2 + 1, none⟩ = some (.int .i64 (r.getD i (0, 0)).2) ∧ b < w.heap.size) := hxr
  have HWW : Hid (∀ (i : Nat) (x : Ext), r[i]? = some x → Wd x) := fun i x h => hw x (List.mem_of_getElem? h)
  have HT : Hid (Tab w) := hT
  have HX : Hid (NoX w) := hX
  have HRM : Hid (s.length ≤ roomOf r) := hrm
  have HY : Hid (Byt s) := hy
  obtain ⟨rn, HRN⟩ : ∃ rn, Hid (r.length = rn) := ⟨_, rfl⟩
  rw [HRN.out] at hcr hn ⊢
  have HB0 : Hid (BkS w w.heap.size (.slice none 0 0) []) := by
    refine ⟨fun p hp => ?_, ?_⟩
    · simp only [List.map_nil, List.mem_singleton] at hp
      subst hp
      exact ⟨rfl, .inl ⟨rfl, rfl⟩⟩
    · simp [rowBk, Pc.blk, Value.ownBlock]
  clear hr hxr hw hT hX hrm hy
  go_enter Tryd.func33, Tryd.ntmps33
  go_wp2_with fail
  go_loopw [6, 0, 5] (fun x y z wr => ∃ (i : Nat) (c : List Int) (ao : Option Addr) (n cap : Nat) (L : List Blk), i ≤ rn ∧ x = .int .i64 (i : Int) ∧ y = .slice ao n cap ∧ Hid (c.length = n) ∧ n ≤ 5000000000 ∧ Hid (Bs w (.slice ao n cap) c) ∧ Hid (Byt c) ∧ Hid (L.map plB ++ blksM (r.drop i) c = blksM r s) ∧ Hid (c.length ≤ roomOf (r.drop i)) ∧ Hid (L.length = i) ∧ Hid (BkS wr w.heap.size z L) ∧ Hid (Below w.heap.size w wr)) (fun x _ _ _ => rn - (intOf x).toNat)
  case atStart => exact ⟨0, s, aos, s.length, caps, [], Nat.zero_le _, rfl, rfl, rfl, hsl, HS.out, HY.out, rfl, HRM.out, rfl, HB0.out, Below.refl _ _⟩
  case round =>
    obtain ⟨i, c, ao, n, cap, L, hin, rfl, rfl, HCn, hn5, HBc, HYc, HM, HRc, HLi, HBk, HB⟩ := hrel
    by_cases hn0 : 0 < n
    · have hir : i < r.length := room_pos (by have := HRc.out; have := HCn.out; omega)
      have hirn : i < rn := by rw [← HRN.out]; exact hir
      obtain ⟨gr, or_, rfl, c1, c2, _⟩ := HXR.out i hir
      have hxm : r[i]? = some (r.getD i (0, 0)) := by simp [List.getD, hir]
      obtain ⟨b, off, cap', hao, hcap', _⟩ := HBc.out.opened (by rw [HCn.out]; exact hn0)
      rw [HCn.out] at hao
      injection hao with ea eb ec
      subst ea ec
      have hwx := HWW.out i _ hxm
      generalize r.getD i (0, 0) = x at *
      obtain ⟨hw0, hw1, hw2⟩ := hwx
      obtain ⟨q, HQ⟩ : ∃ q : Nat, Hid (q = min n (rmX x)) := ⟨_, rfl⟩
      have hq0 : q ≤ n := by rw [HQ.out]; exact Nat.min_le_left _ _
      have hq1 : 0 < q := by have := HQ.out; unfold rmX at this; omega
      have hqx : (q : Int) ≤ x.2 - 16 := by have := HQ.out; unfold rmX at this; omega
      have hmin : min (n : Int) (x.2 - 16) = (q : Int) := by have := HQ.out; unfold rmX at this; omega
      have hncap : n ≤ cap := by have h9 := hcap'; rw [HCn.out] at h9; exact h9
      have HRX : Hid (r.drop i = x :: r.drop (i + 1)) := room_next hxm
      have HTK : Hid (c.take (rmX x) = c.take q ∧ c.drop (rmX x) = c.drop q) := by
        have h9 := HQ.out
        have h8 := HCn.out
        rcases Nat.lt_or_ge (rmX x) n with h7 | h7
        · have e : q = rmX x := by omega
          rw [e]; exact ⟨rfl, rfl⟩
        · have e : q = n := by omega
          rw [e, List.take_of_length_le (by omega), List.take_of_length_le (by omega), List.drop_eq_nil_of_le (by omega), List.drop_eq_nil_of_le (by omega)]
          exact ⟨rfl, rfl⟩
      have HMN : Hid (∀ vb nx, nx = (if c.drop q = [] then ((0, 0) : Ext) else (r.drop (i + 1)).headD (0, 0)) → (L ++ [(x.1, vb, blkL (c.take q) nx x.2.toNat)]).map plB ++ blksM (r.drop (i + 1)) (c.drop q) = blksM r s) := by
        intro vb nx hnx
        rw [← HM.out, HRX.out, blksM_cons (by intro e; rw [e] at HCn; have := HCn.out; simp at this; omega), HTK.out.1, HTK.out.2, hnx, List.map_append, List.append_assoc]
        rfl
      have HRC2 : Hid ((c.drop q).length ≤ roomOf (r.drop (i + 1))) := by
        have h9 := HRc.out
        rw [HRX.out] at h9
        have h7 : roomOf (x :: r.drop (i + 1)) = rmX x + roomOf (r.drop (i + 1)) := by simp [roomOf]
        unfold Hid
        rw [List.length_drop]
        have h8 := HQ.out
        have h6 := HCn.out
        omega
      have HCL : Hid ((c.drop q).length = n - q) := by unfold Hid; rw [List.length_drop, HCn.out]
      have HTL : Hid ((c.take q).length = q) := by unfold Hid; rw [List.length_take, HCn.out]; omega
      have HYT : Hid (Byt (c.take q)) := byt_takeE HYc.out q
      have HYD : Hid (Byt (c.drop q)) := byt_dropE HYc.out q
      have HBT : Hid (Bs w (.slice (some ⟨b, off, none⟩) q cap) (c.take q)) := bs_front HBc.out q (by rw [HCn.out]; exact hq0)
      obtain ⟨aoL, capL, hvL⟩ := row_sliceE ((HBk.out).at_ (rowBk u5 L) (List.Mem.head _))
      subst hvL
      obtain ⟨ln, HLn⟩ : ∃ ln, Hid (L.length = ln) := ⟨_, rfl⟩
      have hln : ln ≤ 65536 := by rw [← HLn.out, HLi.out]; omega
      rw [HLn.out] at HBk ⊢
      have HCN : Hid (∀ W, Below wr.heap.size wr W → Below w.heap.size w W) := fun W h => HB.out.trans (h.mono HB.out.size)
      have d1 : wr.cell? ⟨gr, or_ + i * 2, none⟩ = some (.int .i64 x.1) := (HB.out.cell (World.block_lt_of_cell? w _ c1)).trans c1
      have d2 : wr.cell? ⟨gr, or_ + i * 2 + 1, none⟩ = some (.int .i64 x.2) := (HB.out.cell (World.block_lt_of_cell? w _ c2)).trans c2
      obtain ⟨z1, z2⟩ := HX.out.below HB.out
      have z3 : 0 < wr.heap.size := World.block_lt_of_cell? wr _ z1
      have y3 : gr < wr.heap.size := World.block_lt_of_cell? wr _ d1
      have y4 : ¬ wr.heap.size = gr := by omega
      have y5 : ¬ gr = wr.heap.size := by omega
      have z4 : ¬ wr.heap.size = 0 := by omega
      have z5 : ¬ 0 = wr.heap.size := by omega
      have hirni : (i : Int) < (rn : Int) := by omega
      have hn0i : (0 : Int) < (n : Int) := by omega
      go_upto_region 5 with fail
      go_cut [7, 8] (fun p7 p8 wc => ∃ b7 b8, p7 = .pointer (some ⟨b7, 0, none⟩) ∧ p8 = .pointer (some ⟨b8, 0, none⟩) ∧ Hid (b7 ≠ b8) ∧ Hid (wr.heap.size ≤ b7) ∧ Hid (wr.heap.size ≤ b8) ∧ Hid (wc.heap[b7]? = some (.cells #[.int .i64 x.1, .int .i64 x.2] 49 (0, 0))) ∧ Hid (wc.heap[b8]? = some (.cells #[.int .i64 0, .int .i64 0] 49 (0, 0))) ∧ Hid (Below wr.heap.size wr wc))
      case first =>
        go_region
        all_goals go_wp2_with fail
        all_goals go_meet
        · obtain ⟨h1, h2, h3⟩ := al2 wr #[.int .i64 x.1, .int .i64 x.2] #[.int .i64 0, .int .i64 0] 49
          exact ⟨_, _, rfl, rfl, by unfold Hid; omega, Nat.le_refl _, Nat.le_succ _, h1, h2, h3⟩
        · obtain ⟨h1, h2, h3⟩ := al2 wr #[.int .i64 0, .int .i64 0] #[.int .i64 x.1, .int .i64 x.2] 49
          exact ⟨_, _, rfl, rfl, by unfold Hid; omega, Nat.le_succ _, Nat.le_refl _, h2, h1, h3⟩
      case rest =>
        obtain ⟨b7, b8, rfl, rfl, HN78, H7, H8, HO7, HO8, HBw⟩ := hcut
        clear d1 d2 z1 z2 z3 z4 z5 y3 y4 y5
        have HBW : Hid (Below w.heap.size w wc) := HCN.out wc HBw.out
        have e70 := cellO HO7.out 0 rfl
        have e71 := cellO HO7.out 1 rfl
        have e80 := cellO HO8.out 0 rfl
        have e81 := cellO HO8.out 1 rfl
        have f80 := frozenO HO8.out 0
        have f81 := frozenO HO8.out 1
        have hqn : (q : Int) ≤ (n : Int) := by omega
        have hq0i : (0 : Int) ≤ (q : Int) := by omega
        have hcapi : (n : Int) ≤ (cap : Int) := by omega
        have HW : Hid (∃ nx : Ext, nx = (if c.drop q = [] then ((0, 0) : Ext) else (r.drop (i + 1)).headD (0, 0)) ∧ 0 ≤ nx.1 ∧ nx.1 ≤ 4194304 ∧ 0 ≤ nx.2 ∧ nx.2 ≤ 4194304 ∧ (q < n → i + 1 < rn ∧ w.cell? ⟨gr, or_ + (i + 1) * 2, none⟩ = some (.int .i64 nx.1) ∧ w.cell? ⟨gr, or_ + (i + 1) * 2 + 1, none⟩ = some (.int .i64 nx.2)) ∧ (¬ q < n → nx = (0, 0))) := by
          rcases Nat.lt_or_ge q n with hqn2 | hqn2
          · have hne : c.drop q ≠ [] := by intro e; have h9 := HCL.out; rw [e] at h9; simp at h9; omega
            have hr1 : i + 1 < r.length := room_pos (by have h9 := HRC2.out; rw [HCL.out] at h9; omega)
            obtain ⟨gr', or', hgr, p1, p2, _⟩ := HXR.out (i + 1) hr1
            cases hgr
            have hm1 : r[i + 1]? = some (r.getD (i + 1) (0, 0)) := by simp [List.getD, hr1]
            obtain ⟨v0, v1, v2⟩ := HWW.out (i + 1) _ hm1
            refine ⟨r.getD (i + 1) (0, 0), ?_, v0, by omega, by omega, by omega, fun _ => ⟨by rw [← HRN.out]; exact hr1, p1, p2⟩, fun h => absurd hqn2 h⟩
            rw [if_neg hne, room_next hm1]; rfl
          · have he : c.drop q = [] := List.drop_eq_nil_of_le (by rw [HCn.out]; exact hqn2)
            refine ⟨(0, 0), by rw [if_pos he], by simp, by simp, by simp, by simp, fun h => absurd h (by omega), fun _ => rfl⟩
        obtain ⟨nx, hnx, n0, n1, n2, n3, hnlt, hnge⟩ := HW.out
        have HNX : Hid (nx = (if c.drop q = [] then ((0, 0) : Ext) else (r.drop (i + 1)).headD (0, 0))) := hnx
        clear hnx HW
        have HBP : Hid (∀ W, Below wr.heap.size wr W → Calls Tryd.prog 52 #[.slice (some ⟨b, off, none⟩) q cap, .agg #[.int .i64 nx.1, .int .i64 nx.2], .int .i64 x.2] W fun e w' => ∃ g, e = .returned (.slice (some ⟨g, 0, none⟩) x.2.toNat x.2.toNat) ∧ W.heap.size ≤ g ∧ Row w' g (blkL (c.take q) nx x.2.toNat) ∧ Below W.heap.size W w') := by
          intro W hW
          have h9 := blockBytes_any W (.slice (some ⟨b, off, none⟩) q cap) (c.take q) nx x.2.toNat (HBT.out.below (HCN.out W hW)) HYT.out (by rw [HTL.out]; omega) (by omega) ⟨n0, by omega⟩ ⟨n2, by omega⟩ (HT.out.below (HCN.out W hW))
          rw [show ((x.2.toNat : Nat) : Int) = x.2 by omega] at h9
          exact h9
        have HBc' : Hid (Bs w (.slice (some ⟨b, off, none⟩) n cap) c) := HBc.out
        have HBLl : Hid ((blkL (c.take q) nx x.2.toNat).length = x.2.toNat) := blkL_length (by rw [HTL.out]; omega)
        by_cases hrest : q < n
        · obtain ⟨hi1r, p1, p2⟩ := hnlt hrest
          have p1' : wc.cell? ⟨gr, or_ + (i + 1) * 2, none⟩ = some (.int .i64 nx.1) := (HBW.out.cell (World.block_lt_of_cell? w _ p1)).trans p1
          have p2' : wc.cell? ⟨gr, or_ + (i + 1) * 2 + 1, none⟩ = some (.int .i64 nx.2) := (HBW.out.cell (World.block_lt_of_cell? w _ p2)).trans p2
          have hi1i : (i : Int) + 1 < (rn : Int) := by omega
          clear p1 p2 hnlt hnge
          go_upto_region 10 with fail
          obtain ⟨wd, hwd⟩ : ∃ wd, (wc.setCell ⟨b8, 0, none⟩ (.int .i64 nx.1)).setCell ⟨b8, 1, none⟩ (.int .i64 nx.2) = wd := ⟨_, rfl⟩
          have HWD : Hid (Below wr.heap.size wr wd) := by unfold Hid; rw [← hwd]; exact below_set8 (below_set8 HBw.out _ _ H8.out) _ _ H8.out
          have HP7 : Hid (wd.heap[b7]? = some (.cells #[.int .i64 x.1, .int .i64 x.2] 49 (0, 0))) := by
            unfold Hid
            rw [← hwd, Below.heap_setCell _ _ _ _ HN78.out, Below.heap_setCell _ _ _ _ HN78.out]
            exact HO7.out
          have HP8 : Hid (wd.heap[b8]? = some (.cells #[.int .i64 nx.1, .int .i64 nx.2] 49 (0, 0))) := by
            unfold Hid
            rw [← hwd]
            have h1 := heap_setCell_same wc b8 0 _ _ (.int .i64 nx.1) HO8.out
            have h2 := heap_setCell_same _ b8 1 _ _ (.int .i64 nx.2) h1
            rw [h2]
            rfl
          rw [hwd]
          clear hwd p1' p2'
          have HD : Hid (Below wr.heap.size wr wd.drew) := HWD.out.drew
          have HBD : Hid (Below w.heap.size w wd) := HCN.out wd HWD.out
          have HKS : Hid (BkS wd w.heap.size (.slice aoL ln capL) L) := HBk.out.below HWD.out
          clear e70 e71 e80 e81 f80 f81 HO7 HO8 HBw HBW HBk HBc HM HRc
          have e70 := cellO HP7.out 0 rfl
          have e71 := cellO HP7.out 1 rfl
          have e80 := cellO HP8.out 0 rfl
          have e81 := cellO HP8.out 1 rfl
          go_region_law (first
            | (refine step_call rfl 52 (enters_of Tryd.func52 (by kernel_rfl) rfl) #[.tmp 43, .tmp 44, .tmp 46] _ rfl _ (by go_simp) (fun v w' => ∃ g, v = .slice (some ⟨g, 0, none⟩) x.2.toNat x.2.toNat ∧ wd.heap.size ≤ g ∧ Row w' g (blkL (c.take q) nx x.2.toNat) ∧ Below wd.heap.size wd w') (Calls.mono (HBP.out _ HD.out) (by rintro e w' ⟨g, rfl, h1, h2, h3⟩; exact ⟨_, rfl, g, rfl, h1, h2, below_undrew h3⟩)) ?_; rintro v9 w9 ⟨g9, rfl, hg9, hr9, hb9⟩; have e70n : w9.cell? ⟨b7, 0, none⟩ = some (.int .i64 x.1) := (hb9.cell (World.block_lt_of_cell? wd _ e70)).trans e70; have HGX : Hid ((w9.alloc (.cells #[.int .i64 x.1, .slice (some ⟨g9, 0, none⟩) x.2.toNat x.2.toNat] 47)).heap[w9.heap.size]? = some (.cells #[.int .i64 x.1, .slice (some ⟨g9, 0, none⟩) x.2.toNat x.2.toNat] 47 (0, 0))) := heap_alloc_new w9 _; have HS9 : Hid (Sep (w9.alloc (.cells #[.int .i64 x.1, .slice (some ⟨g9, 0, none⟩) x.2.toNat x.2.toNat] 47)) w.heap.size ([byR (x.1, .slice (some ⟨g9, 0, none⟩) x.2.toNat x.2.toNat, blkL (c.take q) nx x.2.toNat)] ++ rowBk (.slice aoL ln capL) L :: L.map byR)) := blk_new HKS.out hb9 (Nat.le_trans HBD.out.size hg9) hg9 hr9 HBLl.out (by omega) _; have HB9 : Hid (Below w.heap.size w (w9.alloc (.cells #[.int .i64 x.1, .slice (some ⟨g9, 0, none⟩) x.2.toNat x.2.toNat] 47))) := (HBD.out.trans (hb9.mono HBD.out.size)).alloc (Nat.le_trans HBD.out.size hb9.size) _; have HRW : Hid ((w9.alloc (.cells #[.int .i64 x.1, .slice (some ⟨g9, 0, none⟩) x.2.toNat x.2.toNat] 47)).ownsRow w.heap.size 47 2 (.slice aoL ln capL) ln (gc encBk L)) := (by have h := HS9.out.at_ (rowBk (.slice aoL ln capL) L) (by simp); have h' : (w9.alloc (.cells #[.int .i64 x.1, .slice (some ⟨g9, 0, none⟩) x.2.toNat x.2.toNat] 47)).ownsRow w.heap.size 47 2 (.slice aoL ln capL) L.length (gc encBk L) := h; rw [HLn.out] at h'; exact h'); clear hg9 hr9 hb9)
            | (refine step_append_G 50 rfl rfl (.tmp 40) (.tmp 49) 35 47 rfl i1 Tryd.underlying35 hi1 _ hy0 2 32 hy1 hy2 rfl (by omega) w.heap.size (.slice aoL ln capL) ln (gc encBk L) ⟨w9.heap.size, 0, none⟩ 1 1 [.int .i64 x.1, .slice (some ⟨g9, 0, none⟩) x.2.toNat x.2.toNat] rfl rfl HRW.out rfl (news_one HGX.out) (by intro u hu; simp at hu; rcases hu with rfl | rfl <;> rfl) (by omega) (by omega) (by omega) HB9.out.size ?_; intro g3 cap3 w3 ho3 hg3 ha3; have HS3 : Hid (BkS w3 w.heap.size (.slice (some ⟨g3, 0, none⟩) (ln + 1) cap3) (L ++ [(x.1, .slice (some ⟨g9, 0, none⟩) x.2.toNat x.2.toNat, blkL (c.take q) nx x.2.toNat)])) := blk_turn HLn.out HS9.out ho3 hg3 ha3; have HB3 : Hid (Below w.heap.size w w3) := blk_below HB9.out HRW.out hg3; clear ho3 hg3 ha3))
          all_goals
            go_wp2_with fail
            go_roundw
            case rel => exact ⟨i + 1, c.drop q, _, n - q, cap - q, L ++ [((x.1, Value.slice (some ⟨g9, 0, none⟩) x.2.toNat x.2.toNat, blkL (c.take q) nx x.2.toNat) : Blk)], by omega, by simp, rfl, HCL.out, by omega, bs_drop HBc'.out HCn.out hq0 _ (fun _ => rfl) (by simp), HYD.out, HMN.out (Value.slice (some ⟨g9, 0, none⟩) x.2.toNat x.2.toNat) nx HNX.out, HRC2.out, by unfold Hid; rw [List.length_append, HLi.out]; rfl, HS3.out, HB3.out⟩
            case measure => simp [intOf]; omega
        · have e9 : nx = (0, 0) := hnge hrest
          obtain rfl : q = n := by omega
          clear hnlt hnge
          go_upto_region 10 with fail
          obtain ⟨wd, hwd⟩ : ∃ wd, wc = wd := ⟨_, rfl⟩
          have HWD : Hid (Below wr.heap.size wr wd) := by unfold Hid; rw [← hwd]; exact HBw.out
          have HP7 : Hid (wd.heap[b7]? = some (.cells #[.int .i64 x.1, .int .i64 x.2] 49 (0, 0))) := by unfold Hid; rw [← hwd]; exact HO7.out
          have HP8 : Hid (wd.heap[b8]? = some (.cells #[.int .i64 nx.1, .int .i64 nx.2] 49 (0, 0))) := by unfold Hid; rw [← hwd, e9]; exact HO8.out
          rw [hwd]
          clear hwd e9
          have HD : Hid (Below wr.heap.size wr wd.drew) := HWD.out.drew
          have HBD : Hid (Below w.heap.size w wd) := HCN.out wd HWD.out
          have HKS : Hid (BkS wd w.heap.size (.slice aoL ln capL) L) := HBk.out.below HWD.out
          clear e70 e71 e80 e81 f80 f81 HO7 HO8 HBw HBW HBk HBc HM HRc
          have e70 := cellO HP7.out 0 rfl
          have e71 := cellO HP7.out 1 rfl
          have e80 := cellO HP8.out 0 rfl
          have e81 := cellO HP8.out 1 rfl
          go_region_law (first
            | (refine step_call rfl 52 (enters_of Tryd.func52 (by kernel_rfl) rfl) #[.tmp 43, .tmp 44, .tmp 46] _ rfl _ (by go_simp) (fun v w' => ∃ g, v = .slice (some ⟨g, 0, none⟩) x.2.toNat x.2.toNat ∧ wd.heap.size ≤ g ∧ Row w' g (blkL (c.take q) nx x.2.toNat) ∧ Below wd.heap.size wd w') (Calls.mono (HBP.out _ HD.out) (by rintro e w' ⟨g, rfl, h1, h2, h3⟩; exact ⟨_, rfl, g, rfl, h1, h2, below_undrew h3⟩)) ?_; rintro v9 w9 ⟨g9, rfl, hg9, hr9, hb9⟩; have e70n : w9.cell? ⟨b7, 0, none⟩ = some (.int .i64 x.1) := (hb9.cell (World.block_lt_of_cell? wd _ e70)).trans e70; have HGX : Hid ((w9.alloc (.cells #[.int .i64 x.1, .slice (some ⟨g9, 0, none⟩) x.2.toNat x.2.toNat] 47)).heap[w9.heap.size]? = some (.cells #[.int .i64 x.1, .slice (some ⟨g9, 0, none⟩) x.2.toNat x.2.toNat] 47 (0, 0))) := heap_alloc_new w9 _; have HS9 : Hid (Sep (w9.alloc (.cells #[.int .i64 x.1, .slice (some ⟨g9, 0, none⟩) x.2.toNat x.2.toNat] 47)) w.heap.size ([byR (x.1, .slice (some ⟨g9, 0, none⟩) x.2.toNat x.2.toNat, blkL (c.take q) nx x.2.toNat)] ++ rowBk (.slice aoL ln capL) L :: L.map byR)) := blk_new HKS.out hb9 (Nat.le_trans HBD.out.size hg9) hg9 hr9 HBLl.out (by omega) _; have HB9 : Hid (Below w.heap.size w (w9.alloc (.cells #[.int .i64 x.1, .slice (some ⟨g9, 0, none⟩) x.2.toNat x.2.toNat] 47))) := (HBD.out.trans (hb9.mono HBD.out.size)).alloc (Nat.le_trans HBD.out.size hb9.size) _; have HRW : Hid ((w9.alloc (.cells #[.int .i64 x.1, .slice (some ⟨g9, 0, none⟩) x.2.toNat x.2.toNat] 47)).ownsRow w.heap.size 47 2 (.slice aoL ln capL) ln (gc encBk L)) := (by have h := HS9.out.at_ (rowBk (.slice aoL ln capL) L) (by simp); have h' : (w9.alloc (.cells #[.int .i64 x.1, .slice (some ⟨g9, 0, none⟩) x.2.toNat x.2.toNat] 47)).ownsRow w.heap.size 47 2 (.slice aoL ln capL) L.length (gc encBk L) := h; rw [HLn.out] at h'; exact h'); clear hg9 hr9 hb9)
            | (refine step_append_G 50 rfl rfl (.tmp 40) (.tmp 49) 35 47 rfl i1 Tryd.underlying35 hi1 _ hy0 2 32 hy1 hy2 rfl (by omega) w.heap.size (.slice aoL ln capL) ln (gc encBk L) ⟨w9.heap.size, 0, none⟩ 1 1 [.int .i64 x.1, .slice (some ⟨g9, 0, none⟩) x.2.toNat x.2.toNat] rfl rfl HRW.out rfl (news_one HGX.out) (by intro u hu; simp at hu; rcases hu with rfl | rfl <;> rfl) (by omega) (by omega) (by omega) HB9.out.size ?_; intro g3 cap3 w3 ho3 hg3 ha3; have HS3 : Hid (BkS w3 w.heap.size (.slice (some ⟨g3, 0, none⟩) (ln + 1) cap3) (L ++ [(x.1, .slice (some ⟨g9, 0, none⟩) x.2.toNat x.2.toNat, blkL (c.take q) nx x.2.toNat)])) := blk_turn HLn.out HS9.out ho3 hg3 ha3; have HB3 : Hid (Below w.heap.size w w3) := blk_below HB9.out HRW.out hg3; clear ho3 hg3 ha3))
          all_goals
            go_wp2_with fail
            go_roundw
            case rel => exact ⟨i + 1, c.drop q, _, 0, cap - q, L ++ [((x.1, Value.slice (some ⟨g9, 0, none⟩) x.2.toNat x.2.toNat, blkL (c.take q) nx x.2.toNat) : Blk)], by omega, by simp, rfl, by have := HCL.out; rw [Nat.sub_self] at this; exact this, by omega, by have h9 := bs_drop HBc'.out HCn.out (Nat.le_refl q) (if cap = q then some ⟨b, off, none⟩ else some ⟨b, off + q, none⟩) (fun h => absurd h (by omega)) (by split <;> simp); rw [Nat.sub_self] at h9; exact h9, HYD.out, HMN.out (Value.slice (some ⟨g9, 0, none⟩) x.2.toNat x.2.toNat) nx HNX.out, HRC2.out, by unfold Hid; rw [List.length_append, HLi.out]; rfl, HS3.out, HB3.out⟩
            case measure => simp [intOf]; omega
    · have hn00 : n = 0 := by omega
      subst hn00
      have HCe : Hid (c = []) := List.eq_nil_of_length_eq_zero HCn.out
      have HE : Hid (L.map plB = blksM r s) := by have h9 := HM.out; rw [HCe.out, blksM_nil, List.append_nil] at h9; exact h9
      go_wp2_with fail
      go_ret
      exact ⟨_, L, rfl, HE.out, HBk.out, HB.out⟩
end Go.Proofs.YtdalkjenjnalbaaDoor
