/-
  split: a child that has an item too many becomes two. Conditions: lengths are such as memory bears.
-/
import Derived.Test.YtelfjgnmbikofaaBNd
import Derived.Deep.DeepCutAuto
namespace Go.Proofs.Ytelfjgnmbikofaa
open Go.RowKit
set_option linter.unusedVariables false
set_option maxRecDepth 100000

set_option maxHeartbeats 4000000 in
theorem split_leaf {w : World} {B n c a : Nat} {vI vC wI wC : Value} {L M : List It} {cs : List Nat} {R : List Pc}
    (hS : Sep w B (ndp n vI vC L cs ++ (ndp c wI wC M [] ++ R))) (hat : cs[a]? = some c) (hL : a ≤ L.length) (hLn : L.length ≤ 1000) (hcn : cs.length ≤ 1000) (hM3 : 3 ≤ M.length) (hMn : M.length ≤ 1000) (hB : B ≤ w.heap.size) :
    Calls Try.prog 47 #[.pointer (some ⟨n, 0, none⟩), .int .i64 (a : Int)] w fun e w' => e = .returned (.tuple #[]) ∧ ∃ up r vI' vC' wI' wC' rI rC, M[M.length / 2]? = some up ∧ Sep w' B (ndp n vI' vC' (L.take a ++ up :: L.drop a) (cs.take (a + 1) ++ r :: cs.drop (a + 1)) ++ (ndp c wI' wC' (M.take (M.length / 2)) [] ++ (ndp r rI rC (M.drop (M.length / 2 + 1)) [] ++ R))) ∧ Below B w w' := by
  have HS : Hid (Sep w B (ndp n vI vC L cs ++ (ndp c wI wC M [] ++ R))) := hS
  have hN := hS.nd_ []
  have hC := hS.nd_ (ndp n vI vC L cs)
  obtain ⟨n0, n1, _, _⟩ := hN.c
  obtain ⟨c0, c1, _, _⟩ := hC.c
  have hal := (List.getElem?_eq_some_iff.1 hat).1
  obtain ⟨gC, capC, rfl, hC1, hC2, _, _, _, hCc⟩ := row_some hN.rC (by omega)
  obtain ⟨gI, capI, rfl, hI1, hI2, _, _, _, hIc⟩ := row_some hC.rI (by omega)
  have ca := hCc _ _ (gcP_at hat)
  obtain ⟨up, hup⟩ : ∃ up, M[M.length / 2]? = some up := ⟨M[M.length / 2]'(by omega), List.getElem?_eq_getElem _⟩
  have m0 := hIc _ _ (gc_at encI_len M _ _ hup 0 _ rfl)
  have m1 := hIc _ _ (gc_at encI_len M _ _ hup 1 _ rfl)
  rw [Nat.add_zero] at m0
  have HB1 : Hid (Below w.heap.size w (w.alloc (.cells #[.string up.1, .int .u64 up.2] 69))) := (Below.refl _ _).alloc (Nat.le_refl _) _
  have HX1 : Hid ((w.alloc (.cells #[.string up.1, .int .u64 up.2] 69)).heap[w.heap.size]? = some (.cells #[.string up.1, .int .u64 up.2] 69 (0, 0))) := heap_alloc_new w _
  have HCL : Hid _ := scloneI (w := w.alloc (.cells #[.string up.1, .int .u64 up.2] 69)) (B := B) (m := M.length - (M.length / 2 + 1)) (c := capI - (M.length / 2 + 1)) (ad := ⟨gI, (M.length / 2 + 1) * 2, none⟩) (L := M.drop (M.length / 2 + 1)) (by simp) (by omega) (fun j u hu => by
    rw [← gc_drop encI_len, List.getElem?_drop] at hu
    rw [addG]
    exact (HB1.out.cell (by assumption)).trans (hIc _ _ hu)) (Nat.le_trans hB HB1.out.size) (by omega)
  have HUP : Hid (M[M.length / 2]? = some up) := hup
  have HAT : Hid (cs[a]? = some c) := hat
  obtain ⟨m, HM⟩ : ∃ m, Hid (M.length = m) := ⟨_, rfl⟩
  obtain ⟨q, HQ⟩ : ∃ q, Hid (cs.length = q) := ⟨_, rfl⟩
  rw [HM.out] at m0 m1 hI1 hM3 hMn c0 HCL HUP ⊢
  rw [HQ.out] at hal hC1 hcn n1
  have hcm : ¬ capI = m / 2 + 1 := by omega
  have c0' := (HB1.out.cell (World.block_lt_of_cell? w _ c0)).trans c0
  clear hCc hIc hS hN hC hup hat
  go_enter Try.func47, Try.ntmps47
  go_upto_region 4 with (go_at_call 58; refine Calls.mono HCL.out ?_; rintro e w2 ⟨gR, capR, rfl, ho2, hb2, hg2⟩; have HO2 : Hid (w2.ownsRow B 69 2 (.slice (some ⟨gR, 0, none⟩) (m - (m / 2 + 1)) capR) (m - (m / 2 + 1)) (gc encI (M.drop (m / 2 + 1)))) := ho2; have HB2 : Hid (Below (w.alloc (.cells #[.string up.1, .int .u64 up.2] 69)).heap.size (w.alloc (.cells #[.string up.1, .int .u64 up.2] 69)) w2) := hb2; have HG2 : Hid ((w.alloc (.cells #[.string up.1, .int .u64 up.2] 69)).heap.size ≤ gR) := hg2; clear ho2 hb2 hg2)
  have HB2' : Hid (Below w.heap.size w w2) := HB1.out.trans (HB2.out.mono HB1.out.size)
  have HB3 : Hid (Below w.heap.size w (w2.alloc (.cells #[(.slice (some ⟨gR, 0, none⟩) (m - (m / 2 + 1)) capR), .slice none 0 0] 73))) := HB2'.out.alloc HB2'.out.size _
  have HS3 : Hid (Sep (w2.alloc (.cells #[(.slice (some ⟨gR, 0, none⟩) (m - (m / 2 + 1)) capR), .slice none 0 0] 73)) B (ndp n vI (.slice (some ⟨gC, 0, none⟩) q capC) L cs ++ (ndp c (.slice (some ⟨gI, 0, none⟩) m capI) wC M [] ++ (ndp w2.heap.size (.slice (some ⟨gR, 0, none⟩) (m - (m / 2 + 1)) capR) (.slice none 0 0) (M.drop (m / 2 + 1)) [] ++ (.obj w.heap.size #[.string up.1, .int .u64 up.2] 69 :: R))))) := by
    have h := HS.out
    rw [HM.out, HQ.out] at h
    have hml : (M.drop (m / 2 + 1)).length = m - (m / 2 + 1) := by rw [List.length_drop, HM.out]
    have h0 : Sep (w.alloc (.cells #[.string up.1, .int .u64 up.2] 69)) B (.obj w.heap.size #[.string up.1, .int .u64 up.2] 69 :: (ndp n vI (.slice (some ⟨gC, 0, none⟩) q capC) L cs ++ (ndp c (.slice (some ⟨gI, 0, none⟩) m capI) wC M [] ++ R))) := h.new HB1.out ⟨HX1.out, hB⟩ (by simp [Pc.blk])
    have h1 : Sep (w.alloc (.cells #[.string up.1, .int .u64 up.2] 69)) B (ndp n vI (.slice (some ⟨gC, 0, none⟩) q capC) L cs ++ (ndp c (.slice (some ⟨gI, 0, none⟩) m capI) wC M [] ++ (.obj w.heap.size #[.string up.1, .int .u64 up.2] 69 :: R))) := h0.perm (perm_obj _ _ _ _)
    have h5 := Sep.ndNew h1 HB2.out hml HO2.out HG2.out (Nat.le_trans hB HB2'.out.size)
    exact h5.perm ((perm_blk _ _ _).trans (List.Perm.append_left _ (perm_blk _ _ _)))
  generalize w2.alloc (.cells #[(.slice (some ⟨gR, 0, none⟩) (m - (m / 2 + 1)) capR), .slice none 0 0] 73) = w3 at HB3 HS3 ⊢
  obtain ⟨r, HRr⟩ : ∃ r, Hid (r = w2.heap.size) := ⟨_, rfl⟩
  rw [← HRr.out] at HS3 ⊢
  have HD3 : Hid (Below w3.heap.size w3 w3.drew) := (Below.refl _ _).drew
  have HS3d : Hid (Sep w3.drew B (ndp n vI (.slice (some ⟨gC, 0, none⟩) q capC) L cs ++ (ndp c (.slice (some ⟨gI, 0, none⟩) m capI) wC M [] ++ (ndp r (.slice (some ⟨gR, 0, none⟩) (m - (m / 2 + 1)) capR) (.slice none 0 0) (M.drop (m / 2 + 1)) [] ++ (.obj w.heap.size #[.string up.1, .int .u64 up.2] 69 :: R))))) := HS3.out.below HD3.out
  obtain ⟨k0, k1, kf0, kf1⟩ := (HS3.out.nd_ (ndp n vI (.slice (some ⟨gC, 0, none⟩) q capC) L cs)).c
  have HRW3 : Hid (w3.drew.ownsRow B 69 2 (.slice (some ⟨gI, 0, none⟩) m capI) m (gc encI M)) := by have := (HS3d.out.nd_ (ndp n vI (.slice (some ⟨gC, 0, none⟩) q capC) L cs)).rI; rw [HM.out] at this; exact this
  have HBB3 : Hid (Below B w w3.drew) := (HB3.out.mono hB).drew
  have HLX : Hid ((M.take (m / 2)).length = m / 2) := by unfold Hid; rw [List.length_take, HM.out]; omega
  have HLM : Hid (M.take (m / 2) ++ M.drop m = M.take (m / 2)) := by unfold Hid; rw [List.drop_of_length_le (by rw [HM.out]; exact Nat.le_refl _), List.append_nil]
  have HQM : Hid (m - (m - m / 2) = m / 2) := by unfold Hid; omega
  clear c0 c1 n0 n1 c0' ca m0 m1 HCL HS HB1 HX1 HO2 HB2 HG2 HB2' HB3
  go_cut [38] (fun t wc => t = .pointer (some ⟨c, 0, none⟩) ∧ Hid (Sep wc B (ndp n vI (.slice (some ⟨gC, 0, none⟩) q capC) L cs ++ (ndp c (.slice (some ⟨gI, 0, none⟩) (m / 2) capI) wC (M.take (m / 2)) [] ++ (ndp r (.slice (some ⟨gR, 0, none⟩) (m - (m / 2 + 1)) capR) (.slice none 0 0) (M.drop (m / 2 + 1)) [] ++ (.obj w.heap.size #[.string up.1, .int .u64 up.2] 69 :: R))))) ∧ Hid (Below B w wc))
  case first =>
    go_region_law (refine step_sdelI rfl (.tmp 42) (.tmp 43) (.tmp 48) rfl HM.out HRW3.out (m / 2) m (by omega) (Nat.le_refl _) (by omega) rfl rfl (by omega) rfl rfl ?_; rw [HQM.out, HLM.out]; intro w4 ho4 hg4; have h4 := HS3d.out.ndI (wI' := (.slice (some ⟨gI, 0, none⟩) (m / 2) capI)) (M' := M.take (m / 2)) (ndp n vI (.slice (some ⟨gC, 0, none⟩) q capC) L cs) (by rw [HLX.out]; exact ho4) hg4 (Or.inl rfl); have HS4 : Hid (Sep (w4.setCell ⟨c, 0, none⟩ (.slice (some ⟨gI, 0, none⟩) (m / 2) capI)) B (ndp n vI (.slice (some ⟨gC, 0, none⟩) q capC) L cs ++ (ndp c (.slice (some ⟨gI, 0, none⟩) (m / 2) capI) wC (M.take (m / 2)) [] ++ (ndp r (.slice (some ⟨gR, 0, none⟩) (m - (m / 2 + 1)) capR) (.slice none 0 0) (M.drop (m / 2 + 1)) [] ++ (.obj w.heap.size #[.string up.1, .int .u64 up.2] 69 :: R))))) := h4.2; have z0 := cellO h4.1 0 rfl; have z1 := frozenO h4.1 0; have HB4 : Hid (Below B w w4) := below_gr HBB3.out (Nat.le_trans hB HBB3.out.size) HRW3.out hg4; have HB5 : Hid (Below B w (w4.setCell ⟨c, 0, none⟩ (.slice (some ⟨gI, 0, none⟩) (m / 2) capI))) := HB4.out.setCell (HS3d.out.nd_ (ndp n vI (.slice (some ⟨gC, 0, none⟩) q capC) L cs)).bn _; clear ho4 hg4 h4)
    all_goals (go_wp2_with fail)
    all_goals (go_meet; exact ⟨rfl, HS4.out, HB5.out⟩)
  case rest =>
    obtain ⟨rfl, HS5, HB5⟩ := hcut
    generalize wc = w5 at *
    clear HRW3 HS3 HS3d HBB3 HD3 k0 k1 kf0 kf1
    obtain ⟨k0, k1, kf0, kf1⟩ := (HS5.out.nd_ (ndp n vI (.slice (some ⟨gC, 0, none⟩) q capC) L cs)).c
    obtain ⟨ao, capL, rfl⟩ := row_zero (HS5.out.nd_ (ndp n vI (.slice (some ⟨gC, 0, none⟩) q capC) L cs)).rC
    have HIL : Hid _ := isLeaf_z (n := c) (w := w5) (ao := ao) (cap := capL) k1
    obtain ⟨n0, n1, nf0, nf1⟩ := (HS5.out.nd_ []).c
    obtain ⟨l, HLL⟩ : ∃ l, Hid (L.length = l) := ⟨_, rfl⟩
    rw [HLL.out] at hL hLn
    have u0 : w5.heap[w.heap.size]? = some (.cells #[.string up.1, .int .u64 up.2] 69 (0, 0)) := HS5.out.obj (by simp)
    have u1 := cellO u0 0 rfl
    have u2 := cellO u0 1 rfl
    have HBz : Hid (B ≤ w5.heap.size) := Nat.le_trans hB HB5.out.size
    have HWA : Hid (Below w5.heap.size w5 (w5.alloc (.cells (encI up).toArray 69)).drew) := ((Below.refl _ _).alloc (Nat.le_refl _) _).drew
    have HGX : Hid ((w5.alloc (.cells (encI up).toArray 69)).drew.heap[w5.heap.size]? = some (.cells (encI up).toArray 69 (0, 0))) := heap_alloc_new w5 _
    have HSA : Hid (Sep (w5.alloc (.cells (encI up).toArray 69)).drew B (ndp n vI (.slice (some ⟨gC, 0, none⟩) q capC) L cs ++ (ndp c (.slice (some ⟨gI, 0, none⟩) (m / 2) capI) (.slice ao 0 capL) (M.take (m / 2)) [] ++ (ndp r (.slice (some ⟨gR, 0, none⟩) (m - (m / 2 + 1)) capR) (.slice none 0 0) (M.drop (m / 2 + 1)) [] ++ (.obj w.heap.size #[.string up.1, .int .u64 up.2] 69 :: R))))) := HS5.out.below HWA.out
    have HRA : Hid ((w5.alloc (.cells (encI up).toArray 69)).drew.ownsRow B 69 2 vI l (gc encI L)) := by have := (HSA.out.nd_ []).rI; rw [HLL.out] at this; exact this
    have HNE : Hid (vI.ownBlock ≠ some w5.heap.size) := fun e => by have := (World.ownsRow.lt (HS5.out.nd_ []).rI _ e).2; omega
    have HBA : Hid (Below B w (w5.alloc (.cells (encI up).toArray 69)).drew) := HB5.out.trans (HWA.out.mono HBz.out)
    have HLY : Hid ((L.take a ++ up :: L.drop a).length = l + 1) := by unfold Hid; rw [List.length_append, List.length_cons, List.length_take, List.length_drop, HLL.out]; omega
    have n0' : (w5.alloc (.cells #[.string up.1, .int .u64 up.2] 69)).cell? ⟨n, 0, none⟩ = some vI := cellO (HSA.out.nd_ []).o 0 rfl
    clear u0
    go_upto_region 8 with (go_at_call 45; refine Calls.mono HIL.out ?_; rintro e w6 ⟨rfl, hw6⟩; obtain rfl := hw6.symm)
    go_cut [81] (fun t wc => t = .pointer (some ⟨n, 0, none⟩) ∧ Hid (∃ gJ capJ, Sep wc B (ndp n (.slice (some ⟨gJ, 0, none⟩) (l + 1) capJ) (.slice (some ⟨gC, 0, none⟩) q capC) (L.take a ++ up :: L.drop a) cs ++ (ndp c (.slice (some ⟨gI, 0, none⟩) (m / 2) capI) (.slice ao 0 capL) (M.take (m / 2)) [] ++ (ndp r (.slice (some ⟨gR, 0, none⟩) (m - (m / 2 + 1)) capR) (.slice none 0 0) (M.drop (m / 2 + 1)) [] ++ (.obj w.heap.size #[.string up.1, .int .u64 up.2] 69 :: R))))) ∧ Hid (Below B w wc))
    case first =>
      go_region_law (refine step_sinsI rfl (.tmp 85) (.tmp 86) (.tmp 88) rfl HLL.out HRA.out (Nat.le_trans hB HBA.out.size) a hL (by omega) up w5.heap.size HGX.out HNE.out rfl rfl rfl rfl ?_; intro gJ capJ w8 ho8 hg8 ha8; have h8 := HSA.out.ndI (wI' := .slice (some ⟨gJ, 0, none⟩) (l + 1) capJ) (M' := L.take a ++ up :: L.drop a) [] (by rw [HLY.out]; exact ho8) hg8 (ha8.elim (fun e => Or.inl e.symm) (fun e => Or.inr (by intro x hx; simp [Value.ownBlock] at hx; rw [← hx, e]; exact Nat.le_refl _))); have HS8 : Hid (Sep (w8.setCell ⟨n, 0, none⟩ (.slice (some ⟨gJ, 0, none⟩) (l + 1) capJ)) B (ndp n (.slice (some ⟨gJ, 0, none⟩) (l + 1) capJ) (.slice (some ⟨gC, 0, none⟩) q capC) (L.take a ++ up :: L.drop a) cs ++ (ndp c (.slice (some ⟨gI, 0, none⟩) (m / 2) capI) (.slice ao 0 capL) (M.take (m / 2)) [] ++ (ndp r (.slice (some ⟨gR, 0, none⟩) (m - (m / 2 + 1)) capR) (.slice none 0 0) (M.drop (m / 2 + 1)) [] ++ (.obj w.heap.size #[.string up.1, .int .u64 up.2] 69 :: R))))) := h8.2; have z0 := cellO h8.1 0 rfl; have z1 := frozenO h8.1 0; have HB8 : Hid (Below B w w8) := below_gr HBA.out (Nat.le_trans hB HBA.out.size) HRA.out hg8; have HB9 : Hid (Below B w (w8.setCell ⟨n, 0, none⟩ (.slice (some ⟨gJ, 0, none⟩) (l + 1) capJ))) := HB8.out.setCell (HSA.out.nd_ []).bn _; clear ho8 hg8 ha8 h8)
      all_goals (go_wp2_with fail)
      all_goals (go_meet; exact ⟨rfl, ⟨gJ, capJ, HS8.out⟩, HB9.out⟩)
    case rest =>
      obtain ⟨rfl, ⟨gJ, capJ, HS9⟩, HB9⟩ := hcut
      generalize wc = w9 at *
      clear HSA HRA HNE HBA HGX HWA n0 n1 nf0 nf1 n0' u1 u2 HS5 HB5 HBz
      obtain ⟨n0, n1, nf0, nf1⟩ := (HS9.nd_ []).c
      have HBz : Hid (B ≤ w9.heap.size) := Nat.le_trans hB HB9.out.size
      have HWA : Hid (Below w9.heap.size w9 (w9.alloc (.cells (encP r).toArray 65))) := (Below.refl _ _).alloc (Nat.le_refl _) _
      have HGX : Hid ((w9.alloc (.cells (encP r).toArray 65)).heap[w9.heap.size]? = some (.cells (encP r).toArray 65 (0, 0))) := heap_alloc_new w9 _
      have HSA : Hid (Sep (w9.alloc (.cells (encP r).toArray 65)) B (ndp n (.slice (some ⟨gJ, 0, none⟩) (l + 1) capJ) (.slice (some ⟨gC, 0, none⟩) q capC) (L.take a ++ up :: L.drop a) cs ++ (ndp c (.slice (some ⟨gI, 0, none⟩) (m / 2) capI) (.slice ao 0 capL) (M.take (m / 2)) [] ++ (ndp r (.slice (some ⟨gR, 0, none⟩) (m - (m / 2 + 1)) capR) (.slice none 0 0) (M.drop (m / 2 + 1)) [] ++ (.obj w.heap.size #[.string up.1, .int .u64 up.2] 69 :: R))))) := HS9.below HWA.out
      have HRA : Hid ((w9.alloc (.cells (encP r).toArray 65)).ownsRow B 65 1 (.slice (some ⟨gC, 0, none⟩) q capC) q (gc encP cs)) := by have := (HSA.out.nd_ []).rC; rw [HQ.out] at this; exact this
      have HNE : Hid ((Value.slice (some ⟨gC, 0, none⟩) q capC).ownBlock ≠ some w9.heap.size) := fun e => by have := (World.ownsRow.lt (HS9.nd_ []).rC _ e).2; omega
      have HBA : Hid (Below B w (w9.alloc (.cells (encP r).toArray 65))) := HB9.out.trans (HWA.out.mono HBz.out)
      have HINS : Hid _ := sinsP HQ.out HRA.out (Nat.le_trans hB HBA.out.size) (a + 1) (by omega) (by omega) r w9.heap.size HGX.out HNE.out
      have hca : (((a + 1 : Nat) : Int)) = (a : Int) + 1 := by omega
      rw [hca] at HINS
      have HLZ : Hid ((cs.take (a + 1) ++ r :: cs.drop (a + 1)).length = q + 1) := by unfold Hid; rw [List.length_append, List.length_cons, List.length_take, List.length_drop, HQ.out]; omega
      have HS9' : Hid (Sep w9 B (ndp n (.slice (some ⟨gJ, 0, none⟩) (l + 1) capJ) (.slice (some ⟨gC, 0, none⟩) q capC) (L.take a ++ up :: L.drop a) cs ++ (ndp c (.slice (some ⟨gI, 0, none⟩) (m / 2) capI) (.slice ao 0 capL) (M.take (m / 2)) [] ++ (ndp r (.slice (some ⟨gR, 0, none⟩) (m - (m / 2 + 1)) capR) (.slice none 0 0) (M.drop (m / 2 + 1)) [] ++ (.obj w.heap.size #[.string up.1, .int .u64 up.2] 69 :: R))))) := HS9
      have n1' : (w9.alloc (.cells #[.pointer (some ⟨r, 0, none⟩)] 65)).cell? ⟨n, 1, none⟩ = some (.slice (some ⟨gC, 0, none⟩) q capC) := cellO (HSA.out.nd_ []).o 1 rfl
      clear HS9
      go_wp2_with (go_at_call 61; go_loud (refine Calls.mono HINS.out ?_; rintro e w10 ⟨gH, capH, rfl, ho8, hg8, ha8⟩; have h8 := HSA.out.ndC (wC' := (.slice (some ⟨gH, 0, none⟩) (q + 1) capH)) (bs' := cs.take (a + 1) ++ r :: cs.drop (a + 1)) [] (by rw [HLZ.out]; exact ho8) hg8 (ha8.elim (fun e => Or.inl e.symm) (fun e => Or.inr (by intro x hx; simp [Value.ownBlock] at hx; rw [← hx, e]; exact Nat.le_refl _))); have HS8 : Hid (Sep (w10.setCell ⟨n, 1, none⟩ (.slice (some ⟨gH, 0, none⟩) (q + 1) capH)) B (ndp n (.slice (some ⟨gJ, 0, none⟩) (l + 1) capJ) (.slice (some ⟨gH, 0, none⟩) (q + 1) capH) (L.take a ++ up :: L.drop a) (cs.take (a + 1) ++ r :: cs.drop (a + 1)) ++ (ndp c (.slice (some ⟨gI, 0, none⟩) (m / 2) capI) (.slice ao 0 capL) (M.take (m / 2)) [] ++ (ndp r (.slice (some ⟨gR, 0, none⟩) (m - (m / 2 + 1)) capR) (.slice none 0 0) (M.drop (m / 2 + 1)) [] ++ (.obj w.heap.size #[.string up.1, .int .u64 up.2] 69 :: R))))) := h8.2; have z0 := cellO h8.1 1 rfl; have z1 := frozenO h8.1 1; have HB8 : Hid (Below B w w10) := below_gr HBA.out (Nat.le_trans hB HBA.out.size) HRA.out hg8; have HB10 : Hid (Below B w (w10.setCell ⟨n, 1, none⟩ (.slice (some ⟨gH, 0, none⟩) (q + 1) capH))) := HB8.out.setCell (HSA.out.nd_ []).bn _; clear ho8 hg8 ha8 h8))
      refine bodyPost_end (results_none rfl _ _ _) rfl ?_
      refine ⟨rfl, up, r, .slice (some ⟨gJ, 0, none⟩) (l + 1) capJ, (.slice (some ⟨gH, 0, none⟩) (q + 1) capH), (.slice (some ⟨gI, 0, none⟩) (m / 2) capI), (.slice ao 0 capL), (.slice (some ⟨gR, 0, none⟩) (m - (m / 2 + 1)) capR), (.slice none 0 0), HUP.out, HS8.out.sub ?_, HB10.out⟩
      exact List.Sublist.append (List.Sublist.refl _) (List.Sublist.append (List.Sublist.refl _) (List.Sublist.append (List.Sublist.refl _) (List.sublist_cons_self _ _)))
set_option maxHeartbeats 4000000 in
theorem split_node {w : World} {B n c a : Nat} {vI vC wI wC : Value} {L M : List It} {cs bs : List Nat} {R : List Pc}
    (hS : Sep w B (ndp n vI vC L cs ++ (ndp c wI wC M bs ++ R))) (hat : cs[a]? = some c) (hL : a ≤ L.length) (hLn : L.length ≤ 1000) (hcn : cs.length ≤ 1000) (hM3 : 3 ≤ M.length) (hMn : M.length ≤ 1000) (hbs : bs.length = M.length + 1) (hB : B ≤ w.heap.size) :
    Calls Try.prog 47 #[.pointer (some ⟨n, 0, none⟩), .int .i64 (a : Int)] w fun e w' => e = .returned (.tuple #[]) ∧ ∃ up r vI' vC' wI' wC' rI rC, M[M.length / 2]? = some up ∧ Sep w' B (ndp n vI' vC' (L.take a ++ up :: L.drop a) (cs.take (a + 1) ++ r :: cs.drop (a + 1)) ++ (ndp c wI' wC' (M.take (M.length / 2)) (bs.take (M.length / 2 + 1)) ++ (ndp r rI rC (M.drop (M.length / 2 + 1)) (bs.drop (M.length / 2 + 1)) ++ R))) ∧ Below B w w' := by
  have HS : Hid (Sep w B (ndp n vI vC L cs ++ (ndp c wI wC M bs ++ R))) := hS
  have hN := hS.nd_ []
  have hC := hS.nd_ (ndp n vI vC L cs)
  obtain ⟨n0, n1, _, _⟩ := hN.c
  obtain ⟨c0, c1, _, _⟩ := hC.c
  have hal := (List.getElem?_eq_some_iff.1 hat).1
  obtain ⟨gC, capC, rfl, hC1, hC2, _, _, _, hCc⟩ := row_some hN.rC (by omega)
  obtain ⟨gI, capI, rfl, hI1, hI2, _, _, _, hIc⟩ := row_some hC.rI (by omega)
  have ca := hCc _ _ (gcP_at hat)
  obtain ⟨up, hup⟩ : ∃ up, M[M.length / 2]? = some up := ⟨M[M.length / 2]'(by omega), List.getElem?_eq_getElem _⟩
  have m0 := hIc _ _ (gc_at encI_len M _ _ hup 0 _ rfl)
  have m1 := hIc _ _ (gc_at encI_len M _ _ hup 1 _ rfl)
  rw [Nat.add_zero] at m0
  have HB1 : Hid (Below w.heap.size w (w.alloc (.cells #[.string up.1, .int .u64 up.2] 69))) := (Below.refl _ _).alloc (Nat.le_refl _) _
  have HX1 : Hid ((w.alloc (.cells #[.string up.1, .int .u64 up.2] 69)).heap[w.heap.size]? = some (.cells #[.string up.1, .int .u64 up.2] 69 (0, 0))) := heap_alloc_new w _
  have HCL : Hid _ := scloneI (w := w.alloc (.cells #[.string up.1, .int .u64 up.2] 69)) (B := B) (m := M.length - (M.length / 2 + 1)) (c := capI - (M.length / 2 + 1)) (ad := ⟨gI, (M.length / 2 + 1) * 2, none⟩) (L := M.drop (M.length / 2 + 1)) (by simp) (by omega) (fun j u hu => by
    rw [← gc_drop encI_len, List.getElem?_drop] at hu
    rw [addG]
    exact (HB1.out.cell (by assumption)).trans (hIc _ _ hu)) (Nat.le_trans hB HB1.out.size) (by omega)
  have HUP : Hid (M[M.length / 2]? = some up) := hup
  have HAT : Hid (cs[a]? = some c) := hat
  obtain ⟨m, HM⟩ : ∃ m, Hid (M.length = m) := ⟨_, rfl⟩
  obtain ⟨q, HQ⟩ : ∃ q, Hid (cs.length = q) := ⟨_, rfl⟩
  rw [HM.out] at m0 m1 hI1 hM3 hMn c0 HCL HUP hbs ⊢
  rw [HQ.out] at hal hC1 hcn n1
  have hcm : ¬ capI = m / 2 + 1 := by omega
  have c0' := (HB1.out.cell (World.block_lt_of_cell? w _ c0)).trans c0
  clear hCc hIc hS hN hC hup hat
  go_enter Try.func47, Try.ntmps47
  go_upto_region 4 with (go_at_call 58; refine Calls.mono HCL.out ?_; rintro e w2 ⟨gR, capR, rfl, ho2, hb2, hg2⟩; have HO2 : Hid (w2.ownsRow B 69 2 (.slice (some ⟨gR, 0, none⟩) (m - (m / 2 + 1)) capR) (m - (m / 2 + 1)) (gc encI (M.drop (m / 2 + 1)))) := ho2; have HB2 : Hid (Below (w.alloc (.cells #[.string up.1, .int .u64 up.2] 69)).heap.size (w.alloc (.cells #[.string up.1, .int .u64 up.2] 69)) w2) := hb2; have HG2 : Hid ((w.alloc (.cells #[.string up.1, .int .u64 up.2] 69)).heap.size ≤ gR) := hg2; clear ho2 hb2 hg2)
  have HB2' : Hid (Below w.heap.size w w2) := HB1.out.trans (HB2.out.mono HB1.out.size)
  have HB3 : Hid (Below w.heap.size w (w2.alloc (.cells #[(.slice (some ⟨gR, 0, none⟩) (m - (m / 2 + 1)) capR), .slice none 0 0] 73))) := HB2'.out.alloc HB2'.out.size _
  have HS3 : Hid (Sep (w2.alloc (.cells #[(.slice (some ⟨gR, 0, none⟩) (m - (m / 2 + 1)) capR), .slice none 0 0] 73)) B (ndp n vI (.slice (some ⟨gC, 0, none⟩) q capC) L cs ++ (ndp c (.slice (some ⟨gI, 0, none⟩) m capI) wC M bs ++ (ndp w2.heap.size (.slice (some ⟨gR, 0, none⟩) (m - (m / 2 + 1)) capR) (.slice none 0 0) (M.drop (m / 2 + 1)) [] ++ (.obj w.heap.size #[.string up.1, .int .u64 up.2] 69 :: R))))) := by
    have h := HS.out
    rw [HM.out, HQ.out] at h
    have hml : (M.drop (m / 2 + 1)).length = m - (m / 2 + 1) := by rw [List.length_drop, HM.out]
    have h0 : Sep (w.alloc (.cells #[.string up.1, .int .u64 up.2] 69)) B (.obj w.heap.size #[.string up.1, .int .u64 up.2] 69 :: (ndp n vI (.slice (some ⟨gC, 0, none⟩) q capC) L cs ++ (ndp c (.slice (some ⟨gI, 0, none⟩) m capI) wC M bs ++ R))) := h.new HB1.out ⟨HX1.out, hB⟩ (by simp [Pc.blk])
    have h1 : Sep (w.alloc (.cells #[.string up.1, .int .u64 up.2] 69)) B (ndp n vI (.slice (some ⟨gC, 0, none⟩) q capC) L cs ++ (ndp c (.slice (some ⟨gI, 0, none⟩) m capI) wC M bs ++ (.obj w.heap.size #[.string up.1, .int .u64 up.2] 69 :: R))) := h0.perm (perm_obj _ _ _ _)
    have h5 := Sep.ndNew h1 HB2.out hml HO2.out HG2.out (Nat.le_trans hB HB2'.out.size)
    exact h5.perm ((perm_blk _ _ _).trans (List.Perm.append_left _ (perm_blk _ _ _)))
  generalize w2.alloc (.cells #[(.slice (some ⟨gR, 0, none⟩) (m - (m / 2 + 1)) capR), .slice none 0 0] 73) = w3 at HB3 HS3 ⊢
  obtain ⟨r, HRr⟩ : ∃ r, Hid (r = w2.heap.size) := ⟨_, rfl⟩
  rw [← HRr.out] at HS3 ⊢
  have HD3 : Hid (Below w3.heap.size w3 w3.drew) := (Below.refl _ _).drew
  have HS3d : Hid (Sep w3.drew B (ndp n vI (.slice (some ⟨gC, 0, none⟩) q capC) L cs ++ (ndp c (.slice (some ⟨gI, 0, none⟩) m capI) wC M bs ++ (ndp r (.slice (some ⟨gR, 0, none⟩) (m - (m / 2 + 1)) capR) (.slice none 0 0) (M.drop (m / 2 + 1)) [] ++ (.obj w.heap.size #[.string up.1, .int .u64 up.2] 69 :: R))))) := HS3.out.below HD3.out
  obtain ⟨k0, k1, kf0, kf1⟩ := (HS3.out.nd_ (ndp n vI (.slice (some ⟨gC, 0, none⟩) q capC) L cs)).c
  have HRW3 : Hid (w3.drew.ownsRow B 69 2 (.slice (some ⟨gI, 0, none⟩) m capI) m (gc encI M)) := by have := (HS3d.out.nd_ (ndp n vI (.slice (some ⟨gC, 0, none⟩) q capC) L cs)).rI; rw [HM.out] at this; exact this
  have HBB3 : Hid (Below B w w3.drew) := (HB3.out.mono hB).drew
  have HLX : Hid ((M.take (m / 2)).length = m / 2) := by unfold Hid; rw [List.length_take, HM.out]; omega
  have HLM : Hid (M.take (m / 2) ++ M.drop m = M.take (m / 2)) := by unfold Hid; rw [List.drop_of_length_le (by rw [HM.out]; exact Nat.le_refl _), List.append_nil]
  have HQM : Hid (m - (m - m / 2) = m / 2) := by unfold Hid; omega
  clear c0 c1 n0 n1 c0' ca m0 m1 HCL HS HB1 HX1 HO2 HB2 HG2 HB2' HB3
  go_cut [38] (fun t wc => t = .pointer (some ⟨c, 0, none⟩) ∧ Hid (Sep wc B (ndp n vI (.slice (some ⟨gC, 0, none⟩) q capC) L cs ++ (ndp c (.slice (some ⟨gI, 0, none⟩) (m / 2) capI) wC (M.take (m / 2)) bs ++ (ndp r (.slice (some ⟨gR, 0, none⟩) (m - (m / 2 + 1)) capR) (.slice none 0 0) (M.drop (m / 2 + 1)) [] ++ (.obj w.heap.size #[.string up.1, .int .u64 up.2] 69 :: R))))) ∧ Hid (Below B w wc))
  case first =>
    go_region_law (refine step_sdelI rfl (.tmp 42) (.tmp 43) (.tmp 48) rfl HM.out HRW3.out (m / 2) m (by omega) (Nat.le_refl _) (by omega) rfl rfl (by omega) rfl rfl ?_; rw [HQM.out, HLM.out]; intro w4 ho4 hg4; have h4 := HS3d.out.ndI (wI' := (.slice (some ⟨gI, 0, none⟩) (m / 2) capI)) (M' := M.take (m / 2)) (ndp n vI (.slice (some ⟨gC, 0, none⟩) q capC) L cs) (by rw [HLX.out]; exact ho4) hg4 (Or.inl rfl); have HS4 : Hid (Sep (w4.setCell ⟨c, 0, none⟩ (.slice (some ⟨gI, 0, none⟩) (m / 2) capI)) B (ndp n vI (.slice (some ⟨gC, 0, none⟩) q capC) L cs ++ (ndp c (.slice (some ⟨gI, 0, none⟩) (m / 2) capI) wC (M.take (m / 2)) bs ++ (ndp r (.slice (some ⟨gR, 0, none⟩) (m - (m / 2 + 1)) capR) (.slice none 0 0) (M.drop (m / 2 + 1)) [] ++ (.obj w.heap.size #[.string up.1, .int .u64 up.2] 69 :: R))))) := h4.2; have z0 := cellO h4.1 0 rfl; have z1 := frozenO h4.1 0; have HB4 : Hid (Below B w w4) := below_gr HBB3.out (Nat.le_trans hB HBB3.out.size) HRW3.out hg4; have HB5 : Hid (Below B w (w4.setCell ⟨c, 0, none⟩ (.slice (some ⟨gI, 0, none⟩) (m / 2) capI))) := HB4.out.setCell (HS3d.out.nd_ (ndp n vI (.slice (some ⟨gC, 0, none⟩) q capC) L cs)).bn _; clear ho4 hg4 h4)
    all_goals (go_wp2_with fail)
    all_goals (go_meet; exact ⟨rfl, HS4.out, HB5.out⟩)
  case rest =>
    obtain ⟨rfl, HS5, HB5⟩ := hcut
    generalize wc = w5 at *
    clear HRW3 HS3 HS3d HBB3 HD3 k0 k1 kf0 kf1
    obtain ⟨k0, k1, kf0, kf1⟩ := (HS5.out.nd_ (ndp n vI (.slice (some ⟨gC, 0, none⟩) q capC) L cs)).c
    have hrC := (HS5.out.nd_ (ndp n vI (.slice (some ⟨gC, 0, none⟩) q capC) L cs)).rC
    rw [hbs] at hrC
    obtain ⟨gD, capD, rfl, hD1, hD2, _, hDl, _, hDc⟩ := row_some hrC (by omega)
    have HBz : Hid (B ≤ w5.heap.size) := Nat.le_trans hB HB5.out.size
    have HCL : Hid _ := scloneP (w := w5) (B := B) (m := m - m / 2) (c := capD - (m / 2 + 1)) (ad := ⟨gD, m / 2 + 1, none⟩) (L := bs.drop (m / 2 + 1)) (by rw [List.length_drop, hbs]; omega) (by omega) (fun j u hu => by
      rw [← gc_drop encP_len, List.getElem?_drop, Nat.mul_one] at hu
      rw [addG]
      exact hDc _ _ hu) HBz.out (by omega)
    have hcd : ¬ capD = m / 2 + 1 := by omega
    have HIL : Hid _ := isLeaf_no (n := c) (w := w5) (ad := ⟨gD, 0, none⟩) (k := m + 1) (cap := capD) k1 (by omega)
    have r1 := (HS5.out.nd_ ((ndp n vI (.slice (some ⟨gC, 0, none⟩) q capC) L cs) ++ (ndp c (.slice (some ⟨gI, 0, none⟩) (m / 2) capI) (.slice (some ⟨gD, 0, none⟩) (m + 1) capD) (M.take (m / 2)) bs))).c
    have HS5a : Hid (Sep w5 B ((ndp n vI (.slice (some ⟨gC, 0, none⟩) q capC) L cs ++ ndp c (.slice (some ⟨gI, 0, none⟩) (m / 2) capI) (.slice (some ⟨gD, 0, none⟩) (m + 1) capD) (M.take (m / 2)) bs) ++ (ndp r (.slice (some ⟨gR, 0, none⟩) (m - (m / 2 + 1)) capR) (.slice none 0 0) (M.drop (m / 2 + 1)) [] ++ (.obj w.heap.size #[.string up.1, .int .u64 up.2] 69 :: R)))) := by have := HS5.out; rw [← List.append_assoc] at this; exact this
    have HLD : Hid ((bs.drop (m / 2 + 1)).length = m - m / 2) := by unfold Hid; rw [List.length_drop, hbs]; omega
    clear hrC hDc
    go_upto_region 7 with (first
      | (go_at_call 45; refine Calls.mono HIL.out ?_; rintro e w6 ⟨rfl, hw6⟩; obtain rfl := hw6.symm)
      | (go_at_call 59; go_loud (refine Calls.mono HCL.out ?_; rintro e w6 ⟨gE, capE, rfl, ho6, hb6, hg6⟩; have h6 := HS5a.out.ndC (wC' := (.slice (some ⟨gE, 0, none⟩) (m - m / 2) capE)) (bs' := bs.drop (m / 2 + 1)) _ (by rw [HLD.out]; exact ho6) ⟨hb6.os, hb6.tape, hb6.output, hb6.size, fun k hk _ => hb6.block k hk⟩ (Or.inr (by intro x hx; simp [Value.ownBlock] at hx; rw [← hx]; exact hg6)); have z0 := cellO h6.1 1 rfl; have z1 := frozenO h6.1 1; have HB6 : Hid (Below B w w6) := HB5.out.trans (hb6.mono HBz.out); have HS6 : Hid (Sep (w6.setCell ⟨r, 1, none⟩ (.slice (some ⟨gE, 0, none⟩) (m - m / 2) capE)) B (ndp n vI (.slice (some ⟨gC, 0, none⟩) q capC) L cs ++ (ndp c (.slice (some ⟨gI, 0, none⟩) (m / 2) capI) (.slice (some ⟨gD, 0, none⟩) (m + 1) capD) (M.take (m / 2)) bs ++ (ndp r (.slice (some ⟨gR, 0, none⟩) (m - (m / 2 + 1)) capR) (.slice (some ⟨gE, 0, none⟩) (m - m / 2) capE) (M.drop (m / 2 + 1)) (bs.drop (m / 2 + 1)) ++ (.obj w.heap.size #[.string up.1, .int .u64 up.2] 69 :: R))))) := (by have := h6.2; rw [List.append_assoc] at this; exact this); have HB6' : Hid (Below B w (w6.setCell ⟨r, 1, none⟩ (.slice (some ⟨gE, 0, none⟩) (m - m / 2) capE))) := HB6.out.setCell (HS5a.out.nd_ _).bn _; clear ho6 hb6 hg6 h6)))
    generalize (w6.setCell ⟨r, 1, none⟩ (.slice (some ⟨gE, 0, none⟩) (m - m / 2) capE)) = w7 at HS6 HB6' ⊢
    clear z0 z1 HS5 HS5a HCL HIL k0 k1 kf0 kf1 r1 HBz HB5
    have HD7 : Hid (Below w7.heap.size w7 w7.drew) := (Below.refl _ _).drew
    have HS7d : Hid (Sep w7.drew B (ndp n vI (.slice (some ⟨gC, 0, none⟩) q capC) L cs ++ (ndp c (.slice (some ⟨gI, 0, none⟩) (m / 2) capI) (.slice (some ⟨gD, 0, none⟩) (m + 1) capD) (M.take (m / 2)) bs ++ (ndp r (.slice (some ⟨gR, 0, none⟩) (m - (m / 2 + 1)) capR) (.slice (some ⟨gE, 0, none⟩) (m - m / 2) capE) (M.drop (m / 2 + 1)) (bs.drop (m / 2 + 1)) ++ (.obj w.heap.size #[.string up.1, .int .u64 up.2] 69 :: R))))) := HS6.out.below HD7.out
    obtain ⟨k0, k1, kf0, kf1⟩ := (HS6.out.nd_ (ndp n vI (.slice (some ⟨gC, 0, none⟩) q capC) L cs)).c
    have HRW7 : Hid (w7.drew.ownsRow B 65 1 (.slice (some ⟨gD, 0, none⟩) (m + 1) capD) (m + 1) (gc encP bs)) := by have := (HS7d.out.nd_ (ndp n vI (.slice (some ⟨gC, 0, none⟩) q capC) L cs)).rC; rw [hbs] at this; exact this
    have HBB7 : Hid (Below B w w7.drew) := HB6'.out.drew
    have HLX7 : Hid ((bs.take (m / 2 + 1)).length = m / 2 + 1) := by unfold Hid; rw [List.length_take, hbs]; omega
    have HLM7 : Hid (bs.take (m / 2 + 1) ++ bs.drop (m + 1) = bs.take (m / 2 + 1)) := by unfold Hid; rw [List.drop_of_length_le (by rw [hbs]; exact Nat.le_refl _), List.append_nil]
    have HQM7 : Hid (m + 1 - (m + 1 - (m / 2 + 1)) = m / 2 + 1) := by unfold Hid; omega
    have HBS : Hid (bs.length = m + 1) := hbs
    have hwm : IntKind.i64.wrap ((m : Int) / 2 + 1) = (m : Int) / 2 + 1 := by rw [IntKind.wrap_i64]; omega
    clear hbs
    go_cut [66] (fun t wc => t = .pointer (some ⟨c, 0, none⟩) ∧ Hid (Sep wc B (ndp n vI (.slice (some ⟨gC, 0, none⟩) q capC) L cs ++ (ndp c (.slice (some ⟨gI, 0, none⟩) (m / 2) capI) (.slice (some ⟨gD, 0, none⟩) (m / 2 + 1) capD) (M.take (m / 2)) (bs.take (m / 2 + 1)) ++ (ndp r (.slice (some ⟨gR, 0, none⟩) (m - (m / 2 + 1)) capR) (.slice (some ⟨gE, 0, none⟩) (m - m / 2) capE) (M.drop (m / 2 + 1)) (bs.drop (m / 2 + 1)) ++ (.obj w.heap.size #[.string up.1, .int .u64 up.2] 69 :: R))))) ∧ Hid (Below B w wc))
    case first =>
      go_region_law (refine step_sdelP rfl (.tmp 70) (.tmp 72) (.tmp 77) rfl HBS.out HRW7.out (m / 2 + 1) (m + 1) (by omega) (Nat.le_refl _) (by omega) rfl rfl (by first | omega | (rw [hwm]; omega)) rfl (by first | omega | simp) ?_; rw [HQM7.out, HLM7.out]; intro w8 ho8 hg8; have h8 := HS7d.out.ndC (wC' := (.slice (some ⟨gD, 0, none⟩) (m / 2 + 1) capD)) (bs' := bs.take (m / 2 + 1)) (ndp n vI (.slice (some ⟨gC, 0, none⟩) q capC) L cs) (by rw [HLX7.out]; exact ho8) hg8 (Or.inl rfl); have HS8 : Hid (Sep (w8.setCell ⟨c, 1, none⟩ (.slice (some ⟨gD, 0, none⟩) (m / 2 + 1) capD)) B (ndp n vI (.slice (some ⟨gC, 0, none⟩) q capC) L cs ++ (ndp c (.slice (some ⟨gI, 0, none⟩) (m / 2) capI) (.slice (some ⟨gD, 0, none⟩) (m / 2 + 1) capD) (M.take (m / 2)) (bs.take (m / 2 + 1)) ++ (ndp r (.slice (some ⟨gR, 0, none⟩) (m - (m / 2 + 1)) capR) (.slice (some ⟨gE, 0, none⟩) (m - m / 2) capE) (M.drop (m / 2 + 1)) (bs.drop (m / 2 + 1)) ++ (.obj w.heap.size #[.string up.1, .int .u64 up.2] 69 :: R))))) := h8.2; have z0 := cellO h8.1 1 rfl; have z1 := frozenO h8.1 1; have HB8 : Hid (Below B w w8) := below_gr HBB7.out (Nat.le_trans hB HBB7.out.size) HRW7.out hg8; have HB9 : Hid (Below B w (w8.setCell ⟨c, 1, none⟩ (.slice (some ⟨gD, 0, none⟩) (m / 2 + 1) capD))) := HB8.out.setCell (HS7d.out.nd_ (ndp n vI (.slice (some ⟨gC, 0, none⟩) q capC) L cs)).bn _; clear ho8 hg8 h8)
      all_goals (go_wp2_with fail)
      all_goals (go_meet; exact ⟨rfl, HS8.out, HB9.out⟩)
    case rest =>
      obtain ⟨rfl, HS5, HB5⟩ := hcut
      generalize wc = w5 at *
      clear HRW7 HS6 HS7d HBB7 HD7 k0 k1 kf0 kf1 HB6'
      obtain ⟨n0, n1, nf0, nf1⟩ := (HS5.out.nd_ []).c
      obtain ⟨l, HLL⟩ : ∃ l, Hid (L.length = l) := ⟨_, rfl⟩
      rw [HLL.out] at hL hLn
      have u0 : w5.heap[w.heap.size]? = some (.cells #[.string up.1, .int .u64 up.2] 69 (0, 0)) := HS5.out.obj (by simp)
      have u1 := cellO u0 0 rfl
      have u2 := cellO u0 1 rfl
      have HBz : Hid (B ≤ w5.heap.size) := Nat.le_trans hB HB5.out.size
      have HWA : Hid (Below w5.heap.size w5 (w5.alloc (.cells (encI up).toArray 69)).drew) := ((Below.refl _ _).alloc (Nat.le_refl _) _).drew
      have HGX : Hid ((w5.alloc (.cells (encI up).toArray 69)).drew.heap[w5.heap.size]? = some (.cells (encI up).toArray 69 (0, 0))) := heap_alloc_new w5 _
      have HSA : Hid (Sep (w5.alloc (.cells (encI up).toArray 69)).drew B (ndp n vI (.slice (some ⟨gC, 0, none⟩) q capC) L cs ++ (ndp c (.slice (some ⟨gI, 0, none⟩) (m / 2) capI) (.slice (some ⟨gD, 0, none⟩) (m / 2 + 1) capD) (M.take (m / 2)) (bs.take (m / 2 + 1)) ++ (ndp r (.slice (some ⟨gR, 0, none⟩) (m - (m / 2 + 1)) capR) (.slice (some ⟨gE, 0, none⟩) (m - m / 2) capE) (M.drop (m / 2 + 1)) (bs.drop (m / 2 + 1)) ++ (.obj w.heap.size #[.string up.1, .int .u64 up.2] 69 :: R))))) := HS5.out.below HWA.out
      have HRA : Hid ((w5.alloc (.cells (encI up).toArray 69)).drew.ownsRow B 69 2 vI l (gc encI L)) := by have := (HSA.out.nd_ []).rI; rw [HLL.out] at this; exact this
      have HNE : Hid (vI.ownBlock ≠ some w5.heap.size) := fun e => by have := (World.ownsRow.lt (HS5.out.nd_ []).rI _ e).2; omega
      have HBA : Hid (Below B w (w5.alloc (.cells (encI up).toArray 69)).drew) := HB5.out.trans (HWA.out.mono HBz.out)
      have HLY : Hid ((L.take a ++ up :: L.drop a).length = l + 1) := by unfold Hid; rw [List.length_append, List.length_cons, List.length_take, List.length_drop, HLL.out]; omega
      have n0' : (w5.alloc (.cells #[.string up.1, .int .u64 up.2] 69)).cell? ⟨n, 0, none⟩ = some vI := cellO (HSA.out.nd_ []).o 0 rfl
      clear u0
      go_upto_region 8 with (go_at_call 45; refine Calls.mono HIL.out ?_; rintro e w6 ⟨rfl, hw6⟩; obtain rfl := hw6.symm)
      go_cut [81] (fun t wc => t = .pointer (some ⟨n, 0, none⟩) ∧ Hid (∃ gJ capJ, Sep wc B (ndp n (.slice (some ⟨gJ, 0, none⟩) (l + 1) capJ) (.slice (some ⟨gC, 0, none⟩) q capC) (L.take a ++ up :: L.drop a) cs ++ (ndp c (.slice (some ⟨gI, 0, none⟩) (m / 2) capI) (.slice (some ⟨gD, 0, none⟩) (m / 2 + 1) capD) (M.take (m / 2)) (bs.take (m / 2 + 1)) ++ (ndp r (.slice (some ⟨gR, 0, none⟩) (m - (m / 2 + 1)) capR) (.slice (some ⟨gE, 0, none⟩) (m - m / 2) capE) (M.drop (m / 2 + 1)) (bs.drop (m / 2 + 1)) ++ (.obj w.heap.size #[.string up.1, .int .u64 up.2] 69 :: R))))) ∧ Hid (Below B w wc))
      case first =>
        go_region_law (refine step_sinsI rfl (.tmp 85) (.tmp 86) (.tmp 88) rfl HLL.out HRA.out (Nat.le_trans hB HBA.out.size) a hL (by omega) up w5.heap.size HGX.out HNE.out rfl rfl rfl rfl ?_; intro gJ capJ w8 ho8 hg8 ha8; have h8 := HSA.out.ndI (wI' := .slice (some ⟨gJ, 0, none⟩) (l + 1) capJ) (M' := L.take a ++ up :: L.drop a) [] (by rw [HLY.out]; exact ho8) hg8 (ha8.elim (fun e => Or.inl e.symm) (fun e => Or.inr (by intro x hx; simp [Value.ownBlock] at hx; rw [← hx, e]; exact Nat.le_refl _))); have HS8 : Hid (Sep (w8.setCell ⟨n, 0, none⟩ (.slice (some ⟨gJ, 0, none⟩) (l + 1) capJ)) B (ndp n (.slice (some ⟨gJ, 0, none⟩) (l + 1) capJ) (.slice (some ⟨gC, 0, none⟩) q capC) (L.take a ++ up :: L.drop a) cs ++ (ndp c (.slice (some ⟨gI, 0, none⟩) (m / 2) capI) (.slice (some ⟨gD, 0, none⟩) (m / 2 + 1) capD) (M.take (m / 2)) (bs.take (m / 2 + 1)) ++ (ndp r (.slice (some ⟨gR, 0, none⟩) (m - (m / 2 + 1)) capR) (.slice (some ⟨gE, 0, none⟩) (m - m / 2) capE) (M.drop (m / 2 + 1)) (bs.drop (m / 2 + 1)) ++ (.obj w.heap.size #[.string up.1, .int .u64 up.2] 69 :: R))))) := h8.2; have z0 := cellO h8.1 0 rfl; have z1 := frozenO h8.1 0; have HB8 : Hid (Below B w w8) := below_gr HBA.out (Nat.le_trans hB HBA.out.size) HRA.out hg8; have HB9 : Hid (Below B w (w8.setCell ⟨n, 0, none⟩ (.slice (some ⟨gJ, 0, none⟩) (l + 1) capJ))) := HB8.out.setCell (HSA.out.nd_ []).bn _; clear ho8 hg8 ha8 h8)
        all_goals (go_wp2_with fail)
        all_goals (go_meet; exact ⟨rfl, ⟨gJ, capJ, HS8.out⟩, HB9.out⟩)
      case rest =>
        obtain ⟨rfl, ⟨gJ, capJ, HS9⟩, HB9⟩ := hcut
        generalize wc = w9 at *
        clear HSA HRA HNE HBA HGX HWA n0 n1 nf0 nf1 n0' u1 u2 HS5 HB5 HBz
        obtain ⟨n0, n1, nf0, nf1⟩ := (HS9.nd_ []).c
        have HBz : Hid (B ≤ w9.heap.size) := Nat.le_trans hB HB9.out.size
        have HWA : Hid (Below w9.heap.size w9 (w9.alloc (.cells (encP r).toArray 65))) := (Below.refl _ _).alloc (Nat.le_refl _) _
        have HGX : Hid ((w9.alloc (.cells (encP r).toArray 65)).heap[w9.heap.size]? = some (.cells (encP r).toArray 65 (0, 0))) := heap_alloc_new w9 _
        have HSA : Hid (Sep (w9.alloc (.cells (encP r).toArray 65)) B (ndp n (.slice (some ⟨gJ, 0, none⟩) (l + 1) capJ) (.slice (some ⟨gC, 0, none⟩) q capC) (L.take a ++ up :: L.drop a) cs ++ (ndp c (.slice (some ⟨gI, 0, none⟩) (m / 2) capI) (.slice (some ⟨gD, 0, none⟩) (m / 2 + 1) capD) (M.take (m / 2)) (bs.take (m / 2 + 1)) ++ (ndp r (.slice (some ⟨gR, 0, none⟩) (m - (m / 2 + 1)) capR) (.slice (some ⟨gE, 0, none⟩) (m - m / 2) capE) (M.drop (m / 2 + 1)) (bs.drop (m / 2 + 1)) ++ (.obj w.heap.size #[.string up.1, .int .u64 up.2] 69 :: R))))) := HS9.below HWA.out
        have HRA : Hid ((w9.alloc (.cells (encP r).toArray 65)).ownsRow B 65 1 (.slice (some ⟨gC, 0, none⟩) q capC) q (gc encP cs)) := by have := (HSA.out.nd_ []).rC; rw [HQ.out] at this; exact this
        have HNE : Hid ((Value.slice (some ⟨gC, 0, none⟩) q capC).ownBlock ≠ some w9.heap.size) := fun e => by have := (World.ownsRow.lt (HS9.nd_ []).rC _ e).2; omega
        have HBA : Hid (Below B w (w9.alloc (.cells (encP r).toArray 65))) := HB9.out.trans (HWA.out.mono HBz.out)
        have HINS : Hid _ := sinsP HQ.out HRA.out (Nat.le_trans hB HBA.out.size) (a + 1) (by omega) (by omega) r w9.heap.size HGX.out HNE.out
        have hca : (((a + 1 : Nat) : Int)) = (a : Int) + 1 := by omega
        rw [hca] at HINS
        have HLZ : Hid ((cs.take (a + 1) ++ r :: cs.drop (a + 1)).length = q + 1) := by unfold Hid; rw [List.length_append, List.length_cons, List.length_take, List.length_drop, HQ.out]; omega
        have HS9' : Hid (Sep w9 B (ndp n (.slice (some ⟨gJ, 0, none⟩) (l + 1) capJ) (.slice (some ⟨gC, 0, none⟩) q capC) (L.take a ++ up :: L.drop a) cs ++ (ndp c (.slice (some ⟨gI, 0, none⟩) (m / 2) capI) (.slice (some ⟨gD, 0, none⟩) (m / 2 + 1) capD) (M.take (m / 2)) (bs.take (m / 2 + 1)) ++ (ndp r (.slice (some ⟨gR, 0, none⟩) (m - (m / 2 + 1)) capR) (.slice (some ⟨gE, 0, none⟩) (m - m / 2) capE) (M.drop (m / 2 + 1)) (bs.drop (m / 2 + 1)) ++ (.obj w.heap.size #[.string up.1, .int .u64 up.2] 69 :: R))))) := HS9
        have n1' : (w9.alloc (.cells #[.pointer (some ⟨r, 0, none⟩)] 65)).cell? ⟨n, 1, none⟩ = some (.slice (some ⟨gC, 0, none⟩) q capC) := cellO (HSA.out.nd_ []).o 1 rfl
        clear HS9
        go_wp2_with (go_at_call 61; go_loud (refine Calls.mono HINS.out ?_; rintro e w10 ⟨gH, capH, rfl, ho8, hg8, ha8⟩; have h8 := HSA.out.ndC (wC' := (.slice (some ⟨gH, 0, none⟩) (q + 1) capH)) (bs' := cs.take (a + 1) ++ r :: cs.drop (a + 1)) [] (by rw [HLZ.out]; exact ho8) hg8 (ha8.elim (fun e => Or.inl e.symm) (fun e => Or.inr (by intro x hx; simp [Value.ownBlock] at hx; rw [← hx, e]; exact Nat.le_refl _))); have HS8 : Hid (Sep (w10.setCell ⟨n, 1, none⟩ (.slice (some ⟨gH, 0, none⟩) (q + 1) capH)) B (ndp n (.slice (some ⟨gJ, 0, none⟩) (l + 1) capJ) (.slice (some ⟨gH, 0, none⟩) (q + 1) capH) (L.take a ++ up :: L.drop a) (cs.take (a + 1) ++ r :: cs.drop (a + 1)) ++ (ndp c (.slice (some ⟨gI, 0, none⟩) (m / 2) capI) (.slice (some ⟨gD, 0, none⟩) (m / 2 + 1) capD) (M.take (m / 2)) (bs.take (m / 2 + 1)) ++ (ndp r (.slice (some ⟨gR, 0, none⟩) (m - (m / 2 + 1)) capR) (.slice (some ⟨gE, 0, none⟩) (m - m / 2) capE) (M.drop (m / 2 + 1)) (bs.drop (m / 2 + 1)) ++ (.obj w.heap.size #[.string up.1, .int .u64 up.2] 69 :: R))))) := h8.2; have z0 := cellO h8.1 1 rfl; have z1 := frozenO h8.1 1; have HB8 : Hid (Below B w w10) := below_gr HBA.out (Nat.le_trans hB HBA.out.size) HRA.out hg8; have HB10 : Hid (Below B w (w10.setCell ⟨n, 1, none⟩ (.slice (some ⟨gH, 0, none⟩) (q + 1) capH))) := HB8.out.setCell (HSA.out.nd_ []).bn _; clear ho8 hg8 ha8 h8))
        refine bodyPost_end (results_none rfl _ _ _) rfl ?_
        refine ⟨rfl, up, r, .slice (some ⟨gJ, 0, none⟩) (l + 1) capJ, (.slice (some ⟨gH, 0, none⟩) (q + 1) capH), (.slice (some ⟨gI, 0, none⟩) (m / 2) capI), (.slice (some ⟨gD, 0, none⟩) (m / 2 + 1) capD), (.slice (some ⟨gR, 0, none⟩) (m - (m / 2 + 1)) capR), (.slice (some ⟨gE, 0, none⟩) (m - m / 2) capE), HUP.out, HS8.out.sub ?_, HB10.out⟩
        exact List.Sublist.append (List.Sublist.refl _) (List.Sublist.append (List.Sublist.refl _) (List.Sublist.append (List.Sublist.refl _) (List.sublist_cons_self _ _)))
end Go.Proofs.Ytelfjgnmbikofaa
