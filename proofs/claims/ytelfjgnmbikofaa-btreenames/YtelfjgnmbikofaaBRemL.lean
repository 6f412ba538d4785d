/-
  removeLast: a tree's last item is taken out. Conditions: the tree has its shape, and an item.
-/
import Derived.Test.YtelfjgnmbikofaaBRefA
import Derived.Laws.Rows
namespace Go.Proofs.Ytelfjgnmbikofaa
open Go.RowKit
set_option linter.unusedVariables false
set_option maxRecDepth 100000

/-- What removeLast leaves of a tree. -/
def LastP (most lo B h : Nat) (t : Nd (Tr h)) (x : It) (R : List Pc) (w' : World) : Prop :=
  ∃ t' : Nd (Tr h), t'.n = t.n ∧ Sep w' B (pcs (h + 1) (up1 t') ++ R) ∧ Shp most (h + 1) (lo - 1) most (up1 t') ∧ flat (h + 1) (up1 t) = flat (h + 1) (up1 t') ++ [x]
theorem Try.hiI : (Try.prog.info? 69).map (·.size) = some 2 := by kernel_rfl
set_option maxHeartbeats 4000000 in
theorem lastLeaf {w : World} {B n p m : Nat} {vI vC : Value} {L : List It} {R : List Pc} {x : It} (hS : Sep w B (ndp n vI vC L [] ++ R)) (hB : B ≤ w.heap.size) (hm : L.length = m + 1) (hx : L[m]? = some x) (hn : m ≤ 1000) :
    Calls Try.prog 49 #[.pointer (some ⟨p, 0, none⟩), .pointer (some ⟨n, 0, none⟩)] w fun e w' => e = .returned (.agg #[.string x.1, .int .u64 x.2]) ∧ (∃ vI', Sep w' B (ndp n vI' vC (L.take m) [] ++ R)) ∧ Below B w w' := by
  have HB1 : Hid (Below w.heap.size w (w.alloc (.cells #[.string ⟨#[]⟩, .int .u64 0] 69))) := (Below.refl _ _).alloc (Nat.le_refl _) _
  have HS1 : Hid (Sep (w.alloc (.cells #[.string ⟨#[]⟩, .int .u64 0] 69)) B (ndp n vI vC L [] ++ (.obj w.heap.size #[.string ⟨#[]⟩, .int .u64 0] 69 :: R))) := by
    have h := Sep.new (w' := w.alloc (.cells #[.string ⟨#[]⟩, .int .u64 0] 69)) (p := .obj w.heap.size #[.string ⟨#[]⟩, .int .u64 0] 69) hS HB1.out ⟨heap_alloc_new w _, hB⟩ (by simp [Pc.blk])
    exact h.perm (List.perm_middle (l₁ := ndp n vI vC L []) (l₂ := R)).symm
  obtain ⟨g, cap, rfl, hg1, hg2, _⟩ := row_some (hS.nd_ []).rI (by omega)
  rw [hm] at HS1 hg1
  obtain ⟨ao, capL, rfl⟩ := row_zero (hS.nd_ []).rC
  have HL : Hid (L.length = m + 1) := hm
  have HX : Hid (L[m]? = some x) := hx
  clear hS hm hx
  go_enter Try.func49, Try.ntmps49
  go_upto_region 1 with fail
  have HBB1 : Hid (Below B w (w.alloc (.cells #[.string ⟨#[]⟩, .int .u64 0] 69))) := HB1.out.mono hB
  generalize w.alloc (.cells #[.string ⟨#[]⟩, .int .u64 0] 69) = w1 at HS1 HBB1 ⊢
  obtain ⟨b, HBb⟩ : ∃ b, Hid (b = w.heap.size) := ⟨_, rfl⟩
  rw [← HBb.out] at HS1 ⊢
  obtain ⟨n0, n1, nf0, nf1⟩ := (HS1.out.nd_ []).c
  have HIL : Hid _ := isLeaf_z (n := n) (w := w1) (ao := ao) (cap := capL) n1
  have HRW : Hid (w1.ownsRow B 69 2 (.slice (some ⟨g, 0, none⟩) (m + 1) cap) (m + 1) (gc encI L)) := by have := (HS1.out.nd_ []).rI; rw [HL.out] at this; exact this
  have HCL : Hid _ := cutLastI HL.out HRW.out HX.out (by omega)
  have HLT : Hid ((L.take m).length = m) := by unfold Hid; rw [List.length_take, HL.out]; omega
  have HBz : Hid (B ≤ w1.heap.size) := Nat.le_trans hB HBB1.out.size
  go_upto_region 3 with (first
    | (go_at_call 45; refine Calls.mono HIL.out ?_; rintro e w6 ⟨rfl, hw6⟩; obtain rfl := hw6.symm)
    | (go_at_call 62; refine Calls.mono HCL.out ?_; rintro e w2 ⟨rfl, ho2, hg2⟩; have HS2 : Hid (Sep w2 B (.obj n #[.slice (some ⟨g, 0, none⟩) (m + 1) cap, .slice ao 0 capL] 73 :: .row 69 2 (.slice (some ⟨g, 0, none⟩) m cap) m (gc encI (L.take m)) :: .row 65 1 (.slice ao 0 capL) 0 [] :: .obj b #[.string ⟨#[]⟩, .int .u64 0] 69 :: R)) := Sep.turn [.obj n #[.slice (some ⟨g, 0, none⟩) (m + 1) cap, .slice ao 0 capL] 73] (v := .slice (some ⟨g, 0, none⟩) (m + 1) cap) (n := L.length) (xs := gc encI L) HS1.out ho2 hg2 (Or.inl rfl); have HB2 : Hid (Below B w w2) := below_gr HBB1.out HBz.out HRW.out hg2; clear ho2 hg2))
  have HS3 : Hid (Sep (w2.alloc (.cells #[.string x.1, .int .u64 x.2] 69)) B (.obj w2.heap.size #[.string x.1, .int .u64 x.2] 69 :: (.obj n #[.slice (some ⟨g, 0, none⟩) (m + 1) cap, .slice ao 0 capL] 73 :: .row 69 2 (.slice (some ⟨g, 0, none⟩) m cap) m (gc encI (L.take m)) :: .row 65 1 (.slice ao 0 capL) 0 [] :: .obj b #[.string ⟨#[]⟩, .int .u64 0] 69 :: R))) := Sep.new HS2.out ((Below.refl _ _).alloc (Nat.le_refl _) _) ⟨heap_alloc_new w2 _, Nat.le_trans hB HB2.out.size⟩ (by simp [Pc.blk])
  have HB3 : Hid (Below B w (w2.alloc (.cells #[.string x.1, .int .u64 x.2] 69))) := HB2.out.alloc (Nat.le_trans hB HB2.out.size) _
  generalize w2.alloc (.cells #[.string x.1, .int .u64 x.2] 69) = w3 at HS3 HB3 ⊢
  obtain ⟨k, HKk⟩ : ∃ k, Hid (k = w2.heap.size) := ⟨_, rfl⟩
  rw [← HKk.out] at HS3 ⊢
  clear n0 n1 nf0 nf1 HIL HRW HCL HS2 HB2 HS1 HBB1 HBz
  have y0 := cellO (HS3.out.obj (g := n) (a := #[.slice (some ⟨g, 0, none⟩) (m + 1) cap, .slice ao 0 capL]) (T := 73) (by simp)) 0 rfl
  have y1 := frozenO (HS3.out.obj (g := n) (a := #[.slice (some ⟨g, 0, none⟩) (m + 1) cap, .slice ao 0 capL]) (T := 73) (by simp)) 0
  have HS4 : Hid (Sep (w3.setCell ⟨n, 0, none⟩ (.slice (some ⟨g, 0, none⟩) m cap)) B (.obj k #[.string x.1, .int .u64 x.2] 69 :: (ndp n (.slice (some ⟨g, 0, none⟩) m cap) (.slice ao 0 capL) (L.take m) [] ++ (.obj b #[.string ⟨#[]⟩, .int .u64 0] 69 :: R)))) := by
    unfold ndp
    rw [HLT.out]
    exact Sep.store [.obj k #[.string x.1, .int .u64 x.2] 69] HS3.out 0 (.slice (some ⟨g, 0, none⟩) m cap)
  have HBn : Hid (B ≤ n) := (HS3.out.at_ (.obj n #[.slice (some ⟨g, 0, none⟩) (m + 1) cap, .slice ao 0 capL] 73) (by simp)).2
  have HB4 : Hid (Below B w (w3.setCell ⟨n, 0, none⟩ (.slice (some ⟨g, 0, none⟩) m cap))) := HB3.out.setCell HBn.out _
  go_upto_region 4 with fail
  generalize w3.setCell ⟨n, 0, none⟩ (.slice (some ⟨g, 0, none⟩) m cap) = w4 at HS4 HB4 ⊢
  clear y0 y1 HS3 HB3 HBn
  have k0 := cellO (HS4.out.obj (g := k) (a := #[.string x.1, .int .u64 x.2]) (T := 69) (by simp)) 0 rfl
  have k1 := cellO (HS4.out.obj (g := k) (a := #[.string x.1, .int .u64 x.2]) (T := 69) (by simp)) 1 rfl
  have hb := HS4.out.obj (g := b) (a := #[.string ⟨#[]⟩, .int .u64 0]) (T := 69) (by simp [ndp])
  have z0 := cellO hb 0 rfl
  have z1 := cellO hb 1 rfl
  have z2 := frozenO hb 0
  have z3 := frozenO hb 1
  have HS5 : Hid (Sep ((w4.setCell ⟨b, 0, none⟩ (.string x.1)).setCell ⟨b, 1, none⟩ (.int .u64 x.2)) B (.obj k #[.string x.1, .int .u64 x.2] 69 :: (ndp n (.slice (some ⟨g, 0, none⟩) m cap) (.slice ao 0 capL) (L.take m) [] ++ (.obj b #[.string x.1, .int .u64 x.2] 69 :: R)))) := by
    have h1 := Sep.store (.obj k #[.string x.1, .int .u64 x.2] 69 :: ndp n (.slice (some ⟨g, 0, none⟩) m cap) (.slice ao 0 capL) (L.take m) []) HS4.out 0 (.string x.1)
    exact Sep.store (.obj k #[.string x.1, .int .u64 x.2] 69 :: ndp n (.slice (some ⟨g, 0, none⟩) m cap) (.slice ao 0 capL) (L.take m) []) h1 1 (.int .u64 x.2)
  have HBn : Hid (B ≤ b) := (HS4.out.at_ (.obj b #[.string ⟨#[]⟩, .int .u64 0] 69) (by simp [ndp])).2
  have HB5 : Hid (Below B w ((w4.setCell ⟨b, 0, none⟩ (.string x.1)).setCell ⟨b, 1, none⟩ (.int .u64 x.2))) := (HB4.out.setCell HBn.out _).setCell HBn.out _
  clear hb
  go_wp2_with fail
  generalize ((w4.setCell ⟨b, 0, none⟩ (.string x.1)).setCell ⟨b, 1, none⟩ (.int .u64 x.2)) = w5 at HS5 HB5 ⊢
  have hb5 := HS5.out.obj (g := b) (a := #[.string x.1, .int .u64 x.2]) (T := 69) (by simp [ndp])
  refine bodyPost_ret (results_cell_row (P := Try.prog) rfl _ w5 b _ _ _ _ rfl hb5 Try.underlying69 rfl Try.hiI) rfl ?_
  refine ⟨rfl, ⟨_, HS5.out.sub (List.Sublist.cons _ (List.Sublist.append (List.Sublist.refl _) (List.sublist_cons_self _ _)))⟩, HB5.out⟩
set_option maxHeartbeats 4000000 in
theorem lastNode {w : World} {B h n p q most lo : Nat} {vI vC : Value} {L : List It} {K1 : List (Tr (h + 1))} {c : Nd (Tr h)} {R : List Pc} (h3 : 3 ≤ most) (h64 : most ≤ 64)
    (ih : ∀ (t : Nd (Tr h)) (w : World) (lo : Nat) (R : List Pc), Sep w B (pcs (h + 1) (up1 t) ++ R) → treeO p q most ∈ R → B ≤ w.heap.size → Shp most (h + 1) lo most (up1 t) → 1 ≤ lo →
      Calls Try.prog 49 #[.pointer (some ⟨p, 0, none⟩), .pointer (some ⟨t.n, 0, none⟩)] w fun e w' => ∃ x : It, e = .returned (.agg #[.string x.1, .int .u64 x.2]) ∧ LastP most lo B h t x R w' ∧ Below B w w')
    (hS : Sep w B (pcs (h + 2) (up1 (⟨n, vI, vC, L, K1 ++ [up1 c]⟩ : Nd (Tr (h + 1)))) ++ R)) (hT : treeO p q most ∈ R) (hB : B ≤ w.heap.size) (hsh : Shp most (h + 2) lo most (up1 (⟨n, vI, vC, L, K1 ++ [up1 c]⟩ : Nd (Tr (h + 1))))) (hlo : 1 ≤ lo) :
    Calls Try.prog 49 #[.pointer (some ⟨p, 0, none⟩), .pointer (some ⟨n, 0, none⟩)] w fun e w' => ∃ x : It, e = .returned (.agg #[.string x.1, .int .u64 x.2]) ∧ LastP most lo B (h + 1) ⟨n, vI, vC, L, K1 ++ [up1 c]⟩ x R w' ∧ Below B w w' := by
  have hs := shp_up.1 hsh
  have hLlo : lo ≤ L.length := hs.1
  have hLhi : L.length ≤ most := hs.2.1
  have hkl : (K1 ++ [up1 c]).length = L.length + 1 := hs.2.2.1 (by omega)
  have hkids : ∀ e ∈ K1 ++ [up1 c], Shp most (h + 1) (most / 2) most e := hs.2.2.2
  have HLK : Hid (L.length = K1.length) := by unfold Hid; rw [List.length_append] at hkl; simp at hkl; omega
  have HB1 : Hid (Below w.heap.size w (w.alloc (.cells #[.string ⟨#[]⟩, .int .u64 0] 69))) := (Below.refl _ _).alloc (Nat.le_refl _) _
  have HS1 : Hid (Sep (w.alloc (.cells #[.string ⟨#[]⟩, .int .u64 0] 69)) B (pcs (h + 2) (up1 (⟨n, vI, vC, L, K1 ++ [up1 c]⟩ : Nd (Tr (h + 1)))) ++ (.obj w.heap.size #[.string ⟨#[]⟩, .int .u64 0] 69 :: R))) := by
    have hh := Sep.new (w' := w.alloc (.cells #[.string ⟨#[]⟩, .int .u64 0] 69)) (p := .obj w.heap.size #[.string ⟨#[]⟩, .int .u64 0] 69) hS HB1.out ⟨heap_alloc_new w _, hB⟩ (by simp [Pc.blk])
    exact hh.perm (List.perm_middle (l₁ := pcs (h + 2) (up1 (⟨n, vI, vC, L, K1 ++ [up1 c]⟩ : Nd (Tr (h + 1))))) (l₂ := R)).symm
  have HT : Hid (treeO p q most ∈ R) := hT
  have HIH : Hid _ := ih
  have HKI : Hid (∀ e ∈ K1 ++ [up1 c], Shp most (h + 1) (most / 2) most e) := hkids
  clear hS hT hs ih hsh hkids
  go_enter Try.func49, Try.ntmps49
  go_upto_region 1 with fail
  have HBB1 : Hid (Below B w (w.alloc (.cells #[.string ⟨#[]⟩, .int .u64 0] 69))) := HB1.out.mono hB
  generalize w.alloc (.cells #[.string ⟨#[]⟩, .int .u64 0] 69) = w1 at HS1 HBB1 ⊢
  obtain ⟨b, HBb⟩ : ∃ b, Hid (b = w.heap.size) := ⟨_, rfl⟩
  rw [← HBb.out] at HS1 ⊢
  obtain ⟨_, gC, capC, hvC, n1, hCc⟩ := node_cells HS1.out hkl
  have ca := hCc L.length (up1 c) (by rw [HLK.out]; simp)
  rw [adr_up] at ca
  have HIL : Hid _ := isLeaf_no (n := n) (w := w1) (ad := ⟨gC, 0, none⟩) (k := L.length + 1) (cap := capC) n1 (by omega)
  have HSK := HS1.out.perm (perm_kid n vI vC L K1 (up1 c) [] (.obj b #[.string ⟨#[]⟩, .int .u64 0] 69 :: R))
  have HREC : Hid _ := HIH.out c w1 (most / 2) _ HSK (List.mem_append_right _ (List.mem_append_right _ (List.mem_append_right _ (List.mem_cons_of_mem _ HT.out)))) (Nat.le_trans hB HBB1.out.size) (HKI.out _ (by simp)) (by omega)
  obtain ⟨l, HLl⟩ : ∃ l, Hid (L.length = l) := ⟨_, rfl⟩
  rw [HLl.out] at n1 ca
  have hl0 : l ≤ 64 := by rw [← HLl.out]; omega
  have hll : (l : Int) < (l : Int) + 1 := by omega
  clear hCc HSK HIH hkl
  go_upto_region 7 with (first
    | (go_at_call 45; refine Calls.mono HIL.out ?_; rintro e w6 ⟨rfl, hw6⟩; obtain rfl := hw6.symm)
    | (go_at_call 49; refine Calls.mono HREC.out ?_; rintro e w2 ⟨x, rfl, hp2, hb2⟩; have HP2 : Hid (LastP most (most / 2) B h c x (ndp n vI vC L ((K1 ++ [up1 c]).map (adr (h + 1))) ++ (K1.flatMap (pcs (h + 1)) ++ (([] : List (Tr (h + 1))).flatMap (pcs (h + 1)) ++ (.obj b #[.string ⟨#[]⟩, .int .u64 0] 69 :: R)))) w2) := hp2; have HB2 : Hid (Below B w w2) := HBB1.out.trans hb2; clear hp2 hb2))
  obtain ⟨c', hcn, hsc, hshc, hfc⟩ := HP2.out
  have hmap : (K1 ++ [up1 c]).map (adr (h + 1)) = (K1 ++ [up1 c']).map (adr (h + 1)) := by rw [List.map_append, List.map_append, List.map_cons, List.map_cons, adr_up, adr_up, hcn]
  have HS3 : Hid (Sep (w2.alloc (.cells #[.string x.1, .int .u64 x.2] 69)) B (pcs (h + 2) (up1 (⟨n, vI, vC, L, K1 ++ [up1 c']⟩ : Nd (Tr (h + 1)))) ++ (.obj w2.heap.size #[.string x.1, .int .u64 x.2] 69 :: .obj b #[.string ⟨#[]⟩, .int .u64 0] 69 :: R))) := by
    rw [hmap] at hsc
    have h1 := hsc.perm (perm_kid n vI vC L K1 (up1 c') [] (.obj b #[.string ⟨#[]⟩, .int .u64 0] 69 :: R)).symm
    have h2 := Sep.new (w' := w2.alloc (.cells #[.string x.1, .int .u64 x.2] 69)) (p := .obj w2.heap.size #[.string x.1, .int .u64 x.2] 69) h1 ((Below.refl _ _).alloc (Nat.le_refl _) _) ⟨heap_alloc_new w2 _, Nat.le_trans hB HB2.out.size⟩ (by simp [Pc.blk])
    exact h2.perm (List.perm_middle (l₁ := pcs (h + 2) (up1 (⟨n, vI, vC, L, K1 ++ [up1 c']⟩ : Nd (Tr (h + 1))))) (l₂ := .obj b #[.string ⟨#[]⟩, .int .u64 0] 69 :: R)).symm
  have HB3 : Hid (Below B w (w2.alloc (.cells #[.string x.1, .int .u64 x.2] 69))) := HB2.out.alloc (Nat.le_trans hB HB2.out.size) _
  generalize w2.alloc (.cells #[.string x.1, .int .u64 x.2] 69) = w3 at HS3 HB3 ⊢
  obtain ⟨k, HKk⟩ : ∃ k, Hid (k = w2.heap.size) := ⟨_, rfl⟩
  rw [← HKk.out] at HS3 ⊢
  have HREF : Hid _ := refill_any (p := p) (q := q) (lo := lo) (a := l) h3 h64 HS3.out (List.mem_cons_of_mem _ (List.mem_cons_of_mem _ HT.out)) (Nat.le_trans hB HB3.out.size) (by rw [HLK.out]; simp) (by omega) (by omega) hLhi (fun e he => HKI.out e (by simp at he ⊢; exact .inl he)) hshc (by rw [← HLK.out, HLl.out])
  have HFC : Hid (flat (h + 1) (up1 c) = flat (h + 1) (up1 c') ++ [x]) := hfc
  clear hsc hshc hfc hcn hmap n1 ca HIL HREC HP2 HS1
  go_upto_region 8 with (go_at_call 50; refine Calls.mono HREF.out ?_; rintro e w4 ⟨rfl, hp4, hb4⟩; have HP4 : Hid (RefP most lo B (h + 1) n (flat (h + 2) (up1 (⟨n, vI, vC, L, K1 ++ [up1 c']⟩ : Nd (Tr (h + 1))))) (.obj k #[.string x.1, .int .u64 x.2] 69 :: .obj b #[.string ⟨#[]⟩, .int .u64 0] 69 :: R) w4) := hp4; have HB4 : Hid (Below B w w4) := HB3.out.trans hb4; clear hp4 hb4)
  obtain ⟨t', htn, hst, hsht, _, hft⟩ := HP4.out
  have HS4 : Hid (Sep w4 B (pcs (h + 2) (up1 t') ++ (.obj k #[.string x.1, .int .u64 x.2] 69 :: .obj b #[.string ⟨#[]⟩, .int .u64 0] 69 :: R))) := hst
  have k0 := cellO (HS4.out.obj (g := k) (a := #[.string x.1, .int .u64 x.2]) (T := 69) (by simp)) 0 rfl
  have k1 := cellO (HS4.out.obj (g := k) (a := #[.string x.1, .int .u64 x.2]) (T := 69) (by simp)) 1 rfl
  have hb := HS4.out.obj (g := b) (a := #[.string ⟨#[]⟩, .int .u64 0]) (T := 69) (by simp)
  have z0 := cellO hb 0 rfl
  have z1 := cellO hb 1 rfl
  have z2 := frozenO hb 0
  have z3 := frozenO hb 1
  have HS5 : Hid (Sep ((w4.setCell ⟨b, 0, none⟩ (.string x.1)).setCell ⟨b, 1, none⟩ (.int .u64 x.2)) B (pcs (h + 2) (up1 t') ++ (.obj k #[.string x.1, .int .u64 x.2] 69 :: .obj b #[.string x.1, .int .u64 x.2] 69 :: R))) := by
    have h0 : Sep w4 B ((pcs (h + 2) (up1 t') ++ [Pc.obj k #[.string x.1, .int .u64 x.2] 69]) ++ .obj b #[.string ⟨#[]⟩, .int .u64 0] 69 :: R) := by rw [List.append_assoc]; exact HS4.out
    have h2 := Sep.store _ (Sep.store _ h0 0 (.string x.1)) 1 (.int .u64 x.2)
    rw [List.append_assoc] at h2
    exact h2
  have HBn : Hid (B ≤ b) := (HS4.out.at_ (.obj b #[.string ⟨#[]⟩, .int .u64 0] 69) (by simp)).2
  have HB5 : Hid (Below B w ((w4.setCell ⟨b, 0, none⟩ (.string x.1)).setCell ⟨b, 1, none⟩ (.int .u64 x.2))) := (HB4.out.setCell HBn.out _).setCell HBn.out _
  have HTN : Hid (t'.n = n) := htn
  have HSHT : Hid (Shp most (h + 2) (lo - 1) most (up1 t')) := hsht
  have HFT : Hid (flat (h + 2) (up1 t') = flat (h + 2) (up1 (⟨n, vI, vC, L, K1 ++ [up1 c']⟩ : Nd (Tr (h + 1))))) := hft
  clear hb hst hsht hft htn
  go_wp2_with fail
  generalize ((w4.setCell ⟨b, 0, none⟩ (.string x.1)).setCell ⟨b, 1, none⟩ (.int .u64 x.2)) = w5 at HS5 HB5 ⊢
  have hb5 := HS5.out.obj (g := b) (a := #[.string x.1, .int .u64 x.2]) (T := 69) (by simp)
  refine bodyPost_ret (results_cell_row (P := Try.prog) rfl _ w5 b _ _ _ _ rfl hb5 Try.underlying69 rfl Try.hiI) rfl ?_
  refine ⟨x, rfl, ⟨t', HTN.out, HS5.out.sub ?_, HSHT.out, ?_⟩, HB5.out⟩
  · exact List.Sublist.append (List.Sublist.refl _) ((List.sublist_cons_self _ _).trans (List.sublist_cons_self _ _))
  · rw [HFT.out]
    have e1 := one_flat (n := n) (vI := vI) (vC := vC) (L1 := L) (L2 := []) (K1 := K1) (K2 := []) (c := up1 c) HLK.out
    have e2 := one_flat (n := n) (vI := vI) (vC := vC) (L1 := L) (L2 := []) (K1 := K1) (K2 := []) (c := up1 c') HLK.out
    rw [List.append_nil] at e1 e2
    rw [e1, e2, HFC.out]
    simp [post]
/-- removeLast in a tree of any depth. -/
theorem last_any {B p q most : Nat} (h3 : 3 ≤ most) (h64 : most ≤ 64) : ∀ (h : Nat) (t : Nd (Tr h)) (w : World) (lo : Nat) (R : List Pc), Sep w B (pcs (h + 1) (up1 t) ++ R) → treeO p q most ∈ R → B ≤ w.heap.size → Shp most (h + 1) lo most (up1 t) → 1 ≤ lo →
      Calls Try.prog 49 #[.pointer (some ⟨p, 0, none⟩), .pointer (some ⟨t.n, 0, none⟩)] w fun e w' => ∃ x : It, e = .returned (.agg #[.string x.1, .int .u64 x.2]) ∧ LastP most lo B h t x R w' ∧ Below B w w'
  | 0, ⟨n, vI, vC, L, ks⟩, w, lo, R, hS, hT, hB, hsh, hlo => by
    have hks : ks = [] := ks_leaf ⟨n, vI, vC, L, ks⟩
    subst hks
    have hs := shp_up.1 hsh
    have h1 : lo ≤ L.length := hs.1
    have h2 : L.length ≤ most := hs.2.1
    obtain ⟨m, hm⟩ : ∃ m, L.length = m + 1 := ⟨L.length - 1, by omega⟩
    obtain ⟨x, hx⟩ : ∃ x, L[m]? = some x := ⟨L[m]'(by omega), List.getElem?_eq_getElem _⟩
    refine (lastLeaf (p := p) (nd_in hS) hB hm hx (by omega)).mono ?_
    rintro e w' ⟨rfl, ⟨vI', hS'⟩, hb⟩
    refine ⟨x, rfl, ⟨⟨n, vI', vC, L.take m, []⟩, rfl, nd_out hS', shp_up.2 ⟨?_, ?_, fun h => absurd h (by omega), fun d hd => by cases hd⟩, ?_⟩, hb⟩
    · show lo - 1 ≤ (L.take m).length; rw [List.length_take]; omega
    · show (L.take m).length ≤ most; rw [List.length_take]; omega
    · show L = L.take m ++ [x]
      obtain ⟨h5, h6⟩ := List.getElem?_eq_some_iff.1 hx
      have h7 : L = L.take m ++ L.drop m := (List.take_append_drop m L).symm
      rw [← List.getElem_cons_drop h5, h6, List.drop_of_length_le (l := L) (i := m + 1) (by omega)] at h7
      exact h7
  | h + 1, ⟨n, vI, vC, L, ks⟩, w, lo, R, hS, hT, hB, hsh, hlo => by
    have hkl : ks.length = L.length + 1 := (shp_up.1 hsh).2.2.1 (by omega)
    obtain ⟨K1, c, rfl⟩ : ∃ (K1 : List (Tr (h + 1))) (c : Nd (Tr h)), ks = K1 ++ [up1 c] := by
      have hne : ks ≠ [] := fun e => by subst e; rw [List.length_nil] at hkl; omega
      exact ⟨ks.dropLast, ks.getLast hne, (List.dropLast_concat_getLast hne).symm⟩
    exact lastNode h3 h64 (fun t w lo R => last_any h3 h64 h t w lo R) hS hT hB hsh hlo
end Go.Proofs.Ytelfjgnmbikofaa
