/-
  appendNodes: all nodes of a tree, each ahead of what lies below it. Conditions: the tree has its shape; lengths are such as memory bears.
-/
import Derived.Test.YtelfjgnmbikofaaBKeys
import Derived.OwnWalk
namespace Go.Proofs.Ytelfjgnmbikofaa
open Go.RowKit
set_option linter.unusedVariables false
set_option maxRecDepth 100000

/-- An entry: level, leaf, the slice of its keys, and the keys. -/
abbrev En := Int × Bool × Value × List ByteArray
def encE (e : En) : List Value := [.int .i64 e.1, .bool e.2.1, e.2.2.1]
theorem encE_len (e : En) : (encE e).length = 3 := rfl
def rowE (v : Value) (es : List En) : Pc := .row 61 3 v es.length (gc encE es)
def kp (es : List En) : List Pc := es.map (fun e => rowS e.2.2.1 e.2.2.2)
theorem Try.infoE : (Try.prog.info? 61).map (fun i => (i.zero, i.size, i.bytes)) = some (some (.agg #[.int .i64 0, .bool false, .slice none 0 0]), 3, 40) := by kernel_rfl
/-- The nodes of a tree, in order. -/
def nodesL : (h : Nat) → Nat → Tr h → List (Int × Bool × List ByteArray)
  | 0, _, _ => []
  | h + 1, lv, t => ((lv : Int), decide (h = 0), (Nd.L (K := Tr h) t).map (·.1)) :: (Nd.ks (K := Tr h) t).flatMap (nodesL h (lv + 1))
theorem nodesL_up {h lv : Nat} {t : Nd (Tr h)} : nodesL (h + 1) lv (up1 t) = ((lv : Int), decide (h = 0), t.L.map (·.1)) :: t.ks.flatMap (nodesL h (lv + 1)) := rfl
def shE (e : En) : Int × Bool × List ByteArray := (e.1, e.2.1, e.2.2.2)
def cntN (h lv : Nat) (t : Tr h) : Nat := (nodesL h lv t).length
theorem flatMap_upto {α β : Type} (f : α → List β) {l : List α} {i : Nat} {c : α} (h : l[i]? = some c) : (l.take (i + 1)).flatMap f = (l.take i).flatMap f ++ f c ∧ ((l.take i).flatMap f).length + (f c).length ≤ (l.flatMap f).length := by
  have e1 : (l.take (i + 1)).flatMap f = (l.take i).flatMap f ++ f c := by rw [List.take_add_one, h]; simp
  refine ⟨e1, ?_⟩
  have e2 : l.flatMap f = (l.take (i + 1)).flatMap f ++ (l.drop (i + 1)).flatMap f := by rw [← List.flatMap_append, List.take_append_drop]
  rw [e2, e1]
  simp only [List.length_append]
  omega
/-- Where the loop over the children stands. -/
def NP (w : World) (B h lv : Nat) (es : List En) (Z : List Pc) (ks : List (Tr h)) (hd : Int × Bool × List ByteArray) (wr : World) (y : Value) (i : Nat) : Prop :=
  ∃ es', es'.map shE = hd :: (ks.take i).flatMap (nodesL h (lv + 1)) ∧ Sep wr B (rowE y (es ++ es') :: (kp (es ++ es') ++ Z)) ∧ Below B w wr
set_option maxHeartbeats 4000000 in
theorem nodStep {w : World} {B h n p q most lo lv : Nat} {vI vC vO : Value} {L : List It} {ks : List (Tr h)} {es : List En} {R : List Pc} (h3 : 3 ≤ most) (h64 : most ≤ 64)
    (ih : ∀ (c : Tr h) (w : World) (vO : Value) (es : List En) (R : List Pc), Sep w B (rowE vO es :: (kp es ++ (pcs h c ++ R))) → treeO p q most ∈ R → B ≤ w.heap.size → Shp most h (most / 2) most c → es.length + cntN h (lv + 1) c ≤ 1000000 → (∀ y ∈ flat h c, y.1.size ≤ 281474976710656) →
      Calls Try.prog 42 #[.pointer (some ⟨p, 0, none⟩), vO, .pointer (some ⟨adr h c, 0, none⟩), .int .i64 ((lv : Int) + 1)] w fun e w' => ∃ vO' es', e = .returned vO' ∧ es'.map shE = nodesL h (lv + 1) c ∧ Sep w' B (rowE vO' (es ++ es') :: (kp (es ++ es') ++ (pcs h c ++ R))) ∧ Below B w w')
    (hS : Sep w B (rowE vO es :: (kp es ++ (pcs (h + 1) (up1 (⟨n, vI, vC, L, ks⟩ : Nd (Tr h))) ++ R)))) (hT : treeO p q most ∈ R) (hB : B ≤ w.heap.size) (hsh : Shp most (h + 1) lo most (up1 (⟨n, vI, vC, L, ks⟩ : Nd (Tr h)))) (hlv : lv ≤ 1000000) (hcn : es.length + cntN (h + 1) lv (up1 (⟨n, vI, vC, L, ks⟩ : Nd (Tr h))) ≤ 1000000) (hz : ∀ y ∈ flat (h + 1) (up1 (⟨n, vI, vC, L, ks⟩ : Nd (Tr h))), y.1.size ≤ 281474976710656) :
    Calls Try.prog 42 #[.pointer (some ⟨p, 0, none⟩), vO, .pointer (some ⟨n, 0, none⟩), .int .i64 (lv : Int)] w fun e w' => ∃ vO' es', e = .returned vO' ∧ es'.map shE = nodesL (h + 1) lv (up1 (⟨n, vI, vC, L, ks⟩ : Nd (Tr h))) ∧ Sep w' B (rowE vO' (es ++ es') :: (kp (es ++ es') ++ (pcs (h + 1) (up1 (⟨n, vI, vC, L, ks⟩ : Nd (Tr h))) ++ R))) ∧ Below B w w' := by
  obtain ⟨i1, hi1, hy0, hy1, hy2⟩ := info_partsG Try.infoS
  obtain ⟨j1, hj1, hv0, hv1, hv2⟩ := info_partsG Try.infoE
  have hs := shp_up.1 hsh
  have hLm : L.length ≤ most := hs.2.1
  have hsub : List.Sublist L (flat (h + 1) (up1 (⟨n, vI, vC, L, ks⟩ : Nd (Tr h)))) := il_sub L _ (shp_kin (t := (⟨n, vI, vC, L, ks⟩ : Nd (Tr h))) hsh)
  have HZ : Hid (∀ y ∈ L, y.1.size ≤ 281474976710656) := fun y hy => hz y (hsub.subset hy)
  have HKZ : Hid (∀ c ∈ ks, ∀ y ∈ flat h c, y.1.size ≤ 281474976710656) := fun c hc y hy => hz y ((kid_sub L _ (shp_kin (t := (⟨n, vI, vC, L, ks⟩ : Nd (Tr h))) hsh) _ (List.mem_map.2 ⟨c, hc, rfl⟩)).subset hy)
  have HKS : Hid (∀ c ∈ ks, Shp most h (most / 2) most c) := hs.2.2.2
  have hcut : Sep w B (pcs (h + 1) (up1 (⟨n, vI, vC, L, ks⟩ : Nd (Tr h))) ++ R) := hS.sub ((List.sublist_append_right _ _).trans (List.sublist_cons_self _ _))
  have hn := (nd_in hcut).nd_ []
  obtain ⟨ao, cap, hvI⟩ := row_slice hn.rI
  have hvI' : vI = .slice ao L.length cap := hvI
  obtain ⟨aoC, capC, hvC⟩ := row_slice hn.rC
  have hvC' : vC = .slice aoC ks.length capC := by have h9 : vC = .slice aoC (ks.map (adr h)).length capC := hvC; rw [h9, List.length_map]
  subst hvI' hvC'
  have hcl : ks.length ≤ 1000 := by
    cases h with
    | zero => have h9 : ks = [] := ks_leaf (⟨n, .slice ao L.length cap, .slice aoC ks.length capC, L, ks⟩ : Nd (Tr 0)); rw [h9]; simp
    | succ h => have h9 : ks.length = L.length + 1 := hs.2.2.1 (by omega); omega
  obtain ⟨l, HLl⟩ : ∃ l, Hid (L.length = l) := ⟨_, rfl⟩
  obtain ⟨kn, HKn⟩ : ∃ kn, Hid (ks.length = kn) := ⟨_, rfl⟩
  obtain ⟨Z, HZe⟩ : ∃ Z, Hid (pcs (h + 1) (up1 (⟨n, .slice ao L.length cap, .slice aoC ks.length capC, L, ks⟩ : Nd (Tr h))) ++ R = Z) := ⟨_, rfl⟩
  have HXN : Hid (∀ W, Sep W B Z → W.cell? ⟨n, 0, none⟩ = some (.slice ao l cap) ∧ W.cell? ⟨n, 1, none⟩ = some (.slice aoC kn capC) ∧ (∀ (i : Nat) (y : It), L[i]? = some y → ∃ g, ao = some ⟨g, 0, none⟩ ∧ W.cell? ⟨g, i * 2, none⟩ = some (.string y.1) ∧ W.cell? ⟨g, i * 2 + 1, none⟩ = some (.int .u64 y.2)) ∧ (∀ (i : Nat) (c : Tr h), ks[i]? = some c → ∃ g, aoC = some ⟨g, 0, none⟩ ∧ W.cell? ⟨g, i, none⟩ = some (.pointer (some ⟨adr h c, 0, none⟩)))) := by
    intro W hW
    rw [← HZe.out] at hW
    have hN := (nd_in hW).nd_ []
    refine ⟨by rw [← HLl.out]; exact hN.c.1, by rw [← HKn.out]; exact hN.c.2.1, fun i y hy => ?_, fun i c hc => ?_⟩
    · have h1 := (List.getElem?_eq_some_iff.1 hy).1
      obtain ⟨g, capg, hg, _, _, _, _, _, hgc⟩ := row_some hN.rI (by show 1 ≤ L.length; omega)
      have hg' : Value.slice ao L.length cap = .slice (some ⟨g, 0, none⟩) L.length capg := hg
      injection hg' with e1 e2 e3
      exact ⟨g, e1, by have := hgc _ _ (gc_at encI_len L _ _ hy 0 _ rfl); simpa using this, hgc _ _ (gc_at encI_len L _ _ hy 1 _ rfl)⟩
    · have h1 := (List.getElem?_eq_some_iff.1 hc).1
      obtain ⟨g, capg, hg, _, _, _, _, _, hgc⟩ := row_some hN.rC (by show 1 ≤ (ks.map (adr h)).length; simp; omega)
      have hg' : Value.slice aoC ks.length capC = .slice (some ⟨g, 0, none⟩) (ks.map (adr h)).length capg := hg
      injection hg' with e1 e2 e3
      refine ⟨g, e1, ?_⟩
      have := hgc _ _ (gc_at encP_len (ks.map (adr h)) i (adr h c) (by rw [List.getElem?_map, hc]; rfl) 0 _ rfl)
      simpa using this
  have HLF : Hid (∀ W, Sep W B Z → Calls Try.prog 45 #[.pointer (some ⟨n, 0, none⟩)] W fun e w' => e = .returned (.bool (decide (h = 0))) ∧ w' = W) := by
    intro W hW
    have hc := (HXN.out W hW).2.1
    cases h with
    | zero =>
      have h9 : ks = [] := ks_leaf (⟨n, .slice ao L.length cap, .slice aoC ks.length capC, L, ks⟩ : Nd (Tr 0))
      have h8 : kn = 0 := by rw [← HKn.out, h9]; rfl
      subst h8
      exact isLeaf_z hc
    | succ h =>
      have h9 : ks.length = L.length + 1 := hs.2.2.1 (by omega)
      obtain ⟨c, hc9⟩ : ∃ c, ks[0]? = some c := ⟨ks[0]'(by omega), List.getElem?_eq_getElem _⟩
      obtain ⟨g, rfl, _⟩ := (HXN.out W hW).2.2.2 0 c hc9
      exact isLeaf_no hc (by rw [← HKn.out]; omega)
  have HTZ : Hid (treeO p q most ∈ Z) := by unfold Hid; rw [← HZe.out]; exact List.mem_append_right _ hT
  have HPK : Hid (∀ (c : Tr h) (i : Nat), ks[i]? = some c → ∃ R', treeO p q most ∈ R' ∧ List.Perm Z (pcs h c ++ R')) := by
    intro c i hc
    obtain ⟨h5, h6⟩ := List.getElem?_eq_some_iff.1 hc
    have e : ks = ks.take i ++ c :: ks.drop (i + 1) := by rw [← h6, List.getElem_cons_drop, List.take_append_drop]
    refine ⟨_, ?_, by
      rw [← HZe.out]
      have := perm_kid n (.slice ao L.length cap) (.slice aoC ks.length capC) L (ks.take i) c (ks.drop (i + 1)) R
      rw [← e] at this
      exact this⟩
    exact List.mem_append_right _ (List.mem_append_right _ (List.mem_append_right _ hT))
  have HIH : Hid _ := ih
  have HCN : Hid (es.length + (1 + (ks.flatMap (nodesL h (lv + 1))).length) ≤ 1000000) := by unfold Hid; have h8 : es.length + ((ks.flatMap (nodesL h (lv + 1))).length + 1) ≤ 1000000 := hcn; omega
  have HS : Hid (Sep w B (rowE vO es :: (kp es ++ Z))) := by unfold Hid; rw [← HZe.out]; exact hS
  obtain ⟨aoO, capO, hvO⟩ := row_slice (hS.at_ (rowE vO es) (List.Mem.head _))
  subst hvO
  rw [show nodesL (h + 1) lv (up1 (⟨n, .slice ao L.length cap, .slice aoC ks.length capC, L, ks⟩ : Nd (Tr h))) = ((lv : Int), decide (h = 0), L.map (·.1)) :: ks.flatMap (nodesL h (lv + 1)) from rfl, HZe.out]
  obtain ⟨lf, HLFE⟩ : ∃ lf, Hid (decide (h = 0) = lf) := ⟨_, rfl⟩
  rw [HLFE.out] at HLF ⊢
  have hl64 : l ≤ 64 := by rw [← HLl.out]; omega
  rw [HKn.out] at hcl
  obtain ⟨n0, n1, _, _⟩ := HXN.out w (HS.out.sub ((List.sublist_append_right _ _).trans (List.sublist_cons_self _ _)))
  obtain ⟨el, HEl⟩ : ∃ el, Hid (es.length = el) := ⟨_, rfl⟩
  have hel : el ≤ 1000000 := by rw [← HEl.out]; have := HCN.out; omega
  rw [HEl.out] at HS ⊢
  obtain ⟨wm, hrun, hom, hgm⟩ := run_make_own (P := Try.prog) w B 26 9 i1 _ 1 Try.underlying26 hi1 hy0 hy1 .i64 .i64 l (by rw [hy2]; omega) (by unfold maxLen; omega) hB
  have HBM : Hid (Below w.heap.size w wm) := ⟨hgm.os, hgm.tape, hgm.output, hgm.size, fun x hx => hgm.block x hx (by simp)⟩
  have HSM : Hid (Sep wm B (rowS (.slice (some ⟨w.heap.size, 0, none⟩) 0 l) [] :: (rowE (.slice aoO el capO) es :: (kp es ++ Z)))) := Sep.new HS.out HBM.out hom (by intro x hx; simp [Pc.blk, rowS, Value.ownBlock] at hx; omega)
  have HBB0 : Hid (Below B w wm) := HBM.out.mono hB
  have n0m : wm.cell? ⟨n, 0, none⟩ = some (.slice ao l cap) := (HBM.out.cell (World.block_lt_of_cell? w _ n0)).trans n0
  obtain ⟨X, HX⟩ : ∃ X, Hid (rowE (.slice aoO el capO) es :: (kp es ++ Z) = X) := ⟨_, rfl⟩
  rw [HX.out] at HSM
  have HXZ : Hid (∀ W, Sep W B X → Sep W B Z) := fun W hW => by rw [← HX.out] at hW; exact hW.sub ((List.sublist_append_right _ _).trans (List.sublist_cons_self _ _))
  have HTX : Hid (treeO p q most ∈ X) := by unfold Hid; rw [← HX.out]; exact List.mem_cons_of_mem _ (List.mem_append_right _ HTZ.out)
  clear hS hT hsh ih hz hcut hn hcn hsub hvI hvC hom hgm hs n1 hLm
  go_enter Try.func42, Try.ntmps42
  go_wp2_with fail
  clear n0 n0m hrun
  go_loopw [25, 9] (fun x y wr => ∃ (i : Nat) (aoY : Option Addr) (capY : Nat), i ≤ l ∧ x = .int .i64 (i : Int) ∧ y = .slice aoY i capY ∧ Hid (Sep wr B (rowS (.slice aoY i capY) ((L.take i).map (·.1)) :: X)) ∧ Hid (Below B w wr)) (fun x _ _ => l - (intOf x).toNat)
  case atStart => exact ⟨0, some ⟨w.heap.size, 0, none⟩, l, Nat.zero_le _, rfl, rfl, HSM.out, HBB0.out⟩
  case round =>
    obtain ⟨i, aoY, capY, hil, rfl, rfl, HSr, HBr⟩ := hrel
    clear HSM HBB0 HBM
    obtain ⟨n0, n1, hI, _⟩ := HXN.out wr (HXZ.out wr HSr.out.tail)
    have HKL : Hid (((L.take i).map (·.1)).length = i) := by unfold Hid; rw [List.length_map, List.length_take, HLl.out]; omega
    by_cases hlt : i < l
    · obtain ⟨y, hy⟩ : ∃ y, L[i]? = some y := ⟨L[i]'(by rw [HLl.out]; exact hlt), List.getElem?_eq_getElem _⟩
      obtain ⟨g, rfl, y0, y1⟩ := hI i y hy
      have HWB : Hid (Below wr.heap.size wr (wr.alloc (.cells #[.string y.1, .int .u64 y.2] 69))) := (Below.refl _ _).alloc (Nat.le_refl _) _
      have HBX : Hid ((wr.alloc (.cells #[.string y.1, .int .u64 y.2] 69)).heap[wr.heap.size]? = some (.cells #[.string y.1, .int .u64 y.2] 69 (0, 0))) := heap_alloc_new wr _
      have HSW : Hid (Sep (wr.alloc (.cells #[.string y.1, .int .u64 y.2] 69)) B (rowS (.slice aoY i capY) ((L.take i).map (·.1)) :: X)) := HSr.out.below HWB.out
      have HBW : Hid (Below B w (wr.alloc (.cells #[.string y.1, .int .u64 y.2] 69))) := HBr.out.alloc (Nat.le_trans hB HBr.out.size) _
      have hyz : y.1.size ≤ 281474976710656 := HZ.out y (List.mem_of_getElem? hy)
      have hili : (i : Int) < (l : Int) := by omega
      have HTL : Hid ((L.take (i + 1)).map (·.1) = (L.take i).map (·.1) ++ [y.1]) := by unfold Hid; rw [List.take_add_one, hy]; simp
      clear hI hy n1
      go_upto_region 5 with fail
      generalize wr.alloc (.cells #[.string y.1, .int .u64 y.2] 69) = W1 at HWB HBX HSW HBW ⊢
      obtain ⟨b, HBb⟩ : ∃ b, Hid (b = wr.heap.size) := ⟨_, rfl⟩
      rw [← HBb.out] at HBX ⊢
      clear n0 y0 y1
      have b0 := cellO HBX.out 0 rfl
      obtain ⟨t0, t1, t2, t3⟩ := HSW.out.tr (p := p) (q := q) (most := most) (List.mem_cons_of_mem _ HTX.out)
      have HBD : Hid (Below W1.heap.size W1 W1.drew) := (Below.refl _ _).drew
      have HON : Hid (∀ u ∈ encS y.1, u.oneCell' = true) := fun u hu => one_gcS [y.1] u (by rw [gc_one]; exact hu)
      go_region_law (first
        | (refine step_ownN2 rfl (.tmp 33) (.tmp 35) rfl y.1 rfl rfl hyz ?_; intro w2 hb2; have HB2 : Hid (Below W1.heap.size W1 (w2.alloc (.cells (encS y.1).toArray 9))) := (HBD.out.trans hb2).alloc (Nat.le_trans (Nat.le_refl _) (HBD.out.trans hb2).size) _; have HGX : Hid ((w2.alloc (.cells (encS y.1).toArray 9)).heap[w2.heap.size]? = some (.cells (encS y.1).toArray 9 (0, 0))) := heap_alloc_new w2 _; have HS2 : Hid (Sep (w2.alloc (.cells (encS y.1).toArray 9)) B (rowS (.slice aoY i capY) ((L.take i).map (·.1)) :: X)) := HSW.out.below HB2.out; have HRW : Hid ((w2.alloc (.cells (encS y.1).toArray 9)).ownsRow B 9 1 (.slice aoY i capY) i (gc encS ((L.take i).map (·.1)))) := (by have h := HS2.out.at_ (rowS (.slice aoY i capY) ((L.take i).map (·.1))) (List.Mem.head _); have h' : (w2.alloc (.cells (encS y.1).toArray 9)).ownsRow B 9 1 (.slice aoY i capY) ((L.take i).map (·.1)).length (gc encS ((L.take i).map (·.1))) := h; rw [HKL.out] at h'; exact h'); have HBB : Hid (Below B w (w2.alloc (.cells (encS y.1).toArray 9))) := HBW.out.trans (HB2.out.mono (Nat.le_trans hB HBW.out.size)); clear hb2)
        | (refine step_append_G 38 rfl rfl (.tmp 29) (.tmp 37) 26 9 rfl i1 Try.underlying26 hi1 _ hy0 1 16 hy1 hy2 rfl (by omega) B (.slice aoY i capY) i (gc encS ((L.take i).map (fun x : It => x.1))) ⟨w2.heap.size, 0, none⟩ 1 1 (encS y.1) rfl rfl HRW.out rfl (news_one HGX.out) HON.out (by omega) (by omega) (by omega) (Nat.le_trans hB HBB.out.size) ?_; intro g3 cap3 w3 ho3 hg3 ha3; have HS3 : Hid (Sep w3 B (.row 9 1 (.slice (some ⟨g3, 0, none⟩) (i + 1) cap3) (i + 1) (gc encS ((L.take i).map (fun x : It => x.1)) ++ encS y.1) :: X)) := Sep.turn [] (v := .slice aoY i capY) (n := ((L.take i).map (fun x : It => x.1)).length) (xs := gc encS ((L.take i).map (fun x : It => x.1))) HS2.out ho3 hg3 (ha3.elim (fun e => Or.inl e.symm) (fun e => Or.inr (by intro x hx; simp [Value.ownBlock] at hx; rw [← hx, e]; exact Nat.le_refl _))); have HB3 : Hid (Below B w w3) := below_gr HBB.out (Nat.le_trans hB HBB.out.size) HRW.out hg3; clear ho3 hg3 ha3))
      all_goals
        go_wp2_with fail
        go_roundw
        case rel =>
          refine ⟨i + 1, some ⟨g3, 0, none⟩, cap3, by omega, by simp, rfl, ?_, HB3.out⟩
          have h1 := HS3.out
          unfold Hid rowS
          rw [HTL.out, gc_append, gc_one, List.length_append, HKL.out]
          exact h1
        case measure => simp [intOf]; omega
    · obtain rfl : i = l := by omega
      have HE : Hid ((L.take i).map (·.1) = L.map (·.1)) := by unfold Hid; rw [← HLl.out, List.take_length]
      rw [HE.out] at HSr HKL
      have HSX : Hid (Sep wr B (rowS (.slice aoY i capY) (L.map (·.1)) :: (rowE (.slice aoO el capO) es :: (kp es ++ Z)))) := by unfold Hid; rw [HX.out]; exact HSr.out
      have HIL : Hid _ := HLF.out wr (HXZ.out wr HSr.out.tail)
      have HWB : Hid (Below wr.heap.size wr (wr.alloc (.cells #[.int .i64 (lv : Int), .bool lf, .slice aoY i capY] 61))) := (Below.refl _ _).alloc (Nat.le_refl _) _
      have HBX : Hid ((wr.alloc (.cells #[.int .i64 (lv : Int), .bool lf, .slice aoY i capY] 61)).heap[wr.heap.size]? = some (.cells #[.int .i64 (lv : Int), .bool lf, .slice aoY i capY] 61 (0, 0))) := heap_alloc_new wr _
      have HSA : Hid (Sep (wr.alloc (.cells #[.int .i64 (lv : Int), .bool lf, .slice aoY i capY] 61)) B (rowS (.slice aoY i capY) (L.map (·.1)) :: (rowE (.slice aoO el capO) es :: (kp es ++ Z)))) := HSX.out.below HWB.out
      have HBA : Hid (Below B w (wr.alloc (.cells #[.int .i64 (lv : Int), .bool lf, .slice aoY i capY] 61))) := HBr.out.alloc (Nat.le_trans hB HBr.out.size) _
      have HRE : Hid ((wr.alloc (.cells #[.int .i64 (lv : Int), .bool lf, .slice aoY i capY] 61)).ownsRow B 61 3 (.slice aoO el capO) el (gc encE es)) := by
        have h' : (wr.alloc (.cells #[.int .i64 (lv : Int), .bool lf, .slice aoY i capY] 61)).ownsRow B 61 3 (.slice aoO el capO) es.length (gc encE es) := HSA.out.at_ (rowE (.slice aoO el capO) es) (List.mem_cons_of_mem _ (List.Mem.head _))
        rw [HEl.out] at h'
        exact h'
      have HON : Hid (∀ u ∈ [Value.int .i64 (lv : Int), .bool lf, .slice aoY i capY], u.oneCell' = true) := by intro u hu; simp at hu; rcases hu with rfl | rfl | rfl <;> rfl
      clear n0 n1 hI HLF
      go_wp2_with (first
        | (go_at_call 45; refine Calls.mono HIL.out ?_; rintro e w6 ⟨rfl, hw6⟩; obtain rfl := hw6.symm)
        | (at_builtin; refine wpList_append_G _ rfl (.tmp 40) (.tmp 46) 55 rfl 61 j1 Try.underlying55 hj1 _ hv0 3 40 hv1 hv2 rfl (by omega) B (.slice aoO el capO) el (gc encE es) ⟨wr.heap.size, 0, none⟩ 1 1 [.int .i64 (lv : Int), .bool lf, .slice aoY i capY] rfl rfl HRE.out rfl (news_one HBX.out) HON.out (by omega) (by omega) (by omega) (Nat.le_trans hB HBA.out.size) ?_; intro g3 cap3 w3 ho3 hg3 ha3; have HS3 : Hid (Sep w3 B ([rowS (.slice aoY i capY) (L.map (fun x : It => x.1))] ++ (.row 61 3 (.slice (some ⟨g3, 0, none⟩) (el + 1) cap3) (el + 1) (gc encE es ++ [.int .i64 (lv : Int), .bool lf, .slice aoY i capY]) :: (kp es ++ Z)))) := Sep.turn [rowS (.slice aoY i capY) (L.map (fun x : It => x.1))] (v := .slice aoO el capO) (n := es.length) (xs := gc encE es) HSA.out ho3 hg3 (ha3.elim (fun e => Or.inl e.symm) (fun e => Or.inr (by intro x hx; simp [Value.ownBlock] at hx; rw [← hx, e]; exact Nat.le_refl _))); have HB3 : Hid (Below B w w3) := below_gr HBA.out (Nat.le_trans hB HBA.out.size) HRE.out hg3; have n1 := (HXN.out w3 (HS3.out.sub (((List.sublist_append_right _ _).trans (List.sublist_cons_self _ _)).trans (List.sublist_cons_self _ _)))).2.1; clear ho3 hg3 ha3))
      clear HIL HRE HSA HSX HBA HBX HWB HON HSr HBr
      have HN3 : Hid (NP w B h lv es Z ks ((lv : Int), lf, L.map (·.1)) w3 (.slice (some ⟨g3, 0, none⟩) (el + 1) cap3) 0) := by
        refine ⟨[((lv : Int), lf, .slice aoY i capY, L.map (·.1))], by simp [shE], ?_, HB3.out⟩
        have e1 : rowE (.slice (some ⟨g3, 0, none⟩) (el + 1) cap3) (es ++ [((lv : Int), lf, Value.slice aoY i capY, L.map (·.1))]) = .row 61 3 (.slice (some ⟨g3, 0, none⟩) (el + 1) cap3) (el + 1) (gc encE es ++ [.int .i64 (lv : Int), .bool lf, .slice aoY i capY]) := by
          unfold rowE
          rw [gc_append, gc_one, List.length_append, HEl.out]
          rfl
        rw [e1]
        refine HS3.out.perm ?_
        classical
        refine List.perm_iff_count.2 (fun a => ?_)
        simp only [kp, List.map_append, List.map_cons, List.map_nil, List.count_append, List.count_cons, List.count_nil]
        omega
      clear HS3 HB3 n1
      go_loopw [53, 1] (fun x y wr => ∃ i : Nat, i ≤ kn ∧ x = .int .i64 (i : Int) ∧ Hid (NP w B h lv es Z ks ((lv : Int), lf, L.map (·.1)) wr y i)) (fun x _ _ => kn - (intOf x).toNat)
      case atStart => exact ⟨0, Nat.zero_le _, rfl, HN3.out⟩
      case round =>
        obtain ⟨m, hmk, rfl, HNr⟩ := hrel
        by_cases hlt : m < kn
        · obtain ⟨c, hc⟩ : ∃ c, ks[m]? = some c := ⟨ks[m]'(by rw [HKn.out]; exact hlt), List.getElem?_eq_getElem _⟩
          obtain ⟨es', he, hSq, hBq⟩ := HNr.out
          obtain ⟨gC, rfl, ca⟩ := (HXN.out wr (hSq.sub ((List.sublist_append_right _ _).trans (List.sublist_cons_self _ _)))).2.2.2 m c hc
          obtain ⟨R', hT', hP⟩ := HPK.out c m hc
          have hfm := flatMap_upto (nodesL h (lv + 1)) hc
          have hcn : (es ++ es').length + cntN h (lv + 1) c ≤ 1000000 := by
            have h1 := congrArg List.length he
            rw [List.length_map, List.length_cons] at h1
            rw [List.length_append, cntN]
            have h2 := HCN.out
            have h3 := hfm.2
            omega
          have HREC : Hid _ := HIH.out c wr u1 (es ++ es') R' (hSq.perm (List.Perm.cons _ (List.Perm.append_left _ hP))) hT' (Nat.le_trans hB hBq.size) (HKS.out c (List.mem_of_getElem? hc)) hcn (HKZ.out c (List.mem_of_getElem? hc))
          have HNX : Hid (∀ w5 v5 es5, es5.map shE = nodesL h (lv + 1) c → Sep w5 B (rowE v5 ((es ++ es') ++ es5) :: (kp ((es ++ es') ++ es5) ++ (pcs h c ++ R'))) → Below B wr w5 → NP w B h lv es Z ks ((lv : Int), lf, L.map (·.1)) w5 v5 (m + 1)) := by
            intro w5 v5 es5 h5 h6 h7
            refine ⟨es' ++ es5, ?_, ?_, hBq.trans h7⟩
            · rw [List.map_append, he, h5, hfm.1]; rfl
            · rw [← List.append_assoc]
              exact h6.perm (List.Perm.cons _ (List.Perm.append_left _ hP.symm))
          have hmi : (m : Int) < (kn : Int) := by omega
          clear he hSq hBq hT' hP hfm hcn hc HNr
          go_wp2_with (go_at_call 42; refine Calls.mono HREC.out ?_; rintro e w5 ⟨v5, es5, rfl, h5a, h5b, h5c⟩; have HN5 : Hid (NP w B h lv es Z ks ((lv : Int), lf, L.map (fun x : It => x.1)) w5 v5 (m + 1)) := HNX.out w5 v5 es5 h5a h5b h5c; clear h5a h5b h5c)
          go_roundw
          case rel => exact ⟨m + 1, by omega, by simp, HN5.out⟩
          case measure => simp [intOf]; omega
        · obtain rfl : m = kn := by omega
          go_wp2_with fail
          go_ret
          obtain ⟨es', he, hSq, hBq⟩ := HNr.out
          refine ⟨_, es', rfl, ?_, hSq, hBq⟩
          rw [he, ← HKn.out, List.take_length]
/-- appendNodes of a tree of any depth. -/
theorem nod_any {B p q most : Nat} (h3 : 3 ≤ most) (h64 : most ≤ 64) : ∀ (h : Nat) (t : Tr h) (lv lo : Nat) (w : World) (vO : Value) (es : List En) (R : List Pc), Sep w B (rowE vO es :: (kp es ++ (pcs h t ++ R))) → treeO p q most ∈ R → B ≤ w.heap.size → Shp most h lo most t → lv + h ≤ 1000000 → es.length + cntN h lv t ≤ 1000000 → (∀ y ∈ flat h t, y.1.size ≤ 281474976710656) →
      Calls Try.prog 42 #[.pointer (some ⟨p, 0, none⟩), vO, .pointer (some ⟨adr h t, 0, none⟩), .int .i64 (lv : Int)] w fun e w' => ∃ vO' es', e = .returned vO' ∧ es'.map shE = nodesL h lv t ∧ Sep w' B (rowE vO' (es ++ es') :: (kp (es ++ es') ++ (pcs h t ++ R))) ∧ Below B w w'
  | 0, t, _, _, _, _, _, _, _, _, _, _, _, _, _ => nomatch t
  | h + 1, t, lv, lo, w, vO, es, R, hS, hT, hB, hsh, hlv, hcn, hz =>
    nodStep (n := Nd.n (K := Tr h) t) (vI := Nd.vI (K := Tr h) t) (vC := Nd.vC (K := Tr h) t) (L := Nd.L (K := Tr h) t) (ks := Nd.ks (K := Tr h) t) h3 h64
      (fun c w vO es R h1 h2 h4 h5 h6 h7 => nod_any h3 h64 h c (lv + 1) (most / 2) w vO es R h1 h2 h4 h5 (by omega) h6 h7) hS hT hB hsh (by omega) hcn hz
end Go.Proofs.Ytelfjgnmbikofaa
