/-
  appendAll: all keys of a tree, in order. Conditions: the tree has its shape; lengths are such as memory bears.
-/
import Derived.Test.YtelfjgnmbikofaaBTop
import Derived.Test.YtelfjgnmbikofaaGAppR
namespace Go.Proofs.Ytelfjgnmbikofaa
open Go.RowKit
set_option linter.unusedVariables false
set_option maxRecDepth 100000

def encS (s : ByteArray) : List Value := [.string s]
theorem encS_len (s : ByteArray) : (encS s).length = 1 := rfl
theorem one_gcS (L : List ByteArray) : ∀ v ∈ gc encS L, v.oneCell' = true := by
  intro v hv
  simp only [gc, List.mem_flatMap] at hv
  obtain ⟨x, _, hx⟩ := hv
  simp [encS] at hx; subst hx; rfl
theorem Try.infoS : (Try.prog.info? 9).map (fun i => (i.zero, i.size, i.bytes)) = some (some (.string ⟨#[]⟩), 1, 16) := by kernel_rfl
/-- The row of keys that is being made. -/
def rowS (v : Value) (K : List ByteArray) : Pc := .row 9 1 v K.length (gc encS K)
set_option maxHeartbeats 4000000 in
theorem allLeaf {w : World} {B n p q most : Nat} {vI vC vO : Value} {L : List It} {K : List ByteArray} {R : List Pc} (hS : Sep w B (rowS vO K :: (ndp n vI vC L [] ++ R))) (hT : treeO p q most ∈ R) (hB : B ≤ w.heap.size) (hn : L.length ≤ 1000) (hK : K.length ≤ 1000000) (hsz : ∀ y ∈ L, y.1.size ≤ 281474976710656) :
    Calls Try.prog 37 #[.pointer (some ⟨p, 0, none⟩), vO, .pointer (some ⟨n, 0, none⟩)] w fun e w' => ∃ vO', e = .returned vO' ∧ Sep w' B (rowS vO' (K ++ L.map (·.1)) :: (ndp n vI vC L [] ++ R)) ∧ Below B w w' := by
  obtain ⟨i1, hi1, hy0, hy1, hy2⟩ := info_partsG Try.infoS
  have hN := hS.nd_ [rowS vO K]
  obtain ⟨n0, n1, _, _⟩ := hN.c
  obtain ⟨ao, cap, hvI⟩ := row_slice hN.rI
  obtain ⟨ao2, cap2, hvC⟩ := row_zero hN.rC
  subst hvI hvC
  obtain ⟨aoO, capO, hvO⟩ := row_slice (hS.at_ (rowS vO K) (by simp))
  subst hvO
  have HS : Hid (Sep w B (rowS (.slice aoO K.length capO) K :: (ndp n (.slice ao L.length cap) (.slice ao2 0 cap2) L [] ++ R))) := hS
  have HT : Hid (treeO p q most ∈ R) := hT
  have HZ : Hid (∀ y ∈ L, y.1.size ≤ 281474976710656) := hsz
  obtain ⟨l, HLl⟩ : ∃ l, Hid (L.length = l) := ⟨_, rfl⟩
  rw [HLl.out] at n0 hn HS
  clear hS hT hsz hN
  go_enter Try.func37, Try.ntmps37
  go_wp2_with fail
  go_loopw [14, 1] (fun x y wr => ∃ (i : Nat) (aoY : Option Addr) (capY : Nat), i ≤ l ∧ x = .int .i64 (i : Int) ∧ y = .slice aoY (K.length + i) capY ∧ Hid (Sep wr B (rowS (.slice aoY (K.length + i) capY) (K ++ (L.take i).map (·.1)) :: (ndp n (.slice ao l cap) (.slice ao2 0 cap2) L [] ++ R))) ∧ Hid (Below B w wr)) (fun x _ _ => l - (intOf x).toNat)
  case atStart => exact ⟨0, aoO, capO, Nat.zero_le _, rfl, rfl, by unfold Hid; have := HS.out; simpa using this, Below.refl _ _⟩
  case round =>
    obtain ⟨i, aoY, capY, hil, rfl, rfl, HSr, HBr⟩ := hrel
    clear n0 n1
    have hN := HSr.out.nd_ [rowS (.slice aoY (K.length + i) capY) (K ++ (L.take i).map (·.1))]
    obtain ⟨n0, n1, _, _⟩ := hN.c
    by_cases hlt : i < l
    · obtain ⟨y, hy⟩ : ∃ y, L[i]? = some y := ⟨L[i]'(by rw [HLl.out]; exact hlt), List.getElem?_eq_getElem _⟩
      obtain ⟨g, capg, hg, _, _, _, _, _, hgc⟩ := row_some hN.rI (by rw [HLl.out]; omega)
      injection hg with hg1 hg2 hg3
      subst hg1
      clear hg2 hg3
      have y0 := hgc _ _ (gc_at encI_len L _ _ hy 0 _ rfl)
      have y1 := hgc _ _ (gc_at encI_len L _ _ hy 1 _ rfl)
      rw [Nat.add_zero] at y0
      have HY : Hid (L[i]? = some y) := hy
      have HWB : Hid (Below wr.heap.size wr (wr.alloc (.cells #[.string y.1, .int .u64 y.2] 69))) := (Below.refl _ _).alloc (Nat.le_refl _) _
      have HBX : Hid ((wr.alloc (.cells #[.string y.1, .int .u64 y.2] 69)).heap[wr.heap.size]? = some (.cells #[.string y.1, .int .u64 y.2] 69 (0, 0))) := heap_alloc_new wr _
      have HSW : Hid (Sep (wr.alloc (.cells #[.string y.1, .int .u64 y.2] 69)) B (rowS (.slice aoY (K.length + i) capY) (K ++ (L.take i).map (·.1)) :: (ndp n (.slice (some ⟨g, 0, none⟩) l cap) (.slice ao2 0 cap2) L [] ++ R))) := HSr.out.below HWB.out
      have n1' := ((HSW.out.nd_ [rowS (.slice aoY (K.length + i) capY) (K ++ (L.take i).map (·.1))]).c).2.1
      have HIL : Hid _ := isLeaf_z (n := n) (w := wr.alloc (.cells #[.string y.1, .int .u64 y.2] 69)) (ao := ao2) (cap := cap2) n1'
      have HBW : Hid (Below B w (wr.alloc (.cells #[.string y.1, .int .u64 y.2] 69))) := HBr.out.alloc (Nat.le_trans hB HBr.out.size) _
      have hyz : y.1.size ≤ 281474976710656 := HZ.out y (List.mem_of_getElem? hy)
      have hili : (i : Int) < (l : Int) := by omega
      have HTL : Hid ((L.take (i + 1)).map (·.1) = (L.take i).map (·.1) ++ [y.1]) := by unfold Hid; rw [List.take_add_one, hy]; simp
      have HKL : Hid ((K ++ (L.take i).map (·.1)).length = K.length + i) := by unfold Hid; rw [List.length_append, List.length_map, List.length_take, HLl.out]; omega
      clear hN hgc hy n1
      go_upto_region 6 with (go_at_call 45; refine Calls.mono HIL.out ?_; rintro e w6 ⟨rfl, hw6⟩; obtain rfl := hw6.symm)
      generalize wr.alloc (.cells #[.string y.1, .int .u64 y.2] 69) = W1 at HWB HBX HSW HBW ⊢
      obtain ⟨b, HBb⟩ : ∃ b, Hid (b = wr.heap.size) := ⟨_, rfl⟩
      rw [← HBb.out] at HBX ⊢
      clear n0 y0 y1 n1' HIL
      have b0 := cellO HBX.out 0 rfl
      obtain ⟨t0, t1, t2, t3⟩ := HSW.out.tr (p := p) (q := q) (most := most) (by simp [HT.out])
      have HBD : Hid (Below W1.heap.size W1 W1.drew) := (Below.refl _ _).drew
      obtain ⟨kl, HKl⟩ : ∃ kl, Hid (K.length + i = kl) := ⟨_, rfl⟩
      rw [HKl.out] at HSW HKL ⊢
      have hkl : kl ≤ 2000000 := by rw [← HKl.out]; omega
      have HON : Hid (∀ u ∈ encS y.1, u.oneCell' = true) := fun u hu => one_gcS [y.1] u (by rw [gc_one]; exact hu)
      go_region_law (first
        | (refine step_ownN2 rfl (.tmp 36) (.tmp 38) rfl y.1 rfl rfl hyz ?_; intro w2 hb2; have HB2 : Hid (Below W1.heap.size W1 (w2.alloc (.cells (encS y.1).toArray 9))) := (HBD.out.trans hb2).alloc (Nat.le_trans (Nat.le_refl _) (HBD.out.trans hb2).size) _; have HGX : Hid ((w2.alloc (.cells (encS y.1).toArray 9)).heap[w2.heap.size]? = some (.cells (encS y.1).toArray 9 (0, 0))) := heap_alloc_new w2 _; have HS2 : Hid (Sep (w2.alloc (.cells (encS y.1).toArray 9)) B (rowS (.slice aoY kl capY) (K ++ (L.take i).map (·.1)) :: (ndp n (.slice (some ⟨g, 0, none⟩) l cap) (.slice ao2 0 cap2) L [] ++ R))) := HSW.out.below HB2.out; have HRW : Hid ((w2.alloc (.cells (encS y.1).toArray 9)).ownsRow B 9 1 (.slice aoY kl capY) kl (gc encS (K ++ (L.take i).map (·.1)))) := (by have h := HS2.out.at_ (rowS (.slice aoY kl capY) (K ++ (L.take i).map (·.1))) (by simp); have h' : (w2.alloc (.cells (encS y.1).toArray 9)).ownsRow B 9 1 (.slice aoY kl capY) (K ++ (L.take i).map (·.1)).length (gc encS (K ++ (L.take i).map (·.1))) := h; rw [HKL.out] at h'; exact h'); have HBB : Hid (Below B w (w2.alloc (.cells (encS y.1).toArray 9))) := HBW.out.trans (HB2.out.mono (Nat.le_trans hB HBW.out.size)); clear hb2)
        | (refine step_append_G 41 rfl rfl (.tmp 32) (.tmp 40) 26 9 rfl i1 Try.underlying26 hi1 _ hy0 1 16 hy1 hy2 rfl (by omega) B (.slice aoY kl capY) kl (gc encS (K ++ (L.take i).map (·.1))) ⟨w2.heap.size, 0, none⟩ 1 1 (encS y.1) rfl rfl HRW.out rfl (news_one HGX.out) HON.out (by omega) (by omega) (by omega) (Nat.le_trans hB HBB.out.size) ?_; intro g3 cap3 w3 ho3 hg3 ha3; have HS3 : Hid (Sep w3 B (.row 9 1 (.slice (some ⟨g3, 0, none⟩) (kl + 1) cap3) (kl + 1) (gc encS (K ++ (L.take i).map (·.1)) ++ encS y.1) :: (ndp n (.slice (some ⟨g, 0, none⟩) l cap) (.slice ao2 0 cap2) L [] ++ R))) := Sep.turn [] (v := .slice aoY kl capY) (n := (K ++ (L.take i).map (·.1)).length) (xs := gc encS (K ++ (L.take i).map (·.1))) HS2.out ho3 hg3 (ha3.elim (fun e => Or.inl e.symm) (fun e => Or.inr (by intro x hx; simp [Value.ownBlock] at hx; rw [← hx, e]; exact Nat.le_refl _))); have HB3 : Hid (Below B w w3) := below_gr HBB.out (Nat.le_trans hB HBB.out.size) HRW.out hg3; clear ho3 hg3 ha3))
      all_goals
        go_wp2_with fail
        go_roundw
        case rel =>
          refine ⟨i + 1, some ⟨g3, 0, none⟩, cap3, by omega, by simp, by rw [← Nat.add_assoc, HKl.out], ?_, HB3.out⟩
          have h1 := HS3.out
          unfold Hid rowS
          rw [HTL.out, ← List.append_assoc, ← Nat.add_assoc, HKl.out, gc_append, gc_one, List.length_append, HKL.out]
          exact h1
        case measure => simp [intOf]; omega
    · obtain rfl : i = l := by omega
      have HIL : Hid _ := isLeaf_z (n := n) (w := wr) (ao := ao2) (cap := cap2) n1
      have HE : Hid (L.take i = L) := by unfold Hid; rw [← HLl.out]; exact List.take_length
      go_wp2_with (go_at_call 45; refine Calls.mono HIL.out ?_; rintro e w6 ⟨rfl, hw6⟩; obtain rfl := hw6.symm)
      go_ret
      refine ⟨_, rfl, ?_, HBr.out⟩
      have := HSr.out
      rw [HE.out] at this
      rw [HLl.out]
      exact this
theorem pre_next {L : List It} {F : List (List It)} {i : Nat} {y : It} {f : List It} (hy : L[i]? = some y) (hf : F[i]? = some f) : pre (L.take (i + 1)) (F.take (i + 1)) = pre (L.take i) (F.take i) ++ (f ++ [y]) := by
  have h1 := (List.getElem?_eq_some_iff.1 hy).1
  have h2 := (List.getElem?_eq_some_iff.1 hf).1
  rw [List.take_add_one, List.take_add_one, hy, hf]
  show pre (L.take i ++ [y]) (F.take i ++ [f]) = _
  rw [pre_append _ _ _ _ (by rw [List.length_take, List.length_take]; omega)]
  rfl
theorem pre_len {L : List It} {F : List (List It)} {i : Nat} (h : F.length = L.length + 1) (hi : i ≤ L.length) : (pre (L.take i) (F.take i)).length ≤ (il L F).length := by
  have h1 : L = L.take i ++ L.drop i := (List.take_append_drop i L).symm
  have h2 : F = F.take i ++ F[i]'(by omega) :: F.drop (i + 1) := by rw [List.getElem_cons_drop, List.take_append_drop]
  conv => rhs; rw [h1, h2]
  rw [il_mid _ _ _ _ _ (by rw [List.length_take, List.length_take]; omega), List.length_append]
  omega
set_option maxHeartbeats 4000000 in
theorem allNode {w : World} {B h n p q most lo : Nat} {vI vC vO : Value} {L : List It} {ks : List (Tr (h + 1))} {K : List ByteArray} {R : List Pc}
    (ih : ∀ (t : Nd (Tr h)) (w : World) (lo : Nat) (vO : Value) (K : List ByteArray) (R : List Pc), Sep w B (rowS vO K :: (pcs (h + 1) (up1 t) ++ R)) → treeO p q most ∈ R → B ≤ w.heap.size → Shp most (h + 1) lo most (up1 t) → (0 < h → 1 ≤ lo) → K.length + (flat (h + 1) (up1 t)).length ≤ 1000000 → (∀ y ∈ flat (h + 1) (up1 t), y.1.size ≤ 281474976710656) →
      Calls Try.prog 37 #[.pointer (some ⟨p, 0, none⟩), vO, .pointer (some ⟨t.n, 0, none⟩)] w fun e w' => ∃ vO', e = .returned vO' ∧ Sep w' B (rowS vO' (K ++ (flat (h + 1) (up1 t)).map (·.1)) :: (pcs (h + 1) (up1 t) ++ R)) ∧ Below B w w')
    (hS : Sep w B (rowS vO K :: (pcs (h + 2) (up1 (⟨n, vI, vC, L, ks⟩ : Nd (Tr (h + 1)))) ++ R))) (hT : treeO p q most ∈ R) (hB : B ≤ w.heap.size) (hsh : Shp most (h + 2) lo most (up1 (⟨n, vI, vC, L, ks⟩ : Nd (Tr (h + 1))))) (h3 : 3 ≤ most) (h64 : most ≤ 64) (hL1 : 1 ≤ L.length) (hK : K.length + (flat (h + 2) (up1 (⟨n, vI, vC, L, ks⟩ : Nd (Tr (h + 1))))).length ≤ 1000000) (hsz : ∀ y ∈ flat (h + 2) (up1 (⟨n, vI, vC, L, ks⟩ : Nd (Tr (h + 1)))), y.1.size ≤ 281474976710656) :
    Calls Try.prog 37 #[.pointer (some ⟨p, 0, none⟩), vO, .pointer (some ⟨n, 0, none⟩)] w fun e w' => ∃ vO', e = .returned vO' ∧ Sep w' B (rowS vO' (K ++ (flat (h + 2) (up1 (⟨n, vI, vC, L, ks⟩ : Nd (Tr (h + 1))))).map (·.1)) :: (pcs (h + 2) (up1 (⟨n, vI, vC, L, ks⟩ : Nd (Tr (h + 1)))) ++ R)) ∧ Below B w w' := by
  obtain ⟨i1, hi1, hy0, hy1, hy2⟩ := info_partsG Try.infoS
  have hs := shp_up.1 hsh
  have hkl : ks.length = L.length + 1 := hs.2.2.1 (by omega)
  have hLm : L.length ≤ most := hs.2.1
  have hn := (nd_in hS.tail).nd_ []
  have hnI : w.ownsRow B 69 2 vI L.length (gc encI L) := hn.rI
  have hnC := hn.rC
  obtain ⟨g, cap, hvI, _⟩ := row_some hnI hL1
  have hnC' : w.ownsRow B 65 1 vC (L.length + 1) (gc encP (ks.map (adr (h + 1)))) := by have := hnC; rw [List.length_map] at this; rw [← hkl]; exact this
  obtain ⟨gC, capC, hvC, _⟩ := row_some hnC' (by omega)
  subst hvI hvC
  obtain ⟨aoO, capO, hvO⟩ := row_slice (hS.at_ (rowS vO K) (by simp))
  subst hvO
  obtain ⟨l, HLl⟩ : ∃ l, Hid (L.length = l) := ⟨_, rfl⟩
  rw [HLl.out] at hS hsh hK hsz ⊢
  have n0 : w.cell? ⟨n, 0, none⟩ = some (.slice (some ⟨g, 0, none⟩) l cap) := by rw [← HLl.out]; exact hn.c.1
  have HS : Hid (Sep w B (rowS (.slice aoO K.length capO) K :: (pcs (h + 2) (up1 (⟨n, .slice (some ⟨g, 0, none⟩) l cap, .slice (some ⟨gC, 0, none⟩) (l + 1) capC, L, ks⟩ : Nd (Tr (h + 1)))) ++ R))) := hS
  have HT : Hid (treeO p q most ∈ R) := hT
  have HIH : Hid _ := ih
  have HKI : Hid (∀ e ∈ ks, Shp most (h + 1) (most / 2) most e) := hs.2.2.2
  have HKL : Hid (ks.length = l + 1) := by unfold Hid; rw [hkl, HLl.out]
  have HFl : Hid (flat (h + 2) (up1 (⟨n, .slice (some ⟨g, 0, none⟩) l cap, .slice (some ⟨gC, 0, none⟩) (l + 1) capC, L, ks⟩ : Nd (Tr (h + 1)))) = il L (ks.map (flat (h + 1)))) := rfl
  have HKB : Hid (K.length + (il L (ks.map (flat (h + 1)))).length ≤ 1000000) := hK
  have HZ : Hid (∀ y ∈ il L (ks.map (flat (h + 1))), y.1.size ≤ 281474976710656) := hsz
  have hlm : l ≤ 64 := by rw [← HLl.out]; omega
  have HFL : Hid ((ks.map (flat (h + 1))).length = L.length + 1) := by unfold Hid; rw [List.length_map, hkl]
  have HPK : Hid (∀ c i, ks[i]? = some c → ∀ (v : Value) (K' : List ByteArray) (R' : List Pc), List.Perm (rowS v K' :: (pcs (h + 2) (up1 (⟨n, .slice (some ⟨g, 0, none⟩) l cap, .slice (some ⟨gC, 0, none⟩) (l + 1) capC, L, ks⟩ : Nd (Tr (h + 1)))) ++ R')) (rowS v K' :: (pcs (h + 1) c ++ (ndp n (.slice (some ⟨g, 0, none⟩) l cap) (.slice (some ⟨gC, 0, none⟩) (l + 1) capC) L (ks.map (adr (h + 1))) ++ ((ks.take i).flatMap (pcs (h + 1)) ++ ((ks.drop (i + 1)).flatMap (pcs (h + 1)) ++ R')))))) := by
    intro c i hc v K' R'
    obtain ⟨h5, h6⟩ := List.getElem?_eq_some_iff.1 hc
    have e : ks = ks.take i ++ c :: ks.drop (i + 1) := by rw [← h6, List.getElem_cons_drop, List.take_append_drop]
    refine List.Perm.cons _ ?_
    have := perm_kid n (.slice (some ⟨g, 0, none⟩) l cap) (.slice (some ⟨gC, 0, none⟩) (l + 1) capC) L (ks.take i) c (ks.drop (i + 1)) R'
    rw [← e] at this
    exact this
  clear hS hT hsz hn hnI hnC hnC' hs hsh ih hK
  go_enter Try.func37, Try.ntmps37
  go_wp2_with fail
  go_loopw [14, 1] (fun x y wr => ∃ (i : Nat) (aoY : Option Addr) (capY : Nat) (kk : Nat), i ≤ l ∧ x = .int .i64 (i : Int) ∧ y = .slice aoY kk capY ∧ Hid ((K ++ (pre (L.take i) ((ks.map (flat (h + 1))).take i)).map (·.1)).length = kk) ∧ Hid (Sep wr B (rowS (.slice aoY kk capY) (K ++ (pre (L.take i) ((ks.map (flat (h + 1))).take i)).map (·.1)) :: (pcs (h + 2) (up1 (⟨n, .slice (some ⟨g, 0, none⟩) l cap, .slice (some ⟨gC, 0, none⟩) (l + 1) capC, L, ks⟩ : Nd (Tr (h + 1)))) ++ R))) ∧ Hid (Below B w wr)) (fun x _ _ => l - (intOf x).toNat)
  case atStart => exact ⟨0, aoO, capO, K.length, Nat.zero_le _, rfl, rfl, by unfold Hid; simp [pre], by unfold Hid; have := HS.out; simpa [pre] using this, Below.refl _ _⟩
  case round =>
    obtain ⟨i, aoY, capY, kk, hil, rfl, rfl, HKK, HSr, HBr⟩ := hrel
    clear n0
    obtain ⟨_, gC', capC', hvC', n1, hCc⟩ := node_cells HSr.out.tail (by rw [HKL.out, HLl.out])
    injection hvC' with e1 e2 e3
    clear e2
    obtain rfl : gC = gC' := by simpa using e1
    subst e3
    rw [HLl.out] at n1
    have n0 : wr.cell? ⟨n, 0, none⟩ = some (.slice (some ⟨g, 0, none⟩) l cap) := ((nd_in HSr.out.tail).nd_ []).c.1
    obtain ⟨c, hc⟩ : ∃ c, ks[i]? = some c := ⟨ks[i]'(by rw [HKL.out]; omega), List.getElem?_eq_getElem _⟩
    have ca := hCc i c hc
    have HC : Hid (ks[i]? = some c) := hc
    have HCF : Hid ((ks.map (flat (h + 1)))[i]? = some (flat (h + 1) c)) := by unfold Hid; rw [List.getElem?_map, hc]; rfl
    have HCS : Hid (Shp most (h + 1) (most / 2) most c) := HKI.out c (List.mem_of_getElem? hc)
    have hfle : (flat (h + 1) c).length ≤ (il L (ks.map (flat (h + 1)))).length := (kid_sub L _ (fun _ => HFL.out) _ (List.mem_of_getElem? HCF.out)).length_le
    have HCZ : Hid (∀ y ∈ flat (h + 1) c, y.1.size ≤ 281474976710656) := fun y hy => HZ.out y ((kid_sub L _ (fun _ => HFL.out) _ (List.mem_of_getElem? HCF.out)).subset hy)
    have HIN : Hid ((K ++ (pre (L.take i) ((ks.map (flat (h + 1))).take i)).map (·.1)).length + (flat (h + 1) c).length ≤ K.length + (il L (ks.map (flat (h + 1)))).length) := by
      unfold Hid
      have e0 : il L (ks.map (flat (h + 1))) = pre (L.take i) ((ks.map (flat (h + 1))).take i) ++ (flat (h + 1) c ++ post (L.drop i) ((ks.map (flat (h + 1))).drop (i + 1))) := by
        obtain ⟨h5, h6⟩ := List.getElem?_eq_some_iff.1 HCF.out
        have e1 : ks.map (flat (h + 1)) = (ks.map (flat (h + 1))).take i ++ flat (h + 1) c :: (ks.map (flat (h + 1))).drop (i + 1) := by rw [← h6, List.getElem_cons_drop, List.take_append_drop]
        have := il_mid (L.take i) ((ks.map (flat (h + 1))).take i) (flat (h + 1) c) (L.drop i) ((ks.map (flat (h + 1))).drop (i + 1)) (by rw [List.length_take, List.length_take, HFL.out, HLl.out]; omega)
        rw [List.take_append_drop, ← e1] at this
        exact this
      rw [e0]
      simp only [List.length_append, List.length_map]
      omega
    clear hCc hc e1
    by_cases hlt : i < l
    · obtain ⟨y, hy⟩ : ∃ y, L[i]? = some y := ⟨L[i]'(by rw [HLl.out]; exact hlt), List.getElem?_eq_getElem _⟩
      have hgc := (row_at ((nd_in HSr.out.tail).nd_ []).rI).2.2.2
      have y0 : wr.cell? ⟨g, i * 2, none⟩ = some (.string y.1) := by have := hgc _ _ (gc_at encI_len L _ _ hy 0 _ rfl); simpa using this
      have y1 : wr.cell? ⟨g, i * 2 + 1, none⟩ = some (.int .u64 y.2) := hgc _ _ (gc_at encI_len L _ _ hy 1 _ rfl)
      have HWB : Hid (Below wr.heap.size wr (wr.alloc (.cells #[.string y.1, .int .u64 y.2] 69))) := (Below.refl _ _).alloc (Nat.le_refl _) _
      have HBW : Hid (Below B w (wr.alloc (.cells #[.string y.1, .int .u64 y.2] 69))) := HBr.out.alloc (Nat.le_trans hB HBr.out.size) _
      have HSW : Hid (Sep (wr.alloc (.cells #[.string y.1, .int .u64 y.2] 69)) B (rowS (.slice aoY kk capY) (K ++ (pre (L.take i) ((ks.map (flat (h + 1))).take i)).map (·.1)) :: (pcs (h + 2) (up1 (⟨n, .slice (some ⟨g, 0, none⟩) l cap, .slice (some ⟨gC, 0, none⟩) (l + 1) capC, L, ks⟩ : Nd (Tr (h + 1)))) ++ (.obj wr.heap.size #[.string y.1, .int .u64 y.2] 69 :: R)))) := by
        have h1 := Sep.new (w' := wr.alloc (.cells #[.string y.1, .int .u64 y.2] 69)) (p := .obj wr.heap.size #[.string y.1, .int .u64 y.2] 69) HSr.out HWB.out ⟨heap_alloc_new wr _, Nat.le_trans hB HBr.out.size⟩ (by simp [Pc.blk])
        have h2 : List.Perm (.obj wr.heap.size #[.string y.1, .int .u64 y.2] 69 :: (rowS (.slice aoY kk capY) (K ++ (pre (L.take i) ((ks.map (flat (h + 1))).take i)).map (·.1)) :: (pcs (h + 2) (up1 (⟨n, .slice (some ⟨g, 0, none⟩) l cap, .slice (some ⟨gC, 0, none⟩) (l + 1) capC, L, ks⟩ : Nd (Tr (h + 1)))) ++ R))) (rowS (.slice aoY kk capY) (K ++ (pre (L.take i) ((ks.map (flat (h + 1))).take i)).map (·.1)) :: (pcs (h + 2) (up1 (⟨n, .slice (some ⟨g, 0, none⟩) l cap, .slice (some ⟨gC, 0, none⟩) (l + 1) capC, L, ks⟩ : Nd (Tr (h + 1)))) ++ (.obj wr.heap.size #[.string y.1, .int .u64 y.2] 69 :: R))) := (List.Perm.swap _ _ _).trans (List.Perm.cons _ (List.perm_middle (l₁ := pcs (h + 2) (up1 (⟨n, .slice (some ⟨g, 0, none⟩) l cap, .slice (some ⟨gC, 0, none⟩) (l + 1) capC, L, ks⟩ : Nd (Tr (h + 1))))) (l₂ := R)).symm)
        exact h1.perm h2
      have ca' := (HWB.out.cell (World.block_lt_of_cell? wr _ ca)).trans ca
      have n1' := (HWB.out.cell (World.block_lt_of_cell? wr _ n1)).trans n1
      have HIL : Hid _ := isLeaf_no (n := n) (w := wr.alloc (.cells #[.string y.1, .int .u64 y.2] 69)) (ad := ⟨gC, 0, none⟩) (k := l + 1) (cap := capC) n1' (by omega)
      have HREC : Hid _ := HIH.out c (wr.alloc (.cells #[.string y.1, .int .u64 y.2] 69)) (most / 2) (.slice aoY kk capY) (K ++ (pre (L.take i) ((ks.map (flat (h + 1))).take i)).map (·.1)) _ (HSW.out.perm (HPK.out c i HC.out _ _ _)) (List.mem_append_right _ (List.mem_append_right _ (List.mem_append_right _ (List.mem_cons_of_mem _ HT.out)))) (Nat.le_trans hB HBW.out.size) HCS.out (fun _ => by omega) (Nat.le_trans HIN.out HKB.out) HCZ.out
      have hyz : y.1.size ≤ 281474976710656 := HZ.out y ((il_sub L _ (fun _ => HFL.out)).subset (List.mem_of_getElem? hy))
      have hili : (i : Int) < (l : Int) := by omega
      have hilj : (i : Int) < (l : Int) + 1 := by omega
      have HPN : Hid (pre (L.take (i + 1)) ((ks.map (flat (h + 1))).take (i + 1)) = pre (L.take i) ((ks.map (flat (h + 1))).take i) ++ (flat (h + 1) c ++ [y])) := pre_next hy HCF.out
      have HADR : Hid (adr (h + 1) c = Nd.n (K := Tr h) c) := rfl
      rw [HADR.out] at ca'
      clear hgc hy ca n1 hfle
      go_upto_region 6 with (first
        | (go_at_call 45; refine Calls.mono HIL.out ?_; rintro e w6 ⟨rfl, hw6⟩; obtain rfl := hw6.symm)
        | (go_at_call 37; refine Calls.mono HREC.out ?_; rintro e w4 ⟨vO4, rfl, hs4, hb4⟩; obtain ⟨ao4, cap4, kl, hv4, HKl⟩ : ∃ ao cap kl, vO4 = .slice ao kl cap ∧ Hid (((K ++ (pre (L.take i) ((ks.map (flat (h + 1))).take i)).map (·.1)) ++ (flat (h + 1) c).map (·.1)).length = kl) := (by obtain ⟨ao, cap, hv⟩ := row_slice (hs4.at_ (rowS vO4 ((K ++ (pre (L.take i) ((ks.map (flat (h + 1))).take i)).map (·.1)) ++ (flat (h + 1) c).map (·.1))) (List.Mem.head _)); exact ⟨ao, cap, _, hv, rfl⟩); subst hv4; have HS4 : Hid (Sep w4 B (rowS (.slice ao4 kl cap4) ((K ++ (pre (L.take i) ((ks.map (flat (h + 1))).take i)).map (·.1)) ++ (flat (h + 1) c).map (·.1)) :: (pcs (h + 2) (up1 (⟨n, .slice (some ⟨g, 0, none⟩) l cap, .slice (some ⟨gC, 0, none⟩) (l + 1) capC, L, ks⟩ : Nd (Tr (h + 1)))) ++ (.obj wr.heap.size #[.string y.1, .int .u64 y.2] 69 :: R)))) := hs4.perm (HPK.out c i HC.out _ _ _).symm; have HB4 : Hid (Below B w w4) := HBW.out.trans hb4; clear hs4 hb4))
      obtain ⟨b, HBb⟩ : ∃ b, Hid (b = wr.heap.size) := ⟨_, rfl⟩
      rw [← HBb.out] at HS4 ⊢
      clear n0 y0 y1 n1' ca' HIL HREC HSW HWB HBW
      have hkl2 : kl ≤ 1000000 := by rw [← HKl.out, List.length_append, List.length_map]; exact Nat.le_trans HIN.out HKB.out
      have b0 : w4.cell? ⟨b, 0, none⟩ = some (.string y.1) := cellO (HS4.out.obj (g := b) (a := #[.string y.1, .int .u64 y.2]) (T := 69) (by simp)) 0 rfl
      obtain ⟨t0, t1, t2, t3⟩ := HS4.out.tr (p := p) (q := q) (most := most) (by simp [HT.out])
      have HBD : Hid (Below w4.heap.size w4 w4.drew) := (Below.refl _ _).drew
      have HON : Hid (∀ u ∈ encS y.1, u.oneCell' = true) := fun u hu => one_gcS [y.1] u (by rw [gc_one]; exact hu)
      go_region_law (first
        | (refine step_ownN2 rfl (.tmp 36) (.tmp 38) rfl y.1 rfl rfl hyz ?_; intro w2 hb2; have HB2 : Hid (Below w4.heap.size w4 (w2.alloc (.cells (encS y.1).toArray 9))) := (HBD.out.trans hb2).alloc (Nat.le_trans (Nat.le_refl _) (HBD.out.trans hb2).size) _; have HGX : Hid ((w2.alloc (.cells (encS y.1).toArray 9)).heap[w2.heap.size]? = some (.cells (encS y.1).toArray 9 (0, 0))) := heap_alloc_new w2 _; have HS2 : Hid (Sep (w2.alloc (.cells (encS y.1).toArray 9)) B (rowS (.slice ao4 kl cap4) ((K ++ (pre (L.take i) ((ks.map (flat (h + 1))).take i)).map (·.1)) ++ (flat (h + 1) c).map (·.1)) :: (pcs (h + 2) (up1 (⟨n, .slice (some ⟨g, 0, none⟩) l cap, .slice (some ⟨gC, 0, none⟩) (l + 1) capC, L, ks⟩ : Nd (Tr (h + 1)))) ++ (.obj b #[.string y.1, .int .u64 y.2] 69 :: R)))) := HS4.out.below HB2.out; have HRW : Hid ((w2.alloc (.cells (encS y.1).toArray 9)).ownsRow B 9 1 (.slice ao4 kl cap4) kl (gc encS ((K ++ (pre (L.take i) ((ks.map (flat (h + 1))).take i)).map (·.1)) ++ (flat (h + 1) c).map (·.1)))) := (by have h' : (w2.alloc (.cells (encS y.1).toArray 9)).ownsRow B 9 1 (.slice ao4 kl cap4) ((K ++ (pre (L.take i) ((ks.map (flat (h + 1))).take i)).map (·.1)) ++ (flat (h + 1) c).map (·.1)).length (gc encS ((K ++ (pre (L.take i) ((ks.map (flat (h + 1))).take i)).map (·.1)) ++ (flat (h + 1) c).map (·.1))) := HS2.out.at_ (rowS (.slice ao4 kl cap4) ((K ++ (pre (L.take i) ((ks.map (flat (h + 1))).take i)).map (·.1)) ++ (flat (h + 1) c).map (·.1))) (List.Mem.head _); rw [HKl.out] at h'; exact h'); have HBB : Hid (Below B w (w2.alloc (.cells (encS y.1).toArray 9))) := HB4.out.trans (HB2.out.mono (Nat.le_trans hB HB4.out.size)); clear hb2)
        | (refine step_append_G 41 rfl rfl (.tmp 32) (.tmp 40) 26 9 rfl i1 Try.underlying26 hi1 _ hy0 1 16 hy1 hy2 rfl (by omega) B (.slice ao4 kl cap4) kl (gc encS ((K ++ (pre (L.take i) ((ks.map (flat (h + 1))).take i)).map (·.1)) ++ (flat (h + 1) c).map (·.1))) ⟨w2.heap.size, 0, none⟩ 1 1 (encS y.1) rfl rfl HRW.out rfl (news_one HGX.out) HON.out (by omega) (by omega) (by omega) (Nat.le_trans hB HBB.out.size) ?_; intro g3 cap3 w3 ho3 hg3 ha3; have HS3 : Hid (Sep w3 B (.row 9 1 (.slice (some ⟨g3, 0, none⟩) (kl + 1) cap3) (kl + 1) (gc encS ((K ++ (pre (L.take i) ((ks.map (flat (h + 1))).take i)).map (·.1)) ++ (flat (h + 1) c).map (·.1)) ++ encS y.1) :: (pcs (h + 2) (up1 (⟨n, .slice (some ⟨g, 0, none⟩) l cap, .slice (some ⟨gC, 0, none⟩) (l + 1) capC, L, ks⟩ : Nd (Tr (h + 1)))) ++ (.obj b #[.string y.1, .int .u64 y.2] 69 :: R)))) := Sep.turn [] (v := .slice ao4 kl cap4) (n := ((K ++ (pre (L.take i) ((ks.map (flat (h + 1))).take i)).map (·.1)) ++ (flat (h + 1) c).map (·.1)).length) (xs := gc encS ((K ++ (pre (L.take i) ((ks.map (flat (h + 1))).take i)).map (·.1)) ++ (flat (h + 1) c).map (·.1))) HS2.out ho3 hg3 (ha3.elim (fun e => Or.inl e.symm) (fun e => Or.inr (by intro x hx; simp [Value.ownBlock] at hx; rw [← hx, e]; exact Nat.le_refl _))); have HB3 : Hid (Below B w w3) := below_gr HBB.out (Nat.le_trans hB HBB.out.size) HRW.out hg3; clear ho3 hg3 ha3))
      all_goals
        go_wp2_with fail
        go_roundw
        case rel =>
          have hK5 : K ++ (pre (L.take (i + 1)) ((ks.map (flat (h + 1))).take (i + 1))).map (·.1) = ((K ++ (pre (L.take i) ((ks.map (flat (h + 1))).take i)).map (·.1)) ++ (flat (h + 1) c).map (·.1)) ++ [y.1] := by rw [HPN.out]; simp
          refine ⟨i + 1, some ⟨g3, 0, none⟩, cap3, kl + 1, by omega, by simp, rfl, ?_, ?_, HB3.out⟩
          · unfold Hid; rw [hK5, List.length_append, HKl.out]; rfl
          · unfold Hid rowS
            rw [hK5, gc_append, gc_one, List.length_append, HKl.out]
            exact HS3.out.sub (List.Sublist.cons_cons _ (List.Sublist.append (List.Sublist.refl _) (List.sublist_cons_self _ _)))
        case measure => simp [intOf]; omega
    · obtain rfl : i = l := by omega
      have HIL : Hid _ := isLeaf_no (n := n) (w := wr) (ad := ⟨gC, 0, none⟩) (k := i + 1) (cap := capC) n1 (by omega)
      have HD1 : Hid (Below wr.heap.size wr wr.drew) := (Below.refl _ _).drew
      have HREC : Hid _ := HIH.out c wr.drew (most / 2) (.slice aoY kk capY) (K ++ (pre (L.take i) ((ks.map (flat (h + 1))).take i)).map (·.1)) _ ((HSr.out.below HD1.out).perm (HPK.out c i HC.out _ _ _)) (List.mem_append_right _ (List.mem_append_right _ (List.mem_append_right _ HT.out))) (Nat.le_trans hB HBr.out.size) HCS.out (fun _ => by omega) (Nat.le_trans HIN.out HKB.out) HCZ.out
      have hilj : (i : Int) < (i : Int) + 1 := by omega
      have HADR : Hid (adr (h + 1) c = Nd.n (K := Tr h) c) := rfl
      rw [HADR.out] at ca
      have HBD1 : Hid (Below B w wr.drew) := HBr.out.drew
      have HEND : Hid ((K ++ (pre (L.take i) ((ks.map (flat (h + 1))).take i)).map (·.1)) ++ (flat (h + 1) c).map (·.1) = K ++ (flat (h + 2) (up1 (⟨n, .slice (some ⟨g, 0, none⟩) i cap, .slice (some ⟨gC, 0, none⟩) (i + 1) capC, L, ks⟩ : Nd (Tr (h + 1))))).map (·.1)) := by
        unfold Hid
        rw [HFl.out, List.append_assoc, ← List.map_append]
        congr 2
        obtain ⟨h5, h6⟩ := List.getElem?_eq_some_iff.1 HCF.out
        have e1 : ks.map (flat (h + 1)) = (ks.map (flat (h + 1))).take i ++ flat (h + 1) c :: (ks.map (flat (h + 1))).drop (i + 1) := by rw [← h6, List.getElem_cons_drop, List.take_append_drop]
        have := il_mid (L.take i) ((ks.map (flat (h + 1))).take i) (flat (h + 1) c) (L.drop i) ((ks.map (flat (h + 1))).drop (i + 1)) (by rw [List.length_take, List.length_take, HFL.out, HLl.out]; omega)
        rw [List.take_append_drop, ← e1] at this
        rw [this, List.drop_of_length_le (l := L) (by rw [HLl.out]; exact Nat.le_refl _)]
        simp [post]
      clear hfle
      go_upto_region 9 with (go_at_call 45; refine Calls.mono HIL.out ?_; rintro e w6 ⟨rfl, hw6⟩; obtain rfl := hw6.symm)
      go_region_law (refine step_call rfl 37 (enters_of Try.func37 (by kernel_rfl) rfl) #[.tmp 46, .tmp 47, .tmp 58] _ rfl _ (by go_simp; all_goals rfl) (fun v w' => Sep w' B (rowS v ((K ++ (pre (L.take i) ((ks.map (flat (h + 1))).take i)).map (·.1)) ++ (flat (h + 1) c).map (·.1)) :: (pcs (h + 2) (up1 (⟨n, .slice (some ⟨g, 0, none⟩) i cap, .slice (some ⟨gC, 0, none⟩) (i + 1) capC, L, ks⟩ : Nd (Tr (h + 1)))) ++ R)) ∧ Below B wr.drew w') (Calls.mono HREC.out (by rintro e w' ⟨v, rfl, h1, h2⟩; exact ⟨v, rfl, h1.perm (HPK.out c i HC.out _ _ _).symm, h2⟩)) ?_; rintro v9 w9 ⟨hs9, hb9⟩; have HS9 : Hid (Sep w9 B (rowS v9 ((K ++ (pre (L.take i) ((ks.map (flat (h + 1))).take i)).map (·.1)) ++ (flat (h + 1) c).map (·.1)) :: (pcs (h + 2) (up1 (⟨n, .slice (some ⟨g, 0, none⟩) i cap, .slice (some ⟨gC, 0, none⟩) (i + 1) capC, L, ks⟩ : Nd (Tr (h + 1)))) ++ R))) := hs9; have HB9 : Hid (Below B w w9) := HBD1.out.trans hb9; clear hs9 hb9)
      all_goals (go_wp2_with fail)
      all_goals
        go_ret
        refine ⟨v9, rfl, ?_, HB9.out⟩
        have h1 := HS9.out
        rw [HEND.out] at h1
        exact h1
/-- appendAll of a tree of any depth. -/
theorem all_any {B p q most : Nat} (h3 : 3 ≤ most) (h64 : most ≤ 64) : ∀ (h : Nat) (t : Nd (Tr h)) (w : World) (lo : Nat) (vO : Value) (K : List ByteArray) (R : List Pc), Sep w B (rowS vO K :: (pcs (h + 1) (up1 t) ++ R)) → treeO p q most ∈ R → B ≤ w.heap.size → Shp most (h + 1) lo most (up1 t) → (0 < h → 1 ≤ lo) → K.length + (flat (h + 1) (up1 t)).length ≤ 1000000 → (∀ y ∈ flat (h + 1) (up1 t), y.1.size ≤ 281474976710656) →
      Calls Try.prog 37 #[.pointer (some ⟨p, 0, none⟩), vO, .pointer (some ⟨t.n, 0, none⟩)] w fun e w' => ∃ vO', e = .returned vO' ∧ Sep w' B (rowS vO' (K ++ (flat (h + 1) (up1 t)).map (·.1)) :: (pcs (h + 1) (up1 t) ++ R)) ∧ Below B w w'
  | 0, ⟨n, vI, vC, L, ks⟩, w, lo, vO, K, R, hS, hT, hB, hsh, hlo, hK, hz => by
    have hks : ks = [] := ks_leaf ⟨n, vI, vC, L, ks⟩
    subst hks
    have hs := shp_up.1 hsh
    have h2 : L.length ≤ most := hs.2.1
    have hK' : K.length + L.length ≤ 1000000 := hK
    have hS' : Sep w B (rowS vO K :: (ndp n vI vC L [] ++ R)) := by simpa [pcs_up] using hS
    refine (allLeaf hS' hT hB (by omega) (by omega) hz).mono ?_
    rintro e w' ⟨vO', rfl, h5, h6⟩
    exact ⟨vO', rfl, by rw [show flat 1 (up1 (⟨n, vI, vC, L, []⟩ : Nd (Tr 0))) = L from rfl]; simpa [pcs_up] using h5, h6⟩
  | h + 1, ⟨n, vI, vC, L, ks⟩, w, lo, vO, K, R, hS, hT, hB, hsh, hlo, hK, hz => allNode (fun t w lo' vO K R => all_any h3 h64 h t w lo' vO K R) hS hT hB hsh h3 h64 (Nat.le_trans (hlo (by omega)) (shp_up.1 hsh).1) hK hz
end Go.Proofs.Ytelfjgnmbikofaa
