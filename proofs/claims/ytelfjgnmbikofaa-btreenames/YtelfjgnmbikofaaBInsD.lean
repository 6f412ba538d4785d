/-
  insert into a tree of any depth: the walk. Conditions: keys rise; the tree has its shape.
-/
import Derived.Test.YtelfjgnmbikofaaBInsC
namespace Go.Proofs.Ytelfjgnmbikofaa
open Go.RowKit
set_option linter.unusedVariables false
set_option maxRecDepth 100000

theorem kid_rise {h n : Nat} {vI vC : Value} {L : List It} {K1 K2 : List (Tr h)} {c : Tr h} (hl : L.length = K1.length + K2.length) (hr : Rise (flat (h + 1) (⟨n, vI, vC, L, K1 ++ c :: K2⟩ : Nd (Tr h)))) : Rise (flat h c) := by
  rw [kid_flat (by omega)] at hr
  exact hr.sub ((List.sublist_append_left _ _).trans (List.sublist_append_right _ _))
theorem kid_mem {h n : Nat} {vI vC : Value} {L : List It} {K1 K2 : List (Tr h)} {c : Tr h} (hl : L.length = K1.length + K2.length) : ∀ y ∈ flat h c, y ∈ flat (h + 1) (⟨n, vI, vC, L, K1 ++ c :: K2⟩ : Nd (Tr h)) := by
  intro y hy
  rw [kid_flat (by omega)]
  exact List.mem_append_right _ (List.mem_append_left _ hy)
set_option maxHeartbeats 4000000 in
/-- insert below a node that is no leaf. -/
theorem insert_node {w : World} {B h n p q most lo : Nat} {vI vC : Value} {L : List It} {ks : List (Tr (h + 1))} {R : List Pc} (h3 : 3 ≤ most) (h64 : most ≤ 64) (k : ByteArray) (x : Int)
    (ih : ∀ (t : Nd (Tr h)) (w : World) (lo : Nat) (R : List Pc), Sep w B (pcs (h + 1) (up1 t) ++ R) → treeO p q most ∈ R → B ≤ w.heap.size → Shp most (h + 1) lo most (up1 t) → Rise (flat (h + 1) (up1 t)) → (∀ y ∈ flat (h + 1) (up1 t), cmpN y.1 k ≠ 0) →
      Calls Try.prog 32 #[.pointer (some ⟨p, 0, none⟩), .pointer (some ⟨t.n, 0, none⟩), .agg #[.string k, .int .u64 x]] w fun e w' => e = .returned (.tuple #[]) ∧ InsP most lo k x B h t R w' ∧ Below B w w')
    (hS : Sep w B (ndp n vI vC L (ks.map (adr (h + 1))) ++ (ks.flatMap (pcs (h + 1)) ++ R))) (hT : treeO p q most ∈ R) (hB : B ≤ w.heap.size) (hsh : Shp most (h + 2) lo most (up1 (⟨n, vI, vC, L, ks⟩ : Nd (Tr (h + 1))))) (hr : Rise (flat (h + 2) (up1 (⟨n, vI, vC, L, ks⟩ : Nd (Tr (h + 1)))))) (hk : ∀ y ∈ flat (h + 2) (up1 (⟨n, vI, vC, L, ks⟩ : Nd (Tr (h + 1)))), cmpN y.1 k ≠ 0) :
    Calls Try.prog 32 #[.pointer (some ⟨p, 0, none⟩), .pointer (some ⟨n, 0, none⟩), .agg #[.string k, .int .u64 x]] w fun e w' => e = .returned (.tuple #[]) ∧ InsP most lo k x B (h + 1) ⟨n, vI, vC, L, ks⟩ R w' ∧ Below B w w' := by
  have HS : Hid (Sep w B (ndp n vI vC L (ks.map (adr (h + 1))) ++ (ks.flatMap (pcs (h + 1)) ++ R))) := hS
  have HT : Hid (treeO p q most ∈ ndp n vI vC L (ks.map (adr (h + 1))) ++ (ks.flatMap (pcs (h + 1)) ++ R)) := List.mem_append_right _ (List.mem_append_right _ hT)
  have HTR : Hid (treeO p q most ∈ R) := hT
  have HIH : Hid _ := ih
  have HR : Hid (Rise (flat (h + 2) (up1 (⟨n, vI, vC, L, ks⟩ : Nd (Tr (h + 1)))))) := hr
  have HK : Hid (∀ y ∈ flat (h + 2) (up1 (⟨n, vI, vC, L, ks⟩ : Nd (Tr (h + 1)))), cmpN y.1 k ≠ 0) := hk
  have HSH : Hid (Shp most (h + 2) lo most (up1 (⟨n, vI, vC, L, ks⟩ : Nd (Tr (h + 1))))) := hsh
  have hsh' := shp_up.1 hsh
  have hkl : ks.length = L.length + 1 := hsh'.2.2.1 (by omega)
  have hLm : L.length ≤ most := hsh'.2.1
  have hsubL : List.Sublist L (flat (h + 2) (up1 (⟨n, vI, vC, L, ks⟩ : Nd (Tr (h + 1))))) := il_sub L _ (fun _ => by rw [List.length_map]; exact hkl)
  have HRL : Hid (Rise L) := hr.sub hsubL
  have HKL : Hid (∀ y ∈ L, cmpN y.1 k ≠ 0) := fun y hy => hk y (hsubL.subset hy)
  have HNW : Hid (∀ i, isAt L k i = false) := fun i => isAt_new HKL.out
  have HL : Hid (Low L k) := HRL.out.low k
  have HB0 : Hid (Below w.heap.size w (w.alloc (.cells #[.string k, .int .u64 x] 69))) := (Below.refl _ _).alloc (Nat.le_refl _) _
  have HC0 : Hid ((w.alloc (.cells #[.string k, .int .u64 x] 69)).heap[w.heap.size]? = some (.cells #[.string k, .int .u64 x] 69 (0, 0))) := heap_alloc_new w _
  have HKL1 : Hid (ks.length = L.length + 1) := hkl
  have HLM1 : Hid (L.length ≤ most) := hLm
  clear hS hT hr hk hsh hsh' hsubL ih
  go_enter Try.func32, Try.ntmps32
  go_upto_region 1 with fail
  generalize w.alloc (.cells #[.string k, .int .u64 x] 69) = w0 at HB0 HC0 ⊢
  have HS0 : Hid (Sep w0 B (ndp n vI vC L (ks.map (adr (h + 1))) ++ (ks.flatMap (pcs (h + 1)) ++ R))) := HS.out.below HB0.out
  obtain ⟨t0, t1, t2, t3⟩ := HS0.out.tr HT.out
  obtain ⟨n0, n1, nf0, nf1⟩ := (HS0.out.nd_ []).c
  have x0 : w0.cell? ⟨w.heap.size, 0, none⟩ = some (.string k) := cellO HC0.out 0 rfl
  have x1 : w0.cell? ⟨w.heap.size, 1, none⟩ = some (.int .u64 x) := cellO HC0.out 1 rfl
  have HBD : Hid (Below w0.heap.size w0 w0.drew) := (Below.refl _ _).drew
  have HI : Hid (Its w0.drew vI L) := (Its.of_nd (HS0.out.nd_ [])).drew
  clear hkl hLm
  go_cut [6] (fun t wc => ∃ i : Nat, t = .int .i64 (i : Int) ∧ Hid (At L k i) ∧ Hid (Below w0.heap.size w0 wc))
  case first =>
    go_region_law (refine step_find rfl (.tmp 12) (.tmp 14) (.tmp 18) rfl L vI k rfl rfl rfl HI.out (by have := HLM1.out; omega) HL.out ?_; intro i w1 hi hb1; have HB1 : Hid (Below w0.heap.size w0 w1) := HBD.out.trans hb1; have HA : Hid (At L k i) := hi; rw [HNW.out i]; clear hi hb1)
    all_goals (go_wp2_with fail)
    all_goals (go_meet; exact ⟨i, rfl, HA.out, HB1.out⟩)
  case rest =>
    obtain ⟨i, rfl, HA, HB1⟩ := hcut
    generalize wc = w1 at *
    have HS1 : Hid (Sep w1 B (ndp n vI vC L (ks.map (adr (h + 1))) ++ (ks.flatMap (pcs (h + 1)) ++ R))) := HS0.out.below HB1.out
    have HC1 : Hid (w1.heap[w.heap.size]? = some (.cells #[.string k, .int .u64 x] 69 (0, 0))) := (HB1.out.block _ (Array.getElem?_eq_some_iff.1 HC0.out).1).trans HC0.out
    have HB2 : Hid (Below w.heap.size w w1) := HB0.out.trans (HB1.out.mono HB0.out.size)
    clear t0 t1 t2 t3 n0 n1 nf0 nf1 x0 x1 HI HBD HS0 HC0 HS HB0 HB1
    have hil := HA.out.1
    have hkl := HKL1.out
    have hLm := HLM1.out
    obtain ⟨K1, c, K2, rfl, rfl⟩ : ∃ K1 c K2, ks = K1 ++ c :: K2 ∧ K1.length = i := ⟨ks.take i, ks[i]'(by omega), ks.drop (i + 1), by rw [List.getElem_cons_drop, List.take_append_drop], by rw [List.length_take]; omega⟩
    have HLL : Hid (L.length = K1.length + K2.length) := by unfold Hid; rw [List.length_append, List.length_cons] at hkl; omega
    have hml : ((K1 ++ c :: K2).map (adr (h + 1))).length = L.length + 1 := by rw [List.length_map]; exact hkl
    obtain ⟨n0, n1, nf0, nf1⟩ := (HS1.out.nd_ []).c
    obtain ⟨gC, capC, rfl, hC1, hC2, _, hCl, _, hCc⟩ := row_some (HS1.out.nd_ []).rC (by omega)
    have hat : ((K1 ++ c :: K2).map (adr (h + 1)))[K1.length]? = some (adr (h + 1) c) := by simp
    have ca := hCc _ _ (gcP_at hat)
    rw [hml] at n1 hC1
    have x0 : w1.cell? ⟨w.heap.size, 0, none⟩ = some (.string k) := cellO HC1.out 0 rfl
    have x1 : w1.cell? ⟨w.heap.size, 1, none⟩ = some (.int .u64 x) := cellO HC1.out 1 rfl
    have HIL : Hid _ := isLeaf_no (n := n) (w := w1) (ad := ⟨gC, 0, none⟩) (k := L.length + 1) (cap := capC) n1 (by omega)
    have HD1 : Hid (Below w1.heap.size w1 w1.drew) := (Below.refl _ _).drew
    have HSK : Hid (Sep w1.drew B (pcs (h + 1) c ++ (ndp n vI (.slice (some ⟨gC, 0, none⟩) ((K1 ++ c :: K2).map (adr (h + 1))).length capC) L ((K1 ++ c :: K2).map (adr (h + 1))) ++ (K1.flatMap (pcs (h + 1)) ++ (K2.flatMap (pcs (h + 1)) ++ R))))) := by
      have h1 := (HS1.out.below HD1.out)
      rw [← List.append_assoc] at h1
      exact h1.perm (perm_kid n vI _ L K1 c K2 R)
    have hkids : ∀ d ∈ K1 ++ c :: K2, Shp most (h + 1) (most / 2) most d := (shp_up.1 HSH.out).2.2.2
    have HBD1 : Hid (Below B w w1.drew) := (HB2.out.mono hB).drew
    have HRC : Hid _ := HIH.out c w1.drew (most / 2) _ HSK.out (List.mem_append_right _ (List.mem_append_right _ (List.mem_append_right _ HTR.out))) (Nat.le_trans hB HBD1.out.size) (hkids c (by simp)) (kid_rise HLL.out HR.out) (fun y hy => HK.out y (kid_mem HLL.out y hy))
    rw [hml] at HRC HSK HS1
    obtain ⟨l, HLn⟩ : ∃ l, Hid (L.length = l) := ⟨_, rfl⟩
    have HKI : Hid (∀ d ∈ K1 ++ c :: K2, Shp most (h + 1) (most / 2) most d) := hkids
    have hal : K1.length < L.length + 1 := by have := HLL.out; omega
    obtain ⟨a, HKA⟩ : ∃ a, Hid (K1.length = a) := ⟨_, rfl⟩
    rw [HLn.out] at n1 hC1 hLm hal HRC HSK HS1
    rw [HKA.out] at ca hal ⊢
    have hali : (a : Int) < (l : Int) + 1 := by omega
    clear hCc hat hml hkl hil hkids HIH
    go_upto_region 4 with (go_at_call 45; refine Calls.mono HIL.out ?_; rintro e w6 ⟨rfl, hw6⟩; obtain rfl := hw6.symm)
    go_cut [35] (fun t wc => t = .pointer (some ⟨p, 0, none⟩) ∧ Hid (InsP most (most / 2) k x B h c (ndp n vI (.slice (some ⟨gC, 0, none⟩) (l + 1) capC) L ((K1 ++ c :: K2).map (adr (h + 1))) ++ (K1.flatMap (pcs (h + 1)) ++ (K2.flatMap (pcs (h + 1)) ++ R))) wc) ∧ Hid (Below B w wc))
    case first =>
      go_region_law (refine step_call rfl 32 (enters_of Try.func32 (by kernel_rfl) rfl) #[.tmp 35, .tmp 42, .tmp 43] _ rfl _ (by go_simp; all_goals rfl) (fun v w' => v = .tuple #[] ∧ InsP most (most / 2) k x B h c (ndp n vI (.slice (some ⟨gC, 0, none⟩) (l + 1) capC) L ((K1 ++ c :: K2).map (adr (h + 1))) ++ (K1.flatMap (pcs (h + 1)) ++ (K2.flatMap (pcs (h + 1)) ++ R))) w' ∧ Below B w1.drew w') (Calls.mono HRC.out (by rintro e w' ⟨rfl, h⟩; exact ⟨_, rfl, rfl, h⟩)) ?_; rintro v w4 ⟨rfl, hp4, hb4⟩; have HP4 : Hid (InsP most (most / 2) k x B h c (ndp n vI (.slice (some ⟨gC, 0, none⟩) (l + 1) capC) L ((K1 ++ c :: K2).map (adr (h + 1))) ++ (K1.flatMap (pcs (h + 1)) ++ (K2.flatMap (pcs (h + 1)) ++ R))) w4) := hp4; have HB4 : Hid (Below B w w4) := HBD1.out.trans hb4; clear hp4 hb4)
      all_goals (go_wp2_with fail)
      all_goals (go_meet; exact ⟨rfl, HP4.out, HB4.out⟩)
    case rest =>
      obtain ⟨rfl, HP4, HB4⟩ := hcut
      generalize wc = w4 at *
      clear HRC HSK HS1 HC1 HB2 HIL HD1 HBD1 n0 n1 nf0 nf1 x0 x1 ca hCl
      obtain ⟨c', hcn, hsc, hshc, hic⟩ := HP4.out
      have HSc : Hid (Sep w4 B (pcs (h + 1) (up1 c') ++ (ndp n vI (.slice (some ⟨gC, 0, none⟩) (l + 1) capC) L ((K1 ++ c :: K2).map (adr (h + 1))) ++ (K1.flatMap (pcs (h + 1)) ++ (K2.flatMap (pcs (h + 1)) ++ R))))) := hsc
      have HMP : Hid ((K1 ++ c :: K2).map (adr (h + 1)) = (K1 ++ up1 c' :: K2).map (adr (h + 1))) := by
        unfold Hid
        rw [List.map_append, List.map_append, List.map_cons, List.map_cons, adr_up, hcn]
        rfl
      have HSH' : Hid (Shp most (h + 1) (most / 2) (most + 1) (up1 c')) := hshc
      have hin := nd_in hsc
      obtain ⟨c0, c1, _, _⟩ := (hin.nd_ []).c
      have hcl := (shp_up.1 hshc).1
      obtain ⟨gI, capI, hvI, hI1, _⟩ := row_some (hin.nd_ []).rI (by omega)
      rw [hvI] at c0
      obtain ⟨m, HM⟩ : ∃ m, Hid (c'.L.length = m) := ⟨_, rfl⟩
      rw [HM.out] at c0 hcl
      have hmm : m ≤ most + 1 := by have := (shp_up.1 hshc).2.1; rw [HM.out] at this; exact this
      have hnd := hsc.nd_ (pcs (h + 1) (up1 c'))
      obtain ⟨n0, n1, _, _⟩ := hnd.c
      have hml : ((K1 ++ c :: K2).map (adr (h + 1))).length = l + 1 := by rw [List.length_map, HKL1.out, HLn.out]
      have hrC := hnd.rC
      rw [hml] at hrC
      obtain ⟨gC', capC', hvC, _, _, _, _, _, hCc⟩ := row_some hrC (by omega)
      injection hvC with e1 _ _
      obtain rfl : gC = gC' := by simpa using e1
      have ca := hCc a _ (gcP_at (c := adr (h + 1) c) (by rw [← HKA.out]; simp))
      rw [show adr (h + 1) c = c'.n from hcn.symm] at ca
      obtain ⟨t0, t1, t2, t3⟩ := HSc.out.tr (p := p) (q := q) (most := most) (List.mem_append_right _ (List.mem_append_right _ (List.mem_append_right _ (List.mem_append_right _ HTR.out))))
      have HIC : Hid (Ins (flat (h + 1) (up1 c)) k x (flat (h + 1) (up1 c'))) := hic
      have HCN : Hid (c'.n = Nd.n (K := Tr h) c) := hcn
      clear hin hsc hshc hnd hrC hCc hml hic e1 hI1 hcn
      by_cases hgt : m ≤ most
      · have d1 : decide ((most : Int) < (m : Int)) = false := by simp; omega
        have HFIN : Hid (∀ nq, InsP most lo k x B (h + 1) ⟨n, vI, .slice (some ⟨gC, 0, none⟩) ((K1 ++ c :: K2).map (adr (h + 1))).length capC, L, K1 ++ c :: K2⟩ R (w4.drewN nq)) := by
          intro nq
          have hdr : Below w4.heap.size w4 (w4.drewN nq) := ⟨rfl, rfl, rfl, Nat.le_refl _, fun _ _ => rfl⟩
          have hsh := shp_up.1 HSH.out
          have hsc := shp_up.1 HSH'.out
          refine ⟨⟨n, vI, .slice (some ⟨gC, 0, none⟩) (l + 1) capC, L, K1 ++ up1 c' :: K2⟩, rfl, ?_, shp_up.2 ⟨hsh.1, Nat.le_succ_of_le hsh.2.1, fun _ => ?_, fun d hd => ?_⟩, ?_⟩
          · have h1 := HSc.out.below hdr
            rw [HMP.out] at h1
            exact h1.perm (perm_kid n vI _ L K1 (up1 c') K2 R).symm
          · show (K1 ++ up1 c' :: K2).length = L.length + 1
            rw [List.length_append, List.length_cons, HLL.out]; omega
          · have hd' : d ∈ K1 ++ up1 c' :: K2 := hd
            rcases List.mem_append.1 hd' with h1 | h1
            · exact HKI.out d (List.mem_append_left _ h1)
            · rcases List.mem_cons.1 h1 with rfl | h1
              · exact shp_up.2 ⟨hsc.1, by rw [HM.out]; exact hgt, hsc.2.2.1, hsc.2.2.2⟩
              · exact HKI.out d (List.mem_append_right _ (List.mem_cons_of_mem _ h1))
          · have ho := kid_order HLL.out HR.out HA.out (fun y hy => by have h1 := HA.out.split.2 y hy; have h2 := HKL.out y (List.mem_of_mem_drop hy); omega)
            have e1 := kid_flat (n := n) (vI := vI) (vC := .slice (some ⟨gC, 0, none⟩) ((K1 ++ c :: K2).map (adr (h + 1))).length capC) (L := L) (K1 := K1) (c := c) (K2 := K2) (by have := HLL.out; omega)
            have e2 := kid_flat (n := n) (vI := vI) (vC := .slice (some ⟨gC, 0, none⟩) (l + 1) capC) (L := L) (K1 := K1) (c := up1 c') (K2 := K2) (by have := HLL.out; omega)
            show Ins (flat (h + 1 + 1) (⟨n, vI, .slice (some ⟨gC, 0, none⟩) ((K1 ++ c :: K2).map (adr (h + 1))).length capC, L, K1 ++ c :: K2⟩ : Nd (Tr (h + 1)))) k x (flat (h + 1 + 1) (⟨n, vI, .slice (some ⟨gC, 0, none⟩) (l + 1) capC, L, K1 ++ up1 c' :: K2⟩ : Nd (Tr (h + 1))))
            rw [e1, e2]
            exact HIC.out.mid ho.1 ho.2
        have HBQ : Hid (∀ nq, Below B w (w4.drewN nq)) := fun nq => HB4.out.trans ⟨rfl, rfl, rfl, Nat.le_refl _, fun _ _ => rfl⟩
        go_wp2_with fail
        go_quiet (fail)
        go_wp2_with fail
        refine bodyPost_end (results_none rfl _ _ _) rfl ?_
        exact ⟨rfl, HFIN.out _, HBQ.out _⟩
      · have d1 : decide ((most : Int) < (m : Int)) = true := by simp; omega
        have hmo : m = most + 1 := by omega
        have HSP : Hid (∀ nq, Calls Try.prog 47 #[.pointer (some ⟨n, 0, none⟩), .int .i64 (a : Int)] (w4.drewN nq) fun e w' => e = .returned (.tuple #[]) ∧ InsP most lo k x B (h + 1) ⟨n, vI, .slice (some ⟨gC, 0, none⟩) ((K1 ++ c :: K2).map (adr (h + 1))).length capC, L, K1 ++ c :: K2⟩ R w' ∧ Below B w w') := by
          intro nq
          have hdr : Below w4.heap.size w4 (w4.drewN nq) := ⟨rfl, rfl, rfl, Nat.le_refl _, fun _ _ => rfl⟩
          have hsh := shp_up.1 HSH.out
          have hsc := shp_up.1 HSH'.out
          have h1 := HSc.out.below hdr
          rw [HMP.out] at h1
          have h2 := h1.perm (perm_two n vI _ L K1 c' K2 R)
          have hll := HLL.out
          have hlm := HLM1.out
          have hka := HKA.out
          have hmv := HM.out
          have hat : ((K1 ++ up1 c' :: K2).map (adr (h + 1)))[a]? = some c'.n := by rw [← HKA.out]; simp [adr_up]
          refine (split_any h2 hat (by omega) (by omega) (by rw [List.length_map, List.length_append, List.length_cons]; omega) (by omega) (by omega) ?_ (Nat.le_trans (Nat.le_trans hB HB4.out.size) hdr.size)).mono ?_
          · cases h with
            | zero => left; rw [ks_leaf c']; rfl
            | succ h => right; rw [List.length_map]; exact hsc.2.2.1 (by omega)
          · rintro e w' ⟨rfl, up, r, vI', vC', wI', wC', rI, rC, hup, hS', hb'⟩
            refine ⟨rfl, ?_, (HB4.out.trans (hdr.mono (Nat.le_trans hB HB4.out.size))).trans hb'⟩
            rw [← hka] at hS'
            obtain ⟨t', h1, h2, h3', h4, _⟩ := split_tree (most := most) (lo := lo) (vI := vI) (vC := vC') (k := k) (x := x) (by omega) h3 hup hll hsh.1 hsh.2.1 (fun d hd => by
              rcases List.mem_append.1 hd with h1 | h1
              · exact HKI.out d (List.mem_append_left _ h1)
              · exact HKI.out d (List.mem_append_right _ (List.mem_cons_of_mem _ h1))) HSH'.out rfl hS'
            refine ⟨t', h1, h2, h3', ?_⟩
            rw [h4]
            have ho := kid_order HLL.out HR.out HA.out (fun y hy => by have h1 := HA.out.split.2 y hy; have h2 := HKL.out y (List.mem_of_mem_drop hy); omega)
            have e1 := kid_flat (n := n) (vI := vI) (vC := .slice (some ⟨gC, 0, none⟩) ((K1 ++ c :: K2).map (adr (h + 1))).length capC) (L := L) (K1 := K1) (c := c) (K2 := K2) (by have := HLL.out; omega)
            show Ins (flat (h + 1 + 1) (⟨n, vI, .slice (some ⟨gC, 0, none⟩) ((K1 ++ c :: K2).map (adr (h + 1))).length capC, L, K1 ++ c :: K2⟩ : Nd (Tr (h + 1)))) k x _
            rw [e1]
            exact HIC.out.mid ho.1 ho.2
        go_wp2_with fail
        go_quiet (fail)
        go_wp2_with (go_at_call 47; refine Calls.mono (HSP.out _) ?_; rintro e w7 ⟨rfl, hp7, hb7⟩; have HP7 : Hid (InsP most lo k x B (h + 1) ⟨n, vI, .slice (some ⟨gC, 0, none⟩) ((K1 ++ c :: K2).map (adr (h + 1))).length capC, L, K1 ++ c :: K2⟩ R w7) := hp7; have HB7 : Hid (Below B w w7) := hb7; clear hp7 hb7)
        refine bodyPost_end (results_none rfl _ _ _) rfl ?_
        exact ⟨rfl, HP7.out, HB7.out⟩
/-- insert into a tree of any depth. -/
theorem insert_any {B p q most : Nat} (h3 : 3 ≤ most) (h64 : most ≤ 64) (k : ByteArray) (x : Int) : ∀ (h : Nat) (t : Nd (Tr h)) (w : World) (lo : Nat) (R : List Pc), Sep w B (pcs (h + 1) (up1 t) ++ R) → treeO p q most ∈ R → B ≤ w.heap.size → Shp most (h + 1) lo most (up1 t) → Rise (flat (h + 1) (up1 t)) → (∀ y ∈ flat (h + 1) (up1 t), cmpN y.1 k ≠ 0) →
      Calls Try.prog 32 #[.pointer (some ⟨p, 0, none⟩), .pointer (some ⟨t.n, 0, none⟩), .agg #[.string k, .int .u64 x]] w fun e w' => e = .returned (.tuple #[]) ∧ InsP most lo k x B h t R w' ∧ Below B w w'
  | 0, ⟨n, vI, vC, L, ks⟩, w, lo, R, hS, hT, hB, hsh, hr, hk => by
    have hks : ks = [] := ks_leaf ⟨n, vI, vC, L, ks⟩
    subst hks
    have hS' : Sep w B (ndp n vI vC L [] ++ R) := nd_in hS
    have hs := shp_up.1 hsh
    have hf : flat 1 (up1 (⟨n, vI, vC, L, []⟩ : Nd (Tr 0))) = L := rfl
    rw [hf] at hr hk
    have hl : L.length ≤ most := hs.2.1
    refine (insert_leaf hS' hT hB (by omega) k x hr hk).mono ?_
    rintro e w' ⟨rfl, ⟨i, vI', ha, h1⟩, h2⟩
    have hlen : (L.take i ++ (k, x) :: L.drop i).length = L.length + 1 := by rw [List.length_append, List.length_cons, List.length_take, List.length_drop]; have := ha.1; omega
    refine ⟨rfl, ⟨⟨n, vI', vC, L.take i ++ (k, x) :: L.drop i, []⟩, rfl, nd_out h1, shp_up.2 ⟨?_, ?_, fun h => absurd h (by omega), fun d hd => by cases hd⟩, ?_⟩, h2⟩
    · show lo ≤ (L.take i ++ (k, x) :: L.drop i).length
      have h0 : lo ≤ L.length := hs.1
      omega
    · show (L.take i ++ (k, x) :: L.drop i).length ≤ most + 1
      omega
    · exact Ins.at_ hr ha hk
  | h + 1, ⟨n, vI, vC, L, ks⟩, w, lo, R, hS, hT, hB, hsh, hr, hk => insert_node h3 h64 k x (fun t w lo R => insert_any h3 h64 k x h t w lo R) (nd_in hS) hT hB hsh hr hk
end Go.Proofs.Ytelfjgnmbikofaa
