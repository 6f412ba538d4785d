/-
  remove: the item of a key is taken out of a tree. Conditions: keys rise; the key is there; the tree has its shape.
-/
import Derived.Test.YtelfjgnmbikofaaBRemL
import Derived.Test.YtelfjgnmbikofaaBInsD
namespace Go.Proofs.Ytelfjgnmbikofaa
open Go.RowKit
set_option linter.unusedVariables false
set_option maxRecDepth 100000

/-- An item less. -/
def Del (F : List It) (k : ByteArray) (F' : List It) : Prop := ∃ A v C, F = A ++ (k, v) :: C ∧ F' = A ++ C
theorem Del.mid {X F Y : List It} {k : ByteArray} {F' : List It} (h : Del F k F') : Del (X ++ (F ++ Y)) k (X ++ (F' ++ Y)) := by
  obtain ⟨A, v, C, rfl, rfl⟩ := h
  exact ⟨X ++ A, v, C ++ Y, by simp, by simp⟩
/-- What remove leaves of a tree. -/
def RemP (most lo B h : Nat) (t : Nd (Tr h)) (k : ByteArray) (R : List Pc) (w' : World) : Prop :=
  ∃ t' : Nd (Tr h), t'.n = t.n ∧ Sep w' B (pcs (h + 1) (up1 t') ++ R) ∧ Shp most (h + 1) (lo - 1) most (up1 t') ∧ Del (flat (h + 1) (up1 t)) k (flat (h + 1) (up1 t'))
/-- A key that is there stands at its place. -/
theorem at_here {L : List It} {k : ByteArray} {i : Nat} (hr : Rise L) (ha : At L k i) (hk : ∃ v, (k, v) ∈ L) : isAt L k i = true ∧ ∃ v, L[i]? = some (k, v) := by
  have h1 : isAt L k i = true := by
    cases h : isAt L k i with
    | true => rfl
    | false =>
      exfalso
      obtain ⟨v, hv⟩ := hk
      have h2 := isAt_false hr ha h
      rw [← List.take_append_drop i L] at hv
      rcases List.mem_append.1 hv with h3 | h3
      · have := ha.split.1 _ h3
        rw [cmpN_self] at this
        omega
      · have := h2 _ h3
        rw [cmpN_self] at this
        omega
  exact ⟨h1, isAt_true h1⟩
set_option maxHeartbeats 4000000 in
theorem remLeaf {w : World} {B n p q most : Nat} {vI vC : Value} {L : List It} {R : List Pc} (hS : Sep w B (ndp n vI vC L [] ++ R)) (hT : treeO p q most ∈ R) (hB : B ≤ w.heap.size) (hn : L.length ≤ 1000) (k : ByteArray) (hr : Rise L) (hk : ∃ v, (k, v) ∈ L) :
    Calls Try.prog 35 #[.pointer (some ⟨p, 0, none⟩), .pointer (some ⟨n, 0, none⟩), .string k] w fun e w' => e = .returned (.tuple #[]) ∧ (∃ i v vI', L[i]? = some (k, v) ∧ Sep w' B (ndp n vI' vC (L.take i ++ L.drop (i + 1)) [] ++ R)) ∧ Below B w w' := by
  have HS : Hid (Sep w B (ndp n vI vC L [] ++ R)) := hS
  obtain ⟨ao, capL, rfl⟩ := row_zero (hS.nd_ []).rC
  obtain ⟨t0, t1, t2, t3⟩ := hS.tr (p := p) (q := q) (most := most) (List.mem_append_right _ hT)
  obtain ⟨n0, n1, nf0, nf1⟩ := (hS.nd_ []).c
  have hL1 : 1 ≤ L.length := by obtain ⟨v, hv⟩ := hk; cases L with | nil => cases hv | cons x y => simp
  obtain ⟨g, cap, rfl, hg1, hg2, _⟩ := row_some (hS.nd_ []).rI hL1
  have HL : Hid (Low L k) := hr.low k
  have HAH : Hid (∀ i, At L k i → isAt L k i = true ∧ ∃ v, L[i]? = some (k, v)) := fun i hi => at_here hr hi hk
  have HI : Hid (Its w.drew (.slice (some ⟨g, 0, none⟩) L.length cap) L) := (Its.of_nd (hS.nd_ [])).drew
  have HBD : Hid (Below w.heap.size w w.drew) := (Below.refl _ _).drew
  clear hS hT hr hk
  go_enter Try.func35, Try.ntmps35
  go_upto_region 0 with fail
  go_cut [6, 7] (fun t u wc => ∃ i : Nat, t = .int .i64 (i : Int) ∧ u = .bool true ∧ Hid (At L k i) ∧ Hid (Below w.heap.size w wc))
  case first =>
    go_region_law (refine step_find rfl (.tmp 12) (.tmp 13) (.tmp 17) rfl L (.slice (some ⟨g, 0, none⟩) L.length cap) k rfl rfl rfl HI.out (by omega) HL.out ?_; intro i w1 hi hb1; have HB1 : Hid (Below w.heap.size w w1) := HBD.out.trans hb1; have HA : Hid (At L k i) := hi; rw [(HAH.out i hi).1]; clear hi hb1)
    all_goals (go_wp2_with fail)
    all_goals (go_meet; exact ⟨i, rfl, rfl, HA.out, HB1.out⟩)
  case rest =>
    obtain ⟨i, rfl, rfl, HA, HB1⟩ := hcut
    generalize wc = w1 at *
    obtain ⟨v, hv⟩ := (HAH.out i HA.out).2
    have hil := (List.getElem?_eq_some_iff.1 hv).1
    have HV : Hid (L[i]? = some (k, v)) := hv
    have HS1 : Hid (Sep w1 B (ndp n (.slice (some ⟨g, 0, none⟩) L.length cap) (.slice ao 0 capL) L [] ++ R)) := HS.out.below HB1.out
    clear t0 t1 t2 t3 n0 n1 nf0 nf1 HI HBD hv
    obtain ⟨n0, n1, nf0, nf1⟩ := (HS1.out.nd_ []).c
    have HIL : Hid _ := isLeaf_z (n := n) (w := w1) (ao := ao) (cap := capL) n1
    obtain ⟨l, HLl⟩ : ∃ l, Hid (L.length = l) := ⟨_, rfl⟩
    have HRW : Hid (w1.ownsRow B 69 2 (.slice (some ⟨g, 0, none⟩) l cap) l (gc encI L)) := by have := (HS1.out.nd_ []).rI; rw [HLl.out] at this; exact this
    rw [HLl.out] at n0 hil hn HS1 hg1
    have HDEL : Hid _ := sdelI HLl.out HRW.out i (i + 1) (by omega) (by omega) (by omega)
    rw [show l - (i + 1 - i) = l - 1 by omega, show ((i + 1 : Nat) : Int) = (i : Int) + 1 by omega] at HDEL
    have HLD : Hid ((L.take i ++ L.drop (i + 1)).length = l - 1) := by unfold Hid; rw [List.length_append, List.length_take, List.length_drop, HLl.out]; omega
    have HBz : Hid (B ≤ w1.heap.size) := Nat.le_trans hB HB1.out.size
    have HBB1 : Hid (Below B w w1) := HB1.out.mono hB
    go_wp2_with (first
      | (go_at_call 45; refine Calls.mono HIL.out ?_; rintro e w6 ⟨rfl, hw6⟩; obtain rfl := hw6.symm)
      | (go_at_call 48; refine Calls.mono HDEL.out ?_; rintro e w5 ⟨rfl, ho5, hg5⟩; have h5 := HS1.out.ndI (wI' := .slice (some ⟨g, 0, none⟩) (l - 1) cap) (M' := L.take i ++ L.drop (i + 1)) [] (by rw [HLD.out]; exact ho5) hg5 (Or.inl rfl); have HS5 : Hid (Sep (w5.setCell ⟨n, 0, none⟩ (.slice (some ⟨g, 0, none⟩) (l - 1) cap)) B (ndp n (.slice (some ⟨g, 0, none⟩) (l - 1) cap) (.slice ao 0 capL) (L.take i ++ L.drop (i + 1)) [] ++ R)) := h5.2; have z0 := cellO h5.1 0 rfl; have z1 := frozenO h5.1 0; have HB5 : Hid (Below B w (w5.setCell ⟨n, 0, none⟩ (.slice (some ⟨g, 0, none⟩) (l - 1) cap))) := (below_gr HBB1.out HBz.out HRW.out hg5).setCell (HS1.out.nd_ []).bn _; clear ho5 hg5 h5))
    refine bodyPost_ret (results_none rfl _ _ _) rfl ?_
    exact ⟨rfl, ⟨i, v, _, HV.out, HS5.out⟩, HB5.out⟩

set_option maxHeartbeats 4000000 in
/-- remove below a node that is no leaf. -/
theorem remNode {w : World} {B h n p q most lo : Nat} {vI vC : Value} {L : List It} {ks : List (Tr (h + 1))} {R : List Pc} (h3 : 3 ≤ most) (h64 : most ≤ 64) (k : ByteArray)
    (ih : ∀ (t : Nd (Tr h)) (w : World) (lo : Nat) (R : List Pc), Sep w B (pcs (h + 1) (up1 t) ++ R) → treeO p q most ∈ R → B ≤ w.heap.size → Shp most (h + 1) lo most (up1 t) → (0 < h → 1 ≤ lo) → Rise (flat (h + 1) (up1 t)) → (∃ v, (k, v) ∈ flat (h + 1) (up1 t)) →
      Calls Try.prog 35 #[.pointer (some ⟨p, 0, none⟩), .pointer (some ⟨t.n, 0, none⟩), .string k] w fun e w' => e = .returned (.tuple #[]) ∧ RemP most lo B h t k R w' ∧ Below B w w')
    (hS : Sep w B (pcs (h + 2) (up1 (⟨n, vI, vC, L, ks⟩ : Nd (Tr (h + 1)))) ++ R)) (hT : treeO p q most ∈ R) (hB : B ≤ w.heap.size) (hsh : Shp most (h + 2) lo most (up1 (⟨n, vI, vC, L, ks⟩ : Nd (Tr (h + 1))))) (hL1 : 1 ≤ L.length) (hr : Rise (flat (h + 2) (up1 (⟨n, vI, vC, L, ks⟩ : Nd (Tr (h + 1)))))) (hk : ∃ v, (k, v) ∈ flat (h + 2) (up1 (⟨n, vI, vC, L, ks⟩ : Nd (Tr (h + 1))))) :
    Calls Try.prog 35 #[.pointer (some ⟨p, 0, none⟩), .pointer (some ⟨n, 0, none⟩), .string k] w fun e w' => e = .returned (.tuple #[]) ∧ RemP most lo B (h + 1) ⟨n, vI, vC, L, ks⟩ k R w' ∧ Below B w w' := by
  have hs := shp_up.1 hsh
  have hLlo : lo ≤ L.length := hs.1
  have hLhi : L.length ≤ most := hs.2.1
  have hkl : ks.length = L.length + 1 := hs.2.2.1 (by omega)
  have HS : Hid (Sep w B (pcs (h + 2) (up1 (⟨n, vI, vC, L, ks⟩ : Nd (Tr (h + 1)))) ++ R)) := hS
  have HT : Hid (treeO p q most ∈ R) := hT
  have HIH : Hid _ := ih
  have HKI : Hid (∀ e ∈ ks, Shp most (h + 1) (most / 2) most e) := hs.2.2.2
  have HKL : Hid (ks.length = L.length + 1) := hkl
  have HR : Hid (Rise (flat (h + 2) (up1 (⟨n, vI, vC, L, ks⟩ : Nd (Tr (h + 1)))))) := hr
  have HK : Hid (∃ v, (k, v) ∈ flat (h + 2) (up1 (⟨n, vI, vC, L, ks⟩ : Nd (Tr (h + 1))))) := hk
  have hsubL : List.Sublist L (flat (h + 2) (up1 (⟨n, vI, vC, L, ks⟩ : Nd (Tr (h + 1))))) := il_sub L _ (fun _ => by rw [List.length_map]; exact hkl)
  have HRL : Hid (Rise L) := hr.sub hsubL
  have HL : Hid (Low L k) := HRL.out.low k
  obtain ⟨t0, t1, t2, t3⟩ := hS.tr (p := p) (q := q) (most := most) (List.mem_append_right _ hT)
  have hnd := (nd_in hS).nd_ []
  obtain ⟨n0, n1, nf0, nf1⟩ := hnd.c
  obtain ⟨gN, capN, hvN, hg1, hg2, _⟩ := row_some hnd.rI hL1
  have HI : Hid (Its w.drew vI L) := (Its.of_nd hnd).drew
  have HBD : Hid (Below w.heap.size w w.drew) := (Below.refl _ _).drew
  clear hS hT hr hk hs hsh ih hsubL hnd
  obtain rfl : vI = .slice (some ⟨gN, 0, none⟩) L.length capN := hvN
  go_enter Try.func35, Try.ntmps35
  go_upto_region 0 with fail
  go_cut [6, 7] (fun t u wc => ∃ i : Nat, t = .int .i64 (i : Int) ∧ u = .bool (isAt L k i) ∧ Hid (At L k i) ∧ Hid (Below w.heap.size w wc))
  case first =>
    go_region_law (refine step_find rfl (.tmp 12) (.tmp 13) (.tmp 17) rfl L (.slice (some ⟨gN, 0, none⟩) L.length capN) k rfl rfl rfl HI.out (by omega) HL.out ?_; intro i w1 hi hb1; have HB1 : Hid (Below w.heap.size w w1) := HBD.out.trans hb1; have HA : Hid (At L k i) := hi; obtain ⟨bo, HBO⟩ : ∃ bo, Hid (isAt L k i = bo) := ⟨_, rfl⟩; rw [HBO.out]; clear hi hb1)
    all_goals (go_wp2_with fail)
    all_goals (go_meet; exact ⟨i, rfl, by rw [HBO.out], HA.out, HB1.out⟩)
  case rest =>
    obtain ⟨i, rfl, rfl, HA, HB1⟩ := hcut
    generalize wc = w1 at *
    have HS1 : Hid (Sep w1 B (pcs (h + 2) (up1 (⟨n, .slice (some ⟨gN, 0, none⟩) L.length capN, vC, L, ks⟩ : Nd (Tr (h + 1)))) ++ R)) := HS.out.below HB1.out
    clear t0 t1 t2 t3 n0 n1 nf0 nf1 HI HBD HS
    have hil := HA.out.1
    obtain ⟨K1, c, K2, hkse, hK1⟩ : ∃ (K1 : List (Tr (h + 1))) (c : Nd (Tr h)) (K2 : List (Tr (h + 1))), ks = K1 ++ up1 c :: K2 ∧ K1.length = i := ⟨ks.take i, ks[i]'(by rw [HKL.out]; omega), ks.drop (i + 1), by show ks = ks.take i ++ ks[i]'_ :: ks.drop (i + 1); rw [List.getElem_cons_drop, List.take_append_drop], by rw [List.length_take]; omega⟩
    subst hkse
    have HLL : Hid (L.length = K1.length + K2.length) := by unfold Hid; rw [List.length_append, List.length_cons] at hkl; omega
    obtain ⟨_, gC, capC, hvC, n1, hCc⟩ := node_cells HS1.out hkl
    have n0 := (nd_in HS1.out).nd_ [] |>.c.1
    have ca := hCc i (up1 c) (by rw [← hK1]; simp)
    rw [adr_up] at ca
    have HIL : Hid _ := isLeaf_no (n := n) (w := w1) (ad := ⟨gC, 0, none⟩) (k := L.length + 1) (cap := capC) n1 (by omega)
    have HKc : Hid (Shp most (h + 1) (most / 2) most (up1 c)) := HKI.out _ (by simp)
    have HBB1 : Hid (Below B w w1) := HB1.out.mono hB
    have HBz : Hid (B ≤ w1.heap.size) := Nat.le_trans hB HB1.out.size
    have HKr : Hid (∀ e ∈ K1 ++ K2, Shp most (h + 1) (most / 2) most e) := fun e he => HKI.out e (by rcases List.mem_append.1 he with h1 | h1; exact List.mem_append_left _ h1; exact List.mem_append_right _ (List.mem_cons_of_mem _ h1))
    have HK1 : Hid (K1.length = i) := hK1
    have HLhi : Hid (L.length ≤ most) := hLhi
    have HLlo : Hid (lo ≤ L.length) := hLlo
    have HL1 : Hid (1 ≤ L.length) := hL1
    clear hCc hkl hK1
    cases his : isAt L k i with
    | false =>
      have HRC : Hid (∃ v, (k, v) ∈ flat (h + 1) (up1 c)) := by
        obtain ⟨v, hv⟩ := HK.out
        refine ⟨v, ?_⟩
        have ho := kid_order HLL.out HR.out (by rw [HK1.out]; exact HA.out) (fun y hy => isAt_false HRL.out HA.out his y (by rw [← HK1.out]; exact hy))
        have hv2 : (k, v) ∈ pre (L.take K1.length) (K1.map (flat (h + 1))) ++ (flat (h + 1) (up1 c) ++ post (L.drop K1.length) (K2.map (flat (h + 1)))) := by rw [← kid_flat (n := n) (vI := .slice (some ⟨gN, 0, none⟩) L.length capN) (vC := vC) (c := up1 c) (by have := HLL.out; omega)]; exact hv
        rcases List.mem_append.1 hv2 with h1 | h1
        · have := ho.1 _ h1; rw [cmpN_self] at this; omega
        · rcases List.mem_append.1 h1 with h2 | h2
          · exact h2
          · have := ho.2 _ h2; rw [cmpN_self] at this; omega
      have HSK := HS1.out.perm (perm_kid n (.slice (some ⟨gN, 0, none⟩) L.length capN) vC L K1 (up1 c) K2 R)
      have HREC : Hid _ := HIH.out c w1 (most / 2) _ HSK (List.mem_append_right _ (List.mem_append_right _ (List.mem_append_right _ HT.out))) HBz.out HKc.out (fun _ => by omega) (kid_rise HLL.out HR.out) HRC.out
      obtain ⟨l, HLl⟩ : ∃ l, Hid (L.length = l) := ⟨_, rfl⟩
      rw [HLl.out] at n1 n0 hil
      have hila : (i : Int) < (l : Int) + 1 := by omega
      have hilb : l ≤ 64 := by rw [← HLl.out]; omega
      clear HSK HIH hLhi hLlo hL1
      go_upto_region 6 with (first
        | (go_at_call 45; refine Calls.mono HIL.out ?_; rintro e w6 ⟨rfl, hw6⟩; obtain rfl := hw6.symm)
        | (go_at_call 35; refine Calls.mono HREC.out ?_; rintro e w2 ⟨rfl, hp2, hb2⟩; have HP2 : Hid (RemP most (most / 2) B h c k (ndp n (.slice (some ⟨gN, 0, none⟩) L.length capN) vC L ((K1 ++ up1 c :: K2).map (adr (h + 1))) ++ (K1.flatMap (pcs (h + 1)) ++ (K2.flatMap (pcs (h + 1)) ++ R))) w2) := hp2; have HB2 : Hid (Below B w w2) := HBB1.out.trans hb2; clear hp2 hb2))
      obtain ⟨c', hcn, hsc, hshc, hfc⟩ := HP2.out
      have hmap : (K1 ++ up1 c :: K2).map (adr (h + 1)) = (K1 ++ up1 c' :: K2).map (adr (h + 1)) := by rw [List.map_append, List.map_append, List.map_cons, List.map_cons, adr_up, adr_up, hcn]
      rw [hmap] at hsc
      have h1 := hsc.perm (perm_kid n (.slice (some ⟨gN, 0, none⟩) L.length capN) vC L K1 (up1 c') K2 R).symm
      have HREF : Hid _ := refill_any (p := p) (q := q) (lo := lo) (a := i) h3 h64 h1 HT.out (Nat.le_trans hB HB2.out.size) HLL.out HL1.out HLlo.out HLhi.out HKr.out hshc HK1.out
      have HFC : Hid (Del (flat (h + 1) (up1 c)) k (flat (h + 1) (up1 c'))) := hfc
      clear hsc hshc hfc hcn hmap h1 n1 ca HIL HREC HP2 HS1
      go_wp2_with (go_at_call 50; refine Calls.mono HREF.out ?_; rintro e w4 ⟨rfl, hp4, hb4⟩; have HP4 : Hid (RefP most lo B (h + 1) n (flat (h + 2) (up1 (⟨n, .slice (some ⟨gN, 0, none⟩) L.length capN, vC, L, K1 ++ up1 c' :: K2⟩ : Nd (Tr (h + 1))))) R w4) := hp4; have HB4 : Hid (Below B w w4) := HB2.out.trans hb4; clear hp4 hb4)
      refine bodyPost_end (results_none rfl _ _ _) rfl ?_
      obtain ⟨t', htn, hst, hsht, _, hft⟩ := HP4.out
      refine ⟨rfl, ⟨t', htn, hst, hsht, ?_⟩, HB4.out⟩
      rw [hft]
      have e1 := kid_flat (n := n) (vI := .slice (some ⟨gN, 0, none⟩) L.length capN) (vC := vC) (L := L) (K1 := K1) (c := up1 c) (K2 := K2) (by have := HLL.out; omega)
      have e2 := kid_flat (n := n) (vI := .slice (some ⟨gN, 0, none⟩) L.length capN) (vC := vC) (L := L) (K1 := K1) (c := up1 c') (K2 := K2) (by have := HLL.out; omega)
      show Del (flat (h + 1 + 1) (⟨n, .slice (some ⟨gN, 0, none⟩) L.length capN, vC, L, K1 ++ up1 c :: K2⟩ : Nd (Tr (h + 1)))) k (flat (h + 1 + 1) (⟨n, .slice (some ⟨gN, 0, none⟩) L.length capN, vC, L, K1 ++ up1 c' :: K2⟩ : Nd (Tr (h + 1))))
      rw [e1, e2]
      exact HFC.out.mid
    | true =>
      obtain ⟨v, hv⟩ := isAt_true his
      have hilt := (List.getElem?_eq_some_iff.1 hv).1
      have HV : Hid (L[i]? = some (k, v)) := hv
      have HD1 : Hid (Below w1.heap.size w1 w1.drew) := (Below.refl _ _).drew
      have HS1d := HS1.out.below HD1.out
      have HSK := HS1d.perm (perm_kid n (.slice (some ⟨gN, 0, none⟩) L.length capN) vC L K1 (up1 c) K2 R)
      obtain ⟨l, HLl⟩ : ∃ l, Hid (L.length = l) := ⟨_, rfl⟩
      rw [HLl.out] at HSK n1 n0 hil hilt
      have HBD1 : Hid (Below B w w1.drew) := HBB1.out.drew
      have HREC : Hid _ := last_any (p := p) (q := q) h3 h64 h c w1.drew (most / 2) _ HSK (List.mem_append_right _ (List.mem_append_right _ (List.mem_append_right _ HT.out))) HBz.out HKc.out (by omega)
      have hila : (i : Int) < (l : Int) + 1 := by omega
      have hilc : (i : Int) < (l : Int) := by omega
      have hilb : l ≤ 64 := by rw [← HLl.out]; omega
      have HI1 : Hid (1 ≤ most / 2) := by unfold Hid; omega
      clear HSK HS1d HIH hLhi hLlo hL1 hv
      go_upto_region 5 with (go_at_call 45; refine Calls.mono HIL.out ?_; rintro e w6 ⟨rfl, hw6⟩; obtain rfl := hw6.symm)
      go_region_law (refine step_call rfl 49 (enters_of Try.func49 (by kernel_rfl) rfl) #[.tmp 52, .tmp 59] _ rfl _ (by go_simp; all_goals rfl) (fun v w' => ∃ x : It, v = .agg #[.string x.1, .int .u64 x.2] ∧ LastP most (most / 2) B h c x (ndp n (.slice (some ⟨gN, 0, none⟩) l capN) vC L ((K1 ++ up1 c :: K2).map (adr (h + 1))) ++ (K1.flatMap (pcs (h + 1)) ++ (K2.flatMap (pcs (h + 1)) ++ R))) w' ∧ Below B w1.drew w') (Calls.mono HREC.out (by rintro e w' ⟨x, rfl, h1, h2⟩; exact ⟨_, rfl, x, rfl, h1, h2⟩)) ?_; rintro v w4 ⟨x, rfl, hp4, hb4⟩; obtain ⟨c', hcn, hsc, hshc, hfc⟩ := hp4; have hmap : (K1 ++ up1 c :: K2).map (adr (h + 1)) = (K1 ++ up1 c' :: K2).map (adr (h + 1)) := (by rw [List.map_append, List.map_append, List.map_cons, List.map_cons, adr_up, adr_up, hcn]); rw [hmap] at hsc; have h1 := nd_in (hsc.perm (perm_kid n (.slice (some ⟨gN, 0, none⟩) l capN) vC L K1 (up1 c') K2 R).symm); have hr4 := row_at (h1.nd_ []).rI; have m0 := (h1.nd_ []).c.1; have HSN : Hid (Sep ((w4.setCell ⟨gN, i * 2, none⟩ (.string x.1)).setCell ⟨gN, i * 2 + 1, none⟩ (.int .u64 x.2)) B (pcs (h + 2) (up1 (⟨n, (.slice (some ⟨gN, 0, none⟩) l capN), vC, L.set i x, K1 ++ up1 c' :: K2⟩ : Nd (Tr (h + 1)))) ++ R)) := nd_out (Sep.ndSet [] h1 HLl.out i hilt x); have s0 := hr4.2.2.2 _ _ (gc_at encI_len L _ _ HV.out 0 _ rfl); have s1 := hr4.2.2.2 _ _ (gc_at encI_len L _ _ HV.out 1 _ rfl); rw [Nat.add_zero] at s0; have z0 := hr4.2.2.1 (i * 2); have z1 := hr4.2.2.1 (i * 2 + 1); have HBN : Hid (Below B w ((w4.setCell ⟨gN, i * 2, none⟩ (.string x.1)).setCell ⟨gN, i * 2 + 1, none⟩ (.int .u64 x.2))) := ((HBD1.out.trans hb4).setCell hr4.1 _).setCell hr4.1 _; have HSH' : Hid (Shp most (h + 1) (most / 2 - 1) most (up1 c')) := hshc; have HFC : Hid (flat (h + 1) (up1 c) = flat (h + 1) (up1 c') ++ [x]) := hfc; clear hsc hshc hfc hcn hmap h1 hr4 hb4)
      all_goals
        have hs4 := HSN.out
        have hshc := HSH'.out
        have hfc := HFC.out
        have HB4 := HBN
        clear HSN HSH' HFC HBN s0 s1 z0 z1 m0
        generalize ((w4.setCell ⟨gN, i * 2, none⟩ (.string x.1)).setCell ⟨gN, i * 2 + 1, none⟩ (.int .u64 x.2)) = w4 at *
        have hsetl : (L.set i x).length = L.length := List.length_set
        have HREF : Hid _ := refill_any (p := p) (q := q) (lo := lo) (a := i) h3 h64 hs4 HT.out (Nat.le_trans hB HB4.out.size) (by rw [hsetl]; exact HLL.out) (by rw [hsetl]; exact HL1.out) (by rw [hsetl]; exact HLlo.out) (by rw [hsetl]; exact HLhi.out) HKr.out hshc HK1.out
        have HFC : Hid (flat (h + 1) (up1 c) = flat (h + 1) (up1 c') ++ [x]) := hfc
        clear hs4 hshc hfc n1 n0 ca HIL HREC HS1 hsetl
        go_wp2_with (go_at_call 50; refine Calls.mono HREF.out ?_; rintro e w5 ⟨rfl, hp5, hb5⟩; have HP5 : Hid (RefP most lo B (h + 1) n (flat (h + 2) (up1 (⟨n, (.slice (some ⟨gN, 0, none⟩) l capN), vC, L.set i x, K1 ++ up1 c' :: K2⟩ : Nd (Tr (h + 1))))) R w5) := hp5; have HB5 : Hid (Below B w w5) := HB4.out.trans hb5; clear hp5 hb5)
        refine bodyPost_end (results_none rfl _ _ _) rfl ?_
        obtain ⟨t', htn, hst, hsht, _, hft⟩ := HP5.out
        refine ⟨rfl, ⟨t', htn, hst, hsht, ?_⟩, HB5.out⟩
        rw [hft]
        obtain ⟨h5, h6⟩ := List.getElem?_eq_some_iff.1 HV.out
        have hLe : L = L.take i ++ (k, v) :: L.drop (i + 1) := by rw [← h6, List.getElem_cons_drop, List.take_append_drop]
        have hLs : L.set i x = L.take i ++ x :: L.drop (i + 1) := by
          rw [List.set_eq_take_append_cons_drop]; simp [h5]
        have hti : (L.take i).length = K1.length := by rw [List.length_take, HK1.out]; omega
        have hK2 : ∃ d K2', K2 = d :: K2' := by
          cases K2 with
          | nil => have := HLL.out; have := HK1.out; simp at *; omega
          | cons d y => exact ⟨d, y, rfl⟩
        obtain ⟨d, K2', rfl⟩ := hK2
        have e1 := pair_flat (n := n) (vI := (.slice (some ⟨gN, 0, none⟩) L.length capN)) (vC := vC) (L1 := L.take i) (s := (k, v)) (L2 := L.drop (i + 1)) (K1 := K1) (c := up1 c) (d := d) (K2 := K2') hti
        have e2 := pair_flat (n := n) (vI := (.slice (some ⟨gN, 0, none⟩) l capN)) (vC := vC) (L1 := L.take i) (s := x) (L2 := L.drop (i + 1)) (K1 := K1) (c := up1 c') (d := d) (K2 := K2') hti
        rw [← hLe] at e1
        rw [← hLs] at e2
        show Del (flat (h + 2) (up1 (⟨n, (.slice (some ⟨gN, 0, none⟩) L.length capN), vC, L, K1 ++ up1 c :: d :: K2'⟩ : Nd (Tr (h + 1))))) k _
        rw [e1, e2, HFC.out]
        exact ⟨pre (L.take i) (K1.map (flat (h + 1))) ++ (flat (h + 1) (up1 c') ++ [x]), v, flat (h + 1) d ++ post (L.drop (i + 1)) (K2'.map (flat (h + 1))), by simp, by simp⟩
/-- remove in a tree of any depth. -/
theorem rem_any {B p q most : Nat} (h3 : 3 ≤ most) (h64 : most ≤ 64) (k : ByteArray) : ∀ (h : Nat) (t : Nd (Tr h)) (w : World) (lo : Nat) (R : List Pc), Sep w B (pcs (h + 1) (up1 t) ++ R) → treeO p q most ∈ R → B ≤ w.heap.size → Shp most (h + 1) lo most (up1 t) → (0 < h → 1 ≤ lo) → Rise (flat (h + 1) (up1 t)) → (∃ v, (k, v) ∈ flat (h + 1) (up1 t)) →
      Calls Try.prog 35 #[.pointer (some ⟨p, 0, none⟩), .pointer (some ⟨t.n, 0, none⟩), .string k] w fun e w' => e = .returned (.tuple #[]) ∧ RemP most lo B h t k R w' ∧ Below B w w'
  | 0, ⟨n, vI, vC, L, ks⟩, w, lo, R, hS, hT, hB, hsh, hlo, hr, hk => by
    have hks : ks = [] := ks_leaf ⟨n, vI, vC, L, ks⟩
    subst hks
    have hs := shp_up.1 hsh
    have h1 : lo ≤ L.length := hs.1
    have h2 : L.length ≤ most := hs.2.1
    have hf : flat 1 (up1 (⟨n, vI, vC, L, []⟩ : Nd (Tr 0))) = L := rfl
    rw [hf] at hr hk
    refine (remLeaf (nd_in hS) hT hB (by omega) k hr hk).mono ?_
    rintro e w' ⟨rfl, ⟨i, v, vI', hv, hS'⟩, hb⟩
    obtain ⟨h5, h6⟩ := List.getElem?_eq_some_iff.1 hv
    refine ⟨rfl, ⟨⟨n, vI', vC, L.take i ++ L.drop (i + 1), []⟩, rfl, nd_out hS', shp_up.2 ⟨?_, ?_, fun h => absurd h (by omega), fun d hd => by cases hd⟩, ?_⟩, hb⟩
    · show lo - 1 ≤ (L.take i ++ L.drop (i + 1)).length; rw [List.length_append, List.length_take, List.length_drop]; omega
    · show (L.take i ++ L.drop (i + 1)).length ≤ most; rw [List.length_append, List.length_take, List.length_drop]; omega
    · exact ⟨L.take i, v, L.drop (i + 1), by show L = _; rw [← h6, List.getElem_cons_drop, List.take_append_drop], rfl⟩
  | h + 1, ⟨n, vI, vC, L, ks⟩, w, lo, R, hS, hT, hB, hsh, hlo, hr, hk => remNode h3 h64 k (fun t w lo' R => rem_any h3 h64 k h t w lo' R) hS hT hB hsh (Nat.le_trans (hlo (by omega)) (shp_up.1 hsh).1) hr hk
end Go.Proofs.Ytelfjgnmbikofaa
