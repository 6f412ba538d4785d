/-
  locate: where a key stands in a tree. Conditions: keys rise; the tree has its shape.
-/
import Derived.Test.YtelfjgnmbikofaaBRem
namespace Go.Proofs.Ytelfjgnmbikofaa
open Go.RowKit
set_option linter.unusedVariables false
set_option maxRecDepth 100000

/-- The node at which the way to a key ends, and the place there. -/
def Loc (k : ByteArray) : (h : Nat) → Tr h → Nat → Value → List It → Nat → Prop
  | 0, _, _, _, _, _ => False
  | h + 1, t, n', vI', L', i => (n' = Nd.n (K := Tr h) t ∧ vI' = Nd.vI (K := Tr h) t ∧ L' = Nd.L (K := Tr h) t ∧ At (Nd.L (K := Tr h) t) k i ∧ (isAt (Nd.L (K := Tr h) t) k i = true ∨ h = 0)) ∨
      (∃ j c, (Nd.ks (K := Tr h) t)[j]? = some c ∧ At (Nd.L (K := Tr h) t) k j ∧ isAt (Nd.L (K := Tr h) t) k j = false ∧ Loc k h c n' vI' L' i)
theorem loc_up {k : ByteArray} {h : Nat} {t : Nd (Tr h)} {n' : Nat} {vI' : Value} {L' : List It} {i : Nat} : Loc k (h + 1) (up1 t) n' vI' L' i ↔ (n' = t.n ∧ vI' = t.vI ∧ L' = t.L ∧ At t.L k i ∧ (isAt t.L k i = true ∨ h = 0)) ∨ (∃ j c, t.ks[j]? = some c ∧ At t.L k j ∧ isAt t.L k j = false ∧ Loc k h c n' vI' L' i) := Iff.rfl
/-- Where the way ends without the key, it is nowhere. -/
theorem loc_no {k : ByteArray} {most : Nat} : ∀ {h lo hi : Nat} {t : Nd (Tr h)} {n' : Nat} {vI' : Value} {L' : List It} {i : Nat}, Loc k (h + 1) (up1 t) n' vI' L' i → Shp most (h + 1) lo hi (up1 t) → Rise (flat (h + 1) (up1 t)) → isAt L' k i = false → ∀ y ∈ flat (h + 1) (up1 t), cmpN y.1 k ≠ 0
  | h, lo, hi, ⟨n, vI, vC, L, ks⟩, n', vI', L', i, hl, hs, hr, hi', y, hy => by
    rcases loc_up.1 hl with ⟨_, _, hL, ha, hb⟩ | ⟨j, c, hj, ha, hb, hl'⟩
    · have hL' : L' = L := hL
      subst hL'
      rcases hb with hb | hb
      · have hb' : isAt L' k i = true := hb
        rw [hi'] at hb'; cases hb'
      · subst hb
        have hks : ks = [] := ks_leaf ⟨n, vI, vC, L', ks⟩
        subst hks
        have hy' : y ∈ L' := hy
        have hr' : Rise L' := hr
        have ha' : At L' k i := ha
        rw [← List.take_append_drop i L'] at hy'
        rcases List.mem_append.1 hy' with h1 | h1
        · have := ha'.split.1 y h1; omega
        · have := isAt_false hr' ha' hi' y h1; omega
    · have hb' : isAt L k j = false := hb
      have ha' : At L k j := ha
      have hj' : ks[j]? = some c := hj
      cases h with
      | zero => exact nomatch c
      | succ h =>
        have hkl : ks.length = L.length + 1 := (shp_up.1 hs).2.2.1 (by omega)
        obtain ⟨h5, h6⟩ := List.getElem?_eq_some_iff.1 hj'
        obtain ⟨K1, K2, rfl, hK1⟩ : ∃ K1 K2, ks = K1 ++ c :: K2 ∧ K1.length = j := ⟨ks.take j, ks.drop (j + 1), by rw [← h6, List.getElem_cons_drop, List.take_append_drop], by rw [List.length_take]; omega⟩
        have hll : L.length = K1.length + K2.length := by rw [List.length_append, List.length_cons] at hkl; omega
        have hsub : List.Sublist L (flat (h + 2) (up1 (⟨n, vI, vC, L, K1 ++ c :: K2⟩ : Nd (Tr (h + 1))))) := il_sub L _ (fun _ => by rw [List.length_map]; exact hkl)
        have ho := kid_order hll hr (by rw [hK1]; exact ha') (fun z hz => isAt_false (hr.sub hsub) ha' hb' z (by rw [← hK1]; exact hz))
        have hy2 : y ∈ pre (L.take K1.length) (K1.map (flat (h + 1))) ++ (flat (h + 1) c ++ post (L.drop K1.length) (K2.map (flat (h + 1)))) := by rw [← kid_flat (n := n) (vI := vI) (vC := vC) (c := c) (by omega)]; exact hy
        rcases List.mem_append.1 hy2 with h1 | h1
        · have := ho.1 y h1; omega
        · rcases List.mem_append.1 h1 with h2 | h2
          · exact loc_no (t := c) hl' ((shp_up.1 hs).2.2.2 c (by show c ∈ K1 ++ c :: K2; simp)) (kid_rise hll hr) hi' y h2
          · have := ho.2 y h2; omega
theorem il_item {α : Type} (L1 L2 : List α) (K : List (List α)) (h : K = [] ∨ K.length = L1.length + L2.length + 2) : ∃ A C, ∀ s, il (L1 ++ s :: L2) K = A ++ s :: C := by
  rcases h with rfl | h
  · exact ⟨L1, L2, fun s => rfl⟩
  · have h1 : K = K.take (L1.length + 1) ++ K.drop (L1.length + 1) := (List.take_append_drop _ _).symm
    refine ⟨il L1 (K.take (L1.length + 1)), il L2 (K.drop (L1.length + 1)), fun s => ?_⟩
    conv => lhs; rw [h1]
    exact il_cut L1 L2 s _ _ (by rw [List.length_take]; omega) (by rw [List.length_drop]; omega)
/-- One number of a row of items turned. -/
theorem Sep.ndVal {w : World} {B c g cap m : Nat} {wC : Value} {M : List It} {bs : List Nat} (X : List Pc) {Y : List Pc} (h : Sep w B (X ++ (ndp c (.slice (some ⟨g, 0, none⟩) m cap) wC M bs ++ Y))) (hm : M.length = m) {i : Nat} {k : ByteArray} {v : Int} (hi : M[i]? = some (k, v)) (x : Int) :
    Sep (w.setCell ⟨g, i * 2 + 1, none⟩ (.int .u64 x)) B (X ++ (ndp c (.slice (some ⟨g, 0, none⟩) m cap) wC (M.set i (k, x)) bs ++ Y)) := by
  subst hm
  have hil := (List.getElem?_eq_some_iff.1 hi).1
  have h1 : Sep w B ((X ++ [.obj c #[.slice (some ⟨g, 0, none⟩) M.length cap, wC] 73]) ++ .row 69 2 (.slice (some ⟨g, 0, none⟩) M.length cap) M.length (gc encI M) :: (.row 65 1 wC bs.length (gc encP bs) :: Y)) := by simpa [ndp] using h
  have h2 := h1.storeRow _ (i * 2 + 1) (.int .u64 x)
  have h3 : (gc encI M).set (i * 2 + 1) (.int .u64 x) = gc encI (M.set i (k, x)) := by
    rw [gc_set2 encI_len M i (k, x) _ _ hil rfl]
    have h4 := gc_at encI_len M i _ hi 0 _ rfl
    rw [Nat.add_zero] at h4
    obtain ⟨h5, h6⟩ := List.getElem?_eq_some_iff.1 h4
    rw [show (gc encI M).set (i * 2) (.string k) = gc encI M by rw [← h6]; exact List.set_getElem_self h5]
  rw [h3] at h2
  simpa [ndp] using h2
/-- .. and where it is there: the node's item, and the tree with its number turned. -/
theorem loc_yes {k : ByteArray} {most : Nat} : ∀ {h lo hi : Nat} {t : Nd (Tr h)} {n' : Nat} {vI' : Value} {L' : List It} {i : Nat}, Loc k (h + 1) (up1 t) n' vI' L' i → Shp most (h + 1) lo hi (up1 t) → isAt L' k i = true →
    ∃ v A C, L'[i]? = some (k, v) ∧ flat (h + 1) (up1 t) = A ++ (k, v) :: C ∧ ∀ x : Int, ∃ t2 : Nd (Tr h), t2.n = t.n ∧ Shp most (h + 1) lo hi (up1 t2) ∧ flat (h + 1) (up1 t2) = A ++ (k, x) :: C ∧
      ∀ (B : Nat) (w : World) (R : List Pc), Sep w B (pcs (h + 1) (up1 t) ++ R) → ∃ g cap, w.cell? ⟨n', 0, none⟩ = some (.slice (some ⟨g, 0, none⟩) L'.length cap) ∧ w.cell? ⟨g, i * 2 + 1, none⟩ = some (.int .u64 v) ∧ w.frozen? ⟨g, i * 2 + 1, none⟩ = false ∧ B ≤ g ∧ Sep (w.setCell ⟨g, i * 2 + 1, none⟩ (.int .u64 x)) B (pcs (h + 1) (up1 t2) ++ R)
  | h, lo, hi, ⟨n, vI, vC, L, ks⟩, n', vI', L', i, hl, hs, hi' => by
    have hks : ks = [] ∨ ks.length = L.length + 1 := by
      cases h with
      | zero => exact .inl (ks_leaf ⟨n, vI, vC, L, ks⟩)
      | succ h => exact .inr ((shp_up.1 hs).2.2.1 (by omega))
    rcases loc_up.1 hl with ⟨hn, hvv, hL, ha, hb⟩ | ⟨j, c, hj, ha, hb, hl'⟩
    · have hL' : L' = L := hL
      have hn' : n' = n := hn
      have hv' : vI' = vI := hvv
      subst hL' hn' hv'
      clear hvv
      obtain ⟨v, hv⟩ := isAt_true hi'
      obtain ⟨h5, h6⟩ := List.getElem?_eq_some_iff.1 hv
      have hLe : L' = L'.take i ++ (k, v) :: L'.drop (i + 1) := by rw [← h6, List.getElem_cons_drop, List.take_append_drop]
      have hLs : ∀ x, L'.set i (k, x) = L'.take i ++ (k, x) :: L'.drop (i + 1) := fun x => by rw [List.set_eq_take_append_cons_drop]; simp [h5]
      obtain ⟨A, C, hAC⟩ := il_item (L'.take i) (L'.drop (i + 1)) (ks.map (flat h)) (by
        rcases hks with h1 | h1
        · left; rw [h1]; rfl
        · right; rw [List.length_map, List.length_take, List.length_drop]; omega)
      have hf : flat (h + 1) (up1 (⟨n', vI', vC, L', ks⟩ : Nd (Tr h))) = A ++ (k, v) :: C := by
        rw [flat_up]
        show il L' (ks.map (flat h)) = _
        conv => lhs; rw [hLe]
        exact hAC _
      refine ⟨v, A, C, hv, hf, fun x => ⟨⟨n', vI', vC, L'.set i (k, x), ks⟩, rfl, ?_, ?_, fun B w R hS => ?_⟩⟩
      · have h1 := shp_up.1 hs
        have hsl : (L'.set i (k, x)).length = L'.length := List.length_set
        exact shp_up.2 ⟨by show lo ≤ (L'.set i (k, x)).length; rw [hsl]; exact h1.1, by show (L'.set i (k, x)).length ≤ hi; rw [hsl]; exact h1.2.1, fun hh => by show ks.length = (L'.set i (k, x)).length + 1; rw [hsl]; exact h1.2.2.1 hh, h1.2.2.2⟩
      · rw [flat_up]
        show il (L'.set i (k, x)) (ks.map (flat h)) = _
        rw [hLs]
        exact hAC _
      · have hS' : Sep w B (ndp n' vI' vC L' (ks.map (adr h)) ++ (ks.flatMap (pcs h) ++ R)) := nd_in hS
        have hN := hS'.nd_ []
        obtain ⟨g, cap, hvI, _, _, hBg, _, hfz, hcc⟩ := row_some hN.rI (by omega)
        subst hvI
        refine ⟨g, cap, hN.c.1, hcc _ _ (gc_at encI_len L' i _ hv 1 _ rfl), hfz _, hBg, ?_⟩
        exact nd_out (t := ⟨n', .slice (some ⟨g, 0, none⟩) L'.length cap, vC, L'.set i (k, x), ks⟩) (Sep.ndVal [] hS' rfl hv x)
    · have hj' : ks[j]? = some c := hj
      cases h with
      | zero => exact nomatch c
      | succ h =>
        have hkl : ks.length = L.length + 1 := (shp_up.1 hs).2.2.1 (by omega)
        obtain ⟨h5, h6⟩ := List.getElem?_eq_some_iff.1 hj'
        obtain ⟨K1, K2, rfl, hK1⟩ : ∃ K1 K2, ks = K1 ++ c :: K2 ∧ K1.length = j := ⟨ks.take j, ks.drop (j + 1), by rw [← h6, List.getElem_cons_drop, List.take_append_drop], by rw [List.length_take]; omega⟩
        have hll : L.length = K1.length + K2.length := by rw [List.length_append, List.length_cons] at hkl; omega
        have hcs : Shp most (h + 1) (most / 2) most c := (shp_up.1 hs).2.2.2 c (by show c ∈ K1 ++ c :: K2; simp)
        obtain ⟨v, A, C, hv, hf, hx⟩ := loc_yes (t := c) hl' hcs hi'
        have e1 : ∀ (d : Tr (h + 1)), flat (h + 2) (up1 (⟨n, vI, vC, L, K1 ++ d :: K2⟩ : Nd (Tr (h + 1)))) = pre (L.take K1.length) (K1.map (flat (h + 1))) ++ (flat (h + 1) d ++ post (L.drop K1.length) (K2.map (flat (h + 1)))) := fun d => kid_flat (by omega)
        refine ⟨v, pre (L.take K1.length) (K1.map (flat (h + 1))) ++ A, C ++ post (L.drop K1.length) (K2.map (flat (h + 1))), hv, ?_, fun x => ?_⟩
        · rw [e1, show flat (h + 1) c = A ++ (k, v) :: C from hf]; simp
        · obtain ⟨c2, hn2, hs2, hf2, hS2⟩ := hx x
          refine ⟨⟨n, vI, vC, L, K1 ++ up1 c2 :: K2⟩, rfl, ?_, ?_, fun B w R hS => ?_⟩
          · have h1 := shp_up.1 hs
            refine shp_up.2 ⟨h1.1, h1.2.1, fun hh => ?_, fun d hd => ?_⟩
            · show (K1 ++ up1 c2 :: K2).length = L.length + 1
              rw [List.length_append, List.length_cons]; omega
            · have hd' : d ∈ K1 ++ up1 c2 :: K2 := hd
              rcases List.mem_append.1 hd' with h3 | h3
              · exact h1.2.2.2 d (by show d ∈ K1 ++ c :: K2; exact List.mem_append_left _ h3)
              · rcases List.mem_cons.1 h3 with rfl | h3
                · exact hs2
                · exact h1.2.2.2 d (by show d ∈ K1 ++ c :: K2; exact List.mem_append_right _ (List.mem_cons_of_mem _ h3))
          · rw [e1, hf2]; simp
          · obtain ⟨g, cap, q1, q2, q3, q4, q5⟩ := hS2 B w _ (hS.perm (perm_kid n vI vC L K1 c K2 R))
            refine ⟨g, cap, q1, q2, q3, q4, ?_⟩
            have hmap : (K1 ++ c :: K2).map (adr (h + 1)) = (K1 ++ up1 c2 :: K2).map (adr (h + 1)) := by rw [List.map_append, List.map_append, List.map_cons, List.map_cons, adr_up, hn2]; rfl
            rw [hmap] at q5
            exact q5.perm (perm_kid n vI vC L K1 (up1 c2) K2 R).symm
set_option maxHeartbeats 4000000 in
theorem locate_any {w : World} {B h p q most lo c : Nat} {t : Nd (Tr h)} {R : List Pc} (hS : Sep w B (pcs (h + 1) (up1 t) ++ R)) (hT : treeO p q most ∈ R) (hK : keptO q t.n c ∈ R) (hm : most ≤ 64) (hs : Shp most (h + 1) lo most (up1 t)) (hr : Rise (flat (h + 1) (up1 t))) (k : ByteArray) :
    Calls Try.prog 31 #[.pointer (some ⟨p, 0, none⟩), .string k] w fun e w' => ∃ n' vI' L' i, Loc k (h + 1) (up1 t) n' vI' L' i ∧ e = .returned (.tuple #[.pointer (some ⟨n', 0, none⟩), .int .i64 ((i : Nat) : Int), .bool (isAt L' k i)]) ∧ Below w.heap.size w w' := by
  obtain ⟨t0, t1, t2, t3⟩ := hS.tr (p := p) (q := q) (most := most) (List.mem_append_right _ hT)
  have hk0 : w.cell? ⟨q, 0, none⟩ = some (.pointer (some ⟨t.n, 0, none⟩)) := cellO (hS.obj (List.mem_append_right _ hK)) 0 rfl
  have HS : Hid (Sep w B (pcs (h + 1) (up1 t) ++ R)) := hS
  have HT : Hid (treeO p q most ∈ R) := hT
  have HSH : Hid (Shp most (h + 1) lo most (up1 t)) := hs
  have HR : Hid (Rise (flat (h + 1) (up1 t))) := hr
  clear hS hT hK hs hr
  go_enter Try.func31, Try.ntmps31
  go_wp2_with fail
  go_loopg [7] h (fun gk x wr => ∃ (s : Nd (Tr gk)) (lo' : Nat) (R' : List Pc), x = .pointer (some ⟨s.n, 0, none⟩) ∧ Hid (Sep w B (pcs (gk + 1) (up1 s) ++ R')) ∧ Hid (treeO p q most ∈ R') ∧ Hid (Shp most (gk + 1) lo' most (up1 s)) ∧ Hid (Rise (flat (gk + 1) (up1 s))) ∧ Hid (∀ n' vI' L' i, Loc k (gk + 1) (up1 s) n' vI' L' i → Loc k (h + 1) (up1 t) n' vI' L' i) ∧ Hid (Below w.heap.size w wr))
  case atStart => exact ⟨t, lo, R, rfl, HS.out, HT.out, HSH.out, HR.out, fun _ _ _ _ hl => hl, Below.refl _ _⟩
  case round =>
    obtain ⟨s, lo', R', rfl, HS', HT', HSH', HR', HLO, HB'⟩ := hrel
    obtain ⟨n, vI, vC, L, ks⟩ := s
    clear t0 t1 t2 t3 hk0
    have hSr := HS'.out.below HB'.out
    obtain ⟨t0, t1, t2, t3⟩ := hSr.tr (p := p) (q := q) (most := most) (List.mem_append_right _ HT'.out)
    have hN := (nd_in hSr).nd_ []
    have n0 : wr.cell? ⟨n, 0, none⟩ = some vI := hN.c.1
    have n1 : wr.cell? ⟨n, 1, none⟩ = some vC := hN.c.2.1
    have HI : Hid (Its wr.drew vI L) := (Its.of_nd hN).drew
    have HBD : Hid (Below wr.heap.size wr wr.drew) := (Below.refl _ _).drew
    have hs' := shp_up.1 HSH'.out
    have hLm : L.length ≤ most := hs'.2.1
    have hsubL : List.Sublist L (flat (gk + 1) (up1 (⟨n, vI, vC, L, ks⟩ : Nd (Tr gk)))) := il_sub L _ (shp_kin (t := ⟨n, vI, vC, L, ks⟩) HSH'.out)
    have HRL : Hid (Rise L) := HR'.out.sub hsubL
    have HL : Hid (Low L k) := HRL.out.low k
    go_wp2_with fail
    cases gk with
    | zero =>
      have hks : ks = [] := ks_leaf ⟨n, vI, vC, L, ks⟩
      subst hks
      obtain ⟨ao, capL, hvC⟩ := row_zero hN.rC
      have hvC' : vC = .slice ao 0 capL := hvC
      subst hvC'
      clear hN hSr hs' hsubL hvC
      go_region_law (refine step_find rfl (.tmp 21) (.tmp 22) (.tmp 26) rfl L vI k rfl rfl rfl HI.out (by omega) HL.out ?_; intro i w1 hi hb1; have HA : Hid (At L k i) := hi; have HB1 : Hid (Below w.heap.size w w1) := HB'.out.trans ((HBD.out.trans hb1).mono HB'.out.size); have HBr : Hid (Below wr.heap.size wr w1) := HBD.out.trans hb1; have n1' : w1.cell? ⟨n, 1, none⟩ = some (.slice ao 0 capL) := (HBr.out.cell (World.block_lt_of_cell? wr _ n1)).trans n1; obtain ⟨bo, HBO⟩ : ∃ bo, Hid (isAt L k i = bo) := ⟨_, rfl⟩; rw [HBO.out]; clear hi hb1)
      all_goals
        have HLC : Hid (Loc k (h + 1) (up1 t) n vI L i) := HLO.out _ _ _ _ (loc_up.2 (.inl ⟨rfl, rfl, rfl, HA.out, .inr rfl⟩))
        cases bo
        · go_wp2_with (go_at_call 45; refine (isLeaf_z (n := n) (w := _) (ao := ao) (cap := capL) n1').mono ?_; rintro e w2 ⟨rfl, hw2⟩; obtain rfl := hw2.symm)
          go_ret3
          exact ⟨n, vI, L, i, HLC.out, by rw [HBO.out]; rfl, HB1.out⟩
        · go_wp2_with fail
          go_ret3
          exact ⟨n, vI, L, i, HLC.out, by rw [HBO.out]; rfl, HB1.out⟩
    | succ g =>
      have hkl : ks.length = L.length + 1 := hs'.2.2.1 (by omega)
      obtain ⟨_, gC, capC, hvC, m1, hCc⟩ := node_cells (vI := vI) (vC := vC) hSr hkl
      subst hvC
      have HCC : Hid (∀ i k, ks[i]? = some k → wr.cell? ⟨gC, i, none⟩ = some (.pointer (some ⟨adr (g + 1) k, 0, none⟩))) := hCc
      obtain ⟨l, HLl⟩ : ∃ l, Hid (L.length = l) := ⟨_, rfl⟩
      rw [HLl.out] at n1 m1 hLm
      clear hN hSr hs' hsubL hCc m1
      go_region_law (refine step_find rfl (.tmp 21) (.tmp 22) (.tmp 26) rfl L vI k rfl rfl rfl HI.out (by rw [HLl.out]; omega) HL.out ?_; intro i w1 hi hb1; have HA : Hid (At L k i) := hi; have HB1 : Hid (Below w.heap.size w w1) := HB'.out.trans ((HBD.out.trans hb1).mono HB'.out.size); have HBr : Hid (Below wr.heap.size wr w1) := HBD.out.trans hb1; have n1' : w1.cell? ⟨n, 1, none⟩ = some (.slice (some ⟨gC, 0, none⟩) (l + 1) capC) := (HBr.out.cell (World.block_lt_of_cell? wr _ n1)).trans n1; obtain ⟨bo, HBO⟩ : ∃ bo, Hid (isAt L k i = bo) := ⟨_, rfl⟩; rw [HBO.out]; clear hi hb1)
      all_goals
        cases bo
        · obtain ⟨c, hc⟩ : ∃ c, ks[i]? = some c := ⟨ks[i]'(by have := HA.out.1; omega), List.getElem?_eq_getElem _⟩
          have ca0 := HCC.out i c hc
          have ca : w1.cell? ⟨gC, i, none⟩ = some (.pointer (some ⟨adr (g + 1) c, 0, none⟩)) := (HBr.out.cell (World.block_lt_of_cell? wr _ ca0)).trans ca0
          have hil : (i : Int) < (l : Int) + 1 := by have := HA.out.1; rw [HLl.out] at this; omega
          have hil2 : i < l + 1 := by have := HA.out.1; rw [HLl.out] at this; omega
          have HC : Hid (ks[i]? = some c) := hc
          clear ca0 hc
          go_wp2_with (go_at_call 45; refine (isLeaf_no (n := n) (w := _) (ad := ⟨gC, 0, none⟩) (k := l + 1) (cap := capC) n1' (by omega)).mono ?_; rintro e w2 ⟨rfl, hw2⟩; obtain rfl := hw2.symm)
          go_roundg g
          case measure => omega
          case rel =>
            have hil3 : i < ks.length := by rw [hkl, HLl.out]; exact hil2
            obtain ⟨h5, h6⟩ := List.getElem?_eq_some_iff.1 HC.out
            obtain ⟨K1, K2, hkse, hK1⟩ : ∃ K1 K2, ks = K1 ++ c :: K2 ∧ K1.length = i := ⟨ks.take i, ks.drop (i + 1), by rw [← h6, List.getElem_cons_drop, List.take_append_drop], by rw [List.length_take]; omega⟩
            subst hkse
            have hll : L.length = K1.length + K2.length := by rw [List.length_append, List.length_cons] at hkl; omega
            refine ⟨c, most / 2, _, rfl, HS'.out.perm (perm_kid n vI _ L K1 c K2 R'), List.mem_append_right _ (List.mem_append_right _ (List.mem_append_right _ HT'.out)), (shp_up.1 HSH'.out).2.2.2 c (by show c ∈ K1 ++ c :: K2; simp), kid_rise hll HR'.out, fun n' vI' L' i' hl => HLO.out _ _ _ _ (loc_up.2 (.inr ⟨i, c, HC.out, HA.out, HBO.out, hl⟩)), HB1.out⟩
        · have HLC : Hid (Loc k (h + 1) (up1 t) n vI L i) := HLO.out _ _ _ _ (loc_up.2 (.inl ⟨rfl, rfl, rfl, HA.out, .inl HBO.out⟩))
          go_wp2_with fail
          go_ret3
          exact ⟨n, vI, L, i, HLC.out, by rw [HBO.out]; rfl, HB1.out⟩
end Go.Proofs.Ytelfjgnmbikofaa
