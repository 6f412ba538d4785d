/-
  Put, Get, Drop and Len of a tree of names. Conditions: a name is no longer than memory bears; there is room for one more.
-/
import Derived.Test.YtelfjgnmbikofaaBGrow
namespace Go.Proofs.Ytelfjgnmbikofaa
open Go.RowKit
set_option linter.unusedVariables false
set_option maxRecDepth 100000

/-- ownName by the tree's own, as a step. -/
theorem step_ownN2 {ops : Array Oper} {o : Oper} {a : Act} {w : World} {K : Act → World → Prop} {Q : Exit → Act → World → Prop} {E : Prop}
    (hg : o.guard = none) (f x : Operand) (hop : o.op = Op.call { callee := Callee.value f, args := #[x], argTypes := #[9] })
    (s : ByteArray) (hf : a.eval f = .func (.func 29) #[] #[]) (hx : a.eval x = .string s) (hs : s.size ≤ 281474976710656)
    (hK : ∀ w', Below w.heap.size w w' → K (a.put o.dst (.string s)) w') :
    if Region.wanted o (yielded ops a.tmps) = true then Oper.wp Try.prog o a w K Q else E := by
  have hw : Region.wanted o (yielded ops a.tmps) = true := by simp [Region.wanted, hg]
  rw [if_pos hw]
  unfold Oper.wp
  simp [execOp, hop, resolve, invoke, hx, hf, Result.andThen, Oper.upon]
  refine (ownName_any s w hs).mono ?_
  rintro e w' ⟨rfl, h2⟩
  exact hK w' h2
/-- A tree that has the items F, in order. -/
def BT (w : World) (B p q most : Nat) (F : List It) (R : List Pc) : Prop := GrowP most B p q F.length F R w ∧ Rise F
theorem GrowP.below {most B p q c : Nat} {F : List It} {R : List Pc} {w w' : World} (h : GrowP most B p q c F R w) (hb : Below w.heap.size w w') : GrowP most B p q c F R w' := by
  obtain ⟨h, t, lo, h1, h2⟩ := h
  exact ⟨h, t, lo, h1.below hb, h2⟩
theorem BT.below {w w' : World} {B p q most : Nat} {F : List It} {R : List Pc} (h : BT w B p q most F R) (hb : Below w.heap.size w w') : BT w' B p q most F R := ⟨h.1.below hb, h.2⟩
theorem Ins.rise {F F' : List It} {k : ByteArray} {x : Int} (h : Ins F k x F') (hr : Rise F) : Rise F' := by
  obtain ⟨A, C, rfl, h1, h2, rfl⟩ := h
  have hr' := List.pairwise_append.1 hr
  refine List.pairwise_append.2 ⟨hr'.1, List.pairwise_cons.2 ⟨fun y hy => cmpN_pos.1 (h2 y hy), hr'.2.1⟩, fun a ha b hb => ?_⟩
  rcases List.mem_cons.1 hb with rfl | hb
  · exact h1 a ha
  · exact hr'.2.2 a ha b hb
theorem rise_set {A C : List It} {k : ByteArray} {v x : Int} (hr : Rise (A ++ (k, v) :: C)) : Rise (A ++ (k, x) :: C) := by
  have hr' := List.pairwise_append.1 hr
  have h2 := List.pairwise_cons.1 hr'.2.1
  refine List.pairwise_append.2 ⟨hr'.1, List.pairwise_cons.2 ⟨h2.1, h2.2⟩, fun a ha b hb => ?_⟩
  rcases List.mem_cons.1 hb with rfl | hb
  · exact hr'.2.2 a ha (k, v) (by simp)
  · exact hr'.2.2 a ha b (List.mem_cons_of_mem _ hb)
theorem Del.rise {F F' : List It} {k : ByteArray} (h : Del F k F') (hr : Rise F) : Rise F' := by
  obtain ⟨A, v, C, rfl, rfl⟩ := h
  exact hr.sub (List.Sublist.append (List.Sublist.refl _) (List.sublist_cons_self _ _))
/-- What Put makes of the items. -/
def PutF (F : List It) (k : ByteArray) (x : Int) (b : Bool) (F' : List It) : Prop := (b = false ∧ ∃ A v C, F = A ++ (k, v) :: C ∧ F' = A ++ (k, x) :: C) ∨ (b = true ∧ (∀ y ∈ F, cmpN y.1 k ≠ 0) ∧ Ins F k x F')
theorem PutF.rise {F F' : List It} {k : ByteArray} {x : Int} {b : Bool} (h : PutF F k x b F') (hr : Rise F) : Rise F' := by
  rcases h with ⟨_, A, v, C, rfl, rfl⟩ | ⟨_, _, h⟩
  · exact rise_set hr
  · exact h.rise hr
theorem kept_c {w : World} {B q n c : Nat} {ps : List Pc} (h : Sep w B ps) (hm : keptO q n c ∈ ps) : w.cell? ⟨q, 0, none⟩ = some (.pointer (some ⟨n, 0, none⟩)) ∧ w.cell? ⟨q, 1, none⟩ = some (.int .i64 (c : Int)) ∧ w.frozen? ⟨q, 0, none⟩ = false ∧ w.frozen? ⟨q, 1, none⟩ = false ∧ B ≤ q :=
  ⟨cellO (h.obj hm) 0 rfl, cellO (h.obj hm) 1 rfl, frozenO (h.obj hm) 0, frozenO (h.obj hm) 1, (h.at_ _ hm).2⟩
/-- The count turned. -/
theorem GrowP.count {most B p q c : Nat} {F : List It} {R : List Pc} {w : World} (h : GrowP most B p q c F R w) (d : Nat) : GrowP most B p q d F R (w.setCell ⟨q, 1, none⟩ (.int .i64 (d : Int))) := by
  obtain ⟨h, t, lo, h1, h2⟩ := h
  refine ⟨h, t, lo, ?_, h2⟩
  have h3 : Sep w B ((pcs (h + 1) (up1 t) ++ [treeO p q most]) ++ keptO q t.n c :: R) := by simp only [List.append_assoc, List.singleton_append]; exact h1
  have h4 := Sep.store _ h3 1 (.int .i64 (d : Int))
  simp only [List.append_assoc, List.singleton_append] at h4
  exact h4
theorem GrowP.cells {most B p q c : Nat} {F : List It} {R : List Pc} {w : World} (h : GrowP most B p q c F R w) : w.cell? ⟨p, 3, none⟩ = some (.pointer (some ⟨q, 0, none⟩)) ∧ w.cell? ⟨q, 1, none⟩ = some (.int .i64 (c : Int)) ∧ w.frozen? ⟨q, 1, none⟩ = false ∧ B ≤ q := by
  obtain ⟨h, t, lo, h1, _⟩ := h
  have hk := kept_c h1 (q := q) (n := t.n) (c := c) (by simp)
  exact ⟨(h1.tr (p := p) (q := q) (most := most) (by simp)).2.2.2, hk.2.1, hk.2.2.2.1, hk.2.2.2.2⟩
theorem len_any {w : World} {B p q most : Nat} {F : List It} {R : List Pc} (h : BT w B p q most F R) : Calls Try.prog 16 #[.pointer (some ⟨p, 0, none⟩)] w fun e w' => e = .returned (.int .i64 (F.length : Int)) ∧ w' = w := by
  obtain ⟨t3, k1, _, _⟩ := h.1.cells
  obtain ⟨c, HC⟩ : ∃ c, Hid (F.length = c) := ⟨_, rfl⟩
  rw [HC.out] at k1 ⊢
  go_enter Try.func16, Try.ntmps16
  go_wp2_with (go_at_call 30; refine (tNone_any p q _ t3).mono ?_; rintro e w1 ⟨rfl, hw1⟩; obtain rfl := hw1.symm)
  go_ret
  exact ⟨rfl, rfl⟩
set_option maxHeartbeats 4000000 in
theorem get_any {w : World} {B p q most : Nat} {F : List It} {R : List Pc} (h64 : most ≤ 64) (h : BT w B p q most F R) (k : ByteArray) :
    Calls Try.prog 12 #[.pointer (some ⟨p, 0, none⟩), .string k] w fun e w' => ((∃ v, (k, v) ∈ F ∧ e = .returned (.tuple #[.int .u64 v, .bool true])) ∨ ((∀ y ∈ F, cmpN y.1 k ≠ 0) ∧ e = .returned (.tuple #[.int .u64 0, .bool false]))) ∧ Below w.heap.size w w' := by
  obtain ⟨⟨h, t, lo, hS, hs, hlo, hF⟩, hR⟩ := h
  have t3 := (hS.tr (p := p) (q := q) (most := most) (by simp)).2.2.2
  subst hF
  have HLO : Hid _ := locate_any (p := p) (q := q) (c := (flat (h + 1) (up1 t)).length) hS (by simp) (by simp) h64 hs hR k
  have HS : Hid (Sep w B (pcs (h + 1) (up1 t) ++ (treeO p q most :: keptO q t.n (flat (h + 1) (up1 t)).length :: R))) := hS
  have HSH : Hid (Shp most (h + 1) lo most (up1 t)) := hs
  have HR : Hid (Rise (flat (h + 1) (up1 t))) := hR
  clear hS hs hR
  go_enter Try.func12, Try.ntmps12
  go_upto_region 4 with (first
    | (go_at_call 30; refine (tNone_any p q _ t3).mono ?_; rintro e w1 ⟨rfl, hw1⟩; obtain rfl := hw1.symm)
    | (go_at_call 31; refine Calls.mono HLO.out ?_; rintro e w1 ⟨n', vI', L', i, hloc, rfl, hb1⟩; have HLC : Hid (Loc k (h + 1) (up1 t) n' vI' L' i) := hloc; have HB1 : Hid (Below w.heap.size w w1) := hb1; obtain ⟨bo, HBO⟩ : ∃ bo, Hid (isAt L' k i = bo) := ⟨_, rfl⟩; rw [HBO.out]; clear hloc hb1))
  cases bo
  · have HNO : Hid (∀ y ∈ flat (h + 1) (up1 t), cmpN y.1 k ≠ 0) := loc_no HLC.out HSH.out HR.out HBO.out
    go_wp2_with fail
    go_ret2
    exact ⟨.inr ⟨HNO.out, rfl⟩, HB1.out⟩
  · obtain ⟨v, A, C, hv, hf, hx⟩ := loc_yes HLC.out HSH.out HBO.out
    obtain ⟨t2, _, _, _, hS2⟩ := hx 0
    obtain ⟨g, cap, c0, c1, _⟩ := hS2 B w1 _ (HS.out.below HB1.out)
    have HV : Hid ((k, v) ∈ flat (h + 1) (up1 t)) := by unfold Hid; rw [hf]; simp
    have hil := (List.getElem?_eq_some_iff.1 hv).1
    obtain ⟨l, HLl⟩ : ∃ l, Hid (L'.length = l) := ⟨_, rfl⟩
    rw [HLl.out] at c0 hil
    have hili : (i : Int) < (l : Int) := by omega
    clear hv hf hx hS2
    go_wp2_with fail
    go_ret2
    exact ⟨.inl ⟨v, HV.out, rfl⟩, HB1.out⟩
set_option maxHeartbeats 4000000 in
theorem drop_any {w : World} {B p q most : Nat} {F : List It} {R : List Pc} (h3 : 3 ≤ most) (h64 : most ≤ 64) (h : BT w B p q most F R) (hB : B ≤ w.heap.size) (hn : F.length ≤ 1000000) (k : ByteArray) :
    Calls Try.prog 14 #[.pointer (some ⟨p, 0, none⟩), .string k] w fun e w' => ((e = .returned (.bool true) ∧ ∃ F', Del F k F' ∧ BT w' B p q most F' R) ∨ ((∀ y ∈ F, cmpN y.1 k ≠ 0) ∧ e = .returned (.bool false) ∧ BT w' B p q most F R)) ∧ Below B w w' := by
  have HBT : Hid (BT w B p q most F R) := h
  obtain ⟨⟨h, t, lo, hS, hs, hlo, hF⟩, hR⟩ := h
  have t3 := (hS.tr (p := p) (q := q) (most := most) (by simp)).2.2.2
  subst hF
  have HLO : Hid _ := locate_any (p := p) (q := q) (c := (flat (h + 1) (up1 t)).length) hS (by simp) (by simp) h64 hs hR k
  have HS : Hid (Sep w B (pcs (h + 1) (up1 t) ++ (treeO p q most :: keptO q t.n (flat (h + 1) (up1 t)).length :: R))) := hS
  have HSH : Hid (Shp most (h + 1) lo most (up1 t)) := hs
  have HR : Hid (Rise (flat (h + 1) (up1 t))) := hR
  have HLo : Hid (0 < h → 1 ≤ lo) := hlo
  clear hS hs hR hlo
  go_enter Try.func14, Try.ntmps14
  go_upto_region 4 with (first
    | (go_at_call 30; refine (tNone_any p q _ t3).mono ?_; rintro e w1 ⟨rfl, hw1⟩; obtain rfl := hw1.symm)
    | (go_at_call 31; refine Calls.mono HLO.out ?_; rintro e w1 ⟨n', vI', L', i, hloc, rfl, hb1⟩; have HLC : Hid (Loc k (h + 1) (up1 t) n' vI' L' i) := hloc; have HB1 : Hid (Below w.heap.size w w1) := hb1; obtain ⟨bo, HBO⟩ : ∃ bo, Hid (isAt L' k i = bo) := ⟨_, rfl⟩; rw [HBO.out]; clear hloc hb1))
  cases bo
  · have HNO : Hid (∀ y ∈ flat (h + 1) (up1 t), cmpN y.1 k ≠ 0) := loc_no HLC.out HSH.out HR.out HBO.out
    go_wp2_with fail
    go_ret
    exact ⟨.inr ⟨HNO.out, rfl, HBT.out.below HB1.out⟩, HB1.out.mono hB⟩
  · obtain ⟨v, A, C, hv, hf, _⟩ := loc_yes HLC.out HSH.out HBO.out
    have hS1 := HS.out.below HB1.out
    have hk1 := kept_c hS1 (q := q) (n := t.n) (c := (flat (h + 1) (up1 t)).length) (by simp)
    have k0 := hk1.1
    have t3' := (hS1.tr (p := p) (q := q) (most := most) (by simp)).2.2.2
    have HREM : Hid _ := rem_any (p := p) (q := q) h3 h64 k h t w1 lo _ hS1 (by simp) (Nat.le_trans hB HB1.out.size) HSH.out HLo.out HR.out ⟨v, by rw [hf]; simp⟩
    have HBB1 : Hid (Below B w w1) := HB1.out.mono hB
    have HFL : Hid (1 ≤ (flat (h + 1) (up1 t)).length) := by unfold Hid; rw [hf, List.length_append, List.length_cons]; omega
    clear hS1 hk1 hv hf
    obtain ⟨F, HF⟩ : ∃ F, Hid (flat (h + 1) (up1 t) = F) := ⟨_, rfl⟩
    rw [HF.out] at HREM HFL hn HR
    obtain ⟨c, HC⟩ : ∃ c, Hid (F.length = c + 1) := ⟨F.length - 1, by unfold Hid; have := HFL.out; omega⟩
    rw [HC.out] at HREM hn
    go_upto_region 7 with (go_at_call 35; refine Calls.mono HREM.out ?_; rintro e w2 ⟨rfl, hp2, hb2⟩; have HP2 : Hid (RemP most lo B h t k (treeO p q most :: keptO q t.n (c + 1) :: R) w2) := hp2; have HB2 : Hid (Below B w w2) := HBB1.out.trans hb2; clear hp2 hb2)
    obtain ⟨t', htn, hst, hsht, hdt⟩ := HP2.out
    rw [← htn] at hst
    rw [HF.out] at hdt
    have HSK : Hid _ := shrinkRoot_any (c := c + 1) h3 h64 hst (Nat.le_trans hB HB2.out.size) hsht
    obtain ⟨F', HF'⟩ : ∃ F', Hid (flat (h + 1) (up1 t') = F') := ⟨_, rfl⟩
    rw [HF'.out] at HSK hdt
    have HD : Hid (Del F k F') := hdt
    have HFL' : Hid (F'.length = c) := by
      obtain ⟨A, v, C, h1, h2⟩ := hdt
      have := HC.out
      unfold Hid
      rw [h1, List.length_append, List.length_cons] at this
      rw [h2, List.length_append]; omega
    clear hst hsht hdt t3 k0 t3'
    go_upto_region 8 with (go_at_call 36; refine Calls.mono HSK.out ?_; rintro e w3 ⟨rfl, hp3, hb3⟩; have HP3 : Hid (GrowP most B p q (c + 1) F' R w3) := hp3; have HB3 : Hid (Below B w w3) := HB2.out.trans hb3; clear hp3 hb3)
    obtain ⟨t3, k1, kf1, hbq⟩ := HP3.out.cells
    have k1' : w3.cell? ⟨q, 1, none⟩ = some (.int .i64 ((c : Int) + 1)) := by rw [k1]; simp
    clear k1
    go_wp2_with fail
    go_ret
    have h1 := HP3.out.count c
    rw [← HFL'.out] at h1
    refine ⟨.inl ⟨rfl, F', by rw [HF.out]; exact HD.out, ?_, HD.out.rise HR.out⟩, HB3.out.setCell hbq _⟩
    rw [HFL'.out] at h1 ⊢
    exact h1
set_option maxHeartbeats 4000000 in
theorem put_any {w : World} {B p q most : Nat} {F : List It} {R : List Pc} (h3 : 3 ≤ most) (h64 : most ≤ 64) (h : BT w B p q most F R) (hB : B ≤ w.heap.size) (hn : F.length < 65536) (k : ByteArray) (hk : k.size ≤ 281474976710656) (x : Int) :
    Calls Try.prog 10 #[.pointer (some ⟨p, 0, none⟩), .string k, .int .u64 x] w fun e w' => (∃ b F', PutF F k x b F' ∧ e = .returned (.tuple #[.bool b, .int .i64 0]) ∧ BT w' B p q most F' R) ∧ Below B w w' := by
  obtain ⟨⟨h, t, lo, hS, hs, hlo, hF⟩, hR⟩ := h
  have t3 := (hS.tr (p := p) (q := q) (most := most) (by simp)).2.2.2
  have HLO : Hid _ := locate_any (p := p) (q := q) (c := F.length) hS (by simp) (by simp) h64 hs (by rw [hF]; exact hR) k
  have HS : Hid (Sep w B (pcs (h + 1) (up1 t) ++ (treeO p q most :: keptO q t.n F.length :: R))) := hS
  have HSH : Hid (Shp most (h + 1) lo most (up1 t)) := hs
  have HR : Hid (Rise F) := hR
  have HF : Hid (flat (h + 1) (up1 t) = F) := hF
  have HLo : Hid (0 < h → 1 ≤ lo) := hlo
  clear hS hs hR hlo hF
  go_enter Try.func10, Try.ntmps10
  go_upto_region 4 with (first
    | (go_at_call 30; refine (tNone_any p q _ t3).mono ?_; rintro e w1 ⟨rfl, hw1⟩; obtain rfl := hw1.symm)
    | (go_at_call 31; refine Calls.mono HLO.out ?_; rintro e w1 ⟨n', vI', L', i, hloc, rfl, hb1⟩; have HLC : Hid (Loc k (h + 1) (up1 t) n' vI' L' i) := hloc; have HB1 : Hid (Below w.heap.size w w1) := hb1; obtain ⟨bo, HBO⟩ : ∃ bo, Hid (isAt L' k i = bo) := ⟨_, rfl⟩; rw [HBO.out]; clear hloc hb1))
  cases bo
  · have HNO : Hid (∀ y ∈ flat (h + 1) (up1 t), cmpN y.1 k ≠ 0) := loc_no HLC.out HSH.out (by rw [HF.out]; exact HR.out) HBO.out
    have HS1 : Hid (Sep w1 B (pcs (h + 1) (up1 t) ++ (treeO p q most :: keptO q t.n F.length :: R))) := HS.out.below HB1.out
    obtain ⟨k0, k1, _, _, _⟩ := kept_c HS1.out (q := q) (n := t.n) (c := F.length) (by simp)
    obtain ⟨q0, q1, q2, q3⟩ := HS1.out.tr (p := p) (q := q) (most := most) (by simp)
    obtain ⟨c, HC⟩ : ∃ c, Hid (F.length = c) := ⟨_, rfl⟩
    rw [HC.out] at k1 hn HS1
    have d1 : decide ((65536 : Int) ≤ (c : Int)) = false := by simp; omega
    have HBD : Hid (Below w1.heap.size w1 w1.drew) := (Below.refl _ _).drew
    have HBB1 : Hid (Below B w w1) := HB1.out.mono hB
    have HNO' : Hid (∀ y ∈ F, cmpN y.1 k ≠ 0) := by have := HNO.out; rw [HF.out] at this; exact this
    have HRt : Hid (Rise (flat (h + 1) (up1 t))) := by unfold Hid; rw [HF.out]; exact HR.out
    clear t3
    go_upto_region 9 with fail
    go_cut [37] (fun t' wc => t' = .pointer (some ⟨p, 0, none⟩) ∧ Hid (InsP most lo k x B h t (treeO p q most :: keptO q t.n c :: R) wc) ∧ Hid (Below B w wc))
    case first =>
      go_region_law (first
        | (refine step_ownN2 rfl (.tmp 48) (.tmp 49) rfl k rfl rfl hk ?_; intro w2 hb2; have HB2 : Hid (Below w1.heap.size w1 w2) := HBD.out.trans hb2; have HS2 : Hid (Sep w2 B (pcs (h + 1) (up1 t) ++ (treeO p q most :: keptO q t.n c :: R))) := HS1.out.below HB2.out; have q3b := (HS2.out.tr (p := p) (q := q) (most := most) (by simp)).2.2.2; have k0b := (kept_c HS2.out (q := q) (n := t.n) (c := c) (by simp)).1; have HBB2 : Hid (Below B w w2) := HBB1.out.trans (HB2.out.mono (Nat.le_trans hB HBB1.out.size)); clear hb2)
        | (refine step_call rfl 32 (enters_of Try.func32 (by kernel_rfl) rfl) #[.tmp 37, .tmp 44, .tmp 52] _ rfl _ (by go_simp) (fun v w' => v = .tuple #[] ∧ InsP most lo k x B h t (treeO p q most :: keptO q t.n c :: R) w' ∧ Below B w2 w') (Calls.mono (insert_any (p := p) (q := q) h3 h64 k x h t w2 lo (treeO p q most :: keptO q t.n c :: R) HS2.out (by simp) (Nat.le_trans hB HBB2.out.size) HSH.out HRt.out HNO.out) (by rintro e w' ⟨rfl, h⟩; exact ⟨_, rfl, rfl, h⟩)) ?_; rintro v w3 ⟨rfl, hp3, hb3⟩; have HP3 : Hid (InsP most lo k x B h t (treeO p q most :: keptO q t.n c :: R) w3) := hp3; have HBB3 : Hid (Below B w w3) := HBB2.out.trans hb3; clear hp3 hb3))
      all_goals (go_wp2_with fail)
      all_goals (go_meet; exact ⟨rfl, HP3.out, HBB3.out⟩)
    case rest =>
      obtain ⟨rfl, HP3, HB3⟩ := hcut
      generalize wc = w3 at *
      obtain ⟨t', htn, hst, hsht, hins⟩ := HP3.out
      rw [← htn] at hst
      rw [HF.out] at hins
      have HGR : Hid _ := growRoot_any (c := c) h3 h64 hst (Nat.le_trans hB HB3.out.size) hsht HLo.out
      obtain ⟨F', HF'⟩ : ∃ F', Hid (flat (h + 1) (up1 t') = F') := ⟨_, rfl⟩
      rw [HF'.out] at HGR hins
      have HI : Hid (Ins F k x F') := hins
      have HFL' : Hid (F'.length = c + 1) := by
        obtain ⟨A, C, h1, _, _, h2⟩ := hins
        have := HC.out
        unfold Hid
        rw [h1, List.length_append] at this
        rw [h2, List.length_append, List.length_cons]; omega
      clear hst hsht hins htn k0 k1 q0 q1 q2 q3
      go_upto_region 11 with (go_at_call 33; refine Calls.mono HGR.out ?_; rintro e w4 ⟨rfl, hp4, hb4⟩; have HP4 : Hid (GrowP most B p q c F' R w4) := hp4; have HB4 : Hid (Below B w w4) := HB3.out.trans hb4; clear hp4 hb4)
      obtain ⟨t3, k1, kf1, hbq⟩ := HP4.out.cells
      go_wp2_with fail
      go_ret2
      have h1 := HP4.out.count (c + 1)
      refine ⟨⟨true, F', .inr ⟨rfl, HNO'.out, HI.out⟩, rfl, ?_, HI.out.rise HR.out⟩, HB4.out.setCell hbq _⟩
      rw [HFL'.out]
      exact h1
  · obtain ⟨v, A, C, hv, hf, hx⟩ := loc_yes HLC.out HSH.out HBO.out
    obtain ⟨t2, htn, hs2, hf2, hS2⟩ := hx x
    obtain ⟨g, cap, c0, c1, cf, hBg, hS3⟩ := hS2 B w1 _ (HS.out.below HB1.out)
    rw [← htn] at hS3
    have HS3 : Hid (Sep (w1.setCell ⟨g, i * 2 + 1, none⟩ (.int .u64 x)) B (pcs (h + 1) (up1 t2) ++ (treeO p q most :: keptO q t2.n F.length :: R))) := hS3
    have HSH2 : Hid (Shp most (h + 1) lo most (up1 t2)) := hs2
    have HF2 : Hid (flat (h + 1) (up1 t2) = A ++ (k, x) :: C) := hf2
    rw [HF.out] at hf
    have HFA : Hid (F = A ++ (k, v) :: C) := hf
    have hil := (List.getElem?_eq_some_iff.1 hv).1
    obtain ⟨l, HLl⟩ : ∃ l, Hid (L'.length = l) := ⟨_, rfl⟩
    rw [HLl.out] at c0 hil
    have hili : (i : Int) < (l : Int) := by omega
    have HBB1 : Hid (Below B w w1) := HB1.out.mono hB
    clear hv hf hx hS2 hS3 hs2 hf2 htn
    go_wp2_with fail
    go_ret2
    have hlen : (A ++ (k, x) :: C).length = F.length := by rw [HFA.out]; simp
    refine ⟨⟨false, A ++ (k, x) :: C, .inl ⟨rfl, A, v, C, HFA.out, rfl⟩, rfl, ⟨h, t2, lo, ?_, HSH2.out, HLo.out, HF2.out⟩, ?_⟩, HBB1.out.setCell hBg _⟩
    · rw [hlen]; exact HS3.out
    · have := HR.out; rw [HFA.out] at this; exact rise_set this
end Go.Proofs.Ytelfjgnmbikofaa
