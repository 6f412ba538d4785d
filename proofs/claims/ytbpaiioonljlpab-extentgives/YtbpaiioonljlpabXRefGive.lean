/-
  The walk of the document's Give. Conditions: the numbers are ints, the list's length is one that memory bears.
-/
import Derived.Test.YtbpaiioonljlpabXRefJoin
import Derived.Test.YtbpaiioonljlpabXRefTotal
import Derived.Test.YtbpaiioonljlpabXGive
import Derived.Test.YtbpaiioonljlpabXStep
namespace Go.Proofs.Ytbpaiioonljlpab
open Go.RowKit Go.Sort Go.Shelf Go.Lib
set_option linter.unusedVariables false
set_option maxRecDepth 100000

/-- It, on a row without cells. -/
theorem step_append_e {P : Program} {ops : Array Oper} {o : Oper} {a : Act} {w : World} {K : Act → World → Prop} {Q : Exit → Act → World → Prop} {E : Prop}
    (d : Nat) (hd : o.dst = some d) (hw : Region.wanted o (yielded ops a.tmps) = true) (s x : Operand) (t T : TypeId) (hop : o.op = Op.call { callee := Callee.builtin Builtin.append, args := #[s, x], argTypes := #[t, t] })
    (i : TypeInfo) (h1 : P.underlying t = some (.slice T)) (h2 : P.info? T = some i) (h3 : i.zero = some (.agg #[.int .i64 0, .int .i64 0])) (h4 : i.size = 2) (h5 : i.bytes = 16)
    (B : Nat) (v : Value) (m : List Ext) (q : Nat) (hq : m.length = q) (ao : Option Addr) (c : Nat) (hs : a.eval s = v) (hx : a.eval x = .slice ao q c) (hown : OwnX w B T v []) (hm : Xs w (.slice ao q c) m)
    (hbytes : q ≤ 8796093022208) (hB : B ≤ w.heap.size)
    (hK : ∀ ao cap w', OwnX w' B T (.slice ao q cap) m → w.grownBy w' v.ownBlock → K (a.put (some d) (.slice ao q cap)) w') :
    if Region.wanted o (yielded ops a.tmps) = true then Oper.wp P o a w K Q else E :=
  step_append_g d hd hw s x t T hop i h1 h2 h3 h4 h5 B v [] m 0 q rfl hq ao c hs hx hown hm (by omega) hB (fun ao' cap' w' ho hg => by
    have h := hK ao' cap' w' (by simpa using ho) hg
    simpa using h)


theorem give_no {l : List Ext} {x : Ext} (hg : goodB l 4194304 = true) (h : ∀ y ∈ l, comB y x = false) : meetsB (l ++ [x]) = false := by
  have hs := (goodFrom_sep (goodB_iff.1 hg).2.2).1
  rw [meetsB_false, List.pairwise_append]
  refine ⟨hs.2.imp (fun h => by unfold bothB; rw [comB_false.2 (by omega), Bool.and_false]), List.pairwise_singleton _ _, fun y hy z hz => ?_⟩
  rw [List.mem_singleton.1 hz]; unfold bothB; rw [h y hy, Bool.and_false]
theorem give_yes {l : List Ext} {x y : Ext} (hg : goodB l 4194304 = true) (hm : mayB x = true) (hy : y ∈ l) (h : comB y x = true) : meetsB (l ++ [x]) = true := by
  cases hmt : meetsB (l ++ [x]) with
  | true => rfl
  | false =>
    rw [meetsB_false, List.pairwise_append] at hmt
    have h1 := hmt.2.2 y hy x (by simp)
    have h2 := (goodFrom_sep (goodB_iff.1 hg).2.2).2 y hy
    unfold bothB at h1
    rw [h, hm, mayB_iff.2 ⟨by omega, by omega, by omega⟩] at h1
    cases h1

set_option maxHeartbeats 16000000 in
theorem refGive_any (v : Value) (l : List Ext) (a s : Int) (w : World) (hl : Xs w v l) (hE : EWs l) (hx : EW (a, s)) (hn : l.length ≤ 8796093022207) :
    Calls Try.prog 28 #[v, .agg #[.int .i64 a, .int .i64 s]] w fun e w' => ∃ x, e = .returned (.tuple #[x, .int .i64 (giveErr l (a, s))]) ∧ OwnX w' w.heap.size 51 x (giveList l (a, s)) ∧ Below w.heap.size w w' := by
  obtain ⟨i1, hi, hz0, hz1, hz2⟩ := info_parts Try.infoR
  have HX : Hid (Xs w v l) := hl
  have HE : Hid (EWs l) := hE
  have HXE : Hid (EW (a, s)) := hx
  obtain ⟨ao, cap, rfl, hcap, hdrop⟩ := hl.opened
  clear hl hE hx hdrop
  have HB0 : Hid (Below w.heap.size w (w.alloc (.cells #[.int .i64 a, .int .i64 s] 51))) := (Below.refl _ _).alloc (Nat.le_refl _) _
  have hc0 := cells_pairX (heap_alloc_new w (.cells #[.int .i64 a, .int .i64 s] 51))
  obtain ⟨N, HN⟩ : ∃ N, Hid (l.length = N) := ⟨_, rfl⟩
  rw [HN.out] at hcap hn HX ⊢
  cases hg : goodB l 4194304 with
  | false =>
    have HR : Hid (giveErr l (a, s) = 2 ∧ giveList l (a, s) = []) := by have h : giveErr l (a, s) = 2 := by { unfold giveErr gvOk; rw [hg]; rfl }; unfold giveList; rw [h]; exact ⟨rfl, rfl⟩
    go_enter Try.func28, Try.ntmps28
    go_wp2_with (go_at_call 12; refine (refGood_any _ l _ _ (HX.out.below HB0.out) HE.out (by rw [HN.out]; omega)).mono ?_; rintro e w1 ⟨rfl, hb1⟩; rw [hg])
    go_ret2
    rw [HR.out.1, HR.out.2]
    exact ⟨_, rfl, OwnX.nil _ _ _, HB0.out.trans (hb1.mono HB0.out.size)⟩
  | true =>
    have HG : Hid (goodB l 4194304 = true) := hg
    have HFI : Hid (∀ x ∈ l, 0 ≤ x.1 ∧ 0 ≤ x.1 ∧ 1 ≤ x.2 ∧ x.1 + x.2 ≤ 4194304) := (goodFrom_sep (goodB_iff.1 hg).2.2).2
    have hN6 : N ≤ 65536 := by have := (goodB_iff.1 hg).2.1; rw [HN.out] at this; exact this
    clear hg
    cases hm : mayB (a, s) with
    | false =>
      have HR : Hid (giveErr l (a, s) = 2 ∧ giveList l (a, s) = []) := by have h : giveErr l (a, s) = 2 := by { unfold giveErr gvOk; rw [HG.out, hm]; rfl }; unfold giveList; rw [h]; exact ⟨rfl, rfl⟩
      go_enter Try.func28, Try.ntmps28
      go_wp2_with (first | (go_at_call 12; refine (refGood_any _ l _ _ (HX.out.below HB0.out) HE.out (by rw [HN.out]; omega)).mono ?_; rintro e w1 ⟨rfl, hb1⟩; rw [HG.out]; have e1 := cell_later hb1 hc0.1; have e2 := cell_later hb1 hc0.2; have HB1 : Hid (Below w.heap.size w w1) := HB0.out.trans (hb1.mono HB0.out.size); clear hb1) | (go_at_call 32; refine (refMay_eq _ _ _ HXE.out).mono ?_; rintro e w2 ⟨rfl, nq, osq, hw2⟩; have hb2 : Below w1.heap.size w1 w2 := (by rw [hw2]; exact below_grown (Below.refl _ _) (Nat.le_refl _) nq osq); clear hw2; rw [hm]))
      go_ret2
      rw [HR.out.1, HR.out.2]
      exact ⟨_, rfl, OwnX.nil _ _ _, HB1.out.trans (hb2.mono HB1.out.size)⟩
    | true =>
      have HM : Hid (mayB (a, s) = true) := hm
      clear hm
      have HOK : Hid (gvOk l (a, s) = true) := by unfold Hid gvOk; rw [HG.out, HM.out]; rfl
      have HMA : Hid (∀ x ∈ l ++ [(a, s)], mayB x = true) := fun x hx => by
        rcases List.mem_append.1 hx with h | h
        · have := HFI.out x h; exact mayB_iff.2 ⟨by omega, by omega, by omega⟩
        · simp at h; subst h; exact HM.out
      have HLL : Hid ((l ++ [(a, s)]).length = N + 1) := by unfold Hid; rw [List.length_append, HN.out]; rfl
      go_enter Try.func28, Try.ntmps28
      go_wp2_with (first | (go_at_call 12; refine (refGood_any _ l _ _ (HX.out.below HB0.out) HE.out (by rw [HN.out]; omega)).mono ?_; rintro e w1 ⟨rfl, hb1⟩; rw [HG.out]; have e1 := cell_later hb1 hc0.1; have e2 := cell_later hb1 hc0.2; have HB1 : Hid (Below w.heap.size w w1) := HB0.out.trans (hb1.mono HB0.out.size); clear hb1) | (go_at_call 32; refine (refMay_eq _ _ _ HXE.out).mono ?_; rintro e w2 ⟨rfl, nq, osq, hw2⟩; have hb2 : Below w1.heap.size w1 w2 := (by rw [hw2]; exact below_grown (Below.refl _ _) (Nat.le_refl _) nq osq); clear hw2; rw [HM.out]; have g1 := cell_later hb2 e1; have g2 := cell_later hb2 e2; have HB2 : Hid (Below w.heap.size w w2) := HB1.out.trans (hb2.mono HB1.out.size); clear hb2))
      have HG1 : Hid (w2.cell? ⟨w.heap.size, 0, none⟩ = some (.int .i64 a)) := g1
      have HG2 : Hid (w2.cell? ⟨w.heap.size, 1, none⟩ = some (.int .i64 s)) := g2
      obtain ⟨_, _, hv, _, hcell2⟩ := (HX.out.below HB2.out).opened
      have HC : Hid (∀ i, i < l.length → ∃ b off, ao = some ⟨b, off, none⟩ ∧ w2.cell? ⟨b, off + i * 2, none⟩ = some (.int .i64 (l.getD i (0, 0)).1) ∧ w2.cell? ⟨b, off + i * 2 + 1, none⟩ = some (.int .i64 (l.getD i (0, 0)).2) ∧ b < w2.heap.size) := by injection hv with e1 e2 e3; subst e1; exact hcell2
      have hx2 : w.heap.size < w2.heap.size := World.block_lt_of_cell? w2 _ g1
      clear hv hcell2 g1 g2 e1 e2 hc0
      go_loopw [6] (fun i wr => ∃ k : Nat, k ≤ N ∧ i = .int .i64 (k : Int) ∧ Hid (∀ j, j < k → comB (l.getD j (0, 0)) (a, s) = false) ∧ Hid (Below w2.heap.size w2 wr)) (fun i _ => N - (intOf i).toNat)
      case atStart => exact ⟨0, Nat.zero_le _, rfl, fun j hj => by omega, Below.refl _ _⟩
      case round =>
        obtain ⟨k, hk, rfl, HS, HB⟩ := hrel
        have hxr : w.heap.size < wr.heap.size := Nat.lt_of_lt_of_le hx2 HB.out.size
        by_cases hlt : k < N
        · have hkl : k < l.length := by rw [HN.out]; exact hlt
          obtain ⟨b, off, rfl, c1, c2, hb⟩ := HC.out k hkl
          have hbr : b < wr.heap.size := Nat.lt_of_lt_of_le hb HB.out.size
          have d1 := cell_grown (w := wr) (a := ⟨b, off + k * 2, none⟩) hbr ((HB.out.cell (p := ⟨b, off + k * 2, none⟩) hb).trans c1)
          have d2 := cell_grown (w := wr) (a := ⟨b, off + k * 2 + 1, none⟩) hbr ((HB.out.cell (p := ⟨b, off + k * 2 + 1, none⟩) hb).trans c2)
          have d3 := cell_grown (w := wr) (a := ⟨w.heap.size, 0, none⟩) hxr (cell_later HB.out HG1.out)
          have d4 := cell_grown (w := wr) (a := ⟨w.heap.size, 1, none⟩) hxr (cell_later HB.out HG2.out)
          have HFY : Hid (comB (l.getD k (0, 0)) (a, s) = true → giveErr l (a, s) = 11 ∧ giveList l (a, s) = []) := fun h => by
            have h : giveErr l (a, s) = 11 := by { unfold giveErr; rw [HOK.out, give_yes HG.out HM.out (getD_mem hkl) h]; rfl }
            unfold giveList; rw [h]; exact ⟨rfl, rfl⟩
          have HFN : Hid (comB (l.getD k (0, 0)) (a, s) = false → ∀ j, j < k + 1 → comB (l.getD j (0, 0)) (a, s) = false) := fun h j hj => by
            by_cases e : j = k
            · subst e; exact h
            · exact HS.out j (by omega)
          have HMK : Hid (mayB (l.getD k (0, 0)) = true) := HMA.out _ (List.mem_append.2 (.inl (getD_mem hkl)))
          have hkN : (k : Int) < (N : Int) := by omega
          clear c1 c2
          generalize l.getD k (0, 0) = x at *
          obtain ⟨xa, xs⟩ := x
          dsimp only at d1 d2
          cases hcm : comB (xa, xs) (a, s) with
          | true =>
            have HR : Hid (giveErr l (a, s) = 11 ∧ giveList l (a, s) = []) := HFY.out hcm
            have HC3 : Hid (∀ W : World, Calls Try.prog 37 #[.agg #[.int .i64 xa, .int .i64 xs], .agg #[.int .i64 a, .int .i64 s]] W fun e w' => e = .returned (.bool true) ∧ ∃ q os', w' = grow (W.drewN q) os') := fun W => by have := common_any xa xs a s W HMK.out HM.out; rwa [hcm] at this
            clear hcm
            go_wp2
            refine wp_region_quiet_grown (by kernel_rfl) (by kernel_rfl) ?_
            repeat (go_big_quiet_step ((go_at_call 37; exact Calls.grown_of (HC3.out _))))
            refine wpQuiet_nil ?_
            intro w4 hw4
            obtain ⟨⟨nq, osq⟩, rfl⟩ := hw4
            go_wp2
            go_ret2
            rw [HR.out.1, HR.out.2]
            exact ⟨_, rfl, OwnX.nil _ _ _, HB2.out.trans ((below_grown HB.out HB.out.size _ _).mono HB2.out.size)⟩
          | false =>
            have HNO : Hid (∀ j, j < k + 1 → comB (l.getD j (0, 0)) (a, s) = false) := HFN.out hcm
            have HC3 : Hid (∀ W : World, Calls Try.prog 37 #[.agg #[.int .i64 xa, .int .i64 xs], .agg #[.int .i64 a, .int .i64 s]] W fun e w' => e = .returned (.bool false) ∧ ∃ q os', w' = grow (W.drewN q) os') := fun W => by have := common_any xa xs a s W HMK.out HM.out; rwa [hcm] at this
            clear hcm
            go_wp2
            refine wp_region_quiet_grown (by kernel_rfl) (by kernel_rfl) ?_
            repeat (go_big_quiet_step ((go_at_call 37; exact Calls.grown_of (HC3.out _))))
            refine wpQuiet_nil ?_
            intro w4 hw4
            obtain ⟨⟨nq, osq⟩, rfl⟩ := hw4
            go_wp2
            go_roundw
            case rel => exact ⟨k + 1, by omega, by simp, HNO.out, below_grown HB.out HB.out.size _ _⟩
            case measure => simp [intOf]; omega
        · obtain rfl : k = N := by omega
          have HMT : Hid (meetsB (l ++ [(a, s)]) = false) := give_no HG.out (fun y hy => by
            obtain ⟨j, hj, rfl⟩ := List.getElem_of_mem hy
            have := HS.out j (by rw [HN.out] at hj; exact hj)
            simpa [List.getD, hj] using this)
          obtain ⟨Z, HZ⟩ : ∃ Z, Hid ((normL (l ++ [(a, s)])).length = Z) := ⟨_, rfl⟩
          have hZ : Z ≤ k + 1 := by
            have h1 := joinL_length (sortE (l ++ [(a, s)]))
            have h2 := (sortE_perm (l ++ [(a, s)])).length_eq
            have h3 := List.length_filter_le fitB (l ++ [(a, s)])
            rw [HLL.out] at h3
            have h4 := HZ.out
            unfold normL at h4
            omega
          have HK : Hid (∀ w', Below wr.heap.size wr w' → w'.cell? ⟨w.heap.size, 0, none⟩ = some (.int .i64 a) ∧ w'.cell? ⟨w.heap.size, 1, none⟩ = some (.int .i64 s)) := fun w' hb => ⟨cell_later hb (cell_later HB.out HG1.out), cell_later hb (cell_later HB.out HG2.out)⟩
          have HBW : Hid (Below w.heap.size w wr) := HB2.out.trans (HB.out.mono HB2.out.size)
          have HXR : Hid (∀ w', Below wr.heap.size wr w' → Xs w' (.slice ao k cap) l) := fun w' hb => (HX.out.below HBW.out).below hb
          have HBE : Hid (Below wr.heap.size wr (wr.alloc (.cells #[] 51))) := (Below.refl _ _).alloc (Nat.le_refl _) _
          have HBX : Hid (Below wr.heap.size wr (wr.alloc (.cells #[.int .i64 a, .int .i64 s] 51))) := (Below.refl _ _).alloc (Nat.le_refl _) _
          have HBEX : Hid (Below wr.heap.size wr ((wr.alloc (.cells #[] 51)).alloc (.cells #[.int .i64 a, .int .i64 s] 51))) := HBE.out.alloc HBE.out.size _
          have HBXE : Hid (Below wr.heap.size wr ((wr.alloc (.cells #[.int .i64 a, .int .i64 s] 51)).alloc (.cells #[] 51))) := HBX.out.alloc HBX.out.size _
          have HOE : Hid (OwnX (wr.alloc (.cells #[] 51)).drew wr.heap.size 51 (.slice (some ⟨wr.heap.size, 0, none⟩) 0 0) []) := (OwnX.empty wr wr.heap.size 51 (Nat.le_refl _)).drew
          have HOEX : Hid (OwnX ((wr.alloc (.cells #[] 51)).alloc (.cells #[.int .i64 a, .int .i64 s] 51)).drew wr.heap.size 51 (.slice (some ⟨wr.heap.size, 0, none⟩) 0 0) []) := ((OwnX.empty wr wr.heap.size 51 (Nat.le_refl _)).below ((Below.refl _ _).alloc (Nat.le_refl _) (.cells #[.int .i64 a, .int .i64 s] 51))).drew
          have HOXE : Hid (OwnX ((wr.alloc (.cells #[.int .i64 a, .int .i64 s] 51)).alloc (.cells #[] 51)).drew wr.heap.size 51 (.slice (some ⟨wr.heap.size + 1, 0, none⟩) 0 0) []) := (OwnX.emptyAt (wr.alloc (.cells #[.int .i64 a, .int .i64 s] 51)) wr.heap.size (wr.heap.size + 1) 51 HBX.out.size (by simp)).drew
          have hwr := HK.out _ (Below.refl _ _)
          obtain ⟨r1, r2⟩ := hwr
          go_wp2
          go_region_held_law (fun w' => w'.cell? ⟨w.heap.size, 0, none⟩ = some (.int .i64 a) ∧ w'.cell? ⟨w.heap.size, 1, none⟩ = some (.int .i64 s)) (first | exact HK.out _ (by assumption) | go_keep) (first | (refine step_append_e (w := ((wr.alloc (.cells #[] 51)).alloc (.cells #[.int .i64 a, .int .i64 s] 51)).drew) 30 rfl (by rfl) (.tmp 28) (.tmp 29) 28 51 rfl i1 Try.underlying28 hi hz0 hz1 hz2 wr.heap.size _ l k HN.out ao cap rfl rfl HOEX.out (HXR.out _ HBEX.out.drew) (by omega) HBEX.out.size ?_; intro ao5 cap5 w5 ho5 hg5; have hb5 : Below wr.heap.size wr w5 := HBEX.out.drew.grown hg5 HBEX.out.size (fun j hj => (HOEX.out.lt j hj).1); have HO5 : Hid (OwnX w5 wr.heap.size 51 (.slice ao5 k cap5) l) := ho5; have HX5 : Hid (Xs w5 (.slice (some ⟨wr.heap.size + 1, 0, none⟩) 1 1) [(a, s)]) := ((Xs.oneAt (wr.alloc (.cells #[] 51)) (wr.heap.size + 1) (a, s) 51 (by simp)).drew).grownX hg5 (fun k hk => by cases hk; simp); clear ho5 hg5) | (refine step_append_e (w := ((wr.alloc (.cells #[.int .i64 a, .int .i64 s] 51)).alloc (.cells #[] 51)).drew) 30 rfl (by rfl) (.tmp 28) (.tmp 29) 28 51 rfl i1 Try.underlying28 hi hz0 hz1 hz2 wr.heap.size _ l k HN.out ao cap rfl rfl HOXE.out (HXR.out _ HBXE.out.drew) (by omega) HBXE.out.size ?_; intro ao5 cap5 w5 ho5 hg5; have hb5 : Below wr.heap.size wr w5 := HBXE.out.drew.grown hg5 HBXE.out.size (fun j hj => (HOXE.out.lt j hj).1); have HO5 : Hid (OwnX w5 wr.heap.size 51 (.slice ao5 k cap5) l) := ho5; have HX5 : Hid (Xs w5 (.slice (some ⟨wr.heap.size, 0, none⟩) 1 1) [(a, s)]) := (((Xs.one wr (a, s) 51).below ((Below.refl _ _).alloc (Nat.le_refl _) (.cells #[] 51))).drew).grownX hg5 (fun k hk => by cases hk; simp); clear ho5 hg5) | (refine step_append_e (w := (wr.alloc (.cells #[] 51)).drew) 30 rfl (by rfl) (.tmp 28) (.tmp 29) 28 51 rfl i1 Try.underlying28 hi hz0 hz1 hz2 wr.heap.size _ l k HN.out ao cap rfl rfl HOE.out (HXR.out _ HBE.out.drew) (by omega) HBE.out.size ?_; intro ao5 cap5 w5 ho5 hg5; have hb5 : Below wr.heap.size wr w5 := HBE.out.drew.grown hg5 HBE.out.size (fun j hj => (HOE.out.lt j hj).1); have HO5 : Hid (OwnX w5 wr.heap.size 51 (.slice ao5 k cap5) l) := ho5; clear ho5 hg5) | (refine step_append_g (w := w5) 33 rfl (by rfl) (.tmp 30) (.tmp 32) 28 51 rfl i1 Try.underlying28 hi hz0 hz1 hz2 wr.heap.size (.slice ao5 k cap5) l [(a, s)] k 1 HN.out rfl _ 1 rfl rfl HO5.out HX5.out (by omega) hb5.size ?_; intro ao6 cap6 w6 ho6 hg6; have hb6 : Below wr.heap.size wr w6 := hb5.grown hg6 hb5.size (fun j hj => (HO5.out.lt j hj).1); have HO6 : Hid (OwnX w6 wr.heap.size 51 (.slice ao6 (k + 1) cap6) (l ++ [(a, s)])) := ho6; clear ho6 hg6) | (refine step_append_g (w := w5.alloc (.cells #[.int .i64 a, .int .i64 s] 51)) 33 rfl (by rfl) (.tmp 30) (.tmp 32) 28 51 rfl i1 Try.underlying28 hi hz0 hz1 hz2 wr.heap.size (.slice ao5 k cap5) l [(a, s)] k 1 HN.out rfl _ 1 rfl rfl (HO5.out.below ((Below.refl _ _).alloc (Nat.le_refl _) _)) (Xs.oneAt _ _ (a, s) 51 rfl) (by omega) (hb5.alloc hb5.size (.cells #[.int .i64 a, .int .i64 s] 51)).size ?_; intro ao6 cap6 w6 ho6 hg6; have hb6 : Below wr.heap.size wr w6 := (hb5.alloc hb5.size (.cells #[.int .i64 a, .int .i64 s] 51)).grown hg6 (hb5.alloc hb5.size (.cells #[.int .i64 a, .int .i64 s] 51)).size (fun j hj => (HO5.out.lt j hj).1); have HO6 : Hid (OwnX w6 wr.heap.size 51 (.slice ao6 (k + 1) cap6) (l ++ [(a, s)])) := ho6; clear ho6 hg6) | (go_at_call 39; refine (refJoin_any _ (l ++ [(a, s)]) _ HO6.out.xs HMA.out (by rw [HLL.out]; omega)).mono ?_; rintro e w7 ⟨ao7, cap7, rfl, ho7, hb7'⟩; rw [HZ.out] at ho7 ⊢; have hb7 : Below wr.heap.size wr w7 := hb6.trans (hb7'.mono hb6.size); have HO7 : Hid (OwnX w7 wr.heap.size 51 (.slice ao7 Z cap7) (normL (l ++ [(a, s)]))) := ho7.mono hb6.size; clear ho7 hb7'))
          all_goals
            by_cases hbig : 65536 < Z
            · have HR : Hid (giveErr l (a, s) = 3 ∧ giveList l (a, s) = []) := by have h : giveErr l (a, s) = 3 := by { unfold giveErr; rw [HOK.out, HMT.out, HZ.out, if_pos hbig]; rfl }; unfold giveList; rw [h]; exact ⟨rfl, rfl⟩
              go_wp2
              go_ret2
              rw [HR.out.1, HR.out.2]
              exact ⟨_, rfl, OwnX.nil _ _ _, HBW.out.trans (hb7.mono HBW.out.size)⟩
            · have HR : Hid (giveErr l (a, s) = 0 ∧ giveList l (a, s) = normL (l ++ [(a, s)])) := by have h : giveErr l (a, s) = 0 := by { unfold giveErr; rw [HOK.out, HMT.out, HZ.out, if_neg hbig]; rfl }; unfold giveList; rw [h]; exact ⟨rfl, rfl⟩
              go_wp2
              go_ret2
              rw [HR.out.1, HR.out.2]
              exact ⟨_, rfl, HO7.out.mono HBW.out.size, HBW.out.trans (hb7.mono HBW.out.size)⟩
end Go.Proofs.Ytbpaiioonljlpab
