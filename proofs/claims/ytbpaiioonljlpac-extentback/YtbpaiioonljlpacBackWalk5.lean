/-
  The walk of the law ExtentBack.
-/
import Derived.Test.YtbpaiioonljlpacXLives
import Derived.Test.YtbpaiioonljlpacXBackMath
namespace Go.Proofs.Ytbpaiioonljlpac
open Go.RowKit Go.Sort Go.Shelf Go.Lib
set_option linter.unusedVariables false
set_option maxRecDepth 100000

/-- append as a step of a region that draws, its guard told. -/
theorem step_append_g {P : Program} {ops : Array Oper} {o : Oper} {a : Act} {w : World} {K : Act → World → Prop} {Q : Exit → Act → World → Prop} {E : Prop}
    (d : Nat) (hd : o.dst = some d) (hw : Region.wanted o (yielded ops a.tmps) = true) (s x : Operand) (t T : TypeId) (hop : o.op = Op.call { callee := Callee.builtin Builtin.append, args := #[s, x], argTypes := #[t, t] })
    (i : TypeInfo) (h1 : P.underlying t = some (.slice T)) (h2 : P.info? T = some i) (h3 : i.zero = some (.agg #[.int .i64 0, .int .i64 0])) (h4 : i.size = 2) (h5 : i.bytes = 16)
    (B : Nat) (v : Value) (l m : List Ext) (p q : Nat) (hp : l.length = p) (hq : m.length = q) (ao : Option Addr) (c : Nat) (hs : a.eval s = v) (hx : a.eval x = .slice ao q c) (hown : OwnX w B T v l) (hm : Xs w (.slice ao q c) m)
    (hbytes : p + q ≤ 8796093022208) (hB : B ≤ w.heap.size)
    (hK : ∀ ao cap w', OwnX w' B T (.slice ao (p + q) cap) (l ++ m) → w.grownBy w' v.ownBlock → K (a.put (some d) (.slice ao (p + q) cap)) w') :
    if Region.wanted o (yielded ops a.tmps) = true then Oper.wp P o a w K Q else E := by
  subst hp; subst hq
  rw [if_pos hw]
  obtain ⟨ao0, cap0, hv, hc, hn, hcell⟩ := hm
  injection hv with e1 e2 e3
  subst e1; subst e3
  cases ao with
  | none =>
    obtain rfl : c = 0 := hn rfl
    obtain rfl : m = [] := List.eq_nil_of_length_eq_zero (by omega)
    have hown' := hown
    obtain ⟨ao1, cap1, rfl, hle, _, hsh⟩ := hown.shape
    have hrun := run_append_owned_none (P := P) (w := w) B t o.type T i 2 h1 h2 _ _ _ hown
    unfold Oper.wp
    simp [execOp, hop, resolve, invoke, builtin, hs, hx, hrun, Result.andThen]
    have hk := hK ao1 cap1 w (by simpa using hown') (World.grownBy.refl _ _)
    rw [← hd] at hk
    have hk2 : K (a.put o.dst (.slice ao1 l.length cap1)) w := by simpa using hk
    exact hk2
  | some ad =>
    obtain ⟨v', w', hrun, r1, r2, _⟩ := run_append_own (P := P) w B t o.type T i (.agg #[.int .i64 0, .int .i64 0]) 2 16 h1 h2 h3 h4 h5 rfl (by decide) v l.length (ecells l) hown ad m.length c (ecells m) (by rw [ecells_length]) (fun j u hj => hcell ad rfl j u hj) (ecells_oneCell m) (by unfold maxLen; omega) (by omega) hB
    have ho2 : OwnX w' B T v' (l ++ m) := by unfold OwnX; rw [List.length_append, ecells_append]; exact r1
    obtain ⟨ao', cap', rfl, _, _, _⟩ := ho2.shape
    rw [List.length_append] at ho2 hrun
    unfold Oper.wp
    simp [execOp, hop, resolve, invoke, builtin, hs, hx, hrun, Result.andThen]
    have hk := hK ao' cap' w' ho2 r2
    rw [← hd] at hk
    exact hk
/-- It, on a row without cells. -/
theorem step_append_e {P : Program} {ops : Array Oper} {o : Oper} {a : Act} {w : World} {K : Act → World → Prop} {Q : Exit → Act → World → Prop} {E : Prop}
    (d : Nat) (hd : o.dst = some d) (hw : Region.wanted o (yielded ops a.tmps) = true) (s x : Operand) (t T : TypeId) (hop : o.op = Op.call { callee := Callee.builtin Builtin.append, args := #[s, x], argTypes := #[t, t] })
    (i : TypeInfo) (h1 : P.underlying t = some (.slice T)) (h2 : P.info? T = some i) (h3 : i.zero = some (.agg #[.int .i64 0, .int .i64 0])) (h4 : i.size = 2) (h5 : i.bytes = 16)
    (B : Nat) (v : Value) (m : List Ext) (q : Nat) (hq : m.length = q) (ao : Option Addr) (c : Nat) (hs : a.eval s = v) (hx : a.eval x = .slice ao q c) (hown : OwnX w B T v []) (hm : Xs w (.slice ao q c) m)
    (hbytes : q ≤ 8796093022208) (hB : B ≤ w.heap.size)
    (hK : ∀ ao cap w', OwnX w' B T (.slice ao q cap) m → w.grownBy w' v.ownBlock → K (a.put (some d) (.slice ao q cap)) w') :
    if Region.wanted o (yielded ops a.tmps) = true then Oper.wp P o a w K Q else E :=
  step_append_g d hd hw s x t T hop i h1 h2 h3 h4 h5 B v [] m 0 q rfl hq ao c hs hx hown hm (by omega) hB (fun ao' cap' w' ho hg => by
    have h := hK ao' cap' w' (by simpa using ho) hg
    simpa using h)

set_option maxHeartbeats 8000000 in
theorem extentBack_walk (v : Value) (l : List Ext) (n : Int) (W : World) (hx : Xs W v l) (hE : EWs l) (hlen : l.length ≤ 8796093021952) (hn : (Lit.int .i64 n).wf = true) :
    Calls Try.prog 4 #[v, .int .i64 n] W fun e W' => e = .returned (.bool true) ∧ Below W.heap.size W W' := by
  obtain ⟨i1, hi, hz0, hz1, hz2⟩ := info_parts Try.infoX
  have HX : Hid (Xs W v l) := hx
  have HE : Hid (EWs l) := hE
  obtain ⟨ao, cap, rfl, hcap, _⟩ := hx.opened
  clear hx hE hn
  obtain ⟨N, HN⟩ : ∃ N, Hid (l.length = N) := ⟨_, rfl⟩
  rw [HN.out] at hcap hlen HX ⊢
  by_cases h300 : 300 < N
  · go_enter Try.func4, Try.ntmps4
    go_wp2_with (go_at_call 5; refine (lives_any _).mono ?_; rintro e w' ⟨rfl, hb⟩)
    go_ret
    exact ⟨rfl, hb⟩
  · by_cases he : takeErr l n = 0
    · obtain ⟨r1, r2, r3, r4, r5, r6, r7, r8, r9, r10, r11⟩ := back_facts he
      have HTE : Hid (takeErr l n = 0) := he
      have HGD : Hid (goodB (takeList l n) 4194304 = true) := r2
      have HMT : Hid (meetsB (takeList l n ++ [(takeAt l n, n)]) = false) := r3
      have HTO : Hid (totalL (takeList l n) + n = totalL l) := r4
      have HGE : Hid (giveErr (takeList l n) (takeAt l n, n) = 0) := r6
      have HGL : Hid (giveList (takeList l n) (takeAt l n, n) = l) := r7
      have HXW : Hid (EW (takeAt l n, n)) := by have := mayB_iff.1 r5; unfold Hid EW; dsimp only at this ⊢; omega
      have HRE : Hid (EWs (takeList l n)) := fun x hx => by
        have := (goodFrom_sep (goodB_iff.1 r2).2.2).2 x hx
        unfold EW; omega
      have HME : Hid (EWs (takeList l n ++ [(takeAt l n, n)])) := fun x hx => by
        rcases List.mem_append.1 hx with h | h
        · exact HRE.out x h
        · simp at h; subst h; exact HXW.out
      have HTL : Hid ((takeList l n).length ≤ N) := by have := takeList_length l n; rw [HN.out] at this; exact this
      have hq0 : (takeErr l n != 0) = false := by simp [he]
      have HTK : Hid _ := take_any _ l n W HX.out HE.out (by rw [HN.out]; omega)
      rw [HTE.out] at HTK
      clear r2 r3 r4 r5 r6 r7 he HTE hq0
      generalize takeList l n = R at *
      generalize takeAt l n = at' at *
      obtain ⟨M, HM⟩ : ∃ M, Hid (R.length = M) := ⟨_, rfl⟩
      have hM : M ≤ N := by have := HTL.out; rw [HM.out] at this; exact this
      obtain ⟨ts, HTS⟩ : ∃ ts, Hid (totalL R = ts) := ⟨_, rfl⟩
      rw [HTS.out] at r8
      have HTL2 : Hid (totalL l = ts + n) := by have := HTO.out; rw [HTS.out] at this; exact this.symm
      rw [HTL2.out] at r9
      rw [HM.out] at HTK
      go_enter Try.func4, Try.ntmps4
      go_wp2_with (go_at_call 12; refine Calls.mono HTK.out ?_; rintro e w2 ⟨ao2, cap2, rfl, ho2, hb2⟩; have HO2 : Hid (OwnX w2 W.heap.size 35 (.slice ao2 M cap2) R) := ho2; have HB2 : Hid (Below W.heap.size W w2) := hb2; have hc0 := cells_pairX (heap_alloc_new w2 (.cells #[.int .i64 at', .int .i64 n] 35)); have HB3 : Hid (Below w2.heap.size w2 (w2.alloc (.cells #[.int .i64 at', .int .i64 n] 35)).drew) := ((Below.refl _ _).alloc (Nat.le_refl _) _).drew; clear ho2 hb2)
      obtain ⟨wB, HWB⟩ : ∃ wB, Hid ((w2.alloc (.cells #[.int .i64 at', .int .i64 n] 35)).drew = wB) := ⟨_, rfl⟩
      have HK : Hid (∀ w', Below wB.heap.size wB w' → w'.cell? ⟨w2.heap.size, 0, none⟩ = some (.int .i64 at') ∧ w'.cell? ⟨w2.heap.size, 1, none⟩ = some (.int .i64 n)) := fun w' hb => ⟨cell_later hb (by rw [← HWB.out]; exact hc0.1), cell_later hb (by rw [← HWB.out]; exact hc0.2)⟩
      have HBB : Hid (Below w2.heap.size w2 wB) := by rw [← HWB.out]; exact HB3.out
      have HBWB : Hid (Below W.heap.size W wB) := HB2.out.trans (HBB.out.mono HB2.out.size)
      have HOR : Hid (∀ w', Below wB.heap.size wB w' → OwnX w' W.heap.size 35 (.slice ao2 M cap2) R) := fun w' hb => (HO2.out.below HBB.out).below hb
      have HXL : Hid (∀ w', Below wB.heap.size wB w' → Xs w' (.slice ao N cap) l) := fun w' hb => (HX.out.below HBWB.out).below hb
      have HBR : Hid (Below wB.heap.size wB wB) := Below.refl _ _
      have hwt : IntKind.i64.wrap (ts + n) = ts + n := by simp [IntKind.wrap, IntKind.bits, IntKind.signed]; omega
      go_region_held_law (fun w' => w'.cell? ⟨w2.heap.size, 0, none⟩ = some (.int .i64 at') ∧ w'.cell? ⟨w2.heap.size, 1, none⟩ = some (.int .i64 n)) (first | exact HK.out _ (by assumption) | go_keep) (first | (go_at_call 8; rw [HWB.out]; refine (good_any _ R _ _ (HOR.out _ HBR.out).xs HRE.out (by rw [HM.out]; omega)).mono ?_; rintro e w4 ⟨rfl, hb4⟩; rw [HGD.out]; have HB4 : Hid (Below wB.heap.size wB w4) := hb4; have hbE := hb4.alloc hb4.size (.cells #[] 35); have hbX := hb4.alloc hb4.size (.cells #[.int .i64 at', .int .i64 n] 35); have hbEX := hbE.alloc hbE.size (.cells #[.int .i64 at', .int .i64 n] 35); have hbXE := hbX.alloc hbX.size (.cells #[] 35)) | (refine step_append_e (w := (w4.alloc (.cells #[] 35)).alloc (.cells #[.int .i64 at', .int .i64 n] 35)) 43 rfl (by rfl) (.tmp 41) (.tmp 42) 22 35 rfl i1 Try.underlying22 hi hz0 hz1 hz2 wB.heap.size _ R M HM.out ao2 cap2 rfl rfl ((OwnX.empty w4 wB.heap.size 35 hb4.size).below ((Below.refl _ _).alloc (Nat.le_refl _) (.cells #[.int .i64 at', .int .i64 n] 35))) (HOR.out _ hbEX).xs (by omega) hbEX.size ?_; intro ao5 cap5 w5 ho5 hg5; have hb5 : Below wB.heap.size wB w5 := hbEX.grown hg5 hbEX.size (fun j hj => (((OwnX.empty w4 wB.heap.size 35 hb4.size).below ((Below.refl _ _).alloc (Nat.le_refl _) (.cells #[.int .i64 at', .int .i64 n] 35))).lt j hj).1); have HO5 : Hid (OwnX w5 wB.heap.size 35 (.slice ao5 M cap5) R) := ho5; have HX5 : Hid (Xs w5 (.slice (some ⟨w4.heap.size + 1, 0, none⟩) 1 1) [(at', n)]) := (Xs.oneAt (w4.alloc (.cells #[] 35)) (w4.heap.size + 1) (at', n) 35 (by simp)).grownX hg5 (fun k hk => by cases hk; simp); clear ho5 hg5) | (refine step_append_e (w := (w4.alloc (.cells #[.int .i64 at', .int .i64 n] 35)).alloc (.cells #[] 35)) 43 rfl (by rfl) (.tmp 41) (.tmp 42) 22 35 rfl i1 Try.underlying22 hi hz0 hz1 hz2 wB.heap.size _ R M HM.out ao2 cap2 rfl rfl (OwnX.emptyAt (w4.alloc (.cells #[.int .i64 at', .int .i64 n] 35)) wB.heap.size (w4.heap.size + 1) 35 hbX.size (by simp)) (HOR.out _ hbXE).xs (by omega) hbXE.size ?_; intro ao5 cap5 w5 ho5 hg5; have hb5 : Below wB.heap.size wB w5 := hbXE.grown hg5 hbXE.size (fun j hj => ((OwnX.emptyAt (w4.alloc (.cells #[.int .i64 at', .int .i64 n] 35)) wB.heap.size (w4.heap.size + 1) 35 hbX.size (by simp)).lt j hj).1); have HO5 : Hid (OwnX w5 wB.heap.size 35 (.slice ao5 M cap5) R) := ho5; have HX5 : Hid (Xs w5 (.slice (some ⟨w4.heap.size, 0, none⟩) 1 1) [(at', n)]) := ((Xs.one w4 (at', n) 35).below ((Below.refl _ _).alloc (Nat.le_refl _) (.cells #[] 35))).grownX hg5 (fun k hk => by cases hk; simp); clear ho5 hg5) | (refine step_append_e (w := w4.alloc (.cells #[] 35)) 43 rfl (by rfl) (.tmp 41) (.tmp 42) 22 35 rfl i1 Try.underlying22 hi hz0 hz1 hz2 wB.heap.size _ R M HM.out ao2 cap2 rfl rfl (OwnX.empty w4 wB.heap.size 35 hb4.size) (HOR.out _ hbE).xs (by omega) hbE.size ?_; intro ao5 cap5 w5 ho5 hg5; have hb5 : Below wB.heap.size wB w5 := hbE.grown hg5 hbE.size (fun j hj => ((OwnX.empty w4 wB.heap.size 35 hb4.size).lt j hj).1); have HO5 : Hid (OwnX w5 wB.heap.size 35 (.slice ao5 M cap5) R) := ho5; clear ho5 hg5) | (refine step_append_g (w := w5) 46 rfl (by rfl) (.tmp 43) (.tmp 45) 22 35 rfl i1 Try.underlying22 hi hz0 hz1 hz2 wB.heap.size (.slice ao5 M cap5) R [(at', n)] M 1 HM.out rfl _ 1 rfl rfl HO5.out HX5.out (by omega) hb5.size ?_; intro ao6 cap6 w6 ho6 hg6; have hb6 : Below wB.heap.size wB w6 := hb5.grown hg6 hb5.size (fun j hj => (HO5.out.lt j hj).1); have HO6 : Hid (OwnX w6 wB.heap.size 35 (.slice ao6 (M + 1) cap6) (R ++ [(at', n)])) := ho6; clear ho6 hg6) | (refine step_append_g (w := w5.alloc (.cells #[.int .i64 at', .int .i64 n] 35)) 46 rfl (by rfl) (.tmp 43) (.tmp 45) 22 35 rfl i1 Try.underlying22 hi hz0 hz1 hz2 wB.heap.size (.slice ao5 M cap5) R [(at', n)] M 1 HM.out rfl _ 1 rfl rfl (HO5.out.below ((Below.refl _ _).alloc (Nat.le_refl _) _)) (Xs.oneAt _ _ (at', n) 35 rfl) (by omega) (hb5.alloc hb5.size (.cells #[.int .i64 at', .int .i64 n] 35)).size ?_; intro ao6 cap6 w6 ho6 hg6; have hb6 : Below wB.heap.size wB w6 := (hb5.alloc hb5.size (.cells #[.int .i64 at', .int .i64 n] 35)).grown hg6 (hb5.alloc hb5.size (.cells #[.int .i64 at', .int .i64 n] 35)).size (fun j hj => (HO5.out.lt j hj).1); have HO6 : Hid (OwnX w6 wB.heap.size 35 (.slice ao6 (M + 1) cap6) (R ++ [(at', n)])) := ho6; clear ho6 hg6) | (go_at_call 10; refine (meets_any _ (R ++ [(at', n)]) _ HO6.out.xs HME.out (by rw [List.length_append, HM.out]; simp; omega)).mono ?_; rintro e w7 ⟨rfl, hb7'⟩; rw [HMT.out]; have hb7 : Below wB.heap.size wB w7 := hb6.trans (hb7'.mono hb6.size); clear hb7') | (go_at_call 9; refine (total_any _ R _ (HOR.out _ hb7).xs HRE.out (by rw [HM.out]; omega)).mono ?_; rintro e w8 ⟨rfl, hb8'⟩; rw [HTS.out]; have hb8 : Below wB.heap.size wB w8 := hb7.trans (hb8'.mono hb7.size); clear hb8' hb7) | (go_at_call 9; refine (total_any _ l _ (HXL.out _ hb8) HE.out (by rw [HN.out]; omega)).mono ?_; rintro e w9 ⟨rfl, hb9'⟩; rw [HTL2.out]; have hb9 : Below wB.heap.size wB w9 := hb8.trans (hb9'.mono hb8.size); clear hb9'))
      all_goals
        have HB9 : Hid (Below wB.heap.size wB w9) := hb9
        obtain ⟨q1, q2⟩ := HK.out _ hb9
        have HBW9 : Hid (Below W.heap.size W w9) := HBWB.out.trans (hb9.mono HBWB.out.size)
        clear hb9
        go_wp2_with fail
        refine (give_any _ R at' n _ (HOR.out _ HB9.out).xs HRE.out HXW.out (by rw [HM.out]; omega)).mono ?_
        rintro e w10 ⟨x10, rfl, ho10, hb10⟩
        rw [HGL.out] at ho10
        rw [HGE.out]
        have HO10 : Hid (OwnX w10 w9.heap.size 35 x10 l) := ho10
        have HBW10 : Hid (Below W.heap.size W w10) := HBW9.out.trans (hb10.mono HBW9.out.size)
        clear ho10 hb10
        go_wp2_with fail
        refine (plain_any _ l _ (HX.out.below HBW10.out) (by rw [HN.out]; omega)).mono ?_
        rintro e w11 ⟨ao11, cap11, rfl, ho11, hb11⟩
        have HO11 : Hid (OwnX w11 w10.heap.size 48 (.slice ao11 l.length cap11) l) := ho11
        have HB11 : Hid (Below w10.heap.size w10 w11) := hb11
        have HBW11 : Hid (Below W.heap.size W w11) := HBW10.out.trans (hb11.mono HBW10.out.size)
        clear ho11 hb11
        go_wp2_with fail
        refine (same_any _ _ l l _ (HO10.out.xs.below HB11.out) HO11.out.xs (by rw [HN.out]; omega) (by rw [HN.out]; omega)).mono ?_
        rintro e w12 ⟨rfl, hb12⟩
        rw [show decide (l = l) = true by simp]
        have HBW12 : Hid (Below W.heap.size W w12) := HBW11.out.trans (hb12.mono HBW11.out.size)
        clear hb12
        go_wp2_with fail
        refine (lives_any _).mono ?_
        rintro e w13 ⟨rfl, hb13⟩
        go_wp2_with fail
        go_ret
        exact ⟨rfl, HBW12.out.trans (hb13.mono HBW12.out.size)⟩
    · have HTA : Hid (takeAt l n = 0 ∧ takeList l n = []) := by unfold Hid takeAt takeList; rw [if_neg he, if_neg he]; exact ⟨rfl, rfl⟩
      have HTK : Hid _ := take_any _ l n W HX.out HE.out (by rw [HN.out]; omega)
      rw [HTA.out.1, HTA.out.2] at HTK
      have hq0 : (takeErr l n != 0) = true := by simp [he]
      generalize takeErr l n = te at *
      clear he
      go_enter Try.func4, Try.ntmps4
      go_wp2_with (first | (go_at_call 12; refine Calls.mono HTK.out ?_; rintro e w2 ⟨ao2, cap2, rfl, ho2, hb2⟩; have HB2 : Hid (Below W.heap.size W w2) := hb2; clear ho2 hb2) | (go_at_call 5; refine (lives_any _).mono ?_; rintro e w3 ⟨rfl, hb3⟩))
      go_ret
      exact ⟨rfl, HB2.out.trans (hb3.mono HB2.out.size)⟩
end Go.Proofs.Ytbpaiioonljlpac
