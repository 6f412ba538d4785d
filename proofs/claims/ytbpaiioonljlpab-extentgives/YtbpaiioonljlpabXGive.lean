/-
  The walk of Give. Conditions: the numbers are ints, the list's length is one that memory bears.
-/
import Derived.Test.YtbpaiioonljlpabXTotal
import Derived.Test.YtbpaiioonljlpabXConcat
import Derived.Test.YtbpaiioonljlpabXTake
namespace Go.Proofs.Ytbpaiioonljlpab
open Go.RowKit Go.Sort Go.Shelf Go.Lib
set_option linter.unusedVariables false
set_option maxRecDepth 100000

def gvOk (l : List Ext) (x : Ext) : Bool := goodB l 4194304 && mayB x
def giveErr (l : List Ext) (x : Ext) : Int := if gvOk l x = true then (if meetsB (l ++ [x]) = true then 11 else if 65536 < (normL (l ++ [x])).length then 3 else 0) else 2
def giveList (l : List Ext) (x : Ext) : List Ext := if giveErr l x = 0 then normL (l ++ [x]) else []

set_option maxHeartbeats 4000000 in
theorem give_any (v : Value) (l : List Ext) (a s : Int) (w : World) (hl : Xs w v l) (hE : EWs l) (hx : EW (a, s)) (hn : l.length ≤ 8796093022207) :
    Calls Try.prog 27 #[v, .agg #[.int .i64 a, .int .i64 s]] w fun e w' => ∃ x, e = .returned (.tuple #[x, .int .i64 (giveErr l (a, s))]) ∧ OwnX w' w.heap.size 48 x (giveList l (a, s)) ∧ Below w.heap.size w w' := by
  have HX : Hid (Xs w v l) := hl
  have HE : Hid (EWs l) := hE
  have HXE : Hid (EW (a, s)) := hx
  obtain ⟨ao, cap, rfl, hcap, _⟩ := hl.opened
  clear hl hE hx
  have HB0 : Hid (Below w.heap.size w (w.alloc (.cells #[.int .i64 a, .int .i64 s] 48))) := (Below.refl _ _).alloc (Nat.le_refl _) _
  have hc0 := cells_pairX (heap_alloc_new w (.cells #[.int .i64 a, .int .i64 s] 48))
  obtain ⟨N, HN⟩ : ∃ N, Hid (l.length = N) := ⟨_, rfl⟩
  rw [HN.out] at hcap hn HX ⊢
  cases hg : goodB l 4194304 with
  | false =>
    have HR : Hid (giveErr l (a, s) = 2 ∧ giveList l (a, s) = []) := by have h : giveErr l (a, s) = 2 := by { unfold giveErr gvOk; rw [hg]; rfl }; unfold giveList; rw [h]; exact ⟨rfl, rfl⟩
    go_enter Try.func27, Try.ntmps27
    go_wp2_with (go_at_call 11; refine (good_any _ l _ _ (HX.out.below HB0.out) HE.out (by rw [HN.out]; omega)).mono ?_; rintro e w1 ⟨rfl, hb1⟩; rw [hg])
    go_ret2
    rw [HR.out.1, HR.out.2]
    exact ⟨_, rfl, OwnX.nil _ _ _, HB0.out.trans (hb1.mono HB0.out.size)⟩
  | true =>
    have HG : Hid (goodB l 4194304 = true) := hg
    clear hg
    cases hm : mayB (a, s) with
    | false =>
      have HR : Hid (giveErr l (a, s) = 2 ∧ giveList l (a, s) = []) := by have h : giveErr l (a, s) = 2 := by { unfold giveErr gvOk; rw [HG.out, hm]; rfl }; unfold giveList; rw [h]; exact ⟨rfl, rfl⟩
      go_enter Try.func27, Try.ntmps27
      go_wp2_with (first | (go_at_call 11; refine (good_any _ l _ _ (HX.out.below HB0.out) HE.out (by rw [HN.out]; omega)).mono ?_; rintro e w1 ⟨rfl, hb1⟩; rw [HG.out]; have e1 := cell_later hb1 hc0.1; have e2 := cell_later hb1 hc0.2; have HB1 : Hid (Below w.heap.size w w1) := HB0.out.trans (hb1.mono HB0.out.size); clear hb1) | (go_at_call 33; refine (mayBe_any _ _ _ HXE.out).mono ?_; rintro e w2 ⟨rfl, hb2⟩; rw [hm]))
      go_ret2
      rw [HR.out.1, HR.out.2]
      exact ⟨_, rfl, OwnX.nil _ _ _, HB1.out.trans (hb2.mono HB1.out.size)⟩
    | true =>
      have HM : Hid (mayB (a, s) = true) := hm
      clear hm
      have HOK : Hid (gvOk l (a, s) = true) := by unfold Hid gvOk; rw [HG.out, HM.out]; rfl
      have HEW : Hid (EWs (l ++ [(a, s)])) := fun x hx => by
        rcases List.mem_append.1 hx with h | h
        · exact HE.out x h
        · simp at h; subst h; exact HXE.out
      have HLL : Hid ((l ++ [(a, s)]).length = N + 1) := by unfold Hid; rw [List.length_append, HN.out]; rfl
      cases hmt : meetsB (l ++ [(a, s)]) with
      | true =>
        have HR : Hid (giveErr l (a, s) = 11 ∧ giveList l (a, s) = []) := by have h : giveErr l (a, s) = 11 := by { unfold giveErr; rw [HOK.out, hmt]; rfl }; unfold giveList; rw [h]; exact ⟨rfl, rfl⟩
        go_enter Try.func27, Try.ntmps27
        go_wp2_with (first | (go_at_call 11; refine (good_any _ l _ _ (HX.out.below HB0.out) HE.out (by rw [HN.out]; omega)).mono ?_; rintro e w1 ⟨rfl, hb1⟩; rw [HG.out]; have e1 := cell_later hb1 hc0.1; have e2 := cell_later hb1 hc0.2; have HB1 : Hid (Below w.heap.size w w1) := HB0.out.trans (hb1.mono HB0.out.size); clear hb1) | (go_at_call 33; refine (mayBe_any _ _ _ HXE.out).mono ?_; rintro e w2 ⟨rfl, hb2⟩; rw [HM.out]; have g1 := cell_later hb2 e1; have g2 := cell_later hb2 e2; have HB2 : Hid (Below w.heap.size w w2) := HB1.out.trans (hb2.mono HB1.out.size); clear hb2) | (go_at_call 41; refine (concat_any _ _ _ l [(a, s)] _ (newPair _ _ _ _ _ (by simp)).1 (newPair _ _ _ _ _ (by simp)).2 (HX.out.below ((HB2.out.alloc HB2.out.size _).alloc (HB2.out.alloc HB2.out.size _).size _)) ((Xs.oneAt _ _ (a, s) _ rfl).below ((Below.refl _ _).alloc (Nat.le_refl _) _)) (by rw [HN.out]; simp; omega)).mono ?_; rintro e w3 ⟨ao3, cap3, rfl, ho3, hb3⟩; have hb2a := (HB2.out.alloc HB2.out.size (.cells #[.int .i64 a, .int .i64 s] 48)); have HO3 : Hid (OwnX w3 w.heap.size 48 (.slice ao3 (l.length + [(a, s)].length) cap3) (l ++ [(a, s)])) := ho3.mono ((hb2a.alloc hb2a.size _).size); have HB3 : Hid (Below w.heap.size w w3) := (hb2a.alloc hb2a.size _).trans (hb3.mono (hb2a.alloc hb2a.size _).size); clear ho3 hb3) | (go_at_call 36; refine (inOrder_any _ (l ++ [(a, s)]) _ HO3.out.xs HEW.out (by rw [HLL.out]; omega)).mono ?_; rintro e w4 ⟨ao4, cap4, m, rfl, hp4, ho4, hx4, hb4⟩; have HM4 : Hid (m.Perm ((l ++ [(a, s)]).filter fitB)) := hp4; have HO4 : Hid (InOrd m) := ho4; have HX4 : Hid (OwnX w4 w3.heap.size 48 (.slice ao4 m.length cap4) m) := hx4; have HB4 : Hid (Below w.heap.size w w4) := HB3.out.trans (hb4.mono HB3.out.size); have HML : Hid (m.length ≤ 8796093022208) := (by rw [HM4.out.length_eq]; have h1 := List.length_filter_le fitB (l ++ [(a, s)]); rw [HLL.out] at h1; unfold Hid; omega); clear hp4 ho4 hx4 hb4) | (go_at_call 35; refine (overlap_any _ m _ HX4.out.xs (fit_perm HM4.out) (by have := HML.out; omega)).mono ?_; rintro e w5 ⟨rfl, hb5⟩; rw [overFrom_meets (fit_perm HM4.out) HO4.out, meetsB_perm HM4.out, meetsB_filter, hmt]; have HB5 : Hid (Below w4.heap.size w4 w5) := hb5; have HBW5 : Hid (Below w.heap.size w w5) := HB4.out.trans (hb5.mono HB4.out.size); clear hb5))
        go_ret2
        rw [HR.out.1, HR.out.2]
        exact ⟨_, rfl, OwnX.nil _ _ _, HBW5.out⟩
      | false =>
        have HMT : Hid (meetsB (l ++ [(a, s)]) = false) := hmt
        clear hmt
        obtain ⟨Z, HZ⟩ : ∃ Z, Hid ((normL (l ++ [(a, s)])).length = Z) := ⟨_, rfl⟩
        have hZ : Z ≤ N + 1 := by
          have h1 := joinL_length (sortE (l ++ [(a, s)]))
          have h2 := (sortE_perm (l ++ [(a, s)])).length_eq
          have h3 := List.length_filter_le fitB (l ++ [(a, s)])
          rw [HLL.out] at h3
          have h4 := HZ.out
          unfold normL at h4
          omega
        by_cases hbig : 65536 < Z
        · have HR : Hid (giveErr l (a, s) = 3 ∧ giveList l (a, s) = []) := by have h : giveErr l (a, s) = 3 := by { unfold giveErr; rw [HOK.out, HMT.out, HZ.out, if_pos hbig]; rfl }; unfold giveList; rw [h]; exact ⟨rfl, rfl⟩
          go_enter Try.func27, Try.ntmps27
          go_wp2_with (first | (go_at_call 11; refine (good_any _ l _ _ (HX.out.below HB0.out) HE.out (by rw [HN.out]; omega)).mono ?_; rintro e w1 ⟨rfl, hb1⟩; rw [HG.out]; have e1 := cell_later hb1 hc0.1; have e2 := cell_later hb1 hc0.2; have HB1 : Hid (Below w.heap.size w w1) := HB0.out.trans (hb1.mono HB0.out.size); clear hb1) | (go_at_call 33; refine (mayBe_any _ _ _ HXE.out).mono ?_; rintro e w2 ⟨rfl, hb2⟩; rw [HM.out]; have g1 := cell_later hb2 e1; have g2 := cell_later hb2 e2; have HB2 : Hid (Below w.heap.size w w2) := HB1.out.trans (hb2.mono HB1.out.size); clear hb2) | (go_at_call 41; refine (concat_any _ _ _ l [(a, s)] _ (newPair _ _ _ _ _ (by simp)).1 (newPair _ _ _ _ _ (by simp)).2 (HX.out.below ((HB2.out.alloc HB2.out.size _).alloc (HB2.out.alloc HB2.out.size _).size _)) ((Xs.oneAt _ _ (a, s) _ rfl).below ((Below.refl _ _).alloc (Nat.le_refl _) _)) (by rw [HN.out]; simp; omega)).mono ?_; rintro e w3 ⟨ao3, cap3, rfl, ho3, hb3⟩; have hb2a := (HB2.out.alloc HB2.out.size (.cells #[.int .i64 a, .int .i64 s] 48)); have HO3 : Hid (OwnX w3 w.heap.size 48 (.slice ao3 (l.length + [(a, s)].length) cap3) (l ++ [(a, s)])) := ho3.mono ((hb2a.alloc hb2a.size _).size); have HB3 : Hid (Below w.heap.size w w3) := (hb2a.alloc hb2a.size _).trans (hb3.mono (hb2a.alloc hb2a.size _).size); clear ho3 hb3) | (go_at_call 36; refine (inOrder_any _ (l ++ [(a, s)]) _ HO3.out.xs HEW.out (by rw [HLL.out]; omega)).mono ?_; rintro e w4 ⟨ao4, cap4, m, rfl, hp4, ho4, hx4, hb4⟩; have HM4 : Hid (m.Perm ((l ++ [(a, s)]).filter fitB)) := hp4; have HO4 : Hid (InOrd m) := ho4; have HX4 : Hid (OwnX w4 w3.heap.size 48 (.slice ao4 m.length cap4) m) := hx4; have HB4 : Hid (Below w.heap.size w w4) := HB3.out.trans (hb4.mono HB3.out.size); have HML : Hid (m.length ≤ 8796093022208) := (by rw [HM4.out.length_eq]; have h1 := List.length_filter_le fitB (l ++ [(a, s)]); rw [HLL.out] at h1; unfold Hid; omega); clear hp4 ho4 hx4 hb4) | (go_at_call 35; refine (overlap_any _ m _ HX4.out.xs (fit_perm HM4.out) (by have := HML.out; omega)).mono ?_; rintro e w5 ⟨rfl, hb5⟩; rw [overFrom_meets (fit_perm HM4.out) HO4.out, meetsB_perm HM4.out, meetsB_filter, HMT.out]; have HB5 : Hid (Below w4.heap.size w4 w5) := hb5; have HBW5 : Hid (Below w.heap.size w w5) := HB4.out.trans (hb5.mono HB4.out.size); clear hb5) | (go_at_call 38; refine (joined_any _ m _ (HX4.out.xs.below HB5.out) (fit_perm HM4.out) HO4.out HML.out).mono ?_; rintro e w6 ⟨ao6, cap6, rfl, hx6, hb6⟩; rw [joinL_sorted HM4.out HO4.out] at hx6 ⊢; rw [HZ.out] at hx6 ⊢; have HX6 : Hid (OwnX w6 w5.heap.size 48 (.slice ao6 Z cap6) (normL (l ++ [(a, s)]))) := hx6; have HBW6 : Hid (Below w.heap.size w w6) := HBW5.out.trans (hb6.mono HBW5.out.size); clear hx6 hb6))
          go_ret2
          rw [HR.out.1, HR.out.2]
          exact ⟨_, rfl, OwnX.nil _ _ _, HBW6.out⟩
        · have HR : Hid (giveErr l (a, s) = 0 ∧ giveList l (a, s) = normL (l ++ [(a, s)])) := by have h : giveErr l (a, s) = 0 := by { unfold giveErr; rw [HOK.out, HMT.out, HZ.out, if_neg hbig]; rfl }; unfold giveList; rw [h]; exact ⟨rfl, rfl⟩
          go_enter Try.func27, Try.ntmps27
          go_wp2_with (first | (go_at_call 11; refine (good_any _ l _ _ (HX.out.below HB0.out) HE.out (by rw [HN.out]; omega)).mono ?_; rintro e w1 ⟨rfl, hb1⟩; rw [HG.out]; have e1 := cell_later hb1 hc0.1; have e2 := cell_later hb1 hc0.2; have HB1 : Hid (Below w.heap.size w w1) := HB0.out.trans (hb1.mono HB0.out.size); clear hb1) | (go_at_call 33; refine (mayBe_any _ _ _ HXE.out).mono ?_; rintro e w2 ⟨rfl, hb2⟩; rw [HM.out]; have g1 := cell_later hb2 e1; have g2 := cell_later hb2 e2; have HB2 : Hid (Below w.heap.size w w2) := HB1.out.trans (hb2.mono HB1.out.size); clear hb2) | (go_at_call 41; refine (concat_any _ _ _ l [(a, s)] _ (newPair _ _ _ _ _ (by simp)).1 (newPair _ _ _ _ _ (by simp)).2 (HX.out.below ((HB2.out.alloc HB2.out.size _).alloc (HB2.out.alloc HB2.out.size _).size _)) ((Xs.oneAt _ _ (a, s) _ rfl).below ((Below.refl _ _).alloc (Nat.le_refl _) _)) (by rw [HN.out]; simp; omega)).mono ?_; rintro e w3 ⟨ao3, cap3, rfl, ho3, hb3⟩; have hb2a := (HB2.out.alloc HB2.out.size (.cells #[.int .i64 a, .int .i64 s] 48)); have HO3 : Hid (OwnX w3 w.heap.size 48 (.slice ao3 (l.length + [(a, s)].length) cap3) (l ++ [(a, s)])) := ho3.mono ((hb2a.alloc hb2a.size _).size); have HB3 : Hid (Below w.heap.size w w3) := (hb2a.alloc hb2a.size _).trans (hb3.mono (hb2a.alloc hb2a.size _).size); clear ho3 hb3) | (go_at_call 36; refine (inOrder_any _ (l ++ [(a, s)]) _ HO3.out.xs HEW.out (by rw [HLL.out]; omega)).mono ?_; rintro e w4 ⟨ao4, cap4, m, rfl, hp4, ho4, hx4, hb4⟩; have HM4 : Hid (m.Perm ((l ++ [(a, s)]).filter fitB)) := hp4; have HO4 : Hid (InOrd m) := ho4; have HX4 : Hid (OwnX w4 w3.heap.size 48 (.slice ao4 m.length cap4) m) := hx4; have HB4 : Hid (Below w.heap.size w w4) := HB3.out.trans (hb4.mono HB3.out.size); have HML : Hid (m.length ≤ 8796093022208) := (by rw [HM4.out.length_eq]; have h1 := List.length_filter_le fitB (l ++ [(a, s)]); rw [HLL.out] at h1; unfold Hid; omega); clear hp4 ho4 hx4 hb4) | (go_at_call 35; refine (overlap_any _ m _ HX4.out.xs (fit_perm HM4.out) (by have := HML.out; omega)).mono ?_; rintro e w5 ⟨rfl, hb5⟩; rw [overFrom_meets (fit_perm HM4.out) HO4.out, meetsB_perm HM4.out, meetsB_filter, HMT.out]; have HB5 : Hid (Below w4.heap.size w4 w5) := hb5; have HBW5 : Hid (Below w.heap.size w w5) := HB4.out.trans (hb5.mono HB4.out.size); clear hb5) | (go_at_call 38; refine (joined_any _ m _ (HX4.out.xs.below HB5.out) (fit_perm HM4.out) HO4.out HML.out).mono ?_; rintro e w6 ⟨ao6, cap6, rfl, hx6, hb6⟩; rw [joinL_sorted HM4.out HO4.out] at hx6 ⊢; rw [HZ.out] at hx6 ⊢; have HX6 : Hid (OwnX w6 w5.heap.size 48 (.slice ao6 Z cap6) (normL (l ++ [(a, s)]))) := hx6; have HBW6 : Hid (Below w.heap.size w w6) := HBW5.out.trans (hb6.mono HBW5.out.size); clear hx6 hb6))
          go_ret2
          rw [HR.out.1, HR.out.2]
          exact ⟨_, rfl, HX6.out.mono HBW5.out.size, HBW6.out⟩
end Go.Proofs.Ytbpaiioonljlpab
