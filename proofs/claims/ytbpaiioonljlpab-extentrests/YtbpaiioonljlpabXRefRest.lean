/-
  The walk of the document's Rest. Conditions: the numbers are ints, the list's length is one that memory bears.
-/
import Derived.Test.YtbpaiioonljlpabXRefNormal
import Derived.Test.YtbpaiioonljlpabXRest
namespace Go.Proofs.Ytbpaiioonljlpab
open Go.RowKit Go.Sort Go.Shelf Go.Lib
set_option linter.unusedVariables false
set_option maxRecDepth 100000

theorem normErr_len {l : List Ext} (he : normErr l = 0) : l.length ≤ 65536 := by
  unfold normErr at he
  split at he <;> omega
theorem normL_len (l : List Ext) : (normL l).length ≤ l.length := by
  have h1 := joinL_length (sortE l)
  have h2 := (sortE_perm l).length_eq
  have h3 := List.length_filter_le fitB l
  unfold normL; omega
theorem normL_fit (l : List Ext) : ∀ x ∈ normL l, 0 ≤ x.1 ∧ 1 ≤ x.2 ∧ x.1 + x.2 ≤ 4194304 := fun x hx =>
  fitB_iff.1 (joinL_fit (fit_perm (sortE_perm l)) (sortE_ord l) x hx)
theorem norm_good_of {l : List Ext} {size : Int} (he : normErr l = 0) (hs : szB size = true) (h : ∀ x ∈ normL l, x.1 + x.2 ≤ size) : goodB (normL l) size = true := by
  have h1 := normErr_len he
  have h2 := normL_len l
  refine goodB_iff.2 ⟨szB_iff.1 hs, by omega, goodFrom_of_sep (joinL_sep (fit_one (fit_perm (sortE_perm l))) (sortE_ord l)).1 fun x hx => ?_⟩
  have h3 := normL_fit l x hx
  have h4 := h x hx
  exact ⟨h3.1, h3.1, h4⟩
theorem norm_good_not {l : List Ext} {size : Int} {x : Ext} (hx : x ∈ l) (h : size < x.1 + x.2) : goodB l size = false := by
  rw [← Bool.not_eq_true]
  intro hg
  have := (goodFrom_sep (goodB_iff.1 hg).2.2).2 x hx
  omega

set_option maxHeartbeats 8000000 in
theorem refRest_any (v : Value) (l : List Ext) (size : Int) (w : World) (hl : Xs w v l) (hE : EWs l) (hn : l.length ≤ 8796093022208) :
    Calls Try.prog 24 #[v, .int .i64 size] w fun e w' => ∃ x, e = .returned (.tuple #[x, .int .i64 (restErr l size)]) ∧ OwnX w' w.heap.size 51 x (restList l size) ∧ Below w.heap.size w w' := by
  obtain ⟨i1, hi, hz0, hz1, hz2⟩ := info_parts Try.infoR
  have HX : Hid (Xs w v l) := hl
  have HE : Hid (EWs l) := hE
  clear hl hE
  by_cases s1 : size < 0
  · have HR : Hid (restErr l size = 2 ∧ restList l size = []) := by have h : restErr l size = 2 := by { unfold restErr; rw [if_neg (by rw [szB_iff]; omega)] }; unfold restList; rw [h]; exact ⟨rfl, rfl⟩
    go_enter Try.func24, Try.ntmps24
    go_wp2
    go_ret2
    rw [HR.out.1, HR.out.2]
    exact ⟨_, rfl, OwnX.nil _ _ _, Below.refl _ _⟩
  · by_cases s2 : 4194304 < size
    · have HR : Hid (restErr l size = 2 ∧ restList l size = []) := by have h : restErr l size = 2 := by { unfold restErr; rw [if_neg (by rw [szB_iff]; omega)] }; unfold restList; rw [h]; exact ⟨rfl, rfl⟩
      go_enter Try.func24, Try.ntmps24
      go_wp2
      go_ret2
      rw [HR.out.1, HR.out.2]
      exact ⟨_, rfl, OwnX.nil _ _ _, Below.refl _ _⟩
    · have HS : Hid (szB size = true) := szB_iff.2 ⟨by omega, by omega⟩
      by_cases he : normErr l = 0
      · have HNK : Hid (Calls Try.prog 20 #[v] w fun e w' => ∃ ao cap, e = .returned (.tuple #[.slice ao (normL l).length cap, .int .i64 0]) ∧ OwnX w' w.heap.size 51 (.slice ao (normL l).length cap) (normL l) ∧ Below w.heap.size w w') := by
          have h := refNormal_any v l w HX.out HE.out hn
          rw [show normList l = normL l by unfold normList; rw [he]; rfl, he] at h
          exact h
        have HQF : Hid (∀ x ∈ normL l, 0 ≤ x.1 ∧ 1 ≤ x.2 ∧ x.1 + x.2 ≤ 4194304) := normL_fit l
        have hqn : (normL l).length ≤ 65536 := by have h1 := normErr_len he; have h2 := normL_len l; omega
        have HGN : Hid (∀ x ∈ normL l, size < x.1 + x.2 → restErr l size = 2 ∧ restList l size = []) := fun x hx h => by
          have h : restErr l size = 2 := by { unfold restErr; rw [HS.out, he, norm_good_not hx h]; rfl }
          unfold restList; rw [h]; exact ⟨rfl, rfl⟩
        have HGY : Hid ((∀ x ∈ normL l, x.1 + x.2 ≤ size) → (65536 < (gapsL (normL l) size).length → restErr l size = 3 ∧ restList l size = []) ∧ (¬ 65536 < (gapsL (normL l) size).length → restErr l size = 0 ∧ restList l size = gapsL (normL l) size)) := fun h => by
          have hg := norm_good_of he HS.out h
          constructor
          · intro hb
            have h : restErr l size = 3 := by { unfold restErr; rw [HS.out, he, hg, if_pos hb]; rfl }
            unfold restList; rw [h]; exact ⟨rfl, rfl⟩
          · intro hb
            have h : restErr l size = 0 := by { unfold restErr; rw [HS.out, he, hg, if_neg hb]; rfl }
            unfold restList; rw [h]; exact ⟨rfl, rfl⟩
        clear he
        generalize normL l = Q at *
        obtain ⟨q, HQL⟩ : ∃ q, Hid (Q.length = q) := ⟨_, rfl⟩
        rw [HQL.out] at hqn HNK
        go_enter Try.func24, Try.ntmps24
        go_wp2_with (go_at_call 20; refine Calls.mono HNK.out ?_; rintro e w1 ⟨ao1, cap1, rfl, ho1, hb1⟩; have HX1 : Hid (OwnX w1 w.heap.size 51 (.slice ao1 q cap1) Q) := ho1; have HB1 : Hid (Below w.heap.size w w1) := hb1; clear ho1 hb1)
        obtain ⟨_, _, hv1, hcp1, hcell1⟩ := HX1.out.xs.opened
        have HC : Hid (∀ i, i < Q.length → ∃ b off, ao1 = some ⟨b, off, none⟩ ∧ w1.cell? ⟨b, off + i * 2, none⟩ = some (.int .i64 (Q.getD i (0, 0)).1) ∧ w1.cell? ⟨b, off + i * 2 + 1, none⟩ = some (.int .i64 (Q.getD i (0, 0)).2) ∧ b < w1.heap.size) := by injection hv1 with e1 e2 e3; subst e1; exact hcell1
        have hcp : q ≤ cap1 := by injection hv1 with e1 e2 e3; subst e3; rw [HQL.out] at hcp1; exact hcp1
        clear hv1 hcell1 hcp1 HNK
        go_loopw [8, 9, 10] (fun o t i wr => ∃ (k n c : Nat) (a : Option Addr), k ≤ q ∧ i = .int .i64 (k : Int) ∧ t = .int .i64 (gapsTo (Q.take k)).1 ∧ o = .slice a n c ∧ Hid ((gapsTo (Q.take k)).2.length = n) ∧ Hid (OwnX wr w1.heap.size 51 (.slice a n c) (gapsTo (Q.take k)).2) ∧ Hid (∀ x ∈ Q.take k, x.1 + x.2 ≤ size) ∧ Hid (Below w1.heap.size w1 wr)) (fun _ _ i _ => q - (intOf i).toNat)
        case atStart => exact ⟨0, 0, 0, none, Nat.zero_le _, rfl, rfl, rfl, rfl, OwnX.nil _ _ _, (fun x hx => by simp at hx), Below.refl _ _⟩
        case round =>
          obtain ⟨k, n, c, a, hk, rfl, rfl, rfl, HL, HO, HA, HB⟩ := hrel
          have hbd := gapsTo_bd (l := Q.take k) (fun x hx => by have := HQF.out x (List.take_subset k Q hx); omega)
          have hnk : n ≤ k := by have h1 := gapsTo_length (Q.take k); have h2 := List.length_take_le k Q; have := HL.out; omega
          by_cases hlt : k < q
          · have hkl : k < Q.length := by rw [HQL.out]; exact hlt
            obtain ⟨b, off, rfl, c1, c2, hb⟩ := HC.out k hkl
            have d1 := (HB.out.cell (p := ⟨b, off + k * 2, none⟩) hb).trans c1
            have d2 := (HB.out.cell (p := ⟨b, off + k * 2 + 1, none⟩) hb).trans c2
            have hx := HQF.out _ (getD_mem hkl)
            have HG : Hid (gapsTo (Q.take (k + 1)) = ((Q.getD k (0, 0)).1 + (Q.getD k (0, 0)).2, (gapsTo (Q.take k)).2 ++ gapB (gapsTo (Q.take k)).1 (Q.getD k (0, 0)).1)) := by unfold Hid; rw [take_snoc Q hkl, gapsTo_snoc]
            have HT : Hid (Q.take (k + 1) = Q.take k ++ [Q.getD k (0, 0)]) := take_snoc Q hkl
            have HM : Hid (Q.getD k (0, 0) ∈ Q) := getD_mem hkl
            have HC1 : Hid (∀ w', Below w1.heap.size w1 w' → w'.cell? ⟨b, off + k * 2, none⟩ = some (.int .i64 (Q.getD k (0, 0)).1) ∧ w'.cell? ⟨b, off + k * 2 + 1, none⟩ = some (.int .i64 (Q.getD k (0, 0)).2)) := fun w' h => ⟨(h.cell (p := ⟨b, off + k * 2, none⟩) hb).trans c1, (h.cell (p := ⟨b, off + k * 2 + 1, none⟩) hb).trans c2⟩
            clear c1 c2
            generalize Q.getD k (0, 0) = x at *
            generalize (gapsTo (Q.take k)).1 = ra at *
            generalize (gapsTo (Q.take k)).2 = rl at *
            obtain ⟨xa, xs⟩ := x
            dsimp only at d1 d2 hx HC1
            obtain ⟨x1, x2, x3⟩ := hx
            by_cases hov : size < xa + xs
            · have hov' : decide (size < xa + xs) = true := by simpa using hov
              have HR : Hid (restErr l size = 2 ∧ restList l size = []) := HGN.out _ HM.out (by dsimp only; exact hov)
              go_wp2
              go_quiet (fail)
              go_wp2
              go_ret2
              rw [HR.out.1, HR.out.2]
              exact ⟨_, rfl, OwnX.nil _ _ _, HB1.out.trans ((below_drewN HB.out nq).mono HB1.out.size)⟩
            · have hov' : decide (size < xa + xs) = false := by simpa using hov
              have HA1 : Hid (∀ x ∈ Q.take (k + 1), x.1 + x.2 ≤ size) := fun y hy => by
                rw [HT.out] at hy
                rcases List.mem_append.1 hy with h | h
                · exact HA.out y h
                · rw [List.mem_singleton.1 h]; dsimp only; omega
              by_cases hgp : ra < xa
              · have hgp' : decide (ra < xa) = true := by simpa using hgp
                have HGB : Hid (gapB ra xa = [(ra, xa - ra)]) := by unfold Hid gapB; rw [if_pos hgp]
                go_wp2
                go_quiet (fail)
                have HO1 : Hid (OwnX (wr.drewN nq) w1.heap.size 51 (.slice a n c) rl) := HO.out.below (below_drewN (Below.refl _ _) nq)
                have HBQ : Hid (Below w1.heap.size w1 (wr.drewN nq)) := below_drewN HB.out nq
                obtain ⟨e1, e2⟩ := HC1.out _ HBQ.out
                obtain ⟨wq, HWQ⟩ : ∃ wq, wr.drewN nq = wq := ⟨_, rfl⟩
                rw [HWQ] at HO1 HBQ e1 e2 ⊢
                clear HWQ d1 d2
                go_wp2_with (at_builtin; refine wpList_append_x _ rfl (.tmp 51) (.tmp 61) 28 51 rfl i1 Try.underlying28 hi hz0 hz1 hz2 w1.heap.size _ _ rl [(ra, xa - ra)] rfl rfl (HO1.out.below ((Below.refl _ _).alloc (Nat.le_refl _) _)) (Xs.oneAt _ _ (ra, xa - ra) _ rfl) (by rw [HL.out]; simp; omega) (by have h1 := HBQ.out.size; simp; omega) ?_; intro ao3 cap3 w3 ho3 hg3 hc3 hne3; rw [HL.out] at ho3 hc3; simp only [List.length_cons, List.length_nil] at ho3 hc3 ⊢; rw [HL.out]; have HB3 : Hid (Below w1.heap.size w1 w3) := (HBQ.out.alloc HBQ.out.size (.cells #[.int .i64 ra, .int .i64 (xa - ra)] 51)).grown hg3 (HBQ.out.alloc HBQ.out.size (.cells #[.int .i64 ra, .int .i64 (xa - ra)] 51)).size (fun j hj => (HO1.out.lt j hj).1); have HO3 : Hid (OwnX w3 w1.heap.size 51 (.slice ao3 (n + 1) cap3) (rl ++ [(ra, xa - ra)])) := ho3; clear ho3 hg3 hne3 e1 e2; obtain ⟨e1, e2⟩ := HC1.out _ HB3.out)
                go_quiet (fail)
                go_wp2
                go_roundw
                case rel => exact ⟨k + 1, n + 1, cap3, ao3, by omega, by simp, by rw [HG.out], rfl, by unfold Hid; rw [HG.out, HGB.out, List.length_append, HL.out]; rfl, by rw [HG.out, HGB.out]; exact HO3.out.below (below_drewN (Below.refl _ _) nq), HA1, below_drewN HB3.out nq⟩
                case measure => simp [intOf]; omega
              · have hgp' : decide (ra < xa) = false := by simpa using hgp
                have HGB : Hid (gapB ra xa = []) := by unfold Hid gapB; rw [if_neg hgp]
                go_wp2
                go_quiet (fail)
                have HO1 : Hid (OwnX (wr.drewN nq) w1.heap.size 51 (.slice a n c) rl) := HO.out.below (below_drewN (Below.refl _ _) nq)
                have HBQ : Hid (Below w1.heap.size w1 (wr.drewN nq)) := below_drewN HB.out nq
                obtain ⟨e1, e2⟩ := HC1.out _ HBQ.out
                obtain ⟨wq, HWQ⟩ : ∃ wq, wr.drewN nq = wq := ⟨_, rfl⟩
                rw [HWQ] at HO1 HBQ e1 e2 ⊢
                clear HWQ d1 d2
                go_wp2
                go_quiet (fail)
                go_wp2
                go_roundw
                case rel => exact ⟨k + 1, n, c, a, by omega, by simp, by rw [HG.out], rfl, by unfold Hid; rw [HG.out, HGB.out, List.append_nil]; exact HL.out, by rw [HG.out, HGB.out, List.append_nil]; exact HO1.out.below (below_drewN (Below.refl _ _) nq), HA1, below_drewN HBQ.out nq⟩
                case measure => simp [intOf]; omega
          · obtain rfl : k = q := by omega
            have HF : Hid (Q.take k = Q) := List.take_of_length_le (by rw [HQL.out]; omega)
            have hy := HGY.out (by have h := HA.out; rwa [HF.out] at h)
            unfold gapsL at hy
            rw [HF.out] at HL HO hbd ⊢
            have HY : Hid _ := hy
            clear hy
            generalize (gapsTo Q).1 = ra at *
            generalize (gapsTo Q).2 = rl at *
            by_cases hgp : ra < size
            · have hgp' : decide (ra < size) = true := by simpa using hgp
              have HGB : Hid (gapB ra size = [(ra, size - ra)]) := by unfold Hid gapB; rw [if_pos hgp]
              rw [HGB.out, List.length_append, HL.out] at HY
              obtain ⟨n', HN'⟩ : ∃ n', Hid (n + 1 = n') := ⟨_, rfl⟩
              rw [show n + [(ra, size - ra)].length = n' from HN'.out] at HY
              have hn' : n' ≤ 65537 := by have := HN'.out; omega
              have HY2 : Hid ((65536 < n' → restErr l size = 3 ∧ restList l size = []) ∧ (¬ 65536 < n' → restErr l size = 0 ∧ restList l size = rl ++ [(ra, size - ra)])) := HY.out
              by_cases hbig : 65536 < n'
              · have hbig' : decide ((65536 : Int) < (n' : Int)) = true := by simp; omega
                go_wp2_with (at_builtin; refine wpList_append_x _ rfl (.tmp 77) (.tmp 83) 28 51 rfl i1 Try.underlying28 hi hz0 hz1 hz2 w1.heap.size _ _ rl [(ra, size - ra)] rfl rfl (HO.out.below ((Below.refl _ _).alloc (Nat.le_refl _) _)) (Xs.oneAt _ _ (ra, size - ra) _ rfl) (by rw [HL.out]; simp; omega) (by have h1 := HB.out.size; simp; omega) ?_; intro ao3 cap3 w3 ho3 hg3 hc3 hne3; rw [HL.out] at ho3 hc3; simp only [List.length_cons, List.length_nil, Nat.zero_add] at ho3 hc3 ⊢; rw [HL.out]; rw [HN'.out] at ho3 hc3 ⊢; have HB3 : Hid (Below w1.heap.size w1 w3) := (HB.out.alloc HB.out.size (.cells #[.int .i64 ra, .int .i64 (size - ra)] 51)).grown hg3 (HB.out.alloc HB.out.size (.cells #[.int .i64 ra, .int .i64 (size - ra)] 51)).size (fun j hj => (HO.out.lt j hj).1); have HO3 : Hid (OwnX w3 w1.heap.size 51 (.slice ao3 n' cap3) (rl ++ [(ra, size - ra)])) := ho3; clear ho3 hg3 hne3)
                go_ret2
                rw [(HY2.out.1 hbig).1, (HY2.out.1 hbig).2]
                exact ⟨_, rfl, OwnX.nil _ _ _, HB1.out.trans (HB3.out.mono HB1.out.size)⟩
              · have hbig' : decide ((65536 : Int) < (n' : Int)) = false := by simp; omega
                go_wp2_with (at_builtin; refine wpList_append_x _ rfl (.tmp 77) (.tmp 83) 28 51 rfl i1 Try.underlying28 hi hz0 hz1 hz2 w1.heap.size _ _ rl [(ra, size - ra)] rfl rfl (HO.out.below ((Below.refl _ _).alloc (Nat.le_refl _) _)) (Xs.oneAt _ _ (ra, size - ra) _ rfl) (by rw [HL.out]; simp; omega) (by have h1 := HB.out.size; simp; omega) ?_; intro ao3 cap3 w3 ho3 hg3 hc3 hne3; rw [HL.out] at ho3 hc3; simp only [List.length_cons, List.length_nil, Nat.zero_add] at ho3 hc3 ⊢; rw [HL.out]; rw [HN'.out] at ho3 hc3 ⊢; have HB3 : Hid (Below w1.heap.size w1 w3) := (HB.out.alloc HB.out.size (.cells #[.int .i64 ra, .int .i64 (size - ra)] 51)).grown hg3 (HB.out.alloc HB.out.size (.cells #[.int .i64 ra, .int .i64 (size - ra)] 51)).size (fun j hj => (HO.out.lt j hj).1); have HO3 : Hid (OwnX w3 w1.heap.size 51 (.slice ao3 n' cap3) (rl ++ [(ra, size - ra)])) := ho3; clear ho3 hg3 hne3)
                go_ret2
                rw [(HY2.out.2 hbig).1, (HY2.out.2 hbig).2]
                exact ⟨_, rfl, HO3.out.mono HB1.out.size, HB1.out.trans (HB3.out.mono HB1.out.size)⟩
            · have hgp' : decide (ra < size) = false := by simpa using hgp
              have HGB : Hid (gapB ra size = []) := by unfold Hid gapB; rw [if_neg hgp]
              rw [HGB.out, List.append_nil, HL.out] at HY
              have HY2 : Hid ((65536 < n → restErr l size = 3 ∧ restList l size = []) ∧ (¬ 65536 < n → restErr l size = 0 ∧ restList l size = rl)) := HY.out
              have hbig : ¬ 65536 < n := by omega
              go_wp2
              go_ret2
              rw [(HY2.out.2 hbig).1, (HY2.out.2 hbig).2]
              exact ⟨_, rfl, HO.out.mono HB1.out.size, HB1.out.trans (HB.out.mono HB1.out.size)⟩
      · have he' : (normErr l != 0) = true := by simp [he]
        have HR : Hid (restErr l size = normErr l ∧ restList l size = [] ∧ normList l = []) := by have h : restErr l size = normErr l := by { unfold restErr; rw [HS.out, if_neg he]; rfl }; unfold restList normList; rw [h, if_neg he, if_neg he]; exact ⟨rfl, rfl, rfl⟩
        go_enter Try.func24, Try.ntmps24
        go_wp2_with (go_at_call 20; refine (refNormal_any _ l _ HX.out HE.out hn).mono ?_; rintro e w2 ⟨ao2, cap2, rfl, ho2, hb2⟩)
        go_ret2
        rw [HR.out.1, HR.out.2.1]
        exact ⟨_, rfl, OwnX.nil _ _ _, hb2⟩
end Go.Proofs.Ytbpaiioonljlpab
