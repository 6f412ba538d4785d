/-
  The walk of the law ExtentCovers.
-/
import Derived.Test.YtbpaiioonljlpacXLives
import Derived.Test.YtbpaiioonljlpacXCovMath
import Derived.Test.YtbpaiioonljlpacXStep
namespace Go.Proofs.Ytbpaiioonljlpac
open Go.RowKit Go.Sort Go.Shelf Go.Lib
set_option linter.unusedVariables false
set_option maxRecDepth 100000

theorem cnt_take {l : List Ext} {k : Nat} (h : k < l.length) (b : Int) : cntL (l.take (k + 1)) b = cntL (l.take k) b + if hasB b (l.getD k (0, 0)) = true then 1 else 0 := by
  rw [take_snoc l h, cntL_append, cntL_cons, cntL_nil]; omega
theorem cnt_le (l : List Ext) (b : Int) : cntL l b ≤ l.length := List.countP_le_length

set_option maxHeartbeats 4000000 in
theorem in_any (v : Value) (l : List Ext) (b : Int) (w : World) (hl : Xs w v l) (hm : ∀ x ∈ l, mayB x = true) (hb0 : 0 ≤ b) (hb1 : b ≤ 4194304) (hn : l.length ≤ 1000000) :
    Calls Try.prog 11 #[v, .int .i64 b] w fun e w' => e = .returned (.int .i64 (cntL l b : Nat)) ∧ Below w.heap.size w w' := by
  obtain ⟨ao, cap, rfl, hcap, hcell⟩ := hl.opened
  have HC : Hid (∀ i, i < l.length → ∃ b off, ao = some ⟨b, off, none⟩ ∧ w.cell? ⟨b, off + i * 2, none⟩ = some (.int .i64 (l.getD i (0, 0)).1) ∧ w.cell? ⟨b, off + i * 2 + 1, none⟩ = some (.int .i64 (l.getD i (0, 0)).2) ∧ b < w.heap.size) := hcell
  have HMY : Hid (∀ x ∈ l, mayB x = true) := hm
  clear hl hcell hm
  obtain ⟨N, HN⟩ : ∃ N, Hid (l.length = N) := ⟨_, rfl⟩
  rw [HN.out] at hcap hn ⊢
  go_enter Try.func11, Try.ntmps11
  go_wp2
  go_loopw [5, 6] (fun t i wr => ∃ k c : Nat, k ≤ N ∧ i = .int .i64 (k : Int) ∧ t = .int .i64 (c : Int) ∧ Hid (cntL (l.take k) b = c) ∧ Hid (Below w.heap.size w wr)) (fun _ i _ => N - (intOf i).toNat)
  case atStart => exact ⟨0, 0, Nat.zero_le _, rfl, rfl, rfl, Below.refl _ _⟩
  case round =>
    obtain ⟨k, c, hk, rfl, rfl, HT, HB⟩ := hrel
    have hck : c ≤ k := by have h1 := cnt_le (l.take k) b; have h2 := List.length_take_le k l; have := HT.out; omega
    by_cases hlt : k < N
    · have hkl : k < l.length := by rw [HN.out]; exact hlt
      obtain ⟨g, off, rfl, c1, c2, hg⟩ := HC.out k hkl
      have d1 := (HB.out.cell (p := ⟨g, off + k * 2, none⟩) hg).trans c1
      have d2 := (HB.out.cell (p := ⟨g, off + k * 2 + 1, none⟩) hg).trans c2
      have hx := mayB_iff.1 (HMY.out _ (getD_mem hkl))
      have HCT : Hid (cntL (l.take (k + 1)) b = cntL (l.take k) b + if hasB b (l.getD k (0, 0)) = true then 1 else 0) := cnt_take hkl b
      clear c1 c2
      generalize l.getD k (0, 0) = x at *
      obtain ⟨xa, xs⟩ := x
      dsimp only at d1 d2 hx
      obtain ⟨x1, x2, x3⟩ := hx
      have hkN : (k : Int) < (N : Int) := by omega
      by_cases h1 : xa ≤ b
      · have h1' : decide (xa ≤ b) = true := by simpa using h1
        by_cases h2 : b - xa < xs
        · have h2' : decide (b - xa < xs) = true := by simpa using h2
          have HH : Hid (hasB b (xa, xs) = true) := by unfold Hid hasB; simp; omega
          go_wp2
          go_quiet (fail)
          go_wp2
          go_roundw
          case rel => exact ⟨k + 1, c + 1, by omega, by simp, by simp, by unfold Hid; rw [HCT.out, HH.out, HT.out]; rfl, below_drewN HB.out nq⟩
          case measure => simp [intOf]; omega
        · have h2' : decide (b - xa < xs) = false := by simpa using h2
          have HH : Hid (hasB b (xa, xs) = false) := by unfold Hid hasB; simp; omega
          go_wp2
          go_quiet (fail)
          go_wp2
          go_roundw
          case rel => exact ⟨k + 1, c, by omega, by simp, by simp, by unfold Hid; rw [HCT.out, HH.out, HT.out]; rfl, below_drewN HB.out nq⟩
          case measure => simp [intOf]; omega
      · have h1' : decide (xa ≤ b) = false := by simpa using h1
        have HH : Hid (hasB b (xa, xs) = false) := by unfold Hid hasB; simp; omega
        go_wp2
        go_quiet (fail)
        go_wp2
        go_roundw
        case rel => exact ⟨k + 1, c, by omega, by simp, by simp, by unfold Hid; rw [HCT.out, HH.out, HT.out]; rfl, below_drewN HB.out nq⟩
        case measure => simp [intOf]; omega
    · obtain rfl : k = N := by omega
      have HF : Hid (cntL l b = c) := by have h := HT.out; rwa [List.take_of_length_le (by rw [HN.out]; omega)] at h
      go_wp2
      go_ret
      exact ⟨ret_int (by rw [HF.out]), HB.out⟩

set_option maxHeartbeats 8000000 in
theorem extentCovers_walk (v : Value) (l : List Ext) (size : Int) (W : World) (hx : Xs W v l) (hE : EWs l) (hlen : l.length ≤ 8796093021952) (hn : (Lit.int .i64 size).wf = true) :
    Calls Try.prog 3 #[v, .int .i64 size] W fun e W' => e = .returned (.bool true) ∧ Below W.heap.size W W' := by
  obtain ⟨i1, hi, hz0, hz1, hz2⟩ := info_parts Try.infoX
  have HX : Hid (Xs W v l) := hx
  have HE : Hid (EWs l) := hE
  obtain ⟨ao, cap, rfl, hcap, _⟩ := hx.opened
  clear hx hE hn
  obtain ⟨N, HN⟩ : ∃ N, Hid (l.length = N) := ⟨_, rfl⟩
  rw [HN.out] at hcap hlen HX ⊢
  by_cases h50 : 50 < N
  · have h50' : decide (50 < (N : Int)) = true := by simp; omega
    go_enter Try.func3, Try.ntmps3
    go_wp2_with (go_at_call 5; refine (lives_any _).mono ?_; rintro e w' ⟨rfl, hb⟩)
    go_ret
    exact ⟨rfl, hb⟩
  · have h50' : decide (50 < (N : Int)) = false := by simp; omega
    by_cases h300 : 300 < size
    · have h300' : decide (300 < size) = true := by simpa using h300
      go_enter Try.func3, Try.ntmps3
      go_wp2_with (go_at_call 5; refine (lives_any _).mono ?_; rintro e w' ⟨rfl, hb⟩)
      go_ret
      exact ⟨rfl, hb⟩
    · have h300' : decide (300 < size) = false := by simpa using h300
      have HRK : Hid _ := rest_any _ l size W HX.out HE.out (by rw [HN.out]; omega)
      by_cases he : restErr l size = 0
      · obtain ⟨⟨s1, s2⟩, f1, f2, f3, f4, f5, f6, f7, f8, f9, f10, f11⟩ := cover_facts he
        rw [he, f3] at HRK
        have HNK : Hid (∀ w', Below W.heap.size W w' → Calls Try.prog 7 #[.slice ao N cap] w' fun e w'' => ∃ ao cap, e = .returned (.tuple #[.slice ao (normL l).length cap, .int .i64 0]) ∧ OwnX w'' w'.heap.size 35 (.slice ao (normL l).length cap) (normL l) ∧ Below w'.heap.size w' w'') := fun w' hb => by
          have := normal_any _ l w' (HX.out.below hb) HE.out (by rw [HN.out]; omega)
          rw [f1, f2] at this
          exact this
        have HMY : Hid (∀ x ∈ l, mayB x = true) := f4
        have HGN : Hid (goodB (normL l) size = true) := f5
        have HGR : Hid (goodB (gapsL (normL l) size) size = true) := f6
        have HTT : Hid (totalL (normL l) + totalL (gapsL (normL l) size) = size) := f7
        have HMT : Hid (meetsB (normL l ++ gapsL (normL l) size) = false) := f8
        have HCC : Hid (∀ b, 0 ≤ b → b < size → (0 < cntL l b ↔ cntL (normL l) b = 1) ∧ cntL (normL l) b + cntL (gapsL (normL l) size) b = 1) := f9
        have HQF : Hid (∀ x ∈ normL l, mayB x = true) := fun x hx => by have := (goodFrom_sep (goodB_iff.1 f5).2.2).2 x hx; exact mayB_iff.2 ⟨by omega, by omega, by omega⟩
        have HRF : Hid (∀ x ∈ gapsL (normL l) size, mayB x = true) := fun x hx => by have := (goodFrom_sep (goodB_iff.1 f6).2.2).2 x hx; exact mayB_iff.2 ⟨by omega, by omega, by omega⟩
        have hQL : (normL l).length ≤ 65536 := (goodB_iff.1 f5).2.1
        have hRL : (gapsL (normL l) size).length ≤ 65536 := (goodB_iff.1 f6).2.1
        clear f1 f2 f3 f4 f5 f6 f7 f8 f9 he
        generalize gapsL (normL l) size = R at *
        generalize normL l = Q at *
        have HQE : Hid (EWs Q) := fun x hx => by have := mayB_iff.1 (HQF.out x hx); unfold EW; omega
        have HRE : Hid (EWs R) := fun x hx => by have := mayB_iff.1 (HRF.out x hx); unfold EW; omega
        have HQRE : Hid (EWs (Q ++ R)) := fun x hx => by
          rcases List.mem_append.1 hx with h | h
          · exact HQE.out x h
          · exact HRE.out x h
        obtain ⟨q, HQL⟩ : ∃ q, Hid (Q.length = q) := ⟨_, rfl⟩
        obtain ⟨r, HRL⟩ : ∃ r, Hid (R.length = r) := ⟨_, rfl⟩
        rw [HQL.out] at hQL HNK
        rw [HRL.out] at hRL
        obtain ⟨tq, HTQ⟩ : ∃ tq, Hid (totalL Q = tq) := ⟨_, rfl⟩
        obtain ⟨tr, HTR⟩ : ∃ tr, Hid (totalL R = tr) := ⟨_, rfl⟩
        rw [HTQ.out] at f10 HTT
        rw [HTR.out] at f11 HTT
        have HS : Hid (tq + tr = size) := HTT.out
        have hs3 : tq + tr ≤ 300 := by have := HS.out; omega
        have hsne : (tq + tr != size) = false := by have := HS.out; simp [this]
        go_enter Try.func3, Try.ntmps3
        go_wp2_with (first | (go_at_call 6; refine Calls.mono HRK.out ?_; rintro e w2 ⟨x2, rfl, ho2, hb2⟩; have HB2 : Hid (Below W.heap.size W w2) := hb2; have HO2 : Hid (OwnX w2 W.heap.size 35 x2 R) := ho2; obtain ⟨ao2, cap2, hx2, _⟩ := ho2.shape; rw [HRL.out] at hx2; subst hx2; clear ho2 hb2) | (go_at_call 7; refine (HNK.out _ HB2.out).mono ?_; rintro e w3 ⟨ao3, cap3, rfl, ho3, hb3⟩; have HO3 : Hid (OwnX w3 w2.heap.size 35 (.slice ao3 q cap3) Q) := ho3; have HB3 : Hid (Below w2.heap.size w2 w3) := hb3; have HBW3 : Hid (Below W.heap.size W w3) := HB2.out.trans (hb3.mono HB2.out.size); have HR3 : Hid (∀ w', Below w3.heap.size w3 w' → OwnX w' W.heap.size 35 (.slice ao2 r cap2) R) := (fun w' h => (HO2.out.below HB3.out).below h); have HQ3 : Hid (∀ w', Below w3.heap.size w3 w' → OwnX w' W.heap.size 35 (.slice ao3 q cap3) Q) := (fun w' h => (HO3.out.mono HB2.out.size).below h); clear ho3 hb3))
        refine (good_any _ R _ _ (HR3.out _ (Below.refl _ _)).xs HRE.out (by rw [HRL.out]; omega)).mono ?_
        rintro e w4 ⟨rfl, hb4⟩
        rw [HGR.out]
        have HB4 : Hid (Below w3.heap.size w3 w4) := hb4
        clear hb4
        go_wp2_with fail
        refine (good_any _ Q _ _ (HQ3.out _ HB4.out).xs HQE.out (by rw [HQL.out]; omega)).mono ?_
        rintro e w5 ⟨rfl, hb5⟩
        rw [HGN.out]
        have HB5 : Hid (Below w3.heap.size w3 w5) := HB4.out.trans (hb5.mono HB4.out.size)
        clear hb5
        go_wp2_with fail
        refine (total_any _ Q _ (HQ3.out _ HB5.out).xs HQE.out (by rw [HQL.out]; omega)).mono ?_
        rintro e w6 ⟨rfl, hb6⟩
        rw [HTQ.out]
        have HB6 : Hid (Below w3.heap.size w3 w6) := HB5.out.trans (hb6.mono HB5.out.size)
        clear hb6
        go_wp2_with fail
        refine (total_any _ R _ (HR3.out _ HB6.out).xs HRE.out (by rw [HRL.out]; omega)).mono ?_
        rintro e w7 ⟨rfl, hb7⟩
        rw [HTR.out]
        have HB7 : Hid (Below w3.heap.size w3 w7) := HB6.out.trans (hb7.mono HB6.out.size)
        have HB7E : Hid (Below w3.heap.size w3 (w7.alloc (.cells #[] 35))) := HB7.out.alloc HB7.out.size _
        have HE7 : Hid (OwnX (w7.alloc (.cells #[] 35)) w3.heap.size 35 (.slice (some ⟨w7.heap.size, 0, none⟩) 0 0) []) := OwnX.empty _ _ _ HB7.out.size
        clear hb7
        go_wp2_with (first | (at_builtin; refine wpList_append_w (w := w7.alloc (.cells #[] 35)) 67 rfl (by rfl) (.tmp 65) (.tmp 66) 22 35 rfl i1 Try.underlying22 hi hz0 hz1 hz2 w3.heap.size _ [] Q 0 q rfl HQL.out ao3 cap3 rfl rfl HE7.out (HQ3.out _ HB7E.out).xs (by omega) HB7E.out.size ?_; intro ao8 cap8 w8 ho8 hg8; simp only [Nat.zero_add, List.nil_append] at ho8 ⊢; have HO8 : Hid (OwnX w8 w3.heap.size 35 (.slice ao8 q cap8) Q) := ho8; have HB8 : Hid (Below w3.heap.size w3 w8) := HB7E.out.grown hg8 HB7E.out.size (fun j hj => (HE7.out.lt j hj).1); clear ho8 hg8) | (at_builtin; refine wpList_append_w (w := w8) 69 rfl (by rfl) (.tmp 67) (.tmp 68) 22 35 rfl i1 Try.underlying22 hi hz0 hz1 hz2 w3.heap.size (.slice ao8 q cap8) Q R q r HQL.out HRL.out ao2 cap2 rfl rfl HO8.out (HR3.out _ HB8.out).xs (by omega) HB8.out.size ?_; intro ao9 cap9 w9 ho9 hg9; have HO9 : Hid (OwnX w9 w3.heap.size 35 (.slice ao9 (q + r) cap9) (Q ++ R)) := ho9; have HB9 : Hid (Below w3.heap.size w3 w9) := HB8.out.grown hg9 HB8.out.size (fun j hj => (HO8.out.lt j hj).1); clear ho9 hg9))
        refine (meets_any _ (Q ++ R) _ HO9.out.xs HQRE.out (by rw [List.length_append, HQL.out, HRL.out]; omega)).mono ?_
        rintro e w10 ⟨rfl, hb10⟩
        rw [HMT.out]
        have HB10 : Hid (Below w3.heap.size w3 w10) := HB9.out.trans (hb10.mono HB9.out.size)
        clear hb10
        go_wp2_with fail
        go_loopw [9] (fun i wr => ∃ k : Nat, (k : Int) ≤ size ∧ i = .int .i64 (k : Int) ∧ Hid (Below w3.heap.size w3 wr)) (fun i _ => size.toNat - (intOf i).toNat)
        case atStart => exact ⟨0, s1, rfl, HB10.out⟩
        case round =>
          obtain ⟨k, hk, rfl, HBK⟩ := hrel
          by_cases hlt : (k : Int) < size
          · have hlt' : decide ((k : Int) < size) = true := by simpa using hlt
            obtain ⟨k1, k2⟩ := HCC.out k (by omega) hlt
            have HBWK : Hid (Below W.heap.size W wr) := HBW3.out.trans (HBK.out.mono HBW3.out.size)
            obtain ⟨cl, HCL⟩ : ∃ cl, Hid (cntL l (k : Int) = cl) := ⟨_, rfl⟩
            rw [HCL.out] at k1
            rcases (show (cntL Q (k : Int) = 1 ∧ cntL R (k : Int) = 0) ∨ (cntL Q (k : Int) = 0 ∧ cntL R (k : Int) = 1) by omega) with ⟨g1, g2⟩ | ⟨g1, g2⟩
            · have hcl : (0 : Int) < (cl : Int) := by have := k1.2 g1; omega
              have hcl2 : 0 < cl := k1.2 g1
              have HCQ : Hid (cntL Q (k : Int) = 1) := g1
              have HCR : Hid (cntL R (k : Int) = 0) := g2
              clear g1 g2 k1 k2
              go_wp2_with fail
              refine (in_any _ l _ _ (HX.out.below HBWK.out) HMY.out (by omega) (by omega) (by rw [HN.out]; omega)).mono ?_
              rintro e w11 ⟨rfl, hb11⟩
              rw [HCL.out]
              have HB11 : Hid (Below w3.heap.size w3 w11) := HBK.out.trans (hb11.mono HBK.out.size)
              clear hb11
              go_wp2_with fail
              refine (in_any _ Q _ _ (HQ3.out _ HB11.out).xs HQF.out (by omega) (by omega) (by rw [HQL.out]; omega)).mono ?_
              rintro e w12 ⟨rfl, hb12⟩
              rw [HCQ.out]
              have HB12 : Hid (Below w3.heap.size w3 w12) := HB11.out.trans (hb12.mono HB11.out.size)
              clear hb12
              go_wp2_with fail
              refine (in_any _ Q _ _ (HQ3.out _ HB12.out).xs HQF.out (by omega) (by omega) (by rw [HQL.out]; omega)).mono ?_
              rintro e w13 ⟨rfl, hb13⟩
              rw [HCQ.out]
              have HB13 : Hid (Below w3.heap.size w3 w13) := HB12.out.trans (hb13.mono HB12.out.size)
              clear hb13
              go_wp2_with fail
              refine (in_any _ R _ _ (HR3.out _ HB13.out).xs HRF.out (by omega) (by omega) (by rw [HRL.out]; omega)).mono ?_
              rintro e w14 ⟨rfl, hb14⟩
              rw [HCR.out]
              have HB14 : Hid (Below w3.heap.size w3 w14) := HB13.out.trans (hb14.mono HB13.out.size)
              clear hb14
              go_wp2_with fail
              go_roundw
              case rel => exact ⟨k + 1, by omega, by simp, HB14.out⟩
              case measure => simp [intOf]; omega
            · obtain rfl : cl = 0 := by
                rcases Nat.eq_zero_or_pos cl with h | h
                · exact h
                · have := k1.1 h; omega
              have HCQ : Hid (cntL Q (k : Int) = 0) := g1
              have HCR : Hid (cntL R (k : Int) = 1) := g2
              clear g1 g2 k1 k2
              go_wp2_with fail
              refine (in_any _ l _ _ (HX.out.below HBWK.out) HMY.out (by omega) (by omega) (by rw [HN.out]; omega)).mono ?_
              rintro e w11 ⟨rfl, hb11⟩
              rw [HCL.out]
              have HB11 : Hid (Below w3.heap.size w3 w11) := HBK.out.trans (hb11.mono HBK.out.size)
              clear hb11
              go_wp2_with fail
              refine (in_any _ Q _ _ (HQ3.out _ HB11.out).xs HQF.out (by omega) (by omega) (by rw [HQL.out]; omega)).mono ?_
              rintro e w12 ⟨rfl, hb12⟩
              rw [HCQ.out]
              have HB12 : Hid (Below w3.heap.size w3 w12) := HB11.out.trans (hb12.mono HB11.out.size)
              clear hb12
              go_wp2_with fail
              refine (in_any _ Q _ _ (HQ3.out _ HB12.out).xs HQF.out (by omega) (by omega) (by rw [HQL.out]; omega)).mono ?_
              rintro e w13 ⟨rfl, hb13⟩
              rw [HCQ.out]
              have HB13 : Hid (Below w3.heap.size w3 w13) := HB12.out.trans (hb13.mono HB12.out.size)
              clear hb13
              go_wp2_with fail
              refine (in_any _ R _ _ (HR3.out _ HB13.out).xs HRF.out (by omega) (by omega) (by rw [HRL.out]; omega)).mono ?_
              rintro e w14 ⟨rfl, hb14⟩
              rw [HCR.out]
              have HB14 : Hid (Below w3.heap.size w3 w14) := HB13.out.trans (hb14.mono HB13.out.size)
              clear hb14
              go_wp2_with fail
              go_roundw
              case rel => exact ⟨k + 1, by omega, by simp, HB14.out⟩
              case measure => simp [intOf]; omega
          · have hlt' : decide ((k : Int) < size) = false := by simpa using hlt
            go_wp2_with (go_at_call 5; refine (lives_any _).mono ?_; rintro e w12 ⟨rfl, hb12⟩)
            go_ret
            have HBWK : Hid (Below W.heap.size W wr) := HBW3.out.trans (HBK.out.mono HBW3.out.size)
            exact ⟨rfl, HBWK.out.trans (hb12.mono HBWK.out.size)⟩
      · obtain ⟨e1, e2⟩ := cover_no (by rw [HN.out]; omega) he
        rw [e1, e2] at HRK
        clear e1 e2 he
        go_enter Try.func3, Try.ntmps3
        go_wp2_with (first | (go_at_call 6; refine Calls.mono HRK.out ?_; rintro e w2 ⟨x2, rfl, ho2, hb2⟩; have HB2 : Hid (Below W.heap.size W w2) := hb2; obtain ⟨ao2, cap2, rfl, _⟩ := ho2.shape; clear ho2 hb2) | (go_at_call 5; refine (lives_any _).mono ?_; rintro e w3 ⟨rfl, hb3⟩))
        go_ret
        exact ⟨rfl, HB2.out.trans (hb3.mono HB2.out.size)⟩
end Go.Proofs.Ytbpaiioonljlpac
