/-
  The walk of the law ExtentLoads. Conditions: the table of check stands as the program's text lays it.
-/
import Derived.Test.YtbpaiioonljlpacDoorXLives
import Derived.Test.YtbpaiioonljlpacDoorXLoad2
import Derived.Test.YtbpaiioonljlpacDoorTold
import Derived.Test.YtbpaiioonljlpacDoorPlace
namespace Go.Proofs.YtbpaiioonljlpacDoor
open Go.RowKit Go.Sort Go.Shelf Go.Lib
set_option linter.unusedVariables false
set_option maxRecDepth 100000

theorem num4 (a b c d : Int) : num [a, b, c, d] 4 = a + 256 * (b + 256 * (c + 256 * d)) := by
  rw [show (4 : Nat) = 3 + 1 from rfl, num_cons, show (3 : Nat) = 2 + 1 from rfl, num_cons, show (2 : Nat) = 1 + 1 from rfl, num_cons, show (1 : Nat) = 0 + 1 from rfl, num_cons, show num [] 0 = 0 from rfl]
  omega
theorem num_set4 (T : List Int) (hT : T.length = 4) (j : Nat) (t : Int) (hj : j < 4) (hne : T.getD j 0 ≠ t) : num T 4 ≠ num (T.set j t) 4 := by
  obtain ⟨a, b, c, d, rfl⟩ : ∃ a b c d, T = [a, b, c, d] := by
    match T, hT with
    | [a, b, c, d], _ => exact ⟨a, b, c, d, rfl⟩
  rcases (show j = 0 ∨ j = 1 ∨ j = 2 ∨ j = 3 by omega) with rfl | rfl | rfl | rfl
  · have h : a ≠ t := hne
    rw [show [a, b, c, d].set 0 t = [t, b, c, d] from rfl, num4, num4]; omega
  · have h : b ≠ t := hne
    rw [show [a, b, c, d].set 1 t = [a, t, c, d] from rfl, num4, num4]; omega
  · have h : c ≠ t := hne
    rw [show [a, b, c, d].set 2 t = [a, b, t, d] from rfl, num4, num4]; omega
  · have h : d ≠ t := hne
    rw [show [a, b, c, d].set 3 t = [a, b, c, t] from rfl, num4, num4]; omega
theorem unErr_set_seal (l : List Int) (j : Nat) (t : Int) (hj : j < 4) (hne : (digs (crcN l) 4).getD j 0 ≠ t) : unErr (l ++ (digs (crcN l) 4).set j t) = 5 := by
  rw [unErr_of _ _ (by rw [List.length_set, digs_length]), if_neg]
  intro h
  exact num_set4 _ (digs_length _ 4) j t hj hne ((num_crc l).trans h)
/-- Any byte of what is sealed, turned. -/
theorem unErr_any (l : List Int) (k p t : Nat) (h : k < (sealN l).length) (hp : (p : Int) = (sealN l).getD k 0) (hp2 : p < 256) (ht : t < 256) (hne : p ≠ t) : unErr ((sealN l).set k (t : Int)) = 5 := by
  by_cases hk : k < l.length
  · refine unErr_set l k p t hk ?_ hp2 ht hne
    rw [hp, sealN, List.getD, List.getElem?_append_left hk]; rfl
  · rw [sealN_length] at h
    have e : (sealN l).set k (t : Int) = l ++ (digs (crcN l) 4).set (k - l.length) (t : Int) := by
      unfold sealN; rw [List.set_append_right _ _ (by omega)]
    rw [e]
    refine unErr_set_seal l (k - l.length) t (by omega) ?_
    rw [sealN, List.getD, List.getElem?_append_right (by omega)] at hp
    rw [List.getD, ← hp]
    omega

theorem load_back {l : List Ext} (hg : goodB l 4194304 = true) : xldErr (sealN (plainL l)) = 0 ∧ xldList (sealN (plainL l)) = l := by
  have hf := (goodFrom_sep (goodB_iff.1 hg).2.2).2
  have hn := (goodB_iff.1 hg).2.1
  have hc := plainL_count l hn
  have hcnt : cntOf (plainL l) = l.length := by unfold cntOf; rw [hc]; omega
  have hL : isL (plainL l) = true := by unfold isL; rw [hc, plainL_length]; simp; omega
  have hls : lstOf (plainL l) (cntOf (plainL l)) = l := by rw [hcnt]; exact lstOf_plainL (fun x hx => by have := hf x hx; omega)
  have h0 : xldErr (sealN (plainL l)) = 0 := by
    unfold xldErr; rw [unErr_seal, if_pos rfl, unList_seal]
    unfold xldOk; rw [hL, hls, hg]; rfl
  refine ⟨h0, ?_⟩
  unfold xldList; rw [if_pos h0, unList_seal, hls]
theorem load_bad {b : List Int} (h : unErr b = 5) : xldErr b = 5 ∧ xldList b = [] := by
  have h0 : xldErr b = 5 := by unfold xldErr; rw [h, if_neg (by decide)]
  refine ⟨h0, ?_⟩
  unfold xldList; rw [h0, if_neg (by decide)]
theorem seal_byt {l : List Int} (h : Byt l) : Byt (sealN l) := byt_join h (byt_dig2 false (crcN l) 4)

set_option maxHeartbeats 8000000 in
theorem extentLoads_walk (v : Value) (l : List Ext) (a1 a2 : Int) (W : World) (hT : Tab W) (hx : Xs W v l) (hE : EWs l) (hlen : l.length ≤ 8796093021952) (w1 : (Lit.int .i64 a1).wf = true) (w2 : (Lit.int .u8 a2).wf = true) :
    Calls Tryd.prog 3 #[v, .int .i64 a1, .int .u8 a2] W fun e W' => e = .returned (.bool true) ∧ Below W.heap.size W W' := by
  have ha := bounds_i64 w1
  have hy := bounds_u8 w2
  clear w1 w2
  have HX : Hid (Xs W v l) := hx
  have HE : Hid (EWs l) := hE
  have HT : Hid (Tab W) := hT
  obtain ⟨ao, cap, rfl, hcap, hdrop⟩ := hx.opened
  clear hx hE hT hdrop
  obtain ⟨N, HN⟩ : ∃ N, Hid (l.length = N) := ⟨_, rfl⟩
  rw [HN.out] at hcap hlen HX ⊢
  by_cases h300 : 300 < N
  · have h300' : decide (300 < (N : Int)) = true := by simp; omega
    go_enter Tryd.func3, Tryd.ntmps3
    go_wp2_with (go_at_call 4; refine (lives_any _).mono ?_; rintro e w' ⟨rfl, hb⟩)
    go_ret
    exact ⟨rfl, hb⟩
  · have h300' : decide (300 < (N : Int)) = false := by simp; omega
    cases hg : goodB l 4194304 with
    | false =>
      have HBN : Hid _ := xbytes_no _ l W HX.out HE.out (by rw [HN.out]; omega) hg
      go_enter Tryd.func3, Tryd.ntmps3
      go_wp2_with (first | (go_at_call 5; refine Calls.mono HBN.out ?_; rintro e w2 ⟨rfl, hb2⟩; have HB2 : Hid (Below W.heap.size W w2) := hb2; clear hb2) | (go_at_call 6; refine (good_any _ l _ _ (HX.out.below HB2.out) HE.out (by rw [HN.out]; omega)).mono ?_; rintro e w3 ⟨rfl, hb3⟩; rw [hg]; have HB3 : Hid (Below W.heap.size W w3) := HB2.out.trans (hb3.mono HB2.out.size); clear hb3) | (go_at_call 4; refine (lives_any _).mono ?_; rintro e w4 ⟨rfl, hb4⟩))
      go_ret
      exact ⟨rfl, HB3.out.trans (hb4.mono HB3.out.size)⟩
    | true =>
      have HBO : Hid _ := xbytes_ok _ l W HX.out HE.out HT.out hg
      obtain ⟨r1, r2⟩ := load_back hg
      have HG : Hid (goodB l 4194304 = true) := hg
      have HR1 : Hid (xldErr (sealN (plainL l)) = 0) := r1
      have HR2 : Hid (xldList (sealN (plainL l)) = l) := r2
      have HSB : Hid (Byt (sealN (plainL l))) := seal_byt (plainL_byt l)
      have hML : (plainL l).length + 4 = 8 + 8 * N := by rw [plainL_length, HN.out]; omega
      have hSL : (sealN (plainL l)).length = 8 + 8 * N := by rw [sealN_length]; exact hML
      rw [hML] at HBO
      obtain ⟨M, hM⟩ : ∃ M, 8 + 8 * N = M := ⟨_, rfl⟩
      rw [hM] at HBO hSL
      have hM1 : 1 ≤ M := by omega
      have hM2 : M ≤ 3000 := by omega
      have HSL : Hid ((sealN (plainL l)).length = M) := hSL
      have HAB : Hid (∀ k p t : Nat, k < M → (p : Int) = (sealN (plainL l)).getD k 0 → p < 256 → t < 256 → p ≠ t → unErr ((sealN (plainL l)).set k (t : Int)) = 5) := fun k p t hk => unErr_any (plainL l) k p t (by rw [hSL]; exact hk)
      clear r1 r2 hg hML hSL hM
      generalize sealN (plainL l) = S at *
      go_enter Tryd.func3, Tryd.ntmps3
      go_wp2_with (first | (go_at_call 5; refine Calls.mono HBO.out ?_; rintro e w2 ⟨g, rfl, hg2, hr2, hb2⟩; have HRW2 : Hid (Row w2 g S) := hr2; have HB2 : Hid (Below W.heap.size W w2) := hb2; clear hr2 hb2) | (go_at_call 6; refine (good_any _ l _ _ (HX.out.below HB2.out) HE.out (by rw [HN.out]; omega)).mono ?_; rintro e w3 ⟨rfl, hb3⟩; rw [HG.out]; have HB3 : Hid (Below w2.heap.size w2 w3) := hb3; have HBW3 : Hid (Below W.heap.size W w3) := HB2.out.trans (hb3.mono HB2.out.size); have HRW3 : Hid (Row w3 g S) := HRW2.out.below hb3 HRW2.out.lt; clear hb3) | fail)
      have HL3 : Hid _ := xload_any (.slice (some ⟨g, 0, none⟩) M M) S w3 (by have := HRW3.out.whole; rw [HSL.out] at this; exact this) (by rw [HSL.out]; omega) HSB.out (HT.out.below HBW3.out)
      rw [HR1.out, HR2.out] at HL3
      refine Calls.mono HL3.out ?_
      rintro e w4 ⟨x4, rfl, ho4, hb4⟩
      have HO4 : Hid (OwnX w4 w3.heap.size 37 x4 l) := ho4
      have HBW4 : Hid (Below W.heap.size W w4) := HBW3.out.trans (hb4.mono HBW3.out.size)
      have HRW4 : Hid (Row w4 g S) := HRW3.out.below hb4 HRW3.out.lt
      clear ho4 hb4 HL3
      go_wp2_with fail
      refine (plain_any _ l _ (HX.out.below HBW4.out) (by rw [HN.out]; omega)).mono ?_
      rintro e w5 ⟨ao5, cap5, rfl, ho5, hb5⟩
      have HO5 : Hid (OwnX w5 w4.heap.size 50 (.slice ao5 l.length cap5) l) := ho5
      have HB5 : Hid (Below w4.heap.size w4 w5) := hb5
      clear ho5 hb5
      go_wp2_with fail
      refine (same_any _ _ l l _ (HO4.out.xs.below HB5.out) HO5.out.xs (by rw [HN.out]; omega) (by rw [HN.out]; omega)).mono ?_
      rintro e w6 ⟨rfl, hb6⟩
      rw [show decide (l = l) = true by simp]
      have HB6 : Hid (Below w4.heap.size w4 w6) := HB5.out.trans (hb6.mono HB5.out.size)
      have HBW6 : Hid (Below W.heap.size W w6) := HBW4.out.trans (HB6.out.mono HBW4.out.size)
      have HRW6 : Hid (Row w6 g S) := HRW4.out.below HB6.out HRW4.out.lt
      have hM0 : ((M : Int) == 0) = false := by simp; omega
      clear hb6
      by_cases hy0 : a2 = 0
      · subst hy0
        go_wp2_with fail
        refine (lives_any _).mono ?_
        rintro e w7 ⟨rfl, hb7⟩
        go_wp2_with fail
        go_ret
        exact ⟨rfl, HBW6.out.trans (hb7.mono HBW6.out.size)⟩
      · obtain ⟨k, hk, hk1, hk2, hk3⟩ := place_any a1 M hM1
        obtain ⟨y, rfl⟩ := Int.eq_ofNat_of_zero_le hy.1
        obtain ⟨p, hpe⟩ : ∃ p : Nat, (p : Int) = S.getD k 0 := ⟨(S.getD k 0).toNat, by have := HSB.out k; omega⟩
        have hpb := HSB.out k
        rw [← hpe] at hpb
        obtain ⟨t, HTE, hxor, htb⟩ : ∃ t, Hid (t = p ^^^ y) ∧ bits .xor .u8 (p : Int) (y : Int) = ((t : Nat) : Int) ∧ t < 256 := ⟨_, (show p ^^^ y = p ^^^ y from rfl), u8_xor_nat _ _ (by omega) (by omega), Nat.xor_lt_two_pow (n := 8) (by omega) (by omega)⟩
        have hpt : p ≠ t := by rw [HTE.out]; exact xor_other (by omega)
        have HUE : Hid (unErr (S.set k (t : Int)) = 5) := HAB.out k p t hk hpe (by omega) htb hpt
        have HYT : Hid (Byt (S.set k (t : Int))) := byt_set HSB.out k (by omega)
        have hyb : ((y : Int) == 0) = false := by simp; omega
        have hc6 := HRW6.out.cell (i := k) (by rw [HSL.out]; exact hk)
        rw [← hpe] at hc6
        have hf6 := HRW6.out.free k
        clear hpe hpt hy0
        go_wp2_with fail
        have HR7 : Hid (Row (w6.setCell ⟨g, k, none⟩ (.int .u8 (t : Int))) g (S.set k (t : Int))) := HRW6.out.set k _
        have HB7 : Hid (Below W.heap.size W (w6.setCell ⟨g, k, none⟩ (.int .u8 (t : Int)))) := HBW6.out.setCell hg2 _
        clear hc6 hf6
        generalize w6.setCell ⟨g, k, none⟩ (.int .u8 (t : Int)) = w7 at *
        obtain ⟨q1, q2⟩ := load_bad HUE.out
        have HL7 : Hid _ := xload_any (.slice (some ⟨g, 0, none⟩) M M) (S.set k (t : Int)) w7 (by have := HR7.out.whole; rw [List.length_set, HSL.out] at this; exact this) (by rw [List.length_set, HSL.out]; omega) HYT.out (HT.out.below HB7.out)
        rw [q1, q2] at HL7
        clear q1 q2
        refine Calls.mono HL7.out ?_
        rintro e w8 ⟨x8, rfl, ho8, hb8⟩
        obtain ⟨ao8, cap8, rfl, _⟩ := ho8.shape
        have HB8 : Hid (Below W.heap.size W w8) := HB7.out.trans (hb8.mono HB7.out.size)
        clear ho8 hb8 HL7
        go_wp2_with fail
        refine (lives_any _).mono ?_
        rintro e w9 ⟨rfl, hb9⟩
        go_wp2_with fail
        go_ret
        exact ⟨rfl, HB8.out.trans (hb9.mono HB8.out.size)⟩
end Go.Proofs.YtbpaiioonljlpacDoor
