/-
  The walk of the document's Load of extents. Conditions: the bytes' length is at most 40000.
-/
import Derived.Test.YtkiccnedmejnaabDoorXRefBytes
import Derived.Test.YtkiccnedmejnaabDoorXOrder
import Derived.Test.YtkiccnedmejnaabDoorXLaw
import Derived.Test.YtkiccnedmejnaabDoorXBytesMath3
namespace Go.Proofs.YtkiccnedmejnaabDoor
open Go.RowKit Go.Sort Go.Shelf Go.Lib
set_option linter.unusedVariables false
set_option maxRecDepth 100000

theorem refAt4 (v : Value) (b : List Int) (p : Nat) (w : World) (hl : Bs w v b) (hb : b.length ≤ 140737488351232) (hby : Byt b) (hp : p + 4 ≤ b.length) :
    Calls Tryd.prog 46 #[v, .int .i64 p, .int .i64 4, .bool true] w fun e w' => e = .returned (.tuple #[.int .u64 (at4 b p), .int .i64 0]) ∧ w' = w := by
  have he : getErr b.length (p : Int) 4 = 0 := by unfold getErr wOk pOk; simp; omega
  have hu : getNum b (p : Int) 4 true = at4 b p := by unfold getNum at4; rw [he]; simp
  have := refGet_any v b (p : Int) 4 true w hl hb hby
  rw [he, hu] at this
  exact this

set_option maxHeartbeats 4000000 in
theorem refXLoad_any (v : Value) (b : List Int) (w : World) (hl : Bs w v b) (hb : b.length ≤ 40000) (hby : Byt b) :
    Calls Tryd.prog 16 #[v] w fun e w' => ∃ x, e = .returned (.tuple #[x, .int .i64 (xldErr b)]) ∧ OwnX w' w.heap.size 89 x (xldList b) ∧ Below w.heap.size w w' := by
  obtain ⟨i1, hi, hz0, hz1, hz2⟩ := info_parts Tryd.infoR
  have HU : Hid _ := refUnseal_any v b w hl (by omega) hby
  have HPB : Hid (Byt (unList b)) := unList_byt hby
  have HPL : Hid ((unList b).length ≤ 40000) := by have := unList_len b; unfold Hid; omega
  have HBS : Hid (Bs w v b) := hl
  have HBY : Hid (Byt b) := hby
  have HBL : Hid (b.length ≤ 40000) := hb
  obtain ⟨ao, cap, rfl, _⟩ := hl
  obtain ⟨nb, HNB⟩ : ∃ n, Hid (b.length = n) := ⟨_, rfl⟩
  rw [HNB.out] at HU HBS ⊢
  clear hby hb
  by_cases he : unErr b = 0
  · have HE : Hid (unErr b = 0) := he
    have HOC : Hid (refOk b = (goodB (lstOf (unList b) (refCnt (unList b))) 4194304 && decide (sealN (plainL (lstOf (unList b) (refCnt (unList b)))) = b))) := rfl
    have HYES : Hid (refOk b = true → xldErr b = 0 ∧ xldList b = lstOf (unList b) (refCnt (unList b))) := refOk_cnt HBY.out he
    have HNO : Hid (refOk b = false → xldErr b = 5 ∧ xldList b = []) := refOk_no HBY.out he
    rw [he] at HU
    clear he
    generalize unList b = p at *
    obtain ⟨m, HM⟩ : ∃ m, Hid (p.length = m) := ⟨_, rfl⟩
    have hm : m ≤ 40000 := by have := HPL.out; rw [HM.out] at this; exact this
    obtain ⟨n, HN⟩ : ∃ n, Hid (refCnt p = n) := ⟨_, rfl⟩
    have HNE : Hid (n = (m - 4) / 8) := by have := HN.out; unfold refCnt at this; rw [HM.out] at this; unfold Hid; omega
    have hnm : n ≤ 5000 := by have := HNE.out; omega
    rw [HN.out] at HOC HYES
    go_enter Tryd.func16, Tryd.ntmps16
    go_wp2_with (go_at_call 45; refine Calls.mono HU.out ?_; rintro e w1 ⟨x1, rfl, ho1, hb1⟩; have HO1 : Hid (Own w1 w.heap.size x1 p) := ho1; have HB1 : Hid (Below w.heap.size w w1) := hb1; clear ho1 hb1)
    obtain ⟨a1, c1, e1, hc1, _⟩ := HO1.out.opened
    rw [HM.out] at e1 hc1
    subst e1
    go_loopw [6, 7] (fun o i wr => ∃ (k : Nat) (a : Option Addr) (c : Nat), k ≤ n ∧ i = .int .i64 (4 + 8 * (k : Int)) ∧ o = .slice a k c ∧ Hid (OwnX wr w1.heap.size 89 (.slice a k c) (lstOf p k)) ∧ Hid (Below w1.heap.size w1 wr)) (fun _ i _ => m + 8 - (intOf i).toNat)
    case atStart => exact ⟨0, none, 0, Nat.zero_le _, by simp, rfl, OwnX.nil _ _ _, Below.refl _ _⟩
    case round =>
      obtain ⟨k, a, c, hk, rfl, rfl, HO, HB⟩ := hrel
      have HL : Hid ((lstOf p k).length = k) := lstOf_length _ _
      by_cases hlt : k < n
      · have hle : (4 + 8 * (k : Int) + 8 ≤ (m : Int)) := by have := HNE.out; omega
        have HBR : Hid (Bs wr (.slice a1 m c1) p) := (HO1.out.bs).below HB.out
        have HG1 : Hid (Calls Tryd.prog 46 #[.slice a1 m c1, .int .i64 (4 + 8 * (k : Int)), .int .i64 4, .bool true] wr fun e w'' => e = .returned (.tuple #[.int .u64 (at4 p (4 + 8 * k)), .int .i64 0]) ∧ w'' = wr) := by
          have := refAt4 _ p (4 + 8 * k) wr HBR.out (by rw [HM.out]; omega) HPB.out (by rw [HM.out]; omega)
          rw [show ((4 + 8 * k : Nat) : Int) = 4 + 8 * (k : Int) by omega] at this
          exact this
        have HG2 : Hid (Calls Tryd.prog 46 #[.slice a1 m c1, .int .i64 (4 + 8 * (k : Int) + 4), .int .i64 4, .bool true] wr fun e w'' => e = .returned (.tuple #[.int .u64 (at4 p (4 + 8 * k + 4)), .int .i64 0]) ∧ w'' = wr) := by
          have := refAt4 _ p (4 + 8 * k + 4) wr HBR.out (by rw [HM.out]; omega) HPB.out (by rw [HM.out]; omega)
          rw [show ((4 + 8 * k + 4 : Nat) : Int) = 4 + 8 * (k : Int) + 4 by omega] at this
          exact this
        obtain ⟨ua0, ua1⟩ := at4_bd HPB.out (p := 4 + 8 * k) (by rw [HM.out]; omega)
        obtain ⟨us0, us1⟩ := at4_bd HPB.out (p := 4 + 8 * k + 4) (by rw [HM.out]; omega)
        have HS : Hid (lstOf p (k + 1) = lstOf p k ++ [(at4 p (4 + 8 * k), at4 p (4 + 8 * k + 4))]) := lstOf_succ p k
        generalize at4 p (4 + 8 * k) = ua at *
        generalize at4 p (4 + 8 * k + 4) = us at *
        have hwa : IntKind.i64.wrap ua = ua := by simp [IntKind.wrap, IntKind.bits, IntKind.signed]; omega
        have hws : IntKind.i64.wrap us = us := by simp [IntKind.wrap, IntKind.bits, IntKind.signed]; omega
        go_wp2_with fail
        refine Calls.mono HG1.out ?_
        rintro e w2 ⟨rfl, hw2⟩
        obtain rfl := hw2.symm
        go_wp2_with fail
        refine Calls.mono HG2.out ?_
        rintro e w2 ⟨rfl, hw2⟩
        obtain rfl := hw2.symm
        go_wp2_with (at_builtin; refine wpList_append_x _ rfl (.tmp 42) (.tmp 48) 32 89 rfl i1 Tryd.underlying32 hi hz0 hz1 hz2 w1.heap.size _ _ (lstOf p k) [(ua, us)] rfl rfl (HO.out.below ((Below.refl _ _).alloc (Nat.le_refl _) _)) (Xs.oneAt _ _ (ua, us) _ rfl) (by rw [HL.out]; simp; omega) (by have h1 := HB.out.size; simp; omega) ?_; intro ao3 cap3 w3 ho3 hg3 hc3 hne3; rw [HL.out] at ho3 hc3; simp only [List.length_cons, List.length_nil, Nat.zero_add] at ho3 hc3 ⊢; rw [HL.out]; have HB3 : Hid (Below w1.heap.size w1 w3) := (HB.out.alloc HB.out.size (.cells #[.int .i64 ua, .int .i64 us] 89)).grown hg3 (HB.out.alloc HB.out.size (.cells #[.int .i64 ua, .int .i64 us] 89)).size (fun j hj => (HO.out.lt j hj).1); have HO3 : Hid (OwnX w3 w1.heap.size 89 (.slice ao3 (k + 1) cap3) (lstOf p k ++ [(ua, us)])) := ho3; clear ho3 hg3 hc3 hne3)
        go_roundw
        case rel => exact ⟨k + 1, ao3, cap3, by omega, by simp; omega, rfl, by rw [HS.out]; exact HO3.out, HB3.out⟩
        case measure => simp [intOf]; omega
      · obtain rfl : k = n := by omega
        have hle : ¬ (4 + 8 * (k : Int) + 8 ≤ (m : Int)) := by have := HNE.out; omega
        have HEW : Hid (EWs (lstOf p k)) := by
          by_cases h4 : 4 + 8 * k ≤ m
          · exact lstOf_ew HPB.out (by rw [HM.out]; omega)
          · obtain rfl : k = 0 := by have := HNE.out; omega
            intro x hx; simp [lstOf] at hx
        have HBW : Hid (Below w.heap.size w wr) := HB1.out.trans (HB.out.mono HB1.out.size)
        have HOW : Hid (OwnX wr w.heap.size 89 (.slice a k c) (lstOf p k)) := HO.out.mono HB1.out.size
        cases hg : goodB (lstOf p k) 4194304 with
        | false =>
          have HR : Hid (xldErr b = 5 ∧ xldList b = []) := HNO.out (by rw [HOC.out, hg]; rfl)
          go_wp2_with fail
          refine (refXBytes_no _ (lstOf p k) _ HO.out.xs HEW.out (by rw [HL.out]; omega) hg).mono ?_
          rintro e w2 ⟨rfl, hb2⟩
          go_wp2_with fail
          go_ret2
          rw [HR.out.1, HR.out.2]
          exact ⟨_, rfl, OwnX.nil _ _ _, HBW.out.trans (hb2.mono HBW.out.size)⟩
        | true =>
          go_wp2_with fail
          refine (refXBytes_ok _ (lstOf p k) _ HO.out.xs HEW.out hg).mono ?_
          rintro e w2 ⟨x2, rfl, ho2, hb2⟩
          have HB2 : Hid (Below w.heap.size w w2) := HBW.out.trans (hb2.mono HBW.out.size)
          have HO2 : Hid (OwnX w2 w.heap.size 89 (.slice a k c) (lstOf p k)) := HOW.out.below hb2
          have HSB : Hid (Byt (sealN (plainL (lstOf p k)))) := byt_seal (plainL_byt _)
          have s1 := ho2.bs.str Tryd.underlying23 Tryd.underlying5 Tryd.underlying9
          have s2 := (HBS.out.below HB2.out).str Tryd.underlying23 Tryd.underlying5 Tryd.underlying9
          obtain ⟨a2, c2, e2, _, _⟩ := ho2.opened
          subst e2
          by_cases heq : sealN (plainL (lstOf p k)) = b
          · have HR : Hid (xldErr b = 0 ∧ xldList b = lstOf p k) := HYES.out (by rw [HOC.out, hg]; simp [heq])
            rw [heq] at s1 ⊢
            clear hb2 ho2
            go_wp2_with fail
            go_ret2
            rw [HR.out.1, HR.out.2]
            exact ⟨_, rfl, HO2.out, HB2.out⟩
          · have HR : Hid (xldErr b = 5 ∧ xldList b = []) := HNO.out (by rw [HOC.out, hg]; simp [heq])
            have hst : ((strOfNums (sealN (plainL (lstOf p k)))).toList == (strOfNums b).toList) = false := str_neL HSB.out HBY.out heq
            generalize strOfNums (sealN (plainL (lstOf p k))) = S1 at *
            generalize strOfNums b = S2 at *
            clear hb2 ho2
            go_wp2_with fail
            go_ret2
            rw [HR.out.1, HR.out.2]
            exact ⟨_, rfl, OwnX.nil _ _ _, HB2.out⟩
  · have he' : (unErr b != 0) = true := by simp [he]
    have H1 : Hid (xldErr b = unErr b ∧ xldList b = []) := by have h : xldErr b = unErr b := by { unfold xldErr; rw [if_neg he] }; unfold xldList; rw [h, if_neg he]; exact ⟨rfl, rfl⟩
    go_enter Tryd.func16, Tryd.ntmps16
    go_wp2_with (go_at_call 45; refine Calls.mono HU.out ?_; rintro e w1 ⟨x1, rfl, ho1, hb1⟩)
    go_ret2
    rw [H1.out.1, H1.out.2]
    exact ⟨_, rfl, OwnX.nil _ _ _, hb1⟩
end Go.Proofs.YtkiccnedmejnaabDoor
