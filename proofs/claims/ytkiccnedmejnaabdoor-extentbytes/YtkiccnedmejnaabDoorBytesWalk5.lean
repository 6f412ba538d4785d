/-
  The walk of the law ExtentBytes. Conditions: the table of check stands as the program's text lays it.
-/
import Derived.Test.YtkiccnedmejnaabDoorXLives
import Derived.Test.YtkiccnedmejnaabDoorXLaw3
import Derived.Test.YtkiccnedmejnaabDoorXRefLoad
namespace Go.Proofs.YtkiccnedmejnaabDoor
open Go.RowKit Go.Sort Go.Shelf Go.Lib
set_option linter.unusedVariables false
set_option maxRecDepth 100000

def xbE (l : List Ext) : Int := if goodB l 4194304 = true then 0 else 2
def xbL (l : List Ext) : List Int := if goodB l 4194304 = true then sealN (plainL l) else []
theorem xbytes_any (v : Value) (l : List Ext) (w : World) (hl : Xs w v l) (hE : EWs l) (hn : l.length ≤ 8796093022208) (ht : Tab w) :
    Calls Tryd.prog 12 #[v] w fun e w' => ∃ x, e = .returned (.tuple #[x, .int .i64 (xbE l)]) ∧ Bs w' x (xbL l) ∧ Below w.heap.size w w' := by
  unfold xbE xbL
  cases hg : goodB l 4194304 with
  | true =>
    refine (xbytes_ok v l w hl hE ht hg).mono ?_
    rintro e w' ⟨g, rfl, _, hr, hb⟩
    refine ⟨_, rfl, ?_, hb⟩
    have := hr.whole
    rw [sealN_length] at this
    exact this
  | false =>
    refine (xbytes_no v l w hl hE hn hg).mono ?_
    rintro e w' ⟨rfl, hb⟩
    exact ⟨_, rfl, Bs.nil _, hb⟩
theorem refXBytes_any (v : Value) (l : List Ext) (w : World) (hl : Xs w v l) (hE : EWs l) (hn : l.length ≤ 8796093022208) :
    Calls Tryd.prog 13 #[v] w fun e w' => ∃ x, e = .returned (.tuple #[x, .int .i64 (xbE l)]) ∧ Bs w' x (xbL l) ∧ Below w.heap.size w w' := by
  unfold xbE xbL
  cases hg : goodB l 4194304 with
  | true =>
    refine (refXBytes_ok v l w hl hE hg).mono ?_
    rintro e w' ⟨x, rfl, ho, hb⟩
    exact ⟨_, rfl, ho.bs, hb⟩
  | false =>
    refine (refXBytes_no v l w hl hE hn hg).mono ?_
    rintro e w' ⟨rfl, hb⟩
    exact ⟨_, rfl, Bs.nil _, hb⟩

theorem xldList_len (b : List Int) (hb : Byt b) (h : b.length ≤ 40000) : (xldList b).length ≤ 40000 := by
  unfold xldList
  split
  · rename_i h0
    rw [lstOf_length]
    have h1 : xldOk (unList b) = true := by
      unfold xldErr at h0
      split at h0
      · split at h0
        · assumption
        · cases h0
      · rename_i h2; exact absurd h0 h2
    unfold xldOk at h1
    rw [Bool.and_eq_true] at h1
    have := isL_iff (unList_byt hb) h1.1
    have := unList_len b
    omega
  · simp

set_option maxHeartbeats 8000000 in
theorem extentBytes_walk (v : Value) (l : List Ext) (v1 : Value) (b : List Int) (W : World) (hT : Tab W) (hx : Xs W v l) (hE : EWs l) (hlen : l.length ≤ 8796093021952) (hb : Bs W v1 b) (hby : Byt b) (hbl : b.length ≤ 140737488351232) :
    Calls Tryd.prog 3 #[v, v1] W fun e W' => e = .returned (.bool true) ∧ Below W.heap.size W W' := by
  have HX : Hid (Xs W v l) := hx
  have HE : Hid (EWs l) := hE
  have HLE : Hid (l.length ≤ 8796093021952) := hlen
  have HT : Hid (Tab W) := hT
  have HBS : Hid (Bs W v1 b) := hb
  have HBY : Hid (Byt b) := hby
  obtain ⟨ab, cb, rfl, _⟩ := hb
  obtain ⟨nb, HNB⟩ : ∃ n, Hid (b.length = n) := ⟨_, rfl⟩
  rw [HNB.out] at HBS hbl ⊢
  clear hx hE hlen hT hby
  cases hf : fewB l with
  | false =>
    go_enter Tryd.func3, Tryd.ntmps3
    go_wp2_with (first | (go_at_call 9; refine (few_any _ l _ HX.out (by have := HLE.out; omega)).mono ?_; rintro e w' ⟨rfl, hw'⟩; obtain rfl := hw'.symm; rw [hf]) | (go_at_call 10; refine (lives_any _).mono ?_; rintro e w' ⟨rfl, hb⟩))
    go_ret
    exact ⟨rfl, hb⟩
  | true =>
    by_cases hbig : 40000 < (nb : Int)
    · go_enter Tryd.func3, Tryd.ntmps3
      go_wp2_with (first | (go_at_call 9; refine (few_any _ l _ HX.out (by have := HLE.out; omega)).mono ?_; rintro e w' ⟨rfl, hw'⟩; obtain rfl := hw'.symm; rw [hf]) | (go_at_call 10; refine (lives_any _).mono ?_; rintro e w' ⟨rfl, hb⟩))
      go_ret
      exact ⟨rfl, hb⟩
    · have HXB : Hid (Byt (xbL l)) := by unfold Hid xbL; split; exact byt_seal (plainL_byt l); intro i; simp
      have HXLL : Hid ((xldList b).length ≤ 40000) := xldList_len b HBY.out (by rw [HNB.out]; omega)
      have HNBL : Hid (nb ≤ 40000) := by unfold Hid; omega
      go_enter Tryd.func3, Tryd.ntmps3
      go_wp2_with (first | (go_at_call 9; refine (few_any _ l _ HX.out (by have := HLE.out; omega)).mono ?_; rintro e w' ⟨rfl, hw'⟩; obtain rfl := hw'.symm; rw [hf]; clear hf) | (go_at_call 11; refine (lent_any _ l _ HX.out (by have := HLE.out; omega)).mono ?_; rintro e w1 ⟨x1, rfl, hl1, hb1⟩; have HL1 : Hid (Lent w1 W.heap.size x1 l) := hl1; have HB1 : Hid (Below W.heap.size W w1) := hb1; clear hl1 hb1) | fail)
      refine (xbytes_any _ l _ HL1.out.xs HE.out (by have := HLE.out; omega) (HT.out.below HB1.out)).mono ?_
      rintro e w2 ⟨x2, rfl, ho2, hb2⟩
      have HO2 : Hid (Bs w2 x2 (xbL l)) := ho2
      have HB2 : Hid (Below w1.heap.size w1 w2) := hb2
      have HBW2 : Hid (Below W.heap.size W w2) := HB1.out.trans (hb2.mono HB1.out.size)
      clear ho2 hb2
      go_wp2_with fail
      refine (plain_any _ l _ (HX.out.below HBW2.out) (by have := HLE.out; omega)).mono ?_
      rintro e w3 ⟨ao3, cap3, rfl, ho3, hb3⟩
      have HO3 : Hid (OwnX w3 w2.heap.size 89 (.slice ao3 l.length cap3) l) := ho3
      have HB3 : Hid (Below w2.heap.size w2 w3) := hb3
      clear ho3 hb3
      go_wp2_with fail
      refine (refXBytes_any _ l _ HO3.out.xs HE.out (by have := HLE.out; omega)).mono ?_
      rintro e w4 ⟨x4, rfl, ho4, hb4⟩
      have HO4 : Hid (Bs w4 x4 (xbL l)) := ho4
      have HB24 : Hid (Below w2.heap.size w2 w4) := HB3.out.trans (hb4.mono HB3.out.size)
      have HBW4 : Hid (Below W.heap.size W w4) := HBW2.out.trans (HB24.out.mono HBW2.out.size)
      clear ho4 hb4
      go_wp2_with fail
      refine (xload_any _ b _ (HBS.out.below HBW4.out) (by rw [HNB.out]; have := HNBL.out; omega) HBY.out (HT.out.below HBW4.out)).mono ?_
      rintro e w5 ⟨x5, rfl, ho5, hb5⟩
      have HO5 : Hid (OwnX w5 w4.heap.size 79 x5 (xldList b)) := ho5
      have HB5 : Hid (Below w4.heap.size w4 w5) := hb5
      have HBW5 : Hid (Below W.heap.size W w5) := HBW4.out.trans (hb5.mono HBW4.out.size)
      clear ho5 hb5
      go_wp2_with fail
      refine (refXLoad_any _ b _ (HBS.out.below HBW5.out) (by rw [HNB.out]; have := HNBL.out; omega) HBY.out).mono ?_
      rintro e w6 ⟨x6, rfl, ho6, hb6⟩
      have HO6 : Hid (OwnX w6 w5.heap.size 89 x6 (xldList b)) := ho6
      have HB46 : Hid (Below w4.heap.size w4 w6) := HB5.out.trans (hb6.mono HB5.out.size)
      have HB26 : Hid (Below w2.heap.size w2 w6) := HB24.out.trans (HB46.out.mono HB24.out.size)
      have HB16 : Hid (Below w1.heap.size w1 w6) := HB2.out.trans (HB26.out.mono HB2.out.size)
      have HBW6 : Hid (Below W.heap.size W w6) := HBW5.out.trans (hb6.mono HBW5.out.size)
      have HO56 : Hid (OwnX w6 w4.heap.size 79 x5 (xldList b)) := HO5.out.below hb6
      clear ho6 hb6
      have s1 := (HO2.out.below HB26.out).str Tryd.underlying23 Tryd.underlying5 Tryd.underlying9
      have s2 := (HO4.out.below HB46.out).str Tryd.underlying23 Tryd.underlying5 Tryd.underlying9
      generalize strOfNums (xbL l) = S at *
      generalize xbE l = E1 at *
      generalize xldErr b = E2 at *
      go_wp2_with fail
      refine (same_any _ _ (xldList b) (xldList b) _ HO56.out.xs HO6.out.xs (by have := HXLL.out; omega) (by have := HXLL.out; omega)).mono ?_
      rintro e w7 ⟨rfl, hb7⟩
      rw [show decide (xldList b = xldList b) = true by simp]
      have HB17 : Hid (Below w1.heap.size w1 w7) := HB16.out.trans (hb7.mono HB16.out.size)
      have HBW7 : Hid (Below W.heap.size W w7) := HBW6.out.trans (hb7.mono HBW6.out.size)
      clear hb7 s1 s2
      go_wp2_with fail
      refine (kept_any _ _ l W.heap.size _ (HL1.out.below HB17.out) (HX.out.below HBW7.out) (by have := HLE.out; omega)).mono ?_
      rintro e w8 ⟨rfl, hb8⟩
      have HBW8 : Hid (Below W.heap.size W w8) := HBW7.out.trans (hb8.mono HBW7.out.size)
      clear hb8
      go_wp2_with fail
      refine (lives_any _).mono ?_
      rintro e w9 ⟨rfl, hb9⟩
      go_wp2_with fail
      go_ret
      exact ⟨rfl, HBW8.out.trans (hb9.mono HBW8.out.size)⟩
end Go.Proofs.YtkiccnedmejnaabDoor
