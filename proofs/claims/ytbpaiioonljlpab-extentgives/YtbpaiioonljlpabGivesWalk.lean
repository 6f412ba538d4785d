/-
  The walk of the law ExtentGives.
-/
import Derived.Test.YtbpaiioonljlpabXLives
import Derived.Test.YtbpaiioonljlpabXRefGive
namespace Go.Proofs.Ytbpaiioonljlpab
open Go.RowKit Go.Sort Go.Shelf Go.Lib
set_option linter.unusedVariables false
set_option maxRecDepth 100000

theorem giveList_length (l : List Ext) (x : Ext) : (giveList l x).length ≤ l.length + 1 := by
  unfold giveList
  split
  · have h1 := joinL_length (sortE (l ++ [x]))
    have h2 := (sortE_perm (l ++ [x])).length_eq
    have h3 := List.length_filter_le fitB (l ++ [x])
    have h4 : (l ++ [x]).length = l.length + 1 := by simp
    unfold normL
    omega
  · simp
theorem Lent.ltG {w : World} {B : Nat} {v : Value} {l : List Ext} (h : Lent w B v l) : ∀ k, v.ownBlock = some k → B ≤ k ∧ k < w.heap.size := by
  obtain ⟨g, cap, rfl, hB, hx⟩ := h
  intro k hk
  cases hk
  obtain ⟨ao, c, hv, _, hcell⟩ := hx.opened
  obtain ⟨b, off, e, q1, _, hb⟩ := hcell 0 (by simp)
  injection hv with e1
  rw [e] at e1
  injection e1 with e1
  injection e1 with e1
  subst e1
  exact ⟨hB, hb⟩

set_option maxHeartbeats 8000000 in
theorem extentGives_walk (v : Value) (l : List Ext) (x : Ext) (W : World) (hx : Xs W v l) (hE : EWs l) (hlen : l.length ≤ 8796093021952) (hxE : EW x) :
    Calls Try.prog 7 #[v, .agg #[.int .i64 x.1, .int .i64 x.2]] W fun e W' => e = .returned (.bool true) ∧ Below W.heap.size W W' := by
  obtain ⟨a, s⟩ := x
  dsimp only
  have HX : Hid (Xs W v l) := hx
  have HE : Hid (EWs l) := hE
  have HXE : Hid (EW (a, s)) := hxE
  have HLE : Hid (l.length ≤ 8796093021952) := hlen
  have HB0 : Hid (Below W.heap.size W (W.alloc (.cells #[.int .i64 a, .int .i64 s] 48))) := (Below.refl _ _).alloc (Nat.le_refl _) _
  have HC0 : Hid _ := cells_pairX (heap_alloc_new W (.cells #[.int .i64 a, .int .i64 s] 48))
  clear hx hE hlen hxE
  cases hf : fewB l with
  | false =>
    go_enter Try.func7, Try.ntmps7
    go_wp2_with (first | (go_at_call 8; refine (few_any _ l _ (HX.out.below HB0.out) (by have := HLE.out; omega)).mono ?_; rintro e w' ⟨rfl, hw'⟩; rw [hf]; have hb0 : Below W.heap.size W w' := (by rw [hw']; exact HB0.out); clear hw') | (go_at_call 9; refine (lives_any _).mono ?_; rintro e w2 ⟨rfl, hb⟩))
    go_ret
    exact ⟨rfl, hb0.trans (hb.mono hb0.size)⟩
  | true =>
    have HTL : Hid ((giveList l (a, s)).length ≤ 8796093022208) := by have h1 := giveList_length l (a, s); have h2 := HLE.out; unfold Hid; omega
    go_enter Try.func7, Try.ntmps7
    go_wp2_with (first | (go_at_call 8; refine (few_any _ l _ (HX.out.below HB0.out) (by have := HLE.out; omega)).mono ?_; rintro e w0 ⟨rfl, hw0⟩; rw [hf]; clear hf; have HBW0 : Hid (Below W.heap.size W w0) := (by rw [hw0]; exact HB0.out); have c0 : w0.cell? ⟨W.heap.size, 0, none⟩ = some (.int .i64 a) := (by rw [hw0]; exact HC0.out.1); have c1 : w0.cell? ⟨W.heap.size, 1, none⟩ = some (.int .i64 s) := (by rw [hw0]; exact HC0.out.2); clear hw0) | (go_at_call 10; refine (lent_any _ l _ (HX.out.below HBW0.out) (by have := HLE.out; omega)).mono ?_; rintro e w1 ⟨x1, rfl, hl1, hb1⟩; have HL1 : Hid (Lent w1 w0.heap.size x1 l) := hl1; have HB1 : Hid (Below w0.heap.size w0 w1) := hb1; have e1 := cell_later hb1 c0; have e2 := cell_later hb1 c1; clear hl1 hb1) | fail)
    refine (give_any _ l a s _ HL1.out.xs HE.out HXE.out (by have := HLE.out; omega)).mono ?_
    rintro e w2 ⟨x2, rfl, ho2, hb2⟩
    have HO2 : Hid (OwnX w2 w1.heap.size 48 x2 (giveList l (a, s))) := ho2
    have HB2 : Hid (Below w1.heap.size w1 w2) := hb2
    have g1 := cell_later hb2 e1
    have g2 := cell_later hb2 e2
    have HK : Hid (∀ w', Below w2.heap.size w2 w' → w'.cell? ⟨W.heap.size, 0, none⟩ = some (.int .i64 a) ∧ w'.cell? ⟨W.heap.size, 1, none⟩ = some (.int .i64 s)) := fun w' h => ⟨cell_later h g1, cell_later h g2⟩
    have HBW1 : Hid (Below W.heap.size W w1) := HBW0.out.trans (HB1.out.mono HBW0.out.size)
    have HBW2 : Hid (Below W.heap.size W w2) := HBW1.out.trans (hb2.mono HBW1.out.size)
    have HX2 : Hid (∀ w', Below w2.heap.size w2 w' → Xs w' v l) := fun w' h => (HX.out.below HBW2.out).below h
    clear ho2 hb2 c0 c1 e1 e2
    go_wp2_with fail
    go_region_held_law (fun w' => w'.cell? ⟨W.heap.size, 0, none⟩ = some (.int .i64 a) ∧ w'.cell? ⟨W.heap.size, 1, none⟩ = some (.int .i64 s)) (first | exact HK.out _ (by assumption) | go_keep) (first | (go_at_call 13; refine (plain_any _ l _ (HX2.out _ (Below.refl _ _).drew) (by have := HLE.out; omega)).mono ?_; rintro e w3 ⟨ao3, cap3, rfl, ho3, hb3'⟩; have hb3 : Below w2.heap.size w2 w3 := ((Below.refl w2.heap.size w2).drew).trans hb3'; have HO3 : Hid (OwnX w3 w2.heap.size 51 (.slice ao3 l.length cap3) l) := ho3; clear ho3 hb3') | (go_at_call 28; refine (refGive_any _ l a s _ HO3.out.xs HE.out HXE.out (by have := HLE.out; omega)).mono ?_; rintro e w4 ⟨x4, rfl, ho4, hb4'⟩; have hb4 : Below w2.heap.size w2 w4 := hb3.trans (hb4'.mono hb3.size); have HO4 : Hid (OwnX w4 w3.heap.size 51 x4 (giveList l (a, s))) := ho4; clear ho4 hb4'))
    all_goals
      have HB24 : Hid (Below w2.heap.size w2 w4) := hb4
      have HB14 : Hid (Below w1.heap.size w1 w4) := HB2.out.trans (HB24.out.mono HB2.out.size)
      have HBW4 : Hid (Below W.heap.size W w4) := HBW1.out.trans (HB14.out.mono HBW1.out.size)
      clear hb4 hb3
      go_wp2_with fail
      refine (same_any _ _ (giveList l (a, s)) (giveList l (a, s)) _ (HO2.out.xs.below HB24.out) HO4.out.xs HTL.out HTL.out).mono ?_
      rintro e w5 ⟨rfl, hb5⟩
      rw [show decide (giveList l (a, s) = giveList l (a, s)) = true by simp]
      have HB15 : Hid (Below w1.heap.size w1 w5) := HB14.out.trans (hb5.mono HB14.out.size)
      have HB25 : Hid (Below w2.heap.size w2 w5) := HB24.out.trans (hb5.mono HB24.out.size)
      have HBW5 : Hid (Below W.heap.size W w5) := HBW4.out.trans (hb5.mono HBW4.out.size)
      clear hb5
      go_wp2_with fail
      refine (kept_any _ _ l w0.heap.size _ (HL1.out.below HB15.out) (HX.out.below HBW5.out) (by have := HLE.out; omega)).mono ?_
      rintro e w6 ⟨rfl, hb6⟩
      have HB16 : Hid (Below w1.heap.size w1 w6) := HB15.out.trans (hb6.mono HB15.out.size)
      have HB26 : Hid (Below w2.heap.size w2 w6) := HB25.out.trans (hb6.mono HB25.out.size)
      have HBW6 : Hid (Below W.heap.size W w6) := HBW5.out.trans (hb6.mono HBW5.out.size)
      clear hb6
      go_wp2_with fail
      refine (spoil_any _ (giveList l (a, s)) w1.heap.size _ (HO2.out.below HB26.out) HTL.out).mono ?_
      rintro e w7 ⟨rfl, hg7⟩
      have HOL : Hid (∀ j, x2.ownBlock = some j → w1.heap.size ≤ j) := fun j hj => (HO2.out.lt j hj).1
      have HBW7 : Hid (Below W.heap.size W w7) := HBW6.out.grown hg7 HBW6.out.size (fun j hj => Nat.le_trans HBW1.out.size (HOL.out j hj))
      have HL7 : Hid (Lent w7 w0.heap.size x1 l) := (HL1.out.below HB16.out).grown hg7 (fun j hj e => by have h1 := HOL.out j hj; have h2 := (HL1.out.ltG j e).2; omega)
      clear hg7
      go_wp2_with fail
      refine (kept_any _ _ l w0.heap.size _ HL7.out (HX.out.below HBW7.out) (by have := HLE.out; omega)).mono ?_
      rintro e w8 ⟨rfl, hb8⟩
      have HBW8 : Hid (Below W.heap.size W w8) := HBW7.out.trans (hb8.mono HBW7.out.size)
      clear hb8
      go_wp2_with fail
      refine (lives_any _).mono ?_
      rintro e w9 ⟨rfl, hb9⟩
      go_wp2_with fail
      go_ret
      exact ⟨rfl, HBW8.out.trans (hb9.mono HBW8.out.size)⟩
end Go.Proofs.Ytbpaiioonljlpab
