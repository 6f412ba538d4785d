/-
  Load's 'readChain': the blocks of a chain are gone through. Conditions: lengths are such as memory bears; the table of the sum and the empty extent stand.
  Load's 'readMessages': the messages of a stream. Conditions: lengths are such as memory bears.
  Load: a chain of blocks is read, or refused; what gives up is caught. Conditions: lengths are such as memory bears; the table of the sum and the empty extent stand.
-/
import Derived.Test.YtdalkjenjnalbaaDoorELoad3
import Derived.Deep.LoopGhost
import Derived.Test.YtdalkjenjnalbaaDoorERef
import Derived.Recover
namespace Go.Proofs.YtdalkjenjnalbaaDoor
open Go.RowKit
set_option linter.unusedVariables false
set_option maxRecDepth 100000

theorem slc_take {b : List Int} {L : Nat} {x : Ext} (h0 : 0 ≤ x.1) (h1 : 0 ≤ x.2) (h2 : x.1 + x.2 ≤ (L : Int)) : slc (b.take L) x = slc b x := by
  unfold slc
  rw [List.drop_take, List.take_take, Nat.min_eq_left (by omega)]
theorem slc_len {b : List Int} {x : Ext} (h0 : 0 ≤ x.1) (h1 : 0 ≤ x.2) (h2 : x.1 + x.2 ≤ (b.length : Int)) : (slc b x).length = x.2.toNat := by
  unfold slc
  rw [List.length_take, List.length_drop]
  omega
theorem blkD_len {y part : List Int} {nx : Ext} (h : blkD y = some (part, nx)) : part.length ≤ y.length := by
  unfold blkD at h
  split at h
  · cases h
  · unfold blkE at h
    split at h
    · cases h
    · split at h
      · cases h
      · injection h with h
        injection h with h _
        subst h
        rw [List.length_take, List.length_drop]
        have : (unList y).length ≤ y.length := by
          unfold unList
          split
          · rw [List.length_take]; omega
          · simp
        omega
/-- The chain as it is gone through: what is still to come is what comes in all. -/
def ChL (b : List Int) (L : Nat) (r : ChR) (k : Nat) (used : List Ext) (tot : Int) (all : List Int) (x : Ext) : Prop :=
  (∀ y ∈ used, Wd y) ∧ (0 ≤ tot ∧ tot ≤ (L : Int)) ∧ 17 * (used.length : Int) ≤ tot ∧ (all.length : Int) ≤ tot ∧
  (x = (0, 0) → r = if meetsB used = true then (5, [], []) else (0, all, used)) ∧ (x ≠ (0, 0) → Wd x ∧ ((L : Int) - tot).toNat < k ∧ r = prM b L k used tot all x)
theorem ChL.start {b : List Int} {L : Nat} {x : Ext} (hx : Wd x) : ChL b L (prM b L (L + 1) [] 0 [] x) (L + 1) [] 0 [] x := by
  refine ⟨(fun y hy => by cases hy), ⟨Int.le_refl _, by omega⟩, by simp, by simp, (fun e => ?_), (fun _ => ⟨hx, by omega, rfl⟩)⟩
  have := hx.2.1
  rw [e] at this
  simp at this
theorem ChL.step {b : List Int} {L k : Nat} {r : ChR} {used : List Ext} {tot : Int} {all part : List Int} {x nx : Ext} (hb : (L : Int) ≤ b.length) (h : ChL b L r (k + 1) used tot all x) (hx : x ≠ (0, 0)) (h1 : ¬ (L : Int) - x.1 < x.2) (h2 : ¬ (L : Int) < tot + x.2) (hd : blkD (slc b x) = some (part, nx)) : ChL b L r k (used ++ [x]) (tot + x.2) (all ++ part) nx := by
  obtain ⟨g1, ⟨g2, g3⟩, g4, g5, _, g6⟩ := h
  obtain ⟨w1, w2, w3⟩ := g6 hx
  have hx2 := w1.2.1
  have hl := blkD_len hd
  rw [slc_len w1.1 (by omega) (by omega)] at hl
  refine ⟨fun y hy => (List.mem_append.1 hy).elim (g1 y) (fun h => by rw [List.mem_singleton.1 h]; exact w1), ⟨by omega, by omega⟩, ?_, ?_, (fun e => ?_), (fun e => ⟨wide_of (blkD_next hd e), by omega, ?_⟩)⟩
  · rw [List.length_append]; simp only [List.length_cons, List.length_nil]; omega
  · rw [List.length_append]; omega
  · rw [w3]
    simp only [prM, if_neg h1, if_neg h2, hd, if_pos e]
  · rw [w3]
    simp only [prM, if_neg h1, if_neg h2, hd, if_neg e]
theorem ChL.short {b : List Int} {L k : Nat} {r : ChR} {used : List Ext} {tot : Int} {all : List Int} {x : Ext} (h : ChL b L r (k + 1) used tot all x) (hx : x ≠ (0, 0)) (h1 : (L : Int) - x.1 < x.2) : r = ((if meetsB (used ++ [x]) = true then 5 else 4), [], []) := by
  obtain ⟨_, _, w3⟩ := h.2.2.2.2.2 hx
  rw [w3]
  simp only [prM, if_pos h1]
  split <;> rfl
theorem ChL.over {b : List Int} {L k : Nat} {r : ChR} {used : List Ext} {tot : Int} {all : List Int} {x : Ext} (h : ChL b L r (k + 1) used tot all x) (hx : x ≠ (0, 0)) (h1 : ¬ (L : Int) - x.1 < x.2) (h2 : (L : Int) < tot + x.2) : r = (5, [], []) := by
  obtain ⟨_, _, w3⟩ := h.2.2.2.2.2 hx
  rw [w3]
  simp only [prM, if_neg h1, if_pos h2]
theorem ChL.bad {b : List Int} {L k : Nat} {r : ChR} {used : List Ext} {tot : Int} {all : List Int} {x : Ext} (h : ChL b L r (k + 1) used tot all x) (hx : x ≠ (0, 0)) (h1 : ¬ (L : Int) - x.1 < x.2) (h2 : ¬ (L : Int) < tot + x.2) (hd : blkD (slc b x) = none) : r = (5, [], []) := by
  obtain ⟨_, _, w3⟩ := h.2.2.2.2.2 hx
  rw [w3]
  simp only [prM, if_neg h1, if_neg h2, hd]
/-- What readChain does. -/
def RcP (w : World) (r : ChR) (e : Ending) (w' : World) : Prop :=
  Below w.heap.size w w' ∧ (r.1 ≠ 0 → Gave e r.1) ∧ (r.1 = 0 → ∃ v vu, e = .returned (.tuple #[v, vu]) ∧ Own w' w.heap.size v r.2.1 ∧ OwnX w' w.heap.size 49 vu r.2.2)
/-- The loop's state. -/
def RcL (w : World) (B g : Nat) (b : List Int) (L : Nat) (vf : Value) (r : ChR) (R : List Pc) (k : Nat) (p : Nat) (W : World) : Prop :=
  Below w.heap.size w W ∧ ∃ vu vs used tot all x, ChS W B g vf vu vs used tot all (boxX p x :: R) ∧ ChL b L r k used tot all x
/-- Behind 'enter', and behind 'readBlock'. -/
def RcE (B g : Nat) (vf vs : Value) (used : List Ext) (tot : Int) (all : List Int) (R : List Pc) (W : World) : Prop := ∃ vu, ChS W B g vf vu vs used tot all R
def RcF (B g : Nat) (vf : Value) (used : List Ext) (tot : Int) (all : List Int) (R : List Pc) (W : World) : Prop := ∃ vu vs, ChS W B g vf vu vs used tot all R
theorem ChS.reBox {w : World} {B g b1 : Nat} {vf vu vs : Value} {used : List Ext} {tot : Int} {all : List Int} {R : List Pc} {z : Ext} (h : ChS w B g vf vu vs used tot all (boxX b1 z :: R)) (p q : Int) : ChS ((w.setCell ⟨b1, 0, none⟩ (.int .i64 p)).setCell ⟨b1, 1, none⟩ (.int .i64 q)) B g vf vu vs used tot all (boxX b1 (p, q) :: R) := by
  have h1 := Sep.store [chO g vf vu tot vs, chU vu used, chT vs all] (g := b1) (a := #[.int .i64 z.1, .int .i64 z.2]) (T := 49) h 0 (.int .i64 p)
  have h2 := Sep.store [chO g vf vu tot vs, chU vu used, chT vs all] h1 1 (.int .i64 q)
  exact h2
theorem rc_next {w W : World} {b0 p kk L : Nat} {b : List Int} {vf : Value} {r : ChR} {used : List Ext} {tot : Int} {all : List Int} {R : List Pc} {x : Ext} {y1 y2 : Int} (hB : w.heap.size = b0) (hW : Below b0 w W) (hF : RcF b0 (b0 + 1) vf used tot all (boxX p x :: R) W) (hL : ChL b L r kk used tot all (y1, y2)) :
    W.cell? ⟨p, 0, none⟩ = some (.int .i64 x.1) ∧ W.cell? ⟨p, 1, none⟩ = some (.int .i64 x.2) ∧ W.frozen? ⟨p, 0, none⟩ = false ∧ W.frozen? ⟨p, 1, none⟩ = false ∧ RcL w b0 (b0 + 1) b L vf r (boxX p (y1, y2) :: R) kk W.heap.size (((W.setCell ⟨p, 0, none⟩ (.int .i64 y1)).setCell ⟨p, 1, none⟩ (.int .i64 y2)).alloc (.cells #[.int .i64 y1, .int .i64 y2] 49)) := by
  obtain ⟨vu, vs, hc⟩ := hF
  have h1 := Sep.obj (g := p) (a := #[.int .i64 x.1, .int .i64 x.2]) (T := 49) hc (by simp [boxX])
  have hp : b0 ≤ p := (hc.at_ (boxX p x) (by simp)).2
  have hs : b0 ≤ W.heap.size := by rw [← hB] at hW ⊢; exact hW.size
  refine ⟨cellO h1 0 rfl, cellO h1 1 rfl, frozenO h1 0, frozenO h1 1, ?_, vu, vs, used, tot, all, (y1, y2), ?_, hL⟩
  · rw [hB]
    exact ((hW.setCell hp _).setCell hp _).alloc (by simpa [World.setCell] using hs) _
  · have h2 := (hc.reBox y1 y2).box (by simpa [World.setCell] using hs) (y1, y2)
    have e : ((W.setCell ⟨p, 0, none⟩ (.int .i64 y1)).setCell ⟨p, 1, none⟩ (.int .i64 y2)).heap.size = W.heap.size := by simp
    rw [e] at h2
    exact h2
set_option maxHeartbeats 8000000 in
theorem readChain_any (w : World) (vb : Value) (b : List Int) (x : Ext) (hb : Bs w vb b) (hbl : b.length ≤ 140737488351232) (hby : Byt b) (hx : Wd x) (hT : Tab w) (hX : NoX w) (L : Nat) (hL : L = min b.length 4194304) :
    Calls Tryd.prog 39 #[vb, .agg #[.int .i64 x.1, .int .i64 x.2]] w fun e w' => RcP w (prM b L (L + 1) [] 0 [] x) e w' := by
  have HB : Hid (Bs w vb b) := hb
  obtain ⟨ao, cap, hv, hcap, hnil, _⟩ := hb
  subst hv
  obtain ⟨n, HN⟩ : ∃ n, Hid (b.length = n) := ⟨_, rfl⟩
  have HLb : Hid ((L : Int) ≤ b.length) := by unfold Hid; omega
  rw [HN.out] at hbl hcap hL HB ⊢
  have hmin : min (n : Int) 4194304 = (L : Int) := by omega
  have hLn : L ≤ n := by omega
  have hLc : L ≤ cap := by omega
  have hLm : L ≤ 4194304 := by omega
  have HF : Hid (Bs w (.slice ao L cap) (b.take L)) := bs_front HB.out L (by rw [HN.out]; exact hLn)
  have HFL : Hid ((b.take L).length = L) := by unfold Hid; rw [List.length_take, HN.out]; omega
  have HFY : Hid (Byt (b.take L)) := byt_takeE hby L
  obtain ⟨r, HR⟩ : ∃ r, Hid (prM b L (L + 1) [] 0 [] x = r) := ⟨_, rfl⟩
  have HST := ChL.start (b := b) (L := L) hx
  rw [HR.out] at HST ⊢
  obtain ⟨x1, x2⟩ := x
  dsimp only at HST ⊢
  obtain ⟨b0, HB0⟩ : ∃ b0, Hid (w.heap.size = b0) := ⟨_, rfl⟩
  have hsep : Sep ((((w.alloc (.cells #[.int .i64 x1, .int .i64 x2] 49)).alloc (.cells #[.slice ao L cap, .slice none 0 0, .int .i64 0, .slice none 0 0] 99))).alloc (.cells #[.int .i64 x1, .int .i64 x2] 49)) w.heap.size [chO (w.heap.size + 1) (.slice ao L cap) (.slice none 0 0) 0 (.slice none 0 0), chU (.slice none 0 0) [], chT (.slice none 0 0) [], boxX (w.heap.size + 2) (x1, x2), boxX w.heap.size (x1, x2)] := by
    have h0 : Sep w w.heap.size [] := ⟨(fun p hp => by cases hp), by simp⟩
    have h1 := Sep.new (p := boxX w.heap.size (x1, x2)) h0 ((Below.refl _ w).alloc (Nat.le_refl _) (.cells #[.int .i64 x1, .int .i64 x2] 49)) ⟨heap_alloc_new w _, Nat.le_refl _⟩ (by simp [boxX, Pc.blk])
    have h2 := Sep.new (p := chO (w.heap.size + 1) (.slice ao L cap) (.slice none 0 0) 0 (.slice none 0 0)) h1 ((Below.refl _ (w.alloc (.cells #[.int .i64 x1, .int .i64 x2] 49))).alloc (Nat.le_refl _) (.cells #[.slice ao L cap, .slice none 0 0, .int .i64 0, .slice none 0 0] 99)) ⟨by have := heap_alloc_new (w.alloc (.cells #[.int .i64 x1, .int .i64 x2] 49)) (.cells #[.slice ao L cap, .slice none 0 0, .int .i64 0, .slice none 0 0] 99); rwa [World.size_alloc] at this, by omega⟩ (by simp [chO, Pc.blk])
    have h3 := Sep.new (p := boxX (w.heap.size + 2) (x1, x2)) h2 ((Below.refl _ ((w.alloc (.cells #[.int .i64 x1, .int .i64 x2] 49)).alloc (.cells #[.slice ao L cap, .slice none 0 0, .int .i64 0, .slice none 0 0] 99))).alloc (Nat.le_refl _) (.cells #[.int .i64 x1, .int .i64 x2] 49)) ⟨by have := heap_alloc_new ((w.alloc (.cells #[.int .i64 x1, .int .i64 x2] 49)).alloc (.cells #[.slice ao L cap, .slice none 0 0, .int .i64 0, .slice none 0 0] 99)) (.cells #[.int .i64 x1, .int .i64 x2] 49); rwa [World.size_alloc, World.size_alloc] at this, by omega⟩ (by simp [boxX, Pc.blk])
    have h4 := (h3.nil 5 1).nil 49 2
    refine h4.perm ?_
    show List.Perm [chU (.slice none 0 0) [], chT (.slice none 0 0) [], boxX (w.heap.size + 2) (x1, x2), chO (w.heap.size + 1) (.slice ao L cap) (.slice none 0 0) 0 (.slice none 0 0), boxX w.heap.size (x1, x2)] _
    classical
    rw [List.perm_iff_count]
    intro a
    simp only [List.count_cons, List.count_nil]
    omega
  have HWB : Hid (Below w.heap.size w ((((w.alloc (.cells #[.int .i64 x1, .int .i64 x2] 49)).alloc (.cells #[.slice ao L cap, .slice none 0 0, .int .i64 0, .slice none 0 0] 99))).alloc (.cells #[.int .i64 x1, .int .i64 x2] 49))) := (((Below.refl _ w).alloc (Nat.le_refl _) _).alloc (by simp) _).alloc (by simp; omega) _
  have HSEP : Hid _ := hsep
  clear hsep
  have HLQ : Hid (min (n : Int) 4194304 = (L : Int)) := hmin
  have HRC : Hid (RcL w w.heap.size (w.heap.size + 1) b L (.slice ao L cap) r [boxX w.heap.size (x1, x2)] (L + 1) (w.heap.size + 2) ((((w.alloc (.cells #[.int .i64 x1, .int .i64 x2] 49)).alloc (.cells #[.slice ao L cap, .slice none 0 0, .int .i64 0, .slice none 0 0] 99))).alloc (.cells #[.int .i64 x1, .int .i64 x2] 49))) := ⟨HWB.out, _, _, [], 0, [], (x1, x2), HSEP.out, HST⟩
  clear HSEP hL hmin HST
  go_enter Tryd.func39, Tryd.ntmps39
  go_upto_region 3 with fail
  rw [HLQ.out, Int.toNat_natCast]
  have HTW : Hid (∀ W, Below w.heap.size w W → Tab W) := fun W h => hT.below h
  have HXW : Hid (∀ W, Below w.heap.size w W → NoX W) := fun W h => hX.below h
  have HFW : Hid (∀ W, Below w.heap.size w W → Bs W (.slice ao L cap) (b.take L)) := fun W h => HF.out.below h
  clear hT hX HF HWB HB hby hnil hcap
  rw [HB0.out] at HRC HTW HXW HFW ⊢
  generalize (((w.alloc (.cells #[.int .i64 x1, .int .i64 x2] 49)).alloc (.cells #[.slice ao L cap, .slice none 0 0, .int .i64 0, .slice none 0 0] 99))).alloc (.cells #[.int .i64 x1, .int .i64 x2] 49) = W3 at HRC ⊢
  go_wp2_with fail
  go_loopg [7] (L + 1) (fun gk z wr => ∃ (p : Nat) (R : List Pc), z = .pointer (some ⟨p, 0, none⟩) ∧ Hid (RcL w b0 (b0 + 1) b L (.slice ao L cap) r R gk p wr))
  case atStart => exact ⟨_, _, rfl, HRC.out⟩
  case round =>
    obtain ⟨p, R, rfl, HRL⟩ := hrel
    obtain ⟨hbr, vu, vs, used, tot, all, x, hcs, hcl⟩ := HRL.out
    rw [HB0.out] at hbr
    have HBr : Hid (Below b0 w wr) := hbr
    have HCS : Hid (ChS wr b0 (b0 + 1) (.slice ao L cap) vu vs used tot all (boxX p x :: R)) := hcs
    have HCL : Hid (ChL b L r gk used tot all x) := hcl
    obtain ⟨n0, n1⟩ := HXW.out wr hbr
    obtain ⟨d0, d1⟩ := hcs.boxCell
    have hb0s : b0 ≤ wr.heap.size := by rw [← HB0.out]; exact hbr.size
    obtain ⟨x1, x2⟩ := x
    dsimp only at d0 d1
    clear HRL hbr
    by_cases hz : x1 = 0 ∧ x2 = 0
    · obtain ⟨rfl, rfl⟩ := hz
      have HRQ : Hid (r = if meetsB used = true then (5, [], []) else (0, all, used)) := hcl.2.2.2.2.1 rfl
      obtain ⟨g1, ⟨g2, g3⟩, g4, g5, hq2, hq3⟩ := hcl
      have hEW : EWs used := fun y hy => by
        have hwy := g1 y hy
        have h1 := hwy.1
        have h2 := hwy.2.1
        have h3 := hwy.2.2
        unfold EW
        omega
      have HWA : Hid (∀ W, Below wr.heap.size wr W → Calls Tryd.prog 60 #[.pointer (some ⟨b0 + 1, 0, none⟩)] W fun e w' => (meetsB used = true → Gave e 5) ∧ (meetsB used = false → e = .returned (.tuple #[])) ∧ Below W.heap.size W w') := fun W hW => wantApart_any W b0 (b0 + 1) _ _ _ _ _ _ _ (HCS.out.below hW) hEW (by omega)
      clear hq2 hq3 g1 g4 g5 hcs hEW
      obtain ⟨q, HQ⟩ : ∃ q, Hid (meetsB used = q) := ⟨_, rfl⟩
      rw [HQ.out] at HWA HRQ
      cases q with
      | true =>
        have HW2 : Hid (∀ W, Below wr.heap.size wr W → Calls Tryd.prog 60 #[.pointer (some ⟨b0 + 1, 0, none⟩)] W fun e w' => e = .panicked [{ v := .iface 25 (.int .i64 5), recovered := false }] ∧ Below b0 w w') := fun W hW => (HWA.out W hW).mono fun e w' ⟨h1, _, h3⟩ => ⟨h1 rfl, HBr.out.trans ((hW.trans (h3.mono hW.size)).mono hb0s)⟩
        clear HWA
        go_wp2_with (go_at_call 60; refine Calls.mono (HW2.out _ (Below.refl _ _)) ?_; rintro e w5 ⟨rfl, hb5⟩; have HB5 : Hid (Below b0 w w5) := hb5; clear hb5)
        refine ⟨rfl, ?_⟩
        unfold RcP
        rw [HB0.out, HRQ.out]
        exact ⟨HB5.out, (fun _ => rfl), (fun h => by simp at h)⟩
      | false =>
        have HW2 : Hid (∀ W, Below wr.heap.size wr W → Calls Tryd.prog 60 #[.pointer (some ⟨b0 + 1, 0, none⟩)] W fun e w' => e = .returned (.tuple #[]) ∧ Below wr.heap.size wr w') := fun W hW => (HWA.out W hW).mono fun e w' ⟨_, h1, h3⟩ => ⟨h1 rfl, hW.trans (h3.mono hW.size)⟩
        have HCC : Hid (∀ W, Below wr.heap.size wr W → W.cell? ⟨b0 + 1, 3, none⟩ = some vs ∧ W.cell? ⟨b0 + 1, 1, none⟩ = some vu) := fun W hW => by
          obtain ⟨_, c1, _, c3, _⟩ := (HCS.out.below hW).cell
          exact ⟨c3, c1⟩
        clear HWA
        go_wp2_with (go_at_call 60; refine Calls.mono (HW2.out _ (Below.refl _ _)) ?_; rintro e w5 ⟨rfl, hb5⟩; have HB5 : Hid (Below wr.heap.size wr w5) := hb5; obtain ⟨k3, k1⟩ := HCC.out w5 hb5; clear hb5)
        have HFIN : Hid (∀ nq, Below wr.heap.size wr (w5.drewN nq)) := fun nq => HB5.out.trans ⟨rfl, rfl, rfl, Nat.le_refl _, fun _ _ => rfl⟩
        go_quiet (fail)
        go_wp2_with fail
        go_ret2
        unfold RcP
        rw [HB0.out, HRQ.out]
        exact ⟨HBr.out.trans ((HFIN.out _).mono hb0s), (fun h => by simp at h), (fun _ => ⟨_, _, rfl, (HCS.out.below (HFIN.out _)).own, (HCS.out.below (HFIN.out _)).xs⟩)⟩
    · have HNZ : Hid (((x1, x2) : Ext) ≠ (0, 0)) := fun e => hz (by injection e with e1 e2; exact ⟨e1, e2⟩)
      obtain ⟨hwd, hfu, hq1⟩ := hcl.2.2.2.2.2 HNZ.out
      obtain ⟨g1, ⟨g2, g3⟩, g4, g5, hq2, hq3⟩ := hcl
      clear hq1 hq2 hq3
      obtain ⟨kk, rfl⟩ : ∃ kk, gk = kk + 1 := ⟨gk - 1, by omega⟩
      have hEW : EWs (used ++ [(x1, x2)]) := fun y hy => by
        have hwy : Wd y := (List.mem_append.1 hy).elim (g1 y) (fun h => by rw [List.mem_singleton.1 h]; exact hwd)
        have h1 := hwy.1
        have h2 := hwy.2.1
        have h3 := hwy.2.2
        unfold EW
        omega
      have HEN : Hid _ := enter_any wr b0 (b0 + 1) ao L cap vu vs used tot all (boxX p (x1, x2) :: R) (x1, x2) hcs hb0s (by omega) hwd ⟨g2, by omega⟩ hLm hEW
      have HRB : Hid (¬ (L : Int) - x1 < x2 → ∀ W, Below b0 w W → RcE b0 (b0 + 1) (.slice ao L cap) vs (used ++ [(x1, x2)]) (tot + x2) all (boxX p (x1, x2) :: R) W → Calls Tryd.prog 59 #[.pointer (some ⟨b0 + 1, 0, none⟩), .agg #[.int .i64 x1, .int .i64 x2]] W fun e w' => Below b0 W w' ∧ (blkD (slc b (x1, x2)) = none → Gave e 5) ∧ ∀ part nx, blkD (slc b (x1, x2)) = some (part, nx) → e = .returned (.agg #[.int .i64 nx.1, .int .i64 nx.2]) ∧ ∃ vu ao' cap', ChS w' b0 (b0 + 1) (.slice ao L cap) vu (.slice ao' (all.length + part.length) cap') (used ++ [(x1, x2)]) (tot + x2) (all ++ part) (boxX p (x1, x2) :: R)) := by
        intro hsh W hW hE
        obtain ⟨vu', hc'⟩ := hE
        have h1 := hwd.1
        have h2 := hwd.2.1
        dsimp only at h1 h2
        have := readBlock_any W b0 (b0 + 1) ao L cap vu' vs (used ++ [(x1, x2)]) (tot + x2) all (boxX p (x1, x2) :: R) (x1, x2) (b.take L) hc' (by rw [← HB0.out] at hW ⊢; exact hW.size) hwd hLm (by dsimp only; omega) (HFW.out W hW) HFL.out HFY.out (by omega) (HTW.out W hW) (HXW.out W hW)
        rw [slc_take (by exact h1) (by dsimp only; omega) (by dsimp only; omega)] at this
        refine this.mono fun e w' ⟨k1, k2, k3⟩ => ⟨k1, k2, fun part nx hd => ?_⟩
        obtain ⟨k4, a5, c5, k6⟩ := k3 part nx hd
        exact ⟨k4, vu', a5, c5, k6⟩
      have hx2 : ¬ x2 = 0 := by have := hwd.2.1; dsimp only at this; omega
      clear hcs hEW g1 g4 g5 hfu hwd hz
      by_cases h0 : x1 = 0
      · subst h0
        by_cases hsh : (L : Int) - 0 < x2
        · have HSh : Hid (r = ((if meetsB (used ++ [(0, x2)]) = true then 5 else 4), [], [])) := HCL.out.short HNZ.out hsh
          have HE2 : Hid (Calls Tryd.prog 58 #[.pointer (some ⟨b0 + 1, 0, none⟩), .agg #[.int .i64 0, .int .i64 x2]] wr fun e w' => e = .panicked [{ v := .iface 25 (.int .i64 r.1), recovered := false }] ∧ Below b0 w w') := Calls.mono HEN.out fun e w' ⟨h1, h2, _⟩ => ⟨by have := h2 hsh; rw [HSh.out]; exact this, HBr.out.trans h1⟩
          have HR0 : Hid (r.1 ≠ 0) := by unfold Hid; rw [HSh.out]; dsimp only; split <;> decide
          clear HEN HRB HSh
          go_wp2_with (go_at_call 58; refine Calls.mono HE2.out ?_; rintro e w5 ⟨rfl, hb5⟩; have HB5 : Hid (Below b0 w w5) := hb5; clear hb5)
          refine ⟨rfl, ?_⟩
          unfold RcP
          rw [HB0.out]
          exact ⟨HB5.out, (fun _ => rfl), (fun h => absurd h HR0.out)⟩
        · by_cases hov : (L : Int) < tot + x2
          · have HSh : Hid (r = (5, [], [])) := HCL.out.over HNZ.out hsh hov
            have HE2 : Hid (Calls Tryd.prog 58 #[.pointer (some ⟨b0 + 1, 0, none⟩), .agg #[.int .i64 0, .int .i64 x2]] wr fun e w' => e = .panicked [{ v := .iface 25 (.int .i64 r.1), recovered := false }] ∧ Below b0 w w') := Calls.mono HEN.out fun e w' ⟨h1, _, h2, _⟩ => ⟨by have := h2 hsh hov; rw [HSh.out]; exact this, HBr.out.trans h1⟩
            have HR0 : Hid (r.1 ≠ 0) := by unfold Hid; rw [HSh.out]; decide
            clear HEN HRB HSh
            go_wp2_with (go_at_call 58; refine Calls.mono HE2.out ?_; rintro e w5 ⟨rfl, hb5⟩; have HB5 : Hid (Below b0 w w5) := hb5; clear hb5)
            refine ⟨rfl, ?_⟩
            unfold RcP
            rw [HB0.out]
            exact ⟨HB5.out, (fun _ => rfl), (fun h => absurd h HR0.out)⟩
          · have HE2 : Hid (Calls Tryd.prog 58 #[.pointer (some ⟨b0 + 1, 0, none⟩), .agg #[.int .i64 0, .int .i64 x2]] wr fun e w' => e = .returned (.tuple #[]) ∧ Below b0 w w' ∧ RcE b0 (b0 + 1) (.slice ao L cap) vs (used ++ [(0, x2)]) (tot + x2) all (boxX p (0, x2) :: R) w') := Calls.mono HEN.out fun e w' ⟨h1, _, _, h2⟩ => by obtain ⟨h3, ao5, cap5, h4⟩ := h2 hsh hov; exact ⟨h3, HBr.out.trans h1, _, h4⟩
            have HRB2 := HRB.out hsh
            cases hbd : blkD (slc b (0, x2)) with
            | none =>
              have HSh : Hid (r = (5, [], [])) := HCL.out.bad HNZ.out hsh hov hbd
              have HE3 : Hid (∀ W, Below b0 w W → RcE b0 (b0 + 1) (.slice ao L cap) vs (used ++ [(0, x2)]) (tot + x2) all (boxX p (0, x2) :: R) W → Calls Tryd.prog 59 #[.pointer (some ⟨b0 + 1, 0, none⟩), .agg #[.int .i64 0, .int .i64 x2]] W fun e w' => e = .panicked [{ v := .iface 25 (.int .i64 r.1), recovered := false }] ∧ Below b0 w w') := fun W hW hE => (HRB2 W hW hE).mono fun e w' ⟨h1, h2, _⟩ => ⟨by have := h2 hbd; rw [HSh.out]; exact this, hW.trans h1⟩
              have HR0 : Hid (r.1 ≠ 0) := by unfold Hid; rw [HSh.out]; decide
              have HRd : Hid (∀ W, RcE b0 (b0 + 1) (.slice ao L cap) vs (used ++ [(0, x2)]) (tot + x2) all (boxX p (0, x2) :: R) W → W.cell? ⟨p, 0, none⟩ = some (.int .i64 0) ∧ W.cell? ⟨p, 1, none⟩ = some (.int .i64 x2)) := fun W ⟨_, h⟩ => h.boxCell
              clear HEN HRB HRB2 HSh hbd
              go_wp2_with (first
                | (go_at_call 59; refine Calls.mono (HE3.out _ HB5.out HE5.out) ?_; rintro e w6 ⟨rfl, hb6⟩; have HB6 : Hid (Below b0 w w6) := hb6; clear hb6)
                | (go_at_call 58; refine Calls.mono HE2.out ?_; rintro e w5 ⟨rfl, hb5, he5⟩; have HB5 : Hid (Below b0 w w5) := hb5; have HE5 : Hid (RcE _ _ _ _ _ _ _ _ w5) := he5; obtain ⟨p0, p1⟩ := HRd.out w5 he5; clear hb5 he5))
              refine ⟨rfl, ?_⟩
              unfold RcP
              rw [HB0.out]
              exact ⟨HB6.out, (fun _ => rfl), (fun h => absurd h HR0.out)⟩
            | some q =>
              obtain ⟨part, nx⟩ := q
              obtain ⟨y1, y2⟩ := nx
              have HNX : Hid (ChL b L r kk (used ++ [(0, x2)]) (tot + x2) (all ++ part) (y1, y2)) := HCL.out.step HLb.out HNZ.out hsh hov hbd
              have HE3 : Hid (∀ W, Below b0 w W → RcE b0 (b0 + 1) (.slice ao L cap) vs (used ++ [(0, x2)]) (tot + x2) all (boxX p (0, x2) :: R) W → Calls Tryd.prog 59 #[.pointer (some ⟨b0 + 1, 0, none⟩), .agg #[.int .i64 0, .int .i64 x2]] W fun e w' => e = .returned (.agg #[.int .i64 y1, .int .i64 y2]) ∧ Below b0 w w' ∧ RcF b0 (b0 + 1) (.slice ao L cap) (used ++ [(0, x2)]) (tot + x2) (all ++ part) (boxX p (0, x2) :: R) w') := fun W hW hE => (HRB2 W hW hE).mono fun e w' ⟨h1, _, h2⟩ => by obtain ⟨h3, vu6, ao6, cap6, h4⟩ := h2 part (y1, y2) hbd; exact ⟨h3, hW.trans h1, vu6, _, h4⟩
              have HRd : Hid (∀ W, RcE b0 (b0 + 1) (.slice ao L cap) vs (used ++ [(0, x2)]) (tot + x2) all (boxX p (0, x2) :: R) W → W.cell? ⟨p, 0, none⟩ = some (.int .i64 0) ∧ W.cell? ⟨p, 1, none⟩ = some (.int .i64 x2)) := fun W ⟨_, h⟩ => h.boxCell
              have HRe : Hid (∀ W, Below b0 w W → RcF b0 (b0 + 1) (.slice ao L cap) (used ++ [(0, x2)]) (tot + x2) (all ++ part) (boxX p (0, x2) :: R) W → W.cell? ⟨p, 0, none⟩ = some (.int .i64 0) ∧ W.cell? ⟨p, 1, none⟩ = some (.int .i64 x2) ∧ W.frozen? ⟨p, 0, none⟩ = false ∧ W.frozen? ⟨p, 1, none⟩ = false ∧ RcL w b0 (b0 + 1) b L (.slice ao L cap) r (boxX p (y1, y2) :: R) kk W.heap.size (((W.setCell ⟨p, 0, none⟩ (.int .i64 y1)).setCell ⟨p, 1, none⟩ (.int .i64 y2)).alloc (.cells #[.int .i64 y1, .int .i64 y2] 49))) := fun W hW hF => rc_next HB0.out hW hF HNX.out
              clear HEN HRB HRB2 hbd HNX
              go_wp2_with (first
                | (go_at_call 59; refine Calls.mono (HE3.out _ HB5.out HE5.out) ?_; rintro e w6 ⟨rfl, hb6, hf6⟩; obtain ⟨p2, p3, p4, p5, hl6⟩ := HRe.out w6 hb6 hf6; have HL6 : Hid (RcL _ _ _ _ _ _ _ _ _ _ _) := hl6; clear hb6 hf6 hl6)
                | (go_at_call 58; refine Calls.mono HE2.out ?_; rintro e w5 ⟨rfl, hb5, he5⟩; have HB5 : Hid (Below b0 w w5) := hb5; have HE5 : Hid (RcE _ _ _ _ _ _ _ _ w5) := he5; obtain ⟨p0, p1⟩ := HRd.out w5 he5; clear hb5 he5))
              go_roundg kk
              case measure => omega
              case rel => exact ⟨_, _, rfl, HL6.out⟩
      · by_cases hsh : (L : Int) - x1 < x2
        · have HSh : Hid (r = ((if meetsB (used ++ [(x1, x2)]) = true then 5 else 4), [], [])) := HCL.out.short HNZ.out hsh
          have HE2 : Hid (Calls Tryd.prog 58 #[.pointer (some ⟨b0 + 1, 0, none⟩), .agg #[.int .i64 x1, .int .i64 x2]] wr fun e w' => e = .panicked [{ v := .iface 25 (.int .i64 r.1), recovered := false }] ∧ Below b0 w w') := Calls.mono HEN.out fun e w' ⟨h1, h2, _⟩ => ⟨by have := h2 hsh; rw [HSh.out]; exact this, HBr.out.trans h1⟩
          have HR0 : Hid (r.1 ≠ 0) := by unfold Hid; rw [HSh.out]; dsimp only; split <;> decide
          clear HEN HRB HSh
          go_wp2_with (go_at_call 58; refine Calls.mono HE2.out ?_; rintro e w5 ⟨rfl, hb5⟩; have HB5 : Hid (Below b0 w w5) := hb5; clear hb5)
          refine ⟨rfl, ?_⟩
          unfold RcP
          rw [HB0.out]
          exact ⟨HB5.out, (fun _ => rfl), (fun h => absurd h HR0.out)⟩
        · by_cases hov : (L : Int) < tot + x2
          · have HSh : Hid (r = (5, [], [])) := HCL.out.over HNZ.out hsh hov
            have HE2 : Hid (Calls Tryd.prog 58 #[.pointer (some ⟨b0 + 1, 0, none⟩), .agg #[.int .i64 x1, .int .i64 x2]] wr fun e w' => e = .panicked [{ v := .iface 25 (.int .i64 r.1), recovered := false }] ∧ Below b0 w w') := Calls.mono HEN.out fun e w' ⟨h1, _, h2, _⟩ => ⟨by have := h2 hsh hov; rw [HSh.out]; exact this, HBr.out.trans h1⟩
            have HR0 : Hid (r.1 ≠ 0) := by unfold Hid; rw [HSh.out]; decide
            clear HEN HRB HSh
            go_wp2_with (go_at_call 58; refine Calls.mono HE2.out ?_; rintro e w5 ⟨rfl, hb5⟩; have HB5 : Hid (Below b0 w w5) := hb5; clear hb5)
            refine ⟨rfl, ?_⟩
            unfold RcP
            rw [HB0.out]
            exact ⟨HB5.out, (fun _ => rfl), (fun h => absurd h HR0.out)⟩
          · have HE2 : Hid (Calls Tryd.prog 58 #[.pointer (some ⟨b0 + 1, 0, none⟩), .agg #[.int .i64 x1, .int .i64 x2]] wr fun e w' => e = .returned (.tuple #[]) ∧ Below b0 w w' ∧ RcE b0 (b0 + 1) (.slice ao L cap) vs (used ++ [(x1, x2)]) (tot + x2) all (boxX p (x1, x2) :: R) w') := Calls.mono HEN.out fun e w' ⟨h1, _, _, h2⟩ => by obtain ⟨h3, ao5, cap5, h4⟩ := h2 hsh hov; exact ⟨h3, HBr.out.trans h1, _, h4⟩
            have HRB2 := HRB.out hsh
            cases hbd : blkD (slc b (x1, x2)) with
            | none =>
              have HSh : Hid (r = (5, [], [])) := HCL.out.bad HNZ.out hsh hov hbd
              have HE3 : Hid (∀ W, Below b0 w W → RcE b0 (b0 + 1) (.slice ao L cap) vs (used ++ [(x1, x2)]) (tot + x2) all (boxX p (x1, x2) :: R) W → Calls Tryd.prog 59 #[.pointer (some ⟨b0 + 1, 0, none⟩), .agg #[.int .i64 x1, .int .i64 x2]] W fun e w' => e = .panicked [{ v := .iface 25 (.int .i64 r.1), recovered := false }] ∧ Below b0 w w') := fun W hW hE => (HRB2 W hW hE).mono fun e w' ⟨h1, h2, _⟩ => ⟨by have := h2 hbd; rw [HSh.out]; exact this, hW.trans h1⟩
              have HR0 : Hid (r.1 ≠ 0) := by unfold Hid; rw [HSh.out]; decide
              have HRd : Hid (∀ W, RcE b0 (b0 + 1) (.slice ao L cap) vs (used ++ [(x1, x2)]) (tot + x2) all (boxX p (x1, x2) :: R) W → W.cell? ⟨p, 0, none⟩ = some (.int .i64 x1) ∧ W.cell? ⟨p, 1, none⟩ = some (.int .i64 x2)) := fun W ⟨_, h⟩ => h.boxCell
              clear HEN HRB HRB2 HSh hbd
              go_wp2_with (first
                | (go_at_call 59; refine Calls.mono (HE3.out _ HB5.out HE5.out) ?_; rintro e w6 ⟨rfl, hb6⟩; have HB6 : Hid (Below b0 w w6) := hb6; clear hb6)
                | (go_at_call 58; refine Calls.mono HE2.out ?_; rintro e w5 ⟨rfl, hb5, he5⟩; have HB5 : Hid (Below b0 w w5) := hb5; have HE5 : Hid (RcE _ _ _ _ _ _ _ _ w5) := he5; obtain ⟨p0, p1⟩ := HRd.out w5 he5; clear hb5 he5))
              refine ⟨rfl, ?_⟩
              unfold RcP
              rw [HB0.out]
              exact ⟨HB6.out, (fun _ => rfl), (fun h => absurd h HR0.out)⟩
            | some q =>
              obtain ⟨part, nx⟩ := q
              obtain ⟨y1, y2⟩ := nx
              have HNX : Hid (ChL b L r kk (used ++ [(x1, x2)]) (tot + x2) (all ++ part) (y1, y2)) := HCL.out.step HLb.out HNZ.out hsh hov hbd
              have HE3 : Hid (∀ W, Below b0 w W → RcE b0 (b0 + 1) (.slice ao L cap) vs (used ++ [(x1, x2)]) (tot + x2) all (boxX p (x1, x2) :: R) W → Calls Tryd.prog 59 #[.pointer (some ⟨b0 + 1, 0, none⟩), .agg #[.int .i64 x1, .int .i64 x2]] W fun e w' => e = .returned (.agg #[.int .i64 y1, .int .i64 y2]) ∧ Below b0 w w' ∧ RcF b0 (b0 + 1) (.slice ao L cap) (used ++ [(x1, x2)]) (tot + x2) (all ++ part) (boxX p (x1, x2) :: R) w') := fun W hW hE => (HRB2 W hW hE).mono fun e w' ⟨h1, _, h2⟩ => by obtain ⟨h3, vu6, ao6, cap6, h4⟩ := h2 part (y1, y2) hbd; exact ⟨h3, hW.trans h1, vu6, _, h4⟩
              have HRd : Hid (∀ W, RcE b0 (b0 + 1) (.slice ao L cap) vs (used ++ [(x1, x2)]) (tot + x2) all (boxX p (x1, x2) :: R) W → W.cell? ⟨p, 0, none⟩ = some (.int .i64 x1) ∧ W.cell? ⟨p, 1, none⟩ = some (.int .i64 x2)) := fun W ⟨_, h⟩ => h.boxCell
              have HRe : Hid (∀ W, Below b0 w W → RcF b0 (b0 + 1) (.slice ao L cap) (used ++ [(x1, x2)]) (tot + x2) (all ++ part) (boxX p (x1, x2) :: R) W → W.cell? ⟨p, 0, none⟩ = some (.int .i64 x1) ∧ W.cell? ⟨p, 1, none⟩ = some (.int .i64 x2) ∧ W.frozen? ⟨p, 0, none⟩ = false ∧ W.frozen? ⟨p, 1, none⟩ = false ∧ RcL w b0 (b0 + 1) b L (.slice ao L cap) r (boxX p (y1, y2) :: R) kk W.heap.size (((W.setCell ⟨p, 0, none⟩ (.int .i64 y1)).setCell ⟨p, 1, none⟩ (.int .i64 y2)).alloc (.cells #[.int .i64 y1, .int .i64 y2] 49))) := fun W hW hF => rc_next HB0.out hW hF HNX.out
              clear HEN HRB HRB2 hbd HNX
              go_wp2_with (first
                | (go_at_call 59; refine Calls.mono (HE3.out _ HB5.out HE5.out) ?_; rintro e w6 ⟨rfl, hb6, hf6⟩; obtain ⟨p2, p3, p4, p5, hl6⟩ := HRe.out w6 hb6 hf6; have HL6 : Hid (RcL _ _ _ _ _ _ _ _ _ _ _) := hl6; clear hb6 hf6 hl6)
                | (go_at_call 58; refine Calls.mono HE2.out ?_; rintro e w5 ⟨rfl, hb5, he5⟩; have HB5 : Hid (Below b0 w w5) := hb5; have HE5 : Hid (RcE _ _ _ _ _ _ _ _ w5) := he5; obtain ⟨p0, p1⟩ := HRd.out w5 he5; clear hb5 he5))
              go_roundg kk
              case measure => omega
              case rel => exact ⟨_, _, rfl, HL6.out⟩
end Go.Proofs.YtdalkjenjnalbaaDoor

namespace Go.Proofs.YtdalkjenjnalbaaDoor
open Go.RowKit
set_option linter.unusedVariables false
set_option maxRecDepth 100000

theorem Tryd.infoMM : (Tryd.prog.info? 56).map (fun i => (i.zero, i.size, i.bytes)) = some (some (.agg #[.int .i64 0, .slice none 0 0]), 2, 32) := by kernel_rfl
def rowMs (v : Value) (L : List Msg) : Pc := .row 56 2 v L.length (gc encM L)
/-- Messages of the call's own, and each one's bytes. -/
def MsS (w : World) (B : Nat) (v : Value) (L : List Msg) : Prop := Sep w B (rowMs v L :: L.map byR)
theorem MsS.ms {w : World} {B : Nat} {v : Value} {L : List Msg} (h : MsS w B v L) : Ms w v L :=
  ms_of_row rfl (h.at_ (rowMs v L) (List.Mem.head _)) (fun i m hm => Own.bs (B := B) (h.at_ (byR m) (List.mem_cons_of_mem _ (List.mem_map.2 ⟨m, List.mem_of_getElem? hm, rfl⟩))))
theorem MsS.nil (w : World) (B : Nat) : MsS w B (.slice none 0 0) [] := by
  refine ⟨fun p hp => ?_, ?_⟩
  · simp only [List.map_nil, List.mem_singleton] at hp
    subst hp
    exact ⟨rfl, .inl ⟨rfl, rfl⟩⟩
  · simp [rowMs, Pc.blk, Value.ownBlock]
theorem fr_own {w : World} {lo : Nat} {x : Value} {l : List Int} (h : Fr w lo x l) (hl : l.length ≤ 65536) : Own w lo x l := by
  rcases h with ⟨rfl, rfl⟩ | ⟨g, hg, rfl, hr⟩
  · exact Own.nil _ _
  · exact hr.own hg (by unfold maxLen; omega)
/-- One message more: its bytes are new, then the row goes on. -/
theorem MsS.push {w w1 w3 : World} {B : Nat} {aoY : Option Addr} {n capY g3 cap3 : Nat} {L : List Msg} {m : Msg} (hn : L.length = n) (h : MsS w B (.slice aoY n capY) L) (hB : B ≤ w.heap.size) (hb : Below w.heap.size w w1) (ho : Own w1 w.heap.size m.2.1 m.2.2)
    (hr : w3.ownsRow B 56 2 (.slice (some ⟨g3, 0, none⟩) (n + 1) cap3) (n + 1) (gc encM L ++ encM m)) (hg : w1.grownBy w3 (Value.slice aoY n capY).ownBlock) (ha : (Value.slice aoY n capY).ownBlock = some g3 ∨ g3 = w1.heap.size) : MsS w3 B (.slice (some ⟨g3, 0, none⟩) (n + 1) cap3) (L ++ [m]) := by
  have h1 : Sep w1 B (byR m :: rowMs (.slice aoY n capY) L :: L.map byR) := Sep.new h hb (ho.mono hB) (fun x hx => by
    have h9 : Pc.At w1 w.heap.size (byR m) := ho
    exact (h9.lt hx).1)
  have e0 : rowMs (.slice aoY n capY) L = .row 56 2 (.slice aoY n capY) n (gc encM L) := by unfold rowMs; rw [hn]
  rw [e0] at h1
  have h2 := Sep.turn [byR m] h1 hr hg (ha.elim (fun e => .inl e.symm) (fun e => .inr (fun x hx => by
    have : g3 = x := by simpa [Value.ownBlock] using hx
    omega)))
  have e1 : rowMs (.slice (some ⟨g3, 0, none⟩) (n + 1) cap3) (L ++ [m]) = .row 56 2 (.slice (some ⟨g3, 0, none⟩) (n + 1) cap3) (n + 1) (gc encM L ++ encM m) := by
    unfold rowMs
    rw [List.length_append, hn, gc_append, gc_one]
    rfl
  unfold MsS
  rw [e1, List.map_append, List.map_singleton]
  refine h2.perm ?_
  simp only [List.cons_append, List.nil_append]
  exact (List.Perm.swap _ _ _).trans (List.Perm.cons _ (List.perm_append_comm (l₁ := [byR m])))
theorem rm_push {w wr w2 w4 w5 : World} {aoY : Option Addr} {i capY : Nat} {L : List Msg} {u : Int} {aox : Option Addr} {nx capx : Nat} {gl : List Int} (hn : L.length = i) (hM : MsS wr w.heap.size (.slice aoY i capY) L) (hB : Below w.heap.size w wr) (h2 : Below wr.heap.size wr w2)
    (h4 : Below (w2.alloc (.cells #[.int .i64 u, .slice none 0 0] 56)).heap.size (w2.alloc (.cells #[.int .i64 u, .slice none 0 0] 56)) w4) (ho : Own w4 (w2.alloc (.cells #[.int .i64 u, .slice none 0 0] 56)).heap.size (.slice aox nx capx) gl) (h5 : Below w4.heap.size w4 w5) :
    ((w5.setCell ⟨w2.heap.size, 1, none⟩ (.slice aox nx capx)).alloc (.cells #[.int .i64 u, .slice aox nx capx] 56)).ownsRow w.heap.size 56 2 (.slice aoY i capY) i (gc encM L) ∧
    ((w5.setCell ⟨w2.heap.size, 1, none⟩ (.slice aox nx capx)).alloc (.cells #[.int .i64 u, .slice aox nx capx] 56)).heap[w5.heap.size]? = some (.cells #[.int .i64 u, .slice aox nx capx] 56 (0, 0)) ∧
    w.heap.size ≤ ((w5.setCell ⟨w2.heap.size, 1, none⟩ (.slice aox nx capx)).alloc (.cells #[.int .i64 u, .slice aox nx capx] 56)).heap.size ∧
    ∀ (g3 cap3 : Nat) (w8 : World), w8.ownsRow w.heap.size 56 2 (.slice (some ⟨g3, 0, none⟩) (i + 1) cap3) (i + 1) (gc encM L ++ [.int .i64 u, .slice aox nx capx]) → ((w5.setCell ⟨w2.heap.size, 1, none⟩ (.slice aox nx capx)).alloc (.cells #[.int .i64 u, .slice aox nx capx] 56)).grownBy w8 (Value.slice aoY i capY).ownBlock → ((Value.slice aoY i capY).ownBlock = some g3 ∨ g3 = ((w5.setCell ⟨w2.heap.size, 1, none⟩ (.slice aox nx capx)).alloc (.cells #[.int .i64 u, .slice aox nx capx] 56)).heap.size) → MsS w8 w.heap.size (.slice (some ⟨g3, 0, none⟩) (i + 1) cap3) (L ++ [(u, .slice aox nx capx, gl)]) ∧ Below w.heap.size w w8 := by
  have hal : Below wr.heap.size wr (w2.alloc (.cells #[.int .i64 u, .slice none 0 0] 56)) := h2.alloc h2.size _
  have h4' := hal.trans (h4.mono hal.size)
  have h5' := h4'.trans (h5.mono h4'.size)
  have h6 : Below wr.heap.size wr (w5.setCell ⟨w2.heap.size, 1, none⟩ (.slice aox nx capx)) := h5'.setCell h2.size _
  have h7 : Below wr.heap.size wr ((w5.setCell ⟨w2.heap.size, 1, none⟩ (.slice aox nx capx)).alloc (.cells #[.int .i64 u, .slice aox nx capx] 56)) := h6.alloc h6.size _
  have hrow : wr.ownsRow w.heap.size 56 2 (.slice aoY i capY) i (gc encM L) := by
    have h9 := hM.at_ (rowMs (.slice aoY i capY) L) (List.Mem.head _)
    unfold rowMs at h9
    rw [hn] at h9
    exact h9
  have hrow7 := ownsRow_below hrow h7
  have hs7 : w.heap.size ≤ ((w5.setCell ⟨w2.heap.size, 1, none⟩ (.slice aox nx capx)).alloc (.cells #[.int .i64 u, .slice aox nx capx] 56)).heap.size := Nat.le_trans hB.size h7.size
  refine ⟨hrow7, ?_, hs7, fun g3 cap3 w8 hr hg ha => ⟨?_, ?_⟩⟩
  · have h9 := heap_alloc_new (w5.setCell ⟨w2.heap.size, 1, none⟩ (.slice aox nx capx)) (.cells #[.int .i64 u, .slice aox nx capx] 56)
    simpa using h9
  · have hx : Own ((w5.setCell ⟨w2.heap.size, 1, none⟩ (.slice aox nx capx)).alloc (.cells #[.int .i64 u, .slice aox nx capx] 56)) (w2.alloc (.cells #[.int .i64 u, .slice none 0 0] 56)).heap.size (.slice aox nx capx) gl :=
      ownsRow_kp (F := fun y => y = w2.heap.size) ho (((Kp.of (F := fun y => y = w2.heap.size) h5).setCell (a := ⟨w2.heap.size, 1, none⟩) _ (fun _ => rfl)).alloc _) (fun g hgb e => by
        have h9 := (World.ownsRow.lt ho g hgb).1
        simp at h9
        omega)
    exact MsS.push (m := (u, .slice aox nx capx, gl)) hn hM hB.size h7 (hx.mono hal.size) hr hg ha
  · have hB7 := hB.trans (h7.mono hB.size)
    exact ⟨hg.os.trans hB7.os, hg.tape.trans hB7.tape, hg.output.trans hB7.output, Nat.le_trans hB7.size hg.size, fun x hx => (hg.block x (Nat.lt_of_lt_of_le hx hB7.size) (fun e => by have := (World.ownsRow.lt hrow7 x e.symm).1; omega)).trans (hB7.block x hx)⟩
def plM (m : Msg) : Int × List Int := (m.1, m.2.2)
/-- What readMessages does. -/
def RmP (w : World) (s : List Int) (e : Ending) (w' : World) : Prop :=
  Below w.heap.size w w' ∧ (msM s = none → Gave e 5) ∧ ∀ l, msM s = some l → ∃ v L, e = .returned v ∧ L.map plM = l ∧ MsS w' w.heap.size v L
set_option maxHeartbeats 8000000 in
theorem readMessages_any (w : World) (v : Value) (s : List Int) (hs : Bs w v s) (hl : s.length ≤ 140737488000000) (hy : Byt s) :
    Calls Tryd.prog 40 #[v] w fun e w' => RmP w s e w' := by
  obtain ⟨i1, hi1, hy0, hy1, hy2⟩ := info_parts2 Tryd.infoMM
  have HNY : Hid (∀ (p : Int) (W : World), getErr s.length p 4 = 0 → Below w.heap.size w W → Calls Tryd.prog 61 #[v, .int .i64 p] W fun e w' => e = .returned (.int .i64 (getNum s p 4 true)) ∧ Below w.heap.size w w' ∧ Below W.heap.size W w') := fun p W h hW => (numberAt_yes v s p W (hs.below hW) (by omega) hy h).mono fun e w' ⟨h1, h2⟩ => ⟨h1, hW.trans (h2.mono hW.size), h2⟩
  have HNN : Hid (∀ (p : Int) (W : World), getErr s.length p 4 ≠ 0 → Below w.heap.size w W → Calls Tryd.prog 61 #[v, .int .i64 p] W fun e w' => e = .panicked [{ v := .iface 25 (.int .i64 5), recovered := false }] ∧ Below w.heap.size w w') := fun p W h hW => (numberAt_no v s p W (hs.below hW) (by omega) hy h).mono fun e w' ⟨h1, h2⟩ => ⟨h1, hW.trans (h2.mono hW.size)⟩
  have HGB : Hid (∀ (p : Int) (W : World), Below w.heap.size w W → Calls Tryd.prog 62 #[v, .int .i64 p] W fun e w' => ∃ x, e = .returned (.tuple #[x, .int .i64 (gbNext s p), .int .i64 (gbErr s p)]) ∧ Own w' W.heap.size x (gbList s p) ∧ Below W.heap.size W w') := fun p W hW => (getBytes_any v s p W (hs.below hW) (by omega) hy).mono fun e w' ⟨x, h1, h2, h3⟩ => ⟨x, h1, fr_own h2 gb_len, h3⟩
  obtain ⟨ao, cap, hv, _⟩ := hs
  subst hv
  obtain ⟨sn, HSN⟩ : ∃ sn, Hid (s.length = sn) := ⟨_, rfl⟩
  rw [HSN.out] at hl HNY HNN HGB ⊢
  by_cases hE0 : getErr sn 0 4 = 0
  · have hnb := getNum_bounds hy 0 4 true
    have HM0 : Hid (msM s = if 65536 < getNum s 0 4 true then none else match pmM kdB s (getNum s 0 4 true).toNat 4 with | none => none | some (l, p) => if p = (sn : Int) then some l else none) := by
      unfold Hid msM
      rw [HSN.out]
      by_cases h9 : 65536 < getNum s 0 4 true
      · rw [if_pos (.inr h9), if_pos h9]
      · rw [if_neg (fun h => h.elim (fun h => h hE0) h9), if_neg h9]
        rfl
    have HN0 : Hid _ := HNY.out 0 w hE0 (Below.refl _ _)
    obtain ⟨cn, HCN⟩ : ∃ cn, Hid (getNum s 0 4 true = cn) := ⟨_, rfl⟩
    rw [HCN.out] at HN0 HM0 hnb
    by_cases hbig : 65536 < cn
    · rw [if_pos hbig] at HM0
      go_enter Tryd.func40, Tryd.ntmps40
      go_wp2_with (go_at_call 61; refine Calls.mono HN0.out ?_; rintro e w1 ⟨rfl, hb1, _⟩; have HB1 : Hid (Below w.heap.size w w1) := hb1; clear hb1)
      refine ⟨rfl, HB1.out, (fun _ => rfl), (fun l h => ?_)⟩
      rw [HM0.out] at h
      cases h
    · obtain ⟨n, rfl⟩ := Int.eq_ofNat_of_zero_le hnb.1
      rw [if_neg hbig, Int.toNat_natCast] at HM0
      have hn : n ≤ 65536 := by omega
      clear hnb
      go_enter Tryd.func40, Tryd.ntmps40
      go_upto_region 5 with (go_at_call 61; refine Calls.mono HN0.out ?_; rintro e w1 ⟨rfl, hb1, _⟩; have HB1 : Hid (Below w.heap.size w w1) := hb1; clear hb1)
      go_wp2_with fail
      have HR0 : Hid (MsS w1 w.heap.size (.slice none 0 0) []) := MsS.nil _ _
      go_loopw [16, 4, 5] (fun x y z wr => ∃ (i : Nat) (p : Int) (aoY : Option Addr) (capY : Nat) (L : List Msg), i ≤ n ∧ (0 ≤ p ∧ p ≤ 140737488000010) ∧ x = .int .i64 (i : Int) ∧ y = .int .i64 p ∧ z = .slice aoY i capY ∧ Hid (L.length = i) ∧ Hid (MsS wr w.heap.size (.slice aoY i capY) L) ∧ Hid (pmM kdB s n 4 = (pmM kdB s (n - i) p).map fun r => (L.map plM ++ r.1, r.2)) ∧ Hid (Below w.heap.size w wr)) (fun x _ _ _ => n - (intOf x).toNat)
      case atStart => exact ⟨0, 4, none, 0, [], Nat.zero_le _, ⟨by omega, by omega⟩, rfl, rfl, rfl, rfl, HR0.out, by unfold Hid; simp, HB1.out⟩
      case round =>
        obtain ⟨i, p, aoY, capY, L, hin, ⟨hp0, hp1⟩, rfl, rfl, rfl, HLL, HMS, HPM, HB⟩ := hrel
        by_cases hlt : i < n
        · have hili : (i : Int) < (n : Int) := by omega
          have hpw : IntKind.i64.wrap (p + 4) = p + 4 := by simp [IntKind.wrap, IntKind.bits, IntKind.signed]; omega
          have HKE : Hid (pmM kdB s (n - i) p = if getErr s.length p 4 ≠ 0 ∨ gbErr s (p + 4) ≠ 0 ∨ kdB (getNum s p 4 true) = true then none else (pmM kdB s (n - (i + 1)) (gbNext s (p + 4))).map fun r => ((getNum s p 4 true, gbList s (p + 4)) :: r.1, r.2)) := by
            unfold Hid
            rw [show n - i = (n - (i + 1)) + 1 by omega]
            rfl
          have HBAD : Hid ((getErr s.length p 4 ≠ 0 ∨ gbErr s (p + 4) ≠ 0 ∨ kdB (getNum s p 4 true) = true) → msM s = none) := fun h => by
            rw [HM0.out, HPM.out, HKE.out, if_pos h]
            rfl
          by_cases hE : getErr sn p 4 = 0
          · have HNP : Hid _ := HNY.out p wr hE HB.out
            have hub := getNum_bounds hy p 4 true
            have hu32 : getNum s p 4 true < 4294967296 := by
              rcases getErr_cases sn p 4 with ⟨h, _⟩ | ⟨_, _, _, _, _, h⟩ | ⟨_, _, h3, h4, _⟩
              · omega
              · omega
              · have := at4_bd8 hy (p := p.toNat) (by rw [HSN.out]; omega)
                unfold getNum
                rw [HSN.out, if_pos hE]
                exact this.2
            have HGP : Hid (∀ W, Below w.heap.size w W → Calls Tryd.prog 62 #[.slice ao sn cap, .int .i64 (p + 4)] W fun e w' => ∃ aox nx capx, e = .returned (.tuple #[.slice aox nx capx, .int .i64 (gbNext s (p + 4)), .int .i64 (gbErr s (p + 4))]) ∧ nx = (gbList s (p + 4)).length ∧ Own w' W.heap.size (.slice aox nx capx) (gbList s (p + 4)) ∧ Below W.heap.size W w') := fun W hW => (HGB.out (p + 4) W hW).mono fun e w' ⟨x, h1, h2, h3⟩ => by
              obtain ⟨aox, capx, hx, _⟩ := h2.opened
              rw [hx] at h1 h2
              exact ⟨aox, _, capx, h1, rfl, h2, h3⟩
            have HNU : Hid (0 ≤ gbNext s (p + 4) ∧ gbNext s (p + 4) ≤ 140737488000010) := by
              unfold Hid gbNext
              split
              · rename_i h9
                unfold gbErr at h9
                split at h9
                · split at h9
                  · omega
                  · split at h9
                    · omega
                    · have := getNum_bounds hy (p + 4) 4 true
                      have h8 := HSN.out
                      omega
                · rename_i h8
                  exact absurd h9 h8
              · omega
            rw [HSN.out] at HBAD HKE
            have HKD : Hid (kdB (getNum s p 4 true) = (decide (getNum s p 4 true < 1) || decide (255 < getNum s p 4 true))) := rfl
            have HGL : Hid ((gbList s (p + 4)).length ≤ 65536) := gb_len
            generalize getNum s p 4 true = u at *
            generalize gbErr s (p + 4) = ge at *
            generalize gbNext s (p + 4) = gn at *
            generalize gbList s (p + 4) = gl at *
            obtain ⟨kd, HKd⟩ : ∃ kd, Hid (kdB u = kd) := ⟨_, rfl⟩
            rw [HKd.out] at HKD HBAD HKE
            have HNK : Hid (∀ W, Calls Tryd.prog 27 #[.agg #[.int .i64 u, .slice none 0 0]] W fun e w' => e = .returned (.bool kd) ∧ Below W.heap.size W w') := fun W => by
              have := noKind_any u none 0 0 W
              rw [← HKD.out] at this
              exact this
            obtain ⟨hp2, hp3⟩ := HNU.out
            clear HNY HNN HGB HM0 HKD HNU
            have HAL : Hid (∀ W2 : World, Below wr.heap.size wr W2 → Below wr.heap.size wr (W2.alloc (.cells #[.int .i64 u, .slice none 0 0] 56)) ∧ ∀ W4, Below (W2.alloc (.cells #[.int .i64 u, .slice none 0 0] 56)).heap.size (W2.alloc (.cells #[.int .i64 u, .slice none 0 0] 56)) W4 → W4.cell? ⟨W2.heap.size, 0, none⟩ = some (.int .i64 u) ∧ W4.cell? ⟨W2.heap.size, 1, none⟩ = some (.slice none 0 0) ∧ W4.frozen? ⟨W2.heap.size, 1, none⟩ = false ∧ Below wr.heap.size wr W4) := fun W2 h2 => by
              have hal : Below wr.heap.size wr (W2.alloc (.cells #[.int .i64 u, .slice none 0 0] 56)) := h2.alloc h2.size _
              refine ⟨hal, fun W4 h4 => ?_⟩
              have hg : W4.heap[W2.heap.size]? = some (.cells #[.int .i64 u, .slice none 0 0] 56 (0, 0)) := (h4.block _ (by simp)).trans (heap_alloc_new W2 _)
              exact ⟨cellO hg 0 rfl, cellO hg 1 rfl, frozenO hg 1, hal.trans (h4.mono hal.size)⟩
            by_cases hge : ge = 0
            · cases kd with
              | true =>
                have HMM : Hid (msM s = none) := HBAD.out (.inr (.inr rfl))
                subst hge
                clear HBAD HKE
                go_wp2_with (first
                  | (go_at_call 27; refine Calls.mono (HNK.out _) ?_; rintro e w5 ⟨rfl, hb5⟩; have HB5 : Hid (Below w.heap.size w w5) := HB4.out.trans (hb5.mono HB4.out.size); clear hb5)
                  | (go_at_call 62; obtain ⟨hal, hnx⟩ := HAL.out w2 HBr2.out; have HNX : Hid _ := hnx; refine Calls.mono (HGP.out _ (HB.out.trans (hal.mono HB.out.size))) ?_; rintro e w4 ⟨aox, nx, capx, rfl, hnx4, ho4, hb4⟩; obtain ⟨e0, e1, z1, hbr4⟩ := HNX.out w4 hb4; have HB4 : Hid (Below w.heap.size w w4) := HB.out.trans (hbr4.mono HB.out.size); clear hal hnx HNX hnx4 ho4 hb4 hbr4)
                  | (go_at_call 61; refine Calls.mono HNP.out ?_; rintro e w2 ⟨rfl, hb2, hbr2⟩; have HBr2 : Hid (Below wr.heap.size wr w2) := hbr2; clear hb2 hbr2))
                refine ⟨rfl, HB5.out, (fun _ => rfl), (fun l h => ?_)⟩
                rw [HMM.out] at h
                cases h
              | false =>
                subst hge
                have HPM2 : Hid (∀ x : Value, pmM kdB s n 4 = (pmM kdB s (n - (i + 1)) gn).map fun r => ((L ++ [(u, x, gl)]).map plM ++ r.1, r.2)) := fun x => by
                  rw [HPM.out, HKE.out, if_neg (by simp [hE])]
                  cases pmM kdB s (n - (i + 1)) gn with
                  | none => rfl
                  | some r => simp [plM]
                have HLN : Hid (∀ x : Value, (L ++ [(u, x, gl)]).length = i + 1) := fun x => by rw [List.length_append, HLL.out]; rfl
                clear HBAD HKE HPM HKd
                go_wp2_with (first
                  | (have hg := HB5; clear hg; at_builtin; obtain ⟨q1, q2, q3, q4⟩ := rm_push HLL.out HMS.out HB.out HBr2.out HB24.out HO4.out HB5.out; have HQ4 : Hid _ := q4; clear q4; refine wpList_append_G ((w5.setCell ⟨w2.heap.size, 1, none⟩ (.slice aox nx capx)).alloc (.cells #[.int .i64 u, .slice aox nx capx] 56)) rfl (.tmp 39) (.tmp 41) 22 rfl 56 i1 Tryd.underlying22 hi1 _ hy0 2 32 hy1 hy2 rfl (by omega) w.heap.size (.slice aoY i capY) i (gc encM L) ⟨w5.heap.size, 0, none⟩ 1 1 [.int .i64 u, .slice aox nx capx] rfl rfl q1 rfl (news_one q2) (by intro y hy; simp at hy; rcases hy with rfl | rfl <;> rfl) (by omega) (by omega) (by omega) q3 ?_; intro g3 cap3 w8 ho8 hg8 ha8; obtain ⟨m8, b8⟩ := HQ4.out g3 cap3 w8 ho8 hg8 ha8; have HM8 : Hid (MsS _ _ _ _) := m8; have HB8 : Hid (Below w.heap.size w w8) := b8; clear q1 q2 q3 HQ4 ho8 hg8 ha8 m8 b8)
                  | (have hg := HB24; clear hg; go_at_call 27; refine Calls.mono (HNK.out _) ?_; rintro e w5 ⟨rfl, hb5⟩; have HB5 : Hid (Below w4.heap.size w4 w5) := hb5; have e05 := (hb5.cell (World.block_lt_of_cell? w4 _ e0)).trans e0; have e15 := (hb5.cell (World.block_lt_of_cell? w4 _ e1)).trans e1; have z15 := (World.frozen?_of_block (a := ⟨w2.heap.size, 1, none⟩) (hb5.block w2.heap.size (World.block_lt_of_cell? w4 _ e1))).trans z1; clear hb5 e0 e1 z1)
                  | (go_at_call 62; obtain ⟨hal, hnx⟩ := HAL.out w2 HBr2.out; have HNX : Hid _ := hnx; refine Calls.mono (HGP.out _ (HB.out.trans (hal.mono HB.out.size))) ?_; rintro e w4 ⟨aox, nx, capx, rfl, hnx4, ho4, hb4⟩; obtain ⟨e0, e1, z1, hbr4⟩ := HNX.out w4 hb4; have HB24 : Hid (Below (w2.alloc (.cells #[.int .i64 u, .slice none 0 0] 56)).heap.size (w2.alloc (.cells #[.int .i64 u, .slice none 0 0] 56)) w4) := hb4; have HO4 : Hid (Own w4 (w2.alloc (.cells #[.int .i64 u, .slice none 0 0] 56)).heap.size (.slice aox nx capx) gl) := ho4; clear hal hnx HNX hnx4 ho4 hb4 hbr4)
                  | (go_at_call 61; refine Calls.mono HNP.out ?_; rintro e w2 ⟨rfl, hb2, hbr2⟩; have HBr2 : Hid (Below wr.heap.size wr w2) := hbr2; clear hb2 hbr2))
                go_roundw
                case rel => exact ⟨i + 1, gn, some ⟨g3, 0, none⟩, cap3, L ++ [((u, Value.slice aox nx capx, gl) : Msg)], by omega, ⟨hp2, hp3⟩, by go_num, rfl, rfl, HLN.out _, HM8.out, HPM2.out _, HB8.out⟩
                case measure => simp [intOf]; omega
            · have HMM : Hid (msM s = none) := HBAD.out (.inr (.inl hge))
              have hge2 : (ge != 0) = true := by simpa using hge
              clear HBAD HKE
              go_wp2_with (first
                | (go_at_call 62; obtain ⟨hal, hnx⟩ := HAL.out w2 HBr2.out; have HNX : Hid _ := hnx; refine Calls.mono (HGP.out _ (HB.out.trans (hal.mono HB.out.size))) ?_; rintro e w4 ⟨aox, nx, capx, rfl, hnx4, ho4, hb4⟩; obtain ⟨e0, e1, z1, hbr4⟩ := HNX.out w4 hb4; have HB4 : Hid (Below w.heap.size w w4) := HB.out.trans (hbr4.mono HB.out.size); clear hal hnx HNX hnx4 ho4 hb4 hbr4)
                | (go_at_call 61; refine Calls.mono HNP.out ?_; rintro e w2 ⟨rfl, hb2, hbr2⟩; have HBr2 : Hid (Below wr.heap.size wr w2) := hbr2; clear hb2 hbr2))
              refine ⟨rfl, HB4.out, (fun _ => rfl), (fun l h => ?_)⟩
              rw [HMM.out] at h
              cases h
          · have HMM : Hid (msM s = none) := HBAD.out (.inl (by rw [HSN.out]; exact hE))
            have HNP : Hid _ := HNN.out p wr hE HB.out
            clear HBAD HKE HM0 HPM
            go_wp2_with (go_at_call 61; refine Calls.mono HNP.out ?_; rintro e w2 ⟨rfl, hb2⟩; have HB2 : Hid (Below w.heap.size w w2) := hb2; clear hb2)
            refine ⟨rfl, HB2.out, (fun _ => rfl), (fun l h => ?_)⟩
            rw [HMM.out] at h
            cases h
        · obtain rfl : i = n := by omega
          have HPN : Hid (pmM kdB s i 4 = some (L.map plM, p)) := by
            unfold Hid
            rw [HPM.out, Nat.sub_self]
            simp [pmM]
          have hii : ¬ (i : Int) < (i : Int) := by omega
          by_cases hpe : p = (sn : Int)
          · have HMM : Hid (msM s = some (L.map plM)) := by unfold Hid; rw [HM0.out, HPN.out]; simp [hpe]
            have hpe2 : (p != (sn : Int)) = false := by simp [hpe]
            clear hpe
            go_wp2_with fail
            go_ret
            refine ⟨HB.out, (fun h => by rw [HMM.out] at h; cases h), (fun l h => ?_)⟩
            rw [HMM.out] at h
            injection h with h
            exact ⟨_, L, rfl, h, HMS.out⟩
          · have HMM : Hid (msM s = none) := by unfold Hid; rw [HM0.out, HPN.out]; simp [hpe]
            have hpe2 : (p != (sn : Int)) = true := by simp [hpe]
            go_wp2_with fail
            refine ⟨rfl, HB.out, (fun _ => rfl), (fun l h => ?_)⟩
            rw [HMM.out] at h
            cases h
  · have HMM : Hid (msM s = none) := by unfold Hid msM; rw [HSN.out, if_pos (.inl hE0)]
    have HN0 : Hid _ := HNN.out 0 w hE0 (Below.refl _ _)
    go_enter Tryd.func40, Tryd.ntmps40
    go_wp2_with (go_at_call 61; refine Calls.mono HN0.out ?_; rintro e w1 ⟨rfl, hb1⟩; have HB1 : Hid (Below w.heap.size w w1) := hb1; clear hb1)
    refine ⟨rfl, HB1.out, (fun _ => rfl), (fun l h => ?_)⟩
    rw [HMM.out] at h
    cases h
end Go.Proofs.YtdalkjenjnalbaaDoor

namespace Go.Proofs.YtdalkjenjnalbaaDoor
open Go.RowKit
set_option linter.unusedVariables false
set_option maxRecDepth 100000

theorem Tryd.asErr (v : Value) (W : World) : (Instr.typeAssert (.iface 25 v) 20 25 false).run Tryd.prog W = .ok v W := by kernel_rfl
/-- The deferred function, where there is something to catch. -/
theorem catch_yes (p4 p5 p6 : Nat) (k : Int) (older : List PanicEntry) (w : World) (v4 v5 v6 : Value) (h45 : p4 ≠ p5) (h46 : p4 ≠ p6) (h56 : p5 ≠ p6) (c4 : w.cell? ⟨p4, 0, none⟩ = some v4) (c5 : w.cell? ⟨p5, 0, none⟩ = some v5) (c6 : w.cell? ⟨p6, 0, none⟩ = some v6) (z4 : w.frozen? ⟨p4, 0, none⟩ = false) (z5 : w.frozen? ⟨p5, 0, none⟩ = false) (z6 : w.frozen? ⟨p6, 0, none⟩ = false) :
    CallsD Tryd.prog 38 #[.pointer (some ⟨p4, 0, none⟩), .pointer (some ⟨p5, 0, none⟩), .pointer (some ⟨p6, 0, none⟩)] (.panicking ({ v := .iface 25 (.int .i64 k), recovered := false } :: older)) w fun e u' w' =>
      e = .returned (.tuple #[]) ∧ u' = .panicking ({ v := .iface 25 (.int .i64 k), recovered := true } :: older) ∧ w' = ((((w.setCell ⟨p4, 0, none⟩ (.slice none 0 0)).setCell ⟨p5, 0, none⟩ (.slice none 0 0)).setCell ⟨p6, 0, none⟩ (.int .i64 k))).drew := by
  refine callsD_of_wpS Tryd.func38 rfl fun c₀ cs hu => ?_
  apply wpS_seq
  apply wpS_region
  simp [wpOpsS, go_sem, recoverD, hu, Tryd.ntmps38, Exit.thenS]
  refine wpS_of_wp ?_
  have hta := fun W => Tryd.asErr (.int .i64 k) W
  rw [show (#[Value.pointer (some ⟨p4, 0, none⟩), Value.pointer (some ⟨p5, 0, none⟩), Value.pointer (some ⟨p6, 0, none⟩)] ++ ((Array.replicate 6 undef).setIfInBounds 1 (Value.iface 25 (Value.int IntKind.i64 k))).setIfInBounds 0 (Value.iface 25 (Value.int IntKind.i64 k)) : Array Value) = #[Value.pointer (some ⟨p4, 0, none⟩), Value.pointer (some ⟨p5, 0, none⟩), Value.pointer (some ⟨p6, 0, none⟩), Value.iface 25 (Value.int IntKind.i64 k), Value.iface 25 (Value.int IntKind.i64 k), undef, undef, undef, undef] from rfl]
  go_wp2_with fail
  go_region
  all_goals
    exact ⟨rfl, _, rfl, _, results_none rfl _ _ _, rfl, rfl, rfl⟩
/-- Where there is nothing to catch. -/
theorem catch_no (p4 p5 p6 : Nat) (w : World) :
    CallsD Tryd.prog 38 #[.pointer (some ⟨p4, 0, none⟩), .pointer (some ⟨p5, 0, none⟩), .pointer (some ⟨p6, 0, none⟩)] .returning w fun e u' w' => e = .returned (.tuple #[]) ∧ u' = .returning ∧ w' = w := by
  refine callsD_of_wpS Tryd.func38 rfl fun c₀ cs hu => ?_
  apply wpS_seq
  apply wpS_region
  simp [wpOpsS, go_sem, recoverD, hu, Tryd.ntmps38, Exit.thenS]
  refine wpS_of_wp ?_
  rw [show (#[Value.pointer (some ⟨p4, 0, none⟩), Value.pointer (some ⟨p5, 0, none⟩), Value.pointer (some ⟨p6, 0, none⟩)] ++ ((Array.replicate 6 undef).setIfInBounds 1 Value.nilIface).setIfInBounds 0 Value.nilIface : Array Value) = #[Value.pointer (some ⟨p4, 0, none⟩), Value.pointer (some ⟨p5, 0, none⟩), Value.pointer (some ⟨p6, 0, none⟩), Value.nilIface, Value.nilIface, undef, undef, undef, undef] from rfl]
  go_wp2_with fail
  exact ⟨rfl, .returning, (by cases c₀; simp_all), _, results_none rfl _ _ _, rfl, rfl, rfl⟩
theorem results_load (tmps : Array Value) (p4 p5 p6 : Nat) (W : World) (v4 v5 : Value) (k : Int) (h4 : tmps.getD 4 undef = .pointer (some ⟨p4, 0, none⟩)) (h5 : tmps.getD 5 undef = .pointer (some ⟨p5, 0, none⟩)) (h6 : tmps.getD 6 undef = .pointer (some ⟨p6, 0, none⟩)) (c4 : W.cell? ⟨p4, 0, none⟩ = some v4) (c5 : W.cell? ⟨p5, 0, none⟩ = some v5) (c6 : W.cell? ⟨p6, 0, none⟩ = some (.int .i64 k)) :
    (results Tryd.f21 tmps).run Tryd.prog W = .ok (.tuple #[v4, v5, .int .i64 k]) W := by
  have g4 : tmps[4]?.getD undef = .pointer (some ⟨p4, 0, none⟩) := by simpa using h4
  have g5 : tmps[5]?.getD undef = .pointer (some ⟨p5, 0, none⟩) := by simpa using h5
  have g6 : tmps[6]?.getD undef = .pointer (some ⟨p6, 0, none⟩) := by simpa using h6
  simp [results, Tryd.results21, g4, g5, g6, go_sem, c4, c5, c6]
/-- What Load tells: its error, the messages, the extents. -/
def ldM (b : List Int) (x : Ext) : Int × List (Int × List Int) × List Ext :=
  if narrowB x = true then (2, [], []) else
  if (prM b (min b.length 4194304 : Nat) (min b.length 4194304 + 1) [] 0 [] x).1 ≠ 0 then ((prM b (min b.length 4194304 : Nat) (min b.length 4194304 + 1) [] 0 [] x).1, [], []) else
  match msM (prM b (min b.length 4194304 : Nat) (min b.length 4194304 + 1) [] 0 [] x).2.1 with
  | none => (5, [], [])
  | some l => (0, l, (prM b (min b.length 4194304 : Nat) (min b.length 4194304 + 1) [] 0 [] x).2.2)
def LdP (w : World) (r : Int × List (Int × List Int) × List Ext) (e : Ending) (w' : World) : Prop :=
  ∃ vl vu L, e = .returned (.tuple #[vl, vu, .int .i64 r.1]) ∧ L.map plM = r.2.1 ∧ MsS w' w.heap.size vl L ∧ OwnX w' w.heap.size 49 vu r.2.2 ∧ Below w.heap.size w w'
/-- The four variables of Load. -/
def ldO (b0 : Nat) (x : Ext) (v4 v5 : Value) (k : Int) : List Pc := [boxX b0 x, .obj (b0 + 1) #[v4] 22, .obj (b0 + 2) #[v5] 34, .obj (b0 + 3) #[.int .i64 k] 25]
theorem ldO.new (w : World) (x : Ext) : Sep ((((w.alloc (.cells #[.int .i64 x.1, .int .i64 x.2] 49)).alloc (.cells #[.slice none 0 0] 22)).alloc (.cells #[.slice none 0 0] 34)).alloc (.cells #[.int .i64 0] 25)) w.heap.size (ldO w.heap.size x (.slice none 0 0) (.slice none 0 0) 0) := by
  have h0 : Sep w w.heap.size [] := ⟨(fun p hp => by cases hp), by simp⟩
  have h1 := Sep.new (p := boxX w.heap.size x) h0 ((Below.refl _ w).alloc (Nat.le_refl _) (.cells #[.int .i64 x.1, .int .i64 x.2] 49)) ⟨heap_alloc_new w _, Nat.le_refl _⟩ (by simp [boxX, Pc.blk])
  have h2 := Sep.new (p := .obj (w.heap.size + 1) #[.slice none 0 0] 22) h1 ((Below.refl _ _).alloc (Nat.le_refl _) (.cells #[.slice none 0 0] 22)) ⟨by have := heap_alloc_new (w.alloc (.cells #[.int .i64 x.1, .int .i64 x.2] 49)) (.cells #[.slice none 0 0] 22); rwa [World.size_alloc] at this, by omega⟩ (by simp [Pc.blk])
  have h3 := Sep.new (p := .obj (w.heap.size + 2) #[.slice none 0 0] 34) h2 ((Below.refl _ _).alloc (Nat.le_refl _) (.cells #[.slice none 0 0] 34)) ⟨by have := heap_alloc_new ((w.alloc (.cells #[.int .i64 x.1, .int .i64 x.2] 49)).alloc (.cells #[.slice none 0 0] 22)) (.cells #[.slice none 0 0] 34); rwa [World.size_alloc, World.size_alloc] at this, by omega⟩ (by simp [Pc.blk])
  have h4 := Sep.new (p := .obj (w.heap.size + 3) #[.int .i64 0] 25) h3 ((Below.refl _ _).alloc (Nat.le_refl _) (.cells #[.int .i64 0] 25)) ⟨by have := heap_alloc_new (((w.alloc (.cells #[.int .i64 x.1, .int .i64 x.2] 49)).alloc (.cells #[.slice none 0 0] 22)).alloc (.cells #[.slice none 0 0] 34)) (.cells #[.int .i64 0] 25); rwa [World.size_alloc, World.size_alloc, World.size_alloc] at this, by omega⟩ (by simp [Pc.blk])
  refine h4.perm ?_
  unfold ldO
  classical
  rw [List.perm_iff_count]
  intro a
  simp only [List.count_cons, List.count_nil]
  omega
theorem ldO.cells {w : World} {B b0 : Nat} {x : Ext} {v4 v5 : Value} {k : Int} (h : Sep w B (ldO b0 x v4 v5 k)) : w.cell? ⟨b0, 0, none⟩ = some (.int .i64 x.1) ∧ w.cell? ⟨b0, 1, none⟩ = some (.int .i64 x.2) ∧ w.cell? ⟨b0 + 1, 0, none⟩ = some v4 ∧ w.cell? ⟨b0 + 2, 0, none⟩ = some v5 ∧ w.cell? ⟨b0 + 3, 0, none⟩ = some (.int .i64 k) ∧ w.frozen? ⟨b0 + 1, 0, none⟩ = false ∧ w.frozen? ⟨b0 + 2, 0, none⟩ = false ∧ w.frozen? ⟨b0 + 3, 0, none⟩ = false := by
  have h1 := Sep.obj (g := b0) (a := #[.int .i64 x.1, .int .i64 x.2]) (T := 49) h (by simp [ldO, boxX])
  have h2 := Sep.obj (g := b0 + 1) (a := #[v4]) (T := 22) h (by simp [ldO])
  have h3 := Sep.obj (g := b0 + 2) (a := #[v5]) (T := 34) h (by simp [ldO])
  have h4 := Sep.obj (g := b0 + 3) (a := #[.int .i64 k]) (T := 25) h (by simp [ldO])
  exact ⟨cellO h1 0 rfl, cellO h1 1 rfl, cellO h2 0 rfl, cellO h3 0 rfl, cellO h4 0 rfl, frozenO h2 0, frozenO h3 0, frozenO h4 0⟩
theorem ldO.set {w : World} {B b0 : Nat} {x : Ext} {v4 v5 : Value} {k : Int} (h : Sep w B (ldO b0 x v4 v5 k)) (a c : Value) (q : Int) : Sep (((w.setCell ⟨b0 + 1, 0, none⟩ a).setCell ⟨b0 + 2, 0, none⟩ c).setCell ⟨b0 + 3, 0, none⟩ (.int .i64 q)) B (ldO b0 x a c q) := by
  have h1 := Sep.store [boxX b0 x] (g := b0 + 1) (a := #[v4]) (T := 22) h 0 a
  have h2 := Sep.store [boxX b0 x, .obj (b0 + 1) #[a] 22] (g := b0 + 2) (a := #[v5]) (T := 34) h1 0 c
  exact Sep.store [boxX b0 x, .obj (b0 + 1) #[a] 22, .obj (b0 + 2) #[c] 34] (g := b0 + 3) (a := #[.int .i64 k]) (T := 25) h2 0 (.int .i64 q)
theorem ldO.set5 {w : World} {B b0 : Nat} {x : Ext} {v4 v5 : Value} {k : Int} (h : Sep w B (ldO b0 x v4 v5 k)) (c : Value) : Sep (w.setCell ⟨b0 + 2, 0, none⟩ c) B (ldO b0 x v4 c k) :=
  Sep.store [boxX b0 x, .obj (b0 + 1) #[v4] 22] (g := b0 + 2) (a := #[v5]) (T := 34) h 0 c
theorem set3_below {w W : World} {b0 : Nat} (hb : Below b0 w W) (a c : Value) (q : Int) : Below b0 w (((W.setCell ⟨b0 + 1, 0, none⟩ a).setCell ⟨b0 + 2, 0, none⟩ c).setCell ⟨b0 + 3, 0, none⟩ (.int .i64 q)) :=
  ((hb.setCell (Nat.le_add_right _ _) _).setCell (Nat.le_add_right _ _) _).setCell (Nat.le_add_right _ _) _
theorem blkD_byt {y part : List Int} {nx : Ext} (h : blkD y = some (part, nx)) (hy : Byt y) : Byt part := by
  unfold blkD at h
  split at h
  · cases h
  · unfold blkE at h
    split at h
    · cases h
    · split at h
      · cases h
      · injection h with h
        injection h with h _
        subst h
        refine byt_takeE (byt_dropE ?_ 12) _
        unfold unList
        split
        · exact byt_left hy _
        · intro i; simp
theorem pr_facts {b : List Int} (hb : Byt b) (L : Int) (hLb : L ≤ b.length) : ∀ (k : Nat) (used : List Ext) (tot : Int) (all : List Int) (x : Ext), Byt all → (all.length : Int) ≤ tot → tot ≤ max L 0 → (x ≠ (0, 0) → Wd x) → Byt (prM b L k used tot all x).2.1 ∧ ((prM b L k used tot all x).2.1.length : Int) ≤ max L 0
  | 0, used, tot, all, x, h1, h2, h3, h4 => ⟨fun i => by simp [prM], by simp [prM]; omega⟩
  | k + 1, used, tot, all, x, h1, h2, h3, h4 => by
    have hnil : Byt ([] : List Int) := fun i => by simp
    simp only [prM]
    split
    · split
      · exact ⟨hnil, by simp; omega⟩
      · exact ⟨hnil, by simp; omega⟩
    · rename_i hs
      split
      · exact ⟨hnil, by simp; omega⟩
      · rename_i ho
        cases hd : blkD (slc b x) with
        | none => exact ⟨hnil, by simp; omega⟩
        | some q =>
          obtain ⟨part, nx⟩ := q
          simp only
          have hp := blkD_byt hd (byt_slc hb x)
          have hl := blkD_len hd
          have hl2 : (slc b x).length ≤ x.2.toNat := by unfold slc; rw [List.length_take]; omega
          have hx2 : 0 ≤ x.2 := by
            by_cases e : x = (0, 0)
            · rw [e]; decide
            · have := (h4 e).2.1; omega
          have hall : ((all ++ part).length : Int) ≤ tot + x.2 := by rw [List.length_append]; omega
          split
          · split
            · exact ⟨hnil, by simp; omega⟩
            · exact ⟨byt_join h1 hp, by dsimp only; omega⟩
          · rename_i hn
            exact pr_facts hb L hLb k _ _ _ _ (byt_join h1 hp) hall (by omega) (fun e => wide_of (blkD_next hd e))
theorem Sep.kp8 {w w' : World} {B : Nat} {ps : List Pc} {F : Nat → Prop} (h : Sep w B ps) (hk : Kp F w w') (hF : ∀ x ∈ ps.flatMap Pc.blk, ¬ F x) : Sep w' B ps :=
  ⟨fun p hp => (h.at_ p hp).keep (fun x hx => hk.block x ((h.at_ p hp).lt hx).2 (hF x (List.mem_flatMap.2 ⟨p, hp, hx⟩))), h.nd⟩
theorem Sep.lower8 {w : World} {B B' : Nat} {ps : List Pc} (h : Sep w B ps) (hB : B' ≤ B) : Sep w B' ps := by
  refine ⟨fun p hp => ?_, h.nd⟩
  have h1 := h.at_ p hp
  cases p with
  | obj g a T => exact ⟨h1.1, Nat.le_trans hB h1.2⟩
  | row T k v n xs =>
    obtain ⟨h2, h3 | ⟨g, cap, cur, rfl, hg, r⟩⟩ := h1
    · exact ⟨h2, .inl h3⟩
    · exact ⟨h2, .inr ⟨g, cap, cur, rfl, Nat.le_trans hB hg, r⟩⟩
/-- The extents are kept in their variable. -/
theorem ld_used {w W0 w2 : World} {b0 : Nat} {x : Ext} {v vu : Value} {rs : List Int} {ru : List Ext} (hS : Sep W0 b0 (ldO b0 x (.slice none 0 0) (.slice none 0 0) 0)) (hW : Below b0 w W0) (h2 : Below W0.heap.size W0 w2) (ho : Own w2 W0.heap.size v rs) (hu : OwnX w2 W0.heap.size 49 vu ru) :
    w2.cell? ⟨b0 + 2, 0, none⟩ = some (.slice none 0 0) ∧ w2.frozen? ⟨b0 + 2, 0, none⟩ = false ∧ b0 + 3 < W0.heap.size ∧ Sep (w2.setCell ⟨b0 + 2, 0, none⟩ vu) b0 (ldO b0 x (.slice none 0 0) vu 0) ∧ Own (w2.setCell ⟨b0 + 2, 0, none⟩ vu) W0.heap.size v rs ∧ OwnX (w2.setCell ⟨b0 + 2, 0, none⟩ vu) W0.heap.size 49 vu ru ∧ Below b0 w (w2.setCell ⟨b0 + 2, 0, none⟩ vu) ∧ W0.heap.size ≤ (w2.setCell ⟨b0 + 2, 0, none⟩ vu).heap.size := by
  have hS2 := hS.below h2
  obtain ⟨_, _, d4, d5, d6, f4, f5, f6⟩ := ldO.cells hS2
  obtain ⟨_, _, _, _, e6, _⟩ := ldO.cells hS
  have hlt := World.block_lt_of_cell? W0 _ e6
  dsimp only at hlt
  have hk : Kp (fun y => y = b0 + 2) w2 (w2.setCell ⟨b0 + 2, 0, none⟩ vu) := (Kp.refl _ w2).setCell (a := ⟨b0 + 2, 0, none⟩) _ (fun _ => rfl)
  refine ⟨d5, f5, hlt, ldO.set5 hS2 vu, ?_, ?_, ?_, ?_⟩
  · exact ownsRow_kp ho hk (fun g hg e => by have := (World.ownsRow.lt ho g hg).1; omega)
  · exact ownsRow_kp hu hk (fun g hg e => by have := (World.ownsRow.lt hu g hg).1; omega)
  · exact (hW.trans (h2.mono (by omega))).setCell (Nat.le_add_right _ _) _
  · have := h2.size
    simpa using this
/-- All is told. -/
theorem ld_fin {w W3 w4 : World} {b0 : Nat} {x : Ext} {vl vu : Value} {Lm : List Msg} {ru : List Ext} {B : Nat} (hb0 : w.heap.size = b0) (hB : b0 + 3 < B) (hBs : B ≤ W3.heap.size) (hS : Sep W3 b0 (ldO b0 x (.slice none 0 0) vu 0)) (hW : Below b0 w W3) (hu : OwnX W3 B 49 vu ru) (h4 : Below W3.heap.size W3 w4) (hm : MsS w4 W3.heap.size vl Lm) (r : Int × List (Int × List Int) × List Ext) (hr : r = (0, Lm.map plM, ru)) (tmps : Array Value) (t4 : tmps.getD 4 undef = .pointer (some ⟨b0 + 1, 0, none⟩)) (t5 : tmps.getD 5 undef = .pointer (some ⟨b0 + 2, 0, none⟩)) (t6 : tmps.getD 6 undef = .pointer (some ⟨b0 + 3, 0, none⟩)) (w5 : World) (h5 : w5.heap = (((w4.setCell ⟨b0 + 1, 0, none⟩ vl).setCell ⟨b0 + 2, 0, none⟩ vu).setCell ⟨b0 + 3, 0, none⟩ (.int .i64 0)).heap) (h6 : Below w4.heap.size w4 w4 → Below b0 w w5) :
    ∃ v, (results Tryd.f21 tmps).run Tryd.prog w5 = .ok v w5 ∧ LdP w r (.returned v) w5 := by
  have hS4 := ldO.set (hS.below h4) vl vu 0
  have keep : ∀ (ps : List Pc) (C : Nat), Sep (((w4.setCell ⟨b0 + 1, 0, none⟩ vl).setCell ⟨b0 + 2, 0, none⟩ vu).setCell ⟨b0 + 3, 0, none⟩ (.int .i64 0)) C ps → Sep w5 C ps := fun ps C h => ⟨fun p hp => (h.at_ p hp).keep (fun x _ => by rw [h5]), h.nd⟩
  obtain ⟨_, _, d4, d5, d6, _⟩ := ldO.cells (keep _ _ hS4)
  have hk : Kp (fun y => y ≤ b0 + 3) w4 (((w4.setCell ⟨b0 + 1, 0, none⟩ vl).setCell ⟨b0 + 2, 0, none⟩ vu).setCell ⟨b0 + 3, 0, none⟩ (.int .i64 0)) := (((Kp.refl _ w4).setCell (a := ⟨b0 + 1, 0, none⟩) _ (fun _ => by show b0 + 1 ≤ b0 + 3; omega)).setCell (a := ⟨b0 + 2, 0, none⟩) _ (fun _ => by show b0 + 2 ≤ b0 + 3; omega)).setCell (a := ⟨b0 + 3, 0, none⟩) _ (fun _ => Nat.le_refl _)
  refine ⟨_, results_load tmps _ _ _ w5 _ _ 0 t4 t5 t6 d4 d5 d6, ?_⟩
  rw [hr]
  refine ⟨_, _, Lm, rfl, rfl, ?_, ?_, ?_⟩
  · rw [hb0]
    refine keep _ _ ((Sep.kp8 hm hk (fun y hy e => ?_)).lower8 (by omega))
    have := (Sep.lt hm hy).1
    omega
  · rw [hb0]
    have hu4 : OwnX w4 B 49 vu ru := hu.below h4
    have hu5 : OwnX (((w4.setCell ⟨b0 + 1, 0, none⟩ vl).setCell ⟨b0 + 2, 0, none⟩ vu).setCell ⟨b0 + 3, 0, none⟩ (.int .i64 0)) B 49 vu ru := ownsRow_kp hu4 hk (fun g hg e => by have := (World.ownsRow.lt hu4 g hg).1; omega)
    have h9 : Sep (((w4.setCell ⟨b0 + 1, 0, none⟩ vl).setCell ⟨b0 + 2, 0, none⟩ vu).setCell ⟨b0 + 3, 0, none⟩ (.int .i64 0)) b0 [chU vu ru] := Sep.one (hu5.mono (by omega))
    exact (keep _ _ h9).at_ (chU vu ru) (by simp)
  · rw [hb0]
    exact h6 (Below.refl _ _)
set_option maxHeartbeats 4000000 in
theorem load_any (w : World) (vb : Value) (b : List Int) (x : Ext) (hb : Bs w vb b) (hbl : b.length ≤ 140737488000000) (hby : Byt b) (hx : EW x) (hT : Tab w) (hX : NoX w) :
    Calls Tryd.prog 21 #[vb, .agg #[.int .i64 x.1, .int .i64 x.2]] w fun e w' => LdP w (ldM b x) e w' := by
  have hmf : ∀ (fn : Fn) (first cap : Array Value) (w : World), (Instr.makeFunc fn first cap).run Tryd.prog w = .ok (.func fn first cap) w := fun _ _ _ _ => rfl
  have hsep := ldO.new w x
  have hW0 : Below w.heap.size w ((((w.alloc (.cells #[.int .i64 x.1, .int .i64 x.2] 49)).alloc (.cells #[.slice none 0 0] 22)).alloc (.cells #[.slice none 0 0] 34)).alloc (.cells #[.int .i64 0] 25)) := ((((Below.refl _ w).alloc (Nat.le_refl _) _).alloc (by simp) _).alloc (by simp; omega) _).alloc (by simp; omega) _
  obtain ⟨x1, x2⟩ := x
  dsimp only at hsep hW0 ⊢
  have HNW : Hid (∀ W, Calls Tryd.prog 30 #[.agg #[.int .i64 x1, .int .i64 x2]] W fun e w' => e = .returned (.bool (narrowB (x1, x2))) ∧ Below W.heap.size W w') := fun W => narrow_any (x1, x2) hx W
  obtain ⟨b0, HB0⟩ : ∃ b0, Hid (w.heap.size = b0) := ⟨_, rfl⟩
  obtain ⟨nb, HNB⟩ : ∃ nb, Hid (narrowB (x1, x2) = nb) := ⟨_, rfl⟩
  rw [HNB.out] at HNW
  generalize hg0 : (((w.alloc (.cells #[.int .i64 x1, .int .i64 x2] 49)).alloc (.cells #[.slice none 0 0] 22)).alloc (.cells #[.slice none 0 0] 34)).alloc (.cells #[.int .i64 0] 25) = W0 at hsep hW0
  have HSEP : Hid (Sep W0 w.heap.size (ldO w.heap.size (x1, x2) (.slice none 0 0) (.slice none 0 0) 0)) := hsep
  have HW0 : Hid (Below w.heap.size w W0) := hW0
  obtain ⟨c0, c1, c4, c5, c6, z4, z5, z6⟩ := ldO.cells hsep
  dsimp only at c0 c1
  rw [HB0.out] at HSEP HW0 c0 c1 c4 c5 c6 z4 z5 z6
  have hb0 : b0 ≤ W0.heap.size := by rw [← HB0.out]; exact hW0.size
  have HCAT : Hid (∀ (W : World) (v4 v5 : Value) (q k : Int), Below b0 w W → Sep W b0 (ldO b0 (x1, x2) v4 v5 q) → CallsD Tryd.prog 38 #[.pointer (some ⟨b0 + 1, 0, none⟩), .pointer (some ⟨b0 + 2, 0, none⟩), .pointer (some ⟨b0 + 3, 0, none⟩)] (.panicking [{ v := .iface 25 (.int .i64 k), recovered := false }]) W fun e u' w' => e = .returned (.tuple #[]) ∧ u' = .panicking [{ v := .iface 25 (.int .i64 k), recovered := true }] ∧ Below b0 w w' ∧ Sep w' b0 (ldO b0 (x1, x2) (.slice none 0 0) (.slice none 0 0) k)) := by
    intro W v4 v5 q k hW hS
    obtain ⟨_, _, d4, d5, d6, f4, f5, f6⟩ := ldO.cells hS
    refine CallsD.mono (catch_yes (b0 + 1) (b0 + 2) (b0 + 3) k [] W v4 v5 _ (by omega) (by omega) (by omega) d4 d5 d6 f4 f5 f6) ?_
    rintro e u' w' ⟨h1, h2, rfl⟩
    exact ⟨h1, h2, (set3_below hW _ _ _).drew, (ldO.set hS _ _ _).below (Below.refl _ _).drew⟩
  have HNO : Hid (∀ (k : Int) (W : World) (tmps : Array Value), tmps.getD 4 undef = .pointer (some ⟨b0 + 1, 0, none⟩) → tmps.getD 5 undef = .pointer (some ⟨b0 + 2, 0, none⟩) → tmps.getD 6 undef = .pointer (some ⟨b0 + 3, 0, none⟩) → ldM b (x1, x2) = (k, [], []) → Below b0 w W → Sep W b0 (ldO b0 (x1, x2) (.slice none 0 0) (.slice none 0 0) k) → ∃ v, (results Tryd.f21 tmps).run Tryd.prog W = .ok v W ∧ LdP w (ldM b (x1, x2)) (.returned v) W) := by
    intro k W tmps t4 t5 t6 hk hW hS
    obtain ⟨_, _, d4, d5, d6, _, _, _⟩ := ldO.cells hS
    refine ⟨_, results_load tmps _ _ _ W _ _ k t4 t5 t6 d4 d5 d6, ?_⟩
    rw [hk]
    exact ⟨_, _, [], rfl, rfl, MsS.nil _ _, OwnX.nil _ _ _, by rw [HB0.out]; exact hW⟩
  clear hsep hW0
  cases nb with
  | true =>
    have HLD : Hid (ldM b (x1, x2) = (2, [], [])) := by unfold Hid ldM; rw [HNB.out, if_pos rfl]
    have HEN : Hid (∀ w1, Below W0.heap.size W0 w1 → w1.cell? ⟨b0 + 1, 0, none⟩ = some (.slice none 0 0) ∧ w1.cell? ⟨b0 + 2, 0, none⟩ = some (.slice none 0 0) ∧ w1.cell? ⟨b0 + 3, 0, none⟩ = some (.int .i64 0) ∧ w1.frozen? ⟨b0 + 1, 0, none⟩ = false ∧ w1.frozen? ⟨b0 + 2, 0, none⟩ = false ∧ w1.frozen? ⟨b0 + 3, 0, none⟩ = false ∧ Below b0 w (((w1.setCell ⟨b0 + 1, 0, none⟩ (.slice none 0 0)).setCell ⟨b0 + 2, 0, none⟩ (.slice none 0 0)).setCell ⟨b0 + 3, 0, none⟩ (.int .i64 2)) ∧ Sep (((w1.setCell ⟨b0 + 1, 0, none⟩ (.slice none 0 0)).setCell ⟨b0 + 2, 0, none⟩ (.slice none 0 0)).setCell ⟨b0 + 3, 0, none⟩ (.int .i64 2)) b0 (ldO b0 (x1, x2) (.slice none 0 0) (.slice none 0 0) 2)) := by
      intro w1 h1
      have hS := HSEP.out.below h1
      obtain ⟨_, _, d4, d5, d6, f4, f5, f6⟩ := ldO.cells hS
      exact ⟨d4, d5, d6, f4, f5, f6, set3_below (HW0.out.trans (h1.mono hb0)) _ _ _, ldO.set hS _ _ _⟩
    go_enter_defers Tryd.func21, Tryd.ntmps21
    go_upto_region 1 with fail
    clear hg0
    simp only [Nat.add_assoc, Nat.reduceAdd]
    rw [HB0.out]
    go_wp2_with (go_at_call 30; refine Calls.mono (HNW.out _) ?_; rintro e w1 ⟨rfl, hb1⟩; obtain ⟨d4, d5, d6, f4, f5, f6, h7, h8⟩ := HEN.out w1 hb1; have H7 : Hid _ := h7; have H8 : Hid _ := h8; clear h7 h8 hb1)
    exact HNO.out 2 _ _ rfl rfl rfl HLD.out H7.out H8.out
  | false =>
    have hwd : Wd (x1, x2) := wide_of HNB.out
    have HLD0 : Hid (ldM b (x1, x2) = if (prM b (min b.length 4194304 : Nat) (min b.length 4194304 + 1) [] 0 [] (x1, x2)).1 ≠ 0 then ((prM b (min b.length 4194304 : Nat) (min b.length 4194304 + 1) [] 0 [] (x1, x2)).1, [], []) else match msM (prM b (min b.length 4194304 : Nat) (min b.length 4194304 + 1) [] 0 [] (x1, x2)).2.1 with | none => (5, [], []) | some l => (0, l, (prM b (min b.length 4194304 : Nat) (min b.length 4194304 + 1) [] 0 [] (x1, x2)).2.2)) := by
      unfold Hid
      conv => lhs; unfold ldM
      rw [HNB.out, if_neg (by simp)]
    obtain ⟨hfy, hfl⟩ := pr_facts hby ((min b.length 4194304 : Nat) : Int) (by omega) (min b.length 4194304 + 1) [] 0 [] (x1, x2) (fun i => by simp) (by simp) (by omega) (fun _ => hwd)
    have HRC : Hid (∀ W, Below W0.heap.size W0 W → Calls Tryd.prog 39 #[vb, .agg #[.int .i64 x1, .int .i64 x2]] W fun e w' => RcP W (prM b (min b.length 4194304 : Nat) (min b.length 4194304 + 1) [] 0 [] (x1, x2)) e w') := fun W hW => by
      have hw : Below w.heap.size w W := by rw [HB0.out]; exact HW0.out.trans (hW.mono hb0)
      exact readChain_any W vb b (x1, x2) (hb.below hw) (by omega) hby hwd (hT.below hw) (hX.below hw) _ rfl
    generalize prM b (min b.length 4194304 : Nat) (min b.length 4194304 + 1) [] 0 [] (x1, x2) = r at *
    obtain ⟨re, rs, ru⟩ := r
    dsimp only at HLD0 hfy hfl HRC
    have hrl : rs.length ≤ 4194304 := by omega
    have HFY : Hid (Byt rs) := hfy
    clear hfy hfl hwd hT hX hb hby hx
    by_cases hre : re = 0
    · subst hre
      rw [if_neg (by simp)] at HLD0
      have HRC2 : Hid (∀ W, Below W0.heap.size W0 W → Calls Tryd.prog 39 #[vb, .agg #[.int .i64 x1, .int .i64 x2]] W fun e w' => ∃ v aou nu capu, e = .returned (.tuple #[v, .slice aou nu capu]) ∧ w'.cell? ⟨b0 + 2, 0, none⟩ = some (.slice none 0 0) ∧ w'.frozen? ⟨b0 + 2, 0, none⟩ = false ∧ b0 + 3 < W0.heap.size ∧ Sep (w'.setCell ⟨b0 + 2, 0, none⟩ (.slice aou nu capu)) b0 (ldO b0 (x1, x2) (.slice none 0 0) (.slice aou nu capu) 0) ∧ Own (w'.setCell ⟨b0 + 2, 0, none⟩ (.slice aou nu capu)) W0.heap.size v rs ∧ OwnX (w'.setCell ⟨b0 + 2, 0, none⟩ (.slice aou nu capu)) W0.heap.size 49 (.slice aou nu capu) ru ∧ Below b0 w (w'.setCell ⟨b0 + 2, 0, none⟩ (.slice aou nu capu)) ∧ W0.heap.size ≤ (w'.setCell ⟨b0 + 2, 0, none⟩ (.slice aou nu capu)).heap.size) := fun W hW => (HRC.out W hW).mono fun e w' ⟨h1, _, h2⟩ => by
        obtain ⟨v, vu, h3, h4, h5⟩ := h2 rfl
        obtain ⟨aou, capu, rfl, _⟩ := h5.shape
        exact ⟨v, aou, _, capu, h3, ld_used HSEP.out HW0.out (hW.trans (h1.mono hW.size)) (h4.mono hW.size) (h5.mono hW.size)⟩
      have HBX : Hid (∀ W, Below W0.heap.size W0 W → W.cell? ⟨b0, 0, none⟩ = some (.int .i64 x1) ∧ W.cell? ⟨b0, 1, none⟩ = some (.int .i64 x2)) := fun W hW => by
        obtain ⟨g0, g1, _⟩ := ldO.cells (HSEP.out.below hW)
        exact ⟨g0, g1⟩
      have HRM : Hid (∀ (W3 : World) (v : Value), Own W3 W0.heap.size v rs → Calls Tryd.prog 40 #[v] W3.drew fun e w' => RmP W3 rs e w') := fun W3 v ho => (readMessages_any W3.drew v rs (ho.bs.below (Below.refl _ _).drew) (by omega) HFY.out).mono fun e w' ⟨h1, h2, h3⟩ => ⟨⟨h1.os, h1.tape, h1.output, h1.size, h1.block⟩, h2, h3⟩
      cases hms : msM rs with
      | none =>
        have HLD : Hid (ldM b (x1, x2) = (5, [], [])) := by unfold Hid; rw [HLD0.out, hms]
        have HRM2 : Hid (∀ (W3 : World) (v vu : Value), Own W3 W0.heap.size v rs → Below b0 w W3 → W0.heap.size ≤ W3.heap.size → Sep W3 b0 (ldO b0 (x1, x2) (.slice none 0 0) vu 0) → Calls Tryd.prog 40 #[v] W3.drew fun e w' => e = .panicked [{ v := .iface 25 (.int .i64 5), recovered := false }] ∧ Below b0 w w' ∧ Sep w' b0 (ldO b0 (x1, x2) (.slice none 0 0) vu 0)) := fun W3 v vu ho hb hs hS => (HRM.out W3 v ho).mono fun e w' ⟨h1, h2, _⟩ => ⟨h2 hms, hb.trans (h1.mono (by omega)), hS.below h1⟩
        clear HRM HRC HLD0 hms
        go_enter_defers Tryd.func21, Tryd.ntmps21
        go_upto_region 1 with fail
        clear hg0
        simp only [Nat.add_assoc, Nat.reduceAdd]
        rw [HB0.out]
        go_upto_region 5 with (first
          | (go_at_call 39; refine Calls.mono (HRC2.out _ HB1.out) ?_; rintro e w2 ⟨v, aou, nu, capu, rfl, k5, f5, hlt, hs2, ho2, hu2, hb2, hz2⟩; obtain ⟨W3, HW3⟩ : ∃ W3, w2.setCell ⟨b0 + 2, 0, none⟩ (.slice aou nu capu) = W3 := ⟨_, rfl⟩; rw [HW3] at hs2 ho2 hu2 hb2 hz2; have HS3 : Hid (Sep W3 b0 (ldO b0 (x1, x2) (.slice none 0 0) (.slice aou nu capu) 0)) := hs2; have HO3 : Hid (Own W3 W0.heap.size v rs) := ho2; have HB3 : Hid (Below b0 w W3) := hb2; have HZ3 : Hid (W0.heap.size ≤ W3.heap.size) := hz2; clear hs2 ho2 hu2 hb2 hz2 hlt)
          | (go_at_call 30; refine Calls.mono (HNW.out _) ?_; rintro e w1 ⟨rfl, hb1⟩; have HB1 : Hid (Below W0.heap.size W0 w1) := hb1; obtain ⟨g0, g1⟩ := HBX.out w1 hb1; clear hb1))
        clear HW3
        obtain ⟨_, _, d4, d5, d6, f4, f5', f6⟩ := ldO.cells HS3.out
        refine wp_region_any (by kernel_rfl) ?_
        change wpAny _ _ _ _ _ _ _ (World.drew _)
        refine wpAny_ready (rs := [0, 2]) (by kernel_rfl) (by simp) (AllReady.cons rfl (fun K hK => ?_) (AllReady.cons rfl (fun K hK => ?_) AllReady.nil))
        · go_simp
          refine hK _ _ ?_
          clear hK K
          refine wpAny_ready (rs := [1, 2]) (by kernel_rfl) (by simp) (AllReady.cons rfl (fun K hK => ?_) (AllReady.cons rfl (fun K hK => ?_) AllReady.nil))
          · go_simp
            go_wp2_with (go_at_call 40; refine Calls.mono (HRM2.out W3 v (.slice aou nu capu) HO3.out HB3.out HZ3.out HS3.out) ?_; rintro e w4 ⟨rfl, hb4, hs4⟩; have HB4 : Hid (Below b0 w w4) := hb4; have HS4 : Hid (Sep w4 b0 (ldO b0 (x1, x2) (.slice none 0 0) (.slice aou nu capu) 0)) := hs4; clear hb4 hs4)
            refine leaves_cons (f := 38) (args := #[.pointer (some ⟨b0 + 1, 0, none⟩), .pointer (some ⟨b0 + 2, 0, none⟩), .pointer (some ⟨b0 + 3, 0, none⟩)]) (by simp) (by simp [go_sem]) ?_
            refine CallsD.mono (HCAT.out _ _ _ _ _ HB4.out HS4.out) ?_
            rintro e u' w' ⟨rfl, rfl, h1, h2⟩
            exact HNO.out 5 _ _ rfl rfl rfl HLD.out h1 h2
          · go_simp
            refine hK _ _ ?_
            clear hK K
            refine wpAny_ready (rs := [1]) (by kernel_rfl) (by simp) (AllReady.cons rfl (fun K hK => ?_) AllReady.nil)
            go_simp
            go_wp2_with (go_at_call 40; refine Calls.mono (HRM2.out W3 v (.slice aou nu capu) HO3.out HB3.out HZ3.out HS3.out) ?_; rintro e w4 ⟨rfl, hb4, hs4⟩; have HB4 : Hid (Below b0 w w4) := hb4; have HS4 : Hid (Sep w4 b0 (ldO b0 (x1, x2) (.slice none 0 0) (.slice aou nu capu) 0)) := hs4; clear hb4 hs4)
            refine leaves_cons (f := 38) (args := #[.pointer (some ⟨b0 + 1, 0, none⟩), .pointer (some ⟨b0 + 2, 0, none⟩), .pointer (some ⟨b0 + 3, 0, none⟩)]) (by simp) (by simp [go_sem]) ?_
            refine CallsD.mono (HCAT.out _ _ _ _ _ HB4.out HS4.out) ?_
            rintro e u' w' ⟨rfl, rfl, h1, h2⟩
            exact HNO.out 5 _ _ rfl rfl rfl HLD.out h1 h2
        · go_simp
          refine hK _ _ ?_
          clear hK K
          refine wpAny_ready (rs := [0]) (by kernel_rfl) (by simp) (AllReady.cons rfl (fun K hK => ?_) AllReady.nil)
          go_simp
          refine hK _ _ ?_
          clear hK K
          refine wpAny_ready (rs := [1]) (by kernel_rfl) (by simp) (AllReady.cons rfl (fun K hK => ?_) AllReady.nil)
          go_simp
          go_wp2_with (go_at_call 40; refine Calls.mono (HRM2.out W3 v (.slice aou nu capu) HO3.out HB3.out HZ3.out HS3.out) ?_; rintro e w4 ⟨rfl, hb4, hs4⟩; have HB4 : Hid (Below b0 w w4) := hb4; have HS4 : Hid (Sep w4 b0 (ldO b0 (x1, x2) (.slice none 0 0) (.slice aou nu capu) 0)) := hs4; clear hb4 hs4)
          refine leaves_cons (f := 38) (args := #[.pointer (some ⟨b0 + 1, 0, none⟩), .pointer (some ⟨b0 + 2, 0, none⟩), .pointer (some ⟨b0 + 3, 0, none⟩)]) (by simp) (by simp [go_sem]) ?_
          refine CallsD.mono (HCAT.out _ _ _ _ _ HB4.out HS4.out) ?_
          rintro e u' w' ⟨rfl, rfl, h1, h2⟩
          exact HNO.out 5 _ _ rfl rfl rfl HLD.out h1 h2
      | some l =>
        have HLD : Hid (ldM b (x1, x2) = (0, l, ru)) := by unfold Hid; rw [HLD0.out, hms]
        have HRM2 : Hid (∀ (W3 : World) (v vu : Value), Own W3 W0.heap.size v rs → Sep W3 b0 (ldO b0 (x1, x2) (.slice none 0 0) vu 0) → Calls Tryd.prog 40 #[v] W3.drew fun e w' => ∃ aol nl capl Lm, e = .returned (.slice aol nl capl) ∧ Lm.map plM = l ∧ MsS w' W3.heap.size (.slice aol nl capl) Lm ∧ Below W3.heap.size W3 w' ∧ w'.cell? ⟨b0 + 1, 0, none⟩ = some (.slice none 0 0) ∧ w'.cell? ⟨b0 + 2, 0, none⟩ = some vu ∧ w'.cell? ⟨b0 + 3, 0, none⟩ = some (.int .i64 0) ∧ w'.frozen? ⟨b0 + 1, 0, none⟩ = false ∧ w'.frozen? ⟨b0 + 2, 0, none⟩ = false ∧ w'.frozen? ⟨b0 + 3, 0, none⟩ = false) := fun W3 v vu ho hS => (HRM.out W3 v ho).mono fun e w' ⟨h1, _, h3⟩ => by
          obtain ⟨vl, Lm, h4, h5, h6⟩ := h3 l hms
          obtain ⟨_, _, q4, q5, q6, y4, y5, y6⟩ := ldO.cells (hS.below h1)
          obtain ⟨aol, capl, hvl⟩ := row_sliceE (h6.at_ (rowMs vl Lm) (List.Mem.head _))
          subst hvl
          exact ⟨aol, _, capl, Lm, h4, h5, h6, h1, q4, q5, q6, y4, y5, y6⟩
        clear HRM HRC HLD0 hms
        go_enter_defers Tryd.func21, Tryd.ntmps21
        go_upto_region 1 with fail
        clear hg0
        simp only [Nat.add_assoc, Nat.reduceAdd]
        rw [HB0.out]
        go_upto_region 5 with (first
          | (go_at_call 39; refine Calls.mono (HRC2.out _ HB1.out) ?_; rintro e w2 ⟨v, aou, nu, capu, rfl, k5, f5, hlt, hs2, ho2, hu2, hb2, hz2⟩; obtain ⟨W3, HW3⟩ : ∃ W3, w2.setCell ⟨b0 + 2, 0, none⟩ (.slice aou nu capu) = W3 := ⟨_, rfl⟩; rw [HW3] at hs2 ho2 hu2 hb2 hz2; have HS3 : Hid (Sep W3 b0 (ldO b0 (x1, x2) (.slice none 0 0) (.slice aou nu capu) 0)) := hs2; have HO3 : Hid (Own W3 W0.heap.size v rs) := ho2; have HU3 : Hid (OwnX W3 W0.heap.size 49 (.slice aou nu capu) ru) := hu2; have HB3 : Hid (Below b0 w W3) := hb2; have HZ3 : Hid (W0.heap.size ≤ W3.heap.size) := hz2; have HLT : Hid (b0 + 3 < W0.heap.size) := hlt; clear hs2 ho2 hu2 hb2 hz2 hlt)
          | (go_at_call 30; refine Calls.mono (HNW.out _) ?_; rintro e w1 ⟨rfl, hb1⟩; have HB1 : Hid (Below W0.heap.size W0 w1) := hb1; obtain ⟨g0, g1⟩ := HBX.out w1 hb1; clear hb1))
        clear HW3
        obtain ⟨_, _, d4, d5, d6, f4, f5', f6⟩ := ldO.cells HS3.out
        refine wp_region_any (by kernel_rfl) ?_
        change wpAny _ _ _ _ _ _ _ (World.drew _)
        refine wpAny_ready (rs := [0, 2]) (by kernel_rfl) (by simp) (AllReady.cons rfl (fun K hK => ?_) (AllReady.cons rfl (fun K hK => ?_) AllReady.nil))
        · go_simp
          refine hK _ _ ?_
          clear hK K
          refine wpAny_ready (rs := [1, 2]) (by kernel_rfl) (by simp) (AllReady.cons rfl (fun K hK => ?_) (AllReady.cons rfl (fun K hK => ?_) AllReady.nil))
          · go_simp
            go_wp2_with (go_at_call 40; refine Calls.mono (HRM2.out W3 v (.slice aou nu capu) HO3.out HS3.out) ?_; rintro e w4 ⟨aol, nl, capl, Lm, rfl, hl4, hm4, hb4, q4, q5, q6, y4, y5, y6⟩; have HL4 : Hid (Lm.map plM = l) := hl4; have HM4 : Hid (MsS w4 W3.heap.size (.slice aol nl capl) Lm) := hm4; have HB4 : Hid (Below W3.heap.size W3 w4) := hb4; clear hl4 hm4 hb4)
            refine wpAny_ready (rs := [2, 3]) (by kernel_rfl) (by simp) (AllReady.cons rfl (fun K hK => ?_) (AllReady.cons rfl (fun K hK => ?_) AllReady.nil))
            · go_simp
              refine hK _ _ ?_
              clear hK K
              refine wpAny_ready (rs := [3]) (by kernel_rfl) (by simp) (AllReady.cons rfl (fun K hK => ?_) AllReady.nil)
              go_simp
              refine hK _ _ ?_
              clear hK K
              refine wpAny_ready (rs := [4]) (by kernel_rfl) (by simp) (AllReady.cons rfl (fun K hK => ?_) AllReady.nil)
              go_simp
              refine hK _ _ ?_
              clear hK K
              refine wpAny_ready (rs := [5]) (by kernel_rfl) (by simp) (AllReady.cons rfl (fun K hK => ?_) AllReady.nil)
              go_simp
              refine hK _ _ ?_
              clear hK K
              refine ⟨by kernel_rfl, ?_⟩
              go_wp2_with fail
              refine leaves_cons (f := 38) (args := #[.pointer (some ⟨b0 + 1, 0, none⟩), .pointer (some ⟨b0 + 2, 0, none⟩), .pointer (some ⟨b0 + 3, 0, none⟩)]) (by simp) (by simp [go_sem]) ?_
              refine CallsD.mono (catch_no (b0 + 1) (b0 + 2) (b0 + 3) _) ?_
              rintro e u' w' ⟨rfl, rfl, rfl⟩
              exact ld_fin HB0.out HLT.out HZ3.out HS3.out HB3.out HU3.out HB4.out HM4.out _ (by rw [HLD.out, HL4.out]) _ rfl rfl rfl _ rfl (fun _ => set3_below (HB3.out.trans (HB4.out.mono (by have h9 := HZ3.out; have h8 := HLT.out; omega))) _ _ _)
            · go_simp
              refine hK _ _ ?_
              clear hK K
              refine wpAny_ready (rs := [2]) (by kernel_rfl) (by simp) (AllReady.cons rfl (fun K hK => ?_) AllReady.nil)
              go_simp
              refine hK _ _ ?_
              clear hK K
              refine wpAny_ready (rs := [4]) (by kernel_rfl) (by simp) (AllReady.cons rfl (fun K hK => ?_) AllReady.nil)
              go_simp
              refine hK _ _ ?_
              clear hK K
              refine wpAny_ready (rs := [5]) (by kernel_rfl) (by simp) (AllReady.cons rfl (fun K hK => ?_) AllReady.nil)
              go_simp
              refine hK _ _ ?_
              clear hK K
              refine ⟨by kernel_rfl, ?_⟩
              go_wp2_with fail
              refine leaves_cons (f := 38) (args := #[.pointer (some ⟨b0 + 1, 0, none⟩), .pointer (some ⟨b0 + 2, 0, none⟩), .pointer (some ⟨b0 + 3, 0, none⟩)]) (by simp) (by simp [go_sem]) ?_
              refine CallsD.mono (catch_no (b0 + 1) (b0 + 2) (b0 + 3) _) ?_
              rintro e u' w' ⟨rfl, rfl, rfl⟩
              exact ld_fin HB0.out HLT.out HZ3.out HS3.out HB3.out HU3.out HB4.out HM4.out _ (by rw [HLD.out, HL4.out]) _ rfl rfl rfl _ rfl (fun _ => set3_below (HB3.out.trans (HB4.out.mono (by have h9 := HZ3.out; have h8 := HLT.out; omega))) _ _ _)
          · go_simp
            refine hK _ _ ?_
            clear hK K
            refine wpAny_ready (rs := [1]) (by kernel_rfl) (by simp) (AllReady.cons rfl (fun K hK => ?_) AllReady.nil)
            go_simp
            go_wp2_with (go_at_call 40; refine Calls.mono (HRM2.out W3 v (.slice aou nu capu) HO3.out HS3.out) ?_; rintro e w4 ⟨aol, nl, capl, Lm, rfl, hl4, hm4, hb4, q4, q5, q6, y4, y5, y6⟩; have HL4 : Hid (Lm.map plM = l) := hl4; have HM4 : Hid (MsS w4 W3.heap.size (.slice aol nl capl) Lm) := hm4; have HB4 : Hid (Below W3.heap.size W3 w4) := hb4; clear hl4 hm4 hb4)
            refine wpAny_ready (rs := [3]) (by kernel_rfl) (by simp) (AllReady.cons rfl (fun K hK => ?_) AllReady.nil)
            go_simp
            refine hK _ _ ?_
            clear hK K
            refine wpAny_ready (rs := [4]) (by kernel_rfl) (by simp) (AllReady.cons rfl (fun K hK => ?_) AllReady.nil)
            go_simp
            refine hK _ _ ?_
            clear hK K
            refine wpAny_ready (rs := [5]) (by kernel_rfl) (by simp) (AllReady.cons rfl (fun K hK => ?_) AllReady.nil)
            go_simp
            refine hK _ _ ?_
            clear hK K
            refine ⟨by kernel_rfl, ?_⟩
            go_wp2_with fail
            refine leaves_cons (f := 38) (args := #[.pointer (some ⟨b0 + 1, 0, none⟩), .pointer (some ⟨b0 + 2, 0, none⟩), .pointer (some ⟨b0 + 3, 0, none⟩)]) (by simp) (by simp [go_sem]) ?_
            refine CallsD.mono (catch_no (b0 + 1) (b0 + 2) (b0 + 3) _) ?_
            rintro e u' w' ⟨rfl, rfl, rfl⟩
            exact ld_fin HB0.out HLT.out HZ3.out HS3.out HB3.out HU3.out HB4.out HM4.out _ (by rw [HLD.out, HL4.out]) _ rfl rfl rfl _ rfl (fun _ => set3_below (HB3.out.trans (HB4.out.mono (by have h9 := HZ3.out; have h8 := HLT.out; omega))) _ _ _)
        · go_simp
          refine hK _ _ ?_
          clear hK K
          refine wpAny_ready (rs := [0]) (by kernel_rfl) (by simp) (AllReady.cons rfl (fun K hK => ?_) AllReady.nil)
          go_simp
          refine hK _ _ ?_
          clear hK K
          refine wpAny_ready (rs := [1]) (by kernel_rfl) (by simp) (AllReady.cons rfl (fun K hK => ?_) AllReady.nil)
          go_simp
          go_wp2_with (go_at_call 40; refine Calls.mono (HRM2.out W3 v (.slice aou nu capu) HO3.out HS3.out) ?_; rintro e w4 ⟨aol, nl, capl, Lm, rfl, hl4, hm4, hb4, q4, q5, q6, y4, y5, y6⟩; have HL4 : Hid (Lm.map plM = l) := hl4; have HM4 : Hid (MsS w4 W3.heap.size (.slice aol nl capl) Lm) := hm4; have HB4 : Hid (Below W3.heap.size W3 w4) := hb4; clear hl4 hm4 hb4)
          refine wpAny_ready (rs := [3]) (by kernel_rfl) (by simp) (AllReady.cons rfl (fun K hK => ?_) AllReady.nil)
          go_simp
          refine hK _ _ ?_
          clear hK K
          refine wpAny_ready (rs := [4]) (by kernel_rfl) (by simp) (AllReady.cons rfl (fun K hK => ?_) AllReady.nil)
          go_simp
          refine hK _ _ ?_
          clear hK K
          refine wpAny_ready (rs := [5]) (by kernel_rfl) (by simp) (AllReady.cons rfl (fun K hK => ?_) AllReady.nil)
          go_simp
          refine hK _ _ ?_
          clear hK K
          refine ⟨by kernel_rfl, ?_⟩
          go_wp2_with fail
          refine leaves_cons (f := 38) (args := #[.pointer (some ⟨b0 + 1, 0, none⟩), .pointer (some ⟨b0 + 2, 0, none⟩), .pointer (some ⟨b0 + 3, 0, none⟩)]) (by simp) (by simp [go_sem]) ?_
          refine CallsD.mono (catch_no (b0 + 1) (b0 + 2) (b0 + 3) _) ?_
          rintro e u' w' ⟨rfl, rfl, rfl⟩
          exact ld_fin HB0.out HLT.out HZ3.out HS3.out HB3.out HU3.out HB4.out HM4.out _ (by rw [HLD.out, HL4.out]) _ rfl rfl rfl _ rfl (fun _ => set3_below (HB3.out.trans (HB4.out.mono (by have h9 := HZ3.out; have h8 := HLT.out; omega))) _ _ _)
    · have HLD : Hid (ldM b (x1, x2) = (re, [], [])) := by unfold Hid; rw [HLD0.out, if_pos hre]
      have HRC2 : Hid (∀ W, Below W0.heap.size W0 W → Calls Tryd.prog 39 #[vb, .agg #[.int .i64 x1, .int .i64 x2]] W fun e w' => e = .panicked [{ v := .iface 25 (.int .i64 re), recovered := false }] ∧ Below b0 w w' ∧ Sep w' b0 (ldO b0 (x1, x2) (.slice none 0 0) (.slice none 0 0) 0)) := fun W hW => (HRC.out W hW).mono fun e w' ⟨h1, h2, _⟩ => ⟨h2 hre, HW0.out.trans ((hW.trans (h1.mono hW.size)).mono hb0), HSEP.out.below (hW.trans (h1.mono hW.size))⟩
      have HBX : Hid (∀ W, Below W0.heap.size W0 W → W.cell? ⟨b0, 0, none⟩ = some (.int .i64 x1) ∧ W.cell? ⟨b0, 1, none⟩ = some (.int .i64 x2)) := fun W hW => by
        obtain ⟨g0, g1, _⟩ := ldO.cells (HSEP.out.below hW)
        exact ⟨g0, g1⟩
      go_enter_defers Tryd.func21, Tryd.ntmps21
      go_upto_region 1 with fail
      clear hg0
      simp only [Nat.add_assoc, Nat.reduceAdd]
      rw [HB0.out]
      go_wp2_with (first
        | (go_at_call 39; refine Calls.mono (HRC2.out _ HB1.out) ?_; rintro e w2 ⟨rfl, hb2, hs2⟩; have HB2 : Hid (Below b0 w w2) := hb2; have HS2 : Hid (Sep w2 b0 (ldO b0 (x1, x2) (.slice none 0 0) (.slice none 0 0) 0)) := hs2; clear hb2 hs2)
        | (go_at_call 30; refine Calls.mono (HNW.out _) ?_; rintro e w1 ⟨rfl, hb1⟩; have HB1 : Hid (Below W0.heap.size W0 w1) := hb1; obtain ⟨g0, g1⟩ := HBX.out w1 hb1; clear hb1))
      refine leaves_cons (f := 38) (args := #[.pointer (some ⟨b0 + 1, 0, none⟩), .pointer (some ⟨b0 + 2, 0, none⟩), .pointer (some ⟨b0 + 3, 0, none⟩)]) (by simp) (by simp [go_sem]) ?_
      refine CallsD.mono (HCAT.out _ _ _ _ _ HB2.out HS2.out) ?_
      rintro e u' w' ⟨rfl, rfl, h1, h2⟩
      exact HNO.out re _ _ rfl rfl rfl HLD.out h1 h2
end Go.Proofs.YtdalkjenjnalbaaDoor
