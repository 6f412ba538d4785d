/-
  What extents leave of a size; the walks of the closure of gaps, of gaps and of Rest. Conditions: the numbers are ints, the list's length is one that memory bears.
-/
import Derived.Test.YtbpaiioonljlpabXTotal
namespace Go.Proofs.Ytbpaiioonljlpab
open Go.RowKit Go.Sort Go.Shelf Go.Lib
set_option linter.unusedVariables false
set_option maxRecDepth 100000

/-- A gap, if there is one. -/
def gapB (a b : Int) : List Ext := if a < b then [(a, b - a)] else []
theorem gapB_length (a b : Int) : (gapB a b).length ≤ 1 := by unfold gapB; split <;> simp
/-- The gaps ahead of the extents of a list. -/
def gapsTo (l : List Ext) : Int × List Ext := l.foldl (fun st x => (x.1 + x.2, st.2 ++ gapB st.1 x.1)) (0, [])
def gapsL (l : List Ext) (size : Int) : List Ext := (gapsTo l).2 ++ gapB (gapsTo l).1 size
theorem gapsTo_snoc (l : List Ext) (x : Ext) : gapsTo (l ++ [x]) = (x.1 + x.2, (gapsTo l).2 ++ gapB (gapsTo l).1 x.1) := by simp [gapsTo]
theorem gapsTo_length (l : List Ext) : (gapsTo l).2.length ≤ l.length := by
  rw [← List.reverse_reverse l]
  generalize l.reverse = r
  induction r with
  | nil => simp [gapsTo]
  | cons x r ih =>
    rw [List.reverse_cons, gapsTo_snoc]
    have := gapB_length (gapsTo r.reverse).1 x.1
    simp at ih ⊢; omega
theorem gapsTo_bd {l : List Ext} (h : ∀ x ∈ l, 0 ≤ x.1 ∧ 0 ≤ x.2 ∧ x.1 + x.2 ≤ 4194304) : 0 ≤ (gapsTo l).1 ∧ (gapsTo l).1 ≤ 4194304 := by
  rcases snoc_cases l with rfl | ⟨o, c, rfl⟩
  · simp [gapsTo]
  · rw [gapsTo_snoc]
    have := h c (by simp)
    simp; omega
def restErr (l : List Ext) (size : Int) : Int :=
  if szB size = true then (if normErr l = 0 then (if goodB (normL l) size = true then (if 65536 < (gapsL (normL l) size).length then 3 else 0) else 2) else normErr l) else 2
def restList (l : List Ext) (size : Int) : List Ext := if restErr l size = 0 then gapsL (normL l) size else []

/-- out, as gaps' closure has it: a cell with a slice of the call's own. -/
structure Outs (w : World) (p B : Nat) (v : Value) (l : List Ext) : Prop where
  cell : w.cell? ⟨p, 0, none⟩ = some v
  free : w.frozen? ⟨p, 0, none⟩ = false
  own : OwnX w B 48 v l
  lt : p < B
theorem Outs.below {w w' : World} {p B : Nat} {v : Value} {l : List Ext} (h : Outs w p B v l) (hb : Below w.heap.size w w') : Outs w' p B v l :=
  ⟨cell_later hb h.cell, (hb.frozen (p := ⟨p, 0, none⟩) (World.block_lt_of_cell? w _ h.cell)).trans h.free, h.own.below hb, h.lt⟩

theorem frozen_block {w w' : World} {b o : Nat} (h : w'.heap[b]? = w.heap[b]?) : w'.frozen? ⟨b, o, none⟩ = w.frozen? ⟨b, o, none⟩ := by simp [World.frozen?, h]
theorem own_setOther {w : World} {B : Nat} {T : TypeId} {v x : Value} {l : List Ext} {p o : Nat} (h : OwnX w B T v l) (hp : v.ownBlock ≠ some p) : OwnX (w.setCell ⟨p, o, none⟩ x) B T v l := by
  refine h.grown (r := some p) ⟨rfl, rfl, rfl, by simp [World.setCell], fun k hk hne => Below.heap_setCell _ _ _ _ (fun e => hne (by rw [e]))⟩ (fun k hk e => by cases hk; exact hp e)
/-- Only blocks of S have turned, and new ones. -/
structure Turn (S : Nat → Prop) (w w' : World) : Prop where
  os : w'.os = w.os
  tape : w'.tape = w.tape
  output : w'.output = w.output
  size : w.heap.size ≤ w'.heap.size
  block : ∀ k, k < w.heap.size → ¬ S k → w'.heap[k]? = w.heap[k]?
theorem Turn.refl (S : Nat → Prop) (w : World) : Turn S w w := ⟨rfl, rfl, rfl, Nat.le_refl _, fun _ _ _ => rfl⟩
theorem Turn.below {S : Nat → Prop} {C : Nat} {w w' : World} (h : Turn S w w') (hS : ∀ k, S k → C ≤ k) (hC : C ≤ w.heap.size) : Below C w w' :=
  ⟨h.os, h.tape, h.output, h.size, fun k hk => h.block k (by omega) (fun hs => by have := hS k hs; omega)⟩
theorem Turn.cell {S : Nat → Prop} {w w' : World} (h : Turn S w w') {b o : Nat} {x : Value} (hb : ¬ S b) (hx : w.cell? ⟨b, o, none⟩ = some x) : w'.cell? ⟨b, o, none⟩ = some x :=
  (World.cell?_of_block (w := w) (a := ⟨b, o, none⟩) (h.block b (World.block_lt_of_cell? w _ hx) hb)).trans hx

set_option maxHeartbeats 2000000 in
theorem add_yes (a b : Int) (p B : Nat) (v : Value) (l : List Ext) (w : World) (h : Outs w p B v l) (hB : B ≤ w.heap.size) (hab : a < b) (ha : 0 ≤ a) (hb : b ≤ 4194304) (hl : l.length ≤ 1000000000) :
    Calls Try.prog 48 #[.int .i64 a, .int .i64 b, .pointer (some ⟨p, 0, none⟩)] w fun e w' => e = .returned (.tuple #[]) ∧ ∃ v', Outs w' p B v' (l ++ gapB a b) ∧ Turn (fun q => q = p ∨ v.ownBlock = some q) w w' := by
  obtain ⟨i1, hi, hz0, hz1, hz2⟩ := info_parts Try.infoX
  have HO : Hid (Outs w p B v l) := h
  have c0 := h.cell
  have f0 := h.free
  have hpl : p < w.heap.size := World.block_lt_of_cell? w _ c0
  have HG : Hid (gapB a b = [(a, b - a)]) := by unfold Hid gapB; rw [if_pos hab]
  clear h
  go_enter Try.func48, Try.ntmps48
  go_wp2_with (at_builtin; refine wpList_append_x _ rfl (.tmp 8) (.tmp 14) 22 48 rfl i1 Try.underlying22 hi hz0 hz1 hz2 B _ _ l [(a, b - a)] rfl rfl (HO.out.own.below ((Below.refl _ _).alloc (Nat.le_refl _) _)) (Xs.oneAt _ _ (a, b - a) _ rfl) (by simp; omega) (by simp; omega) ?_; intro ao2 cap2 w2 ho2 hg2 hc2 hne2; have HO2 : Hid (OwnX w2 B 48 (.slice ao2 (l.length + [(a, b - a)].length) cap2) (l ++ [(a, b - a)])) := ho2; have hpv : v.ownBlock ≠ some p := (fun e => by have := (HO.out.own.lt p e).1; have := HO.out.lt; omega); have HBK : Hid (w2.heap[p]? = w.heap[p]?) := (hg2.block p (by simp; omega) (fun e => hpv e.symm)).trans (Below.heap_alloc _ _ _ hpl); have c2 : w2.cell? ⟨p, 0, none⟩ = some v := (World.cell?_of_block (w := w) (a := ⟨p, 0, none⟩) HBK.out).trans c0; have f2 : w2.frozen? ⟨p, 0, none⟩ = false := (frozen_block HBK.out).trans f0; have HG2 : Hid ((w.alloc (.cells #[.int .i64 a, .int .i64 (b - a)] 48)).grownBy w2 v.ownBlock) := hg2; clear ho2 hg2 hne2)
  go_end0
  refine ⟨rfl, .slice ao2 (l.length + [(a, b - a)].length) cap2, ?_, ?_⟩
  · rw [HG.out]
    refine ⟨World.cell?_setCell_same' _ _ _ (by rw [c2]; rfl), by rw [World.frozen?_setCell]; exact f2, ?_, HO.out.lt⟩
    exact own_setOther HO2.out (fun e => by have := (HO2.out.lt p e).1; have := HO.out.lt; omega)
  · refine ⟨HG2.out.os, HG2.out.tape, HG2.out.output, ?_, fun k hk hS => ?_⟩
    · have h1 := HG2.out.size
      simp at h1
      simp [World.setCell]
      omega
    · rw [Below.heap_setCell _ _ _ _ (fun e => hS (.inl e))]
      exact (HG2.out.block k (by simp; omega) (fun e => hS (.inr e.symm))).trans (Below.heap_alloc _ _ _ hk)

theorem add_no (a b : Int) (p : Nat) (w : World) (hab : ¬ a < b) :
    Calls Try.prog 48 #[.int .i64 a, .int .i64 b, .pointer (some ⟨p, 0, none⟩)] w fun e w' => e = .returned (.tuple #[]) ∧ w' = w := by
  go_enter Try.func48, Try.ntmps48
  go_wp2
  go_end0
  exact ⟨rfl, rfl⟩
theorem add_any (a b : Int) (p B : Nat) (v : Value) (l : List Ext) (w : World) (h : Outs w p B v l) (hB : B ≤ w.heap.size) (ha : 0 ≤ a) (hb : b ≤ 4194304) (hl : l.length ≤ 1000000000) :
    Calls Try.prog 48 #[.int .i64 a, .int .i64 b, .pointer (some ⟨p, 0, none⟩)] w fun e w' => e = .returned (.tuple #[]) ∧ ∃ v', Outs w' p B v' (l ++ gapB a b) ∧ Turn (fun q => q = p ∨ v.ownBlock = some q) w w' := by
  by_cases hab : a < b
  · exact add_yes a b p B v l w h hB hab ha hb hl
  · refine (add_no a b p w hab).mono fun e w' ⟨h1, h2⟩ => ⟨h1, v, ?_, ?_⟩
    · rw [h2]; unfold gapB; rw [if_neg hab, List.append_nil]; exact h
    · rw [h2]; exact Turn.refl _ _

set_option maxHeartbeats 4000000 in
theorem gaps_any (v : Value) (l : List Ext) (size : Int) (w : World) (hl : Xs w v l) (hf : ∀ x ∈ l, 0 ≤ x.1 ∧ 0 ≤ x.2 ∧ x.1 + x.2 ≤ 4194304) (hs : 0 ≤ size ∧ size ≤ 4194304) (hn : l.length ≤ 65536) :
    Calls Try.prog 40 #[v, .int .i64 size] w fun e w' => ∃ x, e = .returned x ∧ OwnX w' w.heap.size 48 x (gapsL l size) ∧ Below w.heap.size w w' := by
  obtain ⟨ao, cap, rfl, hcap, hcell⟩ := hl.opened
  have HC : Hid (∀ i, i < l.length → ∃ b off, ao = some ⟨b, off, none⟩ ∧ w.cell? ⟨b, off + i * 2, none⟩ = some (.int .i64 (l.getD i (0, 0)).1) ∧ w.cell? ⟨b, off + i * 2 + 1, none⟩ = some (.int .i64 (l.getD i (0, 0)).2) ∧ b < w.heap.size) := hcell
  have HFI : Hid (∀ x ∈ l, 0 ≤ x.1 ∧ 0 ≤ x.2 ∧ x.1 + x.2 ≤ 4194304) := hf
  obtain ⟨s1, s2⟩ := hs
  clear hl hcell hf
  obtain ⟨N, HN⟩ : ∃ N, Hid (l.length = N) := ⟨_, rfl⟩
  rw [HN.out] at hcap hn ⊢
  have HO0 : Hid (Outs (w.alloc (.cells #[.slice none 0 0] 22)) w.heap.size (w.heap.size + 1) (.slice none 0 0) []) :=
    ⟨by simp, by simp, OwnX.nil _ _ _, by omega⟩
  have HB0 : Hid (Below w.heap.size w (w.alloc (.cells #[.slice none 0 0] 22))) := (Below.refl _ _).alloc (Nat.le_refl _) _
  have HZ0 : Hid (w.heap.size + 1 ≤ (w.alloc (.cells #[.slice none 0 0] 22)).heap.size) := by unfold Hid; simp
  go_enter Try.func40, Try.ntmps40
  go_wp2
  go_loopw [7, 13] (fun t i wr => ∃ k : Nat, k ≤ N ∧ i = .int .i64 (k : Int) ∧ t = .int .i64 (gapsTo (l.take k)).1 ∧ Hid (∃ vo, Outs wr w.heap.size (w.heap.size + 1) vo (gapsTo (l.take k)).2) ∧ Hid (Below w.heap.size w wr) ∧ Hid (w.heap.size + 1 ≤ wr.heap.size)) (fun _ i _ => N - (intOf i).toNat)
  case atStart => exact ⟨0, Nat.zero_le _, rfl, rfl, ⟨_, HO0.out⟩, HB0.out, HZ0.out⟩
  case round =>
    obtain ⟨k, hk, rfl, rfl, HO, HB, HZ⟩ := hrel
    obtain ⟨vo, hvo⟩ := HO.out
    have HVO : Hid (Outs wr w.heap.size (w.heap.size + 1) vo (gapsTo (l.take k)).2) := hvo
    have hbd := gapsTo_bd (l := l.take k) (fun x hx => HFI.out x (List.take_subset k l hx))
    have HGL : Hid ((gapsTo (l.take k)).2.length ≤ 1000000000) := by have h1 := gapsTo_length (l.take k); have h2 := List.length_take_le k l; unfold Hid; omega
    clear hvo HO
    by_cases hlt : k < N
    · have hkl : k < l.length := by rw [HN.out]; exact hlt
      obtain ⟨b, off, rfl, c1, c2, hb⟩ := HC.out k hkl
      have d1 := (HB.out.cell (p := ⟨b, off + k * 2, none⟩) hb).trans c1
      have d2 := (HB.out.cell (p := ⟨b, off + k * 2 + 1, none⟩) hb).trans c2
      have hx := HFI.out _ (getD_mem hkl)
      have HG : Hid (gapsTo (l.take (k + 1)) = ((l.getD k (0, 0)).1 + (l.getD k (0, 0)).2, (gapsTo (l.take k)).2 ++ gapB (gapsTo (l.take k)).1 (l.getD k (0, 0)).1)) := by unfold Hid; rw [take_snoc l hkl, gapsTo_snoc]
      clear c1 c2
      generalize l.getD k (0, 0) = x at *
      generalize (gapsTo (l.take k)).1 = ra at *
      generalize (gapsTo (l.take k)).2 = rl at *
      obtain ⟨xa, xs⟩ := x
      dsimp only at d1 d2 hx
      obtain ⟨x1, x2, x3⟩ := hx
      have HBA : Hid (Below wr.heap.size wr (wr.alloc (.cells #[.int .i64 xa, .int .i64 xs] 48))) := (Below.refl _ _).alloc (Nat.le_refl _) _
      have hc0 := cells_pairX (heap_alloc_new wr (.cells #[.int .i64 xa, .int .i64 xs] 48))
      have hz1 : wr.heap.size < (wr.alloc (.cells #[.int .i64 xa, .int .i64 xs] 48)).heap.size := by simp
      have HNS : Hid (∀ q, (q = w.heap.size ∨ vo.ownBlock = some q) → w.heap.size ≤ q ∧ q < wr.heap.size) := fun q hq => by
        rcases hq with rfl | hq
        · exact ⟨Nat.le_refl _, by have := HZ.out; omega⟩
        · have := HVO.out.own.lt q hq; exact ⟨by omega, this.2⟩
      go_wp2_with (first | (go_at_call 48; refine (add_any _ _ _ (w.heap.size + 1) vo rl _ (HVO.out.below HBA.out) (by have := HZ.out; omega) hbd.1 (by omega) HGL.out).mono ?_; rintro e w3 ⟨rfl, v3, ho3, hb3⟩; have HO3 : Hid (Outs w3 w.heap.size (w.heap.size + 1) v3 (rl ++ gapB ra xa)) := ho3; have HB3 : Hid (Below w.heap.size w w3) := (HB.out.alloc HB.out.size _).trans (hb3.below (fun q hq => (HNS.out q hq).1) (by have := HZ.out; omega)); have HZ3 : Hid (w.heap.size + 1 ≤ w3.heap.size) := Nat.le_trans HZ.out (Nat.le_trans (Nat.le_of_lt hz1) hb3.size); have e1 := hb3.cell (fun hq => by have := (HNS.out _ hq).2; omega) hc0.1; have e2 := hb3.cell (fun hq => by have := (HNS.out _ hq).2; omega) hc0.2; clear ho3 hb3) | (go_at_call 31; refine (end_any _ _ _ (by omega) (by omega) (by omega)).mono ?_; rintro e w4 ⟨rfl, hb4⟩))
      go_roundw
      case rel =>
        exact ⟨k + 1, by omega, by simp, by rw [HG.out], ⟨v3, by rw [HG.out]; exact HO3.out.below hb4⟩, HB3.out.trans (hb4.mono HB3.out.size), Nat.le_trans HZ3.out hb4.size⟩
      case measure => simp [intOf]; omega
    · obtain rfl : k = N := by omega
      have HF : Hid (gapsTo (l.take k) = gapsTo l) := by unfold Hid; rw [List.take_of_length_le (by rw [HN.out]; omega)]
      have HNS : Hid (∀ q, (q = w.heap.size ∨ vo.ownBlock = some q) → w.heap.size ≤ q ∧ q < wr.heap.size) := fun q hq => by
        rcases hq with rfl | hq
        · exact ⟨Nat.le_refl _, by have := HZ.out; omega⟩
        · have := HVO.out.own.lt q hq; exact ⟨by omega, this.2⟩
      have HGG : Hid (gapsL l size = (gapsTo (l.take k)).2 ++ gapB (gapsTo (l.take k)).1 size) := by unfold Hid gapsL; rw [HF.out]
      generalize (gapsTo (l.take k)).1 = ra at *
      generalize (gapsTo (l.take k)).2 = rl at *
      go_wp2_with (go_at_call 48; refine (add_any _ _ _ (w.heap.size + 1) vo rl _ HVO.out HZ.out hbd.1 (by omega) HGL.out).mono ?_; rintro e w3 ⟨rfl, v3, ho3, hb3⟩; have c3 := ho3.cell)
      go_ret
      refine ⟨_, rfl, ?_, HB.out.trans (hb3.below (fun q hq => (HNS.out q hq).1) HB.out.size)⟩
      rw [HGG.out]
      exact ho3.own.mono (by omega)

set_option maxHeartbeats 2000000 in
theorem rest_any (v : Value) (l : List Ext) (size : Int) (w : World) (hl : Xs w v l) (hE : EWs l) (hn : l.length ≤ 8796093022208) :
    Calls Try.prog 23 #[v, .int .i64 size] w fun e w' => ∃ x, e = .returned (.tuple #[x, .int .i64 (restErr l size)]) ∧ OwnX w' w.heap.size 48 x (restList l size) ∧ Below w.heap.size w w' := by
  have HX : Hid (Xs w v l) := hl
  have HE : Hid (EWs l) := hE
  clear hl hE
  cases hs : szB size with
  | false =>
    have HR : Hid (restErr l size = 2 ∧ restList l size = []) := by have h : restErr l size = 2 := by { unfold restErr; rw [hs]; rfl }; unfold restList; rw [h]; exact ⟨rfl, rfl⟩
    go_enter Try.func23, Try.ntmps23
    go_wp2_with (go_at_call 29; refine (isSize_any _ _).mono ?_; rintro e w' ⟨rfl, hw'⟩; obtain rfl := hw'.symm; rw [hs])
    go_ret2
    rw [HR.out.1, HR.out.2]
    exact ⟨_, rfl, OwnX.nil _ _ _, Below.refl _ _⟩
  | true =>
    have HS : Hid (szB size = true) := hs
    obtain ⟨s1, s2⟩ := szB_iff.1 hs
    clear hs
    by_cases he : normErr l = 0
    · have HNE : Hid (normErr l = 0) := he
      have HNL : Hid (normList l = normL l) := by unfold Hid normList; rw [he]; rfl
      have he' : (normErr l != 0) = false := by simp [he]
      have HLN : Hid (l.length ≤ 65536) := by
        unfold Hid; have h := he; unfold normErr at h
        split at h
        · omega
        · omega
      have HML : Hid ((normL l).length ≤ 65536) := by
        have h1 := joinL_length (sortE l)
        have h2 := (sortE_perm l).length_eq
        have h3 := List.length_filter_le fitB l
        have h4 := HLN.out
        unfold Hid normL; omega
      have HNF : Hid (∀ x ∈ normL l, 0 ≤ x.1 ∧ 0 ≤ x.2 ∧ x.1 + x.2 ≤ 4194304) := fun x hx => by
        have := fitB_iff.1 (joinL_fit (fit_perm (sortE_perm l)) (sortE_ord l) x hx)
        exact ⟨by omega, by omega, by omega⟩
      have HNEW : Hid (EWs (normL l)) := fun x hx => by have := HNF.out x hx; unfold EW; omega
      clear he
      cases hg : goodB (normL l) size with
      | false =>
        have HR : Hid (restErr l size = 2 ∧ restList l size = []) := by have h : restErr l size = 2 := by { unfold restErr; rw [HS.out, HNE.out, hg]; rfl }; unfold restList; rw [h]; exact ⟨rfl, rfl⟩
        go_enter Try.func23, Try.ntmps23
        go_wp2_with (first | (go_at_call 29; refine (isSize_any _ _).mono ?_; rintro e w' ⟨rfl, hw'⟩; obtain rfl := hw'.symm; rw [HS.out]) | (go_at_call 19; refine (normal_any _ l _ HX.out HE.out hn).mono ?_; rintro e w2 ⟨ao2, cap2, rfl, ho2, hb2⟩; rw [HNL.out, HNE.out] at *; have HO2 : Hid (OwnX w2 w.heap.size 48 (.slice ao2 (normL l).length cap2) (normL l)) := ho2; have HB2 : Hid (Below w.heap.size w w2) := hb2; clear ho2 hb2) | (go_at_call 11; refine (good_any _ (normL l) _ _ HO2.out.xs HNEW.out (by have := HML.out; omega)).mono ?_; rintro e w3 ⟨rfl, hb3⟩; rw [hg]))
        go_ret2
        rw [HR.out.1, HR.out.2]
        exact ⟨_, rfl, OwnX.nil _ _ _, HB2.out.trans (hb3.mono HB2.out.size)⟩
      | true =>
        have HG : Hid (goodB (normL l) size = true) := hg
        clear hg
        by_cases hbig : 65536 < (gapsL (normL l) size).length
        · have HR : Hid (restErr l size = 3 ∧ restList l size = []) := by have h : restErr l size = 3 := by { unfold restErr; rw [HS.out, HNE.out, HG.out, if_pos hbig]; rfl }; unfold restList; rw [h]; exact ⟨rfl, rfl⟩
          have HGL : Hid ((gapsL (normL l) size).length ≤ 65537) := by
            have h1 := gapsTo_length (normL l)
            have h2 := gapB_length (gapsTo (normL l)).1 size
            have h3 := HML.out
            unfold Hid gapsL; rw [List.length_append]; omega
          obtain ⟨Z, HZ⟩ : ∃ Z, Hid ((gapsL (normL l) size).length = Z) := ⟨_, rfl⟩
          rw [HZ.out] at hbig HGL
          have hZ := HGL.out
          go_enter Try.func23, Try.ntmps23
          go_wp2_with (first | (go_at_call 29; refine (isSize_any _ _).mono ?_; rintro e w' ⟨rfl, hw'⟩; obtain rfl := hw'.symm; rw [HS.out]) | (go_at_call 19; refine (normal_any _ l _ HX.out HE.out hn).mono ?_; rintro e w2 ⟨ao2, cap2, rfl, ho2, hb2⟩; rw [HNL.out, HNE.out] at *; have HO2 : Hid (OwnX w2 w.heap.size 48 (.slice ao2 (normL l).length cap2) (normL l)) := ho2; have HB2 : Hid (Below w.heap.size w w2) := hb2; clear ho2 hb2) | (go_at_call 11; refine (good_any _ (normL l) _ _ HO2.out.xs HNEW.out (by have := HML.out; omega)).mono ?_; rintro e w3 ⟨rfl, hb3⟩; rw [HG.out]; have HB3 : Hid (Below w2.heap.size w2 w3) := hb3; clear hb3) | (go_at_call 40; refine (gaps_any _ (normL l) _ _ (HO2.out.xs.below HB3.out) HNF.out ⟨s1, s2⟩ HML.out).mono ?_; rintro e w4 ⟨x4, rfl, ho4, hb4⟩; have HO4 : Hid (OwnX w4 w3.heap.size 48 x4 (gapsL (normL l) size)) := ho4; have HB4 : Hid (Below w3.heap.size w3 w4) := hb4; obtain ⟨ao4, cap4, hv4, _⟩ := ho4.shape; rw [HZ.out] at hv4; subst hv4; clear ho4 hb4))
          go_ret2
          have h23 := HB2.out.trans (HB3.out.mono HB2.out.size)
          rw [HR.out.1, HR.out.2]
          exact ⟨_, rfl, OwnX.nil _ _ _, h23.trans (HB4.out.mono h23.size)⟩
        · have HR : Hid (restErr l size = 0 ∧ restList l size = gapsL (normL l) size) := by have h : restErr l size = 0 := by { unfold restErr; rw [HS.out, HNE.out, HG.out, if_neg hbig]; rfl }; unfold restList; rw [h]; exact ⟨rfl, rfl⟩
          have HGL : Hid ((gapsL (normL l) size).length ≤ 65537) := by
            have h1 := gapsTo_length (normL l)
            have h2 := gapB_length (gapsTo (normL l)).1 size
            have h3 := HML.out
            unfold Hid gapsL; rw [List.length_append]; omega
          obtain ⟨Z, HZ⟩ : ∃ Z, Hid ((gapsL (normL l) size).length = Z) := ⟨_, rfl⟩
          rw [HZ.out] at hbig HGL
          have hZ := HGL.out
          go_enter Try.func23, Try.ntmps23
          go_wp2_with (first | (go_at_call 29; refine (isSize_any _ _).mono ?_; rintro e w' ⟨rfl, hw'⟩; obtain rfl := hw'.symm; rw [HS.out]) | (go_at_call 19; refine (normal_any _ l _ HX.out HE.out hn).mono ?_; rintro e w2 ⟨ao2, cap2, rfl, ho2, hb2⟩; rw [HNL.out, HNE.out] at *; have HO2 : Hid (OwnX w2 w.heap.size 48 (.slice ao2 (normL l).length cap2) (normL l)) := ho2; have HB2 : Hid (Below w.heap.size w w2) := hb2; clear ho2 hb2) | (go_at_call 11; refine (good_any _ (normL l) _ _ HO2.out.xs HNEW.out (by have := HML.out; omega)).mono ?_; rintro e w3 ⟨rfl, hb3⟩; rw [HG.out]; have HB3 : Hid (Below w2.heap.size w2 w3) := hb3; clear hb3) | (go_at_call 40; refine (gaps_any _ (normL l) _ _ (HO2.out.xs.below HB3.out) HNF.out ⟨s1, s2⟩ HML.out).mono ?_; rintro e w4 ⟨x4, rfl, ho4, hb4⟩; have HO4 : Hid (OwnX w4 w3.heap.size 48 x4 (gapsL (normL l) size)) := ho4; have HB4 : Hid (Below w3.heap.size w3 w4) := hb4; obtain ⟨ao4, cap4, hv4, _⟩ := ho4.shape; rw [HZ.out] at hv4; subst hv4; clear ho4 hb4))
          go_ret2
          have h23 := HB2.out.trans (HB3.out.mono HB2.out.size)
          rw [HR.out.1, HR.out.2]
          exact ⟨_, rfl, HO4.out.mono h23.size, h23.trans (HB4.out.mono h23.size)⟩
    · have he' : (normErr l != 0) = true := by simp [he]
      have HR : Hid (restErr l size = normErr l ∧ restList l size = [] ∧ normList l = []) := by have h : restErr l size = normErr l := by { unfold restErr; rw [HS.out, if_neg he]; rfl }; unfold restList normList; rw [h, if_neg he, if_neg he]; exact ⟨rfl, rfl, rfl⟩
      go_enter Try.func23, Try.ntmps23
      go_wp2_with (first | (go_at_call 29; refine (isSize_any _ _).mono ?_; rintro e w' ⟨rfl, hw'⟩; obtain rfl := hw'.symm; rw [HS.out]) | (go_at_call 19; refine (normal_any _ l _ HX.out HE.out hn).mono ?_; rintro e w2 ⟨ao2, cap2, rfl, ho2, hb2⟩))
      go_ret2
      rw [HR.out.1, HR.out.2.1]
      exact ⟨_, rfl, OwnX.nil _ _ _, hb2⟩
end Go.Proofs.Ytbpaiioonljlpab
