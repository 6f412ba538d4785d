/-
  The walks of both Copies: another file alike, in memory of its own; only the bytes of raw writes, which nobody changes, are shared. Conditions: those of lengths.
-/
import Derived.Test.YtkiccnedmejnaaaDoorRefWrite
namespace Go.Proofs.YtkiccnedmejnaaaDoor
open Go.RowKit
set_option linter.unusedVariables false
set_option maxRecDepth 100000

theorem rows_one {w : World} {B p : Nat} {te : TypeId} {vb vr : Value} {bs : List Int} {rv : List RawV} (h : Hold w B p te vb vr bs rv) : ∀ u ∈ rcells rv, u.oneCell' = true := rcells_one rv (fun r hr => bs_one (h.inn r hr))

theorem ownRaw_any {w : World} {B p : Nat} {vb vr : Value} {bs : List Int} {rv : List RawV} (h : Hold w B p 91 vb vr bs rv) (hn : rv.length ≤ 1000000000000) :
    Calls Tryd.prog 51 #[vr] w fun e w' => ∃ ao cap, e = .returned (.slice ao rv.length cap) ∧ w'.ownsRow w.heap.size 91 2 (.slice ao rv.length cap) rv.length (rcells rv) ∧ Below w.heap.size w w' := by
  obtain ⟨i1, hi, hz0, hz1, hz2⟩ := info_parts Tryd.infoRaw
  have HO1 := rows_one h
  have HR : Hid (Rs w vr rv) := rs_of_owns h.raws
  have hrs := HR.out
  obtain ⟨ao, cap, rfl, hcap, hnil, hcell⟩ := hrs
  have HCL : Hid (∀ ad, ao = some ad → ∀ j u, (rcells rv)[j]? = some u → w.cell? (ad.add j) = some u) := hcell
  have HNL : Hid (ao = none → cap = 0) := hnil
  obtain ⟨N, HN⟩ : ∃ N, Hid (rv.length = N) := ⟨_, rfl⟩
  rw [HN.out] at hn hcap ⊢
  clear h HR hcell hnil
  cases ao with
  | none =>
    have hc0 : cap = 0 := HNL.out rfl
    have hN0 : N = 0 := by omega
    subst hc0
    subst hN0
    have hrv : rv = [] := List.eq_nil_of_length_eq_zero HN.out
    subst hrv
    go_enter Tryd.func51, Tryd.ntmps51
    go_wp2_with (first | (at_make; refine wpList_make_own _ rfl _ _ 58 rfl w.heap.size 91 i1 _ 2 Tryd.underlying58 hi hz0 hz1 _ _ _ 0 rfl rfl rfl (by rw [hz2]; omega) (by unfold maxLen; omega) (Nat.le_refl _) ?_; intro w1 ho1 hg1; have HO : Hid (w1.ownsRow w.heap.size 91 2 (.slice (some ⟨w.heap.size, 0, none⟩) 0 0) 0 []) := ho1; have HB1 : Hid (Below w.heap.size w w1) := below_of_grown hg1; clear ho1 hg1) | (at_builtin; refine wpList_append_own_none rfl (.tmp 5) (.tmp 6) 58 rfl w.heap.size 91 i1 2 Tryd.underlying58 hi _ _ _ rfl HO.out rfl ?_))
    go_ret
    exact ⟨_, _, rfl, HO.out, HB1.out⟩
  | some ad =>
    have hcl := HCL.out ad rfl
    have HLN : Hid ((rcells rv).length = N * 2) := by rw [Hid, rcells_length, HN.out]
    go_enter Tryd.func51, Tryd.ntmps51
    go_wp2_with (first | (at_make; refine wpList_make_own _ rfl _ _ 58 rfl w.heap.size 91 i1 _ 2 Tryd.underlying58 hi hz0 hz1 _ _ _ N rfl rfl rfl (by rw [hz2]; omega) (by unfold maxLen; omega) (Nat.le_refl _) ?_; intro w1 ho1 hg1; have HO : Hid (w1.ownsRow w.heap.size 91 2 (.slice (some ⟨w.heap.size, 0, none⟩) 0 N) 0 []) := ho1; have HB1 : Hid (Below w.heap.size w w1) := below_of_grown hg1; clear ho1 hg1) | (at_builtin; refine wpList_append_own _ rfl (.tmp 5) (.tmp 6) 58 rfl w.heap.size 91 i1 _ 2 32 Tryd.underlying58 hi hz0 hz1 hz2 rfl (by decide) _ 0 [] rfl HO.out ad N cap (rcells rv) rfl HLN.out (fun j u hj => (HB1.out.cell (World.block_lt_of_cell? w _ (hcl j u hj))).trans (hcl j u hj)) HO1 (by unfold maxLen; omega) (by omega) HB1.out.size ?_; intro v2 w2 ho2 hg2 _; have HO2 : Hid (w2.ownsRow w.heap.size 91 2 v2 N (rcells rv)) := (by have h9 := ho2; rw [Nat.zero_add, List.nil_append] at h9; exact h9); have HB2 : Hid (Below w.heap.size w w2) := HB1.out.grown hg2 HB1.out.size (fun k hk => (World.ownsRow.lt HO.out k hk).1); clear ho2 hg2))
    go_ret
    have hsh : ∃ ao cap, v2 = .slice ao N cap := by
      rcases HO2.out.2 with ⟨h1, h0⟩ | ⟨g, cap, cur, h1, _⟩
      · exact ⟨none, 0, by rw [h1, h0]⟩
      · exact ⟨_, cap, h1⟩
    obtain ⟨ao3, cap3, rfl⟩ := hsh
    exact ⟨ao3, cap3, rfl, HO2.out, HB2.out⟩

/-- A file of its own bytes and raw writes, made anew. -/
theorem hold_new {w w2 : World} {B p : Nat} {te : TypeId} {vb vr : Value} {bs : List Int} {rv : List RawV} (h : Hold w B p te vb vr bs rv) (hb : Below w.heap.size w w2) {p2 : Nat} {vb2 vr2 : Value} (hp : w.heap.size ≤ p2) (hp2 : p2 < w2.heap.size)
    (ho : Own w2 w.heap.size vb2 bs) (hr : w2.ownsRow w.heap.size te 2 vr2 rv.length (rcells rv)) (d1 : vb2.ownBlock ≠ some p2) (d2 : vr2.ownBlock ≠ some p2) (d3 : ∀ g, vb2.ownBlock = some g → vr2.ownBlock ≠ some g) : Hold w2 w.heap.size p2 te vb2 vr2 bs rv :=
  ⟨hp, hp2, ho, hr, d1, d2, d3, fun r hr' => (h.inn r hr').below hb, fun k hk hf => by
    have h1 := h.ilt k hk
    rcases hf with rfl | e | e
    · omega
    · have := (World.ownsRow.lt ho k e).1; omega
    · have := (World.ownsRow.lt hr k e).1; omega, fun k hk => Nat.lt_of_lt_of_le (h.ilt k hk) hb.size⟩

set_option maxHeartbeats 1000000 in
theorem copy_any {w : World} {B p : Nat} {F : Mdl} {vb vr : Value} {rv : List RawV} (h : PF w B p F vb vr rv) (hn : rv.length ≤ 1000000000000) :
    Calls Tryd.prog 27 #[.pointer (some ⟨p, 0, none⟩)] w fun e w' => ∃ p2 vb2 vr2, e = .returned (.pointer (some ⟨p2, 0, none⟩)) ∧ PF w' w.heap.size p2 F vb2 vr2 rv ∧ Below w.heap.size w w' := by
  have HP : Hid (PF w B p F vb vr rv) := h
  have c0 : w.cell? ⟨p, 0, none⟩ = some (.bool true) := h.cell 0
  have c1 : w.cell? ⟨p, 1, none⟩ = some (.bool F.off) := h.cell 1
  have c2 : w.cell? ⟨p, 2, none⟩ = some (.int .i64 F.most) := h.cell 2
  have c3 : w.cell? ⟨p, 3, none⟩ = some vb := h.cell 3
  have c4 : w.cell? ⟨p, 4, none⟩ = some vr := h.cell 4
  have c5 : w.cell? ⟨p, 5, none⟩ = some (.bool F.pl) := h.cell 5
  have c6 : w.cell? ⟨p, 6, none⟩ = some (.int .i64 F.left) := h.cell 6
  have hpl := h.hold.plt
  obtain ⟨ab, cb, ar, cr, rfl, hcb, rfl⟩ := h.shape
  clear h
  go_enter Tryd.func27, Tryd.ntmps27
  go_wp2_with (go_at_call 41; refine (isNone_at _ true _ c0).mono ?_; rintro e w' ⟨rfl, hw'⟩; obtain rfl := hw'.symm)
  obtain ⟨W1, HW1⟩ : ∃ W1, Hid (W1 = w.alloc (.cells #[.bool true, .bool F.off, .int .i64 F.most, .slice ab F.bs.length cb, .slice ar rv.length cr, .bool F.pl, .int .i64 F.left] 81)) := ⟨_, rfl⟩
  rw [← HW1.out]
  have HB1 : Hid (Below w.heap.size w W1) := by rw [Hid, HW1.out]; exact (Below.refl _ w).alloc (Nat.le_refl _) _
  have HC1 : Hid (W1.heap[w.heap.size]? = some (.cells (pcs F (.slice ab F.bs.length cb) (.slice ar rv.length cr)) 81 (0, 0))) := by rw [Hid, HW1.out]; exact heap_alloc_new w _
  have HS1 : Hid (W1.heap.size = w.heap.size + 1) := by rw [Hid, HW1.out]; exact World.size_alloc _ _
  have hl : F.bs.length ≤ 140737488355328 := by obtain ⟨f1, f2, f3, f4, f5⟩ := HP.out.fit; omega
  refine (own_any _ F.bs W1 (HP.out.below HB1.out).hold.own.bs hl).mono ?_
  rintro e w2 ⟨ao2, cap2, rfl, ho2, hb2, _⟩
  have HO2 : Hid (Own w2 W1.heap.size (.slice ao2 F.bs.length cap2) F.bs) := ho2
  have HB2 : Hid (Below W1.heap.size W1 w2) := hb2
  have HBW2 : Hid (Below w.heap.size w w2) := HB1.out.trans (hb2.mono (by have := HS1.out; omega))
  have HC2 : Hid (w2.heap[w.heap.size]? = some (.cells (pcs F (.slice ab F.bs.length cb) (.slice ar rv.length cr)) 81 (0, 0))) := (hb2.block _ (by have := HS1.out; omega)).trans HC1.out
  have k3 : w2.cell? ⟨w.heap.size, 3, none⟩ = some (.slice ab F.bs.length cb) := by simp [World.cell?, HC2.out, pcs]
  have z3 : w2.frozen? ⟨w.heap.size, 3, none⟩ = false := by simp [World.frozen?, HC2.out]
  have e4 : (w2.setCell ⟨w.heap.size, 3, none⟩ (.slice ao2 F.bs.length cap2)).cell? ⟨p, 4, none⟩ = some (.slice ar rv.length cr) := (World.cell?_of_block (a := ⟨p, 4, none⟩) (Below.heap_setCell _ _ _ _ (by show p ≠ w.heap.size; omega))).trans (cell_later HBW2.out c4)
  obtain ⟨W3, HW3⟩ : ∃ W3, Hid (W3 = w2.setCell ⟨w.heap.size, 3, none⟩ (.slice ao2 F.bs.length cap2)) := ⟨_, rfl⟩
  clear ho2 hb2
  go_wp2_with fail
  rw [← HW3.out]
  have hc3 : Chg (fun k => k = w.heap.size) w2 W3 := by rw [HW3.out]; exact Chg.cell _ _ _ _
  have HH3 : Hid (Hold W3 B p 91 (.slice ab F.bs.length cb) (.slice ar rv.length cr) F.bs rv) := (HP.out.hold.chg (Chg.of_below (S := fun _ => False) HBW2.out) (fun _ _ => id) (fun _ _ => id)).chg hc3 (fun k hk e => by have e' : k = w.heap.size := e; have := (HP.out.hold.foot k hk).2; omega) (fun k hk e => by have e' : k = w.heap.size := e; have := HP.out.hold.ilt k hk; omega)
  have HO3 : Hid (Own W3 W1.heap.size (.slice ao2 F.bs.length cap2) F.bs) := owns_chg HO2.out hc3 (fun g hg e => by have e' : g = w.heap.size := e; have := (World.ownsRow.lt HO2.out g hg).1; have := HS1.out; omega)
  have HC3 : Hid (W3.heap[w.heap.size]? = some (.cells (pcs F (.slice ao2 F.bs.length cap2) (.slice ar rv.length cr)) 81 (0, 0))) := by
    rw [Hid, HW3.out, heap_setCell_same w2 w.heap.size 3 _ _ _ HC2.out]
    simp [pcs]
  have HB3 : Hid (Below w.heap.size w W3) := by rw [Hid, HW3.out]; exact HBW2.out.setCell (p := ⟨w.heap.size, 3, none⟩) (Nat.le_refl _) _
  have HS3 : Hid (W1.heap.size ≤ W3.heap.size) := Nat.le_trans HB2.out.size hc3.size
  clear hc3 k3 z3 e4
  refine (ownRaw_any HH3.out hn).mono ?_
  rintro e w4 ⟨ao4, cap4, rfl, ho4, hb4⟩
  have HC4 : Hid (w4.heap[w.heap.size]? = some (.cells (pcs F (.slice ao2 F.bs.length cap2) (.slice ar rv.length cr)) 81 (0, 0))) := (hb4.block _ (by have := HS1.out; have := HS3.out; omega)).trans HC3.out
  have k4 : w4.cell? ⟨w.heap.size, 4, none⟩ = some (.slice ar rv.length cr) := by simp [World.cell?, HC4.out, pcs]
  have z4 : w4.frozen? ⟨w.heap.size, 4, none⟩ = false := by simp [World.frozen?, HC4.out]
  have HO4 : Hid (w4.ownsRow W3.heap.size 91 2 (.slice ao4 rv.length cap4) rv.length (rcells rv)) := ho4
  have HB4 : Hid (Below W3.heap.size W3 w4) := hb4
  have HBW4 : Hid (Below w.heap.size w w4) := HB3.out.trans (hb4.mono HB3.out.size)
  clear ho4 hb4
  go_wp2
  go_ret
  have hc5 : Chg (fun k => k = w.heap.size) w4 (w4.setCell ⟨w.heap.size, 4, none⟩ (.slice ao4 rv.length cap4)) := Chg.cell _ _ _ _
  have hb5 : Below w.heap.size w (w4.setCell ⟨w.heap.size, 4, none⟩ (.slice ao4 rv.length cap4)) := HBW4.out.setCell (p := ⟨w.heap.size, 4, none⟩) (Nat.le_refl _) _
  have hs1 := HS1.out
  have hs3 := HS3.out
  have hob : ∀ g, (Value.slice ao2 F.bs.length cap2).ownBlock = some g → w.heap.size < g ∧ g < W3.heap.size := fun g hg => by have := World.ownsRow.lt HO3.out g hg; omega
  have hrb : ∀ g, (Value.slice ao4 rv.length cap4).ownBlock = some g → W3.heap.size ≤ g := fun g hg => (World.ownsRow.lt HO4.out g hg).1
  have ho5 : Own (w4.setCell ⟨w.heap.size, 4, none⟩ (.slice ao4 rv.length cap4)) w.heap.size (.slice ao2 F.bs.length cap2) F.bs :=
    Own.mono (show Own _ W1.heap.size _ _ from owns_chg (S := fun k => k = w.heap.size) (HO3.out.below HB4.out) hc5 (fun g hg e => by have e' : g = w.heap.size := e; have := hob g hg; omega)) (by omega)
  have hr5 : (w4.setCell ⟨w.heap.size, 4, none⟩ (.slice ao4 rv.length cap4)).ownsRow w.heap.size 91 2 (.slice ao4 rv.length cap4) rv.length (rcells rv) := by
    have h9 := owns_chg HO4.out hc5 (fun g hg e => by have e' : g = w.heap.size := e; have := hrb g hg; omega)
    obtain ⟨q1, q2 | ⟨g, cap, cur, q3, q4, q5⟩⟩ := h9
    · exact ⟨q1, .inl q2⟩
    · exact ⟨q1, .inr ⟨g, cap, cur, q3, by omega, q5⟩⟩
  refine ⟨w.heap.size, .slice ao2 F.bs.length cap2, .slice ao4 rv.length cap4, rfl, ⟨?_, hold_new HP.out.hold hb5 (Nat.le_refl _) ?_ ho5 hr5 ?_ ?_ ?_, HP.out.rs, HP.out.fit⟩, hb5⟩
  · rw [heap_setCell_same w4 w.heap.size 4 _ _ _ HC4.out]
    simp [pcs]
  · have := hc5.size; have := HB4.out.size; omega
  · intro e; have := hob _ e; omega
  · intro e; have := hrb _ e; omega
  · intro g hg e; have := hob g hg; have := hrb g e; omega
end Go.Proofs.YtkiccnedmejnaaaDoor
