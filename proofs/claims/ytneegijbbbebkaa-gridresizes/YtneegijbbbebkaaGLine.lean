/-
  What copyBox does with one row. Conditions: both rows lie inside.
-/
import Derived.Test.YtneegijbbbebkaaGRep
import Derived.Deep.RegionHeldLaw
namespace Go.Proofs.Ytneegijbbbebkaa
open Go.RowKit Go.Shelf
set_option linter.unusedVariables false
set_option maxRecDepth 100000

set_option maxHeartbeats 16000000 in
theorem line_any (Dt St Df Sf t s x : List Int) (vdt vst vdf vsf : Value) (ta : Option Addr) (tn tc : Nat) (bz bt bf g cap b0 o0 xc n z r sl xl : Nat) (A B : Nat) (w : World)
    (hz : w.cell? ⟨bz, 0, none⟩ = some (.int .i64 (z : Int)))
    (t0 : w.cell? ⟨bt, 0, none⟩ = some (.slice (some ⟨g, 0, none⟩) sl cap)) (t1 : w.cell? ⟨bt, 1, none⟩ = some vdt) (t2 : w.cell? ⟨bt, 2, none⟩ = some vst)
    (f0 : w.cell? ⟨bf, 0, none⟩ = some (.slice (some ⟨b0, o0, none⟩) xl xc)) (f1 : w.cell? ⟨bf, 1, none⟩ = some vdf) (f2 : w.cell? ⟨bf, 2, none⟩ = some vsf)
    (hDt : Is w vdt Dt) (hSt : Is w vst St) (hDf : Is w vdf Df) (hSf : Is w vsf Sf) (hT : Is w (.slice ta tn tc) t)
    (l1 : Dt.length = r) (l2 : St.length = r) (l3 : Df.length = r) (l4 : Sf.length = r) (l5 : t.length = r) (p1 : ∀ y ∈ t, 0 ≤ y) (p2 : ∀ y ∈ St, 0 ≤ y) (p3 : ∀ y ∈ Sf, 0 ≤ y)
    (i1 : Ins2 Dt (addL St t)) (i2 : Ins2 Df (addL Sf t)) (q1 : prd Dt ≤ 1048576) (q2 : prd Df ≤ 1048576)
    (hA : plc Dt (addL St t) = (A : Int)) (hB : plc Df (addL Sf t) = (B : Int)) (hs : s.length = sl) (hx : x.length = xl) (hsl : sl ≤ 65536) (hxl : xl ≤ 65536) (hcap : sl ≤ cap) (hxc : xl ≤ xc)
    (hD : Dst w g s) (hX : Bs w (.slice (some ⟨b0, o0, none⟩) xl xc) x) (hn : 1 ≤ n) (hz1 : 1 ≤ z) (hz2 : z ≤ 256) (hfA : (A + n) * z ≤ sl) (hfB : (B + n) * z ≤ xl) :
    Calls Try.prog 54 #[.slice ta tn tc, .int .i64 (n : Int), .pointer (some ⟨bz, 0, none⟩), .pointer (some ⟨bt, 0, none⟩), .pointer (some ⟨bf, 0, none⟩)] w fun e w' => e = .returned (.tuple #[]) ∧ Dst w' g (cpy s ((x.drop (B * z)).take (n * z)) (A * z)) ∧ Kp (fun y => y = g) w w' := by
  obtain ⟨d1, m1, c1, rfl, e1, k1, _⟩ := hDt.open
  obtain ⟨d2, m2, c2, rfl, e2, k2, _⟩ := hSt.open
  obtain ⟨d3, m3, c3, rfl, e3, k3, _⟩ := hDf.open
  obtain ⟨d4, m4, c4, rfl, e4, k4, _⟩ := hSf.open
  obtain ⟨T, hTT⟩ : ∃ T, A * z = T := ⟨_, rfl⟩
  obtain ⟨U, hUU⟩ : ∃ U, B * z = U := ⟨_, rfl⟩
  obtain ⟨m, hmm⟩ : ∃ m, n * z = m := ⟨_, rfl⟩
  have hm1 : 1 ≤ m := by rw [← hmm]; exact Nat.le_trans hn (Nat.le_mul_of_pos_right n (by omega))
  have hTm : T + m ≤ sl := by rw [← hTT, ← hmm, ← Nat.add_mul]; exact hfA
  have hUm : U + m ≤ xl := by rw [← hUU, ← hmm, ← Nat.add_mul]; exact hfB
  have hwn : IntKind.i64.wrap ((n : Int) * (z : Int)) = (m : Int) := by rw [← Int.natCast_mul, hmm]; exact wrap_i64_in _ (by omega) (by omega)
  have hwT : IntKind.i64.wrap ((A : Int) * (z : Int)) = (T : Int) := by rw [← Int.natCast_mul, hTT]; exact wrap_i64_in _ (by omega) (by omega)
  have hwU : IntKind.i64.wrap ((B : Int) * (z : Int)) = (U : Int) := by rw [← Int.natCast_mul, hUU]; exact wrap_i64_in _ (by omega) (by omega)
  have HP1 : Hid (∀ w1, Below w.heap.size w w1 → Calls Try.prog 55 #[.agg #[.slice (some ⟨g, 0, none⟩) sl cap, .slice d1 m1 c1, .slice d2 m2 c2], .slice ta tn tc] w1 fun e w' => e = .returned (.int .i64 (A : Int)) ∧ Below w1.heap.size w1 w') := fun w1 h1 => by
    have := gplace_any Dt St t (some ⟨g, 0, none⟩) sl cap _ _ _ r w1 (hDt.below h1) (hSt.below h1) (hT.below h1) l1 l2 l5 p1 p2 i1 q1
    rwa [hA] at this
  have HP2 : Hid (∀ w1, Below w.heap.size w w1 → Calls Try.prog 55 #[.agg #[.slice (some ⟨b0, o0, none⟩) xl xc, .slice d3 m3 c3, .slice d4 m4 c4], .slice ta tn tc] w1 fun e w' => e = .returned (.int .i64 (B : Int)) ∧ Below w1.heap.size w1 w') := fun w1 h1 => by
    have := gplace_any Df Sf t (some ⟨b0, o0, none⟩) xl xc _ _ _ r w1 (hDf.below h1) (hSf.below h1) (hT.below h1) l3 l4 l5 p1 p3 i2 q2
    rwa [hB] at this
  have HCL : Hid (∀ w1, Below w.heap.size w w1 → w1.cell? ⟨bz, 0, none⟩ = some (.int .i64 (z : Int)) ∧ w1.cell? ⟨bt, 0, none⟩ = some (.slice (some ⟨g, 0, none⟩) sl cap) ∧ w1.cell? ⟨bt, 1, none⟩ = some (.slice d1 m1 c1) ∧ w1.cell? ⟨bt, 2, none⟩ = some (.slice d2 m2 c2) ∧ w1.cell? ⟨bf, 0, none⟩ = some (.slice (some ⟨b0, o0, none⟩) xl xc) ∧ w1.cell? ⟨bf, 1, none⟩ = some (.slice d3 m3 c3) ∧ w1.cell? ⟨bf, 2, none⟩ = some (.slice d4 m4 c4)) := fun w1 h1 =>
    ⟨(h1.cell (World.block_lt_of_cell? w _ hz)).trans hz, (h1.cell (World.block_lt_of_cell? w _ t0)).trans t0, (h1.cell (World.block_lt_of_cell? w _ t1)).trans t1, (h1.cell (World.block_lt_of_cell? w _ t2)).trans t2, (h1.cell (World.block_lt_of_cell? w _ f0)).trans f0, (h1.cell (World.block_lt_of_cell? w _ f1)).trans f1, (h1.cell (World.block_lt_of_cell? w _ f2)).trans f2⟩
  have HCP : Hid (∀ w1, Below w.heap.size w w1 → ∃ w', (∀ ty, (Builtin.copy_ #[37, 37] ty #[.slice (some ⟨g, T, none⟩) m (cap - T), .slice (some ⟨b0, o0 + U, none⟩) m (xc - U)]).run Try.prog w1 = .ok (.int .i64 (m : Int)) w') ∧ Dst w' g (cpy s ((x.drop U).take m) T) ∧ Kp (fun y => y = g) w w') := fun w1 h1 => by
    obtain ⟨cs, u1, u2⟩ := hD.below h1
    have hxl2 : ((x.drop U).take m).length = m := by simp; omega
    obtain ⟨w', v1, ⟨cs', v2, v3, v4⟩, v5, v6⟩ := run_copy_in (w := w1) (g := g) (cs := cs) (s := s) (x := (x.drop U).take m) (a := T) (dLen := m) (dCap := cap - T) (sLen := m) (sCap := xc - U) (ad := ⟨b0, o0 + U, none⟩) u1 u2 (by rw [hxl2, hs]; exact hTm) (by rw [hxl2]; exact (Nat.min_self m).symm) (fun j hj => by
      rw [hxl2] at hj
      have h9 := hX.below h1
      obtain ⟨ao, cp, e9, _, _, h8⟩ := h9
      injection e9 with e9 e9' e9''
      subst e9
      have h7 := h8 _ rfl (U + j) (by omega)
      rw [addr_add] at h7 ⊢
      rw [Nat.add_assoc, h7]
      congr 2
      simp [List.getD, List.getElem?_drop, hj]) 0 w1 (Below.mono (Below.refl w1.heap.size w1) (Nat.zero_le _)) (Nat.zero_le _)
    rw [hxl2] at v1
    refine ⟨w', v1, ⟨cs', v2, ?_⟩, (Kp.of h1).trans v6 (fun x _ e => e)⟩
    rw [cpy_len (by rw [hxl2, hs]; exact hTm)]
    exact v4
  have hT0 : (0 : Int) ≤ (T : Int) := by omega
  have hU0 : (0 : Int) ≤ (U : Int) := by omega
  have hTb : (T : Int) + (m : Int) ≤ (cap : Int) := by omega
  have hUb : (U : Int) + (m : Int) ≤ (xc : Int) := by omega
  have hTw : IntKind.i64.wrap ((T : Int) + (m : Int)) = (T : Int) + (m : Int) := wrap_i64_in _ (by omega) (by omega)
  have hUw : IntKind.i64.wrap ((U : Int) + (m : Int)) = (U : Int) + (m : Int) := wrap_i64_in _ (by omega) (by omega)
  have hTl : (T : Int) ≤ (T : Int) + (m : Int) := by omega
  have hUl : (U : Int) ≤ (U : Int) + (m : Int) := by omega
  have hTn : ¬ cap = T := by omega
  have hUn : ¬ xc = U := by omega
  have hTt : ((T : Int) + (m : Int)).toNat - T = m := by omega
  have hUt : ((U : Int) + (m : Int)).toNat - U = m := by omega
  rw [hTT, hUU, hmm]
  clear hDt hSt hDf hSf hT l1 l2 l3 l4 l5 p1 p2 p3 i1 i2 q1 q2 hA hB hs hx hD hX hfA hfB e1 e2 e3 e4 hTT hUU hmm
  go_enter Try.func54, Try.ntmps54
  go_wp2_with fail
  go_region_held_law (fun w1 => w1.cell? ⟨bz, 0, none⟩ = some (.int .i64 (z : Int)) ∧ w1.cell? ⟨bt, 0, none⟩ = some (.slice (some ⟨g, 0, none⟩) sl cap) ∧ w1.cell? ⟨bt, 1, none⟩ = some (.slice d1 m1 c1) ∧ w1.cell? ⟨bt, 2, none⟩ = some (.slice d2 m2 c2) ∧ w1.cell? ⟨bf, 0, none⟩ = some (.slice (some ⟨b0, o0, none⟩) xl xc) ∧ w1.cell? ⟨bf, 1, none⟩ = some (.slice d3 m3 c3) ∧ w1.cell? ⟨bf, 2, none⟩ = some (.slice d4 m4 c4)) (first | exact HCL.out _ HB2.out | exact HCL.out _ HB1.out | exact HCL.out _ (Below.refl _ w).drew)
    (first
      | (have hg := HB1; clear hg; go_at_call 55; refine Calls.mono (HP2.out _ HB1.out) ?_; rintro e w2 ⟨rfl, hb2⟩; have HB2 : Hid (Below w.heap.size w w2) := HB1.out.trans (hb2.mono HB1.out.size); clear hb2)
      | (go_at_call 55; refine Calls.mono (HP1.out _ (Below.refl _ w).drew) ?_; rintro e w1 ⟨rfl, hb1⟩; have HB1 : Hid (Below w.heap.size w w1) := (Below.refl _ w).drew.trans (hb1.mono (Nat.le_refl _)); clear hb1))
  obtain ⟨w3, hr3, hd3, hk3⟩ := HCP.out w2.drew HB2.out.drew
  have hr3' := hr3 3
  have HD3 : Hid (Dst w3 g (cpy s ((x.drop U).take m) T)) := hd3
  have HK3 : Hid (Kp (fun y => y = g) w w3) := hk3
  obtain ⟨_, y0, _, _, y1, _, _⟩ := HCL.out w2 HB2.out
  clear hr3 hd3 hk3 HCP HP1 HP2
  go_wp2_with fail
  go_region_with (fail)
  all_goals
    go_wp2_with fail
    go_end0
    exact ⟨rfl, HD3.out, HK3.out⟩
end Go.Proofs.Ytneegijbbbebkaa
