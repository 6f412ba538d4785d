/-
  What any selection of any extent selects: the number, the iterator, the error. No conditions.
-/
import Derived.Test.YtnikbcljonbpcaaSOfD
namespace Go.Proofs.Ytnikbcljonbpcaa
open Go.RowKit Go.Shelf
set_option linter.unusedVariables false
set_option maxRecDepth 100000

def axA (D : List Int) (s : Sel) : List Ax := if s.kind = 1 then wholeA D else slabA s.st s.sd s.ct s.bl
def slN (D : List Int) (s : Sel) : Int := if s.kind = 2 then (s.pts.length : Int) else prd (cnts (axA D s))
def ItS (w : World) (it : Value) (D : List Int) (s : Sel) : Prop := if s.kind = 2 then ItPt w it s.pts else ItAx w it (axA D s)
theorem ItS.below {w w' : World} {it : Value} {D : List Int} {s : Sel} (h : ItS w it D s) (hb : Below w.heap.size w w') : ItS w' it D s := by
  unfold ItS at *
  split
  · rename_i h1; rw [if_pos h1] at h; exact h.below hb
  · rename_i h1; rw [if_neg h1] at h; exact h.below hb
/-- What selected tells. -/
def SlP (w : World) (D : List Int) (s : Sel) (e : Ending) (w' : World) : Prop :=
  Below w.heap.size w w' ∧ if slE D s = 0 then ∃ it, e = .returned (.tuple #[.int .i64 (slN D s), it, .int .i64 0]) ∧ ItS w' it D s else e = .returned (.tuple #[.int .i64 0, .nilFunc, .int .i64 (slE D s)])
theorem elE_ok {D : List Int} (h : elE D = 0) : dimsB D = true ∧ prd D ≤ 1048576 := by
  unfold elE at h
  by_cases h1 : dimsB D = true
  · rw [if_pos h1] at h
    by_cases h2 : prd D ≤ 1048576
    · exact ⟨h1, h2⟩
    · rw [if_neg h2] at h; omega
  · rw [if_neg h1] at h; omega
theorem selV_open {w : World} {V : SV} {s : Sel} (h : Ss w V s) : ∃ a0 n0 c0 a1 n1 c1 a2 n2 c2 a3 n3 c3 a4 n4 c4, selV s.kind V = .agg #[.int .i64 s.kind, .slice a0 n0 c0, .slice a1 n1 c1, .slice a2 n2 c2, .slice a3 n3 c3, .slice a4 n4 c4] ∧ V = ⟨.slice a0 n0 c0, .slice a1 n1 c1, .slice a2 n2 c2, .slice a3 n3 c3, .slice a4 n4 c4⟩ := by
  obtain ⟨p, va, vb, vc, vd⟩ := V
  obtain ⟨a0, n0, c0, e0, _⟩ := h.p.open
  obtain ⟨a1, n1, c1, e1, _⟩ := h.a.open
  obtain ⟨a2, n2, c2, e2, _⟩ := h.b.open
  obtain ⟨a3, n3, c3, e3, _⟩ := h.c.open
  obtain ⟨a4, n4, c4, e4, _⟩ := h.d.open
  simp only [] at e0 e1 e2 e3 e4
  subst e0 e1 e2 e3 e4
  exact ⟨a0, n0, c0, a1, n1, c1, a2, n2, c2, a3, n3, c3, a4, n4, c4, rfl, rfl⟩
theorem box_sel (w : World) (k : Int) (v0 v1 v2 v3 v4 : Value) : ∃ W1, w.alloc (.cells #[.int .i64 k, v0, v1, v2, v3, v4] 33) = W1 ∧ Below w.heap.size w W1 ∧ W1.heap.size = w.heap.size + 1 ∧ W1.cell? ⟨w.heap.size, 0, none⟩ = some (.int .i64 k) ∧ W1.cell? ⟨w.heap.size, 1, none⟩ = some v0 ∧ W1.cell? ⟨w.heap.size, 2, none⟩ = some v1 ∧ W1.cell? ⟨w.heap.size, 3, none⟩ = some v2 ∧ W1.cell? ⟨w.heap.size, 4, none⟩ = some v3 ∧ W1.cell? ⟨w.heap.size, 5, none⟩ = some v4 := by
  have h := heap_alloc_new w (.cells #[.int .i64 k, v0, v1, v2, v3, v4] 33)
  exact ⟨_, rfl, (Below.refl _ _).alloc (Nat.le_refl _) _, World.size_alloc _ _, cell_of_row _ _ 0 _ _ _ h, cell_of_row _ _ 1 _ _ _ h, cell_of_row _ _ 2 _ _ _ h, cell_of_row _ _ 3 _ _ _ h, cell_of_row _ _ 4 _ _ _ h, cell_of_row _ _ 5 _ _ _ h⟩
/-- The answers in one form. -/
def An (er : Int) (k : Int) (it : Value) (K : Int) (R : Value → Prop) : Prop := (er ≠ 0 → k = 0 ∧ it = .nilFunc) ∧ (er = 0 → k = K ∧ R it)
theorem AxP.un {w : World} {D : List Int} {A : List Ax} {e : Ending} {w' : World} (h : AxP w D A e w') : ∃ k it, e = .returned (.tuple #[.int .i64 k, it, .int .i64 (axE D A)]) ∧ Below w.heap.size w w' ∧ An (axE D A) k it (prd (cnts A)) (fun it => ItAx w' it A) := by
  obtain ⟨h1, h2⟩ := h
  by_cases hz : axE D A = 0
  · rw [if_pos hz] at h2
    obtain ⟨it, rfl, h3⟩ := h2
    exact ⟨_, it, by rw [hz], h1, fun h => absurd hz h, fun _ => ⟨rfl, h3⟩⟩
  · rw [if_neg hz] at h2
    exact ⟨_, _, h2, h1, fun _ => ⟨rfl, rfl⟩, fun h => absurd h hz⟩
theorem PtP.un {w : World} {D : List Int} {P : List (List Int)} {e : Ending} {w' : World} (h : PtP w D P e w') : ∃ k it, e = .returned (.tuple #[.int .i64 k, it, .int .i64 (ptE D P)]) ∧ Below w.heap.size w w' ∧ An (ptE D P) k it (P.length : Int) (fun it => ItPt w' it P) := by
  obtain ⟨h1, h2⟩ := h
  by_cases hz : ptE D P = 0
  · rw [if_pos hz] at h2
    obtain ⟨it, rfl, h3⟩ := h2
    exact ⟨_, it, by rw [hz], h1, fun h => absurd hz h, fun _ => ⟨rfl, h3⟩⟩
  · rw [if_neg hz] at h2
    exact ⟨_, _, h2, h1, fun _ => ⟨rfl, rfl⟩, fun h => absurd h hz⟩
theorem slP_of {w : World} {D : List Int} {s : Sel} {w' : World} {k : Int} {it : Value} (hb : Below w.heap.size w w') (h : An (slE D s) k it (slN D s) (fun it => ItS w' it D s)) : SlP w D s (.returned (.tuple #[.int .i64 k, it, .int .i64 (slE D s)])) w' := by
  refine ⟨hb, ?_⟩
  by_cases hz : slE D s = 0
  · rw [if_pos hz]
    obtain ⟨rfl, h2⟩ := h.2 hz
    exact ⟨it, by rw [hz], h2⟩
  · rw [if_neg hz]
    obtain ⟨rfl, rfl⟩ := h.1 hz
    rfl
theorem SlP.un {w : World} {D : List Int} {s : Sel} {e : Ending} {w' : World} (h : SlP w D s e w') : ∃ k it, e = .returned (.tuple #[.int .i64 k, it, .int .i64 (slE D s)]) ∧ Below w.heap.size w w' ∧ An (slE D s) k it (slN D s) (fun it => ItS w' it D s) := by
  obtain ⟨h1, h2⟩ := h
  by_cases hz : slE D s = 0
  · rw [if_pos hz] at h2
    obtain ⟨it, rfl, h3⟩ := h2
    exact ⟨_, it, by rw [hz], h1, fun h => absurd hz h, fun _ => ⟨rfl, h3⟩⟩
  · rw [if_neg hz] at h2
    exact ⟨_, _, h2, h1, fun _ => ⟨rfl, rfl⟩, fun h => absurd h hz⟩
theorem SaP.un {w : World} {n : Nat} {s : Sel} {e : Ending} {w' : World} (h : SaP w n s e w') : ∃ ao m cap er, e = .returned (.tuple #[.slice ao m cap, .int .i64 er]) ∧ Below w.heap.size w w' ∧ (er = if (okB n s.st && okB n s.sd && okB n s.ct && okB n s.bl) = true then 0 else 2) ∧ (er = 0 → Axs w' (.slice ao m cap) (slabA s.st s.sd s.ct s.bl)) := by
  obtain ⟨h1, h2⟩ := h
  split at h2
  · rename_i hc
    obtain ⟨ao, m, cap, rfl, h3⟩ := h2
    exact ⟨ao, m, cap, 0, rfl, h1, by rw [if_pos hc], fun _ => h3⟩
  · rename_i hc
    exact ⟨_, _, _, 2, h2, h1, by rw [if_neg hc], fun h => by omega⟩
set_option maxHeartbeats 8000000 in
theorem selected_any (D : List Int) (s : Sel) (vd : Value) (V : SV) (w : World) (hD : Is w vd D) (hS : Ss w V s) : Calls Try.prog 26 #[vd, selV s.kind V] w (SlP w D s) := by
  have HI : Hid (Is w vd D) := hD
  have HS : Hid (Ss w V s) := hS
  obtain ⟨ao, n, cap, rfl, hn, hc, hb⟩ := hD.open
  have HN : Hid _ := hn
  obtain ⟨a0, n0, c0, a1, n1, c1, a2, n2, c2, a3, n3, c3, a4, n4, c4, e, hV⟩ := selV_open hS
  have HV : Hid _ := hV
  obtain ⟨W1, hW1, hb1, hz1, b0, b1, b2, b3, b4, b5⟩ := box_sel w s.kind (.slice a0 n0 c0) (.slice a1 n1 c1) (.slice a2 n2 c2) (.slice a3 n3 c3) (.slice a4 n4 c4)
  have HB1 : Hid (Below w.heap.size w W1) := hb1
  have HIE : Hid _ := elements_any D _ W1 (hD.below hb1)
  have HSE : Hid (∀ w2, Below W1.heap.size W1 w2 → Ss w2 V s ∧ selV s.kind V = .agg #[.int .i64 s.kind, .slice a0 n0 c0, .slice a1 n1 c1, .slice a2 n2 c2, .slice a3 n3 c3, .slice a4 n4 c4]) := fun w2 hb => ⟨hS.below (hb1.trans (hb.mono hb1.size)), e⟩
  rw [e]
  clear hD hS hn hb1 e hV
  by_cases he : elE D = 0
  · rw [he] at HIE
    obtain ⟨hdb, hpd⟩ := elE_ok he
    have HDB : Hid _ := hdb
    have h4 : n ≤ 4 := by
      rw [dimsB, Bool.and_eq_true] at hdb
      have := of_decide_eq_true hdb.1
      have := HN.out
      omega
    have HE0 : Hid (elE D = 0) := he
    obtain ⟨en, HEN⟩ : ∃ en, Hid (elN D = en) := ⟨_, rfl⟩
    rw [HEN.out] at HIE
    clear he hdb hpd
    obtain ⟨kd, HK⟩ : ∃ kd, Hid (s.kind = kd) := ⟨_, rfl⟩
    rw [HK.out] at hW1 b0 HSE ⊢
    by_cases k1 : kd = 1
    · subst k1
      have HE : Hid (slE D s = axE D (wholeA D)) := by rw [Hid, slE, if_neg (by rw [HE0.out]; simp), if_pos HK.out]
      have HA : Hid (axA D s = wholeA D) := by rw [Hid, axA, if_pos HK.out]
      have HC : Hid (∀ w2, Below W1.heap.size W1 w2 → Calls Try.prog 34 #[.slice ao n cap] w2 fun e w' => ∃ ao n cap, e = .returned (.slice ao n cap) ∧ Axs w' (.slice ao n cap) (wholeA D) ∧ Below w2.heap.size w2 w') := fun w2 hb => wholeAxes_any D _ w2 (HI.out.below (HB1.out.trans (hb.mono HB1.out.size))) HDB.out
      have HC2 : Hid (∀ w2 v, Below W1.heap.size W1 w2 → Axs w2 v (wholeA D) → Calls Try.prog 33 #[.slice ao n cap, v] w2 (AxP w2 D (wholeA D))) := fun w2 v hb ha => ofAxes_any D _ _ v w2 (HI.out.below (HB1.out.trans (hb.mono HB1.out.size))) ha HDB.out (by rw [wholeA, List.length_map])
      obtain ⟨er, HER⟩ : ∃ er, Hid (axE D (wholeA D) = er) := ⟨_, rfl⟩
      go_enter Try.func26, Try.ntmps26
      go_wp2_with (first | (go_at_call 9; refine Calls.mono HIE.out ?_; rintro e w2 ⟨rfl, hb2⟩; have HB2 : Hid (Below W1.heap.size W1 w2) := hb2; have q0 := (hb2.cell (World.block_lt_of_cell? W1 _ b0)).trans b0; have q1 := (hb2.cell (World.block_lt_of_cell? W1 _ b1)).trans b1; have q2 := (hb2.cell (World.block_lt_of_cell? W1 _ b2)).trans b2; have q3 := (hb2.cell (World.block_lt_of_cell? W1 _ b3)).trans b3; have q4 := (hb2.cell (World.block_lt_of_cell? W1 _ b4)).trans b4; have q5 := (hb2.cell (World.block_lt_of_cell? W1 _ b5)).trans b5; clear hb2) | (go_at_call 34; refine (HC.out _ HB2.out).mono ?_; rintro e w3 ⟨aa, na, ca, rfl, hax, hb3⟩; have HAX : Hid _ := hax; have HB3 : Hid (Below W1.heap.size W1 w3) := HB2.out.trans (hb3.mono HB2.out.size); clear hax hb3) | (go_at_call 33; refine (HC2.out _ _ HB3.out HAX.out).mono ?_; intro e w4 hp4; obtain ⟨kk, it, rfl, hb4, han⟩ := AxP.un hp4; have HB4 : Hid (Below W1.heap.size W1 w4) := HB3.out.trans (hb4.mono HB3.out.size); have HAN : Hid (An (axE D (wholeA D)) kk it (prd (cnts (wholeA D))) (fun it => ItAx w4 it (wholeA D))) := han; rw [HER.out]; clear hb4 hp4 han))
      go_ret3
      have hk2 : s.kind ≠ 2 := by rw [HK.out]; omega
      have hfin := slP_of (s := s) (D := D) (k := kk) (it := it) (HB1.out.trans (HB4.out.mono HB1.out.size)) (by rw [HE.out, slN, if_neg hk2, HA.out]; simp only [ItS, if_neg hk2, HA.out]; exact HAN.out)
      rw [HE.out, HER.out] at hfin
      exact hfin
    · have k1' : (kd == 1) = false := by simp [k1]
      have k1'' : decide (kd = 1) = false := decide_eq_false k1
      by_cases k2 : kd = 2
      · subst k2
        have HE : Hid (slE D s = ptE D s.pts) := by rw [Hid, slE, if_neg (by rw [HE0.out]; simp), if_neg (by rw [HK.out]; omega), if_pos HK.out]
        have HC2 : Hid (∀ w2, Below W1.heap.size W1 w2 → Calls Try.prog 35 #[.slice ao n cap, .slice a0 n0 c0] w2 (PtP w2 D s.pts)) := fun w2 hb => ofPoints_any D s.pts _ _ w2 (HI.out.below (HB1.out.trans (hb.mono HB1.out.size))) (by have h9 := (HSE.out w2 hb).1.p; rw [HV.out] at h9; exact h9) HDB.out
        obtain ⟨er, HER⟩ : ∃ er, Hid (ptE D s.pts = er) := ⟨_, rfl⟩
        go_enter Try.func26, Try.ntmps26
        go_wp2_with (first | (go_at_call 9; refine Calls.mono HIE.out ?_; rintro e w2 ⟨rfl, hb2⟩; have HB2 : Hid (Below W1.heap.size W1 w2) := hb2; have q0 := (hb2.cell (World.block_lt_of_cell? W1 _ b0)).trans b0; have q1 := (hb2.cell (World.block_lt_of_cell? W1 _ b1)).trans b1; have q2 := (hb2.cell (World.block_lt_of_cell? W1 _ b2)).trans b2; have q3 := (hb2.cell (World.block_lt_of_cell? W1 _ b3)).trans b3; have q4 := (hb2.cell (World.block_lt_of_cell? W1 _ b4)).trans b4; have q5 := (hb2.cell (World.block_lt_of_cell? W1 _ b5)).trans b5; clear hb2) | (go_at_call 35; refine (HC2.out _ HB2.out).mono ?_; intro e w4 hp4; obtain ⟨kk, it, rfl, hb4, han⟩ := PtP.un hp4; have HB4 : Hid (Below W1.heap.size W1 w4) := HB2.out.trans (hb4.mono HB2.out.size); have HAN : Hid (An (ptE D s.pts) kk it (s.pts.length : Int) (fun it => ItPt w4 it s.pts)) := han; rw [HER.out]; clear hb4 hp4 han))
        go_ret3
        have hfin := slP_of (s := s) (D := D) (k := kk) (it := it) (HB1.out.trans (HB4.out.mono HB1.out.size)) (by rw [HE.out, slN, if_pos HK.out]; simp only [ItS, if_pos HK.out]; exact HAN.out)
        rw [HE.out, HER.out] at hfin
        exact hfin
      · have k2' : (kd == 2) = false := by simp [k2]
        have k2'' : decide (kd = 2) = false := decide_eq_false k2
        by_cases k3 : kd = 3
        · subst k3
          have HA : Hid (axA D s = slabA s.st s.sd s.ct s.bl) := by rw [Hid, axA, if_neg (by rw [HK.out]; omega)]
          have HC : Hid (∀ w2, Below W1.heap.size W1 w2 → Calls Try.prog 36 #[.int .i64 (n : Int), .agg #[.int .i64 3, .slice a0 n0 c0, .slice a1 n1 c1, .slice a2 n2 c2, .slice a3 n3 c3, .slice a4 n4 c4]] w2 (SaP w2 n s)) := fun w2 hb => by
            have h9 := slabAxes_any n s V w2 (HSE.out w2 hb).1 h4
            rw [show s.kind = 3 from HK.out, (HSE.out w2 hb).2] at h9
            exact h9
          by_cases hok : (okB n s.st && okB n s.sd && okB n s.ct && okB n s.bl) = true
          · have HE : Hid (slE D s = axE D (slabA s.st s.sd s.ct s.bl)) := by
              rw [Hid, slE, if_neg (by rw [HE0.out]; simp), if_neg (by rw [HK.out]; omega), if_neg (by rw [HK.out]; omega), if_pos HK.out, if_pos (by rw [HN.out]; exact hok)]
            have HSL : Hid ((slabA s.st s.sd s.ct s.bl).length = D.length) := by
              simp only [Bool.and_eq_true] at hok
              rw [Hid, HN.out]
              exact slabA_length _ _ _ _ n (okB_iff.1 hok.1.1.1).1 (okB_iff.1 hok.1.1.2).1 (okB_iff.1 hok.1.2).1 (okB_iff.1 hok.2).1
            have HC2 : Hid (∀ w2 v, Below W1.heap.size W1 w2 → Axs w2 v (slabA s.st s.sd s.ct s.bl) → Calls Try.prog 33 #[.slice ao n cap, v] w2 (AxP w2 D (slabA s.st s.sd s.ct s.bl))) := fun w2 v hb ha => ofAxes_any D _ _ v w2 (HI.out.below (HB1.out.trans (hb.mono HB1.out.size))) ha HDB.out HSL.out
            obtain ⟨er, HER⟩ : ∃ er, Hid (axE D (slabA s.st s.sd s.ct s.bl) = er) := ⟨_, rfl⟩
            have HOK : Hid _ := hok
            clear hok
            go_enter Try.func26, Try.ntmps26
            go_wp2_with (first | (go_at_call 9; refine Calls.mono HIE.out ?_; rintro e w2 ⟨rfl, hb2⟩; have HB2 : Hid (Below W1.heap.size W1 w2) := hb2; have q0 := (hb2.cell (World.block_lt_of_cell? W1 _ b0)).trans b0; have q1 := (hb2.cell (World.block_lt_of_cell? W1 _ b1)).trans b1; have q2 := (hb2.cell (World.block_lt_of_cell? W1 _ b2)).trans b2; have q3 := (hb2.cell (World.block_lt_of_cell? W1 _ b3)).trans b3; have q4 := (hb2.cell (World.block_lt_of_cell? W1 _ b4)).trans b4; have q5 := (hb2.cell (World.block_lt_of_cell? W1 _ b5)).trans b5; clear hb2) | (go_at_call 36; refine (HC.out _ HB2.out).mono ?_; intro e w3 hp3; obtain ⟨aa, na, ca, e3, rfl, hb3, he3, hax⟩ := SaP.un hp3; rw [if_pos HOK.out] at he3; subst he3; have HAX : Hid _ := hax rfl; have HB3 : Hid (Below W1.heap.size W1 w3) := HB2.out.trans (hb3.mono HB2.out.size); clear hax hb3 hp3) | (go_at_call 33; refine (HC2.out _ _ HB3.out HAX.out).mono ?_; intro e w4 hp4; obtain ⟨kk, it, rfl, hb4, han⟩ := AxP.un hp4; have HB4 : Hid (Below W1.heap.size W1 w4) := HB3.out.trans (hb4.mono HB3.out.size); have HAN : Hid (An (axE D (slabA s.st s.sd s.ct s.bl)) kk it (prd (cnts (slabA s.st s.sd s.ct s.bl))) (fun it => ItAx w4 it (slabA s.st s.sd s.ct s.bl))) := han; rw [HER.out]; clear hb4 hp4 han))
            go_ret3
            have hk2 : s.kind ≠ 2 := by rw [HK.out]; omega
            have hfin := slP_of (s := s) (D := D) (k := kk) (it := it) (HB1.out.trans (HB4.out.mono HB1.out.size)) (by rw [HE.out, slN, if_neg hk2, HA.out]; simp only [ItS, if_neg hk2, HA.out]; exact HAN.out)
            rw [HE.out, HER.out] at hfin
            exact hfin
          · have HE : Hid (slE D s = 2) := by
              rw [Hid, slE, if_neg (by rw [HE0.out]; simp), if_neg (by rw [HK.out]; omega), if_neg (by rw [HK.out]; omega), if_pos HK.out, if_neg (by rw [HN.out]; exact hok)]
            have HOK : Hid _ := hok
            clear hok
            go_enter Try.func26, Try.ntmps26
            go_wp2_with (first | (go_at_call 9; refine Calls.mono HIE.out ?_; rintro e w2 ⟨rfl, hb2⟩; have HB2 : Hid (Below W1.heap.size W1 w2) := hb2; have q0 := (hb2.cell (World.block_lt_of_cell? W1 _ b0)).trans b0; have q1 := (hb2.cell (World.block_lt_of_cell? W1 _ b1)).trans b1; have q2 := (hb2.cell (World.block_lt_of_cell? W1 _ b2)).trans b2; have q3 := (hb2.cell (World.block_lt_of_cell? W1 _ b3)).trans b3; have q4 := (hb2.cell (World.block_lt_of_cell? W1 _ b4)).trans b4; have q5 := (hb2.cell (World.block_lt_of_cell? W1 _ b5)).trans b5; clear hb2) | (go_at_call 36; refine (HC.out _ HB2.out).mono ?_; intro e w3 hp3; obtain ⟨aa, na, ca, e3, rfl, hb3, he3, hax⟩ := SaP.un hp3; rw [if_neg HOK.out] at he3; subst he3; have HB3 : Hid (Below W1.heap.size W1 w3) := HB2.out.trans (hb3.mono HB2.out.size); clear hax hb3 hp3))
            go_ret3
            have hfin := slP_of (s := s) (D := D) (k := 0) (it := .nilFunc) (HB1.out.trans (HB3.out.mono HB1.out.size)) ⟨fun _ => ⟨rfl, rfl⟩, fun h => by rw [HE.out] at h; omega⟩
            rw [HE.out] at hfin
            exact hfin
        · have k3' : (kd == 3) = false := by simp [k3]
          have k3'' : decide (kd = 3) = false := decide_eq_false k3
          have HE : Hid (slE D s = 2) := by
            rw [Hid, slE, if_neg (by rw [HE0.out]; simp), if_neg (by rw [HK.out]; omega), if_neg (by rw [HK.out]; omega), if_neg (by rw [HK.out]; omega)]
          go_enter Try.func26, Try.ntmps26
          go_wp2_with (go_at_call 9; refine Calls.mono HIE.out ?_; rintro e w2 ⟨rfl, hb2⟩; have HB2 : Hid (Below W1.heap.size W1 w2) := hb2; have q0 := (hb2.cell (World.block_lt_of_cell? W1 _ b0)).trans b0; have q1 := (hb2.cell (World.block_lt_of_cell? W1 _ b1)).trans b1; have q2 := (hb2.cell (World.block_lt_of_cell? W1 _ b2)).trans b2; have q3 := (hb2.cell (World.block_lt_of_cell? W1 _ b3)).trans b3; have q4 := (hb2.cell (World.block_lt_of_cell? W1 _ b4)).trans b4; have q5 := (hb2.cell (World.block_lt_of_cell? W1 _ b5)).trans b5; clear hb2)
          go_ret3
          have hfin := slP_of (s := s) (D := D) (k := 0) (it := .nilFunc) (HB1.out.trans (HB2.out.mono HB1.out.size)) ⟨fun _ => ⟨rfl, rfl⟩, fun h => by rw [HE.out] at h; omega⟩
          rw [HE.out] at hfin
          exact hfin
  · have HE : Hid (slE D s = elE D) := by rw [Hid, slE, if_pos he]
    obtain ⟨en, HEN⟩ : ∃ en, Hid (elN D = en) := ⟨_, rfl⟩
    rw [HEN.out] at HIE
    obtain ⟨er, HER⟩ : ∃ er, Hid (elE D = er) := ⟨_, rfl⟩
    rw [HER.out] at HIE he
    have he' : (er != 0) = true := by simp [he]
    go_enter Try.func26, Try.ntmps26
    go_wp2_with (go_at_call 9; refine Calls.mono HIE.out ?_; rintro e w2 ⟨rfl, hb2⟩; have HB2 : Hid (Below W1.heap.size W1 w2) := hb2; have q0 := (hb2.cell (World.block_lt_of_cell? W1 _ b0)).trans b0; have q1 := (hb2.cell (World.block_lt_of_cell? W1 _ b1)).trans b1; have q2 := (hb2.cell (World.block_lt_of_cell? W1 _ b2)).trans b2; have q3 := (hb2.cell (World.block_lt_of_cell? W1 _ b3)).trans b3; have q4 := (hb2.cell (World.block_lt_of_cell? W1 _ b4)).trans b4; have q5 := (hb2.cell (World.block_lt_of_cell? W1 _ b5)).trans b5; clear hb2)
    go_ret3
    have hfin := slP_of (s := s) (D := D) (k := 0) (it := .nilFunc) (HB1.out.trans (HB2.out.mono HB1.out.size)) ⟨fun _ => ⟨rfl, rfl⟩, fun h => by rw [HE.out, HER.out] at h; omega⟩
    rw [HE.out, HER.out] at hfin
    exact hfin
end Go.Proofs.Ytnikbcljonbpcaa
