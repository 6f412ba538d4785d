/-
  The program's Undo. Conditions: bytes are bytes; their number, and that of the filters, is one that memory bears.
-/
import Derived.Test.YtgodoogmbdgeoabFiAp
namespace Go.Proofs.Ytgodoogmbdgeoab
open Go.RowKit
set_option linter.unusedVariables false
set_option maxRecDepth 100000

theorem ud_step {L : List Fil} {q : Nat} {A R : List Int} {E : Int} (h : unF (L.getD q (0, 0)) A = (R, E)) : udN L (q + 1) A = if E = 0 then udN L q R else ([], E) := by
  rw [udN, h]
theorem un_wide {f : Fil} {A R : List Int} {E : Int} (h : unF f A = (R, E)) (hy : Byt A) (hl : A.length ≤ 140737488351232) : Byt R ∧ R.length ≤ 140737488351232 ∧ (E ≠ 0 → R = []) := by
  have h1 := byt_un f hy
  have h2 := un_len f A
  have h3 := un_err f A
  rw [h] at h1 h2 h3
  refine ⟨h1, by simp only at h2; omega, fun he => ?_⟩
  rcases h3 with h3 | h3
  · exact absurd h3 he
  · exact h3.1
set_option maxHeartbeats 64000000 in
theorem undone_any (v x : Value) (L : List Fil) (b : List Int) (w : World) (hl : Fls w v L) (hb : Bs w x b) (hby : Byt b) (hlb : L.length ≤ 8796093021952) (hbl : b.length ≤ 140737488351232) (h0 : chE L = 0) :
    Calls Try.prog 10 #[v, x] w (TlP w (udN L L.length b).2 (udN L L.length b).1) := by
  obtain ⟨ao, cap, rfl, hc, hcell⟩ := hl.opened
  obtain ⟨xo, xc, rfl, hq1, hq2, hq3⟩ := id hb
  clear hq1 hq2 hq3
  obtain ⟨n, hn⟩ : ∃ n, L.length = n := ⟨_, rfl⟩
  have HC : Hid (∀ i, i < n → ∃ b off, ao = some ⟨b, off, none⟩ ∧ w.cell? ⟨b, off + i * 2, none⟩ = some (.int .i64 (L.getD i (0, 0)).1) ∧ w.cell? ⟨b, off + i * 2 + 1, none⟩ = some (.int .i64 (L.getD i (0, 0)).2) ∧ b < w.heap.size) := by rw [← hn]; exact hcell
  have HM : Hid (∀ j, j < n → mayP (L.getD j (0, 0))) := fun j hj => may_at h0 (by rw [hn]; exact hj)
  have HCL : Hid _ := bcl_any _ b w hb (by omega)
  have HY : Hid (Byt b) := hby
  have HBL : Hid (b.length ≤ 140737488351232) := hbl
  have hn4 : n ≤ 4 := by rw [← hn]; exact (chE_ok h0).1
  rw [hn] at hc hlb ⊢
  obtain ⟨U, hU⟩ : ∃ U, udN L n b = U := ⟨_, rfl⟩
  have HU : Hid (udN L n b = U) := hU
  rw [hU]
  obtain ⟨m, hm⟩ : ∃ m, b.length = m := ⟨_, rfl⟩
  rw [hm] at HCL ⊢
  clear hm
  have wi : IntKind.i64.wrap ((n : Int) - 1) = (n : Int) - 1 := by simp [IntKind.wrap, IntKind.bits, IntKind.signed]; omega
  have hfd : ∀ (a c : Value) (W : World), (Instr.field 38 (.agg #[a, c]) 1).run Try.prog W = .ok c W := way_un
  clear hl hcell hb hby hbl h0 hU hc hn
  go_enter Try.func10, Try.ntmps10
  go_wp2_with fail
  refine Calls.mono HCL.out ?_
  rintro e w3 ⟨y3, rfl, ho3, hb3⟩
  have HO3 : Hid (Own w3 w.heap.size y3 b) := ho3
  have HB3 : Hid (Below w.heap.size w w3) := hb3
  clear ho3 hb3
  go_wp2_with fail
  clear wi
  go_loopw [6, 7, 8] (fun y i _ wr => ∃ (j : Nat) (A : List Int), j ≤ n ∧ i = .int .i64 ((j : Int) - 1) ∧ Hid (udN L j A = U) ∧ Hid (Byt A) ∧ Hid (A.length ≤ 140737488351232) ∧ Hid (Own wr w.heap.size y A) ∧ Hid (Below w.heap.size w wr)) (fun _ i _ _ => (intOf i + 1).toNat)
  case atStart => exact ⟨n, b, Nat.le_refl _, rfl, HU.out, HY.out, HBL.out, HO3.out, HB3.out⟩
  case round =>
    obtain ⟨j, A, hj, rfl, HUA, HYA, HLA, HO, HB⟩ := hrel
    cases j with
    | zero =>
      have hge : ¬ (0 : Int) ≤ ((0 : Nat) : Int) - 1 := by omega
      have HUZ : Hid (U = (A, 0)) := by rw [Hid, ← HUA.out]; rfl
      go_wp2_with fail
      go_ret2
      rw [HUZ.out]
      exact ⟨_, rfl, HO.out, HB.out⟩
    | succ q =>
      obtain ⟨I, hI⟩ : ∃ I, ((q + 1 : Nat) : Int) - 1 = I := ⟨_, rfl⟩
      obtain rfl : I = (q : Int) := by omega
      rw [hI]
      have hlt : q < n := by omega
      have hge : (0 : Int) ≤ (q : Int) := by omega
      have wi : IntKind.i64.wrap ((q : Int) - 1) = (q : Int) - 1 := by simp [IntKind.wrap, IntKind.bits, IntKind.signed]; omega
      obtain ⟨b0, off, rfl, c0, c1, hbl⟩ := HC.out q hlt
      replace c0 := (HB.out.cell (p := ⟨b0, off + q * 2, none⟩) hbl).trans c0
      replace c1 := (HB.out.cell (p := ⟨b0, off + q * 2 + 1, none⟩) hbl).trans c1
      have HBL : Hid (b0 < w.heap.size) := hbl
      have HM1 := HM.out q hlt
      obtain ⟨R, E, hRE⟩ : ∃ R E, unF (L.getD q (0, 0)) A = (R, E) := ⟨_, _, rfl⟩
      obtain ⟨hw1, hw2, hw3⟩ := un_wide hRE HYA.out HLA.out
      have HYR : Hid (Byt R) := hw1
      have HLR : Hid (R.length ≤ 140737488351232) := hw2
      have HER : Hid (E ≠ 0 → R = []) := hw3
      have HST : Hid ((if E = 0 then udN L q R else ([], E)) = U) := by rw [Hid, ← ud_step hRE]; exact HUA.out
      clear hw1 hw2 hw3 hbl hI
      rcases may_form HM1 with ⟨z, HF, hz1, hz8⟩ | ⟨z, HF, hz1, hz8⟩ | HF | HF
      · rw [HF] at c0 c1 hRE
        have HUN : Hid (unF (1, (z : Int)) A = (R, E)) := hRE
        simp only at c0 c1
        have HWR : Hid (w.heap.size ≤ wr.heap.size) := HB.out.size
        have HL0 : Hid (b0 < wr.heap.size) := Nat.lt_of_lt_of_le HBL.out HB.out.size
        clear hRE HF HM1
        go_wp2_with fail
        go_region_with (first | (go_at_call 9; refine (way_1 _).mono ?_; rintro e w3 ⟨rfl, hb3⟩; have hb3 := below_undrew hb3; have HB3 : Hid (Below wr.heap.size wr w3) := hb3; have c1' := (hb3.cell (p := ⟨b0, off + q * 2 + 1, none⟩) HL0.out).trans c1; have c0' := (hb3.cell (p := ⟨b0, off + q * 2, none⟩) HL0.out).trans c0; clear hb3) | (go_at_call 13; refine Calls.mono (sh_un' z hz1 hz8 _ A _ (by exact (HO.out.below HB3.out).bs) HYA.out (by have := HLA.out; omega)) ?_; rintro e w4 ⟨x4, rfl, ho4, hb4⟩; rw [HUN.out] at ho4 ⊢; have HO4 : Hid (Own w4 w.heap.size x4 R) := ho4.mono (by exact Nat.le_trans HWR.out HB3.out.size); have HB4 : Hid (Below w.heap.size w w4) := HB.out.trans ((HB3.out.trans (hb4.mono HB3.out.size)).mono HWR.out); clear hb4 ho4))
        all_goals
          by_cases h5 : E = 0
          · have HS2 : Hid (udN L q R = U) := by have := HST.out; rwa [if_pos h5] at this
            subst h5
            go_wp2_with fail
            go_roundw
            case rel => exact ⟨q, R, by omega, rfl, HS2.out, HYR.out, HLR.out, HO4.out, HB4.out⟩
            case measure => simp [intOf] <;> omega
          · have HS2 : Hid (U = ([], E)) := by have := HST.out; rw [if_neg h5] at this; exact this.symm
            have hne : (E != 0) = true := by simp [h5]
            go_wp2_with fail
            go_ret2
            rw [HS2.out]
            exact ⟨_, rfl, Own.nil _ _, HB4.out⟩
      · rw [HF] at c0 c1 hRE
        have HUN : Hid (unF (2, (z : Int)) A = (R, E)) := hRE
        simp only at c0 c1
        have HWR : Hid (w.heap.size ≤ wr.heap.size) := HB.out.size
        have HL0 : Hid (b0 < wr.heap.size) := Nat.lt_of_lt_of_le HBL.out HB.out.size
        clear hRE HF HM1
        go_wp2_with fail
        go_region_with (first | (go_at_call 9; refine (way_2 _).mono ?_; rintro e w3 ⟨rfl, hb3⟩; have hb3 := below_undrew hb3; have HB3 : Hid (Below wr.heap.size wr w3) := hb3; have c1' := (hb3.cell (p := ⟨b0, off + q * 2 + 1, none⟩) HL0.out).trans c1; have c0' := (hb3.cell (p := ⟨b0, off + q * 2, none⟩) HL0.out).trans c0; clear hb3) | (go_at_call 15; refine Calls.mono (de_un z hz1 hz8 _ A _ (by exact (HO.out.below HB3.out).bs) HYA.out (by have := HLA.out; omega)) ?_; rintro e w4 ⟨x4, rfl, ho4, hb4⟩; rw [HUN.out] at ho4 ⊢; have HO4 : Hid (Own w4 w.heap.size x4 R) := ho4.mono (by exact Nat.le_trans HWR.out HB3.out.size); have HB4 : Hid (Below w.heap.size w w4) := HB.out.trans ((HB3.out.trans (hb4.mono HB3.out.size)).mono HWR.out); clear hb4 ho4))
        all_goals
          by_cases h5 : E = 0
          · have HS2 : Hid (udN L q R = U) := by have := HST.out; rwa [if_pos h5] at this
            subst h5
            go_wp2_with fail
            go_roundw
            case rel => exact ⟨q, R, by omega, rfl, HS2.out, HYR.out, HLR.out, HO4.out, HB4.out⟩
            case measure => simp [intOf] <;> omega
          · have HS2 : Hid (U = ([], E)) := by have := HST.out; rw [if_neg h5] at this; exact this.symm
            have hne : (E != 0) = true := by simp [h5]
            go_wp2_with fail
            go_ret2
            rw [HS2.out]
            exact ⟨_, rfl, Own.nil _ _, HB4.out⟩
      · obtain ⟨z, HF⟩ : ∃ z : Int, L.getD q (0, 0) = (3, z) := ⟨0, HF⟩
        rw [HF] at c0 c1 hRE
        have HUN : Hid (unF (3, z) A = (R, E)) := hRE
        simp only at c0 c1
        have HWR : Hid (w.heap.size ≤ wr.heap.size) := HB.out.size
        have HL0 : Hid (b0 < wr.heap.size) := Nat.lt_of_lt_of_le HBL.out HB.out.size
        clear hRE HF HM1
        go_wp2_with fail
        go_region_with (first | (go_at_call 9; refine (way_3 _).mono ?_; rintro e w3 ⟨rfl, hb3⟩; have hb3 := below_undrew hb3; have HB3 : Hid (Below wr.heap.size wr w3) := hb3; have c1' := (hb3.cell (p := ⟨b0, off + q * 2 + 1, none⟩) HL0.out).trans c1; have c0' := (hb3.cell (p := ⟨b0, off + q * 2, none⟩) HL0.out).trans c0; clear hb3) | (go_at_call 17; refine Calls.mono (pk_un z _ A _ (by exact (HO.out.below HB3.out).bs) HYA.out (by have := HLA.out; omega)) ?_; rintro e w4 ⟨x4, rfl, ho4, hb4⟩; rw [HUN.out] at ho4 ⊢; have HO4 : Hid (Own w4 w.heap.size x4 R) := ho4.mono (by exact Nat.le_trans HWR.out HB3.out.size); have HB4 : Hid (Below w.heap.size w w4) := HB.out.trans ((HB3.out.trans (hb4.mono HB3.out.size)).mono HWR.out); clear hb4 ho4))
        all_goals
          by_cases h5 : E = 0
          · have HS2 : Hid (udN L q R = U) := by have := HST.out; rwa [if_pos h5] at this
            subst h5
            go_wp2_with fail
            go_roundw
            case rel => exact ⟨q, R, by omega, rfl, HS2.out, HYR.out, HLR.out, HO4.out, HB4.out⟩
            case measure => simp [intOf] <;> omega
          · have HS2 : Hid (U = ([], E)) := by have := HST.out; rw [if_neg h5] at this; exact this.symm
            have hne : (E != 0) = true := by simp [h5]
            go_wp2_with fail
            go_ret2
            rw [HS2.out]
            exact ⟨_, rfl, Own.nil _ _, HB4.out⟩
      · obtain ⟨z, HF⟩ : ∃ z : Int, L.getD q (0, 0) = (4, z) := ⟨0, HF⟩
        rw [HF] at c0 c1 hRE
        have HUN : Hid (unF (4, z) A = (R, E)) := hRE
        simp only at c0 c1
        have HWR : Hid (w.heap.size ≤ wr.heap.size) := HB.out.size
        have HL0 : Hid (b0 < wr.heap.size) := Nat.lt_of_lt_of_le HBL.out HB.out.size
        clear hRE HF HM1
        go_wp2_with fail
        go_region_with (first | (go_at_call 9; refine (way_4 _).mono ?_; rintro e w3 ⟨rfl, hb3⟩; have hb3 := below_undrew hb3; have HB3 : Hid (Below wr.heap.size wr w3) := hb3; have c1' := (hb3.cell (p := ⟨b0, off + q * 2 + 1, none⟩) HL0.out).trans c1; have c0' := (hb3.cell (p := ⟨b0, off + q * 2, none⟩) HL0.out).trans c0; clear hb3) | (go_at_call 19; refine Calls.mono (sm_un z _ A _ (by exact (HO.out.below HB3.out).bs) HYA.out (by have := HLA.out; omega)) ?_; rintro e w4 ⟨x4, rfl, ho4, hb4⟩; rw [HUN.out] at ho4 ⊢; have HO4 : Hid (Own w4 w.heap.size x4 R) := ho4.mono (by exact Nat.le_trans HWR.out HB3.out.size); have HB4 : Hid (Below w.heap.size w w4) := HB.out.trans ((HB3.out.trans (hb4.mono HB3.out.size)).mono HWR.out); clear hb4 ho4))
        all_goals
          by_cases h5 : E = 0
          · have HS2 : Hid (udN L q R = U) := by have := HST.out; rwa [if_pos h5] at this
            subst h5
            go_wp2_with fail
            go_roundw
            case rel => exact ⟨q, R, by omega, rfl, HS2.out, HYR.out, HLR.out, HO4.out, HB4.out⟩
            case measure => simp [intOf] <;> omega
          · have HS2 : Hid (U = ([], E)) := by have := HST.out; rw [if_neg h5] at this; exact this.symm
            have hne : (E != 0) = true := by simp [h5]
            go_wp2_with fail
            go_ret2
            rw [HS2.out]
            exact ⟨_, rfl, Own.nil _ _, HB4.out⟩
theorem ud_bad {L : List Fil} (h : chE L ≠ 0) (b : List Int) (n : Int) : udE L b n = chE L ∧ udR L b n = [] := by
  have e : udE L b n = chE L := by rw [udE, if_neg h]
  exact ⟨e, by rw [udR, if_neg (by rw [e]; exact h)]⟩
theorem ud_arg {L : List Fil} (h : chE L = 0) (b : List Int) {n : Int} (hn : n < 0 ∨ 4096 < n) : udE L b n = 2 ∧ udR L b n = [] := by
  have e : udE L b n = 2 := by rw [udE, if_pos h, if_pos hn]
  exact ⟨e, by rw [udR, if_neg (by rw [e]; omega)]⟩
theorem ud_yes {L : List Fil} (h : chE L = 0) {b : List Int} {n : Int} (hn : ¬ (n < 0 ∨ 4096 < n)) (he : (udN L L.length b).2 = 0) (hl : ((udN L L.length b).1.length : Int) = n) : udE L b n = 0 ∧ udR L b n = (udN L L.length b).1 := by
  have e : udE L b n = 0 := by rw [udE, if_pos h, if_neg hn, if_pos ⟨he, hl⟩]
  exact ⟨e, by rw [udR, if_pos e]⟩
theorem ud_no {L : List Fil} (h : chE L = 0) {b : List Int} {n : Int} (hn : ¬ (n < 0 ∨ 4096 < n)) (he : ¬ ((udN L L.length b).2 = 0 ∧ ((udN L L.length b).1.length : Int) = n)) : udE L b n = 5 ∧ udR L b n = [] := by
  have e : udE L b n = 5 := by rw [udE, if_pos h, if_neg hn, if_neg he]
  exact ⟨e, by rw [udR, if_neg (by rw [e]; omega)]⟩
set_option maxHeartbeats 16000000 in
theorem undo_any (v x : Value) (L : List Fil) (b : List Int) (n : Int) (w : World) (hl : Fls w v L) (hb : Bs w x b) (hby : Byt b) (hlb : L.length ≤ 8796093021952) (hbl : b.length ≤ 140737488351232) :
    Calls Try.prog 6 #[v, x, .int .i64 n] w (TlP w (udE L b n) (udR L b n)) := by
  have HK : Hid _ := check_any v L w hl hlb
  by_cases h0 : chE L = 0
  · by_cases hn : n < 0 ∨ 4096 < n
    · obtain ⟨e1, e2⟩ := ud_arg h0 b hn
      rw [e1, e2]
      rw [h0] at HK
      clear hl hb e1 e2
      by_cases hneg : n < 0
      · clear hn
        go_enter Try.func6, Try.ntmps6
        go_wp2_with fail
        refine Calls.mono HK.out ?_
        rintro e w2 ⟨rfl, hb2⟩
        go_wp2_with fail
        go_ret2
        exact ⟨_, rfl, Own.nil _ _, hb2⟩
      · have hbg : 4096 < n := by omega
        clear hn
        go_enter Try.func6, Try.ntmps6
        go_wp2_with fail
        refine Calls.mono HK.out ?_
        rintro e w2 ⟨rfl, hb2⟩
        go_wp2_with fail
        go_ret2
        exact ⟨_, rfl, Own.nil _ _, hb2⟩
    · have HUN : Hid (∀ w', Below w.heap.size w w' → Calls Try.prog 10 #[v, x] w' (TlP w' (udN L L.length b).2 (udN L L.length b).1)) := fun w' h => undone_any v x L b w' (hl.below h) (hb.below h) hby hlb hbl h0
      have hn1 : ¬ n < 0 := by omega
      have hn2 : ¬ 4096 < n := by omega
      have hyes := fun h1 h2 => ud_yes h0 (b := b) hn h1 h2
      have hno := fun h1 => ud_no h0 (b := b) hn h1
      rw [h0] at HK
      generalize udN L L.length b = U at *
      obtain ⟨R, E⟩ := U
      simp only at HUN hyes hno
      obtain ⟨k, hk⟩ : ∃ k, R.length = k := ⟨_, rfl⟩
      rw [hk] at hyes hno
      have HKR : Hid (R.length = k) := hk
      clear hl hb hn hk
      by_cases h5 : E = 0 ∧ (k : Int) = n
      · obtain ⟨e1, e2⟩ := hyes h5.1 h5.2
        obtain ⟨rfl, rfl⟩ := h5
        rw [e1, e2]
        clear hyes hno e1 e2
        go_enter Try.func6, Try.ntmps6
        go_wp2_with fail
        refine Calls.mono HK.out ?_
        rintro e w2 ⟨rfl, hb2⟩
        have HB2 : Hid (Below w.heap.size w w2) := hb2
        clear hb2
        go_wp2_with fail
        refine Calls.mono (HUN.out _ HB2.out) ?_
        rintro e w4 ⟨x4, rfl, ho4, hb4⟩
        obtain ⟨ao4, cap4, rfl, _, _⟩ := ho4.opened
        rw [HKR.out] at *
        have HO4 : Hid (Own w4 w.heap.size (.slice ao4 k cap4) R) := ho4.mono HB2.out.size
        have HB4 : Hid (Below w.heap.size w w4) := HB2.out.trans (hb4.mono HB2.out.size)
        clear ho4 hb4
        go_wp2_with fail
        go_ret2
        exact ⟨_, rfl, HO4.out, HB4.out⟩
      · obtain ⟨e1, e2⟩ := hno h5
        rw [e1, e2]
        clear hyes hno e1 e2
        by_cases h6 : E = 0
        · subst h6
          have h7 : ((k : Int) != n) = true := by simp; omega
          clear h5
          go_enter Try.func6, Try.ntmps6
          go_wp2_with fail
          refine Calls.mono HK.out ?_
          rintro e w2 ⟨rfl, hb2⟩
          have HB2 : Hid (Below w.heap.size w w2) := hb2
          clear hb2
          go_wp2_with fail
          refine Calls.mono (HUN.out _ HB2.out) ?_
          rintro e w4 ⟨x4, rfl, ho4, hb4⟩
          obtain ⟨ao4, cap4, rfl, hq1, hq2⟩ := ho4.opened
          rw [HKR.out]
          have HB4 : Hid (Below w.heap.size w w4) := HB2.out.trans (hb4.mono HB2.out.size)
          clear ho4 hb4 hq1 hq2
          go_wp2_with fail
          go_ret2
          exact ⟨_, rfl, Own.nil _ _, HB4.out⟩
        · have hne : (E != 0) = true := by simp [h6]
          clear h5
          go_enter Try.func6, Try.ntmps6
          go_wp2_with fail
          refine Calls.mono HK.out ?_
          rintro e w2 ⟨rfl, hb2⟩
          have HB2 : Hid (Below w.heap.size w w2) := hb2
          clear hb2
          go_wp2_with fail
          refine Calls.mono (HUN.out _ HB2.out) ?_
          rintro e w4 ⟨x4, rfl, ho4, hb4⟩
          have HB4 : Hid (Below w.heap.size w w4) := HB2.out.trans (hb4.mono HB2.out.size)
          clear ho4 hb4
          go_wp2_with fail
          go_ret2
          exact ⟨_, rfl, Own.nil _ _, HB4.out⟩
  · obtain ⟨e1, e2⟩ := ud_bad h0 b n
    rw [e1, e2]
    obtain ⟨c, hc0⟩ : ∃ c, chE L = c := ⟨_, rfl⟩
    rw [hc0] at HK h0 ⊢
    have hne : (c != 0) = true := by simp [h0]
    clear hl hb e1 e2 hby h0 hc0
    go_enter Try.func6, Try.ntmps6
    go_wp2_with fail
    refine Calls.mono HK.out ?_
    rintro e w2 ⟨rfl, hb2⟩
    go_wp2_with fail
    go_ret2
    exact ⟨_, rfl, Own.nil _ _, hb2⟩
end Go.Proofs.Ytgodoogmbdgeoab
