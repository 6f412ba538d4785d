/-
  The program's areNamed, of fields and of members. Conditions: the parts lie in memory.
-/
import Derived.Test.YtojcokdfplldbaaDNamed
namespace Go.Proofs.Ytojcokdfplldbaa
open Go.RowKit Go.Shelf
set_option linter.unusedVariables false
set_option maxRecDepth 100000

theorem FsR.take {α : Type} {h : α → Int × Int × Bool} {w : World} {ao : Option Addr} {n cap : Nat} {l : List (ByteArray × Int × α)} (H : FsR (fun _ V _ => SlV V) h w (.slice ao n cap) l) {i : Nat} (hi : i ≤ n) : FsR (fun _ V _ => SlV V) h w (.slice ao i cap) (l.take i) := by
  obtain ⟨h1, h2, ao', cap', e, h3, h4⟩ := H
  injection e with e1 e2 e3
  subst e1 e3
  have hl : (l.take i).length = i := by rw [List.length_take]; omega
  refine ⟨by omega, fun q hq => h2 q (List.mem_of_mem_take hq), ao, cap, by rw [hl], by omega, fun j q hj => h4 j q ?_⟩
  have hjl : j < i := by have := (List.getElem?_eq_some_iff.1 hj).1; omega
  rwa [List.getElem?_take_of_lt hjl] at hj
theorem FsR.belowT {α : Type} {h : α → Int × Int × Bool} {w w2 : World} {v : Value} {l : List (ByteArray × Int × α)} (H : FsR (fun _ V _ => SlV V) h w v l) (hb : Below w.heap.size w w2) : FsR (fun _ V _ => SlV V) h w2 v l := by
  have K : ∀ {p : Addr} {x : Value}, w.cell? p = some x → w2.cell? p = some x := fun h => (hb.cell (World.block_lt_of_cell? w _ h)).trans h
  obtain ⟨h1, h2, ao, cap, e, h3, h4⟩ := H
  refine ⟨h1, h2, ao, cap, e, h3, fun i q hq => ?_⟩
  obtain ⟨g, o, V, e, r, c0, c1, c2, c3, c4, c5, c6, c7, c8⟩ := h4 i q hq
  exact ⟨g, o, V, e, r, K c0, K c1, K c2, K c3, K c4, K c5, K c6, K c7, K c8⟩
set_option maxHeartbeats 16000000 in
theorem fNamed_any {α : Type} {h : α → Int × Int × Bool} (v : Value) (l : List (ByteArray × Int × α)) (w : World) (hl : FsR (fun _ V _ => SlV V) h w v l) :
    Calls Try.prog 73 #[v, .func (.func 74) #[] #[]] w fun e w' => e = .returned (.bool (namesB (l.map (·.1)))) ∧ Below w.heap.size w w' := by
  have eg : ∀ args w, (callFunc 74 args).run Try.prog w = .ok (.enter 74 args) w := enters_of Try.func74 (by kernel_rfl) rfl
  have HX : Hid _ := hl
  obtain ⟨ao, cap, rfl, hcap, -⟩ := hl.is
  obtain ⟨N, hN⟩ : ∃ N, l.length = N := ⟨_, rfl⟩
  have hlen := hl.len
  rw [hN] at HX hcap hlen ⊢
  obtain ⟨NS, hNS⟩ : ∃ NS, l.map (·.1) = NS := ⟨_, rfl⟩
  have HNS : Hid (∀ i q, l[i]? = some q → NS[i]? = some q.1 ∧ (NS.take i).any (fun t => t.toList == q.1.toList) = (l.take i).any (fun t => t.1.toList == q.1.toList)) := fun i q hq => by
    rw [← hNS, List.getElem?_map, hq, ← List.map_take, List.any_map]
    exact ⟨rfl, rfl⟩
  have HNL : Hid (NS.length = N) := by rw [Hid, ← hNS, List.length_map, hN]
  have HBD : Hid (namesB NS = (decide (1 ≤ N ∧ N ≤ 16) && namesTo NS N)) := by rw [Hid, namesB, HNL.out]
  rw [hNS]
  clear hl hN hNS
  have HW : Hid (∀ w', Calls Try.prog 54 #[.int .i64 (N : Int), .int .i64 1, .int .i64 16] w' fun e w1 => e = .returned (.bool (decide (1 ≤ N ∧ N ≤ 16))) ∧ w1 = w') := fun w' => by
    have := within_any (N : Int) 1 16 w'
    rwa [show decide ((1 : Int) ≤ (N : Int) ∧ (N : Int) ≤ 16) = decide (1 ≤ N ∧ N ≤ 16) by congr 1; simp; omega] at this
  obtain ⟨w1, hw1, hb1, hs1, h1⟩ : ∃ w1, w.alloc (.cells #[.func (.func 74) #[] #[]] 103) = w1 ∧ Below w.heap.size w w1 ∧ w1.heap.size = w.heap.size + 1 ∧ w1.cell? ⟨w.heap.size, 0, none⟩ = some (.func (.func 74) #[] #[]) := ⟨_, rfl, (Below.refl _ _).alloc (Nat.le_refl _) _, World.size_alloc _ _, by rw [World.cell?_alloc_mark]; rfl⟩
  have HB1 : Hid (Below w.heap.size w w1) := hb1
  have H1 : Hid (w1.cell? ⟨w.heap.size, 0, none⟩ = some (.func (.func 74) #[] #[])) := h1
  clear hb1 hs1 h1
  by_cases hr : 1 ≤ N ∧ N ≤ 16
  · have d1 : decide (1 ≤ N ∧ N ≤ 16) = true := decide_eq_true hr
    rw [d1] at HW HBD
    clear d1
    go_enter Try.func73, Try.ntmps73
    go_wp2_with (go_at_call 54; refine (HW.out _).mono ?_; rintro e w5 ⟨rfl, hw5⟩; obtain rfl := hw5.symm)
    go_loopw [14] (fun y wr => ∃ i : Nat, i ≤ N ∧ y = .int .i64 (i : Int) ∧ Hid (namesTo NS i = true) ∧ Hid (Below w1.heap.size w1 wr)) (fun y _ => N - (intOf y).toNat)
    case atStart => exact ⟨0, by omega, by simp, rfl, Below.refl _ _⟩
    case round =>
      obtain ⟨i, hin, rfl, HP, HB⟩ := hrel
      by_cases hlt : i < N
      · obtain ⟨g, o, U, q, rfl, hq, hqr, ⟨fa, fn, fc, da, dn, dc, ba, bn, bc, na, nn, nc, rfl⟩, k0, k1, k2, k3, k4, k5, k6, k7, k8⟩ := HX.out.at hlt
        simp only [] at k5 k6 k7 k8
        obtain ⟨hn1, hn2⟩ := HNS.out i q hq
        have HNO : Hid ((nameB q.1 && !(l.take i).any (fun t => t.1.toList == q.1.toList)) = false → namesB NS = false) := fun h => namesB_no hn1 (by rw [hn2]; exact h)
        have HSU : Hid ((nameB q.1 && !(l.take i).any (fun t => t.1.toList == q.1.toList)) = true → namesTo NS (i + 1) = true) := fun h => by rw [namesTo_succ hn1, HP.out, hn2, h]; rfl
        have HBB : Hid (Below w.heap.size w wr) := bel_next HB1.out HB.out
        have K : ∀ {p : Addr} {x : Value}, w.cell? p = some x → wr.cell? p = some x := fun h => (HBB.out.cell (World.block_lt_of_cell? w _ h)).trans h
        replace k0 := K k0
        replace k1 := K k1
        replace k2 := K k2
        replace k3 := K k3
        replace k4 := K k4
        replace k5 := K k5
        replace k6 := K k6
        replace k7 := K k7
        replace k8 := K k8
        have m3 : wr.cell? ⟨w.heap.size, 0, none⟩ = some (.func (.func 74) #[] #[]) := (HB.out.cell (World.block_lt_of_cell? w1 _ H1.out)).trans H1.out
        clear K hq hqr hn1 hn2
        obtain ⟨w2, hw2, hb2, hs2, h2⟩ := fc_made wr q.1 q.2.1 ((h q.2.2).1) ((h q.2.2).2.1) ((h q.2.2).2.2) (.slice fa fn fc) (.slice da dn dc) (.slice ba bn bc) (.slice na nn nc)
        have HB2 : Hid (Below w1.heap.size w1 w2) := bel_next HB.out hb2
        have HBB2 : Hid (Below w.heap.size w w2) := bel_next HB1.out HB2.out
        have m3' : w2.cell? ⟨w.heap.size, 0, none⟩ = some (.func (.func 74) #[] #[]) := (hb2.cell (World.block_lt_of_cell? wr _ m3)).trans m3
        have HPF : Hid (FsR (fun _ V _ => SlV V) h w2 (.slice (some ⟨g, o, none⟩) i cap) (l.take i)) := (HX.out.take hin).belowT HBB2.out
        have HM : Hid (FC w2 wr.heap.size q.1 q.2.1 ((h q.2.2).1) ((h q.2.2).2.1) ((h q.2.2).2.2) (.slice fa fn fc) (.slice da dn dc) (.slice ba bn bc) (.slice na nn nc)) := h2
        have HCT : Hid _ := fContains_any _ _ q.1 q.2.1 ((h q.2.2).1) ((h q.2.2).2.1) ((h q.2.2).2.2) (.slice fa fn fc) (.slice da dn dc) (.slice ba bn bc) (.slice na nn nc) w.heap.size wr.heap.size w2 HPF.out m3' HM.out
        have HNM : Hid (∀ w', Calls Try.prog 74 #[.agg #[.string q.1, .int .i64 q.2.1, .int .i64 (h q.2.2).1, .int .i64 (h q.2.2).2.1, .bool (h q.2.2).2.2, .slice fa fn fc, .slice da dn dc, .slice ba bn bc, .slice na nn nc]] w' fun e w2 => e = .returned (.string q.1) ∧ Below w'.heap.size w' w2) := fun w' => fName_any q.1 q.2.1 ((h q.2.2).1) ((h q.2.2).2.1) ((h q.2.2).2.2) (.slice fa fn fc) (.slice da dn dc) (.slice ba bn bc) (.slice na nn nc) w'
        have HIN : Hid (∀ w', Calls Try.prog 91 #[.string q.1] w' fun e w2 => e = .returned (.bool (nameB q.1)) ∧ w2 = w') := fun w' => isName_any q.1 w'
        have HC2 : Hid (∀ w', Below w2.heap.size w2 w' → FC w' wr.heap.size q.1 q.2.1 ((h q.2.2).1) ((h q.2.2).2.1) ((h q.2.2).2.2) (.slice fa fn fc) (.slice da dn dc) (.slice ba bn bc) (.slice na nn nc) ∧ w'.cell? ⟨w.heap.size, 0, none⟩ = some (.func (.func 74) #[] #[])) := fun w' hb => ⟨HM.out.below hb, (hb.cell (World.block_lt_of_cell? w2 _ m3')).trans m3'⟩
        obtain ⟨b1, hb1⟩ : ∃ b, (l.take i).any (fun t => t.1.toList == q.1.toList) = b := ⟨_, rfl⟩
        obtain ⟨b2, hb2'⟩ : ∃ b, nameB q.1 = b := ⟨_, rfl⟩
        rw [hb1] at HCT HNO HSU
        rw [hb2'] at HIN HNO HSU
        clear hb1 hb2' hb2 hs2 h2 HPF HM m3'
        generalize q.1 = z0 at *
        generalize q.2.1 = z1 at *
        generalize (h q.2.2).1 = z2 at *
        generalize (h q.2.2).2.1 = z3 at *
        generalize (h q.2.2).2.2 = z4 at *
        cases b1 with
        | true =>
          have HE : Hid (namesB NS = false) := HNO.out (by simp)
          clear HNO HSU
          go_wp2_with (go_at_call 89; refine Calls.mono HCT.out ?_; rintro e w5 ⟨rfl, hb5⟩; have HB5 : Hid (Below w.heap.size w w5) := bel_next HBB2.out hb5; clear hb5)
          go_ret
          exact ⟨by rw [HE.out]; rfl, HB5.out⟩
        | false =>
          cases b2 with
          | true =>
            have HS2 : Hid (namesTo NS (i + 1) = true) := HSU.out (by simp)
            clear HNO HSU
            go_wp2_with (first | (go_at_call 89; refine Calls.mono HCT.out ?_; rintro e w5 ⟨rfl, hb5⟩; have HB5 : Hid (Below w2.heap.size w2 w5) := hb5; obtain ⟨⟨e0, e1, e2, e3, e4, e5, e6, e7, e8⟩, e9⟩ := HC2.out w5 hb5; clear hb5) | (go_at_call 74; refine Calls.mono (HNM.out _) ?_; rintro e w6 ⟨rfl, hb6⟩; have HB6 : Hid (Below w2.heap.size w2 w6) := bel_next HB5.out hb6; clear hb6) | (go_at_call 91; refine Calls.mono (HIN.out _) ?_; rintro e w7 ⟨rfl, hw7⟩; obtain rfl := hw7.symm))
            go_roundw
            case rel => exact ⟨i + 1, by omega, by go_num, HS2.out, bel_next HB2.out HB6.out⟩
            case measure => simp [intOf]; omega
          | false =>
            have HE : Hid (namesB NS = false) := HNO.out (by simp)
            clear HNO HSU
            go_wp2_with (first | (go_at_call 89; refine Calls.mono HCT.out ?_; rintro e w5 ⟨rfl, hb5⟩; have HB5 : Hid (Below w2.heap.size w2 w5) := hb5; obtain ⟨⟨e0, e1, e2, e3, e4, e5, e6, e7, e8⟩, e9⟩ := HC2.out w5 hb5; clear hb5) | (go_at_call 74; refine Calls.mono (HNM.out _) ?_; rintro e w6 ⟨rfl, hb6⟩; have HB6 : Hid (Below w2.heap.size w2 w6) := bel_next HB5.out hb6; clear hb6) | (go_at_call 91; refine Calls.mono (HIN.out _) ?_; rintro e w7 ⟨rfl, hw7⟩; obtain rfl := hw7.symm))
            go_ret
            exact ⟨by rw [HE.out]; rfl, bel_next HBB2.out HB6.out⟩
      · obtain rfl : i = N := by omega
        have HE : Hid (namesB NS = true) := by rw [Hid, HBD.out, HP.out]; rfl
        go_wp2_with fail
        go_ret
        exact ⟨by rw [HE.out]; rfl, bel_next HB1.out HB.out⟩
  · have d1 : decide (1 ≤ N ∧ N ≤ 16) = false := decide_eq_false hr
    rw [d1] at HW HBD
    have HE : Hid (namesB NS = false) := HBD.out
    clear d1 HBD
    go_enter Try.func73, Try.ntmps73
    go_wp2_with (go_at_call 54; refine (HW.out _).mono ?_; rintro e w5 ⟨rfl, hw5⟩; obtain rfl := hw5.symm)
    go_ret
    exact ⟨by rw [HE.out]; rfl, HB1.out⟩
theorem Nms.take {w : World} {ao : Option Addr} {n cap : Nat} {l : List (ByteArray × Int)} (H : Nms w (.slice ao n cap) l) {i : Nat} (hi : i ≤ n) : Nms w (.slice ao i cap) (l.take i) := by
  obtain ⟨h1, h2, ao', cap', e, h3, h4⟩ := H
  injection e with e1 e2 e3
  subst e1 e3
  have hl : (l.take i).length = i := by rw [List.length_take]; omega
  refine ⟨by omega, fun q hq => h2 q (List.mem_of_mem_take hq), ao, cap, by rw [hl], by omega, fun j q hj => h4 j q ?_⟩
  have hjl : j < i := by have := (List.getElem?_eq_some_iff.1 hj).1; omega
  rwa [List.getElem?_take_of_lt hjl] at hj
set_option maxHeartbeats 16000000 in
theorem mNamed_any (v : Value) (l : List (ByteArray × Int)) (w : World) (hl : Nms w v l) :
    Calls Try.prog 75 #[v, .func (.func 76) #[] #[]] w fun e w' => e = .returned (.bool (namesB (l.map (·.1)))) ∧ Below w.heap.size w w' := by
  have eg : ∀ args w, (callFunc 76 args).run Try.prog w = .ok (.enter 76 args) w := enters_of Try.func76 (by kernel_rfl) rfl
  have HX : Hid _ := hl
  obtain ⟨ao, cap, rfl, hcap, -⟩ := hl.is
  obtain ⟨N, hN⟩ : ∃ N, l.length = N := ⟨_, rfl⟩
  have hlen := hl.len
  rw [hN] at HX hcap hlen ⊢
  obtain ⟨NS, hNS⟩ : ∃ NS, l.map (·.1) = NS := ⟨_, rfl⟩
  have HNS : Hid (∀ i q, l[i]? = some q → NS[i]? = some q.1 ∧ (NS.take i).any (fun t => t.toList == q.1.toList) = (l.take i).any (fun t => t.1.toList == q.1.toList)) := fun i q hq => by
    rw [← hNS, List.getElem?_map, hq, ← List.map_take, List.any_map]
    exact ⟨rfl, rfl⟩
  have HNL : Hid (NS.length = N) := by rw [Hid, ← hNS, List.length_map, hN]
  have HBD : Hid (namesB NS = (decide (1 ≤ N ∧ N ≤ 16) && namesTo NS N)) := by rw [Hid, namesB, HNL.out]
  rw [hNS]
  clear hl hN hNS
  have HW : Hid (∀ w', Calls Try.prog 54 #[.int .i64 (N : Int), .int .i64 1, .int .i64 16] w' fun e w1 => e = .returned (.bool (decide (1 ≤ N ∧ N ≤ 16))) ∧ w1 = w') := fun w' => by
    have := within_any (N : Int) 1 16 w'
    rwa [show decide ((1 : Int) ≤ (N : Int) ∧ (N : Int) ≤ 16) = decide (1 ≤ N ∧ N ≤ 16) by congr 1; simp; omega] at this
  obtain ⟨w1, hw1, hb1, hs1, h1⟩ : ∃ w1, w.alloc (.cells #[.func (.func 76) #[] #[]] 105) = w1 ∧ Below w.heap.size w w1 ∧ w1.heap.size = w.heap.size + 1 ∧ w1.cell? ⟨w.heap.size, 0, none⟩ = some (.func (.func 76) #[] #[]) := ⟨_, rfl, (Below.refl _ _).alloc (Nat.le_refl _) _, World.size_alloc _ _, by rw [World.cell?_alloc_mark]; rfl⟩
  have HB1 : Hid (Below w.heap.size w w1) := hb1
  have H1 : Hid (w1.cell? ⟨w.heap.size, 0, none⟩ = some (.func (.func 76) #[] #[])) := h1
  clear hb1 hs1 h1
  by_cases hr : 1 ≤ N ∧ N ≤ 16
  · have d1 : decide (1 ≤ N ∧ N ≤ 16) = true := decide_eq_true hr
    rw [d1] at HW HBD
    clear d1
    go_enter Try.func75, Try.ntmps75
    go_wp2_with (go_at_call 54; refine (HW.out _).mono ?_; rintro e w5 ⟨rfl, hw5⟩; obtain rfl := hw5.symm)
    go_loopw [14] (fun y wr => ∃ i : Nat, i ≤ N ∧ y = .int .i64 (i : Int) ∧ Hid (namesTo NS i = true) ∧ Hid (Below w1.heap.size w1 wr)) (fun y _ => N - (intOf y).toNat)
    case atStart => exact ⟨0, by omega, by simp, rfl, Below.refl _ _⟩
    case round =>
      obtain ⟨i, hin, rfl, HP, HB⟩ := hrel
      by_cases hlt : i < N
      · obtain ⟨g, o, q, rfl, hq, hqr, k0, k1⟩ := HX.out.at hlt
        obtain ⟨hn1, hn2⟩ := HNS.out i q hq
        have HNO : Hid ((nameB q.1 && !(l.take i).any (fun t => t.1.toList == q.1.toList)) = false → namesB NS = false) := fun h => namesB_no hn1 (by rw [hn2]; exact h)
        have HSU : Hid ((nameB q.1 && !(l.take i).any (fun t => t.1.toList == q.1.toList)) = true → namesTo NS (i + 1) = true) := fun h => by rw [namesTo_succ hn1, HP.out, hn2, h]; rfl
        have HBB : Hid (Below w.heap.size w wr) := bel_next HB1.out HB.out
        have K : ∀ {p : Addr} {x : Value}, w.cell? p = some x → wr.cell? p = some x := fun h => (HBB.out.cell (World.block_lt_of_cell? w _ h)).trans h
        replace k0 := K k0
        replace k1 := K k1
        have m3 : wr.cell? ⟨w.heap.size, 0, none⟩ = some (.func (.func 76) #[] #[]) := (HB.out.cell (World.block_lt_of_cell? w1 _ H1.out)).trans H1.out
        clear K hq hqr hn1 hn2
        obtain ⟨w2, hw2, hb2, hs2, h2⟩ := mc_made wr q.1 q.2
        have HB2 : Hid (Below w1.heap.size w1 w2) := bel_next HB.out hb2
        have HBB2 : Hid (Below w.heap.size w w2) := bel_next HB1.out HB2.out
        have m3' : w2.cell? ⟨w.heap.size, 0, none⟩ = some (.func (.func 76) #[] #[]) := (hb2.cell (World.block_lt_of_cell? wr _ m3)).trans m3
        have HPF : Hid (Nms w2 (.slice (some ⟨g, o, none⟩) i cap) (l.take i)) := (HX.out.take hin).below HBB2.out
        have HM : Hid (MC w2 wr.heap.size q.1 q.2) := h2
        have HCT : Hid _ := mContains_any _ _ q.1 q.2 w.heap.size wr.heap.size w2 HPF.out m3' HM.out
        have HNM : Hid (∀ w', Calls Try.prog 76 #[.agg #[.string q.1, .int .i64 q.2]] w' fun e w2 => e = .returned (.string q.1) ∧ Below w'.heap.size w' w2) := fun w' => mName_any q.1 q.2 w'
        have HIN : Hid (∀ w', Calls Try.prog 91 #[.string q.1] w' fun e w2 => e = .returned (.bool (nameB q.1)) ∧ w2 = w') := fun w' => isName_any q.1 w'
        have HC2 : Hid (∀ w', Below w2.heap.size w2 w' → MC w' wr.heap.size q.1 q.2 ∧ w'.cell? ⟨w.heap.size, 0, none⟩ = some (.func (.func 76) #[] #[])) := fun w' hb => ⟨HM.out.below hb, (hb.cell (World.block_lt_of_cell? w2 _ m3')).trans m3'⟩
        obtain ⟨b1, hb1⟩ : ∃ b, (l.take i).any (fun t => t.1.toList == q.1.toList) = b := ⟨_, rfl⟩
        obtain ⟨b2, hb2'⟩ : ∃ b, nameB q.1 = b := ⟨_, rfl⟩
        rw [hb1] at HCT HNO HSU
        rw [hb2'] at HIN HNO HSU
        clear hb1 hb2' hb2 hs2 h2 HPF HM m3'
        generalize q.1 = z0 at *
        generalize q.2 = z1 at *
        cases b1 with
        | true =>
          have HE : Hid (namesB NS = false) := HNO.out (by simp)
          clear HNO HSU
          go_wp2_with (go_at_call 77; refine Calls.mono HCT.out ?_; rintro e w5 ⟨rfl, hb5⟩; have HB5 : Hid (Below w.heap.size w w5) := bel_next HBB2.out hb5; clear hb5)
          go_ret
          exact ⟨by rw [HE.out]; rfl, HB5.out⟩
        | false =>
          cases b2 with
          | true =>
            have HS2 : Hid (namesTo NS (i + 1) = true) := HSU.out (by simp)
            clear HNO HSU
            go_wp2_with (first | (go_at_call 77; refine Calls.mono HCT.out ?_; rintro e w5 ⟨rfl, hb5⟩; have HB5 : Hid (Below w2.heap.size w2 w5) := hb5; obtain ⟨⟨e0, e1⟩, e9⟩ := HC2.out w5 hb5; clear hb5) | (go_at_call 76; refine Calls.mono (HNM.out _) ?_; rintro e w6 ⟨rfl, hb6⟩; have HB6 : Hid (Below w2.heap.size w2 w6) := bel_next HB5.out hb6; clear hb6) | (go_at_call 91; refine Calls.mono (HIN.out _) ?_; rintro e w7 ⟨rfl, hw7⟩; obtain rfl := hw7.symm))
            go_roundw
            case rel => exact ⟨i + 1, by omega, by go_num, HS2.out, bel_next HB2.out HB6.out⟩
            case measure => simp [intOf]; omega
          | false =>
            have HE : Hid (namesB NS = false) := HNO.out (by simp)
            clear HNO HSU
            go_wp2_with (first | (go_at_call 77; refine Calls.mono HCT.out ?_; rintro e w5 ⟨rfl, hb5⟩; have HB5 : Hid (Below w2.heap.size w2 w5) := hb5; obtain ⟨⟨e0, e1⟩, e9⟩ := HC2.out w5 hb5; clear hb5) | (go_at_call 76; refine Calls.mono (HNM.out _) ?_; rintro e w6 ⟨rfl, hb6⟩; have HB6 : Hid (Below w2.heap.size w2 w6) := bel_next HB5.out hb6; clear hb6) | (go_at_call 91; refine Calls.mono (HIN.out _) ?_; rintro e w7 ⟨rfl, hw7⟩; obtain rfl := hw7.symm))
            go_ret
            exact ⟨by rw [HE.out]; rfl, bel_next HBB2.out HB6.out⟩
      · obtain rfl : i = N := by omega
        have HE : Hid (namesB NS = true) := by rw [Hid, HBD.out, HP.out]; rfl
        go_wp2_with fail
        go_ret
        exact ⟨by rw [HE.out]; rfl, bel_next HB1.out HB.out⟩
  · have d1 : decide (1 ≤ N ∧ N ≤ 16) = false := decide_eq_false hr
    rw [d1] at HW HBD
    have HE : Hid (namesB NS = false) := HBD.out
    clear d1 HBD
    go_enter Try.func75, Try.ntmps75
    go_wp2_with (go_at_call 54; refine (HW.out _).mono ?_; rintro e w5 ⟨rfl, hw5⟩; obtain rfl := hw5.symm)
    go_ret
    exact ⟨by rw [HE.out]; rfl, HB1.out⟩
end Go.Proofs.Ytojcokdfplldbaa
