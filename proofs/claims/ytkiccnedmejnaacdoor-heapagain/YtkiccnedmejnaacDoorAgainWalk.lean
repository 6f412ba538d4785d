/-
  The walk of the law HeapAgain. Conditions: the table of check stands.
-/
import Derived.Test.YtkiccnedmejnaacDoorHFill2
import Derived.Test.YtkiccnedmejnaacDoorPlace
namespace Go.Proofs.YtkiccnedmejnaacDoor
open Go.ChangeShapes Go.WideShapes Go.ChangeAt Go.RowKit Go.Maps
set_option linter.unusedVariables false
set_option maxRecDepth 100000

theorem okL_all {ls : List (List Int)} (h : ∀ k, k < ls.length → (ls.getD k []).length ≤ 65536) : okL ls = ls := by
  unfold okL
  rw [List.filter_eq_self]
  intro b hb
  obtain ⟨r, hr, rfl⟩ := List.getElem_of_mem hb
  have := h r hr
  rw [List.getD, List.getElem?_eq_getElem hr] at this
  simpa using this
def gap (ls : List (List Int)) (k : Nat) : Int → Option (List Int) := dropT (tbl ls) [(k : Int)]
theorem gap_at (ls : List (List Int)) (k : Nat) : gap ls k (k : Int) = none := by simp [gap, dropT]
theorem gap_other (ls : List (List Int)) (k i : Nat) (h : i ≠ k) : gap ls k (i : Int) = ls[i]? := by
  unfold gap dropT
  rw [if_neg (by simp; omega), tbl_nat]
def gapIds (n k : Nat) : List Int := (List.range k).map (fun i : Nat => (i : Int)) ++ (List.range (n - 1 - k)).map (fun i : Nat => ((k + 1 + i : Nat) : Int))
theorem gap_ids (ls : List (List Int)) (k : Nat) (hk : k < ls.length) : Ids (gap ls k) (gapIds ls.length k) := by
  refine ⟨?_, fun i => ?_⟩
  · unfold gapIds
    rw [List.pairwise_append]
    refine ⟨?_, ?_, ?_⟩
    · rw [List.pairwise_map]; exact List.pairwise_lt_range.imp (fun h => by omega)
    · rw [List.pairwise_map]; exact List.pairwise_lt_range.imp (fun h => by omega)
    · intro a ha b hb
      simp only [List.mem_map, List.mem_range] at ha hb
      obtain ⟨x, hx, rfl⟩ := ha
      obtain ⟨y, hy, rfl⟩ := hb
      omega
  · unfold gapIds
    rw [List.mem_append, List.mem_map, List.mem_map]
    simp only [List.mem_range]
    constructor
    · rintro (⟨a, ha, rfl⟩ | ⟨a, ha, rfl⟩)
      · rw [gap_other _ _ _ (by omega), List.getElem?_eq_getElem (by omega)]; rfl
      · rw [gap_other _ _ _ (by omega), List.getElem?_eq_getElem (by omega)]; rfl
    · intro h
      have h0 : 0 ≤ i := by
        rcases Int.lt_or_le i 0 with h1 | h1
        · unfold gap dropT tbl at h
          rw [if_neg (by omega : ¬ (0 ≤ i))] at h
          split at h <;> simp at h
        · exact h1
      obtain ⟨j, rfl⟩ := Int.eq_ofNat_of_zero_le h0
      by_cases hj : j = k
      · subst hj; rw [gap_at] at h; simp at h
      · rw [gap_other _ _ _ hj] at h
        have hlt : j < ls.length := by
          rcases Nat.lt_or_ge j ls.length with h1 | h1
          · exact h1
          · rw [List.getElem?_eq_none h1] at h; simp at h
        rcases Nat.lt_or_ge j k with h1 | h1
        · exact .inl ⟨j, h1, rfl⟩
        · exact .inr ⟨j - (k + 1), by omega, by omega⟩
theorem gapIds_len (n k : Nat) (h : k < n) : (gapIds n k).length = n - 1 := by simp [gapIds]; omega
theorem gap_free {ls : List (List Int)} {k j : Nat} (hk : k < ls.length) (h : Free (gap ls k) j) : j = k := by
  rcases Nat.lt_trichotomy j k with h1 | h1 | h1
  · have := h.1
    rw [gap_other _ _ _ (by omega), List.getElem?_eq_getElem (by omega)] at this
    cases this
  · exact h1
  · obtain ⟨b, hb⟩ := h.2 k h1
    rw [gap_at] at hb; cases hb
/-- What stands behind the drop and the add. -/
theorem gap_full (ls : List (List Int)) (k : Nat) (b : List Int) (i : Nat) (hi : i < ls.length) : putT (gap ls k) (k : Int) (some b) (i : Int) = some (if i = k then b else ls.getD i []) := by
  by_cases h : i = k
  · subst h; rw [putT_same, if_pos rfl]
  · rw [putT_other _ _ (by omega), gap_other _ _ _ h, if_neg h, List.getD, List.getElem?_eq_getElem hi]; rfl

theorem Rws.below {w w' : World} {v : Value} {ls : List (List Int)} (h : Rws w v ls) (hb : Below w.heap.size w w') : Rws w' v ls := by
  obtain ⟨ao, cap, rfl, hc, hcell⟩ := h
  refine ⟨ao, cap, rfl, hc, fun r hr => ?_⟩
  obtain ⟨b, off, u, h1, h2, h3, h4⟩ := hcell r hr
  exact ⟨b, off, u, h1, (hb.cell (World.block_lt_of_cell? w _ h2)).trans h2, h3.below hb, h4⟩
theorem Zs.one (w : World) (x : Int) : Zs (w.alloc (.cells #[.int .i64 x] 3)) (.slice (some ⟨w.heap.size, 0, none⟩) 1 1) [x] := by
  refine ⟨_, 1, rfl, Nat.le_refl _, fun i hi => ⟨w.heap.size, rfl, ?_⟩⟩
  obtain rfl : i = 0 := by simpa using hi
  have h9 := heap_alloc_new w (.cells #[.int .i64 x] 3)
  simp only [World.cell?, h9]
  rfl
/-- All are handed in, one is dropped. -/
theorem gap_made (v vd : Value) (ls : List (List Int)) (q : Nat) (w : World) (hR : Rws w v ls) (hZ : Zs w vd [(q : Int)]) (hn : ls.length ≤ 100) (hq : q < ls.length) (hs : ∀ k, k < ls.length → (ls.getD k []).length ≤ 65536) :
    Calls Tryd.prog 5 #[v, vd] w fun e w' => ∃ (p m c low : Nat) (D : DataW Value), e = .returned (.pointer (some ⟨p, 0, none⟩)) ∧ c + 1 = ls.length ∧ HP w' w.heap.size p m c low ls.length (gap ls q) D ∧ Below w.heap.size w w' := by
  refine (filled_any v vd ls [(q : Int)] w hR hZ hn (by simp) (fun x hx => by simp at hx; omega)).mono ?_
  rintro e w' ⟨c, low, D, rfl, hc, hp, hb⟩
  rw [okL_all hs] at hp
  have h1 := (gap_ids ls q hq).count hp.mp
  rw [gapIds_len _ _ hq] at h1
  exact ⟨_, _, c, low, D, rfl, by omega, hp, hb⟩
/-- The number that was dropped is given again. -/
theorem gap_add {w : World} {B p m c low : Nat} {ls : List (List Int)} {q : Nat} {D : DataW Value} (h : HP w B p m c low ls.length (gap ls q) D) (hB : B ≤ w.heap.size) (hn : ls.length ≤ 100) (hc : c + 1 = ls.length) (hq : q < ls.length) (vb : Value) (lb : List Int) (hv : Bs w vb lb) (hy : Byt lb) (hl : lb.length ≤ 65536) :
    Calls Tryd.prog 7 #[.pointer (some ⟨p, 0, none⟩), vb] w fun e w' => ∃ (low' : Nat) (D' : DataW Value), e = .returned (.tuple #[.int .i64 (q : Int), .int .i64 0]) ∧ HP w' B p m ls.length low' (ls.length + 1) (putT (gap ls q) (q : Int) (some lb)) D' ∧ Below B w w' := by
  refine (hadd_any h hB vb lb hv hy hl (by omega) (by omega)).mono ?_
  rintro e w' ⟨j, D', rfl, hF, hj, hp, hb⟩
  obtain rfl := gap_free hq hF
  rw [hc] at hp
  exact ⟨_, D', rfl, hp, hb⟩

set_option maxHeartbeats 8000000 in
theorem heapAgain_walk (v : Value) (ls : List (List Int)) (a1 : Int) (vb : Value) (lb : List Int) (W : World) (hT : Tab W) (hR : Rws W v ls) (w1 : (Lit.int .i64 a1).wf = true) (hB : Bs W vb lb) (hyb : Byt lb) (hzb : lb.length ≤ 140737488351232) :
    Calls Tryd.prog 3 #[v, .int .i64 a1, vb] W fun e W' => e = .returned (.bool true) ∧ Below W.heap.size W W' := by
  have ha := bounds_i64 w1
  clear w1
  have HT : Hid (Tab W) := hT
  have HR : Hid (Rws W v ls) := hR
  have HBB : Hid (Bs W vb lb) := hB
  obtain ⟨n, HN⟩ : ∃ n, Hid (ls.length = n) := ⟨_, rfl⟩
  obtain ⟨nb, HNB⟩ : ∃ nb, Hid (lb.length = nb) := ⟨_, rfl⟩
  obtain ⟨ao, cap, rfl, hcap, hcell⟩ := hR
  obtain ⟨aob, capb, rfl, hcapb, _, _⟩ := hB
  rw [HN.out] at hcap hcell HR ⊢
  rw [HNB.out] at hcapb hzb HBB ⊢
  have HCL : Hid (∀ r, r < n → ∃ b off u, ao = some ⟨b, off, none⟩ ∧ W.cell? ⟨b, off + r, none⟩ = some u ∧ Bs W u (ls.getD r []) ∧ Byt (ls.getD r [])) := hcell
  clear hcell hT
  have HLV : Hid (∀ w, Below W.heap.size W w → Calls Tryd.prog 4 #[] w fun e w' => e = .returned (.bool true) ∧ Below W.heap.size W w') := fun w hw => (lives6_any w (HT.out.below hw)).mono (fun e w' ⟨h1, h2⟩ => ⟨h1, hw.trans (h2.mono hw.size)⟩)
  by_cases hn0 : n = 0
  · subst hn0
    go_enter Tryd.func3, Tryd.ntmps3
    go_wp2_with (go_at_call 4; refine (HLV.out _ (Below.refl _ _)).mono ?_; rintro e w3 ⟨rfl, hb3⟩)
    go_ret
    exact ⟨rfl, by assumption⟩
  have hnz : ((n : Int) == 0) = false := by simp; omega
  by_cases h100 : 100 < (n : Int)
  · have h1' : decide (100 < (n : Int)) = true := by simpa using h100
    go_enter Tryd.func3, Tryd.ntmps3
    go_wp2_with (go_at_call 4; refine (HLV.out _ (Below.refl _ _)).mono ?_; rintro e w3 ⟨rfl, hb3⟩)
    go_ret
    exact ⟨rfl, by assumption⟩
  have h2' : decide (100 < (n : Int)) = false := by simpa using h100
  by_cases hbig : 65536 < (nb : Int)
  · have h3' : decide (65536 < (nb : Int)) = true := by simpa using hbig
    go_enter Tryd.func3, Tryd.ntmps3
    go_wp2_with (go_at_call 4; refine (HLV.out _ (Below.refl _ _)).mono ?_; rintro e w3 ⟨rfl, hb3⟩)
    go_ret
    exact ⟨rfl, by assumption⟩
  have h4' : decide (65536 < (nb : Int)) = false := by simpa using hbig
  go_enter Tryd.func3, Tryd.ntmps3
  go_wp2_with fail
  go_loopw [7] (fun i wr => ∃ k : Nat, k ≤ n ∧ i = .int .i64 (k : Int) ∧ Hid (wr = W) ∧ Hid (∀ j, j < k → (ls.getD j []).length ≤ 65536)) (fun i _ => n - (intOf i).toNat)
  case atStart => exact ⟨0, Nat.zero_le _, by simp, rfl, fun j hj => by omega⟩
  case round =>
    obtain ⟨k, hk, rfl, HW, HS⟩ := hrel
    obtain rfl := HW.out.symm
    clear HW
    by_cases hlt : k < n
    · obtain ⟨g, off, u, rfl, hc0, hbs, _⟩ := HCL.out k hlt
      obtain ⟨au, cu, rfl, hcu, _, _⟩ := hbs
      obtain ⟨lu, HLU⟩ : ∃ lu, Hid ((ls.getD k []).length = lu) := ⟨_, rfl⟩
      rw [HLU.out] at hc0 hcu
      by_cases hlu : 65536 < (lu : Int)
      · have h5' : decide (65536 < (lu : Int)) = true := by simpa using hlu
        go_wp2_with (go_at_call 4; refine (HLV.out _ (Below.refl _ _)).mono ?_; rintro e w3 ⟨rfl, hb3⟩)
        go_ret
        exact ⟨rfl, by assumption⟩
      · have h5' : decide (65536 < (lu : Int)) = false := by simpa using hlu
        go_wp2_with fail
        go_roundw
        case rel =>
          refine ⟨k + 1, hlt, by simp, (by first | exact trivial | exact rfl), fun j hj => ?_⟩
          rcases Nat.lt_or_ge j k with h1 | h1
          · exact HS.out j h1
          · obtain rfl : j = k := by omega
            rw [HLU.out]; omega
        case measure => simp [intOf]; omega
    · obtain rfl : k = n := by omega
      clear hlt
      obtain ⟨q, hq, hq1, hq2, hq3⟩ := place_any a1 k (by omega)
      have hln := HN.out
      have hOKs : ∀ j, j < ls.length → (ls.getD j []).length ≤ 65536 := fun j hj => HS.out j (by omega)
      have HFA : Hid (∀ w vd, Below W.heap.size W w → Zs w vd [(q : Int)] → Calls Tryd.prog 5 #[.slice ao k cap, vd] w fun e w' => ∃ (B p m c low : Nat) (D : DataW Value), e = .returned (.pointer (some ⟨p, 0, none⟩)) ∧ c + 1 = k ∧ HP w' B p m c low ls.length (gap ls q) D ∧ Below W.heap.size W w' ∧ W.heap.size ≤ B ∧ B ≤ w'.heap.size) := fun w vd hw hz => by
        refine (gap_made (.slice ao k cap) vd ls q w (HR.out.below hw) hz (by omega) (by omega) hOKs).mono ?_
        rintro e w' ⟨p, m, c, low, D, h1, h2, h3, h4⟩
        exact ⟨_, p, m, c, low, D, h1, by omega, h3, hw.trans (h4.mono hw.size), hw.size, h4.size⟩
      have HAD : Hid (∀ w B p m c low D, HP w B p m c low ls.length (gap ls q) D → B ≤ w.heap.size → c + 1 = k → Below W.heap.size W w → Calls Tryd.prog 7 #[.pointer (some ⟨p, 0, none⟩), .slice aob nb capb] w fun e w' => ∃ (low' : Nat) (D' : DataW Value), e = .returned (.tuple #[.int .i64 (q : Int), .int .i64 0]) ∧ HP w' B p m k low' (k + 1) (putT (gap ls q) (q : Int) (some lb)) D' ∧ Below B w w') := fun w B p m c low D hp hB hc hw => by
        have := gap_add hp hB (by omega) (by omega) (by omega) _ lb (HBB.out.below hw) hyb (by rw [HNB.out]; omega)
        rw [hln] at this
        exact this
      have HGF : Hid (∀ i : Nat, i < k → putT (gap ls q) (q : Int) (some lb) (i : Int) = some (if i = q then lb else ls.getD i [])) := fun i hi => gap_full ls q lb i (by omega)
      have hkz : ((k : Int) == 0) = false := by simp; omega
      clear hln hOKs
      go_wp2_with (first
        | (go_at_call 5; refine (HFA.out _ _ ((Below.refl _ _).alloc (Nat.le_refl _) _) (Zs.one _ _)).mono ?_; rintro e w3 ⟨B3, p3, m3, c3, low3, D3, rfl, hc3, hp3, hb3, hB3⟩; have HP3 : Hid (HP w3 B3 p3 m3 c3 low3 ls.length (gap ls q) D3) := hp3; have HB3 : Hid (Below W.heap.size W w3) := hb3; have HS3 : Hid (W.heap.size ≤ B3 ∧ B3 ≤ w3.heap.size) := hB3; have HC3 : Hid ((c3 : Int) = (k : Int) - 1) := (by unfold Hid; omega); have HCC : Hid (c3 + 1 = k) := hc3; clear hp3 hb3 hc3 hB3)
        | (go_at_call 6; refine (hlen_any HP3.out).mono ?_; rintro e w4 ⟨rfl, hw4⟩; obtain rfl := hw4.symm; rw [HC3.out])
        | (go_at_call 7; refine (HAD.out _ _ _ _ _ _ _ HP3.out HS3.out.2 HCC.out HB3.out).mono ?_; rintro e w5 ⟨low5, D5, rfl, hp5, hb5⟩; have HP5 : Hid (HP w5 B3 p3 m3 k low5 (k + 1) (putT (gap ls q) (q : Int) (some lb)) D5) := hp5; have HB5 : Hid (Below W.heap.size W w5) := HB3.out.trans (hb5.mono HS3.out.1); clear hp5 hb5 HP3)
        | (go_at_call 6; refine (hlen_any HP5.out).mono ?_; rintro e w6 ⟨rfl, hw6⟩; obtain rfl := hw6.symm))
      go_loopw [12] (fun x wr => ∃ i : Nat, i ≤ k ∧ x = .int .i64 (i : Int) ∧ Hid (HP wr B3 p3 m3 k low5 (k + 1) (putT (gap ls q) (q : Int) (some lb)) D5) ∧ Hid (Below W.heap.size W wr)) (fun x _ => k - (intOf x).toNat)
      case atStart => exact ⟨0, Nat.zero_le _, by simp, HP5.out, HB5.out⟩
      case round =>
        obtain ⟨i, hik, rfl, HP6, HB6⟩ := hrel
        by_cases hlt2 : i < k
        · obtain ⟨g, off, u, rfl, hc0, hbs, _⟩ := HCL.out i hlt2
          have HBU : Hid (Bs wr u (ls.getD i [])) := hbs.below HB6.out
          obtain ⟨au, cu, rfl, hcu, _, _⟩ := hbs
          obtain ⟨lu, HLU⟩ : ∃ lu, Hid ((ls.getD i []).length = lu) := ⟨_, rfl⟩
          have hT6 := HGF.out i hlt2
          rw [HLU.out] at hc0 hcu HBU
          have hc1 : wr.cell? ⟨g, off + i, none⟩ = some (.slice au lu cu) := (HB6.out.cell (World.block_lt_of_cell? W _ hc0)).trans hc0
          have HBV : Hid (Bs wr (.slice aob nb capb) lb) := HBB.out.below HB6.out
          clear hc0
          by_cases hiq : i = q
          · subst hiq
            rw [if_pos rfl] at hT6
            have HG : Hid _ := hget_some HP6.out (i : Int) (by omega) (by omega) lb hT6
            rw [HNB.out] at HG
            clear hT6
            go_wp2_with (go_at_call 8; refine Calls.mono HG.out ?_; rintro e w7 ⟨ao7, cap7, rfl, ho7, hb7⟩; have hs7 := Bs.str (P := Tryd.prog) ho7.bs Tryd.underlying23 Tryd.underlying5 Tryd.underlying9; have hs8 := Bs.str (P := Tryd.prog) (HBV.out.below hb7) Tryd.underlying23 Tryd.underlying5 Tryd.underlying9; have hc7 : w7.cell? ⟨g, off + i, none⟩ = some (.slice au lu cu) := (hb7.cell (World.block_lt_of_cell? wr _ hc1)).trans hc1; have HB7 : Hid (Below wr.heap.size wr w7) := hb7; clear ho7 hb7)
            go_roundw
            case rel => exact ⟨i + 1, hlt2, by simp, HP6.out.below HB7.out, HB6.out.trans (HB7.out.mono HB6.out.size)⟩
            case measure => simp [intOf]; omega
          · rw [if_neg hiq] at hT6
            have HG : Hid _ := hget_some HP6.out (i : Int) (by omega) (by omega) (ls.getD i []) hT6
            rw [HLU.out] at HG
            have hiq2 : ((i : Int) == (q : Int)) = false := by simp; omega
            clear hT6
            go_wp2_with (go_at_call 8; refine Calls.mono HG.out ?_; rintro e w7 ⟨ao7, cap7, rfl, ho7, hb7⟩; have hs7 := Bs.str (P := Tryd.prog) ho7.bs Tryd.underlying23 Tryd.underlying5 Tryd.underlying9; have hs8 := Bs.str (P := Tryd.prog) (HBU.out.below hb7) Tryd.underlying23 Tryd.underlying5 Tryd.underlying9; have hc7 : w7.cell? ⟨g, off + i, none⟩ = some (.slice au lu cu) := (hb7.cell (World.block_lt_of_cell? wr _ hc1)).trans hc1; have HB7 : Hid (Below wr.heap.size wr w7) := hb7; clear ho7 hb7)
            go_roundw
            case rel => exact ⟨i + 1, hlt2, by simp, HP6.out.below HB7.out, HB6.out.trans (HB7.out.mono HB6.out.size)⟩
            case measure => simp [intOf]; omega
        · obtain rfl : i = k := by omega
          go_wp2_with (go_at_call 4; refine (HLV.out _ HB6.out).mono ?_; rintro e w9 ⟨rfl, hb9⟩; have HB9 : Hid (Below W.heap.size W w9) := hb9; clear hb9)
          go_ret
          exact ⟨rfl, HB9.out⟩
end Go.Proofs.YtkiccnedmejnaacDoor
