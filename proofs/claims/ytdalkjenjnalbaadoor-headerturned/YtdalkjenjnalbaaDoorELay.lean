/-
  Lay: the blocks of messages, or an error. Conditions: lengths are such as memory bears; the table of the sum and the empty extent stand.
-/
import Derived.Test.YtdalkjenjnalbaaDoorEBlks
namespace Go.Proofs.YtdalkjenjnalbaaDoor
open Go.RowKit
set_option linter.unusedVariables false
set_option maxRecDepth 100000

theorem room_total {r : List Ext} (hw : ∀ x ∈ r, Wd x) : r.length ≤ 65536 → totalL r = (roomOf r : Int) + 16 * (r.length : Int) := by
  rw [← List.reverse_reverse r] at *
  generalize r.reverse = m at *
  induction m with
  | nil => intro _; rfl
  | cons x m ih =>
    intro hl
    rw [List.reverse_cons] at hw hl ⊢
    have hx : Wd x := hw x (by simp)
    have ih' := ih (fun y hy => hw y (List.mem_append_left _ hy)) (by rw [List.length_append] at hl; omega)
    have hrm : ∀ (q : List Ext), (∀ y ∈ q, Wd y) → roomOf q ≤ q.length * 4194304 := by
      intro q
      induction q with
      | nil => intro _; simp [roomOf]
      | cons y q ihq =>
        intro h
        have h1 := ihq (fun z hz => h z (List.mem_cons_of_mem _ hz))
        have h2 := h y List.mem_cons_self
        have h3 : roomOf (y :: q) = rmX y + roomOf q := by simp [roomOf]
        have h4 : rmX y ≤ 4194304 := by unfold rmX; have := h2.1; have := h2.2.1; have := h2.2.2; omega
        rw [h3, List.length_cons, Nat.add_mul]
        omega
    have hb := hrm m.reverse (fun y hy => hw y (List.mem_append_left _ hy))
    have hm : mayB x = true := mayB_iff.2 ⟨hx.1, by have := hx.2.1; omega, hx.2.2⟩
    have e1 : roomOf (m.reverse ++ [x]) = roomOf m.reverse + rmX x := by simp [roomOf]
    have e2 : ((rmX x : Nat) : Int) = x.2 - 16 := by unfold rmX; have := hx.2.1; omega
    rw [totalL_snoc, if_pos hm, ih', e1, List.length_append]
    rw [List.length_append] at hl
    have h1 := hx.1
    have h2 := hx.2.1
    have h3 := hx.2.2
    simp only [List.length_cons, List.length_nil] at hl ⊢
    rw [Int.min_eq_left (by omega)]
    push_cast
    omega
theorem strm_byt {l : List Msg} (h : MOk l) : Byt (strm l) := by
  refine byt_join (byt_dig2 true _ 4) ?_
  induction l with
  | nil => intro i; simp
  | cons m l ih =>
    rw [List.flatMap_cons]
    exact byt_join (byt_join (byt_dig2 true _ 4) (byt_join (byt_dig2 true _ 4) (h m List.mem_cons_self).2.2)) (ih (fun x hx => h x (List.mem_cons_of_mem _ hx)))
def layErr (l : List Msg) (r : List Ext) : Int := if szErr l ≠ 0 then szErr l else if 65536 < r.length then 3 else if r.any narrowB then 2 else if meetsB r then 2 else if (roomOf r : Int) < szOf l then 7 else 0
def layL (l : List Msg) (r : List Ext) : List (Int × List Int) := if layErr l r = 0 then blksM r (strm l) else []
theorem bks_nil (w : World) (B : Nat) : BkS w B (.slice none 0 0) [] := by
  refine ⟨fun p hp => ?_, ?_⟩
  · simp only [List.map_nil, List.mem_singleton] at hp
    subst hp
    exact ⟨rfl, .inl ⟨rfl, rfl⟩⟩
  · simp [rowBk, Pc.blk, Value.ownBlock]
theorem szErr_zero {l : List Msg} (h : szErr l = 0) : l.length ≤ 65536 ∧ l.any longB = false ∧ l.any kindB = false := by
  unfold szErr at h
  split at h
  · omega
  · split at h
    · omega
    · split at h
      · omega
      · rename_i h1 h2 h3
        exact ⟨by omega, by simpa using h2, by simpa using h3⟩
set_option maxHeartbeats 4000000 in
theorem lay_any (w : World) (vl vr : Value) (l : List Msg) (r : List Ext) (hM : Ms w vl l) (hk : MOk l) (hn : l.length ≤ 140737488351232) (hR : Xs w vr r) (hE : EWs r) (hr : r.length ≤ 281474976710656) (hT : Tab w) (hX : NoX w) :
    Calls Tryd.prog 15 #[vl, vr] w fun e w' => ∃ v L, e = .returned (.tuple #[v, .int .i64 (layErr l r)]) ∧ L.map plB = layL l r ∧ BkS w' w.heap.size v L ∧ Below w.heap.size w w' := by
  have HM : Hid (Ms w vl l) := hM
  have HR : Hid (Xs w vr r) := hR
  have HSZ : Hid _ := size_any w vl l hM hn
  have HNA : Hid (∀ W, Below w.heap.size w W → Calls Tryd.prog 29 #[vr, .func (.func 30) #[] #[]] W fun e w' => e = .returned (.bool (r.any narrowB)) ∧ Below W.heap.size W w') := fun W hW => hasN_any W vr r (HR.out.below hW) hE (by omega)
  have HME : Hid (r.length ≤ 65536 → ∀ W, Below w.heap.size w W → Calls Tryd.prog 31 #[vr] W fun e w' => e = .returned (.bool (meetsB r)) ∧ Below W.heap.size W w') := fun hh W hW => meets_any vr r W (HR.out.below hW) hE (by omega)
  have HTO : Hid (∀ W, Below w.heap.size w W → Calls Tryd.prog 32 #[vr] W fun e w' => e = .returned (.int .i64 (totalL r)) ∧ Below W.heap.size W w') := fun W hW => total_any vr r W (HR.out.below hW) hE (by omega)
  obtain ⟨aol, capl, hvl, _⟩ := hM
  obtain ⟨aor, capr, hvr, _⟩ := hR
  subst hvl hvr
  obtain ⟨se, HSE⟩ : ∃ se, Hid (szErr l = se) := ⟨_, rfl⟩
  obtain ⟨sn, HSN⟩ : ∃ sn, Hid (szN l = sn) := ⟨_, rfl⟩
  obtain ⟨rn, HRN⟩ : ∃ rn, Hid (r.length = rn) := ⟨_, rfl⟩
  obtain ⟨bn, HBN⟩ : ∃ bn, Hid (r.any narrowB = bn) := ⟨_, rfl⟩
  obtain ⟨bm, HBM⟩ : ∃ bm, Hid (meetsB r = bm) := ⟨_, rfl⟩
  obtain ⟨er, HER⟩ : ∃ er, Hid (layErr l r = er) := ⟨_, rfl⟩
  have HLE : Hid (er = if se ≠ 0 then se else if 65536 < rn then 3 else if bn = true then 2 else if bm = true then 2 else if (roomOf r : Int) < szOf l then 7 else 0) := by unfold Hid; rw [← HER.out, layErr, HSE.out, HRN.out, HBN.out, HBM.out]
  have HLL : Hid (er ≠ 0 → layL l r = []) := fun h => by unfold layL; rw [HER.out, if_neg h]
  have HLZ : Hid (er = 0 → layL l r = blksM r (strm l)) := fun h => by unfold layL; rw [HER.out, if_pos h]
  have HSB : Hid (se = 0 → l.length ≤ 65536 ∧ l.any longB = false ∧ l.any kindB = false ∧ sn = szOf l ∧ 0 ≤ szOf l ∧ szOf l ≤ 5000000000) := by
    intro h
    have h0 : szErr l = 0 := by rw [HSE.out]; exact h
    obtain ⟨h1, h2, h3⟩ := szErr_zero h0
    have h4 := szTo_bd h2 l.length
    have h5 : szTo l l.length = szOf l := by unfold szTo szOf; rw [List.take_length]
    rw [h5] at h4
    refine ⟨h1, h2, h3, ?_, h4.1, by omega⟩
    rw [← HSN.out, szN, if_pos h0]
  have HTT : Hid (bn = false → rn ≤ 65536 → totalL r = (roomOf r : Int) + 16 * (rn : Int)) := by
    intro h1 h2
    rw [← HRN.out]
    refine room_total (fun x hx => wide_of ?_) (by rw [HRN.out]; exact h2)
    rw [← HBN.out] at h1
    have := (List.any_eq_false.1 h1) x hx
    simpa using this
  have HWD : Hid (bn = false → ∀ x ∈ r, Wd x) := by
    intro h1 x hx
    rw [← HBN.out] at h1
    have := (List.any_eq_false.1 h1) x hx
    exact wide_of (by simpa using this)
  have HBY : Hid (Byt (strm l)) := strm_byt hk
  have HSL : Hid ((strm l).length = (szOf l).toNat) := by unfold Hid; have := strm_len l; omega
  have HT : Hid (Tab w) := hT
  have HX : Hid (NoX w) := hX
  rw [HSE.out, HSN.out] at HSZ
  rw [HBN.out] at HNA
  rw [HBM.out] at HME
  rw [HER.out]
  rw [HRN.out] at hr HNA HME HTO HR ⊢
  clear hk hE hT hX
  have HNIL : Hid (er ≠ 0 → ∀ W, Below w.heap.size w W → ∃ v L, Ending.returned (.tuple #[.slice none 0 0, .int .i64 er]) = .returned (.tuple #[v, .int .i64 er]) ∧ L.map plB = layL l r ∧ BkS W w.heap.size v L ∧ Below w.heap.size w W) := fun h W hW => ⟨_, [], rfl, by rw [HLL.out h]; rfl, bks_nil _ _, hW⟩
  by_cases hse : se = 0
  · obtain ⟨q1, q2, q3, q4, q5, q6⟩ := HSB.out hse
    subst hse
    by_cases hrn : 65536 < rn
    · have e9 : er = 3 := by rw [HLE.out, if_neg (by simp), if_pos hrn]
      subst e9
      have hri : (65536 : Int) < (rn : Int) := by omega
      go_enter Tryd.func15, Tryd.ntmps15
      go_wp2_with (go_at_call 11; refine Calls.mono HSZ.out ?_; rintro e w1 ⟨rfl, hb1⟩; have HB1 : Hid (Below w.heap.size w w1) := hb1; clear hb1)
      go_ret2
      exact HNIL.out (by decide) _ HB1.out
    · have hri : ¬ (65536 : Int) < (rn : Int) := by omega
      have e8 := HLE.out
      rw [if_neg (by simp), if_neg hrn] at e8
      cases bn with
      | true =>
        have e9 : er = 2 := by simpa using e8
        subst e9
        clear e8 HLE
        go_enter Tryd.func15, Tryd.ntmps15
        go_wp2_with (first
          | (go_at_call 11; refine Calls.mono HSZ.out ?_; rintro e w1 ⟨rfl, hb1⟩; have HB1 : Hid (Below w.heap.size w w1) := hb1; clear hb1)
          | (go_at_call 29; refine Calls.mono (HNA.out _ HB1.out) ?_; rintro e w2 ⟨rfl, hb2⟩; have HB2 : Hid (Below w.heap.size w w2) := HB1.out.trans (hb2.mono HB1.out.size); clear hb2))
        go_ret2
        exact HNIL.out (by decide) _ HB2.out
      | false =>
        cases bm with
        | true =>
          have e9 : er = 2 := by simpa using e8
          subst e9
          clear e8 HLE
          go_enter Tryd.func15, Tryd.ntmps15
          go_wp2_with (first
            | (go_at_call 11; refine Calls.mono HSZ.out ?_; rintro e w1 ⟨rfl, hb1⟩; have HB1 : Hid (Below w.heap.size w w1) := hb1; clear hb1)
            | (go_at_call 29; refine Calls.mono (HNA.out _ HB1.out) ?_; rintro e w2 ⟨rfl, hb2⟩; have HB2 : Hid (Below w.heap.size w w2) := HB1.out.trans (hb2.mono HB1.out.size); clear hb2)
            | (go_at_call 31; refine Calls.mono (HME.out (by omega) _ HB2.out) ?_; rintro e w3 ⟨rfl, hb3⟩; have HB3 : Hid (Below w.heap.size w w3) := HB2.out.trans (hb3.mono HB2.out.size); clear hb3))
          go_ret2
          exact HNIL.out (by decide) _ HB3.out
        | false =>
          have htt := HTT.out rfl (by omega)
          have HWD' : Hid (∀ x ∈ r, Wd x) := HWD.out rfl
          rw [htt] at HTO
          obtain ⟨ro, HRO⟩ : ∃ ro, Hid (roomOf r = ro) := ⟨_, rfl⟩
          rw [HRO.out] at HTO e8 htt
          obtain ⟨sz, HSZo⟩ : ∃ sz, Hid (szOf l = sz) := ⟨_, rfl⟩
          rw [HSZo.out] at q4 q5 q6 e8 HSL
          subst q4
          have hro : ro ≤ 4611686018427387904 := by have h9 := (totalL_bd r).2; rw [htt] at h9; omega
          have hwrap : ((ro : Int) + 16 * (rn : Int)) - 16 * (rn : Int) = (ro : Int) := by omega
          clear htt HTT HWD HLE
          by_cases hf : (ro : Int) < sn
          · have e9 : er = 7 := by rw [e8]; simp [hf]
            subst e9
            clear e8
            go_enter Tryd.func15, Tryd.ntmps15
            go_wp2_with (first
              | (go_at_call 11; refine Calls.mono HSZ.out ?_; rintro e w1 ⟨rfl, hb1⟩; have HB1 : Hid (Below w.heap.size w w1) := hb1; clear hb1)
              | (go_at_call 29; refine Calls.mono (HNA.out _ HB1.out) ?_; rintro e w2 ⟨rfl, hb2⟩; have HB2 : Hid (Below w.heap.size w w2) := HB1.out.trans (hb2.mono HB1.out.size); clear hb2)
              | (go_at_call 31; refine Calls.mono (HME.out (by omega) _ HB2.out) ?_; rintro e w3 ⟨rfl, hb3⟩; have HB3 : Hid (Below w.heap.size w w3) := HB2.out.trans (hb3.mono HB2.out.size); clear hb3)
              | (go_at_call 32; refine Calls.mono (HTO.out _ HB3.out) ?_; rintro e w4 ⟨rfl, hb4⟩; have HB4 : Hid (Below w.heap.size w w4) := HB3.out.trans (hb4.mono HB3.out.size); clear hb4))
            go_ret2
            exact HNIL.out (by decide) _ HB4.out
          · have e9 : er = 0 := by rw [e8]; simp [hf]
            subst e9
            have HLZ' : Hid (layL l r = blksM r (strm l)) := HLZ.out rfl
            obtain ⟨s9, rfl⟩ : ∃ s9 : Nat, sn = (s9 : Int) := ⟨sn.toNat, by omega⟩
            have HST : Hid (∀ W, Below w.heap.size w W → Calls Tryd.prog 34 #[.slice aol l.length capl, .int .i64 (s9 : Int)] W fun e w' => ∃ v', e = .returned v' ∧ Own w' W.heap.size v' (strm l) ∧ Below W.heap.size W w') := fun W hW => stream_any W _ l (HM.out.below hW) q1 q2 q3 s9 (by omega)
            have HBL : Hid (∀ W vs, Below w.heap.size w W → Bs W vs (strm l) → Calls Tryd.prog 33 #[vs, .slice aor rn capr] W fun e w' => ∃ v L, e = .returned v ∧ L.map plB = blksM r (strm l) ∧ BkS w' W.heap.size v L ∧ Below W.heap.size W w') := fun W vs hW hs => blocks_any W vs _ (strm l) r hs HBY.out (HR.out.below hW) HWD'.out (by rw [HRN.out]; omega) (by rw [HSL.out, HRO.out]; omega) (by rw [HSL.out]; omega) (HT.out.below hW) (HX.out.below hW)
            clear e8 HNIL HLL
            go_enter Tryd.func15, Tryd.ntmps15
            go_wp2_with (first
              | (go_at_call 11; refine Calls.mono HSZ.out ?_; rintro e w1 ⟨rfl, hb1⟩; have HB1 : Hid (Below w.heap.size w w1) := hb1; clear hb1)
              | (go_at_call 29; refine Calls.mono (HNA.out _ HB1.out) ?_; rintro e w2 ⟨rfl, hb2⟩; have HB2 : Hid (Below w.heap.size w w2) := HB1.out.trans (hb2.mono HB1.out.size); clear hb2)
              | (go_at_call 31; refine Calls.mono (HME.out (by omega) _ HB2.out) ?_; rintro e w3 ⟨rfl, hb3⟩; have HB3 : Hid (Below w.heap.size w w3) := HB2.out.trans (hb3.mono HB2.out.size); clear hb3)
              | (go_at_call 32; refine Calls.mono (HTO.out _ HB3.out) ?_; rintro e w4 ⟨rfl, hb4⟩; have HB4 : Hid (Below w.heap.size w w4) := HB3.out.trans (hb4.mono HB3.out.size); clear hb4)
              | (go_at_call 34; refine Calls.mono (HST.out _ HB4.out) ?_; rintro e w5 ⟨v5, rfl, ho5, hb5⟩; have HO5 : Hid (Bs w5 v5 (strm l)) := ho5.bs; have HB5 : Hid (Below w.heap.size w w5) := HB4.out.trans (hb5.mono HB4.out.size); clear ho5 hb5)
              | (go_at_call 33; refine Calls.mono (HBL.out _ v5 HB5.out HO5.out) ?_; rintro e w6 ⟨v6, L, rfl, hl6, hk6, hb6⟩; have HL6 : Hid (L.map plB = blksM r (strm l)) := hl6; have HK6 : Hid (BkS w6 w.heap.size v6 L) := hk6.lower HB5.out.size; have HB6 : Hid (Below w.heap.size w w6) := HB5.out.trans (hb6.mono HB5.out.size); clear hl6 hk6 hb6))
            go_ret2
            exact ⟨v6, L, rfl, by rw [HLZ'.out]; exact HL6.out, HK6.out, HB6.out⟩
  · have e9 : er = se := by rw [HLE.out, if_pos hse]
    have HSN' : Hid (szN l = sn) := HSN.out
    subst e9
    have hse2 : ¬ er = 0 := hse
    clear HLE HSB
    go_enter Tryd.func15, Tryd.ntmps15
    go_wp2_with (go_at_call 11; refine Calls.mono HSZ.out ?_; rintro e w1 ⟨rfl, hb1⟩; have HB1 : Hid (Below w.heap.size w w1) := hb1; clear hb1)
    go_ret2
    exact HNIL.out hse2 _ HB1.out
end Go.Proofs.YtdalkjenjnalbaaDoor
