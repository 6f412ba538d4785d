/-
  Size: how many bytes the stream of messages has. Conditions: lengths are such as memory bears.
  A number laid behind bytes; whether an extent is wide enough. Conditions: lengths are such as memory bears.
  The stream of messages that may be. Conditions: lengths are such as memory bears.
-/
import Derived.Test.YtdalkjenjnalbaaDoorEMem
import Derived.Test.YtdalkjenjnalbaaDoorXBytes
import Derived.Test.YtdalkjenjnalbaaDoorGApp
import Derived.Test.YtdalkjenjnalbaaDoorWalkG
import Derived.Test.YtdalkjenjnalbaaDoorGSep
import Derived.Laws.MakeOwn
namespace Go.Proofs.YtdalkjenjnalbaaDoor
open Go.RowKit
set_option linter.unusedVariables false
set_option maxRecDepth 100000

theorem any_false_len {l : List Msg} (h : l.any longB = false) : ∀ (i : Nat) (m : Msg), l[i]? = some m → m.2.2.length ≤ 65536 := by
  intro i m hm
  have := (List.any_eq_false.1 h) m (List.mem_of_getElem? hm)
  simp [longB] at this
  omega
def szTo (l : List Msg) (i : Nat) : Int := 4 + ((l.take i).map (fun m => 8 + (m.2.2.length : Int))).sum
theorem szTo_next {l : List Msg} {i : Nat} {m : Msg} (h : l[i]? = some m) : szTo l (i + 1) = szTo l i + (8 + (m.2.2.length : Int)) := by
  unfold szTo
  rw [List.take_add_one, h, List.map_append, List.sum_append]
  simp
  omega
theorem szTo_bd {l : List Msg} (h : l.any longB = false) : ∀ i : Nat, 0 ≤ szTo l i ∧ szTo l i ≤ 4 + (i : Int) * 65544
  | 0 => by simp [szTo]
  | i + 1 => by
    have ih := szTo_bd h i
    by_cases hi : i < l.length
    · obtain ⟨m, hm⟩ : ∃ m, l[i]? = some m := ⟨l[i], List.getElem?_eq_getElem hi⟩
      rw [szTo_next hm]
      have := any_false_len h i m hm
      push_cast
      omega
    · have e : szTo l (i + 1) = szTo l i := by unfold szTo; rw [List.take_of_length_le (by omega), List.take_of_length_le (by omega)]
      rw [e]; push_cast; omega
set_option maxHeartbeats 4000000 in
theorem size_any (w : World) (v : Value) (l : List Msg) (hM : Ms w v l) (hn : l.length ≤ 140737488351232) :
    Calls Tryd.prog 11 #[v] w fun e w' => e = .returned (.tuple #[.int .i64 (szN l), .int .i64 (szErr l)]) ∧ Below w.heap.size w w' := by
  have HM : Hid (Ms w v l) := hM
  obtain ⟨ao, cap, rfl, hcap, hc⟩ := hM
  have HC : Hid _ := hc
  have HL : Hid (∀ W, Below w.heap.size w W → Calls Tryd.prog 25 #[.slice ao l.length cap, .func (.func 26) #[] #[]] W fun e w' => e = .returned (.bool (l.any longB)) ∧ Below W.heap.size W w') := fun W hW => hasL_any W _ l (HM.out.below hW) (by omega)
  have HK : Hid (∀ W, Below w.heap.size w W → Calls Tryd.prog 25 #[.slice ao l.length cap, .func (.func 27) #[] #[]] W fun e w' => e = .returned (.bool (l.any kindB)) ∧ Below W.heap.size W w') := fun W hW => hasK_any W _ l (HM.out.below hW) (by omega)
  obtain ⟨n, HN⟩ : ∃ n, Hid (l.length = n) := ⟨_, rfl⟩
  have HSE : Hid (szErr l = if 65536 < n then 3 else if l.any longB then 3 else if l.any kindB then 2 else 0) := by unfold Hid szErr; rw [HN.out]
  have HSN : Hid (szN l = if szErr l = 0 then szTo l n else 0) := by unfold Hid szN szOf szTo; rw [← HN.out, List.take_length]
  have HNX : Hid (∀ (i : Nat) (m : Msg), l[i]? = some m → szTo l (i + 1) = szTo l i + (8 + (m.2.2.length : Int))) := fun i m h => szTo_next h
  obtain ⟨bl, HBL⟩ : ∃ bl, Hid (l.any longB = bl) := ⟨_, rfl⟩
  obtain ⟨bk, HBK⟩ : ∃ bk, Hid (l.any kindB = bk) := ⟨_, rfl⟩
  have HBD : Hid (bl = false → ∀ i : Nat, 0 ≤ szTo l i ∧ szTo l i ≤ 4 + (i : Int) * 65544) := fun h => szTo_bd (by rw [HBL.out]; exact h)
  have HLL : Hid (bl = false → ∀ (i : Nat) (m : Msg), l[i]? = some m → m.2.2.length ≤ 65536) := fun h => any_false_len (by rw [HBL.out]; exact h)
  rw [HBL.out, HBK.out] at HSE
  rw [HBL.out] at HL
  rw [HBK.out] at HK
  rw [HN.out] at hn hcap HL HK ⊢
  obtain ⟨er, HER⟩ : ∃ er, Hid (szErr l = er) := ⟨_, rfl⟩
  obtain ⟨sn, HSNn⟩ : ∃ sn, Hid (szN l = sn) := ⟨_, rfl⟩
  rw [HER.out] at HSE HSN ⊢
  rw [HSNn.out] at HSN ⊢
  clear hc
  by_cases hbig : 65536 < n
  · have hbi : (65536 : Int) < (n : Int) := by omega
    have e1 : er = 3 := by rw [HSE.out, if_pos hbig]
    have e2 : sn = 0 := by rw [HSN.out, if_neg (by omega)]
    subst e1 e2
    clear HSE HSN
    go_enter Tryd.func11, Tryd.ntmps11
    go_wp2_with fail
    go_ret2
    exact ⟨rfl, Below.refl _ _⟩
  · have hbi : ¬ (65536 : Int) < (n : Int) := by omega
    have h1 := HSE.out
    rw [if_neg hbig] at h1
    cases bl with
    | true =>
      have e1 : er = 3 := by simpa using h1
      have e2 : sn = 0 := by rw [HSN.out, if_neg (by omega)]
      subst e1 e2
      clear HSE HSN h1 HBD HLL
      go_enter Tryd.func11, Tryd.ntmps11
      go_wp2_with (go_at_call 25; refine Calls.mono (HL.out _ (Below.refl _ _)) ?_; rintro e w1 ⟨rfl, hb1⟩; have HB1 : Hid (Below w.heap.size w w1) := hb1; clear hb1)
      go_ret2
      exact ⟨rfl, HB1.out⟩
    | false =>
      have HBD' : Hid _ := HBD.out rfl
      have HLL' : Hid _ := HLL.out rfl
      clear HBD HLL
      cases bk with
      | true =>
        have e1 : er = 2 := by simpa using h1
        have e2 : sn = 0 := by rw [HSN.out, if_neg (by omega)]
        subst e1 e2
        clear HSE HSN h1
        go_enter Tryd.func11, Tryd.ntmps11
        go_wp2_with (first
          | (have hg := HB1; clear hg; go_at_call 25; refine Calls.mono (HK.out _ HB1.out) ?_; rintro e w2 ⟨rfl, hb2⟩; have HB2 : Hid (Below w.heap.size w w2) := HB1.out.trans (hb2.mono HB1.out.size); clear hb2)
          | (go_at_call 25; refine Calls.mono (HL.out _ (Below.refl _ _)) ?_; rintro e w1 ⟨rfl, hb1⟩; have HB1 : Hid (Below w.heap.size w w1) := hb1; clear hb1))
        go_ret2
        exact ⟨rfl, HB2.out⟩
      | false =>
        have e1 : er = 0 := by simpa using h1
        have e2 : sn = szTo l n := by rw [HSN.out, if_pos e1]
        subst e1
        have HE2 : Hid (sn = szTo l n) := e2
        clear HSE HSN h1 e2
        go_enter Tryd.func11, Tryd.ntmps11
        go_wp2_with (first
          | (have hg := HB1; clear hg; go_at_call 25; refine Calls.mono (HK.out _ HB1.out) ?_; rintro e w2 ⟨rfl, hb2⟩; have HB2 : Hid (Below w.heap.size w w2) := HB1.out.trans (hb2.mono HB1.out.size); clear hb2)
          | (go_at_call 25; refine Calls.mono (HL.out _ (Below.refl _ _)) ?_; rintro e w1 ⟨rfl, hb1⟩; have HB1 : Hid (Below w.heap.size w w1) := hb1; clear hb1))
        clear HL HK HB1
        go_loopw [18, 4] (fun x y wr => ∃ i : Nat, i ≤ n ∧ x = .int .i64 (i : Int) ∧ ∃ s : Int, y = .int .i64 s ∧ Hid (szTo l i = s) ∧ Hid (Below w.heap.size w wr)) (fun x _ _ => n - (intOf x).toNat)
        case atStart => exact ⟨0, Nat.zero_le _, rfl, 4, rfl, rfl, HB2.out⟩
        case round =>
          obtain ⟨i, hin, rfl, s, rfl, HS, HB⟩ := hrel
          clear HB2
          by_cases hlt : i < n
          · obtain ⟨m, hm⟩ : ∃ m, l[i]? = some m := ⟨l[i]'(by rw [HN.out]; exact hlt), List.getElem?_eq_getElem _⟩
            obtain ⟨hbs, g, o, rfl, c1, c2⟩ := HC.out i m hm
            obtain ⟨aom, capm, hv, _⟩ := hbs
            rw [hv] at c2
            have hml := HLL'.out i m hm
            have hnx := HNX.out i m hm
            obtain ⟨ml, HML⟩ : ∃ ml, Hid (m.2.2.length = ml) := ⟨_, rfl⟩
            rw [HML.out] at c2 hml hnx
            have HNX2 : Hid (szTo l (i + 1) = s + (8 + (ml : Int))) := by unfold Hid; rw [hnx, HS.out]
            have hbd := HBD'.out i
            rw [HS.out] at hbd
            obtain ⟨hs0, hs1⟩ := hbd
            have hs2 : s ≤ 5000000000 := by omega
            have hili : (i : Int) < (n : Int) := by omega
            have d1 : wr.cell? ⟨g, o + i * 2, none⟩ = some (.int .i64 m.1) := (HB.out.cell (World.block_lt_of_cell? w _ c1)).trans c1
            have d2 : wr.cell? ⟨g, o + i * 2 + 1, none⟩ = some (.slice aom ml capm) := (HB.out.cell (World.block_lt_of_cell? w _ c2)).trans c2
            have HX : Hid (Below w.heap.size w (wr.alloc (.cells #[.int .i64 m.1, .slice aom ml capm] 56))) := HB.out.alloc (HB.out.size) _
            clear c1 c2 hm hv hnx hs1
            go_wp2_with fail
            go_roundw
            case rel => exact ⟨i + 1, by omega, by simp, s + (8 + (ml : Int)), by first | rfl | simp, HNX2.out, HX.out⟩
            case measure => simp [intOf]; omega
          · obtain rfl : i = n := by omega
            have HE : Hid (s = sn) := by unfold Hid; rw [HE2.out, HS.out]
            go_wp2_with fail
            go_ret2
            exact ⟨by rw [← HE.out]; rfl, HB.out⟩
end Go.Proofs.YtdalkjenjnalbaaDoor

namespace Go.Proofs.YtdalkjenjnalbaaDoor
open Go.RowKit
set_option linter.unusedVariables false
set_option maxRecDepth 100000

theorem put4 {u : Int} (h0 : 0 ≤ u) (h : u < 4294967296) : putList [] u 4 true = d4 u := by
  unfold putList
  rw [if_pos (numErr_of (n := 4) h0 (by omega) (by omega) (by show u < (4294967296 : Int); exact h))]
  rfl
theorem own_lt {w : World} {B : Nat} {v : Value} {l : List Int} (h : Own w B v l) : ∀ k, v.ownBlock = some k → B ≤ k ∧ k < w.heap.size := by
  intro k hk
  rcases ownsRow_shape h with ⟨rfl, _⟩ | ⟨g, cap, rfl, h1, h2, _⟩
  · simp [Value.ownBlock] at hk
  · simp [Value.ownBlock] at hk
    subst hk
    exact ⟨h1, h2⟩
set_option maxHeartbeats 2000000 in
theorem withN_any (n : Int) (B : Nat) (v : Value) (l : List Int) (w : World) (h : Own w B v l) (hB : B ≤ w.heap.size) (h0 : 0 ≤ n) (h1 : n < 4294967296) (hl : l.length ≤ 70368744177664) :
    Calls Tryd.prog 53 #[v, .int .i64 n] w fun e w' => ∃ v', e = .returned v' ∧ Own w' B v' (l ++ d4 n) ∧ Kp (fun x => v.ownBlock = some x) w w' ∧ (∀ k, v'.ownBlock = some k → v.ownBlock = some k ∨ w.heap.size ≤ k) := by
  obtain ⟨i0, hi, hz0, hz1, hz2⟩ := info_parts Tryd.info5
  have HO : Hid (Own w B v l) := h
  have HPD : Hid (putList [] n 4 true = d4 n) := put4 h0 h1
  have hw : IntKind.u64.wrap n = n := by simp [IntKind.wrap, IntKind.bits, IntKind.signed]; omega
  have HL4 : Hid ((d4 n).length = 4) := d4_length n
  obtain ⟨m, HM⟩ : ∃ m, Hid (l.length = m) := ⟨_, rfl⟩
  rw [HM.out] at hl
  clear h
  go_enter Tryd.func53, Tryd.ntmps53
  go_wp2_with (first | (go_at_call 72; refine (put_any (.slice none 0 0) [] n 4 true _ (Bs.nil _) (by simp) h0 (by omega)).mono ?_; rintro e w1 ⟨x1, rfl, hf1, hb1⟩; rw [HPD.out] at hf1; have HF1 : Hid (Bs w1 x1 (d4 n)) := hf1.bs; have HB1 : Hid (Below w.heap.size w w1) := hb1; have HO1 : Hid (Own w1 B v l) := HO.out.below hb1; clear hf1 hb1) | (at_builtin; refine wpList_append_bg w1 rfl (.tmp 13) (.tmp 14) 31 rfl i0 Tryd.underlying31 hi hz0 hz1 hz2 B v x1 l (d4 n) m 4 HM.out HL4.out rfl rfl HO1.out HF1.out (by omega) (Nat.le_trans hB HB1.out.size) ?_; intro ao cap w2 ho2 hg2 ha2; have HO2 : Hid (Own w2 B (.slice ao (m + 4) cap) (l ++ d4 n)) := ho2; have HK2 : Hid (Kp (fun x => v.ownBlock = some x) w w2) := (Kp.of HB1.out).grown hg2 (fun x _ hx => hx); have HA2 : Hid (∀ k, (Value.slice ao (m + 4) cap).ownBlock = some k → v.ownBlock = some k ∨ w.heap.size ≤ k) := (fun k hk => (ha2 k hk).imp id (fun h => Nat.le_trans HB1.out.size h)); clear ho2 hg2 ha2))
  go_ret
  exact ⟨_, rfl, HO2.out, HK2.out, HA2.out⟩
/-- Is an extent wide enough for a block? -/
def narrowB (x : Ext) : Bool := decide (x.2 ≤ 16) || !goodB [x] 4194304
theorem xs_one {w : World} {g : Nat} {x : Ext} (h : w.heap[g]? = some (.cells #[.int .i64 x.1, .int .i64 x.2] 49 (0, 0))) : Xs w (.slice (some ⟨g, 0, none⟩) 1 1) [x] := by
  refine ⟨_, 1, rfl, by simp, (fun h => by cases h), ?_⟩
  intro ad ha j u hj
  obtain rfl := Option.some.inj ha
  exact news_one (xs := [.int .i64 x.1, .int .i64 x.2]) h j u hj
theorem narrow_any (x : Ext) (hE : EW x) (w : World) : Calls Tryd.prog 30 #[.agg #[.int .i64 x.1, .int .i64 x.2]] w fun e w' => e = .returned (.bool (narrowB x)) ∧ Below w.heap.size w w' := by
  have HX : Hid (Below w.heap.size w (w.alloc (.cells #[.int .i64 x.1, .int .i64 x.2] 49))) := (Below.refl _ _).alloc (Nat.le_refl _) _
  by_cases h : x.2 ≤ 16
  · have HE : Hid (narrowB x = true) := by unfold Hid narrowB; simp [h]
    rw [HE.out]
    go_enter Tryd.func30, Tryd.ntmps30
    go_wp2_with fail
    go_ret
    exact ⟨rfl, HX.out⟩
  · have HE : Hid (narrowB x = !goodB [x] 4194304) := by unfold Hid narrowB; rw [show decide (x.2 ≤ 16) = false by simpa using h, Bool.false_or]
    rw [HE.out]
    have HX2 : Hid (Below w.heap.size w ((w.alloc (.cells #[.int .i64 x.1, .int .i64 x.2] 49)).alloc (.cells #[.int .i64 x.1, .int .i64 x.2] 49))) := HX.out.alloc HX.out.size _
    have hsz : (w.alloc (.cells #[.int .i64 x.1, .int .i64 x.2] 49)).heap.size = w.heap.size + 1 := by simp
    have HG : Hid _ := good_any (.slice (some ⟨(w.alloc (.cells #[.int .i64 x.1, .int .i64 x.2] 49)).heap.size, 0, none⟩) 1 1) [x] 4194304 _ (xs_one (heap_alloc_new (w.alloc (.cells #[.int .i64 x.1, .int .i64 x.2] 49)) _)) (fun y hy => by rw [List.mem_singleton.1 hy]; exact hE) (by simp)
    rw [hsz] at HG
    clear hsz
    go_enter Tryd.func30, Tryd.ntmps30
    go_wp2_with (go_at_call 47; refine Calls.mono HG.out ?_; rintro e w1 ⟨rfl, hb1⟩; have HB1 : Hid (Below w.heap.size w w1) := HX2.out.trans (hb1.mono HX2.out.size); clear hb1)
    go_ret
    exact ⟨rfl, HB1.out⟩
set_option maxHeartbeats 4000000 in
theorem idxN_any (w : World) (v : Value) (l : List Ext) (hX : Xs w v l) (hE : EWs l) (hn : l.length ≤ 281474976710656) :
    Calls Tryd.prog 46 #[v, .func (.func 30) #[] #[]] w fun e w' => ∃ b : Int, e = .returned (.int .i64 b) ∧ decide (0 ≤ b) = l.any narrowB ∧ Below w.heap.size w w' := by
  obtain ⟨ao, cap, rfl, hcap, hc⟩ := hX.opened
  have HC : Hid (∀ i, i < l.length → ∃ b off, ao = some ⟨b, off, none⟩ ∧ w.cell? ⟨b, off + i * 2, none⟩ = some (.int .i64 (l.getD i (0, 0)).1) ∧ w.cell? ⟨b, off + i * 2 + 1, none⟩ = some (.int .i64 (l.getD i (0, 0)).2) ∧ b < w.heap.size) := hc
  have HE : Hid (EWs l) := hE
  obtain ⟨n, HN⟩ : ∃ n, Hid (l.length = n) := ⟨_, rfl⟩
  rw [HN.out] at hcap hn ⊢
  have eg : ∀ args w, (callFunc 30 args).run Tryd.prog w = .ok (.enter 30 args) w := enters_of Tryd.func30 (by kernel_rfl) rfl
  clear hc hX hE
  go_enter Tryd.func46, Tryd.ntmps46
  go_wp2_with fail
  go_loopw [8] (fun x wr => ∃ i : Nat, i ≤ n ∧ x = .int .i64 (i : Int) ∧ Hid ((l.take i).any narrowB = false) ∧ Hid (Below w.heap.size w wr)) (fun x _ => n - (intOf x).toNat)
  case atStart => exact ⟨0, Nat.zero_le _, rfl, rfl, Below.refl _ _⟩
  case round =>
    obtain ⟨i, hin, rfl, HA, HB⟩ := hrel
    by_cases hlt : i < n
    · have hil : i < l.length := by rw [HN.out]; exact hlt
      obtain ⟨g, o, rfl, c1, c2, _⟩ := HC.out i hil
      have hex := HE.out.at i
      have hm : l[i]? = some (l.getD i (0, 0)) := by simp [List.getD, hil]
      generalize l.getD i (0, 0) = x at *
      have d1 : wr.cell? ⟨g, o + i * 2, none⟩ = some (.int .i64 x.1) := (HB.out.cell (World.block_lt_of_cell? w _ c1)).trans c1
      have d2 : wr.cell? ⟨g, o + i * 2 + 1, none⟩ = some (.int .i64 x.2) := (HB.out.cell (World.block_lt_of_cell? w _ c2)).trans c2
      have HT : Hid ((l.take (i + 1)).any narrowB = (narrowB x)) := by unfold Hid; rw [List.take_add_one, hm, List.any_append, HA.out]; simp
      have hili : (i : Int) < (n : Int) := by omega
      have HALL : Hid (narrowB x = true → l.any narrowB = true) := fun h => List.any_eq_true.2 ⟨x, List.mem_of_getElem? hm, h⟩
      have HF : Hid _ := narrow_any x hex wr
      obtain ⟨b, HBB⟩ : ∃ b, Hid (narrowB x = b) := ⟨_, rfl⟩
      rw [HBB.out] at HT HALL HF
      clear c1 c2 hm hex
      cases b with
      | true =>
        have HAL : Hid (l.any narrowB = true) := HALL.out rfl
        clear HALL
        go_wp2_with (go_at_call 30; refine Calls.mono HF.out ?_; rintro e w1 ⟨rfl, hb1⟩; have HB1 : Hid (Below w.heap.size w w1) := HB.out.trans (hb1.mono HB.out.size); clear hb1)
        go_ret
        exact ⟨_, rfl, by rw [HAL.out]; simp, HB1.out⟩
      | false =>
        clear HALL
        go_wp2_with (go_at_call 30; refine Calls.mono HF.out ?_; rintro e w1 ⟨rfl, hb1⟩; have HB1 : Hid (Below w.heap.size w w1) := HB.out.trans (hb1.mono HB.out.size); clear hb1)
        go_roundw
        case rel => exact ⟨i + 1, by omega, by simp, HT.out, HB1.out⟩
        case measure => simp [intOf]; omega
    · obtain rfl : i = n := by omega
      have HE : Hid (l.any narrowB = false) := by have h := HA.out; rwa [List.take_of_length_le (by rw [HN.out]; exact Nat.le_refl _)] at h
      go_wp2_with fail
      go_ret
      exact ⟨_, rfl, by rw [HE.out]; rfl, HB.out⟩
theorem hasN_any (w : World) (v : Value) (l : List Ext) (hX : Xs w v l) (hE : EWs l) (hn : l.length ≤ 281474976710656) :
    Calls Tryd.prog 29 #[v, .func (.func 30) #[] #[]] w fun e w' => e = .returned (.bool (l.any narrowB)) ∧ Below w.heap.size w w' := by
  have HI : Hid _ := idxN_any w v l hX hE hn
  obtain ⟨ao, cap, rfl, _, _⟩ := hX
  go_enter Tryd.func29, Tryd.ntmps29
  go_wp2_with (go_at_call 46; refine Calls.mono HI.out ?_; rintro e w1 ⟨b, rfl, hd, hb1⟩; have HD : Hid (decide (0 ≤ b) = l.any narrowB) := hd; have HB1 : Hid (Below w.heap.size w w1) := hb1; clear hd hb1)
  go_ret
  exact ⟨by rw [← HD.out]; rfl, HB1.out⟩
end Go.Proofs.YtdalkjenjnalbaaDoor

namespace Go.Proofs.YtdalkjenjnalbaaDoor
open Go.RowKit
set_option linter.unusedVariables false
set_option maxRecDepth 100000

/-- A message's bytes in the stream; the stream. -/
def msgL (m : Msg) : List Int := d4 m.1 ++ (d4 m.2.2.length ++ m.2.2)
def strm (l : List Msg) : List Int := d4 l.length ++ l.flatMap msgL
def strmTo (l : List Msg) (i : Nat) : List Int := d4 l.length ++ (l.take i).flatMap msgL
theorem msgL_length (m : Msg) : (msgL m).length = 8 + m.2.2.length := by simp only [msgL, List.length_append, d4_length]; omega
theorem strmTo_next {l : List Msg} {i : Nat} {m : Msg} (h : l[i]? = some m) : strmTo l (i + 1) = strmTo l i ++ msgL m := by
  unfold strmTo
  rw [List.take_add_one, h, List.flatMap_append, List.append_assoc]
  simp
theorem strmTo_len (l : List Msg) : ∀ i : Nat, ((strmTo l i).length : Int) = szTo l i
  | 0 => by simp [strmTo, szTo, d4_length]
  | i + 1 => by
    by_cases hi : i < l.length
    · have hm : l[i]? = some l[i] := List.getElem?_eq_getElem hi
      rw [strmTo_next hm, szTo_next hm, List.length_append, msgL_length, ← strmTo_len l i]
      omega
    · have e1 : strmTo l (i + 1) = strmTo l i := by unfold strmTo; rw [List.take_of_length_le (by omega), List.take_of_length_le (by omega)]
      have e2 : szTo l (i + 1) = szTo l i := by unfold szTo; rw [List.take_of_length_le (by omega), List.take_of_length_le (by omega)]
      rw [e1, e2]; exact strmTo_len l i
theorem strm_len (l : List Msg) : ((strm l).length : Int) = szOf l := by
  have := strmTo_len l l.length
  unfold strmTo szTo at this
  rw [List.take_length] at this
  exact this
theorem below_gr8 {w0 w w' : World} {v : Value} {l : List Int} (hb : Below w0.heap.size w0 w) (hr : Own w w0.heap.size v l) (hg : w.grownBy w' v.ownBlock) : Below w0.heap.size w0 w' :=
  hb.trans ⟨hg.os, hg.tape, hg.output, hg.size, fun x hx => hg.block x (Nat.lt_of_lt_of_le hx hb.size) (fun e => by have := (own_lt hr x e.symm).1; omega)⟩
theorem pb_one {x : List Int} (h : x.length ≤ 65536) : pbList [] x = d4 x.length ++ x := by
  unfold pbList
  rw [if_neg (by omega)]
  rfl
set_option maxHeartbeats 4000000 in
theorem stream_any (w : World) (v : Value) (l : List Msg) (hM : Ms w v l) (hn : l.length ≤ 65536) (hL : l.any longB = false) (hK : l.any kindB = false) (sz : Nat) (hsz : sz ≤ 5000000000) :
    Calls Tryd.prog 34 #[v, .int .i64 (sz : Int)] w fun e w' => ∃ v', e = .returned v' ∧ Own w' w.heap.size v' (strm l) ∧ Below w.heap.size w w' := by
  obtain ⟨i0, hi, hz0, hz1, hz2⟩ := info_parts Tryd.info5
  obtain ⟨ao, cap, rfl, hcap, hc⟩ := hM
  have HC : Hid _ := hc
  have HLL : Hid _ := any_false_len hL
  have HKK : Hid (∀ (i : Nat) (m : Msg), l[i]? = some m → 1 ≤ m.1 ∧ m.1 ≤ 255) := by
    intro i m hm
    have := (List.any_eq_false.1 hK) m (List.mem_of_getElem? hm)
    simp [kindB] at this
    omega
  have HLEN : Hid (∀ i : Nat, i ≤ 65536 → (strmTo l i).length ≤ 5000000000) := by
    intro i hi
    have h1 := strmTo_len l i
    have h2 := szTo_bd hL i
    omega
  have HNX : Hid (∀ (i : Nat) (m : Msg), l[i]? = some m → strmTo l (i + 1) = strmTo l i ++ msgL m) := fun i m h => strmTo_next h
  obtain ⟨n, HN⟩ : ∃ n, Hid (l.length = n) := ⟨_, rfl⟩
  have HS0 : Hid (strmTo l 0 = d4 (n : Int)) := by unfold Hid strmTo; rw [HN.out]; simp
  have HSE : Hid (strmTo l n = strm l) := by unfold Hid strmTo strm; rw [← HN.out, List.take_length]
  rw [HN.out] at hn hcap ⊢
  obtain ⟨wm, hrun, hom, hgm⟩ := run_make_own (P := Tryd.prog) w w.heap.size 31 5 i0 _ 1 Tryd.underlying31 hi hz0 hz1 .i64 .i64 sz (by rw [hz2]; omega) (by unfold maxLen; omega) (Nat.le_refl _)
  have HBM : Hid (Below w.heap.size w wm) := ⟨hgm.os, hgm.tape, hgm.output, hgm.size, fun x hx => hgm.block x hx (by simp)⟩
  have HWN : Hid _ := withN_any (n : Int) w.heap.size (.slice (some ⟨w.heap.size, 0, none⟩) 0 sz) [] wm hom HBM.out.size (by omega) (by omega) (by simp)
  have HOL : Hid (∀ x, (Value.slice (some ⟨w.heap.size, 0, none⟩) 0 sz).ownBlock = some x → w.heap.size ≤ x) := fun x hx => by simp [Value.ownBlock] at hx; omega
  clear hc hom hgm hL hK
  go_enter Tryd.func34, Tryd.ntmps34
  go_wp2_with (go_at_call 53; refine Calls.mono HWN.out ?_; rintro e w1 ⟨v1, rfl, ho1, hb1, _⟩; have HO1 : Hid (Own w1 w.heap.size v1 (d4 (n : Int))) := ho1; have HB1 : Hid (Below w.heap.size w w1) := HBM.out.trans (hb1.below HBM.out.size HOL.out); clear ho1 hb1)
  clear HWN hrun HBM
  go_loopw [17, 5] (fun x y wr => ∃ i : Nat, i ≤ n ∧ x = .int .i64 (i : Int) ∧ Hid (Own wr w.heap.size y (strmTo l i)) ∧ Hid (Below w.heap.size w wr)) (fun x _ _ => n - (intOf x).toNat)
  case atStart => exact ⟨0, Nat.zero_le _, rfl, by unfold Hid; rw [HS0.out]; exact HO1.out, HB1.out⟩
  case round =>
    obtain ⟨i, hin, rfl, HO, HB⟩ := hrel
    clear HO1 HB1
    by_cases hlt : i < n
    · obtain ⟨m, hm⟩ : ∃ m, l[i]? = some m := ⟨l[i]'(by rw [HN.out]; exact hlt), List.getElem?_eq_getElem _⟩
      obtain ⟨hbs, g, o, rfl, c1, c2⟩ := HC.out i m hm
      have HBS : Hid (Bs w m.2.1 m.2.2) := hbs
      obtain ⟨aom, capm, hv, _⟩ := hbs
      have hml := HLL.out i m hm
      obtain ⟨hk1, hk2⟩ := HKK.out i m hm
      have HN2 : Hid (strmTo l (i + 1) = (strmTo l i ++ d4 m.1) ++ (d4 m.2.2.length ++ m.2.2)) := by unfold Hid; rw [HNX.out i m hm, msgL, List.append_assoc]
      have HLI : Hid ((strmTo l i).length ≤ 5000000000) := HLEN.out i (by omega)
      rw [hv] at c2 HBS
      obtain ⟨k, HKe⟩ : ∃ k, Hid (m.1 = k) := ⟨_, rfl⟩
      rw [HKe.out] at c1 hk1 hk2 HN2
      obtain ⟨bl, HBl⟩ : ∃ bl, Hid (m.2.2 = bl) := ⟨_, rfl⟩
      rw [HBl.out] at c2 hml HN2 HBS
      have d1 : wr.cell? ⟨g, o + i * 2, none⟩ = some (.int .i64 k) := (HB.out.cell (World.block_lt_of_cell? w _ c1)).trans c1
      have d2 : wr.cell? ⟨g, o + i * 2 + 1, none⟩ = some (.slice aom bl.length capm) := (HB.out.cell (World.block_lt_of_cell? w _ c2)).trans c2
      have HX : Hid (Below wr.heap.size wr (wr.alloc (.cells #[.int .i64 k, .slice aom bl.length capm] 56))) := (Below.refl _ _).alloc (Nat.le_refl _) _
      have HXB : Hid (Below w.heap.size w (wr.alloc (.cells #[.int .i64 k, .slice aom bl.length capm] 56))) := HB.out.trans (HX.out.mono HB.out.size)
      have HOX : Hid (Own (wr.alloc (.cells #[.int .i64 k, .slice aom bl.length capm] 56)) w.heap.size u5 (strmTo l i)) := HO.out.below HX.out
      have HLT : Hid (∀ x, u5.ownBlock = some x → w.heap.size ≤ x ∧ x < wr.heap.size) := own_lt HO.out
      have HWN : Hid _ := withN_any k w.heap.size u5 (strmTo l i) _ HOX.out HXB.out.size (by omega) (by omega) (by have := HLI.out; omega)
      have HBX : Hid ((wr.alloc (.cells #[.int .i64 k, .slice aom bl.length capm] 56)).heap[wr.heap.size]? = some (.cells #[.int .i64 k, .slice aom bl.length capm] 56 (0, 0))) := heap_alloc_new wr _
      obtain ⟨p, HP⟩ : ∃ p, Hid ((strmTo l i ++ d4 k).length = p) := ⟨_, rfl⟩
      have hp : p ≤ 5000000004 := by rw [← HP.out, List.length_append, d4_length]; have := HLI.out; omega
      obtain ⟨q, HQ⟩ : ∃ q, Hid ((d4 bl.length ++ bl).length = q) := ⟨_, rfl⟩
      have hq : q ≤ 65540 := by rw [← HQ.out, List.length_append, d4_length]; omega
      have HPB : Hid (pbList [] bl = d4 bl.length ++ bl) := pb_one hml
      clear c1 c2 hv hm
      go_wp2_with (first
        | (go_at_call 53; refine Calls.mono HWN.out ?_; rintro e w2 ⟨v2, rfl, ho2, hk2, ha2⟩; have HO2 : Hid (Own w2 w.heap.size v2 (strmTo l i ++ d4 k)) := ho2; have HB2 : Hid (Below w.heap.size w w2) := HXB.out.trans (hk2.below HXB.out.size (fun x hx => (HLT.out x hx).1)); have HM2 : Hid (w2.heap[wr.heap.size]? = some (.cells #[.int .i64 k, .slice aom bl.length capm] 56 (0, 0))) := (hk2.block wr.heap.size (by simp) (fun e => by have := (HLT.out _ e).2; omega)).trans HBX.out; have e1 := cellO HM2.out 1 rfl; clear ho2 hk2 ha2)
        | (go_at_call 54; refine (putBytes_any (.slice none 0 0) (.slice aom bl.length capm) [] bl w2 (Bs.nil _) (HBS.out.below HB2.out) (by simp) (by omega)).mono ?_; rintro e w3 ⟨x3, rfl, hf3, hb3⟩; rw [HPB.out] at hf3; have HF3 : Hid (Bs w3 x3 (d4 bl.length ++ bl)) := hf3.bs; have HB3 : Hid (Below w.heap.size w w3) := HB2.out.trans (hb3.mono HB2.out.size); have HO3 : Hid (Own w3 w.heap.size v2 (strmTo l i ++ d4 k)) := HO2.out.below hb3; clear hf3 hb3)
        | (at_builtin; refine wpList_append_bg w3 rfl (.tmp 31) (.tmp 32) 31 rfl i0 Tryd.underlying31 hi hz0 hz1 hz2 w.heap.size v2 x3 (strmTo l i ++ d4 k) (d4 bl.length ++ bl) p q HP.out HQ.out rfl rfl HO3.out HF3.out (by omega) HB3.out.size ?_; intro ao4 cap4 w4 ho4 hg4 ha4; have HO4 : Hid (Own w4 w.heap.size (.slice ao4 (p + q) cap4) ((strmTo l i ++ d4 k) ++ (d4 bl.length ++ bl))) := ho4; have HB4 : Hid (Below w.heap.size w w4) := below_gr8 HB3.out HO3.out hg4; clear ho4 hg4 ha4))
      go_roundw
      case rel => exact ⟨i + 1, by omega, by simp, by unfold Hid; rw [HN2.out]; exact HO4.out, HB4.out⟩
      case measure => simp [intOf]; omega
    · obtain rfl : i = n := by omega
      have HE : Hid (Own wr w.heap.size u5 (strm l)) := by unfold Hid; rw [← HSE.out]; exact HO.out
      go_wp2_with fail
      go_ret
      exact ⟨_, rfl, HE.out, HB.out⟩
end Go.Proofs.YtdalkjenjnalbaaDoor
