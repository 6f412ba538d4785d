/-
  Size: how many bytes the stream of messages has. Conditions: lengths are such as memory bears.
-/
import Derived.Test.YtjcippiilaknfaaDoorEMem
namespace Go.Proofs.YtjcippiilaknfaaDoor
open Go.RowKit
set_option linter.unusedVariables false
set_option maxRecDepth 100000

theorem any_false_len {l : List Msg} (h : l.any longB = false) : ∀ (i : Nat) (m : Msg), l[i]? = some m → m.2.2.length ≤ 65536 := by
  intro i m hm
  have := (List.any_eq_false.1 h) m (List.mem_of_getElem? hm)
  simp [longB] at this
  omega
def szTo (l : List Msg) (i : Nat) : Int := 4 + ((l.take i).map (fun m => 8 + (m.2.2.length : Int))).sum
theorem szTo_next {l : List Msg} {i : Nat} {m : Msg} (h : l[i]? = some m) : szTo l (i + 1) = szTo l i + (8 + (m.2.2.length : Int)) := by
  unfold szTo
  rw [List.take_add_one, h, List.map_append, List.sum_append]
  simp
  omega
theorem szTo_bd {l : List Msg} (h : l.any longB = false) : ∀ i : Nat, 0 ≤ szTo l i ∧ szTo l i ≤ 4 + (i : Int) * 65544
  | 0 => by simp [szTo]
  | i + 1 => by
    have ih := szTo_bd h i
    by_cases hi : i < l.length
    · obtain ⟨m, hm⟩ : ∃ m, l[i]? = some m := ⟨l[i], List.getElem?_eq_getElem hi⟩
      rw [szTo_next hm]
      have := any_false_len h i m hm
      push_cast
      omega
    · have e : szTo l (i + 1) = szTo l i := by unfold szTo; rw [List.take_of_length_le (by omega), List.take_of_length_le (by omega)]
      rw [e]; push_cast; omega
set_option maxHeartbeats 4000000 in
theorem size_any (w : World) (v : Value) (l : List Msg) (hM : Ms w v l) (hn : l.length ≤ 140737488351232) :
    Calls Tryd.prog 11 #[v] w fun e w' => e = .returned (.tuple #[.int .i64 (szN l), .int .i64 (szErr l)]) ∧ Below w.heap.size w w' := by
  have HM : Hid (Ms w v l) := hM
  obtain ⟨ao, cap, rfl, hcap, hc⟩ := hM
  have HC : Hid _ := hc
  have HL : Hid (∀ W, Below w.heap.size w W → Calls Tryd.prog 25 #[.slice ao l.length cap, .func (.func 26) #[] #[]] W fun e w' => e = .returned (.bool (l.any longB)) ∧ Below W.heap.size W w') := fun W hW => hasL_any W _ l (HM.out.below hW) (by omega)
  have HK : Hid (∀ W, Below w.heap.size w W → Calls Tryd.prog 25 #[.slice ao l.length cap, .func (.func 27) #[] #[]] W fun e w' => e = .returned (.bool (l.any kindB)) ∧ Below W.heap.size W w') := fun W hW => hasK_any W _ l (HM.out.below hW) (by omega)
  obtain ⟨n, HN⟩ : ∃ n, Hid (l.length = n) := ⟨_, rfl⟩
  have HSE : Hid (szErr l = if 65536 < n then 3 else if l.any longB then 3 else if l.any kindB then 2 else 0) := by unfold Hid szErr; rw [HN.out]
  have HSN : Hid (szN l = if szErr l = 0 then szTo l n else 0) := by unfold Hid szN szOf szTo; rw [← HN.out, List.take_length]
  have HNX : Hid (∀ (i : Nat) (m : Msg), l[i]? = some m → szTo l (i + 1) = szTo l i + (8 + (m.2.2.length : Int))) := fun i m h => szTo_next h
  obtain ⟨bl, HBL⟩ : ∃ bl, Hid (l.any longB = bl) := ⟨_, rfl⟩
  obtain ⟨bk, HBK⟩ : ∃ bk, Hid (l.any kindB = bk) := ⟨_, rfl⟩
  have HBD : Hid (bl = false → ∀ i : Nat, 0 ≤ szTo l i ∧ szTo l i ≤ 4 + (i : Int) * 65544) := fun h => szTo_bd (by rw [HBL.out]; exact h)
  have HLL : Hid (bl = false → ∀ (i : Nat) (m : Msg), l[i]? = some m → m.2.2.length ≤ 65536) := fun h => any_false_len (by rw [HBL.out]; exact h)
  rw [HBL.out, HBK.out] at HSE
  rw [HBL.out] at HL
  rw [HBK.out] at HK
  rw [HN.out] at hn hcap HL HK ⊢
  obtain ⟨er, HER⟩ : ∃ er, Hid (szErr l = er) := ⟨_, rfl⟩
  obtain ⟨sn, HSNn⟩ : ∃ sn, Hid (szN l = sn) := ⟨_, rfl⟩
  rw [HER.out] at HSE HSN ⊢
  rw [HSNn.out] at HSN ⊢
  clear hc
  by_cases hbig : 65536 < n
  · have hbi : (65536 : Int) < (n : Int) := by omega
    have e1 : er = 3 := by rw [HSE.out, if_pos hbig]
    have e2 : sn = 0 := by rw [HSN.out, if_neg (by omega)]
    subst e1 e2
    clear HSE HSN
    go_enter Tryd.func11, Tryd.ntmps11
    go_wp2_with fail
    go_ret2
    exact ⟨rfl, Below.refl _ _⟩
  · have hbi : ¬ (65536 : Int) < (n : Int) := by omega
    have h1 := HSE.out
    rw [if_neg hbig] at h1
    cases bl with
    | true =>
      have e1 : er = 3 := by simpa using h1
      have e2 : sn = 0 := by rw [HSN.out, if_neg (by omega)]
      subst e1 e2
      clear HSE HSN h1 HBD HLL
      go_enter Tryd.func11, Tryd.ntmps11
      go_wp2_with (go_at_call 25; refine Calls.mono (HL.out _ (Below.refl _ _)) ?_; rintro e w1 ⟨rfl, hb1⟩; have HB1 : Hid (Below w.heap.size w w1) := hb1; clear hb1)
      go_ret2
      exact ⟨rfl, HB1.out⟩
    | false =>
      have HBD' : Hid _ := HBD.out rfl
      have HLL' : Hid _ := HLL.out rfl
      clear HBD HLL
      cases bk with
      | true =>
        have e1 : er = 2 := by simpa using h1
        have e2 : sn = 0 := by rw [HSN.out, if_neg (by omega)]
        subst e1 e2
        clear HSE HSN h1
        go_enter Tryd.func11, Tryd.ntmps11
        go_wp2_with (first
          | (have hg := HB1; clear hg; go_at_call 25; refine Calls.mono (HK.out _ HB1.out) ?_; rintro e w2 ⟨rfl, hb2⟩; have HB2 : Hid (Below w.heap.size w w2) := HB1.out.trans (hb2.mono HB1.out.size); clear hb2)
          | (go_at_call 25; refine Calls.mono (HL.out _ (Below.refl _ _)) ?_; rintro e w1 ⟨rfl, hb1⟩; have HB1 : Hid (Below w.heap.size w w1) := hb1; clear hb1))
        go_ret2
        exact ⟨rfl, HB2.out⟩
      | false =>
        have e1 : er = 0 := by simpa using h1
        have e2 : sn = szTo l n := by rw [HSN.out, if_pos e1]
        subst e1
        have HE2 : Hid (sn = szTo l n) := e2
        clear HSE HSN h1 e2
        go_enter Tryd.func11, Tryd.ntmps11
        go_wp2_with (first
          | (have hg := HB1; clear hg; go_at_call 25; refine Calls.mono (HK.out _ HB1.out) ?_; rintro e w2 ⟨rfl, hb2⟩; have HB2 : Hid (Below w.heap.size w w2) := HB1.out.trans (hb2.mono HB1.out.size); clear hb2)
          | (go_at_call 25; refine Calls.mono (HL.out _ (Below.refl _ _)) ?_; rintro e w1 ⟨rfl, hb1⟩; have HB1 : Hid (Below w.heap.size w w1) := hb1; clear hb1))
        clear HL HK HB1
        go_loopw [18, 4] (fun x y wr => ∃ i : Nat, i ≤ n ∧ x = .int .i64 (i : Int) ∧ ∃ s : Int, y = .int .i64 s ∧ Hid (szTo l i = s) ∧ Hid (Below w.heap.size w wr)) (fun x _ _ => n - (intOf x).toNat)
        case atStart => exact ⟨0, Nat.zero_le _, rfl, 4, rfl, rfl, HB2.out⟩
        case round =>
          obtain ⟨i, hin, rfl, s, rfl, HS, HB⟩ := hrel
          clear HB2
          by_cases hlt : i < n
          · obtain ⟨m, hm⟩ : ∃ m, l[i]? = some m := ⟨l[i]'(by rw [HN.out]; exact hlt), List.getElem?_eq_getElem _⟩
            obtain ⟨hbs, g, o, rfl, c1, c2⟩ := HC.out i m hm
            obtain ⟨aom, capm, hv, _⟩ := hbs
            rw [hv] at c2
            have hml := HLL'.out i m hm
            have hnx := HNX.out i m hm
            obtain ⟨ml, HML⟩ : ∃ ml, Hid (m.2.2.length = ml) := ⟨_, rfl⟩
            rw [HML.out] at c2 hml hnx
            have HNX2 : Hid (szTo l (i + 1) = s + (8 + (ml : Int))) := by unfold Hid; rw [hnx, HS.out]
            have hbd := HBD'.out i
            rw [HS.out] at hbd
            obtain ⟨hs0, hs1⟩ := hbd
            have hs2 : s ≤ 5000000000 := by omega
            have hili : (i : Int) < (n : Int) := by omega
            have d1 : wr.cell? ⟨g, o + i * 2, none⟩ = some (.int .i64 m.1) := (HB.out.cell (World.block_lt_of_cell? w _ c1)).trans c1
            have d2 : wr.cell? ⟨g, o + i * 2 + 1, none⟩ = some (.slice aom ml capm) := (HB.out.cell (World.block_lt_of_cell? w _ c2)).trans c2
            have HX : Hid (Below w.heap.size w (wr.alloc (.cells #[.int .i64 m.1, .slice aom ml capm] 56))) := HB.out.alloc (HB.out.size) _
            clear c1 c2 hm hv hnx hs1
            go_wp2_with fail
            go_roundw
            case rel => exact ⟨i + 1, by omega, by simp, s + (8 + (ml : Int)), by first | rfl | simp, HNX2.out, HX.out⟩
            case measure => simp [intOf]; omega
          · obtain rfl : i = n := by omega
            have HE : Hid (s = sn) := by unfold Hid; rw [HE2.out, HS.out]
            go_wp2_with fail
            go_ret2
            exact ⟨by rw [← HE.out]; rfl, HB.out⟩
end Go.Proofs.YtjcippiilaknfaaDoor
