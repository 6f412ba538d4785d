/-
  The stream of messages that may be. Conditions: lengths are such as memory bears.
-/
import Derived.Test.YtjcippiilaknfaaDoorENum
import Derived.Test.YtjcippiilaknfaaDoorWalkG
import Derived.Test.YtjcippiilaknfaaDoorGSep
import Derived.Laws.MakeOwn
namespace Go.Proofs.YtjcippiilaknfaaDoor
open Go.RowKit
set_option linter.unusedVariables false
set_option maxRecDepth 100000

/-- A message's bytes in the stream; the stream. -/
def msgL (m : Msg) : List Int := d4 m.1 ++ (d4 m.2.2.length ++ m.2.2)
def strm (l : List Msg) : List Int := d4 l.length ++ l.flatMap msgL
def strmTo (l : List Msg) (i : Nat) : List Int := d4 l.length ++ (l.take i).flatMap msgL
theorem msgL_length (m : Msg) : (msgL m).length = 8 + m.2.2.length := by simp only [msgL, List.length_append, d4_length]; omega
theorem strmTo_next {l : List Msg} {i : Nat} {m : Msg} (h : l[i]? = some m) : strmTo l (i + 1) = strmTo l i ++ msgL m := by
  unfold strmTo
  rw [List.take_add_one, h, List.flatMap_append, List.append_assoc]
  simp
theorem strmTo_len (l : List Msg) : ∀ i : Nat, ((strmTo l i).length : Int) = szTo l i
  | 0 => by simp [strmTo, szTo, d4_length]
  | i + 1 => by
    by_cases hi : i < l.length
    · have hm : l[i]? = some l[i] := List.getElem?_eq_getElem hi
      rw [strmTo_next hm, szTo_next hm, List.length_append, msgL_length, ← strmTo_len l i]
      omega
    · have e1 : strmTo l (i + 1) = strmTo l i := by unfold strmTo; rw [List.take_of_length_le (by omega), List.take_of_length_le (by omega)]
      have e2 : szTo l (i + 1) = szTo l i := by unfold szTo; rw [List.take_of_length_le (by omega), List.take_of_length_le (by omega)]
      rw [e1, e2]; exact strmTo_len l i
theorem strm_len (l : List Msg) : ((strm l).length : Int) = szOf l := by
  have := strmTo_len l l.length
  unfold strmTo szTo at this
  rw [List.take_length] at this
  exact this
theorem below_gr8 {w0 w w' : World} {v : Value} {l : List Int} (hb : Below w0.heap.size w0 w) (hr : Own w w0.heap.size v l) (hg : w.grownBy w' v.ownBlock) : Below w0.heap.size w0 w' :=
  hb.trans ⟨hg.os, hg.tape, hg.output, hg.size, fun x hx => hg.block x (Nat.lt_of_lt_of_le hx hb.size) (fun e => by have := (own_lt hr x e.symm).1; omega)⟩
theorem pb_one {x : List Int} (h : x.length ≤ 65536) : pbList [] x = d4 x.length ++ x := by
  unfold pbList
  rw [if_neg (by omega)]
  rfl
set_option maxHeartbeats 4000000 in
theorem stream_any (w : World) (v : Value) (l : List Msg) (hM : Ms w v l) (hn : l.length ≤ 65536) (hL : l.any longB = false) (hK : l.any kindB = false) (sz : Nat) (hsz : sz ≤ 5000000000) :
    Calls Tryd.prog 34 #[v, .int .i64 (sz : Int)] w fun e w' => ∃ v', e = .returned v' ∧ Own w' w.heap.size v' (strm l) ∧ Below w.heap.size w w' := by
  obtain ⟨i0, hi, hz0, hz1, hz2⟩ := info_parts Tryd.info5
  obtain ⟨ao, cap, rfl, hcap, hc⟩ := hM
  have HC : Hid _ := hc
  have HLL : Hid _ := any_false_len hL
  have HKK : Hid (∀ (i : Nat) (m : Msg), l[i]? = some m → 1 ≤ m.1 ∧ m.1 ≤ 255) := by
    intro i m hm
    have := (List.any_eq_false.1 hK) m (List.mem_of_getElem? hm)
    simp [kindB] at this
    omega
  have HLEN : Hid (∀ i : Nat, i ≤ 65536 → (strmTo l i).length ≤ 5000000000) := by
    intro i hi
    have h1 := strmTo_len l i
    have h2 := szTo_bd hL i
    omega
  have HNX : Hid (∀ (i : Nat) (m : Msg), l[i]? = some m → strmTo l (i + 1) = strmTo l i ++ msgL m) := fun i m h => strmTo_next h
  obtain ⟨n, HN⟩ : ∃ n, Hid (l.length = n) := ⟨_, rfl⟩
  have HS0 : Hid (strmTo l 0 = d4 (n : Int)) := by unfold Hid strmTo; rw [HN.out]; simp
  have HSE : Hid (strmTo l n = strm l) := by unfold Hid strmTo strm; rw [← HN.out, List.take_length]
  rw [HN.out] at hn hcap ⊢
  obtain ⟨wm, hrun, hom, hgm⟩ := run_make_own (P := Tryd.prog) w w.heap.size 31 5 i0 _ 1 Tryd.underlying31 hi hz0 hz1 .i64 .i64 sz (by rw [hz2]; omega) (by unfold maxLen; omega) (Nat.le_refl _)
  have HBM : Hid (Below w.heap.size w wm) := ⟨hgm.os, hgm.tape, hgm.output, hgm.size, fun x hx => hgm.block x hx (by simp)⟩
  have HWN : Hid _ := withN_any (n : Int) w.heap.size (.slice (some ⟨w.heap.size, 0, none⟩) 0 sz) [] wm hom HBM.out.size (by omega) (by omega) (by simp)
  have HOL : Hid (∀ x, (Value.slice (some ⟨w.heap.size, 0, none⟩) 0 sz).ownBlock = some x → w.heap.size ≤ x) := fun x hx => by simp [Value.ownBlock] at hx; omega
  clear hc hom hgm hL hK
  go_enter Tryd.func34, Tryd.ntmps34
  go_wp2_with (go_at_call 53; refine Calls.mono HWN.out ?_; rintro e w1 ⟨v1, rfl, ho1, hb1, _⟩; have HO1 : Hid (Own w1 w.heap.size v1 (d4 (n : Int))) := ho1; have HB1 : Hid (Below w.heap.size w w1) := HBM.out.trans (hb1.below HBM.out.size HOL.out); clear ho1 hb1)
  clear HWN hrun HBM
  go_loopw [17, 5] (fun x y wr => ∃ i : Nat, i ≤ n ∧ x = .int .i64 (i : Int) ∧ Hid (Own wr w.heap.size y (strmTo l i)) ∧ Hid (Below w.heap.size w wr)) (fun x _ _ => n - (intOf x).toNat)
  case atStart => exact ⟨0, Nat.zero_le _, rfl, by unfold Hid; rw [HS0.out]; exact HO1.out, HB1.out⟩
  case round =>
    obtain ⟨i, hin, rfl, HO, HB⟩ := hrel
    clear HO1 HB1
    by_cases hlt : i < n
    · obtain ⟨m, hm⟩ : ∃ m, l[i]? = some m := ⟨l[i]'(by rw [HN.out]; exact hlt), List.getElem?_eq_getElem _⟩
      obtain ⟨hbs, g, o, rfl, c1, c2⟩ := HC.out i m hm
      have HBS : Hid (Bs w m.2.1 m.2.2) := hbs
      obtain ⟨aom, capm, hv, _⟩ := hbs
      have hml := HLL.out i m hm
      obtain ⟨hk1, hk2⟩ := HKK.out i m hm
      have HN2 : Hid (strmTo l (i + 1) = (strmTo l i ++ d4 m.1) ++ (d4 m.2.2.length ++ m.2.2)) := by unfold Hid; rw [HNX.out i m hm, msgL, List.append_assoc]
      have HLI : Hid ((strmTo l i).length ≤ 5000000000) := HLEN.out i (by omega)
      rw [hv] at c2 HBS
      obtain ⟨k, HKe⟩ : ∃ k, Hid (m.1 = k) := ⟨_, rfl⟩
      rw [HKe.out] at c1 hk1 hk2 HN2
      obtain ⟨bl, HBl⟩ : ∃ bl, Hid (m.2.2 = bl) := ⟨_, rfl⟩
      rw [HBl.out] at c2 hml HN2 HBS
      have d1 : wr.cell? ⟨g, o + i * 2, none⟩ = some (.int .i64 k) := (HB.out.cell (World.block_lt_of_cell? w _ c1)).trans c1
      have d2 : wr.cell? ⟨g, o + i * 2 + 1, none⟩ = some (.slice aom bl.length capm) := (HB.out.cell (World.block_lt_of_cell? w _ c2)).trans c2
      have HX : Hid (Below wr.heap.size wr (wr.alloc (.cells #[.int .i64 k, .slice aom bl.length capm] 56))) := (Below.refl _ _).alloc (Nat.le_refl _) _
      have HXB : Hid (Below w.heap.size w (wr.alloc (.cells #[.int .i64 k, .slice aom bl.length capm] 56))) := HB.out.trans (HX.out.mono HB.out.size)
      have HOX : Hid (Own (wr.alloc (.cells #[.int .i64 k, .slice aom bl.length capm] 56)) w.heap.size u5 (strmTo l i)) := HO.out.below HX.out
      have HLT : Hid (∀ x, u5.ownBlock = some x → w.heap.size ≤ x ∧ x < wr.heap.size) := own_lt HO.out
      have HWN : Hid _ := withN_any k w.heap.size u5 (strmTo l i) _ HOX.out HXB.out.size (by omega) (by omega) (by have := HLI.out; omega)
      have HBX : Hid ((wr.alloc (.cells #[.int .i64 k, .slice aom bl.length capm] 56)).heap[wr.heap.size]? = some (.cells #[.int .i64 k, .slice aom bl.length capm] 56 (0, 0))) := heap_alloc_new wr _
      obtain ⟨p, HP⟩ : ∃ p, Hid ((strmTo l i ++ d4 k).length = p) := ⟨_, rfl⟩
      have hp : p ≤ 5000000004 := by rw [← HP.out, List.length_append, d4_length]; have := HLI.out; omega
      obtain ⟨q, HQ⟩ : ∃ q, Hid ((d4 bl.length ++ bl).length = q) := ⟨_, rfl⟩
      have hq : q ≤ 65540 := by rw [← HQ.out, List.length_append, d4_length]; omega
      have HPB : Hid (pbList [] bl = d4 bl.length ++ bl) := pb_one hml
      clear c1 c2 hv hm
      go_wp2_with (first
        | (go_at_call 53; refine Calls.mono HWN.out ?_; rintro e w2 ⟨v2, rfl, ho2, hk2, ha2⟩; have HO2 : Hid (Own w2 w.heap.size v2 (strmTo l i ++ d4 k)) := ho2; have HB2 : Hid (Below w.heap.size w w2) := HXB.out.trans (hk2.below HXB.out.size (fun x hx => (HLT.out x hx).1)); have HM2 : Hid (w2.heap[wr.heap.size]? = some (.cells #[.int .i64 k, .slice aom bl.length capm] 56 (0, 0))) := (hk2.block wr.heap.size (by simp) (fun e => by have := (HLT.out _ e).2; omega)).trans HBX.out; have e1 := cellO HM2.out 1 rfl; clear ho2 hk2 ha2)
        | (go_at_call 54; refine (putBytes_any (.slice none 0 0) (.slice aom bl.length capm) [] bl w2 (Bs.nil _) (HBS.out.below HB2.out) (by simp) (by omega)).mono ?_; rintro e w3 ⟨x3, rfl, hf3, hb3⟩; rw [HPB.out] at hf3; have HF3 : Hid (Bs w3 x3 (d4 bl.length ++ bl)) := hf3.bs; have HB3 : Hid (Below w.heap.size w w3) := HB2.out.trans (hb3.mono HB2.out.size); have HO3 : Hid (Own w3 w.heap.size v2 (strmTo l i ++ d4 k)) := HO2.out.below hb3; clear hf3 hb3)
        | (at_builtin; refine wpList_append_bg w3 rfl (.tmp 31) (.tmp 32) 31 rfl i0 Tryd.underlying31 hi hz0 hz1 hz2 w.heap.size v2 x3 (strmTo l i ++ d4 k) (d4 bl.length ++ bl) p q HP.out HQ.out rfl rfl HO3.out HF3.out (by omega) HB3.out.size ?_; intro ao4 cap4 w4 ho4 hg4 ha4; have HO4 : Hid (Own w4 w.heap.size (.slice ao4 (p + q) cap4) ((strmTo l i ++ d4 k) ++ (d4 bl.length ++ bl))) := ho4; have HB4 : Hid (Below w.heap.size w w4) := below_gr8 HB3.out HO3.out hg4; clear ho4 hg4 ha4))
      go_roundw
      case rel => exact ⟨i + 1, by omega, by simp, by unfold Hid; rw [HN2.out]; exact HO4.out, HB4.out⟩
      case measure => simp [intOf]; omega
    · obtain rfl : i = n := by omega
      have HE : Hid (Own wr w.heap.size u5 (strm l)) := by unfold Hid; rw [← HSE.out]; exact HO.out
      go_wp2_with fail
      go_ret
      exact ⟨_, rfl, HE.out, HB.out⟩
end Go.Proofs.YtjcippiilaknfaaDoor
