/-
  Messages in memory; the functions that ask a message or all of a list; how many bytes the stream has. Conditions: lengths are such as memory bears.
-/
import Derived.Test.YtdalkjenjnalbaaDoorXGood
import Derived.Test.YtdalkjenjnalbaaDoorWalkF
namespace Go.Proofs.YtdalkjenjnalbaaDoor
open Go.RowKit
set_option linter.unusedVariables false
set_option maxRecDepth 100000

/-- A message: its kind, the slice of its bytes, its bytes. -/
abbrev Msg := Int × Value × List Int
/-- A slice that reads as messages. -/
def Ms (w : World) (v : Value) (l : List Msg) : Prop := ∃ ao cap, v = .slice ao l.length cap ∧ l.length ≤ cap ∧ ∀ (i : Nat) (m : Msg), l[i]? = some m → Bs w m.2.1 m.2.2 ∧ ∃ g o, ao = some ⟨g, o, none⟩ ∧ w.cell? ⟨g, o + i * 2, none⟩ = some (.int .i64 m.1) ∧ w.cell? ⟨g, o + i * 2 + 1, none⟩ = some m.2.1
theorem Ms.below {w w' : World} {v : Value} {l : List Msg} (h : Ms w v l) (hb : Below w.heap.size w w') : Ms w' v l := by
  obtain ⟨ao, cap, h1, h2, h3⟩ := h
  refine ⟨ao, cap, h1, h2, fun i m hm => ?_⟩
  obtain ⟨h4, g, o, h5, h6, h7⟩ := h3 i m hm
  exact ⟨h4.below hb, g, o, h5, (hb.cell (World.block_lt_of_cell? w _ h6)).trans h6, (hb.cell (World.block_lt_of_cell? w _ h7)).trans h7⟩
/-- Numbers and lengths are such as memory bears. -/
def MOk (l : List Msg) : Prop := ∀ m ∈ l, (-9223372036854775808 ≤ m.1 ∧ m.1 ≤ 9223372036854775807) ∧ m.2.2.length ≤ 140737488351232 ∧ Byt m.2.2
def longB (m : Msg) : Bool := decide (65536 < (m.2.2.length : Int))
def kindB (m : Msg) : Bool := decide (m.1 < 1) || decide (255 < m.1)
theorem tooLong_any (k : Int) (ao : Option Addr) (n cap : Nat) (w : World) : Calls Tryd.prog 26 #[.agg #[.int .i64 k, .slice ao n cap]] w fun e w' => e = .returned (.bool (decide (65536 < (n : Int)))) ∧ Below w.heap.size w w' := by
  have HX : Hid (Below w.heap.size w (w.alloc (.cells #[.int .i64 k, .slice ao n cap] 56))) := (Below.refl _ _).alloc (Nat.le_refl _) _
  go_enter Tryd.func26, Tryd.ntmps26
  go_wp2_with fail
  go_ret
  exact ⟨rfl, HX.out⟩
theorem noKind_any (k : Int) (ao : Option Addr) (n cap : Nat) (w : World) : Calls Tryd.prog 27 #[.agg #[.int .i64 k, .slice ao n cap]] w fun e w' => e = .returned (.bool (decide (k < 1) || decide (255 < k))) ∧ Below w.heap.size w w' := by
  have HX : Hid (Below w.heap.size w (w.alloc (.cells #[.int .i64 k, .slice ao n cap] 56))) := (Below.refl _ _).alloc (Nat.le_refl _) _
  by_cases h : k < 1
  · go_enter Tryd.func27, Tryd.ntmps27
    go_wp2_with fail
    go_ret
    exact ⟨by simp [h], HX.out⟩
  · go_enter Tryd.func27, Tryd.ntmps27
    go_wp2_with fail
    go_ret
    exact ⟨by rw [show decide (k < 1) = false by simpa using h, Bool.false_or]; rfl, HX.out⟩
set_option maxHeartbeats 4000000 in
theorem idxL_any (w : World) (v : Value) (l : List Msg) (hM : Ms w v l) (hn : l.length ≤ 281474976710656) :
    Calls Tryd.prog 44 #[v, .func (.func 26) #[] #[]] w fun e w' => ∃ b : Int, e = .returned (.int .i64 b) ∧ decide (0 ≤ b) = l.any longB ∧ Below w.heap.size w w' := by
  obtain ⟨ao, cap, rfl, hcap, hc⟩ := hM
  have HC : Hid _ := hc
  obtain ⟨n, HN⟩ : ∃ n, Hid (l.length = n) := ⟨_, rfl⟩
  rw [HN.out] at hcap hn ⊢
  have eg : ∀ args w, (callFunc 26 args).run Tryd.prog w = .ok (.enter 26 args) w := enters_of Tryd.func26 (by kernel_rfl) rfl
  clear hc
  go_enter Tryd.func44, Tryd.ntmps44
  go_wp2_with fail
  go_loopw [8] (fun x wr => ∃ i : Nat, i ≤ n ∧ x = .int .i64 (i : Int) ∧ Hid ((l.take i).any longB = false) ∧ Hid (Below w.heap.size w wr)) (fun x _ => n - (intOf x).toNat)
  case atStart => exact ⟨0, Nat.zero_le _, rfl, rfl, Below.refl _ _⟩
  case round =>
    obtain ⟨i, hin, rfl, HA, HB⟩ := hrel
    by_cases hlt : i < n
    · obtain ⟨m, hm⟩ : ∃ m, l[i]? = some m := ⟨l[i]'(by rw [HN.out]; exact hlt), List.getElem?_eq_getElem _⟩
      obtain ⟨hbs, g, o, rfl, c1, c2⟩ := HC.out i m hm
      obtain ⟨aom, capm, hv, _⟩ := hbs
      rw [hv] at c2
      have d1 : wr.cell? ⟨g, o + i * 2, none⟩ = some (.int .i64 m.1) := (HB.out.cell (World.block_lt_of_cell? w _ c1)).trans c1
      have d2 : wr.cell? ⟨g, o + i * 2 + 1, none⟩ = some (.slice aom m.2.2.length capm) := (HB.out.cell (World.block_lt_of_cell? w _ c2)).trans c2
      have HT : Hid ((l.take (i + 1)).any longB = (longB m)) := by unfold Hid; rw [List.take_add_one, hm, List.any_append, HA.out]; simp
      have hili : (i : Int) < (n : Int) := by omega
      have HALL : Hid (longB m = true → l.any longB = true) := fun h => List.any_eq_true.2 ⟨m, List.mem_of_getElem? hm, h⟩
      obtain ⟨b, hb⟩ : ∃ b, longB m = b := ⟨_, rfl⟩
      have hb' : decide (65536 < (m.2.2.length : Int)) = b := hb
      have HF : Hid _ := tooLong_any m.1 aom m.2.2.length capm wr
      rw [hb'] at HF
      rw [hb] at HT HALL
      clear c1 c2 hm hv hb hb'
      cases b with
      | true =>
        have HAL : Hid (l.any longB = true) := HALL.out rfl
        clear HALL
        go_wp2_with (go_at_call 26; refine Calls.mono HF.out ?_; rintro e w1 ⟨rfl, hb1⟩; have HB1 : Hid (Below w.heap.size w w1) := HB.out.trans (hb1.mono HB.out.size); clear hb1)
        go_ret
        exact ⟨_, rfl, by rw [HAL.out]; simp, HB1.out⟩
      | false =>
        clear HALL
        go_wp2_with (go_at_call 26; refine Calls.mono HF.out ?_; rintro e w1 ⟨rfl, hb1⟩; have HB1 : Hid (Below w.heap.size w w1) := HB.out.trans (hb1.mono HB.out.size); clear hb1)
        go_roundw
        case rel => exact ⟨i + 1, by omega, by simp, HT.out, HB1.out⟩
        case measure => simp [intOf]; omega
    · obtain rfl : i = n := by omega
      have HE : Hid (l.any longB = false) := by have h := HA.out; rwa [List.take_of_length_le (by rw [HN.out]; exact Nat.le_refl _)] at h
      go_wp2_with fail
      go_ret
      exact ⟨_, rfl, by rw [HE.out]; rfl, HB.out⟩
theorem hasL_any (w : World) (v : Value) (l : List Msg) (hM : Ms w v l) (hn : l.length ≤ 281474976710656) :
    Calls Tryd.prog 25 #[v, .func (.func 26) #[] #[]] w fun e w' => e = .returned (.bool (l.any longB)) ∧ Below w.heap.size w w' := by
  have HI : Hid _ := idxL_any w v l hM hn
  obtain ⟨ao, cap, rfl, _, _⟩ := hM
  go_enter Tryd.func25, Tryd.ntmps25
  go_wp2_with (go_at_call 44; refine Calls.mono HI.out ?_; rintro e w1 ⟨b, rfl, hd, hb1⟩; have HD : Hid (decide (0 ≤ b) = l.any longB) := hd; have HB1 : Hid (Below w.heap.size w w1) := hb1; clear hd hb1)
  go_ret
  exact ⟨by rw [← HD.out]; rfl, HB1.out⟩
set_option maxHeartbeats 4000000 in
theorem idxK_any (w : World) (v : Value) (l : List Msg) (hM : Ms w v l) (hn : l.length ≤ 281474976710656) :
    Calls Tryd.prog 44 #[v, .func (.func 27) #[] #[]] w fun e w' => ∃ b : Int, e = .returned (.int .i64 b) ∧ decide (0 ≤ b) = l.any kindB ∧ Below w.heap.size w w' := by
  obtain ⟨ao, cap, rfl, hcap, hc⟩ := hM
  have HC : Hid _ := hc
  obtain ⟨n, HN⟩ : ∃ n, Hid (l.length = n) := ⟨_, rfl⟩
  rw [HN.out] at hcap hn ⊢
  have eg : ∀ args w, (callFunc 27 args).run Tryd.prog w = .ok (.enter 27 args) w := enters_of Tryd.func27 (by kernel_rfl) rfl
  clear hc
  go_enter Tryd.func44, Tryd.ntmps44
  go_wp2_with fail
  go_loopw [8] (fun x wr => ∃ i : Nat, i ≤ n ∧ x = .int .i64 (i : Int) ∧ Hid ((l.take i).any kindB = false) ∧ Hid (Below w.heap.size w wr)) (fun x _ => n - (intOf x).toNat)
  case atStart => exact ⟨0, Nat.zero_le _, rfl, rfl, Below.refl _ _⟩
  case round =>
    obtain ⟨i, hin, rfl, HA, HB⟩ := hrel
    by_cases hlt : i < n
    · obtain ⟨m, hm⟩ : ∃ m, l[i]? = some m := ⟨l[i]'(by rw [HN.out]; exact hlt), List.getElem?_eq_getElem _⟩
      obtain ⟨hbs, g, o, rfl, c1, c2⟩ := HC.out i m hm
      obtain ⟨aom, capm, hv, _⟩ := hbs
      rw [hv] at c2
      have d1 : wr.cell? ⟨g, o + i * 2, none⟩ = some (.int .i64 m.1) := (HB.out.cell (World.block_lt_of_cell? w _ c1)).trans c1
      have d2 : wr.cell? ⟨g, o + i * 2 + 1, none⟩ = some (.slice aom m.2.2.length capm) := (HB.out.cell (World.block_lt_of_cell? w _ c2)).trans c2
      have HT : Hid ((l.take (i + 1)).any kindB = (kindB m)) := by unfold Hid; rw [List.take_add_one, hm, List.any_append, HA.out]; simp
      have hili : (i : Int) < (n : Int) := by omega
      have HALL : Hid (kindB m = true → l.any kindB = true) := fun h => List.any_eq_true.2 ⟨m, List.mem_of_getElem? hm, h⟩
      obtain ⟨b, hb⟩ : ∃ b, kindB m = b := ⟨_, rfl⟩
      have hb' : (decide (m.1 < 1) || decide (255 < m.1)) = b := hb
      have HF : Hid _ := noKind_any m.1 aom m.2.2.length capm wr
      rw [hb'] at HF
      rw [hb] at HT HALL
      clear c1 c2 hm hv hb hb'
      cases b with
      | true =>
        have HAL : Hid (l.any kindB = true) := HALL.out rfl
        clear HALL
        go_wp2_with (go_at_call 27; refine Calls.mono HF.out ?_; rintro e w1 ⟨rfl, hb1⟩; have HB1 : Hid (Below w.heap.size w w1) := HB.out.trans (hb1.mono HB.out.size); clear hb1)
        go_ret
        exact ⟨_, rfl, by rw [HAL.out]; simp, HB1.out⟩
      | false =>
        clear HALL
        go_wp2_with (go_at_call 27; refine Calls.mono HF.out ?_; rintro e w1 ⟨rfl, hb1⟩; have HB1 : Hid (Below w.heap.size w w1) := HB.out.trans (hb1.mono HB.out.size); clear hb1)
        go_roundw
        case rel => exact ⟨i + 1, by omega, by simp, HT.out, HB1.out⟩
        case measure => simp [intOf]; omega
    · obtain rfl : i = n := by omega
      have HE : Hid (l.any kindB = false) := by have h := HA.out; rwa [List.take_of_length_le (by rw [HN.out]; exact Nat.le_refl _)] at h
      go_wp2_with fail
      go_ret
      exact ⟨_, rfl, by rw [HE.out]; rfl, HB.out⟩
theorem hasK_any (w : World) (v : Value) (l : List Msg) (hM : Ms w v l) (hn : l.length ≤ 281474976710656) :
    Calls Tryd.prog 25 #[v, .func (.func 27) #[] #[]] w fun e w' => e = .returned (.bool (l.any kindB)) ∧ Below w.heap.size w w' := by
  have HI : Hid _ := idxK_any w v l hM hn
  obtain ⟨ao, cap, rfl, _, _⟩ := hM
  go_enter Tryd.func25, Tryd.ntmps25
  go_wp2_with (go_at_call 44; refine Calls.mono HI.out ?_; rintro e w1 ⟨b, rfl, hd, hb1⟩; have HD : Hid (decide (0 ≤ b) = l.any kindB) := hd; have HB1 : Hid (Below w.heap.size w w1) := hb1; clear hd hb1)
  go_ret
  exact ⟨by rw [← HD.out]; rfl, HB1.out⟩
/-- How many bytes the stream has; the error. -/
def szOf (l : List Msg) : Int := 4 + (l.map (fun m => 8 + (m.2.2.length : Int))).sum
def szErr (l : List Msg) : Int := if 65536 < l.length then 3 else if l.any longB then 3 else if l.any kindB then 2 else 0
def szN (l : List Msg) : Int := if szErr l = 0 then szOf l else 0
end Go.Proofs.YtdalkjenjnalbaaDoor
