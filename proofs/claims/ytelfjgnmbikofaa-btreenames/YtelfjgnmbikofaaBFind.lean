/-
  Names in new memory; the walks of find and of what it calls: a place in a row of items. Conditions: the row's keys rise; lengths are such as memory bears.
-/
import Derived.Test.YtelfjgnmbikofaaBCmp
import Derived.Test.YtelfjgnmbikofaaClones
import Derived.Deep.LoopGhost
namespace Go.Proofs.Ytelfjgnmbikofaa
open Go.RowKit
set_option linter.unusedVariables false
set_option maxRecDepth 100000

theorem sclone_any (s : ByteArray) (w : World) (h : s.size ≤ 281474976710656) : Calls Try.prog 43 #[.string s] w fun e w' => e = .returned (.string s) ∧ Below w.heap.size w w' := by
  have hcon := AnyPu.stringslite_Clone Try.cloneA s w h
  change Calls Try.prog 53 _ _ _ at hcon
  have HC : Hid _ := hcon
  clear hcon
  go_enter Try.func43, Try.ntmps43
  go_wp2_with (go_at_call 53; refine Calls.mono HC.out ?_; rintro e w1 ⟨rfl, hb1⟩; have HB1 : Hid (Below w.heap.size w w1) := hb1; clear hb1)
  go_ret
  exact ⟨rfl, HB1.out⟩
theorem ownName_any (s : ByteArray) (w : World) (h : s.size ≤ 281474976710656) : Calls Try.prog 29 #[.string s] w fun e w' => e = .returned (.string s) ∧ Below w.heap.size w w' := by
  have HC : Hid _ := sclone_any s w h
  go_enter Try.func29, Try.ntmps29
  go_wp2_with (go_at_call 43; refine Calls.mono HC.out ?_; rintro e w1 ⟨rfl, hb1⟩; have HB1 : Hid (Below w.heap.size w w1) := hb1; clear hb1)
  go_ret
  exact ⟨rfl, HB1.out⟩

abbrev It := ByteArray × Int
def encI (x : It) : List Value := [.string x.1, .int .u64 x.2]
theorem encI_len (x : It) : (encI x).length = 2 := rfl
/-- A slice that reads as items. -/
def Its (w : World) (v : Value) (L : List It) : Prop := ∃ ao cap, v = .slice ao L.length cap ∧ L.length ≤ cap ∧ ∀ i x, L[i]? = some x → ∃ g o, ao = some ⟨g, o, none⟩ ∧ w.cell? ⟨g, o + i * 2, none⟩ = some (.string x.1) ∧ w.cell? ⟨g, o + i * 2 + 1, none⟩ = some (.int .u64 x.2)
theorem Its.below {w w' : World} {v : Value} {L : List It} (h : Its w v L) (hb : Below w.heap.size w w') : Its w' v L := by
  obtain ⟨ao, cap, e, hc, hcell⟩ := h
  refine ⟨ao, cap, e, hc, fun i x hx => ?_⟩
  obtain ⟨g, o, h1, h2, h3⟩ := hcell i x hx
  exact ⟨g, o, h1, (hb.cell (World.block_lt_of_cell? w _ h2)).trans h2, (hb.cell (World.block_lt_of_cell? w _ h3)).trans h3⟩
theorem Its.of_row {w : World} {B : Nat} {v : Value} {L : List It} (h : w.ownsRow B 69 2 v L.length (gc encI L)) : Its w v L := by
  rcases ownsRow_shape h with ⟨rfl, h0⟩ | ⟨g, cap, rfl, _, _, hle, _, _, hc⟩
  · exact ⟨none, 0, by rw [h0], by omega, fun i x hx => by have := (List.getElem?_eq_some_iff.1 hx).1; omega⟩
  · refine ⟨_, cap, rfl, hle, fun i x hx => ⟨g, 0, rfl, ?_, ?_⟩⟩
    · have := hc _ _ (gc_at encI_len L i x hx 0 _ rfl); simpa using this
    · have := hc _ _ (gc_at encI_len L i x hx 1 _ rfl); simpa using this
/-- The closure of find. -/
theorem findC_any (x : It) (k : ByteArray) (bx : Nat) (w : World) (hc : w.cell? ⟨bx, 0, none⟩ = some (.func (.func 21) #[] #[])) :
    Calls Try.prog 55 #[.agg #[.string x.1, .int .u64 x.2], .string k, .pointer (some ⟨bx, 0, none⟩)] w fun e w' => e = .returned (.int .i64 (cmpN x.1 k)) ∧ Below w.heap.size w w' := by
  obtain ⟨a, v⟩ := x
  have hbx := World.block_lt_of_cell? w _ hc
  have hb : Below w.heap.size w (w.alloc (.cells #[.string a, .int .u64 v] 69)) := (Below.refl _ _).alloc (Nat.le_refl _) _
  have hc' : (w.alloc (.cells #[.string a, .int .u64 v] 69)).cell? ⟨bx, 0, none⟩ = some (.func (.func 21) #[] #[]) := (hb.cell hbx).trans hc
  have HB : Hid _ := hb
  clear hb
  go_enter Try.func55, Try.ntmps55
  go_wp2_with (go_at_call 21; refine (cmpNames_any a k _).mono ?_; rintro e w1 ⟨rfl, hw1⟩; obtain rfl := hw1.symm)
  go_ret
  exact ⟨rfl, HB.out⟩
/-- Keys below k come first. -/
def Low (L : List It) (k : ByteArray) : Prop := ∀ (i j : Nat) (x y : It), i < j → L[i]? = some x → L[j]? = some y → cmpN y.1 k < 0 → cmpN x.1 k < 0
/-- The place where k stands, or would. -/
def At (L : List It) (k : ByteArray) (p : Nat) : Prop := p ≤ L.length ∧ ∀ i x, L[i]? = some x → (i < p ↔ cmpN x.1 k < 0)
def isAt (L : List It) (k : ByteArray) (p : Nat) : Bool := match L[p]? with
  | some x => cmpN x.1 k == 0
  | none => false

set_option maxHeartbeats 4000000 in
theorem bsf_any (L : List It) (v : Value) (k : ByteArray) (bx : Nat) (w : World) (hI : Its w v L) (hn : L.length ≤ 1000000) (hL : Low L k) (hc : w.cell? ⟨bx, 0, none⟩ = some (.func (.func 21) #[] #[])) :
    Calls Try.prog 54 #[v, .string k, .func (.func 55) #[] #[.pointer (some ⟨bx, 0, none⟩)]] w fun e w' => ∃ p, At L k p ∧ e = .returned (.tuple #[.int .i64 ((p : Nat) : Int), .bool (isAt L k p)]) ∧ Below w.heap.size w w' := by
  have HI : Hid (Its w v L) := hI
  have HL : Hid (Low L k) := hL
  obtain ⟨n, HN⟩ : ∃ n, Hid (L.length = n) := ⟨_, rfl⟩
  obtain ⟨ao, cap, rfl, hcap, hcell⟩ := hI
  rw [HN.out] at hcap hn HI ⊢
  have HC : Hid (∀ i x, L[i]? = some x → ∃ g o, ao = some ⟨g, o, none⟩ ∧ w.cell? ⟨g, o + i * 2, none⟩ = some (.string x.1) ∧ w.cell? ⟨g, o + i * 2 + 1, none⟩ = some (.int .u64 x.2)) := hcell
  have HF : Hid (w.cell? ⟨bx, 0, none⟩ = some (.func (.func 21) #[] #[])) := hc
  have eg : ∀ args w, (callFunc 55 args).run Try.prog w = .ok (.enter 55 args) w := enters_of Try.func55 (by kernel_rfl) rfl
  clear hL hcell hc
  go_enter Try.func54, Try.ntmps54
  go_wp2_with fail
  go_loopw [9, 10] (fun x y wr => ∃ (a b : Nat), a ≤ b ∧ b ≤ n ∧ x = .int .i64 (a : Int) ∧ y = .int .i64 (b : Int) ∧ Hid (∀ i z, L[i]? = some z → (i < a → cmpN z.1 k < 0) ∧ (b ≤ i → 0 ≤ cmpN z.1 k)) ∧ Hid (Below w.heap.size w wr)) (fun x y _ => (intOf y).toNat - (intOf x).toNat)
  case atStart => exact ⟨0, n, Nat.zero_le _, Nat.le_refl _, by simp, rfl, fun i z hz => ⟨fun h => by omega, fun h => by have := (List.getElem?_eq_some_iff.1 hz).1; rw [HN.out] at this; omega⟩, Below.refl _ _⟩
  case round =>
    obtain ⟨a, b, hab, hbn, rfl, rfl, HP, HB⟩ := hrel
    by_cases hlt : a < b
    · obtain ⟨h, hh⟩ : ∃ h, h = (a + b) / 2 := ⟨_, rfl⟩
      have hh1 : a ≤ h := by omega
      have hh2 : h < b := by omega
      obtain ⟨z, hz⟩ : ∃ z, L[h]? = some z := ⟨L[h]'(by rw [HN.out]; omega), List.getElem?_eq_getElem _⟩
      obtain ⟨g, o, rfl, c1, c2⟩ := HC.out h z hz
      have d1 : wr.cell? ⟨g, o + h * 2, none⟩ = some (.string z.1) := (HB.out.cell (World.block_lt_of_cell? w _ c1)).trans c1
      have d2 : wr.cell? ⟨g, o + h * 2 + 1, none⟩ = some (.int .u64 z.2) := (HB.out.cell (World.block_lt_of_cell? w _ c2)).trans c2
      have HFC : Hid _ := findC_any z k bx wr ((HB.out.cell (World.block_lt_of_cell? w _ HF.out)).trans HF.out)
      have HH : Hid (h = (a + b) / 2) := hh
      have HZ : Hid (L[h]? = some z) := hz
      rw [hh] at d1 d2
      have hneg : (cmpN z.1 k < 0 ∧ decide (cmpN z.1 k < 0) = true) ∨ (¬ cmpN z.1 k < 0 ∧ decide (cmpN z.1 k < 0) = false) := by
        by_cases q : cmpN z.1 k < 0
        · exact .inl ⟨q, by simpa using q⟩
        · exact .inr ⟨q, by simpa using q⟩
      clear c1 c2 hh hz
      rcases hneg with ⟨hc, hd⟩ | ⟨hc, hd⟩
      · have HCN : Hid (cmpN z.1 k < 0) := hc
        obtain ⟨r, HR⟩ : ∃ r, Hid (cmpN z.1 k = r) := ⟨_, rfl⟩
        rw [HR.out] at hd hc HFC
        go_wp2_with (go_at_call 55; refine Calls.mono HFC.out ?_; rintro e w1 ⟨rfl, hb1⟩; have HB1 : Hid (Below w.heap.size w w1) := HB.out.trans (hb1.mono HB.out.size); clear hb1)
        go_roundw
        case rel =>
          refine ⟨h + 1, b, by omega, hbn, by rw [HH.out]; simp, rfl, fun i y hy => ⟨fun hi => ?_, ((HP.out i y hy).2)⟩, HB1.out⟩
          by_cases e : i = h
          · subst e; rw [HZ.out] at hy; rw [← Option.some.inj hy]; exact HCN.out
          · exact HL.out i h y z (by omega) hy HZ.out HCN.out
        case measure => simp [intOf]; omega
      · have HCN : Hid (0 ≤ cmpN z.1 k) := Int.not_lt.1 hc
        obtain ⟨r, HR⟩ : ∃ r, Hid (cmpN z.1 k = r) := ⟨_, rfl⟩
        rw [HR.out] at hd hc HFC
        go_wp2_with (go_at_call 55; refine Calls.mono HFC.out ?_; rintro e w1 ⟨rfl, hb1⟩; have HB1 : Hid (Below w.heap.size w w1) := HB.out.trans (hb1.mono HB.out.size); clear hb1)
        go_roundw
        case rel =>
          refine ⟨a, h, by omega, by omega, rfl, by rw [HH.out]; simp, fun i y hy => ⟨(HP.out i y hy).1, fun hi => Int.not_lt.1 fun q => ?_⟩, HB1.out⟩
          by_cases e : i = h
          · subst e; rw [HZ.out] at hy; rw [← Option.some.inj hy] at q; exact Int.not_lt.2 HCN.out q
          · exact Int.not_lt.2 HCN.out (HL.out h i z y (by omega) HZ.out hy q)
        case measure => simp [intOf]; omega
    · obtain rfl : a = b := by omega
      have HAT : Hid (At L k a) := ⟨by rw [HN.out]; exact hbn, fun i z hz => ⟨(HP.out i z hz).1, fun q => by
        rcases Nat.lt_or_ge i a with h1 | h1
        · exact h1
        · exact absurd q (Int.not_lt.2 ((HP.out i z hz).2 h1))⟩⟩
      by_cases han : a < n
      · obtain ⟨z, hz⟩ : ∃ z, L[a]? = some z := ⟨L[a]'(by rw [HN.out]; omega), List.getElem?_eq_getElem _⟩
        obtain ⟨g, o, rfl, c1, c2⟩ := HC.out a z hz
        have d1 : wr.cell? ⟨g, o + a * 2, none⟩ = some (.string z.1) := (HB.out.cell (World.block_lt_of_cell? w _ c1)).trans c1
        have d2 : wr.cell? ⟨g, o + a * 2 + 1, none⟩ = some (.int .u64 z.2) := (HB.out.cell (World.block_lt_of_cell? w _ c2)).trans c2
        have HFC : Hid _ := findC_any z k bx wr ((HB.out.cell (World.block_lt_of_cell? w _ HF.out)).trans HF.out)
        have HIS : Hid (isAt L k a = (cmpN z.1 k == 0)) := by unfold Hid isAt; rw [hz]
        obtain ⟨r, HR⟩ : ∃ r, Hid (cmpN z.1 k = r) := ⟨_, rfl⟩
        rw [HR.out] at HFC HIS
        clear c1 c2 hz
        go_wp2_with (go_at_call 55; refine Calls.mono HFC.out ?_; rintro e w1 ⟨rfl, hb1⟩; have HB1 : Hid (Below w.heap.size w w1) := HB.out.trans (hb1.mono HB.out.size); clear hb1)
        go_ret2
        exact ⟨a, HAT.out, by rw [HIS.out]; simp, HB1.out⟩
      · obtain rfl : a = n := by omega
        have HIS : Hid (isAt L k a = false) := by unfold Hid isAt; rw [List.getElem?_eq_none (by rw [HN.out]; exact Nat.le_refl _)]
        go_wp2_with fail
        go_ret2
        exact ⟨a, HAT.out, by rw [HIS.out]; simp, HB.out⟩
/-- find. -/
theorem find_any (L : List It) (v : Value) (k : ByteArray) (w : World) (hI : Its w v L) (hn : L.length ≤ 1000000) (hL : Low L k) :
    Calls Try.prog 44 #[v, .string k, .func (.func 21) #[] #[]] w fun e w' => ∃ p, At L k p ∧ e = .returned (.tuple #[.int .i64 ((p : Nat) : Int), .bool (isAt L k p)]) ∧ Below w.heap.size w w' := by
  have HX : Hid (Below w.heap.size w (w.alloc (.cells #[.func (.func 21) #[] #[]] 48))) := (Below.refl _ _).alloc (Nat.le_refl _) _
  have HB : Hid _ := bsf_any L v k w.heap.size _ (hI.below HX.out) hn hL (by simp)
  obtain ⟨ao, cap, rfl, hcap, _⟩ := hI
  go_enter Try.func44, Try.ntmps44
  go_wp2_with (go_at_call 54; refine Calls.mono HB.out ?_; rintro e w1 ⟨p, hp, rfl, hb1⟩; have HA : Hid (At L k p) := hp; have HB1 : Hid (Below w.heap.size w w1) := HX.out.trans (hb1.mono HX.out.size); clear hp hb1)
  go_ret2
  exact ⟨p, HA.out, rfl, HB1.out⟩
end Go.Proofs.Ytelfjgnmbikofaa
