/-
  A tree to which acts were done (law.played). Conditions: lengths are such as memory bears.
-/
import Derived.Test.YtelfjgnmbikofaaBNods
namespace Go.Proofs.Ytelfjgnmbikofaa
open Go.RowKit
set_option linter.unusedVariables false
set_option maxRecDepth 100000

/-- An act: its kind, its name, its number. -/
abbrev A7 := Int × ByteArray × Int
/-- A slice that reads as acts. -/
def As7 (w : World) (v : Value) (Q : List A7) : Prop := ∃ ao cap, v = .slice ao Q.length cap ∧ ∀ i a, Q[i]? = some a → a.2.1.size ≤ 281474976710656 ∧ ∃ g o, ao = some ⟨g, o, none⟩ ∧ w.cell? ⟨g, o + i * 3, none⟩ = some (.int .i64 a.1) ∧ w.cell? ⟨g, o + i * 3 + 1, none⟩ = some (.string a.2.1) ∧ w.cell? ⟨g, o + i * 3 + 2, none⟩ = some (.int .u64 a.2.2)
/-- A tree under play. -/
def Pl (w wr : World) (mm p q c : Nat) : Prop := ∃ F, BT wr w.heap.size p q mm F [] ∧ F.length ≤ c ∧ (∀ y ∈ F, y.1.size ≤ 281474976710656) ∧ Below w.heap.size w wr
theorem Pl.below {w wr w' : World} {mm p q c : Nat} (h : Pl w wr mm p q c) (hb : Below wr.heap.size wr w') : Pl w w' mm p q c := by
  obtain ⟨F, h1, h2, h3, h4⟩ := h
  exact ⟨F, h1.below hb, h2, h3, h4.trans (hb.mono h4.size)⟩
theorem Pl.bel {w wr : World} {mm p q c : Nat} (h : Pl w wr mm p q c) : Below w.heap.size w wr := by
  obtain ⟨F, h1, h2, h3, h4⟩ := h
  exact h4
theorem Pl.up {w wr : World} {mm p q c c' : Nat} (h : Pl w wr mm p q c) (hc : c ≤ c') : Pl w wr mm p q c' := by
  obtain ⟨F, h1, h2, h3, h4⟩ := h
  exact ⟨F, h1, by omega, h3, h4⟩
theorem pl_put {w wr : World} {mm p q c : Nat} (h3 : 3 ≤ mm) (h64 : mm ≤ 64) (h : Pl w wr mm p q c) (hc : c < 65536) (k : ByteArray) (hk : k.size ≤ 281474976710656) (x : Int) :
    Calls Try.prog 10 #[.pointer (some ⟨p, 0, none⟩), .string k, .int .u64 x] wr fun e w' => ∃ b, e = .returned (.tuple #[.bool b, .int .i64 0]) ∧ Pl w w' mm p q (c + 1) := by
  obtain ⟨F, h1, h2, hz, h4⟩ := h
  refine (put_any h3 h64 h1 h4.size (by omega) k hk x).mono ?_
  rintro e w' ⟨⟨b, F', hp, rfl, ht⟩, hb⟩
  refine ⟨b, rfl, F', ht, by have := hp.len; omega, fun y hy => ?_, h4.trans hb⟩
  rcases (hp.has y.1).1 ⟨y.2, hy⟩ with h5 | ⟨v, h5⟩
  · rw [h5]; exact hk
  · exact hz (y.1, v) h5
theorem pl_drop {w wr : World} {mm p q c : Nat} (h3 : 3 ≤ mm) (h64 : mm ≤ 64) (h : Pl w wr mm p q c) (hc : c < 65536) (k : ByteArray) :
    Calls Try.prog 14 #[.pointer (some ⟨p, 0, none⟩), .string k] wr fun e w' => ∃ b, e = .returned (.bool b) ∧ Pl w w' mm p q c := by
  obtain ⟨F, h1, h2, hz, h4⟩ := h
  refine (drop_any h3 h64 h1 h4.size (by omega) k).mono ?_
  rintro e w' ⟨⟨rfl, F', hd, ht⟩ | ⟨hno, rfl, ht⟩, hb⟩
  · refine ⟨true, rfl, F', ht, by have := Drop.len (.inl hd); omega, fun y hy => ?_, h4.trans hb⟩
    obtain ⟨v, h5⟩ := ((Drop.has h1.2 (.inl hd) y.1).1 ⟨y.2, hy⟩).2
    exact hz (y.1, v) h5
  · exact ⟨false, rfl, F, ht, h2, hz, h4.trans hb⟩
set_option maxHeartbeats 4000000 in
theorem played_any {w : World} {v : Value} {Q : List A7} (hA : As7 w v Q) (hQ : Q.length ≤ 140737488351232) (mm : Nat) (h3 : 3 ≤ mm) (h64 : mm ≤ 64) :
    Calls Try.prog 26 #[.int .i64 (mm : Int), v] w fun e w' => ∃ p q, e = .returned (.pointer (some ⟨p, 0, none⟩)) ∧ Pl w w' mm p q 300 := by
  obtain ⟨ao, cap, rfl, hc⟩ := hA
  have HC : Hid (∀ (i : Nat) (a : A7), Q[i]? = some a → a.2.1.size ≤ 281474976710656 ∧ ∃ g o, ao = some ⟨g, o, none⟩ ∧ w.cell? ⟨g, o + i * 3, none⟩ = some (.int .i64 a.1) ∧ w.cell? ⟨g, o + i * 3 + 1, none⟩ = some (.string a.2.1) ∧ w.cell? ⟨g, o + i * 3 + 2, none⟩ = some (.int .u64 a.2.2)) := hc
  obtain ⟨n, HN⟩ : ∃ n, Hid (Q.length = n) := ⟨_, rfl⟩
  rw [HN.out] at hQ ⊢
  have HN1 : Hid _ := newNames_sep (w := w) (B := w.heap.size) (ps := []) ⟨fun p hp => (List.not_mem_nil hp).elim, List.nodup_nil⟩ (Nat.le_refl _) mm h3 h64
  clear hc
  go_enter Try.func26, Try.ntmps26
  go_wp2_with (go_at_call 8; refine Calls.mono HN1.out ?_; rintro e w1 ⟨p, q, rfl, ht1, hb1⟩; have HP1 : Hid (Pl w w1 mm p q 0) := ⟨[], ht1, Nat.le_refl _, (fun y hy => by cases hy), hb1⟩; clear ht1 hb1)
  clear HN1
  go_loopw [6] (fun x wr => ∃ i : Nat, i ≤ n ∧ i ≤ 300 ∧ x = .int .i64 (i : Int) ∧ Hid (Pl w wr mm p q i)) (fun x _ => n - (intOf x).toNat)
  case atStart => exact ⟨0, Nat.zero_le _, Nat.zero_le _, rfl, HP1.out⟩
  case round =>
    obtain ⟨i, hin, hi3, rfl, HPr⟩ := hrel
    clear HP1
    by_cases hlt : i < n
    · by_cases hl3 : i < 300
      · have hili : (i : Int) < (n : Int) := by omega
        have hil3 : (i : Int) < 300 := by omega
        obtain ⟨⟨ki, nm, vl⟩, ha⟩ : ∃ a, Q[i]? = some a := ⟨Q[i]'(by rw [HN.out]; exact hlt), List.getElem?_eq_getElem _⟩
        obtain ⟨hsz, g, o, rfl, c0, c1, c2⟩ := HC.out i _ ha
        have hb := HPr.out.bel
        have c0' : wr.cell? ⟨g, o + i * 3, none⟩ = some (.int .i64 ki) := (hb.cell (World.block_lt_of_cell? w _ c0)).trans c0
        have c1' : wr.cell? ⟨g, o + i * 3 + 1, none⟩ = some (.string nm) := (hb.cell (World.block_lt_of_cell? w _ c1)).trans c1
        have c2' : wr.cell? ⟨g, o + i * 3 + 2, none⟩ = some (.int .u64 vl) := (hb.cell (World.block_lt_of_cell? w _ c2)).trans c2
        have hsz' : nm.size ≤ 281474976710656 := hsz
        clear ha c0 c1 c2 hb hsz
        by_cases hk : ki = 2
        · subst hk
          go_wp2_with (go_at_call 14; refine Calls.mono (pl_drop h3 h64 HPr.out (by omega) nm) ?_; rintro e w4 ⟨b4, rfl, hp4⟩; have HP4 : Hid (Pl w w4 mm p q i) := hp4; clear hp4)
          go_roundw
          case rel => exact ⟨i + 1, by omega, by omega, by simp, HP4.out.up (by omega)⟩
          case measure => simp [intOf]; omega
        · have hk1 : (ki == 2) = false := by simp [hk]
          have HPD : Hid (Pl w wr.drew mm p q i) := HPr.out.below (Below.refl _ _).drew
          have HPUT : Hid _ := pl_put h3 h64 HPD.out (by omega) nm hsz' vl
          go_upto_region 7 with fail
          go_region_law (refine step_call rfl 10 (enters_of Try.func10 (by kernel_rfl) rfl) #[.tmp 32, .tmp 37, .tmp 42] _ rfl _ (by go_simp) (fun v w' => Pl w w' mm p q (i + 1)) (Calls.mono HPUT.out (by rintro e w' ⟨b, rfl, h⟩; exact ⟨_, rfl, h⟩)) ?_; rintro v9 w9 hp9; have HP9 : Hid (Pl w w9 mm p q (i + 1)) := hp9; clear hp9)
          all_goals (go_wp2_with fail)
          all_goals
            go_roundw
            case rel => exact ⟨i + 1, by omega, by omega, by simp, HP9.out⟩
            case measure => simp [intOf]; omega
      · have hil3 : ¬ (i : Int) < 300 := by omega
        go_wp2_with fail
        go_ret
        exact ⟨p, rfl, q, HPr.out.up (by omega)⟩
    · have hili : ¬ (i : Int) < (n : Int) := by omega
      go_wp2_with fail
      go_ret
      exact ⟨p, rfl, q, HPr.out.up (by omega)⟩
end Go.Proofs.Ytelfjgnmbikofaa
