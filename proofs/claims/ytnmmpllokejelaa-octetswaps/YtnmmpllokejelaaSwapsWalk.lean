/-
  The walk of the law OctetSwaps: it returns true, and writes nothing that was there. Condition: the argument reads as bytes within the machine's bounds.
-/
import Derived.Test.YtnmmpllokejelaaWalkE
import Derived.Deep.DeepCutAuto
namespace Go.Proofs.Ytnmmpllokejelaa
open Go.RowKit
set_option linter.unusedVariables false

set_option maxHeartbeats 2000000 in
theorem octetSwaps_walk (v0 : Value) (l0 : List Int) (w : World) (hB : Bs w v0 l0) (hY : Byt l0) (hL : l0.length ≤ 140737488351232) :
    Calls Try.prog 6 #[v0] w fun e w' => e = .returned (.bool true) ∧ Below w.heap.size w w' := by
  go_enter Try.func6, Try.ntmps6
  go_wp2_with fail
  refine (lent_any v0 l0 w hB hL).mono ?_
  rintro e w1 ⟨g, cap, rfl, hg1, hg2, hc, hown, hb1⟩
  have hz1 := hb1.size
  have HB1 : Hid (Bs w1 v0 l0) := hB.below hb1
  have HI1 : Hid (Bs w1 (.slice (some ⟨g, 0, none⟩) l0.length cap) l0) := lent_bs hown.bs
  go_wp2_with fail
  refine (swap_any _ l0 w1 HI1.out hL).mono ?_
  rintro e w2 ⟨rfl, hr2, hb2⟩
  have hz2 := hb2.size
  go_wp2_with fail
  refine (swap_any _ l0 w2 (HI1.out.below hb2) hL).mono ?_
  rintro e w3 ⟨rfl, hr3, hb3⟩
  have hz3 := hb3.size
  have hlt2 := hr2.lt
  have hlt3 := hr3.lt
  have HB3 : Hid (Bs w3 v0 l0) := (HB1.out.below hb2).below hb3
  have hx3 := (hr2.below hb3 (by omega)).whole
  rw [List.length_reverse] at hx3
  have hs3 := Bs.str (P := Try.prog) (w := w3.drew) hx3.drew Try.underlying22 Try.underlying5 (dst := 9) Try.underlying9
  have HX3 : Hid (Bs w3 (.slice (some ⟨w1.heap.size, 0, none⟩) l0.length l0.length) l0.reverse) := hx3
  clear hx3
  go_wp2_with fail
  go_cut [17] (fun t wc => t = .bool false ∧ Below w3.heap.size w3 wc)
  case first =>
    go_region_with (go_at_call 20; refine (refSwap_any v0 l0 _ (by exact HB3.out) hL).mono ?_; rintro e w4 ⟨v4, rfl, ho4, hb4⟩; have hs4 := Bs.str (P := Try.prog) (HX3.out.drew.below hb4) Try.underlying22 Try.underlying5 (dst := 9) Try.underlying9; have hs5 := Bs.str (P := Try.prog) ho4.bs Try.underlying22 Try.underlying5 (dst := 9) Try.underlying9; have hb5 := below_undrew hb4)
    all_goals (go_wp2_with fail; go_meet; exact ⟨rfl, by assumption⟩)
  case rest =>
    obtain ⟨rfl, hb4⟩ := hcut
    clear hs3
    go_wp2_with fail
    have hrx := (hr2.below hb3 hlt2).below hb4 (by omega)
    refine (spoil_row _ _ _ _ hrx (by simp) (by omega)).mono ?_
    rintro e w5 ⟨rfl, hg5⟩
    have hz4 := hb4.size
    have hb15 : Below w1.heap.size w1 w5 := ((hb2.trans (hb3.mono (by omega))).trans (hb4.mono (by omega))).grown hg5 (by omega) (fun k hk => by simp at hk; omega)
    have hf5 : Below w.heap.size w w5 := hb1.trans (hb15.mono (by omega))
    have hy5 := (((hr3.below hb4 (by omega)).grown hg5 (by simp; omega)).whole).drew
    rw [List.length_reverse] at hy5
    have hs5 := Bs.str (P := Try.prog) hy5 Try.underlying22 Try.underlying5 (dst := 9) Try.underlying9
    have HV5 : Hid (Bs w5.drew v0 l0) := (hB.below hf5).drew
    have HI5 : Hid (Bs w5.drew (.slice (some ⟨g, 0, none⟩) (l0.length + 1) cap) (l0 ++ [90])) := (hown.bs.below hb15).drew
    have HY5 : Hid (Bs w5.drew (.slice (some ⟨w2.heap.size, 0, none⟩) l0.length l0.length) l0.reverse) := hy5
    have HF5 : Hid (Below w.heap.size w w5) := hf5
    have hz5 := hf5.size
    clear hy5 hf5 hrx hg5 hb15
    go_wp2_with fail
    go_region_with (first | (go_at_call 20; refine (refSwap_any v0 l0 _ (by exact HV5.out) hL).mono ?_; rintro e w6 ⟨v6, rfl, ho6, hb6⟩; have hs6 := Bs.str (P := Try.prog) (HY5.out.below hb6) Try.underlying22 Try.underlying5 (dst := 9) Try.underlying9; have hs7 := Bs.str (P := Try.prog) ho6.bs Try.underlying22 Try.underlying5 (dst := 9) Try.underlying9; have HI6 : Hid (Bs w6 (.slice (some ⟨g, 0, none⟩) (l0.length + 1) cap) (l0 ++ [90])) := HI5.out.below hb6; have HV6 : Hid (Bs w6 v0 l0) := HV5.out.below hb6; have HF6 : Hid (Below w.heap.size w w6) := HF5.out.trans ((below_undrew hb6).mono hz5)) | (go_at_call 12; refine (kept_any g l0.length cap v0 l0 _ (by exact HI6.out) (by exact HV6.out) hc hL).mono ?_; rintro e w7 ⟨rfl, k7, rfl⟩; have HF7 : Hid (Below w.heap.size w (w6.drewN k7)) := below_drewN HF6.out k7) | (go_at_call 14; refine (lives_any _).mono ?_; rintro e w8 ⟨rfl, hb8⟩; have HF8 : Hid (Below w.heap.size w w8) := HF7.out.trans (hb8.mono HF7.out.size)))
    all_goals
      go_wp2
      go_ret
      exact ⟨rfl, HF8.out⟩
end Go.Proofs.Ytnmmpllokejelaa
