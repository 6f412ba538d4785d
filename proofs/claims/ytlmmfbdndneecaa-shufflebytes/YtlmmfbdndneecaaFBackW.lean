/-
  Each call undoes the other, either way: the law's walk. No conditions.
-/
import Derived.Test.YtlmmfbdndneecaaFLives
namespace Go.Proofs.Ytlmmfbdndneecaa
open Go.RowKit Go.Shelf
set_option linter.unusedVariables false
set_option maxRecDepth 100000

/-- A width that a statement draws. -/
theorem wid_of {a0 : Int} (h : (Lit.int .u64 a0).wf = true) : ∃ z y : Nat, 1 ≤ z ∧ z ≤ 8 ∧ a0.tmod 8 = (y : Int) ∧ wrap64 (y : Int) = (y : Int) ∧ wrap64 (1 + (y : Int)) = (z : Int) := by
  have h0 : 0 ≤ a0 := by simp [Lit.wf, IntKind.min, IntKind.max, IntKind.bits, IntKind.signed] at h; omega
  refine ⟨(a0 % 8).toNat + 1, (a0 % 8).toNat, by omega, by omega, ?_, ?_, ?_⟩
  · rw [Int.tmod_eq_emod_of_nonneg h0]; omega
  · unfold wrap64; omega
  · unfold wrap64; omega
theorem byt_app {a b : List Int} (ha : Byt a) (hb : Byt b) : Byt (a ++ b) := fun i => by
  by_cases hi : i < a.length
  · rw [List.getD, List.getElem?_append_left hi]; exact ha i
  · rw [List.getD, List.getElem?_append_right (by omega)]; exact hb _
theorem byt_drop {l : List Int} (h : Byt l) (a : Nat) : Byt (l.drop a) := fun i => by
  have : (l.drop a).getD i 0 = l.getD (a + i) 0 := by simp [List.getD]
  rw [this]; exact h _
theorem byt_rowN (g : Nat → Int) (z : Nat) : ∀ k, Byt (rowN g z k)
  | 0 => fun i => by simp [rowN]
  | k + 1 => by rw [rowN_succ]; exact byt_app (byt_rowN g z k) (byt_digs _ _)
theorem byt_laid {l : List Int} (h : Byt l) (g : Nat → Int) (z : Nat) : Byt (laid g z l) := byt_app (byt_rowN _ _ _) (byt_drop h _)
theorem shP_bs {w w' : World} {R : List Int} {e : Ending} (h : ShP w 0 R e w') : ∃ x, e = .returned (.tuple #[x, .int .i64 0]) ∧ Bs w' x R ∧ Below w.heap.size w w' := by
  obtain ⟨x, rfl, hx, hb⟩ := h
  exact ⟨x, rfl, hx.bs, hb⟩
theorem wL_yes {F : Nat → List Int → List Int} {z : Nat} {l : List Int} (h1 : 1 ≤ z) (h8 : z ≤ 8) : wL (z : Int) F l = F z l := by rw [wL, if_pos (wE_yes h1 h8)]; rfl
set_option maxHeartbeats 32000000 in
theorem shuffleBack_walk (a0 : Int) (v : Value) (l : List Int) (w : World) (h0 : (Lit.int .u64 a0).wf = true) (hl : Bs w v l) (hby : Byt l) (hlb : l.length ≤ 140737488351232) :
    Calls Try.prog 5 #[.int .u64 a0, v] w fun e w' => e = .returned (.bool true) ∧ Below w.heap.size w w' := by
  obtain ⟨z, y, h1, h8, hm1, hm2, hm3⟩ := wid_of h0
  have HShuffle : Hid (∀ (w1 : World) (x : Value) (m : List Int), Bs w1 x m → Byt m → m.length = l.length → Calls Try.prog 9 #[.int .i64 (z : Int), x] w1 fun e w' => ∃ y, e = .returned (.tuple #[y, .int .i64 0]) ∧ Bs w' y (shL z m) ∧ Below w1.heap.size w1 w') := fun w1 x m hx hb hm' => by
    have := shuffle_any (z : Int) x m w1 hx hb (by omega)
    rw [wE_yes h1 h8, wL_yes h1 h8] at this
    exact this.mono fun e w' h => shP_bs h
  have HUnshuffle : Hid (∀ (w1 : World) (x : Value) (m : List Int), Bs w1 x m → Byt m → m.length = l.length → Calls Try.prog 10 #[.int .i64 (z : Int), x] w1 fun e w' => ∃ y, e = .returned (.tuple #[y, .int .i64 0]) ∧ Bs w' y (unL z m) ∧ Below w1.heap.size w1 w') := fun w1 x m hx hb hm' => by
    have := unshuffle_any (z : Int) x m w1 hx hb (by omega)
    rw [wE_yes h1 h8, wL_yes h1 h8] at this
    exact this.mono fun e w' h => shP_bs h
  have HDelta : Hid (∀ (w1 : World) (x : Value) (m : List Int), Bs w1 x m → Byt m → m.length = l.length → Calls Try.prog 16 #[.int .i64 (z : Int), x] w1 fun e w' => ∃ y, e = .returned (.tuple #[y, .int .i64 0]) ∧ Bs w' y (deL z m) ∧ Below w1.heap.size w1 w') := fun w1 x m hx hb hm' => by
    have := delta_any (z : Int) x m w1 hx hb (by omega)
    rw [wE_yes h1 h8, wL_yes h1 h8] at this
    exact this.mono fun e w' h => shP_bs h
  have HUndelta : Hid (∀ (w1 : World) (x : Value) (m : List Int), Bs w1 x m → Byt m → m.length = l.length → Calls Try.prog 17 #[.int .i64 (z : Int), x] w1 fun e w' => ∃ y, e = .returned (.tuple #[y, .int .i64 0]) ∧ Bs w' y (udL z m) ∧ Below w1.heap.size w1 w') := fun w1 x m hx hb hm' => by
    have := undelta_any (z : Int) x m w1 hx hb (by omega)
    rw [wE_yes h1 h8, wL_yes h1 h8] at this
    exact this.mono fun e w' h => shP_bs h
  have HV : Hid (Bs w v l) := hl
  have HBY : Hid (Byt l) := hby
  have H8 : Hid (z ≤ 8) := h8
  clear hl hby hlb h0
  go_enter Try.func5, Try.ntmps5
  go_wp2_with fail
  refine Calls.mono (HShuffle.out w v l (HV.out) (HBY.out) (rfl)) ?_
  rintro e w2 ⟨y2, rfl, hy2, hb2⟩
  have HY2 : Hid (Bs w2 y2 (shL z l)) := hy2
  have HN2 : Hid (Below w.heap.size w w2) := hb2
  have HB2 : Hid (Below w.heap.size w w2) := hb2
  clear hy2 hb2
  go_wp2_with fail
  refine Calls.mono (HUnshuffle.out w2 y2 (shL z l) (HY2.out) (byt_pick HBY.out) (shL_len z l)) ?_
  rintro e w3 ⟨y3, rfl, hy3, hb3⟩
  rw [un_sh z l] at hy3
  have HY3 : Hid (Bs w3 y3 (l)) := hy3
  have HN3 : Hid (Below w2.heap.size w2 w3) := hb3
  have HB3 : Hid (Below w.heap.size w w3) := HB2.out.trans (hb3.mono HB2.out.size)
  clear hy3 hb3
  go_wp2_with fail
  refine Calls.mono (HUnshuffle.out w3 v l (HV.out.below HB3.out) (HBY.out) (rfl)) ?_
  rintro e w4 ⟨y4, rfl, hy4, hb4⟩
  have HY4 : Hid (Bs w4 y4 (unL z l)) := hy4
  have HN4 : Hid (Below w3.heap.size w3 w4) := hb4
  have HB4 : Hid (Below w.heap.size w w4) := HB3.out.trans (hb4.mono HB3.out.size)
  clear hy4 hb4
  go_wp2_with fail
  refine Calls.mono (HShuffle.out w4 y4 (unL z l) (HY4.out) (byt_pick HBY.out) (unL_len z l)) ?_
  rintro e w5 ⟨y5, rfl, hy5, hb5⟩
  rw [sh_un z l] at hy5
  have HY5 : Hid (Bs w5 y5 (l)) := hy5
  have HN5 : Hid (Below w4.heap.size w4 w5) := hb5
  have HB5 : Hid (Below w.heap.size w w5) := HB4.out.trans (hb5.mono HB4.out.size)
  clear hy5 hb5
  go_wp2_with fail
  refine Calls.mono (HDelta.out w5 v l (HV.out.below HB5.out) (HBY.out) (rfl)) ?_
  rintro e w6 ⟨y6, rfl, hy6, hb6⟩
  have HY6 : Hid (Bs w6 y6 (deL z l)) := hy6
  have HN6 : Hid (Below w5.heap.size w5 w6) := hb6
  have HB6 : Hid (Below w.heap.size w w6) := HB5.out.trans (hb6.mono HB5.out.size)
  clear hy6 hb6
  go_wp2_with fail
  refine Calls.mono (HUndelta.out w6 y6 (deL z l) (HY6.out) (byt_laid HBY.out _ _) (deL_len z l)) ?_
  rintro e w7 ⟨y7, rfl, hy7, hb7⟩
  rw [ud_de H8.out HBY.out] at hy7
  have HY7 : Hid (Bs w7 y7 (l)) := hy7
  have HN7 : Hid (Below w6.heap.size w6 w7) := hb7
  have HB7 : Hid (Below w.heap.size w w7) := HB6.out.trans (hb7.mono HB6.out.size)
  clear hy7 hb7
  go_wp2_with fail
  refine Calls.mono (HUndelta.out w7 v l (HV.out.below HB7.out) (HBY.out) (rfl)) ?_
  rintro e w8 ⟨y8, rfl, hy8, hb8⟩
  have HY8 : Hid (Bs w8 y8 (udL z l)) := hy8
  have HN8 : Hid (Below w7.heap.size w7 w8) := hb8
  have HB8 : Hid (Below w.heap.size w w8) := HB7.out.trans (hb8.mono HB7.out.size)
  clear hy8 hb8
  go_wp2_with fail
  refine Calls.mono (HDelta.out w8 y8 (udL z l) (HY8.out) (byt_laid HBY.out _ _) (udL_len z l)) ?_
  rintro e w9 ⟨y9, rfl, hy9, hb9⟩
  rw [de_ud H8.out HBY.out] at hy9
  have HY9 : Hid (Bs w9 y9 (l)) := hy9
  have HN9 : Hid (Below w8.heap.size w8 w9) := hb9
  have HB9 : Hid (Below w.heap.size w w9) := HB8.out.trans (hb9.mono HB8.out.size)
  clear hy9 hb9
  have q3 := Bs.str (P := Try.prog) ((((((HY3.out.below HN4.out).below HN5.out).below HN6.out).below HN7.out).below HN8.out).below HN9.out) Try.underlying22 Try.underlying5 (dst := 9) Try.underlying9
  have q5 := Bs.str (P := Try.prog) ((((HY5.out.below HN6.out).below HN7.out).below HN8.out).below HN9.out) Try.underlying22 Try.underlying5 (dst := 9) Try.underlying9
  have q7 := Bs.str (P := Try.prog) ((HY7.out.below HN8.out).below HN9.out) Try.underlying22 Try.underlying5 (dst := 9) Try.underlying9
  have q9 := Bs.str (P := Try.prog) HY9.out Try.underlying22 Try.underlying5 (dst := 9) Try.underlying9
  have q0 := Bs.str (P := Try.prog) (HV.out.below HB9.out) Try.underlying22 Try.underlying5 (dst := 9) Try.underlying9
  go_wp2_with (go_at_call 15; refine (lives14_any _).mono ?_; rintro e w11 ⟨rfl, hb11⟩; have HB11 : Hid (Below w.heap.size w w11) := HB9.out.trans (hb11.mono HB9.out.size); clear hb11)
  go_ret
  exact ⟨rfl, HB11.out⟩
end Go.Proofs.Ytlmmfbdndneecaa
