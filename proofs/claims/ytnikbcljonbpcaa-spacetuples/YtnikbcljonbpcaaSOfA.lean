/-
  The axes of a whole extent, and of a hyperslab. Conditions: the extent's dimensions may be.
-/
import Derived.Test.YtnikbcljonbpcaaSAx
import Derived.OwnWalk
namespace Go.Proofs.Ytnikbcljonbpcaa
open Go.RowKit Go.Shelf
set_option linter.unusedVariables false
set_option maxRecDepth 100000

theorem Try.infoA : ∃ i, Try.prog.info? 71 = some i ∧ i.zero = some (.agg #[.int .i64 0, .int .i64 0, .int .i64 0, .int .i64 0]) ∧ i.size = 4 ∧ i.bytes = 32 := by
  refine ⟨_, rfl, ?_⟩
  exact ⟨by kernel_rfl, by kernel_rfl, by kernel_rfl⟩
theorem Try.infoZ : ∃ i, Try.prog.info? 3 = some i ∧ i.zero = some (.int .i64 0) ∧ i.size = 1 ∧ i.bytes = 8 := by
  refine ⟨_, rfl, ?_⟩
  exact ⟨by kernel_rfl, by kernel_rfl, by kernel_rfl⟩
theorem Try.infoR : ∃ i, Try.prog.info? 22 = some i ∧ i.zero = some (.slice none 0 0) ∧ i.size = 1 ∧ i.bytes = 24 := by
  refine ⟨_, rfl, ?_⟩
  exact ⟨by kernel_rfl, by kernel_rfl, by kernel_rfl⟩
/-- The first i axes of A lie in these cells. -/
def AxTo (A : List Ax) (i : Nat) (xs : List Value) : Prop := ∀ j a, j < i → A[j]? = some a → xs[j * 4]? = some (.int .i64 a.st) ∧ xs[j * 4 + 1]? = some (.int .i64 a.sd) ∧ xs[j * 4 + 2]? = some (.int .i64 a.ct) ∧ xs[j * 4 + 3]? = some (.int .i64 a.bl)
theorem AxTo.step {A : List Ax} {i : Nat} {xs : List Value} (h : AxTo A i xs) {a : Ax} (ha : A[i]? = some a) (hl : i * 4 + 3 < xs.length) : AxTo A (i + 1) ((((xs.set (i * 4) (.int .i64 a.st)).set (i * 4 + 1) (.int .i64 a.sd)).set (i * 4 + 2) (.int .i64 a.ct)).set (i * 4 + 3) (.int .i64 a.bl)) := by
  intro j b hj hb
  rcases Nat.lt_or_ge j i with h1 | h1
  · obtain ⟨c0, c1, c2, c3⟩ := h j b h1 hb
    refine ⟨?_, ?_, ?_, ?_⟩
    · rw [List.getElem?_set_ne (by omega), List.getElem?_set_ne (by omega), List.getElem?_set_ne (by omega), List.getElem?_set_ne (by omega)]; exact c0
    · rw [List.getElem?_set_ne (by omega), List.getElem?_set_ne (by omega), List.getElem?_set_ne (by omega), List.getElem?_set_ne (by omega)]; exact c1
    · rw [List.getElem?_set_ne (by omega), List.getElem?_set_ne (by omega), List.getElem?_set_ne (by omega), List.getElem?_set_ne (by omega)]; exact c2
    · rw [List.getElem?_set_ne (by omega), List.getElem?_set_ne (by omega), List.getElem?_set_ne (by omega), List.getElem?_set_ne (by omega)]; exact c3
  · obtain rfl : j = i := by omega
    rw [ha] at hb
    obtain rfl : a = b := by injection hb
    refine ⟨?_, ?_, ?_, ?_⟩
    · rw [List.getElem?_set_ne (by omega), List.getElem?_set_ne (by omega), List.getElem?_set_ne (by omega), List.getElem?_set_self (by omega)]
    · rw [List.getElem?_set_ne (by omega), List.getElem?_set_ne (by omega), List.getElem?_set_self (by simp; omega)]
    · rw [List.getElem?_set_ne (by omega), List.getElem?_set_self (by simp; omega)]
    · rw [List.getElem?_set_self (by simp; omega)]
theorem axs_of_row {w : World} {B g n cap : Nat} {xs : List Value} {A : List Ax} (h : w.ownsRow B 71 4 (.slice (some ⟨g, 0, none⟩) n cap) n xs) (hx : AxTo A n xs) (hl : A.length = n) (h4 : n ≤ 4) (hok : ∀ a ∈ A, AxOk a) : Axs w (.slice (some ⟨g, 0, none⟩) n cap) A := by
  rcases ownsRow_shape h with ⟨e, h0⟩ | ⟨g', cap', e, _, _, hle, _, _, hc⟩
  · cases e
  · injection e with e1 e2 e3
    obtain rfl : g = g' := by simpa using e1
    subst e3
    refine ⟨by omega, hok, _, cap, by rw [hl], by omega, fun i a ha => ?_⟩
    have hi := (List.getElem?_eq_some_iff.1 ha).1
    obtain ⟨c0, c1, c2, c3⟩ := hx i a (by omega) ha
    refine ⟨g, 0, rfl, ?_⟩
    simp only [Nat.zero_add]
    exact ⟨hc _ _ c0, hc _ _ c1, hc _ _ c2, hc _ _ c3⟩
theorem row4 {w : World} {B g n cap : Nat} {xs : List Value} (h : w.ownsRow B 71 4 (.slice (some ⟨g, 0, none⟩) n cap) n xs) : B ≤ g ∧ g < w.heap.size ∧ (∀ j, w.frozen? ⟨g, j, none⟩ = false) ∧ xs.length = n * 4 ∧ ∀ j, j < n * 4 → ∃ u, w.cell? ⟨g, j, none⟩ = some u := by
  have hl : xs.length = n * 4 := h.1
  rcases ownsRow_shape h with ⟨e, h0⟩ | ⟨g', cap', e, hB, hg, hle, _, hf, hc⟩
  · cases e
  · injection e with e1 e2 e3
    obtain rfl : g = g' := by simpa using e1
    exact ⟨hB, hg, hf, hl, fun j hj => ⟨xs[j]'(by omega), hc j _ (List.getElem?_eq_getElem _)⟩⟩
theorem row_set4 {w : World} {B g n cap : Nat} {xs : List Value} (h : w.ownsRow B 71 4 (.slice (some ⟨g, 0, none⟩) n cap) n xs) (i : Nat) (a b c d : Value) :
    ((((w.setCell ⟨g, i * 4, none⟩ a).setCell ⟨g, i * 4 + 1, none⟩ b).setCell ⟨g, i * 4 + 2, none⟩ c).setCell ⟨g, i * 4 + 3, none⟩ d).ownsRow B 71 4 (.slice (some ⟨g, 0, none⟩) n cap) n ((((xs.set (i * 4) a).set (i * 4 + 1) b).set (i * 4 + 2) c).set (i * 4 + 3) d) :=
  ownsRow_setCell (ownsRow_setCell (ownsRow_setCell (ownsRow_setCell h _ _) _ _) _ _) _ _
set_option maxHeartbeats 4000000 in
theorem wholeAxes_any (D : List Int) (v : Value) (w : World) (h : Is w v D) (hd : dimsB D = true) : Calls Try.prog 34 #[v] w fun e w' => ∃ ao n cap, e = .returned (.slice ao n cap) ∧ Axs w' (.slice ao n cap) (wholeA D) ∧ Below w.heap.size w w' := by
  have HI : Hid (Is w v D) := h
  obtain ⟨ao, n, cap, rfl, hn, hc, hb⟩ := h.open
  have HN : Hid _ := hn
  have HD : Hid (dimsB D = true) := hd
  have h4 : n ≤ 4 := by
    rw [dimsB, Bool.and_eq_true] at hd
    have := of_decide_eq_true hd.1
    omega
  clear h hn hd
  obtain ⟨i0, hi, hz, hs, hy⟩ := Try.infoA
  have HY : Hid (i0.bytes * n ≤ 281474976710656) := by rw [Hid, hy]; omega
  have hWl : (wholeA D).length = n := by rw [wholeA, List.length_map]; exact HN.out
  have HWL : Hid _ := hWl
  have HOK : Hid (∀ a ∈ wholeA D, AxOk a) := by
    intro a ha
    simp only [wholeA, List.mem_map] at ha
    obtain ⟨x, hx, rfl⟩ := ha
    have hd := HD.out
    rw [dimsB, Bool.and_eq_true, List.all_eq_true] at hd
    have h9 := hd.2 x hx
    simp only [Bool.and_eq_true, decide_eq_true_eq] at h9
    constructor <;> simp only [] <;> omega
  clear hWl
  go_enter Try.func34, Try.ntmps34
  go_wp2_with (at_make; refine wpList_make_full _ rfl _ _ 63 rfl w.heap.size 71 i0 _ 4 Try.underlying63 hi hz hs .i64 .i64 (n : Int) (n : Int) n rfl rfl rfl rfl HY.out (by unfold maxLen; omega) (Nat.le_refl _) ?_; intro w1 hr1 hg1; have HR1 : Hid _ := hr1; have HG1 : Hid _ := hg1; clear hr1 hg1)
  go_loopw [11] (fun x wr => ∃ (i : Nat) (xs : List Value), i ≤ n ∧ x = .int .i64 (i : Int) ∧ Hid (wr.ownsRow w.heap.size 71 4 (.slice (some ⟨w.heap.size, 0, none⟩) n n) n xs) ∧ Hid (AxTo (wholeA D) i xs) ∧ Hid (Below w.heap.size w wr)) (fun x _ => n - (intOf x).toNat)
  case atStart => exact ⟨0, _, Nat.zero_le _, rfl, HR1.out, fun j a hj => by omega, ⟨HG1.out.os, HG1.out.tape, HG1.out.output, HG1.out.size, fun x hx => HG1.out.block x hx (by simp)⟩⟩
  case round =>
    obtain ⟨i, xs, hin, rfl, HO, HX, HB⟩ := hrel
    by_cases hlt : i < n
    · obtain ⟨g, o, a, rfl, hm, hok, c0⟩ := HI.out.at hlt
      have d0 := (HB.out.cell (World.block_lt_of_cell? w _ c0)).trans c0
      have hili : (i : Int) < (n : Int) := by omega
      obtain ⟨_, hgs, hfz, hxl, hcs⟩ := row4 HO.out
      obtain ⟨u0, e0⟩ := hcs (i * 4) (by omega)
      obtain ⟨u1, e1⟩ := hcs (i * 4 + 1) (by omega)
      obtain ⟨u2, e2⟩ := hcs (i * 4 + 2) (by omega)
      obtain ⟨u3, e3⟩ := hcs (i * 4 + 3) (by omega)
      have f0 := hfz (i * 4)
      have f1 := hfz (i * 4 + 1)
      have f2 := hfz (i * 4 + 2)
      have f3 := hfz (i * 4 + 3)
      have HS : Hid (AxTo (wholeA D) (i + 1) ((((xs.set (i * 4) (.int .i64 0)).set (i * 4 + 1) (.int .i64 1)).set (i * 4 + 2) (.int .i64 a)).set (i * 4 + 3) (.int .i64 1))) :=
        HX.out.step (a := ⟨0, 1, a, 1⟩) (by rw [wholeA, List.getElem?_map, hm]; rfl) (by omega)
      clear c0 hm hcs hfz hxl hok
      go_wp2_with fail
      go_roundw
      case rel =>
        refine ⟨i + 1, _, by omega, by simp, row_set4 HO.out i (.int .i64 0) (.int .i64 1) (.int .i64 a) (.int .i64 1), HS.out, ?_⟩
        exact (((HB.out.setCell (by simp) _).setCell (by simp) _).setCell (by simp) _).setCell (by simp) _
      case measure => simp [intOf]; omega
    · obtain rfl : i = n := by omega
      go_wp2_with fail
      go_ret
      exact ⟨_, _, _, rfl, axs_of_row HO.out HX.out HWL.out h4 HOK.out, HB.out⟩
end Go.Proofs.Ytnikbcljonbpcaa
