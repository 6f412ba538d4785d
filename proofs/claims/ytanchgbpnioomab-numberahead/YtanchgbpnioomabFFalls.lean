/-
  Plain facts: what a float becomes as an integer, and as a float of 4 bytes, rises with it. No conditions.
-/
import Derived.Test.YtanchgbpnioomabFBack
import Derived.Test.YtanchgbpnioomabOrderWalk10
namespace Go.Proofs.Ytanchgbpnioomab
open Go.RowKit Ieee
set_option linter.unusedVariables false
set_option maxRecDepth 100000

/-- More than any number of 8 bytes. -/
def topM : Nat := szM 1 1024
/-- A float's value; an infinite one is more than all. -/
def vM : Datum → Int
  | .number s m e => sg s (szM m e)
  | .infinity s => sg s topM
  | .nan .. => 0
theorem sz_top (f : Format) (hf : f = single ∨ f = double) (b : Nat) {s : Bool} {m : Nat} {e : Int} (h : f.read b = .number s m e) : szM m e < topM := by
  obtain ⟨h1, h2, h3⟩ := read_place f hf b h
  have hb : f.binade ≤ 4503599627370496 := by rcases hf with rfl | rfl <;> decide
  have hm : m ≤ 2 ^ 53 - 1 := by omega
  obtain ⟨k, hk⟩ : ∃ k : Int, k = 971 := ⟨_, rfl⟩
  have hle : szM m e ≤ szM (2 ^ 53 - 1) k := by
    unfold szM
    exact Nat.mul_le_mul hm (Nat.pow_le_pow_right (by decide) (by omega))
  refine Nat.lt_of_le_of_lt hle ?_
  subst hk
  decide +kernel
theorem cmp_inf (s : Bool) (v : Int) (h0 : -(topM : Int) < v) (h1 : v < (topM : Int)) : compare (sg s topM) v = if s then .lt else .gt := by
  cases s
  · exact cmp_gt h1
  · exact cmp_lt h0
theorem cmp_inf2 (s : Bool) (v : Int) (h0 : -(topM : Int) < v) (h1 : v < (topM : Int)) : compare v (sg s topM) = if s then .gt else .lt := by
  cases s
  · exact cmp_lt h1
  · exact cmp_gt h0
theorem sg_abs {s : Bool} {M T : Nat} (h : M < T) : -(T : Int) < sg s M ∧ sg s M < (T : Int) := by
  unfold sg; cases s <;> simp <;> omega
theorem order_v (f : Format) (hf : f = single ∨ f = double) (a b : Nat) (ha : (f.read a).isNaN = false) (hb : (f.read b).isNaN = false) :
    f.order a b = some (compare (vM (f.read a)) (vM (f.read b))) := by
  unfold Format.order
  cases hda : f.read a with
  | nan s t => rw [hda] at ha; cases ha
  | infinity s =>
    cases hdb : f.read b with
    | nan s t => rw [hdb] at hb; cases hb
    | infinity t =>
      have hp : (0 : Int) < topM := by
        have : 0 < topM := by unfold topM szM; rw [Nat.one_mul]; exact two_pos _
        omega
      show some (compare t.toNat s.toNat) = some (compare (sg s topM) (sg t topM))
      congr 1
      cases s <;> cases t
      · rw [cmp_eq rfl]; rfl
      · rw [cmp_gt (by unfold sg; simp; omega)]; rfl
      · rw [cmp_lt (by unfold sg; simp; omega)]; rfl
      · rw [cmp_eq rfl]; rfl
    | number t n j =>
      obtain ⟨h0, h1⟩ := sg_abs (s := t) (sz_top f hf b hdb)
      show some (if s then Ordering.lt else .gt) = some (compare (sg s topM) (sg t (szM n j)))
      rw [cmp_inf s _ h0 h1]
  | number s m i =>
    obtain ⟨h0, h1⟩ := sg_abs (s := s) (sz_top f hf a hda)
    cases hdb : f.read b with
    | nan s t => rw [hdb] at hb; cases hb
    | infinity t =>
      show some (if t then Ordering.gt else .lt) = some (compare (sg s (szM m i)) (sg t topM))
      rw [cmp_inf2 t _ h0 h1]
    | number t n j => exact order_num s t m n i j (read_place f hf a hda).1 (read_place f hf b hdb).1

/-- As an integer. -/
theorem tdiv_sg (s : Bool) (M : Nat) : (sg s M).tdiv (kilo : Int) = sg s (M / kilo) := by
  unfold sg
  cases s
  · simp
  · simp [Int.neg_tdiv]
theorem tr_cl {d : Datum} (hd : d.isNaN = false) (w : Int) (h1 : 1 ≤ w) (h2 : w ≤ 8) : trV d w true = clV ((vM d).tdiv (kilo : Int)) w true := by
  cases d with
  | nan s t => cases hd
  | number s m e =>
    show clV (sg s (szM m e / kilo)) w true = clV ((sg s (szM m e)).tdiv kilo) w true
    rw [tdiv_sg]
  | infinity s =>
    show (if s then loW w true % 2 ^ (8 * w).toNat else hiW w true) = clV ((sg s topM).tdiv kilo) w true
    rw [tdiv_sg]
    have hq : 18446744073709551616 ≤ topM / kilo := by decide +kernel
    generalize topM / kilo = q at hq
    obtain ⟨a, b, c, d⟩ := hi_top true h1 h2
    cases s
    · simp only [Bool.false_eq_true, if_false]
      show hiW w true = clV (q : Int) w true
      rw [clV_pos (by omega) h1 h2]; omega
    · simp only [if_true]
      show _ = clV (-(q : Int)) w true
      unfold clV; congr 1; omega
theorem tr_mono {d d' : Datum} (hd : d.isNaN = false) (hd' : d'.isNaN = false) (w : Int) (h1 : 1 ≤ w) (h2 : w ≤ 8) (h : vM d ≤ vM d') : sgW (trV d w true) w ≤ sgW (trV d' w true) w := by
  rw [tr_cl hd w h1 h2, tr_cl hd' w h1 h2, sgW_cl h1 h2, sgW_cl h1 h2]
  exact clI_mono (Int.tdiv_le_tdiv (by have := kilo_pos; omega) h)
theorem tr_lt {d : Datum} (hd : d.isNaN = false) (w : Int) (h1 : 1 ≤ w) (h2 : w ≤ 8) : 0 ≤ trV d w true ∧ trV d w true < 2 ^ (8 * w).toNat := by
  rw [tr_cl hd w h1 h2]; exact clV_lt _ _ _

/-- As a float of 4 bytes. -/
theorem sg_mono {g : Nat → Nat} (h0 : g 0 = 0) (hg : ∀ a b, a ≤ b → g a ≤ g b) {s t : Bool} {M N : Nat} (h : sg s M ≤ sg t N) : sg s (g M) ≤ sg t (g N) := by
  unfold sg at *
  cases s <;> cases t <;> simp only [Bool.false_eq_true, if_false, if_true] at h ⊢
  · have := hg M N (by omega); omega
  · have e1 : M = 0 := by omega
    have e2 : N = 0 := by omega
    subst e1; subst e2; rw [h0]; decide
  · omega
  · have := hg N M (by omega); omega
/-- A rung's size; that of the infinite one is more than all. -/
def mgT (r : Nat) : Nat := if r < single.infRung then mg single r else topM
theorem mg_top {r : Nat} (h : r < single.infRung) : mg single r < topM := by
  obtain ⟨m, e, h1, h2, h3⟩ := word_read_num single (.inl rfl) false r h
  rw [← h3]; exact sz_top single (.inl rfl) _ h1
theorem mgT_mono (a b : Nat) (h : a ≤ b) : mgT a ≤ mgT b := by
  unfold mgT
  by_cases hb : b < single.infRung
  · rw [if_pos (by omega), if_pos hb]; exact mg_mono single (.inl rfl) (by omega) hb h
  · rw [if_neg hb]
    by_cases ha : a < single.infRung
    · rw [if_pos ha]; exact Nat.le_of_lt (mg_top ha)
    · rw [if_neg ha]; exact Nat.le_refl _
theorem mgT_zero : mgT 0 = 0 := by decide +kernel
theorem word_v (s : Bool) (r : Nat) (h : r ≤ single.infRung) : (single.read (single.word s r)).isNaN = false ∧ vM (single.read (single.word s r)) = sg s (mgT r) := by
  by_cases hr : r < single.infRung
  · obtain ⟨m, e, h1, h2, h3⟩ := word_read_num single (.inl rfl) s r hr
    rw [h1]
    refine ⟨rfl, ?_⟩
    show sg s (szM m e) = _
    rw [h3]; unfold mgT; rw [if_pos hr]
  · have e : r = single.infRung := by omega
    subst e
    rw [word_read_inf single (.inl rfl) s]
    refine ⟨rfl, ?_⟩
    show sg s topM = _
    unfold mgT; rw [if_neg hr]
theorem rg_top : rg single topM = single.infRung := by decide +kernel
theorem rg_zero : rg single 0 = 0 := by decide +kernel
theorem rg_inf (M : Nat) : rg single M ≤ single.infRung := Nat.min_le_right ..
theorem nw_word {b : Nat} (hd : (double.read b).isNaN = false) : ∃ s M, vM (double.read b) = sg s M ∧ nwV b = single.word s (rg single M) := by
  unfold nwV
  cases h : double.read b with
  | nan s t => rw [h] at hd; cases hd
  | infinity s => exact ⟨s, topM, rfl, by show single.word s single.infRung = _; rw [rg_top]⟩
  | number s m e => exact ⟨s, szM m e, rfl, nearest_eq single (.inl rfl) s m e (read_place _ (.inr rfl) b h).1⟩
theorem nw_order {a b : Nat} (ha : (double.read a).isNaN = false) (hb : (double.read b).isNaN = false) (h : vM (double.read a) ≤ vM (double.read b)) :
    FloatKind.f32.format.order (nwV a) (nwV b) = some .lt ∨ FloatKind.f32.format.order (nwV a) (nwV b) = some .eq := by
  obtain ⟨s, M, e1, e2⟩ := nw_word ha
  obtain ⟨t, N, e3, e4⟩ := nw_word hb
  rw [e1, e3] at h
  obtain ⟨n1, v1⟩ := word_v s _ (rg_inf M)
  obtain ⟨n2, v2⟩ := word_v t _ (rg_inf N)
  have hm : sg s (mgT (rg single M)) ≤ sg t (mgT (rg single N)) := sg_mono (g := mgT) mgT_zero mgT_mono (sg_mono (g := rg single) rg_zero (fun _ _ h => rg_mono single h) h)
  have ho : FloatKind.f32.format.order (nwV a) (nwV b) = some (compare (sg s (mgT (rg single M))) (sg t (mgT (rg single N)))) := by
    rw [e2, e4]
    show single.order _ _ = _
    rw [order_v single (.inl rfl) _ _ n1 n2, v1, v2]
  rw [ho]
  by_cases heq : sg s (mgT (rg single M)) = sg t (mgT (rg single N))
  · right; rw [cmp_eq heq]
  · left; rw [cmp_lt (by omega)]
end Go.Proofs.Ytanchgbpnioomab
