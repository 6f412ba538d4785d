/-
  Places in an extent, and parts of chunks, in plain words. No conditions.
-/
import Derived.Test.YtneegijbbbebkaaGFit
namespace Go.Proofs.Ytneegijbbbebkaa
open Go.RowKit
set_option linter.unusedVariables false
set_option maxRecDepth 100000

/-- A tuple that lies inside. -/
def Ins2 (D t : List Int) : Prop := t.length = D.length ∧ ∀ (i : Nat) (x n : Int), t[i]? = some x → D[i]? = some n → 0 ≤ x ∧ x < n
def placeZ : List Int → List Int → Int → Int
  | n :: D, x :: t, p => placeZ D t (p * n + x)
  | _, _, p => p
def plc (D t : List Int) : Int := placeZ D t 0
theorem dims_of {D : List Int} (h : dimsB D = true) : D.length ≤ 4 ∧ ∀ x ∈ D, 0 ≤ x ∧ x ≤ 1048576 := by
  rw [dimsB, Bool.and_eq_true, List.all_eq_true] at h
  exact ⟨of_decide_eq_true h.1, fun x hx => by simpa using h.2 x hx⟩
theorem elE_ok {D : List Int} (h : elE D = 0) : dimsB D = true ∧ prd D ≤ 1048576 := by
  unfold elE at h
  by_cases h1 : dimsB D = true
  · rw [if_pos h1] at h
    by_cases h2 : prd D ≤ 1048576
    · exact ⟨h1, h2⟩
    · rw [if_neg h2] at h; omega
  · rw [if_neg h1] at h; omega
theorem plc_step {D t : List Int} {i : Nat} {x n p : Int} (ht : t[i]? = some x) (hn : D[i]? = some n) : placeZ (D.drop i) (t.drop i) p = placeZ (D.drop (i + 1)) (t.drop (i + 1)) (p * n + x) := by
  obtain ⟨h1, rfl⟩ := List.getElem?_eq_some_iff.1 ht
  obtain ⟨h2, rfl⟩ := List.getElem?_eq_some_iff.1 hn
  rw [List.drop_eq_getElem_cons h1, List.drop_eq_getElem_cons h2, placeZ]
theorem ins_pos {D t : List Int} (h : Ins2 D t) : ∀ x ∈ D, 1 ≤ x := by
  intro n hn
  obtain ⟨i, hi⟩ := List.mem_iff_getElem?.1 hn
  have hl := (List.getElem?_eq_some_iff.1 hi).1
  have := h.2 i _ n (List.getElem?_eq_getElem (by rw [h.1]; exact hl)) hi
  omega
theorem plc_in_from : ∀ (D t : List Int) (p q : Int), Ins2 D t → 0 ≤ p → p < q → 0 ≤ placeZ D t p ∧ placeZ D t p < q * prd D
  | [], [], p, q, _, h0, h1 => by simp only [placeZ, prd]; omega
  | [], _ :: _, p, q, h, _, _ => by have := h.1; simp at this
  | _ :: _, [], p, q, h, _, _ => by have := h.1; simp at this
  | n :: D, x :: t, p, q, h, h0, h1 => by
    have hx := h.2 0 x n rfl rfl
    have hr : Ins2 D t := ⟨by have := h.1; simpa using this, fun i y m hy hm => h.2 (i + 1) y m (by simpa using hy) (by simpa using hm)⟩
    have h5 : 0 ≤ p * n := Int.mul_nonneg h0 (by omega)
    have h3 : (p + 1) * n ≤ q * n := Int.mul_le_mul_of_nonneg_right (by omega) (by omega)
    have h4 : (p + 1) * n = p * n + n := by rw [Int.add_mul, Int.one_mul]
    have ih := plc_in_from D t (p * n + x) (q * n) hr (by omega) (by omega)
    rw [placeZ, prd, ← Int.mul_assoc]
    exact ih
theorem plc_in {D t : List Int} (h : Ins2 D t) : 0 ≤ plc D t ∧ plc D t < prd D := by
  have := plc_in_from D t 0 1 h (by omega) (by omega)
  rw [Int.one_mul] at this
  exact this
theorem placeZ_snoc : ∀ (D t : List Int) (n x p : Int), t.length = D.length → placeZ (D ++ [n]) (t ++ [x]) p = placeZ D t p * n + x
  | [], [], n, x, p, _ => by simp [placeZ]
  | [], _ :: _, _, _, _, h => by simp at h
  | _ :: _, [], _, _, _, h => by simp at h
  | m :: D, y :: t, n, x, p, h => by
    rw [List.cons_append, List.cons_append, placeZ, placeZ, placeZ_snoc D t n x _ (by simpa using h)]
/-- Where a chunk begins within the extent, and how many of its numbers lie there. -/
def clS : List Int → List Int → List Int → List Int
  | n :: D, s :: S, c :: C => (if c ≤ n / s then c * s else n) :: clS D S C
  | _, _, _ => []
def clB : List Int → List Int → List Int → List Int
  | n :: D, s :: S, c :: C => min s (n - (if c ≤ n / s then c * s else n)) :: clB D S C
  | _, _, _ => []
theorem clS_length : ∀ (D S C : List Int), S.length = D.length → C.length = D.length → (clS D S C).length = D.length
  | [], _, _, _, _ => by simp [clS]
  | n :: D, s :: S, c :: C, h1, h2 => by rw [clS, List.length_cons, clS_length D S C (by simpa using h1) (by simpa using h2), List.length_cons]
  | _ :: _, [], _, h1, _ => by simp at h1
  | _ :: _, _ :: _, [], _, h2 => by simp at h2
theorem clB_length : ∀ (D S C : List Int), S.length = D.length → C.length = D.length → (clB D S C).length = D.length
  | [], _, _, _, _ => by simp [clB]
  | n :: D, s :: S, c :: C, h1, h2 => by rw [clB, List.length_cons, clB_length D S C (by simpa using h1) (by simpa using h2), List.length_cons]
  | _ :: _, [], _, h1, _ => by simp at h1
  | _ :: _, _ :: _, [], _, h2 => by simp at h2
theorem clS_at : ∀ (D S C : List Int) (i : Nat) (n s c : Int), D[i]? = some n → S[i]? = some s → C[i]? = some c → (clS D S C)[i]? = some (if c ≤ n / s then c * s else n)
  | n :: D, s :: S, c :: C, 0, n', s', c', h1, h2, h3 => by
    obtain rfl : n = n' := by simpa using h1
    obtain rfl : s = s' := by simpa using h2
    obtain rfl : c = c' := by simpa using h3
    rfl
  | n :: D, s :: S, c :: C, i + 1, n', s', c', h1, h2, h3 => by
    rw [clS, List.getElem?_cons_succ]
    exact clS_at D S C i n' s' c' (by simpa using h1) (by simpa using h2) (by simpa using h3)
  | [], _, _, _, _, _, _, h1, _, _ => by simp at h1
  | _ :: _, [], _, _, _, _, _, _, h2, _ => by simp at h2
  | _ :: _, _ :: _, [], _, _, _, _, _, _, h3 => by simp at h3
theorem clB_at : ∀ (D S C : List Int) (i : Nat) (n s c : Int), D[i]? = some n → S[i]? = some s → C[i]? = some c → (clB D S C)[i]? = some (min s (n - (if c ≤ n / s then c * s else n)))
  | n :: D, s :: S, c :: C, 0, n', s', c', h1, h2, h3 => by
    obtain rfl : n = n' := by simpa using h1
    obtain rfl : s = s' := by simpa using h2
    obtain rfl : c = c' := by simpa using h3
    rfl
  | n :: D, s :: S, c :: C, i + 1, n', s', c', h1, h2, h3 => by
    rw [clB, List.getElem?_cons_succ]
    exact clB_at D S C i n' s' c' (by simpa using h1) (by simpa using h2) (by simpa using h3)
  | [], _, _, _, _, _, _, h1, _, _ => by simp at h1
  | _ :: _, [], _, _, _, _, _, _, h2, _ => by simp at h2
  | _ :: _, _ :: _, [], _, _, _, _, _, _, h3 => by simp at h3
theorem clip_bd {n s c : Int} (hn : 0 ≤ n) (hs : 1 ≤ s) (hc : 0 ≤ c) : 0 ≤ (if c ≤ n / s then c * s else n) ∧ (if c ≤ n / s then c * s else n) ≤ n := by
  split
  · rename_i h
    have h1 := Int.mul_le_mul_of_nonneg_right h (show 0 ≤ s by omega)
    have h2 := Int.ediv_mul_le n (show s ≠ 0 by omega)
    have h3 := Int.mul_nonneg hc (show 0 ≤ s by omega)
    omega
  · omega
/-- A list of numbers made of noughts, as far as it is laid. -/
def fillI (n i : Nat) (l : List Int) : List Int := l.take i ++ List.replicate (n - i) 0
theorem fillI_zero (n : Nat) (l : List Int) : fillI n 0 l = List.replicate n 0 := by simp [fillI]
theorem fillI_len {n i : Nat} {l : List Int} (hl : l.length = n) (hi : i ≤ n) : (fillI n i l).length = n := by simp [fillI]; omega
theorem fillI_all {n : Nat} {l : List Int} (hl : l.length = n) : fillI n n l = l := by simp [fillI, List.take_of_length_le (Nat.le_of_eq hl)]
theorem fillI_set {n i : Nat} {l : List Int} {x : Int} (hl : l.length = n) (hi : i < n) (hx : l[i]? = some x) : (fillI n i l).set i x = fillI n (i + 1) l := by
  have h1 : (l.take i).length = i := by simp; omega
  rw [fillI, fillI, List.set_append_right _ _ (by omega), h1, Nat.sub_self, show n - i = (n - (i + 1)) + 1 by omega, List.replicate_succ, List.set_cons_zero, List.take_add_one, hx]
  simp
theorem fillI_at {n i : Nat} {l : List Int} (hl : l.length = n) (hi : i < n) : (fillI n i l)[i]? = some 0 := by
  have h1 : (l.take i).length = i := by simp; omega
  rw [fillI, List.getElem?_append_right (by omega), h1, Nat.sub_self, List.getElem?_replicate, if_pos (by omega)]
/-- A whole row of numbers. -/
def RI (w : World) (g : Nat) (l : List Int) : Prop := w.heap[g]? = some (.cells (l.map fun x => Value.int .i64 x).toArray 3 (0, 0))
theorem RI.cell {w : World} {g : Nat} {l : List Int} (h : RI w g l) {i : Nat} {x : Int} (hx : l[i]? = some x) : w.cell? ⟨g, i, none⟩ = some (.int .i64 x) := by
  rw [cell_of_row w g i _ _ _ h]; simp [hx]
theorem RI.free {w : World} {g : Nat} {l : List Int} (h : RI w g l) (i : Nat) : w.frozen? ⟨g, i, none⟩ = false := by
  have : w.heap[g]? = _ := h
  simp [World.frozen?, this]
theorem RI.set {w : World} {g : Nat} {l : List Int} (h : RI w g l) (i : Nat) (x : Int) : RI (w.setCell ⟨g, i, none⟩ (.int .i64 x)) g (l.set i x) := by
  unfold RI
  rw [heap_setCell_same w g i _ _ _ h]
  simp [List.map_set]
theorem RI.lt {w : World} {g : Nat} {l : List Int} (h : RI w g l) : g < w.heap.size := (Array.getElem?_eq_some_iff.1 h).1
theorem RI.of_block {w w' : World} {g : Nat} {l : List Int} (h : RI w g l) (e : w'.heap[g]? = w.heap[g]?) : RI w' g l := Eq.trans e h
theorem RI.is {w : World} {g : Nat} {l : List Int} (h : RI w g l) (hl : l.length ≤ 17592186043904) (hx : ∀ x ∈ l, I64 x) : Is w (.slice (some ⟨g, 0, none⟩) l.length l.length) l := by
  refine ⟨hl, hx, _, l.length, rfl, Nat.le_refl _, fun i x hi => ⟨g, 0, rfl, ?_⟩⟩
  rw [Nat.zero_add]
  exact h.cell hi
theorem Try.infoZ : ∃ i, Try.prog.info? 3 = some i ∧ i.zero = some (.int .i64 0) ∧ i.size = 1 ∧ i.bytes = 8 := by
  have h : (Try.prog.info? 3).map (fun i => (i.zero, i.size, i.bytes)) = some (some (.int .i64 0), 1, 8) := by kernel_rfl
  obtain ⟨i, hi, he⟩ := Option.map_eq_some_iff.1 h
  simp only [Prod.mk.injEq] at he
  exact ⟨i, hi, he.1, he.2.1, he.2.2⟩
theorem make_rule (m : Nat) (hm : m ≤ 4) : ∃ Z : Array Value, Z = ((List.replicate m (0 : Int)).map fun x => Value.int .i64 x).toArray ∧ ∀ w : World, (Instr.makeSlice 22 (.int .i64 (m : Int)) (.int .i64 (m : Int))).run Try.prog w = .ok (.slice (some ⟨w.heap.size, 0, none⟩) m m) (w.alloc (.cells Z 3)) := by
  obtain ⟨i0, hi, hz, hs, hy⟩ := Try.infoZ
  refine ⟨_, rfl, fun w => ?_⟩
  have := run_make (P := Try.prog) w 22 3 i0 (.int .i64 0) Try.underlying22 hi hz .i64 .i64 (m : Int) (m : Int) (by omega) (by omega) (by rw [hy]; omega) (by omega)
  rw [this, hs]
  congr 2
  apply congrArg (fun x => Obj.cells x 3)
  apply Array.ext'
  simp [madeCells, Value.cells, Nat.mod_one, List.map_const']
theorem alloc_facts (w : World) (o : Obj) : ∃ w', w.alloc o = w' ∧ Below w.heap.size w w' ∧ w'.heap.size = w.heap.size + 1 ∧ w'.heap[w.heap.size]? = some o :=
  ⟨_, rfl, (Below.refl _ _).alloc (Nat.le_refl _) _, World.size_alloc _ _, heap_alloc_new w o⟩
theorem below_dN {B : Nat} {w0 w : World} (h : Below B w0 w) (hB : B ≤ w.heap.size) (n : Nat) : Below B w0 (w.drewN n) := h.trans (Below.mono (B := w.heap.size) ⟨rfl, rfl, rfl, Nat.le_refl _, fun _ _ => rfl⟩ hB)
end Go.Proofs.Ytneegijbbbebkaa
