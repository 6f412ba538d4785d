/-
  A hyperslab that selects something, moved by the extent along a dimension, or with a last step or a block beyond it, is refused with 17: in plain words. No conditions.
-/
import Derived.Test.YtnikbcljonbpcaaSSel
namespace Go.Proofs.Ytnikbcljonbpcaa
set_option linter.unusedVariables false

theorem okB_iff2 {n : Nat} {l : List Int} : okB n l = true ↔ l.length = n ∧ ∀ x ∈ l, 0 ≤ x := by
  simp [okB]
theorem okB_set {n : Nat} {l : List Int} (h : okB n l = true) (d : Nat) {x : Int} (hx : 0 ≤ x) : okB n (l.set d x) = true := by
  obtain ⟨h1, h2⟩ := okB_iff2.1 h
  refine okB_iff2.2 ⟨by rw [List.length_set, h1], fun y hy => ?_⟩
  rcases List.mem_or_eq_of_mem_set hy with hy | hy
  · exact h2 y hy
  · rw [hy]; exact hx
theorem pos_set {l : List Int} (h : ∀ x ∈ l, 1 ≤ x) (d : Nat) {x : Int} (hx : 1 ≤ x) : ∀ y ∈ l.set d x, 1 ≤ y := fun y hy => by
  rcases List.mem_or_eq_of_mem_set hy with hy | hy
  · exact h y hy
  · rw [hy]; exact hx
theorem cnts_slab : ∀ (a b c d : List Int) (n : Nat), a.length = n → b.length = n → c.length = n → d.length = n → ∀ x, x ∈ cnts (slabA a b c d) ↔ x ∈ c ∨ x ∈ d
  | [], [], [], [], _, _, _, _, _, x => by simp [slabA, cnts]
  | p :: a, q :: b, r :: c, t :: d, 0, h, _, _, _, _ => by simp at h
  | p :: a, q :: b, r :: c, t :: d, n + 1, h1, h2, h3, h4, x => by
    have := cnts_slab a b c d n (by simpa using h1) (by simpa using h2) (by simpa using h3) (by simpa using h4) x
    rw [cnts] at this
    rw [slabA, cnts, List.flatMap_cons, List.mem_append, this, List.mem_cons, List.mem_cons, List.mem_cons]
    simp
    grind
/-- A hyperslab that is told and selects something. -/
structure SlabG (D : List Int) (s : Sel) : Prop where
  el : elE D = 0
  kd : s.kind = 3
  st : okB D.length s.st = true
  sd : okB D.length s.sd = true
  ct : okB D.length s.ct = true
  bl : okB D.length s.bl = true
  pc : ∀ x ∈ s.ct, 1 ≤ x
  pb : ∀ x ∈ s.bl, 1 ≤ x
theorem slab_prd {D : List Int} {s : Sel} (g : SlabG D s) : 1 ≤ prd (cnts (slabA s.st s.sd s.ct s.bl)) := by
  have hm := cnts_slab s.st s.sd s.ct s.bl D.length (okB_iff2.1 g.st).1 (okB_iff2.1 g.sd).1 (okB_iff2.1 g.ct).1 (okB_iff2.1 g.bl).1
  have h1 : ∀ x ∈ cnts (slabA s.st s.sd s.ct s.bl), 1 ≤ x := fun x hx => by
    rcases (hm x).1 hx with h | h
    · exact g.pc x h
    · exact g.pb x h
  exact prd_pos (fun x hx => by have := h1 x hx; omega) (fun hx => by have := h1 0 hx; omega)
theorem slab_open {D : List Int} {s : Sel} (h0 : slE D s = 0) (hk : s.kind = 3) (hN : slN D s ≠ 0) : SlabG D s ∧ fitsB D (slabA s.st s.sd s.ct s.bl) = true := by
  have hel : elE D = 0 := Classical.byContradiction fun h => h (by rw [slE, if_pos h] at h0; exact h0)
  rw [slE, if_neg (by simp [hel]), if_neg (by omega), if_neg (by omega), if_pos hk] at h0
  split at h0
  · rename_i hok
    simp only [Bool.and_eq_true] at hok
    obtain ⟨⟨⟨o1, o2⟩, o3⟩, o4⟩ := hok
    have hN' : prd (cnts (slabA s.st s.sd s.ct s.bl)) ≠ 0 := by
      rw [slN, if_neg (by omega), axA, if_neg (by omega)] at hN
      exact hN
    have hm := cnts_slab s.st s.sd s.ct s.bl D.length (okB_iff2.1 o1).1 (okB_iff2.1 o2).1 (okB_iff2.1 o3).1 (okB_iff2.1 o4).1
    have hz : (0 : Int) ∉ cnts (slabA s.st s.sd s.ct s.bl) := fun h => hN' (prd_zero h)
    refine ⟨⟨hel, hk, o1, o2, o3, o4, fun x hx => ?_, fun x hx => ?_⟩, ?_⟩
    · have := (okB_iff2.1 o3).2 x hx
      have : x ≠ 0 := fun e => hz ((hm 0).2 (.inl (e ▸ hx)))
      omega
    · have := (okB_iff2.1 o4).2 x hx
      have : x ≠ 0 := fun e => hz ((hm 0).2 (.inr (e ▸ hx)))
      omega
    · refine Classical.byContradiction fun h => ?_
      rw [axE, if_pos ⟨hN', by simpa using h⟩] at h0
      omega
  · omega
theorem slab_beyond {D : List Int} {s : Sel} (g : SlabG D s) {d : Nat} {n st sd ct bl : Int} (hn : D[d]? = some n) (h1 : s.st[d]? = some st) (h2 : s.sd[d]? = some sd) (h3 : s.ct[d]? = some ct) (h4 : s.bl[d]? = some bl) (hf : fitB n ⟨st, sd, ct, bl⟩ = false) : slE D s = 17 := by
  have hp := slab_prd g
  rw [slE, if_neg (by simp [g.el]), if_neg (by have := g.kd; omega), if_neg (by have := g.kd; omega), if_pos g.kd, if_pos (by simp [g.st, g.sd, g.ct, g.bl]), axE, if_pos]
  refine ⟨by omega, ?_⟩
  rw [fitsB, List.all_eq_false]
  refine ⟨(n, ⟨st, sd, ct, bl⟩), List.mem_of_getElem? (i := d) ?_, by simp [hf]⟩
  rw [List.getElem?_zip_eq_some]
  exact ⟨hn, slabA_at _ _ _ _ d _ _ _ _ h1 h2 h3 h4⟩
theorem fits_at {D : List Int} {s : Sel} (h : fitsB D (slabA s.st s.sd s.ct s.bl) = true) {d : Nat} {n st sd ct bl : Int} (hn : D[d]? = some n) (h1 : s.st[d]? = some st) (h2 : s.sd[d]? = some sd) (h3 : s.ct[d]? = some ct) (h4 : s.bl[d]? = some bl) : bl - 1 ≤ n - 1 - st := by
  rw [fitsB, List.all_eq_true] at h
  have := h (n, ⟨st, sd, ct, bl⟩) (List.mem_of_getElem? (i := d) (by
    rw [List.getElem?_zip_eq_some]
    exact ⟨hn, slabA_at _ _ _ _ d _ _ _ _ h1 h2 h3 h4⟩))
  simp only [fitB, Bool.and_eq_true, decide_eq_true_eq] at this
  exact this.1
theorem set_at {l : List Int} {d : Nat} {y : Int} (h : l[d]? = some y) (x : Int) : (l.set d x)[d]? = some x := by
  have hl : d < l.length := (List.getElem?_eq_some_iff.1 h).1
  simp [hl]
/-- Moved beyond: by the extent, or further. -/
theorem beyond_start {D : List Int} {s : Sel} (g : SlabG D s) {d : Nat} {n st sd ct bl : Int} (hn : D[d]? = some n) (h1 : s.st[d]? = some st) (h2 : s.sd[d]? = some sd) (h3 : s.ct[d]? = some ct) (h4 : s.bl[d]? = some bl) {x : Int} (hx0 : 0 ≤ x) (hx : n ≤ x) : slE D { s with st := s.st.set d x } = 17 := by
  have hb := g.pb bl (List.mem_of_getElem? h4)
  refine slab_beyond (s := { s with st := s.st.set d x }) ⟨g.el, g.kd, okB_set g.st d hx0, g.sd, g.ct, g.bl, g.pc, g.pb⟩ hn (set_at h1 x) h2 h3 h4 ?_
  simp only [fitB, Bool.and_eq_false_iff, decide_eq_false_iff_not]
  exact .inl (by omega)
/-- A last step beyond. -/
theorem beyond_step {D : List Int} {s : Sel} (g : SlabG D s) (hf : fitsB D (slabA s.st s.sd s.ct s.bl) = true) {d : Nat} {n st sd ct bl : Int} (hn : D[d]? = some n) (h1 : s.st[d]? = some st) (h2 : s.sd[d]? = some sd) (h3 : s.ct[d]? = some ct) (h4 : s.bl[d]? = some bl) {x y : Int} (hx : 2 ≤ x) (hy : n ≤ y) : slE D { s with ct := s.ct.set d x, sd := s.sd.set d y } = 17 := by
  have hb := g.pb bl (List.mem_of_getElem? h4)
  have hs := (okB_iff2.1 g.st).2 st (List.mem_of_getElem? h1)
  have hw := fits_at hf hn h1 h2 h3 h4
  refine slab_beyond (s := { s with ct := s.ct.set d x, sd := s.sd.set d y }) ⟨g.el, g.kd, g.st, okB_set g.sd d (by omega), okB_set g.ct d (by omega), g.bl, pos_set g.pc d (by omega), g.pb⟩ hn h1 (set_at h2 y) (set_at h3 x) h4 ?_
  simp only [fitB, Bool.and_eq_false_iff, Bool.or_eq_false_iff, decide_eq_false_iff_not]
  refine .inr ⟨by omega, ?_⟩
  rw [Int.ediv_eq_zero_of_lt (by omega) (by omega)]
  omega
/-- A block beyond. -/
theorem beyond_block {D : List Int} {s : Sel} (g : SlabG D s) {d : Nat} {n st sd ct bl : Int} (hn : D[d]? = some n) (h1 : s.st[d]? = some st) (h2 : s.sd[d]? = some sd) (h3 : s.ct[d]? = some ct) (h4 : s.bl[d]? = some bl) {x : Int} (hx1 : 1 ≤ x) (hx : n + 1 ≤ x) : slE D { s with bl := s.bl.set d x } = 17 := by
  have hs := (okB_iff2.1 g.st).2 st (List.mem_of_getElem? h1)
  refine slab_beyond (s := { s with bl := s.bl.set d x }) ⟨g.el, g.kd, g.st, g.sd, g.ct, okB_set g.bl d (by omega), g.pc, pos_set g.pb d hx1⟩ hn h1 h2 h3 (set_at h4 x) ?_
  simp only [fitB, Bool.and_eq_false_iff, decide_eq_false_iff_not]
  exact .inl (by omega)
end Go.Proofs.Ytnikbcljonbpcaa
