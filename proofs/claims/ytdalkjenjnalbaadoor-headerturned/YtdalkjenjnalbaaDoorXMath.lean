/-
  Extents, plainly: lists of pairs (At, Size); good lists; which bytes a list has; a good list is its set of bytes; joining a list that is in order. No conditions.
-/
import Derived.Below
namespace Go.Proofs.YtdalkjenjnalbaaDoor
set_option linter.unusedVariables false
set_option maxRecDepth 100000

/-- An extent: At and Size. -/
abbrev Ext := Int × Int
/-- It may be. -/
def mayB (x : Ext) : Bool := decide (0 ≤ x.1 ∧ 0 ≤ x.2 ∧ x.2 ≤ 4194304 - x.1)
theorem mayB_iff {x : Ext} : mayB x = true ↔ 0 ≤ x.1 ∧ 0 ≤ x.2 ∧ x.1 + x.2 ≤ 4194304 := by unfold mayB; simp; omega
/-- A list's extents begin from a place on, and are good within a size. -/
def goodFrom (size : Int) : Int → List Ext → Bool
  | _, [] => true
  | first, x :: r => decide (first ≤ x.1 ∧ 1 ≤ x.2 ∧ 0 ≤ x.1 ∧ x.2 ≤ size - x.1) && goodFrom size (x.1 + x.2 + 1) r
def szB (size : Int) : Bool := decide (0 ≤ size ∧ size ≤ 4194304)
def goodB (l : List Ext) (size : Int) : Bool := szB size && decide (l.length ≤ 65536) && goodFrom size 0 l
theorem szB_iff {size : Int} : szB size = true ↔ 0 ≤ size ∧ size ≤ 4194304 := by unfold szB; simp
theorem goodB_iff {l : List Ext} {size : Int} : goodB l size = true ↔ (0 ≤ size ∧ size ≤ 4194304) ∧ l.length ≤ 65536 ∧ goodFrom size 0 l = true := by
  unfold goodB; simp [szB_iff, and_assoc]

/-- The place from which on the next extent may begin. -/
def nextOf (l : List Ext) : Int := match l.getLast? with | none => 0 | some x => x.1 + x.2 + 1
theorem goodFrom_append (size : Int) : ∀ (l m : List Ext) (f : Int), goodFrom size f (l ++ m) = (goodFrom size f l && goodFrom size (match l.getLast? with | none => f | some x => x.1 + x.2 + 1) m)
  | [], m, f => by simp [goodFrom]
  | x :: r, m, f => by
    simp only [List.cons_append, goodFrom, goodFrom_append size r m, Bool.and_assoc]
    cases hr : r.getLast? with
    | none => obtain rfl : r = [] := by simpa using hr
              simp
    | some y => simp [List.getLast?_cons, hr]

theorem nextOf_snoc (l : List Ext) (x : Ext) : nextOf (l ++ [x]) = x.1 + x.2 + 1 := by simp [nextOf]
theorem goodFrom_snoc (size : Int) (l : List Ext) (x : Ext) : goodFrom size 0 (l ++ [x]) = (goodFrom size 0 l && decide (nextOf l ≤ x.1 ∧ 1 ≤ x.2 ∧ 0 ≤ x.1 ∧ x.2 ≤ size - x.1)) := by
  rw [goodFrom_append]
  congr 1
  unfold nextOf
  cases l.getLast? <;> simp [goodFrom]
theorem goodFrom_take {size : Int} {l : List Ext} (k : Nat) (h : goodFrom size 0 (l.take k) = false) : goodFrom size 0 l = false := by
  rw [← List.take_append_drop k l, goodFrom_append, h]; rfl
theorem take_snoc (l : List Ext) {k : Nat} (h : k < l.length) : l.take (k + 1) = l.take k ++ [l.getD k (0, 0)] := by
  rw [List.take_succ_eq_append_getElem h]; simp [List.getD, h]
theorem getD_mem {l : List Ext} {k : Nat} (h : k < l.length) : l.getD k (0, 0) ∈ l := by simp [List.getD, h]

/-- A byte of a list. -/
def Cov (l : List Ext) (b : Int) : Prop := ∃ x ∈ l, x.1 ≤ b ∧ b < x.1 + x.2
theorem cov_nil {b : Int} : ¬ Cov [] b := fun ⟨_, h, _⟩ => by cases h
theorem cov_cons {x : Ext} {l : List Ext} {b : Int} : Cov (x :: l) b ↔ (x.1 ≤ b ∧ b < x.1 + x.2) ∨ Cov l b := by simp [Cov]
theorem cov_append {l m : List Ext} {b : Int} : Cov (l ++ m) b ↔ Cov l b ∨ Cov m b := by
  constructor
  · rintro ⟨x, hx, h⟩; rcases List.mem_append.1 hx with hx | hx
    · exact .inl ⟨x, hx, h⟩
    · exact .inr ⟨x, hx, h⟩
  · rintro (⟨x, hx, h⟩ | ⟨x, hx, h⟩)
    · exact ⟨x, List.mem_append.2 (.inl hx), h⟩
    · exact ⟨x, List.mem_append.2 (.inr hx), h⟩
theorem cov_perm {l m : List Ext} (h : l.Perm m) {b : Int} : Cov l b ↔ Cov m b := by
  constructor
  · rintro ⟨x, hx, k⟩; exact ⟨x, h.mem_iff.1 hx, k⟩
  · rintro ⟨x, hx, k⟩; exact ⟨x, h.mem_iff.2 hx, k⟩
theorem cov_filter {l : List Ext} {b : Int} : Cov (l.filter fun x => decide (0 < x.2)) b ↔ Cov l b := by
  constructor
  · rintro ⟨x, hx, k⟩; exact ⟨x, (List.mem_filter.1 hx).1, k⟩
  · rintro ⟨x, hx, k⟩; exact ⟨x, List.mem_filter.2 ⟨hx, by simp; omega⟩, k⟩

/-- Each has a byte, and each begins behind the end of those ahead, not right at it. -/
def SepX (l : List Ext) : Prop := (∀ x ∈ l, 1 ≤ x.2) ∧ l.Pairwise fun x y => x.1 + x.2 < y.1
theorem SepX.nil : SepX [] := ⟨(fun _ h => by cases h), .nil⟩
theorem sep_cons {x : Ext} {l : List Ext} : SepX (x :: l) ↔ 1 ≤ x.2 ∧ (∀ y ∈ l, x.1 + x.2 < y.1) ∧ SepX l := by
  unfold SepX
  rw [List.pairwise_cons]
  simp only [List.mem_cons, forall_eq_or_imp]
  constructor
  · rintro ⟨⟨a, b⟩, c, d⟩; exact ⟨a, c, b, d⟩
  · rintro ⟨a, c, b, d⟩; exact ⟨⟨a, b⟩, c, d⟩
theorem SepX.tail_above {x : Ext} {l : List Ext} (h : SepX (x :: l)) {b : Int} (hb : Cov l b) : x.1 + x.2 < b := by
  obtain ⟨y, hy, h1, h2⟩ := hb
  have := (sep_cons.1 h).2.1 y hy
  omega
/-- A separate list is its set of bytes. -/
theorem SepX.uniq : ∀ {l m : List Ext}, SepX l → SepX m → (∀ b, Cov l b ↔ Cov m b) → l = m
  | [], [], _, _, _ => rfl
  | [], y :: m, _, hm, h => absurd ((h y.1).2 (cov_cons.2 (.inl ⟨Int.le_refl _, by have := (sep_cons.1 hm).1; omega⟩))) cov_nil
  | x :: l, [], hl, _, h => absurd ((h x.1).1 (cov_cons.2 (.inl ⟨Int.le_refl _, by have := (sep_cons.1 hl).1; omega⟩))) cov_nil
  | x :: l, y :: m, hl, hm, h => by
    obtain ⟨x1, x2, x3⟩ := sep_cons.1 hl
    obtain ⟨y1, y2, y3⟩ := sep_cons.1 hm
    have hx := (h x.1).1 (cov_cons.2 (.inl ⟨Int.le_refl _, by omega⟩))
    have hy := (h y.1).2 (cov_cons.2 (.inl ⟨Int.le_refl _, by omega⟩))
    have e1 : x.1 = y.1 := by
      rcases cov_cons.1 hx with hx | hx
      · rcases cov_cons.1 hy with hy | hy
        · omega
        · have := hl.tail_above hy; omega
      · have := hm.tail_above hx
        rcases cov_cons.1 hy with hy | hy
        · omega
        · have := hl.tail_above hy; omega
    have e2 : x.2 = y.2 := by
      rcases Int.lt_trichotomy x.2 y.2 with hlt | he | hlt
      · have := (h (x.1 + x.2)).2 (cov_cons.2 (.inl ⟨by omega, by omega⟩))
        rcases cov_cons.1 this with h1 | h1
        · omega
        · have := hl.tail_above h1; omega
      · exact he
      · have := (h (y.1 + y.2)).1 (cov_cons.2 (.inl ⟨by omega, by omega⟩))
        rcases cov_cons.1 this with h1 | h1
        · omega
        · have := hm.tail_above h1; omega
    obtain rfl : x = y := Prod.ext e1 e2
    congr 1
    refine SepX.uniq x3 y3 fun b => ⟨fun hb => ?_, fun hb => ?_⟩
    · have := hl.tail_above hb
      rcases cov_cons.1 ((h b).1 (cov_cons.2 (.inr hb))) with h1 | h1
      · omega
      · exact h1
    · have := hm.tail_above hb
      rcases cov_cons.1 ((h b).2 (cov_cons.2 (.inr hb))) with h1 | h1
      · omega
      · exact h1
theorem sep_append {l m : List Ext} : SepX (l ++ m) ↔ SepX l ∧ SepX m ∧ ∀ x ∈ l, ∀ y ∈ m, x.1 + x.2 < y.1 := by
  unfold SepX
  rw [List.pairwise_append]
  constructor
  · rintro ⟨a, b, c, d⟩
    exact ⟨⟨fun x hx => a x (List.mem_append.2 (.inl hx)), b⟩, ⟨fun x hx => a x (List.mem_append.2 (.inr hx)), c⟩, d⟩
  · rintro ⟨⟨a, b⟩, ⟨c, d⟩, e⟩
    refine ⟨fun x hx => ?_, b, d, e⟩
    rcases List.mem_append.1 hx with hx | hx
    · exact a x hx
    · exact c x hx

/-- One more extent, of a list in order, is joined to those ahead. -/
def jstep (out : List Ext) (x : Ext) : List Ext :=
  match out.getLast? with
  | none => [x]
  | some c => if c.1 + c.2 < x.1 then out ++ [x] else out.dropLast ++ [(c.1, max c.2 (x.1 + x.2 - c.1))]
def joinL (l : List Ext) : List Ext := l.foldl jstep []
theorem joinL_snoc (l : List Ext) (x : Ext) : joinL (l ++ [x]) = jstep (joinL l) x := by simp [joinL]
theorem jstep_nil (x : Ext) : jstep [] x = [x] := rfl
theorem jstep_snoc (o : List Ext) (c x : Ext) : jstep (o ++ [c]) x = if c.1 + c.2 < x.1 then o ++ [c] ++ [x] else o ++ [(c.1, max c.2 (x.1 + x.2 - c.1))] := by
  simp [jstep]
theorem snoc_cases (l : List Ext) : l = [] ∨ ∃ o c, l = o ++ [c] := by
  rcases List.eq_nil_or_concat l with h | ⟨o, c, h⟩
  · exact .inl h
  · exact .inr ⟨o, c, by simpa using h⟩
/-- In order: by At. -/
def InOrd (l : List Ext) : Prop := l.Pairwise fun x y => x.1 ≤ y.1

theorem jstep_sep {out : List Ext} {x : Ext} (h : SepX out) (hx : 1 ≤ x.2) (ho : ∀ y ∈ out, y.1 ≤ x.1) : SepX (jstep out x) ∧ (∀ b, Cov (jstep out x) b ↔ Cov out b ∨ (x.1 ≤ b ∧ b < x.1 + x.2)) ∧ (∀ y ∈ jstep out x, y.1 ≤ x.1) ∧ (∀ y ∈ jstep out x, (∃ z ∈ out, y.1 = z.1) ∨ y.1 = x.1) := by
  rcases snoc_cases out with rfl | ⟨o, c, rfl⟩
  · refine ⟨?_, ?_, ?_, ?_⟩
    · rw [jstep_nil]; exact sep_cons.2 ⟨hx, (fun _ h => by cases h), SepX.nil⟩
    · intro b; rw [jstep_nil, cov_cons]; exact ⟨fun h => h.symm, fun h => h.symm⟩
    · intro y hy; rw [jstep_nil] at hy; simp at hy; subst hy; exact Int.le_refl _
    · intro y hy; rw [jstep_nil] at hy; simp at hy; subst hy; exact .inr rfl
  · obtain ⟨h1, h2, h3⟩ := sep_append.1 h
    have hc2 : 1 ≤ c.2 := (sep_cons.1 h2).1
    have hc1 : c.1 ≤ x.1 := ho c (List.mem_append.2 (.inr (List.mem_singleton.2 rfl)))
    rw [jstep_snoc]
    split
    · rename_i hlt
      refine ⟨?_, ?_, ?_, ?_⟩
      · refine sep_append.2 ⟨h, sep_cons.2 ⟨hx, (fun _ h => by cases h), SepX.nil⟩, ?_⟩
        intro a ha b hb
        simp at hb; subst hb
        rcases List.mem_append.1 ha with ha | ha
        · have := h3 a ha c (List.mem_singleton.2 rfl); omega
        · simp at ha; subst ha; exact hlt
      · intro b; rw [cov_append, cov_cons]; simp [cov_nil]
      · intro y hy
        rcases List.mem_append.1 hy with hy | hy
        · exact ho y hy
        · simp at hy; subst hy; exact Int.le_refl _
      · intro y hy
        rcases List.mem_append.1 hy with hy | hy
        · exact .inl ⟨y, hy, rfl⟩
        · simp at hy; subst hy; exact .inr rfl
    · rename_i hlt
      refine ⟨?_, ?_, ?_, ?_⟩
      · refine sep_append.2 ⟨h1, sep_cons.2 ⟨by show 1 ≤ max c.2 _; omega, (fun _ h => by cases h), SepX.nil⟩, ?_⟩
        intro a ha b hb
        simp at hb; subst hb
        exact h3 a ha c (List.mem_singleton.2 rfl)
      · intro b
        rw [cov_append, cov_append, cov_cons, cov_cons]
        simp only [cov_nil, or_false]
        constructor
        · rintro (h | ⟨h, h'⟩)
          · exact .inl (.inl h)
          · by_cases hb : b < c.1 + c.2
            · exact .inl (.inr ⟨h, hb⟩)
            · exact .inr ⟨by omega, by omega⟩
        · rintro ((h | ⟨h, h'⟩) | ⟨h, h'⟩)
          · exact .inl h
          · exact .inr ⟨h, by omega⟩
          · exact .inr ⟨by omega, by omega⟩
      · intro y hy
        rcases List.mem_append.1 hy with hy | hy
        · exact ho y (List.mem_append.2 (.inl hy))
        · simp at hy; subst hy; exact hc1
      · intro y hy
        rcases List.mem_append.1 hy with hy | hy
        · exact .inl ⟨y, List.mem_append.2 (.inl hy), rfl⟩
        · simp at hy; subst hy; exact .inl ⟨c, List.mem_append.2 (.inr (List.mem_singleton.2 rfl)), rfl⟩

theorem foldl_jstep : ∀ (l out : List Ext), SepX out → (∀ x ∈ l, 1 ≤ x.2) → InOrd l → (∀ y ∈ out, ∀ x ∈ l, y.1 ≤ x.1) → SepX (l.foldl jstep out) ∧ ∀ b, Cov (l.foldl jstep out) b ↔ Cov out b ∨ Cov l b
  | [], out, h, _, _, _ => ⟨h, fun b => by simp [cov_nil]⟩
  | x :: r, out, h, h1, h2, h3 => by
    obtain ⟨k1, k2, k3, k4⟩ := jstep_sep h (h1 x (List.mem_cons_self ..)) (fun y hy => h3 y hy x (List.mem_cons_self ..))
    have h2' := List.pairwise_cons.1 h2
    obtain ⟨r1, r2⟩ := foldl_jstep r (jstep out x) k1 (fun y hy => h1 y (List.mem_cons_of_mem _ hy)) h2'.2 (fun y hy z hz => by have := k3 y hy; have := h2'.1 z hz; omega)
    refine ⟨r1, fun b => ?_⟩
    rw [List.foldl_cons, r2, k2, cov_cons, or_assoc]
/-- What joining a list in order gives. -/
theorem joinL_sep {l : List Ext} (h1 : ∀ x ∈ l, 1 ≤ x.2) (h2 : InOrd l) : SepX (joinL l) ∧ ∀ b, Cov (joinL l) b ↔ Cov l b := by
  obtain ⟨a, b⟩ := foldl_jstep l [] SepX.nil h1 h2 (fun _ h => by cases h)
  exact ⟨a, fun x => by rw [joinL, b]; simp [cov_nil]⟩
/-- Two lists in order with the same bytes are joined to one. -/
theorem joinL_eq {l m : List Ext} (h1 : ∀ x ∈ l, 1 ≤ x.2) (h2 : InOrd l) (k1 : ∀ x ∈ m, 1 ≤ x.2) (k2 : InOrd m) (h : ∀ b, Cov l b ↔ Cov m b) : joinL l = joinL m :=
  SepX.uniq (joinL_sep h1 h2).1 (joinL_sep k1 k2).1 fun b => by rw [(joinL_sep h1 h2).2, (joinL_sep k1 k2).2]; exact h b
theorem jstep_length (out : List Ext) (x : Ext) : (jstep out x).length ≤ out.length + 1 := by
  rcases snoc_cases out with rfl | ⟨o, c, rfl⟩
  · simp [jstep_nil]
  · rw [jstep_snoc]; split <;> simp
theorem joinL_length (l : List Ext) : (joinL l).length ≤ l.length := by
  rw [← List.reverse_reverse l]
  generalize l.reverse = r
  induction r with
  | nil => simp [joinL]
  | cons x r ih =>
    rw [List.reverse_cons, joinL_snoc]
    have := jstep_length (joinL r.reverse) x
    simp at ih ⊢; omega

/-- A good list is separate, within its size. -/
theorem goodFrom_sep {size : Int} : ∀ {l : List Ext} {f : Int}, goodFrom size f l = true → SepX l ∧ (∀ x ∈ l, f ≤ x.1 ∧ 0 ≤ x.1 ∧ 1 ≤ x.2 ∧ x.1 + x.2 ≤ size)
  | [], _, _ => ⟨SepX.nil, fun _ h => by cases h⟩
  | x :: r, f, h => by
    simp only [goodFrom, Bool.and_eq_true, decide_eq_true_eq] at h
    obtain ⟨⟨h1, h2, h3, h4⟩, h5⟩ := h
    obtain ⟨k1, k2⟩ := goodFrom_sep h5
    refine ⟨sep_cons.2 ⟨h2, fun y hy => by have := k2 y hy; omega, k1⟩, fun y hy => ?_⟩
    rcases List.mem_cons.1 hy with rfl | hy
    · exact ⟨h1, h3, h2, by omega⟩
    · have := k2 y hy; exact ⟨by omega, this.2⟩
theorem goodFrom_of_sep {size : Int} : ∀ {l : List Ext} {f : Int}, SepX l → (∀ x ∈ l, f ≤ x.1 ∧ 0 ≤ x.1 ∧ x.1 + x.2 ≤ size) → goodFrom size f l = true
  | [], _, _, _ => rfl
  | x :: r, f, h, k => by
    obtain ⟨h1, h2, h3⟩ := sep_cons.1 h
    have hx := k x (List.mem_cons_self ..)
    simp only [goodFrom, Bool.and_eq_true, decide_eq_true_eq]
    refine ⟨⟨hx.1, h1, hx.2.1, by omega⟩, goodFrom_of_sep h3 fun y hy => ?_⟩
    have := h2 y hy
    have := k y (List.mem_cons_of_mem _ hy)
    exact ⟨by omega, this.2⟩
theorem sep_ord {l : List Ext} (h : SepX l) : InOrd l := by
  have := h.2
  refine List.Pairwise.imp_of_mem ?_ this
  intro a b ha hb hab
  have := h.1 a ha
  omega

end Go.Proofs.YtdalkjenjnalbaaDoor
