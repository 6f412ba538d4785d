/-
  The law's own: a selection anew, whose lists lie apart: the region that makes four lists in any order. Conditions: lengths are such as memory bears.
-/
import Derived.Test.YtnikbcljonbpcaaSRw
import Derived.Test.YtnikbcljonbpcaaSPts
import Derived.Test.YtnikbcljonbpcaaRInv
namespace Go.Proofs.Ytnikbcljonbpcaa
open Go.RowKit Go.Shelf
set_option linter.unusedVariables false
set_option maxRecDepth 100000

/-- append([]int{}, x...), of any length, and where it lies. -/
theorem run_app_at (w : World) (ty : TypeId) (B : Nat) (ao : Option Addr) (n cap : Nat) (t : List Int) (hown : w.ownsRow B 3 1 (.slice (some ⟨B, 0, none⟩) 0 0) 0 []) (h : Is w (.slice ao n cap) t) (hB : B ≤ w.heap.size) :
    ∃ g cap' w', (Builtin.append_ #[22, 22] ty #[.slice (some ⟨B, 0, none⟩) 0 0, .slice ao n cap]).run Try.prog w = .ok (.slice (some ⟨g, 0, none⟩) n cap') w' ∧ w'.ownsRow B 3 1 (.slice (some ⟨g, 0, none⟩) n cap') n (gc encZ t) ∧ w.grownBy w' (some B) ∧ (g = B ∨ g = w.heap.size) := by
  obtain ⟨i0, hi, hz, hs, hy⟩ := Try.infoZ
  obtain ⟨h1, h2, ao', cap', e, h3, h4⟩ := h
  injection e with e1 e2 e3
  subst e1 e2 e3
  cases ao with
  | none =>
    cases t with
    | nil =>
      refine ⟨B, 0, w, ?_, hown, ⟨rfl, rfl, rfl, Nat.le_refl _, fun _ _ _ => rfl⟩, .inl rfl⟩
      simp [Builtin.append_, run_underlying Try.underlying22, sizeOf, typeInfo, hi, Builtin.lenOf, Builtin.firstCells, storeCells]
    | cons x t =>
      obtain ⟨g, o, hg, _⟩ := h4 0 x rfl
      cases hg
  | some ad =>
    have hnews : ∀ j u, (gc encZ t)[j]? = some u → w.cell? (ad.add j) = some u := fun j y hj => by
      rw [gcZ_at] at hj
      obtain ⟨x, hx, rfl⟩ := Option.map_eq_some_iff.1 hj
      obtain ⟨g, o, hg, hc⟩ := h4 j x hx
      obtain rfl := Option.some.inj hg
      rw [addG]
      exact hc
    obtain ⟨v', w', hr, ho, hg, hn', hat⟩ := run_append_own_at (P := Try.prog) w B 22 ty 3 i0 (.int .i64 0) 1 8 Try.underlying22 hi hz hs hy rfl (by omega) _ 0 [] hown ad t.length cap (gc encZ t) (by rw [gc_length encZ1]) hnews (gcZ_one t) (by unfold maxLen; omega) (by omega) hB
    rw [Nat.zero_add, List.nil_append] at ho
    rcases ownsRow_shape ho with ⟨rfl, h0⟩ | ⟨g, c, rfl, _⟩
    · have := (hn'.1 rfl).1
      cases this
    · exact ⟨g, c, w', hr, ho, hg, by
        rcases hat with h | h
        · exact .inl (Option.some.inj h)
        · exact .inr (Option.some.inj h)⟩
inductive Ch (sel : List Nat) (w : World) (B b a n : Nat) (L : List Int) (p q : Value) (f : Option Nat) : Prop
  | no : b ∉ sel → a ∉ sel → p = undef → q = undef → f = none → Ch sel w B b a n L p q f
  | on (g : Nat) : b ∈ sel → a ∉ sel → p = .slice (some ⟨g, 0, none⟩) 0 0 → q = undef → f = some g → w.heap[g]? = some (.cells #[] 3 (0, 0)) → B ≤ g → Ch sel w B b a n L p q f
  | all (g0 g cap : Nat) : b ∈ sel → a ∈ sel → p = .slice (some ⟨g0, 0, none⟩) 0 0 → q = .slice (some ⟨g, 0, none⟩) n cap → f = some g → OwnI w B (.slice (some ⟨g, 0, none⟩) n cap) L → Ch sel w B b a n L p q f
/-- One of the four lists, as far as it is made. -/
theorem Ch.keep {sel : List Nat} {w w' : World} {B b a n i : Nat} {L : List Int} {p q : Value} {f r : Option Nat} (h : Ch sel w B b a n L p q f) (hb : i ≠ b) (ha : i ≠ a) (hg : w.grownBy w' r) (hr : ∀ g, f = some g → r ≠ some g) (hlt : ∀ g, f = some g → g < w.heap.size) : Ch (sel ++ [i]) w' B b a n L p q f := by
  cases h with
  | no h1 h2 h3 h4 h5 => exact .no (by simp [h1, hb.symm]) (by simp [h2, ha.symm]) h3 h4 h5
  | on g h1 h2 h3 h4 h5 h6 h7 => exact .on g (by simp [h1]) (by simp [h2, ha.symm]) h3 h4 h5 ((hg.block g (hlt g h5) (fun e => hr g h5 e.symm)).trans h6) h7
  | all g0 g cap h1 h2 h3 h4 h5 h6 =>
    refine .all g0 g cap (by simp [h1]) (by simp [h2]) h3 h4 h5 ?_
    refine h6.kp ((Kp.refl (fun x => some x = r) w).grown hg (fun x _ e => e.symm)) (fun x hx e => ?_)
    obtain rfl := Option.some.inj hx
    exact hr _ h5 e.symm
theorem Ch.isNo {sel : List Nat} {w : World} {B b a n : Nat} {L : List Int} {p q : Value} {f : Option Nat} (h : Ch sel w B b a n L p q f) (hb : b ∉ sel) : a ∉ sel ∧ p = undef ∧ q = undef ∧ f = none := by
  cases h with
  | no h1 h2 h3 h4 h5 => exact ⟨h2, h3, h4, h5⟩
  | on g h1 => exact absurd h1 hb
  | all g0 g cap h1 => exact absurd h1 hb
theorem Ch.isOn {sel : List Nat} {w : World} {B b a n : Nat} {L : List Int} {p q : Value} {f : Option Nat} (h : Ch sel w B b a n L p q f) (hb : b ∈ sel) (ha : a ∉ sel) : ∃ g, p = .slice (some ⟨g, 0, none⟩) 0 0 ∧ q = undef ∧ f = some g ∧ w.heap[g]? = some (.cells #[] 3 (0, 0)) ∧ B ≤ g := by
  cases h with
  | no h1 => exact absurd hb h1
  | on g h1 h2 h3 h4 h5 h6 h7 => exact ⟨g, h3, h4, h5, h6, h7⟩
  | all g0 g cap h1 h2 => exact absurd h2 ha
theorem Ch.isAll {sel : List Nat} {w : World} {B b a n : Nat} {L : List Int} {p q : Value} {f : Option Nat} (h : Ch sel w B b a n L p q f) (ha : a ∈ sel) : ∃ g0 g cap, p = .slice (some ⟨g0, 0, none⟩) 0 0 ∧ q = .slice (some ⟨g, 0, none⟩) n cap ∧ f = some g ∧ OwnI w B (.slice (some ⟨g, 0, none⟩) n cap) L := by
  cases h with
  | no h1 h2 => exact absurd ha h2
  | on g h1 h2 => exact absurd ha h2
  | all g0 g cap h1 h2 h3 h4 h5 h6 => exact ⟨g0, g, cap, h3, h4, h5, h6⟩
/-- A place is put for one of them. -/
def upd (f : Nat → Option Nat) (c : Nat) (x : Option Nat) : Nat → Option Nat := fun k => if k = c then x else f k
theorem upd_same (f : Nat → Option Nat) (c : Nat) (x : Option Nat) : upd f c x c = x := if_pos rfl
theorem upd_ne {f : Nat → Option Nat} {c k : Nat} {x : Option Nat} (h : k ≠ c) : upd f c x k = f k := if_neg h
/-- Where they lie: each in a block of its own. -/
structure Apart (f : Nat → Option Nat) (B N : Nat) : Prop where
  bd : ∀ c g, f c = some g → B ≤ g ∧ g < N
  inj : ∀ c d g, f c = some g → f d = some g → c = d
theorem Apart.new {f : Nat → Option Nat} {B N N' c g : Nat} (h : Apart f B N) (hg : N ≤ g) (hB : B ≤ g) (hN : g < N') (hle : N ≤ N') : Apart (upd f c (some g)) B N' := by
  refine ⟨fun d x hx => ?_, fun d e x hd he => ?_⟩
  · by_cases e : d = c
    · rw [e, upd_same] at hx
      obtain rfl := Option.some.inj hx
      exact ⟨hB, hN⟩
    · rw [upd_ne e] at hx
      have := h.bd d x hx
      omega
  · by_cases e1 : d = c
    · by_cases e2 : e = c
      · rw [e1, e2]
      · rw [e1, upd_same] at hd
        rw [upd_ne e2] at he
        obtain rfl := Option.some.inj hd
        have := h.bd e _ he
        omega
    · by_cases e2 : e = c
      · rw [upd_ne e1] at hd
        rw [e2, upd_same] at he
        obtain rfl := Option.some.inj he
        have := h.bd d _ hd
        omega
      · rw [upd_ne e1] at hd
        rw [upd_ne e2] at he
        exact h.inj d e x hd he
theorem Apart.move {f : Nat → Option Nat} {B N N' c g0 g : Nat} (h : Apart f B N) (h0 : f c = some g0) (hg : g = g0 ∨ g = N) (hN : g < N') (hle : N ≤ N') : Apart (upd f c (some g)) B N' := by
  rcases hg with rfl | rfl
  · refine ⟨fun d x hx => ?_, fun d e x hd he => ?_⟩
    · by_cases e : d = c
      · rw [e, upd_same, ← h0] at hx
        have := h.bd c x hx
        omega
      · rw [upd_ne e] at hx
        have := h.bd d x hx
        omega
    · have key : ∀ k, upd f c (some g) k = f k := fun k => by
        by_cases e : k = c
        · rw [e, upd_same, h0]
        · rw [upd_ne e]
      rw [key] at hd he
      exact h.inj d e x hd he
  · have := (h.bd c g0 h0).1
    have := (h.bd c g0 h0).2
    exact h.new (Nat.le_refl _) (by omega) hN hle
theorem Apart.mono {f : Nat → Option Nat} {B N N' : Nat} (h : Apart f B N) (hle : N ≤ N') : Apart f B N' := ⟨fun c g hg => by have := h.bd c g hg; omega, h.inj⟩
theorem own_alloc (w : World) (o : Obj) : w.grownBy (w.alloc o) none := ⟨rfl, rfl, rfl, by simp [World.size_alloc], fun x hx _ => Below.heap_alloc _ _ _ hx⟩
/-- What holds while the four lists, the selection and its place are made. -/
structure OwI (sel : List Nat) (w0 w : World) (ns : Nat → Nat) (Ls : Nat → List Int) (k : Int) (p0 p1 p2 p3 q0 q1 q2 q3 u v : Value) (f : Nat → Option Nat) : Prop where
  bel : Below w0.heap.size w0 w
  ap : Apart f w0.heap.size w.heap.size
  c0 : Ch sel w w0.heap.size 2 5 (ns 0) (Ls 0) p0 q0 (f 0)
  c1 : Ch sel w w0.heap.size 6 9 (ns 1) (Ls 1) p1 q1 (f 1)
  c2 : Ch sel w w0.heap.size 10 13 (ns 2) (Ls 2) p2 q2 (f 2)
  c3 : Ch sel w w0.heap.size 14 17 (ns 3) (Ls 3) p3 q3 (f 3)
  bu : (18 ∈ sel → 5 ∈ sel ∧ 9 ∈ sel ∧ 13 ∈ sel ∧ 17 ∈ sel ∧ u = .agg #[.int .i64 k, .slice none 0 0, q0, q1, q2, q3]) ∧ (18 ∉ sel → u = undef)
  al : (19 ∉ sel ∧ f 4 = none ∧ v = undef) ∨ (19 ∈ sel ∧ ∃ g, v = .pointer (some ⟨g, 0, none⟩) ∧ f 4 = some g ∧ w.heap[g]? = some (.cells #[.int .i64 0, .slice none 0 0, .slice none 0 0, .slice none 0 0, .slice none 0 0, .slice none 0 0] 33 (0, 0)))
theorem OwI.b0 {sel : List Nat} {w0 w : World} {ns : Nat → Nat} {Ls : Nat → List Int} {k : Int} {p0 p1 p2 p3 q0 q1 q2 q3 u v : Value} {f : Nat → Option Nat} (h : OwI sel w0 w ns Ls k p0 p1 p2 p3 q0 q1 q2 q3 u v f) (hs : 2 ∉ sel) :
    OwI (sel ++ [2]) w0 (w.alloc (.cells #[] 3)) ns Ls k (.slice (some ⟨w.heap.size, 0, none⟩) 0 0) p1 p2 p3 q0 q1 q2 q3 u v (upd f 0 (some w.heap.size)) := by
  obtain ⟨w', hw, hb, hz, hg⟩ := alloc_facts w (.cells #[] 3)
  rw [hw]
  obtain ⟨n1, n2, n3, n4⟩ := h.c0.isNo hs
  have hgr : w.grownBy w' none := by rw [← hw]; exact own_alloc w _
  have hno : ∀ d g, f d = some g → (none : Option Nat) ≠ some g := fun d g _ e => by cases e
  have hlt : ∀ d g, f d = some g → g < w.heap.size := fun d g e => (h.ap.bd d g e).2
  refine ⟨h.bel.trans (hb.mono h.bel.size), h.ap.new (Nat.le_refl _) h.bel.size (by omega) (by omega), ?_, ?_, ?_, ?_, ?_, ?_⟩
  · rw [upd_same]; exact .on w.heap.size (by simp) (by simp [n1]) rfl n3 rfl hg h.bel.size
  · rw [upd_ne (by decide)]; exact h.c1.keep (by decide) (by decide) hgr (hno 1) (hlt 1)
  · rw [upd_ne (by decide)]; exact h.c2.keep (by decide) (by decide) hgr (hno 2) (hlt 2)
  · rw [upd_ne (by decide)]; exact h.c3.keep (by decide) (by decide) hgr (hno 3) (hlt 3)
  · refine ⟨fun hm => ?_, fun hm => h.bu.2 (fun e => hm (List.mem_append_left _ e))⟩
    have h18 : 18 ∈ sel := by simpa using hm
    have := h.bu.1 h18
    exact absurd this.1 n1
  · rw [upd_ne (by decide)]
    rcases h.al with ⟨h1, h2, h3⟩ | ⟨h1, g, h2, h3, h4⟩
    · exact .inl ⟨by simp [h1], h2, h3⟩
    · exact .inr ⟨by simp [h1], g, h2, h3, (hgr.block g (hlt 4 g h3) (by simp)).trans h4⟩
theorem OwI.a0 {sel : List Nat} {w0 w w' : World} {ns : Nat → Nat} {Ls : Nat → List Int} {k : Int} {p0 p1 p2 p3 q0 q1 q2 q3 u v : Value} {f : Nat → Option Nat} (h : OwI sel w0 w ns Ls k p0 p1 p2 p3 q0 q1 q2 q3 u v f) (hs : 5 ∉ sel) (hbs : 2 ∈ sel) (hl : (Ls 0).length = ns 0) {g0 g cap : Nat} (h0 : f 0 = some g0) (hgr : w.grownBy w' (some g0)) (ho : w'.ownsRow g0 3 1 (.slice (some ⟨g, 0, none⟩) (ns 0) cap) (ns 0) (gc encZ (Ls 0))) (hg : g = g0 ∨ g = w.heap.size) :
    OwI (sel ++ [5]) w0 w' ns Ls k p0 p1 p2 p3 (.slice (some ⟨g, 0, none⟩) (ns 0) cap) q1 q2 q3 u v (upd f 0 (some g)) := by
  obtain ⟨gp, n1, n2, n3, n4, n5⟩ := h.c0.isOn hbs hs
  rw [h0] at n3
  obtain rfl := Option.some.inj n3
  have hno : ∀ d, d ≠ 0 → ∀ x, f d = some x → (some g0 : Option Nat) ≠ some x := fun d hd x hx e => hd (h.ap.inj d 0 x hx (by rw [h0, e]))
  have hlt : ∀ d x, f d = some x → x < w.heap.size := fun d x e => (h.ap.bd d x e).2
  have hbd := h.ap.bd 0 g0 h0
  have hgl := (ho.lt g rfl).2
  have how : OwnI w' w0.heap.size (.slice (some ⟨g, 0, none⟩) (ns 0) cap) (Ls 0) := by
    refine OwnI.mono (B := g0) ?_ hbd.1
    unfold OwnI
    rw [hl]
    exact ho
  refine ⟨h.bel.grown hgr h.bel.size (fun x hx => by have := Option.some.inj hx; omega), h.ap.move h0 hg hgl hgr.size, ?_, ?_, ?_, ?_, ?_, ?_⟩
  · rw [upd_same]; exact .all g0 g cap (by simp [hbs]) (by simp) n1 rfl rfl how
  · rw [upd_ne (by decide)]; exact h.c1.keep (by decide) (by decide) hgr (hno 1 (by decide)) (hlt 1)
  · rw [upd_ne (by decide)]; exact h.c2.keep (by decide) (by decide) hgr (hno 2 (by decide)) (hlt 2)
  · rw [upd_ne (by decide)]; exact h.c3.keep (by decide) (by decide) hgr (hno 3 (by decide)) (hlt 3)
  · refine ⟨fun hm => ?_, fun hm => h.bu.2 (fun e => hm (List.mem_append_left _ e))⟩
    have h18 : 18 ∈ sel := by simpa using hm
    have := h.bu.1 h18
    exact absurd this.1 hs
  · rw [upd_ne (by decide)]
    rcases h.al with ⟨h1, h2, h3⟩ | ⟨h1, x, h2, h3, h4⟩
    · exact .inl ⟨by simp [h1], h2, h3⟩
    · exact .inr ⟨by simp [h1], x, h2, h3, (hgr.block x (hlt 4 x h3) (fun e => hno 4 (by decide) x h3 e.symm)).trans h4⟩
theorem OwI.b1 {sel : List Nat} {w0 w : World} {ns : Nat → Nat} {Ls : Nat → List Int} {k : Int} {p0 p1 p2 p3 q0 q1 q2 q3 u v : Value} {f : Nat → Option Nat} (h : OwI sel w0 w ns Ls k p0 p1 p2 p3 q0 q1 q2 q3 u v f) (hs : 6 ∉ sel) :
    OwI (sel ++ [6]) w0 (w.alloc (.cells #[] 3)) ns Ls k p0 (.slice (some ⟨w.heap.size, 0, none⟩) 0 0) p2 p3 q0 q1 q2 q3 u v (upd f 1 (some w.heap.size)) := by
  obtain ⟨w', hw, hb, hz, hg⟩ := alloc_facts w (.cells #[] 3)
  rw [hw]
  obtain ⟨n1, n2, n3, n4⟩ := h.c1.isNo hs
  have hgr : w.grownBy w' none := by rw [← hw]; exact own_alloc w _
  have hno : ∀ d g, f d = some g → (none : Option Nat) ≠ some g := fun d g _ e => by cases e
  have hlt : ∀ d g, f d = some g → g < w.heap.size := fun d g e => (h.ap.bd d g e).2
  refine ⟨h.bel.trans (hb.mono h.bel.size), h.ap.new (Nat.le_refl _) h.bel.size (by omega) (by omega), ?_, ?_, ?_, ?_, ?_, ?_⟩
  · rw [upd_ne (by decide)]; exact h.c0.keep (by decide) (by decide) hgr (hno 0) (hlt 0)
  · rw [upd_same]; exact .on w.heap.size (by simp) (by simp [n1]) rfl n3 rfl hg h.bel.size
  · rw [upd_ne (by decide)]; exact h.c2.keep (by decide) (by decide) hgr (hno 2) (hlt 2)
  · rw [upd_ne (by decide)]; exact h.c3.keep (by decide) (by decide) hgr (hno 3) (hlt 3)
  · refine ⟨fun hm => ?_, fun hm => h.bu.2 (fun e => hm (List.mem_append_left _ e))⟩
    have h18 : 18 ∈ sel := by simpa using hm
    have := h.bu.1 h18
    exact absurd this.2.1 n1
  · rw [upd_ne (by decide)]
    rcases h.al with ⟨h1, h2, h3⟩ | ⟨h1, g, h2, h3, h4⟩
    · exact .inl ⟨by simp [h1], h2, h3⟩
    · exact .inr ⟨by simp [h1], g, h2, h3, (hgr.block g (hlt 4 g h3) (by simp)).trans h4⟩
theorem OwI.a1 {sel : List Nat} {w0 w w' : World} {ns : Nat → Nat} {Ls : Nat → List Int} {k : Int} {p0 p1 p2 p3 q0 q1 q2 q3 u v : Value} {f : Nat → Option Nat} (h : OwI sel w0 w ns Ls k p0 p1 p2 p3 q0 q1 q2 q3 u v f) (hs : 9 ∉ sel) (hbs : 6 ∈ sel) (hl : (Ls 1).length = ns 1) {g0 g cap : Nat} (h0 : f 1 = some g0) (hgr : w.grownBy w' (some g0)) (ho : w'.ownsRow g0 3 1 (.slice (some ⟨g, 0, none⟩) (ns 1) cap) (ns 1) (gc encZ (Ls 1))) (hg : g = g0 ∨ g = w.heap.size) :
    OwI (sel ++ [9]) w0 w' ns Ls k p0 p1 p2 p3 q0 (.slice (some ⟨g, 0, none⟩) (ns 1) cap) q2 q3 u v (upd f 1 (some g)) := by
  obtain ⟨gp, n1, n2, n3, n4, n5⟩ := h.c1.isOn hbs hs
  rw [h0] at n3
  obtain rfl := Option.some.inj n3
  have hno : ∀ d, d ≠ 1 → ∀ x, f d = some x → (some g0 : Option Nat) ≠ some x := fun d hd x hx e => hd (h.ap.inj d 1 x hx (by rw [h0, e]))
  have hlt : ∀ d x, f d = some x → x < w.heap.size := fun d x e => (h.ap.bd d x e).2
  have hbd := h.ap.bd 1 g0 h0
  have hgl := (ho.lt g rfl).2
  have how : OwnI w' w0.heap.size (.slice (some ⟨g, 0, none⟩) (ns 1) cap) (Ls 1) := by
    refine OwnI.mono (B := g0) ?_ hbd.1
    unfold OwnI
    rw [hl]
    exact ho
  refine ⟨h.bel.grown hgr h.bel.size (fun x hx => by have := Option.some.inj hx; omega), h.ap.move h0 hg hgl hgr.size, ?_, ?_, ?_, ?_, ?_, ?_⟩
  · rw [upd_ne (by decide)]; exact h.c0.keep (by decide) (by decide) hgr (hno 0 (by decide)) (hlt 0)
  · rw [upd_same]; exact .all g0 g cap (by simp [hbs]) (by simp) n1 rfl rfl how
  · rw [upd_ne (by decide)]; exact h.c2.keep (by decide) (by decide) hgr (hno 2 (by decide)) (hlt 2)
  · rw [upd_ne (by decide)]; exact h.c3.keep (by decide) (by decide) hgr (hno 3 (by decide)) (hlt 3)
  · refine ⟨fun hm => ?_, fun hm => h.bu.2 (fun e => hm (List.mem_append_left _ e))⟩
    have h18 : 18 ∈ sel := by simpa using hm
    have := h.bu.1 h18
    exact absurd this.2.1 hs
  · rw [upd_ne (by decide)]
    rcases h.al with ⟨h1, h2, h3⟩ | ⟨h1, x, h2, h3, h4⟩
    · exact .inl ⟨by simp [h1], h2, h3⟩
    · exact .inr ⟨by simp [h1], x, h2, h3, (hgr.block x (hlt 4 x h3) (fun e => hno 4 (by decide) x h3 e.symm)).trans h4⟩
theorem OwI.b2 {sel : List Nat} {w0 w : World} {ns : Nat → Nat} {Ls : Nat → List Int} {k : Int} {p0 p1 p2 p3 q0 q1 q2 q3 u v : Value} {f : Nat → Option Nat} (h : OwI sel w0 w ns Ls k p0 p1 p2 p3 q0 q1 q2 q3 u v f) (hs : 10 ∉ sel) :
    OwI (sel ++ [10]) w0 (w.alloc (.cells #[] 3)) ns Ls k p0 p1 (.slice (some ⟨w.heap.size, 0, none⟩) 0 0) p3 q0 q1 q2 q3 u v (upd f 2 (some w.heap.size)) := by
  obtain ⟨w', hw, hb, hz, hg⟩ := alloc_facts w (.cells #[] 3)
  rw [hw]
  obtain ⟨n1, n2, n3, n4⟩ := h.c2.isNo hs
  have hgr : w.grownBy w' none := by rw [← hw]; exact own_alloc w _
  have hno : ∀ d g, f d = some g → (none : Option Nat) ≠ some g := fun d g _ e => by cases e
  have hlt : ∀ d g, f d = some g → g < w.heap.size := fun d g e => (h.ap.bd d g e).2
  refine ⟨h.bel.trans (hb.mono h.bel.size), h.ap.new (Nat.le_refl _) h.bel.size (by omega) (by omega), ?_, ?_, ?_, ?_, ?_, ?_⟩
  · rw [upd_ne (by decide)]; exact h.c0.keep (by decide) (by decide) hgr (hno 0) (hlt 0)
  · rw [upd_ne (by decide)]; exact h.c1.keep (by decide) (by decide) hgr (hno 1) (hlt 1)
  · rw [upd_same]; exact .on w.heap.size (by simp) (by simp [n1]) rfl n3 rfl hg h.bel.size
  · rw [upd_ne (by decide)]; exact h.c3.keep (by decide) (by decide) hgr (hno 3) (hlt 3)
  · refine ⟨fun hm => ?_, fun hm => h.bu.2 (fun e => hm (List.mem_append_left _ e))⟩
    have h18 : 18 ∈ sel := by simpa using hm
    have := h.bu.1 h18
    exact absurd this.2.2.1 n1
  · rw [upd_ne (by decide)]
    rcases h.al with ⟨h1, h2, h3⟩ | ⟨h1, g, h2, h3, h4⟩
    · exact .inl ⟨by simp [h1], h2, h3⟩
    · exact .inr ⟨by simp [h1], g, h2, h3, (hgr.block g (hlt 4 g h3) (by simp)).trans h4⟩
theorem OwI.a2 {sel : List Nat} {w0 w w' : World} {ns : Nat → Nat} {Ls : Nat → List Int} {k : Int} {p0 p1 p2 p3 q0 q1 q2 q3 u v : Value} {f : Nat → Option Nat} (h : OwI sel w0 w ns Ls k p0 p1 p2 p3 q0 q1 q2 q3 u v f) (hs : 13 ∉ sel) (hbs : 10 ∈ sel) (hl : (Ls 2).length = ns 2) {g0 g cap : Nat} (h0 : f 2 = some g0) (hgr : w.grownBy w' (some g0)) (ho : w'.ownsRow g0 3 1 (.slice (some ⟨g, 0, none⟩) (ns 2) cap) (ns 2) (gc encZ (Ls 2))) (hg : g = g0 ∨ g = w.heap.size) :
    OwI (sel ++ [13]) w0 w' ns Ls k p0 p1 p2 p3 q0 q1 (.slice (some ⟨g, 0, none⟩) (ns 2) cap) q3 u v (upd f 2 (some g)) := by
  obtain ⟨gp, n1, n2, n3, n4, n5⟩ := h.c2.isOn hbs hs
  rw [h0] at n3
  obtain rfl := Option.some.inj n3
  have hno : ∀ d, d ≠ 2 → ∀ x, f d = some x → (some g0 : Option Nat) ≠ some x := fun d hd x hx e => hd (h.ap.inj d 2 x hx (by rw [h0, e]))
  have hlt : ∀ d x, f d = some x → x < w.heap.size := fun d x e => (h.ap.bd d x e).2
  have hbd := h.ap.bd 2 g0 h0
  have hgl := (ho.lt g rfl).2
  have how : OwnI w' w0.heap.size (.slice (some ⟨g, 0, none⟩) (ns 2) cap) (Ls 2) := by
    refine OwnI.mono (B := g0) ?_ hbd.1
    unfold OwnI
    rw [hl]
    exact ho
  refine ⟨h.bel.grown hgr h.bel.size (fun x hx => by have := Option.some.inj hx; omega), h.ap.move h0 hg hgl hgr.size, ?_, ?_, ?_, ?_, ?_, ?_⟩
  · rw [upd_ne (by decide)]; exact h.c0.keep (by decide) (by decide) hgr (hno 0 (by decide)) (hlt 0)
  · rw [upd_ne (by decide)]; exact h.c1.keep (by decide) (by decide) hgr (hno 1 (by decide)) (hlt 1)
  · rw [upd_same]; exact .all g0 g cap (by simp [hbs]) (by simp) n1 rfl rfl how
  · rw [upd_ne (by decide)]; exact h.c3.keep (by decide) (by decide) hgr (hno 3 (by decide)) (hlt 3)
  · refine ⟨fun hm => ?_, fun hm => h.bu.2 (fun e => hm (List.mem_append_left _ e))⟩
    have h18 : 18 ∈ sel := by simpa using hm
    have := h.bu.1 h18
    exact absurd this.2.2.1 hs
  · rw [upd_ne (by decide)]
    rcases h.al with ⟨h1, h2, h3⟩ | ⟨h1, x, h2, h3, h4⟩
    · exact .inl ⟨by simp [h1], h2, h3⟩
    · exact .inr ⟨by simp [h1], x, h2, h3, (hgr.block x (hlt 4 x h3) (fun e => hno 4 (by decide) x h3 e.symm)).trans h4⟩
theorem OwI.b3 {sel : List Nat} {w0 w : World} {ns : Nat → Nat} {Ls : Nat → List Int} {k : Int} {p0 p1 p2 p3 q0 q1 q2 q3 u v : Value} {f : Nat → Option Nat} (h : OwI sel w0 w ns Ls k p0 p1 p2 p3 q0 q1 q2 q3 u v f) (hs : 14 ∉ sel) :
    OwI (sel ++ [14]) w0 (w.alloc (.cells #[] 3)) ns Ls k p0 p1 p2 (.slice (some ⟨w.heap.size, 0, none⟩) 0 0) q0 q1 q2 q3 u v (upd f 3 (some w.heap.size)) := by
  obtain ⟨w', hw, hb, hz, hg⟩ := alloc_facts w (.cells #[] 3)
  rw [hw]
  obtain ⟨n1, n2, n3, n4⟩ := h.c3.isNo hs
  have hgr : w.grownBy w' none := by rw [← hw]; exact own_alloc w _
  have hno : ∀ d g, f d = some g → (none : Option Nat) ≠ some g := fun d g _ e => by cases e
  have hlt : ∀ d g, f d = some g → g < w.heap.size := fun d g e => (h.ap.bd d g e).2
  refine ⟨h.bel.trans (hb.mono h.bel.size), h.ap.new (Nat.le_refl _) h.bel.size (by omega) (by omega), ?_, ?_, ?_, ?_, ?_, ?_⟩
  · rw [upd_ne (by decide)]; exact h.c0.keep (by decide) (by decide) hgr (hno 0) (hlt 0)
  · rw [upd_ne (by decide)]; exact h.c1.keep (by decide) (by decide) hgr (hno 1) (hlt 1)
  · rw [upd_ne (by decide)]; exact h.c2.keep (by decide) (by decide) hgr (hno 2) (hlt 2)
  · rw [upd_same]; exact .on w.heap.size (by simp) (by simp [n1]) rfl n3 rfl hg h.bel.size
  · refine ⟨fun hm => ?_, fun hm => h.bu.2 (fun e => hm (List.mem_append_left _ e))⟩
    have h18 : 18 ∈ sel := by simpa using hm
    have := h.bu.1 h18
    exact absurd this.2.2.2.1 n1
  · rw [upd_ne (by decide)]
    rcases h.al with ⟨h1, h2, h3⟩ | ⟨h1, g, h2, h3, h4⟩
    · exact .inl ⟨by simp [h1], h2, h3⟩
    · exact .inr ⟨by simp [h1], g, h2, h3, (hgr.block g (hlt 4 g h3) (by simp)).trans h4⟩
theorem OwI.a3 {sel : List Nat} {w0 w w' : World} {ns : Nat → Nat} {Ls : Nat → List Int} {k : Int} {p0 p1 p2 p3 q0 q1 q2 q3 u v : Value} {f : Nat → Option Nat} (h : OwI sel w0 w ns Ls k p0 p1 p2 p3 q0 q1 q2 q3 u v f) (hs : 17 ∉ sel) (hbs : 14 ∈ sel) (hl : (Ls 3).length = ns 3) {g0 g cap : Nat} (h0 : f 3 = some g0) (hgr : w.grownBy w' (some g0)) (ho : w'.ownsRow g0 3 1 (.slice (some ⟨g, 0, none⟩) (ns 3) cap) (ns 3) (gc encZ (Ls 3))) (hg : g = g0 ∨ g = w.heap.size) :
    OwI (sel ++ [17]) w0 w' ns Ls k p0 p1 p2 p3 q0 q1 q2 (.slice (some ⟨g, 0, none⟩) (ns 3) cap) u v (upd f 3 (some g)) := by
  obtain ⟨gp, n1, n2, n3, n4, n5⟩ := h.c3.isOn hbs hs
  rw [h0] at n3
  obtain rfl := Option.some.inj n3
  have hno : ∀ d, d ≠ 3 → ∀ x, f d = some x → (some g0 : Option Nat) ≠ some x := fun d hd x hx e => hd (h.ap.inj d 3 x hx (by rw [h0, e]))
  have hlt : ∀ d x, f d = some x → x < w.heap.size := fun d x e => (h.ap.bd d x e).2
  have hbd := h.ap.bd 3 g0 h0
  have hgl := (ho.lt g rfl).2
  have how : OwnI w' w0.heap.size (.slice (some ⟨g, 0, none⟩) (ns 3) cap) (Ls 3) := by
    refine OwnI.mono (B := g0) ?_ hbd.1
    unfold OwnI
    rw [hl]
    exact ho
  refine ⟨h.bel.grown hgr h.bel.size (fun x hx => by have := Option.some.inj hx; omega), h.ap.move h0 hg hgl hgr.size, ?_, ?_, ?_, ?_, ?_, ?_⟩
  · rw [upd_ne (by decide)]; exact h.c0.keep (by decide) (by decide) hgr (hno 0 (by decide)) (hlt 0)
  · rw [upd_ne (by decide)]; exact h.c1.keep (by decide) (by decide) hgr (hno 1 (by decide)) (hlt 1)
  · rw [upd_ne (by decide)]; exact h.c2.keep (by decide) (by decide) hgr (hno 2 (by decide)) (hlt 2)
  · rw [upd_same]; exact .all g0 g cap (by simp [hbs]) (by simp) n1 rfl rfl how
  · refine ⟨fun hm => ?_, fun hm => h.bu.2 (fun e => hm (List.mem_append_left _ e))⟩
    have h18 : 18 ∈ sel := by simpa using hm
    have := h.bu.1 h18
    exact absurd this.2.2.2.1 hs
  · rw [upd_ne (by decide)]
    rcases h.al with ⟨h1, h2, h3⟩ | ⟨h1, x, h2, h3, h4⟩
    · exact .inl ⟨by simp [h1], h2, h3⟩
    · exact .inr ⟨by simp [h1], x, h2, h3, (hgr.block x (hlt 4 x h3) (fun e => hno 4 (by decide) x h3 e.symm)).trans h4⟩
theorem OwI.bd {sel : List Nat} {w0 w : World} {ns : Nat → Nat} {Ls : Nat → List Int} {k : Int} {p0 p1 p2 p3 q0 q1 q2 q3 u v : Value} {f : Nat → Option Nat} (h : OwI sel w0 w ns Ls k p0 p1 p2 p3 q0 q1 q2 q3 u v f) (h0 : 5 ∈ sel) (h1 : 9 ∈ sel) (h2 : 13 ∈ sel) (h3 : 17 ∈ sel) :
    OwI (sel ++ [18]) w0 w ns Ls k p0 p1 p2 p3 q0 q1 q2 q3 (.agg #[.int .i64 k, .slice none 0 0, q0, q1, q2, q3]) v f := by
  have hgr : w.grownBy w none := ⟨rfl, rfl, rfl, Nat.le_refl _, fun _ _ _ => rfl⟩
  have hno : ∀ d g, f d = some g → (none : Option Nat) ≠ some g := fun d g _ e => by cases e
  have hlt : ∀ d g, f d = some g → g < w.heap.size := fun d g e => (h.ap.bd d g e).2
  refine ⟨h.bel, h.ap, h.c0.keep (by decide) (by decide) hgr (hno 0) (hlt 0), h.c1.keep (by decide) (by decide) hgr (hno 1) (hlt 1), h.c2.keep (by decide) (by decide) hgr (hno 2) (hlt 2), h.c3.keep (by decide) (by decide) hgr (hno 3) (hlt 3), ⟨fun _ => ⟨List.mem_append_left _ h0, List.mem_append_left _ h1, List.mem_append_left _ h2, List.mem_append_left _ h3, rfl⟩, fun hm => absurd (List.mem_append_right sel (List.mem_singleton.2 rfl)) hm⟩, ?_⟩
  rcases h.al with ⟨h1, h2, h3⟩ | ⟨h1, g, h2, h3, h4⟩
  · exact .inl ⟨by simp [h1], h2, h3⟩
  · exact .inr ⟨by simp [h1], g, h2, h3, h4⟩
theorem OwI.al19 {sel : List Nat} {w0 w : World} {ns : Nat → Nat} {Ls : Nat → List Int} {k : Int} {p0 p1 p2 p3 q0 q1 q2 q3 u v : Value} {f : Nat → Option Nat} (h : OwI sel w0 w ns Ls k p0 p1 p2 p3 q0 q1 q2 q3 u v f) :
    OwI (sel ++ [19]) w0 (w.alloc (.cells #[.int .i64 0, .slice none 0 0, .slice none 0 0, .slice none 0 0, .slice none 0 0, .slice none 0 0] 33)) ns Ls k p0 p1 p2 p3 q0 q1 q2 q3 u (.pointer (some ⟨w.heap.size, 0, none⟩)) (upd f 4 (some w.heap.size)) := by
  obtain ⟨w', hw, hb, hz, hg⟩ := alloc_facts w (.cells #[.int .i64 0, .slice none 0 0, .slice none 0 0, .slice none 0 0, .slice none 0 0, .slice none 0 0] 33)
  rw [hw]
  have hgr : w.grownBy w' none := by rw [← hw]; exact own_alloc w _
  have hno : ∀ d g, f d = some g → (none : Option Nat) ≠ some g := fun d g _ e => by cases e
  have hlt : ∀ d g, f d = some g → g < w.heap.size := fun d g e => (h.ap.bd d g e).2
  refine ⟨h.bel.trans (hb.mono h.bel.size), h.ap.new (Nat.le_refl _) h.bel.size (by omega) (by omega), ?_, ?_, ?_, ?_, ⟨fun hm => ?_, fun hm => h.bu.2 (fun e => hm (List.mem_append_left _ e))⟩, .inr ⟨by simp, _, rfl, upd_same _ _ _, hg⟩⟩
  · rw [upd_ne (by decide)]; exact h.c0.keep (by decide) (by decide) hgr (hno 0) (hlt 0)
  · rw [upd_ne (by decide)]; exact h.c1.keep (by decide) (by decide) hgr (hno 1) (hlt 1)
  · rw [upd_ne (by decide)]; exact h.c2.keep (by decide) (by decide) hgr (hno 2) (hlt 2)
  · rw [upd_ne (by decide)]; exact h.c3.keep (by decide) (by decide) hgr (hno 3) (hlt 3)
  · obtain ⟨e1, e2, e3, e4, e5⟩ := h.bu.1 (by simpa using hm)
    exact ⟨List.mem_append_left _ e1, List.mem_append_left _ e2, List.mem_append_left _ e3, List.mem_append_left _ e4, e5⟩
end Go.Proofs.Ytnikbcljonbpcaa
