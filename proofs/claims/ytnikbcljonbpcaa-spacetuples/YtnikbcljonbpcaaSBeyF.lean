/-
  A selection anew, some of whose numbers are put anew; and whether a selection has many points. Conditions: lengths are such as memory bears.
-/
import Derived.Test.YtnikbcljonbpcaaSOwn
import Derived.Test.YtnikbcljonbpcaaSBeyM
namespace Go.Proofs.Ytnikbcljonbpcaa
open Go.RowKit Go.Shelf
set_option linter.unusedVariables false
set_option maxRecDepth 100000

/-- It answers one way or the other; where no, there are few points. -/
def GrL (n : Nat) (e : Ending) : Prop := ∃ b : Bool, e = .returned (.bool b) ∧ (b = false → n ≤ 30000)
set_option maxHeartbeats 4000000 in
theorem great_le (s : Sel) (V : SV) (w : World) (hS : Ss w V s) : Calls Try.prog 12 #[selV s.kind V] w fun e w' => GrL s.pts.length e ∧ Below w.heap.size w w' := by
  have HP : Hid (Iss w V.p s.pts) := hS.p
  obtain ⟨a0, n0, c0, a1, n1, c1, a2, n2, c2, a3, n3, c3, a4, n4, c4, e, hV⟩ := selV_open hS
  rw [hV] at HP
  have HPO : Hid (Iss w (.slice a0 n0 c0) s.pts) := HP.out
  obtain ⟨_, _, _, e9, hl, hc, hb⟩ := HPO.out.open
  injection e9 with e1 e2 e3
  subst e1 e2 e3
  have HL : Hid (s.pts.length = n0) := hl
  obtain ⟨W1, hW1, hb1, hz1, b0, b1, b2, b3, b4, b5⟩ := box_sel w s.kind (.slice a0 n0 c0) (.slice a1 n1 c1) (.slice a2 n2 c2) (.slice a3 n3 c3) (.slice a4 n4 c4)
  have HB1 : Hid (Below w.heap.size w W1) := hb1
  rw [e]
  clear hS HP hb1 e hV hl
  go_enter Try.func12, Try.ntmps12
  go_wp2_with fail
  go_loopw [4, 3] (fun x y wr => ∃ (i : Nat) (m : Int), i ≤ n0 ∧ x = .int .i64 (i : Int) ∧ y = .int .i64 m ∧ (n0 : Int) ≤ m ∧ m ≤ 5864062044634 ∧ Hid (Below W1.heap.size W1 wr)) (fun x _ _ => n0 - (intOf x).toNat)
  case atStart => exact ⟨0, (n0 : Int), Nat.zero_le _, rfl, rfl, by omega, by omega, Below.refl _ _⟩
  case round =>
    obtain ⟨i, m, hin, rfl, rfl, hm0, hm1, HB⟩ := hrel
    have q1 := (HB.out.cell (World.block_lt_of_cell? W1 _ b1)).trans b1
    by_cases hlt : i < n0
    · obtain ⟨g, o, l, u, k, c, rfl, _, _, _, hk, hcell, _⟩ := ((HPO.out.below HB1.out).below HB.out).at hlt
      have hili : (i : Int) < (n0 : Int) := by omega
      have hw : IntKind.i64.wrap (m + (k : Int)) = m + (k : Int) := wrap_i64_in _ (by omega) (by omega)
      by_cases hbig : 30000 < m + (k : Int)
      · have e1 : decide (30000 < m + (k : Int)) = true := by simpa using hbig
        go_wp2_with fail
        go_ret
        exact ⟨⟨true, rfl, fun h => (by cases h)⟩, HB1.out.trans (HB.out.mono HB1.out.size)⟩
      · have e1 : decide (30000 < m + (k : Int)) = false := by simpa using hbig
        have hge : (n0 : Int) ≤ m + (k : Int) := by omega
        have hle : m + (k : Int) ≤ 5864062044634 := by omega
        go_wp2_with fail
        go_roundw
        case rel => exact ⟨i + 1, m + (k : Int), by omega, by simp, rfl, hge, hle, HB.out⟩
        case measure => simp [intOf]; omega
    · by_cases hbig : 30000 < m
      · have e1 : decide (30000 < m) = true := by simpa using hbig
        go_wp2_with fail
        go_ret
        exact ⟨⟨_, rfl, fun h => (by cases h)⟩, HB1.out.trans (HB.out.mono HB1.out.size)⟩
      · have e1 : decide (30000 < m) = false := by simpa using hbig
        have HLE : Hid (s.pts.length ≤ 30000) := by rw [Hid, HL.out]; omega
        go_wp2_with fail
        go_ret
        exact ⟨⟨_, rfl, fun _ => HLE.out⟩, HB1.out.trans (HB.out.mono HB1.out.size)⟩
/-- A selection anew, with its places named. -/
structure OwnF (w : World) (B M : Nat) (s : Sel) (pv : Value) (n1 n2 n3 n4 g1 d1 g2 d2 g3 d3 g4 d4 : Nat) : Prop where
  ln : s.st.length = n1 ∧ s.sd.length = n2 ∧ s.ct.length = n3 ∧ s.bl.length = n4
  fo : Four w B M n1 n2 n3 n4 g1 d1 g2 d2 g3 d3 g4 d4 s.st s.sd s.ct s.bl
  pt : RwP w M pv s.pts
  mb : B ≤ M ∧ M ≤ w.heap.size
theorem own_stored {w : World} {B g n cap : Nat} {l : List Int} (h : OwnI w B (.slice (some ⟨g, 0, none⟩) n cap) l) (hl : l.length = n) (j : Nat) (u : Int) :
    OwnI (w.setCell ⟨g, j, none⟩ (.int .i64 u)) B (.slice (some ⟨g, 0, none⟩) n cap) (l.set j u) := by
  have h' : w.ownsRow B 3 1 (.slice (some ⟨g, 0, none⟩) n cap) n (gc encZ l) := by have := h; unfold OwnI at this; rwa [hl] at this
  obtain ⟨h1, h2⟩ := h'.stored j (.int .i64 u)
  unfold OwnI
  rw [List.length_set, hl]
  have e : gc encZ (l.set j u) = (gc encZ l).set j (.int .i64 u) := by
    apply List.ext_getElem?
    intro i
    rw [gcZ_at, List.getElem?_set, List.getElem?_set, gcZ_at, gc_length encZ1]
    by_cases e : j = i
    · subst e; simp only [if_pos]; split <;> simp_all
    · rw [if_neg e, if_neg e]
  rw [e]; exact h1
theorem own_at {w : World} {B g n cap : Nat} {l : List Int} (h : OwnI w B (.slice (some ⟨g, 0, none⟩) n cap) l) (hl : l.length = n) (j : Nat) {x : Int} (hx : l[j]? = some x) : w.cell? ⟨g, j, none⟩ = some (.int .i64 x) ∧ w.frozen? ⟨g, j, none⟩ = false ∧ B ≤ g ∧ g < w.heap.size ∧ n ≤ cap := by
  have h' : w.ownsRow B 3 1 (.slice (some ⟨g, 0, none⟩) n cap) n (gc encZ l) := by have := h; unfold OwnI at this; rwa [hl] at this
  have hj := (List.getElem?_eq_some_iff.1 hx).1
  refine ⟨?_, h'.frozenAt j, (h'.lt g rfl).1, (h'.lt g rfl).2, ?_⟩
  · rw [h'.cellAt j (by omega), gcZ_at, hx]; rfl
  · obtain ⟨_, ⟨e, _⟩ | ⟨g', cap', cur, e, _, _, hle, _⟩⟩ := h'
    · cases e
    · injection e with _ _ e
      omega
theorem OwnF.below {w w' : World} {B M : Nat} {s : Sel} {pv : Value} {n1 n2 n3 n4 g1 d1 g2 d2 g3 d3 g4 d4 : Nat} (h : OwnF w B M s pv n1 n2 n3 n4 g1 d1 g2 d2 g3 d3 g4 d4) (hb : Below w.heap.size w w') : OwnF w' B M s pv n1 n2 n3 n4 g1 d1 g2 d2 g3 d3 g4 d4 :=
  ⟨h.ln, h.fo.bel (hb.mono h.mb.2), h.pt.below hb, h.mb.1, Nat.le_trans h.mb.2 hb.size⟩
theorem OwnF.ss {w : World} {B M : Nat} {s : Sel} {pv : Value} {n1 n2 n3 n4 g1 d1 g2 d2 g3 d3 g4 d4 : Nat} (h : OwnF w B M s pv n1 n2 n3 n4 g1 d1 g2 d2 g3 d3 g4 d4) (hk : I64 s.kind) (hp : s.pts.length ≤ 30000) (h1 : s.st.length ≤ 17592186043904) (h2 : s.sd.length ≤ 17592186043904) (h3 : s.ct.length ≤ 17592186043904) (h4 : s.bl.length ≤ 17592186043904) (i1 : ∀ x ∈ s.st, I64 x) (i2 : ∀ x ∈ s.sd, I64 x) (i3 : ∀ x ∈ s.ct, I64 x) (i4 : ∀ x ∈ s.bl, I64 x) :
    Ss w ⟨pv, .slice (some ⟨g1, 0, none⟩) n1 d1, .slice (some ⟨g2, 0, none⟩) n2 d2, .slice (some ⟨g3, 0, none⟩) n3 d3, .slice (some ⟨g4, 0, none⟩) n4 d4⟩ s :=
  ⟨hk, h.pt.iss (by omega), h.fo.a.is h1 i1, h.fo.b.is h2 i2, h.fo.c.is h3 i3, h.fo.d.is h4 i4⟩
theorem set_grown (w : World) (g j : Nat) (v : Value) : w.grownBy (w.setCell ⟨g, j, none⟩ v) (some g) := gset (World.grownBy.refl _ _) _ _
theorem some_ne {a b : Nat} (h : a ≠ b) : (some a : Option Nat) ≠ some b := fun e => h (Option.some.inj e)
theorem OwnF.setSt {w : World} {B M : Nat} {s : Sel} {pv : Value} {n1 n2 n3 n4 g1 d1 g2 d2 g3 d3 g4 d4 : Nat} (h : OwnF w B M s pv n1 n2 n3 n4 g1 d1 g2 d2 g3 d3 g4 d4) (j : Nat) (x : Int) : OwnF (w.setCell ⟨g1, j, none⟩ (.int .i64 x)) B M { s with st := s.st.set j x } pv n1 n2 n3 n4 g1 d1 g2 d2 g3 d3 g4 d4 := by
  obtain ⟨e1, e2, e3, e4, e5, e6⟩ := h.fo.ne
  have hg := set_grown w g1 j (.int .i64 x)
  exact ⟨⟨by rw [List.length_set]; exact h.ln.1, h.ln.2⟩, ⟨own_stored h.fo.a h.ln.1 j x, own_grown h.fo.b hg (some_ne e1), own_grown h.fo.c hg (some_ne e2), own_grown h.fo.d hg (some_ne e3), h.fo.lt, h.fo.ne⟩, h.pt.grown hg (fun k hk => by have := Option.some.inj hk; have := h.fo.lt.1; omega), h.mb.1, Nat.le_trans h.mb.2 hg.size⟩
theorem OwnF.setSd {w : World} {B M : Nat} {s : Sel} {pv : Value} {n1 n2 n3 n4 g1 d1 g2 d2 g3 d3 g4 d4 : Nat} (h : OwnF w B M s pv n1 n2 n3 n4 g1 d1 g2 d2 g3 d3 g4 d4) (j : Nat) (x : Int) : OwnF (w.setCell ⟨g2, j, none⟩ (.int .i64 x)) B M { s with sd := s.sd.set j x } pv n1 n2 n3 n4 g1 d1 g2 d2 g3 d3 g4 d4 := by
  obtain ⟨e1, e2, e3, e4, e5, e6⟩ := h.fo.ne
  have hg := set_grown w g2 j (.int .i64 x)
  exact ⟨⟨h.ln.1, by rw [List.length_set]; exact h.ln.2.1, h.ln.2.2⟩, ⟨own_grown h.fo.a hg (some_ne e1.symm), own_stored h.fo.b h.ln.2.1 j x, own_grown h.fo.c hg (some_ne e4), own_grown h.fo.d hg (some_ne e5), h.fo.lt, h.fo.ne⟩, h.pt.grown hg (fun k hk => by have := Option.some.inj hk; have := h.fo.lt.2.1; omega), h.mb.1, Nat.le_trans h.mb.2 hg.size⟩
theorem OwnF.setCt {w : World} {B M : Nat} {s : Sel} {pv : Value} {n1 n2 n3 n4 g1 d1 g2 d2 g3 d3 g4 d4 : Nat} (h : OwnF w B M s pv n1 n2 n3 n4 g1 d1 g2 d2 g3 d3 g4 d4) (j : Nat) (x : Int) : OwnF (w.setCell ⟨g3, j, none⟩ (.int .i64 x)) B M { s with ct := s.ct.set j x } pv n1 n2 n3 n4 g1 d1 g2 d2 g3 d3 g4 d4 := by
  obtain ⟨e1, e2, e3, e4, e5, e6⟩ := h.fo.ne
  have hg := set_grown w g3 j (.int .i64 x)
  exact ⟨⟨h.ln.1, h.ln.2.1, by rw [List.length_set]; exact h.ln.2.2.1, h.ln.2.2.2⟩, ⟨own_grown h.fo.a hg (some_ne e2.symm), own_grown h.fo.b hg (some_ne e4.symm), own_stored h.fo.c h.ln.2.2.1 j x, own_grown h.fo.d hg (some_ne e6), h.fo.lt, h.fo.ne⟩, h.pt.grown hg (fun k hk => by have := Option.some.inj hk; have := h.fo.lt.2.2.1; omega), h.mb.1, Nat.le_trans h.mb.2 hg.size⟩
theorem OwnF.setBl {w : World} {B M : Nat} {s : Sel} {pv : Value} {n1 n2 n3 n4 g1 d1 g2 d2 g3 d3 g4 d4 : Nat} (h : OwnF w B M s pv n1 n2 n3 n4 g1 d1 g2 d2 g3 d3 g4 d4) (j : Nat) (x : Int) : OwnF (w.setCell ⟨g4, j, none⟩ (.int .i64 x)) B M { s with bl := s.bl.set j x } pv n1 n2 n3 n4 g1 d1 g2 d2 g3 d3 g4 d4 := by
  obtain ⟨e1, e2, e3, e4, e5, e6⟩ := h.fo.ne
  have hg := set_grown w g4 j (.int .i64 x)
  exact ⟨⟨h.ln.1, h.ln.2.1, h.ln.2.2.1, by rw [List.length_set]; exact h.ln.2.2.2⟩, ⟨own_grown h.fo.a hg (some_ne e3.symm), own_grown h.fo.b hg (some_ne e5.symm), own_grown h.fo.c hg (some_ne e6.symm), own_stored h.fo.d h.ln.2.2.2 j x, h.fo.lt, h.fo.ne⟩, h.pt.grown hg (fun k hk => by have := Option.some.inj hk; have := h.fo.lt.2.2.2; omega), h.mb.1, Nat.le_trans h.mb.2 hg.size⟩
theorem OwnS.open {w : World} {B : Nat} {s : Sel} {v : Value} (h : OwnS w B s v) : ∃ M pv g1 d1 g2 d2 g3 d3 g4 d4, v = .agg #[.int .i64 s.kind, pv, .slice (some ⟨g1, 0, none⟩) s.st.length d1, .slice (some ⟨g2, 0, none⟩) s.sd.length d2, .slice (some ⟨g3, 0, none⟩) s.ct.length d3, .slice (some ⟨g4, 0, none⟩) s.bl.length d4] ∧ OwnF w B M s pv s.st.length s.sd.length s.ct.length s.bl.length g1 d1 g2 d2 g3 d3 g4 d4 := by
  obtain ⟨M, pv, g1, d1, g2, d2, g3, d3, g4, d4, rfl, h1, h2, h3⟩ := h
  exact ⟨M, pv, g1, d1, g2, d2, g3, d3, g4, d4, rfl, ⟨rfl, rfl, rfl, rfl⟩, h1, h2, h3⟩
end Go.Proofs.Ytnikbcljonbpcaa
