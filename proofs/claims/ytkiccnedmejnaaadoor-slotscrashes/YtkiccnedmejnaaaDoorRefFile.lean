/-
  The document's file in memory, as File has the program's; the document's Of; alike holds a file against its model. Conditions: those of lengths.
-/
import Derived.Test.YtkiccnedmejnaaaDoorTxts
namespace Go.Proofs.YtkiccnedmejnaaaDoor
open Go.RowKit
set_option linter.unusedVariables false
set_option maxRecDepth 100000

/-- The document's file. -/
def rcs (F : Mdl) (vb vr : Value) : Array Value := #[vb, .int .i64 F.most, .bool F.off, .bool F.pl, .int .i64 F.left, vr]
structure RF (w : World) (B p : Nat) (F : Mdl) (vb vr : Value) (rv : List RawV) : Prop where
  cells : w.heap[p]? = some (.cells (rcs F vb vr) 57 (0, 0))
  hold : Hold w B p 97 vb vr F.bs rv
  rs : F.rs = plain rv
  fit : F.fit
theorem RF.cell {w : World} {B p : Nat} {F : Mdl} {vb vr : Value} {rv : List RawV} (h : RF w B p F vb vr rv) (i : Nat) : w.cell? ⟨p, i, none⟩ = (rcs F vb vr)[i]? := by
  simp [World.cell?, h.cells]
theorem RF.free {w : World} {B p : Nat} {F : Mdl} {vb vr : Value} {rv : List RawV} (h : RF w B p F vb vr rv) (i : Nat) : w.frozen? ⟨p, i, none⟩ = false := by
  simp [World.frozen?, h.cells]
theorem RF.chg {S : Nat → Prop} {w w' : World} {B p : Nat} {F : Mdl} {vb vr : Value} {rv : List RawV} (h : RF w B p F vb vr rv) (hc : Chg S w w')
    (h1 : ∀ k, Foot p vb vr k → ¬ S k) (h2 : ∀ k, Inn rv k → ¬ S k) : RF w' B p F vb vr rv :=
  ⟨(hc.block p h.hold.plt (h1 p (.inl rfl))).trans h.cells, h.hold.chg hc h1 h2, h.rs, h.fit⟩
theorem RF.below {w w' : World} {B p : Nat} {F : Mdl} {vb vr : Value} {rv : List RawV} (h : RF w B p F vb vr rv) (hc : Below w.heap.size w w') : RF w' B p F vb vr rv :=
  h.chg (Chg.of_below (S := fun _ => False) hc) (fun _ _ => id) (fun _ _ => id)
theorem RF.shape {w : World} {B p : Nat} {F : Mdl} {vb vr : Value} {rv : List RawV} (h : RF w B p F vb vr rv) :
    ∃ ab cb ar cr, vb = .slice ab F.bs.length cb ∧ F.bs.length ≤ cb ∧ vr = .slice ar rv.length cr := by
  obtain ⟨ao, cap, e, hc, _⟩ := h.hold.own.opened
  obtain ⟨_, ⟨e2, h0⟩ | ⟨g, cap2, cur, e2, _⟩⟩ := h.hold.raws
  · exact ⟨ao, cap, none, 0, e, hc, by rw [e2, h0]⟩
  · exact ⟨ao, cap, some ⟨g, 0, none⟩, cap2, e, hc, e2⟩
theorem RF.put {w : World} {B p : Nat} {F F' : Mdl} {vb vr : Value} {rv : List RawV} (h : RF w B p F vb vr rv) (i : Nat) (u : Value) (hb : F'.bs = F.bs) (hr : F'.rs = F.rs) (hfit : F'.fit)
    (hc : (rcs F vb vr).set! i u = rcs F' vb vr) : RF (w.setCell ⟨p, i, none⟩ u) B p F' vb vr rv := by
  refine ⟨?_, ?_, hr.trans h.rs, hfit⟩
  · rw [heap_setCell_same w p i _ _ u h.cells]
    rw [← hc]; simp
  · rw [hb]
    exact h.hold.self (Chg.cell w p i u)
theorem RF.put2 {w : World} {B p : Nat} {F F' : Mdl} {vb vr : Value} {rv : List RawV} (h : RF w B p F vb vr rv) (i j : Nat) (u v : Value) (hb : F'.bs = F.bs) (hr : F'.rs = F.rs) (hfit : F'.fit)
    (hc : ((rcs F vb vr).set! i u).set! j v = rcs F' vb vr) : RF ((w.setCell ⟨p, i, none⟩ u).setCell ⟨p, j, none⟩ v) B p F' vb vr rv := by
  refine ⟨?_, ?_, hr.trans h.rs, hfit⟩
  · rw [heap_setCell_twice w p i j u v _ _ h.cells, hc]
  · rw [hb]
    exact h.hold.self ((Chg.cell w p i u).next (Chg.cell _ p j v))

theorem refOf_none (ao : Option Addr) (n cap : Nat) (most : Int) (w : World) (h : most < 0 ∨ 4194304 < most ∨ most < (n : Int)) :
    Calls Tryd.prog 20 #[.slice ao n cap, .int .i64 most] w fun e w' => e = .returned (.pointer none) ∧ w' = w := by
  go_enter Tryd.func20, Tryd.ntmps20
  by_cases h1 : most < 0
  · go_wp2
    go_ret
    exact ⟨rfl, rfl⟩
  · by_cases h2 : 4194304 < most
    · go_wp2
      go_ret
      exact ⟨rfl, rfl⟩
    · have h3 : most < (n : Int) := by omega
      clear h
      go_wp2
      go_ret
      exact ⟨rfl, rfl⟩
theorem refOf_some (v : Value) (b : List Int) (most : Int) (w : World) (hb : Bs w v b) (h1 : 0 ≤ most) (h2 : most ≤ 4194304) (h3 : (b.length : Int) ≤ most) :
    Calls Tryd.prog 20 #[v, .int .i64 most] w fun e w' => ∃ p vb, e = .returned (.pointer (some ⟨p, 0, none⟩)) ∧ RF w' w.heap.size p (newM b most) vb (.slice none 0 0) [] ∧ Below w.heap.size w w' := by
  obtain ⟨i0, hi, hz0, hz1, hz2⟩ := info_parts Tryd.info5
  have HB : Hid (Bs w v b) := hb
  obtain ⟨ao, cap, rfl, hc, _⟩ := hb
  go_enter Tryd.func20, Tryd.ntmps20
  go_wp2_with (at_builtin; refine wpList_append_bytes _ rfl (.tmp 17) (.tmp 18) 25 rfl i0 Tryd.underlying25 hi hz0 hz1 hz2 w.heap.size _ _ [] b rfl rfl (Own.empty _ _ (Nat.le_refl _)) (HB.out.below ((Below.refl _ w).alloc (Nat.le_refl _) _)) (by simp; omega) w ((Below.refl _ w).alloc (Nat.le_refl _) _) (by simp) ?_; intro ao1 cap1 w1 ho1 hb1 _ hc1; simp only [List.length_nil, Nat.zero_add, List.nil_append] at ho1 hc1; have HO1 : Hid (Own w1 w.heap.size (.slice ao1 b.length cap1) b) := ho1; have HB1 : Hid (Below w.heap.size w w1) := hb1; clear ho1 hb1; simp only [List.length_nil, Nat.zero_add])
  go_ret
  refine ⟨w1.heap.size, .slice ao1 b.length cap1, rfl, ⟨?_, ⟨HB1.out.size, by simp, HO1.out.alloc _, World.ownsRow_nil _ _ _ _, ?_, ?_, ?_, ?_, ?_, ?_⟩, rfl, ⟨h1, h2, h3, by simp [newM], by simp [newM]⟩⟩, HB1.out.alloc HB1.out.size _⟩
  · exact heap_alloc_new w1 _
  · intro e; have := (World.ownsRow.lt HO1.out _ e).2; omega
  · simp [Value.ownBlock]
  · intro g _; simp [Value.ownBlock]
  · intro r hr; simp at hr
  · rintro k ⟨r, hr, _⟩; simp at hr
  · rintro k ⟨r, hr, _⟩; simp at hr

/-- A row of raw writes in memory, cell by cell. -/
theorem row_open {w : World} {B : Nat} {te : TypeId} {v : Value} {rv : List RawV} {n : Nat} (h : w.ownsRow B te 2 v rv.length (rcells rv)) (hn : rv.length = n) :
    ∃ ao cap, v = .slice ao n cap ∧ n ≤ cap ∧ ∀ k r, rv[k]? = some r → ∃ g, ao = some ⟨g, 0, none⟩ ∧ w.cell? ⟨g, k * 2, none⟩ = some (.int .i64 r.1) ∧ w.cell? ⟨g, k * 2 + 1, none⟩ = some r.2.2 := by
  have h' := h
  obtain ⟨_, ⟨rfl, h0⟩ | ⟨g, cap, cur, rfl, hB, hg, hle, hm, hs, ht⟩⟩ := h
  · refine ⟨none, 0, by rw [← hn, h0], by omega, fun k r hr => ?_⟩
    have := (List.getElem?_eq_some_iff.1 hr).1
    omega
  · refine ⟨some ⟨g, 0, none⟩, cap, by rw [hn], by omega, fun k r hr => ⟨g, rfl, ?_⟩⟩
    obtain ⟨c1, c2⟩ := rcells_at rv k r hr
    have e1 := World.ownsRow.cells h' (g := g) rfl _ _ c1
    have e2 := World.ownsRow.cells h' (g := g) rfl _ _ c2
    rw [addr_add, Nat.zero_add, show 2 * k = k * 2 by omega] at e1
    rw [addr_add, Nat.zero_add, show 2 * k = k * 2 by omega] at e2
    exact ⟨e1, e2⟩

end Go.Proofs.YtkiccnedmejnaaaDoor
