/-
  The program's Places: the closure that goes through a type, at a number. Conditions: the places so far are the call's own.
-/
import Derived.Test.YtojcokdfplldbaaDPlM
namespace Go.Proofs.Ytojcokdfplldbaa
open Go.RowKit Go.Shelf
set_option linter.unusedVariables false
set_option maxRecDepth 100000

theorem Try.infoPl : ∃ i, Try.prog.info? 46 = some i ∧ i.zero = some (.agg #[.int .i64 0, .int .i64 0, .int .i64 0, .bool false]) ∧ i.size = 4 ∧ i.bytes = 32 := by
  refine ⟨_, rfl, ?_⟩
  exact ⟨by kernel_rfl, by kernel_rfl, by kernel_rfl⟩
def encP (p : Pl) : List Value := [.int .i64 p.a, .int .i64 p.c, .int .i64 p.w, .bool p.b]
theorem encP_len (p : Pl) : (encP p).length = 4 := rfl
/-- The cell of the places so far, and they. -/
structure PS (w : World) (pp B : Nat) (v : Value) (L : List Pl) : Prop where
  cell : w.cell? ⟨pp, 0, none⟩ = some v
  free : w.frozen? ⟨pp, 0, none⟩ = false
  own : w.ownsRow B 46 4 v L.length (gc encP L)
  lt : pp < B
/-- What a call turns: the cell, and the row that it held. -/
structure Mv (w w' : World) (pp : Nat) (v v' : Value) : Prop where
  kp : Kp (fun x => x = pp ∨ v.ownBlock = some x) w w'
  nw : ∀ g, v'.ownBlock = some g → v.ownBlock = some g ∨ w.heap.size ≤ g
theorem Mv.refl (w : World) (pp : Nat) (v : Value) : Mv w w pp v v := ⟨Kp.refl _ _, fun g h => .inl h⟩
theorem Mv.trans {w w1 w2 : World} {pp : Nat} {v v1 v2 : Value} (h : Mv w w1 pp v v1) (k : Mv w1 w2 pp v1 v2) : Mv w w2 pp v v2 :=
  ⟨h.kp.trans k.kp (fun x hx hG => hG.elim .inl (fun e => (h.nw x e).elim .inr (fun e2 => absurd hx (by omega)))), fun g hg => (k.nw g hg).elim (h.nw g) (fun e => .inr (Nat.le_trans h.kp.size e))⟩
theorem Mv.of {w w1 : World} {pp : Nat} {v : Value} (h : Below w.heap.size w w1) : Mv w w1 pp v v := ⟨Kp.of h, fun g hg => .inl hg⟩
theorem PS.lts {w : World} {pp B : Nat} {v : Value} {L : List Pl} (h : PS w pp B v L) : ∀ g, v.ownBlock = some g → B ≤ g ∧ g < w.heap.size := fun g hg => World.ownsRow.lt h.own g hg
theorem PS.below {w w1 : World} {pp B : Nat} {v : Value} {L : List Pl} (h : PS w pp B v L) (hb : Below w.heap.size w w1) : PS w1 pp B v L :=
  ⟨(hb.cell (World.block_lt_of_cell? w _ h.cell)).trans h.cell, (hb.frozen (p := ⟨pp, 0, none⟩) (World.block_lt_of_cell? w _ h.cell)).trans h.free, ownsRow_below h.own hb, h.lt⟩
/-- What was there ahead of all of it has not turned. -/
theorem Mv.below0 {w0 w w1 : World} {pp B : Nat} {v v' : Value} {L : List Pl} (m : Mv w w1 pp v v') (hs : PS w pp B v L) (hb : Below w0.heap.size w0 w) (hp : w0.heap.size ≤ pp) : Below w0.heap.size w0 w1 :=
  hb.trans (m.kp.below hb.size (fun x e => e.elim (fun e => by omega) (fun e => by have := (hs.lts x e).1; have := hs.lt; omega)))
def PlC (w : World) (pw pp : Nat) : Prop := w.cell? ⟨pw, 0, none⟩ = some (.func (.func 32) #[] #[.pointer (some ⟨pw, 0, none⟩), .pointer (some ⟨pp, 0, none⟩)])
theorem PlC.below {w w' : World} {pw pp : Nat} (h : PlC w pw pp) (hb : Below w.heap.size w w') : PlC w' pw pp := (hb.cell (World.block_lt_of_cell? w _ h)).trans h
theorem PlC.mv {w w1 : World} {pw pp B : Nat} {v v' : Value} {L : List Pl} (h : PlC w pw pp) (m : Mv w w1 pp v v') (hs : PS w pp B v L) (h1 : pw ≠ pp) (h2 : pw < B) : PlC w1 pw pp :=
  m.kp.cell h (fun e => e.elim h1 (fun e => by have := (hs.lts pw e).1; omega))
def PlP (w : World) (pp B : Nat) (v : Value) (R : List Pl) (e : Ending) (w' : World) : Prop := e = .returned (.tuple #[]) ∧ ∃ v', PS w' pp B v' R ∧ Mv w w' pp v v'
/-- A place more. -/
theorem PS.app {w2 w3 : World} {pp B g cap : Nat} {v : Value} {L : List Pl} {q : Pl} (hs : PS w2 pp B v L) (hB : B ≤ w2.heap.size) (ho : w3.ownsRow B 46 4 (.slice (some ⟨g, 0, none⟩) (L.length + 1) cap) (L.length + 1) (gc encP L ++ encP q)) (hg : w2.grownBy w3 v.ownBlock) (hat : v.ownBlock = some g ∨ g = w2.heap.size) :
    w3.cell? ⟨pp, 0, none⟩ = some v ∧ w3.frozen? ⟨pp, 0, none⟩ = false ∧ PS (w3.setCell ⟨pp, 0, none⟩ (.slice (some ⟨g, 0, none⟩) (L.length + 1) cap)) pp B (.slice (some ⟨g, 0, none⟩) (L.length + 1) cap) (L ++ [q]) ∧ Mv w2 (w3.setCell ⟨pp, 0, none⟩ (.slice (some ⟨g, 0, none⟩) (L.length + 1) cap)) pp v (.slice (some ⟨g, 0, none⟩) (L.length + 1) cap) := by
  have hpl := World.block_lt_of_cell? w2 _ hs.cell
  have hne : some pp ≠ v.ownBlock := fun e => by have := (hs.lts pp e.symm).1; have := hs.lt; omega
  have hblk := hg.block pp hpl hne
  have h1 : w3.cell? ⟨pp, 0, none⟩ = some v := (World.cell?_of_block hblk).trans hs.cell
  have h2 : w3.frozen? ⟨pp, 0, none⟩ = false := (World.frozen?_of_block (a := ⟨pp, 0, none⟩) hblk).trans hs.free
  have hgB := (World.ownsRow.lt ho g rfl).1
  have hgp : g ≠ pp := by have := hs.lt; omega
  refine ⟨h1, h2, ⟨World.cell?_setCell_same' _ _ _ (by rw [h1]; rfl), by rw [World.frozen?_setCell]; exact h2, ?_, hs.lt⟩, ⟨((Kp.refl _ w2).grown hg (fun x _ e => .inr e)).setCell _ (fun _ => .inl rfl), fun g' hg' => ?_⟩⟩
  · have h3 := ownsRow_kp ho (F := fun x => x = pp) ((Kp.refl _ w3).setCell (a := ⟨pp, 0, none⟩) (.slice (some ⟨g, 0, none⟩) (L.length + 1) cap) (fun _ => rfl)) (fun g' hg' => by
      obtain rfl : g = g' := by simpa [Value.ownBlock] using hg'
      exact hgp)
    rw [gc_append, gc_one, List.length_append]
    exact h3
  · obtain rfl : g = g' := by simpa [Value.ownBlock] using hg'
    rcases hat with h | h
    · exact .inl h
    · exact .inr (Nat.le_of_eq h.symm)
set_option maxHeartbeats 8000000 in
theorem numPl_any (c wd : Int) (b : Bool) (fa : Option Addr) (fn fc : Nat) (da : Option Addr) (dn dc : Nat) (ba : Option Addr) (bn bc : Nat) (na : Option Addr) (nn nc : Nat) (p : Int) (pw pp B : Nat) (v : Value) (L : List Pl) (w : World) (hc : c = 1 ∨ c = 2 ∨ c = 3) (hB : B ≤ w.heap.size) (hs : PS w pp B v L) (hL : L.length ≤ 256) :
    Calls Try.prog 32 #[.agg #[.int .i64 c, .int .i64 wd, .bool b, .slice fa fn fc, .slice da dn dc, .slice ba bn bc, .slice na nn nc], .int .i64 p, .pointer (some ⟨pw, 0, none⟩), .pointer (some ⟨pp, 0, none⟩)] w (PlP w pp B v (L ++ [⟨p, c, wd, b⟩])) := by
  obtain ⟨i0, hi, hz, hsz, hby⟩ := Try.infoPl
  obtain ⟨w1, hw1, hb1, hs1, c0, c1, c2, c3, c4, c5, c6⟩ := bx_made w c wd b (.slice fa fn fc) (.slice da dn dc) (.slice ba bn bc) (.slice na nn nc)
  obtain ⟨w2, hw2⟩ : ∃ w2, w1.alloc (.cells #[.int .i64 p, .int .i64 c, .int .i64 wd, .bool b] 46) = w2 := ⟨_, rfl⟩
  have hb2 : Below w1.heap.size w1 w2 := by rw [← hw2]; exact (Below.refl _ _).alloc (Nat.le_refl _) _
  have HG2 : Hid (w2.heap[w1.heap.size]? = some (.cells [Value.int .i64 p, .int .i64 c, .int .i64 wd, .bool b].toArray 46 (0, 0))) := by
    rw [← hw2]; exact heap_alloc_new w1 _
  have HB2 : Hid (Below w.heap.size w w2) := bel_next hb1 hb2
  have HS2 : Hid (PS w2 pp B v L) := hs.below HB2.out
  have HS0 : Hid (PS w pp B v L) := hs
  have k0 : w1.cell? ⟨pp, 0, none⟩ = some v := (hs.below hb1).cell
  have HON : Hid (∀ u ∈ [Value.int .i64 p, .int .i64 c, .int .i64 wd, .bool b], u.oneCell' = true) := by intro u hu; simp at hu; rcases hu with rfl | rfl | rfl | rfl <;> rfl
  have HBW : Hid (B ≤ w2.heap.size) := Nat.le_trans hB HB2.out.size
  have hLn := hL
  have HMV : Hid (Mv w w2 pp v v) := Mv.of HB2.out
  rcases hc with rfl | rfl | rfl
  all_goals
    clear hb1 hs1 hb2 hs
    go_enter Try.func32, Try.ntmps32
    go_wp2_with (at_builtin; refine wpList_append_G w2 rfl (.tmp 33) (.tmp 42) 39 rfl 46 i0 Try.underlying39 hi _ hz 4 32 hsz hby rfl (by omega) B v L.length (gc encP L) ⟨w1.heap.size, 0, none⟩ 1 1 [.int .i64 p, .int .i64 _, .int .i64 wd, .bool b] rfl rfl HS2.out.own rfl (news_one HG2.out) HON.out (by omega) (by omega) (by omega) HBW.out ?_; intro g3 cap3 w3 ho3 hg3 hat3; obtain ⟨q1, q2, q3, q4⟩ := PS.app (q := ⟨p, _, wd, b⟩) HS2.out HBW.out ho3 hg3 hat3; have HQ3 : Hid _ := q3; have HQ4 : Hid _ := q4; clear q3 q4 ho3 hg3 hat3)
    go_end0
    exact ⟨rfl, _, HQ3.out, HMV.out.trans HQ4.out⟩
end Go.Proofs.Ytojcokdfplldbaa
