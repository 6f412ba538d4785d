/-
  The program's Bytes: what lays a number behind what is told so far. Conditions: what is told so far is the call's own; the number fits.
-/
import Derived.Test.YtojcokdfplldbaaDPlaces
import Derived.Test.YtojcokdfplldbaaWalkF
namespace Go.Proofs.Ytojcokdfplldbaa
open Go.RowKit Go.Shelf
set_option linter.unusedVariables false
set_option maxRecDepth 100000

/-- The cell of the bytes so far, and they. -/
structure QS (w : World) (po B : Nat) (v : Value) (l : List Int) : Prop where
  cell : w.cell? ⟨po, 0, none⟩ = some v
  free : w.frozen? ⟨po, 0, none⟩ = false
  own : w.ownsRow B 5 1 v l.length (bcells l)
  lt : po < B
theorem QS.lts {w : World} {po B : Nat} {v : Value} {l : List Int} (h : QS w po B v l) : ∀ g, v.ownBlock = some g → B ≤ g ∧ g < w.heap.size := fun g hg => World.ownsRow.lt h.own g hg
theorem QS.below {w w1 : World} {po B : Nat} {v : Value} {l : List Int} (h : QS w po B v l) (hb : Below w.heap.size w w1) : QS w1 po B v l :=
  ⟨(hb.cell (World.block_lt_of_cell? w _ h.cell)).trans h.cell, (hb.frozen (p := ⟨po, 0, none⟩) (World.block_lt_of_cell? w _ h.cell)).trans h.free, ownsRow_below h.own hb, h.lt⟩
theorem QS.app {w2 w3 : World} {po B g cap : Nat} {v : Value} {l m : List Int} {k : Nat} (hk : m.length = k) (hs : QS w2 po B v l) (hB : B ≤ w2.heap.size) (ho : w3.ownsRow B 5 1 (.slice (some ⟨g, 0, none⟩) (l.length + k) cap) (l.length + k) (bcells l ++ bcells m)) (hg : w2.grownBy w3 v.ownBlock) (hat : v.ownBlock = some g ∨ g = w2.heap.size) :
    w3.cell? ⟨po, 0, none⟩ = some v ∧ w3.frozen? ⟨po, 0, none⟩ = false ∧ QS (w3.setCell ⟨po, 0, none⟩ (.slice (some ⟨g, 0, none⟩) (l.length + k) cap)) po B (.slice (some ⟨g, 0, none⟩) (l.length + k) cap) (l ++ m) ∧ Mv w2 (w3.setCell ⟨po, 0, none⟩ (.slice (some ⟨g, 0, none⟩) (l.length + k) cap)) po v (.slice (some ⟨g, 0, none⟩) (l.length + k) cap) := by
  subst hk
  have hpl := World.block_lt_of_cell? w2 _ hs.cell
  have hne : some po ≠ v.ownBlock := fun e => by have := (hs.lts po e.symm).1; have := hs.lt; omega
  have hblk := hg.block po hpl hne
  have h1 : w3.cell? ⟨po, 0, none⟩ = some v := (World.cell?_of_block hblk).trans hs.cell
  have h2 : w3.frozen? ⟨po, 0, none⟩ = false := (World.frozen?_of_block (a := ⟨po, 0, none⟩) hblk).trans hs.free
  have hgB := (World.ownsRow.lt ho g rfl).1
  have hgp : g ≠ po := by have := hs.lt; omega
  refine ⟨h1, h2, ⟨World.cell?_setCell_same' _ _ _ (by rw [h1]; rfl), by rw [World.frozen?_setCell]; exact h2, ?_, hs.lt⟩, ⟨((Kp.refl _ w2).grown hg (fun x _ e => .inr e)).setCell _ (fun _ => .inl rfl), fun g' hg' => ?_⟩⟩
  · have h3 := ownsRow_kp ho (F := fun x => x = po) ((Kp.refl _ w3).setCell (a := ⟨po, 0, none⟩) (.slice (some ⟨g, 0, none⟩) (l.length + m.length) cap) (fun _ => rfl)) (fun g' hg' => by
      obtain rfl : g = g' := by simpa [Value.ownBlock] using hg'
      exact hgp)
    rw [bcells_append, List.length_append]
    exact h3
  · obtain rfl : g = g' := by simpa [Value.ownBlock] using hg'
    rcases hat with h | h
    · exact .inl h
    · exact .inr (Nat.le_of_eq h.symm)
def QP (w : World) (po B : Nat) (v : Value) (R : List Int) (e : Ending) (w' : World) : Prop := e = .returned (.tuple #[]) ∧ ∃ v', QS w' po B v' R ∧ Mv w w' po v v'
theorem fr_some {w : World} {lo k : Nat} {x : Value} {l : List Int} (h : Fr w lo x l) (hk : l.length = k) (hl : 1 ≤ k) : ∃ g, x = .slice (some ⟨g, 0, none⟩) k k ∧ Row w g l := by
  subst hk
  rcases h with ⟨_, rfl⟩ | ⟨g, _, rfl, hr⟩
  · simp at hl
  · exact ⟨g, rfl, hr⟩
theorem one_bcells (l : List Int) : ∀ u ∈ bcells l, u.oneCell' = true := by
  intro u hu
  simp only [bcells, List.mem_map] at hu
  obtain ⟨x, _, rfl⟩ := hu
  rfl
theorem bcells_len (l : List Int) : (bcells l).length = l.length := by simp [bcells]
set_option maxHeartbeats 8000000 in
theorem putN_any (m : Nat) (n : Int) (po B : Nat) (v : Value) (l : List Int) (w : World) (hB : B ≤ w.heap.size) (hs : QS w po B v l) (hl : l.length ≤ 100000) (hm : 1 ≤ m ∧ m ≤ 8) (hfit : numErr (IntKind.u64.wrap n) (m : Int) = 0) :
    Calls Try.prog 42 #[.int .i64 (m : Int), .int .i64 n, .pointer (some ⟨po, 0, none⟩)] w (QP w po B v (l ++ dig2 true (IntKind.u64.wrap n) m)) := by
  obtain ⟨i0, hi, hi0, hi1, hi2⟩ := info_parts Try.info5
  obtain ⟨u, hu⟩ : ∃ u, IntKind.u64.wrap n = u := ⟨_, rfl⟩
  have hur : 0 ≤ u ∧ u < 18446744073709551616 := by rw [← hu, IntKind.wrap_u64]; omega
  rw [hu] at hfit ⊢
  have HP : Hid _ := put_any (.slice none 0 0) [] u (m : Int) true w (Bs.nil _) (by simp) hur.1 hur.2
  have HPL : Hid (putList [] u (m : Int) true = dig2 true u m) := by rw [Hid, putList, if_pos hfit, List.nil_append, Int.toNat_natCast]
  have HDL : Hid ((dig2 true u m).length = m) := dig2_length true u m
  have HS : Hid (QS w po B v l) := hs
  rw [hfit, HPL.out] at HP
  generalize dig2 true u m = D at *
  clear hs hfit HPL
  have HPO : Hid (po < B) := HS.out.lt
  go_enter Try.func42, Try.ntmps42
  go_wp2_with (first | (go_at_call 43; refine Calls.mono HP.out ?_; rintro e w5 ⟨x, rfl, hx, hb5⟩; obtain ⟨gx, rfl, hrow⟩ := fr_some hx HDL.out hm.1; have HR : Hid (Row w5 gx D) := hrow; have HS5 : Hid (QS w5 po B v l) := HS.out.below hb5; have HB5 : Hid (Below w.heap.size w w5) := hb5; have HBW : Hid (B ≤ w5.heap.size) := Nat.le_trans hB hb5.size; have k0 := HS5.out.cell; clear hx hb5 hrow) | (at_builtin; refine wpList_append_G w5 rfl (.tmp 14) (.tmp 15) 55 rfl 5 i0 Try.underlying55 hi _ hi0 1 1 hi1 hi2 rfl (by omega) B v l.length (bcells l) ⟨gx, 0, none⟩ m m (bcells D) rfl rfl HS5.out.own (by rw [bcells_len, Nat.mul_one]; exact HDL.out) (news_one HR.out) (one_bcells D) (by omega) (by omega) (by omega) HBW.out ?_; intro g3 cap3 w7 ho3 hg3 hat3; obtain ⟨q1, q2, q3, q4⟩ := QS.app HDL.out HS5.out HBW.out ho3 hg3 hat3; have HQ3 : Hid _ := q3; have HQ4 : Hid _ := q4; clear q3 q4 ho3 hg3 hat3))
  go_end0
  exact ⟨rfl, _, HQ3.out, (Mv.of HB5.out).trans HQ4.out⟩
end Go.Proofs.Ytojcokdfplldbaa
