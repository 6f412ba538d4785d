/-
  What a call tells as bytes, read as a string in every later world: Bytes, the document's Lay. No conditions but on lengths.
-/
import Derived.Test.YtkiccnedmejnaaaDoorCutMath
namespace Go.Proofs.YtkiccnedmejnaaaDoor
open Go.RowKit
set_option linter.unusedVariables false

/-- string(v) is the text of l in every world that follows w. -/
def Txt (w : World) (v : Value) (l : List Int) : Prop := ∀ w', Below w.heap.size w w' → Sem.run Tryd.prog (convert 25 9 v) w' = .ok (.string (strOfNums l)) w'
theorem txt_of {w : World} {v : Value} {l : List Int} (h : Bs w v l) : Txt w v l := fun w' hb => (h.below hb).str Tryd.underlying25 Tryd.underlying5 Tryd.underlying9

/-- Bytes, told in a world behind W. -/
theorem bytes_txt {W : World} {B p : Nat} {F : Mdl} {vb vr : Value} {rv : List RawV} (h : PF W B p F vb vr rv) (n : Nat) (hn : F.bs.length = n) (w : World) (hb : Below W.heap.size W w) :
    Calls Tryd.prog 24 #[.pointer (some ⟨p, 0, none⟩)] w fun e w' => ∃ ao cap, e = .returned (.slice ao n cap) ∧ (∀ w2, Below w'.heap.size w' w2 → Sem.run Tryd.prog (convert 25 9 (.slice ao n cap)) w2 = .ok (.string (strOfNums F.bs)) w2) ∧ Below W.heap.size W w' ∧ Below w.heap.size w w' ∧ Below w'.heap.size w' w' := by
  refine (bytes_any (h.below hb)).mono ?_
  rintro e w' ⟨ao, cap, rfl, ho, hb2⟩
  rw [hn] at ho ⊢
  exact ⟨ao, cap, rfl, txt_of ho.bs, hb.trans (hb2.mono hb.size), hb2, Below.refl _ _⟩
/-- The document's Lay, told in a world behind W. -/
theorem refLay_txt {W : World} {bv xv : Value} {b x : List Int} {q : Nat} (hb : Bs W bv b) (hx : Bs W xv x) (hq : q ≤ b.length) (hl : b.length + x.length ≤ 140737488355328) (L : List Int) (hL : layN b q x = L) (w : World) (hbw : Below W.heap.size W w) :
    Calls Tryd.prog 50 #[bv, .int .i64 (q : Int), xv] w fun e w' => ∃ ao n cap, e = .returned (.slice ao n cap) ∧ (∀ w2, Below w'.heap.size w' w2 → Sem.run Tryd.prog (convert 25 9 (.slice ao n cap)) w2 = .ok (.string (strOfNums L)) w2) ∧ Below W.heap.size W w' ∧ Below w.heap.size w w' ∧ Below w'.heap.size w' w' := by
  subst hL
  refine (refLay_any bv xv b x q w (hb.below hbw) (hx.below hbw) hq hl).mono ?_
  rintro e w' ⟨ao, cap, rfl, ho, hb2⟩
  exact ⟨ao, _, cap, rfl, txt_of ho.bs, hbw.trans (hb2.mono hbw.size), hb2, Below.refl _ _⟩
end Go.Proofs.YtkiccnedmejnaaaDoor
