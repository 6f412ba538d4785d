/-
  Types of elements in plain words, and as they lie in memory. No conditions.
-/
import Derived.Test.YtojcokdfplldbaaSMem
namespace Go.Proofs.Ytojcokdfplldbaa
open Go.RowKit
set_option linter.unusedVariables false
set_option maxRecDepth 100000

/-- A type's own parts; the types within are of another kind. -/
structure TyN (α : Type) where
  c : Int
  w : Int
  b : Bool
  fs : List (ByteArray × Int × α)
  ds : List Int
  bs : List α
  ns : List (ByteArray × Int)
/-- A type of elements that is at most so deep. -/
def Ty : Nat → Type
  | 0 => Empty
  | n + 1 => TyN (Ty n)
def hd : {n : Nat} → Ty n → Int × Int × Bool
  | 0, t => nomatch t
  | _ + 1, t => (TyN.c t, TyN.w t, TyN.b t)
/-- A slice of members that reads as names with values. -/
structure Nms (w : World) (v : Value) (l : List (ByteArray × Int)) : Prop where
  len : l.length ≤ 5864062014634
  rng : ∀ q ∈ l, I64 q.2
  is : ∃ ao cap, v = .slice ao l.length cap ∧ l.length ≤ cap ∧ ∀ i q, l[i]? = some q → ∃ g o, ao = some ⟨g, o, none⟩ ∧ w.cell? ⟨g, o + i * 2, none⟩ = some (.string q.1) ∧ w.cell? ⟨g, o + i * 2 + 1, none⟩ = some (.int .i64 q.2)
/-- A type's four lists. -/
structure TV where
  f : Value
  d : Value
  b : Value
  n : Value
def tyV (x : Int × Int × Bool) (V : TV) : Value := .agg #[.int .i64 x.1, .int .i64 x.2.1, .bool x.2.2, V.f, V.d, V.b, V.n]
/-- A slice of fields. -/
structure FsR {α : Type} (R : World → TV → α → Prop) (h : α → Int × Int × Bool) (w : World) (v : Value) (l : List (ByteArray × Int × α)) : Prop where
  len : l.length ≤ 977343669105
  rng : ∀ q ∈ l, I64 q.2.1
  is : ∃ ao cap, v = .slice ao l.length cap ∧ l.length ≤ cap ∧ ∀ i q, l[i]? = some q → ∃ g o V, ao = some ⟨g, o, none⟩ ∧ R w V q.2.2 ∧ w.cell? ⟨g, o + i * 9, none⟩ = some (.string q.1) ∧ w.cell? ⟨g, o + i * 9 + 1, none⟩ = some (.int .i64 q.2.1) ∧ w.cell? ⟨g, o + i * 9 + 2, none⟩ = some (.int .i64 (h q.2.2).1) ∧ w.cell? ⟨g, o + i * 9 + 3, none⟩ = some (.int .i64 (h q.2.2).2.1) ∧ w.cell? ⟨g, o + i * 9 + 4, none⟩ = some (.bool (h q.2.2).2.2) ∧ w.cell? ⟨g, o + i * 9 + 5, none⟩ = some V.f ∧ w.cell? ⟨g, o + i * 9 + 6, none⟩ = some V.d ∧ w.cell? ⟨g, o + i * 9 + 7, none⟩ = some V.b ∧ w.cell? ⟨g, o + i * 9 + 8, none⟩ = some V.n
/-- A slice of types. -/
structure BsR {α : Type} (R : World → TV → α → Prop) (h : α → Int × Int × Bool) (w : World) (v : Value) (l : List α) : Prop where
  len : l.length ≤ 1172812402926
  is : ∃ ao cap, v = .slice ao l.length cap ∧ l.length ≤ cap ∧ ∀ i q, l[i]? = some q → ∃ g o V, ao = some ⟨g, o, none⟩ ∧ R w V q ∧ w.cell? ⟨g, o + i * 7, none⟩ = some (.int .i64 (h q).1) ∧ w.cell? ⟨g, o + i * 7 + 1, none⟩ = some (.int .i64 (h q).2.1) ∧ w.cell? ⟨g, o + i * 7 + 2, none⟩ = some (.bool (h q).2.2) ∧ w.cell? ⟨g, o + i * 7 + 3, none⟩ = some V.f ∧ w.cell? ⟨g, o + i * 7 + 4, none⟩ = some V.d ∧ w.cell? ⟨g, o + i * 7 + 5, none⟩ = some V.b ∧ w.cell? ⟨g, o + i * 7 + 6, none⟩ = some V.n
structure TRN {α : Type} (R : World → TV → α → Prop) (h : α → Int × Int × Bool) (w : World) (V : TV) (T : TyN α) : Prop where
  c : I64 T.c
  wd : I64 T.w
  fs : FsR R h w V.f T.fs
  ds : Is w V.d T.ds
  bs : BsR R h w V.b T.bs
  ns : Nms w V.n T.ns
/-- A type as it lies in memory. -/
def TR : (n : Nat) → World → TV → Ty n → Prop
  | 0, _, _, _ => False
  | n + 1, w, V, T => TRN (TR n) hd w V T
theorem Nms.below {w w' : World} {v : Value} {l : List (ByteArray × Int)} (h : Nms w v l) (hb : Below w.heap.size w w') : Nms w' v l := by
  obtain ⟨h1, h2, ao, cap, rfl, h3, h4⟩ := h
  refine ⟨h1, h2, ao, cap, rfl, h3, fun i x hx => ?_⟩
  obtain ⟨g, o, rfl, c1, c2⟩ := h4 i x hx
  exact ⟨g, o, rfl, (hb.cell (World.block_lt_of_cell? w _ c1)).trans c1, (hb.cell (World.block_lt_of_cell? w _ c2)).trans c2⟩
theorem TR.below : ∀ {n : Nat} {w w' : World} {V : TV} {T : Ty n}, TR n w V T → Below w.heap.size w w' → TR n w' V T
  | 0, _, _, _, _, h, _ => h
  | n + 1, w, w', V, T, h, hb => by
    have K : ∀ {p : Addr} {x : Value}, w.cell? p = some x → w'.cell? p = some x := fun h => (hb.cell (World.block_lt_of_cell? w _ h)).trans h
    obtain ⟨h1, h2, ⟨f1, f2, ao, cap, fe, f3, f4⟩, h4, ⟨b1, bo, bcap, be, b3, b4⟩, h6⟩ := h
    refine ⟨h1, h2, ⟨f1, f2, ao, cap, fe, f3, fun i q hq => ?_⟩, h4.below hb, ⟨b1, bo, bcap, be, b3, fun i q hq => ?_⟩, h6.below hb⟩
    · obtain ⟨g, o, U, e, r, c0, c1, c2, c3, c4, c5, c6, c7, c8⟩ := f4 i q hq
      exact ⟨g, o, U, e, TR.below r hb, K c0, K c1, K c2, K c3, K c4, K c5, K c6, K c7, K c8⟩
    · obtain ⟨g, o, U, e, r, c0, c1, c2, c3, c4, c5, c6⟩ := b4 i q hq
      exact ⟨g, o, U, e, TR.below r hb, K c0, K c1, K c2, K c3, K c4, K c5, K c6⟩
/-- The four lists as slices. -/
structure TO where
  fa : Option Addr
  fn : Nat
  fc : Nat
  da : Option Addr
  dn : Nat
  dc : Nat
  ba : Option Addr
  bn : Nat
  bc : Nat
  na : Option Addr
  nn : Nat
  nc : Nat
def TO.v (O : TO) : TV := ⟨.slice O.fa O.fn O.fc, .slice O.da O.dn O.dc, .slice O.ba O.bn O.bc, .slice O.na O.nn O.nc⟩
theorem TRN.open {α : Type} {R : World → TV → α → Prop} {h : α → Int × Int × Bool} {w : World} {V : TV} {T : TyN α} (H : TRN R h w V T) :
    ∃ fa fn fc da dn dc ba bn bc na nn nc, V = ⟨.slice fa fn fc, .slice da dn dc, .slice ba bn bc, .slice na nn nc⟩ ∧ (T.fs.length = fn ∧ fn ≤ fc ∧ fn ≤ 5864062014634) ∧ (T.ds.length = dn ∧ dn ≤ dc ∧ dn ≤ 17592186043904) ∧ (T.bs.length = bn ∧ bn ≤ bc ∧ bn ≤ 5864062014634) ∧ (T.ns.length = nn ∧ nn ≤ nc ∧ nn ≤ 5864062014634) := by
  obtain ⟨f, d, b, n⟩ := V
  obtain ⟨h1, h2, ⟨f1, f2, ao, cap, fe, f3, f4⟩, h4, ⟨b1, bo, bcap, be, b3, b4⟩, ⟨n1, n2, no, ncap, ne, n3, n4⟩⟩ := H
  obtain ⟨ua, m, c, de, d4, d5, d6⟩ := h4.open
  simp only at fe be ne de
  subst fe be ne de
  exact ⟨_, _, _, _, _, _, _, _, _, _, _, _, rfl, ⟨rfl, f3, by omega⟩, ⟨d4, d5, d6⟩, ⟨rfl, b3, by omega⟩, ⟨rfl, n3, n1⟩⟩
/-- Four slices. -/
def SlV (V : TV) : Prop := ∃ fa fn fc da dn dc ba bn bc na nn nc, V = ⟨.slice fa fn fc, .slice da dn dc, .slice ba bn bc, .slice na nn nc⟩
theorem TR.sl : ∀ {n : Nat} {w : World} {V : TV} {T : Ty n}, TR n w V T → SlV V
  | 0, _, _, _, h => h.elim
  | n + 1, w, V, T, h => by
    obtain ⟨fa, fn, fc, da, dn, dc, ba, bn, bc, na, nn, nc, e, _⟩ := TRN.open h
    exact ⟨_, _, _, _, _, _, _, _, _, _, _, _, e⟩
theorem FsR.mono {α : Type} {R R' : World → TV → α → Prop} {h : α → Int × Int × Bool} {w : World} {v : Value} {l : List (ByteArray × Int × α)} (H : FsR R h w v l) (hR : ∀ V t, R w V t → R' w V t) : FsR R' h w v l := by
  obtain ⟨h1, h2, ao, cap, e, h3, h4⟩ := H
  exact ⟨h1, h2, ao, cap, e, h3, fun i q hq => by obtain ⟨g, o, V, e, r, c⟩ := h4 i q hq; exact ⟨g, o, V, e, hR V q.2.2 r, c⟩⟩
/-- A field at its place, all its cells. -/
theorem FsR.at {α : Type} {R : World → TV → α → Prop} {h : α → Int × Int × Bool} {w : World} {ao : Option Addr} {n cap : Nat} {l : List (ByteArray × Int × α)} (H : FsR R h w (.slice ao n cap) l) {i : Nat} (hi : i < n) :
    ∃ g o V q, ao = some ⟨g, o, none⟩ ∧ l[i]? = some q ∧ I64 q.2.1 ∧ R w V q.2.2 ∧ w.cell? ⟨g, o + i * 9, none⟩ = some (.string q.1) ∧ w.cell? ⟨g, o + i * 9 + 1, none⟩ = some (.int .i64 q.2.1) ∧ w.cell? ⟨g, o + i * 9 + 2, none⟩ = some (.int .i64 (h q.2.2).1) ∧ w.cell? ⟨g, o + i * 9 + 3, none⟩ = some (.int .i64 (h q.2.2).2.1) ∧ w.cell? ⟨g, o + i * 9 + 4, none⟩ = some (.bool (h q.2.2).2.2) ∧ w.cell? ⟨g, o + i * 9 + 5, none⟩ = some V.f ∧ w.cell? ⟨g, o + i * 9 + 6, none⟩ = some V.d ∧ w.cell? ⟨g, o + i * 9 + 7, none⟩ = some V.b ∧ w.cell? ⟨g, o + i * 9 + 8, none⟩ = some V.n := by
  obtain ⟨h1, h2, ao', cap', e, h3, h4⟩ := H
  injection e with e1 e2 e3
  subst e1 e3
  have hl : i < l.length := by omega
  obtain ⟨g, o, V, rfl, r, c⟩ := h4 i l[i] (List.getElem?_eq_getElem hl)
  exact ⟨g, o, V, l[i], rfl, List.getElem?_eq_getElem hl, h2 _ (List.getElem_mem hl), r, c⟩
theorem BsR.at {α : Type} {R : World → TV → α → Prop} {h : α → Int × Int × Bool} {w : World} {ao : Option Addr} {n cap : Nat} {l : List α} (H : BsR R h w (.slice ao n cap) l) {i : Nat} (hi : i < n) :
    ∃ g o V q, ao = some ⟨g, o, none⟩ ∧ l[i]? = some q ∧ R w V q ∧ w.cell? ⟨g, o + i * 7, none⟩ = some (.int .i64 (h q).1) ∧ w.cell? ⟨g, o + i * 7 + 1, none⟩ = some (.int .i64 (h q).2.1) ∧ w.cell? ⟨g, o + i * 7 + 2, none⟩ = some (.bool (h q).2.2) ∧ w.cell? ⟨g, o + i * 7 + 3, none⟩ = some V.f ∧ w.cell? ⟨g, o + i * 7 + 4, none⟩ = some V.d ∧ w.cell? ⟨g, o + i * 7 + 5, none⟩ = some V.b ∧ w.cell? ⟨g, o + i * 7 + 6, none⟩ = some V.n := by
  obtain ⟨h1, ao', cap', e, h3, h4⟩ := H
  injection e with e1 e2 e3
  subst e1 e3
  have hl : i < l.length := by omega
  obtain ⟨g, o, V, rfl, r, c⟩ := h4 i l[i] (List.getElem?_eq_getElem hl)
  exact ⟨g, o, V, l[i], rfl, List.getElem?_eq_getElem hl, r, c⟩
theorem Nms.at {w : World} {ao : Option Addr} {n cap : Nat} {l : List (ByteArray × Int)} (H : Nms w (.slice ao n cap) l) {i : Nat} (hi : i < n) :
    ∃ g o q, ao = some ⟨g, o, none⟩ ∧ l[i]? = some q ∧ I64 q.2 ∧ w.cell? ⟨g, o + i * 2, none⟩ = some (.string q.1) ∧ w.cell? ⟨g, o + i * 2 + 1, none⟩ = some (.int .i64 q.2) := by
  obtain ⟨h1, h2, ao', cap', e, h3, h4⟩ := H
  injection e with e1 e2 e3
  subst e1 e3
  have hl : i < l.length := by omega
  obtain ⟨g, o, rfl, c⟩ := h4 i l[i] (List.getElem?_eq_getElem hl)
  exact ⟨g, o, l[i], rfl, List.getElem?_eq_getElem hl, h2 _ (List.getElem_mem hl), c⟩
theorem below_dN {w w' : World} {B : Nat} (h : Below B w w') (n : Nat) : Below B w (w'.drewN n) := ⟨h.os, h.tape, h.output, h.size, h.block⟩
/-- A type's seven cells in a block of its own. -/
structure Bx (w : World) (p : Nat) (c wd : Int) (b : Bool) (f d y n : Value) : Prop where
  c0 : w.cell? ⟨p, 0, none⟩ = some (.int .i64 c)
  c1 : w.cell? ⟨p, 1, none⟩ = some (.int .i64 wd)
  c2 : w.cell? ⟨p, 2, none⟩ = some (.bool b)
  c3 : w.cell? ⟨p, 3, none⟩ = some f
  c4 : w.cell? ⟨p, 4, none⟩ = some d
  c5 : w.cell? ⟨p, 5, none⟩ = some y
  c6 : w.cell? ⟨p, 6, none⟩ = some n
theorem Bx.below {w w' : World} {p : Nat} {c wd : Int} {b : Bool} {f d y n : Value} (h : Bx w p c wd b f d y n) (hb : Below w.heap.size w w') : Bx w' p c wd b f d y n := by
  have K : ∀ {p : Addr} {x : Value}, w.cell? p = some x → w'.cell? p = some x := fun h => (hb.cell (World.block_lt_of_cell? w _ h)).trans h
  exact ⟨K h.c0, K h.c1, K h.c2, K h.c3, K h.c4, K h.c5, K h.c6⟩
theorem bx_made (w : World) (c wd : Int) (b : Bool) (f d y n : Value) : ∃ w1, w.alloc (.cells #[.int .i64 c, .int .i64 wd, .bool b, f, d, y, n] 28) = w1 ∧ Below w.heap.size w w1 ∧ w1.heap.size = w.heap.size + 1 ∧ Bx w1 w.heap.size c wd b f d y n := by
  refine ⟨_, rfl, (Below.refl _ _).alloc (Nat.le_refl _) _, World.size_alloc _ _, ?_⟩
  constructor <;> (rw [World.cell?_alloc_mark]; rfl)
end Go.Proofs.Ytojcokdfplldbaa
