/-
  Rows of fields and of types of the call's own, as own makes them: what lies in them stays, whatever is laid behind. No conditions.
-/
import Derived.Test.YtojcokdfplldbaaROwnA
namespace Go.Proofs.Ytojcokdfplldbaa
open Go.RowKit
set_option linter.unusedVariables false
set_option maxRecDepth 100000

/-- A call as a step in a region that draws. -/
theorem step_callO {ops : Array Oper} {o : Oper} {a : Act} {w : World} {K : Act → World → Prop} {Q : Exit → Act → World → Prop} {E : Prop}
    (hg : o.guard = none) (f : FuncId) (he : ∀ args w, (callFunc f args).run Try.prog w = .ok (.enter f args) w) (xs : Array Operand) (ts : Array TypeId) (hop : o.op = Op.call { callee := Callee.value (Operand.func f), args := xs, argTypes := ts })
    (vs : Array Value) (hev : xs.map a.eval = vs) (R : Value → World → Prop) (hC : Calls Try.prog f vs w fun e w' => ∃ v, e = .returned v ∧ R v w') (d : Nat) (hd : o.dst = some d) (hK : ∀ v w', R v w' → K (a.put (some d) v) w') :
    if Region.wanted o (yielded ops a.tmps) = true then Oper.wp Try.prog o a w K Q else E := by
  have hw : Region.wanted o (yielded ops a.tmps) = true := by simp [Region.wanted, hg]
  rw [if_pos hw]
  have hf : a.eval (Operand.func f) = .func (.func f) #[] #[] := rfl
  have hev' : xs.map (fun x => a.eval x) = vs := hev
  unfold Oper.wp
  simp [execOp, hop, resolve, invoke, hev', hf, Oper.upon, Deferred.ofValue, he]
  refine hC.mono ?_
  rintro e w' ⟨v, rfl, h2⟩
  show K (a.put o.dst v) w'
  rw [hd]
  exact hK v w' h2
/-- A field, and a type, as it lies in a row. -/
abbrev FI := ByteArray × Int × (Int × Int × Bool) × TV
abbrev BI := (Int × Int × Bool) × TV
def encBI (q : BI) : List Value := [.int .i64 q.1.1, .int .i64 q.1.2.1, .bool q.1.2.2, q.2.f, q.2.d, q.2.b, q.2.n]
def encFI (q : FI) : List Value := [.string q.1, .int .i64 q.2.1, .int .i64 q.2.2.1.1, .int .i64 q.2.2.1.2.1, .bool q.2.2.1.2.2, q.2.2.2.f, q.2.2.2.d, q.2.2.2.b, q.2.2.2.n]
/-- Two worlds agree from H on but for a slice's own block. -/
def AgrX (H : Nat) (w : World) (v : Value) (W : World) : Prop := ∀ x, H ≤ x → x < w.heap.size → v.ownBlock ≠ some x → W.heap[x]? = w.heap[x]?
/-- A row of k cells an item: own, and each item tells of its part, whatever is turned but the items' own memory. -/
structure Itm {α : Type} (enc : α → List Value) (k : Nat) (T : TypeId) (St : World → Nat → α → Prop) (H : Nat) (w : World) (v : Value) (L : List α) : Prop where
  own : w.ownsRow H T k v L.length (L.flatMap enc)
  it : ∀ j q, L[j]? = some q → ∀ W, AgrX H w v W → St W j q
theorem Itm.nil {α : Type} (enc : α → List Value) (k : Nat) (T : TypeId) (St : World → Nat → α → Prop) (H : Nat) (w : World) : Itm enc k T St H w (.slice none 0 0) [] :=
  ⟨World.ownsRow_nil _ _ _ _, fun j q h => by simp at h⟩
theorem Itm.next {α : Type} {enc : α → List Value} {k : Nat} {T : TypeId} {St : World → Nat → α → Prop} {H p g cap : Nat} {wr w5 w6 w7 w8 w9 w10 : World} {v : Value} {L : List α} {q : α} (h : Itm enc k T St H wr v L)
    (hH : H ≤ wr.heap.size) (hb5 : Below wr.heap.size wr w5) (hb6 : Below w5.heap.size w5 w6) (stay : ∀ W, (∀ x, w5.heap.size ≤ x → x < w6.heap.size → W.heap[x]? = w6.heap[x]?) → St W L.length q)
    (h7 : ∀ x, x < wr.heap.size ∨ w5.heap.size ≤ x → w7.heap[x]? = w6.heap[x]?) (h7s : w7.heap.size = w6.heap.size) (hb8 : Below w7.heap.size w7 w8)
    (ho9 : w9.ownsRow H T k (.slice (some ⟨g, 0, none⟩) (L.length + 1) cap) (L.length + 1) (L.flatMap enc ++ enc q)) (hg9 : w8.grownBy w9 v.ownBlock) (hat : v.ownBlock = some g ∨ g = w8.heap.size)
    (hg10 : w9.grownBy w10 (some p)) (hp : p < H) :
    Itm enc k T St H w10 (.slice (some ⟨g, 0, none⟩) (L.length + 1) cap) (L ++ [q]) ∧ (∀ x, x < H → x ≠ p → w10.heap[x]? = wr.heap[x]?) ∧ wr.heap.size ≤ w10.heap.size := by
  have hlt : ∀ x, v.ownBlock = some x → H ≤ x ∧ x < wr.heap.size := fun x hx => World.ownsRow.lt h.own x hx
  have s5 := hb5.size
  have s6 := hb6.size
  have s8 := hb8.size
  have s9 := hg9.size
  have s10 := hg10.size
  have hgv : ∀ x, x < wr.heap.size → v.ownBlock ≠ some x → g ≠ x := fun x hx hv => by
    rcases hat with e | e
    · intro e2; rw [e, e2] at hv; exact hv rfl
    · omega
  have old : ∀ x, x < wr.heap.size → v.ownBlock ≠ some x → x ≠ p → w10.heap[x]? = wr.heap[x]? := fun x hx hv hxp => by
    rw [hg10.block x (by omega) (fun e => hxp (Option.some.inj e)), hg9.block x (by omega) (fun e => hv e.symm), hb8.block x (by omega), h7 x (by omega), hb6.block x (by omega), hb5.block x hx]
  have new : ∀ x, w5.heap.size ≤ x → x < w6.heap.size → w10.heap[x]? = w6.heap[x]? := fun x h1 h2 => by
    rw [hg10.block x (by omega) (fun e => by have := Option.some.inj e; omega), hg9.block x (by omega) (fun e => by have := hlt x e.symm; omega), hb8.block x (by omega), h7 x (by omega)]
  refine ⟨⟨?_, fun j r hj W hW => ?_⟩, fun x hx hxp => old x (by omega) (fun e => by have := hlt x e; omega) hxp, by omega⟩
  · have ho10 := World.ownsRow.kept ho9 hg10 (.inr (fun e => by
      have h1 : (some g : Option Nat) = some p := e
      have := (World.ownsRow.lt ho9 g rfl).1
      have := Option.some.inj h1
      omega))
    rw [List.length_append, List.flatMap_append]
    show w10.ownsRow H T k _ (L.length + 1) (L.flatMap enc ++ ([q] : List α).flatMap enc)
    rw [show ([q] : List α).flatMap enc = enc q by simp]
    exact ho10
  · by_cases hjl : j < L.length
    · rw [List.getElem?_append_left hjl] at hj
      refine h.it j r hj W (fun x h1 h2 h3 => ?_)
      rw [hW x h1 (by omega) (fun e => by
        have e2 : (some g : Option Nat) = some x := e
        exact hgv x h2 h3 (Option.some.inj e2)), old x h2 h3 (by omega)]
    · have hjl2 : j = L.length := by
        have := (List.getElem?_eq_some_iff.1 hj).1
        rw [List.length_append] at this
        simp at this
        omega
      subst hjl2
      rw [List.getElem?_append_right (Nat.le_refl _), Nat.sub_self] at hj
      obtain rfl : q = r := by simpa using hj
      refine stay W (fun x h1 h2 => ?_)
      rw [hW x (by omega) (by omega) (fun e => by
        have e2 : (some g : Option Nat) = some x := e
        have e3 := Option.some.inj e2
        rcases hat with e4 | e4
        · have := hlt g e4; omega
        · omega), new x h1 h2]
/-- What later worlds that turn p alone, and what is new, leave. -/
theorem Itm.later {α : Type} {enc : α → List Value} {k : Nat} {T : TypeId} {St : World → Nat → α → Prop} {H : Nat} {w : World} {v : Value} {L : List α} (h : Itm enc k T St H w v L) {W : World} (hW : ∀ x, H ≤ x → x < w.heap.size → W.heap[x]? = w.heap[x]?) (j : Nat) (q : α) (hq : L[j]? = some q) : St W j q := h.it j q hq W (fun x a b _ => hW x a b)
/-- A field's nine cells in a block of its own, and its type put anew. -/
def FdRow (w : World) (p : Nat) (s : ByteArray) (at' c wd : Int) (b : Bool) (f d y n : Value) : Prop := w.heap[p]? = some (.cells #[.string s, .int .i64 at', .int .i64 c, .int .i64 wd, .bool b, f, d, y, n] 66 (0, 0))
theorem fd_made (w : World) (s : ByteArray) (at' c wd : Int) (b : Bool) (f d y n : Value) : ∃ w1, w.alloc (.cells #[.string s, .int .i64 at', .int .i64 c, .int .i64 wd, .bool b, f, d, y, n] 66) = w1 ∧ Below w.heap.size w w1 ∧ w1.heap.size = w.heap.size + 1 ∧ FdRow w1 w.heap.size s at' c wd b f d y n :=
  ⟨_, rfl, (Below.refl _ _).alloc (Nat.le_refl _) _, World.size_alloc _ _, heap_alloc_new w _⟩
theorem FdRow.cells {w : World} {p : Nat} {s : ByteArray} {at' c wd : Int} {b : Bool} {f d y n : Value} (h : FdRow w p s at' c wd b f d y n) :
    (∀ j, w.frozen? ⟨p, j, none⟩ = false) ∧ w.cell? ⟨p, 0, none⟩ = some (.string s) ∧ w.cell? ⟨p, 1, none⟩ = some (.int .i64 at') ∧ w.cell? ⟨p, 2, none⟩ = some (.int .i64 c) ∧ w.cell? ⟨p, 3, none⟩ = some (.int .i64 wd) ∧ w.cell? ⟨p, 4, none⟩ = some (.bool b) ∧ w.cell? ⟨p, 5, none⟩ = some f ∧ w.cell? ⟨p, 6, none⟩ = some d ∧ w.cell? ⟨p, 7, none⟩ = some y ∧ w.cell? ⟨p, 8, none⟩ = some n := by
  have h' : w.heap[p]? = some (.cells #[.string s, .int .i64 at', .int .i64 c, .int .i64 wd, .bool b, f, d, y, n] 66 (0, 0)) := h
  exact ⟨fun j => by simp [World.frozen?, h'], cell_of_row _ _ 0 _ _ _ h', cell_of_row _ _ 1 _ _ _ h', cell_of_row _ _ 2 _ _ _ h', cell_of_row _ _ 3 _ _ _ h', cell_of_row _ _ 4 _ _ _ h', cell_of_row _ _ 5 _ _ _ h', cell_of_row _ _ 6 _ _ _ h', cell_of_row _ _ 7 _ _ _ h', cell_of_row _ _ 8 _ _ _ h'⟩
theorem fd_s (j : Nat) {W : World} {p : Nat} {cs cs' : Array Value} {T : TypeId} (v : Value) (h : W.heap[p]? = some (.cells cs T (0, 0))) (hc : cs.setIfInBounds j v = cs') : (W.setCell ⟨p, j, none⟩ v).heap[p]? = some (.cells cs' T (0, 0)) := by
  subst hc; exact heap_setCell_same _ p j _ _ v h
theorem fd_set7 {W : World} {p : Nat} {s : ByteArray} {at' c wd : Int} {b : Bool} {f d y n : Value} (h : FdRow W p s at' c wd b f d y n) (c' wd' : Int) (b' : Bool) (f' d' y' n' : Value) :
    ∃ w7, (((((((W.setCell ⟨p, 2, none⟩ (.int .i64 c')).setCell ⟨p, 3, none⟩ (.int .i64 wd')).setCell ⟨p, 4, none⟩ (.bool b')).setCell ⟨p, 5, none⟩ f').setCell ⟨p, 6, none⟩ d').setCell ⟨p, 7, none⟩ y').setCell ⟨p, 8, none⟩ n') = w7 ∧ FdRow w7 p s at' c' wd' b' f' d' y' n' ∧ (∀ x, x ≠ p → w7.heap[x]? = W.heap[x]?) ∧ w7.heap.size = W.heap.size ∧ (∀ (B : Nat) (W0 : World), Below B W0 W → B ≤ p → Below B W0 w7) := by
  have h' : W.heap[p]? = some (.cells #[.string s, .int .i64 at', .int .i64 c, .int .i64 wd, .bool b, f, d, y, n] 66 (0, 0)) := h
  have h2 := fd_s 2 (.int .i64 c') h' (cs' := #[.string s, .int .i64 at', .int .i64 c', .int .i64 wd, .bool b, f, d, y, n]) rfl
  have h3 := fd_s 3 (.int .i64 wd') h2 (cs' := #[.string s, .int .i64 at', .int .i64 c', .int .i64 wd', .bool b, f, d, y, n]) rfl
  have h4 := fd_s 4 (.bool b') h3 (cs' := #[.string s, .int .i64 at', .int .i64 c', .int .i64 wd', .bool b', f, d, y, n]) rfl
  have h5 := fd_s 5 f' h4 (cs' := #[.string s, .int .i64 at', .int .i64 c', .int .i64 wd', .bool b', f', d, y, n]) rfl
  have h6 := fd_s 6 d' h5 (cs' := #[.string s, .int .i64 at', .int .i64 c', .int .i64 wd', .bool b', f', d', y, n]) rfl
  have h7 := fd_s 7 y' h6 (cs' := #[.string s, .int .i64 at', .int .i64 c', .int .i64 wd', .bool b', f', d', y', n]) rfl
  have h8 := fd_s 8 n' h7 (cs' := #[.string s, .int .i64 at', .int .i64 c', .int .i64 wd', .bool b', f', d', y', n']) rfl
  refine ⟨_, rfl, h8, fun x hx => ?_, by simp [World.setCell], fun B W0 hB hp => ?_⟩
  rotate_left
  · exact Below.setCell (p := ⟨p, 8, none⟩) (Below.setCell (p := ⟨p, 7, none⟩) (Below.setCell (p := ⟨p, 6, none⟩) (Below.setCell (p := ⟨p, 5, none⟩) (Below.setCell (p := ⟨p, 4, none⟩) (Below.setCell (p := ⟨p, 3, none⟩) (Below.setCell (p := ⟨p, 2, none⟩) hB hp _) hp _) hp _) hp _) hp _) hp _) hp _
  have k : ∀ (V : World) (j : Nat) (v : Value), (V.setCell ⟨p, j, none⟩ v).heap[x]? = V.heap[x]? := fun V j v => Below.heap_setCell _ _ _ _ (fun e => hx e)
  rw [k, k, k, k, k, k, k]
theorem Try.infoFd : ∃ i z, Try.prog.info? 66 = some i ∧ i.zero = some z ∧ i.size = 9 ∧ i.bytes = 144 ∧ z.cells.size = 9 :=
  ⟨Try.prog.types[66]!, (Try.prog.types[66]!).zero.getD undef, by kernel_rfl, by kernel_rfl, by kernel_rfl, by kernel_rfl, by kernel_rfl⟩
theorem Try.infoTy : ∃ i z, Try.prog.info? 28 = some i ∧ i.zero = some z ∧ i.size = 7 ∧ i.bytes = 120 ∧ z.cells.size = 7 :=
  ⟨Try.prog.types[28]!, (Try.prog.types[28]!).zero.getD undef, by kernel_rfl, by kernel_rfl, by kernel_rfl, by kernel_rfl, by kernel_rfl⟩
/-- What an item of a row of fields, and of types, tells. -/
def StF {n : Nat} (A : TyN (Ty n)) (W : World) (j : Nat) (q : FI) : Prop := ∃ p, A.fs[j]? = some p ∧ q.1 = p.1 ∧ q.2.1 = p.2.1 ∧ q.2.2.1 = hd p.2.2 ∧ SlV q.2.2.2 ∧ TR n W q.2.2.2 p.2.2
def StB {n : Nat} (A : TyN (Ty n)) (W : World) (j : Nat) (q : BI) : Prop := ∃ p, A.bs[j]? = some p ∧ q.1 = hd p ∧ SlV q.2 ∧ TR n W q.2 p
theorem below_undr {w w' : World} (h : Below w.drew.heap.size w.drew w') : Below w.heap.size w w' := ⟨h.os, h.tape, h.output, h.size, h.block⟩
/-- What own tells. -/
def OwnP {n : Nat} (t : Ty n) (w : World) (e : Ending) (w2 : World) : Prop := ∃ a1 m1 c1 a2 m2 c2 a3 m3 c3 a4 m4 c4, e = .returned (.agg #[.int .i64 (hd t).1, .int .i64 (hd t).2.1, .bool (hd t).2.2, .slice a1 m1 c1, .slice a2 m2 c2, .slice a3 m3 c3, .slice a4 m4 c4]) ∧ Below w.heap.size w w2 ∧ ∀ W, (∀ x, w.heap.size ≤ x → x < w2.heap.size → W.heap[x]? = w2.heap[x]?) → TR n W ⟨.slice a1 m1 c1, .slice a2 m2 c2, .slice a3 m3 c3, .slice a4 m4 c4⟩ t
def OwnR (w0 : World) (n : Nat) : Prop := ∀ (t : Ty n) (V : TV) (w' : World), Below w0.heap.size w0 w' → TR n w0 V t → Calls Try.prog 11 #[tyV (hd t) V] w' (OwnP t w')
theorem ownsRow_agr {w w' : World} {B k : Nat} {T : TypeId} {v : Value} {n : Nat} {xs : List Value} (h : w.ownsRow B T k v n xs) (ha : ∀ x, v.ownBlock = some x → w'.heap[x]? = w.heap[x]?) : w'.ownsRow B T k v n xs := by
  obtain ⟨h1, h2 | ⟨g, cap, cur, rfl, hB, hg, r⟩⟩ := h
  · exact ⟨h1, .inl h2⟩
  · exact ⟨h1, .inr ⟨g, cap, cur, rfl, hB, (ha g rfl).trans hg, r⟩⟩
/-- Nothing that was has turned but p. -/
structure Kep (wc wr : World) (p : Nat) : Prop where
  old : ∀ x, x < wc.heap.size → x ≠ p → wr.heap[x]? = wc.heap[x]?
  size : wc.heap.size ≤ wr.heap.size
def TyRow (w : World) (p : Nat) (c wd : Int) (b : Bool) (f d y n : Value) : Prop := w.heap[p]? = some (.cells #[.int .i64 c, .int .i64 wd, .bool b, f, d, y, n] 28 (0, 0))
theorem set_grown (W : World) (p j : Nat) (v : Value) : W.grownBy (W.setCell ⟨p, j, none⟩ v) (some p) := ⟨rfl, rfl, rfl, by simp [World.setCell], fun k hk hne => Below.heap_setCell _ _ _ _ (fun e => hne (by rw [e]))⟩
theorem own_fnext {n p g9 c9 i : Nat} {A : TyN (Ty n)} {w2 wc wr w5 w6 w7 w8 w9 : World} {c wd a0 z1 z2 : Int} {b z3 : Bool} {vF q8 q9 : Value} {L : List FI} {T : Ty n} {s0 : ByteArray} {V' : TV}
    (hIt : Itm encFI 9 66 (StF A) wc.heap.size wr vF L) (hTr : TyRow wr p c wd b vF q8 (.slice none 0 0) q9) (hKe : Kep wc wr p) (hB : Below w2.heap.size w2 wr) (hp3 : p < wc.heap.size) (hp2 : w2.heap.size ≤ p)
    (hb5 : Below wr.heap.size wr w5) (hs5 : w5.heap.size = wr.heap.size + 1) (hb6 : Below w5.heap.size w5 w6) (stay : ∀ W, (∀ x, w5.heap.size ≤ x → x < w6.heap.size → W.heap[x]? = w6.heap[x]?) → TR n W V' T)
    (h7 : ∀ x, x ≠ wr.heap.size → w7.heap[x]? = w6.heap[x]?) (h7s : w7.heap.size = w6.heap.size) (h7b : Below w2.heap.size w2 w7) (hb8 : Below w7.heap.size w7 w8)
    (ho9 : w9.ownsRow wc.heap.size 66 9 (.slice (some ⟨g9, 0, none⟩) (L.length + 1) c9) (L.length + 1) (L.flatMap encFI ++ encFI (s0, a0, (z1, z2, z3), V'))) (hg9 : w8.grownBy w9 vF.ownBlock) (hat : vF.ownBlock = some g9 ∨ g9 = w8.heap.size)
    (hLi : L.length = i) (hT : A.fs[i]? = some (s0, a0, T)) (hz : hd T = (z1, z2, z3)) (hsl : SlV V') :
    w9.cell? ⟨p, 3, none⟩ = some vF ∧ w9.frozen? ⟨p, 3, none⟩ = false ∧ ∃ w10, w9.setCell ⟨p, 3, none⟩ (.slice (some ⟨g9, 0, none⟩) (L.length + 1) c9) = w10 ∧ Itm encFI 9 66 (StF A) wc.heap.size w10 (.slice (some ⟨g9, 0, none⟩) (L.length + 1) c9) (L ++ [(s0, a0, (z1, z2, z3), V')]) ∧ TyRow w10 p c wd b (.slice (some ⟨g9, 0, none⟩) (L.length + 1) c9) q8 (.slice none 0 0) q9 ∧ Kep wc w10 p ∧ Below w2.heap.size w2 w10 := by
  have s0' := hKe.size
  have s5 := hb5.size
  have s6 := hb6.size
  have s8 := hb8.size
  have s9 := hg9.size
  have hvp : ∀ x, vF.ownBlock = some x → wc.heap.size ≤ x := fun x hx => (World.ownsRow.lt hIt.own x hx).1
  have ht9 : TyRow w9 p c wd b vF q8 (.slice none 0 0) q9 := by
    rw [TyRow, hg9.block p (by omega) (fun e => by have := hvp p e.symm; omega), hb8.block p (by omega), h7 p (by omega), hb6.block p (by omega), hb5.block p (by omega)]
    exact hTr
  have ht9' : w9.heap[p]? = some (.cells #[.int .i64 c, .int .i64 wd, .bool b, vF, q8, .slice none 0 0, q9] 28 (0, 0)) := ht9
  have hg10 := set_grown w9 p 3 (.slice (some ⟨g9, 0, none⟩) (L.length + 1) c9)
  have ht10 := heap_setCell_same _ p 3 _ _ (.slice (some ⟨g9, 0, none⟩) (L.length + 1) c9) ht9'
  obtain ⟨n1, n2, n3⟩ := Itm.next (q := (s0, a0, (z1, z2, z3), V')) hIt hKe.size hb5 hb6 (fun W hW => ⟨(s0, a0, T), by rw [hLi]; exact hT, rfl, rfl, hz.symm, hsl, stay W hW⟩) (fun x hx => h7 x (by omega)) h7s hb8 ho9 hg9 hat hg10 hp3
  refine ⟨cell_of_row _ _ 3 _ _ _ ht9', by simp [World.frozen?, ht9'], _, rfl, n1, ht10, ⟨fun x hx hxp => (n2 x hx hxp).trans (hKe.old x hx hxp), by omega⟩, ?_⟩
  have hb9 : Below w2.heap.size w2 w9 := by
    have h8 : Below w2.heap.size w2 w8 := h7b.trans (hb8.mono h7b.size)
    have hw2 := h8.size
    exact ⟨hg9.os.trans h8.os, hg9.tape.trans h8.tape, hg9.output.trans h8.output, Nat.le_trans h8.size hg9.size, fun x hx => (hg9.block x (Nat.lt_of_lt_of_le hx hw2) (fun e => by have := hvp x e.symm; omega)).trans (h8.block x hx)⟩
  exact Below.setCell (p := ⟨p, 3, none⟩) hb9 hp2 _
theorem ty_made (w : World) (c wd : Int) (b : Bool) (f d y n : Value) : ∃ w1, w.alloc (.cells #[.int .i64 c, .int .i64 wd, .bool b, f, d, y, n] 28) = w1 ∧ Below w.heap.size w w1 ∧ w1.heap.size = w.heap.size + 1 ∧ TyRow w1 w.heap.size c wd b f d y n :=
  ⟨_, rfl, (Below.refl _ _).alloc (Nat.le_refl _) _, World.size_alloc _ _, heap_alloc_new w _⟩
theorem TyRow.cells {w : World} {p : Nat} {c wd : Int} {b : Bool} {f d y n : Value} (h : TyRow w p c wd b f d y n) :
    (∀ j, w.frozen? ⟨p, j, none⟩ = false) ∧ w.cell? ⟨p, 0, none⟩ = some (.int .i64 c) ∧ w.cell? ⟨p, 1, none⟩ = some (.int .i64 wd) ∧ w.cell? ⟨p, 2, none⟩ = some (.bool b) ∧ w.cell? ⟨p, 3, none⟩ = some f ∧ w.cell? ⟨p, 4, none⟩ = some d ∧ w.cell? ⟨p, 5, none⟩ = some y ∧ w.cell? ⟨p, 6, none⟩ = some n := by
  have h' : w.heap[p]? = some (.cells #[.int .i64 c, .int .i64 wd, .bool b, f, d, y, n] 28 (0, 0)) := h
  exact ⟨fun j => by simp [World.frozen?, h'], cell_of_row _ _ 0 _ _ _ h', cell_of_row _ _ 1 _ _ _ h', cell_of_row _ _ 2 _ _ _ h', cell_of_row _ _ 3 _ _ _ h', cell_of_row _ _ 4 _ _ _ h', cell_of_row _ _ 5 _ _ _ h', cell_of_row _ _ 6 _ _ _ h'⟩
theorem own_bnext {n p g9 c9 i : Nat} {A : TyN (Ty n)} {w2 wc wr w6 w8 w9 : World} {c wd z1 z2 : Int} {b z3 : Bool} {vF vB q8 q9 : Value} {L : List BI} {T : Ty n} {V' : TV}
    (hIt : Itm encBI 7 28 (StB A) wc.heap.size wr vB L) (hTr : TyRow wr p c wd b vF q8 vB q9) (hKe : Kep wc wr p) (hB : Below w2.heap.size w2 wr) (hp3 : p < wc.heap.size) (hp2 : w2.heap.size ≤ p)
    (hb6 : Below wr.heap.size wr w6) (stay : ∀ W, (∀ x, wr.heap.size ≤ x → x < w6.heap.size → W.heap[x]? = w6.heap[x]?) → TR n W V' T) (hb8 : Below w6.heap.size w6 w8)
    (ho9 : w9.ownsRow wc.heap.size 28 7 (.slice (some ⟨g9, 0, none⟩) (L.length + 1) c9) (L.length + 1) (L.flatMap encBI ++ encBI ((z1, z2, z3), V'))) (hg9 : w8.grownBy w9 vB.ownBlock) (hat : vB.ownBlock = some g9 ∨ g9 = w8.heap.size)
    (hLi : L.length = i) (hT : A.bs[i]? = some T) (hz : hd T = (z1, z2, z3)) (hsl : SlV V') :
    Below w2.heap.size w2 w9 ∧ w9.cell? ⟨p, 5, none⟩ = some vB ∧ w9.frozen? ⟨p, 5, none⟩ = false ∧ ∃ w10, w9.setCell ⟨p, 5, none⟩ (.slice (some ⟨g9, 0, none⟩) (L.length + 1) c9) = w10 ∧ Itm encBI 7 28 (StB A) wc.heap.size w10 (.slice (some ⟨g9, 0, none⟩) (L.length + 1) c9) (L ++ [((z1, z2, z3), V')]) ∧ TyRow w10 p c wd b vF q8 (.slice (some ⟨g9, 0, none⟩) (L.length + 1) c9) q9 ∧ Kep wc w10 p ∧ Below w2.heap.size w2 w10 := by
  have s0' := hKe.size
  have s6 := hb6.size
  have s8 := hb8.size
  have s9 := hg9.size
  have hvp : ∀ x, vB.ownBlock = some x → wc.heap.size ≤ x := fun x hx => (World.ownsRow.lt hIt.own x hx).1
  have ht9 : TyRow w9 p c wd b vF q8 vB q9 := by
    rw [TyRow, hg9.block p (by omega) (fun e => by have := hvp p e.symm; omega), hb8.block p (by omega), hb6.block p (by omega)]
    exact hTr
  have ht9' : w9.heap[p]? = some (.cells #[.int .i64 c, .int .i64 wd, .bool b, vF, q8, vB, q9] 28 (0, 0)) := ht9
  have hg10 := set_grown w9 p 5 (.slice (some ⟨g9, 0, none⟩) (L.length + 1) c9)
  have ht10 := heap_setCell_same _ p 5 _ _ (.slice (some ⟨g9, 0, none⟩) (L.length + 1) c9) ht9'
  obtain ⟨n1, n2, n3⟩ := Itm.next (q := ((z1, z2, z3), V')) hIt hKe.size (Below.refl wr.heap.size wr) hb6 (fun W hW => ⟨T, by rw [hLi]; exact hT, hz.symm, hsl, stay W hW⟩) (fun x hx => rfl) rfl hb8 ho9 hg9 hat hg10 hp3
  have hb9 : Below w2.heap.size w2 w9 := by
    have h6 : Below w2.heap.size w2 w6 := hB.trans (hb6.mono hB.size)
    have h8 : Below w2.heap.size w2 w8 := h6.trans (hb8.mono h6.size)
    have hw2 := h8.size
    exact ⟨hg9.os.trans h8.os, hg9.tape.trans h8.tape, hg9.output.trans h8.output, Nat.le_trans h8.size hg9.size, fun x hx => (hg9.block x (Nat.lt_of_lt_of_le hx hw2) (fun e => by have := hvp x e.symm; omega)).trans (h8.block x hx)⟩
  exact ⟨hb9, cell_of_row _ _ 5 _ _ _ ht9', by simp [World.frozen?, ht9'], _, rfl, n1, ht10, ⟨fun x hx hxp => (n2 x hx hxp).trans (hKe.old x hx hxp), by omega⟩, Below.setCell (p := ⟨p, 5, none⟩) hb9 hp2 _⟩
theorem own_bcall {n p : Nat} {A : TyN (Ty n)} {w2 wc wr w6 w8 : World} {c wd z1 z2 : Int} {b z3 : Bool} {vF vB q8 q9 f d y m : Value} {L : List BI}
    (hIt : Itm encBI 7 28 (StB A) wc.heap.size wr vB L) (hTr : TyRow wr p c wd b vF q8 vB q9) (hKe : Kep wc wr p) (hB : Below w2.heap.size w2 wr) (hp3 : p < wc.heap.size)
    (hb6 : Below wr.heap.size wr w6) (hb8 : Below w6.heap.size w6 w8) (hr8 : TyRow w8 w6.heap.size z1 z2 z3 f d y m) {sf : ∀ u ∈ [f, d, y, m], u.oneCell' = true} :
    Hid (w8.ownsRow wc.heap.size 28 7 vB L.length (L.flatMap encBI)) ∧ Hid (∀ j u, (encBI ((z1, z2, z3), ⟨f, d, y, m⟩))[j]? = some u → w8.cell? ((⟨w6.heap.size, 0, none⟩ : Addr).add j) = some u) ∧ Hid (∀ u ∈ encBI ((z1, z2, z3), ⟨f, d, y, m⟩), u.oneCell' = true) ∧ Hid (wc.heap.size ≤ w8.heap.size) ∧ Below w2.heap.size w2 w6 ∧ Below w2.heap.size w2 w8 ∧ w6.cell? ⟨p, 5, none⟩ = some vB ∧ w8.cell? ⟨p, 5, none⟩ = some vB := by
  have s0' := hKe.size
  have s6 := hb6.size
  have s8 := hb8.size
  have h6 : Below w2.heap.size w2 w6 := hB.trans (hb6.mono hB.size)
  have ht6 : w6.heap[p]? = some (.cells #[.int .i64 c, .int .i64 wd, .bool b, vF, q8, vB, q9] 28 (0, 0)) := (hb6.block p (by omega)).trans hTr
  have ht8 : w8.heap[p]? = some (.cells #[.int .i64 c, .int .i64 wd, .bool b, vF, q8, vB, q9] 28 (0, 0)) := (hb8.block p (by omega)).trans ht6
  refine ⟨ownsRow_agr hIt.own (fun x hx => ?_), fun j u hj => ?_, fun u hu => ?_, (by omega : wc.heap.size ≤ w8.heap.size), h6, h6.trans (hb8.mono h6.size), cell_of_row _ _ 5 _ _ _ ht6, cell_of_row _ _ 5 _ _ _ ht8⟩
  · have h1 := (World.ownsRow.lt hIt.own x hx).2
    rw [hb8.block x (by omega), hb6.block x h1]
  · obtain ⟨_, l0, l1, l2, l3, l4, l5, l6⟩ := hr8.cells
    rw [addG]
    rcases j with _ | _ | _ | _ | _ | _ | _ | j <;> simp [encBI] at hj <;> subst hj <;> assumption
  · simp [encBI] at hu
    rcases hu with rfl | rfl | rfl | rfl | rfl | rfl | rfl
    · rfl
    · rfl
    · rfl
    · exact sf _ (by simp)
    · exact sf _ (by simp)
    · exact sf _ (by simp)
    · exact sf _ (by simp)
theorem flat_at {α : Type} {enc : α → List Value} {k : Nat} (hk : ∀ x, (enc x).length = k) : ∀ (L : List α) (j : Nat) (q : α), L[j]? = some q → ∀ m u, (enc q)[m]? = some u → (L.flatMap enc)[j * k + m]? = some u
  | [], j, q, h, _, _, _ => by simp at h
  | x :: L, 0, q, h, m, u, hu => by
    obtain rfl : x = q := by simpa using h
    have hm := (List.getElem?_eq_some_iff.1 hu).1
    rw [List.flatMap_cons, Nat.zero_mul, Nat.zero_add, List.getElem?_append_left hm]
    exact hu
  | x :: L, j + 1, q, h, m, u, hu => by
    have h1 := hk x
    rw [List.flatMap_cons, List.getElem?_append_right (by rw [h1, Nat.succ_mul]; omega), h1, show (j + 1) * k + m - k = j * k + m by rw [Nat.succ_mul]; omega]
    exact flat_at hk L j q (by simpa using h) m u hu
/-- A row of items that are all made, as fields. -/
theorem fs_end {n H : Nat} {A : TyN (Ty n)} {w W : World} {v : Value} {L : List FI} (h : Itm encFI 9 66 (StF A) H w v L) (hl : L.length = A.fs.length) (h1 : A.fs.length ≤ 977343669105) (h2 : ∀ q ∈ A.fs, I64 q.2.1) (hW : ∀ x, H ≤ x → x < w.heap.size → W.heap[x]? = w.heap[x]?) : FsR (TR n) hd W v A.fs := by
  refine ⟨h1, h2, ?_⟩
  rcases ownsRow_shape h.own with ⟨rfl, h0⟩ | ⟨g, cap, rfl, hg, hgl, hle, _, _, hc⟩
  · exact ⟨none, 0, by rw [← hl, h0], by omega, fun i q hq => by have := (List.getElem?_eq_some_iff.1 hq).1; omega⟩
  · refine ⟨some ⟨g, 0, none⟩, cap, by rw [hl], by omega, fun i q hq => ?_⟩
    have hi : i < L.length := by rw [hl]; exact (List.getElem?_eq_some_iff.1 hq).1
    obtain ⟨p, hp, e1, e2, e3, e4, e5⟩ := h.later hW i L[i] (List.getElem?_eq_getElem hi)
    obtain rfl : q = p := Option.some.inj (hq.symm.trans hp)
    have hcell : ∀ m u, (encFI L[i])[m]? = some u → W.cell? ⟨g, 0 + i * 9 + m, none⟩ = some u := fun m u hu => by
      have := hc (i * 9 + m) u (flat_at (enc := encFI) (k := 9) (fun x => rfl) L i L[i] (List.getElem?_eq_getElem hi) m u hu)
      rw [Nat.zero_add]
      exact (World.cell?_of_block (w := w) (a := ⟨g, i * 9 + m, none⟩) (hW g hg hgl)).trans this
    refine ⟨g, 0, L[i].2.2.2, rfl, e5, ?_⟩
    have k0 := hcell 0 _ rfl
    have k1 := hcell 1 _ rfl
    have k2 := hcell 2 _ rfl
    have k3 := hcell 3 _ rfl
    have k4 := hcell 4 _ rfl
    rw [e1] at k0
    rw [e2] at k1
    rw [e3] at k2 k3 k4
    exact ⟨k0, k1, k2, k3, k4, hcell 5 _ rfl, hcell 6 _ rfl, hcell 7 _ rfl, hcell 8 _ rfl⟩
theorem bs_end {n H : Nat} {A : TyN (Ty n)} {w W : World} {v : Value} {L : List BI} (h : Itm encBI 7 28 (StB A) H w v L) (hl : L.length = A.bs.length) (h1 : A.bs.length ≤ 1172812402926) (hW : ∀ x, H ≤ x → x < w.heap.size → W.heap[x]? = w.heap[x]?) : BsR (TR n) hd W v A.bs := by
  refine ⟨h1, ?_⟩
  rcases ownsRow_shape h.own with ⟨rfl, h0⟩ | ⟨g, cap, rfl, hg, hgl, hle, _, _, hc⟩
  · exact ⟨none, 0, by rw [← hl, h0], by omega, fun i q hq => by have := (List.getElem?_eq_some_iff.1 hq).1; omega⟩
  · refine ⟨some ⟨g, 0, none⟩, cap, by rw [hl], by omega, fun i q hq => ?_⟩
    have hi : i < L.length := by rw [hl]; exact (List.getElem?_eq_some_iff.1 hq).1
    obtain ⟨p, hp, e1, e4, e5⟩ := h.later hW i L[i] (List.getElem?_eq_getElem hi)
    obtain rfl : q = p := Option.some.inj (hq.symm.trans hp)
    have hcell : ∀ m u, (encBI L[i])[m]? = some u → W.cell? ⟨g, 0 + i * 7 + m, none⟩ = some u := fun m u hu => by
      have := hc (i * 7 + m) u (flat_at (enc := encBI) (k := 7) (fun x => rfl) L i L[i] (List.getElem?_eq_getElem hi) m u hu)
      rw [Nat.zero_add]
      exact (World.cell?_of_block (w := w) (a := ⟨g, i * 7 + m, none⟩) (hW g hg hgl)).trans this
    refine ⟨g, 0, L[i].2, rfl, e5, ?_⟩
    have k0 := hcell 0 _ rfl
    have k1 := hcell 1 _ rfl
    have k2 := hcell 2 _ rfl
    rw [e1] at k0 k1 k2
    exact ⟨k0, k1, k2, hcell 3 _ rfl, hcell 4 _ rfl, hcell 5 _ rfl, hcell 6 _ rfl⟩
theorem results_cellO {fn : Func} {p : Tmp} {ty : TypeId} (h : fn.results = #[.cell p ty]) (tmps : Array Value) (P : Program) (w : World) :
    (results fn tmps).run P w = ((asAddr (tmps.getD p undef)).run P w).andThen fun a w₁ => (loadVar ty a).run P w₁ := by
  simp only [results, h]
  simp [Sem.run_bind, Result.andThen]
theorem ty_set7 {W : World} {p : Nat} {c wd : Int} {b : Bool} {f d y n : Value} (h : TyRow W p c wd b f d y n) (c' wd' : Int) (b' : Bool) (f' d' y' n' : Value) :
    ∃ w7, (((((((W.setCell ⟨p, 0, none⟩ (.int .i64 c')).setCell ⟨p, 1, none⟩ (.int .i64 wd')).setCell ⟨p, 2, none⟩ (.bool b')).setCell ⟨p, 3, none⟩ f').setCell ⟨p, 4, none⟩ d').setCell ⟨p, 5, none⟩ y').setCell ⟨p, 6, none⟩ n') = w7 ∧ TyRow w7 p c' wd' b' f' d' y' n' ∧ (∀ x, x ≠ p → w7.heap[x]? = W.heap[x]?) ∧ w7.heap.size = W.heap.size := by
  have h' : W.heap[p]? = some (.cells #[.int .i64 c, .int .i64 wd, .bool b, f, d, y, n] 28 (0, 0)) := h
  have h2 := fd_s 0 (.int .i64 c') h' (cs' := #[.int .i64 c', .int .i64 wd, .bool b, f, d, y, n]) rfl
  have h3 := fd_s 1 (.int .i64 wd') h2 (cs' := #[.int .i64 c', .int .i64 wd', .bool b, f, d, y, n]) rfl
  have h4 := fd_s 2 (.bool b') h3 (cs' := #[.int .i64 c', .int .i64 wd', .bool b', f, d, y, n]) rfl
  have h5 := fd_s 3 f' h4 (cs' := #[.int .i64 c', .int .i64 wd', .bool b', f', d, y, n]) rfl
  have h6 := fd_s 4 d' h5 (cs' := #[.int .i64 c', .int .i64 wd', .bool b', f', d', y, n]) rfl
  have h7 := fd_s 5 y' h6 (cs' := #[.int .i64 c', .int .i64 wd', .bool b', f', d', y', n]) rfl
  have h8 := fd_s 6 n' h7 (cs' := #[.int .i64 c', .int .i64 wd', .bool b', f', d', y', n']) rfl
  refine ⟨_, rfl, h8, fun x hx => ?_, by simp [World.setCell]⟩
  have k : ∀ (V : World) (j : Nat) (v : Value), (V.setCell ⟨p, j, none⟩ v).heap[x]? = V.heap[x]? := fun V j v => Below.heap_setCell _ _ _ _ (fun e => hx e)
  rw [k, k, k, k, k, k, k]
theorem own_belz {w w1 w2 wr wz : World} {v0 v1 v2 v3 v4 v5 v6 : Value} (h2 : Below w.heap.size w w2) (hr : Below w2.heap.size w2 wr) (hp : w.heap.size ≤ w1.heap.size) (hoz : ∀ x, x ≠ w1.heap.size → wz.heap[x]? = wr.heap[x]?) (hsz : wz.heap.size = wr.heap.size)
    (hwz : (((((((wr.setCell ⟨w1.heap.size, 0, none⟩ v0).setCell ⟨w1.heap.size, 1, none⟩ v1).setCell ⟨w1.heap.size, 2, none⟩ v2).setCell ⟨w1.heap.size, 3, none⟩ v3).setCell ⟨w1.heap.size, 4, none⟩ v4).setCell ⟨w1.heap.size, 5, none⟩ v5).setCell ⟨w1.heap.size, 6, none⟩ v6) = wz) : Below w.heap.size w wz := by
  have h := h2.trans (hr.mono h2.size)
  rw [← hwz]
  exact Below.setCell (p := ⟨w1.heap.size, 6, none⟩) (Below.setCell (p := ⟨w1.heap.size, 5, none⟩) (Below.setCell (p := ⟨w1.heap.size, 4, none⟩) (Below.setCell (p := ⟨w1.heap.size, 3, none⟩) (Below.setCell (p := ⟨w1.heap.size, 2, none⟩) (Below.setCell (p := ⟨w1.heap.size, 1, none⟩) (Below.setCell (p := ⟨w1.heap.size, 0, none⟩) h hp _) hp _) hp _) hp _) hp _) hp _) hp _
end Go.Proofs.Ytojcokdfplldbaa
