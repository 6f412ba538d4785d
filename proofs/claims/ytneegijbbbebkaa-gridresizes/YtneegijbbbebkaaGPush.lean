/-
  Rows of numbers of the call's own that grow by an append, two beside each other. Conditions: lengths are such as memory bears.
-/
import Derived.Test.YtneegijbbbebkaaGLives
namespace Go.Proofs.Ytneegijbbbebkaa
open Go.RowKit Go.Shelf
set_option linter.unusedVariables false
set_option maxRecDepth 100000

theorem OwnI.nil (w : World) (B : Nat) : OwnI w B (.slice none 0 0) [] := ⟨rfl, .inl ⟨rfl, rfl⟩⟩
theorem OwnI.mono {w : World} {B B' : Nat} {u : Value} {t : List Int} (h : OwnI w B u t) (hB : B' ≤ B) : OwnI w B' u t := by
  obtain ⟨h1, h2 | ⟨g, cap, cur, rfl, hg, r⟩⟩ := h
  · exact ⟨h1, .inl h2⟩
  · exact ⟨h1, .inr ⟨g, cap, cur, rfl, Nat.le_trans hB hg, r⟩⟩
theorem gcZ_snoc (l : List Int) (x : Int) : gc encZ (l ++ [x]) = gc encZ l ++ [.int .i64 x] := by rw [gc_append, gc_one]
theorem own_empty {w : World} {g : Nat} (hg : w.heap[g]? = some (.cells #[] 3 (0, 0))) : w.ownsRow g 3 1 (.slice (some ⟨g, 0, none⟩) 0 0) 0 [] :=
  ⟨rfl, .inr ⟨g, 0, #[], rfl, Nat.le_refl _, hg, Nat.le_refl _, Nat.zero_le _, rfl, rfl⟩⟩
theorem below_al {W X : World} (h : Below W.heap.size W X) (o : Obj) : Below W.heap.size W (X.alloc o) := h.alloc h.size o
theorem bel_grown {W w w' : World} {v : Value} {n B : Nat} {T : TypeId} {k : Nat} {xs : List Value} (h : Below W.heap.size W w) (hv : w.ownsRow B T k v n xs) (hB : W.heap.size ≤ B) (hg : w.grownBy w' v.ownBlock) : Below W.heap.size W w' :=
  ⟨hg.os.trans h.os, hg.tape.trans h.tape, hg.output.trans h.output, Nat.le_trans h.size hg.size, fun x hx => by
    refine (hg.block x (Nat.lt_of_lt_of_le hx h.size) (fun e => ?_)).trans (h.block x hx)
    have := (hv.lt x e.symm).1
    omega⟩
theorem step_run_append {ops : Array Oper} {o : Oper} {a : Act} {w w' : World} {K : Act → World → Prop} {Q : Exit → Act → World → Prop} {E : Prop} {v u v' : Value}
    (hg : o.guard = none) (s x : Operand) (t : TypeId) (hop : o.op = Op.call { callee := Callee.builtin Builtin.append, args := #[s, x], argTypes := #[t, t] }) (hs : a.eval s = v) (hx : a.eval x = u)
    (hr : (Builtin.append_ #[t, t] o.type #[v, u]).run Try.prog w = .ok v' w') (hK : K (a.put o.dst v') w') :
    if Region.wanted o (yielded ops a.tmps) = true then Oper.wp Try.prog o a w K Q else E := by
  have hw : Region.wanted o (yielded ops a.tmps) = true := by simp [Region.wanted, hg]
  rw [if_pos hw]
  unfold Oper.wp
  simp [execOp, hop, resolve, invoke, builtin, hs, hx, hr, Result.andThen]
  exact hK
theorem wpList_run_append {ops : Array Oper} {rest : List Oper} {o : Oper} {a : Act} {w w' : World} {Q : Exit → Act → World → Prop} {v u v' : Value} (hgd : o.guard = none) (s x : Operand) (t : TypeId) (ho : o.op = .call { callee := .builtin .append, args := #[s, x], argTypes := #[t, t] })
    (hs : a.eval s = v) (hx : a.eval x = u) (hr : (Builtin.append_ #[t, t] o.type #[v, u]).run Try.prog w = .ok v' w') (h : wpList Try.prog ops Q rest (a.put o.dst v') w') :
    wpList Try.prog ops Q (o :: rest) a w := by
  refine wpList_plain hgd fun K hK => ?_
  unfold Oper.wp execOp
  simp only [ho, resolve, invoke, builtin, Sem.run_bind, Sem.run_pure, Result.andThen_ok, List.map_toArray, List.map_cons, List.map_nil, hs, hx, hr]
  exact hK _ _ h
theorem run_push_int (w : World) (ty : TypeId) (B : Nat) (v : Value) (l : List Int) (n : Nat) (hn : l.length = n) (g : Nat) (x : Int) (h : OwnI w B v l) (hg : w.heap[g]? = some (.cells #[.int .i64 x] 3 (0, 0))) (hb : n ≤ 1000000000) (hB : B ≤ w.heap.size) :
    ∃ g' cap w', (Builtin.append_ #[22, 22] ty #[v, .slice (some ⟨g, 0, none⟩) 1 1]).run Try.prog w = .ok (.slice (some ⟨g', 0, none⟩) (n + 1) cap) w' ∧ OwnI w' B (.slice (some ⟨g', 0, none⟩) (n + 1) cap) (l ++ [x]) ∧ w.grownBy w' v.ownBlock ∧ (v.ownBlock = some g' ∨ g' = w.heap.size) := by
  obtain ⟨i0, hi, hz, hs, hy⟩ := Try.infoZ
  subst hn
  obtain ⟨g', cap, w', hr, ho, hgr, hat⟩ := run_append_G (P := Try.prog) w 22 ty 3 i0 Try.underlying22 hi (.int .i64 0) hz 1 8 hs hy rfl (by omega) B v l.length (gc encZ l) ⟨g, 0, none⟩ 1 1 [.int .i64 x] h rfl (news_one (xs := [.int .i64 x]) hg) (by simp [Value.oneCell']) (by omega) (by omega) (by omega) hB
  exact ⟨g', cap, w', hr, by unfold OwnI; rw [gcZ_snoc, List.length_append]; exact ho, hgr, hat⟩
theorem step_push_int {ops : Array Oper} {o : Oper} {a : Act} {w : World} {K : Act → World → Prop} {Q : Exit → Act → World → Prop} {E : Prop}
    (hgd : o.guard = none) (s x : Operand) (hop : o.op = Op.call { callee := Callee.builtin Builtin.append, args := #[s, x], argTypes := #[22, 22] })
    (B : Nat) (v : Value) (l : List Int) (n : Nat) (hn : l.length = n) (g : Nat) (y : Int) (hs : a.eval s = v) (hx : a.eval x = .slice (some ⟨g, 0, none⟩) 1 1) (h : OwnI w B v l) (hg : w.heap[g]? = some (.cells #[.int .i64 y] 3 (0, 0))) (hb : n ≤ 1000000000) (hB : B ≤ w.heap.size)
    (hK : ∀ g' cap w', OwnI w' B (.slice (some ⟨g', 0, none⟩) (n + 1) cap) (l ++ [y]) → w.grownBy w' v.ownBlock → (v.ownBlock = some g' ∨ g' = w.heap.size) → K (a.put o.dst (.slice (some ⟨g', 0, none⟩) (n + 1) cap)) w') :
    if Region.wanted o (yielded ops a.tmps) = true then Oper.wp Try.prog o a w K Q else E := by
  obtain ⟨g', cap, w', hr, ho, hgr, hat⟩ := run_push_int w o.type B v l n hn g y h hg hb hB
  exact step_run_append hgd s x _ hop hs hx hr (hK g' cap w' ho hgr hat)
theorem wpList_push_int {ops : Array Oper} {rest : List Oper} {o : Oper} {a : Act} {w : World} {Q : Exit → Act → World → Prop}
    (hgd : o.guard = none) (s x : Operand) (hop : o.op = Op.call { callee := Callee.builtin Builtin.append, args := #[s, x], argTypes := #[22, 22] })
    (B : Nat) (v : Value) (l : List Int) (n : Nat) (hn : l.length = n) (g : Nat) (y : Int) (hs : a.eval s = v) (hx : a.eval x = .slice (some ⟨g, 0, none⟩) 1 1) (h : OwnI w B v l) (hg : w.heap[g]? = some (.cells #[.int .i64 y] 3 (0, 0))) (hb : n ≤ 1000000000) (hB : B ≤ w.heap.size)
    (hK : ∀ g' cap w', OwnI w' B (.slice (some ⟨g', 0, none⟩) (n + 1) cap) (l ++ [y]) → w.grownBy w' v.ownBlock → (v.ownBlock = some g' ∨ g' = w.heap.size) → wpList Try.prog ops Q rest (a.put o.dst (.slice (some ⟨g', 0, none⟩) (n + 1) cap)) w') :
    wpList Try.prog ops Q (o :: rest) a w := by
  obtain ⟨g', cap, w', hr, ho, hgr, hat⟩ := run_push_int w o.type B v l n hn g y h hg hb hB
  exact wpList_run_append hgd s x _ hop hs hx hr (hK g' cap w' ho hgr hat)
/-- Two rows of the call's own, beside each other. -/
structure Two (w : World) (B : Nat) (u : Value) (l : List Int) (v : Value) (m : List Int) : Prop where
  a : OwnI w B u l
  b : OwnI w B v m
  ne : ∀ g, u.ownBlock = some g → v.ownBlock ≠ some g
theorem Two.nil (w : World) (B : Nat) : Two w B (.slice none 0 0) [] (.slice none 0 0) [] := ⟨OwnI.nil _ _, OwnI.nil _ _, fun g h => by cases h⟩
theorem Two.below {w w' : World} {B : Nat} {u v : Value} {l m : List Int} (h : Two w B u l v m) (hb : Below w.heap.size w w') : Two w' B u l v m := ⟨h.a.below hb, h.b.below hb, h.ne⟩
theorem Two.swap {w : World} {B : Nat} {u v : Value} {l m : List Int} (h : Two w B u l v m) : Two w B v m u l := ⟨h.b, h.a, fun g hg e => h.ne g e hg⟩
theorem Two.push {w w' : World} {B : Nat} {u v u' : Value} {l l' m : List Int} {g : Nat} (h : Two w B u l v m) (ho : OwnI w' B u' l') (hg : w.grownBy w' u.ownBlock) (hat : u.ownBlock = some g ∨ g = w.heap.size) (hu : u'.ownBlock = some g) : Two w' B u' l' v m := by
  refine ⟨ho, h.b.kp ((Kp.refl (fun g => some g = u.ownBlock) w).grown hg (fun x _ e => e.symm)) (fun y hy e => h.ne y e.symm hy), fun y hy e => ?_⟩
  rw [hu] at hy
  obtain rfl := Option.some.inj hy
  rcases hat with hat | hat
  · exact h.ne g hat e
  · have := (h.b.lt g e).2
    omega
end Go.Proofs.Ytneegijbbbebkaa
