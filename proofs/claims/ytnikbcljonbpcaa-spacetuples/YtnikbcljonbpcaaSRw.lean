/-
  Rows of numbers, and rows of such rows, of the call's own, and how they grow by an append. Conditions: lengths are such as memory bears.
-/
import Derived.Test.YtnikbcljonbpcaaSTl
namespace Go.Proofs.Ytnikbcljonbpcaa
open Go.RowKit Go.Shelf
set_option linter.unusedVariables false
set_option maxRecDepth 100000

/-- A row of rows of the call's own, from block B on. -/
structure Rw (w : World) (B : Nat) (v : Value) (vs : List Value) (L : List (List Int)) : Prop where
  own : w.ownsRow B 22 1 v L.length vs
  el : ∀ (i : Nat) (u : Value) (t : List Int), vs[i]? = some u → L[i]? = some t → OwnI w B u t ∧ t.length ≤ 17592186043904 ∧ ∀ x ∈ t, I64 x
theorem Rw.nil (w : World) (B : Nat) : Rw w B (.slice none 0 0) [] [] := ⟨⟨rfl, .inl ⟨rfl, rfl⟩⟩, fun i u t h => by simp at h⟩
theorem Rw.len {w : World} {B : Nat} {v : Value} {vs : List Value} {L : List (List Int)} (h : Rw w B v vs L) : vs.length = L.length := by
  have := h.own.1; omega
theorem Rw.below {w w' : World} {B : Nat} {v : Value} {vs : List Value} {L : List (List Int)} (h : Rw w B v vs L) (hb : Below w.heap.size w w') : Rw w' B v vs L :=
  ⟨ownsRow_below h.own hb, fun i u t hu ht => ⟨(h.el i u t hu ht).1.below hb, (h.el i u t hu ht).2⟩⟩
theorem Rw.iss {w : World} {B : Nat} {v : Value} {vs : List Value} {L : List (List Int)} (h : Rw w B v vs L) (hl : L.length ≤ 5864062014634) : Iss w v L := by
  refine ⟨hl, ?_⟩
  rcases ownsRow_shape h.own with ⟨rfl, h0⟩ | ⟨g, cap, rfl, _, _, hle, _, _, hc⟩
  · exact ⟨none, 0, by rw [h0], by omega, fun i l hi => by
      have := (List.getElem?_eq_some_iff.1 hi).1; omega⟩
  · refine ⟨_, cap, rfl, hle, fun i l hi => ?_⟩
    have hil := (List.getElem?_eq_some_iff.1 hi).1
    have hv : vs[i]? = some (vs[i]'(by rw [h.len]; exact hil)) := List.getElem?_eq_getElem _
    refine ⟨g, 0, _, rfl, by rw [Nat.zero_add]; exact hc i _ hv, ?_⟩
    obtain ⟨h1, h2, h3⟩ := h.el i _ l hv hi
    exact h1.is h2 h3
/-- Rows of unlike kinds lie apart. -/
theorem own_apart {w : World} {B B' : Nat} {v u : Value} {n : Nat} {vs : List Value} {t : List Int} (h : w.ownsRow B 22 1 v n vs) (hu : OwnI w B' u t) (g : Nat) (hg : u.ownBlock = some g) : ¬ some g = v.ownBlock := by
  intro e
  obtain ⟨_, ⟨rfl, _⟩ | ⟨g1, c1, cur1, rfl, _, k1, _⟩⟩ := h
  · cases e
  · obtain ⟨_, ⟨rfl, _⟩ | ⟨g2, c2, cur2, rfl, _, k2, _⟩⟩ := hu
    · cases hg
    · simp only [Value.ownBlock, Option.some.injEq] at hg e
      subst hg e
      rw [k1] at k2
      simp at k2
theorem Rw.grown {w w' : World} {B : Nat} {v : Value} {vs : List Value} {L : List (List Int)} (h : Rw w B v vs L) {r : Option Nat} (hg : w.grownBy w' r) (h1 : ∀ g, v.ownBlock = some g → ¬ some g = r) (h2 : ∀ (i : Nat) u t, vs[i]? = some u → L[i]? = some t → ∀ g, u.ownBlock = some g → ¬ some g = r) : Rw w' B v vs L := by
  have hk : Kp (fun g => some g = r) w w' := (Kp.refl _ w).grown hg (fun x _ e => e.symm)
  exact ⟨ownsRow_kp h.own hk h1, fun i u t hu ht => ⟨(h.el i u t hu ht).1.kp hk (h2 i u t hu ht), (h.el i u t hu ht).2⟩⟩
theorem Rw.push {w w' : World} {B : Nat} {v v' u : Value} {vs : List Value} {L : List (List Int)} {t : List Int} {n : Nat} (h : Rw w B v vs L) (hu : OwnI w B u t) (ht : t.length ≤ 17592186043904) (hx : ∀ x ∈ t, I64 x) (hn : L.length + 1 = n) (ho : w'.ownsRow B 22 1 v' n (vs ++ [u])) (hg : w.grownBy w' v.ownBlock) : Rw w' B v' (vs ++ [u]) (L ++ [t]) := by
  have hk : Kp (fun g => some g = v.ownBlock) w w' := (Kp.refl _ w).grown hg (fun x _ e => e.symm)
  subst hn
  refine ⟨by simpa using ho, fun i x y hi hy => ?_⟩
  rcases Nat.lt_or_ge i L.length with hlt | hge
  · rw [List.getElem?_append_left (by rw [h.len]; exact hlt)] at hi
    rw [List.getElem?_append_left hlt] at hy
    obtain ⟨h1, h2⟩ := h.el i x y hi hy
    exact ⟨h1.kp hk (own_apart h.own h1), h2⟩
  · rw [List.getElem?_append_right (by rw [h.len]; exact hge), h.len] at hi
    rw [List.getElem?_append_right hge] at hy
    have h0 : i - L.length = 0 := by
      have := (List.getElem?_eq_some_iff.1 hy).1
      simp at this
      omega
    rw [h0] at hi hy
    obtain rfl : u = x := by simpa using hi
    obtain rfl : t = y := by simpa using hy
    exact ⟨hu.kp hk (own_apart h.own hu), ht, hx⟩
/-- An own row of numbers lies apart from a row of rows that grows. -/
theorem OwnI.grown {w w' : World} {B B' n : Nat} {u v : Value} {t : List Int} {vs : List Value} (hu : OwnI w B u t) (h : w.ownsRow B' 22 1 v n vs) (hg : w.grownBy w' v.ownBlock) : OwnI w' B u t :=
  hu.kp ((Kp.refl _ w).grown hg (fun x _ e => e.symm)) (own_apart h hu)
theorem OwnI.nil (w : World) (B : Nat) : OwnI w B (.slice none 0 0) [] := ⟨rfl, .inl ⟨rfl, rfl⟩⟩
theorem OwnI.mono {w : World} {B B' : Nat} {u : Value} {t : List Int} (h : OwnI w B u t) (hB : B' ≤ B) : OwnI w B' u t := by
  obtain ⟨h1, h2 | ⟨g, cap, cur, rfl, hg, r⟩⟩ := h
  · exact ⟨h1, .inl h2⟩
  · exact ⟨h1, .inr ⟨g, cap, cur, rfl, Nat.le_trans hB hg, r⟩⟩
theorem gcZ_snoc (l : List Int) (x : Int) : gc encZ (l ++ [x]) = gc encZ l ++ [.int .i64 x] := by rw [gc_append, gc_one]
theorem Rw.mono {w : World} {B B' : Nat} {v : Value} {vs : List Value} {L : List (List Int)} (h : Rw w B v vs L) (hB : B' ≤ B) : Rw w B' v vs L := by
  refine ⟨?_, fun i u t hu ht => ⟨(h.el i u t hu ht).1.mono hB, (h.el i u t hu ht).2⟩⟩
  obtain ⟨h1, h2 | ⟨g, cap, cur, rfl, hg, r⟩⟩ := h.own
  · exact ⟨h1, .inl h2⟩
  · exact ⟨h1, .inr ⟨g, cap, cur, rfl, Nat.le_trans hB hg, r⟩⟩
/-- The same, with the rows' values left out. -/
def RwP (w : World) (B : Nat) (v : Value) (L : List (List Int)) : Prop := ∃ vs, Rw w B v vs L
theorem RwP.below {w w' : World} {B : Nat} {v : Value} {L : List (List Int)} (h : RwP w B v L) (hb : Below w.heap.size w w') : RwP w' B v L := ⟨_, h.choose_spec.below hb⟩
theorem RwP.mono {w : World} {B B' : Nat} {v : Value} {L : List (List Int)} (h : RwP w B v L) (hB : B' ≤ B) : RwP w B' v L := ⟨_, h.choose_spec.mono hB⟩
theorem RwP.iss {w : World} {B : Nat} {v : Value} {L : List (List Int)} (h : RwP w B v L) (hl : L.length ≤ 5864062014634) : Iss w v L := h.choose_spec.iss hl
theorem RwP.nil (w : World) (B : Nat) : RwP w B (.slice none 0 0) [] := ⟨[], Rw.nil w B⟩
theorem own_empty {w : World} {g : Nat} (hg : w.heap[g]? = some (.cells #[] 3 (0, 0))) : w.ownsRow g 3 1 (.slice (some ⟨g, 0, none⟩) 0 0) 0 [] :=
  ⟨rfl, .inr ⟨g, 0, #[], rfl, Nat.le_refl _, hg, Nat.le_refl _, Nat.zero_le _, rfl, rfl⟩⟩
theorem below_al {W X : World} (h : Below W.heap.size W X) (o : Obj) : Below W.heap.size W (X.alloc o) := h.alloc h.size o
theorem bel_grown {W w w' : World} {v : Value} {n B : Nat} {T : TypeId} {k : Nat} {xs : List Value} (h : Below W.heap.size W w) (hv : w.ownsRow B T k v n xs) (hB : W.heap.size ≤ B) (hg : w.grownBy w' v.ownBlock) : Below W.heap.size W w' :=
  ⟨hg.os.trans h.os, hg.tape.trans h.tape, hg.output.trans h.output, Nat.le_trans h.size hg.size, fun x hx => by
    refine (hg.block x (Nat.lt_of_lt_of_le hx h.size) (fun e => ?_)).trans (h.block x hx)
    have := (hv.lt x e.symm).1
    omega⟩
theorem run_push_int (w : World) (ty : TypeId) (B : Nat) (v : Value) (l : List Int) (n : Nat) (hn : l.length = n) (g : Nat) (x : Int) (h : OwnI w B v l) (hg : w.heap[g]? = some (.cells #[.int .i64 x] 3 (0, 0))) (hb : n ≤ 1000000000) (hB : B ≤ w.heap.size) :
    ∃ g' cap w', (Builtin.append_ #[22, 22] ty #[v, .slice (some ⟨g, 0, none⟩) 1 1]).run Try.prog w = .ok (.slice (some ⟨g', 0, none⟩) (n + 1) cap) w' ∧ OwnI w' B (.slice (some ⟨g', 0, none⟩) (n + 1) cap) (l ++ [x]) ∧ w.grownBy w' v.ownBlock := by
  obtain ⟨i0, hi, hz, hs, hy⟩ := Try.infoZ
  subst hn
  obtain ⟨g', cap, w', hr, ho, hgr, _⟩ := run_append_G (P := Try.prog) w 22 ty 3 i0 Try.underlying22 hi (.int .i64 0) hz 1 8 hs hy rfl (by omega) B v l.length (gc encZ l) ⟨g, 0, none⟩ 1 1 [.int .i64 x] h rfl (news_one (xs := [.int .i64 x]) hg) (by simp [Value.oneCell']) (by omega) (by omega) (by omega) hB
  exact ⟨g', cap, w', hr, by unfold OwnI; rw [gcZ_snoc, List.length_append]; exact ho, hgr⟩
theorem run_push_row (w : World) (ty : TypeId) (B : Nat) (v : Value) (L : List (List Int)) (n : Nat) (hn : L.length = n) (g : Nat) (ua : Option Addr) (un uc : Nat) (t : List Int) (h : RwP w B v L) (hu : OwnI w B (.slice ua un uc) t) (ht : t.length ≤ 17592186043904) (hx : ∀ x ∈ t, I64 x) (hg : w.heap[g]? = some (.cells #[.slice ua un uc] 22 (0, 0))) (hb : n ≤ 1000000000) (hB : B ≤ w.heap.size) :
    ∃ g' cap w', (Builtin.append_ #[31, 31] ty #[v, .slice (some ⟨g, 0, none⟩) 1 1]).run Try.prog w = .ok (.slice (some ⟨g', 0, none⟩) (n + 1) cap) w' ∧ RwP w' B (.slice (some ⟨g', 0, none⟩) (n + 1) cap) (L ++ [t]) ∧ w.grownBy w' v.ownBlock := by
  obtain ⟨i0, hi, hz, hs, hy⟩ := Try.infoR
  obtain ⟨vs, h⟩ := h
  subst hn
  obtain ⟨g', cap, w', hr, ho, hgr, _⟩ := run_append_G (P := Try.prog) w 31 ty 22 i0 Try.underlying31 hi (.slice none 0 0) hz 1 24 hs hy rfl (by omega) B v L.length vs ⟨g, 0, none⟩ 1 1 [.slice ua un uc] h.own rfl (news_one (xs := [.slice ua un uc]) hg) (by simp [Value.oneCell']) (by omega) (by omega) (by omega) hB
  exact ⟨g', cap, w', hr, ⟨_, h.push hu ht hx rfl ho hgr⟩, hgr⟩
theorem step_run_append {ops : Array Oper} {o : Oper} {a : Act} {w w' : World} {K : Act → World → Prop} {Q : Exit → Act → World → Prop} {E : Prop} {v u v' : Value}
    (hg : o.guard = none) (s x : Operand) (t : TypeId) (hop : o.op = Op.call { callee := Callee.builtin Builtin.append, args := #[s, x], argTypes := #[t, t] }) (hs : a.eval s = v) (hx : a.eval x = u)
    (hr : (Builtin.append_ #[t, t] o.type #[v, u]).run Try.prog w = .ok v' w') (hK : K (a.put o.dst v') w') :
    if Region.wanted o (yielded ops a.tmps) = true then Oper.wp Try.prog o a w K Q else E := by
  have hw : Region.wanted o (yielded ops a.tmps) = true := by simp [Region.wanted, hg]
  rw [if_pos hw]
  unfold Oper.wp
  simp [execOp, hop, resolve, invoke, builtin, hs, hx, hr, Result.andThen]
  exact hK
theorem wpList_run_append {ops : Array Oper} {rest : List Oper} {o : Oper} {a : Act} {w w' : World} {Q : Exit → Act → World → Prop} {v u v' : Value} (hgd : o.guard = none) (s x : Operand) (t : TypeId) (ho : o.op = .call { callee := .builtin .append, args := #[s, x], argTypes := #[t, t] })
    (hs : a.eval s = v) (hx : a.eval x = u) (hr : (Builtin.append_ #[t, t] o.type #[v, u]).run Try.prog w = .ok v' w') (h : wpList Try.prog ops Q rest (a.put o.dst v') w') :
    wpList Try.prog ops Q (o :: rest) a w := by
  refine wpList_plain hgd fun K hK => ?_
  unfold Oper.wp execOp
  simp only [ho, resolve, invoke, builtin, Sem.run_bind, Sem.run_pure, Result.andThen_ok, List.map_toArray, List.map_cons, List.map_nil, hs, hx, hr]
  exact hK _ _ h
theorem step_push_int {ops : Array Oper} {o : Oper} {a : Act} {w : World} {K : Act → World → Prop} {Q : Exit → Act → World → Prop} {E : Prop}
    (hgd : o.guard = none) (s x : Operand) (hop : o.op = Op.call { callee := Callee.builtin Builtin.append, args := #[s, x], argTypes := #[22, 22] })
    (B : Nat) (v : Value) (l : List Int) (n : Nat) (hn : l.length = n) (g : Nat) (y : Int) (hs : a.eval s = v) (hx : a.eval x = .slice (some ⟨g, 0, none⟩) 1 1) (h : OwnI w B v l) (hg : w.heap[g]? = some (.cells #[.int .i64 y] 3 (0, 0))) (hb : n ≤ 1000000000) (hB : B ≤ w.heap.size)
    (hK : ∀ g' cap w', OwnI w' B (.slice (some ⟨g', 0, none⟩) (n + 1) cap) (l ++ [y]) → w.grownBy w' v.ownBlock → K (a.put o.dst (.slice (some ⟨g', 0, none⟩) (n + 1) cap)) w') :
    if Region.wanted o (yielded ops a.tmps) = true then Oper.wp Try.prog o a w K Q else E := by
  obtain ⟨g', cap, w', hr, ho, hgr⟩ := run_push_int w o.type B v l n hn g y h hg hb hB
  exact step_run_append hgd s x _ hop hs hx hr (hK g' cap w' ho hgr)
theorem wpList_push_int {ops : Array Oper} {rest : List Oper} {o : Oper} {a : Act} {w : World} {Q : Exit → Act → World → Prop}
    (hgd : o.guard = none) (s x : Operand) (hop : o.op = Op.call { callee := Callee.builtin Builtin.append, args := #[s, x], argTypes := #[22, 22] })
    (B : Nat) (v : Value) (l : List Int) (n : Nat) (hn : l.length = n) (g : Nat) (y : Int) (hs : a.eval s = v) (hx : a.eval x = .slice (some ⟨g, 0, none⟩) 1 1) (h : OwnI w B v l) (hg : w.heap[g]? = some (.cells #[.int .i64 y] 3 (0, 0))) (hb : n ≤ 1000000000) (hB : B ≤ w.heap.size)
    (hK : ∀ g' cap w', OwnI w' B (.slice (some ⟨g', 0, none⟩) (n + 1) cap) (l ++ [y]) → w.grownBy w' v.ownBlock → wpList Try.prog ops Q rest (a.put o.dst (.slice (some ⟨g', 0, none⟩) (n + 1) cap)) w') :
    wpList Try.prog ops Q (o :: rest) a w := by
  obtain ⟨g', cap, w', hr, ho, hgr⟩ := run_push_int w o.type B v l n hn g y h hg hb hB
  exact wpList_run_append hgd s x _ hop hs hx hr (hK g' cap w' ho hgr)
theorem step_push_row {ops : Array Oper} {o : Oper} {a : Act} {w : World} {K : Act → World → Prop} {Q : Exit → Act → World → Prop} {E : Prop}
    (hgd : o.guard = none) (s x : Operand) (hop : o.op = Op.call { callee := Callee.builtin Builtin.append, args := #[s, x], argTypes := #[31, 31] })
    (B : Nat) (v : Value) (L : List (List Int)) (n : Nat) (hn : L.length = n) (g : Nat) (ua : Option Addr) (un uc : Nat) (t : List Int) (hs : a.eval s = v) (hx : a.eval x = .slice (some ⟨g, 0, none⟩) 1 1) (h : RwP w B v L) (hu : OwnI w B (.slice ua un uc) t) (ht : t.length ≤ 17592186043904) (hi : ∀ x ∈ t, I64 x) (hg : w.heap[g]? = some (.cells #[.slice ua un uc] 22 (0, 0))) (hb : n ≤ 1000000000) (hB : B ≤ w.heap.size)
    (hK : ∀ g' cap w', RwP w' B (.slice (some ⟨g', 0, none⟩) (n + 1) cap) (L ++ [t]) → w.grownBy w' v.ownBlock → K (a.put o.dst (.slice (some ⟨g', 0, none⟩) (n + 1) cap)) w') :
    if Region.wanted o (yielded ops a.tmps) = true then Oper.wp Try.prog o a w K Q else E := by
  obtain ⟨g', cap, w', hr, ho, hgr⟩ := run_push_row w o.type B v L n hn g ua un uc t h hu ht hi hg hb hB
  exact step_run_append hgd s x _ hop hs hx hr (hK g' cap w' ho hgr)
theorem wpList_push_row {ops : Array Oper} {rest : List Oper} {o : Oper} {a : Act} {w : World} {Q : Exit → Act → World → Prop}
    (hgd : o.guard = none) (s x : Operand) (hop : o.op = Op.call { callee := Callee.builtin Builtin.append, args := #[s, x], argTypes := #[31, 31] })
    (B : Nat) (v : Value) (L : List (List Int)) (n : Nat) (hn : L.length = n) (g : Nat) (ua : Option Addr) (un uc : Nat) (t : List Int) (hs : a.eval s = v) (hx : a.eval x = .slice (some ⟨g, 0, none⟩) 1 1) (h : RwP w B v L) (hu : OwnI w B (.slice ua un uc) t) (ht : t.length ≤ 17592186043904) (hi : ∀ x ∈ t, I64 x) (hg : w.heap[g]? = some (.cells #[.slice ua un uc] 22 (0, 0))) (hb : n ≤ 1000000000) (hB : B ≤ w.heap.size)
    (hK : ∀ g' cap w', RwP w' B (.slice (some ⟨g', 0, none⟩) (n + 1) cap) (L ++ [t]) → w.grownBy w' v.ownBlock → wpList Try.prog ops Q rest (a.put o.dst (.slice (some ⟨g', 0, none⟩) (n + 1) cap)) w') :
    wpList Try.prog ops Q (o :: rest) a w := by
  obtain ⟨g', cap, w', hr, ho, hgr⟩ := run_push_row w o.type B v L n hn g ua un uc t h hu ht hi hg hb hB
  exact wpList_run_append hgd s x _ hop hs hx hr (hK g' cap w' ho hgr)
theorem wpList_app_is {ops : Array Oper} {rest : List Oper} {o : Oper} {a : Act} {w : World} {Q : Exit → Act → World → Prop}
    (hgd : o.guard = none) (s x : Operand) (hop : o.op = Op.call { callee := Callee.builtin Builtin.append, args := #[s, x], argTypes := #[22, 22] }) (B : Nat) (ao : Option Addr) (n cap : Nat) (t : List Int) (hs : a.eval s = .slice (some ⟨B, 0, none⟩) 0 0) (hx : a.eval x = .slice ao n cap)
    (hown : w.ownsRow B 3 1 (.slice (some ⟨B, 0, none⟩) 0 0) 0 []) (h : Is w (.slice ao n cap) t) (hn : n ≤ 4) (hB : B ≤ w.heap.size)
    (hK : ∀ ao' cap' w', w'.ownsRow B 3 1 (.slice ao' n cap') n (gc encZ t) → w.grownBy w' (some B) → wpList Try.prog ops Q rest (a.put o.dst (.slice ao' n cap')) w') :
    wpList Try.prog ops Q (o :: rest) a w := by
  obtain ⟨ao', cap', w', hr, ho, hgr⟩ := run_app_is w o.type B ao n cap t hown h hn hB
  exact wpList_run_append hgd s x _ hop hs hx hr (hK ao' cap' w' ho hgr)
end Go.Proofs.Ytnikbcljonbpcaa
