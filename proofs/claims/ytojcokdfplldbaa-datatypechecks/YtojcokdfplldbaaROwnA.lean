/-
  append of a list to an empty row: a new row, and nothing else turns. Conditions: lengths are such as memory bears.
-/
import Derived.Test.YtojcokdfplldbaaDNamed
import Derived.Deep.RegionHeldLaw
import Derived.Laws.AppendOwnNone
namespace Go.Proofs.Ytojcokdfplldbaa
open Go.RowKit
set_option linter.unusedVariables false
set_option maxRecDepth 100000

/-- What append tells: a slice that reads as these cells, in a block that is new. -/
def NewP (w : World) (n : Nat) (news : List Value) (q : Value) (w' : World) : Prop := ∃ g cap, q = .slice (some ⟨g, 0, none⟩) n cap ∧ n ≤ cap ∧ Below w.heap.size w w' ∧ ∀ j u, news[j]? = some u → w.heap.size ≤ g ∧ w'.cell? ⟨g, j, none⟩ = some u
theorem run_app_new (w : World) (t ty e : TypeId) (i : TypeInfo) (z : Value) (k bytes : Nat) (ht : Try.prog.underlying t = some (.slice e)) (hi : Try.prog.info? e = some i) (hz : i.zero = some z) (hk : i.size = k) (hby : i.bytes = bytes) (g0 : Nat) (ao : Option Addr) (n cap : Nat) (news : List Value)
    (hn : ao = none → n = 0) (hl : news.length = n * k) (hnews : ∀ ad, ao = some ad → ∀ j u, news[j]? = some u → w.cell? (ad.add j) = some u) (h48 : n * bytes ≤ 281474976710656) (h63 : (n : Int) ≤ 9223372036854775807) :
    ∃ q w', (Builtin.append_ #[t, t] ty #[.slice (some ⟨g0, 0, none⟩) 0 0, .slice ao n cap]).run Try.prog w = .ok q w' ∧ NewP w n news q w' := by
  subst hk hby
  by_cases h0 : n = 0
  · subst h0
    have hne : news = [] := List.eq_nil_of_length_eq_zero (by rw [hl, Nat.zero_mul])
    refine ⟨.slice (some ⟨g0, 0, none⟩) 0 0, w, ?_, g0, 0, rfl, Nat.le_refl _, Below.refl _ _, fun j u hj => by rw [hne] at hj; simp at hj⟩
    cases ao with
    | none => simp [Builtin.append_, run_underlying ht, sizeOf, typeInfo, hi, Builtin.lenOf, Builtin.firstCells, storeCells]
    | some ad => simp [Builtin.append_, run_underlying ht, sizeOf, typeInfo, hi, Builtin.lenOf, Builtin.firstCells, loadCells, loadCellsFrom, storeCells]
  · cases ao with
    | none => exact absurd (hn rfl) h0
    | some ad =>
      have hr := run_append_grow (P := Try.prog) (w := w) (ty := ty) t e i z ht hi hz ⟨g0, 0, none⟩ 0 0 [] (by simp) (fun j v h => by simp at h) ad n cap news hl (hnews ad rfl) (by omega) (by omega) (by rw [nextslicecap_zero (by omega)]; simpa using h48)
      simp only [Nat.zero_add] at hr
      refine ⟨_, _, hr, w.heap.size, _, rfl, ?_, ?_, fun j u hj => ⟨Nat.le_refl _, ?_⟩⟩
      · exact grownCap_ge w n 0 e
      · exact ((Below.refl _ _).drew).alloc (Nat.le_refl _) _
      · show (w.drew.alloc _).cell? ⟨w.drew.heap.size, j, none⟩ = some u
        rw [World.cell?_alloc_mark]
        have hlt := (List.getElem?_eq_some_iff.1 hj).1
        simp [Array.getElem?_append, hlt]
        exact (List.getElem?_eq_some_iff.1 hj).2
/-- The same as a step in a region that draws. -/
theorem step_app_new {ops : Array Oper} {o : Oper} {a : Act} {w : World} {K : Act → World → Prop} {Q : Exit → Act → World → Prop} {E : Prop}
    (hg : o.guard = none) (s x : Operand) (t e : TypeId) (hop : o.op = Op.call { callee := Callee.builtin Builtin.append, args := #[s, x], argTypes := #[t, t] }) (d : Nat) (hd : o.dst = some d)
    (i : TypeInfo) (z : Value) (k bytes : Nat) (ht : Try.prog.underlying t = some (.slice e)) (hi : Try.prog.info? e = some i) (hz : i.zero = some z) (hk : i.size = k) (hby : i.bytes = bytes) (g0 : Nat) (ao : Option Addr) (n cap : Nat) (news : List Value) (hs : a.eval s = .slice (some ⟨g0, 0, none⟩) 0 0) (hx : a.eval x = .slice ao n cap)
    (hn : ao = none → n = 0) (hl : news.length = n * k) (hnews : ∀ ad, ao = some ad → ∀ j u, news[j]? = some u → w.cell? (ad.add j) = some u) (h48 : n * bytes ≤ 281474976710656) (h63 : (n : Int) ≤ 9223372036854775807)
    (hK : ∀ q w', NewP w n news q w' → K (a.put (some d) q) w') :
    if Region.wanted o (yielded ops a.tmps) = true then Oper.wp Try.prog o a w K Q else E := by
  have hw : Region.wanted o (yielded ops a.tmps) = true := by simp [Region.wanted, hg]
  rw [if_pos hw]
  obtain ⟨q, w', hr, hp⟩ := run_app_new w t o.type e i z k bytes ht hi hz hk hby g0 ao n cap news hn hl hnews h48 h63
  unfold Oper.wp
  simp [execOp, hop, resolve, invoke, builtin, hs, hx, hr, Result.andThen]
  show K (a.put o.dst q) w'
  rw [hd]
  exact hK q w' hp
def encMb (q : ByteArray × Int) : List Value := [.string q.1, .int .i64 q.2]
def mcells (l : List (ByteArray × Int)) : List Value := l.flatMap encMb
theorem mcells_len (l : List (ByteArray × Int)) : (mcells l).length = l.length * 2 := by
  induction l with
  | nil => rfl
  | cons q l ih =>
    show (encMb q ++ mcells l).length = _
    rw [List.length_append, ih, List.length_cons]
    simp [encMb]; omega
theorem mcells_at : ∀ (l : List (ByteArray × Int)) (i : Nat) (q : ByteArray × Int), l[i]? = some q → (mcells l)[i * 2]? = some (.string q.1) ∧ (mcells l)[i * 2 + 1]? = some (.int .i64 q.2)
  | [], i, q, h => by simp at h
  | p :: l, 0, q, h => by
    obtain rfl : p = q := by simpa using h
    exact ⟨rfl, rfl⟩
  | p :: l, i + 1, q, h => by
    obtain ⟨h1, h2⟩ := mcells_at l i q (by simpa using h)
    rw [show (i + 1) * 2 = i * 2 + 2 by omega]
    exact ⟨h1, h2⟩
theorem mcells_get : ∀ (l : List (ByteArray × Int)) (j : Nat) (u : Value), (mcells l)[j]? = some u → ∃ q, l[j / 2]? = some q ∧ u = if j % 2 = 0 then .string q.1 else .int .i64 q.2 := by
  intro l j u h
  have hj : j < l.length * 2 := by have := (List.getElem?_eq_some_iff.1 h).1; rwa [mcells_len] at this
  have hi : j / 2 < l.length := by omega
  obtain ⟨h1, h2⟩ := mcells_at l (j / 2) l[j / 2] (List.getElem?_eq_getElem hi)
  refine ⟨l[j / 2], List.getElem?_eq_getElem hi, ?_⟩
  rcases Nat.mod_two_eq_zero_or_one j with hm | hm
  · rw [show j / 2 * 2 = j by omega, h] at h1
    rw [if_pos hm]; exact Option.some.inj h1
  · rw [show j / 2 * 2 + 1 = j by omega, h] at h2
    rw [if_neg (by omega)]; exact Option.some.inj h2
theorem Is.news {w : World} {ao : Option Addr} {n cap : Nat} {l : List Int} (h : Is w (.slice ao n cap) l) : l.length = n ∧ (ao = none → n = 0) ∧ ∀ ad, ao = some ad → ∀ j u, (l.map fun x => Value.int .i64 x)[j]? = some u → w.cell? (ad.add j) = some u := by
  obtain ⟨h1, h2, ao', cap', e, h3, h4⟩ := h
  injection e with e1 e2 e3
  subst e1 e2 e3
  refine ⟨rfl, fun hn => ?_, fun ad ha j u hj => ?_⟩
  · cases l with
    | nil => rfl
    | cons x l => obtain ⟨g, o, hg, _⟩ := h4 0 x rfl; rw [hn] at hg; cases hg
  · rw [List.getElem?_map, Option.map_eq_some_iff] at hj
    obtain ⟨x, hx, rfl⟩ := hj
    obtain ⟨g, o, hg, hc⟩ := h4 j x hx
    rw [ha] at hg
    obtain rfl := Option.some.inj hg
    have : (⟨g, o, none⟩ : Addr).add j = ⟨g, o + j, none⟩ := by unfold Addr.add; split <;> simp_all
    rw [this]; exact hc
theorem Nms.news {w : World} {ao : Option Addr} {n cap : Nat} {l : List (ByteArray × Int)} (h : Nms w (.slice ao n cap) l) : l.length = n ∧ (ao = none → n = 0) ∧ ∀ ad, ao = some ad → ∀ j u, (mcells l)[j]? = some u → w.cell? (ad.add j) = some u := by
  obtain ⟨h1, h2, ao', cap', e, h3, h4⟩ := h
  injection e with e1 e2 e3
  subst e1 e2 e3
  refine ⟨rfl, fun hn => ?_, fun ad ha j u hj => ?_⟩
  · cases l with
    | nil => rfl
    | cons x l => obtain ⟨g, o, hg, _⟩ := h4 0 x rfl; rw [hn] at hg; cases hg
  · obtain ⟨q, hq, hu⟩ := mcells_get l j u hj
    obtain ⟨g, o, hg, c1, c2⟩ := h4 (j / 2) q hq
    rw [ha] at hg
    obtain rfl := Option.some.inj hg
    have : (⟨g, o, none⟩ : Addr).add j = ⟨g, o + j, none⟩ := by unfold Addr.add; split <;> simp_all
    rw [this]
    rcases Nat.mod_two_eq_zero_or_one j with hm | hm
    · rw [if_pos hm] at hu
      rw [show o + j / 2 * 2 = o + j by omega] at c1
      rw [hu]; exact c1
    · rw [if_neg (by omega)] at hu
      rw [show o + j / 2 * 2 + 1 = o + j by omega] at c2
      rw [hu]; exact c2
theorem Is.made {w w' : World} {q : Value} {l : List Int} {v : Value} (h : Is w v l) (hp : NewP w l.length (l.map fun x => Value.int .i64 x) q w') : Is w' q l := by
  obtain ⟨g, cap, rfl, hc, hb, hn⟩ := hp
  refine ⟨h.len, h.rng, _, cap, rfl, hc, fun i x hx => ⟨g, 0, rfl, ?_⟩⟩
  rw [Nat.zero_add]
  exact (hn i _ (by rw [List.getElem?_map, hx]; rfl)).2
theorem Nms.made {w w' : World} {q : Value} {l : List (ByteArray × Int)} {v : Value} (h : Nms w v l) (hp : NewP w l.length (mcells l) q w') : Nms w' q l := by
  obtain ⟨g, cap, rfl, hc, hb, hn⟩ := hp
  refine ⟨h.len, h.rng, _, cap, rfl, hc, fun i x hx => ⟨g, 0, rfl, ?_⟩⟩
  obtain ⟨h1, h2⟩ := mcells_at l i x hx
  rw [Nat.zero_add]
  exact ⟨(hn _ _ h1).2, (hn _ _ h2).2⟩
end Go.Proofs.Ytojcokdfplldbaa
