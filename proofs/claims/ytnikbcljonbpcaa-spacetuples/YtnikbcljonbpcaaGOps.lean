/-
  Rows of one's own: cells moved within a row, a row's end cleared, noughts laid behind a row that has no room. Conditions: lengths are such as memory bears.
-/
import Derived.Test.YtnikbcljonbpcaaGSep
import Derived.Lib.AppendZerosOnto
import Derived.Lib.SliceRun
namespace Go.Proofs.Ytnikbcljonbpcaa
open Go.RowKit
set_option linter.unusedVariables false
set_option maxRecDepth 100000

/-- A row with one of its spare places. -/
theorem ownsRow_room {w : World} {B k n g cap : Nat} {T : TypeId} {xs : List Value} (h : w.ownsRow B T k (.slice (some ⟨g, 0, none⟩) n cap) n xs) (hr : n + 1 ≤ cap) : ∃ ys, ys.length = k ∧ w.ownsRow B T k (.slice (some ⟨g, 0, none⟩) (n + 1) cap) (n + 1) (xs ++ ys) := by
  obtain ⟨h1', ⟨h2, _⟩ | ⟨g', cap', cur, hv, hB, hg, hle, hmm, hs', ht⟩⟩ := h
  · cases h2
  · injection hv with e1 e2 e3
    obtain rfl : g = g' := by simpa using e1
    subst e3
    have hnk : (n + 1) * k ≤ cur.toList.length := by rw [Array.length_toList, hs']; exact Nat.mul_le_mul_right _ hr
    have hsm : (n + 1) * k = n * k + k := Nat.succ_mul n k
    refine ⟨(cur.toList.drop (n * k)).take k, by rw [List.length_take, List.length_drop]; omega, ?_, .inr ⟨g, cap, cur, rfl, hB, hg, hr, hmm, hs', ?_⟩⟩
    · rw [List.length_append, h1', List.length_take, List.length_drop]; omega
    · rw [← ht, hsm, List.take_add]
theorem shape_row {w : World} {B k n g cap : Nat} {T : TypeId} {xs : List Value} (h : w.ownsRow B T k (.slice (some ⟨g, 0, none⟩) n cap) n xs) : w.shape? g = some (T, cap * k) := by
  obtain ⟨h1', ⟨h2, _⟩ | ⟨g', cap', cur, hv, hB, hg, hle, hmm, hs', ht⟩⟩ := h
  · cases h2
  · injection hv with e1 e2 e3
    obtain rfl : g = g' := by simpa using e1
    subst e3
    simp [World.shape?, hg, hs']
theorem gc_drop {α : Type} {enc : α → List Value} {k : Nat} (hk : ∀ x, (enc x).length = k) (l : List α) (n : Nat) : (gc enc l).drop (n * k) = gc enc (l.drop n) := by
  induction l generalizing n with
  | nil => simp [gc]
  | cons x l ih =>
    cases n with
    | zero => simp
    | succ n =>
      have h1 : gc enc (x :: l) = enc x ++ gc enc l := by simp [gc]
      rw [h1, List.drop_succ_cons, ← ih n, show (n + 1) * k = (enc x).length + n * k by rw [hk, Nat.succ_mul]; omega, List.drop_length_add_append]
theorem run_appIn_own {P : Program} (w : World) (t ty e : TypeId) (i : TypeInfo) (h1 : P.underlying t = some (.slice e)) (h2 : P.info? e = some i) (k : Nat) (h4 : i.size = k)
    (B g n cap a : Nat) (xs : List Value) (hown : w.ownsRow B e k (.slice (some ⟨g, 0, none⟩) n cap) n xs) (ha : a ≤ n) (ad : Addr) (m c : Nat) (news : List Value) (hl : news.length = m * k) (hnews : ∀ j u, news[j]? = some u → w.cell? (ad.add j) = some u) (hone : ∀ u ∈ news, u.oneCell' = true) (hroom : a + m ≤ cap) :
    ∃ w', (Builtin.append_ #[t, t] ty #[.slice (some ⟨g, 0, none⟩) a cap, .slice (some ad) m c]).run P w = .ok (.slice (some ⟨g, 0, none⟩) (a + m) cap) w' ∧ w'.ownsRow B e k (.slice (some ⟨g, 0, none⟩) (a + m) cap) (a + m) (xs.take (a * k) ++ news) ∧ w.grownBy w' (some g) := by
  subst h4
  have hown' := ownsRow_take hown ha
  obtain ⟨h1', ⟨h2', _⟩ | ⟨g', cap', cur, hv, hB, hg, hle, hmm, hs', ht⟩⟩ := hown'
  · cases h2'
  · injection hv with e1 e2 e3
    obtain rfl : g = g' := by simpa using e1
    subst e3
    have hlen : (xs.take (a * i.size) ++ news).length = (a + m) * i.size := by rw [List.length_append, h1', hl, Nat.add_mul]
    have hfit : a * i.size + news.length ≤ cur.size := by rw [hl, hs', ← Nat.add_mul]; exact Nat.mul_le_mul_right _ hroom
    have hr := run_append_room (P := P) w t ty e i h1 h2 g a cap cur hg ad m c news hl hnews hone hroom hfit
    refine ⟨_, hr, ⟨hlen, .inr ⟨g, cap, _, rfl, hB, setRow_heap w g cur _ e _ hg, hroom, hmm, ?_, ?_⟩⟩, ⟨rfl, rfl, rfl, by simp, fun k _ hk => setRow_other w g k _ (fun e => hk (by simp [e]))⟩⟩
    · simp only [List.size_toArray, List.length_append, List.length_take, List.length_drop, Array.length_toList]
      omega
    · rw [ht, ← hlen]
      exact List.take_left
theorem run_clear_own {P : Program} (w : World) (t e ty : TypeId) (z : Value) (k : Nat) (ht : P.underlying t = some (.slice e)) (hv : ∀ w, (zeroValue e).run P w = .ok z w) (hz : z.cells.size = k) (hz1 : ∀ u ∈ z.cells.toList, u.oneCell' = true) (hk0 : 0 < k)
    (B g a cap r c : Nat) (xs : List Value) (hown : w.ownsRow B e k (.slice (some ⟨g, 0, none⟩) a cap) a xs) (hr : 0 < r) (hroom : a + r ≤ cap) :
    ∃ w', (Builtin.clear_ #[t] ty #[.slice (some ⟨g, a * k, none⟩) r c]).run P w = .ok (.tuple #[]) w' ∧ w'.ownsRow B e k (.slice (some ⟨g, 0, none⟩) a cap) a xs ∧ w.grownBy w' (some g) := by
  obtain ⟨h1', ⟨h2', _⟩ | ⟨g', cap', cur, hv', hB, hg, hle, hmm, hs', ht'⟩⟩ := hown
  · cases h2'
  · injection hv' with e1 e2 e3
    obtain rfl : g = g' := by simpa using e1
    subst e3
    have hzl : (Builtin.zeroCells z.cells r).toList.length = r * k := by rw [Array.length_toList, size_zeroCells, hz]
    have hz2 : ∀ u ∈ (Builtin.zeroCells z.cells r).toList, u.oneCell' = true := by
      intro u hu
      simp only [Builtin.zeroCells, Array.toList_map, List.mem_map] at hu
      obtain ⟨j, _, rfl⟩ := hu
      have hlt : j % z.cells.size < z.cells.size := Nat.mod_lt _ (by omega)
      rw [getElem!_pos z.cells _ hlt]
      exact hz1 _ (Array.getElem_mem_toList hlt)
    have hfit : a * k + (Builtin.zeroCells z.cells r).toList.length ≤ cur.size := by rw [hzl, hs', ← Nat.add_mul]; exact Nat.mul_le_mul_right _ hroom
    have hst := run_storeCells_at P g (a * k) e (Builtin.zeroCells z.cells r).toList 0 cur w hg (by simpa using hfit) hz2
    simp only [Nat.add_zero] at hst
    obtain ⟨q, rfl⟩ : ∃ q, r = q + 1 := ⟨r - 1, by omega⟩
    refine ⟨w.setRow g (cur.toList.take (a * k) ++ (Builtin.zeroCells z.cells (q + 1)).toList ++ cur.toList.drop (a * k + (Builtin.zeroCells z.cells (q + 1)).toList.length)).toArray, by simp only [Builtin.clear_, run_underlying ht, hv, hst, Sem.run_bind, Sem.run_pure, Result.andThen_ok, List.getElem?_toArray, List.getElem?_cons_zero], ?_, ?_⟩
    · refine ⟨h1', .inr ⟨g, cap, _, rfl, hB, setRow_heap w g cur _ e _ hg, hle, hmm, ?_, ?_⟩⟩
      · simp only [List.size_toArray, List.length_append, List.length_take, List.length_drop, Array.length_toList] at hfit ⊢
        omega
      · rw [List.append_assoc, List.take_append_of_le_length (by simp only [List.length_take, Array.length_toList]; omega), List.take_take, Nat.min_self, ht']
    · exact ⟨rfl, rfl, rfl, by simp [World.setRow], fun x hx hne => setRow_other w g x _ (fun e => hne (by rw [e]))⟩
theorem run_appZ_own {P : Program} (w : World) (t tn ty e : TypeId) (i : TypeInfo) (h1 : P.underlying t = some (.slice e)) (htn : P.underlying tn = some (.int .i64)) (h2 : P.info? e = some i) (z : Value) (h3 : i.zero = some z) (k bytes : Nat) (h4 : i.size = k) (h5 : i.bytes = bytes) (h6 : z.cells.size = k) (hk0 : 0 < k)
    (B g n cap a : Nat) (xs : List Value) (hown : w.ownsRow B e k (.slice (some ⟨g, 0, none⟩) n cap) n xs) (ha : a ≤ n) (m : Nat) (hm : 0 < m) (hroom : cap < a + m) (hbig : (a + m) * bytes ≤ 140737488355328) (hsm : a + m ≤ 9223372036854775807) (hB : B ≤ w.heap.size) :
    ∃ cap' w' ys, (Builtin.append_ #[t, tn] ty #[.slice (some ⟨g, 0, none⟩) a cap, .int .i64 m]).run P w = .ok (.slice (some ⟨w.heap.size, 0, none⟩) (a + m) cap') w' ∧ ys.length = m * k ∧ w'.ownsRow B e k (.slice (some ⟨w.heap.size, 0, none⟩) (a + m) cap') (a + m) (xs.take (a * k) ++ ys) ∧ Below w.heap.size w w' := by
  subst h4 h5
  have hown' := ownsRow_take hown ha
  have hcells := World.ownsRow.cells hown' (g := g) rfl
  have hold : (Builtin.firstCells i.size a (.slice (some ⟨g, 0, none⟩) a cap)).run P w.drew = .ok (xs.take (a * i.size)).toArray w.drew :=
    run_firstCells_some w.drew i.size a ⟨g, 0, none⟩ a cap (xs.take (a * i.size)) hown'.1 (fun j v hj => hcells j v hj)
  have hfit := growslice_fits hroom hbig
  have hr := Lib.run_append_grow_zeros w t tn ty e i z .i64 .i64 h1 htn h2 h3 (some ⟨g, 0, none⟩) a cap _ hold m hm hk0 hroom (by omega) (by have := Nat.mul_le_mul_right i.bytes (Nat.le_add_left m a); omega) hfit
  have hge := grownCap_ge w (a + m) cap e
  have hcm : grownCap w (a + m) cap e ≤ maxLen := grownCap_le_maxLen w (a + m) cap e (by unfold maxLen; omega)
  refine ⟨_, _, (Builtin.zeroCells z.cells m).toList, hr, by rw [Array.length_toList, size_zeroCells, h6], ⟨?_, .inr ⟨w.heap.size, _, _, rfl, hB, heap_alloc_new w.drew _, hge, hcm, ?_, ?_⟩⟩, ?_⟩
  · rw [List.length_append, hown'.1, Array.length_toList, size_zeroCells, h6, Nat.add_mul]
  · simp only [Array.size_append, List.size_toArray, size_zeroCells, h6, hown'.1, ← Nat.add_mul]
    congr 1
    omega
  · simp only [Array.toList_append, List.append_assoc]
    rw [← List.append_assoc]
    have : (a + m) * i.size = (xs.take (a * i.size) ++ (Builtin.zeroCells z.cells m).toList).length := by rw [List.length_append, hown'.1, Array.length_toList, size_zeroCells, h6, Nat.add_mul]
    rw [this]
    exact List.take_left
  · exact ⟨rfl, rfl, rfl, by simp, fun x hx => (World.grownBy_alloc w.drew _ none).block x hx (by simp)⟩
/-- append within a row, as a step. -/
theorem step_appIn_own {P : Program} {ops : Array Oper} {o : Oper} {a : Act} {w : World} {K : Act → World → Prop} {Q : Exit → Act → World → Prop} {E : Prop}
    (hg : o.guard = none) (s x : Operand) (t : TypeId) (hop : o.op = Op.call { callee := Callee.builtin Builtin.append, args := #[s, x], argTypes := #[t, t] })
    (e : TypeId) (i : TypeInfo) (h1 : P.underlying t = some (.slice e)) (h2 : P.info? e = some i) (k : Nat) (h4 : i.size = k)
    (B g n cap l : Nat) (xs : List Value) (hown : w.ownsRow B e k (.slice (some ⟨g, 0, none⟩) n cap) n xs) (ha : l ≤ n) (ad : Addr) (m c : Nat) (news : List Value) (hs : a.eval s = .slice (some ⟨g, 0, none⟩) l cap) (hx : a.eval x = .slice (some ad) m c) (hl : news.length = m * k) (hnews : ∀ j u, news[j]? = some u → w.cell? (ad.add j) = some u) (hone : ∀ u ∈ news, u.oneCell' = true) (hroom : l + m ≤ cap)
    (hK : ∀ w', w'.ownsRow B e k (.slice (some ⟨g, 0, none⟩) (l + m) cap) (l + m) (xs.take (l * k) ++ news) → w.grownBy w' (some g) → K (a.put o.dst (.slice (some ⟨g, 0, none⟩) (l + m) cap)) w') :
    if Region.wanted o (yielded ops a.tmps) = true then Oper.wp P o a w K Q else E := by
  have hw : Region.wanted o (yielded ops a.tmps) = true := by simp [Region.wanted, hg]
  rw [if_pos hw]
  obtain ⟨w', hr, ho, hgr⟩ := run_appIn_own (P := P) w t o.type e i h1 h2 k h4 B g n cap l xs hown ha ad m c news hl hnews hone hroom
  unfold Oper.wp
  simp [execOp, hop, resolve, invoke, builtin, hs, hx, hr, Result.andThen]
  exact hK w' ho hgr
/-- clear of a row's end. -/
theorem wpList_clear_own {P : Program} {w : World} {ops : Array Oper} {rest : List Oper} {o : Oper} {a : Act} {Q : Exit → Act → World → Prop} (hgd : o.guard = none) (s : Operand) (t : TypeId) (ho : o.op = .call { callee := .builtin .clear, args := #[s], argTypes := #[t] })
    (e : TypeId) (z : Value) (k : Nat) (ht : P.underlying t = some (.slice e)) (hv : ∀ w, (zeroValue e).run P w = .ok z w) (hz : z.cells.size = k) (hz1 : ∀ u ∈ z.cells.toList, u.oneCell' = true) (hk0 : 0 < k)
    (B g l cap r c : Nat) (xs : List Value) (hs : a.eval s = .slice (some ⟨g, l * k, none⟩) r c) (hown : w.ownsRow B e k (.slice (some ⟨g, 0, none⟩) l cap) l xs) (hr : 0 < r) (hroom : l + r ≤ cap)
    (h : ∀ w', w'.ownsRow B e k (.slice (some ⟨g, 0, none⟩) l cap) l xs → w.grownBy w' (some g) → wpList P ops Q rest (a.put o.dst (.tuple #[])) w') : wpList P ops Q (o :: rest) a w := by
  refine wpList_plain hgd fun K hK' => ?_
  obtain ⟨w', hrun, r1, r2⟩ := run_clear_own (P := P) w t e o.type z k ht hv hz hz1 hk0 B g l cap r c xs hown hr hroom
  unfold Oper.wp
  simp [execOp, ho, resolve, invoke, builtin, hs, hrun, Result.andThen]
  exact hK' _ _ (h w' r1 r2)
end Go.Proofs.Ytnikbcljonbpcaa
