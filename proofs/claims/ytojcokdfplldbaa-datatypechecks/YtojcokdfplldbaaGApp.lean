/-
  append onto a row of one's own, of elements of k cells: the new slice written out, and where it lies. Conditions: lengths are such as memory bears.
-/
import Derived.Test.YtojcokdfplldbaaGRow
import Derived.Maps.AppendAt
import Derived.Deep.RegionLaw
namespace Go.Proofs.Ytojcokdfplldbaa
open Go.RowKit
set_option linter.unusedVariables false
set_option maxRecDepth 100000

theorem run_append_G {P : Program} (w : World) (t ty T : TypeId) (i : TypeInfo) (h1 : P.underlying t = some (.slice T)) (h2 : P.info? T = some i) (z : Value) (h3 : i.zero = some z) (k bytes : Nat) (h4 : i.size = k) (h5 : i.bytes = bytes) (h6 : z.cells.size = k) (hk0 : 0 < k)
    (B : Nat) (v : Value) (n : Nat) (xs : List Value) (ad : Addr) (m c : Nat) (news : List Value) (hown : w.ownsRow B T k v n xs) (hl : news.length = m * k) (hnews : ∀ j u, news[j]? = some u → w.cell? (ad.add j) = some u) (hone : ∀ u ∈ news, u.oneCell' = true)
    (h63 : n + m ≤ 9223372036854775807) (hbytes : (n + m) * bytes ≤ 140737488355328) (hm : 1 ≤ m) (hB : B ≤ w.heap.size) :
    ∃ g cap w', (Builtin.append_ #[t, t] ty #[v, .slice (some ad) m c]).run P w = .ok (.slice (some ⟨g, 0, none⟩) (n + m) cap) w' ∧ w'.ownsRow B T k (.slice (some ⟨g, 0, none⟩) (n + m) cap) (n + m) (xs ++ news) ∧ w.grownBy w' v.ownBlock ∧ (v.ownBlock = some g ∨ g = w.heap.size) := by
  obtain ⟨v', w', hr, ho, hg, hn, hat⟩ := run_append_own_at (P := P) w B t ty T i z k bytes h1 h2 h3 h4 h5 h6 hk0 v n xs hown ad m c news hl hnews hone (by unfold maxLen; omega) hbytes hB
  rcases ownsRow_shape ho with ⟨_, h0⟩ | ⟨g, cap, rfl, _⟩
  · omega
  · refine ⟨g, cap, w', hr, ho, hg, ?_⟩
    rcases hat with h | h
    · exact .inl h.symm
    · exact .inr (by simpa [Value.ownBlock] using h)
theorem step_append_G {P : Program} {ops : Array Oper} {o : Oper} {a : Act} {w : World} {K : Act → World → Prop} {Q : Exit → Act → World → Prop} {E : Prop}
    (d : Nat) (hd : o.dst = some d) (hw : Region.wanted o (yielded ops a.tmps) = true) (s x : Operand) (t T : TypeId) (hop : o.op = Op.call { callee := Callee.builtin Builtin.append, args := #[s, x], argTypes := #[t, t] })
    (i : TypeInfo) (h1 : P.underlying t = some (.slice T)) (h2 : P.info? T = some i) (z : Value) (h3 : i.zero = some z) (k bytes : Nat) (h4 : i.size = k) (h5 : i.bytes = bytes) (h6 : z.cells.size = k) (hk0 : 0 < k)
    (B : Nat) (v : Value) (n : Nat) (xs : List Value) (ad : Addr) (m c : Nat) (news : List Value) (hs : a.eval s = v) (hx : a.eval x = .slice (some ad) m c) (hown : w.ownsRow B T k v n xs) (hl : news.length = m * k) (hnews : ∀ j u, news[j]? = some u → w.cell? (ad.add j) = some u) (hone : ∀ u ∈ news, u.oneCell' = true)
    (h63 : n + m ≤ 9223372036854775807) (hbytes : (n + m) * bytes ≤ 140737488355328) (hm : 1 ≤ m) (hB : B ≤ w.heap.size)
    (hK : ∀ g cap w', w'.ownsRow B T k (.slice (some ⟨g, 0, none⟩) (n + m) cap) (n + m) (xs ++ news) → w.grownBy w' v.ownBlock → (v.ownBlock = some g ∨ g = w.heap.size) → K (a.put (some d) (.slice (some ⟨g, 0, none⟩) (n + m) cap)) w') :
    if Region.wanted o (yielded ops a.tmps) = true then Oper.wp P o a w K Q else E := by
  rw [if_pos hw]
  obtain ⟨g, cap, w', hr, ho, hg, hat⟩ := run_append_G (P := P) w t o.type T i h1 h2 z h3 k bytes h4 h5 h6 hk0 B v n xs ad m c news hown hl hnews hone h63 hbytes hm hB
  unfold Oper.wp
  simp [execOp, hop, resolve, invoke, builtin, hs, hx, hr, Result.andThen]
  show K (a.put o.dst _) w'
  rw [hd]
  exact hK g cap w' ho hg hat
theorem wpList_append_G {P : Program} (w : World) {ops : Array Oper} {rest : List Oper} {o : Oper} {a : Act} {Q : Exit → Act → World → Prop} (hgd : o.guard = none) (s x : Operand) (t : TypeId) (ho : o.op = .call { callee := .builtin .append, args := #[s, x], argTypes := #[t, t] })
    (T : TypeId) (i : TypeInfo) (h1 : P.underlying t = some (.slice T)) (h2 : P.info? T = some i) (z : Value) (h3 : i.zero = some z) (k bytes : Nat) (h4 : i.size = k) (h5 : i.bytes = bytes) (h6 : z.cells.size = k) (hk0 : 0 < k)
    (B : Nat) (v : Value) (n : Nat) (xs : List Value) (ad : Addr) (m c : Nat) (news : List Value) (hs : a.eval s = v) (hx : a.eval x = .slice (some ad) m c) (hown : w.ownsRow B T k v n xs) (hl : news.length = m * k) (hnews : ∀ j u, news[j]? = some u → w.cell? (ad.add j) = some u) (hone : ∀ u ∈ news, u.oneCell' = true)
    (h63 : n + m ≤ 9223372036854775807) (hbytes : (n + m) * bytes ≤ 140737488355328) (hm : 1 ≤ m) (hB : B ≤ w.heap.size)
    (h : ∀ g cap w', w'.ownsRow B T k (.slice (some ⟨g, 0, none⟩) (n + m) cap) (n + m) (xs ++ news) → w.grownBy w' v.ownBlock → (v.ownBlock = some g ∨ g = w.heap.size) → wpList P ops Q rest (a.put o.dst (.slice (some ⟨g, 0, none⟩) (n + m) cap)) w') :
    wpList P ops Q (o :: rest) a w := by
  refine wpList_append_own_at w hgd s x t ho B T i z k bytes h1 h2 h3 h4 h5 h6 hk0 v n xs hs hown ad m c news hx hl hnews hone (by unfold maxLen; omega) hbytes hB ?_
  intro v' w' hown' hg hn hat
  rcases ownsRow_shape hown' with ⟨_, h0⟩ | ⟨g, cap, rfl, _⟩
  · omega
  · refine h g cap w' hown' hg ?_
    rcases hat with h | h
    · exact .inl h.symm
    · exact .inr (by simpa [Value.ownBlock] using h)
/-- The one element that was laid behind a new address. -/
theorem news_one {w : World} {xs : List Value} {T : TypeId} {g : Nat} (hg : w.heap[g]? = some (.cells xs.toArray T (0, 0))) : ∀ j u, xs[j]? = some u → w.cell? ((⟨g, 0, none⟩ : Addr).add j) = some u := by
  intro j u hu
  rw [addG, Nat.zero_add, cell_of_row w g j _ _ _ hg]
  simpa using hu
end Go.Proofs.Ytojcokdfplldbaa
