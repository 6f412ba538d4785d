/-
  Steps of regions that draw their order, over memory that is a file's own: append to a row, with the block that it lies in then; copy over a row. No conditions but on lengths.
-/
import Derived.Test.YtkiccnedmejnaaaDoorSmall
import Derived.Deep.RegionLaw
import Derived.Deep.RegionHeld
namespace Go.Proofs.YtkiccnedmejnaaaDoor
open Go.RowKit
set_option linter.unusedVariables false
set_option maxRecDepth 100000

/-- append, and where the row lies then: where it lay, or in a new block. -/
theorem append_block {P : Program} (w : World) (base : Nat) (t ty e : TypeId) (i : TypeInfo) (z : Value) (size bytes : Nat) (ht : P.underlying t = some (.slice e)) (hi : P.info? e = some i) (hz : i.zero = some z)
    (hsize : i.size = size) (hby : i.bytes = bytes) (hzs : z.cells.size = size) (hsz : 0 < size)
    (v : Value) (n : Nat) (xs : List Value) (hown : w.ownsRow base e size v n xs)
    (a : Addr) (m c : Nat) (news : List Value) (hl : news.length = m * size) (hnews : ∀ j u, news[j]? = some u → w.cell? (a.add j) = some u) (h1 : ∀ u ∈ news, u.oneCell' = true)
    (h63 : n + m ≤ maxLen) (hbytes : (n + m) * bytes ≤ 140737488355328) (hbase : base ≤ w.heap.size) :
    ∃ v' w', (Builtin.append_ #[t, t] ty #[v, .slice (some a) m c]).run P w = .ok v' w' ∧ w'.ownsRow base e size v' (n + m) (xs ++ news) ∧ w.grownBy w' v.ownBlock ∧
      (∀ k, v'.ownBlock = some k → v.ownBlock = some k ∨ w.heap.size ≤ k) := by
  obtain ⟨v', w', hr, ho, hg, hn⟩ := run_append_own (P := P) w base t ty e i z size bytes ht hi hz hsize hby hzs hsz v n xs hown a m c news hl hnews h1 h63 hbytes hbase
  refine ⟨v', w', hr, ho, hg, fun k hk => ?_⟩
  have hown' := hown
  subst hsize
  subst hby
  have hsmall : n + m ≤ 9223372036854775807 := by simp only [maxLen] at h63; omega
  rcases hown.2 with ⟨rfl, rfl⟩ | ⟨g, cap, cur, rfl, hbg, hgg, hnc, hcm, hcs, htake⟩
  · by_cases hm : m = 0
    · rw [hn.2 ⟨rfl, hm⟩] at hk
      simp [Value.ownBlock] at hk
    · have hr' := run_append_nil (P := P) w t ty e i z ht hi hz a m c news hl hnews (by omega) (by omega) (by have hb := hbytes; simp only [Nat.zero_add] at hb; omega)
      rw [hr] at hr'
      injection hr' with e1 e2
      subst e1
      simp [Value.ownBlock] at hk
      exact .inr (by omega)
  · by_cases hroom : n + m ≤ cap
    · have hfit : n * i.size + news.length ≤ cur.size := by rw [hl, hcs, ← Nat.add_mul]; exact Nat.mul_le_mul_right _ hroom
      have hr' := run_append_room (P := P) w t ty e i ht hi g n cap cur hgg a m c news hl hnews h1 hroom hfit
      rw [hr] at hr'
      injection hr' with e1 e2
      subst e1
      exact .inl hk
    · have hr' := run_append_grow (P := P) w t ty e i z ht hi hz ⟨g, 0, none⟩ n cap xs hown'.1 (hown'.cells (g := g) rfl) a m c news hl hnews (by omega) (by omega) (growslice_fits (by omega) hbytes)
      rw [hr] at hr'
      injection hr' with e1 e2
      subst e1
      simp [Value.ownBlock] at hk
      exact .inr (by omega)

/-- It, as a step. -/
theorem step_append_at {P : Program} {ops : Array Oper} {o : Oper} {a : Act} {w : World} {K : Act → World → Prop} {Q : Exit → Act → World → Prop} {E : Prop}
    (hg : o.guard = none) (s x : Operand) (t : TypeId) (hop : o.op = Op.call { callee := Callee.builtin Builtin.append, args := #[s, x], argTypes := #[t, t] })
    (e : TypeId) (i : TypeInfo) (z : Value) (size bytes : Nat) (h1 : P.underlying t = some (.slice e)) (h2 : P.info? e = some i) (h3 : i.zero = some z) (h4 : i.size = size) (h5 : i.bytes = bytes) (hzs : z.cells.size = size) (hsz : 0 < size)
    (B : Nat) (v : Value) (n : Nat) (xs : List Value) (ad : Addr) (k c : Nat) (news : List Value) (hs : a.eval s = v) (hx : a.eval x = .slice (some ad) k c) (hown : w.ownsRow B e size v n xs) (hl : news.length = k * size)
    (hm : ∀ j u, news[j]? = some u → w.cell? (ad.add j) = some u) (hone : ∀ u ∈ news, u.oneCell' = true)
    (h63 : n + k ≤ maxLen) (hbytes : (n + k) * bytes ≤ 140737488355328) (hB : B ≤ w.heap.size)
    (hK : ∀ ao cap w', w'.ownsRow B e size (.slice ao (n + k) cap) (n + k) (xs ++ news) → w.grownBy w' v.ownBlock → (∀ b, (Value.slice ao (n + k) cap).ownBlock = some b → v.ownBlock = some b ∨ w.heap.size ≤ b) → K (a.put o.dst (.slice ao (n + k) cap)) w') :
    if Region.wanted o (yielded ops a.tmps) = true then Oper.wp P o a w K Q else E := by
  have hw : Region.wanted o (yielded ops a.tmps) = true := by simp [Region.wanted, hg]
  rw [if_pos hw]
  obtain ⟨v', w', hrun, r1, r2, r3⟩ := append_block (P := P) w B t o.type e i z size bytes h1 h2 h3 h4 h5 hzs hsz v n xs hown ad k c news hl hm hone h63 hbytes hB
  have hsh : ∃ ao cap, v' = .slice ao (n + k) cap := by
    rcases r1.2 with ⟨h, h0⟩ | ⟨g, cap, cur, h, _⟩
    · exact ⟨none, 0, by rw [h, h0]⟩
    · exact ⟨_, cap, h⟩
  obtain ⟨ao, cap, rfl⟩ := hsh
  unfold Oper.wp
  simp [execOp, hop, resolve, invoke, builtin, hs, hx, hrun, Result.andThen]
  exact hK ao cap w' r1 r2 r3

/-- It, the source given by what lies there. -/
theorem step_append_src {P : Program} {ops : Array Oper} {o : Oper} {a : Act} {w : World} {K : Act → World → Prop} {Q : Exit → Act → World → Prop} {E : Prop}
    (hg : o.guard = none) (s x : Operand) (t : TypeId) (hop : o.op = Op.call { callee := Callee.builtin Builtin.append, args := #[s, x], argTypes := #[t, t] })
    (e : TypeId) (i : TypeInfo) (z : Value) (size bytes : Nat) (h1 : P.underlying t = some (.slice e)) (h2 : P.info? e = some i) (h3 : i.zero = some z) (h4 : i.size = size) (h5 : i.bytes = bytes) (hzs : z.cells.size = size) (hsz : 0 < size)
    (B : Nat) (v : Value) (n : Nat) (xs : List Value) (sp : Option Addr) (k c : Nat) (news : List Value) (hs : a.eval s = v) (hx : a.eval x = .slice sp k c) (hown : w.ownsRow B e size v n xs) (hl : news.length = k * size)
    (hm : ∃ ad, sp = some ad ∧ ∀ j u, news[j]? = some u → w.cell? (ad.add j) = some u) (hone : ∀ u ∈ news, u.oneCell' = true)
    (h63 : n + k ≤ maxLen) (hbytes : (n + k) * bytes ≤ 140737488355328) (hB : B ≤ w.heap.size)
    (hK : ∀ ao cap w', w'.ownsRow B e size (.slice ao (n + k) cap) (n + k) (xs ++ news) → w.grownBy w' v.ownBlock → (∀ b, (Value.slice ao (n + k) cap).ownBlock = some b → v.ownBlock = some b ∨ w.heap.size ≤ b) → K (a.put o.dst (.slice ao (n + k) cap)) w') :
    if Region.wanted o (yielded ops a.tmps) = true then Oper.wp P o a w K Q else E := by
  obtain ⟨ad, rfl, hm⟩ := hm
  exact step_append_at hg s x t hop e i z size bytes h1 h2 h3 h4 h5 hzs hsz B v n xs ad k c news hs hx hown hl hm hone h63 hbytes hB hK

/-- copy over a row of the call's own, from a place on. -/
theorem step_copy_at {P : Program} {ops : Array Oper} {o : Oper} {a : Act} {w : World} {K : Act → World → Prop} {Q : Exit → Act → World → Prop} {E : Prop}
    (hg : o.guard = none) (d s : Operand) (t : TypeId) (hop : o.op = Op.call { callee := Callee.builtin Builtin.copy, args := #[d, s], argTypes := #[t, t] })
    (h1 : P.underlying t = some (.slice 5)) (hsz : (P.info? 5).map (·.size) = some 1)
    (B : Nat) (vb : Value) (l x : List Int) (v : Value) (dp : Option Addr) (dl dc : Nat) (p over : Nat) (hd : a.eval d = .slice dp dl dc) (hs : a.eval s = v) (hown : Own w B vb l) (hx : Bs w v x)
    (hover : over = Nat.min x.length dl) (hdp : 0 < over → ∀ g, vb.ownBlock = some g → dp = some ⟨g, p, none⟩) (hfit : p + over ≤ l.length)
    (hK : ∀ w', Own w' B vb (l.take p ++ (x.take over ++ l.drop (p + over))) → w.grownBy w' vb.ownBlock → K (a.put o.dst (goInt over)) w') :
    if Region.wanted o (yielded ops a.tmps) = true then Oper.wp P o a w K Q else E := by
  have hw : Region.wanted o (yielded ops a.tmps) = true := by simp [Region.wanted, hg]
  rw [if_pos hw]
  obtain ⟨ao, cap, rfl, hcap, hnil, hcell⟩ := hx
  by_cases h0 : over = 0
  · have hrun := run_copy_none (P := P) w t t o.type 5 dp ao dl dc x.length cap h1 hsz (by rw [← hover]; exact h0)
    unfold Oper.wp
    simp [execOp, hop, resolve, invoke, builtin, hd, hs, hrun, Result.andThen]
    subst h0
    exact hK w (by simpa using hown) ⟨rfl, rfl, rfl, Nat.le_refl _, fun _ _ _ => rfl⟩
  · have hxl : over ≤ x.length := by rw [hover]; exact Nat.min_le_left _ _
    obtain ⟨hlen, ⟨rfl, h00⟩ | ⟨g, cap2, cur, rfl, hBg, hgg, hle, hm, hcs, ht⟩⟩ := hown
    · omega
    · cases ao with
      | none => have := hnil rfl; omega
      | some ad =>
        have hdp' := hdp (by omega) g rfl
        subst hdp'
        have hcl : (bcells (x.take over)).length = over := by rw [bcells_length, List.length_take]; omega
        have hrun := run_copy_row (P := P) w t t o.type 5 g p dl dc ad x.length cap cur 5 (bcells (x.take over)) h1 hsz hgg (by rw [hcl]; exact hover)
          (fun j u hj => by
            obtain ⟨hj', rfl⟩ := bcells_get hj
            have hj2 : j < x.length := by rw [List.length_take] at hj'; omega
            rw [hcell ad rfl j hj2]
            have hj3 : j < over := by rw [List.length_take] at hj'; omega
            simp [List.getD, hj3])
          (by rw [hcl]; omega) (bcells_one _)
        unfold Oper.wp
        simp [execOp, hop, resolve, invoke, builtin, hd, hs, hrun, Result.andThen]
        rw [hcl]
        refine hK _ ?_ ⟨rfl, rfl, rfl, by simp [World.setRow], fun k _ hk => setRow_other w g k _ (fun e => hk (by simp [Value.ownBlock, e]))⟩
        have hLL : (l.take p ++ (x.take over ++ l.drop (p + over))).length = l.length := by
          simp only [List.length_append, List.length_take, List.length_drop]; omega
        have hr := setRow_heap w g cur (cur.toList.take p ++ (bcells (x.take over) ++ cur.toList.drop (p + over))).toArray 5 _ hgg
        refine ⟨by rw [bcells_length]; simp, .inr ⟨g, cap2, _, by rw [hLL], hBg, hr, by omega, hm, ?_, ?_⟩⟩
        · simp only [List.size_toArray, List.length_append, List.length_take, List.length_drop, Array.length_toList, hcl]; omega
        · have hcl2 : (bcells l) = cur.toList.take l.length := by simpa using ht.symm
          have hcl3 : cur.toList.length = cap2 := by simpa using hcs
          simp only [bcells_append, Nat.mul_one, hLL]
          have e1 : bcells (l.take p) = (bcells l).take p := by simp [bcells]
          have e2 : bcells (l.drop (p + over)) = (bcells l).drop (p + over) := by simp [bcells]
          rw [e1, e2, hcl2, List.take_take, Nat.min_eq_left (by omega)]
          have hA : (cur.toList.take p).length = p := by rw [List.length_take]; omega
          rw [List.take_append, hA, List.take_of_length_le (by omega : (cur.toList.take p).length ≤ l.length)]
          congr 1
          rw [List.take_append, hcl, List.take_of_length_le (by omega : (bcells (x.take over)).length ≤ l.length - p)]
          congr 1
          rw [List.drop_take]
          congr 1
          omega
end Go.Proofs.YtkiccnedmejnaaaDoor
