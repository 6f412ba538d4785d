/-
  An argument that is a type of elements, opened: a tree of any depth. No conditions but the form's own reach.
-/
import Derived.Test.YtojcokdfplldbaaDTy
import Derived.Test.YtojcokdfplldbaaRows
import Derived.ProofKit
import Derived.OpenShut
import Derived.SizedLaws
import Derived.Lib.SmallJoins
import Derived.Deep.Slices
import Derived.Deep.Strs
namespace Go.Proofs.Ytojcokdfplldbaa
open Go.ChangeShapes Go.WideShapes Go.ChangeAt Go.RowKit Go.Deep Go.Joins
set_option linter.unusedVariables false
set_option maxRecDepth 100000

theorem Try.ownKnob0 : ownKnob Try.prog.godebug = none := by kernel_rfl
theorem Try.laidOut0 : laidOutB Try.prog = true := by kernel_rfl
theorem Try.cellsZ : Try.prog.cellsOf 3 = 1 := by kernel_rfl
theorem Try.bytesZ : Try.prog.bytesOf 3 = 8 := by kernel_rfl
theorem Try.cellsT : Try.prog.cellsOf 28 = 7 := by kernel_rfl
theorem Try.bytesT : Try.prog.bytesOf 28 = 120 := by kernel_rfl
theorem Try.cellsF : Try.prog.cellsOf 66 = 9 := by kernel_rfl
theorem Try.bytesF : Try.prog.bytesOf 66 = 144 := by kernel_rfl
theorem Try.cellsM : Try.prog.cellsOf 69 = 2 := by kernel_rfl
theorem Try.bytesM : Try.prog.bytesOf 69 = 24 := by kernel_rfl
theorem Try.cellsC : Try.prog.cellsOf 22 = 1 := by kernel_rfl
theorem Try.cellsB : Try.prog.cellsOf 4 = 1 := by kernel_rfl
theorem Try.cellsS : Try.prog.cellsOf 9 = 1 := by kernel_rfl
theorem Try.cellsFs : Try.prog.cellsOf 23 = 1 := by kernel_rfl
theorem Try.cellsTs : Try.prog.cellsOf 25 = 1 := by kernel_rfl
theorem Try.cellsMs : Try.prog.cellsOf 26 = 1 := by kernel_rfl
theorem Try.cellsIs : Try.prog.cellsOf 24 = 1 := by kernel_rfl
theorem i64_of_wf {n : Int} (h : (Lit.int .i64 n).wf = true) : I64 n := by
  simp [Lit.wf, IntKind.min, IntKind.max, IntKind.bits, IntKind.signed] at h
  exact ⟨by omega, by omega⟩
section
variable {H : Type} {enc : TypeId × Value → H} {W : World}
theorem trod_le {t : TypeId} {cs : List Value} {x : DataW H × List MemPlace} {j : Nat} (h : DataW.trod enc Try.prog W 0 (fun _ => true) true j t cs = some x) : ∀ m, j ≤ m → DataW.trod enc Try.prog W 0 (fun _ => true) true m t cs = some x
  | 0, hm => by rw [show j = 0 by omega] at h; exact h
  | m + 1, hm => by
    by_cases e : j = m + 1
    · rw [← e]; exact h
    · exact DataW.trod_succ m t cs x (trod_le h m (by omega))
theorem weights_allT {P : Program} {e : TypeId} : ∀ {l : List (DataW H)} {d : DataW H}, d ∈ l → ∀ n ∈ d.weights P e, n ∈ DataW.weightsAll P e l
  | x :: l, d, hd, n, hn => by
    simp only [DataW.weightsAll, List.mem_append]
    rcases List.mem_cons.1 hd with h | h
    · subst h; exact .inl hn
    · exact .inr (weights_allT h n hn)
/-- A slice, its elements read with less. -/
theorem open_sliceN {t e : TypeId} {fuel : Nat} {v : Value} {x : DataW H × List MemPlace} {k b : Nat} (ht : Try.prog.underlying t = some (.slice e)) (hk : Try.prog.cellsOf e = k) (hb : Try.prog.bytesOf e = b) (h24 : 24 ≤ b) (hk0 : 0 < k) (h : DataW.trod enc Try.prog W 0 (fun _ => true) true fuel t [v] = some x) (hw : ∀ q ∈ x.1.weights Try.prog t, q ≤ reachBytes) :
    ∃ (len cap n : Nat) (ao : Option Addr), v = .slice ao len cap ∧ len ≤ cap ∧ len * b ≤ 140737488351232 ∧ (0 < len → fuel = n + 1) ∧ ∀ i, i < len → ∃ g o cs' d, ao = some ⟨g, o, none⟩ ∧ cs'.length = k ∧ (∀ j, j < k → W.cell? ⟨g, o + i * k + j, none⟩ = cs'[j]?) ∧ DataW.trod enc Try.prog W 0 (fun _ => true) true n e cs' = some d ∧ ∀ q ∈ d.1.weights Try.prog e, q ≤ reachBytes := by
  rcases DataW.trod_slice ht h with ⟨hcs, _⟩ | ⟨a, len, cap, elems, rest, n, hfu, hcs, hx, _, hl, hm, hlen, hel, _, _⟩
  · simp at hcs
    subst hcs
    exact ⟨0, 0, 0, none, rfl, Nat.le_refl _, by rw [Nat.zero_mul]; omega, fun h => by omega, fun i hi => by omega⟩
  · simp at hcs
    subst hcs
    have hx1 : x.1 = .slice (elems.map (·.1)) (rest.map (·.1)) := by rw [hx]
    have hwl : (elems.length + rest.length) * b ≤ reachBytes := by
      have := hw ((elems.length + rest.length) * b) (by rw [hx1]; simp [DataW.weights, ht, hb])
      exact this
    have hln : len * b ≤ 140737488351232 := Nat.le_trans (Nat.mul_le_mul_right b (by omega)) hwl
    have each : ∀ i, i < len → ∃ cs' d, W.cells? 0 (a.add (i * k)) k = some cs' ∧ DataW.trod enc Try.prog W 0 (fun _ => true) true n e cs' = some d ∧ ∀ q ∈ d.1.weights Try.prog e, q ≤ reachBytes := by
      intro i hi
      have h1 := hel i hi
      rw [hk] at h1
      have hil : i < elems.length := by omega
      rw [List.getElem?_eq_getElem hil] at h1
      cases hc : W.cells? 0 (a.add (i * k)) k with
      | none => rw [hc] at h1; cases h1
      | some cs' =>
        rw [hc] at h1
        refine ⟨cs', elems[i], rfl, h1, fun q hq => hw q ?_⟩
        rw [hx1]
        simp only [DataW.weights, ht, List.mem_cons, List.mem_append]
        exact .inr (.inl (weights_allT (List.mem_map.2 ⟨elems[i], List.getElem_mem hil, rfl⟩) q hq))
    refine ⟨len, cap, n, some a, rfl, hl, hln, fun _ => hfu, fun i hi => ?_⟩
    obtain ⟨cs', d, h1, h2, h3⟩ := each i hi
    obtain ⟨_, hlen', hcell⟩ := World.cells?_some h1
    obtain ⟨g, o, spot⟩ := a
    have hspot : spot = none := by
      obtain ⟨cs0, d0, h10, _⟩ := each 0 (by omega)
      obtain ⟨_, hlen0, hcell0⟩ := World.cells?_some h10
      have h00 := hcell0 0 (by omega)
      rw [List.getElem?_eq_getElem (show 0 < cs0.length by omega)] at h00
      have := World.cell?_spot h00
      simpa [Addr.add] using this
    subst hspot
    refine ⟨g, o, cs', d, rfl, hlen', fun j hj => ?_, h2, h3⟩
    have := hcell j (by omega)
    rwa [addG, addG] at this
theorem ints_cellT {n : Nat} {v : Value} {y : DataW H × List MemPlace} (hf : DataW.trod enc Try.prog W 0 (fun _ => true) true n 24 [v] = some y) (hw : ∀ q ∈ y.1.weights Try.prog 24, q ≤ reachBytes) : ∃ l, Is W v l := by
  rcases open_ints Try.underlying24 Try.underlying3 Try.cellsZ hf with ⟨hcs, hx⟩ | ⟨x, len, cap, zs, hcs, _, hl, hm, hz, hx, hcell, hwz⟩
  · simp at hcs
    subst hcs
    exact ⟨[], by simp, by simp, none, 0, rfl, Nat.le_refl _, fun i x h => by simp at h⟩
  · simp at hcs
    subst hcs
    simp only [if_true] at hz
    have hlen : (zs.take len).length = len := by simp; omega
    have hb : len ≤ 17592186043904 := by
      have := hw (((lits .i64 (zs.take len) : List (DataW H)).length + (lits .i64 (zs.drop len) : List (DataW H)).length) * Try.prog.bytesOf 3) (by rw [hx]; simp [DataW.weights, Try.underlying24])
      rw [Try.bytesZ] at this
      simp only [lits, List.length_map, List.length_take, List.length_drop, reachBytes] at this
      omega
    refine ⟨zs.take len, by omega, fun q hq => i64_of_wf (hwz q (List.take_subset _ _ hq)), some x, cap, by rw [hlen], by omega, fun i q hi => ?_⟩
    have hil : i < len := by have := (List.getElem?_eq_some_iff.1 hi).1; omega
    have h0 := hcell i (by omega)
    obtain ⟨g, off, sp⟩ := x
    have h00 := hcell 0 (by omega)
    have hsp : sp = none := by simpa [Addr.add] using World.cell?_spot h00
    subst hsp
    rw [addG] at h0
    refine ⟨g, off, rfl, ?_⟩
    rw [h0]
    rw [List.getElem?_take_of_lt hil] at hi
    obtain ⟨h3, h4⟩ := List.getElem?_eq_some_iff.1 hi
    subst h4
    simp [List.getD, h3]
/-- Elements, chosen one by one. -/
theorem choose_list {α : Type} {P : Nat → α → Prop} {len : Nat} (h : ∀ i, i < len → ∃ q, P i q) : ∃ l : List α, l.length = len ∧ ∀ i q, l[i]? = some q → P i q := by
  induction len with
  | zero => exact ⟨[], rfl, fun i q h => by simp at h⟩
  | succ n ih =>
    obtain ⟨l, h1, h2⟩ := ih (fun i hi => h i (by omega))
    obtain ⟨q, hq⟩ := h n (by omega)
    refine ⟨l ++ [q], by simp [h1], fun i x hx => ?_⟩
    rcases Nat.lt_or_ge i n with h3 | h3
    · rw [List.getElem?_append_left (by omega)] at hx
      exact h2 i x hx
    · have hi : i = n := by
        have := (List.getElem?_eq_some_iff.1 hx).1
        simp [h1] at this
        omega
      subst hi
      rw [List.getElem?_append_right (by omega), h1, Nat.sub_self] at hx
      obtain rfl : q = x := by simpa using hx
      exact hq
theorem len7 {α : Type} {cs : List α} (h : cs.length = 7) : ∃ a b c d e f g, cs = [a, b, c, d, e, f, g] := by
  match cs, h with
  | [a, b, c, d, e, f, g], _ => exact ⟨a, b, c, d, e, f, g, rfl⟩
theorem len9 {α : Type} {cs : List α} (h : cs.length = 9) : ∃ a b c d e f g x y, cs = [a, b, c, d, e, f, g, x, y] := by
  match cs, h with
  | [a, b, c, d, e, f, g, x, y], _ => exact ⟨a, b, c, d, e, f, g, x, y, rfl⟩
theorem len2 {α : Type} {cs : List α} (h : cs.length = 2) : ∃ a b, cs = [a, b] := by
  match cs, h with
  | [a, b], _ => exact ⟨a, b, rfl⟩
theorem len3 {α : Type} {cs : List α} (h : cs.length = 3) : ∃ a b c, cs = [a, b, c] := by
  match cs, h with
  | [a, b, c], _ => exact ⟨a, b, c, rfl⟩
theorem nms_cell {n : Nat} {v : Value} {y : DataW H × List MemPlace} (hf : DataW.trod enc Try.prog W 0 (fun _ => true) true n 26 [v] = some y) (hw : ∀ q ∈ y.1.weights Try.prog 26, q ≤ reachBytes) : ∃ l, Nms W v l := by
  obtain ⟨len, cap, k, ao, rfl, h1, h2, _, h3⟩ := open_sliceN Try.underlying26 Try.cellsM Try.bytesM (by decide) (by decide) hf hw
  have each : ∀ i, i < len → ∃ q : ByteArray × Int, I64 q.2 ∧ ∃ g o, ao = some ⟨g, o, none⟩ ∧ W.cell? ⟨g, o + i * 2, none⟩ = some (.string q.1) ∧ W.cell? ⟨g, o + i * 2 + 1, none⟩ = some (.int .i64 q.2) := fun i hi => by
    obtain ⟨g, o, cs', d, rfl, hl, hc, ht, _⟩ := h3 i hi
    obtain ⟨xs, m, _, hx, _, hxl, hff⟩ := DataW.trod_struct Try.underlying69 ht
    obtain ⟨a, b, rfl⟩ := len2 hl
    obtain ⟨y0, y1, rfl⟩ := len2 hxl
    have g0 := hff 0 _ rfl
    have g1 := hff 1 _ rfl
    simp [Try.cellsS, Try.cellsZ] at g0 g1
    obtain ⟨s, e0, _⟩ := DataW.trod_string Try.underlying9 g0
    obtain ⟨z, e1, _, w1⟩ := DataW.trod_int Try.underlying3 g1
    simp at e0 e1
    subst e0 e1
    exact ⟨(s, z), i64_of_wf w1, g, o, rfl, by simpa using hc 0 (by omega), by simpa using hc 1 (by omega)⟩
  obtain ⟨l, hl, hP⟩ := choose_list each
  subst hl
  refine ⟨l, by omega, fun q hq => ?_, ao, cap, rfl, h1, fun i q hq => (hP i q hq).2⟩
  obtain ⟨i, hi⟩ := List.mem_iff_getElem?.1 hq
  exact (hP i q hi).1
/-- A type's seven cells. -/
theorem ty_trod : ∀ (m : Nat) (cs : List Value) (y : DataW H × List MemPlace), DataW.trod enc Try.prog W 0 (fun _ => true) true m 28 cs = some y → (∀ q ∈ y.1.weights Try.prog 28, q ≤ reachBytes) → ∃ (T : Ty m) (V : TV), cs = [.int .i64 (hd T).1, .int .i64 (hd T).2.1, .bool (hd T).2.2, V.f, V.d, V.b, V.n] ∧ TR m W V T
  | 0, cs, y, h, hw => by
    obtain ⟨xs, m, e, _⟩ := DataW.trod_struct Try.underlying28 h
    cases e
  | m + 1, cs, y, h, hw => by
    have ih := ty_trod m
    obtain ⟨xs, n, hn, hx, hcl, hxl, hff⟩ := DataW.trod_struct Try.underlying28 h
    obtain rfl : m = n := by omega
    obtain ⟨c0, c1, c2, c3, c4, c5, c6, rfl⟩ := len7 (hcl.trans Try.cellsT)
    obtain ⟨y0, y1, y2, y3, y4, y5, y6, rfl⟩ := len7 hxl
    have g0 := hff 0 _ rfl
    have g1 := hff 1 _ rfl
    have g2 := hff 2 _ rfl
    have g3 := hff 3 _ rfl
    have g4 := hff 4 _ rfl
    have g5 := hff 5 _ rfl
    have g6 := hff 6 _ rfl
    simp [Try.cellsC, Try.cellsZ, Try.cellsB, Try.cellsFs, Try.cellsIs, Try.cellsTs, Try.cellsMs] at g0 g1 g2 g3 g4 g5 g6
    have hall : ∀ q ∈ DataW.weightsEach Try.prog [22, 3, 4, 23, 24, 25, 26] [y0.1, y1.1, y2.1, y3.1, y4.1, y5.1, y6.1], q ≤ reachBytes := fun q hq => hw q (by rw [hx]; simp only [DataW.weights, Try.underlying28]; exact hq)
    obtain ⟨k0, e0, _, w0⟩ := DataW.trod_int Try.underlying22 g0
    obtain ⟨k1, e1, _, w1⟩ := DataW.trod_int Try.underlying3 g1
    obtain ⟨k2, e2, _⟩ := DataW.trod_bool Try.underlying4 g2
    simp at e0 e1 e2
    subst e0 e1 e2
    obtain ⟨dl, hd4⟩ := ints_cellT g4 (fun q hq => hall q (DataW.weights_mem_each (j := 4) rfl rfl q hq))
    obtain ⟨nl, hn6⟩ := nms_cell g6 (fun q hq => hall q (DataW.weights_mem_each (j := 6) rfl rfl q hq))
    obtain ⟨fl, fcap, fk, fao, rfl, f1, f2, fu, f3⟩ := open_sliceN Try.underlying23 Try.cellsF Try.bytesF (by decide) (by decide) g3 (fun q hq => hall q (DataW.weights_mem_each (j := 3) rfl rfl q hq))
    obtain ⟨bl, bcap, bk, bao, rfl, b1, b2, bu, b3⟩ := open_sliceN Try.underlying25 Try.cellsT Try.bytesT (by decide) (by decide) g5 (fun q hq => hall q (DataW.weights_mem_each (j := 5) rfl rfl q hq))
    have eachF : ∀ i, i < fl → ∃ q : ByteArray × Int × Ty m, I64 q.2.1 ∧ ∃ g o V, fao = some ⟨g, o, none⟩ ∧ TR m W V q.2.2 ∧ W.cell? ⟨g, o + i * 9, none⟩ = some (.string q.1) ∧ W.cell? ⟨g, o + i * 9 + 1, none⟩ = some (.int .i64 q.2.1) ∧ W.cell? ⟨g, o + i * 9 + 2, none⟩ = some (.int .i64 (hd q.2.2).1) ∧ W.cell? ⟨g, o + i * 9 + 3, none⟩ = some (.int .i64 (hd q.2.2).2.1) ∧ W.cell? ⟨g, o + i * 9 + 4, none⟩ = some (.bool (hd q.2.2).2.2) ∧ W.cell? ⟨g, o + i * 9 + 5, none⟩ = some V.f ∧ W.cell? ⟨g, o + i * 9 + 6, none⟩ = some V.d ∧ W.cell? ⟨g, o + i * 9 + 7, none⟩ = some V.b ∧ W.cell? ⟨g, o + i * 9 + 8, none⟩ = some V.n := fun i hi => by
      obtain ⟨g, o, cs', d, rfl, hl, hc, ht, hwd⟩ := f3 i hi
      obtain ⟨xs, j, hj, hx', _, hxl', hff'⟩ := DataW.trod_struct Try.underlying66 ht
      obtain ⟨a0, a1, a2, a3, a4, a5, a6, a7, a8, rfl⟩ := len9 hl
      obtain ⟨z0, z1, z2, rfl⟩ := len3 hxl'
      have q0 := hff' 0 _ rfl
      have q1 := hff' 1 _ rfl
      have q2 := hff' 2 _ rfl
      simp [Try.cellsS, Try.cellsZ, Try.cellsT] at q0 q1 q2
      obtain ⟨s, u0, _⟩ := DataW.trod_string Try.underlying9 q0
      obtain ⟨z, u1, _, wz⟩ := DataW.trod_int Try.underlying3 q1
      simp at u0 u1
      subst u0 u1
      have hfu := fu (by omega)
      have hall2 : ∀ q ∈ DataW.weightsEach Try.prog [9, 3, 28] [z0.1, z1.1, z2.1], q ≤ reachBytes := fun q hq => hwd q (by rw [hx']; simp only [DataW.weights, Try.underlying66]; exact hq)
      obtain ⟨T, V, hcs, hT⟩ := ih _ z2 (trod_le q2 m (by omega)) (fun q hq => hall2 q (DataW.weights_mem_each (j := 2) rfl rfl q hq))
      injection hcs with p0 hcs
      injection hcs with p1 hcs
      injection hcs with p2 hcs
      injection hcs with p3 hcs
      injection hcs with p4 hcs
      injection hcs with p5 hcs
      injection hcs with p6 hcs
      subst p0 p1 p2 p3 p4 p5 p6
      exact ⟨(s, z, T), i64_of_wf wz, g, o, V, rfl, hT, by simpa using hc 0 (by omega), by simpa using hc 1 (by omega), by simpa using hc 2 (by omega), by simpa using hc 3 (by omega), by simpa using hc 4 (by omega), by simpa using hc 5 (by omega), by simpa using hc 6 (by omega), by simpa using hc 7 (by omega), by simpa using hc 8 (by omega)⟩
    have eachB : ∀ i, i < bl → ∃ q : Ty m, ∃ g o V, bao = some ⟨g, o, none⟩ ∧ TR m W V q ∧ W.cell? ⟨g, o + i * 7, none⟩ = some (.int .i64 (hd q).1) ∧ W.cell? ⟨g, o + i * 7 + 1, none⟩ = some (.int .i64 (hd q).2.1) ∧ W.cell? ⟨g, o + i * 7 + 2, none⟩ = some (.bool (hd q).2.2) ∧ W.cell? ⟨g, o + i * 7 + 3, none⟩ = some V.f ∧ W.cell? ⟨g, o + i * 7 + 4, none⟩ = some V.d ∧ W.cell? ⟨g, o + i * 7 + 5, none⟩ = some V.b ∧ W.cell? ⟨g, o + i * 7 + 6, none⟩ = some V.n := fun i hi => by
      obtain ⟨g, o, cs', d, rfl, hl, hc, ht, hwd⟩ := b3 i hi
      have hbu := bu (by omega)
      obtain ⟨T, V, hcs, hT⟩ := ih cs' d (trod_le ht m (by omega)) hwd
      subst hcs
      exact ⟨T, g, o, V, rfl, hT, by simpa using hc 0 (by omega), by simpa using hc 1 (by omega), by simpa using hc 2 (by omega), by simpa using hc 3 (by omega), by simpa using hc 4 (by omega), by simpa using hc 5 (by omega), by simpa using hc 6 (by omega)⟩
    obtain ⟨FL, hFL, hFP⟩ := choose_list eachF
    obtain ⟨BL, hBL, hBP⟩ := choose_list eachB
    subst hFL hBL
    have hF9 : FL.length ≤ 977343669105 := by omega
    have hB9 : BL.length ≤ 1172812402926 := by omega
    refine ⟨(⟨k0, k1, k2, FL, dl, BL, nl⟩ : TyN (Ty m)), ⟨.slice fao FL.length fcap, c4, .slice bao BL.length bcap, c6⟩, rfl, ⟨i64_of_wf w0, i64_of_wf w1, ⟨hF9, fun q hq => ?_, fao, fcap, rfl, f1, fun i q hq => (hFP i q hq).2⟩, hd4, ⟨hB9, bao, bcap, rfl, b1, fun i q hq => hBP i q hq⟩, hn6⟩⟩
    obtain ⟨i, hi⟩ := List.mem_iff_getElem?.1 hq
    exact (hFP i q hi).1
theorem ty_arg {base : Nat} {v : Value} {d : DataW H} {p : List MemPlace} {ts : List TypeId} {ds : List (DataW H)}
    (hok : Value.okWide Try.prog W .any base 28 v) (h : DataW.Trod enc Try.prog W 0 (fun _ => true) true 28 v d p)
    (hsz : (DataW.weightsEach Try.prog ts ds).all (· ≤ reachBytes) = true) (j : Nat) (ht : ts[j]? = some 28) (hdj : ds[j]? = some d) :
    ∃ (n : Nat) (T : Ty n) (V : TV), v = tyV (hd T) V ∧ TR n W V T := by
  obtain ⟨cs, rfl, hcz⟩ := okWide_struct Try.underlying28 hok
  obtain ⟨fuel, hf⟩ := h
  obtain ⟨T, V, hcs, hT⟩ := ty_trod fuel cs.toList (d, p) hf (fun q hq => by
    have := List.all_eq_true.1 hsz q (DataW.weights_mem_each ht hdj q hq)
    simpa using this)
  refine ⟨fuel, T, V, ?_, hT⟩
  obtain ⟨l⟩ := cs
  simp only at hcs
  rw [hcs]
  rfl
end
end Go.Proofs.Ytojcokdfplldbaa
