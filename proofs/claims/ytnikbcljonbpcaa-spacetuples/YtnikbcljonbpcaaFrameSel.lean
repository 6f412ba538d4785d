/-
  An argument that is a selection, opened: its kind, its points and its four lists. No conditions but the form's own reach.
-/
import Derived.Test.YtnikbcljonbpcaaFrameZ
import Derived.Lib.SmallJoins
import Derived.Deep.Slices
import Derived.Deep.Strs
namespace Go.Proofs.Ytnikbcljonbpcaa
open Go.ChangeShapes Go.WideShapes Go.ChangeAt Go.RowKit Go.Deep Go.Joins
set_option linter.unusedVariables false
set_option maxRecDepth 100000

theorem Try.cellsS : Try.prog.cellsOf 33 = 6 := by kernel_rfl
theorem Try.cellsK : Try.prog.cellsOf 30 = 1 := by kernel_rfl
theorem Try.cellsRR : Try.prog.cellsOf 31 = 1 := by kernel_rfl
theorem Try.cellsR : Try.prog.cellsOf 22 = 1 := by kernel_rfl
theorem Try.bytesR : Try.prog.bytesOf 22 = 24 := by kernel_rfl
theorem iss_nil3 (w : World) : Iss w (.slice none 0 0) [] := ⟨by simp, none, 0, rfl, Nat.le_refl _, fun i l h => by simp at h⟩
theorem weights_allS {H : Type} {P : Program} {e : TypeId} : ∀ {l : List (DataW H)} {d : DataW H}, d ∈ l → ∀ n ∈ d.weights P e, n ∈ DataW.weightsAll P e l
  | x :: l, d, hd, n, hn => by
    simp only [DataW.weightsAll, List.mem_append]
    rcases List.mem_cons.1 hd with h | h
    · subst h; exact .inl hn
    · exact .inr (weights_allS h n hn)
theorem ints_cell {H : Type} {enc : TypeId × Value → H} {W : World} {n : Nat} {v : Value} {y : DataW H × List MemPlace} (hf : DataW.trod enc Try.prog W 0 (fun _ => true) true n 22 [v] = some y) (hw : ∀ q ∈ y.1.weights Try.prog 22, q ≤ reachBytes) : ∃ l, Is W v l := by
  rcases open_ints Try.underlying22 Try.underlying3 Try.cellsZ hf with ⟨hcs, hx⟩ | ⟨x, len, cap, zs, hcs, _, hl, hm, hz, hx, hcell, hwz⟩
  · simp at hcs
    subst hcs
    exact ⟨[], is_nil W⟩
  · simp at hcs
    subst hcs
    simp only [if_true] at hz
    have hlen : (zs.take len).length = len := by simp; omega
    have hb : len ≤ 17592186043904 := by
      have := hw (((lits .i64 (zs.take len) : List (DataW H)).length + (lits .i64 (zs.drop len) : List (DataW H)).length) * Try.prog.bytesOf 3) (by rw [hx]; simp [DataW.weights, Try.underlying22])
      rw [Try.bytesZ] at this
      simp only [lits, List.length_map, List.length_take, List.length_drop, reachBytes] at this
      omega
    refine ⟨zs.take len, by omega, fun q hq => i64_of_wf (hwz q (List.take_subset _ _ hq)), some x, cap, by rw [hlen], by omega, fun i q hi => ?_⟩
    have hil : i < len := by have := (List.getElem?_eq_some_iff.1 hi).1; omega
    have h0 := hcell i (by omega)
    obtain ⟨g, off, sp⟩ := x
    have h00 := hcell 0 (by omega)
    have hsp : sp = none := by simpa [Addr.add] using World.cell?_spot h00
    subst hsp
    rw [addG] at h0
    refine ⟨g, off, rfl, ?_⟩
    rw [h0]
    rw [List.getElem?_take_of_lt hil] at hi
    obtain ⟨h3, h4⟩ := List.getElem?_eq_some_iff.1 hi
    subst h4
    simp [List.getD, h3]
theorem rows_cell {H : Type} {enc : TypeId × Value → H} {W : World} {n0 : Nat} {v : Value} {y : DataW H × List MemPlace} (hf : DataW.trod enc Try.prog W 0 (fun _ => true) true n0 31 [v] = some y) (hw : ∀ q ∈ y.1.weights Try.prog 31, q ≤ reachBytes) : ∃ L, Iss W v L := by
  rcases open_slice Try.underlying31 hf with ⟨hcs, hx⟩ | ⟨a, len, cap, m, n, D, Pl, hcs, _, hl, hm, hmm, hx, hrow⟩
  · simp at hcs
    subst hcs
    exact ⟨[], iss_nil3 W⟩
  · simp at hcs
    subst hcs
    simp only [if_true] at hmm
    rw [Try.cellsR] at hrow
    have hx1 : y.1 = .slice ((List.range len).map D) ((List.range (m - len)).map fun i => D (len + i)) := by
      have := congrArg Prod.fst hx
      simpa using this
    have hb : len ≤ 5864062014634 := by
      have := hw ((((List.range len).map D).length + ((List.range (m - len)).map fun i => D (len + i)).length) * Try.prog.bytesOf 22) (by rw [hx1]; simp [DataW.weights, Try.underlying31])
      rw [Try.bytesR] at this
      simp only [List.length_map, List.length_range, reachBytes] at this
      omega
    have each : ∀ i, i < len → ∃ l g o u, a = ⟨g, o, none⟩ ∧ W.cell? ⟨g, o + i, none⟩ = some u ∧ Is W u l := by
      intro i hi
      obtain ⟨cs', h1, h2⟩ := hrow i (by omega)
      obtain ⟨_, hlen, hcell⟩ := World.cells?_some h1
      match cs', hlen with
      | [u], _ =>
        have hwi : ∀ q ∈ (D i).weights Try.prog 22, q ≤ reachBytes := fun q hq => by
          refine hw q ?_
          rw [hx1]
          simp only [DataW.weights, Try.underlying31, List.mem_cons, List.mem_append]
          exact .inr (.inl (weights_allS (List.mem_map.2 ⟨i, List.mem_range.2 hi, rfl⟩) q hq))
        obtain ⟨l, hu⟩ := ints_cell h2 hwi
        have c0 := hcell 0 (by omega)
        obtain ⟨g, o, spot⟩ := a
        have hspot : spot = none := by
          obtain ⟨cs0, h10, _⟩ := hrow 0 (by omega)
          obtain ⟨_, hlen0, hcell0⟩ := World.cells?_some h10
          have h00 := hcell0 0 (by omega)
          rw [List.getElem?_eq_getElem (show 0 < cs0.length by omega)] at h00
          have := World.cell?_spot h00
          simpa [Addr.add] using this
        subst hspot
        rw [addG, addG] at c0
        exact ⟨l, g, o, u, rfl, by simpa using c0, hu⟩
    have hch : ∃ f : Nat → List Int, ∀ i, i < len → ∃ g o u, a = ⟨g, o, none⟩ ∧ W.cell? ⟨g, o + i, none⟩ = some u ∧ Is W u (f i) :=
      ⟨fun i => if h : i < len then Classical.choose (each i h) else [], fun i hi => by simp only [dif_pos hi]; exact Classical.choose_spec (each i hi)⟩
    obtain ⟨f, hfi⟩ := hch
    refine ⟨(List.range len).map f, by simpa using hb, some a, cap, by simp, by simpa using hl, fun i l hl' => ?_⟩
    have hi : i < len := by
      have := (List.getElem?_eq_some_iff.1 hl').1
      simpa using this
    have hq' : f i = l := by simpa [hi] using hl'
    subst hq'
    obtain ⟨g, o, u, rfl, h2, h3⟩ := hfi i hi
    exact ⟨g, o, u, rfl, h2, h3⟩
theorem array6 {α : Type} {cs : Array α} (h : cs.size = 6) : ∃ c0 c1 c2 c3 c4 c5, cs = #[c0, c1, c2, c3, c4, c5] := by
  obtain ⟨l⟩ := cs
  match l, h with
  | [c0, c1, c2, c3, c4, c5], _ => exact ⟨c0, c1, c2, c3, c4, c5, rfl⟩
theorem sel_arg {H : Type} {enc : TypeId × Value → H} {W : World} {base : Nat} {v : Value} {d : DataW H} {p : List MemPlace} {ts : List TypeId} {ds : List (DataW H)}
    (hok : Value.okWide Try.prog W .any base 33 v) (h : DataW.Trod enc Try.prog W 0 (fun _ => true) true 33 v d p)
    (hsz : (DataW.weightsEach Try.prog ts ds).all (· ≤ reachBytes) = true) (j : Nat) (ht : ts[j]? = some 33) (hd : ds[j]? = some d) :
    ∃ V s, v = selV s.kind V ∧ Ss W V s := by
  obtain ⟨cs, rfl, hcz⟩ := okWide_struct Try.underlying33 hok
  obtain ⟨c0, c1, c2, c3, c4, c5, rfl⟩ := array6 (hcz.trans Try.cellsS)
  obtain ⟨fuel, hf⟩ := h
  obtain ⟨xs, n, _, hx, hl, hlen, hff⟩ := DataW.trod_struct Try.underlying33 hf
  match xs, hlen with
  | [y0, y1, y2, y3, y4, y5], _ =>
    have h0 := hff 0 _ rfl
    have h1 := hff 1 _ rfl
    have h2 := hff 2 _ rfl
    have h3 := hff 3 _ rfl
    have h4 := hff 4 _ rfl
    have h5 := hff 5 _ rfl
    simp [Value.cells, Try.cellsR, Try.cellsK, Try.cellsRR] at h0 h1 h2 h3 h4 h5
    have hd1 : d = .agg [y0.1, y1.1, y2.1, y3.1, y4.1, y5.1] := by have := congrArg Prod.fst hx; simpa using this
    have hall : ∀ q ∈ DataW.weightsEach Try.prog [30, 31, 22, 22, 22, 22] [y0.1, y1.1, y2.1, y3.1, y4.1, y5.1], q ≤ reachBytes := fun q hq => by
      have := List.all_eq_true.1 hsz q (DataW.weights_mem_each ht hd q (by rw [hd1]; simp only [DataW.weights, Try.underlying33]; exact hq))
      simpa using this
    obtain ⟨k0, e0, _, w0⟩ := DataW.trod_int Try.underlying30 h0
    simp at e0
    subst e0
    obtain ⟨L, hL⟩ := rows_cell h1 (fun q hq => hall q (DataW.weights_mem_each (j := 1) rfl rfl q hq))
    obtain ⟨l2, hl2⟩ := ints_cell h2 (fun q hq => hall q (DataW.weights_mem_each (j := 2) rfl rfl q hq))
    obtain ⟨l3, hl3⟩ := ints_cell h3 (fun q hq => hall q (DataW.weights_mem_each (j := 3) rfl rfl q hq))
    obtain ⟨l4, hl4⟩ := ints_cell h4 (fun q hq => hall q (DataW.weights_mem_each (j := 4) rfl rfl q hq))
    obtain ⟨l5, hl5⟩ := ints_cell h5 (fun q hq => hall q (DataW.weights_mem_each (j := 5) rfl rfl q hq))
    exact ⟨⟨c1, c2, c3, c4, c5⟩, ⟨k0, L, l2, l3, l4, l5⟩, rfl, ⟨i64_of_wf w0, hL, hl2, hl3, hl4, hl5⟩⟩
end Go.Proofs.Ytnikbcljonbpcaa
