/-
  Data that grow along some dimensions and shrink again are as they were: the law's walk. No conditions.
-/
import Derived.Test.YtneegijbbbebkabGGrow
import Derived.Test.YtneegijbbbebkabGBackW
import Derived.Test.YtneegijbbbebkabFrameCb
import Derived.Test.YtneegijbbbebkabGPush
namespace Go.Proofs.Ytneegijbbbebkab
open Go.RowKit Go.Shelf
set_option linter.unusedVariables false
set_option maxRecDepth 100000

/-- append([]int{}, x...), of any length. -/
theorem run_app_all (w : World) (ty : TypeId) (B : Nat) (ao : Option Addr) (n cap : Nat) (t : List Int) (hown : w.ownsRow B 3 1 (.slice (some ⟨B, 0, none⟩) 0 0) 0 []) (h : Is w (.slice ao n cap) t) (hn : n ≤ 17592186043904) (hB : B ≤ w.heap.size) :
    ∃ ao' cap' w', (Builtin.append_ #[23, 23] ty #[.slice (some ⟨B, 0, none⟩) 0 0, .slice ao n cap]).run Try.prog w = .ok (.slice ao' n cap') w' ∧ w'.ownsRow B 3 1 (.slice ao' n cap') n (gc encZ t) ∧ w.grownBy w' (some B) := by
  obtain ⟨i0, hi, hz, hs, hy⟩ := Try.infoZ
  obtain ⟨h1, h2, ao', cap', e, h3, h4⟩ := h
  injection e with e1 e2 e3
  subst e1 e2 e3
  cases ao with
  | none =>
    cases t with
    | nil =>
      refine ⟨some ⟨B, 0, none⟩, 0, w, ?_, hown, ⟨rfl, rfl, rfl, Nat.le_refl _, fun _ _ _ => rfl⟩⟩
      simp [Builtin.append_, run_underlying Try.underlying23, sizeOf, typeInfo, hi, Builtin.lenOf, Builtin.firstCells, storeCells]
    | cons x t =>
      obtain ⟨g, o, hg, _⟩ := h4 0 x rfl
      cases hg
  | some ad =>
    have hnews : ∀ j u, (gc encZ t)[j]? = some u → w.cell? (ad.add j) = some u := fun j y hj => by
      rw [gcZ_at] at hj
      obtain ⟨x, hx, rfl⟩ := Option.map_eq_some_iff.1 hj
      obtain ⟨g, o, hg, hc⟩ := h4 j x hx
      obtain rfl := Option.some.inj hg
      rw [addG]
      exact hc
    obtain ⟨v', w', hr, ho, hg, hn', hat⟩ := run_append_own_at (P := Try.prog) w B 23 ty 3 i0 (.int .i64 0) 1 8 Try.underlying23 hi hz hs hy rfl (by omega) _ 0 [] hown ad t.length cap (gc encZ t) (by rw [gc_length encZ1]) hnews (gcZ_one t) (by unfold maxLen; omega) (by omega) hB
    rw [Nat.zero_add, List.nil_append] at ho
    rcases ownsRow_shape ho with ⟨rfl, h0⟩ | ⟨g, c, rfl, _⟩
    · exact ⟨none, 0, w', by rw [hr, h0], by rw [h0] at ho ⊢; exact ho, hg⟩
    · exact ⟨_, c, w', hr, ho, hg⟩

theorem OwnI.stored {w : World} {B g n cap : Nat} {l : List Int} (h : OwnI w B (.slice (some ⟨g, 0, none⟩) n cap) l) (hl : l.length = n) (j : Nat) (u : Int) :
    OwnI (w.setCell ⟨g, j, none⟩ (.int .i64 u)) B (.slice (some ⟨g, 0, none⟩) n cap) (l.set j u) := by
  have h' : w.ownsRow B 3 1 (.slice (some ⟨g, 0, none⟩) n cap) n (gc encZ l) := by have := h; unfold OwnI at this; rwa [hl] at this
  obtain ⟨h1, h2⟩ := h'.stored j (.int .i64 u)
  unfold OwnI
  rw [List.length_set, hl]
  have e : gc encZ (l.set j u) = (gc encZ l).set j (.int .i64 u) := by
    apply List.ext_getElem?
    intro i
    rw [gcZ_at, List.getElem?_set, List.getElem?_set, gcZ_at, gc_length encZ1]
    by_cases e : j = i
    · subst e; simp only [if_pos]; split <;> simp_all
    · rw [if_neg e, if_neg e]
  rw [e]; exact h1
theorem OwnI.atI {w : World} {B g n cap : Nat} {l : List Int} (h : OwnI w B (.slice (some ⟨g, 0, none⟩) n cap) l) (hl : l.length = n) (j : Nat) (hj : j < n) : ∃ x, l[j]? = some x ∧ w.cell? ⟨g, j, none⟩ = some (.int .i64 x) ∧ w.frozen? ⟨g, j, none⟩ = false := by
  have h' : w.ownsRow B 3 1 (.slice (some ⟨g, 0, none⟩) n cap) n (gc encZ l) := by have := h; unfold OwnI at this; rwa [hl] at this
  have hlj : j < l.length := by omega
  refine ⟨l[j], List.getElem?_eq_getElem hlj, ?_, h'.frozenAt j⟩
  rw [h'.cellAt j (by omega), gcZ_at, List.getElem?_eq_getElem hlj]
  rfl
/-- What the law makes of the extent: not below it anywhere. -/
structure Gr (D T : List Int) (k : Nat) : Prop where
  len : T.length = D.length
  le : ∀ (i : Nat) a b, D[i]? = some a → T[i]? = some b → a ≤ b
  rng : ∀ x ∈ T, I64 x
  rest : ∀ i, k ≤ i → T[i]? = D[i]?
theorem Gr.zero {D : List Int} (h : ∀ x ∈ D, I64 x) : Gr D D 0 := ⟨rfl, fun i a b h1 h2 => by rw [h1] at h2; injection h2 with e; omega, h, fun _ _ => rfl⟩
theorem Gr.set {D T : List Int} {k : Nat} {x m : Int} (h : Gr D T k) (hx : T[k]? = some x) (h0 : 0 ≤ x) (h1 : x ≤ 1048576) (hm : 0 ≤ m ∧ m ≤ 3) : Gr D (T.set k (x + m)) (k + 1) := by
  refine ⟨by rw [List.length_set, h.len], fun i a b ha hb => ?_, fun y hy => ?_, fun i hi => ?_⟩
  · rw [List.getElem?_set] at hb
    split at hb
    · rename_i e
      subst e
      split at hb
      · injection hb with e
        have := h.le k a x ha hx
        omega
      · cases hb
    · exact h.le i a b ha hb
  · rcases List.mem_or_eq_of_mem_set hy with h9 | rfl
    · exact h.rng y h9
    · exact ⟨by omega, by omega⟩
  · rw [List.getElem?_set_ne (by omega)]
    exact h.rest i (by omega)
theorem grow_plain {data own D T : List Int} {z : Int} (hle : ∀ (i : Nat) a b, D[i]? = some a → T[i]? = some b → a ≤ b) (h : rsE data.length z D T own.length = 0) : ∃ R : List Int, ∃ n : Nat, rsR data own D T z.toNat = R ∧ R.length = n ∧ n ≤ 65536 ∧ (n : Int) = elN T * z ∧ rsE n z T D own.length = 0 ∧ rsR R own T D z.toNat = data := by
  unfold rsE at h
  by_cases h1 : elE D = 0
  · rw [if_neg (by simpa using h1)] at h
    by_cases h2 : elE T = 0
    · rw [if_neg (by simpa using h2)] at h
      by_cases h3 : D.length = T.length
      · rw [if_neg (by simpa using h3)] at h
        by_cases h4 : wgE z (elN D) (elN T) = 0
        · rw [if_neg (by simpa using h4)] at h
          by_cases h5 : (data.length : Int) = elN D * z ∧ (own.length : Int) = z
          · obtain ⟨hd, ho⟩ := h5
            obtain ⟨z1, z2, z3⟩ := wgE_zero h4
            obtain ⟨zn, rfl⟩ : ∃ zn : Nat, z = (zn : Int) := ⟨z.toNat, by omega⟩
            have eD : elN D = prd D := by rw [elN, if_pos (elE_ok h1)]
            have eT : elN T = prd T := by rw [elN, if_pos (elE_ok h2)]
            have bT := elN_bd T
            have pD : ∀ x ∈ D, 0 ≤ x := fun x hx => ((dims_of (elE_ok h1).1).2 x hx).1
            have pT : ∀ x ∈ T, 0 ≤ x := fun x hx => ((dims_of (elE_ok h2).1).2 x hx).1
            obtain ⟨bx1, bx2⟩ := min_box (r := D.length) rfl h3.symm pD pT
            have hof : own.length = zn := by omega
            have a2 := Int.mul_le_mul_of_nonneg_right (show elN T ≤ max (elN D) (elN T) by omega) (show (0 : Int) ≤ (zn : Int) by omega)
            have a3 : 0 ≤ elN T * (zn : Int) := Int.mul_nonneg bT.1 (by omega)
            obtain ⟨n, hn⟩ : ∃ n : Nat, (n : Int) = elN T * (zn : Int) := ⟨(elN T * (zn : Int)).toNat, by omega⟩
            have hrl : (repL (elN T).toNat own).length = n := by
              rw [repL_len, hof]
              have : (((elN T).toNat * zn : Nat) : Int) = elN T * zn := by rw [Int.natCast_mul]; congr 1; omega
              omega
            have hRl : (rsR data own D T zn).length = n := by
              rw [rsR, ← h3]
              exact boxB_len bx1 bx2 hrl (by rw [← eT]; exact hn) (by rw [← eD]; exact hd)
            refine ⟨_, n, rfl, hRl, by omega, hn, ?_, grow_back (r := D.length) rfl h3.symm pD hle (by omega) hof (by rw [← eD]; exact hd) eD eT⟩
            rw [rsE, if_neg (by simpa using h2), if_neg (by simpa using h1), if_neg (by simpa using h3.symm)]
            have hw : wgE (zn : Int) (elN T) (elN D) = 0 := by
              have : max (elN T) (elN D) = max (elN D) (elN T) := by omega
              rw [wgE, this]; exact h4
            rw [if_neg (by simpa using hw), if_pos ⟨hn, ho⟩]
          · rw [if_neg h5] at h; cases h
        · rw [if_pos (by simpa using h4)] at h; exact absurd h h4
      · rw [if_pos (by simpa using h3)] at h; cases h
    · rw [if_pos (by simpa using h2)] at h; exact absurd h h2
  · rw [if_pos (by simpa using h1)] at h; exact absurd h h1
end Go.Proofs.Ytneegijbbbebkab
