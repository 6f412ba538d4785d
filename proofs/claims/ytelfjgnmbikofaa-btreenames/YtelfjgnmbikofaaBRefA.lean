/-
  refill in a tree. Conditions: the tree has its shape but for the one child.
-/
import Derived.Test.YtelfjgnmbikofaaBRef
namespace Go.Proofs.Ytelfjgnmbikofaa
open Go.RowKit
set_option linter.unusedVariables false
set_option maxRecDepth 100000

/-- What a node of a tree and one of its children tell. -/
theorem kid_cells {w : World} {B h n : Nat} {vI vC : Value} {L : List It} {K1 K2 : List (Tr (h + 1))} {c : Nd (Tr h)} {R : List Pc} (hS : Sep w B (pcs (h + 2) (up1 (⟨n, vI, vC, L, K1 ++ up1 c :: K2⟩ : Nd (Tr (h + 1)))) ++ R)) :
    (∃ aoI capI, w.cell? ⟨c.n, 0, none⟩ = some (.slice aoI c.L.length capI)) := by
  have h1 := hS.perm (perm_kid n vI vC L K1 (up1 c) K2 R)
  have h2 := nd_in h1
  obtain ⟨ao, cap, hv⟩ := row_slice (h2.nd_ []).rI
  exact ⟨ao, cap, by rw [← hv]; exact (h2.nd_ []).c.1⟩
theorem node_cells {w : World} {B h n : Nat} {vI vC : Value} {L : List It} {ks : List (Tr (h + 1))} {R : List Pc} (hS : Sep w B (pcs (h + 2) (up1 (⟨n, vI, vC, L, ks⟩ : Nd (Tr (h + 1)))) ++ R)) (hl : ks.length = L.length + 1) :
    (∃ aoN capN, w.cell? ⟨n, 0, none⟩ = some (.slice aoN L.length capN)) ∧ ∃ gC capC, vC = .slice (some ⟨gC, 0, none⟩) (L.length + 1) capC ∧ w.cell? ⟨n, 1, none⟩ = some (.slice (some ⟨gC, 0, none⟩) (L.length + 1) capC) ∧ ∀ i k, ks[i]? = some k → w.cell? ⟨gC, i, none⟩ = some (.pointer (some ⟨adr (h + 1) k, 0, none⟩)) := by
  have h2 : Sep w B (ndp n vI vC L (ks.map (adr (h + 1))) ++ (ks.flatMap (pcs (h + 1)) ++ R)) := nd_in hS
  have hN := h2.nd_ []
  obtain ⟨ao, cap, hv⟩ := row_slice hN.rI
  have hrC := hN.rC
  rw [List.length_map, hl] at hrC
  obtain ⟨gC, capC, hvC, _, _, _, _, _, hCc⟩ := row_some hrC (by omega)
  refine ⟨⟨ao, cap, by rw [← hv]; exact hN.c.1⟩, gC, capC, hvC, by rw [← hvC]; exact hN.c.2.1, fun i k hk => hCc i _ (gcP_at (by rw [List.getElem?_map, hk]; rfl))⟩
theorem split_at {α : Type} (L : List α) (i : Nat) (h : i < L.length) : ∃ L1 s L2, L = L1 ++ s :: L2 ∧ L1.length = i :=
  ⟨L.take i, L[i], L.drop (i + 1), by rw [List.getElem_cons_drop, List.take_append_drop], by rw [List.length_take]; omega⟩
theorem refill_any {w : World} {B h n p q most lo a : Nat} {vI vC : Value} {L : List It} {K1 K2 : List (Tr (h + 1))} {c : Nd (Tr h)} {R : List Pc} (h3 : 3 ≤ most) (h64 : most ≤ 64)
    (hS : Sep w B (pcs (h + 2) (up1 (⟨n, vI, vC, L, K1 ++ up1 c :: K2⟩ : Nd (Tr (h + 1)))) ++ R)) (hT : treeO p q most ∈ R) (hB : B ≤ w.heap.size) (hl : L.length = K1.length + K2.length) (hL1 : 1 ≤ L.length) (hlo : lo ≤ L.length) (hhi : L.length ≤ most)
    (hK : ∀ e ∈ K1 ++ K2, Shp most (h + 1) (most / 2) most e) (hc : Shp most (h + 1) (most / 2 - 1) most (up1 c)) (ha : K1.length = a) :
    Calls Try.prog 50 #[.pointer (some ⟨p, 0, none⟩), .pointer (some ⟨n, 0, none⟩), .int .i64 (a : Int)] w fun e w' => e = .returned (.tuple #[]) ∧ RefP most lo B (h + 1) n (flat (h + 2) (up1 (⟨n, vI, vC, L, K1 ++ up1 c :: K2⟩ : Nd (Tr (h + 1))))) R w' ∧ Below B w w' := by
  obtain ⟨_, _, t2, _⟩ := hS.tr (p := p) (q := q) (most := most) (List.mem_append_right _ hT)
  have hkl : (K1 ++ up1 c :: K2).length = L.length + 1 := by rw [List.length_append, List.length_cons]; omega
  obtain ⟨⟨aoN, capN, n0⟩, gC, capC, hvC, n1, hCc⟩ := node_cells hS hkl
  obtain ⟨aom, capm, c0⟩ := kid_cells hS
  have ca := hCc a (up1 c) (by rw [← ha]; simp)
  rw [adr_up] at ca
  have hdr : ∀ q, Below w.heap.size w (w.drewN q) := fun q => ⟨rfl, rfl, rfl, Nat.le_refl _, fun _ _ => rfl⟩
  have hcs := shp_up.1 hc
  by_cases hm : most / 2 ≤ c.L.length
  · refine (refill_w0 (n := n) (p := p) (a := a) h64 t2 n1 (by omega) ca c0 hm).mono ?_
    rintro e w' ⟨rfl, q', rfl⟩
    refine ⟨rfl, ⟨⟨n, vI, vC, L, K1 ++ up1 c :: K2⟩, rfl, hS.below (hdr q'), shp_up.2 ⟨?_, hhi, fun _ => hkl, fun e he => ?_⟩, ?_, rfl⟩, (hdr q').mono hB⟩
    · show lo - 1 ≤ L.length; omega
    · have he' : e ∈ K1 ++ up1 c :: K2 := he
      simp only [List.mem_append, List.mem_cons] at he'
      rcases he' with h1 | rfl | h1
      · exact hK e (List.mem_append_left _ h1)
      · exact shp_up.2 ⟨hm, hcs.2.1, hcs.2.2.1, hcs.2.2.2⟩
      · exact hK e (List.mem_append_right _ h1)
    · show lo - 1 ≤ L.length; omega
  · have hm' : c.L.length < most / 2 := by omega
    have hLS : ∀ q, Sep (w.drewN q) B (pcs (h + 2) (up1 (⟨n, vI, vC, L, K1 ++ up1 c :: K2⟩ : Nd (Tr (h + 1)))) ++ R) := fun q => hS.below (hdr q)
    have hBq : ∀ q, B ≤ (w.drewN q).heap.size := fun q => hB
    have hbl : ∀ q w', Below B (w.drewN q) w' → Below B w w' := fun q w' hb => ((hdr q).mono hB).trans hb
    rcases Nat.eq_zero_or_pos a with ha0 | hap
    · -- none ahead
      have hK1 : K1 = [] := List.eq_nil_of_length_eq_zero (by omega)
      subst hK1
      obtain ⟨d, K2', rfl⟩ : ∃ (d : Nd (Tr h)) (K2' : List (Tr (h + 1))), K2 = up1 d :: K2' := by
        cases K2 with
        | nil => rw [List.length_nil] at hl; omega
        | cons x y => exact ⟨x, y, rfl⟩
      obtain ⟨L1, s, L2, rfl, hL1l⟩ := split_at L 0 (by omega)
      have hL1n : L1 = [] := List.eq_nil_of_length_eq_zero hL1l
      subst hL1n
      have hl2 : L2.length = K2'.length := by simp at hl; omega
      have hd := hK (up1 d) (by simp)
      have hKr : ∀ e ∈ ([] : List (Tr (h + 1))) ++ K2', Shp most (h + 1) (most / 2) most e := fun e he => hK e (by simp at he ⊢; exact .inr he)
      have cr := hCc (a + 1) (up1 d) (by rw [ha0]; rfl)
      rw [adr_up] at cr
      obtain ⟨aor, capr, r0⟩ := kid_cells (K1 := [up1 c]) (c := d) (K2 := K2') hS
      by_cases hmr : most / 2 < d.L.length
      · exact refill_w2b h64 t2 n0 n1 ca c0 hm' (by omega) ha0 (by omega) cr r0 hmr (fun q => (left_tree (K1 := []) (L1 := []) (a := 0) h3 h64 (hLS q) (hBq q) rfl hl2 rfl hlo hhi hKr hc hd hmr hm').mono (fun e w' h => ⟨h.1, h.2.1, hbl q w' h.2.2⟩))
      · have hds := shp_up.1 hd
        exact refill_w4 h64 t2 n0 n1 ca c0 hm' (by omega) ha0 (by omega) cr r0 (by omega) (fun q => (both_tree (K1 := []) (L1 := []) (a := 0) h3 h64 (hLS q) (hBq q) rfl hl2 rfl hlo hhi hKr hc (shp_up.2 ⟨by have := hds.1; omega, hds.2⟩) (by omega) (by omega)).mono (fun e w' h => ⟨h.1, h.2.1, hbl q w' h.2.2⟩))
    · -- one ahead
      obtain ⟨b, hab⟩ : ∃ b, a = b + 1 := ⟨a - 1, by omega⟩
      obtain ⟨K1', d, rfl⟩ : ∃ (K1' : List (Tr (h + 1))) (d : Nd (Tr h)), K1 = K1' ++ [up1 d] := by
        have hne : K1 ≠ [] := fun e => by subst e; rw [List.length_nil] at ha; omega
        exact ⟨K1.dropLast, K1.getLast hne, (List.dropLast_concat_getLast hne).symm⟩
      have hb : K1'.length = b := by rw [List.length_append] at ha; simp at ha; omega
      have hd := hK (up1 d) (by simp)
      have hds := shp_up.1 hd
      have ee : ∀ (X : List (Tr (h + 1))), (K1' ++ [up1 d]) ++ X = K1' ++ up1 d :: X := fun X => by simp
      rw [ee] at hS hCc hkl ⊢
      have hLS : ∀ q, Sep (w.drewN q) B (pcs (h + 2) (up1 (⟨n, vI, vC, L, K1' ++ up1 d :: up1 c :: K2⟩ : Nd (Tr (h + 1)))) ++ R) := fun q => hS.below (hdr q)
      have hl' : L.length = K1'.length + 1 + K2.length := by rw [List.length_append] at hl; simpa using hl
      obtain ⟨L1, s, L2, rfl, hL1l⟩ := split_at L b (by omega)
      have hl1 : L1.length = K1'.length := by omega
      have hl2 : L2.length = K2.length := by rw [List.length_append, List.length_cons] at hl'; omega
      have hKl : ∀ e ∈ K1' ++ K2, Shp most (h + 1) (most / 2) most e := fun e he => hK e (by simp at he ⊢; rcases he with h1 | h1; exact .inl h1; exact .inr (.inr h1))
      have cl := hCc b (up1 d) (by rw [← hb]; simp)
      rw [adr_up] at cl
      obtain ⟨aol, capl, l0⟩ := kid_cells (K1 := K1') (c := d) (K2 := up1 c :: K2) hS
      by_cases hml : most / 2 < d.L.length
      · obtain ⟨m, hmm⟩ : ∃ m, d.L.length = m + 1 := ⟨d.L.length - 1, by omega⟩
        exact refill_w1 h64 t2 n0 n1 ca c0 hm' (by omega) hab (by omega) cl l0 hml (fun q => (right_tree (c := d) (d := c) (a := b) (m := m) h3 h64 (hLS q) (hBq q) hl1 hl2 hb hlo hhi hKl hd hc hmm (by omega) hm').mono (fun e w' h => ⟨h.1, h.2.1, hbl q w' h.2.2⟩))
      · have hjoin : ∀ q, Calls Try.prog 67 #[.pointer (some ⟨n, 0, none⟩), .int .i64 (b : Int)] (w.drewN q) fun e w' => e = .returned (.tuple #[]) ∧ RefP most lo B (h + 1) n (flat (h + 2) (up1 (⟨n, vI, vC, L1 ++ s :: L2, K1' ++ up1 d :: up1 c :: K2⟩ : Nd (Tr (h + 1))))) R w' ∧ Below B w w' := fun q =>
          (both_tree (c := d) (d := c) (a := b) h3 h64 (hLS q) (hBq q) hl1 hl2 hb hlo hhi hKl (shp_up.2 ⟨by have := hds.1; omega, hds.2⟩) hc (by omega) (by omega)).mono (fun e w' h => ⟨h.1, h.2.1, hbl q w' h.2.2⟩)
        have hK2 : K2 = [] ∨ ∃ (f : Nd (Tr h)) (K2' : List (Tr (h + 1))), K2 = up1 f :: K2' := by
          cases K2 with
          | nil => exact .inl rfl
          | cons x y => exact .inr ⟨x, y, rfl⟩
        rcases hK2 with rfl | ⟨f, K2', rfl⟩
        · have hLl : (L1 ++ s :: L2).length = a := by simp at hl'; rw [List.length_append, List.length_cons]; omega
          exact refill_w3b h64 t2 n0 n1 ca c0 hm' (by omega) hab (by omega) (by omega) cl l0 (by omega) hjoin
        · have hf := hK (up1 f) (by simp)
          have hfs := shp_up.1 hf
          have hal : a < (L1 ++ s :: L2).length := by rw [List.length_cons] at hl'; omega
          have cr := hCc (a + 1) (up1 f) (by rw [hab, ← hb, List.getElem?_append_right (by omega), show K1'.length + 1 + 1 - K1'.length = 2 by omega]; rfl)
          rw [adr_up] at cr
          obtain ⟨aor, capr, r0⟩ := kid_cells (K1 := K1' ++ [up1 d, up1 c]) (c := f) (K2 := K2') (by simpa using hS)
          by_cases hmr : most / 2 < f.L.length
          · refine refill_w2a h64 t2 n0 n1 ca c0 hm' (by omega) hab hal cl l0 (by omega) cr r0 hmr (fun q => ?_)
            obtain ⟨M1, s', M2, hLe, hM1⟩ := split_at (L1 ++ s :: L2) a hal
            rw [show (b : Int) + 1 = ((a : Nat) : Int) by omega]
            have hLSq := hLS q
            rw [hLe] at hLSq hlo hhi ⊢
            have e2 : K1' ++ up1 d :: up1 c :: up1 f :: K2' = (K1' ++ [up1 d]) ++ up1 c :: up1 f :: K2' := by simp
            rw [e2] at hLSq ⊢
            refine (left_tree (c := c) (d := f) (a := a) h3 h64 hLSq (hBq q) (by rw [hM1, List.length_append, hb]; simp; omega) ?_ (by rw [List.length_append, hb]; simp; omega) hlo hhi (fun e he => hK e (by rcases List.mem_append.1 he with h1 | h1; exact List.mem_append_left _ h1; exact List.mem_append_right _ (List.mem_cons_of_mem _ h1))) hc hf hmr hm').mono (fun e w' h => ⟨h.1, h.2.1, hbl q w' h.2.2⟩)
            have h9 : (L1 ++ s :: L2).length = (M1 ++ s' :: M2).length := by rw [hLe]
            simp only [List.length_append, List.length_cons] at h9 hl'
            omega
          · exact refill_w3a h64 t2 n0 n1 ca c0 hm' (by omega) hab hal cl l0 (by omega) cr r0 (by omega) hjoin
end Go.Proofs.Ytelfjgnmbikofaa
