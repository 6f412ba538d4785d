/-
  insert: an item whose key is new goes into a tree. Conditions: keys rise; the tree has its shape.
-/
import Derived.Test.YtelfjgnmbikofaaBInsA
namespace Go.Proofs.Ytelfjgnmbikofaa
open Go.RowKit
set_option linter.unusedVariables false
set_option maxRecDepth 100000

/-- An item more, at its place. -/
def Ins (F : List It) (k : ByteArray) (x : Int) (F' : List It) : Prop := ∃ A C, F = A ++ C ∧ (∀ a ∈ A, cmpN a.1 k < 0) ∧ (∀ c ∈ C, 0 < cmpN c.1 k) ∧ F' = A ++ (k, x) :: C
theorem Ins.mid {X F Y : List It} {k : ByteArray} {x : Int} {F' : List It} (h : Ins F k x F') (hX : ∀ a ∈ X, cmpN a.1 k < 0) (hY : ∀ c ∈ Y, 0 < cmpN c.1 k) : Ins (X ++ (F ++ Y)) k x (X ++ (F' ++ Y)) := by
  obtain ⟨A, C, rfl, h1, h2, rfl⟩ := h
  refine ⟨X ++ A, C ++ Y, by simp, fun a ha => ?_, fun c hc => ?_, by simp⟩
  · rcases List.mem_append.1 ha with h | h
    · exact hX a h
    · exact h1 a h
  · rcases List.mem_append.1 hc with h | h
    · exact h2 c h
    · exact hY c h
theorem Ins.at_ {L : List It} {k : ByteArray} {x : Int} {i : Nat} (hr : Rise L) (ha : At L k i) (hk : ∀ y ∈ L, cmpN y.1 k ≠ 0) : Ins L k x (L.take i ++ (k, x) :: L.drop i) :=
  ⟨L.take i, L.drop i, (List.take_append_drop _ _).symm, ha.split.1, fun c hc => by have h1 := ha.split.2 c hc; have h2 := hk c (List.mem_of_mem_drop hc); omega, rfl⟩
/-- A node as a tree. -/
def up1 {h : Nat} (c : Nd (Tr h)) : Tr (h + 1) := c
theorem pcs_up {h : Nat} (c : Nd (Tr h)) : pcs (h + 1) (up1 c) = ndp c.n c.vI c.vC c.L (c.ks.map (adr h)) ++ c.ks.flatMap (pcs h) := rfl
theorem flat_up {h : Nat} (c : Nd (Tr h)) : flat (h + 1) (up1 c) = il c.L (c.ks.map (flat h)) := rfl
theorem shp_up {most h lo hi : Nat} {t : Nd (Tr h)} : Shp most (h + 1) lo hi (up1 t) ↔ lo ≤ t.L.length ∧ t.L.length ≤ hi ∧ (0 < h → t.ks.length = t.L.length + 1) ∧ ∀ k ∈ t.ks, Shp most h (most / 2) most k := Iff.rfl
theorem adr_up {h : Nat} (c : Nd (Tr h)) : adr (h + 1) (up1 c) = c.n := rfl
/-- One child of a node, apart from all else. -/
theorem perm_kid {h : Nat} (n : Nat) (vI vC : Value) (L : List It) (K1 : List (Tr h)) (c : Tr h) (K2 : List (Tr h)) (R : List Pc) :
    List.Perm (pcs (h + 1) (⟨n, vI, vC, L, K1 ++ c :: K2⟩ : Nd (Tr h)) ++ R) (pcs h c ++ (ndp n vI vC L ((K1 ++ c :: K2).map (adr h)) ++ (K1.flatMap (pcs h) ++ (K2.flatMap (pcs h) ++ R)))) := by
  classical
  refine List.perm_iff_count.2 (fun a => ?_)
  simp only [pcs_succ, List.count_append, List.flatMap_append, List.flatMap_cons]
  omega
/-- A node and one of its children, written out. -/
theorem perm_two {h : Nat} (n : Nat) (vI vC : Value) (L : List It) (K1 : List (Tr (h + 1))) (c : Nd (Tr h)) (K2 : List (Tr (h + 1))) (R : List Pc) :
    List.Perm (pcs (h + 1) (up1 c) ++ (ndp n vI vC L ((K1 ++ up1 c :: K2).map (adr (h + 1))) ++ (K1.flatMap (pcs (h + 1)) ++ (K2.flatMap (pcs (h + 1)) ++ R))))
      (ndp n vI vC L ((K1 ++ up1 c :: K2).map (adr (h + 1))) ++ (ndp c.n c.vI c.vC c.L (c.ks.map (adr h)) ++ (c.ks.flatMap (pcs h) ++ (K1.flatMap (pcs (h + 1)) ++ (K2.flatMap (pcs (h + 1)) ++ R))))) := by
  classical
  refine List.perm_iff_count.2 (fun a => ?_)
  simp only [pcs_up, List.count_append]
  omega
/-- Two children of a node side by side. -/
theorem perm_three {h : Nat} (n : Nat) (vI vC : Value) (L : List It) (K1 : List (Tr (h + 1))) (c d : Nd (Tr h)) (K2 : List (Tr (h + 1))) (R : List Pc) :
    List.Perm (pcs (h + 2) (⟨n, vI, vC, L, K1 ++ up1 c :: up1 d :: K2⟩ : Nd (Tr (h + 1))) ++ R)
      (ndp n vI vC L ((K1 ++ up1 c :: up1 d :: K2).map (adr (h + 1))) ++ (ndp c.n c.vI c.vC c.L (c.ks.map (adr h)) ++ (ndp d.n d.vI d.vC d.L (d.ks.map (adr h)) ++ (c.ks.flatMap (pcs h) ++ (d.ks.flatMap (pcs h) ++ (K1.flatMap (pcs (h + 1)) ++ (K2.flatMap (pcs (h + 1)) ++ R))))))) := by
  classical
  refine List.perm_iff_count.2 (fun a => ?_)
  rw [pcs_succ]
  simp only [List.count_append, List.flatMap_append, List.flatMap_cons, pcs_up]
  omega
/-- What stands ahead of a child and behind it. -/
theorem kid_flat {h : Nat} {n : Nat} {vI vC : Value} {L : List It} {K1 : List (Tr h)} {c : Tr h} {K2 : List (Tr h)} (hl : K1.length ≤ L.length) :
    flat (h + 1) (⟨n, vI, vC, L, K1 ++ c :: K2⟩ : Nd (Tr h)) = pre (L.take K1.length) (K1.map (flat h)) ++ (flat h c ++ post (L.drop K1.length) (K2.map (flat h))) := by
  rw [flat_succ, List.map_append, List.map_cons]
  have := il_mid (L.take K1.length) (K1.map (flat h)) (flat h c) (L.drop K1.length) (K2.map (flat h)) (by rw [List.length_take, List.length_map]; omega)
  rw [List.take_append_drop] at this
  exact this
/-- Where a key goes below a node: all ahead of its child is below it, all behind is above. -/
theorem kid_order {h : Nat} {n : Nat} {vI vC : Value} {L : List It} {K1 : List (Tr h)} {c : Tr h} {K2 : List (Tr h)} {k : ByteArray} (hl : L.length = K1.length + K2.length) (hr : Rise (flat (h + 1) (⟨n, vI, vC, L, K1 ++ c :: K2⟩ : Nd (Tr h)))) (ha : At L k K1.length) (hk : ∀ y ∈ L.drop K1.length, 0 < cmpN y.1 k) :
    (∀ a ∈ pre (L.take K1.length) (K1.map (flat h)), cmpN a.1 k < 0) ∧ (∀ b ∈ post (L.drop K1.length) (K2.map (flat h)), 0 < cmpN b.1 k) := by
  rw [kid_flat (by omega)] at hr
  have hs := ha.split
  have h1 : Rise (pre (L.take K1.length) (K1.map (flat h))) := hr.sub (List.sublist_append_left _ _)
  have h2 : Rise (post (L.drop K1.length) (K2.map (flat h))) := hr.sub ((List.sublist_append_right _ _).trans (List.sublist_append_right _ _))
  constructor
  · cases hK : L.take K1.length with
    | nil => intro a ha; simp [pre] at ha
    | cons x xs =>
      intro a ham
      -- the last of the items ahead is above all else ahead
      have hne : L.take K1.length ≠ [] := by rw [hK]; simp
      have hlast := hs.1 _ (List.getLast_mem hne)
      rw [← hK] at ham
      have hlen : (L.take K1.length).length = (K1.map (flat h)).length := by rw [List.length_take, List.length_map]; omega
      have hpre : ∀ (l : List It) (K : List (List It)) (hl : l.length = K.length) (hn : l ≠ []) (hr : Rise (pre l K)), ∀ a ∈ pre l K, a = l.getLast hn ∨ cmpN a.1 (l.getLast hn).1 < 0 := by
        intro l K hl hn hr a hma
        obtain ⟨l', z, rfl⟩ : ∃ l' z, l = l' ++ [z] := ⟨l.dropLast, l.getLast hn, (List.dropLast_concat_getLast hn).symm⟩
        obtain ⟨K', q, rfl⟩ : ∃ K' q, K = K' ++ [q] := by
          have hKn : K ≠ [] := fun e => by subst e; simp at hl
          exact ⟨K.dropLast, K.getLast hKn, (List.dropLast_concat_getLast hKn).symm⟩
        rw [pre_append _ _ _ _ (by simpa using hl)] at hma hr
        have hgl : (l' ++ [z]).getLast hn = z := by simp
        rw [hgl]
        simp only [pre] at hma hr
        rw [← List.append_assoc] at hma hr
        rcases List.mem_append.1 hma with h | h
        · exact .inr (hr.mid.1 a h)
        · simp at h; exact .inl h
      rcases hpre _ _ hlen hne h1 a ham with rfl | h
      · exact hlast
      · exact cmpN_trans h hlast
  · cases hK : L.drop K1.length with
    | nil => intro a ha; simp [post] at ha
    | cons x xs =>
      intro a ham
      have hx : 0 < cmpN x.1 k := hk x (by rw [hK]; simp)
      rw [← hK] at ham
      cases hK2 : K2.map (flat h) with
      | nil => rw [hK2] at ham; cases hq : L.drop K1.length <;> simp [hq, post] at ham
      | cons q K2' =>
        rw [hK2, hK] at ham
        rw [hK2, hK] at h2
        simp only [post] at ham h2
        rcases List.mem_cons.1 ham with rfl | h
        · exact hx
        · have h3 : cmpN x.1 a.1 < 0 := (List.pairwise_cons.1 h2).1 a h
          exact cmpN_pos.2 (cmpN_trans (cmpN_pos.1 hx) h3)
/-- A kid's place. -/
theorem kid_at {h : Nat} {t : Nd (Tr h)} {i : Nat} (hi : i < t.ks.length) : ∃ K1 c K2, t.ks = K1 ++ c :: K2 ∧ K1.length = i :=
  ⟨t.ks.take i, t.ks[i], t.ks.drop (i + 1), by rw [List.getElem_cons_drop, List.take_append_drop], by rw [List.length_take]; omega⟩
end Go.Proofs.Ytelfjgnmbikofaa
