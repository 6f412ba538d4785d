/-
  Two children of a node side by side: an item goes from one to the other, or they become one. Conditions: the tree has its shape.
  refill, case by case: what a turn or a join leaves of a tree. Conditions: the tree has its shape.
-/
import Derived.Test.YtelfjgnmbikofaaBInsB
import Derived.Test.YtelfjgnmbikofaaBTurn
import Derived.Test.YtelfjgnmbikofaaBTurnR
import Derived.Test.YtelfjgnmbikofaaBJoin
namespace Go.Proofs.Ytelfjgnmbikofaa
open Go.RowKit
set_option linter.unusedVariables false
set_option maxRecDepth 100000

theorem turnLeft_any {w : World} {B n c d a : Nat} {vI vC wI wC uI uC : Value} {L M Q : List It} {cs bs ds : List Nat} {R : List Pc} {s : It}
    (hS : Sep w B (ndp n vI vC L cs ++ (ndp c wI wC M bs ++ (ndp d uI uC Q ds ++ R)))) (hac : cs[a]? = some c) (had : cs[a + 1]? = some d) (hs : L[a]? = some s) (hLn : L.length ≤ 1000) (hcn : cs.length ≤ 1000) (hMn : M.length ≤ 1000) (hQn : Q.length ≤ 1000) (hk : (bs = [] ∧ ds = []) ∨ (bs.length = M.length + 1 ∧ ds.length = Q.length + 1)) (hQ1 : 1 ≤ Q.length) (hB : B ≤ w.heap.size) :
    Calls Try.prog 66 #[.pointer (some ⟨n, 0, none⟩), .int .i64 (a : Int)] w fun e w' => e = .returned (.tuple #[]) ∧ (∃ t vI' vC' wI' wC' uI' uC', Q[0]? = some t ∧ Sep w' B (ndp n vI' vC' (L.set a t) cs ++ (ndp c wI' wC' (M ++ [s]) (bs ++ ds.take 1) ++ (ndp d uI' uC' (Q.drop 1) (ds.drop 1) ++ R)))) ∧ Below B w w' := by
  rcases hk with ⟨rfl, rfl⟩ | ⟨h1, h2⟩
  · refine (turnLeft_leaf hS hac had hs hLn hcn hMn hQn hQ1 hB).mono ?_
    rintro e w' ⟨rfl, ⟨t, vI', vC', wI', wC', uI', uC', ht, hS'⟩, hb⟩
    exact ⟨rfl, ⟨t, vI', vC', wI', wC', uI', uC', ht, hS'⟩, hb⟩
  · refine (turnLeft_node hS hac had hs hLn hcn hMn hQn h1 h2 hQ1 hB).mono ?_
    rintro e w' ⟨rfl, ⟨t, e0, vI', vC', wI', wC', uI', uC', ht, he, hS'⟩, hb⟩
    have e1 : ds.take 1 = [e0] := by
      cases ds with
      | nil => simp at he
      | cons y ys => simp at he; subst he; simp
    rw [← e1] at hS'
    exact ⟨rfl, ⟨t, vI', vC', wI', wC', uI', uC', ht, hS'⟩, hb⟩
theorem turnRight_any {w : World} {B n c d a m : Nat} {vI vC wI wC uI uC : Value} {L M Q : List It} {cs bs ds : List Nat} {R : List Pc} {s : It}
    (hS : Sep w B (ndp n vI vC L cs ++ (ndp c wI wC M bs ++ (ndp d uI uC Q ds ++ R)))) (hac : cs[a]? = some c) (had : cs[a + 1]? = some d) (hs : L[a]? = some s) (hLn : L.length ≤ 1000) (hcn : cs.length ≤ 1000) (hMn : M.length ≤ 1000) (hQn : Q.length ≤ 1000) (hk : (bs = [] ∧ ds = []) ∨ (bs.length = M.length + 1 ∧ ds.length = Q.length + 1)) (hM1 : M.length = m + 1) (hB : B ≤ w.heap.size) :
    Calls Try.prog 65 #[.pointer (some ⟨n, 0, none⟩), .int .i64 (a : Int)] w fun e w' => e = .returned (.tuple #[]) ∧ (∃ t vI' vC' wI' wC' uI' uC', M[m]? = some t ∧ Sep w' B (ndp n vI' vC' (L.set a t) cs ++ (ndp c wI' wC' (M.take m) (bs.take (m + 1)) ++ (ndp d uI' uC' (s :: Q) (bs.drop (m + 1) ++ ds) ++ R)))) ∧ Below B w w' := by
  rcases hk with ⟨rfl, rfl⟩ | ⟨h1, h2⟩
  · refine (turnRight_leaf hS hac had hs hLn hcn hMn hQn hM1 hB).mono ?_
    rintro e w' ⟨rfl, ⟨t, vI', vC', wI', wC', uI', uC', ht, hS'⟩, hb⟩
    exact ⟨rfl, ⟨t, vI', vC', wI', wC', uI', uC', ht, by simpa using hS'⟩, hb⟩
  · refine (turnRight_node hS hac had hs hLn hcn hMn hQn h1 h2 hM1 hB).mono ?_
    rintro e w' ⟨rfl, ⟨t, e0, vI', vC', wI', wC', uI', uC', ht, he, hS'⟩, hb⟩
    have e1 : bs.drop (m + 1) = [e0] := by
      obtain ⟨hl, hx⟩ := List.getElem?_eq_some_iff.1 he
      rw [← List.getElem_cons_drop hl, hx, List.drop_of_length_le (by omega)]
    rw [show e0 :: ds = bs.drop (m + 1) ++ ds by rw [e1]; rfl] at hS'
    exact ⟨rfl, ⟨t, vI', vC', wI', wC', uI', uC', ht, hS'⟩, hb⟩
/-- What refill leaves of a tree. -/
def RefP (most lo B h n : Nat) (F : List It) (R : List Pc) (w' : World) : Prop :=
  ∃ t' : Nd (Tr h), t'.n = n ∧ Sep w' B (pcs (h + 1) (up1 t') ++ R) ∧ Shp most (h + 1) (lo - 1) most (up1 t') ∧ lo - 1 ≤ t'.L.length ∧ flat (h + 1) (up1 t') = F
theorem pair_flat {h n : Nat} {vI vC : Value} {L1 L2 : List It} {s : It} {K1 K2 : List (Tr h)} {c d : Tr h} (hl : L1.length = K1.length) :
    flat (h + 1) (up1 (⟨n, vI, vC, L1 ++ s :: L2, K1 ++ c :: d :: K2⟩ : Nd (Tr h))) = pre L1 (K1.map (flat h)) ++ ((flat h c ++ s :: flat h d) ++ post L2 (K2.map (flat h))) := by
  rw [flat_up]
  show il (L1 ++ s :: L2) ((K1 ++ c :: d :: K2).map (flat h)) = _
  rw [List.map_append, List.map_cons, List.map_cons, il_mid _ _ _ _ _ (by rw [List.length_map]; exact hl)]
  simp [post]
theorem one_flat {h n : Nat} {vI vC : Value} {L1 L2 : List It} {K1 K2 : List (Tr h)} {c : Tr h} (hl : L1.length = K1.length) :
    flat (h + 1) (up1 (⟨n, vI, vC, L1 ++ L2, K1 ++ c :: K2⟩ : Nd (Tr h))) = pre L1 (K1.map (flat h)) ++ (flat h c ++ post L2 (K2.map (flat h))) := by
  rw [flat_up]
  show il (L1 ++ L2) ((K1 ++ c :: K2).map (flat h)) = _
  rw [List.map_append, List.map_cons, il_mid _ _ _ _ _ (by rw [List.length_map]; exact hl)]
/-- The two children behind a turn. -/
theorem turn_tree {most lo h n : Nat} {vI vC : Value} {L1 L2 : List It} {s t : It} {K1 K2 : List (Tr (h + 1))} {c d c' d' : Nd (Tr h)} {B : Nat} {R : List Pc} {w' : World} (hl1 : L1.length = K1.length) (hl2 : L2.length = K2.length)
    (hlo : lo ≤ (L1 ++ s :: L2).length) (hhi : (L1 ++ s :: L2).length ≤ most) (hK : ∀ e ∈ K1 ++ K2, Shp most (h + 1) (most / 2) most e) (hc : Shp most (h + 1) (most / 2) most (up1 c')) (hd : Shp most (h + 1) (most / 2) most (up1 d'))
    (hF : flat (h + 1) (up1 c) ++ s :: flat (h + 1) (up1 d) = flat (h + 1) (up1 c') ++ t :: flat (h + 1) (up1 d')) (hcn : c'.n = c.n) (hdn : d'.n = d.n)
    (hks : List.Perm (c.ks.flatMap (pcs h) ++ d.ks.flatMap (pcs h)) (c'.ks.flatMap (pcs h) ++ d'.ks.flatMap (pcs h)))
    (hS : Sep w' B (ndp n vI vC (L1 ++ t :: L2) ((K1 ++ up1 c :: up1 d :: K2).map (adr (h + 1))) ++ (ndp c'.n c'.vI c'.vC c'.L (c'.ks.map (adr h)) ++ (ndp d'.n d'.vI d'.vC d'.L (d'.ks.map (adr h)) ++ (c.ks.flatMap (pcs h) ++ (d.ks.flatMap (pcs h) ++ (K1.flatMap (pcs (h + 1)) ++ (K2.flatMap (pcs (h + 1)) ++ R)))))))) {vI0 vC0 : Value} :
    RefP most lo B (h + 1) n (flat (h + 2) (up1 (⟨n, vI0, vC0, L1 ++ s :: L2, K1 ++ up1 c :: up1 d :: K2⟩ : Nd (Tr (h + 1))))) R w' := by
  refine ⟨⟨n, vI, vC, L1 ++ t :: L2, K1 ++ up1 c' :: up1 d' :: K2⟩, rfl, ?_, shp_up.2 ⟨?_, ?_, fun _ => ?_, fun e he => ?_⟩, ?_, ?_⟩
  · refine Sep.perm ?_ (perm_three n vI vC _ K1 c' d' K2 R).symm
    have e1 : (K1 ++ up1 c :: up1 d :: K2).map (adr (h + 1)) = (K1 ++ up1 c' :: up1 d' :: K2).map (adr (h + 1)) := by
      rw [List.map_append, List.map_append, List.map_cons, List.map_cons, List.map_cons, List.map_cons, adr_up, adr_up, adr_up, adr_up, hcn, hdn]
    rw [e1] at hS
    refine hS.perm (List.Perm.append_left _ (List.Perm.append_left _ (List.Perm.append_left _ ?_)))
    have := hks.append_right (K1.flatMap (pcs (h + 1)) ++ (K2.flatMap (pcs (h + 1)) ++ R))
    rw [List.append_assoc, List.append_assoc] at this
    exact this
  · show lo - 1 ≤ (L1 ++ t :: L2).length
    simp only [List.length_append, List.length_cons] at hlo ⊢; omega
  · show (L1 ++ t :: L2).length ≤ most
    simp only [List.length_append, List.length_cons] at hhi ⊢; omega
  · show (K1 ++ up1 c' :: up1 d' :: K2).length = (L1 ++ t :: L2).length + 1
    simp only [List.length_append, List.length_cons]; omega
  · have he' : e ∈ K1 ++ up1 c' :: up1 d' :: K2 := he
    simp only [List.mem_append, List.mem_cons] at he'
    rcases he' with h1 | rfl | rfl | h1
    · exact hK e (List.mem_append_left _ h1)
    · exact hc
    · exact hd
    · exact hK e (List.mem_append_right _ h1)
  · show lo - 1 ≤ (L1 ++ t :: L2).length
    simp only [List.length_append, List.length_cons] at hlo ⊢; omega
  · rw [pair_flat hl1, pair_flat hl1, hF]
/-- The one child behind a join. -/
theorem join_tree {most lo h n : Nat} {vI vC : Value} {L1 L2 : List It} {s : It} {K1 K2 : List (Tr (h + 1))} {c d c' : Nd (Tr h)} {B : Nat} {R : List Pc} {w' : World} (hl1 : L1.length = K1.length) (hl2 : L2.length = K2.length)
    (hlo : lo ≤ (L1 ++ s :: L2).length) (hhi : (L1 ++ s :: L2).length ≤ most) (hK : ∀ e ∈ K1 ++ K2, Shp most (h + 1) (most / 2) most e) (hc : Shp most (h + 1) (most / 2) most (up1 c'))
    (hF : flat (h + 1) (up1 c) ++ s :: flat (h + 1) (up1 d) = flat (h + 1) (up1 c')) (hcn : c'.n = c.n) (hks : c'.ks = c.ks ++ d.ks)
    (hS : Sep w' B (ndp n vI vC (L1 ++ L2) ((K1 ++ up1 c :: K2).map (adr (h + 1))) ++ (ndp c'.n c'.vI c'.vC c'.L (c'.ks.map (adr h)) ++ (c.ks.flatMap (pcs h) ++ (d.ks.flatMap (pcs h) ++ (K1.flatMap (pcs (h + 1)) ++ (K2.flatMap (pcs (h + 1)) ++ R))))))) {vI0 vC0 : Value} :
    RefP most lo B (h + 1) n (flat (h + 2) (up1 (⟨n, vI0, vC0, L1 ++ s :: L2, K1 ++ up1 c :: up1 d :: K2⟩ : Nd (Tr (h + 1))))) R w' := by
  refine ⟨⟨n, vI, vC, L1 ++ L2, K1 ++ up1 c' :: K2⟩, rfl, ?_, shp_up.2 ⟨?_, ?_, fun _ => ?_, fun e he => ?_⟩, ?_, ?_⟩
  · have e1 : (K1 ++ up1 c :: K2).map (adr (h + 1)) = (K1 ++ up1 c' :: K2).map (adr (h + 1)) := by
      rw [List.map_append, List.map_append, List.map_cons, List.map_cons, adr_up, adr_up, hcn]
    rw [e1] at hS
    refine Sep.perm ?_ (perm_kid n vI vC (L1 ++ L2) K1 (up1 c') K2 R).symm
    refine Sep.perm ?_ (perm_two n vI vC (L1 ++ L2) K1 c' K2 R).symm
    refine hS.perm (List.Perm.append_left _ (List.Perm.append_left _ ?_))
    rw [hks, List.flatMap_append, List.append_assoc]
  · show lo - 1 ≤ (L1 ++ L2).length
    simp only [List.length_append, List.length_cons] at hlo ⊢; omega
  · show (L1 ++ L2).length ≤ most
    simp only [List.length_append, List.length_cons] at hhi ⊢; omega
  · show (K1 ++ up1 c' :: K2).length = (L1 ++ L2).length + 1
    simp only [List.length_append, List.length_cons]; omega
  · have he' : e ∈ K1 ++ up1 c' :: K2 := he
    simp only [List.mem_append, List.mem_cons] at he'
    rcases he' with h1 | rfl | h1
    · exact hK e (List.mem_append_left _ h1)
    · exact hc
    · exact hK e (List.mem_append_right _ h1)
  · show lo - 1 ≤ (L1 ++ L2).length
    simp only [List.length_append, List.length_cons] at hlo ⊢; omega
  · rw [pair_flat hl1, one_flat hl1, hF]
end Go.Proofs.Ytelfjgnmbikofaa

namespace Go.Proofs.Ytelfjgnmbikofaa
open Go.RowKit
set_option linter.unusedVariables false
set_option maxRecDepth 100000

section
variable {α : Type}
theorem move_flat (M Q : List α) (s t : α) (A E C : List (List α)) (h : (A = [] ∧ E = [] ∧ C = []) ∨ (A.length = M.length + 1 ∧ E.length = 1 ∧ C.length = Q.length + 1)) :
    il (M ++ [t]) (A ++ E) ++ s :: il Q C = il M A ++ t :: il (s :: Q) (E ++ C) := by
  rcases h with ⟨rfl, rfl, rfl⟩ | ⟨h1, h2, h3⟩
  · simp [il]
  · match E, h2 with
    | [k], _ =>
      rw [il_end M t A k h1, List.singleton_append, il_front s Q k C h3]
      simp
theorem join_flat (M Q : List α) (s : α) (A C : List (List α)) (h : (A = [] ∧ C = []) ∨ (A.length = M.length + 1 ∧ C.length = Q.length + 1)) :
    il M A ++ s :: il Q C = il (M ++ s :: Q) (A ++ C) := by
  rcases h with ⟨rfl, rfl⟩ | ⟨h1, h2⟩
  · simp [il]
  · exact (il_cut M Q s A C h1 h2).symm
end
theorem ks_case {most h lo hi lo' hi' : Nat} {c d : Nd (Tr h)} (hc : Shp most (h + 1) lo hi (up1 c)) (hd : Shp most (h + 1) lo' hi' (up1 d)) : (c.ks = [] ∧ d.ks = []) ∨ (c.ks.length = c.L.length + 1 ∧ d.ks.length = d.L.length + 1) := by
  cases h with
  | zero => exact .inl ⟨ks_leaf c, ks_leaf d⟩
  | succ h => exact .inr ⟨(shp_up.1 hc).2.2.1 (by omega), (shp_up.1 hd).2.2.1 (by omega)⟩
/-- turnRight between two children of a tree's node. -/
theorem right_tree {w : World} {B h n a most lo m : Nat} {vI vC : Value} {L1 L2 : List It} {s : It} {K1 K2 : List (Tr (h + 1))} {c d : Nd (Tr h)} {R : List Pc} (h3 : 3 ≤ most) (h64 : most ≤ 64)
    (hS : Sep w B (pcs (h + 2) (up1 (⟨n, vI, vC, L1 ++ s :: L2, K1 ++ up1 c :: up1 d :: K2⟩ : Nd (Tr (h + 1)))) ++ R)) (hB : B ≤ w.heap.size) (hl1 : L1.length = K1.length) (hl2 : L2.length = K2.length) (ha : K1.length = a)
    (hlo : lo ≤ (L1 ++ s :: L2).length) (hhi : (L1 ++ s :: L2).length ≤ most) (hK : ∀ e ∈ K1 ++ K2, Shp most (h + 1) (most / 2) most e) (hc : Shp most (h + 1) (most / 2) most (up1 c)) (hd : Shp most (h + 1) (most / 2 - 1) most (up1 d)) (hm : c.L.length = m + 1) (hgt : most / 2 < m + 1) (hd1 : d.L.length < most / 2) :
    Calls Try.prog 65 #[.pointer (some ⟨n, 0, none⟩), .int .i64 (a : Int)] w fun e w' => e = .returned (.tuple #[]) ∧ RefP most lo B (h + 1) n (flat (h + 2) (up1 (⟨n, vI, vC, L1 ++ s :: L2, K1 ++ up1 c :: up1 d :: K2⟩ : Nd (Tr (h + 1))))) R w' ∧ Below B w w' := by
  have hcs := shp_up.1 hc
  have hds := shp_up.1 hd
  have hlen : (L1 ++ s :: L2).length = K1.length + K2.length + 1 := by simp only [List.length_append, List.length_cons]; omega
  have hS' := hS.perm (perm_three n vI vC (L1 ++ s :: L2) K1 c d K2 R)
  have hkk := ks_case hc hd
  refine (turnRight_any (a := a) (s := s) (m := m) hS' ?_ ?_ ?_ (by omega) ?_ (by omega) (by omega) ?_ hm hB).mono ?_
  · rw [← ha, List.map_append, List.getElem?_append_right (by simp)]; simp [adr_up]
  · rw [← ha, List.map_append, List.getElem?_append_right (by simp)]; simp [adr_up]
  · rw [← ha, ← hl1]; simp
  · simp only [List.length_map, List.length_append, List.length_cons]; omega
  · rcases hkk with ⟨h1, h2⟩ | ⟨h1, h2⟩
    · left; rw [h1, h2]; exact ⟨rfl, rfl⟩
    · right; rw [List.length_map, List.length_map]; exact ⟨h1, h2⟩
  · rintro e w' ⟨rfl, ⟨t, vI', vC', wI', wC', uI', uC', ht, hS2⟩, hb⟩
    have hset : (L1 ++ s :: L2).set a t = L1 ++ t :: L2 := by rw [← ha, ← hl1]; simp
    rw [hset] at hS2
    have hcl : c.L = c.L.take m ++ [t] := by
      obtain ⟨h1, h2⟩ := List.getElem?_eq_some_iff.1 ht
      have h5 : c.L = c.L.take m ++ c.L.drop m := (List.take_append_drop m c.L).symm
      rw [← List.getElem_cons_drop h1, h2, List.drop_of_length_le (l := c.L) (i := m + 1) (by omega)] at h5
      exact h5
    refine ⟨rfl, turn_tree (c := c) (d := d) (vI := vI') (vC := vC') (t := t) (c' := ⟨c.n, wI', wC', c.L.take m, c.ks.take (m + 1)⟩) (d' := ⟨d.n, uI', uC', s :: d.L, c.ks.drop (m + 1) ++ d.ks⟩) hl1 hl2 hlo hhi hK (shp_up.2 ⟨?_, ?_, fun hh => ?_, fun e he => hcs.2.2.2 e (List.mem_of_mem_take he)⟩) (shp_up.2 ⟨?_, ?_, fun hh => ?_, fun e he => ?_⟩) ?_ rfl rfl ?_ ?_, hb⟩
    · show most / 2 ≤ (c.L.take m).length; rw [List.length_take]; omega
    · show (c.L.take m).length ≤ most; rw [List.length_take]; omega
    · show (c.ks.take (m + 1)).length = (c.L.take m).length + 1
      have := hcs.2.2.1 hh
      rw [List.length_take, List.length_take]; omega
    · show most / 2 ≤ (s :: d.L).length; rw [List.length_cons]; omega
    · show (s :: d.L).length ≤ most; rw [List.length_cons]; omega
    · show (c.ks.drop (m + 1) ++ d.ks).length = (s :: d.L).length + 1
      have h1 := hcs.2.2.1 hh
      have h2 := hds.2.2.1 hh
      rw [List.length_append, List.length_drop, List.length_cons]; omega
    · have he' : e ∈ c.ks.drop (m + 1) ++ d.ks := he
      rcases List.mem_append.1 he' with h1 | h1
      · exact hcs.2.2.2 e (List.mem_of_mem_drop h1)
      · exact hds.2.2.2 e h1
    · rw [flat_up, flat_up, flat_up, flat_up]
      show il c.L (c.ks.map (flat h)) ++ s :: il d.L (d.ks.map (flat h)) = il (c.L.take m) ((c.ks.take (m + 1)).map (flat h)) ++ t :: il (s :: d.L) ((c.ks.drop (m + 1) ++ d.ks).map (flat h))
      have e3 : c.ks.map (flat h) = (c.ks.take (m + 1)).map (flat h) ++ (c.ks.drop (m + 1)).map (flat h) := by rw [← List.map_append, List.take_append_drop]
      have hcl' : il c.L (c.ks.map (flat h)) = il (c.L.take m ++ [t]) ((c.ks.take (m + 1)).map (flat h) ++ (c.ks.drop (m + 1)).map (flat h)) := by rw [← hcl, ← e3]
      rw [hcl', List.map_append]
      refine move_flat _ _ _ _ _ _ _ ?_
      rcases hkk with ⟨h1, h2⟩ | ⟨h1, h2⟩
      · left; rw [h1, h2]; exact ⟨rfl, rfl, rfl⟩
      · right
        refine ⟨by rw [List.length_map, List.length_take, List.length_take]; omega, by rw [List.length_map, List.length_drop]; omega, by rw [List.length_map]; omega⟩
    · show List.Perm _ ((c.ks.take (m + 1)).flatMap (pcs h) ++ (c.ks.drop (m + 1) ++ d.ks).flatMap (pcs h))
      have e4 : c.ks.flatMap (pcs h) = (c.ks.take (m + 1)).flatMap (pcs h) ++ (c.ks.drop (m + 1)).flatMap (pcs h) := by rw [← List.flatMap_append, List.take_append_drop]
      rw [List.flatMap_append, ← List.append_assoc, ← e4]
    · show Sep w' B (ndp n vI' vC' (L1 ++ t :: L2) _ ++ (ndp c.n wI' wC' (c.L.take m) ((c.ks.take (m + 1)).map (adr h)) ++ (ndp d.n uI' uC' (s :: d.L) ((c.ks.drop (m + 1) ++ d.ks).map (adr h)) ++ _)))
      rw [List.map_append (l₁ := c.ks.drop (m + 1)), List.map_take, List.map_drop]
      exact hS2
/-- turnLeft between two children of a tree's node. -/
theorem left_tree {w : World} {B h n a most lo : Nat} {vI vC : Value} {L1 L2 : List It} {s : It} {K1 K2 : List (Tr (h + 1))} {c d : Nd (Tr h)} {R : List Pc} (h3 : 3 ≤ most) (h64 : most ≤ 64)
    (hS : Sep w B (pcs (h + 2) (up1 (⟨n, vI, vC, L1 ++ s :: L2, K1 ++ up1 c :: up1 d :: K2⟩ : Nd (Tr (h + 1)))) ++ R)) (hB : B ≤ w.heap.size) (hl1 : L1.length = K1.length) (hl2 : L2.length = K2.length) (ha : K1.length = a)
    (hlo : lo ≤ (L1 ++ s :: L2).length) (hhi : (L1 ++ s :: L2).length ≤ most) (hK : ∀ e ∈ K1 ++ K2, Shp most (h + 1) (most / 2) most e) (hc : Shp most (h + 1) (most / 2 - 1) most (up1 c)) (hd : Shp most (h + 1) (most / 2) most (up1 d)) (hgt : most / 2 < d.L.length) (hc1 : c.L.length < most / 2) :
    Calls Try.prog 66 #[.pointer (some ⟨n, 0, none⟩), .int .i64 (a : Int)] w fun e w' => e = .returned (.tuple #[]) ∧ RefP most lo B (h + 1) n (flat (h + 2) (up1 (⟨n, vI, vC, L1 ++ s :: L2, K1 ++ up1 c :: up1 d :: K2⟩ : Nd (Tr (h + 1))))) R w' ∧ Below B w w' := by
  have hcs := shp_up.1 hc
  have hds := shp_up.1 hd
  have hlen : (L1 ++ s :: L2).length = K1.length + K2.length + 1 := by simp only [List.length_append, List.length_cons]; omega
  have hS' := hS.perm (perm_three n vI vC (L1 ++ s :: L2) K1 c d K2 R)
  have hkk := ks_case hc hd
  refine (turnLeft_any (a := a) (s := s) hS' ?_ ?_ ?_ (by omega) ?_ (by omega) (by omega) ?_ (by omega) hB).mono ?_
  · rw [← ha, List.map_append, List.getElem?_append_right (by simp)]; simp [adr_up]
  · rw [← ha, List.map_append, List.getElem?_append_right (by simp)]; simp [adr_up]
  · rw [← ha, ← hl1]; simp
  · simp only [List.length_map, List.length_append, List.length_cons]; omega
  · rcases hkk with ⟨h1, h2⟩ | ⟨h1, h2⟩
    · left; rw [h1, h2]; exact ⟨rfl, rfl⟩
    · right; rw [List.length_map, List.length_map]; exact ⟨h1, h2⟩
  · rintro e w' ⟨rfl, ⟨t, vI', vC', wI', wC', uI', uC', ht, hS2⟩, hb⟩
    have hset : (L1 ++ s :: L2).set a t = L1 ++ t :: L2 := by rw [← ha, ← hl1]; simp
    rw [hset] at hS2
    have hdl : d.L = t :: d.L.drop 1 := by
      obtain ⟨h1, h2⟩ := List.getElem?_eq_some_iff.1 ht
      have := List.getElem_cons_drop h1
      rw [h2] at this
      simpa using this.symm
    refine ⟨rfl, turn_tree (c := c) (d := d) (vI := vI') (vC := vC') (t := t) (c' := ⟨c.n, wI', wC', c.L ++ [s], c.ks ++ d.ks.take 1⟩) (d' := ⟨d.n, uI', uC', d.L.drop 1, d.ks.drop 1⟩) hl1 hl2 hlo hhi hK (shp_up.2 ⟨?_, ?_, fun hh => ?_, fun e he => ?_⟩) (shp_up.2 ⟨?_, ?_, fun hh => ?_, fun e he => hds.2.2.2 e (List.mem_of_mem_drop he)⟩) ?_ rfl rfl ?_ ?_, hb⟩
    · show most / 2 ≤ (c.L ++ [s]).length; rw [List.length_append]; show most / 2 ≤ c.L.length + 1; omega
    · show (c.L ++ [s]).length ≤ most; rw [List.length_append]; show c.L.length + 1 ≤ most; omega
    · show (c.ks ++ d.ks.take 1).length = (c.L ++ [s]).length + 1
      have h1 := hcs.2.2.1 hh
      have h2 := hds.2.2.1 hh
      rw [List.length_append, List.length_take, List.length_append]; show _ = c.L.length + 1 + 1; omega
    · have he' : e ∈ c.ks ++ d.ks.take 1 := he
      rcases List.mem_append.1 he' with h1 | h1
      · exact hcs.2.2.2 e h1
      · exact hds.2.2.2 e (List.mem_of_mem_take h1)
    · show most / 2 ≤ (d.L.drop 1).length; rw [List.length_drop]; omega
    · show (d.L.drop 1).length ≤ most; rw [List.length_drop]; omega
    · show (d.ks.drop 1).length = (d.L.drop 1).length + 1
      have h2 := hds.2.2.1 hh
      rw [List.length_drop, List.length_drop]; omega
    · rw [flat_up, flat_up, flat_up, flat_up]
      show il c.L (c.ks.map (flat h)) ++ s :: il d.L (d.ks.map (flat h)) = il (c.L ++ [s]) ((c.ks ++ d.ks.take 1).map (flat h)) ++ t :: il (d.L.drop 1) ((d.ks.drop 1).map (flat h))
      have e3 : d.ks.map (flat h) = (d.ks.take 1).map (flat h) ++ (d.ks.drop 1).map (flat h) := by rw [← List.map_append, List.take_append_drop]
      have hdl' : il d.L (d.ks.map (flat h)) = il (t :: d.L.drop 1) ((d.ks.take 1).map (flat h) ++ (d.ks.drop 1).map (flat h)) := by rw [← hdl, ← e3]
      rw [hdl', List.map_append]
      refine (move_flat _ _ _ _ _ _ _ ?_).symm
      rcases hkk with ⟨h1, h2⟩ | ⟨h1, h2⟩
      · left; rw [h1, h2]; exact ⟨rfl, rfl, rfl⟩
      · right
        refine ⟨by rw [List.length_map]; omega, by rw [List.length_map, List.length_take]; omega, by rw [List.length_map, List.length_drop, List.length_drop]; omega⟩
    · show List.Perm _ ((c.ks ++ d.ks.take 1).flatMap (pcs h) ++ (d.ks.drop 1).flatMap (pcs h))
      have e4 : d.ks.flatMap (pcs h) = (d.ks.take 1).flatMap (pcs h) ++ (d.ks.drop 1).flatMap (pcs h) := by rw [← List.flatMap_append, List.take_append_drop]
      rw [List.flatMap_append, List.append_assoc, ← e4]
    · show Sep w' B (ndp n vI' vC' (L1 ++ t :: L2) _ ++ (ndp c.n wI' wC' (c.L ++ [s]) ((c.ks ++ d.ks.take 1).map (adr h)) ++ (ndp d.n uI' uC' (d.L.drop 1) ((d.ks.drop 1).map (adr h)) ++ _)))
      rw [List.map_append (l₁ := c.ks), List.map_take, List.map_drop]
      exact hS2
/-- join of two children of a tree's node. -/
theorem both_tree {w : World} {B h n a most lo : Nat} {vI vC : Value} {L1 L2 : List It} {s : It} {K1 K2 : List (Tr (h + 1))} {c d : Nd (Tr h)} {R : List Pc} (h3 : 3 ≤ most) (h64 : most ≤ 64)
    (hS : Sep w B (pcs (h + 2) (up1 (⟨n, vI, vC, L1 ++ s :: L2, K1 ++ up1 c :: up1 d :: K2⟩ : Nd (Tr (h + 1)))) ++ R)) (hB : B ≤ w.heap.size) (hl1 : L1.length = K1.length) (hl2 : L2.length = K2.length) (ha : K1.length = a)
    (hlo : lo ≤ (L1 ++ s :: L2).length) (hhi : (L1 ++ s :: L2).length ≤ most) (hK : ∀ e ∈ K1 ++ K2, Shp most (h + 1) (most / 2) most e) (hc : Shp most (h + 1) (most / 2 - 1) most (up1 c)) (hd : Shp most (h + 1) (most / 2 - 1) most (up1 d)) (hsum1 : most / 2 ≤ c.L.length + d.L.length + 1) (hsum : c.L.length + d.L.length + 1 ≤ most) :
    Calls Try.prog 67 #[.pointer (some ⟨n, 0, none⟩), .int .i64 (a : Int)] w fun e w' => e = .returned (.tuple #[]) ∧ RefP most lo B (h + 1) n (flat (h + 2) (up1 (⟨n, vI, vC, L1 ++ s :: L2, K1 ++ up1 c :: up1 d :: K2⟩ : Nd (Tr (h + 1))))) R w' ∧ Below B w w' := by
  have hcs := shp_up.1 hc
  have hds := shp_up.1 hd
  have hlen : (L1 ++ s :: L2).length = K1.length + K2.length + 1 := by simp only [List.length_append, List.length_cons]; omega
  have hS' := hS.perm (perm_three n vI vC (L1 ++ s :: L2) K1 c d K2 R)
  have hkk := ks_case hc hd
  have hkn : c.ks.length ≤ 1001 ∧ d.ks.length ≤ 1001 := by
    rcases hkk with ⟨h1, h2⟩ | ⟨h1, h2⟩
    · rw [h1, h2]; simp
    · omega
  refine (join_any (a := a) (s := s) hS' ?_ ?_ ?_ (by omega) ?_ (by omega) (by omega) (by rw [List.length_map]; exact hkn.1) (by rw [List.length_map]; exact hkn.2) hB).mono ?_
  · rw [← ha, List.map_append, List.getElem?_append_right (by simp)]; simp [adr_up]
  · rw [← ha, List.map_append, List.getElem?_append_right (by simp)]; simp [adr_up]
  · rw [← ha, ← hl1]; simp
  · simp only [List.length_map, List.length_append, List.length_cons]; omega
  · rintro e w' ⟨rfl, ⟨vI', vC', wI', wC', hS2⟩, hb⟩
    have hset : (L1 ++ s :: L2).take a ++ (L1 ++ s :: L2).drop (a + 1) = L1 ++ L2 := by rw [← ha, ← hl1]; simp
    rw [hset] at hS2
    have hset2 : ((K1 ++ up1 c :: up1 d :: K2).map (adr (h + 1))).take (a + 1) ++ ((K1 ++ up1 c :: up1 d :: K2).map (adr (h + 1))).drop (a + 2) = (K1 ++ up1 c :: K2).map (adr (h + 1)) := by
      rw [← ha, List.map_append, List.map_cons, List.map_cons, List.map_append, List.map_cons]
      rw [show K1.length + 1 = (K1.map (adr (h + 1))).length + 1 by rw [List.length_map], show K1.length + 2 = (K1.map (adr (h + 1))).length + 2 by rw [List.length_map], List.take_length_add_append, List.drop_length_add_append]
      simp
    rw [hset2] at hS2
    refine ⟨rfl, join_tree (c := c) (d := d) (vI := vI') (vC := vC') (c' := ⟨c.n, wI', wC', c.L ++ s :: d.L, c.ks ++ d.ks⟩) hl1 hl2 hlo hhi hK (shp_up.2 ⟨?_, ?_, fun hh => ?_, fun e he => ?_⟩) ?_ rfl rfl ?_, hb⟩
    · show most / 2 ≤ (c.L ++ s :: d.L).length; rw [List.length_append, List.length_cons]; omega
    · show (c.L ++ s :: d.L).length ≤ most; rw [List.length_append, List.length_cons]; omega
    · show (c.ks ++ d.ks).length = (c.L ++ s :: d.L).length + 1
      have h1 := hcs.2.2.1 hh
      have h2 := hds.2.2.1 hh
      rw [List.length_append, List.length_append, List.length_cons]; omega
    · have he' : e ∈ c.ks ++ d.ks := he
      rcases List.mem_append.1 he' with h1 | h1
      · exact hcs.2.2.2 e h1
      · exact hds.2.2.2 e h1
    · rw [flat_up, flat_up, flat_up]
      show il c.L (c.ks.map (flat h)) ++ s :: il d.L (d.ks.map (flat h)) = il (c.L ++ s :: d.L) ((c.ks ++ d.ks).map (flat h))
      rw [List.map_append]
      refine join_flat _ _ _ _ _ ?_
      rcases hkk with ⟨h1, h2⟩ | ⟨h1, h2⟩
      · left; rw [h1, h2]; exact ⟨rfl, rfl⟩
      · right; rw [List.length_map, List.length_map]; exact ⟨h1, h2⟩
    · show Sep w' B (ndp n vI' vC' (L1 ++ L2) _ ++ (ndp c.n wI' wC' (c.L ++ s :: d.L) ((c.ks ++ d.ks).map (adr h)) ++ _))
      rw [List.map_append (l₁ := c.ks)]
      exact hS2
end Go.Proofs.Ytelfjgnmbikofaa
