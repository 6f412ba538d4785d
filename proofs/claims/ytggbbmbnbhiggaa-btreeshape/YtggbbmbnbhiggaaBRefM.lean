/-
  Two children of a node side by side: an item goes from one to the other, or they become one. Conditions: the tree has its shape.
-/
import Derived.Test.YtggbbmbnbhiggaaBInsB
import Derived.Test.YtggbbmbnbhiggaaBTurn
import Derived.Test.YtggbbmbnbhiggaaBTurnR
import Derived.Test.YtggbbmbnbhiggaaBJoin
namespace Go.Proofs.Ytggbbmbnbhiggaa
open Go.RowKit
set_option linter.unusedVariables false
set_option maxRecDepth 100000

theorem turnLeft_any {w : World} {B n c d a : Nat} {vI vC wI wC uI uC : Value} {L M Q : List It} {cs bs ds : List Nat} {R : List Pc} {s : It}
    (hS : Sep w B (ndp n vI vC L cs ++ (ndp c wI wC M bs ++ (ndp d uI uC Q ds ++ R)))) (hac : cs[a]? = some c) (had : cs[a + 1]? = some d) (hs : L[a]? = some s) (hLn : L.length ≤ 1000) (hcn : cs.length ≤ 1000) (hMn : M.length ≤ 1000) (hQn : Q.length ≤ 1000) (hk : (bs = [] ∧ ds = []) ∨ (bs.length = M.length + 1 ∧ ds.length = Q.length + 1)) (hQ1 : 1 ≤ Q.length) (hB : B ≤ w.heap.size) :
    Calls Try.prog 66 #[.pointer (some ⟨n, 0, none⟩), .int .i64 (a : Int)] w fun e w' => e = .returned (.tuple #[]) ∧ (∃ t vI' vC' wI' wC' uI' uC', Q[0]? = some t ∧ Sep w' B (ndp n vI' vC' (L.set a t) cs ++ (ndp c wI' wC' (M ++ [s]) (bs ++ ds.take 1) ++ (ndp d uI' uC' (Q.drop 1) (ds.drop 1) ++ R)))) ∧ Below B w w' := by
  rcases hk with ⟨rfl, rfl⟩ | ⟨h1, h2⟩
  · refine (turnLeft_leaf hS hac had hs hLn hcn hMn hQn hQ1 hB).mono ?_
    rintro e w' ⟨rfl, ⟨t, vI', vC', wI', wC', uI', uC', ht, hS'⟩, hb⟩
    exact ⟨rfl, ⟨t, vI', vC', wI', wC', uI', uC', ht, hS'⟩, hb⟩
  · refine (turnLeft_node hS hac had hs hLn hcn hMn hQn h1 h2 hQ1 hB).mono ?_
    rintro e w' ⟨rfl, ⟨t, e0, vI', vC', wI', wC', uI', uC', ht, he, hS'⟩, hb⟩
    have e1 : ds.take 1 = [e0] := by
      cases ds with
      | nil => simp at he
      | cons y ys => simp at he; subst he; simp
    rw [← e1] at hS'
    exact ⟨rfl, ⟨t, vI', vC', wI', wC', uI', uC', ht, hS'⟩, hb⟩
theorem turnRight_any {w : World} {B n c d a m : Nat} {vI vC wI wC uI uC : Value} {L M Q : List It} {cs bs ds : List Nat} {R : List Pc} {s : It}
    (hS : Sep w B (ndp n vI vC L cs ++ (ndp c wI wC M bs ++ (ndp d uI uC Q ds ++ R)))) (hac : cs[a]? = some c) (had : cs[a + 1]? = some d) (hs : L[a]? = some s) (hLn : L.length ≤ 1000) (hcn : cs.length ≤ 1000) (hMn : M.length ≤ 1000) (hQn : Q.length ≤ 1000) (hk : (bs = [] ∧ ds = []) ∨ (bs.length = M.length + 1 ∧ ds.length = Q.length + 1)) (hM1 : M.length = m + 1) (hB : B ≤ w.heap.size) :
    Calls Try.prog 65 #[.pointer (some ⟨n, 0, none⟩), .int .i64 (a : Int)] w fun e w' => e = .returned (.tuple #[]) ∧ (∃ t vI' vC' wI' wC' uI' uC', M[m]? = some t ∧ Sep w' B (ndp n vI' vC' (L.set a t) cs ++ (ndp c wI' wC' (M.take m) (bs.take (m + 1)) ++ (ndp d uI' uC' (s :: Q) (bs.drop (m + 1) ++ ds) ++ R)))) ∧ Below B w w' := by
  rcases hk with ⟨rfl, rfl⟩ | ⟨h1, h2⟩
  · refine (turnRight_leaf hS hac had hs hLn hcn hMn hQn hM1 hB).mono ?_
    rintro e w' ⟨rfl, ⟨t, vI', vC', wI', wC', uI', uC', ht, hS'⟩, hb⟩
    exact ⟨rfl, ⟨t, vI', vC', wI', wC', uI', uC', ht, by simpa using hS'⟩, hb⟩
  · refine (turnRight_node hS hac had hs hLn hcn hMn hQn h1 h2 hM1 hB).mono ?_
    rintro e w' ⟨rfl, ⟨t, e0, vI', vC', wI', wC', uI', uC', ht, he, hS'⟩, hb⟩
    have e1 : bs.drop (m + 1) = [e0] := by
      obtain ⟨hl, hx⟩ := List.getElem?_eq_some_iff.1 he
      rw [← List.getElem_cons_drop hl, hx, List.drop_of_length_le (by omega)]
    rw [show e0 :: ds = bs.drop (m + 1) ++ ds by rw [e1]; rfl] at hS'
    exact ⟨rfl, ⟨t, vI', vC', wI', wC', uI', uC', ht, hS'⟩, hb⟩
/-- What refill leaves of a tree. -/
def RefP (most lo B h n : Nat) (F : List It) (R : List Pc) (w' : World) : Prop :=
  ∃ t' : Nd (Tr h), t'.n = n ∧ Sep w' B (pcs (h + 1) (up1 t') ++ R) ∧ Shp most (h + 1) (lo - 1) most (up1 t') ∧ lo - 1 ≤ t'.L.length ∧ flat (h + 1) (up1 t') = F
theorem pair_flat {h n : Nat} {vI vC : Value} {L1 L2 : List It} {s : It} {K1 K2 : List (Tr h)} {c d : Tr h} (hl : L1.length = K1.length) :
    flat (h + 1) (up1 (⟨n, vI, vC, L1 ++ s :: L2, K1 ++ c :: d :: K2⟩ : Nd (Tr h))) = pre L1 (K1.map (flat h)) ++ ((flat h c ++ s :: flat h d) ++ post L2 (K2.map (flat h))) := by
  rw [flat_up]
  show il (L1 ++ s :: L2) ((K1 ++ c :: d :: K2).map (flat h)) = _
  rw [List.map_append, List.map_cons, List.map_cons, il_mid _ _ _ _ _ (by rw [List.length_map]; exact hl)]
  simp [post]
theorem one_flat {h n : Nat} {vI vC : Value} {L1 L2 : List It} {K1 K2 : List (Tr h)} {c : Tr h} (hl : L1.length = K1.length) :
    flat (h + 1) (up1 (⟨n, vI, vC, L1 ++ L2, K1 ++ c :: K2⟩ : Nd (Tr h))) = pre L1 (K1.map (flat h)) ++ (flat h c ++ post L2 (K2.map (flat h))) := by
  rw [flat_up]
  show il (L1 ++ L2) ((K1 ++ c :: K2).map (flat h)) = _
  rw [List.map_append, List.map_cons, il_mid _ _ _ _ _ (by rw [List.length_map]; exact hl)]
/-- The two children behind a turn. -/
theorem turn_tree {most lo h n : Nat} {vI vC : Value} {L1 L2 : List It} {s t : It} {K1 K2 : List (Tr (h + 1))} {c d c' d' : Nd (Tr h)} {B : Nat} {R : List Pc} {w' : World} (hl1 : L1.length = K1.length) (hl2 : L2.length = K2.length)
    (hlo : lo ≤ (L1 ++ s :: L2).length) (hhi : (L1 ++ s :: L2).length ≤ most) (hK : ∀ e ∈ K1 ++ K2, Shp most (h + 1) (most / 2) most e) (hc : Shp most (h + 1) (most / 2) most (up1 c')) (hd : Shp most (h + 1) (most / 2) most (up1 d'))
    (hF : flat (h + 1) (up1 c) ++ s :: flat (h + 1) (up1 d) = flat (h + 1) (up1 c') ++ t :: flat (h + 1) (up1 d')) (hcn : c'.n = c.n) (hdn : d'.n = d.n)
    (hks : List.Perm (c.ks.flatMap (pcs h) ++ d.ks.flatMap (pcs h)) (c'.ks.flatMap (pcs h) ++ d'.ks.flatMap (pcs h)))
    (hS : Sep w' B (ndp n vI vC (L1 ++ t :: L2) ((K1 ++ up1 c :: up1 d :: K2).map (adr (h + 1))) ++ (ndp c'.n c'.vI c'.vC c'.L (c'.ks.map (adr h)) ++ (ndp d'.n d'.vI d'.vC d'.L (d'.ks.map (adr h)) ++ (c.ks.flatMap (pcs h) ++ (d.ks.flatMap (pcs h) ++ (K1.flatMap (pcs (h + 1)) ++ (K2.flatMap (pcs (h + 1)) ++ R)))))))) {vI0 vC0 : Value} :
    RefP most lo B (h + 1) n (flat (h + 2) (up1 (⟨n, vI0, vC0, L1 ++ s :: L2, K1 ++ up1 c :: up1 d :: K2⟩ : Nd (Tr (h + 1))))) R w' := by
  refine ⟨⟨n, vI, vC, L1 ++ t :: L2, K1 ++ up1 c' :: up1 d' :: K2⟩, rfl, ?_, shp_up.2 ⟨?_, ?_, fun _ => ?_, fun e he => ?_⟩, ?_, ?_⟩
  · refine Sep.perm ?_ (perm_three n vI vC _ K1 c' d' K2 R).symm
    have e1 : (K1 ++ up1 c :: up1 d :: K2).map (adr (h + 1)) = (K1 ++ up1 c' :: up1 d' :: K2).map (adr (h + 1)) := by
      rw [List.map_append, List.map_append, List.map_cons, List.map_cons, List.map_cons, List.map_cons, adr_up, adr_up, adr_up, adr_up, hcn, hdn]
    rw [e1] at hS
    refine hS.perm (List.Perm.append_left _ (List.Perm.append_left _ (List.Perm.append_left _ ?_)))
    have := hks.append_right (K1.flatMap (pcs (h + 1)) ++ (K2.flatMap (pcs (h + 1)) ++ R))
    rw [List.append_assoc, List.append_assoc] at this
    exact this
  · show lo - 1 ≤ (L1 ++ t :: L2).length
    simp only [List.length_append, List.length_cons] at hlo ⊢; omega
  · show (L1 ++ t :: L2).length ≤ most
    simp only [List.length_append, List.length_cons] at hhi ⊢; omega
  · show (K1 ++ up1 c' :: up1 d' :: K2).length = (L1 ++ t :: L2).length + 1
    simp only [List.length_append, List.length_cons]; omega
  · have he' : e ∈ K1 ++ up1 c' :: up1 d' :: K2 := he
    simp only [List.mem_append, List.mem_cons] at he'
    rcases he' with h1 | rfl | rfl | h1
    · exact hK e (List.mem_append_left _ h1)
    · exact hc
    · exact hd
    · exact hK e (List.mem_append_right _ h1)
  · show lo - 1 ≤ (L1 ++ t :: L2).length
    simp only [List.length_append, List.length_cons] at hlo ⊢; omega
  · rw [pair_flat hl1, pair_flat hl1, hF]
/-- The one child behind a join. -/
theorem join_tree {most lo h n : Nat} {vI vC : Value} {L1 L2 : List It} {s : It} {K1 K2 : List (Tr (h + 1))} {c d c' : Nd (Tr h)} {B : Nat} {R : List Pc} {w' : World} (hl1 : L1.length = K1.length) (hl2 : L2.length = K2.length)
    (hlo : lo ≤ (L1 ++ s :: L2).length) (hhi : (L1 ++ s :: L2).length ≤ most) (hK : ∀ e ∈ K1 ++ K2, Shp most (h + 1) (most / 2) most e) (hc : Shp most (h + 1) (most / 2) most (up1 c'))
    (hF : flat (h + 1) (up1 c) ++ s :: flat (h + 1) (up1 d) = flat (h + 1) (up1 c')) (hcn : c'.n = c.n) (hks : c'.ks = c.ks ++ d.ks)
    (hS : Sep w' B (ndp n vI vC (L1 ++ L2) ((K1 ++ up1 c :: K2).map (adr (h + 1))) ++ (ndp c'.n c'.vI c'.vC c'.L (c'.ks.map (adr h)) ++ (c.ks.flatMap (pcs h) ++ (d.ks.flatMap (pcs h) ++ (K1.flatMap (pcs (h + 1)) ++ (K2.flatMap (pcs (h + 1)) ++ R))))))) {vI0 vC0 : Value} :
    RefP most lo B (h + 1) n (flat (h + 2) (up1 (⟨n, vI0, vC0, L1 ++ s :: L2, K1 ++ up1 c :: up1 d :: K2⟩ : Nd (Tr (h + 1))))) R w' := by
  refine ⟨⟨n, vI, vC, L1 ++ L2, K1 ++ up1 c' :: K2⟩, rfl, ?_, shp_up.2 ⟨?_, ?_, fun _ => ?_, fun e he => ?_⟩, ?_, ?_⟩
  · have e1 : (K1 ++ up1 c :: K2).map (adr (h + 1)) = (K1 ++ up1 c' :: K2).map (adr (h + 1)) := by
      rw [List.map_append, List.map_append, List.map_cons, List.map_cons, adr_up, adr_up, hcn]
    rw [e1] at hS
    refine Sep.perm ?_ (perm_kid n vI vC (L1 ++ L2) K1 (up1 c') K2 R).symm
    refine Sep.perm ?_ (perm_two n vI vC (L1 ++ L2) K1 c' K2 R).symm
    refine hS.perm (List.Perm.append_left _ (List.Perm.append_left _ ?_))
    rw [hks, List.flatMap_append, List.append_assoc]
  · show lo - 1 ≤ (L1 ++ L2).length
    simp only [List.length_append, List.length_cons] at hlo ⊢; omega
  · show (L1 ++ L2).length ≤ most
    simp only [List.length_append, List.length_cons] at hhi ⊢; omega
  · show (K1 ++ up1 c' :: K2).length = (L1 ++ L2).length + 1
    simp only [List.length_append, List.length_cons]; omega
  · have he' : e ∈ K1 ++ up1 c' :: K2 := he
    simp only [List.mem_append, List.mem_cons] at he'
    rcases he' with h1 | rfl | h1
    · exact hK e (List.mem_append_left _ h1)
    · exact hc
    · exact hK e (List.mem_append_right _ h1)
  · show lo - 1 ≤ (L1 ++ L2).length
    simp only [List.length_append, List.length_cons] at hlo ⊢; omega
  · rw [pair_flat hl1, one_flat hl1, hF]
end Go.Proofs.Ytggbbmbnbhiggaa
