/-
  insert: an item whose key is new goes into a tree of any depth. Conditions: keys rise; the tree has its shape.
-/
import Derived.Test.YtelfjgnmbikofaaBInsB
import Derived.Test.YtelfjgnmbikofaaBSplit
import Derived.Deep.QuietTactic
import Derived.BigQuiet
namespace Go.Proofs.Ytelfjgnmbikofaa
open Go.RowKit
set_option linter.unusedVariables false
set_option maxRecDepth 100000

theorem split_any {w : World} {B n c a : Nat} {vI vC wI wC : Value} {L M : List It} {cs bs : List Nat} {R : List Pc}
    (hS : Sep w B (ndp n vI vC L cs ++ (ndp c wI wC M bs ++ R))) (hat : cs[a]? = some c) (hL : a ≤ L.length) (hLn : L.length ≤ 1000) (hcn : cs.length ≤ 1000) (hM3 : 3 ≤ M.length) (hMn : M.length ≤ 1000) (hbs : bs = [] ∨ bs.length = M.length + 1) (hB : B ≤ w.heap.size) :
    Calls Try.prog 47 #[.pointer (some ⟨n, 0, none⟩), .int .i64 (a : Int)] w fun e w' => e = .returned (.tuple #[]) ∧ ∃ up r vI' vC' wI' wC' rI rC, M[M.length / 2]? = some up ∧ Sep w' B (ndp n vI' vC' (L.take a ++ up :: L.drop a) (cs.take (a + 1) ++ r :: cs.drop (a + 1)) ++ (ndp c wI' wC' (M.take (M.length / 2)) (bs.take (M.length / 2 + 1)) ++ (ndp r rI rC (M.drop (M.length / 2 + 1)) (bs.drop (M.length / 2 + 1)) ++ R))) ∧ Below B w w' := by
  rcases hbs with rfl | hbs
  · have h := split_leaf hS hat hL hLn hcn hM3 hMn hB
    simpa using h
  · exact split_node hS hat hL hLn hcn hM3 hMn hbs hB
/-- What insert leaves of a tree. -/
def InsP (most lo : Nat) (k : ByteArray) (x : Int) (B h : Nat) (t : Nd (Tr h)) (R : List Pc) (w' : World) : Prop :=
  ∃ t' : Nd (Tr h), t'.n = t.n ∧ Sep w' B (pcs (h + 1) (up1 t') ++ R) ∧ Shp most (h + 1) lo (most + 1) (up1 t') ∧ Ins (flat (h + 1) (up1 t)) k x (flat (h + 1) (up1 t'))
theorem nd_in {w : World} {B h : Nat} {t : Nd (Tr h)} {R : List Pc} (hS : Sep w B (pcs (h + 1) (up1 t) ++ R)) : Sep w B (ndp t.n t.vI t.vC t.L (t.ks.map (adr h)) ++ (t.ks.flatMap (pcs h) ++ R)) := by
  rw [pcs_up, List.append_assoc] at hS; exact hS
theorem nd_out {w : World} {B h : Nat} {t : Nd (Tr h)} {R : List Pc} (hS : Sep w B (ndp t.n t.vI t.vC t.L (t.ks.map (adr h)) ++ (t.ks.flatMap (pcs h) ++ R))) : Sep w B (pcs (h + 1) (up1 t) ++ R) := by
  rw [pcs_up, List.append_assoc]; exact hS

/-- The child was split: the node behind it. -/
theorem split_tree {most lo h n : Nat} {vI vC : Value} {L : List It} {K1 K2 : List (Tr (h + 1))} {c' : Nd (Tr h)} {k : ByteArray} {x : Int} {B : Nat} {R : List Pc} {w' : World} {F : List It}
    {up : It} {r : Nat} {vI' vC' wI' wC' rI rC : Value} (hm : c'.L.length = most + 1) (h3 : 3 ≤ most) (hup : c'.L[c'.L.length / 2]? = some up) (hl : L.length = K1.length + K2.length)
    (hlo : lo ≤ L.length) (hhi : L.length ≤ most) (hK : ∀ c ∈ K1 ++ K2, Shp most (h + 1) (most / 2) most c) (hc : Shp most (h + 1) (most / 2) (most + 1) (up1 c'))
    (hF : F = pre (L.take K1.length) (K1.map (flat (h + 1))) ++ (flat (h + 1) (up1 c') ++ post (L.drop K1.length) (K2.map (flat (h + 1)))))
    (hS : Sep w' B (ndp n vI' vC' (L.take K1.length ++ up :: L.drop K1.length) (((K1 ++ up1 c' :: K2).map (adr (h + 1))).take (K1.length + 1) ++ r :: ((K1 ++ up1 c' :: K2).map (adr (h + 1))).drop (K1.length + 1)) ++ (ndp c'.n wI' wC' (c'.L.take (c'.L.length / 2)) ((c'.ks.map (adr h)).take (c'.L.length / 2 + 1)) ++ (ndp r rI rC (c'.L.drop (c'.L.length / 2 + 1)) ((c'.ks.map (adr h)).drop (c'.L.length / 2 + 1)) ++ (c'.ks.flatMap (pcs h) ++ (K1.flatMap (pcs (h + 1)) ++ (K2.flatMap (pcs (h + 1)) ++ R))))))) :
    ∃ t' : Nd (Tr (h + 1)), t'.n = n ∧ Sep w' B (pcs (h + 2) (up1 t') ++ R) ∧ Shp most (h + 2) lo (most + 1) (up1 t') ∧ flat (h + 2) (up1 t') = F ∧ t'.L.length = L.length + 1 := by
  obtain ⟨m, hmm⟩ : ∃ m, c'.L.length / 2 = m := ⟨_, rfl⟩
  rw [hmm] at hup hS
  have hmlt : m < c'.L.length := by omega
  have hupe : c'.L = c'.L.take m ++ up :: c'.L.drop (m + 1) := by
    obtain ⟨h1, h2⟩ := List.getElem?_eq_some_iff.1 hup
    rw [← h2, List.getElem_cons_drop, List.take_append_drop]
  have hcs := shp_up.1 hc
  refine ⟨⟨n, vI', vC', L.take K1.length ++ up :: L.drop K1.length, K1 ++ up1 ⟨c'.n, wI', wC', c'.L.take m, c'.ks.take (m + 1)⟩ :: up1 ⟨r, rI, rC, c'.L.drop (m + 1), c'.ks.drop (m + 1)⟩ :: K2⟩, rfl, ?_, ?_, ?_, by show (L.take K1.length ++ up :: L.drop K1.length).length = L.length + 1; rw [List.length_append, List.length_cons, List.length_take, List.length_drop]; omega⟩
  · refine Sep.perm ?_ (perm_three n vI' vC' _ K1 ⟨c'.n, wI', wC', c'.L.take m, c'.ks.take (m + 1)⟩ ⟨r, rI, rC, c'.L.drop (m + 1), c'.ks.drop (m + 1)⟩ K2 R).symm
    have e1 : ((K1 ++ up1 c' :: K2).map (adr (h + 1))).take (K1.length + 1) ++ r :: ((K1 ++ up1 c' :: K2).map (adr (h + 1))).drop (K1.length + 1) = (K1 ++ up1 ⟨c'.n, wI', wC', c'.L.take m, c'.ks.take (m + 1)⟩ :: up1 ⟨r, rI, rC, c'.L.drop (m + 1), c'.ks.drop (m + 1)⟩ :: K2).map (adr (h + 1)) := by
      rw [List.map_append, List.map_append, List.map_cons, List.map_cons, List.map_cons, adr_up, adr_up, adr_up]
      rw [show K1.length + 1 = (K1.map (adr (h + 1))).length + 1 by rw [List.length_map], List.take_length_add_append, List.drop_length_add_append]
      simp
    rw [e1] at hS
    refine hS.perm (List.Perm.append_left _ ?_)
    rw [List.map_take, List.map_drop]
    refine List.Perm.append_left _ (List.Perm.append_left _ ?_)
    have e4 : c'.ks.flatMap (pcs h) = (c'.ks.take (m + 1)).flatMap (pcs h) ++ (c'.ks.drop (m + 1)).flatMap (pcs h) := by rw [← List.flatMap_append, List.take_append_drop]
    rw [e4, List.append_assoc]
  · refine shp_up.2 ⟨?_, ?_, fun _ => ?_, fun c hcm => ?_⟩
    · show lo ≤ (L.take K1.length ++ up :: L.drop K1.length).length
      rw [List.length_append, List.length_cons, List.length_take, List.length_drop]; omega
    · show (L.take K1.length ++ up :: L.drop K1.length).length ≤ most + 1
      rw [List.length_append, List.length_cons, List.length_take, List.length_drop]; omega
    · show (K1 ++ up1 (⟨c'.n, wI', wC', c'.L.take m, c'.ks.take (m + 1)⟩ : Nd (Tr h)) :: up1 ⟨r, rI, rC, c'.L.drop (m + 1), c'.ks.drop (m + 1)⟩ :: K2).length = (L.take K1.length ++ up :: L.drop K1.length).length + 1
      rw [List.length_append, List.length_append, List.length_cons, List.length_cons, List.length_cons, List.length_take, List.length_drop]; omega
    have hcm' : c ∈ K1 ++ up1 ⟨c'.n, wI', wC', c'.L.take m, c'.ks.take (m + 1)⟩ :: up1 ⟨r, rI, rC, c'.L.drop (m + 1), c'.ks.drop (m + 1)⟩ :: K2 := hcm
    simp only [List.mem_append, List.mem_cons] at hcm'
    rcases hcm' with h | h | h | h
    · exact hK c (List.mem_append_left _ h)
    · subst h
      refine shp_up.2 ⟨?_, ?_, fun hh => ?_, fun d hd => hcs.2.2.2 d (List.mem_of_mem_take hd)⟩
      · show most / 2 ≤ (c'.L.take m).length; rw [List.length_take]; omega
      · show (c'.L.take m).length ≤ most; rw [List.length_take]; omega
      · show (c'.ks.take (m + 1)).length = (c'.L.take m).length + 1; have := hcs.2.2.1 hh; rw [List.length_take, List.length_take]; omega
    · subst h
      refine shp_up.2 ⟨?_, ?_, fun hh => ?_, fun d hd => hcs.2.2.2 d (List.mem_of_mem_drop hd)⟩
      · show most / 2 ≤ (c'.L.drop (m + 1)).length; rw [List.length_drop]; omega
      · show (c'.L.drop (m + 1)).length ≤ most; rw [List.length_drop]; omega
      · show (c'.ks.drop (m + 1)).length = (c'.L.drop (m + 1)).length + 1; have := hcs.2.2.1 hh; rw [List.length_drop, List.length_drop]; omega
    · exact hK c (List.mem_append_right _ h)
  · rw [flat_up, hF]
    show il (L.take K1.length ++ up :: L.drop K1.length) ((K1 ++ up1 ⟨c'.n, wI', wC', c'.L.take m, c'.ks.take (m + 1)⟩ :: up1 ⟨r, rI, rC, c'.L.drop (m + 1), c'.ks.drop (m + 1)⟩ :: K2).map (flat (h + 1))) = _
    rw [List.map_append, List.map_cons, List.map_cons, il_mid _ _ _ _ _ (by rw [List.length_take, List.length_map]; omega)]
    have e2 : flat (h + 1) (up1 c') = flat (h + 1) (up1 (⟨c'.n, wI', wC', c'.L.take m, c'.ks.take (m + 1)⟩ : Nd (Tr h))) ++ up :: flat (h + 1) (up1 (⟨r, rI, rC, c'.L.drop (m + 1), c'.ks.drop (m + 1)⟩ : Nd (Tr h))) := by
      rw [flat_up, flat_up, flat_up]
      show il c'.L (c'.ks.map (flat h)) = il (c'.L.take m) ((c'.ks.take (m + 1)).map (flat h)) ++ up :: il (c'.L.drop (m + 1)) ((c'.ks.drop (m + 1)).map (flat h))
      have e3 : c'.ks.map (flat h) = (c'.ks.take (m + 1)).map (flat h) ++ (c'.ks.drop (m + 1)).map (flat h) := by rw [← List.map_append, List.take_append_drop]
      by_cases hh : 0 < h
      · have hkl := hcs.2.2.1 hh
        conv => lhs; rw [hupe, e3]
        exact il_cut _ _ _ _ _ (by rw [List.length_map, List.length_take, List.length_take]; omega) (by rw [List.length_map, List.length_drop, List.length_drop]; omega)
      · obtain rfl : h = 0 := by omega
        rw [ks_leaf c']
        conv => lhs; rw [hupe]
        exact il_cut0 _ _ _
    rw [e2]
    simp [post]
end Go.Proofs.Ytelfjgnmbikofaa
