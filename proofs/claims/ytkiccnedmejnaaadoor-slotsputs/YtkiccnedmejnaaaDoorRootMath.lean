/-
  A root's bytes lead back to its numbers.
-/
import Derived.Test.YtkiccnedmejnaaaDoorPutWalk4
import Derived.Test.YtkiccnedmejnaaaDoorCutMath
import Derived.Test.YtkiccnedmejnaaaDoorReadsWalk
namespace Go.Proofs.YtkiccnedmejnaaaDoor
open Go.RowKit
set_option linter.unusedVariables false
set_option maxRecDepth 100000

theorem mid_part (A U R : List Int) (n m : Nat) (hn : A.length = n) (hm : U.length = m) : ((A ++ (U ++ R)).drop n).take m = U := by
  subst hn hm
  rw [List.drop_left, List.take_left]
theorem ldG_root {g a z : Int} (h0 : 0 ≤ g) (h1 : g < 18446744073709551616) : ldG (rootB g a z) = g := by
  unfold ldG
  have e : rootB g a z = [83, 76, 65, 66] ++ (digs g 8 ++ (digs 0 4 ++ (digs a 4 ++ (digs z 4 ++ (digs 0 4 ++ digs (crcN (rootL g a z)) 4))))) := by unfold rootB sealN rootL; simp only [List.append_assoc]
  rw [e, mid_part _ _ _ 4 8 rfl (digs_length _ _)]
  exact val_back (m := 8) false h0 (by show g < (18446744073709551616 : Int); exact h1)
theorem ldA_root {g a z : Int} (h0 : 0 ≤ a) (h1 : a ≤ 4194304) : ldA (rootB g a z) = a := by
  unfold ldA
  have e : rootB g a z = ([83, 76, 65, 66] ++ digs g 8 ++ digs 0 4) ++ (digs a 4 ++ (digs z 4 ++ (digs 0 4 ++ digs (crcN (rootL g a z)) 4))) := by unfold rootB sealN rootL; simp only [List.append_assoc]
  rw [e, mid_part _ _ _ 16 4 (by simp [digs_length]) (digs_length _ _)]
  exact val_back (m := 4) false h0 (by show a < (4294967296 : Int); omega)
theorem ldZ_root {g a z : Int} (h0 : 0 ≤ z) (h1 : z ≤ 4194304) : ldZ (rootB g a z) = z := by
  unfold ldZ
  have e : rootB g a z = ([83, 76, 65, 66] ++ digs g 8 ++ digs 0 4 ++ digs a 4) ++ (digs z 4 ++ (digs 0 4 ++ digs (crcN (rootL g a z)) 4)) := by unfold rootB sealN rootL; simp only [List.append_assoc]
  rw [e, mid_part _ _ _ 20 4 (by simp [digs_length]) (digs_length _ _)]
  exact val_back (m := 4) false h0 (by show z < (4294967296 : Int); omega)
theorem isRt_root {g a z : Int} (h0 : 0 ≤ g) (h1 : g < 18446744073709551616) (ha0 : 0 ≤ a) (ha1 : a ≤ 4194304) (hz0 : 0 ≤ z) (hz1 : z ≤ 4194304) : isRt (rootB g a z) = true := by
  unfold isRt
  rw [ldG_root h0 h1, ldA_root ha0 ha1, ldZ_root hz0 hz1, inF_true ha0 ha1, inF_true hz0 hz1, List.take_of_length_le (by rw [rootB_length]; omega)]
  simp
theorem root_take (g a z : Int) : (rootB g a z).take 32 = rootB g a z := List.take_of_length_le (by rw [rootB_length]; omega)
theorem ownR_root {g a z k : Int} (h0 : 0 ≤ g) (h1 : g < 18446744073709551616) (ha0 : 0 ≤ a) (ha1 : a ≤ 4194304) (hz0 : 0 ≤ z) (hz1 : z ≤ 4194304) (hk : g % 2 = k) : ownR k (rootB g a z) = some (g, a, z) := by
  unfold ownR
  rw [root_take, if_pos ⟨by rw [rootB_length]; omega, isRt_root h0 h1 ha0 ha1 hz0 hz1, by rw [ldG_root h0 h1]; exact hk⟩, ldG_root h0 h1, ldA_root ha0 ha1, ldZ_root hz0 hz1]
/-- A slot of bytes that do not begin as a root's is none. -/
theorem ownR_other {x : List Int} (k : Int) (h : x.getD 0 0 ≠ 83) : ownR k x = none := by
  unfold ownR
  refine if_neg (fun hc => ?_)
  obtain ⟨h1, h2, h3⟩ := hc
  unfold isRt at h2
  simp only [Bool.and_eq_true, beq_iff_eq] at h2
  have e := h2.2
  rw [List.take_take, Nat.min_self] at e
  have e0 := congrArg (fun l => l.getD 0 0) e
  simp only [rootB, sealN, rootL, List.getD, List.cons_append, List.nil_append, List.append_assoc, List.getElem?_cons_zero, Option.getD_some] at e0
  rw [List.getElem?_take_of_lt (by omega)] at e0
  exact h e0.symm
def bestR (bs : List Int) : Option Rt := bestO (slotR bs 0) (slotR bs 1)
end Go.Proofs.YtkiccnedmejnaaaDoor
