/-
  slices.Insert, slices.Delete and slices.Clone on rows of node pointers. Conditions: lengths are such as memory bears.
-/
import Derived.Test.YtelfjgnmbikofaaBLeaf
import Derived.Test.YtelfjgnmbikofaaGOps
import Derived.Lib.Overlaps
import Derived.Laws.Externs
import Derived.Test.YtelfjgnmbikofaaBDelI
namespace Go.Proofs.Ytelfjgnmbikofaa
open Go.RowKit
set_option linter.unusedVariables false
set_option maxRecDepth 100000

def encP (a : Nat) : List Value := [.pointer (some ⟨a, 0, none⟩)]
theorem encP_len (a : Nat) : (encP a).length = 1 := rfl

theorem Try.infoP : (Try.prog.info? 65).map (fun i => (i.zero, i.size, i.bytes)) = some (some (.pointer none), 1, 8) := by kernel_rfl
theorem Try.sizeIP : (Try.prog.info? 65).map (·.size) = some 1 := by kernel_rfl
theorem Try.sizeP (w : World) : (Go.sizeOf 65).run Try.prog w = .ok 1 w := by kernel_rfl
theorem Try.zvP (w : World) : (Go.zeroValue 65).run Try.prog w = .ok (.pointer none) w := by kernel_rfl
theorem one_gcP (L : List Nat) : ∀ v ∈ gc encP L, v.oneCell' = true := by
  intro v hv
  simp only [gc, List.mem_flatMap] at hv
  obtain ⟨x, _, hx⟩ := hv
  simp [encP] at hx; subst hx; rfl
set_option maxHeartbeats 4000000 in
/-- slices.Delete. -/
theorem sdelP {w : World} {B g cap n : Nat} {L : List Nat} (hL : L.length = n) (h : w.ownsRow B 65 1 (.slice (some ⟨g, 0, none⟩) n cap) n (gc encP L)) (i j : Nat) (hij : i < j) (hj : j ≤ n) (hn : n ≤ 1000000) :
    Calls Try.prog 60 #[.slice (some ⟨g, 0, none⟩) n cap, .int .i64 (i : Int), .int .i64 (j : Int)] w fun e w' => e = .returned (.slice (some ⟨g, 0, none⟩) (n - (j - i)) cap) ∧ w'.ownsRow B 65 1 (.slice (some ⟨g, 0, none⟩) (n - (j - i)) cap) (n - (j - i)) (gc encP (L.take i ++ L.drop j)) ∧ w.grownBy w' (some g) := by
  obtain ⟨i0, hi0, hy0, hy1, hy2⟩ := info_partsG Try.infoP
  have HR : Hid (w.drew.ownsRow B 65 1 (.slice (some ⟨g, 0, none⟩) n cap) n (gc encP L)) := ownsRow_below h ((Below.refl _ _).drew)
  obtain ⟨hle, hmx⟩ : n ≤ cap ∧ cap ≤ 9223372036854775807 := by
    rcases ownsRow_shape h with ⟨e, _⟩ | ⟨g', c', e, _, _, hle, hm, _, _⟩
    · cases e
    · injection e with e1 e2 e3; subst e3; exact ⟨hle, by unfold maxLen at hm; omega⟩
  have HGL : Hid ((gc encP L).length = n * 1) := by unfold Hid; rw [gc_length encP_len, hL]
  obtain ⟨A, hA, HSRC⟩ : ∃ A : Addr, (if cap = j then some (⟨g, 0, none⟩ : Addr) else some ⟨g, j, none⟩) = some A ∧ Hid (∀ t v, ((gc encP L).drop (j * 1))[t]? = some v → w.drew.cell? (A.add t) = some v) := by
    rcases ownsRow_shape HR.out with ⟨e, _⟩ | ⟨g', c', e, _, _, _, _, _, hc⟩
    · cases e
    · injection e with e1 _ _
      obtain rfl : g = g' := by simpa using e1
      by_cases hcj : cap = j
      · refine ⟨⟨g, 0, none⟩, by simp [hcj], fun t v hv => ?_⟩
        rw [List.getElem?_drop] at hv
        have := (List.getElem?_eq_some_iff.1 hv).1
        rw [HGL.out] at this
        have hnj : n = j := by omega
        subst hnj
        omega
      · refine ⟨⟨g, j, none⟩, by simp [hcj], fun t v hv => ?_⟩
        rw [List.getElem?_drop] at hv
        rw [addG]
        have := hc _ _ hv
        simpa using this
  have HLN : Hid (((gc encP L).drop (j * 1)).length = (n - j) * 1) := by unfold Hid; rw [List.length_drop, HGL.out, Nat.sub_mul]
  have HON : Hid (∀ v ∈ (gc encP L).drop (j * 1), v.oneCell' = true) := fun v hv => one_gcP L v (List.mem_of_mem_drop hv)
  have d1 : ((i : Int) == j) = false := by simp; omega
  have hic : i ≤ cap := by omega
  have hjc : j ≤ cap := by omega
  clear h
  go_enter Try.func60, Try.ntmps60
  go_wp2_with fail
  go_region_law (refine step_appIn_own rfl (.tmp 22) (.tmp 25) 71 rfl 65 i0 Try.underlying71 hi0 1 hy1 B g n cap i (gc encP L) HR.out (by omega) A (n - j) (cap - j) ((gc encP L).drop (j * 1)) (by simp [Act.eval, Act.put]) (by simp [Act.eval, Act.put]; try exact hA) HLN.out HSRC.out HON.out (by omega) ?_; intro w1 ho1 hg1; have HO1 : Hid (w1.ownsRow B 65 1 (.slice (some ⟨g, 0, none⟩) (i + (n - j)) cap) (i + (n - j)) ((gc encP L).take (i * 1) ++ (gc encP L).drop (j * 1))) := ho1; have HG1 : Hid (w.drew.grownBy w1 (some g)) := hg1; clear ho1 hg1)
  all_goals
    have hcl : ¬ cap = i + (n - j) := by omega
    have hc2 : (i : Int) + ((n - j : Nat) : Int) ≤ (n : Int) := by omega
    have ht2 : ((i : Int) + ((n - j : Nat) : Int)).toNat = i + (n - j) := by omega
    obtain ⟨w2, hrun, ho2, hg2⟩ := run_clear_own (P := Try.prog) w1 71 65 0 (.pointer none) 1 Try.underlying71 Try.zvP rfl (by intro u hu; simp [Value.cells] at hu; subst hu; rfl) (by omega) B g (i + (n - j)) cap (n - (i + (n - j))) (cap - (i + (n - j))) _ HO1.out (by omega) (by omega)
    rw [Nat.mul_one] at hrun
    have HO2 : Hid (w2.ownsRow B 65 1 (.slice (some ⟨g, 0, none⟩) (i + (n - j)) cap) (i + (n - j)) ((gc encP L).take (i * 1) ++ (gc encP L).drop (j * 1))) := ho2
    have HG2 : Hid (w1.grownBy w2 (some g)) := hg2
    clear ho2 hg2
    go_wp2_with fail
    go_ret
    refine ⟨by rw [show n - (j - i) = i + (n - j) by omega]; rfl, ?_, ?_⟩
    · rw [gc_append, ← gc_take encP_len, ← gc_drop encP_len, show n - (j - i) = i + (n - j) by omega]
      exact HO2.out
    · exact ⟨HG2.out.os.trans HG1.out.os, HG2.out.tape.trans HG1.out.tape, HG2.out.output.trans HG1.out.output, Nat.le_trans HG1.out.size HG2.out.size, fun y hy hne => (HG2.out.block y (Nat.lt_of_lt_of_le hy HG1.out.size) hne).trans (HG1.out.block y hy hne)⟩
end Go.Proofs.Ytelfjgnmbikofaa
