/-
  cutLast: a row's last element, and the row without it. Conditions: there is one; lengths are such as memory bears.
-/
import Derived.Test.YtelfjgnmbikofaaBNd
import Derived.Deep.DeepCutAuto
import Derived.Laws.ResultCell
namespace Go.Proofs.Ytelfjgnmbikofaa
open Go.RowKit
set_option linter.unusedVariables false
set_option maxRecDepth 100000

theorem take_last {α : Type} {L : List α} {n : Nat} (h : L.length = n + 1) : L.take n ++ L.drop (n + 1) = L.take n := by
  rw [List.drop_of_length_le (by omega), List.append_nil]
set_option maxHeartbeats 4000000 in
theorem cutLastP {w : World} {B g cap n c : Nat} {cs : List Nat} (hL : cs.length = n + 1) (h : w.ownsRow B 65 1 (.slice (some ⟨g, 0, none⟩) (n + 1) cap) (n + 1) (gc encP cs)) (hc : cs[n]? = some c) (hn : n ≤ 100000) :
    Calls Try.prog 73 #[.slice (some ⟨g, 0, none⟩) (n + 1) cap] w fun e w' => e = .returned (.tuple #[.pointer (some ⟨c, 0, none⟩), .slice (some ⟨g, 0, none⟩) n cap]) ∧ w'.ownsRow B 65 1 (.slice (some ⟨g, 0, none⟩) n cap) n (gc encP (cs.take n)) ∧ w.grownBy w' (some g) := by
  obtain ⟨_, _, _, hcc⟩ := row_at h
  have c0 := hcc _ _ (gcP_at hc)
  have HD : Hid _ := sdelP hL h n (n + 1) (by omega) (Nat.le_refl _) (by omega)
  have HE : Hid (n + 1 - (n + 1 - n) = n) := by unfold Hid; omega
  rw [HE.out, take_last hL, show ((n + 1 : Nat) : Int) = (n : Int) + 1 by omega] at HD
  have hni : (n : Int) < (n : Int) + 1 := by omega
  clear hcc h
  go_enter Try.func73, Try.ntmps73
  go_wp2_with (go_at_call 60; refine Calls.mono HD.out ?_; rintro e w5 ⟨rfl, ho5, hg5⟩; have HO5 : Hid (w5.ownsRow B 65 1 (.slice (some ⟨g, 0, none⟩) n cap) n (gc encP (cs.take n))) := ho5; have HG5 : Hid (w.grownBy w5 (some g)) := hg5; clear ho5 hg5)
  go_ret2
  exact ⟨rfl, HO5.out, HG5.out⟩
set_option maxHeartbeats 4000000 in
theorem cutLastI {w : World} {B g cap n : Nat} {L : List It} {x : It} (hL : L.length = n + 1) (h : w.ownsRow B 69 2 (.slice (some ⟨g, 0, none⟩) (n + 1) cap) (n + 1) (gc encI L)) (hx : L[n]? = some x) (hn : n ≤ 100000) :
    Calls Try.prog 62 #[.slice (some ⟨g, 0, none⟩) (n + 1) cap] w fun e w' => e = .returned (.tuple #[.agg #[.string x.1, .int .u64 x.2], .slice (some ⟨g, 0, none⟩) n cap]) ∧ w'.ownsRow B 69 2 (.slice (some ⟨g, 0, none⟩) n cap) n (gc encI (L.take n)) ∧ w.grownBy w' (some g) := by
  obtain ⟨_, hgl, _, hcc⟩ := row_at h
  have HX : Hid (L[n]? = some x) := hx
  have HR : Hid (w.ownsRow B 69 2 (.slice (some ⟨g, 0, none⟩) (n + 1) cap) (n + 1) (gc encI L)) := h
  have HB1 : Hid (Below w.heap.size w (w.alloc (.cells #[.string ⟨#[]⟩, .int .u64 0] 69))) := (Below.refl _ _).alloc (Nat.le_refl _) _
  have c0 := hcc _ _ (gc_at encI_len L _ _ hx 0 _ rfl)
  have c1 := hcc _ _ (gc_at encI_len L _ _ hx 1 _ rfl)
  rw [Nat.add_zero] at c0
  have c0' := (HB1.out.cell (World.block_lt_of_cell? w _ c0)).trans c0
  have c1' := (HB1.out.cell (World.block_lt_of_cell? w _ c1)).trans c1
  have hni : (n : Int) < (n : Int) + 1 := by omega
  clear hcc h hx c0 c1
  go_enter Try.func62, Try.ntmps62
  go_upto_region 3 with fail
  have HN2 : Hid (((w.alloc (.cells #[.string ⟨#[]⟩, .int .u64 0] 69)).alloc (.cells #[.string x.1, .int .u64 x.2] 69)).heap[w.heap.size]? = some (.cells #[.string ⟨#[]⟩, .int .u64 0] 69 (0, 0))) := ((Below.refl _ _).alloc (Nat.le_refl _) _ : Below (w.alloc (.cells #[.string ⟨#[]⟩, .int .u64 0] 69)).heap.size (w.alloc (.cells #[.string ⟨#[]⟩, .int .u64 0] 69)) ((w.alloc (.cells #[.string ⟨#[]⟩, .int .u64 0] 69)).alloc (.cells #[.string x.1, .int .u64 x.2] 69))).block _ (by simp) |>.trans (heap_alloc_new w _)
  have HN5 : Hid (((w.alloc (.cells #[.string ⟨#[]⟩, .int .u64 0] 69)).alloc (.cells #[.string x.1, .int .u64 x.2] 69)).heap[w.heap.size + 1]? = some (.cells #[.string x.1, .int .u64 x.2] 69 (0, 0))) := by unfold Hid; have := heap_alloc_new (w.alloc (.cells #[.string ⟨#[]⟩, .int .u64 0] 69)) (.cells #[.string x.1, .int .u64 x.2] 69); simpa using this
  have HBW : Hid (Below w.heap.size w ((w.alloc (.cells #[.string ⟨#[]⟩, .int .u64 0] 69)).alloc (.cells #[.string x.1, .int .u64 x.2] 69))) := HB1.out.alloc HB1.out.size _
  generalize ((w.alloc (.cells #[.string ⟨#[]⟩, .int .u64 0] 69)).alloc (.cells #[.string x.1, .int .u64 x.2] 69)) = W at HN2 HN5 HBW ⊢
  have HRW : Hid (W.drew.ownsRow B 69 2 (.slice (some ⟨g, 0, none⟩) (n + 1) cap) (n + 1) (gc encI L)) := ownsRow_below HR.out HBW.out.drew
  have y0 : W.cell? ⟨w.heap.size + 1, 0, none⟩ = some (.string x.1) := cellO HN5.out 0 rfl
  have y1 : W.cell? ⟨w.heap.size + 1, 1, none⟩ = some (.int .u64 x.2) := cellO HN5.out 1 rfl
  have HE : Hid (n + 1 - (n + 1 - n) = n) := by unfold Hid; omega
  have HTL : Hid (L.take n ++ L.drop (n + 1) = L.take n) := take_last hL
  have hwn : IntKind.i64.wrap ((n : Int) + 1) = (n : Int) + 1 := by rw [IntKind.wrap_i64]; omega
  go_region_law (refine step_sdelI rfl (.tmp 14) (.tmp 15) (.tmp 17) rfl hL HRW.out n (n + 1) (by omega) (Nat.le_refl _) (by omega) rfl rfl rfl rfl (by first | omega | (rw [hwn]; omega)) ?_; rw [HE.out, HTL.out]; intro w4 ho4 hg4; have HO4 : Hid (w4.ownsRow B 69 2 (.slice (some ⟨g, 0, none⟩) n cap) n (gc encI (L.take n))) := ho4; have HG4 : Hid (W.drew.grownBy w4 (some g)) := hg4; have h2 : w4.heap[w.heap.size]? = some (.cells #[.string ⟨#[]⟩, .int .u64 0] 69 (0, 0)) := (hg4.block _ (Array.getElem?_eq_some_iff.1 HN2.out).1 (fun e => by injection e with e; omega)).trans HN2.out; have h5 : w4.heap[w.heap.size + 1]? = some (.cells #[.string x.1, .int .u64 x.2] 69 (0, 0)) := (hg4.block _ (Array.getElem?_eq_some_iff.1 HN5.out).1 (fun e => by injection e with e; omega)).trans HN5.out; have z0 := cellO h2 0 rfl; have z1 := cellO h2 1 rfl; have f0 := frozenO h2 0; have f1 := frozenO h2 1; have v0 := cellO h5 0 rfl; have v1 := cellO h5 1 rfl; have HF : Hid (((w4.setCell ⟨w.heap.size, 0, none⟩ (.string x.1)).setCell ⟨w.heap.size, 1, none⟩ (.int .u64 x.2)).heap[w.heap.size]? = some (.cells #[.string x.1, .int .u64 x.2] 69 (0, 0))) := (by unfold Hid; have h6 := heap_setCell_same w4 w.heap.size 0 _ _ (.string x.1) h2; have h7 := heap_setCell_same _ w.heap.size 1 _ _ (.int .u64 x.2) h6; simpa using h7); clear ho4 hg4 h2 h5)
  all_goals (simp [Act.put])
  all_goals (go_wp2_with fail)
  all_goals
    have HK : Hid (Kp (fun y => y = g ∨ y = w.heap.size) W ((w4.setCell ⟨w.heap.size, 0, none⟩ (.string x.1)).setCell ⟨w.heap.size, 1, none⟩ (.int .u64 x.2))) := by
      have h1 : Kp (fun y => y = g ∨ y = w.heap.size) W w4 := (Kp.refl _ W).drew.grown HG4.out (fun y _ e => by injection e with e; exact .inl e.symm)
      exact (h1.setCell (a := ⟨w.heap.size, 0, none⟩) _ (fun _ => .inr rfl)).setCell (a := ⟨w.heap.size, 1, none⟩) _ (fun _ => .inr rfl)
    have HOF : Hid (((w4.setCell ⟨w.heap.size, 0, none⟩ (.string x.1)).setCell ⟨w.heap.size, 1, none⟩ (.int .u64 x.2)).ownsRow B 69 2 (.slice (some ⟨g, 0, none⟩) n cap) n (gc encI (L.take n))) := by
      have h1 : Kp (fun y => y = w.heap.size) w4 ((w4.setCell ⟨w.heap.size, 0, none⟩ (.string x.1)).setCell ⟨w.heap.size, 1, none⟩ (.int .u64 x.2)) := ((Kp.refl (fun y => y = w.heap.size) w4).setCell (a := ⟨w.heap.size, 0, none⟩) _ (fun _ => rfl)).setCell (a := ⟨w.heap.size, 1, none⟩) _ (fun _ => rfl)
      exact ownsRow_kp HO4.out h1 (fun y hy e => by simp [Value.ownBlock] at hy; omega)
    have k0 := cellO HF.out 0 rfl
    have k1 := cellO HF.out 1 rfl
    clear z0 z1 f0 f1 v0 v1 y0 y1
    generalize ((w4.setCell ⟨w.heap.size, 0, none⟩ (.string x.1)).setCell ⟨w.heap.size, 1, none⟩ (.int .u64 x.2)) = wf at HF HK HOF k0 k1 ⊢
    refine bodyPost_ret (v := .tuple #[.agg #[.string x.1, .int .u64 x.2], .slice (some ⟨g, 0, none⟩) n cap]) (by rw [results_cell_tmp rfl]; go_simp) rfl ?_
    refine ⟨rfl, HOF.out, HK.out.os.trans HBW.out.os, HK.out.tape.trans HBW.out.tape, HK.out.output.trans HBW.out.output, Nat.le_trans HBW.out.size HK.out.size, fun y hy hne => ?_⟩
    exact (HK.out.block y (Nat.lt_of_lt_of_le hy HBW.out.size) (fun e => by rcases e with rfl | rfl; exact hne rfl; omega)).trans (HBW.out.block y hy)
end Go.Proofs.Ytelfjgnmbikofaa
