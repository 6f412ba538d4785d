/-
  slices.Insert and slices.Clone on rows of node pointers. Conditions: lengths are such as memory bears.
-/
import Derived.Test.YtelfjgnmbikofaaBDelP
import Derived.Test.YtelfjgnmbikofaaBIns2I
namespace Go.Proofs.Ytelfjgnmbikofaa
open Go.RowKit
set_option linter.unusedVariables false
set_option maxRecDepth 100000


set_option maxHeartbeats 4000000 in
theorem sinsEndP {w : World} {B n : Nat} {v : Value} {L : List Nat} (hLn : L.length = n) (h : w.ownsRow B 65 1 v n (gc encP L)) (hB : B ≤ w.heap.size) (hn : n ≤ 1000000) (x : Nat) (gx : Nat) (hx : w.heap[gx]? = some (.cells (encP x).toArray 65 (0, 0))) :
    Calls Try.prog 61 #[v, .int .i64 (n : Int), .slice (some ⟨gx, 0, none⟩) 1 1] w fun e w' => ∃ g cap, e = .returned (.slice (some ⟨g, 0, none⟩) (n + 1) cap) ∧ w'.ownsRow B 65 1 (.slice (some ⟨g, 0, none⟩) (n + 1) cap) (n + 1) (gc encP (L ++ [x])) ∧ w.grownBy w' v.ownBlock ∧ (v.ownBlock = some g ∨ g = w.heap.size) := by
  obtain ⟨i1, hi1, hy0, hy1, hy2⟩ := info_partsG Try.infoP
  have HR : Hid (w.ownsRow B 65 1 v n (gc encP L)) := h
  have HX : Hid (w.heap[gx]? = some (.cells (encP x).toArray 65 (0, 0))) := hx
  have HO1 : Hid (∀ u ∈ encP x, u.oneCell' = true) := fun u hu => one_gcP [x] u (by rw [gc_one]; exact hu)
  have e0 : ((n : Int) == n) = true := by simp
  rcases ownsRow_shape h with ⟨rfl, rfl⟩ | ⟨g0, cap, rfl, _, _, hle, _⟩
  · clear h hx
    go_enter Try.func61, Try.ntmps61
    go_wp2_with (at_builtin; refine wpList_append_G w rfl (.tmp 23) (.tmp 24) 71 rfl 65 i1 Try.underlying71 hi1 _ hy0 1 8 hy1 hy2 rfl (by omega) B (Value.slice none 0 0) 0 (gc encP L) ⟨gx, 0, none⟩ 1 1 (encP x) rfl rfl HR.out rfl (news_one HX.out) HO1.out (by omega) (by omega) (by omega) hB ?_; intro g cap w1 ho hg ha; have HO : Hid (w1.ownsRow B 65 1 (.slice (some ⟨g, 0, none⟩) (0 + 1) cap) (0 + 1) (gc encP L ++ encP x)) := ho; have HG : Hid (w.grownBy w1 (Value.ownBlock (Value.slice none 0 0))) := hg; have HA : Hid ((Value.slice none 0 0).ownBlock = some g ∨ g = w.heap.size) := ha; clear ho hg ha)
    go_ret
    exact ⟨g, cap, rfl, by rw [gc_append, gc_one]; exact HO.out, HG.out, HA.out⟩
  · clear h hx
    go_enter Try.func61, Try.ntmps61
    go_wp2_with (at_builtin; refine wpList_append_G w rfl (.tmp 23) (.tmp 24) 71 rfl 65 i1 Try.underlying71 hi1 _ hy0 1 8 hy1 hy2 rfl (by omega) B (Value.slice (some ⟨g0, 0, none⟩) n cap) n (gc encP L) ⟨gx, 0, none⟩ 1 1 (encP x) rfl rfl HR.out rfl (news_one HX.out) HO1.out (by omega) (by omega) (by omega) hB ?_; intro g cap1 w1 ho hg ha; have HO : Hid (w1.ownsRow B 65 1 (.slice (some ⟨g, 0, none⟩) (n + 1) cap1) (n + 1) (gc encP L ++ encP x)) := ho; have HG : Hid (w.grownBy w1 (Value.ownBlock (Value.slice (some ⟨g0, 0, none⟩) n cap))) := hg; have HA : Hid ((Value.slice (some ⟨g0, 0, none⟩) n cap).ownBlock = some g ∨ g = w.heap.size) := ha; clear ho hg ha)
    all_goals go_ret
    all_goals exact ⟨g, cap1, rfl, by rw [gc_append, gc_one]; exact HO.out, HG.out, HA.out⟩
set_option maxHeartbeats 4000000 in
theorem sinsRoomP {w : World} {B g cap n : Nat} {L : List Nat} (hL : L.length = n) (h : w.ownsRow B 65 1 (.slice (some ⟨g, 0, none⟩) n cap) n (gc encP L)) (hroom : n + 1 ≤ cap) (i : Nat) (hi : i < n) (hn : n ≤ 1000000) (x : Nat) (gx : Nat) (hx : w.heap[gx]? = some (.cells (encP x).toArray 65 (0, 0))) (hne : gx ≠ g) :
    Calls Try.prog 61 #[.slice (some ⟨g, 0, none⟩) n cap, .int .i64 (i : Int), .slice (some ⟨gx, 0, none⟩) 1 1] w fun e w' => e = .returned (.slice (some ⟨g, 0, none⟩) (n + 1) cap) ∧ w'.ownsRow B 65 1 (.slice (some ⟨g, 0, none⟩) (n + 1) cap) (n + 1) (gc encP (L.take i ++ x :: L.drop i)) ∧ w.grownBy w' (some g) := by
  have HR : Hid (w.ownsRow B 65 1 (.slice (some ⟨g, 0, none⟩) n cap) n (gc encP L)) := h
  have HX : Hid (w.heap[gx]? = some (.cells (encP x).toArray 65 (0, 0))) := hx
  have HO1 : Hid (∀ u ∈ encP x, u.oneCell' = true) := fun u hu => one_gcP [x] u (by rw [gc_one]; exact hu)
  have d1 : ((i : Int) == n) = false := by simp; omega
  have d2 : decide ((cap : Int) < (n : Int) + 1) = false := by simp; omega
  have hov : ∀ lb cb o, (callFunc 71 #[.slice (some ⟨gx, 0, none⟩) 1 1, .slice (some ⟨g, o, none⟩) lb cb]).run Try.prog w = .ok (.value (.bool false)) w := fun lb cb o => by
    rw [run_callFunc_extern Try.func71 (by kernel_rfl) (by kernel_rfl) (by kernel_rfl) (e := Extern.SlicesOverlaps.overlaps #[71, 71] #[4]) (by kernel_rfl),
      Lib.run_overlaps_apart w 71 4 65 Try.underlying71 1 Try.sizeP ⟨gx, 0, none⟩ ⟨g, o, none⟩ 1 1 lb cb hne 65 65 1 (cap * 1) (by simp [World.shape?, hx, encP]) (shape_row h) (by omega) (by simp [World.frozen?, hx]) (by simp [World.frozen?, hx])]
    rfl
  clear h hx
  go_enter Try.func61, Try.ntmps61
  go_wp2_with fail
  obtain ⟨ys, hys, hrow1⟩ := ownsRow_room HR.out hroom
  have HR1 : Hid (w.drew.ownsRow B 65 1 (.slice (some ⟨g, 0, none⟩) (n + 1) cap) (n + 1) (gc encP L ++ ys)) := ownsRow_below hrow1 ((Below.refl _ _).drew)
  have HGL : Hid ((gc encP L).length = n * 1) := by unfold Hid; rw [gc_length encP_len, hL]
  have HSRC : Hid (∀ j v, ((gc encP L).drop (i * 1))[j]? = some v → w.drew.cell? ((⟨g, i * 1, none⟩ : Addr).add j) = some v) := fun j v hv => by
    rw [List.getElem?_drop] at hv
    rcases ownsRow_shape HR.out with ⟨e, _⟩ | ⟨g', c', e, _, _, _, _, _, hc⟩
    · cases e
    · injection e with e1 _ _
      obtain rfl : g = g' := by simpa using e1
      rw [addG]; exact hc _ _ hv
  have hwi : IntKind.i64.wrap ((i : Int) + 1) = (i : Int) + 1 := by simp [IntKind.wrap, IntKind.bits, IntKind.signed]; omega
  have hti : ((i : Int) + 1).toNat = i + 1 := by omega
  have h0i : 0 ≤ (i : Int) + 1 := by omega
  have h1i : (i : Int) + 1 ≤ (n : Int) + 1 := by omega
  have hci : ¬ cap = i + 1 := by omega
  have h2i : (i : Int) ≤ (n : Int) + 1 := by omega
  have hcj : ¬ cap = i := by omega
  have HNN : Hid (((gc encP L).drop (i * 1)).length = Nat.min (n + 1 - i) (n - i) * 1) := by unfold Hid; rw [List.length_drop, HGL.out, ← Nat.sub_mul]; simp only [Nat.min_def]; split <;> omega
  have HFI : Hid ((i + 1) * 1 + ((gc encP L).drop (i * 1)).length ≤ (n + 1) * 1) := by unfold Hid; rw [List.length_drop, HGL.out]; omega
  have HON : Hid (∀ v ∈ (gc encP L).drop (i * 1), v.oneCell' = true) := fun v hv => one_gcP L v (List.mem_of_mem_drop hv)
  clear hrow1 hov
  go_region_law (refine step_copy_G rfl (.tmp 73) (.tmp 76) 71 71 rfl 65 Try.underlying71 B 1 (n + 1) cap (i + 1) g Try.sizeIP ⟨g, i * 1, none⟩ (n + 1 - i) (cap - i) (n - i) (cap - (i + 1)) (gc encP L ++ ys) ((gc encP L).drop (i * 1)) (by go_simp) (by go_simp) HR1.out HNN.out HSRC.out HFI.out HON.out ?_; intro w1 ho1 hg1; have HO1' : Hid (w1.ownsRow B 65 1 (.slice (some ⟨g, 0, none⟩) (n + 1) cap) (n + 1) (layC (gc encP L ++ ys) ((i + 1) * 1) ((gc encP L).drop (i * 1)))) := ho1; have HG1 : Hid (w.drew.grownBy w1 (some g)) := hg1; clear ho1 hg1)
  all_goals
    have HX1 : Hid (w1.heap[gx]? = some (.cells (encP x).toArray 65 (0, 0))) := (HG1.out.block gx (Array.getElem?_eq_some_iff.1 HX.out).1 (fun e => hne (Option.some.inj e))).trans HX.out
    have HN2 : Hid ((encP x).length = Nat.min 1 (n + 1 - i) * 1) := by unfold Hid; rw [encP_len, show Nat.min 1 (n + 1 - i) = 1 from Nat.min_eq_left (by omega)]
    go_wp2_with (refine wpList_copy_G rfl (.tmp 80) (.tmp 81) 71 71 rfl 65 Try.underlying71 B 1 (n + 1) cap i g Try.sizeIP ⟨gx, 0, none⟩ 1 1 (n + 1 - i) (cap - i) _ (encP x) (by go_simp) (by go_simp) HO1'.out HN2.out (news_one HX1.out) (by rw [encP_len]; omega) HO1.out ?_; intro w2 ho2 hg2; have HO2 : Hid _ := ho2; have HG2 : Hid (w1.grownBy w2 (some g)) := hg2; clear ho2 hg2)
    go_ret
    refine ⟨rfl, ?_, ?_⟩
    · have h := HO2.out
      rw [lay_twiceG (k := 1) HGL.out hys (encP_len x) hi] at h
      rw [gc_append, show gc encP (x :: L.drop i) = encP x ++ gc encP (L.drop i) by simp [gc], ← gc_take encP_len, ← gc_drop encP_len, ← List.append_assoc]
      exact h
    · exact ⟨HG2.out.os.trans HG1.out.os, HG2.out.tape.trans HG1.out.tape, HG2.out.output.trans HG1.out.output, Nat.le_trans HG1.out.size HG2.out.size, fun y hy hne => (HG2.out.block y (Nat.lt_of_lt_of_le hy HG1.out.size) hne).trans (HG1.out.block y hy hne)⟩
set_option maxHeartbeats 4000000 in
theorem sinsGrowP {w : World} {B g cap n : Nat} {L : List Nat} (hL : L.length = n) (h : w.ownsRow B 65 1 (.slice (some ⟨g, 0, none⟩) n cap) n (gc encP L)) (hroom : cap < n + 1) (hB : B ≤ w.heap.size) (i : Nat) (hi : i < n) (hn : n ≤ 1000000) (x : Nat) (gx : Nat) (hx : w.heap[gx]? = some (.cells (encP x).toArray 65 (0, 0))) :
    Calls Try.prog 61 #[.slice (some ⟨g, 0, none⟩) n cap, .int .i64 (i : Int), .slice (some ⟨gx, 0, none⟩) 1 1] w fun e w' => ∃ cap', e = .returned (.slice (some ⟨w.heap.size, 0, none⟩) (n + 1) cap') ∧ w'.ownsRow B 65 1 (.slice (some ⟨w.heap.size, 0, none⟩) (n + 1) cap') (n + 1) (gc encP (L.take i ++ x :: L.drop i)) ∧ Below w.heap.size w w' := by
  obtain ⟨i1, hi1, hy0, hy1, hy2⟩ := info_partsG Try.infoP
  have HR : Hid (w.ownsRow B 65 1 (.slice (some ⟨g, 0, none⟩) n cap) n (gc encP L)) := h
  have HX : Hid (w.heap[gx]? = some (.cells (encP x).toArray 65 (0, 0))) := hx
  have HO1 : Hid (∀ u ∈ encP x, u.oneCell' = true) := fun u hu => one_gcP [x] u (by rw [gc_one]; exact hu)
  have hgl : g < w.heap.size ∧ n ≤ cap := by
    rcases ownsRow_shape h with ⟨e, _⟩ | ⟨g', c', e, _, hgl, hle, _, _, hc⟩
    · cases e
    · injection e with e1 _ e3
      obtain rfl : g = g' := by simpa using e1
      exact ⟨hgl, by omega⟩
  have hgxl : gx < w.heap.size := (Array.getElem?_eq_some_iff.1 hx).1
  obtain ⟨hgl, hnc⟩ := hgl
  have d1 : ((i : Int) == n) = false := by simp; omega
  have d2 : decide ((cap : Int) < (n : Int) + 1) = true := by simp; omega
  have HGL : Hid ((gc encP L).length = n * 1) := by unfold Hid; rw [gc_length encP_len, hL]
  have HSRC : Hid (∀ j v, ((gc encP L).drop (i * 1))[j]? = some v → w.cell? ((⟨g, i * 1, none⟩ : Addr).add j) = some v) := fun j v hv => by
    rw [List.getElem?_drop] at hv
    rcases ownsRow_shape HR.out with ⟨e, _⟩ | ⟨g', c', e, _, _, _, _, _, hc⟩
    · cases e
    · injection e with e1 _ _
      obtain rfl : g = g' := by simpa using e1
      rw [addG]; exact hc _ _ hv
  obtain ⟨cap', w1, ys, hrun, hys, hrow1, hb1⟩ := run_appZ_own (P := Try.prog) w 71 3 71 65 i1 Try.underlying71 Try.underlying3 hi1 _ hy0 1 8 hy1 hy2 rfl (by omega) B g n cap i (gc encP L) h (by omega) (n + 1 - i) (by omega) (by omega) (by omega) (by omega) hB
  have hik : i + (n + 1 - i) = n + 1 := by omega
  rw [hik] at hrun hrow1
  have hkk : ((n + 1 - i : Nat) : Int) = (n : Int) + 1 - (i : Int) := by omega
  rw [hkk] at hrun
  have HRUN : Hid _ := hrun
  have HRW : Hid (w1.ownsRow B 65 1 (.slice (some ⟨w.heap.size, 0, none⟩) (n + 1) cap') (n + 1) ((gc encP L).take (i * 1) ++ ys)) := hrow1
  have HB1 : Hid (Below w.heap.size w w1) := hb1
  have hcap' : n + 1 ≤ cap' ∧ cap' ≤ 9223372036854775807 := by
    rcases ownsRow_shape hrow1 with ⟨e, _⟩ | ⟨g', c', e, _, _, hle, hm, _, hc⟩
    · cases e
    · injection e with e1 _ e3
      subst e3
      exact ⟨hle, by unfold maxLen at hm; omega⟩
  obtain ⟨hc1, hc2⟩ := hcap'
  have HX1 : Hid (w1.heap[gx]? = some (.cells (encP x).toArray 65 (0, 0))) := (HB1.out.block gx hgxl).trans HX.out
  have HN2 : Hid ((encP x).length = Nat.min 1 (n + 1 - i) * 1) := by unfold Hid; rw [encP_len, show Nat.min 1 (n + 1 - i) = 1 from Nat.min_eq_left (by omega)]
  have hcc : ¬ cap' = i := by omega
  have hcc2 : ¬ cap = i := by omega
  clear h hx hrun hrow1 hb1
  go_enter Try.func61, Try.ntmps61
  go_wp2_with (first
    | (at_builtin; refine Lib.wpList_append_run _ rfl _ _ _ _ rfl _ _ rfl rfl _ _ HRUN.out ?_)
    | (refine wpList_copy_G rfl (.tmp 43) (.tmp 44) 71 71 rfl 65 Try.underlying71 B 1 (n + 1) cap' i w.heap.size Try.sizeIP ⟨gx, 0, none⟩ 1 1 (n + 1 - i) (cap' - i) _ (encP x) (by go_simp) (by go_simp) HRW.out HN2.out (news_one HX1.out) (by rw [encP_len]; omega) HO1.out ?_; intro w2 ho2 hg2; have HO2 : Hid (w2.ownsRow B 65 1 (.slice (some ⟨w.heap.size, 0, none⟩) (n + 1) cap') (n + 1) (layC ((gc encP L).take (i * 1) ++ ys) (i * 1) (encP x))) := ho2; have HG2 : Hid (w1.grownBy w2 (some w.heap.size)) := hg2; clear ho2 hg2))
  have HB2 : Hid (Below w.heap.size w w2.drew) := (HB1.out.grown HG2.out HB1.out.size (fun j hj => by injection hj with e; omega)).drew
  have HRW2 : Hid (w2.drew.ownsRow B 65 1 (.slice (some ⟨w.heap.size, 0, none⟩) (n + 1) cap') (n + 1) (layC ((gc encP L).take (i * 1) ++ ys) (i * 1) (encP x))) := ownsRow_below HO2.out ((Below.refl _ _).drew)
  have HSRC2 : Hid (∀ j v, ((gc encP L).drop (i * 1))[j]? = some v → w2.drew.cell? ((⟨g, i * 1, none⟩ : Addr).add j) = some v) := fun j v hv => by
    have h1 := HSRC.out j v hv
    rw [addG] at h1 ⊢
    exact (HB2.out.cell hgl).trans h1
  have hwi : IntKind.i64.wrap ((i : Int) + 1) = (i : Int) + 1 := by simp [IntKind.wrap, IntKind.bits, IntKind.signed]; omega
  have hti : ((i : Int) + 1).toNat = i + 1 := by omega
  have h0i : 0 ≤ (i : Int) + 1 := by omega
  have h1i : (i : Int) + 1 ≤ (n : Int) + 1 := by omega
  have hci : ¬ cap' = i + 1 := by omega
  have h2i : (i : Int) ≤ (n : Int) := by omega
  have HNN : Hid (((gc encP L).drop (i * 1)).length = Nat.min (n - i) (n + 1 - (i + 1)) * 1) := by unfold Hid; rw [List.length_drop, HGL.out, ← Nat.sub_mul, show Nat.min (n - i) (n + 1 - (i + 1)) = n - i from Nat.min_eq_left (by omega)]
  have HFI : Hid ((i + 1) * 1 + ((gc encP L).drop (i * 1)).length ≤ (n + 1) * 1) := by unfold Hid; rw [List.length_drop, HGL.out]; omega
  have HON : Hid (∀ v ∈ (gc encP L).drop (i * 1), v.oneCell' = true) := fun v hv => one_gcP L v (List.mem_of_mem_drop hv)
  have hmm : n + 1 - (i + 1) = n - i := by omega
  go_region_law (refine step_copy_G rfl (.tmp 50) (.tmp 53) 71 71 rfl 65 Try.underlying71 B 1 (n + 1) cap' (i + 1) w.heap.size Try.sizeIP ⟨g, i * 1, none⟩ (n - i) (cap - i) (n + 1 - (i + 1)) (cap' - (i + 1)) _ ((gc encP L).drop (i * 1)) (by go_simp) (by go_simp) HRW2.out HNN.out HSRC2.out HFI.out HON.out ?_; intro w3 ho3 hg3; have HO3 : Hid _ := ho3; have HG3 : Hid (w2.drew.grownBy w3 (some w.heap.size)) := hg3; clear ho3 hg3)
  all_goals
    go_wp2_with fail
    go_ret
    refine ⟨cap', rfl, ?_, ?_⟩
    · have h := HO3.out
      rw [lay_grow (k := 1) HGL.out hys (encP_len x) hi] at h
      rw [gc_append, show gc encP (x :: L.drop i) = encP x ++ gc encP (L.drop i) by simp [gc], ← gc_take encP_len, ← gc_drop encP_len, ← List.append_assoc]
      exact h
    · exact HB2.out.grown HG3.out HB2.out.size (fun j hj => by injection hj with e; omega)
/-- slices.Insert of one, at any place. -/
theorem sinsP {w : World} {B n : Nat} {v : Value} {L : List Nat} (hL : L.length = n) (h : w.ownsRow B 65 1 v n (gc encP L)) (hB : B ≤ w.heap.size) (i : Nat) (hi : i ≤ n) (hn : n ≤ 1000000) (x : Nat) (gx : Nat) (hx : w.heap[gx]? = some (.cells (encP x).toArray 65 (0, 0))) (hne : v.ownBlock ≠ some gx) :
    Calls Try.prog 61 #[v, .int .i64 (i : Int), .slice (some ⟨gx, 0, none⟩) 1 1] w fun e w' => ∃ g cap, e = .returned (.slice (some ⟨g, 0, none⟩) (n + 1) cap) ∧ w'.ownsRow B 65 1 (.slice (some ⟨g, 0, none⟩) (n + 1) cap) (n + 1) (gc encP (L.take i ++ x :: L.drop i)) ∧ w.grownBy w' v.ownBlock ∧ (v.ownBlock = some g ∨ g = w.heap.size) := by
  by_cases hin : i = n
  · subst hin
    have e1 : L.take i ++ x :: L.drop i = L ++ [x] := by rw [List.take_of_length_le (by omega), List.drop_of_length_le (by omega)]
    rw [e1]
    exact sinsEndP hL h hB hn x gx hx
  · rcases ownsRow_shape h with ⟨rfl, rfl⟩ | ⟨g, cap, rfl, hBg, hgl, hle, _⟩
    · omega
    · by_cases hr : n + 1 ≤ cap
      · refine (sinsRoomP hL h hr i (by omega) hn x gx hx (fun e => hne (by rw [e]; rfl))).mono ?_
        rintro e w' ⟨rfl, h1, h2⟩
        exact ⟨g, cap, rfl, h1, h2, .inl rfl⟩
      · refine (sinsGrowP hL h (by omega) hB i (by omega) hn x gx hx).mono ?_
        rintro e w' ⟨cap', rfl, h1, h2⟩
        exact ⟨w.heap.size, cap', rfl, h1, ⟨h2.os, h2.tape, h2.output, h2.size, fun k hk _ => h2.block k hk⟩, .inr rfl⟩
set_option maxHeartbeats 4000000 in
/-- slices.Clone of some. -/
theorem scloneP {w : World} {B m c : Nat} {ad : Addr} {L : List Nat} (hL : L.length = m) (hm : 1 ≤ m) (hc : ∀ j u, (gc encP L)[j]? = some u → w.cell? (ad.add j) = some u) (hB : B ≤ w.heap.size) (hn : m ≤ 1000000) :
    Calls Try.prog 59 #[.slice (some ad) m c] w fun e w' => ∃ g cap, e = .returned (.slice (some ⟨g, 0, none⟩) m cap) ∧ w'.ownsRow B 65 1 (.slice (some ⟨g, 0, none⟩) m cap) m (gc encP L) ∧ Below w.heap.size w w' ∧ w.heap.size ≤ g := by
  obtain ⟨i1, hi1, hy0, hy1, hy2⟩ := info_partsG Try.infoP
  have HB0 : Hid (Below w.heap.size w (w.alloc (.cells #[] 65))) := (Below.refl _ _).alloc (Nat.le_refl _) _
  have HR : Hid ((w.alloc (.cells #[] 65)).ownsRow B 65 1 (.slice (some ⟨w.heap.size, 0, none⟩) 0 0) 0 []) := World.ownsRow_made w #[] 0 hB (Nat.zero_le _) rfl
  have HGL : Hid ((gc encP L).length = m * 1) := by unfold Hid; rw [gc_length encP_len, hL]
  have HSRC : Hid (∀ j u, (gc encP L)[j]? = some u → (w.alloc (.cells #[] 65)).cell? (ad.add j) = some u) := fun j u hu => by
    have h1 := hc j u hu
    exact (HB0.out.cell (World.block_lt_of_cell? w _ h1)).trans h1
  have HON : Hid (∀ v ∈ gc encP L, v.oneCell' = true) := one_gcP L
  have HBs : Hid (B ≤ (w.alloc (.cells #[] 65)).heap.size) := Nat.le_trans hB HB0.out.size
  have hnil : ∀ W : World, (binOp .eql 71 (.slice (some ad) m c) (.slice none 0 0)).run Try.prog W = .ok (.bool false) W := fun W => Lib.run_eql_slice_nil W _ _ (some ad) m c 0 0 Try.underlying71
  clear hc
  go_enter Try.func59, Try.ntmps59
  go_wp2_with (at_builtin; refine wpList_append_G _ rfl (.tmp 5) (.tmp 6) 71 rfl 65 i1 Try.underlying71 hi1 _ hy0 1 8 hy1 hy2 rfl (by omega) B (Value.slice (some ⟨w.heap.size, 0, none⟩) 0 0) 0 [] ad m c (gc encP L) rfl rfl HR.out HGL.out HSRC.out HON.out (by omega) (by omega) hm HBs.out ?_; intro g cap w1 ho hg ha; have HO : Hid (w1.ownsRow B 65 1 (.slice (some ⟨g, 0, none⟩) (0 + m) cap) (0 + m) ([] ++ gc encP L)) := ho; have HG : Hid ((w.alloc (.cells #[] 65)).grownBy w1 (some w.heap.size)) := hg; have HA : Hid (some w.heap.size = some g ∨ g = (w.alloc (.cells #[] 65)).heap.size) := ha; clear ho hg ha)
  go_ret
  refine ⟨g, cap, rfl, by have h := HO.out; rw [Nat.zero_add, List.nil_append] at h; exact h, HB0.out.grown HG.out HB0.out.size (fun j hj => by injection hj with e; omega), ?_⟩
  rcases HA.out with h | h
  · injection h with e; omega
  · rw [h]; exact HB0.out.size
/-- slices.Delete, as a step. -/
theorem step_sdelP {ops : Array Oper} {o : Oper} {a : Act} {w : World} {K : Act → World → Prop} {Q : Exit → Act → World → Prop} {E : Prop}
    (hg : o.guard = none) (x y z : Operand) (hop : o.op = Op.call { callee := Callee.value (Operand.func 60), args := #[x, y, z], argTypes := #[71, 3, 3] })
    {B g cap n : Nat} {L : List Nat} (hL : L.length = n) (h : w.ownsRow B 65 1 (.slice (some ⟨g, 0, none⟩) n cap) n (gc encP L)) (i j : Nat) (hij : i < j) (hj : j ≤ n) (hn : n ≤ 1000000)
    (hx : a.eval x = .slice (some ⟨g, 0, none⟩) n cap) {yi zi : Int} (hy : a.eval y = .int .i64 yi) (hyi : yi = (i : Int)) (hz : a.eval z = .int .i64 zi) (hzi : zi = (j : Int))
    (hK : ∀ w', w'.ownsRow B 65 1 (.slice (some ⟨g, 0, none⟩) (n - (j - i)) cap) (n - (j - i)) (gc encP (L.take i ++ L.drop j)) → w.grownBy w' (some g) → K (a.put o.dst (.slice (some ⟨g, 0, none⟩) (n - (j - i)) cap)) w') :
    if Region.wanted o (yielded ops a.tmps) = true then Oper.wp Try.prog o a w K Q else E := by
  subst hyi hzi
  have hw : Region.wanted o (yielded ops a.tmps) = true := by simp [Region.wanted, hg]
  rw [if_pos hw]
  have hf : a.eval (Operand.func 60) = .func (.func 60) #[] #[] := rfl
  unfold Oper.wp
  simp [execOp, hop, resolve, invoke, hx, hy, hz, hf, Result.andThen, Oper.upon]
  refine (sdelP hL h i j hij hj hn).mono ?_
  rintro e w' ⟨rfl, h1, h2⟩
  exact hK w' h1 h2
/-- slices.Insert, as a step. -/
theorem step_sinsP {ops : Array Oper} {o : Oper} {a : Act} {w : World} {K : Act → World → Prop} {Q : Exit → Act → World → Prop} {E : Prop}
    (hg : o.guard = none) (x y z : Operand) (hop : o.op = Op.call { callee := Callee.value (Operand.func 61), args := #[x, y, z], argTypes := #[71, 3, 71] })
    {B n : Nat} {v : Value} {L : List Nat} (hL : L.length = n) (h : w.ownsRow B 65 1 v n (gc encP L)) (hB : B ≤ w.heap.size) (i : Nat) (hi : i ≤ n) (hn : n ≤ 1000000) (it : Nat) (gx : Nat) (hgx : w.heap[gx]? = some (.cells (encP it).toArray 65 (0, 0))) (hne : v.ownBlock ≠ some gx)
    (hx : a.eval x = v) {yi : Int} (hy : a.eval y = .int .i64 yi) (hyi : yi = (i : Int)) (hz : a.eval z = .slice (some ⟨gx, 0, none⟩) 1 1)
    (hK : ∀ g cap w', w'.ownsRow B 65 1 (.slice (some ⟨g, 0, none⟩) (n + 1) cap) (n + 1) (gc encP (L.take i ++ it :: L.drop i)) → w.grownBy w' v.ownBlock → (v.ownBlock = some g ∨ g = w.heap.size) → K (a.put o.dst (.slice (some ⟨g, 0, none⟩) (n + 1) cap)) w') :
    if Region.wanted o (yielded ops a.tmps) = true then Oper.wp Try.prog o a w K Q else E := by
  subst hyi
  have hw : Region.wanted o (yielded ops a.tmps) = true := by simp [Region.wanted, hg]
  rw [if_pos hw]
  have hf : a.eval (Operand.func 61) = .func (.func 61) #[] #[] := rfl
  unfold Oper.wp
  simp [execOp, hop, resolve, invoke, hx, hy, hz, hf, Result.andThen, Oper.upon]
  refine (sinsP hL h hB i hi hn it gx hgx hne).mono ?_
  rintro e w' ⟨g, cap, rfl, h1, h2, h3⟩
  exact hK g cap w' h1 h2 h3
end Go.Proofs.Ytelfjgnmbikofaa
