/-
  growRoot and shrinkRoot: a root that has an item too many, or none. Conditions: the tree has its shape but for that.
-/
import Derived.Test.YtelfjgnmbikofaaBLoc
namespace Go.Proofs.Ytelfjgnmbikofaa
open Go.RowKit
set_option linter.unusedVariables false
set_option maxRecDepth 100000

/-- A tree whose root may be another one. -/
def GrowP (most B p q c : Nat) (F : List It) (R : List Pc) (w' : World) : Prop :=
  ∃ (h : Nat) (t : Nd (Tr h)) (lo : Nat), Sep w' B (pcs (h + 1) (up1 t) ++ (treeO p q most :: keptO q t.n c :: R)) ∧ Shp most (h + 1) lo most (up1 t) ∧ (0 < h → 1 ≤ lo) ∧ flat (h + 1) (up1 t) = F
set_option maxHeartbeats 4000000 in
theorem growRoot_any {w : World} {B h p q most lo c : Nat} {t : Nd (Tr h)} {R : List Pc} (h3 : 3 ≤ most) (h64 : most ≤ 64) (hS : Sep w B (pcs (h + 1) (up1 t) ++ (treeO p q most :: keptO q t.n c :: R))) (hB : B ≤ w.heap.size) (hs : Shp most (h + 1) lo (most + 1) (up1 t)) (hlo : 0 < h → 1 ≤ lo) :
    Calls Try.prog 33 #[.pointer (some ⟨p, 0, none⟩)] w fun e w' => e = .returned (.tuple #[]) ∧ GrowP most B p q c (flat (h + 1) (up1 t)) R w' ∧ Below B w w' := by
  obtain ⟨t0, t1, t2, t3⟩ := hS.tr (p := p) (q := q) (most := most) (by simp)
  have hkq := hS.obj (g := q) (a := #[.pointer (some ⟨t.n, 0, none⟩), .int .i64 (c : Int)]) (T := 75) (by simp [keptO])
  have k0 : w.cell? ⟨q, 0, none⟩ = some (.pointer (some ⟨t.n, 0, none⟩)) := cellO hkq 0 rfl
  have kf0 := frozenO hkq 0
  have hN := (nd_in hS).nd_ []
  obtain ⟨n0, n1, _, _⟩ := hN.c
  obtain ⟨ao, cap, hv⟩ := row_slice hN.rI
  rw [hv] at n0
  obtain ⟨m, HM⟩ : ∃ m, Hid (t.L.length = m) := ⟨_, rfl⟩
  rw [HM.out] at n0
  have hs' := shp_up.1 hs
  have HS : Hid (Sep w B (pcs (h + 1) (up1 t) ++ (treeO p q most :: keptO q t.n c :: R))) := hS
  have HSH : Hid (Shp most (h + 1) lo (most + 1) (up1 t)) := hs
  have HDR : Hid (∀ nq, Below w.heap.size w (w.drewN nq)) := fun nq => ⟨rfl, rfl, rfl, Nat.le_refl _, fun _ _ => rfl⟩
  have HLO : Hid (0 < h → 1 ≤ lo) := hlo
  have hm1 : m ≤ most + 1 := by rw [← HM.out]; exact hs'.2.1
  clear hS hs hkq hN hlo
  by_cases hle : m ≤ most
  · have d1 : decide ((m : Int) ≤ (most : Int)) = true := by simp; omega
    clear hs'
    go_enter Try.func33, Try.ntmps33
    go_wp2_with fail
    go_quiet (fail)
    go_wp2_with fail
    refine bodyPost_ret (results_none rfl _ _ _) rfl ?_
    have h1 := shp_up.1 HSH.out
    exact ⟨rfl, ⟨h, t, lo, HS.out.below (HDR.out _), shp_up.2 ⟨h1.1, by rw [HM.out]; exact hle, h1.2.2⟩, HLO.out, rfl⟩, (HDR.out _).mono hB⟩
  · have d1 : decide ((m : Int) ≤ (most : Int)) = false := by simp; omega
    have HMM : Hid (m = most + 1) := by unfold Hid; omega
    clear hs'
    go_enter Try.func33, Try.ntmps33
    go_wp2_with fail
    go_quiet (fail)
    have hb := HDR.out nq
    have hS1 := HS.out.below hb
    have HB1 : Hid (Below B w (w.drewN nq)) := hb.mono hB
    clear t0 t1 t2 t3 k0 kf0 n0 n1 HDR hb
    generalize w.drewN nq = w1 at hS1 HB1 ⊢
    have HS1 : Hid (Sep w1 B (pcs (h + 1) (up1 t) ++ (treeO p q most :: keptO q t.n c :: R))) := hS1
    obtain ⟨_, _, _, t3⟩ := hS1.tr (p := p) (q := q) (most := most) (by simp)
    have HBz : Hid (B ≤ w1.heap.size) := Nat.le_trans hB HB1.out.size
    have hba : Below w1.heap.size w1 (w1.alloc (.cells #[.pointer (some ⟨t.n, 0, none⟩)] 65)) := (Below.refl _ _).alloc (Nat.le_refl _) _
    have hbb : Below (w1.alloc (.cells #[.pointer (some ⟨t.n, 0, none⟩)] 65)).heap.size (w1.alloc (.cells #[.pointer (some ⟨t.n, 0, none⟩)] 65)) ((w1.alloc (.cells #[.pointer (some ⟨t.n, 0, none⟩)] 65)).alloc (.cells #[.slice none 0 0, .slice (some ⟨w1.heap.size, 0, none⟩) 1 1] 73)) := (Below.refl _ _).alloc (Nat.le_refl _) _
    have hsz : (w1.alloc (.cells #[.pointer (some ⟨t.n, 0, none⟩)] 65)).heap.size = w1.heap.size + 1 := by simp
    have HS2 : Hid (Sep ((w1.alloc (.cells #[.pointer (some ⟨t.n, 0, none⟩)] 65)).alloc (.cells #[.slice none 0 0, .slice (some ⟨w1.heap.size, 0, none⟩) 1 1] 73)) B (ndp (w1.heap.size + 1) (.slice none 0 0) (.slice (some ⟨w1.heap.size, 0, none⟩) 1 1) [] [t.n] ++ (pcs (h + 1) (up1 t) ++ (treeO p q most :: keptO q t.n c :: R)))) := by
      have hrow : (w1.alloc (.cells #[.pointer (some ⟨t.n, 0, none⟩)] 65)).ownsRow B 65 1 (.slice (some ⟨w1.heap.size, 0, none⟩) 1 1) 1 (gc encP [t.n]) := ⟨rfl, .inr ⟨w1.heap.size, 1, #[.pointer (some ⟨t.n, 0, none⟩)], rfl, HBz.out, heap_alloc_new w1 _, Nat.le_refl _, by unfold maxLen; omega, rfl, rfl⟩⟩
      have h1 := Sep.new (w' := w1.alloc (.cells #[.pointer (some ⟨t.n, 0, none⟩)] 65)) (p := .row 65 1 (.slice (some ⟨w1.heap.size, 0, none⟩) 1 1) 1 (gc encP [t.n])) HS1.out hba hrow (by intro x hx; simp [Pc.blk, Value.ownBlock] at hx; omega)
      have h2 := h1.nil 69 2
      have h3 := Sep.new (w' := ((w1.alloc (.cells #[.pointer (some ⟨t.n, 0, none⟩)] 65)).alloc (.cells #[.slice none 0 0, .slice (some ⟨w1.heap.size, 0, none⟩) 1 1] 73))) (p := .obj (w1.heap.size + 1) #[.slice none 0 0, .slice (some ⟨w1.heap.size, 0, none⟩) 1 1] 73) h2 hbb ⟨by rw [← hsz]; exact heap_alloc_new _ _, by have := HBz.out; omega⟩ (by intro x hx; simp [Pc.blk] at hx; rw [hsz]; omega)
      exact h3
    have hkq := HS2.out.obj (g := q) (a := #[.pointer (some ⟨t.n, 0, none⟩), .int .i64 (c : Int)]) (T := 75) (by simp [keptO])
    have k0 : ((w1.alloc (.cells #[.pointer (some ⟨t.n, 0, none⟩)] 65)).alloc (.cells #[.slice none 0 0, .slice (some ⟨w1.heap.size, 0, none⟩) 1 1] 73)).cell? ⟨q, 0, none⟩ = some (.pointer (some ⟨t.n, 0, none⟩)) := cellO hkq 0 rfl
    have kf0 := frozenO hkq 0
    have HBq : Hid (B ≤ q) := (HS2.out.at_ (keptO q t.n c) (by simp)).2
    have HB2 : Hid (Below B w (((w1.alloc (.cells #[.pointer (some ⟨t.n, 0, none⟩)] 65)).alloc (.cells #[.slice none 0 0, .slice (some ⟨w1.heap.size, 0, none⟩) 1 1] 73)).setCell ⟨q, 0, none⟩ (.pointer (some ⟨w1.heap.size + 1, 0, none⟩)))) := ((HB1.out.alloc HBz.out _).alloc (by rw [hsz]; have := HBz.out; omega) _).setCell HBq.out _
    have HS3 : Hid (Sep (((w1.alloc (.cells #[.pointer (some ⟨t.n, 0, none⟩)] 65)).alloc (.cells #[.slice none 0 0, .slice (some ⟨w1.heap.size, 0, none⟩) 1 1] 73)).setCell ⟨q, 0, none⟩ (.pointer (some ⟨w1.heap.size + 1, 0, none⟩))) B (ndp (w1.heap.size + 1) (.slice none 0 0) (.slice (some ⟨w1.heap.size, 0, none⟩) 1 1) [] [t.n] ++ (pcs (h + 1) (up1 t) ++ (treeO p q most :: keptO q (w1.heap.size + 1) c :: R)))) := by
      have h0 : Sep ((w1.alloc (.cells #[.pointer (some ⟨t.n, 0, none⟩)] 65)).alloc (.cells #[.slice none 0 0, .slice (some ⟨w1.heap.size, 0, none⟩) 1 1] 73)) B ((ndp (w1.heap.size + 1) (.slice none 0 0) (.slice (some ⟨w1.heap.size, 0, none⟩) 1 1) [] [t.n] ++ (pcs (h + 1) (up1 t) ++ [treeO p q most])) ++ keptO q t.n c :: R) := by
        have h9 := HS2.out
        simp only [List.append_assoc, List.singleton_append] at h9 ⊢
        exact h9
      have h1 := Sep.store _ h0 0 (.pointer (some ⟨w1.heap.size + 1, 0, none⟩))
      simp only [List.append_assoc, List.singleton_append] at h1
      exact h1
    clear hS1 hba hbb hkq
    go_upto_region 3 with fail
    generalize (((w1.alloc (.cells #[.pointer (some ⟨t.n, 0, none⟩)] 65)).alloc (.cells #[.slice none 0 0, .slice (some ⟨w1.heap.size, 0, none⟩) 1 1] 73)).setCell ⟨q, 0, none⟩ (.pointer (some ⟨w1.heap.size + 1, 0, none⟩))) = w3 at HS3 HB2 ⊢
    obtain ⟨r, HRr⟩ : ∃ r, Hid (r = w1.heap.size + 1) := ⟨_, rfl⟩
    rw [← HRr.out] at HS3 ⊢
    clear t3 k0 kf0 HS2
    obtain ⟨_, _, _, t3⟩ := HS3.out.tr (p := p) (q := q) (most := most) (by simp)
    have hkq := HS3.out.obj (g := q) (a := #[.pointer (some ⟨r, 0, none⟩), .int .i64 (c : Int)]) (T := 75) (by simp [keptO])
    have k0 : w3.cell? ⟨q, 0, none⟩ = some (.pointer (some ⟨r, 0, none⟩)) := cellO hkq 0 rfl
    have HSP : Hid (Calls Try.prog 47 #[.pointer (some ⟨r, 0, none⟩), .int .i64 0] w3 fun e w' => e = .returned (.tuple #[]) ∧ GrowP most B p q c (flat (h + 1) (up1 t)) R w' ∧ Below B w w') := by
      have hS := HS3.out
      rw [pcs_up, List.append_assoc] at hS
      have hsh := shp_up.1 HSH.out
      have hmm := HMM.out
      have hmv := HM.out
      refine (split_any (a := 0) hS rfl (Nat.le_refl _) (by simp) (by simp) (by omega) (by omega) ?_ (Nat.le_trans hB HB2.out.size)).mono ?_
      · cases h with
        | zero => left; rw [ks_leaf t]; rfl
        | succ h => right; rw [List.length_map]; exact hsh.2.2.1 (by omega)
      · rintro e w' ⟨rfl, up, r', vI', vC', wI', wC', rI, rC, hup, hS', hb'⟩
        refine ⟨rfl, ?_, HB2.out.trans hb'⟩
        obtain ⟨t', h1, h2, h3', h4, h5⟩ := split_tree (most := most) (lo := 0) (vI := vI') (vC := vC') (L := []) (K1 := []) (K2 := []) (c' := t) (k := ByteArray.empty) (x := 0) (R := treeO p q most :: keptO q r c :: R) (by omega) h3 hup rfl (Nat.le_refl _) (Nat.zero_le _) (fun d hd => by cases hd) (by
            refine shp_up.2 ⟨?_, hsh.2⟩
            omega) rfl hS'
        have h6 := shp_up.1 h3'
        rw [h5] at h6
        rw [← h1] at h2
        refine ⟨h + 1, t', 1, h2, shp_up.2 ⟨by rw [h5]; simp, by rw [h5]; simp; omega, by rw [h5]; exact h6.2.2.1, h6.2.2.2⟩, fun _ => Nat.le_refl _, ?_⟩
        rw [h4]
        simp [pre, post]
    clear hkq
    go_wp2_with (go_at_call 47; refine Calls.mono HSP.out ?_; rintro e w7 ⟨rfl, hp7, hb7⟩; have HP7 : Hid (GrowP most B p q c (flat (h + 1) (up1 t)) R w7) := hp7; have HB7 : Hid (Below B w w7) := hb7; clear hp7 hb7)
    refine bodyPost_end (results_none rfl _ _ _) rfl ?_
    exact ⟨rfl, HP7.out, HB7.out⟩
set_option maxHeartbeats 4000000 in
theorem shrinkRoot_any {w : World} {B h p q most lo c : Nat} {t : Nd (Tr h)} {R : List Pc} (h3 : 3 ≤ most) (h64 : most ≤ 64) (hS : Sep w B (pcs (h + 1) (up1 t) ++ (treeO p q most :: keptO q t.n c :: R))) (hB : B ≤ w.heap.size) (hs : Shp most (h + 1) lo most (up1 t)) :
    Calls Try.prog 36 #[.pointer (some ⟨p, 0, none⟩)] w fun e w' => e = .returned (.tuple #[]) ∧ GrowP most B p q c (flat (h + 1) (up1 t)) R w' ∧ Below B w w' := by
  obtain ⟨t0, t1, t2, t3⟩ := hS.tr (p := p) (q := q) (most := most) (by simp)
  have hkq := hS.obj (g := q) (a := #[.pointer (some ⟨t.n, 0, none⟩), .int .i64 (c : Int)]) (T := 75) (by simp [keptO])
  have k0 : w.cell? ⟨q, 0, none⟩ = some (.pointer (some ⟨t.n, 0, none⟩)) := cellO hkq 0 rfl
  have kf0 := frozenO hkq 0
  have hN := (nd_in hS).nd_ []
  obtain ⟨n0, n1, _, _⟩ := hN.c
  obtain ⟨ao, cap, hv⟩ := row_slice hN.rI
  rw [hv] at n0
  obtain ⟨m, HM⟩ : ∃ m, Hid (t.L.length = m) := ⟨_, rfl⟩
  rw [HM.out] at n0
  have HS : Hid (Sep w B (pcs (h + 1) (up1 t) ++ (treeO p q most :: keptO q t.n c :: R))) := hS
  have HSH : Hid (Shp most (h + 1) lo most (up1 t)) := hs
  have HBR : Hid (Below B w w) := Below.refl _ _
  by_cases hm0 : m = 0
  · cases h with
    | zero =>
      have hks := ks_leaf t
      have hrC := hN.rC
      rw [hks] at hrC
      obtain ⟨ao2, cap2, hvC⟩ := row_zero hrC
      rw [hvC] at n1
      subst hm0
      have HIL : Hid _ := isLeaf_z (n := t.n) (w := w) (ao := ao2) (cap := cap2) n1
      clear hS hs hkq hN hrC hv hvC
      go_enter Try.func36, Try.ntmps36
      go_wp2_with (go_at_call 45; refine Calls.mono HIL.out ?_; rintro e w6 ⟨rfl, hw6⟩; obtain rfl := hw6.symm)
      refine bodyPost_end (results_none rfl _ _ _) rfl ?_
      have h1 := shp_up.1 HSH.out
      exact ⟨rfl, ⟨0, t, 0, HS.out, shp_up.2 ⟨Nat.zero_le _, h1.2⟩, fun hh => absurd hh (by omega), rfl⟩, HBR.out⟩
    | succ h =>
      subst hm0
      obtain ⟨n, vI, vC, L, ks⟩ := t
      have hL0 : L = [] := List.eq_nil_of_length_eq_zero HM.out
      subst hL0
      have hkl : ks.length = 1 := (shp_up.1 hs).2.2.1 (by omega)
      obtain ⟨d, rfl⟩ : ∃ d, ks = [d] := by
        match ks, hkl with
        | [d], _ => exact ⟨d, rfl⟩
      have hrC := hN.rC
      obtain ⟨gC, capC, hvC, _, _, _, _, _, hCc⟩ := row_some hrC (by simp)
      have hvC' : vC = .slice (some ⟨gC, 0, none⟩) 1 capC := hvC
      subst hvC'
      have ca : w.cell? ⟨gC, 0, none⟩ = some (.pointer (some ⟨adr (h + 1) d, 0, none⟩)) := hCc 0 _ (gcP_at (c := adr (h + 1) d) rfl)
      have n1' : w.cell? ⟨n, 1, none⟩ = some (.slice (some ⟨gC, 0, none⟩) 1 capC) := n1
      have n0' : w.cell? ⟨n, 0, none⟩ = some (.slice ao 0 cap) := n0
      have HIL : Hid _ := isLeaf_no (n := n) (w := w) (ad := ⟨gC, 0, none⟩) (k := 1) (cap := capC) n1' (by omega)
      have HBq : Hid (B ≤ q) := (hS.at_ (keptO q n c) (by simp)).2
      have HS2 : Hid (Sep (w.drew.setCell ⟨q, 0, none⟩ (.pointer (some ⟨adr (h + 1) d, 0, none⟩))) B (pcs (h + 1) d ++ (treeO p q most :: keptO q (adr (h + 1) d) c :: R))) := by
        have h0 := hS.below (w' := w.drew) (Below.refl _ _).drew
        have h1 : Sep w.drew B ((pcs (h + 2) (up1 (⟨n, vI, .slice (some ⟨gC, 0, none⟩) 1 capC, [], [d]⟩ : Nd (Tr (h + 1)))) ++ [treeO p q most]) ++ keptO q n c :: R) := by
          simp only [List.append_assoc, List.singleton_append]; exact h0
        have h2 := Sep.store _ h1 0 (.pointer (some ⟨adr (h + 1) d, 0, none⟩))
        simp only [List.append_assoc, List.singleton_append] at h2
        have h3 := h2.perm (perm_kid n vI _ [] [] d [] _)
        refine h3.sub (List.Sublist.append (List.Sublist.refl _) ?_)
        simp only [List.flatMap_nil, List.nil_append]
        exact List.sublist_append_right _ _
      have HB2 : Hid (Below B w (w.drew.setCell ⟨q, 0, none⟩ (.pointer (some ⟨adr (h + 1) d, 0, none⟩)))) := (HBR.out.drew).setCell HBq.out _
      have k0' : w.cell? ⟨q, 0, none⟩ = some (.pointer (some ⟨n, 0, none⟩)) := k0
      clear hS hs hkq hN hrC hv hvC hCc n0 n1 k0 t2
      go_enter Try.func36, Try.ntmps36
      go_upto_region 2 with (go_at_call 45; refine Calls.mono HIL.out ?_; rintro e w6 ⟨rfl, hw6⟩; obtain rfl := hw6.symm)
      go_region_law (fail)
      all_goals (go_wp2_with fail)
      all_goals
        refine bodyPost_end (results_none rfl _ _ _) rfl ?_
        refine ⟨rfl, ⟨h, d, most / 2, HS2.out, (shp_up.1 HSH.out).2.2.2 d (by show d ∈ [d]; simp), fun _ => by omega, ?_⟩, HB2.out⟩
        show flat (h + 1) d = il [] [flat (h + 1) d]
        simp [il, post]
  · have d1 : ((m : Int) == 0) = false := by simp; omega
    clear hS hs hkq hN hv
    go_enter Try.func36, Try.ntmps36
    go_wp2_with fail
    refine bodyPost_end (results_none rfl _ _ _) rfl ?_
    have h1 := shp_up.1 HSH.out
    exact ⟨rfl, ⟨h, t, 1, HS.out, shp_up.2 ⟨by rw [HM.out]; omega, h1.2⟩, fun _ => Nat.le_refl _, rfl⟩, HBR.out⟩
end Go.Proofs.Ytelfjgnmbikofaa
