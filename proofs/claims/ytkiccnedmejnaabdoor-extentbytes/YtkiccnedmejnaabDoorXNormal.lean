/-
  The walks of Normal and of slices.Clone. Conditions: the numbers are ints, the list's length is one that memory bears.
-/
import Derived.Test.YtkiccnedmejnaabDoorXJoined
namespace Go.Proofs.YtkiccnedmejnaabDoor
open Go.RowKit Go.Sort Go.Shelf Go.Lib
set_option linter.unusedVariables false
set_option maxRecDepth 100000

/-- What Normal tells. -/
def sortE (l : List Ext) : List Ext := (l.filter fitB).mergeSort fun x y => decide (x.1 ≤ y.1)
def normL (l : List Ext) : List Ext := joinL (sortE l)
def normErr (l : List Ext) : Int := if 65536 < l.length then 3 else if l.all mayB = true then 0 else 2
def normList (l : List Ext) : List Ext := if normErr l = 0 then normL l else []
theorem sortE_perm (l : List Ext) : (sortE l).Perm (l.filter fitB) := List.mergeSort_perm _ _
theorem sortE_ord (l : List Ext) : InOrd (sortE l) := by
  have h := List.pairwise_mergeSort (le := fun x y : Ext => decide (x.1 ≤ y.1)) (fun a b c h1 h2 => by simp at *; omega) (fun a b => by simp; omega) (l.filter fitB)
  exact h.imp (fun h => by simpa using h)
theorem fit_filter (l : List Ext) : ∀ x ∈ l.filter fitB, fitB x = true := fun x hx => (List.mem_filter.1 hx).2
theorem fit_perm {l m : List Ext} (h : m.Perm (l.filter fitB)) : ∀ x ∈ m, fitB x = true := fun x hx => fit_filter l x (h.mem_iff.1 hx)
theorem fit_one {m : List Ext} (h : ∀ x ∈ m, fitB x = true) : ∀ x ∈ m, 1 ≤ x.2 := fun x hx => (fitB_iff.1 (h x hx)).2.1
/-- However it is sorted. -/
theorem joinL_sorted {l m : List Ext} (h : m.Perm (l.filter fitB)) (ho : InOrd m) : joinL m = normL l :=
  joinL_eq (fit_one (fit_perm h)) ho (fit_one (fit_perm (sortE_perm l))) (sortE_ord l) fun b => (cov_perm h).trans (cov_perm (sortE_perm l)).symm

set_option maxHeartbeats 2000000 in
theorem normal_any (v : Value) (l : List Ext) (w : World) (hl : Xs w v l) (hE : EWs l) (hn : l.length ≤ 8796093022208) :
    Calls Tryd.prog 34 #[v] w fun e w' => ∃ ao cap, e = .returned (.tuple #[.slice ao (normList l).length cap, .int .i64 (normErr l)]) ∧ OwnX w' w.heap.size 79 (.slice ao (normList l).length cap) (normList l) ∧ Below w.heap.size w w' := by
  have HX : Hid (Xs w v l) := hl
  obtain ⟨ao, cap, rfl, hcap, hcell⟩ := hl.opened
  have HC : Hid (∀ i, i < l.length → ∃ b off, ao = some ⟨b, off, none⟩ ∧ w.cell? ⟨b, off + i * 2, none⟩ = some (.int .i64 (l.getD i (0, 0)).1) ∧ w.cell? ⟨b, off + i * 2 + 1, none⟩ = some (.int .i64 (l.getD i (0, 0)).2) ∧ b < w.heap.size) := hcell
  have HE : Hid (EWs l) := hE
  clear hl hcell hE
  obtain ⟨N, HN⟩ : ∃ N, Hid (l.length = N) := ⟨_, rfl⟩
  rw [HN.out] at hcap hn HX ⊢
  by_cases hbig : 65536 < N
  · have H1 : Hid (normErr l = 3) := by unfold Hid normErr; rw [HN.out, if_pos hbig]
    have H2 : Hid (normList l = []) := by unfold Hid normList; rw [H1.out]; rfl
    go_enter Tryd.func34, Tryd.ntmps34
    go_wp2
    go_ret2
    rw [H1.out, H2.out]
    exact ⟨none, 0, rfl, OwnX.nil _ _ _, Below.refl _ _⟩
  · have HNL : Hid (∀ b : Bool, l.all mayB = b → normErr l = if b = true then 0 else 2) := by intro b hb; unfold normErr; rw [HN.out, if_neg hbig, hb]
    go_enter Tryd.func34, Tryd.ntmps34
    go_wp2
    go_loopw [11] (fun i wr => ∃ k : Nat, k ≤ N ∧ i = .int .i64 k ∧ Hid ((l.take k).all mayB = true) ∧ Hid (Below w.heap.size w wr)) (fun i _ => N - (intOf i).toNat)
    case atStart => exact ⟨0, Nat.zero_le _, rfl, rfl, Below.refl _ _⟩
    case round =>
      obtain ⟨k, hk, rfl, HA, HB⟩ := hrel
      by_cases hlt : k < N
      · have hkl : k < l.length := by rw [HN.out]; exact hlt
        obtain ⟨b, off, rfl, c1, c2, hb⟩ := HC.out k hkl
        have d1 := (HB.out.cell (p := ⟨b, off + k * 2, none⟩) hb).trans c1
        have d2 := (HB.out.cell (p := ⟨b, off + k * 2 + 1, none⟩) hb).trans c2
        have hx := HE.out.at k
        have HM : Hid (l.getD k (0, 0) ∈ l) := getD_mem hkl
        have HT : Hid (l.take (k + 1) = l.take k ++ [l.getD k (0, 0)]) := take_snoc l hkl
        clear c1 c2
        generalize l.getD k (0, 0) = x at *
        obtain ⟨xa, xs⟩ := x
        have HXW : Hid (EW (xa, xs)) := hx
        clear hx
        dsimp only at d1 d2
        have HB0 : Hid (Below wr.heap.size wr (wr.alloc (.cells #[.int .i64 xa, .int .i64 xs] 79))) := (Below.refl _ _).alloc (Nat.le_refl _) _
        cases hm : mayB (xa, xs) with
        | false =>
          have H1 : Hid (normErr l = 2) := HNL.out false (by rw [← Bool.not_eq_true, List.all_eq_true]; intro h; rw [h _ HM.out] at hm; cases hm)
          have H2 : Hid (normList l = []) := by unfold Hid normList; rw [H1.out]; rfl
          go_wp2_with (go_at_call 61; refine (mayBe_any _ _ _ HXW.out).mono ?_; rintro e w' ⟨rfl, hb2⟩; rw [hm])
          go_ret2
          have hbb := HB0.out.trans (hb2.mono HB0.out.size)
          rw [H1.out, H2.out]
          exact ⟨none, 0, rfl, OwnX.nil _ _ _, HB.out.trans (hbb.mono HB.out.size)⟩
        | true =>
          have HM1 : Hid (mayB (xa, xs) = true) := hm
          clear hm
          go_wp2_with (go_at_call 61; refine (mayBe_any _ _ _ HXW.out).mono ?_; rintro e w' ⟨rfl, hb2⟩; rw [HM1.out])
          go_roundw
          case rel =>
            have hbb := HB0.out.trans (hb2.mono HB0.out.size)
            exact ⟨k + 1, by omega, by simp, by unfold Hid; rw [HT.out, List.all_append, HA.out]; simp [HM1.out], HB.out.trans (hbb.mono HB.out.size)⟩
          case measure => simp [intOf]; omega
      · obtain rfl : k = N := by omega
        have H1 : Hid (normErr l = 0) := HNL.out true (by have := HA.out; rwa [List.take_of_length_le (by rw [HN.out]; omega)] at this)
        have H2 : Hid (normList l = normL l) := by unfold Hid normList; rw [H1.out]; rfl
        go_wp2_with (first | (go_at_call 63; refine (inOrder_any _ l _ (HX.out.below HB.out) HE.out (by rw [HN.out]; exact hn)).mono ?_; rintro e w2 ⟨ao2, cap2, m, rfl, hp2, ho2, hx2, hb2⟩; have HM2 : Hid (m.Perm (l.filter fitB)) := hp2; have HO2 : Hid (InOrd m) := ho2; have HX2 : Hid (OwnX w2 wr.heap.size 79 (.slice ao2 m.length cap2) m) := hx2; have HB2 : Hid (Below wr.heap.size wr w2) := hb2; clear hp2 ho2 hx2 hb2) | (go_at_call 62; refine (joined_any _ m _ HX2.out.xs (fit_perm HM2.out) HO2.out (by rw [HM2.out.length_eq]; have h1 := List.length_filter_le fitB l; rw [HN.out] at h1; omega)).mono ?_; rintro e w3 ⟨ao3, cap3, rfl, hx3, hb3⟩; rw [joinL_sorted HM2.out HO2.out] at hx3 ⊢))
        go_ret2
        have h4 := HB.out.trans (HB2.out.mono HB.out.size)
        rw [H1.out, H2.out]
        exact ⟨ao3, cap3, rfl, hx3.mono h4.size, h4.trans (hb3.mono h4.size)⟩

theorem clone_any (v : Value) (l : List Ext) (w : World) (hl : Xs w v l) (hn : l.length ≤ 8796093022208) (hne : 0 < l.length) :
    Calls Tryd.prog 65 #[v] w fun e w' => ∃ g cap, e = .returned (.slice (some ⟨g, 0, none⟩) l.length cap) ∧ OwnX w' w.heap.size 79 (.slice (some ⟨g, 0, none⟩) l.length cap) l ∧ Below w.heap.size w w' := by
  obtain ⟨i1, hi, hz0, hz1, hz2⟩ := info_parts Tryd.infoX
  have HX : Hid (Xs w v l) := hl
  obtain ⟨ao, cap, rfl, hcap, hcell⟩ := hl.opened
  obtain ⟨b, off, rfl, _, _, hb⟩ := hcell 0 hne
  clear hcell hl
  have q22 : ∀ (w : World) (a : Option Addr) (n c n' c' : Nat), (binOp .eql 22 (.slice a n c) (.slice none n' c')).run Tryd.prog w = .ok (.bool a.isNone) w := fun w a n c n' c' => Lib.run_eql_slice_nil w _ _ a n c n' c' Tryd.underlying22
  go_enter Tryd.func65, Tryd.ntmps65
  go_wp2_with (at_builtin; refine wpList_append_x _ rfl (.tmp 5) (.tmp 6) 22 79 rfl i1 Tryd.underlying22 hi hz0 hz1 hz2 w.heap.size _ _ [] l rfl rfl (OwnX.empty _ _ _ (Nat.le_refl _)) (HX.out.below ((Below.refl _ _).alloc (Nat.le_refl _) _)) (by simp; omega) (by simp) ?_; intro ao3 cap3 w3 ho3 hg3 hc3 hne3; obtain ⟨g3, rfl, hB3, hg3'⟩ := hne3 (.inl hne); simp only [List.length_nil, Nat.zero_add, List.nil_append] at ho3 hc3 ⊢)
  go_ret
  refine ⟨g3, cap3, rfl, ho3, ?_⟩
  exact ((Below.refl w.heap.size w).alloc (Nat.le_refl _) (.cells #[] 79)).grown hg3 (by simp) (fun j hj => ((OwnX.empty w w.heap.size 79 (Nat.le_refl _)).lt j hj).1)
end Go.Proofs.YtkiccnedmejnaabDoor
