/-
  The walk of Put. Conditions: the table of check stands; the numbers fit their kinds.
-/
import Derived.Test.YtkiccnedmejnaaaDoorBestWalk4
namespace Go.Proofs.YtkiccnedmejnaaaDoor
open Go.RowKit
set_option linter.unusedVariables false
set_option maxRecDepth 100000

/-- Where Put writes, and what. -/
def putN (g : Int) : Nat := 32 * (g % 2).toNat
def putAt (F : Mdl) (g : Int) : Nat := min (putN g) F.bs.length
def putX (F : Mdl) (g a z : Int) : List Int := List.replicate (putN g - putAt F g) 0 ++ rootB g a z
theorem putN_le (g : Int) (h : 0 ≤ g) : putN g ≤ 32 := by unfold putN; omega
theorem putX_len (F : Mdl) (g a z : Int) (h : 0 ≤ g) : (putX F g a z).length = (putN g - putAt F g) + 32 := by unfold putX; rw [List.length_append, List.length_replicate, rootB_length]
theorem rd_none {F : Mdl} (er : Int) (h : rdErr F 0 0 = er) : er ≠ 1 := by
  unfold rdErr at h
  split at h
  · omega
  · split at h
    · omega
    · split at h <;> omega

theorem rput_no (v : Value) (g a z : Int) (w : World) (h : NoFile w v) :
    Calls Tryd.prog 21 #[v, .agg #[.int .u64 g, .int .i64 a, .int .i64 z]] w fun e w' => e = .returned (.int .i64 1) ∧ Below w.heap.size w w' := by
  obtain ⟨W, HW⟩ : ∃ W, Hid (W = w.alloc (.cells #[.int .u64 g, .int .i64 a, .int .i64 z] 24)) := ⟨_, rfl⟩
  have HB : Hid (Below w.heap.size w W) := by rw [Hid, HW.out]; exact (Below.refl _ w).alloc (Nat.le_refl _) _
  have HNF : Hid (NoFile W v) := by
    rcases h with h | ⟨p, h1, h2⟩
    · exact .inl h
    · exact .inr ⟨p, h1, (HB.out.cell (World.block_lt_of_cell? w _ h2)).trans h2⟩
  clear h
  go_enter Tryd.func21, Tryd.ntmps21
  go_wp2_with fail
  rw [← HW.out]
  refine (read_no v 0 0 W HNF.out).mono ?_
  rintro e w1 ⟨rfl, hw1⟩
  obtain rfl := hw1.symm
  go_wp2_with fail
  go_ret
  exact ⟨rfl, HB.out⟩

set_option maxHeartbeats 2000000 in
theorem rput_arg {w : World} {B p : Nat} {F : Mdl} {vb vr : Value} {rv : List RawV} (h : PF w B p F vb vr rv) (g a z : Int) (hin : inF a = false ∨ inF z = false) :
    Calls Tryd.prog 21 #[.pointer (some ⟨p, 0, none⟩), .agg #[.int .u64 g, .int .i64 a, .int .i64 z]] w fun e w' => e = .returned (.int .i64 2) ∧ Below w.heap.size w w' := by
  obtain ⟨W, HW⟩ : ∃ W, Hid (W = w.alloc (.cells #[.int .u64 g, .int .i64 a, .int .i64 z] 24)) := ⟨_, rfl⟩
  have HB : Hid (Below w.heap.size w W) := by rw [Hid, HW.out]; exact (Below.refl _ w).alloc (Nat.le_refl _) _
  have HC : Hid (W.heap[w.heap.size]? = some (.cells #[.int .u64 g, .int .i64 a, .int .i64 z] 24 (0, 0))) := by rw [Hid, HW.out]; exact heap_alloc_new w _
  have HR : Hid _ := read_any (h.below HB.out) 0 0 (by omega) (by omega)
  obtain ⟨er, her⟩ : ∃ er, rdErr F 0 0 = er := ⟨_, rfl⟩
  have h1 := rd_none er her
  have h1b : (er == 1) = false := by simpa using h1
  rw [her] at HR
  clear h her
  go_enter Tryd.func21, Tryd.ntmps21
  go_wp2_with fail
  rw [← HW.out]
  refine Calls.mono HR.out ?_
  rintro e w1 ⟨ao, cap, rfl, ho1, hb1⟩
  have HC1 : Hid _ := (hb1.block _ (Array.getElem?_eq_some_iff.1 HC.out).1).trans HC.out
  have HB1 : Hid (Below w.heap.size w w1) := HB.out.trans (hb1.mono HB.out.size)
  clear ho1 hb1 HR
  obtain ⟨c0, c1, c2, _, _, _⟩ := three_cells HC1.out
  go_wp2_with fail
  refine (rBytes_no g a z w1 hin).mono ?_
  rintro e w2 ⟨rfl, hb2⟩
  have HB2 : Hid (Below w.heap.size w w2) := HB1.out.trans (hb2.mono HB1.out.size)
  clear hb2 c0 c1 c2
  go_wp2_with fail
  go_ret
  exact ⟨rfl, HB2.out⟩

theorem alien_from {w w' : World} {B p g n cap o : Nat} {F : Mdl} {vb vr : Value} {rv : List RawV} (h : PF w B p F vb vr rv) (hg : w.heap.size ≤ g) (hl : g < w'.heap.size) : Alien w' p vb vr (.slice (some ⟨g, o, none⟩) n cap) := alien_new h hg hl

set_option maxHeartbeats 4000000 in
theorem rput_any {w : World} {B p : Nat} {F : Mdl} {vb vr : Value} {rv : List RawV} (h : PF w B p F vb vr rv) (hB : B ≤ w.heap.size) (g a z : Int) (hT : Tab w) (hg0 : 0 ≤ g) (hg1 : g < 18446744073709551616) (ha : inF a = true) (hz : inF z = true) (hrv : rv.length ≤ 1000000000) :
    Calls Tryd.prog 21 #[.pointer (some ⟨p, 0, none⟩), .agg #[.int .u64 g, .int .i64 a, .int .i64 z]] w fun e w' => ∃ vb' vr' rv', e = .returned (.int .i64 (wrM F (putAt F g : Nat) (putX F g a z)).1) ∧ PF w' B p (wrM F (putAt F g : Nat) (putX F g a z)).2 vb' vr' rv' ∧ Moved w w' p vb vr rv vb' vr' rv' := by
  obtain ⟨i0, hi, hz0, hz1, hz2⟩ := info_parts Tryd.info5
  have HP : Hid (PF w B p F vb vr rv) := h
  have HT : Hid (Tab w) := hT
  have hA := inF_cases a
  have hZ := inF_cases z
  obtain ⟨a0, a1⟩ : 0 ≤ a ∧ a ≤ 4194304 := by rcases hA with ⟨_, h0, h1⟩ | ⟨h1, _⟩; exact ⟨h0, h1⟩; rw [ha] at h1; cases h1
  obtain ⟨z0, z1⟩ : 0 ≤ z ∧ z ≤ 4194304 := by rcases hZ with ⟨_, h0, h1⟩ | ⟨h1, _⟩; exact ⟨h0, h1⟩; rw [hz] at h1; cases h1
  obtain ⟨W, HW⟩ : ∃ W, Hid (W = w.alloc (.cells #[.int .u64 g, .int .i64 a, .int .i64 z] 24)) := ⟨_, rfl⟩
  have HB0 : Hid (Below w.heap.size w W) := by rw [Hid, HW.out]; exact (Below.refl _ w).alloc (Nat.le_refl _) _
  have HC : Hid (W.heap[w.heap.size]? = some (.cells #[.int .u64 g, .int .i64 a, .int .i64 z] 24 (0, 0))) := by rw [Hid, HW.out]; exact heap_alloc_new w _
  have HR : Hid _ := read_any (h.below HB0.out) 0 0 (by omega) (by omega)
  obtain ⟨er, her⟩ : ∃ er, rdErr F 0 0 = er := ⟨_, rfl⟩
  have h1 := rd_none er her
  have h1b : (er == 1) = false := by simpa using h1
  rw [her] at HR
  obtain ⟨n, HN⟩ : ∃ n, Hid (putN g = n) := ⟨_, rfl⟩
  obtain ⟨fr, HF⟩ : ∃ fr, Hid (putAt F g = fr) := ⟨_, rfl⟩
  obtain ⟨L, HL⟩ : ∃ L, Hid (F.bs.length = L) := ⟨_, rfl⟩
  have hn : n ≤ 32 := by rw [← HN.out]; exact putN_le g hg0
  have hfr : fr = min n L := by rw [← HF.out, ← HN.out, ← HL.out]; rfl
  have HFR : Hid (fr = min n L) := hfr
  have hfn : fr ≤ n := by omega
  have HNG : Hid ((n : Int) = g % 2 * 32) := by rw [Hid, ← HN.out]; unfold putN; omega
  have HX : Hid (putX F g a z = List.replicate (n - fr) 0 ++ rootB g a z) := by unfold Hid putX; rw [HN.out, HF.out]
  have HRB : Hid ((rootB g a z).length = 32) := rootB_length g a z
  have hgm : 0 ≤ g % 2 ∧ g % 2 ≤ 1 := by omega
  rw [HF.out, HX.out]
  clear h hT her hA hZ hfr
  go_enter Tryd.func21, Tryd.ntmps21
  go_wp2_with fail
  rw [← HW.out]
  refine Calls.mono HR.out ?_
  rintro e w1 ⟨ao, cap, rfl, ho1, hb1⟩
  have HC1 : Hid _ := (hb1.block _ (Array.getElem?_eq_some_iff.1 HC.out).1).trans HC.out
  have HB1 : Hid (Below w.heap.size w w1) := HB0.out.trans (hb1.mono HB0.out.size)
  clear ho1 hb1 HR
  obtain ⟨c0, c1, c2, _, _, _⟩ := three_cells HC1.out
  go_wp2_with fail
  refine (rBytes_ok g a z w1 (HT.out.below HB1.out) hg0 hg1 ha hz a0 a1 z0 z1).mono ?_
  rintro e w2 ⟨b2, rfl, hr2, hge2, hb2⟩
  have HR2 : Hid (Row w2 b2 (rootB g a z)) := hr2
  have HB2 : Hid (Below w.heap.size w w2) := HB1.out.trans (hb2.mono HB1.out.size)
  have HC2 : Hid _ := (hb2.block _ (Array.getElem?_eq_some_iff.1 HC1.out).1).trans HC1.out
  clear hr2 hb2 c0 c1 c2 hge2
  obtain ⟨c0, c1, c2, _, _, _⟩ := three_cells HC2.out
  go_wp2_with fail
  refine (slotOf_any g a z w2 hg0 hg1).mono ?_
  rintro e w3 ⟨rfl, hb3⟩
  have HB3 : Hid (Below w.heap.size w w3) := HB2.out.trans (hb3.mono HB2.out.size)
  have HR3 : Hid (Row w3 b2 (rootB g a z)) := HR2.out.below hb3 HR2.out.lt
  clear hb3 c0 c1 c2
  rw [show (g % 2 : Int) = (n : Int) / 32 by have := HNG.out; omega]
  have hmul : ((n : Int) / 32) * 32 = n := by have := HNG.out; omega
  have HLE : Hid _ := len_any (HP.out.below HB3.out)
  rw [HL.out] at HLE
  go_wp2_with fail
  refine Calls.mono HLE.out ?_
  rintro e w4 ⟨rfl, hw4⟩
  obtain rfl := hw4.symm
  clear HLE
  have hcase : (fr = n ∧ (n : Int) ≤ L) ∨ (fr = L ∧ ¬ (n : Int) ≤ L) := by have := HFR.out; omega
  rcases hcase with ⟨hfe, hnl⟩ | ⟨hfe, hnl⟩
  · subst hfe
    obtain ⟨m, HM⟩ : ∃ m, Hid (fr - fr = m) := ⟨_, rfl⟩
    have hm : (fr : Int) - (fr : Int) = (m : Int) := by have := HM.out; omega
    have hm32 : m ≤ 32 := by have := HM.out; omega
    go_wp2_with (first | (at_make; refine wpList_make_bytes _ rfl _ _ 25 rfl i0 Tryd.underlying25 hi hz0 hz1 hz2 _ _ _ _ m rfl rfl (by first | exact hm | omega) (by first | exact hm | omega) (by omega) ?_; intro w5 hr5 hg5; have HO5 : Hid (Own w5 w3.heap.size (.slice (some ⟨w3.heap.size, 0, none⟩) m m) (List.replicate m 0)) := (by have := hr5.own (B := w3.heap.size) (Nat.le_refl _) (by rw [List.length_replicate]; unfold maxLen; omega); rw [List.length_replicate] at this; exact this); have HB5 : Hid (Below w3.heap.size w3 w5) := below_of_grown hg5; have HR5 : Hid (Bs w5 (.slice (some ⟨b2, 0, none⟩) 32 32) (rootB g a z)) := (row_bs HR3.out HRB.out).below (below_of_grown hg5); clear hr5 hg5) | (at_builtin; refine wpList_append_bytes _ rfl (.tmp 39) (.tmp 40) 25 rfl i0 Tryd.underlying25 hi hz0 hz1 hz2 w3.heap.size _ _ (List.replicate m 0) (rootB g a z) rfl rfl HO5.out HR5.out (by rw [List.length_replicate, HRB.out]; omega) w3 HB5.out HB5.out.size ?_; intro a6 c6 w6 ho6 hb6 hg6 _; rw [List.length_replicate, HRB.out] at ho6 hg6 ⊢; have HO6 : Hid (Own w6 w3.heap.size (.slice a6 (m + 32) c6) (List.replicate m 0 ++ rootB g a z)) := ho6; have HB6 : Hid (Below w3.heap.size w3 w6) := hb6; have HG6 : Hid (∃ g, a6 = some ⟨g, 0, none⟩ ∧ w3.heap.size ≤ g ∧ g < w6.heap.size) := hg6 (by omega); clear ho6 hb6 hg6))
    have HBW6 : Hid (Below w.heap.size w w6) := HB3.out.trans (HB6.out.mono HB3.out.size)
    obtain ⟨gb, HGB⟩ : ∃ gb, Hid (a6 = some ⟨gb, 0, none⟩ ∧ w3.heap.size ≤ gb ∧ gb < w6.heap.size) := HG6.out
    have HAL : Hid (Alien w6 p vb vr (.slice a6 (m + 32) c6)) := by
      rw [HGB.out.1]
      exact alien_new (HP.out.below HB3.out) HGB.out.2.1 HGB.out.2.2
    refine (write_any (HP.out.below HBW6.out) (Nat.le_trans hB HBW6.out.size) (fr : Int) (List.replicate m 0 ++ rootB g a z) _ HO6.out.bs (fun _ => HAL.out) hrv (by rw [List.length_append, List.length_replicate, HRB.out]; omega) (by omega)).mono ?_
    rintro e w7 ⟨vb', vr', rv', rfl, hp7, hm7⟩
    go_wp2_with fail
    go_ret
    exact ⟨vb', vr', rv', by rw [HM.out]; rfl, by rw [HM.out]; exact hp7, (Moved.of_below p vb vr rv HBW6.out).trans hm7⟩
  · subst hfe
    obtain ⟨m, HM⟩ : ∃ m, Hid (n - fr = m) := ⟨_, rfl⟩
    have hm : (n : Int) - (fr : Int) = (m : Int) := by have := HM.out; omega
    have hm32 : m ≤ 32 := by have := HM.out; omega
    go_wp2_with (first | (at_make; refine wpList_make_bytes _ rfl _ _ 25 rfl i0 Tryd.underlying25 hi hz0 hz1 hz2 _ _ _ _ m rfl rfl (by first | exact hm | omega) (by first | exact hm | omega) (by omega) ?_; intro w5 hr5 hg5; have HO5 : Hid (Own w5 w3.heap.size (.slice (some ⟨w3.heap.size, 0, none⟩) m m) (List.replicate m 0)) := (by have := hr5.own (B := w3.heap.size) (Nat.le_refl _) (by rw [List.length_replicate]; unfold maxLen; omega); rw [List.length_replicate] at this; exact this); have HB5 : Hid (Below w3.heap.size w3 w5) := below_of_grown hg5; have HR5 : Hid (Bs w5 (.slice (some ⟨b2, 0, none⟩) 32 32) (rootB g a z)) := (row_bs HR3.out HRB.out).below (below_of_grown hg5); clear hr5 hg5) | (at_builtin; refine wpList_append_bytes _ rfl (.tmp 39) (.tmp 40) 25 rfl i0 Tryd.underlying25 hi hz0 hz1 hz2 w3.heap.size _ _ (List.replicate m 0) (rootB g a z) rfl rfl HO5.out HR5.out (by rw [List.length_replicate, HRB.out]; omega) w3 HB5.out HB5.out.size ?_; intro a6 c6 w6 ho6 hb6 hg6 _; rw [List.length_replicate, HRB.out] at ho6 hg6 ⊢; have HO6 : Hid (Own w6 w3.heap.size (.slice a6 (m + 32) c6) (List.replicate m 0 ++ rootB g a z)) := ho6; have HB6 : Hid (Below w3.heap.size w3 w6) := hb6; have HG6 : Hid (∃ g, a6 = some ⟨g, 0, none⟩ ∧ w3.heap.size ≤ g ∧ g < w6.heap.size) := hg6 (by omega); clear ho6 hb6 hg6))
    have HBW6 : Hid (Below w.heap.size w w6) := HB3.out.trans (HB6.out.mono HB3.out.size)
    obtain ⟨gb, HGB⟩ : ∃ gb, Hid (a6 = some ⟨gb, 0, none⟩ ∧ w3.heap.size ≤ gb ∧ gb < w6.heap.size) := HG6.out
    have HAL : Hid (Alien w6 p vb vr (.slice a6 (m + 32) c6)) := by
      rw [HGB.out.1]
      exact alien_new (HP.out.below HB3.out) HGB.out.2.1 HGB.out.2.2
    refine (write_any (HP.out.below HBW6.out) (Nat.le_trans hB HBW6.out.size) (fr : Int) (List.replicate m 0 ++ rootB g a z) _ HO6.out.bs (fun _ => HAL.out) hrv (by rw [List.length_append, List.length_replicate, HRB.out]; omega) (by omega)).mono ?_
    rintro e w7 ⟨vb', vr', rv', rfl, hp7, hm7⟩
    go_wp2_with fail
    go_ret
    exact ⟨vb', vr', rv', by rw [HM.out]; rfl, by rw [HM.out]; exact hp7, (Moved.of_below p vb vr rv HBW6.out).trans hm7⟩
end Go.Proofs.YtkiccnedmejnaaaDoor
