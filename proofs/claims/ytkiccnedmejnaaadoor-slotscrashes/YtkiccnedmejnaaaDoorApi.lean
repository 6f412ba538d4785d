/-
  Walks of store's exported functions but Raws and Copy: Write whole, Of, New, Len, Most, Bytes, Read, Cut, Start, On; each for a file that was made, and for one that is none.
-/
import Derived.Test.YtkiccnedmejnaaaDoorWriteWalk
namespace Go.Proofs.YtkiccnedmejnaaaDoor
open Go.RowKit
set_option linter.unusedVariables false
set_option maxRecDepth 100000

theorem write_no (v : Value) (at' : Int) (ao : Option Addr) (n cap : Nat) (w : World) (h : NoFile w v) :
    Calls Tryd.prog 19 #[v, .int .i64 at', .slice ao n cap] w fun e w' => e = .returned (.int .i64 1) ∧ Below w.heap.size w w' := by
  have H : Hid (∀ w2, Below w.heap.size w w2 → NoFile w2 v) := fun w2 hb => by
    rcases h with h | ⟨p, h1, h2⟩
    · exact .inl h
    · exact .inr ⟨p, h1, (hb.cell (p := ⟨p, 0, none⟩) (World.block_lt_of_cell? w _ h2)).trans h2⟩
  have hv : ∃ po, v = .pointer po := by
    rcases h with h | ⟨p, h1, h2⟩
    · exact ⟨_, h⟩
    · exact ⟨_, h1⟩
  clear h
  obtain ⟨po, rfl⟩ := hv
  have HB : Hid (Below w.heap.size w ((w.alloc (.cells #[.pointer po] 40)).alloc (.cells #[.int .i64 0] 26))) := ((Below.refl _ w).alloc (Nat.le_refl _) _).alloc (by simp) _
  go_enter Tryd.func19, Tryd.ntmps19
  go_wp2_with (go_at_call 42; refine (writeError_no _ _ _ _ (H.out _ HB.out)).mono ?_; rintro e w1 ⟨rfl, rfl⟩)
  refine bodyPost_ret (v := .int .i64 1) ?_ rfl ?_
  · simp [results, Tryd.f19, go_sem]
  · exact ⟨rfl, by first | exact HB.out.setCell (p := ⟨w.heap.size + 1, 0, none⟩) (by simp) _ | exact ((Below.refl _ w).alloc (Nat.le_refl _) _).alloc (by simp) _⟩
theorem write_refused {w : World} {B p : Nat} {F : Mdl} {vb vr : Value} {rv : List RawV} (h : PF w B p F vb vr rv) (at' : Int) (ao : Option Addr) (n cap : Nat) (hn : (n : Int) ≤ 9223372036854775807) (ha : at' ≤ 9223372036854775807) (hE : wErr F at' n ≠ 0) :
    Calls Tryd.prog 19 #[.pointer (some ⟨p, 0, none⟩), .int .i64 at', .slice ao n cap] w fun e w' => e = .returned (.int .i64 (wErr F at' n)) ∧ Below w.heap.size w w' := by
  have HB : Hid (Below w.heap.size w ((w.alloc (.cells #[.pointer (some ⟨p, 0, none⟩)] 40)).alloc (.cells #[.int .i64 0] 26))) := ((Below.refl _ w).alloc (Nat.le_refl _) _).alloc (by simp) _
  have HW : Hid (∀ w2, Below w.heap.size w w2 → Calls Tryd.prog 42 #[.pointer (some ⟨p, 0, none⟩), .int .i64 at', .int .i64 (n : Int)] w2 fun e w' => e = .returned (.int .i64 (wErr F at' n)) ∧ w' = w2) := fun w2 hb => writeError_any (h.below hb) at' n hn ha
  have hE2 : (wErr F at' n != 0) = true := by simpa using hE
  generalize wErr F at' n = er at *
  clear h hE
  go_enter Tryd.func19, Tryd.ntmps19
  go_wp2_with (go_at_call 42; refine (HW.out _ HB.out).mono ?_; rintro e w1 ⟨rfl, rfl⟩)
  refine bodyPost_ret (v := .int .i64 er) ?_ rfl ?_
  · simp [results, Tryd.f19, go_sem]
  · exact ⟨rfl, by first | exact HB.out.setCell (p := ⟨w.heap.size + 1, 0, none⟩) (by simp) _ | exact ((Below.refl _ w).alloc (Nat.le_refl _) _).alloc (by simp) _⟩
theorem write_any {w : World} {B p : Nat} {F : Mdl} {vb vr : Value} {rv : List RawV} (h : PF w B p F vb vr rv) (hB : B ≤ w.heap.size) (at' : Int) (x : List Int) (bv : Value) (hx : Bs w bv x) (hal : 0 < x.length → Alien w p vb vr bv) (hrv : rv.length ≤ 1000000000)
    (hn : x.length ≤ 9223372036854775807) (ha : at' ≤ 9223372036854775807) :
    Calls Tryd.prog 19 #[.pointer (some ⟨p, 0, none⟩), .int .i64 at', bv] w fun e w' => ∃ vb' vr' rv', e = .returned (.int .i64 (wrM F at' x).1) ∧ PF w' B p (wrM F at' x).2 vb' vr' rv' ∧ Moved w w' p vb vr rv vb' vr' rv' := by
  unfold wrM
  by_cases hE : wErr F at' x.length = 0
  · rw [if_pos hE]
    obtain ⟨h1, h2, h3, h4⟩ := wErr_zero hE
    have := write_go h hB at'.toNat x bv hx hal hrv (by rw [Int.toNat_of_nonneg h2]; exact hE)
    rw [Int.toNat_of_nonneg h2] at this
    exact this
  · rw [if_neg hE]
    obtain ⟨ao, cap, rfl, _⟩ := hx
    refine (write_refused h at' ao x.length cap (by omega) ha hE).mono ?_
    rintro e w' ⟨rfl, hb⟩
    exact ⟨vb, vr, rv, rfl, h.below hb, Moved.of_below _ _ _ _ hb⟩

/-- What a new file is. -/
def newM (b : List Int) (most : Int) : Mdl := { bs := b, most := most, off := false, pl := false, left := 0, rs := [] }
theorem of_none (ao : Option Addr) (n cap : Nat) (most : Int) (w : World) (h : most < 0 ∨ 4194304 < most ∨ most < (n : Int)) :
    Calls Tryd.prog 15 #[.slice ao n cap, .int .i64 most] w fun e w' => e = .returned (.pointer none) ∧ w' = w := by
  go_enter Tryd.func15, Tryd.ntmps15
  by_cases h1 : most < 0
  · go_wp2
    go_ret
    exact ⟨rfl, rfl⟩
  · by_cases h2 : 4194304 < most
    · go_wp2
      go_ret
      exact ⟨rfl, rfl⟩
    · have h3 : most < (n : Int) := by omega
      clear h
      go_wp2
      go_ret
      exact ⟨rfl, rfl⟩
theorem of_some (v : Value) (b : List Int) (most : Int) (w : World) (hb : Bs w v b) (h1 : 0 ≤ most) (h2 : most ≤ 4194304) (h3 : (b.length : Int) ≤ most) :
    Calls Tryd.prog 15 #[v, .int .i64 most] w fun e w' => ∃ p vb, e = .returned (.pointer (some ⟨p, 0, none⟩)) ∧ PF w' w.heap.size p (newM b most) vb (.slice none 0 0) [] ∧ Below w.heap.size w w' := by
  have HB : Hid (Bs w v b) := hb
  obtain ⟨ao, cap, rfl, hc, _⟩ := hb
  go_enter Tryd.func15, Tryd.ntmps15
  go_wp2_with (go_at_call 38; refine (own_any _ b _ HB.out (by omega)).mono ?_; rintro e w1 ⟨ao1, cap1, rfl, ho1, hb1, hc1⟩; have HO1 : Hid (Own w1 w.heap.size (.slice ao1 b.length cap1) b) := ho1; have HB1 : Hid (Below w.heap.size w w1) := hb1; clear ho1 hb1)
  go_ret
  refine ⟨w1.heap.size, .slice ao1 b.length cap1, rfl, ⟨?_, ⟨HB1.out.size, by simp, HO1.out.alloc _, World.ownsRow_nil _ _ _ _, ?_, ?_, ?_, ?_, ?_, ?_⟩, rfl, ⟨h1, h2, h3, by simp [newM], by simp [newM]⟩⟩, HB1.out.alloc HB1.out.size _⟩
  · exact heap_alloc_new w1 _
  · intro e; have := (World.ownsRow.lt HO1.out _ e).2; omega
  · simp [Value.ownBlock]
  · intro g _; simp [Value.ownBlock]
  · intro r hr; simp at hr
  · rintro k ⟨r, hr, _⟩; simp at hr
  · rintro k ⟨r, hr, _⟩; simp at hr
theorem new_none (most : Int) (w : World) (h : most < 0 ∨ 4194304 < most) :
    Calls Tryd.prog 26 #[.int .i64 most] w fun e w' => e = .returned (.pointer none) ∧ w' = w := by
  have H : Hid (most < 0 ∨ 4194304 < most ∨ most < ((0 : Nat) : Int)) := by unfold Hid; omega
  clear h
  go_enter Tryd.func26, Tryd.ntmps26
  go_wp2_with (go_at_call 15; refine (of_none _ _ _ _ _ H.out).mono ?_; rintro e w1 ⟨rfl, rfl⟩)
  go_ret
  exact ⟨rfl, rfl⟩
theorem new_some (most : Int) (w : World) (h1 : 0 ≤ most) (h2 : most ≤ 4194304) :
    Calls Tryd.prog 26 #[.int .i64 most] w fun e w' => ∃ p vb, e = .returned (.pointer (some ⟨p, 0, none⟩)) ∧ PF w' w.heap.size p (newM [] most) vb (.slice none 0 0) [] ∧ Below w.heap.size w w' := by
  go_enter Tryd.func26, Tryd.ntmps26
  go_wp2_with (go_at_call 15; refine (of_some _ [] _ _ (Bs.nil _) h1 h2 (by simpa using h1)).mono ?_; rintro e w1 ⟨p1, vb1, rfl, hp1, hb1⟩)
  go_ret
  exact ⟨p1, vb1, rfl, hp1, hb1⟩

theorem len_any {w : World} {B p : Nat} {F : Mdl} {vb vr : Value} {rv : List RawV} (h : PF w B p F vb vr rv) :
    Calls Tryd.prog 34 #[.pointer (some ⟨p, 0, none⟩)] w fun e w' => e = .returned (.int .i64 (F.bs.length : Int)) ∧ w' = w := by
  have c0 : w.cell? ⟨p, 0, none⟩ = some (.bool true) := h.cell 0
  have c3 : w.cell? ⟨p, 3, none⟩ = some vb := h.cell 3
  obtain ⟨ab, cb, ar, cr, rfl, hcb, rfl⟩ := h.shape
  clear h
  go_enter Tryd.func34, Tryd.ntmps34
  go_wp2_with (go_at_call 41; refine (isNone_at _ true _ c0).mono ?_; rintro e w' ⟨rfl, rfl⟩)
  go_ret
  exact ⟨rfl, rfl⟩
theorem len_no (v : Value) (w : World) (h : NoFile w v) : Calls Tryd.prog 34 #[v] w fun e w' => e = .returned (.int .i64 0) ∧ w' = w := by
  have H : Hid (NoFile w v) := h
  clear h
  go_enter Tryd.func34, Tryd.ntmps34
  go_wp2_with (go_at_call 41; refine (isNone_no _ _ H.out).mono ?_; rintro e w' ⟨rfl, rfl⟩)
  go_ret
  exact ⟨rfl, rfl⟩
theorem bytes_any {w : World} {B p : Nat} {F : Mdl} {vb vr : Value} {rv : List RawV} (h : PF w B p F vb vr rv) :
    Calls Tryd.prog 24 #[.pointer (some ⟨p, 0, none⟩)] w fun e w' => ∃ ao cap, e = .returned (.slice ao F.bs.length cap) ∧ Own w' w.heap.size (.slice ao F.bs.length cap) F.bs ∧ Below w.heap.size w w' := by
  have c0 : w.cell? ⟨p, 0, none⟩ = some (.bool true) := h.cell 0
  have c3 : w.cell? ⟨p, 3, none⟩ = some vb := h.cell 3
  have HB : Hid (Bs w vb F.bs) := h.hold.own.bs
  have hl : F.bs.length ≤ 140737488355328 := by obtain ⟨f1, f2, f3, f4, f5⟩ := h.fit; omega
  obtain ⟨ab, cb, ar, cr, rfl, hcb, rfl⟩ := h.shape
  clear h
  go_enter Tryd.func24, Tryd.ntmps24
  go_wp2_with (first | (go_at_call 41; refine (isNone_at _ true _ c0).mono ?_; rintro e w' ⟨rfl, rfl⟩) | (go_at_call 38; refine (own_any _ F.bs _ HB.out hl).mono ?_; rintro e w1 ⟨ao1, cap1, rfl, ho1, hb1, hc1⟩))
  go_ret
  exact ⟨ao1, cap1, rfl, ho1, hb1⟩
theorem bytes_no (v : Value) (w : World) (h : NoFile w v) : Calls Tryd.prog 24 #[v] w fun e w' => e = .returned (.slice none 0 0) ∧ w' = w := by
  have H : Hid (NoFile w v) := h
  clear h
  go_enter Tryd.func24, Tryd.ntmps24
  go_wp2_with (go_at_call 41; refine (isNone_no _ _ H.out).mono ?_; rintro e w' ⟨rfl, rfl⟩)
  go_ret
  exact ⟨rfl, rfl⟩
theorem start_any {w : World} {B p : Nat} {F : Mdl} {vb vr : Value} {rv : List RawV} (h : PF w B p F vb vr rv) :
    Calls Tryd.prog 28 #[.pointer (some ⟨p, 0, none⟩)] w fun e w' => (∃ u, e = .returned u) ∧ PF w' B p { F with off := false } vb vr rv ∧ Chg (fun k => k = p) w w' := by
  have c0 : w.cell? ⟨p, 0, none⟩ = some (.bool true) := h.cell 0
  have c1 : w.cell? ⟨p, 1, none⟩ = some (.bool F.off) := h.cell 1
  have z1 := h.free 1
  have HF : Hid (PF w B p F vb vr rv) := h
  clear h
  go_enter Tryd.func28, Tryd.ntmps28
  go_wp2_with (go_at_call 41; refine (isNone_at _ true _ c0).mono ?_; rintro e w' ⟨rfl, rfl⟩)
  go_end0
  exact ⟨⟨_, rfl⟩, HF.out.put 1 _ rfl rfl HF.out.fit (by simp [pcs]), Chg.cell _ _ _ _⟩
theorem start_no (v : Value) (w : World) (h : NoFile w v) : Calls Tryd.prog 28 #[v] w fun e w' => (∃ u, e = .returned u) ∧ w' = w := by
  have H : Hid (NoFile w v) := h
  clear h
  go_enter Tryd.func28, Tryd.ntmps28
  go_wp2_with (go_at_call 41; refine (isNone_no _ _ H.out).mono ?_; rintro e w' ⟨rfl, rfl⟩)
  refine bodyPost_ret (results_none rfl _ _ _) rfl ?_
  exact ⟨⟨_, rfl⟩, rfl⟩
theorem cut_any {w : World} {B p : Nat} {F : Mdl} {vb vr : Value} {rv : List RawV} (h : PF w B p F vb vr rv) (n : Int) (hn : 0 ≤ n) (hn2 : n ≤ 9223372036854775807) :
    Calls Tryd.prog 18 #[.pointer (some ⟨p, 0, none⟩), .int .i64 n] w fun e w' => e = .returned (.int .i64 0) ∧ PF w' B p { F with pl := true, left := n } vb vr rv ∧ Chg (fun k => k = p) w w' := by
  have c0 : w.cell? ⟨p, 0, none⟩ = some (.bool true) := h.cell 0
  have c5 : w.cell? ⟨p, 5, none⟩ = some (.bool F.pl) := h.cell 5
  have c6 : w.cell? ⟨p, 6, none⟩ = some (.int .i64 F.left) := h.cell 6
  have z5 := h.free 5
  have z6 := h.free 6
  have HF : Hid (PF w B p F vb vr rv) := h
  clear h
  go_enter Tryd.func18, Tryd.ntmps18
  go_wp2_with (go_at_call 41; refine (isNone_at _ true _ c0).mono ?_; rintro e w' ⟨rfl, rfl⟩)
  go_ret
  obtain ⟨f1, f2, f3, f4, f5⟩ := HF.out.fit
  exact ⟨rfl, HF.out.put2 5 6 _ _ rfl rfl ⟨f1, f2, f3, hn, hn2⟩ (by simp [pcs]), (Chg.cell _ _ _ _).next (Chg.cell _ _ _ _)⟩
theorem cut_neg {w : World} {B p : Nat} {F : Mdl} {vb vr : Value} {rv : List RawV} (h : PF w B p F vb vr rv) (n : Int) (hn : n < 0) :
    Calls Tryd.prog 18 #[.pointer (some ⟨p, 0, none⟩), .int .i64 n] w fun e w' => e = .returned (.int .i64 2) ∧ w' = w := by
  have c0 : w.cell? ⟨p, 0, none⟩ = some (.bool true) := h.cell 0
  clear h
  go_enter Tryd.func18, Tryd.ntmps18
  go_wp2_with (go_at_call 41; refine (isNone_at _ true _ c0).mono ?_; rintro e w' ⟨rfl, rfl⟩)
  go_ret
  exact ⟨rfl, rfl⟩
theorem cut_no (v : Value) (n : Int) (w : World) (h : NoFile w v) : Calls Tryd.prog 18 #[v, .int .i64 n] w fun e w' => e = .returned (.int .i64 1) ∧ w' = w := by
  have H : Hid (NoFile w v) := h
  clear h
  go_enter Tryd.func18, Tryd.ntmps18
  go_wp2_with (go_at_call 41; refine (isNone_no _ _ H.out).mono ?_; rintro e w' ⟨rfl, rfl⟩)
  go_ret
  exact ⟨rfl, rfl⟩
end Go.Proofs.YtkiccnedmejnaaaDoor
