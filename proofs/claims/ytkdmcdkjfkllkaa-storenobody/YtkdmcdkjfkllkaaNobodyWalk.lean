/-
  The walk of StoreNobody: a file that is nil, or that no call made, does nothing.
-/
import Derived.Test.YtkdmcdkjfkllkaaFrameA
namespace Go.Proofs.Ytkdmcdkjfkllkaa
open Go.RowKit
set_option linter.unusedVariables false

theorem copy_no (v : Value) (w : World) (h : NoFile w v) : Calls Try.prog 16 #[v] w fun e w' => e = .returned (.pointer none) ∧ w' = w := by
  have H : Hid (NoFile w v) := h
  clear h
  go_enter Try.func16, Try.ntmps16
  go_wp2_with (go_at_call 31; refine (isNone_no _ _ H.out).mono ?_; rintro e w' ⟨rfl, rfl⟩)
  go_ret
  exact ⟨rfl, rfl⟩

theorem NoFile.below {w w' : World} {v : Value} (h : NoFile w v) (hb : Below w.heap.size w w') : NoFile w' v := by
  rcases h with h | ⟨p, h1, h2⟩
  · exact .inl h
  · exact .inr ⟨p, h1, cell_later hb h2⟩

set_option maxRecDepth 100000 in
set_option maxHeartbeats 8000000 in
theorem storeNobody_in (ki at' an : Int) (v : Value) (l : List Int) (w : World) (hv : Bs w v l) (hk : (Lit.int .i64 ki).wf = true) (ha : (Lit.int .i64 at').wf = true) (hn : (Lit.int .i64 an).wf = true) :
    Calls Try.prog 6 #[.agg #[.int .i64 ki, .int .i64 at', .int .i64 an, v]] w fun e w' => e = .returned (.bool true) ∧ Below w.heap.size w w' := by
  obtain ⟨ao, cap, rfl, _⟩ := hv
  generalize l.length = n
  go_enter Try.func6, Try.ntmps6
  go_wp2_with fail
  obtain ⟨W, hW⟩ : ∃ W, ((w.alloc (.cells #[.int .i64 ki, .int .i64 at', .int .i64 an, .slice ao n cap] 36)).alloc (.cells #[.bool false, .bool false, .int .i64 0, .slice none 0 0, .slice none 0 0, .bool false, .int .i64 0] 58)) = W := ⟨_, rfl⟩
  have HBW : Hid (Below w.heap.size w W) := by rw [Hid, ← hW]; exact ((Below.refl _ w).alloc (Nat.le_refl _) _).alloc (by simp) _
  have HC : Hid (W.heap[w.heap.size]? = some (.cells #[.int .i64 ki, .int .i64 at', .int .i64 an, .slice ao n cap] 36 (0, 0)) ∧ W.cell? ⟨w.heap.size + 1, 0, none⟩ = some (.bool false)) := by
    refine ⟨by rw [← hW]; exact (Below.heap_alloc _ _ _ (by simp)).trans (heap_alloc_new w _), ?_⟩
    have h2 := heap_alloc_new (w.alloc (.cells #[.int .i64 ki, .int .i64 at', .int .i64 an, .slice ao n cap] 36)) (.cells #[.bool false, .bool false, .int .i64 0, .slice none 0 0, .slice none 0 0, .bool false, .int .i64 0] 58)
    rw [World.size_alloc, hW] at h2
    simp [World.cell?, h2]
  rw [hW]
  have HCA : Hid (∀ w', Below W.heap.size W w' → w'.cell? ⟨w.heap.size, 1, none⟩ = some (.int .i64 at') ∧ w'.cell? ⟨w.heap.size, 2, none⟩ = some (.int .i64 an) ∧ w'.cell? ⟨w.heap.size, 3, none⟩ = some (.slice ao n cap)) := fun w' hb =>
    ⟨cell_later hb (by simp [World.cell?, HC.out.1]), cell_later hb (by simp [World.cell?, HC.out.1]), cell_later hb (by simp [World.cell?, HC.out.1])⟩
  have HNZ : Hid (NoFile W (.pointer (some ⟨w.heap.size + 1, 0, none⟩))) := .inr ⟨_, rfl, HC.out.2⟩
  clear HC hW hk ha hn
  go_loopw [5] (fun i wr => ∃ k : Nat, k ≤ 2 ∧ i = .int .i64 (k : Int) ∧ Below W.heap.size W wr) (fun i _ => 2 - (intOf i).toNat)
  case atStart => exact ⟨0, by omega, rfl, Below.refl _ _⟩
  case round =>
    obtain ⟨k, hk, rfl, hbr⟩ := hrel
    rcases (show k = 0 ∨ k = 1 ∨ k = 2 by omega) with rfl | rfl | rfl
    · have HF : Hid (∀ w', Below W.heap.size W w' → NoFile w' (.pointer none)) := fun w' hb => .inl rfl
      have HBR : Hid (Below W.heap.size W wr) := hbr
      obtain ⟨e1, e2, e3⟩ := HCA.out _ hbr
      clear hbr
      go_wp2_with (first
        | (go_at_call 24; refine (start_no _ _ (HF.out _ HBR.out)).mono ?_; rintro e w1 ⟨⟨u1, rfl⟩, hw1⟩; obtain rfl := hw1.symm)
        | (go_at_call 20; refine (read_no _ _ _ _ (HF.out _ HBR.out)).mono ?_; rintro e w2 ⟨rfl, hw2⟩; obtain rfl := hw2.symm)
        | (go_at_call 18; refine (write_no _ _ _ _ _ _ (HF.out _ HBR.out)).mono ?_; rintro e w3 ⟨rfl, hb3⟩; have HB3 : Hid (Below W.heap.size W w3) := HBR.out.trans (hb3.mono HBR.out.size); obtain ⟨f1, f2, f3⟩ := HCA.out _ HB3.out; clear hb3)
        | (go_at_call 13; refine (len_no _ _ (HF.out _ HB3.out)).mono ?_; rintro e w4 ⟨rfl, hw4⟩; obtain rfl := hw4.symm)
        | (go_at_call 14; refine (most_no _ _ (HF.out _ HB3.out)).mono ?_; rintro e w5 ⟨rfl, hw5⟩; obtain rfl := hw5.symm)
        | (go_at_call 26; refine (bytes_no _ _ (HF.out _ HB3.out)).mono ?_; rintro e w6 ⟨rfl, hw6⟩; obtain rfl := hw6.symm)
        | (go_at_call 27; refine (raws_no _ _ (HF.out _ HB3.out)).mono ?_; rintro e w7 ⟨rfl, hw7⟩; obtain rfl := hw7.symm)
        | (go_at_call 22; refine (cut_no _ _ _ (HF.out _ HB3.out)).mono ?_; rintro e w8 ⟨rfl, hw8⟩; obtain rfl := hw8.symm)
        | (go_at_call 28; refine (on_no _ _ (HF.out _ HB3.out)).mono ?_; rintro e w9 ⟨rfl, hw9⟩; obtain rfl := hw9.symm)
        | (go_at_call 16; refine (copy_no _ _ (HF.out _ HB3.out)).mono ?_; rintro e w10 ⟨rfl, hw10⟩; obtain rfl := hw10.symm))
      go_roundw
      case rel => exact ⟨1, by omega, rfl, HB3.out⟩
      case measure => simp [intOf]
    · have HF : Hid (∀ w', Below W.heap.size W w' → NoFile w' (.pointer (some ⟨w.heap.size + 1, 0, none⟩))) := fun w' hb => HNZ.out.below hb
      have HBR : Hid (Below W.heap.size W wr) := hbr
      obtain ⟨e1, e2, e3⟩ := HCA.out _ hbr
      clear hbr
      go_wp2_with (first
        | (go_at_call 24; refine (start_no _ _ (HF.out _ HBR.out)).mono ?_; rintro e w1 ⟨⟨u1, rfl⟩, hw1⟩; obtain rfl := hw1.symm)
        | (go_at_call 20; refine (read_no _ _ _ _ (HF.out _ HBR.out)).mono ?_; rintro e w2 ⟨rfl, hw2⟩; obtain rfl := hw2.symm)
        | (go_at_call 18; refine (write_no _ _ _ _ _ _ (HF.out _ HBR.out)).mono ?_; rintro e w3 ⟨rfl, hb3⟩; have HB3 : Hid (Below W.heap.size W w3) := HBR.out.trans (hb3.mono HBR.out.size); obtain ⟨f1, f2, f3⟩ := HCA.out _ HB3.out; clear hb3)
        | (go_at_call 13; refine (len_no _ _ (HF.out _ HB3.out)).mono ?_; rintro e w4 ⟨rfl, hw4⟩; obtain rfl := hw4.symm)
        | (go_at_call 14; refine (most_no _ _ (HF.out _ HB3.out)).mono ?_; rintro e w5 ⟨rfl, hw5⟩; obtain rfl := hw5.symm)
        | (go_at_call 26; refine (bytes_no _ _ (HF.out _ HB3.out)).mono ?_; rintro e w6 ⟨rfl, hw6⟩; obtain rfl := hw6.symm)
        | (go_at_call 27; refine (raws_no _ _ (HF.out _ HB3.out)).mono ?_; rintro e w7 ⟨rfl, hw7⟩; obtain rfl := hw7.symm)
        | (go_at_call 22; refine (cut_no _ _ _ (HF.out _ HB3.out)).mono ?_; rintro e w8 ⟨rfl, hw8⟩; obtain rfl := hw8.symm)
        | (go_at_call 28; refine (on_no _ _ (HF.out _ HB3.out)).mono ?_; rintro e w9 ⟨rfl, hw9⟩; obtain rfl := hw9.symm)
        | (go_at_call 16; refine (copy_no _ _ (HF.out _ HB3.out)).mono ?_; rintro e w10 ⟨rfl, hw10⟩; obtain rfl := hw10.symm))
      go_roundw
      case rel => exact ⟨2, by omega, rfl, HB3.out⟩
      case measure => simp [intOf]
    · have HBR : Hid (Below W.heap.size W wr) := hbr
      clear hbr
      go_wp2_with (go_at_call 15; refine (lives_any _).mono ?_; rintro e w3 ⟨rfl, hb3⟩)
      go_ret
      exact ⟨rfl, HBW.out.trans ((HBR.out.trans (hb3.mono HBR.out.size)).mono HBW.out.size)⟩
theorem storeNobody_walk (a : ActV) (w : World) (h : a.ok w) :
    Calls Try.prog 6 #[.agg #[.int .i64 a.ki, .int .i64 a.pl, .int .i64 a.n, a.v]] w fun e w' => e = .returned (.bool true) ∧ Below w.heap.size w w' :=
  storeNobody_in a.ki a.pl a.n a.v a.l w h.bs h.wki h.wpl h.wn
end Go.Proofs.Ytkdmcdkjfkllkaa
