/-
  A root's bytes: the walks of the program's Bytes and what it calls. Conditions: the numbers fit their kinds, the table of constants stands.
-/
import Derived.Test.YtkiccnedmejnaaaDoorSealWalk
import Derived.Test.YtkiccnedmejnaaaDoorLives
import Derived.Test.YtkiccnedmejnaaaDoorUnsealWalk
import Derived.Lib.SlBytesConst
namespace Go.Proofs.YtkiccnedmejnaaaDoor
open Go.RowKit
set_option linter.unusedVariables false
set_option maxRecDepth 100000

/-- Whether a root's At or Size may be. -/
def inF (n : Int) : Bool := decide (0 ≤ n) && decide (n ≤ 4194304)
theorem inF_true {n : Int} (h0 : 0 ≤ n) (h1 : n ≤ 4194304) : inF n = true := by simp [inF, h0, h1]
theorem inF_cases (n : Int) : (inF n = true ∧ 0 ≤ n ∧ n ≤ 4194304) ∨ (inF n = false ∧ (n < 0 ∨ 4194304 < n)) := by
  by_cases h0 : 0 ≤ n
  · by_cases h1 : n ≤ 4194304
    · exact .inl ⟨inF_true h0 h1, h0, h1⟩
    · exact .inr ⟨by simp [inF, h1], .inr (by omega)⟩
  · exact .inr ⟨by simp [inF, h0], .inl (by omega)⟩
theorem isInFile_any (n : Int) (w : World) : Calls Tryd.prog 29 #[.int .i64 n] w fun e w' => e = .returned (.bool (inF n)) ∧ w' = w := by
  by_cases h0 : 0 ≤ n
  · by_cases h1 : n ≤ 4194304
    · have H : Hid (inF n = true) := inF_true h0 h1
      go_enter Tryd.func29, Tryd.ntmps29
      go_wp2
      go_ret
      exact ⟨ret_bool H.out.symm, rfl⟩
    · have H : Hid (inF n = false) := by simp [inF, h1, Hid]
      go_enter Tryd.func29, Tryd.ntmps29
      go_wp2
      go_ret
      exact ⟨ret_bool H.out.symm, rfl⟩
  · have H : Hid (inF n = false) := by simp [inF, h0, Hid]
    go_enter Tryd.func29, Tryd.ntmps29
    go_wp2
    go_ret
    exact ⟨ret_bool H.out.symm, rfl⟩

/-- A number behind bytes, the lowest digit first. -/
theorem withNumber_any (v : Value) (l : List Int) (u : Int) (m : Nat) (w : World) (hl : Bs w v l) (hb : l.length ≤ 140737488351232) (hu0 : 0 ≤ u) (hu1 : u < 18446744073709551616) (hE : numErr u m = 0) :
    Calls Tryd.prog 30 #[v, .int .i64 m, .int .u64 u] w fun e w' => e = .returned (.slice (some ⟨w.heap.size, 0, none⟩) (l.length + m) (l.length + m)) ∧ Row w' w.heap.size (l ++ digs u m) ∧ Below w.heap.size w w' := by
  have HC : Hid _ := put_yes v l u m false w hl hb hu0 hu1 hE
  obtain ⟨ao, cap, rfl, _⟩ := hl
  go_enter Tryd.func30, Tryd.ntmps30
  go_wp2_with (go_at_call 52; refine Calls.mono HC.out ?_; rintro e w1 ⟨rfl, hr1, hb1⟩)
  go_ret
  exact ⟨rfl, by simpa [dig2] using hr1, hb1⟩

/-- What is sealed of a root, and its bytes. -/
def rootL (g a z : Int) : List Int := ((((([83, 76, 65, 66] ++ digs g 8) ++ digs 0 4) ++ digs a 4) ++ digs z 4) ++ digs 0 4)
def rootB (g a z : Int) : List Int := sealN (rootL g a z)
theorem rootL_length (g a z : Int) : (rootL g a z).length = 28 := by simp [rootL, digs_length]
theorem rootB_length (g a z : Int) : (rootB g a z).length = 32 := by rw [rootB, sealN_length, rootL_length]
theorem byt_digs (u : Int) (m : Nat) : Byt (digs u m) := byt_dig2 false u m
theorem rootL_byt (g a z : Int) : Byt (rootL g a z) := byt_append (byt_append (byt_append (byt_append (byt_append (byt_lit _ rfl) (byt_digs _ _)) (byt_digs _ _)) (byt_digs _ _)) (byt_digs _ _)) (byt_digs _ _)
theorem rootB_byt (g a z : Int) : Byt (rootB g a z) := byt_seal (rootL_byt g a z)
theorem fit4 {n : Int} (h0 : 0 ≤ n) (h1 : n ≤ 4194304) : numErr n ((4 : Nat) : Int) = 0 := numErr_of h0 (by decide) (by decide) (by show n < 2 ^ 32; omega)
theorem fit8 {n : Int} (h0 : 0 ≤ n) (h1 : n < 18446744073709551616) : numErr n ((8 : Nat) : Int) = 0 := numErr_of h0 (by decide) (by decide) (by show n < 2 ^ 64; omega)

theorem row_bs {w : World} {b n : Nat} {l : List Int} (h : Row w b l) (hn : l.length = n) : Bs w (.slice (some ⟨b, 0, none⟩) n n) l := by rw [← hn]; exact h.whole

theorem rBytes_no (g a z : Int) (w : World) (h : inF a = false ∨ inF z = false) :
    Calls Tryd.prog 9 #[.agg #[.int .u64 g, .int .i64 a, .int .i64 z]] w fun e w' => e = .returned (.tuple #[.slice none 0 0, .int .i64 2]) ∧ Below w.heap.size w w' := by
  rcases inF_cases a with ⟨ha, _, _⟩ | ⟨ha, _⟩
  · have hz : inF z = false := by
      rcases h with h | h
      · rw [ha] at h; cases h
      · exact h
    go_enter Tryd.func9, Tryd.ntmps9
    go_wp2_with (go_at_call 29; refine (isInFile_any _ _).mono ?_; rintro e w1 ⟨rfl, hw1⟩; obtain rfl := hw1.symm)
    go_ret2
    exact ⟨rfl, (Below.refl _ _).alloc (Nat.le_refl _) _⟩
  · go_enter Tryd.func9, Tryd.ntmps9
    go_wp2_with (go_at_call 29; refine (isInFile_any _ _).mono ?_; rintro e w1 ⟨rfl, hw1⟩; obtain rfl := hw1.symm)
    go_ret2
    exact ⟨rfl, (Below.refl _ _).alloc (Nat.le_refl _) _⟩

set_option maxHeartbeats 4000000 in
theorem rBytes_ok (g a z : Int) (w : World) (hT : Tab w) (hg0 : 0 ≤ g) (hg1 : g < 18446744073709551616) (ha : inF a = true) (hz : inF z = true) (ha0 : 0 ≤ a) (ha1 : a ≤ 4194304) (hz0 : 0 ≤ z) (hz1 : z ≤ 4194304) :
    Calls Tryd.prog 9 #[.agg #[.int .u64 g, .int .i64 a, .int .i64 z]] w fun e w' => ∃ b, e = .returned (.tuple #[.slice (some ⟨b, 0, none⟩) 32 32, .int .i64 0]) ∧ Row w' b (rootB g a z) ∧ w.heap.size ≤ b ∧ Below w.heap.size w w' := by
  have HT : Hid (Tab w) := hT
  clear hT
  obtain ⟨W, HW⟩ : ∃ W, Hid (W = w.alloc (.cells #[.int .u64 g, .int .i64 a, .int .i64 z] 24)) := ⟨_, rfl⟩
  have HBW : Hid (Below w.heap.size w W) := by rw [Hid, HW.out]; exact (Below.refl _ w).alloc (Nat.le_refl _) _
  have HCW : Hid (W.heap[w.heap.size]? = some (.cells #[.int .u64 g, .int .i64 a, .int .i64 z] 24 (0, 0))) := by rw [Hid, HW.out]; exact heap_alloc_new w _
  have hcv := Lib.run_convert_bytes_const (P := Tryd.prog) W 25 5 #[.int .u8 83, .int .u8 76, .int .u8 65, .int .u8 66] 4 4 Tryd.underlying25 Tryd.underlying5
  have HB2 : Hid (Below W.heap.size W (W.alloc (.cells #[.int .u8 83, .int .u8 76, .int .u8 65, .int .u8 66] 5 (4, 5)))) := (Below.refl _ W).alloc (Nat.le_refl _) _
  have HBS : Hid (Bs (W.alloc (.cells #[.int .u8 83, .int .u8 76, .int .u8 65, .int .u8 66] 5 (4, 5))) (.slice (some ⟨W.heap.size, 0, none⟩) 4 4) [83, 76, 65, 66]) := made_bs W [83, 76, 65, 66] _ rfl (4, 5)
  have HCL : Hid (∀ w', Below W.heap.size W w' → w'.cell? ⟨w.heap.size, 0, none⟩ = some (.int .u64 g) ∧ w'.cell? ⟨w.heap.size, 1, none⟩ = some (.int .i64 a) ∧ w'.cell? ⟨w.heap.size, 2, none⟩ = some (.int .i64 z)) := fun w' hb =>
    ⟨cell_later hb (by simp [World.cell?, HCW.out]), cell_later hb (by simp [World.cell?, HCW.out]), cell_later hb (by simp [World.cell?, HCW.out])⟩
  go_enter Tryd.func9, Tryd.ntmps9
  go_upto_region 3 with (go_at_call 29; refine (isInFile_any _ _).mono ?_; rintro e w1 ⟨rfl, hw1⟩; obtain rfl := hw1.symm)
  rw [← HW.out]
  obtain ⟨c0, c1, c2⟩ := HCL.out _ HB2.out
  go_wp2_with fail
  refine (withNumber_any _ _ g 8 _ HBS.out (by simp) hg0 hg1 (fit8 hg0 hg1)).mono ?_
  rintro e w3 ⟨rfl, hr3, hb3⟩
  have HB3 : Hid (Below W.heap.size W w3) := HB2.out.trans (hb3.mono HB2.out.size)
  have HR3 : Hid (Bs w3 (.slice (some ⟨(W.alloc (.cells #[.int .u8 83, .int .u8 76, .int .u8 65, .int .u8 66] 5 (4, 5))).heap.size, 0, none⟩) 12 12) ([83, 76, 65, 66] ++ digs g 8)) := row_bs hr3 (by simp [digs_length])
  obtain ⟨q30, q31, q32⟩ := HCL.out _ HB3.out
  clear hr3 hb3 hcv c0 c1 c2
  obtain ⟨b3, Hb3⟩ : ∃ b3, Hid (b3 = (W.alloc (.cells #[.int .u8 83, .int .u8 76, .int .u8 65, .int .u8 66] 5 (4, 5))).heap.size) := ⟨_, rfl⟩
  rw [← Hb3.out] at HR3 ⊢
  simp only [List.length_cons, List.length_nil, Nat.reduceAdd]
  go_wp2_with fail
  refine (withNumber_any _ _ 0 4 w3 HR3.out (by simp [digs_length]) (by decide) (by decide) (fit4 (by decide) (by decide))).mono ?_
  rintro e w4 ⟨rfl, hr4, hb4⟩
  have HB4 : Hid (Below W.heap.size W w4) := HB3.out.trans (hb4.mono HB3.out.size)
  have HR4 : Hid (Bs w4 (.slice (some ⟨w3.heap.size, 0, none⟩) 16 16) (([83, 76, 65, 66] ++ digs g 8) ++ digs 0 4)) := row_bs hr4 (by simp [digs_length])
  obtain ⟨q40, q41, q42⟩ := HCL.out _ HB4.out
  clear hr4 hb4
  simp only [List.length_append, digs_length, List.length_cons, List.length_nil, Nat.reduceAdd]
  go_wp2_with fail
  refine (withNumber_any _ _ a 4 w4 HR4.out (by simp [digs_length]) ha0 (by omega) (fit4 ha0 ha1)).mono ?_
  rintro e w5 ⟨rfl, hr5, hb5⟩
  have HB5 : Hid (Below W.heap.size W w5) := HB4.out.trans (hb5.mono HB4.out.size)
  have HR5 : Hid (Bs w5 (.slice (some ⟨w4.heap.size, 0, none⟩) 20 20) ((([83, 76, 65, 66] ++ digs g 8) ++ digs 0 4) ++ digs a 4)) := row_bs hr5 (by simp [digs_length])
  obtain ⟨q50, q51, q52⟩ := HCL.out _ HB5.out
  clear hr5 hb5
  simp only [List.length_append, digs_length, List.length_cons, List.length_nil, Nat.reduceAdd]
  go_wp2_with fail
  refine (withNumber_any _ _ z 4 w5 HR5.out (by simp [digs_length]) hz0 (by omega) (fit4 hz0 hz1)).mono ?_
  rintro e w6 ⟨rfl, hr6, hb6⟩
  have HB6 : Hid (Below W.heap.size W w6) := HB5.out.trans (hb6.mono HB5.out.size)
  have HR6 : Hid (Bs w6 (.slice (some ⟨w5.heap.size, 0, none⟩) 24 24) (((([83, 76, 65, 66] ++ digs g 8) ++ digs 0 4) ++ digs a 4) ++ digs z 4)) := row_bs hr6 (by simp [digs_length])
  obtain ⟨q60, q61, q62⟩ := HCL.out _ HB6.out
  clear hr6 hb6
  simp only [List.length_append, digs_length, List.length_cons, List.length_nil, Nat.reduceAdd]
  go_wp2_with fail
  refine (withNumber_any _ _ 0 4 w6 HR6.out (by simp [digs_length]) (by decide) (by decide) (fit4 (by decide) (by decide))).mono ?_
  rintro e w7 ⟨rfl, hr7, hb7⟩
  have HB7 : Hid (Below W.heap.size W w7) := HB6.out.trans (hb7.mono HB6.out.size)
  have HR7 : Hid (Bs w7 (.slice (some ⟨w6.heap.size, 0, none⟩) 28 28) ((((([83, 76, 65, 66] ++ digs g 8) ++ digs 0 4) ++ digs a 4) ++ digs z 4) ++ digs 0 4)) := row_bs hr7 (by simp [digs_length])
  obtain ⟨q70, q71, q72⟩ := HCL.out _ HB7.out
  clear hr7 hb7
  simp only [List.length_append, digs_length, List.length_cons, List.length_nil, Nat.reduceAdd]
  go_wp2_with fail
  have HBW7 : Hid (Below w.heap.size w w7) := HBW.out.trans (HB7.out.mono HBW.out.size)
  refine (seal_any _ (rootL g a z) w7 HR7.out (by rw [rootL_length]; omega) (rootL_byt g a z) (HT.out.below HBW7.out)).mono ?_
  rintro e w8 ⟨rfl, hr8, hb8⟩
  rw [rootL_length]
  have HR8 : Hid (Row w8 w7.heap.size (rootB g a z)) := hr8
  have HB8 : Hid (Below w.heap.size w w8) := HBW7.out.trans (hb8.mono HBW7.out.size)
  clear hr8 hb8
  go_wp2
  go_ret2
  exact ⟨w7.heap.size, rfl, HR8.out, HBW7.out.size, HB8.out⟩
end Go.Proofs.YtkiccnedmejnaaaDoor
