/-
  refill: a child that may have an item too few is mended. Conditions: the tree has its shape.
-/
import Derived.Test.YtelfjgnmbikofaaBRefN
import Derived.Test.YtelfjgnmbikofaaBInsC
namespace Go.Proofs.Ytelfjgnmbikofaa
open Go.RowKit
set_option linter.unusedVariables false
set_option maxRecDepth 100000

theorem row_slice {w : World} {B k n : Nat} {T : TypeId} {v : Value} {xs : List Value} (h : w.ownsRow B T k v n xs) : ∃ ao cap, v = .slice ao n cap := by
  rcases ownsRow_shape h with ⟨rfl, rfl⟩ | ⟨g, cap, rfl, _⟩
  · exact ⟨none, 0, rfl⟩
  · exact ⟨_, cap, rfl⟩
theorem least_any (p most : Nat) (w : World) (hc : w.cell? ⟨p, 2, none⟩ = some (.int .i64 (most : Int))) (h64 : most ≤ 64) : Calls Try.prog 63 #[.pointer (some ⟨p, 0, none⟩)] w fun e w' => e = .returned (.int .i64 ((most / 2 : Nat) : Int)) ∧ w' = w := by
  go_enter Try.func63, Try.ntmps63
  go_wp2
  go_ret
  exact ⟨by simp, rfl⟩
theorem canSpare_any (p most n m cap : Nat) (ao : Option Addr) (w : World) (hc : w.cell? ⟨p, 2, none⟩ = some (.int .i64 (most : Int))) (h64 : most ≤ 64) (hn : w.cell? ⟨n, 0, none⟩ = some (.slice ao m cap)) : Calls Try.prog 64 #[.pointer (some ⟨p, 0, none⟩), .pointer (some ⟨n, 0, none⟩)] w fun e w' => e = .returned (.bool (decide (most / 2 < m))) ∧ ∃ q, w' = w.drewN q := by
  have hd : decide (((most / 2 : Nat) : Int) < (m : Int)) = decide (most / 2 < m) := by rw [decide_eq_decide]; omega
  obtain ⟨b, hb⟩ : ∃ b, decide (most / 2 < m) = b := ⟨_, rfl⟩
  rw [hb] at hd ⊢
  obtain ⟨x, hx⟩ : ∃ x, x = ((most / 2 : Nat) : Int) := ⟨_, rfl⟩
  have HL : Hid (∀ q, Calls Try.prog 63 #[.pointer (some ⟨p, 0, none⟩)] (w.drewN q) fun e w' => e = .returned (.int .i64 x) ∧ w' = w.drewN q) := fun q => by rw [hx]; exact least_any p most (w.drewN q) hc h64
  rw [← hx] at hd
  clear hx
  go_enter Try.func64, Try.ntmps64
  go_wp2_with fail
  go_quiet ((go_at_call 63; exact Calls.quiet_of_same (HL.out _)))
  go_wp2_with fail
  go_ret
  exact ⟨rfl, _, rfl⟩
set_option maxHeartbeats 4000000 in
/-- The walk of refill where the child has enough. -/
theorem refill_w0 {w : World} {n p a most gC l capC cn m capm : Nat} {aom : Option Addr} (h64 : most ≤ 64) (t2 : w.cell? ⟨p, 2, none⟩ = some (.int .i64 (most : Int))) (n1 : w.cell? ⟨n, 1, none⟩ = some (.slice (some ⟨gC, 0, none⟩) (l + 1) capC)) (ha : a ≤ l) (ca : w.cell? ⟨gC, a, none⟩ = some (.pointer (some ⟨cn, 0, none⟩))) (c0 : w.cell? ⟨cn, 0, none⟩ = some (.slice aom m capm)) (hm : most / 2 ≤ m) :
    Calls Try.prog 50 #[.pointer (some ⟨p, 0, none⟩), .pointer (some ⟨n, 0, none⟩), .int .i64 (a : Int)] w fun e w' => e = .returned (.tuple #[]) ∧ ∃ q, w' = w.drewN q := by
  obtain ⟨x, hx⟩ : ∃ x, x = ((most / 2 : Nat) : Int) := ⟨_, rfl⟩
  have HL : Hid (∀ q, Calls Try.prog 63 #[.pointer (some ⟨p, 0, none⟩)] (w.drewN q) fun e w' => e = .returned (.int .i64 x) ∧ w' = w.drewN q) := fun q => by rw [hx]; exact least_any p most (w.drewN q) t2 h64
  have d1 : decide (x ≤ (m : Int)) = true := by rw [hx]; simp; omega
  have hal : (a : Int) < (l : Int) + 1 := by omega
  clear hx t2
  go_enter Try.func50, Try.ntmps50
  go_wp2_with fail
  go_quiet ((go_at_call 63; exact Calls.quiet_of_same (HL.out _)))
  go_wp2_with fail
  refine bodyPost_ret (results_none rfl _ _ _) rfl ?_
  exact ⟨rfl, _, rfl⟩
set_option maxHeartbeats 1000000 in
/-- .. where the one ahead can spare an item. -/
theorem refill_w1 {w : World} {n p a most gC l capC cn m capm b ln ml capl capN : Nat} {aom aoN aol : Option Addr} {Post : World → Prop} (h64 : most ≤ 64) (t2 : w.cell? ⟨p, 2, none⟩ = some (.int .i64 (most : Int))) (n0 : w.cell? ⟨n, 0, none⟩ = some (.slice aoN l capN)) (n1 : w.cell? ⟨n, 1, none⟩ = some (.slice (some ⟨gC, 0, none⟩) (l + 1) capC)) (ca : w.cell? ⟨gC, a, none⟩ = some (.pointer (some ⟨cn, 0, none⟩))) (c0 : w.cell? ⟨cn, 0, none⟩ = some (.slice aom m capm)) (hm : m < most / 2) (hl : l ≤ 1000) (hab : a = b + 1) (hal : a ≤ l) (cl : w.cell? ⟨gC, b, none⟩ = some (.pointer (some ⟨ln, 0, none⟩))) (l0 : w.cell? ⟨ln, 0, none⟩ = some (.slice aol ml capl)) (hml : most / 2 < ml) (hcall : ∀ q, Calls Try.prog 65 #[.pointer (some ⟨n, 0, none⟩), .int .i64 (b : Int)] (w.drewN q) fun e w' => e = .returned (.tuple #[]) ∧ Post w') :
    Calls Try.prog 50 #[.pointer (some ⟨p, 0, none⟩), .pointer (some ⟨n, 0, none⟩), .int .i64 (a : Int)] w fun e w' => e = .returned (.tuple #[]) ∧ Post w' := by
  obtain ⟨x, hx⟩ : ∃ x, x = ((most / 2 : Nat) : Int) := ⟨_, rfl⟩
  have HL : Hid (∀ q, Calls Try.prog 63 #[.pointer (some ⟨p, 0, none⟩)] (w.drewN q) fun e w' => e = .returned (.int .i64 x) ∧ w' = w.drewN q) := fun q => by rw [hx]; exact least_any p most (w.drewN q) t2 h64
  have d1 : decide (x ≤ (m : Int)) = false := by rw [hx]; simp; omega
  have HC : Hid (∀ q, Calls Try.prog 65 #[.pointer (some ⟨n, 0, none⟩), .int .i64 (b : Int)] (w.drewN q) fun e w' => e = .returned (.tuple #[]) ∧ Post w') := hcall
  subst hab
  have d2 : decide ((0 : Int) < ((b + 1 : Nat) : Int)) = true := by rw [decide_eq_true_eq]; omega
  have e1 : ((b + 1 : Nat) : Int) = (b : Int) + 1 := by omega
  have hb1 : (b : Int) + 1 < (l : Int) + 1 := by omega
  have hb2 : (b : Int) < (l : Int) + 1 := by omega
  have HSl : Hid (∀ q, Calls Try.prog 64 #[.pointer (some ⟨p, 0, none⟩), .pointer (some ⟨ln, 0, none⟩)] (w.drewN q) fun e w' => e = .returned (.bool true) ∧ ∃ r, w' = (w.drewN q).drewN r) := fun q => by have := canSpare_any p most ln ml capl aol (w.drewN q) t2 h64 l0; rw [show decide (most / 2 < ml) = true by simp; omega] at this; exact this
  clear hx t2 hcall
  go_enter Try.func50, Try.ntmps50
  go_wp2_with fail
  go_quiet ((go_at_call 63; exact Calls.quiet_of_same (HL.out _)))
  go_wp2_with (first
    | (go_at_call_of 64 ln; refine Calls.mono (HSl.out _) ?_; rintro e w5 ⟨rfl, q5, hw5⟩; rw [World.drewN_drewN] at hw5; obtain rfl := hw5.symm)
    | (go_at_call 65; refine Calls.mono (HC.out _) ?_; rintro e w9 ⟨rfl, hp9⟩; have HP9 : Hid (Post w9) := hp9; clear hp9))
  refine bodyPost_end (results_none rfl _ _ _) rfl ?_
  exact ⟨rfl, HP9.out⟩
set_option maxHeartbeats 1000000 in
/-- .. where the one behind can spare an item, and the one ahead can not. -/
theorem refill_w2a {w : World} {n p a most gC l capC cn m capm b ln ml capl rn mr capr capN : Nat} {aom aoN aol aor : Option Addr} {Post : World → Prop} (h64 : most ≤ 64) (t2 : w.cell? ⟨p, 2, none⟩ = some (.int .i64 (most : Int))) (n0 : w.cell? ⟨n, 0, none⟩ = some (.slice aoN l capN)) (n1 : w.cell? ⟨n, 1, none⟩ = some (.slice (some ⟨gC, 0, none⟩) (l + 1) capC)) (ca : w.cell? ⟨gC, a, none⟩ = some (.pointer (some ⟨cn, 0, none⟩))) (c0 : w.cell? ⟨cn, 0, none⟩ = some (.slice aom m capm)) (hm : m < most / 2) (hl : l ≤ 1000) (hab : a = b + 1) (hal : a < l) (cl : w.cell? ⟨gC, b, none⟩ = some (.pointer (some ⟨ln, 0, none⟩))) (l0 : w.cell? ⟨ln, 0, none⟩ = some (.slice aol ml capl)) (hml : ml ≤ most / 2) (cr : w.cell? ⟨gC, a + 1, none⟩ = some (.pointer (some ⟨rn, 0, none⟩))) (r0 : w.cell? ⟨rn, 0, none⟩ = some (.slice aor mr capr)) (hmr : most / 2 < mr) (hcall : ∀ q, Calls Try.prog 66 #[.pointer (some ⟨n, 0, none⟩), .int .i64 ((b : Int) + 1)] (w.drewN q) fun e w' => e = .returned (.tuple #[]) ∧ Post w') :
    Calls Try.prog 50 #[.pointer (some ⟨p, 0, none⟩), .pointer (some ⟨n, 0, none⟩), .int .i64 (a : Int)] w fun e w' => e = .returned (.tuple #[]) ∧ Post w' := by
  obtain ⟨x, hx⟩ : ∃ x, x = ((most / 2 : Nat) : Int) := ⟨_, rfl⟩
  have HL : Hid (∀ q, Calls Try.prog 63 #[.pointer (some ⟨p, 0, none⟩)] (w.drewN q) fun e w' => e = .returned (.int .i64 x) ∧ w' = w.drewN q) := fun q => by rw [hx]; exact least_any p most (w.drewN q) t2 h64
  have d1 : decide (x ≤ (m : Int)) = false := by rw [hx]; simp; omega
  have HC : Hid (∀ q, Calls Try.prog 66 #[.pointer (some ⟨n, 0, none⟩), .int .i64 ((b : Int) + 1)] (w.drewN q) fun e w' => e = .returned (.tuple #[]) ∧ Post w') := hcall
  subst hab
  have d2 : decide ((0 : Int) < ((b + 1 : Nat) : Int)) = true := by rw [decide_eq_true_eq]; omega
  have e1 : ((b + 1 : Nat) : Int) = (b : Int) + 1 := by omega
  have hb1 : (b : Int) + 1 < (l : Int) + 1 := by omega
  have hb2 : (b : Int) < (l : Int) + 1 := by omega
  have hb3 : (b : Int) + 1 + 1 < (l : Int) + 1 := by omega
  have d4 : decide ((b : Int) + 1 < (l : Int)) = true := by rw [decide_eq_true_eq]; omega
  have HSl : Hid (∀ q, Calls Try.prog 64 #[.pointer (some ⟨p, 0, none⟩), .pointer (some ⟨ln, 0, none⟩)] (w.drewN q) fun e w' => e = .returned (.bool false) ∧ ∃ r, w' = (w.drewN q).drewN r) := fun q => by have := canSpare_any p most ln ml capl aol (w.drewN q) t2 h64 l0; rw [show decide (most / 2 < ml) = false by simp; omega] at this; exact this
  have HSr : Hid (∀ q, Calls Try.prog 64 #[.pointer (some ⟨p, 0, none⟩), .pointer (some ⟨rn, 0, none⟩)] (w.drewN q) fun e w' => e = .returned (.bool true) ∧ ∃ r, w' = (w.drewN q).drewN r) := fun q => by have := canSpare_any p most rn mr capr aor (w.drewN q) t2 h64 r0; rw [show decide (most / 2 < mr) = true by simp; omega] at this; exact this
  clear hx t2 hcall
  go_enter Try.func50, Try.ntmps50
  go_wp2_with fail
  go_quiet ((go_at_call 63; exact Calls.quiet_of_same (HL.out _)))
  go_wp2_with (first
    | (go_at_call_of 64 ln; refine Calls.mono (HSl.out _) ?_; rintro e w5 ⟨rfl, q5, hw5⟩; rw [World.drewN_drewN] at hw5; obtain rfl := hw5.symm)
    | (go_at_call_of 64 rn; refine Calls.mono (HSr.out _) ?_; rintro e w6 ⟨rfl, q6, hw6⟩; rw [World.drewN_drewN] at hw6; obtain rfl := hw6.symm)
    | (go_at_call 66; refine Calls.mono (HC.out _) ?_; rintro e w9 ⟨rfl, hp9⟩; have HP9 : Hid (Post w9) := hp9; clear hp9))
  refine bodyPost_end (results_none rfl _ _ _) rfl ?_
  exact ⟨rfl, HP9.out⟩
set_option maxHeartbeats 1000000 in
/-- .. where the one behind can spare an item, and there is none ahead. -/
theorem refill_w2b {w : World} {n p a most gC l capC cn m capm rn mr capr capN : Nat} {aom aoN aor : Option Addr} {Post : World → Prop} (h64 : most ≤ 64) (t2 : w.cell? ⟨p, 2, none⟩ = some (.int .i64 (most : Int))) (n0 : w.cell? ⟨n, 0, none⟩ = some (.slice aoN l capN)) (n1 : w.cell? ⟨n, 1, none⟩ = some (.slice (some ⟨gC, 0, none⟩) (l + 1) capC)) (ca : w.cell? ⟨gC, a, none⟩ = some (.pointer (some ⟨cn, 0, none⟩))) (c0 : w.cell? ⟨cn, 0, none⟩ = some (.slice aom m capm)) (hm : m < most / 2) (hl : l ≤ 1000) (ha0 : a = 0) (hal : 0 < l) (cr : w.cell? ⟨gC, a + 1, none⟩ = some (.pointer (some ⟨rn, 0, none⟩))) (r0 : w.cell? ⟨rn, 0, none⟩ = some (.slice aor mr capr)) (hmr : most / 2 < mr) (hcall : ∀ q, Calls Try.prog 66 #[.pointer (some ⟨n, 0, none⟩), .int .i64 0] (w.drewN q) fun e w' => e = .returned (.tuple #[]) ∧ Post w') :
    Calls Try.prog 50 #[.pointer (some ⟨p, 0, none⟩), .pointer (some ⟨n, 0, none⟩), .int .i64 (a : Int)] w fun e w' => e = .returned (.tuple #[]) ∧ Post w' := by
  obtain ⟨x, hx⟩ : ∃ x, x = ((most / 2 : Nat) : Int) := ⟨_, rfl⟩
  have HL : Hid (∀ q, Calls Try.prog 63 #[.pointer (some ⟨p, 0, none⟩)] (w.drewN q) fun e w' => e = .returned (.int .i64 x) ∧ w' = w.drewN q) := fun q => by rw [hx]; exact least_any p most (w.drewN q) t2 h64
  have d1 : decide (x ≤ (m : Int)) = false := by rw [hx]; simp; omega
  have HC : Hid (∀ q, Calls Try.prog 66 #[.pointer (some ⟨n, 0, none⟩), .int .i64 0] (w.drewN q) fun e w' => e = .returned (.tuple #[]) ∧ Post w') := hcall
  subst ha0
  have hz1 : (0 : Int) < (l : Int) + 1 := by omega
  have hz2 : (1 : Int) < (l : Int) + 1 := by omega
  have d4 : decide ((0 : Int) < (l : Int)) = true := by rw [decide_eq_true_eq]; omega
  have hz3 : (0 : Int) < (l : Int) := by omega
  have hz4 : 0 < l := by omega
  have HSr : Hid (∀ q, Calls Try.prog 64 #[.pointer (some ⟨p, 0, none⟩), .pointer (some ⟨rn, 0, none⟩)] (w.drewN q) fun e w' => e = .returned (.bool true) ∧ ∃ r, w' = (w.drewN q).drewN r) := fun q => by have := canSpare_any p most rn mr capr aor (w.drewN q) t2 h64 r0; rw [show decide (most / 2 < mr) = true by simp; omega] at this; exact this
  clear hx t2 hcall
  go_enter Try.func50, Try.ntmps50
  go_wp2_with fail
  go_quiet ((go_at_call 63; exact Calls.quiet_of_same (HL.out _)))
  go_wp2_with (first
    | (go_at_call_of 64 rn; refine Calls.mono (HSr.out _) ?_; rintro e w6 ⟨rfl, q6, hw6⟩; rw [World.drewN_drewN] at hw6; obtain rfl := hw6.symm)
    | (go_at_call 66; refine Calls.mono (HC.out _) ?_; rintro e w9 ⟨rfl, hp9⟩; have HP9 : Hid (Post w9) := hp9; clear hp9))
  refine bodyPost_end (results_none rfl _ _ _) rfl ?_
  exact ⟨rfl, HP9.out⟩
set_option maxHeartbeats 1000000 in
/-- .. where neither neighbour can spare an item: joined to the one ahead. -/
theorem refill_w3a {w : World} {n p a most gC l capC cn m capm b ln ml capl rn mr capr capN : Nat} {aom aoN aol aor : Option Addr} {Post : World → Prop} (h64 : most ≤ 64) (t2 : w.cell? ⟨p, 2, none⟩ = some (.int .i64 (most : Int))) (n0 : w.cell? ⟨n, 0, none⟩ = some (.slice aoN l capN)) (n1 : w.cell? ⟨n, 1, none⟩ = some (.slice (some ⟨gC, 0, none⟩) (l + 1) capC)) (ca : w.cell? ⟨gC, a, none⟩ = some (.pointer (some ⟨cn, 0, none⟩))) (c0 : w.cell? ⟨cn, 0, none⟩ = some (.slice aom m capm)) (hm : m < most / 2) (hl : l ≤ 1000) (hab : a = b + 1) (hal : a < l) (cl : w.cell? ⟨gC, b, none⟩ = some (.pointer (some ⟨ln, 0, none⟩))) (l0 : w.cell? ⟨ln, 0, none⟩ = some (.slice aol ml capl)) (hml : ml ≤ most / 2) (cr : w.cell? ⟨gC, a + 1, none⟩ = some (.pointer (some ⟨rn, 0, none⟩))) (r0 : w.cell? ⟨rn, 0, none⟩ = some (.slice aor mr capr)) (hmr : mr ≤ most / 2) (hcall : ∀ q, Calls Try.prog 67 #[.pointer (some ⟨n, 0, none⟩), .int .i64 (b : Int)] (w.drewN q) fun e w' => e = .returned (.tuple #[]) ∧ Post w') :
    Calls Try.prog 50 #[.pointer (some ⟨p, 0, none⟩), .pointer (some ⟨n, 0, none⟩), .int .i64 (a : Int)] w fun e w' => e = .returned (.tuple #[]) ∧ Post w' := by
  obtain ⟨x, hx⟩ : ∃ x, x = ((most / 2 : Nat) : Int) := ⟨_, rfl⟩
  have HL : Hid (∀ q, Calls Try.prog 63 #[.pointer (some ⟨p, 0, none⟩)] (w.drewN q) fun e w' => e = .returned (.int .i64 x) ∧ w' = w.drewN q) := fun q => by rw [hx]; exact least_any p most (w.drewN q) t2 h64
  have d1 : decide (x ≤ (m : Int)) = false := by rw [hx]; simp; omega
  have HC : Hid (∀ q, Calls Try.prog 67 #[.pointer (some ⟨n, 0, none⟩), .int .i64 (b : Int)] (w.drewN q) fun e w' => e = .returned (.tuple #[]) ∧ Post w') := hcall
  subst hab
  have d2 : decide ((0 : Int) < ((b + 1 : Nat) : Int)) = true := by rw [decide_eq_true_eq]; omega
  have e1 : ((b + 1 : Nat) : Int) = (b : Int) + 1 := by omega
  have hb1 : (b : Int) + 1 < (l : Int) + 1 := by omega
  have hb2 : (b : Int) < (l : Int) + 1 := by omega
  have hb3 : (b : Int) + 1 + 1 < (l : Int) + 1 := by omega
  have d4 : decide ((b : Int) + 1 < (l : Int)) = true := by rw [decide_eq_true_eq]; omega
  have HSl : Hid (∀ q, Calls Try.prog 64 #[.pointer (some ⟨p, 0, none⟩), .pointer (some ⟨ln, 0, none⟩)] (w.drewN q) fun e w' => e = .returned (.bool false) ∧ ∃ r, w' = (w.drewN q).drewN r) := fun q => by have := canSpare_any p most ln ml capl aol (w.drewN q) t2 h64 l0; rw [show decide (most / 2 < ml) = false by simp; omega] at this; exact this
  have HSr : Hid (∀ q, Calls Try.prog 64 #[.pointer (some ⟨p, 0, none⟩), .pointer (some ⟨rn, 0, none⟩)] (w.drewN q) fun e w' => e = .returned (.bool false) ∧ ∃ r, w' = (w.drewN q).drewN r) := fun q => by have := canSpare_any p most rn mr capr aor (w.drewN q) t2 h64 r0; rw [show decide (most / 2 < mr) = false by simp; omega] at this; exact this
  clear hx t2 hcall
  go_enter Try.func50, Try.ntmps50
  go_wp2_with fail
  go_quiet ((go_at_call 63; exact Calls.quiet_of_same (HL.out _)))
  go_wp2_with (first
    | (go_at_call_of 64 ln; refine Calls.mono (HSl.out _) ?_; rintro e w5 ⟨rfl, q5, hw5⟩; rw [World.drewN_drewN] at hw5; obtain rfl := hw5.symm)
    | (go_at_call_of 64 rn; refine Calls.mono (HSr.out _) ?_; rintro e w6 ⟨rfl, q6, hw6⟩; rw [World.drewN_drewN] at hw6; obtain rfl := hw6.symm)
    | (go_at_call 67; refine Calls.mono (HC.out _) ?_; rintro e w9 ⟨rfl, hp9⟩; have HP9 : Hid (Post w9) := hp9; clear hp9))
  refine bodyPost_end (results_none rfl _ _ _) rfl ?_
  exact ⟨rfl, HP9.out⟩
set_option maxHeartbeats 1000000 in
/-- .. where the one ahead can spare no item, and there is none behind: joined to the one ahead. -/
theorem refill_w3b {w : World} {n p a most gC l capC cn m capm b ln ml capl capN : Nat} {aom aoN aol : Option Addr} {Post : World → Prop} (h64 : most ≤ 64) (t2 : w.cell? ⟨p, 2, none⟩ = some (.int .i64 (most : Int))) (n0 : w.cell? ⟨n, 0, none⟩ = some (.slice aoN l capN)) (n1 : w.cell? ⟨n, 1, none⟩ = some (.slice (some ⟨gC, 0, none⟩) (l + 1) capC)) (ca : w.cell? ⟨gC, a, none⟩ = some (.pointer (some ⟨cn, 0, none⟩))) (c0 : w.cell? ⟨cn, 0, none⟩ = some (.slice aom m capm)) (hm : m < most / 2) (hl : l ≤ 1000) (hab : a = b + 1) (hal : a ≤ l) (hla : l ≤ a) (cl : w.cell? ⟨gC, b, none⟩ = some (.pointer (some ⟨ln, 0, none⟩))) (l0 : w.cell? ⟨ln, 0, none⟩ = some (.slice aol ml capl)) (hml : ml ≤ most / 2) (hcall : ∀ q, Calls Try.prog 67 #[.pointer (some ⟨n, 0, none⟩), .int .i64 (b : Int)] (w.drewN q) fun e w' => e = .returned (.tuple #[]) ∧ Post w') :
    Calls Try.prog 50 #[.pointer (some ⟨p, 0, none⟩), .pointer (some ⟨n, 0, none⟩), .int .i64 (a : Int)] w fun e w' => e = .returned (.tuple #[]) ∧ Post w' := by
  obtain ⟨x, hx⟩ : ∃ x, x = ((most / 2 : Nat) : Int) := ⟨_, rfl⟩
  have HL : Hid (∀ q, Calls Try.prog 63 #[.pointer (some ⟨p, 0, none⟩)] (w.drewN q) fun e w' => e = .returned (.int .i64 x) ∧ w' = w.drewN q) := fun q => by rw [hx]; exact least_any p most (w.drewN q) t2 h64
  have d1 : decide (x ≤ (m : Int)) = false := by rw [hx]; simp; omega
  have HC : Hid (∀ q, Calls Try.prog 67 #[.pointer (some ⟨n, 0, none⟩), .int .i64 (b : Int)] (w.drewN q) fun e w' => e = .returned (.tuple #[]) ∧ Post w') := hcall
  subst hab
  have d2 : decide ((0 : Int) < ((b + 1 : Nat) : Int)) = true := by rw [decide_eq_true_eq]; omega
  have e1 : ((b + 1 : Nat) : Int) = (b : Int) + 1 := by omega
  have hb1 : (b : Int) + 1 < (l : Int) + 1 := by omega
  have hb2 : (b : Int) < (l : Int) + 1 := by omega
  have d4 : decide ((b : Int) + 1 < (l : Int)) = false := by rw [decide_eq_false_iff_not]; omega
  have HSl : Hid (∀ q, Calls Try.prog 64 #[.pointer (some ⟨p, 0, none⟩), .pointer (some ⟨ln, 0, none⟩)] (w.drewN q) fun e w' => e = .returned (.bool false) ∧ ∃ r, w' = (w.drewN q).drewN r) := fun q => by have := canSpare_any p most ln ml capl aol (w.drewN q) t2 h64 l0; rw [show decide (most / 2 < ml) = false by simp; omega] at this; exact this
  clear hx t2 hcall
  go_enter Try.func50, Try.ntmps50
  go_wp2_with fail
  go_quiet ((go_at_call 63; exact Calls.quiet_of_same (HL.out _)))
  go_wp2_with (first
    | (go_at_call_of 64 ln; refine Calls.mono (HSl.out _) ?_; rintro e w5 ⟨rfl, q5, hw5⟩; rw [World.drewN_drewN] at hw5; obtain rfl := hw5.symm)
    | (go_at_call 67; refine Calls.mono (HC.out _) ?_; rintro e w9 ⟨rfl, hp9⟩; have HP9 : Hid (Post w9) := hp9; clear hp9))
  refine bodyPost_end (results_none rfl _ _ _) rfl ?_
  exact ⟨rfl, HP9.out⟩
set_option maxHeartbeats 1000000 in
/-- .. where there is none ahead, and the one behind can spare no item: joined to that. -/
theorem refill_w4 {w : World} {n p a most gC l capC cn m capm rn mr capr capN : Nat} {aom aoN aor : Option Addr} {Post : World → Prop} (h64 : most ≤ 64) (t2 : w.cell? ⟨p, 2, none⟩ = some (.int .i64 (most : Int))) (n0 : w.cell? ⟨n, 0, none⟩ = some (.slice aoN l capN)) (n1 : w.cell? ⟨n, 1, none⟩ = some (.slice (some ⟨gC, 0, none⟩) (l + 1) capC)) (ca : w.cell? ⟨gC, a, none⟩ = some (.pointer (some ⟨cn, 0, none⟩))) (c0 : w.cell? ⟨cn, 0, none⟩ = some (.slice aom m capm)) (hm : m < most / 2) (hl : l ≤ 1000) (ha0 : a = 0) (hal : 0 < l) (cr : w.cell? ⟨gC, a + 1, none⟩ = some (.pointer (some ⟨rn, 0, none⟩))) (r0 : w.cell? ⟨rn, 0, none⟩ = some (.slice aor mr capr)) (hmr : mr ≤ most / 2) (hcall : ∀ q, Calls Try.prog 67 #[.pointer (some ⟨n, 0, none⟩), .int .i64 0] (w.drewN q) fun e w' => e = .returned (.tuple #[]) ∧ Post w') :
    Calls Try.prog 50 #[.pointer (some ⟨p, 0, none⟩), .pointer (some ⟨n, 0, none⟩), .int .i64 (a : Int)] w fun e w' => e = .returned (.tuple #[]) ∧ Post w' := by
  obtain ⟨x, hx⟩ : ∃ x, x = ((most / 2 : Nat) : Int) := ⟨_, rfl⟩
  have HL : Hid (∀ q, Calls Try.prog 63 #[.pointer (some ⟨p, 0, none⟩)] (w.drewN q) fun e w' => e = .returned (.int .i64 x) ∧ w' = w.drewN q) := fun q => by rw [hx]; exact least_any p most (w.drewN q) t2 h64
  have d1 : decide (x ≤ (m : Int)) = false := by rw [hx]; simp; omega
  have HC : Hid (∀ q, Calls Try.prog 67 #[.pointer (some ⟨n, 0, none⟩), .int .i64 0] (w.drewN q) fun e w' => e = .returned (.tuple #[]) ∧ Post w') := hcall
  subst ha0
  have hz1 : (0 : Int) < (l : Int) + 1 := by omega
  have hz2 : (1 : Int) < (l : Int) + 1 := by omega
  have d4 : decide ((0 : Int) < (l : Int)) = true := by rw [decide_eq_true_eq]; omega
  have hz3 : (0 : Int) < (l : Int) := by omega
  have hz4 : 0 < l := by omega
  have HSr : Hid (∀ q, Calls Try.prog 64 #[.pointer (some ⟨p, 0, none⟩), .pointer (some ⟨rn, 0, none⟩)] (w.drewN q) fun e w' => e = .returned (.bool false) ∧ ∃ r, w' = (w.drewN q).drewN r) := fun q => by have := canSpare_any p most rn mr capr aor (w.drewN q) t2 h64 r0; rw [show decide (most / 2 < mr) = false by simp; omega] at this; exact this
  clear hx t2 hcall
  go_enter Try.func50, Try.ntmps50
  go_wp2_with fail
  go_quiet ((go_at_call 63; exact Calls.quiet_of_same (HL.out _)))
  go_wp2_with (first
    | (go_at_call_of 64 rn; refine Calls.mono (HSr.out _) ?_; rintro e w6 ⟨rfl, q6, hw6⟩; rw [World.drewN_drewN] at hw6; obtain rfl := hw6.symm)
    | (go_at_call 67; refine Calls.mono (HC.out _) ?_; rintro e w9 ⟨rfl, hp9⟩; have HP9 : Hid (Post w9) := hp9; clear hp9))
  refine bodyPost_end (results_none rfl _ _ _) rfl ?_
  exact ⟨rfl, HP9.out⟩
end Go.Proofs.Ytelfjgnmbikofaa
