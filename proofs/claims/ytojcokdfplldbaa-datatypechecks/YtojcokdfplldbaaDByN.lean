/-
  The program's Bytes at a number's type. Conditions: the type may be, and lies in memory.
-/
import Derived.Test.YtojcokdfplldbaaDPut
import Derived.Test.YtojcokdfplldbaaTail
import Derived.Lib.QuietBelow
namespace Go.Proofs.Ytojcokdfplldbaa
open Go.RowKit Go.Shelf
set_option linter.unusedVariables false
set_option maxRecDepth 100000

theorem numErr1 {u : Int} (h0 : 0 ≤ u) (h1 : u < 256) : numErr u ((1 : Nat) : Int) = 0 := by
  rw [numErr, if_pos (by decide)]
  rw [if_pos]
  show u / 256 = 0
  omega
theorem dig21 {u : Int} (h0 : 0 ≤ u) (h1 : u < 256) : dig2 true u 1 = [u] := by
  have : dig2 true u 1 = [u % 256] := by simp [dig2, digs, qd]
  rw [this]
  congr 1
  omega
theorem put1_any (n : Int) (po B : Nat) (v : Value) (l : List Int) (w : World) (hB : B ≤ w.heap.size) (hs : QS w po B v l) (hl : l.length ≤ 100000) (hn : 0 ≤ n ∧ n < 256) :
    Calls Try.prog 42 #[.int .i64 1, .int .i64 n, .pointer (some ⟨po, 0, none⟩)] w (QP w po B v (l ++ [n])) := by
  have hu : IntKind.u64.wrap n = n := by rw [IntKind.wrap_u64]; omega
  have := putN_any 1 n po B v l w hB hs hl (by omega) (by rw [hu]; exact numErr1 hn.1 hn.2)
  rw [hu, dig21 hn.1 hn.2] at this
  exact this
theorem bit_any (b : Bool) (w : World) : Calls Try.prog 47 #[.bool b] w fun e w' => e = .returned (.int .i64 (if b then 1 else 0)) ∧ w' = w := by
  cases b
  all_goals
    go_enter Try.func47, Try.ntmps47
    go_wp2_with fail
    go_ret
    exact ⟨rfl, rfl⟩
def PuC (w : World) (pa po : Nat) : Prop := w.cell? ⟨pa, 0, none⟩ = some (.func (.func 42) #[] #[.pointer (some ⟨po, 0, none⟩)])
theorem QS.mvB {w w1 : World} {b po : Nat} {v v' : Value} {c wd : Int} {x : Bool} {f d y n : Value} (h : Bx w b c wd x f d y n) (m : Mv w w1 po v v') (hb : b ≠ po) (hv : ∀ g, v.ownBlock = some g → g ≠ b) : Bx w1 b c wd x f d y n := by
  have K : ∀ {i : Nat} {x : Value}, w.cell? ⟨b, i, none⟩ = some x → w1.cell? ⟨b, i, none⟩ = some x := fun h => m.kp.cell h (fun e => e.elim hb (fun e => hv _ e rfl))
  exact ⟨K h.c0, K h.c1, K h.c2, K h.c3, K h.c4, K h.c5, K h.c6⟩
set_option maxHeartbeats 16000000 in
theorem walkBN_any (c wd : Int) (b : Bool) (fa : Option Addr) (fn fc : Nat) (da : Option Addr) (dn dc : Nat) (ba : Option Addr) (bn bc : Nat) (na : Option Addr) (nn nc : Nat) (pa pb pc po B : Nat) (v : Value) (l : List Int) (w : World) (hc : c = 1 ∨ c = 2 ∨ c = 3 ∨ c = 4) (hw : 1 ≤ wd ∧ wd ≤ 8) (hpa : pa < B) (hne : pa ≠ po) (hP : PuC w pa po) (hB : B ≤ w.heap.size) (hs : QS w po B v l) (hl : l.length ≤ 1000) :
    Calls Try.prog 46 #[.agg #[.int .i64 c, .int .i64 wd, .bool b, .slice fa fn fc, .slice da dn dc, .slice ba bn bc, .slice na nn nc], .pointer (some ⟨pa, 0, none⟩), .pointer (some ⟨pb, 0, none⟩), .pointer (some ⟨pc, 0, none⟩)] w (QP w po B v (l ++ [c, wd, if b then 1 else 0])) := by
  have eg : ∀ args w, (callFunc 42 args).run Try.prog w = .ok (.enter 42 args) w := enters_of Try.func42 (by kernel_rfl) rfl
  obtain ⟨w1, hw1, hb1, hs1, hx1⟩ := bx_made w c wd b (.slice fa fn fc) (.slice da dn dc) (.slice ba bn bc) (.slice na nn nc)
  have HB1 : Hid (Below w.heap.size w w1) := hb1
  have HX1 : Hid (Bx w1 w.heap.size c wd b (.slice fa fn fc) (.slice da dn dc) (.slice ba bn bc) (.slice na nn nc)) := hx1
  have HS1 : Hid (QS w1 po B v l) := hs.below hb1
  have HV : Hid (∀ g, v.ownBlock = some g → g ≠ w.heap.size) := fun g hg => by have := (hs.lts g hg).2; omega
  have HPP : Hid (w.heap.size ≠ po) := by have : po < w.heap.size := World.block_lt_of_cell? w _ hs.cell; rw [Hid]; omega
  have HBS : Hid (B ≤ w1.heap.size) := Nat.le_trans hB hb1.size
  have hP1 : PuC w1 pa po := (hb1.cell (World.block_lt_of_cell? w _ hP)).trans hP
  have HPM : Hid (∀ w' v', Mv w1 w' po v v' → w'.cell? ⟨pa, 0, none⟩ = some (.func (.func 42) #[] #[.pointer (some ⟨po, 0, none⟩)])) := fun w' v' m => m.kp.cell hP1 (fun e => e.elim hne (fun e => by have := (hs.lts pa e).1; omega))
  have k1 : w1.cell? ⟨pa, 0, none⟩ = some (.func (.func 42) #[] #[.pointer (some ⟨po, 0, none⟩)]) := hP1
  have HC1 : Hid (Calls Try.prog 42 #[.int .i64 1, .int .i64 c, .pointer (some ⟨po, 0, none⟩)] w1 (QP w1 po B v (l ++ [c]))) := put1_any c po B v l w1 HBS.out HS1.out (by omega) (by omega)
  have HC2 : Hid (∀ w' v', Mv w1 w' po v v' → QS w' po B v' (l ++ [c]) → Calls Try.prog 42 #[.int .i64 1, .int .i64 wd, .pointer (some ⟨po, 0, none⟩)] w' (QP w' po B v' (l ++ [c] ++ [wd]))) := fun w' v' m q => put1_any wd po B v' _ w' (Nat.le_trans HBS.out m.kp.size) q (by rw [List.length_append]; simp; omega) (by omega)
  have HC3 : Hid (∀ w' v', Mv w1 w' po v v' → QS w' po B v' (l ++ [c] ++ [wd]) → Calls Try.prog 42 #[.int .i64 1, .int .i64 (if b then 1 else 0), .pointer (some ⟨po, 0, none⟩)] w' (QP w' po B v' (l ++ [c] ++ [wd] ++ [if b then 1 else 0]))) := fun w' v' m q => put1_any _ po B v' _ w' (Nat.le_trans HBS.out m.kp.size) q (by rw [List.length_append, List.length_append]; simp; omega) (by cases b <;> simp)
  have HBT : Hid (∀ w', Calls Try.prog 47 #[.bool b] w' fun e w2 => e = .returned (.int .i64 (if b then 1 else 0)) ∧ w2 = w') := fun w' => bit_any b w'
  have HJ : Hid (l ++ [c] ++ [wd] ++ [if b then 1 else 0] = l ++ [c, wd, if b then 1 else 0]) := by rw [Hid]; simp
  obtain ⟨bt, hbt⟩ : ∃ x : Int, (if b then 1 else 0 : Int) = x := ⟨_, rfl⟩
  rw [hbt] at HC3 HBT HJ ⊢
  obtain ⟨c0, c1, c2, c3, c4, c5, c6⟩ := hx1
  clear hb1 hs1 hs hP hB hP1 hbt
  have HBT2 : Hid (∀ w', Calls Try.prog 47 #[.bool b] w' fun e w2 => e = .returned (.int .i64 bt) ∧ Below w'.heap.size w' w2) := fun w' => (HBT.out w').mono (fun e w2 h => ⟨h.1, by rw [h.2]; exact Below.refl _ _⟩)
  rcases hc with rfl | rfl | rfl | rfl
  all_goals
    go_enter Try.func46, Try.ntmps46
    go_upto_region 7 with (go_at_call 42; refine Calls.mono HC1.out ?_; rintro e w5 ⟨rfl, v5, hs5, hm5⟩; have HS5 : Hid _ := hs5; have HM5 : Hid (Mv w1 w5 po v v5) := hm5; obtain ⟨e0, e1, e2, e3, e4, e5, e6⟩ := QS.mvB HX1.out hm5 HPP.out HV.out; have k5 := HPM.out w5 v5 hm5; clear hs5 hm5)
    go_upto_region 8 with (go_at_call 42; refine Calls.mono (HC2.out _ _ HM5.out HS5.out) ?_; rintro e w6 ⟨rfl, v6, hs6, hm6⟩; have HS6 : Hid (QS w6 po B v6 (l ++ [_] ++ [wd])) := hs6; have HM6 : Hid (Mv w1 w6 po v v6) := HM5.out.trans hm6; obtain ⟨f0, f1, f2, f3, f4, f5, f6⟩ := QS.mvB HX1.out HM6.out HPP.out HV.out; have k6 := HPM.out w6 v6 HM6.out; clear hs6 hm6)
    clear e0 e1 e2 e3 e4 e5 e6 k5
    replace f2 := cell_regrown f2
    replace k6 := cell_regrown k6
    clear f0 f1 f3 f4 f5 f6 c0 c1 c2 c3 c4 c5 c6 k1
    refine wp_region_quiet_tail (C := fun w' => ∃ p : Regrown, w' = Sort.grow (redrawn w6 p.d) p.os) 4 (by kernel_rfl) (by kernel_rfl) ⟨⟨w6.drawn + 1, #[]⟩, by rw [Sort.grow_empty]; rfl⟩ ?_
    simp only [List.take_succ_cons, List.take_zero, List.drop_succ_cons, List.drop_zero]
    repeat (go_big_quiet_step ((go_at_call 47; exact Calls.regrown_of (HBT2.out _))))
    refine wpQuiet_nil ?_
    intro w7 hw7
    have HB7 : Hid (Below w6.heap.size w6 w7) := by obtain ⟨p, e⟩ := hw7; rw [e]; exact below_regrown w6 p.d p.os
    clear hw7 f2 k6
    go_wp2_with (go_at_call 42; refine Calls.mono (HC3.out _ _ (HM6.out.trans (Mv.of HB7.out)) (HS6.out.below HB7.out)) ?_; rintro e w8 ⟨rfl, v8, hs8, hm8⟩; have HS8 : Hid _ := hs8; have HM8 : Hid (Mv w1 w8 po v v8) := (HM6.out.trans (Mv.of HB7.out)).trans hm8; clear hs8 hm8)
    go_end0
    exact ⟨rfl, _, by rw [← HJ.out]; exact HS8.out, (Mv.of HB1.out).trans HM8.out⟩
end Go.Proofs.Ytojcokdfplldbaa
