/-
  The program's areNamed, of fields and of members: neither none nor too many, with names that are names and all unlike. Conditions: the parts lie in memory.
-/
import Derived.Test.YtojcokdfplldbaaDSmall
import Derived.Lib.QuietBelow
import Derived.BigQuiet
import Derived.Shelf.Abstract
namespace Go.Proofs.Ytojcokdfplldbaa
open Go.RowKit Go.Shelf
set_option linter.unusedVariables false
set_option maxRecDepth 100000

theorem bel_next {w w1 w2 : World} (h : Below w.heap.size w w1) (h2 : Below w1.heap.size w1 w2) : Below w.heap.size w w2 := h.trans (h2.mono h.size)
/-- Names that are names and all unlike, so far. -/
def namesTo (L : List ByteArray) : Nat → Bool
  | 0 => true
  | i + 1 => namesTo L i && (match L[i]? with | some s => nameB s && !(L.take i).any (fun t => t.toList == s.toList) | none => true)
/-- Parts that are neither none nor too many, with names that are all unlike. -/
def namesB (L : List ByteArray) : Bool := decide (1 ≤ L.length ∧ L.length ≤ 16) && namesTo L L.length
theorem namesTo_succ {L : List ByteArray} {i : Nat} {s : ByteArray} (hi : L[i]? = some s) : namesTo L (i + 1) = (namesTo L i && (nameB s && !(L.take i).any (fun t => t.toList == s.toList))) := by rw [namesTo, hi]
theorem namesTo_no {L : List ByteArray} {i : Nat} (h : namesTo L i = false) : ∀ k, i ≤ k → namesTo L k = false
  | 0, hk => by rw [show i = 0 by omega] at h; exact h
  | k + 1, hk => by
    by_cases e : i = k + 1
    · rw [← e]; exact h
    · rw [namesTo, namesTo_no h k (by omega)]; rfl
theorem namesB_no {L : List ByteArray} {i : Nat} {s : ByteArray} (hi : L[i]? = some s) (h : (nameB s && !(L.take i).any (fun t => t.toList == s.toList)) = false) : namesB L = false := by
  have h1 : namesTo L (i + 1) = false := by rw [namesTo_succ hi, h, Bool.and_false]
  have hl := (List.getElem?_eq_some_iff.1 hi).1
  rw [namesB, namesTo_no h1 _ (by omega), Bool.and_false]
/-- The nine cells of a field, the two of a member, in a block of their own. -/
structure FC (w : World) (p : Nat) (s : ByteArray) (a g1 g2 : Int) (g3 : Bool) (f d y n : Value) : Prop where
  c0 : w.cell? ⟨p, 0, none⟩ = some (.string s)
  c1 : w.cell? ⟨p, 1, none⟩ = some (.int .i64 a)
  c2 : w.cell? ⟨p, 2, none⟩ = some (.int .i64 g1)
  c3 : w.cell? ⟨p, 3, none⟩ = some (.int .i64 g2)
  c4 : w.cell? ⟨p, 4, none⟩ = some (.bool g3)
  c5 : w.cell? ⟨p, 5, none⟩ = some (f)
  c6 : w.cell? ⟨p, 6, none⟩ = some (d)
  c7 : w.cell? ⟨p, 7, none⟩ = some (y)
  c8 : w.cell? ⟨p, 8, none⟩ = some (n)
theorem FC.below {w w' : World} {p : Nat} {s : ByteArray} {a g1 g2 : Int} {g3 : Bool} {f d y n : Value} (h : FC w p s a g1 g2 g3 f d y n) (hb : Below w.heap.size w w') : FC w' p s a g1 g2 g3 f d y n := by
  have K : ∀ {p : Addr} {x : Value}, w.cell? p = some x → w'.cell? p = some x := fun h => (hb.cell (World.block_lt_of_cell? w _ h)).trans h
  exact ⟨K h.c0, K h.c1, K h.c2, K h.c3, K h.c4, K h.c5, K h.c6, K h.c7, K h.c8⟩
theorem fc_made (w : World) (s : ByteArray) (a g1 g2 : Int) (g3 : Bool) (f d y n : Value) : ∃ w1, w.alloc (.cells #[.string s, .int .i64 a, .int .i64 g1, .int .i64 g2, .bool g3, f, d, y, n] 66) = w1 ∧ Below w.heap.size w w1 ∧ w1.heap.size = w.heap.size + 1 ∧ FC w1 w.heap.size s a g1 g2 g3 f d y n := by
  refine ⟨_, rfl, (Below.refl _ _).alloc (Nat.le_refl _) _, World.size_alloc _ _, ?_⟩
  constructor <;> (rw [World.cell?_alloc_mark]; rfl)
theorem fName_any (s : ByteArray) (a g1 g2 : Int) (g3 : Bool) (f d y n : Value) (w : World) : Calls Try.prog 74 #[.agg #[.string s, .int .i64 a, .int .i64 g1, .int .i64 g2, .bool g3, f, d, y, n]] w fun e w' => e = .returned (.string s) ∧ Below w.heap.size w w' := by
  obtain ⟨w1, hw1, hb1, hs1, h1⟩ := fc_made w s a g1 g2 g3 f d y n
  have HB1 : Hid (Below w.heap.size w w1) := hb1
  have c0 := h1.c0
  clear hb1 hs1 h1
  go_enter Try.func74, Try.ntmps74
  go_wp2_with fail
  go_ret
  exact ⟨rfl, HB1.out⟩
set_option maxHeartbeats 8000000 in
theorem fTaken_any (ts : ByteArray) (ta tg1 tg2 : Int) (tg3 : Bool) (tf td ty tn : Value) (s : ByteArray) (a g1 g2 : Int) (g3 : Bool) (f d y n : Value) (p3 p6 : Nat) (w : World) (h3 : w.cell? ⟨p3, 0, none⟩ = some (.func (.func 74) #[] #[])) (h6 : FC w p6 s a g1 g2 g3 f d y n) :
    Calls Try.prog 90 #[.agg #[.string ts, .int .i64 ta, .int .i64 tg1, .int .i64 tg2, .bool tg3, tf, td, ty, tn], .pointer (some ⟨p3, 0, none⟩), .pointer (some ⟨p6, 0, none⟩)] w fun e w' => e = .returned (.bool (ts.toList == s.toList)) ∧ Below w.heap.size w w' := by
  have eg : ∀ args w, (callFunc 74 args).run Try.prog w = .ok (.enter 74 args) w := enters_of Try.func74 (by kernel_rfl) rfl
  obtain ⟨w1, hw1, hb1, hs1, h1⟩ := fc_made w ts ta tg1 tg2 tg3 tf td ty tn
  have HB1 : Hid (Below w.heap.size w w1) := hb1
  have H3 : Hid (w1.cell? ⟨p3, 0, none⟩ = some (.func (.func 74) #[] #[])) := (hb1.cell (World.block_lt_of_cell? w _ h3)).trans h3
  have H6 : Hid (FC w1 p6 s a g1 g2 g3 f d y n) := h6.below hb1
  have HT : Hid (FC w1 w.heap.size ts ta tg1 tg2 tg3 tf td ty tn) := h1
  have r3 := cell_regrown H3.out
  obtain ⟨x0, x1, x2, x3, x4, x5, x6, x7, x8⟩ := H6.out
  obtain ⟨y0, y1, y2, y3, y4, y5, y6, y7, y8⟩ := HT.out
  replace x0 := cell_regrown x0
  replace x1 := cell_regrown x1
  replace x2 := cell_regrown x2
  replace x3 := cell_regrown x3
  replace x4 := cell_regrown x4
  replace x5 := cell_regrown x5
  replace x6 := cell_regrown x6
  replace x7 := cell_regrown x7
  replace x8 := cell_regrown x8
  replace y0 := cell_regrown y0
  replace y1 := cell_regrown y1
  replace y2 := cell_regrown y2
  replace y3 := cell_regrown y3
  replace y4 := cell_regrown y4
  replace y5 := cell_regrown y5
  replace y6 := cell_regrown y6
  replace y7 := cell_regrown y7
  replace y8 := cell_regrown y8
  have HN1 : Hid (∀ w', Calls Try.prog 74 #[.agg #[.string s, .int .i64 a, .int .i64 g1, .int .i64 g2, .bool g3, f, d, y, n]] w' fun e w2 => e = .returned (.string s) ∧ Below w'.heap.size w' w2) := fun w' => fName_any s a g1 g2 g3 f d y n w'
  have HN2 : Hid (∀ w', Calls Try.prog 74 #[.agg #[.string ts, .int .i64 ta, .int .i64 tg1, .int .i64 tg2, .bool tg3, tf, td, ty, tn]] w' fun e w2 => e = .returned (.string ts) ∧ Below w'.heap.size w' w2) := fun w' => fName_any ts ta tg1 tg2 tg3 tf td ty tn w'
  clear h3 h6 h1 hb1 hs1 H3 H6 HT
  go_enter Try.func90, Try.ntmps90
  go_upto_region 1 with fail
  refine wp_region_quiet_below (by kernel_rfl) (by kernel_rfl) ?_
  repeat (go_big_quiet_step ((go_at_call 74; first | exact Calls.regrown_of (HN1.out _) | exact Calls.regrown_of (HN2.out _))))
  refine wpQuiet_nil ?_
  intro w4 hw4
  have HB4 : Hid (Below w.heap.size w w4) := by obtain ⟨p, e⟩ := hw4; rw [e]; exact HB1.out.trans ((below_regrown w1 p.d p.os).mono HB1.out.size)
  clear hw4
  go_wp2_with fail
  go_ret
  exact ⟨rfl, HB4.out⟩

set_option maxHeartbeats 8000000 in
theorem fIndex_any {α : Type} {R : World → TV → α → Prop} {h : α → Int × Int × Bool} (v : Value) (l : List (ByteArray × Int × α)) (s : ByteArray) (a g1 g2 : Int) (g3 : Bool) (f d y n : Value) (p3 p6 : Nat) (w : World) (hl : FsR R h w v l) (h3 : w.cell? ⟨p3, 0, none⟩ = some (.func (.func 74) #[] #[])) (h6 : FC w p6 s a g1 g2 g3 f d y n) :
    Calls Try.prog 99 #[v, .func (.func 90) #[] #[.pointer (some ⟨p3, 0, none⟩), .pointer (some ⟨p6, 0, none⟩)]] w fun e w' => (∃ z : Int, e = .returned (.int .i64 z) ∧ decide (0 ≤ z) = l.any (fun q => q.1.toList == s.toList)) ∧ Below w.heap.size w w' := by
  have eg : ∀ args w, (callFunc 90 args).run Try.prog w = .ok (.enter 90 args) w := enters_of Try.func90 (by kernel_rfl) rfl
  have HX : Hid _ := hl
  have H3 : Hid _ := h3
  have H6 : Hid _ := h6
  obtain ⟨ao, cap, rfl, hcap, -⟩ := hl.is
  obtain ⟨N, hN⟩ : ∃ N, l.length = N := ⟨_, rfl⟩
  have HN : Hid (l.length = N) := hN
  have hlen := hl.len
  rw [hN] at HX hcap hlen ⊢
  clear hl h3 h6 hN
  have HC : Hid (∀ (ts : ByteArray) (ta tg1 tg2 : Int) (tg3 : Bool) (tf td ty tn : Value) (w' : World), Below w.heap.size w w' → Calls Try.prog 90 #[.agg #[.string ts, .int .i64 ta, .int .i64 tg1, .int .i64 tg2, .bool tg3, tf, td, ty, tn], .pointer (some ⟨p3, 0, none⟩), .pointer (some ⟨p6, 0, none⟩)] w' fun e w2 => e = .returned (.bool (ts.toList == s.toList)) ∧ Below w'.heap.size w' w2) := fun ts ta tg1 tg2 tg3 tf td ty tn w' hb => fTaken_any ts ta tg1 tg2 tg3 tf td ty tn s a g1 g2 g3 f d y n p3 p6 w' ((hb.cell (World.block_lt_of_cell? w _ H3.out)).trans H3.out) (H6.out.below hb)
  clear H3 H6
  go_enter Try.func99, Try.ntmps99
  go_wp2_with fail
  go_loopw [8] (fun y wr => ∃ i : Nat, i ≤ N ∧ y = .int .i64 (i : Int) ∧ Hid ((l.take i).any (fun q => q.1.toList == s.toList) = false) ∧ Hid (Below w.heap.size w wr)) (fun y _ => N - (intOf y).toNat)
  case atStart => exact ⟨0, by omega, by simp, by simp [Hid], Below.refl _ _⟩
  case round =>
    obtain ⟨i, hin, rfl, HP, HB⟩ := hrel
    by_cases hlt : i < N
    · obtain ⟨g, o, U, q, rfl, hq, hqr, hu, k0, k1, k2, k3, k4, k5, k6, k7, k8⟩ := HX.out.at hlt
      have HQ : Hid (∀ b, (q.1.toList == s.toList) = b → (l.take (i + 1)).any (fun q => q.1.toList == s.toList) = b) := fun b hb => by rw [List.take_add_one, hq, List.any_append, HP.out]; simp [hb]
      have HQ2 : Hid ((q.1.toList == s.toList) = true → l.any (fun q => q.1.toList == s.toList) = true) := fun hb => List.any_eq_true.2 ⟨q, List.mem_of_getElem? hq, hb⟩
      have K : ∀ {p : Addr} {x : Value}, w.cell? p = some x → wr.cell? p = some x := fun h => (HB.out.cell (World.block_lt_of_cell? w _ h)).trans h
      replace k0 := K k0
      replace k1 := K k1
      replace k2 := K k2
      replace k3 := K k3
      replace k4 := K k4
      replace k5 := K k5
      replace k6 := K k6
      replace k7 := K k7
      replace k8 := K k8
      clear K hq hqr hu
      obtain ⟨b, hb⟩ : ∃ b, (q.1.toList == s.toList) = b := ⟨_, rfl⟩
      have HCC : Hid _ := HC.out q.1 q.2.1 (h q.2.2).1 (h q.2.2).2.1 (h q.2.2).2.2 U.f U.d U.b U.n wr HB.out
      rw [hb] at HCC HQ2
      have HQ3 : Hid _ := HQ.out b hb
      clear HQ HC hb
      generalize q.1 = z0 at *
      generalize q.2.1 = z1 at *
      generalize (h q.2.2).1 = z2 at *
      generalize (h q.2.2).2.1 = z3 at *
      generalize (h q.2.2).2.2 = z4 at *
      generalize U.f = z5 at *
      generalize U.d = z6 at *
      generalize U.b = z7 at *
      generalize U.n = z8 at *
      cases b with
      | true =>
        have HT : Hid (decide (0 ≤ (i : Int)) = l.any (fun q => q.1.toList == s.toList)) := by rw [Hid, HQ2.out rfl]; simp
        clear HQ2 HQ3
        go_wp2_with (go_at_call 90; refine Calls.mono HCC.out ?_; rintro e w5 ⟨rfl, hb5⟩; have HB5 : Hid (Below w.heap.size w w5) := bel_next HB.out hb5; clear hb5)
        go_ret
        exact ⟨⟨_, rfl, HT.out⟩, HB5.out⟩
      | false =>
        go_wp2_with (go_at_call 90; refine Calls.mono HCC.out ?_; rintro e w5 ⟨rfl, hb5⟩; have HB5 : Hid (Below w.heap.size w w5) := bel_next HB.out hb5; clear hb5)
        go_roundw
        case rel => exact ⟨i + 1, by omega, by go_num, HQ3.out, HB5.out⟩
        case measure => simp [intOf]; omega
    · have HE : Hid (l.any (fun q => q.1.toList == s.toList) = false) := by rw [Hid, ← HP.out, List.take_of_length_le (by rw [HN.out]; omega)]
      go_wp2_with fail
      go_ret
      exact ⟨⟨-1, rfl, by rw [HE.out]; rfl⟩, HB.out⟩
theorem fContains_any {α : Type} {R : World → TV → α → Prop} {h : α → Int × Int × Bool} (v : Value) (l : List (ByteArray × Int × α)) (s : ByteArray) (a g1 g2 : Int) (g3 : Bool) (f d y n : Value) (p3 p6 : Nat) (w : World) (hl : FsR R h w v l) (h3 : w.cell? ⟨p3, 0, none⟩ = some (.func (.func 74) #[] #[])) (h6 : FC w p6 s a g1 g2 g3 f d y n) :
    Calls Try.prog 89 #[v, .func (.func 90) #[] #[.pointer (some ⟨p3, 0, none⟩), .pointer (some ⟨p6, 0, none⟩)]] w fun e w' => e = .returned (.bool (l.any (fun q => q.1.toList == s.toList))) ∧ Below w.heap.size w w' := by
  have HI : Hid _ := fIndex_any v l s a g1 g2 g3 f d y n p3 p6 w hl h3 h6
  generalize l.any (fun q => q.1.toList == s.toList) = b at *
  obtain ⟨ao, cap, rfl, hcap, -⟩ := hl.is
  clear hl h3 h6
  go_enter Try.func89, Try.ntmps89
  go_wp2_with (go_at_call 99; refine Calls.mono HI.out ?_; rintro e w5 ⟨⟨z, rfl, hz⟩, hb5⟩; have HB5 : Hid (Below w.heap.size w w5) := hb5; have HZ : Hid _ := hz; clear hb5 hz)
  go_ret
  exact ⟨by rw [← HZ.out]; rfl, HB5.out⟩
structure MC (w : World) (p : Nat) (s : ByteArray) (a : Int) : Prop where
  c0 : w.cell? ⟨p, 0, none⟩ = some (.string s)
  c1 : w.cell? ⟨p, 1, none⟩ = some (.int .i64 a)
theorem MC.below {w w' : World} {p : Nat} {s : ByteArray} {a : Int} (h : MC w p s a) (hb : Below w.heap.size w w') : MC w' p s a := by
  have K : ∀ {p : Addr} {x : Value}, w.cell? p = some x → w'.cell? p = some x := fun h => (hb.cell (World.block_lt_of_cell? w _ h)).trans h
  exact ⟨K h.c0, K h.c1⟩
theorem mc_made (w : World) (s : ByteArray) (a : Int) : ∃ w1, w.alloc (.cells #[.string s, .int .i64 a] 69) = w1 ∧ Below w.heap.size w w1 ∧ w1.heap.size = w.heap.size + 1 ∧ MC w1 w.heap.size s a := by
  refine ⟨_, rfl, (Below.refl _ _).alloc (Nat.le_refl _) _, World.size_alloc _ _, ?_⟩
  constructor <;> (rw [World.cell?_alloc_mark]; rfl)
theorem mName_any (s : ByteArray) (a : Int) (w : World) : Calls Try.prog 76 #[.agg #[.string s, .int .i64 a]] w fun e w' => e = .returned (.string s) ∧ Below w.heap.size w w' := by
  obtain ⟨w1, hw1, hb1, hs1, h1⟩ := mc_made w s a
  have HB1 : Hid (Below w.heap.size w w1) := hb1
  have c0 := h1.c0
  clear hb1 hs1 h1
  go_enter Try.func76, Try.ntmps76
  go_wp2_with fail
  go_ret
  exact ⟨rfl, HB1.out⟩
set_option maxHeartbeats 8000000 in
theorem mTaken_any (ts : ByteArray) (ta : Int) (s : ByteArray) (a : Int) (p3 p6 : Nat) (w : World) (h3 : w.cell? ⟨p3, 0, none⟩ = some (.func (.func 76) #[] #[])) (h6 : MC w p6 s a) :
    Calls Try.prog 92 #[.agg #[.string ts, .int .i64 ta], .pointer (some ⟨p3, 0, none⟩), .pointer (some ⟨p6, 0, none⟩)] w fun e w' => e = .returned (.bool (ts.toList == s.toList)) ∧ Below w.heap.size w w' := by
  have eg : ∀ args w, (callFunc 76 args).run Try.prog w = .ok (.enter 76 args) w := enters_of Try.func76 (by kernel_rfl) rfl
  obtain ⟨w1, hw1, hb1, hs1, h1⟩ := mc_made w ts ta
  have HB1 : Hid (Below w.heap.size w w1) := hb1
  have H3 : Hid (w1.cell? ⟨p3, 0, none⟩ = some (.func (.func 76) #[] #[])) := (hb1.cell (World.block_lt_of_cell? w _ h3)).trans h3
  have H6 : Hid (MC w1 p6 s a) := h6.below hb1
  have HT : Hid (MC w1 w.heap.size ts ta) := h1
  have r3 := cell_regrown H3.out
  obtain ⟨x0, x1⟩ := H6.out
  obtain ⟨y0, y1⟩ := HT.out
  replace x0 := cell_regrown x0
  replace x1 := cell_regrown x1
  replace y0 := cell_regrown y0
  replace y1 := cell_regrown y1
  have HN1 : Hid (∀ w', Calls Try.prog 76 #[.agg #[.string s, .int .i64 a]] w' fun e w2 => e = .returned (.string s) ∧ Below w'.heap.size w' w2) := fun w' => mName_any s a w'
  have HN2 : Hid (∀ w', Calls Try.prog 76 #[.agg #[.string ts, .int .i64 ta]] w' fun e w2 => e = .returned (.string ts) ∧ Below w'.heap.size w' w2) := fun w' => mName_any ts ta w'
  clear h3 h6 h1 hb1 hs1 H3 H6 HT
  go_enter Try.func92, Try.ntmps92
  go_upto_region 1 with fail
  refine wp_region_quiet_below (by kernel_rfl) (by kernel_rfl) ?_
  repeat (go_big_quiet_step ((go_at_call 76; first | exact Calls.regrown_of (HN1.out _) | exact Calls.regrown_of (HN2.out _))))
  refine wpQuiet_nil ?_
  intro w4 hw4
  have HB4 : Hid (Below w.heap.size w w4) := by obtain ⟨p, e⟩ := hw4; rw [e]; exact HB1.out.trans ((below_regrown w1 p.d p.os).mono HB1.out.size)
  clear hw4
  go_wp2_with fail
  go_ret
  exact ⟨rfl, HB4.out⟩

set_option maxHeartbeats 8000000 in
theorem mIndex_any (v : Value) (l : List (ByteArray × Int)) (s : ByteArray) (a : Int) (p3 p6 : Nat) (w : World) (hl : Nms w v l) (h3 : w.cell? ⟨p3, 0, none⟩ = some (.func (.func 76) #[] #[])) (h6 : MC w p6 s a) :
    Calls Try.prog 93 #[v, .func (.func 92) #[] #[.pointer (some ⟨p3, 0, none⟩), .pointer (some ⟨p6, 0, none⟩)]] w fun e w' => (∃ z : Int, e = .returned (.int .i64 z) ∧ decide (0 ≤ z) = l.any (fun q => q.1.toList == s.toList)) ∧ Below w.heap.size w w' := by
  have eg : ∀ args w, (callFunc 92 args).run Try.prog w = .ok (.enter 92 args) w := enters_of Try.func92 (by kernel_rfl) rfl
  have HX : Hid _ := hl
  have H3 : Hid _ := h3
  have H6 : Hid _ := h6
  obtain ⟨ao, cap, rfl, hcap, -⟩ := hl.is
  obtain ⟨N, hN⟩ : ∃ N, l.length = N := ⟨_, rfl⟩
  have HN : Hid (l.length = N) := hN
  have hlen := hl.len
  rw [hN] at HX hcap hlen ⊢
  clear hl h3 h6 hN
  have HC : Hid (∀ (ts : ByteArray) (ta : Int) (w' : World), Below w.heap.size w w' → Calls Try.prog 92 #[.agg #[.string ts, .int .i64 ta], .pointer (some ⟨p3, 0, none⟩), .pointer (some ⟨p6, 0, none⟩)] w' fun e w2 => e = .returned (.bool (ts.toList == s.toList)) ∧ Below w'.heap.size w' w2) := fun ts ta w' hb => mTaken_any ts ta s a p3 p6 w' ((hb.cell (World.block_lt_of_cell? w _ H3.out)).trans H3.out) (H6.out.below hb)
  clear H3 H6
  go_enter Try.func93, Try.ntmps93
  go_wp2_with fail
  go_loopw [8] (fun y wr => ∃ i : Nat, i ≤ N ∧ y = .int .i64 (i : Int) ∧ Hid ((l.take i).any (fun q => q.1.toList == s.toList) = false) ∧ Hid (Below w.heap.size w wr)) (fun y _ => N - (intOf y).toNat)
  case atStart => exact ⟨0, by omega, by simp, by simp [Hid], Below.refl _ _⟩
  case round =>
    obtain ⟨i, hin, rfl, HP, HB⟩ := hrel
    by_cases hlt : i < N
    · obtain ⟨g, o, q, rfl, hq, hqr, k0, k1⟩ := HX.out.at hlt
      have HQ : Hid (∀ b, (q.1.toList == s.toList) = b → (l.take (i + 1)).any (fun q => q.1.toList == s.toList) = b) := fun b hb => by rw [List.take_add_one, hq, List.any_append, HP.out]; simp [hb]
      have HQ2 : Hid ((q.1.toList == s.toList) = true → l.any (fun q => q.1.toList == s.toList) = true) := fun hb => List.any_eq_true.2 ⟨q, List.mem_of_getElem? hq, hb⟩
      have K : ∀ {p : Addr} {x : Value}, w.cell? p = some x → wr.cell? p = some x := fun h => (HB.out.cell (World.block_lt_of_cell? w _ h)).trans h
      replace k0 := K k0
      replace k1 := K k1
      clear K hq hqr
      obtain ⟨b, hb⟩ : ∃ b, (q.1.toList == s.toList) = b := ⟨_, rfl⟩
      have HCC : Hid _ := HC.out q.1 q.2 wr HB.out
      rw [hb] at HCC HQ2
      have HQ3 : Hid _ := HQ.out b hb
      clear HQ HC hb
      generalize q.1 = z0 at *
      generalize q.2 = z1 at *
      cases b with
      | true =>
        have HT : Hid (decide (0 ≤ (i : Int)) = l.any (fun q => q.1.toList == s.toList)) := by rw [Hid, HQ2.out rfl]; simp
        clear HQ2 HQ3
        go_wp2_with (go_at_call 92; refine Calls.mono HCC.out ?_; rintro e w5 ⟨rfl, hb5⟩; have HB5 : Hid (Below w.heap.size w w5) := bel_next HB.out hb5; clear hb5)
        go_ret
        exact ⟨⟨_, rfl, HT.out⟩, HB5.out⟩
      | false =>
        go_wp2_with (go_at_call 92; refine Calls.mono HCC.out ?_; rintro e w5 ⟨rfl, hb5⟩; have HB5 : Hid (Below w.heap.size w w5) := bel_next HB.out hb5; clear hb5)
        go_roundw
        case rel => exact ⟨i + 1, by omega, by go_num, HQ3.out, HB5.out⟩
        case measure => simp [intOf]; omega
    · have HE : Hid (l.any (fun q => q.1.toList == s.toList) = false) := by rw [Hid, ← HP.out, List.take_of_length_le (by rw [HN.out]; omega)]
      go_wp2_with fail
      go_ret
      exact ⟨⟨-1, rfl, by rw [HE.out]; rfl⟩, HB.out⟩
theorem mContains_any (v : Value) (l : List (ByteArray × Int)) (s : ByteArray) (a : Int) (p3 p6 : Nat) (w : World) (hl : Nms w v l) (h3 : w.cell? ⟨p3, 0, none⟩ = some (.func (.func 76) #[] #[])) (h6 : MC w p6 s a) :
    Calls Try.prog 77 #[v, .func (.func 92) #[] #[.pointer (some ⟨p3, 0, none⟩), .pointer (some ⟨p6, 0, none⟩)]] w fun e w' => e = .returned (.bool (l.any (fun q => q.1.toList == s.toList))) ∧ Below w.heap.size w w' := by
  have HI : Hid _ := mIndex_any v l s a p3 p6 w hl h3 h6
  generalize l.any (fun q => q.1.toList == s.toList) = b at *
  obtain ⟨ao, cap, rfl, hcap, -⟩ := hl.is
  clear hl h3 h6
  go_enter Try.func77, Try.ntmps77
  go_wp2_with (go_at_call 93; refine Calls.mono HI.out ?_; rintro e w5 ⟨⟨z, rfl, hz⟩, hb5⟩; have HB5 : Hid (Below w.heap.size w w5) := hb5; have HZ : Hid _ := hz; clear hb5 hz)
  go_ret
  exact ⟨by rw [← HZ.out]; rfl, HB5.out⟩
end Go.Proofs.Ytojcokdfplldbaa
