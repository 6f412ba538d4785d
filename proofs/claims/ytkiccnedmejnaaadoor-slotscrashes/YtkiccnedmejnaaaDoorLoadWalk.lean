/-
  The walk of the program's Load. Conditions: lengths within the machine's bounds, the table of constants stands.
-/
import Derived.Test.YtkiccnedmejnaaaDoorRoot
namespace Go.Proofs.YtkiccnedmejnaaaDoor
open Go.RowKit
set_option linter.unusedVariables false
set_option maxRecDepth 100000

def ldG (l : List Int) : Int := val false ((l.drop 4).take 8)
def ldA (l : List Int) : Int := val false ((l.drop 16).take 4)
def ldZ (l : List Int) : Int := val false ((l.drop 20).take 4)
/-- Whether so many bytes begin with a root's. -/
def isRt (l : List Int) : Bool := inF (ldA l) && inF (ldZ l) && (rootB (ldG l) (ldA l) (ldZ l) == l.take 32)

theorem val4 {l : List Int} (h : Byt l) (h4 : l.length = 4) : 0 ≤ val false l ∧ val false l < 4294967296 := by
  have := num_bounds h l.length
  rw [h4] at this
  simp only [val, h4]
  exact ⟨this.1, by have := this.2; simpa using this⟩
theorem ldA_bounds {l : List Int} (h : Byt l) (hl : 32 ≤ l.length) : 0 ≤ ldA l ∧ ldA l < 4294967296 := val4 (byt_take h 16 4) (by rw [List.length_take, List.length_drop]; omega)
theorem ldZ_bounds {l : List Int} (h : Byt l) (hl : 32 ≤ l.length) : 0 ≤ ldZ l ∧ ldZ l < 4294967296 := val4 (byt_take h 20 4) (by rw [List.length_take, List.length_drop]; omega)
theorem ldG_bounds {l : List Int} (h : Byt l) : 0 ≤ ldG l ∧ ldG l < 18446744073709551616 := val_bounds (byt_take h 4 8) false (by rw [List.length_take]; omega)

theorem numberAt_any (v : Value) (l : List Int) (p n : Nat) (w : World) (hl : Bs w v l) (hb : l.length ≤ 281474976710656) (hby : Byt l) (hn1 : 1 ≤ n) (hn2 : n ≤ 8) (hp : p + n ≤ l.length) :
    Calls Tryd.prog 56 #[v, .int .i64 p, .int .i64 n] w fun e w' => e = .returned (.int .u64 (val false ((l.drop p).take n))) ∧ Below w.heap.size w w' := by
  have HC : Hid _ := get_wide v l p n false w hl hb hby hn1 hn2 hp
  obtain ⟨ao, cap, rfl, _⟩ := hl
  go_enter Tryd.func56, Tryd.ntmps56
  go_wp2_with (go_at_call 66; refine Calls.mono HC.out ?_; rintro e w1 ⟨rfl, hb1⟩)
  go_ret
  exact ⟨rfl, hb1⟩

theorem three_set {w : World} {n : Nat} {x y z : Value} {t : TypeId} (h : w.heap[n]? = some (.cells #[x, y, z] t (0, 0))) (a b c : Value) :
    ∀ i, (((w.setCell ⟨n, 0, none⟩ a).setCell ⟨n, 1, none⟩ b).setCell ⟨n, 2, none⟩ c).cell? ⟨n, i, none⟩ = #[a, b, c][i]? := fun i => by
  have h2 := heap_setCell_twice w n 0 1 a b _ _ h
  have h3 := heap_setCell_same _ n 2 _ _ c h2
  simp only [World.cell?, h3]
  simp

theorem numbersOf_any (v : Value) (l : List Int) (w : World) (hl : Bs w v l) (hb : l.length ≤ 281474976710656) (hby : Byt l) (h32 : 32 ≤ l.length) :
    Calls Tryd.prog 35 #[v] w fun e w' => e = .returned (.agg #[.int .u64 (ldG l), .int .i64 (ldA l), .int .i64 (ldZ l)]) ∧ Below w.heap.size w w' := by
  have HL : Hid (Bs w v l) := hl
  obtain ⟨ga, gb⟩ := ldG_bounds hby
  obtain ⟨aa, ab⟩ := ldA_bounds hby h32
  obtain ⟨za, zb⟩ := ldZ_bounds hby h32
  obtain ⟨G, HG⟩ : ∃ G, Hid (ldG l = G) := ⟨_, rfl⟩
  obtain ⟨A, HA⟩ : ∃ A, Hid (ldA l = A) := ⟨_, rfl⟩
  obtain ⟨Z, HZ⟩ : ∃ Z, Hid (ldZ l = Z) := ⟨_, rfl⟩
  rw [HG.out] at ga gb
  rw [HA.out] at aa ab
  rw [HZ.out] at za zb
  obtain ⟨W, HW⟩ : ∃ W, Hid (W = w.alloc (.cells #[.int .u64 0, .int .i64 0, .int .i64 0] 24)) := ⟨_, rfl⟩
  have HB0 : Hid (Below w.heap.size w W) := by rw [Hid, HW.out]; exact (Below.refl _ w).alloc (Nat.le_refl _) _
  have HC0 : Hid (W.heap[w.heap.size]? = some (.cells #[.int .u64 0, .int .i64 0, .int .i64 0] 24 (0, 0))) := by rw [Hid, HW.out]; exact heap_alloc_new w _
  have H1 : Hid (∀ w', Below W.heap.size W w' → Calls Tryd.prog 56 #[v, .int .i64 4, .int .i64 8] w' fun e w2 => e = .returned (.int .u64 G) ∧ Below W.heap.size W w2) := fun w' hb' => by
    refine (numberAt_any v l 4 8 w' ((HL.out.below HB0.out).below hb') hb hby (by omega) (by omega) (by omega)).mono ?_
    rintro e w2 ⟨rfl, h2⟩
    exact ⟨by rw [← HG.out]; rfl, hb'.trans (h2.mono hb'.size)⟩
  have H2 : Hid (∀ w', Below W.heap.size W w' → Calls Tryd.prog 56 #[v, .int .i64 16, .int .i64 4] w' fun e w2 => e = .returned (.int .u64 A) ∧ Below W.heap.size W w2) := fun w' hb' => by
    refine (numberAt_any v l 16 4 w' ((HL.out.below HB0.out).below hb') hb hby (by omega) (by omega) (by omega)).mono ?_
    rintro e w2 ⟨rfl, h2⟩
    exact ⟨by rw [← HA.out]; rfl, hb'.trans (h2.mono hb'.size)⟩
  have H3 : Hid (∀ w', Below W.heap.size W w' → Calls Tryd.prog 56 #[v, .int .i64 20, .int .i64 4] w' fun e w2 => e = .returned (.int .u64 Z) ∧ Below W.heap.size W w2) := fun w' hb' => by
    refine (numberAt_any v l 20 4 w' ((HL.out.below HB0.out).below hb') hb hby (by omega) (by omega) (by omega)).mono ?_
    rintro e w2 ⟨rfl, h2⟩
    exact ⟨by rw [← HZ.out]; rfl, hb'.trans (h2.mono hb'.size)⟩
  obtain ⟨ao, cap, rfl, _⟩ := hl
  go_enter Tryd.func35, Tryd.ntmps35
  go_wp2_with fail
  rw [← HW.out]
  refine (H1.out _ (Below.refl _ _)).mono ?_
  rintro e w2 ⟨rfl, hb2⟩
  have HB2 : Hid (Below W.heap.size W w2) := hb2
  clear hb2
  go_wp2_with fail
  refine (H2.out _ HB2.out).mono ?_
  rintro e w3 ⟨rfl, hb3⟩
  have HB3 : Hid (Below W.heap.size W w3) := hb3
  clear hb3
  go_wp2_with fail
  refine (H3.out _ HB3.out).mono ?_
  rintro e w4 ⟨rfl, hb4⟩
  have HC4 : Hid (w4.heap[w.heap.size]? = some (.cells #[.int .u64 0, .int .i64 0, .int .i64 0] 24 (0, 0))) := (hb4.block _ (Array.getElem?_eq_some_iff.1 HC0.out).1).trans HC0.out
  have c0 : w4.cell? ⟨w.heap.size, 0, none⟩ = some (.int .u64 0) := by simp [World.cell?, HC4.out]
  have c1 : w4.cell? ⟨w.heap.size, 1, none⟩ = some (.int .i64 0) := by simp [World.cell?, HC4.out]
  have c2 : w4.cell? ⟨w.heap.size, 2, none⟩ = some (.int .i64 0) := by simp [World.cell?, HC4.out]
  have z0 : w4.frozen? ⟨w.heap.size, 0, none⟩ = false := by simp [World.frozen?, HC4.out]
  have z1 : w4.frozen? ⟨w.heap.size, 1, none⟩ = false := by simp [World.frozen?, HC4.out]
  have z2 : w4.frozen? ⟨w.heap.size, 2, none⟩ = false := by simp [World.frozen?, HC4.out]
  have HB4 : Hid (Below w.heap.size w w4) := HB0.out.trans (hb4.mono HB0.out.size)
  clear hb4
  go_wp2
  refine bodyPost_ret (v := .agg #[.int .u64 G, .int .i64 A, .int .i64 Z]) ?_ rfl ?_
  · have d0 := three_set HC4.out (.int .u64 G) (.int .i64 A) (.int .i64 Z) 0
    have d1 := three_set HC4.out (.int .u64 G) (.int .i64 A) (.int .i64 Z) 1
    have d2 := three_set HC4.out (.int .u64 G) (.int .i64 A) (.int .i64 Z) 2
    simp at d0 d1 d2
    simp [results, Tryd.f35, go_sem, d0, d1, d2]
  · refine ⟨by rw [HG.out, HA.out, HZ.out], ?_⟩
    exact ((HB4.out.setCell (p := ⟨w.heap.size, 0, none⟩) (Nat.le_refl _) _).setCell (p := ⟨w.heap.size, 1, none⟩) (Nat.le_refl _) _).setCell (p := ⟨w.heap.size, 2, none⟩) (Nat.le_refl _) _


theorem equal_any (v1 v2 : Value) (l1 l2 : List Int) (w : World) (h1 : Bs w v1 l1) (h2 : Bs w v2 l2) :
    Calls Tryd.prog 36 #[v1, v2] w fun e w' => e = .returned (.bool ((strOfNums l1).toList == (strOfNums l2).toList)) ∧ w' = w := by
  have s1 := str_of h1
  have s2 := str_of h2
  obtain ⟨a1, c1, rfl, _⟩ := h1
  obtain ⟨a2, c2, rfl, _⟩ := h2
  go_enter Tryd.func36, Tryd.ntmps36
  go_wp2
  go_ret
  exact ⟨rfl, rfl⟩

theorem load_short (v : Value) (l : List Int) (w : World) (hl : Bs w v l) (h : l.length < 32) :
    Calls Tryd.prog 13 #[v] w fun e w' => e = .returned (.tuple #[.agg #[.int .u64 0, .int .i64 0, .int .i64 0], .int .i64 4]) ∧ Below w.heap.size w w' := by
  obtain ⟨a1, c1, rfl, _⟩ := hl
  have hlt : (l.length : Int) < 32 := by omega
  go_enter Tryd.func13, Tryd.ntmps13
  go_wp2
  refine bodyPost_ret (v := .tuple #[.agg #[.int .u64 0, .int .i64 0, .int .i64 0], .int .i64 4]) ?_ rfl ?_
  · simp [results, Tryd.f13, go_sem]
  · exact ⟨rfl, by first | exact (Below.refl _ w).alloc (Nat.le_refl _) _ | exact ((((Below.refl _ w).alloc (Nat.le_refl _) _).setCell (p := ⟨w.heap.size, 0, none⟩) (Nat.le_refl _) _).setCell (p := ⟨w.heap.size, 1, none⟩) (Nat.le_refl _) _).setCell (p := ⟨w.heap.size, 2, none⟩) (Nat.le_refl _) _⟩
/-- What Load tells of bytes that are enough. -/
def ldErr (b : List Int) : Int := if isRt b then 0 else 5
def ldRoot (b : List Int) : Value := if isRt b then .agg #[.int .u64 (ldG b), .int .i64 (ldA b), .int .i64 (ldZ b)] else .agg #[.int .u64 0, .int .i64 0, .int .i64 0]
theorem eqB {a b : List Int} (ha : Byt a) (hb : Byt b) (hl : a.length = b.length) : ((strOfNums a).toList == (strOfNums b).toList) = (a == b) := by
  by_cases h : a = b
  · subst h; simp
  · rw [str_ne ha hb hl h]; simp [h]

set_option maxHeartbeats 4000000 in
theorem load_long (v : Value) (l : List Int) (w : World) (hl : Bs w v l) (hb : l.length ≤ 140737488355328) (hby : Byt l) (h : 32 ≤ l.length) (hT : Tab w) :
    Calls Tryd.prog 13 #[v] w fun e w' => e = .returned (.tuple #[ldRoot (l.take 32), .int .i64 (ldErr (l.take 32))]) ∧ Below w.heap.size w w' := by
  have HT : Hid (Tab w) := hT
  obtain ⟨b, Hb⟩ : ∃ b, Hid (l.take 32 = b) := ⟨_, rfl⟩
  have hbl : b.length = 32 := by rw [← Hb.out, List.length_take]; omega
  have hbb : Byt b := by rw [← Hb.out]; exact byt_left hby 32
  rw [Hb.out]
  have HL : Hid (Bs w v l) := hl
  obtain ⟨ao, cap, rfl, hc, _⟩ := hl
  obtain ⟨n, Hn⟩ : ∃ n, Hid (l.length = n) := ⟨_, rfl⟩
  rw [Hn.out] at HL hc h hb ⊢
  have HB : Hid (∀ w', Below w.heap.size w w' → Bs w' (.slice ao 32 cap) b) := fun w' hb' => by
    obtain ⟨ao', cap', e, h1, h2, h3⟩ := HL.out.below hb'
    injection e with e1 e2 e3
    subst e1 e3
    rw [← Hb.out]
    have hl32 : (l.take 32).length = 32 := by rw [List.length_take, Hn.out]; omega
    refine ⟨ao, cap, by rw [hl32], by omega, h2, fun ad ha i hi => ?_⟩
    rw [hl32] at hi
    rw [h3 ad ha i (by rw [Hn.out]; omega)]
    simp [List.getD, hi]
  obtain ⟨ga, gb⟩ := ldG_bounds hbb
  obtain ⟨aa, ab⟩ := ldA_bounds hbb (by omega)
  obtain ⟨za, zb⟩ := ldZ_bounds hbb (by omega)
  obtain ⟨G, HG⟩ : ∃ G, Hid (ldG b = G) := ⟨_, rfl⟩
  obtain ⟨A, HA⟩ : ∃ A, Hid (ldA b = A) := ⟨_, rfl⟩
  obtain ⟨Z, HZ⟩ : ∃ Z, Hid (ldZ b = Z) := ⟨_, rfl⟩
  have hrt : isRt b = (inF A && inF Z && (rootB G A Z == b)) := by unfold isRt; rw [HG.out, HA.out, HZ.out, List.take_of_length_le (by omega)]
  rw [HG.out] at ga gb
  rw [HA.out] at aa ab
  rw [HZ.out] at za zb
  have HRT : Hid (isRt b = (inF A && inF Z && (rootB G A Z == b))) := hrt
  clear hrt hT
  obtain ⟨W, HW⟩ : ∃ W, Hid (W = w.alloc (.cells #[.int .u64 0, .int .i64 0, .int .i64 0] 24)) := ⟨_, rfl⟩
  have HB0 : Hid (Below w.heap.size w W) := by rw [Hid, HW.out]; exact (Below.refl _ w).alloc (Nat.le_refl _) _
  have HC0 : Hid (W.heap[w.heap.size]? = some (.cells #[.int .u64 0, .int .i64 0, .int .i64 0] 24 (0, 0))) := by rw [Hid, HW.out]; exact heap_alloc_new w _
  have HC : Hid _ := numbersOf_any _ b W (HB.out _ HB0.out) (by omega) hbb (by omega)
  rw [HG.out, HA.out, HZ.out] at HC
  have hn32 : ¬ (n : Int) < 32 := by omega
  have hc32 : (32 : Int) ≤ (cap : Int) := by omega
  go_enter Tryd.func13, Tryd.ntmps13
  go_wp2_with fail
  rw [← HW.out]
  refine Calls.mono HC.out ?_
  rintro e w2 ⟨rfl, hb2⟩
  have HB2 : Hid (Below W.heap.size W w2) := hb2
  clear hb2 HC
  obtain ⟨W3, HW3⟩ : ∃ W3, Hid (W3 = w2.alloc (.cells #[.int .u64 G, .int .i64 A, .int .i64 Z] 24)) := ⟨_, rfl⟩
  have HB3 : Hid (Below W.heap.size W W3) := by rw [Hid, HW3.out]; exact HB2.out.alloc HB2.out.size _
  have HC3 : Hid (W3.heap[w2.heap.size]? = some (.cells #[.int .u64 G, .int .i64 A, .int .i64 Z] 24 (0, 0))) := by rw [Hid, HW3.out]; exact heap_alloc_new w2 _
  go_wp2_with fail
  rw [← HW3.out]
  have HCR : Hid (∀ w4, Below W3.heap.size W3 w4 → w4.heap[w.heap.size]? = some (.cells #[.int .u64 0, .int .i64 0, .int .i64 0] 24 (0, 0)) ∧ w4.heap[w2.heap.size]? = some (.cells #[.int .u64 G, .int .i64 A, .int .i64 Z] 24 (0, 0))) := fun w4 hb4 =>
    ⟨(hb4.block _ (Nat.lt_of_lt_of_le (Array.getElem?_eq_some_iff.1 HC0.out).1 HB3.out.size)).trans ((HB3.out.block _ (Array.getElem?_eq_some_iff.1 HC0.out).1).trans HC0.out), (hb4.block _ (Array.getElem?_eq_some_iff.1 HC3.out).1).trans HC3.out⟩
  have HT3 : Hid (Tab W3) := (HT.out.below HB0.out).below HB3.out
  by_cases hin : inF A = false ∨ inF Z = false
  · have HR : Hid (isRt b = false) := by rw [Hid, HRT.out]; rcases hin with h1 | h1 <;> simp [h1]
    refine (rBytes_no G A Z W3 hin).mono ?_
    rintro e w4 ⟨rfl, hb4⟩
    have HB4 : Hid (Below W3.heap.size W3 w4) := hb4
    clear hb4
    obtain ⟨HCa, HCb⟩ := HCR.out _ HB4.out
    have c0 : w4.cell? ⟨w.heap.size, 0, none⟩ = some (.int .u64 0) := by simp [World.cell?, HCa]
    have c1 : w4.cell? ⟨w.heap.size, 1, none⟩ = some (.int .i64 0) := by simp [World.cell?, HCa]
    have c2 : w4.cell? ⟨w.heap.size, 2, none⟩ = some (.int .i64 0) := by simp [World.cell?, HCa]
    have f0 : w4.frozen? ⟨w.heap.size, 0, none⟩ = false := by simp [World.frozen?, HCa]
    have f1 : w4.frozen? ⟨w.heap.size, 1, none⟩ = false := by simp [World.frozen?, HCa]
    have f2 : w4.frozen? ⟨w.heap.size, 2, none⟩ = false := by simp [World.frozen?, HCa]
    have HCA : Hid (w4.heap[w.heap.size]? = some (.cells #[.int .u64 0, .int .i64 0, .int .i64 0] 24 (0, 0))) := HCa
    have HBW4 : Hid (Below w.heap.size w w4) := HB0.out.trans ((HB3.out.trans (HB4.out.mono HB3.out.size)).mono HB0.out.size)
    clear HCa HCb
    go_wp2
    refine bodyPost_ret (v := .tuple #[.agg #[.int .u64 0, .int .i64 0, .int .i64 0], .int .i64 5]) ?_ rfl ?_
    · have d0 := three_set HCA.out (.int .u64 0) (.int .i64 0) (.int .i64 0) 0
      have d1 := three_set HCA.out (.int .u64 0) (.int .i64 0) (.int .i64 0) 1
      have d2 := three_set HCA.out (.int .u64 0) (.int .i64 0) (.int .i64 0) 2
      simp at d0 d1 d2
      simp [results, Tryd.f13, go_sem, d0, d1, d2]
    · refine ⟨by simp [ldErr, ldRoot, HR.out], ?_⟩
      exact ((HBW4.out.setCell (p := ⟨w.heap.size, 0, none⟩) (Nat.le_refl _) _).setCell (p := ⟨w.heap.size, 1, none⟩) (Nat.le_refl _) _).setCell (p := ⟨w.heap.size, 2, none⟩) (Nat.le_refl _) _
  · have hA : inF A = true := by cases h1 : inF A <;> simp_all
    have hZ : inF Z = true := by cases h1 : inF Z <;> simp_all
    have hA2 : A ≤ 4194304 := by rcases inF_cases A with ⟨_, _, h1⟩ | ⟨h1, _⟩; exact h1; rw [hA] at h1; cases h1
    have hZ2 : Z ≤ 4194304 := by rcases inF_cases Z with ⟨_, _, h1⟩ | ⟨h1, _⟩; exact h1; rw [hZ] at h1; cases h1
    refine (rBytes_ok G A Z W3 HT3.out ga gb hA hZ aa hA2 za hZ2).mono ?_
    rintro e w4 ⟨b4, rfl, hr4, hb4', hb4⟩
    have HB4 : Hid (Below W3.heap.size W3 w4) := hb4
    have HEQ : Hid _ := equal_any _ _ (rootB G A Z) b w4 (row_bs hr4 (rootB_length G A Z)) (HB.out _ (HB0.out.trans ((HB3.out.trans (hb4.mono HB3.out.size)).mono HB0.out.size)))
    rw [eqB (rootB_byt G A Z) hbb (by rw [rootB_length, hbl])] at HEQ
    clear hb4 hr4 hb4'
    obtain ⟨HCa, HCb⟩ := HCR.out _ HB4.out
    have c0 : w4.cell? ⟨w.heap.size, 0, none⟩ = some (.int .u64 0) := by simp [World.cell?, HCa]
    have c1 : w4.cell? ⟨w.heap.size, 1, none⟩ = some (.int .i64 0) := by simp [World.cell?, HCa]
    have c2 : w4.cell? ⟨w.heap.size, 2, none⟩ = some (.int .i64 0) := by simp [World.cell?, HCa]
    have f0 : w4.frozen? ⟨w.heap.size, 0, none⟩ = false := by simp [World.frozen?, HCa]
    have f1 : w4.frozen? ⟨w.heap.size, 1, none⟩ = false := by simp [World.frozen?, HCa]
    have f2 : w4.frozen? ⟨w.heap.size, 2, none⟩ = false := by simp [World.frozen?, HCa]
    have HCA : Hid (w4.heap[w.heap.size]? = some (.cells #[.int .u64 0, .int .i64 0, .int .i64 0] 24 (0, 0))) := HCa
    have HBW4 : Hid (Below w.heap.size w w4) := HB0.out.trans ((HB3.out.trans (HB4.out.mono HB3.out.size)).mono HB0.out.size)
    have g0 : w4.cell? ⟨w2.heap.size, 0, none⟩ = some (.int .u64 G) := by simp [World.cell?, HCb]
    have g1 : w4.cell? ⟨w2.heap.size, 1, none⟩ = some (.int .i64 A) := by simp [World.cell?, HCb]
    have g2 : w4.cell? ⟨w2.heap.size, 2, none⟩ = some (.int .i64 Z) := by simp [World.cell?, HCb]
    clear HCa HCb
    cases heq : (rootB G A Z == b) with
    | true =>
      rw [heq] at HEQ
      have HR : Hid (isRt b = true) := by rw [Hid, HRT.out, hA, hZ, heq]; rfl
      go_wp2_with (go_at_call 36; refine Calls.mono HEQ.out ?_; rintro e w5 ⟨rfl, hw5⟩; obtain rfl := hw5.symm)
      refine bodyPost_ret (v := .tuple #[.agg #[.int .u64 G, .int .i64 A, .int .i64 Z], .int .i64 0]) ?_ rfl ?_
      · have d0 := three_set HCA.out (.int .u64 G) (.int .i64 A) (.int .i64 Z) 0
        have d1 := three_set HCA.out (.int .u64 G) (.int .i64 A) (.int .i64 Z) 1
        have d2 := three_set HCA.out (.int .u64 G) (.int .i64 A) (.int .i64 Z) 2
        simp at d0 d1 d2
        simp [results, Tryd.f13, go_sem, d0, d1, d2]
      · refine ⟨by simp [ldErr, ldRoot, HR.out, HG.out, HA.out, HZ.out], ?_⟩
        exact ((HBW4.out.setCell (p := ⟨w.heap.size, 0, none⟩) (Nat.le_refl _) _).setCell (p := ⟨w.heap.size, 1, none⟩) (Nat.le_refl _) _).setCell (p := ⟨w.heap.size, 2, none⟩) (Nat.le_refl _) _
    | false =>
      rw [heq] at HEQ
      have HR : Hid (isRt b = false) := by rw [Hid, HRT.out, hA, hZ, heq]; rfl
      go_wp2_with (go_at_call 36; refine Calls.mono HEQ.out ?_; rintro e w5 ⟨rfl, hw5⟩; obtain rfl := hw5.symm)
      refine bodyPost_ret (v := .tuple #[.agg #[.int .u64 0, .int .i64 0, .int .i64 0], .int .i64 5]) ?_ rfl ?_
      · have d0 := three_set HCA.out (.int .u64 0) (.int .i64 0) (.int .i64 0) 0
        have d1 := three_set HCA.out (.int .u64 0) (.int .i64 0) (.int .i64 0) 1
        have d2 := three_set HCA.out (.int .u64 0) (.int .i64 0) (.int .i64 0) 2
        simp at d0 d1 d2
        simp [results, Tryd.f13, go_sem, d0, d1, d2]
      · refine ⟨by simp [ldErr, ldRoot, HR.out], ?_⟩
        exact ((HBW4.out.setCell (p := ⟨w.heap.size, 0, none⟩) (Nat.le_refl _) _).setCell (p := ⟨w.heap.size, 1, none⟩) (Nat.le_refl _) _).setCell (p := ⟨w.heap.size, 2, none⟩) (Nat.le_refl _) _
end Go.Proofs.YtkiccnedmejnaaaDoor
