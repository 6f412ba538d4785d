/-
  The law NumberAhead walked. No conditions but that the argument fits its kind.
-/
import Derived.Test.YtanchgbpnioomabAheadWalk10
namespace Go.Proofs.Ytanchgbpnioomab
open Go.RowKit Ieee
set_option linter.unusedVariables false
set_option maxRecDepth 100000
set_option maxHeartbeats 1000000

theorem x_trunc (W : World) (a : Nat) (s : Bool) (m : Nat) (e : Int) (h : double.read a = .number s m e) : (callFunc 29 #[.float .f64 a]).run Try.prog W = .ok (.value (.float .f64 (double.nearest s (Toward.zero.cut s (m <<< e.toNat) (-e).toNat) 0))) W := by
  rw [run_callFunc_extern Try.func29 (by kernel_rfl) (by kernel_rfl) (by kernel_rfl) (e := Extern.MathFloor.toIntegral "math.archTrunc" .zero) (by kernel_rfl)]
  have hd : FloatKind.f64.decode a = .number s m e := h
  show ((Sem.run Try.prog (Extern.MathFloor.toIntegral.match_1 (fun _ => Sem Value) (FloatKind.f64.decode a) _ _) W).andThen _) = _
  rw [hd]
  rfl
theorem mtrunc_any (a : Nat) (s : Bool) (m : Nat) (e : Int) (W : World) (h : double.read a = .number s m e) (he : -1074 ≤ e) :
    Calls Try.prog 18 #[.float .f64 a] W fun r w' => r = .returned (.float .f64 (double.nearest s (szM m e / kilo) 0)) ∧ w' = W := by
  have hx := fun W => x_trunc W a s m e h
  have e1 : Toward.zero.cut s (m <<< e.toNat) (-e).toNat = szM m e / kilo := by rw [cut_zero, Nat.shiftLeft_eq, cut_size m e he]
  rw [e1] at hx
  generalize double.nearest s (szM m e / kilo) 0 = v at *
  clear e1 h he
  go_enter Try.func18, Try.ntmps18
  go_wp2
  go_ret
  exact ⟨rfl, rfl⟩

/-- A whole part is a float. -/
theorem floor_exact {a : Nat} {s : Bool} {m : Nat} {e : Int} (h : double.read a = .number s m e) :
    ∃ m' e', double.read (double.nearest false (szM m e / kilo) 0) = .number false m' e' ∧ -1074 ≤ e' ∧ szM m' e' = szM m e / kilo * kilo := by
  obtain ⟨h1, h2, h3⟩ := read_place _ (.inr rfl) a h
  by_cases he : 0 ≤ e
  · have hq : szM m e / kilo * kilo = szM m e := by
      obtain ⟨z, hz⟩ : ∃ z : Int, z = 0 := ⟨_, rfl⟩
      have hk : kilo = 2 ^ (z + 1074).toNat := by
        show szM 1 0 = _
        rw [← hz]; unfold szM; rw [Nat.one_mul]
      have hs : szM m e = m * 2 ^ e.toNat * 2 ^ (z + 1074).toNat := by
        unfold szM
        rw [Nat.mul_assoc, ← Nat.pow_add, show (e + 1074).toNat = e.toNat + (z + 1074).toNat from by omega]
      rw [hs, hk, Nat.mul_div_cancel _ (two_pos _)]
    rw [nearest_eq double (.inr rfl) false _ 0 (by decide), sz_kilo, hq]
    have hr : a % double.signWeight < double.infRung := by
      by_cases hr : a % double.signWeight < double.infRung
      · exact hr
      · by_cases hr2 : a % double.signWeight = double.infRung
        · rw [read_inf _ (.inr rfl) a hr2] at h; cases h
        · rw [read_nan _ (.inr rfl) a (by omega)] at h; cases h
    obtain ⟨m2, e2, g1, g2, g3⟩ := read_num double (.inr rfl) a hr
    rw [h] at g1
    injection g1 with _ g4 g5
    subst g4; subst g5
    rw [g3, rg_mg double (.inr rfl) _ hr]
    exact word_read_num double (.inr rfl) false _ hr
  · have hle : szM m e / kilo ≤ 2 * double.binade := by
      rw [← cut_size m e h1, show e.toNat = 0 from by omega, Nat.pow_zero, Nat.mul_one]
      have := Nat.div_le_self m (2 ^ (-e).toNat)
      omega
    exact back_num double (.inr rfl) false _ hle

theorem ord_le {x c : Nat} {s t : Bool} {m n : Nat} {e j : Int} (h : double.read x = .number s m e) (he : -1074 ≤ e) (hc : double.read c = .number t n j) (hj : -1074 ≤ j) :
    (FloatKind.f64.format.order x c == some .gt) = decide (sg t (szM n j) < sg s (szM m e)) ∧ (FloatKind.f64.format.order x c == some .lt) = decide (sg s (szM m e) < sg t (szM n j)) := by
  rw [ord_to h he hc hj]
  rcases Int.lt_trichotomy (sg s (szM m e)) (sg t (szM n j)) with hh | hh | hh
  · rw [cmp_lt hh]; constructor
    · rw [decide_eq_false (by omega)]; rfl
    · rw [decide_eq_true hh]; rfl
  · rw [cmp_eq hh]; constructor
    · rw [decide_eq_false (by omega)]; rfl
    · rw [decide_eq_false (by omega)]; rfl
  · rw [cmp_gt hh]; constructor
    · rw [decide_eq_true hh]; rfl
    · rw [decide_eq_false (by omega)]; rfl
theorem c_1 : double.read 14114281232179134464 = .number true 4503599627370496 11 := by decide +kernel
theorem c_2 : double.read 4890909195324358656 = .number false 4503599627370496 11 := by decide +kernel
theorem c_3 : double.read 13830554455654793216 = .number true 4503599627370496 (-52) := by decide +kernel
theorem c_4 : double.read 4895412794951729152 = .number false 4503599627370496 12 := by decide +kernel
theorem z_1 : szM 4503599627370496 11 = 9223372036854775808 * kilo := by decide +kernel
theorem z_3 : szM 4503599627370496 (-52) = kilo := by decide +kernel
theorem z_4 : szM 4503599627370496 12 = 18446744073709551616 * kilo := by decide +kernel

theorem numberAhead_walk (ai : Int) (W : World) (w0 : (Lit.int .u64 ai).wf = true) :
    Calls Try.prog 4 #[.int .u64 ai] W fun e w' => e = .returned (.bool true) ∧ Below W.heap.size W w' := by
  obtain ⟨ha0, ha1⟩ := bounds_u64 w0
  obtain ⟨a, rfl⟩ := Int.eq_ofNat_of_zero_le ha0
  have la : a < 18446744073709551616 := by omega
  have TR : ∀ s W, Calls Try.prog 17 #[.int .u64 (a : Int), .int .i64 8, .int .i64 8, .bool s] W fun e w' => e = .returned (.tuple #[.int .u64 (trV (double.read a) 8 s), .int .i64 0]) ∧ Below W.heap.size W w' := fun s W => by
    have := trunc_yes (a : Int) 8 8 s W (by omega) (.inl rfl) (by decide) (by decide)
    rwa [fmt8, Int.toNat_natCast] at this
  have hk := kilo_pos
  cases hd : double.read a with
  | nan s t =>
    have hno : ∀ c, FloatKind.f64.format.order a c = none := fun c => by
      show Datum.order (double.read a) _ = none
      rw [hd]; rfl
    refine ahead_core a W _ _ _ _ true (fun s => trV (double.read a) 8 s) rfl rfl rfl rfl (by rw [hno]; rfl) TR (fun _ => ⟨by rw [hd]; rfl, by rw [hd]; rfl, by rw [hno]; rfl, by rw [hno]; rfl⟩) (fun h => by rw [hno] at h; cases h) (fun h => by rw [hno] at h; cases h)
  | infinity s =>
    have hO : ∀ {c t n j}, double.read c = .number t n j → FloatKind.f64.format.order a c = some (if s then .lt else .gt) := fun hc => ord_inf hd hc
    have hself : (FloatKind.f64.format.order a a != some .eq) = false := by
      rw [order_self]; show (double.read a).isNaN = false; rw [hd]; rfl
    refine ahead_core a W _ _ _ _ false (fun s => trV (double.read a) 8 s) rfl rfl rfl rfl hself TR (fun h => by cases h) (fun h1 h2 => ?_) (fun h1 h2 => ?_)
    · rw [hO c_1] at h1; rw [hO c_2] at h2; cases s <;> cases h1 <;> cases h2
    · rw [hO c_3] at h1; rw [hO c_4] at h2; cases s <;> cases h1 <;> cases h2
  | number s m e =>
    obtain ⟨hp, _, _⟩ := read_place _ (.inr rfl) a hd
    have hself : (FloatKind.f64.format.order a a != some .eq) = false := by
      rw [order_self]; show (double.read a).isNaN = false; rw [hd]; rfl
    have o1 := (ord_le hd hp c_1 (by decide)).1
    have o2 := (ord_le hd hp c_2 (by decide)).2
    have o3 := (ord_le hd hp c_3 (by decide)).1
    have o4 := (ord_le hd hp c_4 (by decide)).2
    rw [z_1] at o1 o2
    rw [z_3] at o3
    rw [z_4] at o4
    have hti : (FloatKind.f64.decode a).toInt .zero = some (sg s (szM m e / kilo)) := by
      show (double.read a).toInt .zero = _
      rw [hd]; exact toInt_num s m e hp
    refine ahead_core a W _ _ _ _ false (fun s => trV (double.read a) 8 s) o1 o2 o3 o4 hself TR (fun h => by cases h) (fun h1 h2 => ?_) (fun h1 h2 => ?_)
    · have h1 := of_decide_eq_true h1
      have h2 := of_decide_eq_true h2
      have hm : szM m e < 9223372036854775808 * kilo := by
        unfold sg at h1 h2; cases s <;> simp only [Bool.false_eq_true, if_false, if_true] at h1 h2 <;> omega
      have hq : szM m e / kilo < 9223372036854775808 := (Nat.div_lt_iff_lt_mul hk).2 hm
      have hb : -9223372036854775808 < sg s (szM m e / kilo) ∧ sg s (szM m e / kilo) < 9223372036854775808 := by
        generalize szM m e / kilo = q at hq
        unfold sg; cases s <;> simp only [Bool.false_eq_true, if_false, if_true] <;> omega
      refine ⟨sg s (szM m e / kilo), ?_, fun W => ?_⟩
      · rw [hd]
        exact cl_eight (n := sg s (szM m e / kilo)) (by omega) hb.2
      · refine run_convert_float_int (P := Try.prog) W 23 3 .f64 .i64 a _ (by rw [Try.underlying23]; rfl) Try.underlying3 ?_
        unfold floatToIntVal
        rw [hti]
        simp only
        rw [if_pos]
        constructor
        · show (-9223372036854775808 : Int) ≤ _; omega
        · show _ ≤ (9223372036854775807 : Int); omega
    · have h1 := of_decide_eq_true h1
      have h2 := of_decide_eq_true h2
      have hq : szM m e / kilo < 18446744073709551616 := by
        refine (Nat.div_lt_iff_lt_mul hk).2 ?_
        unfold sg at h1 h2; cases s <;> simp only [Bool.false_eq_true, if_false, if_true] at h1 h2 <;> omega
      have hsz : s = true → szM m e / kilo = 0 := fun hs => by
        subst hs
        refine Nat.div_eq_of_lt ?_
        unfold sg at h1; simp only [if_true] at h1; omega
      obtain ⟨m', e', g1, g2, g3⟩ := floor_exact hd
      refine ⟨a % 9223372036854775808, double.nearest false (szM m e / kilo) 0, fun W => abs_any a W la, fun W => mtrunc_any _ false m e W (read_abs_num hd) hp, fun W => ?_⟩
      have hv : trV (double.read a) 8 false = ((szM m e / kilo : Nat) : Int) := by
        rw [hd]
        show clV (sg s (szM m e / kilo)) 8 false = _
        have hz : sg s (szM m e / kilo) = ((szM m e / kilo : Nat) : Int) := by
          cases s
          · rfl
          · rw [hsz rfl]; rfl
        rw [hz, clV_pos (Int.natCast_nonneg _) (by decide) (by decide), show hiW 8 false = 18446744073709551615 from by decide]
        generalize szM m e / kilo = q at hq
        omega
      rw [hv]
      refine run_convert_float_int (P := Try.prog) W 23 22 .f64 .u64 _ _ (by rw [Try.underlying23]; rfl) Try.underlying22 ?_
      have ht2 : (FloatKind.f64.decode (double.nearest false (szM m e / kilo) 0)).toInt .zero = some ((szM m e / kilo : Nat) : Int) := by
        show (double.read _).toInt .zero = _
        rw [g1, toInt_num false m' e' g2, g3, Nat.mul_div_cancel _ hk]; rfl
      unfold floatToIntVal
      rw [ht2]
      simp only
      rw [if_pos]
      generalize szM m e / kilo = q at hq
      constructor
      · show (0 : Int) ≤ _; omega
      · show _ ≤ (18446744073709551615 : Int); omega
end Go.Proofs.Ytanchgbpnioomab
