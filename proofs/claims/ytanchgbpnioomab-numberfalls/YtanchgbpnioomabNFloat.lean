/-
  Walks of number's functions over floats: IsNaN, Abs, floatOf, Nan. No conditions but that the arguments fit their kinds.
-/
import Derived.Test.YtanchgbpnioomabNClamp
import Derived.Test.YtanchgbpnioomabFRound
import Derived.WalkLawsBesides
namespace Go.Proofs.Ytanchgbpnioomab
open Go.RowKit
set_option linter.unusedVariables false
set_option maxRecDepth 100000
set_option maxHeartbeats 4000000

theorem order_self (f : Ieee.Format) (b : Nat) : (f.order b b != some .eq) = (f.read b).isNaN := by
  unfold Ieee.Format.order
  cases f.read b with
  | number s m e => simp [Ieee.Datum.order, Ieee.Datum.isNaN]
  | infinity s => simp [Ieee.Datum.order, Ieee.Datum.isNaN]
  | nan s t => rfl
/-- Whether a word of 8 bytes is no number. -/
def nan8 (b : Nat) : Bool := (Ieee.double.read b).isNaN
def nan4 (b : Nat) : Bool := (Ieee.single.read b).isNaN

theorem isNaN_any (b : Nat) (W : World) : Calls Try.prog 23 #[.float .f64 b] W fun e w' => e = .returned (.bool (nan8 b)) ∧ w' = W := by
  have H : Hid ((FloatKind.f64.format.order b b != some .eq) = nan8 b) := order_self _ b
  go_enter Try.func23, Try.ntmps23
  go_wp2
  go_ret
  exact ⟨ret_bool H.out, rfl⟩

/-- The bits of a float, and the float of bits. -/
theorem x_from64 (W : World) (b : Int) : (callFunc 8 #[.int .u64 b]).run Try.prog W = .ok (.value (.float .f64 b.toNat)) W := by
  rw [run_callFunc_extern Try.func8 (by kernel_rfl) (by kernel_rfl) (by kernel_rfl) (e := Extern.MathFloatBits.float64frombits) (by kernel_rfl)]; rfl
theorem x_from32 (W : World) (b : Int) : (callFunc 9 #[.int .u32 b]).run Try.prog W = .ok (.value (.float .f32 b.toNat)) W := by
  rw [run_callFunc_extern Try.func9 (by kernel_rfl) (by kernel_rfl) (by kernel_rfl) (e := Extern.MathFloatBits.float32frombits) (by kernel_rfl)]; rfl
theorem x_bits64 (W : World) (b : Nat) : (callFunc 13 #[.float .f64 b]).run Try.prog W = .ok (.value (.int .u64 b)) W := by
  rw [run_callFunc_extern Try.func13 (by kernel_rfl) (by kernel_rfl) (by kernel_rfl) (e := Extern.MathFloatBits.float64bits) (by kernel_rfl)]; rfl
theorem x_bits32 (W : World) (b : Nat) : (callFunc 11 #[.float .f32 b]).run Try.prog W = .ok (.value (.int .u32 b)) W := by
  rw [run_callFunc_extern Try.func11 (by kernel_rfl) (by kernel_rfl) (by kernel_rfl) (e := Extern.MathFloatBits.float32bits) (by kernel_rfl)]; rfl

/-- A word of 8 bytes that stands for what is told. -/
def Same : Ieee.Datum → Nat → Prop
  | .nan _ _, x => nan8 x = true
  | .infinity s, x => Ieee.double.read x = .infinity s
  | .number s m e, x => ∃ m' e', Ieee.double.read x = .number s m' e' ∧ -1074 ≤ e' ∧ szM m' e' = szM m e
theorem Same.self (b : Nat) : Same (Ieee.double.read b) b := by
  cases h : Ieee.double.read b with
  | number s m e => exact ⟨m, e, h, (read_place _ (.inr rfl) b h).1, rfl⟩
  | infinity s => exact h
  | nan s t => simp only [Same, nan8, h]; rfl

theorem floatOf8 (b : Int) (W : World) : Calls Try.prog 25 #[.int .u64 b, .int .i64 8] W fun e w' => e = .returned (.tuple #[.float .f64 b.toNat, .int .i64 0]) ∧ w' = W := by
  have hx := x_from64
  go_enter Try.func25, Try.ntmps25
  go_wp2
  go_ret2
  exact ⟨rfl, rfl⟩
theorem floatOf_no (b n : Int) (W : World) (h4 : n ≠ 4) (h8 : n ≠ 8) : Calls Try.prog 25 #[.int .u64 b, .int .i64 n] W fun e w' => e = .returned (.tuple #[.float .f64 0, .int .i64 2]) ∧ w' = W := by
  go_enter Try.func25, Try.ntmps25
  go_wp2
  go_ret2
  exact ⟨rfl, rfl⟩
theorem floatOf_big (b : Int) (W : World) (h : 4294967296 ≤ b) : Calls Try.prog 25 #[.int .u64 b, .int .i64 4] W fun e w' => e = .returned (.tuple #[.float .f64 0, .int .i64 3]) ∧ w' = W := by
  go_enter Try.func25, Try.ntmps25
  go_wp2
  go_ret2
  exact ⟨rfl, rfl⟩

/-- What float64(x) makes of one of 4 bytes. -/
theorem wide_lt {b : Nat} {s : Bool} {m : Nat} {e : Int} (h : Ieee.single.read b = .number s m e) : rg Ieee.double (szM m e) < Ieee.double.infRung := by
  obtain ⟨h1, h2, h3⟩ := read_place _ (.inl rfl) b h
  have h4 : e ≤ 971 := h2
  have hle : e ≤ 104 := by
    unfold Ieee.Format.read at h
    simp only [single_bin, single_inf, single_sw, single_lp] at h
    split at h
    · cases h; decide
    · split at h
      · cases h; omega
      · split at h <;> cases h
  obtain ⟨k, hk⟩ : ∃ k : Nat, k = 1178 := ⟨_, rfl⟩
  have hm : szM m e ≤ 2 ^ 24 * 2 ^ k := by
    unfold szM
    refine Nat.mul_le_mul ?_ (Nat.pow_le_pow_right (by decide) (by omega))
    rw [single_bin] at h3; omega
  refine Nat.lt_of_le_of_lt (rg_mono _ hm) ?_
  subst hk
  decide +kernel
theorem word_read_num (f : Ieee.Format) (hf : f = Ieee.single ∨ f = Ieee.double) (s : Bool) (r : Nat) (h : r < f.infRung) :
    ∃ m e, f.read (f.word s r) = .number s m e ∧ -1074 ≤ e ∧ szM m e = mg f r := by
  have hi := f.infRung_lt
  obtain ⟨h1, h2⟩ := word_split f s r (by omega)
  have := read_num f hf (f.word s r) (by rw [h2]; exact h)
  rw [h1, h2] at this
  have hs : (s.toNat == 1) = s := by cases s <;> rfl
  rwa [hs] at this
theorem word_read_inf (f : Ieee.Format) (hf : f = Ieee.single ∨ f = Ieee.double) (s : Bool) : f.read (f.word s f.infRung) = .infinity s := by
  obtain ⟨h1, h2⟩ := word_split f s f.infRung f.infRung_lt
  have := read_inf f hf (f.word s f.infRung) h2
  rw [h1] at this
  have hs : (s.toNat == 1) = s := by cases s <;> rfl
  rwa [hs] at this
theorem single_exact {b : Nat} {s : Bool} {m : Nat} {e : Int} (h : Ieee.single.read b = .number s m e) : mg Ieee.double (rg Ieee.double (szM m e)) = szM m e := by
  obtain ⟨h1, h2, h3⟩ := read_place _ (.inl rfl) b h
  by_cases h0 : m = 0
  · subst h0; unfold szM; rw [Nat.zero_mul]; decide
  · refine mg_rg _ _ (by unfold szM; have := Nat.mul_pos (Nat.pos_of_ne_zero h0) (two_pos (e + 1074).toNat); omega) ?_ (wide_lt h)
    have hk : keep Ieee.double (szM m e) ≤ (e + 1074).toNat := by
      unfold keep szM
      rw [log2_mul h0, lowD_double, show Ieee.double.fractionBits = 52 from rfl]
      have hl : m.log2 < 24 := by rw [Nat.log2_lt h0]; rw [single_bin] at h3; omega
      omega
    unfold szM
    exact Nat.dvd_trans (Nat.pow_dvd_pow 2 hk) (Nat.dvd_mul_left ..)

theorem conv_wide (b : Nat) (W : World) : ∃ x W', (convert 25 23 (.float .f32 b)).run Try.prog W = .ok (.float .f64 x) W' ∧ Same (Ieee.single.read b) x ∧ (nan4 b = false → W' = W ∧ x = FloatKind.f64.encode (Ieee.single.read b)) ∧ Below W.heap.size W W' := by
  cases h : Ieee.single.read b with
  | number s m e =>
    have hp := (read_place _ (.inl rfl) b h).1
    have e1 : FloatKind.f64.encode (.number s m e) = Ieee.double.word s (rg Ieee.double (szM m e)) := nearest_eq Ieee.double (.inr rfl) s m e hp
    obtain ⟨m', e', h1, h2, h3⟩ := word_read_num Ieee.double (.inr rfl) s _ (wide_lt h)
    have hb : floatToFloatBits .f32 b .f64 = some (FloatKind.f64.encode (.number s m e)) := by
      have hd : FloatKind.f32.decode b = .number s m e := h
      unfold floatToFloatBits
      rw [if_neg (by decide), hd]
      simp only
      rw [if_neg]
      have hd2 : FloatKind.f64.decode (FloatKind.f64.encode (.number s m e)) = .number s m' e' := by rw [e1]; exact h1
      rw [hd2]; simp [Ieee.Datum.isInfinity]
    refine ⟨_, W, run_convert_float_float W _ _ _ _ _ _ (by rw [Try.underlying25]; rfl) Try.underlying23 hb, ?_, fun _ => ⟨rfl, rfl⟩, Below.refl _ _⟩
    rw [e1]
    exact ⟨m', e', h1, h2, by rw [h3, single_exact h]⟩
  | infinity s =>
    have hd : FloatKind.f32.decode b = .infinity s := h
    have hb : floatToFloatBits .f32 b .f64 = some (FloatKind.f64.encode (.infinity s)) := by
      unfold floatToFloatBits
      rw [if_neg (by decide), hd]
    exact ⟨_, W, run_convert_float_float W _ _ _ _ _ _ (by rw [Try.underlying25]; rfl) Try.underlying23 hb, word_read_inf _ (.inr rfl) s, fun _ => ⟨rfl, rfl⟩, Below.refl _ _⟩
  | nan s t =>
    have hd : FloatKind.f32.decode b = .nan s t := h
    refine ⟨(Question.nanConv .f64 b).cut (W.tape W.drawn (.nanConv .f64 b)), W.drew, ?_, ?_, fun hn => by simp [nan4, h, Ieee.Datum.isNaN] at hn, ?_⟩
    · simp [convert, run_underlying Try.underlying25, run_underlying Try.underlying23, Conv.floatToFloat, hd, Question.forced]
    · simp only [Same, nan8]
      generalize W.tape W.drawn (.nanConv .f64 b) = t
      show (Ieee.double.read (t % 2 * 2 ^ 63 + 0x7ff0000000000000 + 1 + t / 2 % (2 ^ 52 - 1))).isNaN = true
      have : Ieee.double.infRung < (t % 2 * 2 ^ 63 + 0x7ff0000000000000 + 1 + t / 2 % (2 ^ 52 - 1)) % Ieee.double.signWeight := by
        rw [double_sw, double_inf]
        have a1 : t % 2 < 2 := Nat.mod_lt _ (by decide)
        have a2 : t / 2 % (2 ^ 52 - 1) < 2 ^ 52 - 1 := Nat.mod_lt _ (by decide)
        generalize t % 2 = p at *
        generalize t / 2 % (2 ^ 52 - 1) = q at *
        omega
      rw [read_nan _ (.inr rfl) _ this]; rfl
    · exact Below.drew (Below.refl _ _)
end Go.Proofs.Ytanchgbpnioomab
