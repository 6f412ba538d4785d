/-
  The walks of New, Get, Drop, leastFree, Add. Conditions: numbers are ints, lengths are such as memory bears.
-/
import Derived.Test.YtpkbdpbggmiolaaDoorHMem
import Derived.Deep.RegionHeldLaw
import Derived.Carry
namespace Go.Proofs.YtpkbdpbggmiolaaDoor
open Go.RowKit Go.Maps
set_option linter.unusedVariables false
set_option maxRecDepth 100000

/-- 'm[k]' of a map whose elements read as themselves. -/
theorem wpList_lookup_v {P : Program} (w : World) {ops : Array Oper} {rest : List Oper} {o : Oper} {a : Act} {Q : Exit → Act → World → Prop} (hg : o.guard = none) (m x : Operand) (t : TypeId) (hop : o.op = Op.lookup t m x false)
    (k e : TypeId) (K : Keyed P k) (ht : P.underlying t = some (.map k e)) {z : Value} (hz : (zeroValue e).run P w = .ok z w) (b n : Nat) (D : DataW Value) (v : Value)
    (hm : a.eval m = .map (some b)) (hown : w.ownsMap P k Rv b n D) (key : Value) (kl : Lit) (hx : a.eval x = key) (hkey : keyOf P k key = some kl) (hat : ∀ zd, D.atKey kl zd = .held v)
    (hK : wpList P ops Q rest (a.put o.dst v) w) : wpList P ops Q (o :: rest) a w := by
  refine wpList_plain hg fun K' hK' => ?_
  obtain ⟨v', ps, hrun, hv⟩ := hown.lookup K ht hz (zd := .held z) (zp := []) rfl hkey
  rw [hat] at hv
  unfold Rv at hv
  simp at hv
  obtain ⟨rfl, _⟩ := hv
  unfold Oper.wp
  simp [execOp, hop, hm, hx, hrun, Result.andThen]
  exact hK' _ _ hK

theorem hnew_any (w : World) : Calls Tryd.prog 6 #[] w fun e w' => e = .returned (.pointer (some ⟨w.heap.size + 1, 0, none⟩)) ∧ HP w' w.heap.size (w.heap.size + 1) w.heap.size 0 0 0 (fun _ => none) (.map []) ∧ Below w.heap.size w w' := by
  have hmm := @run_makeMap Tryd.prog
  go_enter Tryd.func6, Tryd.ntmps6
  go_wp2
  go_ret
  refine ⟨by simp, ?_, ((Below.refl _ w).alloc (Nat.le_refl _) _).alloc (by simp) _⟩
  have h1 : ((w.alloc (.map #[] 0)).alloc (.cells #[.map (some w.heap.size), .int .i64 0] 59)).heap[w.heap.size + 1]? = some (.cells #[.map (some w.heap.size), .int .i64 0] 59 (0, 0)) := by
    have := heap_alloc_new (w.alloc (.map #[] 0)) (.cells #[.map (some w.heap.size), .int .i64 0] 59)
    simpa using this
  exact ⟨h1, ⟨(World.ownsMap_made w Tryd.prog 3 Rv).alloc _, rfl, (fun i b h => by cases h), (fun i _ => rfl)⟩, by omega, Nat.le_refl _, by omega, (fun i b v h => by cases h), (fun i h => by omega), (fun i b h => by cases h), by omega, Nat.le_refl _⟩

theorem hget_none {w : World} {B p m c low N : Nat} {T : Int → Option (List Int)} {D : DataW Value} (h : HP w B p m c low N T D) (i : Int) (h0 : -9223372036854775808 ≤ i) (h1 : i ≤ 9223372036854775807) (hT : T i = none) :
    Calls Tryd.prog 9 #[.pointer (some ⟨p, 0, none⟩), .int .i64 i] w fun e w' => e = .returned (.tuple #[.slice none 0 0, .int .i64 10]) ∧ w' = w := by
  obtain ⟨c0, _, _⟩ := h.c0
  have HH : Hid _ := has_any h i h0 h1
  rw [hT, Option.isSome_none] at HH
  clear h
  go_enter Tryd.func9, Tryd.ntmps9
  go_wp2_with (first | (go_at_call 20; refine (hNone_any p m w c0).mono ?_; rintro e w1 ⟨rfl, hw1⟩; obtain rfl := hw1.symm) | (go_at_call 24; refine Calls.mono HH.out ?_; rintro e w1 ⟨rfl, hw1⟩; obtain rfl := hw1.symm))
  go_ret2
  exact ⟨rfl, rfl⟩
theorem hget_some {w : World} {B p m c low N : Nat} {T : Int → Option (List Int)} {D : DataW Value} (h : HP w B p m c low N T D) (i : Int) (h0 : -9223372036854775808 ≤ i) (h1 : i ≤ 9223372036854775807) (b : List Int) (hT : T i = some b) :
    Calls Tryd.prog 9 #[.pointer (some ⟨p, 0, none⟩), .int .i64 i] w fun e w' => ∃ ao cap, e = .returned (.tuple #[.slice ao b.length cap, .int .i64 0]) ∧ Own w' w.heap.size (.slice ao b.length cap) b ∧ Below w.heap.size w w' := by
  obtain ⟨c0, _, _⟩ := h.c0
  have HH : Hid _ := has_any h i h0 h1
  rw [hT, Option.isSome_some] at HH
  obtain ⟨v, _, hat, hbs, _, hlen, _⟩ := h.mp.yes i b hT
  have HM : Hid (w.ownsMap Tryd.prog 3 Rv m c D) := h.mp.map
  have HAT : Hid (∀ z, D.atKey (ky i) z = .held v) := hat
  have HOW : Hid _ := hown_any v b w hbs (by omega)
  clear h hat hbs
  go_enter Tryd.func9, Tryd.ntmps9
  go_wp2_with (first | (go_at_call 20; refine (hNone_any p m w c0).mono ?_; rintro e w1 ⟨rfl, hw1⟩; obtain rfl := hw1.symm) | (go_at_call 24; refine Calls.mono HH.out ?_; rintro e w1 ⟨rfl, hw1⟩; obtain rfl := hw1.symm) | (at_lookup; refine wpList_lookup_v _ rfl _ _ 57 rfl 3 29 Tryd.keyed Tryd.underlying57 (Tryd.zeroBs _) m c D v rfl HM.out _ _ rfl (key_mk h0 h1) HAT.out ?_) | (go_at_call 22; refine Calls.mono HOW.out ?_; rintro e w2 ⟨ao2, cap2, rfl, ho2, hb2⟩))
  go_ret2
  exact ⟨ao2, cap2, rfl, ho2, hb2⟩

/-- The least number that none has. -/
def Free (T : Int → Option (List Int)) (k : Nat) : Prop := T k = none ∧ ∀ i : Nat, i < k → ∃ b, T i = some b
theorem hfree_any {w : World} {B p m c low N : Nat} {T : Int → Option (List Int)} {D : DataW Value} (h : HP w B p m c low N T D) :
    Calls Tryd.prog 21 #[.pointer (some ⟨p, 0, none⟩)] w fun e w' => ∃ k : Nat, e = .returned (.int .i64 (k : Int)) ∧ Free T k ∧ k ≤ N ∧ w' = w := by
  obtain ⟨c0, c1, _⟩ := h.c0
  have HH : Hid (∀ k : Nat, k ≤ N → Calls Tryd.prog 24 #[.pointer (some ⟨p, 0, none⟩), .int .i64 (k : Int)] w fun e w' => e = .returned (.bool (T k).isSome) ∧ w' = w) := fun k hk => has_any h k (by omega) (by have := h.hN; omega)
  have HL : Hid (∀ i : Nat, i < low → ∃ b, T i = some b) := h.lowf
  have HBD : Hid (∀ k : Nat, k ≤ N → (T k).isSome = true → k < N) := fun k hk hs => by
    obtain ⟨b, hb⟩ := Option.isSome_iff_exists.1 hs
    have := (h.bd _ _ hb).2
    omega
  have hN := h.hN
  have hlow := h.hlow
  clear h
  go_enter Tryd.func21, Tryd.ntmps21
  go_wp2
  go_loopw [3] (fun i wr => ∃ k : Nat, k ≤ N ∧ i = .int .i64 (k : Int) ∧ Hid (wr = w) ∧ Hid (∀ i : Nat, i < k → ∃ b, T i = some b)) (fun i _ => N + 1 - (intOf i).toNat)
  case atStart => exact ⟨low, hlow, rfl, rfl, HL.out⟩
  case round =>
    obtain ⟨k, hk, rfl, HW, HF⟩ := hrel
    obtain rfl := HW.out
    cases hT : (T k).isSome with
    | true =>
      have hkn : k < N := HBD.out k hk hT
      have HS : Hid ((T k).isSome = true) := hT
      go_wp2_with (go_at_call 24; refine (HH.out k hk).mono ?_; rintro e w1 ⟨rfl, hw1⟩; obtain rfl := hw1.symm; rw [HS.out])
      go_roundw
      case rel =>
        refine ⟨k + 1, by omega, by simp, (by first | exact trivial | exact rfl), fun i hi => ?_⟩
        rcases Nat.lt_or_ge i k with h1 | h1
        · exact HF.out i h1
        · obtain rfl : i = k := by omega
          exact Option.isSome_iff_exists.1 HS.out
      case measure => simp [intOf]; omega
    | false =>
      have HS : Hid (T k = none) := by unfold Hid; cases hx : T k; rfl; rw [hx] at hT; cases hT
      go_wp2_with (go_at_call 24; refine (HH.out k hk).mono ?_; rintro e w1 ⟨rfl, hw1⟩; obtain rfl := hw1.symm; rw [hT])
      go_ret
      exact ⟨k, rfl, ⟨HS.out, HF.out⟩, hk, rfl⟩
end Go.Proofs.YtpkbdpbggmiolaaDoor
