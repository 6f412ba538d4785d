/-
  Whatever bytes are unpacked, there are never more than may be: the law's walk. No conditions.
-/
import Derived.Test.YtbhcnpkioamjlabMShortW
namespace Go.Proofs.Ytbhcnpkioamjlab
open Go.RowKit
set_option linter.unusedVariables false
set_option maxRecDepth 100000

set_option maxHeartbeats 16000000 in
theorem matchMost_walk (v : Value) (l : List Int) (a1 : Int) (w : World) (hl : Bs w v l) (hby : Byt l) (hlb : l.length ≤ 140737488351232) (h1 : (Lit.int .u64 a1).wf = true) :
    Calls Try.prog 3 #[v, .int .u64 a1] w fun e w' => e = .returned (.bool true) ∧ Below w.heap.size w w' := by
  have ha : 0 ≤ a1 := by simp [Lit.wf, IntKind.min, IntKind.max, IntKind.bits, IntKind.signed] at h1; omega
  obtain ⟨m, hm⟩ : ∃ m : Nat, a1.tmod 65537 = (m : Int) := ⟨(a1 % 65537).toNat, by rw [Int.tmod_eq_emod_of_nonneg ha]; omega⟩
  have hmb : m ≤ 65536 := by
    rw [Int.tmod_eq_emod_of_nonneg ha] at hm
    omega
  have hw1 : wrap64 (m : Int) = (m : Int) := by unfold wrap64; omega
  have hw2 : IntKind.i64.wrap (m : Int) = (m : Int) := wrap_i64_in _ (by omega) (by omega)
  have hw3 : IntKind.u64.wrap (m : Int) = (m : Int) := by rw [IntKind.wrap_u64]; omega
  have HP : Hid _ := unpack_in v l m w hl hby hmb hlb
  have HM : Hid _ := un_most l m
  obtain ⟨R, hR⟩ : ∃ R, (unE l m).1 = R := ⟨_, rfl⟩
  obtain ⟨E, hE⟩ : ∃ E, (unE l m).2 = E := ⟨_, rfl⟩
  rw [hR, hE] at HP HM
  clear hl hby hlb h1 hR hE
  rcases HM.out with ⟨h0, hle⟩ | ⟨hnil, h35⟩
  · subst h0
    go_enter Try.func3, Try.ntmps3
    go_wp2_with fail
    refine Calls.mono HP.out ?_
    intro e w2 h2
    obtain ⟨a2, k, c2, rfl, hk, ho2, hb2⟩ := h2.open
    have HB2 : Hid (Below w.heap.size w w2) := hb2
    have hki : (k : Int) ≤ (m : Int) := by omega
    clear ho2 hb2 h2 hk hle
    go_wp2_with (go_at_call 5; refine (lives15_any _).mono ?_; rintro e w11 ⟨rfl, hb11⟩; have HB11 : Hid (Below w.heap.size w w11) := HB2.out.trans (hb11.mono HB2.out.size); clear hb11)
    go_ret
    exact ⟨rfl, HB11.out⟩
  · subst hnil
    rcases h35 with h | h
    all_goals
      subst h
      go_enter Try.func3, Try.ntmps3
      go_wp2_with fail
      refine Calls.mono HP.out ?_
      intro e w2 h2
      obtain ⟨a2, k, c2, rfl, hk, ho2, hb2⟩ := h2.open
      obtain rfl : k = 0 := by simpa using hk.symm
      have HB2 : Hid (Below w.heap.size w w2) := hb2
      have hki : (0 : Int) ≤ (m : Int) := by omega
      clear ho2 hb2 h2 hk
      go_wp2_with (go_at_call 5; refine (lives15_any _).mono ?_; rintro e w11 ⟨rfl, hb11⟩; have HB11 : Hid (Below w.heap.size w w11) := HB2.out.trans (hb11.mono HB2.out.size); clear hb11)
      go_ret
      exact ⟨rfl, HB11.out⟩
end Go.Proofs.Ytbhcnpkioamjlab
