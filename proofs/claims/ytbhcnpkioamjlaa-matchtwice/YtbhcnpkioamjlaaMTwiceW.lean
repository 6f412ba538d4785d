/-
  A row that stands twice is packed in its bytes and 8: the law's walk. No conditions.
-/
import Derived.Test.YtbhcnpkioamjlaaMShortW
namespace Go.Proofs.Ytbhcnpkioamjlaa
open Go.RowKit
set_option linter.unusedVariables false
set_option maxRecDepth 100000

set_option maxHeartbeats 16000000 in
theorem matchTwice_walk (v : Value) (l : List Int) (w : World) (hl : Bs w v l) (hby : Byt l) (hlb : l.length ≤ 140737488351232) :
    Calls Try.prog 8 #[v] w fun e w' => e = .returned (.bool true) ∧ Below w.heap.size w w' := by
  obtain ⟨i0, hi, hi0, hi1, hi2⟩ := info_parts Try.info5
  obtain ⟨ao, cap, rfl, _⟩ := id hl
  obtain ⟨n, hn⟩ : ∃ n, l.length = n := ⟨_, rfl⟩
  have HN : Hid (l.length = n) := hn
  rw [hn] at hl hlb ⊢
  by_cases hin : 10 ≤ n ∧ n ≤ 131
  · obtain ⟨h10, h131⟩ := hin
    have hb1 : ¬ (n : Int) < 10 := by omega
    have hb2 : ¬ (131 : Int) < (n : Int) := by omega
    have HL : Hid (Bs w (.slice ao n cap) l) := hl
    have HS : Hid _ := pkX_twice (c := 0) (Nat.zero_le _) (b := l) (by omega) (by omega)
    have HSH : Hid _ := pkX_short 0 (l ++ l)
    obtain ⟨w1, hw1, b1, s1, o1⟩ := empty_own w
    have HO : Hid _ := o1
    have HB : Hid (Below w.heap.size w w1) := b1
    clear hl hn b1 o1
    go_enter Try.func8, Try.ntmps8
    go_wp2_with (first | (at_builtin; refine wpList_append_bytes _ rfl (.tmp 15) (.tmp 16) 22 rfl i0 Try.underlying22 hi hi0 hi1 hi2 w.heap.size _ (.slice ao n cap) [] l rfl rfl HO.out (HL.out.below HB.out) (by rw [HN.out]; simp only [List.length_nil]; omega) w HB.out s1 ?_; intro ao1 cap1 w5 ho1 hb1 _ _; rw [List.nil_append] at ho1; generalize ([] : List Int).length + l.length = N1 at ho1 ⊢; have HO5 : Hid (Own w5 w.heap.size _ l) := ho1; have HB5 : Hid (Below w.heap.size w w5) := hb1; have hs5 := hb1.size; clear ho1 hb1) | (at_builtin; refine wpList_append_bytes _ rfl (.tmp 17) (.tmp 18) 22 rfl i0 Try.underlying22 hi hi0 hi1 hi2 w.heap.size _ (.slice ao n cap) l l rfl rfl HO5.out (HL.out.below HB5.out) (by rw [HN.out]; omega) w HB5.out hs5 ?_; intro ao2 cap2 w6 ho2 hb2 _ _; have HO6 : Hid (Own w6 w.heap.size (.slice ao2 (l.length + l.length) cap2) (l ++ l)) := ho2; have HB6 : Hid (Below w.heap.size w w6) := hb2; clear ho2 hb2))
    refine Calls.mono (pack_any _ (l ++ l) _ HO6.out.bs (by rw [List.length_append, HN.out]; omega)) ?_
    intro e w2 h2
    obtain ⟨a2, k, c2, rfl, hk, ho2, hb2⟩ := h2.open
    have HB2 : Hid (Below w.heap.size w w2) := HB6.out.trans (hb2.mono HB6.out.size)
    have hs := HS.out
    have hsh := HSH.out.1
    rw [hk, HN.out] at hs
    rw [hk] at hsh
    have q1 : (1 : Int) ≤ (k : Int) := by omega
    have q2 : (k : Int) ≤ (n : Int) + 8 := by omega
    have q3 : IntKind.i64.wrap ((n : Int) + 8) = (n : Int) + 8 := wrap_i64_in _ (by omega) (by omega)
    clear ho2 hb2 h2 hk hs hsh
    go_wp2_with (go_at_call 9; refine (lives15_any _).mono ?_; rintro e w11 ⟨rfl, hb11⟩; have HB11 : Hid (Below w.heap.size w w11) := HB2.out.trans (hb11.mono HB2.out.size); clear hb11)
    go_ret
    exact ⟨rfl, HB11.out⟩
  · have HLI : Hid _ := lives15_any w
    clear hl hn
    by_cases hb1 : (n : Int) < 10
    all_goals
      first
      | have hb2 : (131 : Int) < (n : Int) := by omega
      | skip
      go_enter Try.func8, Try.ntmps8
      go_wp2_with fail
      refine Calls.mono HLI.out ?_
      rintro e w2 ⟨rfl, hb2⟩
      have HB2 : Hid (Below w.heap.size w w2) := hb2
      clear hb2
      go_wp2_with fail
      go_ret
      exact ⟨rfl, HB2.out⟩
end Go.Proofs.Ytbhcnpkioamjlaa
