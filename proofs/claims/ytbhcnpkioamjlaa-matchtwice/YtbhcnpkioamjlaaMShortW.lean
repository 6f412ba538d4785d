/-
  What is packed has at most a byte more: the law's walk; that of bytes that are all alike, and of a row that stands twice. No conditions.
-/
import Derived.Test.YtbhcnpkioamjlaaMPkX
namespace Go.Proofs.Ytbhcnpkioamjlaa
open Go.RowKit
set_option linter.unusedVariables false
set_option maxRecDepth 100000

theorem TlP.open {w w' : World} {er : Int} {R : List Int} {e : Ending} (h : TlP w er R e w') : ∃ ao k cap, e = .returned (.tuple #[.slice ao k cap, .int .i64 er]) ∧ R.length = k ∧ Own w' w.heap.size (.slice ao k cap) R ∧ Below w.heap.size w w' := by
  obtain ⟨x, rfl, ho, hb⟩ := h
  obtain ⟨ao, cap, rfl, _, _⟩ := id ho.opened
  exact ⟨ao, _, cap, rfl, rfl, ho, hb⟩
set_option maxHeartbeats 16000000 in
theorem matchShort_walk (v : Value) (l : List Int) (w : World) (hl : Bs w v l) (hby : Byt l) (hlb : l.length ≤ 140737488351232) :
    Calls Try.prog 6 #[v] w fun e w' => e = .returned (.bool true) ∧ Below w.heap.size w w' := by
  obtain ⟨ao, cap, rfl, _⟩ := id hl
  obtain ⟨n, hn⟩ : ∃ n, l.length = n := ⟨_, rfl⟩
  have HN : Hid (l.length = n) := hn
  rw [hn] at hl hlb ⊢
  by_cases hbig : 10000 < n
  · have hbi : (10000 : Int) < (n : Int) := by omega
    have HLI : Hid _ := lives15_any w
    clear hl hn
    go_enter Try.func6, Try.ntmps6
    go_wp2_with fail
    refine Calls.mono HLI.out ?_
    rintro e w2 ⟨rfl, hb2⟩
    have HB2 : Hid (Below w.heap.size w w2) := hb2
    clear hb2
    go_wp2_with fail
    go_ret
    exact ⟨rfl, HB2.out⟩
  · have hbi : ¬ (10000 : Int) < (n : Int) := by omega
    have HP : Hid _ := pack_any _ l w hl (by omega)
    have HS : Hid _ := pkX_short 0 l
    clear hl hn
    go_enter Try.func6, Try.ntmps6
    go_wp2_with fail
    refine Calls.mono HP.out ?_
    intro e w2 h2
    obtain ⟨a2, k, c2, rfl, hk, ho2, hb2⟩ := h2.open
    have HB2 : Hid (Below w.heap.size w w2) := hb2
    have hs := HS.out
    rw [hk, HN.out] at hs
    have q1 : (1 : Int) ≤ (k : Int) := by omega
    have q2 : (k : Int) ≤ (n : Int) + 1 := by omega
    have q3 : IntKind.i64.wrap ((n : Int) + 1) = (n : Int) + 1 := wrap_i64_in _ (by omega) (by omega)
    clear ho2 hb2 h2 hk hs
    go_wp2_with (go_at_call 9; refine (lives15_any _).mono ?_; rintro e w11 ⟨rfl, hb11⟩; have HB11 : Hid (Below w.heap.size w w11) := HB2.out.trans (hb11.mono HB2.out.size); clear hb11)
    go_ret
    exact ⟨rfl, HB11.out⟩
end Go.Proofs.Ytbhcnpkioamjlaa
