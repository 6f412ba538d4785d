/-
  What went through any filters comes back; how many bytes there are; which filters may be: the laws' walks. No conditions.
-/
import Derived.Test.YtgodoogmbdgeoaaFiLives
import Derived.Test.YtgodoogmbdgeoaaFiRefC
namespace Go.Proofs.Ytgodoogmbdgeoaa
open Go.RowKit
set_option linter.unusedVariables false
set_option maxRecDepth 100000

theorem TlP.openF {w w' : World} {er : Int} {R : List Int} {e : Ending} (h : TlP w er R e w') : ∃ ao n cap, e = .returned (.tuple #[.slice ao n cap, .int .i64 er]) ∧ R.length = n ∧ Own w' w.heap.size (.slice ao n cap) R ∧ Below w.heap.size w w' := by
  obtain ⟨x, rfl, ho, hb⟩ := h
  obtain ⟨ao, cap, rfl, _, _⟩ := ho.opened
  exact ⟨ao, _, cap, rfl, rfl, ho, hb⟩
set_option maxHeartbeats 16000000 in
theorem filterChecks_walk (v : Value) (L : List Fil) (w : World) (hl : Fls w v L) (hlb : L.length ≤ 8796093021952) :
    Calls Try.prog 3 #[v] w fun e w' => e = .returned (.bool true) ∧ Below w.heap.size w w' := by
  have HC : Hid _ := check_any v L w hl hlb
  have HR : Hid (∀ w', Below w.heap.size w w' → Calls Try.prog 10 #[v] w' fun e w2 => e = .returned (.int .i64 (chE L)) ∧ w2 = w') := fun w' hb => refCheck_any v L w' (hl.below hb) hlb
  generalize chE L = c at *
  clear hl
  go_enter Try.func3, Try.ntmps3
  go_wp2_with fail
  refine Calls.mono HC.out ?_
  rintro e w2 ⟨rfl, hb2⟩
  have HB2 : Hid (Below w.heap.size w w2) := hb2
  clear hb2
  go_wp2_with fail
  refine Calls.mono (HR.out _ HB2.out) ?_
  rintro e w3 ⟨rfl, rfl⟩
  go_wp2_with fail
  refine Calls.mono (lives16_any _) ?_
  rintro e w4 ⟨rfl, hb4⟩
  have HB4 : Hid (Below w.heap.size w w4) := box_next HB2.out HB2.out.size hb4
  clear hb4
  go_wp2_with fail
  go_ret
  exact ⟨rfl, HB4.out⟩
theorem apR_len (L : List Fil) (b : List Int) : (apR L b).length ≤ b.length + 16 ∧ (apE L b.length ≠ 0 → apR L b = []) := by
  unfold apR
  split
  · rename_i h
    refine ⟨?_, fun h' => absurd h h'⟩
    have hc : chE L = 0 := by
      unfold apE at h
      split at h
      · assumption
      · exact h
    have h1 := ap_len L b
    have h2 := (chE_ok hc).1
    omega
  · exact ⟨by simp, fun _ => rfl⟩
set_option maxHeartbeats 16000000 in
theorem filterBound_walk (v : Value) (L : List Fil) (x : Value) (b : List Int) (w : World) (hl : Fls w v L) (hlb : L.length ≤ 8796093021952) (hb : Bs w x b) (hby : Byt b) (hbl : b.length ≤ 140737488351232) :
    Calls Try.prog 7 #[v, x] w fun e w' => e = .returned (.bool true) ∧ Below w.heap.size w w' := by
  have HA : Hid _ := apply_any v x L b w hl hb hby hlb hbl
  obtain ⟨h1, h2⟩ := apR_len L b
  obtain ⟨xo, xc, rfl, hq1, hq2, hq3⟩ := id hb
  clear hq1 hq2 hq3
  generalize apE L b.length = E at *
  generalize apR L b = R at *
  obtain ⟨m, hm⟩ : ∃ m, b.length = m := ⟨_, rfl⟩
  rw [hm] at h1 hbl ⊢
  rw [hm] at HA
  have HR : Hid (R.length ≤ m + 16 ∧ (E ≠ 0 → R = [])) := ⟨h1, h2⟩
  clear hl hb hm h1 h2
  have wa : IntKind.i64.wrap ((m : Int) + 16) = (m : Int) + 16 := by simp [IntKind.wrap, IntKind.bits, IntKind.signed]; omega
  go_enter Try.func7, Try.ntmps7
  go_wp2_with fail
  refine Calls.mono HA.out ?_
  intro e w2 h2
  obtain ⟨ao, n, cap, rfl, hn, ho, hb2⟩ := h2.openF
  have HB2 : Hid (Below w.heap.size w w2) := hb2
  have hle : (n : Int) ≤ (m : Int) + 16 := by have := HR.out.1; omega
  have HLV : Hid _ := lives16_any w2
  by_cases hE : E = 0
  · subst hE
    clear h2 ho hb2 hn HR
    go_wp2_with fail
    refine Calls.mono HLV.out ?_
    rintro e w4 ⟨rfl, hb4⟩
    have HB4 : Hid (Below w.heap.size w w4) := box_next HB2.out HB2.out.size hb4
    clear hb4
    go_wp2_with fail
    go_ret
    exact ⟨rfl, HB4.out⟩
  · have hE2 : (E == 0) = false := by simp [hE]
    have hn0 : n = 0 := by rw [← hn, HR.out.2 hE]; rfl
    subst hn0
    clear h2 ho hb2 hn HR
    go_wp2_with fail
    refine Calls.mono HLV.out ?_
    rintro e w4 ⟨rfl, hb4⟩
    have HB4 : Hid (Below w.heap.size w w4) := box_next HB2.out HB2.out.size hb4
    clear hb4
    go_wp2_with fail
    go_ret
    exact ⟨rfl, HB4.out⟩
theorem ud_same {L : List Fil} (h : chE L = 0) {b : List Int} (hby : Byt b) (hl : b.length ≤ 4096) : udE L (apL L b) b.length = 0 ∧ udR L (apL L b) b.length = b := by
  have e := ud_all h hby hl
  obtain ⟨h1, h2⟩ := ud_yes h (b := apL L b) (n := (b.length : Int)) (by omega) (by rw [e]) (by rw [e])
  rw [e] at h2
  exact ⟨h1, h2⟩
theorem ud_more {L : List Fil} (h : chE L = 0) {b : List Int} (hby : Byt b) (hl : b.length < 4096) : udE L (apL L b) ((b.length : Int) + 1) = 5 ∧ udR L (apL L b) ((b.length : Int) + 1) = [] := by
  have e := ud_all h hby (by omega)
  refine ud_no h (by omega) ?_
  rw [e]
  simp only
  omega
set_option maxHeartbeats 32000000 in
theorem filterBack_walk (v : Value) (L : List Fil) (x : Value) (b : List Int) (w : World) (hl : Fls w v L) (hlb : L.length ≤ 8796093021952) (hb : Bs w x b) (hby : Byt b) (hbl : b.length ≤ 140737488351232) :
    Calls Try.prog 6 #[v, x] w fun e w' => e = .returned (.bool true) ∧ Below w.heap.size w w' := by
  have HA : Hid _ := apply_any v x L b w hl hb hby hlb hbl
  have HL : Hid (Fls w v L) := hl
  have HX : Hid (Bs w x b) := hb
  obtain ⟨xo, xc, rfl, hq1, hq2, hq3⟩ := id hb
  clear hq1 hq2 hq3
  by_cases h0 : chE L = 0
  · by_cases hbig : 4096 < b.length
    · obtain ⟨e1, e2⟩ := ap_big h0 hbig
      rw [e1, e2] at HA
      obtain ⟨m, hm⟩ : ∃ m, b.length = m := ⟨_, rfl⟩
      rw [hm] at hbig HA ⊢
      have hbi : (4096 : Int) < (m : Int) := by omega
      clear hl hb e1 e2 hm hbig HX
      go_enter Try.func6, Try.ntmps6
      go_wp2_with fail
      refine Calls.mono HA.out ?_
      intro e w2 h2
      obtain ⟨ao, n, cap, rfl, hn, ho, hb2⟩ := h2.openF
      obtain rfl : 0 = n := hn
      have HB2 : Hid (Below w.heap.size w w2) := hb2
      have HLV : Hid _ := lives16_any w2
      clear h2 ho hb2
      go_wp2_with fail
      refine Calls.mono HLV.out ?_
      rintro e w4 ⟨rfl, hb4⟩
      have HB4 : Hid (Below w.heap.size w w4) := box_next HB2.out HB2.out.size hb4
      clear hb4
      go_wp2_with fail
      go_ret
      exact ⟨rfl, HB4.out⟩
    · obtain ⟨e1, e2⟩ := ap_yes h0 hbig
      rw [e1, e2] at HA
      have hrl := ap_len L b
      have hl4 := (chE_ok h0).1
      have HRB : Hid ((apL L b).length ≤ 140737488351232) := (by omega : (apL L b).length ≤ 140737488351232)
      have HU : Hid (∀ W y, Below w.heap.size w W → Bs W y (apL L b) → Calls Try.prog 17 #[v, y, .int .i64 (b.length : Int)] W (TlP W 0 b)) := fun W y hW hy => by
        have := undo_any v y L (apL L b) (b.length : Int) W (HL.out.below hW) hy (byt_ap L hby) hlb HRB.out
        rwa [(ud_same h0 hby (by omega)).1, (ud_same h0 hby (by omega)).2] at this
      have HV : Hid (b.length < 4096 → ∀ W y, Below w.heap.size w W → Bs W y (apL L b) → Calls Try.prog 17 #[v, y, .int .i64 ((b.length : Int) + 1)] W (TlP W 5 [])) := fun hlt W y hW hy => by
        have := undo_any v y L (apL L b) ((b.length : Int) + 1) W (HL.out.below hW) hy (byt_ap L hby) hlb HRB.out
        rwa [(ud_more h0 hby hlt).1, (ud_more h0 hby hlt).2] at this
      generalize apL L b = R at *
      obtain ⟨m, hm⟩ : ∃ m, b.length = m := ⟨_, rfl⟩
      rw [hm] at hbig HX HU HV HA ⊢
      clear hl hb e1 e2 hm hrl hl4 HRB hby hlb h0 hbl
      go_enter Try.func6, Try.ntmps6
      go_wp2_with fail
      refine Calls.mono HA.out ?_
      rintro e w2 ⟨x2, rfl, ho2, hb2⟩
      have HY2 : Hid (Bs w2 x2 R) := ho2.bs
      have HB2 : Hid (Below w.heap.size w w2) := hb2
      have HU2 : Hid _ := HU.out w2 x2 hb2 ho2.bs
      clear ho2 hb2
      go_wp2_with fail
      refine Calls.mono HU2.out ?_
      rintro e w3 ⟨x3, rfl, ho3, hb3⟩
      have HB3 : Hid (Below w.heap.size w w3) := box_next HB2.out HB2.out.size hb3
      have HY3 : Hid (Bs w3 x2 R) := HY2.out.below hb3
      have hsx := Bs.str (P := Try.prog) ho3.bs Try.underlying28 Try.underlying5 (dst := 9) Try.underlying9
      have hsy := Bs.str (P := Try.prog) (HX.out.below HB3.out) Try.underlying28 Try.underlying5 (dst := 9) Try.underlying9
      have HLV : Hid _ := lives16_any w3
      clear ho3 hb3 HU2
      by_cases hmx : m = 4096
      · subst hmx
        go_wp2_with fail
        refine Calls.mono HLV.out ?_
        rintro e w4 ⟨rfl, hb4⟩
        have HB4 : Hid (Below w.heap.size w w4) := box_next HB3.out HB3.out.size hb4
        clear hb4
        go_wp2_with fail
        go_ret
        exact ⟨rfl, HB4.out⟩
      · have hne : (((m : Nat) : Int) == 4096) = false := by simp; omega
        have wa : IntKind.i64.wrap ((m : Int) + 1) = (m : Int) + 1 := by simp [IntKind.wrap, IntKind.bits, IntKind.signed]; omega
        have HV3 : Hid _ := HV.out (by omega) w3 x2 HB3.out HY3.out
        clear hmx hbig
        go_wp2_with fail
        refine Calls.mono HV3.out ?_
        intro e w4 h4
        obtain ⟨ao, n, cap, rfl, hn, ho, hb4⟩ := h4.openF
        obtain rfl : 0 = n := hn
        have HB4 : Hid (Below w.heap.size w w4) := box_next HB3.out HB3.out.size hb4
        have HLV4 : Hid _ := lives16_any w4
        clear h4 ho hb4
        go_wp2_with fail
        refine Calls.mono HLV4.out ?_
        rintro e w5 ⟨rfl, hb5⟩
        have HB5 : Hid (Below w.heap.size w w5) := box_next HB4.out HB4.out.size hb5
        clear hb5
        go_wp2_with fail
        go_ret
        exact ⟨rfl, HB5.out⟩
  · obtain ⟨e1, e2⟩ := ap_bad h0 b
    rw [e1, e2] at HA
    have HC : Hid (∀ W, Below w.heap.size w W → Calls Try.prog 9 #[v] W fun e w' => e = .returned (.int .i64 (chE L)) ∧ Below W.heap.size W w') := fun W h => check_any v L W (HL.out.below h) hlb
    obtain ⟨c, hc0⟩ : ∃ c, chE L = c := ⟨_, rfl⟩
    rw [hc0] at HA HC h0
    have hne : (c != 0) = true := by simp [h0]
    obtain ⟨m, hm⟩ : ∃ m, b.length = m := ⟨_, rfl⟩
    rw [hm] at HA ⊢
    clear hl hb e1 e2 hby h0 hc0 hlb hbl HX hm
    go_enter Try.func6, Try.ntmps6
    go_wp2_with fail
    refine Calls.mono HA.out ?_
    intro e w2 h2
    obtain ⟨ao, n, cap, rfl, hn, ho, hb2⟩ := h2.openF
    obtain rfl : 0 = n := hn
    have HB2 : Hid (Below w.heap.size w w2) := hb2
    have HC2 : Hid _ := HC.out w2 hb2
    have HLV : Hid _ := lives16_any w2
    clear h2 ho hb2
    by_cases hbg : 4096 < m
    · have hbi : (4096 : Int) < (m : Int) := by omega
      go_wp2_with fail
      refine Calls.mono HLV.out ?_
      rintro e w4 ⟨rfl, hb4⟩
      have HB4 : Hid (Below w.heap.size w w4) := box_next HB2.out HB2.out.size hb4
      clear hb4
      go_wp2_with fail
      go_ret
      exact ⟨rfl, HB4.out⟩
    · have hbi : ¬ (4096 : Int) < (m : Int) := by omega
      go_wp2_with fail
      refine Calls.mono HC2.out ?_
      rintro e w3 ⟨rfl, hb3⟩
      have HB3 : Hid (Below w.heap.size w w3) := box_next HB2.out HB2.out.size hb3
      have HLV3 : Hid _ := lives16_any w3
      clear hb3
      go_wp2_with fail
      refine Calls.mono HLV3.out ?_
      rintro e w4 ⟨rfl, hb4⟩
      have HB4 : Hid (Below w.heap.size w w4) := box_next HB3.out HB3.out.size hb4
      clear hb4
      go_wp2_with fail
      go_ret
      exact ⟨rfl, HB4.out⟩
end Go.Proofs.Ytgodoogmbdgeoaa
