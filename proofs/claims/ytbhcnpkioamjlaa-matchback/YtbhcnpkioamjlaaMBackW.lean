/-
  What was packed is unpacked again: the law's walk. No conditions.
-/
import Derived.Test.YtbhcnpkioamjlaaMShortW
namespace Go.Proofs.Ytbhcnpkioamjlaa
open Go.RowKit
set_option linter.unusedVariables false
set_option maxRecDepth 100000

theorem byt_mem {l : List Int} : Byt l ↔ ∀ x ∈ l, 0 ≤ x ∧ x ≤ 255 := by
  constructor
  · intro h x hx
    obtain ⟨i, hi, rfl⟩ := List.getElem_of_mem hx
    have := h i
    rwa [List.getD, List.getElem?_eq_getElem hi] at this
  · intro h i
    rw [List.getD]
    rcases Nat.lt_or_ge i l.length with hi | hi
    · rw [List.getElem?_eq_getElem hi]; exact h _ (List.getElem_mem hi)
    · rw [List.getElem?_eq_none hi]; simp
theorem cp_pre (d : Nat) : ∀ (n : Nat) (o : List Int), ∃ r, cpOut d n o = o ++ r
  | 0, o => ⟨[], by rw [List.append_nil]; rfl⟩
  | n + 1, o => by
    obtain ⟨r, hr⟩ := cp_pre d n (o ++ [o.getD (o.length - d) 0])
    exact ⟨_, by rw [cpOut, hr, List.append_assoc]⟩
theorem app_pre : ∀ (ts : List Tok) (o : List Int), ∃ r, appAll ts o = o ++ r
  | [], o => ⟨[], by rw [List.append_nil]; rfl⟩
  | t :: ts, o => by
    obtain ⟨r, hr⟩ := app_pre ts (t.app o)
    have e : appAll (t :: ts) o = appAll ts (t.app o) := rfl
    cases t with
    | run l => exact ⟨l ++ r, by rw [e, hr]; show o ++ l ++ r = _; rw [List.append_assoc]⟩
    | cp n d =>
      obtain ⟨q, hq⟩ := cp_pre d n o
      exact ⟨q ++ r, by rw [e, hr]; show cpOut d n o ++ r = _; rw [hq, List.append_assoc]⟩
theorem byt_toks : ∀ (ts : List Tok) (o : List Int), Good ts o → (∀ x ∈ appAll ts o, 0 ≤ x ∧ x ≤ 255) → ∀ x ∈ ts.flatMap Tok.byt, 0 ≤ x ∧ x ≤ 255
  | [], o, _, _, x, hx => by simp at hx
  | t :: ts, o, hg, hb, x, hx => by
    rw [List.flatMap_cons, List.mem_append] at hx
    rcases hx with hx | hx
    · cases t with
      | run l =>
        have h1 := hg.1
        have h1' : 1 ≤ l.length ∧ l.length ≤ 128 := h1
        have hx' : x = (l.length : Int) - 1 ∨ x ∈ l := by simpa [Tok.byt] using hx
        rcases hx' with rfl | hx'
        · omega
        · obtain ⟨r, hr⟩ := app_pre ts (o ++ l)
          refine hb x ?_
          show x ∈ appAll ts (o ++ l)
          rw [hr]
          simp [hx']
      | cp n d =>
        obtain ⟨k1, k2, k3, k4, k5⟩ := hg.1
        have hx' : x = (n : Int) + 124 ∨ x = (d : Int) := by simpa [Tok.byt] using hx
        rcases hx' with rfl | rfl <;> omega
    · exact byt_toks ts (t.app o) hg.2 hb x hx
theorem byt_pkX (c : Nat) {l : List Int} (h : Byt l) : Byt (pkX c l) := by
  rw [byt_mem] at h ⊢
  obtain ⟨h1, h2⟩ := toks_good l
  have h3 := byt_toks (toks l) [] h2 (by rw [h1]; exact h)
  unfold pkX
  split
  · intro x hx
    rcases List.mem_cons.1 hx with rfl | hx
    · omega
    · exact h3 x hx
  · intro x hx
    rcases List.mem_cons.1 hx with rfl | hx
    · omega
    · exact h x hx
set_option maxHeartbeats 32000000 in
theorem matchBack_walk (v : Value) (l : List Int) (w : World) (hl : Bs w v l) (hby : Byt l) (hlb : l.length ≤ 140737488351232) :
    Calls Try.prog 5 #[v] w fun e w' => e = .returned (.bool true) ∧ Below w.heap.size w w' := by
  obtain ⟨ao, cap, rfl, _⟩ := id hl
  obtain ⟨n, hn⟩ : ∃ n, l.length = n := ⟨_, rfl⟩
  have HN : Hid (l.length = n) := hn
  rw [hn] at hl hlb ⊢
  by_cases hmax : 65536 < n
  · have hb1 : (65536 : Int) < (n : Int) := by omega
    have HP : Hid _ := pack_big _ l w hl (by omega)
    clear hl hn
    go_enter Try.func5, Try.ntmps5
    go_wp2_with fail
    refine Calls.mono HP.out ?_
    intro e w2 h2
    obtain ⟨a2, k, c2, rfl, hk, ho2, hb2⟩ := h2.open
    obtain rfl : k = 0 := by simpa using hk.symm
    have HB2 : Hid (Below w.heap.size w w2) := hb2
    clear ho2 hb2 h2 hk
    go_wp2_with (go_at_call 9; refine (lives15_any _).mono ?_; rintro e w11 ⟨rfl, hb11⟩; have HB11 : Hid (Below w.heap.size w w11) := HB2.out.trans (hb11.mono HB2.out.size); clear hb11)
    go_ret
    exact ⟨rfl, HB11.out⟩
  · have hb1 : ¬ (65536 : Int) < (n : Int) := by omega
    have HP : Hid _ := pack_any _ l w hl (by omega)
    have HL : Hid (Bs w (.slice ao n cap) l) := hl
    have HBX : Hid (Byt (pkX 0 l)) := byt_pkX 0 hby
    have HXS : Hid ((pkX 0 l).length ≤ n + 1) := by rw [Hid, ← hn]; exact (pkX_short 0 l).2
    have HUN : Hid (∀ m : Nat, m ≤ 65536 → ∀ (x : Value) (w1 : World), Bs w1 x (pkX 0 l) → Calls Try.prog 14 #[x, .int .i64 (m : Int)] w1 (if n ≤ m then TlP w1 0 l else TlP w1 3 [])) := fun m hm x w1 hx => by
      have h1 := unpack_in x (pkX 0 l) m w1 hx HBX.out hm (by have := HXS.out; omega)
      rw [un_pkX, hn] at h1
      split <;> rename_i h2
      · rwa [if_pos h2] at h1
      · rwa [if_neg h2] at h1
    clear hl hn hby
    go_enter Try.func5, Try.ntmps5
    go_wp2_with fail
    refine Calls.mono HP.out ?_
    intro e w2 h2
    obtain ⟨a2, k, c2, rfl, hk, ho2, hb2⟩ := h2.open
    have HB2 : Hid (Below w.heap.size w w2) := hb2
    have HX2 : Hid (Bs w2 (.slice a2 k c2) (pkX 0 l)) := ho2.bs
    clear ho2 hb2 h2 hk
    by_cases hbig : 10000 < n
    · have hbi : (10000 : Int) < (n : Int) := by omega
      have HLI : Hid _ := lives15_any w2
      go_wp2_with fail
      refine Calls.mono HLI.out ?_
      rintro e w11 ⟨rfl, hb11⟩
      have HB11 : Hid (Below w.heap.size w w11) := HB2.out.trans (hb11.mono HB2.out.size)
      clear hb11
      go_wp2_with fail
      go_ret
      exact ⟨rfl, HB11.out⟩
    · have hbi : ¬ (10000 : Int) < (n : Int) := by omega
      have HC3 : Hid _ := HUN.out n (by omega) _ w2 HX2.out
      rw [if_pos (Nat.le_refl _)] at HC3
      go_wp2_with fail
      refine Calls.mono HC3.out ?_
      rintro e w3 ⟨y3, rfl, ho3, hb3⟩
      have HB3 : Hid (Below w.heap.size w w3) := HB2.out.trans (hb3.mono HB2.out.size)
      have HX3 : Hid (Bs w3 (.slice a2 k c2) (pkX 0 l)) := HX2.out.below hb3
      have hsy := Bs.str (P := Try.prog) ho3.bs Try.underlying22 Try.underlying5 (dst := 9) Try.underlying9
      have hsl := Bs.str (P := Try.prog) (HL.out.below HB3.out) Try.underlying22 Try.underlying5 (dst := 9) Try.underlying9
      clear ho3 hb3
      rcases Nat.eq_zero_or_pos n with h0 | h0
      · subst h0
        have HLI : Hid _ := lives15_any w3
        go_wp2_with fail
        refine Calls.mono HLI.out ?_
        rintro e w11 ⟨rfl, hb11⟩
        have HB11 : Hid (Below w.heap.size w w11) := HB3.out.trans (hb11.mono HB3.out.size)
        clear hb11
        go_wp2_with fail
        go_ret
        exact ⟨rfl, HB11.out⟩
      · have hn0 : ((n : Int) == 0) = false := by simp; omega
        obtain ⟨m, hm⟩ : ∃ m, n - 1 = m := ⟨_, rfl⟩
        have hmi : IntKind.i64.wrap ((n : Int) - 1) = (m : Int) := by rw [show (n : Int) - 1 = (m : Int) by omega]; exact wrap_i64_in _ (by omega) (by omega)
        have HC4 : Hid _ := HUN.out m (by omega) _ w3 HX3.out
        rw [if_neg (by omega)] at HC4
        go_wp2_with fail
        refine Calls.mono HC4.out ?_
        intro e w4 h4
        obtain ⟨a4, k4, c4, rfl, hk4, ho4, hb4⟩ := h4.open
        obtain rfl : k4 = 0 := by simpa using hk4.symm
        have HB4 : Hid (Below w.heap.size w w4) := HB3.out.trans (hb4.mono HB3.out.size)
        have HC5 : Hid _ := HUN.out 65536 (Nat.le_refl _) _ w4 (HX3.out.below hb4)
        rw [if_pos (by omega)] at HC5
        clear ho4 hb4 h4 hk4 hsy hsl
        go_wp2_with fail
        refine Calls.mono HC5.out ?_
        rintro e w5 ⟨y5, rfl, ho5, hb5⟩
        have HB5 : Hid (Below w.heap.size w w5) := HB4.out.trans (hb5.mono HB4.out.size)
        have hsy := Bs.str (P := Try.prog) ho5.bs Try.underlying22 Try.underlying5 (dst := 9) Try.underlying9
        have hsl := Bs.str (P := Try.prog) (HL.out.below HB5.out) Try.underlying22 Try.underlying5 (dst := 9) Try.underlying9
        clear ho5 hb5
        go_wp2_with (go_at_call 9; refine (lives15_any _).mono ?_; rintro e w11 ⟨rfl, hb11⟩; have HB11 : Hid (Below w.heap.size w w11) := HB5.out.trans (hb11.mono HB5.out.size); clear hb11)
        go_ret
        exact ⟨rfl, HB11.out⟩
end Go.Proofs.Ytbhcnpkioamjlaa
