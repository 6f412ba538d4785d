/-
  The walk of the document's Drop. Conditions: lengths are such as memory bears.
-/
import Derived.Test.YtpkbdpbggmiolaaDoorHRef3
import Derived.Deep.LoopGhost
import Derived.BigQuiet
namespace Go.Proofs.YtpkbdpbggmiolaaDoor
open Go.RowKit Go.Maps
set_option linter.unusedVariables false
set_option maxRecDepth 100000

theorem RH.pop {w : World} {B p g n cap : Nat} {S : List SV} (h : RH w B p (.slice (some ⟨g, 0, none⟩) n cap) S) (m : Nat) (hm : m ≤ n) : RH (w.setCell ⟨p, 0, none⟩ (.slice (some ⟨g, 0, none⟩) m cap)) B p (.slice (some ⟨g, 0, none⟩) m cap) (S.take m) := by
  have hgp : g ≠ p := fun e => h.ne (by rw [e]; rfl)
  have hrow := h.row
  have hn : n = S.length := by
    rcases ownsRow_shape hrow with ⟨e, _⟩ | ⟨g', c', e, _⟩
    · cases e
    · injection e
  subst hn
  have hkp : Kp (fun x => x = p) w (w.setCell ⟨p, 0, none⟩ (.slice (some ⟨g, 0, none⟩) m cap)) := (Kp.refl (fun x => x = p) w).setCell (a := ⟨p, 0, none⟩) _ (fun _ => rfl)
  have hlen : (S.take m).length = m := by rw [List.length_take]; omega
  refine ⟨by rw [heap_setCell_same w p 0 _ _ _ h.cells]; simp, ?_, fun t ht b hb => ?_, fun t ht => h.one t (List.mem_of_mem_take ht), h.bp, h.ne⟩
  · rw [hlen, ← gc_take encS_len]
    exact ownsRow_kp (ownsRow_take hrow hm) hkp (fun g' hg' e => hgp (by rw [← e]; simpa [Value.ownBlock] using hg'))
  · obtain ⟨h1, h2, h3, h4⟩ := h.good t (List.mem_of_mem_take ht) b hb
    refine ⟨h1.off hkp (fun g' hg' e => (h4 g' hg').2.1 e), h2, h3, fun g' hg' => ⟨?_, (h4 g' hg').2⟩⟩
    have := (h4 g' hg').1
    have := hkp.size
    omega
theorem below_drewN (w : World) (n : Nat) : Below w.heap.size w (w.drewN n) := ⟨rfl, rfl, rfl, Nat.le_refl _, fun _ _ => rfl⟩
theorem tS_take {S : List SV} {m : Nat} (h : S.length = m + 1) (hl : tS S (m : Int) = none) : tS (S.take m) = tS S := by
  funext i
  by_cases hi : 0 ≤ i
  · obtain ⟨j, rfl⟩ := Int.eq_ofNat_of_zero_le hi
    rcases Nat.lt_trichotomy j m with e | e | e
    · rw [tS_nat, tS_nat, List.getElem?_take_of_lt e]
    · subst e; rw [hl, tS_nat, List.getElem?_eq_none (by simp; omega)]; rfl
    · rw [tS_nat, tS_nat, List.getElem?_eq_none (by simp; omega), List.getElem?_eq_none (by omega)]
  · simp [tS, hi]
theorem refDrop6_none {w : World} {B p : Nat} {vL : Value} {S : List SV} (h : RH w B p vL S) (hn : S.length ≤ 2097152) (i : Int) (h0 : -9223372036854775808 ≤ i) (h1 : i ≤ 9223372036854775807) (hT : tS S i = none) :
    Calls Tryd.prog 12 #[.pointer (some ⟨p, 0, none⟩), .int .i64 i] w fun e w' => e = .returned (.int .i64 10) ∧ w' = w := by
  obtain ⟨ao, cap, hv, hcap⟩ := h.shape
  have c0 := h.c0.1
  by_cases hi : i < 0
  · subst hv
    clear h hT
    go_enter Tryd.func12, Tryd.ntmps12
    go_wp2_with fail
    go_ret
    exact ⟨rfl, rfl⟩
  · obtain ⟨k, rfl⟩ := Int.eq_ofNat_of_zero_le (show 0 ≤ i by omega)
    by_cases hk : S.length ≤ k
    · obtain ⟨n, hN⟩ : ∃ n, S.length = n := ⟨_, rfl⟩
      rw [hN] at hv hcap hn hk
      subst hv
      clear h hT hN
      go_enter Tryd.func12, Tryd.ntmps12
      go_wp2_with fail
      go_ret
      exact ⟨rfl, rfl⟩
    · obtain ⟨s, hs⟩ : ∃ s, S[k]? = some s := ⟨S[k]'(by omega), List.getElem?_eq_getElem _⟩
      rw [tS_nat, hs] at hT
      obtain ⟨g, cp, e, _, _, _, ha, _, _, _⟩ := h.at hs
      have hT' : s.1 = none := hT
      rw [hT'] at ha
      simp only [Option.isSome_none] at ha
      obtain ⟨n, hN⟩ : ∃ n, S.length = n := ⟨_, rfl⟩
      rw [e] at hv
      injection hv with e1 _ e3
      subst e1; subst e3
      rw [hN] at e hcap hn hk
      subst e
      clear h hT hN hs hT'
      go_enter Tryd.func12, Tryd.ntmps12
      go_wp2_with fail
      go_ret
      exact ⟨rfl, rfl⟩

set_option maxHeartbeats 4000000 in
theorem refDrop6_some {w : World} {B p : Nat} {vL : Value} {S : List SV} (h : RH w B p vL S) (hn : S.length ≤ 1048576) (i : Int) (b : List Int) (hT : tS S i = some b) :
    Calls Tryd.prog 12 #[.pointer (some ⟨p, 0, none⟩), .int .i64 i] w fun e w' => ∃ (vL' : Value) (S' : List SV), e = .returned (.int .i64 0) ∧ RH w' B p vL' S' ∧ tS S' = putT (tS S) i none ∧ S'.length ≤ S.length ∧ LastOk S' ∧ Kp (fun x => x = p ∨ vL.ownBlock = some x) w w' ∧ vL'.ownBlock = vL.ownBlock := by
  obtain ⟨h0, h1⟩ := tS_bd hT
  obtain ⟨k, rfl⟩ := Int.eq_ofNat_of_zero_le h0
  obtain ⟨s, hs⟩ : ∃ s, S[k]? = some s := ⟨S[k]'(by omega), List.getElem?_eq_getElem _⟩
  rw [tS_nat, hs] at hT
  have hT' : s.1 = some b := hT
  obtain ⟨g, cp, e, hcp, hgl, hgp, ha, hb', f1, f2⟩ := h.at hs
  rw [hT'] at ha
  simp only [Option.isSome_some] at ha
  have c0 := h.c0.1
  obtain ⟨n, HN⟩ : ∃ n, Hid (S.length = n) := ⟨_, rfl⟩
  rw [HN.out] at e hcp hn h1
  subst e
  have HH : Hid (RH w B p (.slice (some ⟨g, 0, none⟩) n cp) S) := h
  have hkS : k < S.length := by rw [HN.out]; omega
  have HSET : Hid _ := h.set hkS (none, .slice none 0 0) ⟨(fun b hb => by cases hb), rfl⟩
  have HTS : Hid (tS (S.set k (none, .slice none 0 0)) = putT (tS S) (k : Int) none) := tS_set hkS _
  have HL0 : Hid ((S.set k (none, .slice none 0 0)).length = n) := by unfold Hid; rw [List.length_set, HN.out]
  clear h hT hs hT' hkS
  go_enter Tryd.func12, Tryd.ntmps12
  go_wp2_with fail
  have HK0 : Hid (Kp (fun x => x = p ∨ (Value.slice (some ⟨g, 0, none⟩) n cp).ownBlock = some x) w ((w.setCell ⟨g, k * 2, none⟩ (.bool false)).setCell ⟨g, k * 2 + 1, none⟩ (.slice none 0 0))) := ((Kp.refl _ w).setCell (a := ⟨g, k * 2, none⟩) _ (fun _ => .inr rfl)).setCell (a := ⟨g, k * 2 + 1, none⟩) _ (fun _ => .inr rfl)
  obtain ⟨T', HT'⟩ : ∃ T', Hid (putT (tS S) (k : Int) none = T') := ⟨_, rfl⟩
  rw [HT'.out] at HTS
  clear ha hb' f1 f2 c0
  go_loopg [34] n (fun gk x wr => gk ≤ n ∧ ∃ S' : List SV, Hid (S'.length = gk) ∧ Hid (RH wr B p (.slice (some ⟨g, 0, none⟩) gk cp) S') ∧ Hid (tS S' = T') ∧ Hid (Kp (fun x => x = p ∨ (Value.slice (some ⟨g, 0, none⟩) n cp).ownBlock = some x) w wr))
  case atStart => exact ⟨Nat.le_refl _, _, HL0.out, HSET.out, HTS.out, HK0.out⟩
  case round =>
    obtain ⟨hgk, S', HL, HR, HT, HK⟩ := hrel
    have c0 := HR.out.c0.1
    have f0 := HR.out.c0.2.1
    cases gk with
    | zero =>
      have HNIL : Hid (S' = []) := List.eq_nil_of_length_eq_zero HL.out
      go_wp2_with fail
      go_quiet (fail)
      go_wp2_with fail
      go_ret
      exact ⟨_, S', rfl, HR.out.below (below_drewN _ _), by rw [HT.out, HT'.out], by rw [HL.out]; omega, (fun s hs => by rw [HNIL.out] at hs; cases hs), HK.out.trans (Kp.of (F := fun _ => False) (below_drewN _ _)) (fun _ _ h => h.elim), rfl⟩
    | succ j =>
      obtain ⟨t, ht⟩ : ∃ t, S'[j]? = some t := ⟨S'[j]'(by rw [HL.out]; omega), List.getElem?_eq_getElem _⟩
      obtain ⟨g', cp', e', hcp', hgl', hgp', ha', hb', _, _⟩ := HR.out.at ht
      injection e' with e1' e2' e3'
      obtain rfl : g = g' := by simpa using e1'
      have hTj : tS S' (j : Int) = t.1 := by rw [tS_nat, ht]; rfl
      have HLS : Hid (S'.getLast? = some t) := by unfold Hid; rw [List.getLast?_eq_getElem?, HL.out]; exact ht
      have hj1 : IntKind.i64.wrap ((j : Int) + 1 - 1) = (j : Int) := by simp [IntKind.wrap, IntKind.bits, IntKind.signed]; omega
      clear ht e1' e2' e3' hb'
      cases ht1 : t.1 with
      | some b1 =>
        rw [ht1] at ha'
        simp only [Option.isSome_some] at ha'
        have HT1 : Hid (t.1.isSome = true) := by unfold Hid; rw [ht1]; rfl
        clear hTj ht1
        go_wp2_with fail
        go_quiet (fail)
        go_wp2_with fail
        go_ret
        exact ⟨_, S', rfl, HR.out.below (below_drewN _ _), by rw [HT.out, HT'.out], by rw [HL.out, HN.out]; omega, (fun s hs => by rw [HLS.out] at hs; rw [← Option.some.inj hs]; exact HT1.out), HK.out.trans (Kp.of (F := fun _ => False) (below_drewN _ _)) (fun _ _ h => h.elim), rfl⟩
      | none =>
        rw [ht1] at ha' hTj
        simp only [Option.isSome_none] at ha'
        have HTJ : Hid (tS S' (j : Int) = none) := hTj
        clear hTj ht1
        go_wp2_with fail
        go_quiet (fail)
        go_wp2_with fail
        have hjc : (j : Int) ≤ (cp : Int) := by omega
        have hjc2 : (j : Int) ≤ (j : Int) + 1 := by omega
        go_region
        all_goals
          go_wp2_with fail
          go_roundg j
          case measure => omega
          case rel =>
            refine ⟨by omega, S'.take j, ?_, (HR.out.below (below_drewN _ _)).pop j (by omega), ?_, ?_⟩
            · rw [List.length_take, HL.out]; exact Nat.min_eq_left (by omega)
            · rw [tS_take HL.out HTJ.out]; exact HT.out
            · exact (HK.out.trans (Kp.of (F := fun _ => False) (below_drewN _ _)) (fun _ _ h => h.elim)).setCell (a := ⟨p, 0, none⟩) _ (fun _ => .inl rfl)
end Go.Proofs.YtpkbdpbggmiolaaDoor
