/-
  Any bytes are packed as the document says: the law's walk. No conditions.
-/
import Derived.Test.YtbhcnpkioamjlaaMRefTk
import Derived.Test.YtbhcnpkioamjlaaMUnpW
namespace Go.Proofs.Ytbhcnpkioamjlaa
open Go.RowKit
set_option linter.unusedVariables false
set_option maxRecDepth 100000

theorem Own.ltM {w : World} {B : Nat} {v : Value} {l : List Int} (h : Own w B v l) : ∀ k, v.ownBlock = some k → B ≤ k ∧ k < w.heap.size := fun k hk => World.ownsRow.lt h k hk
theorem Own.setOtherM {w : World} {B p o : Nat} {v x : Value} {l : List Int} (h : Own w B v l) (hp : p < B) : Own (w.setCell ⟨p, o, none⟩ x) B v l := by
  have h' : w.ownsRow B 5 1 v l.length (bcells l) := h
  have hb : w.grownBy (w.setCell ⟨p, o, none⟩ x) (some p) := ⟨rfl, rfl, rfl, by simp [World.setCell], fun k hk hne => Below.heap_setCell _ _ _ _ (fun e => hne (by rw [e]))⟩
  refine World.ownsRow.kept h' hb ?_
  cases hx : v.ownBlock with
  | none => exact .inl rfl
  | some k => exact .inr (fun e => by have := (h.ltM k hx).1; have : k = p := Option.some.inj e; omega)
set_option maxHeartbeats 32000000 in
theorem matchPacks_walk (v : Value) (l : List Int) (w : World) (hl : Bs w v l) (hby : Byt l) (hlb : l.length ≤ 140737488351232) :
    Calls Try.prog 3 #[v] w fun e w' => e = .returned (.bool true) ∧ Below w.heap.size w w' := by
  obtain ⟨ao, c0, rfl, _⟩ := id hl
  obtain ⟨n, hn⟩ : ∃ n, l.length = n := ⟨_, rfl⟩
  have HN : Hid (l.length = n) := hn
  rw [hn] at hl ⊢
  by_cases hmid : 3000 < n ∧ n ≤ 65536
  · obtain ⟨hm1, hm2⟩ := hmid
    have hi1 : (3000 : Int) < (n : Int) := by omega
    have hi2 : (n : Int) ≤ 65536 := by omega
    have HLI : Hid _ := lives15_any w
    clear hl hn hby hlb
    go_enter Try.func3, Try.ntmps3
    go_wp2_with fail
    refine Calls.mono HLI.out ?_
    rintro e w2 ⟨rfl, hb2⟩
    have HB2 : Hid (Below w.heap.size w w2) := hb2
    clear hb2
    go_wp2_with fail
    go_ret
    exact ⟨rfl, HB2.out⟩
  · have hmid' : ¬ (3000 : Int) < (n : Int) ∨ ¬ (n : Int) ≤ 65536 := by omega
    have HMID : Hid (n ≤ 3000 ∨ 65536 < n) := by rw [Hid]; omega
    obtain ⟨E, R, HU, HF, hEb, hRb⟩ : ∃ (E : Int) (R : List Int), Hid (∀ (x : Value) (w1 : World), Bs w1 x l → Calls Try.prog 11 #[x] w1 (TlP w1 E R)) ∧ Hid (∀ (x : Value) (w1 : World), Bs w1 x l → Calls Try.prog 12 #[x] w1 (TlP w1 E R)) ∧ (0 ≤ E ∧ E ≤ 3) ∧ R.length ≤ 65537 := by
      by_cases hbig : 65536 < n
      · exact ⟨3, [], fun x w1 hx => pack_big x l w1 hx (by omega), fun x w1 hx => refPack_big x l w1 hx (by omega), by omega, by simp⟩
      · exact ⟨0, pkX 0 l, fun x w1 hx => pack_any x l w1 hx (by omega), fun x w1 hx => refPack_any x l w1 hx (by omega), by omega, by have := (pkX_short 0 l).2; omega⟩
    have HV : Hid (Bs w (.slice ao n c0) l) := hl
    have HLB : Hid (l.length ≤ 140737488351232) := hlb
    have hwr : IntKind.i64.wrap E = E := wrap_i64_in _ (by omega) (by omega)
    clear hby hmid hl hn hlb
    have hi : ¬ (3000 : Int) < (n : Int) ∨ ((3000 : Int) < (n : Int) ∧ ¬ (n : Int) ≤ 65536) := by have := HMID.out; omega
    clear hmid' HMID
    rcases hi with hi1 | ⟨hi1, hi2⟩
    all_goals
      go_enter Try.func3, Try.ntmps3
      go_wp2_with fail
      refine Calls.mono (lent_any (.slice ao n c0) l w HV.out HLB.out) ?_
      rintro e w1 ⟨g, cap, rfl, hg1, hg2, hcap, hown, hb1⟩
      have HB1 : Hid (Below w.heap.size w w1) := hb1
      have HI1 : Hid (Bs w1 (.slice (some ⟨g, 0, none⟩) (l.length + 1) cap) (l ++ [90])) := hown.bs
      have HJ1 : Hid (Bs w1 (.slice (some ⟨g, 0, none⟩) l.length cap) l) := lent_bs HI1.out
      have HV1 : Hid (Bs w1 (.slice ao n c0) l) := HV.out.below hb1
      have HCP : Hid (l.length + 1 ≤ cap) := hcap
      clear hb1 hown hg1 hg2 hcap
      go_wp2_with fail
      refine Calls.mono (HU.out _ w1 HJ1.out) ?_
      intro e w2 h2
      obtain ⟨a2, k, c2, rfl, hk, ho2, hb2⟩ := h2.open
      have HK : Hid (R.length = k) := hk
      have HO2 : Hid (Own w2 w1.heap.size (.slice a2 k c2) R) := ho2
      have HN2 : Hid (Below w1.heap.size w1 w2) := hb2
      have HLT : Hid (∀ gx, a2 = some ⟨gx, 0, none⟩ → gx < w2.heap.size) := fun gx e => by subst e; exact (ho2.ltM gx rfl).2
      have hkb : k ≤ 65537 := by omega
      clear h2 ho2 hb2
      go_wp2_with fail
      refine Calls.mono (HU.out _ w2 (HJ1.out.below HN2.out)) ?_
      intro e w3 h3
      obtain ⟨a3, k3, c3, rfl, hk3, ho3, hb3⟩ := h3.open
      obtain rfl : k3 = k := by rw [← hk3, ← hk]
      have HO3 : Hid (Own w3 w1.heap.size (.slice a2 k3 c2) R) := HO2.out.below hb3
      have HY3 : Hid (Own w3 w2.heap.size (.slice a3 k3 c3) R) := ho3
      have HN3 : Hid (Below w1.heap.size w1 w3) := HN2.out.trans (hb3.mono HN2.out.size)
      have HSZ : Hid (w2.heap.size ≤ w3.heap.size) := hb3.size
      clear h3 ho3 hb3 hk hRb
      go_wp2_with fail
      refine Calls.mono (HF.out _ w3 (HV1.out.below HN3.out)) ?_
      intro e w4 h4
      obtain ⟨a4, k4, c4, rfl, hk4, ho4, hb4⟩ := h4.open
      obtain rfl : k4 = k3 := by rw [← hk4, ← hk3]
      have HO4 : Hid (Own w4 w1.heap.size (.slice a2 k4 c2) R) := HO3.out.below hb4
      have HY4 : Hid (Own w4 w2.heap.size (.slice a3 k4 c3) R) := HY3.out.below hb4
      have HZ4 : Hid (Own w4 w3.heap.size (.slice a4 k4 c4) R) := ho4
      have HN4 : Hid (Below w1.heap.size w1 w4) := HN3.out.trans (hb4.mono HN3.out.size)
      clear h4 ho4 hb4 hk3 hk4
      have q2 := Bs.str (P := Try.prog) HO4.out.bs Try.underlying22 Try.underlying5 (dst := 9) Try.underlying9
      have q3 := Bs.str (P := Try.prog) HZ4.out.bs Try.underlying22 Try.underlying5 (dst := 9) Try.underlying9
      go_wp2_with (go_at_call 13; refine (kept_any g l.length cap (.slice ao n c0) l _ (HI1.out.below HN4.out) (HV1.out.below HN4.out) HCP.out HLB.out).mono ?_; rintro e w6 ⟨rfl, hk6⟩; have HK6 : Hid (∃ k, w6 = w4.drewN k) := hk6; clear hk6)
      have HN6 : Hid (Below w1.heap.size w1 w6) := by obtain ⟨k, e⟩ := HK6.out; rw [e]; exact below_drewN HN4.out k
      have HO6 : Hid (Own w6 w1.heap.size (.slice a2 k4 c2) R) := by obtain ⟨k', e⟩ := HK6.out; rw [e]; exact own_drewN HO4.out k'
      have HY6 : Hid (Own w6 w2.heap.size (.slice a3 k4 c3) R) := by obtain ⟨k', e⟩ := HK6.out; rw [e]; exact own_drewN HY4.out k'
      have HZ6 : Hid (Own w6 w3.heap.size (.slice a4 k4 c4) R) := by obtain ⟨k', e⟩ := HK6.out; rw [e]; exact own_drewN HZ4.out k'
      clear q2 q3
      go_loopw [10] (fun i wr => ∃ (j : Nat) (M : List Int), j ≤ k4 ∧ i = .int .i64 j ∧ Hid (M.length = k4) ∧ Hid (Own wr w1.heap.size (.slice a2 k4 c2) M) ∧ Hid (Own wr w2.heap.size (.slice a3 k4 c3) R) ∧ Hid (Own wr w3.heap.size (.slice a4 k4 c4) R) ∧ Hid (Below w1.heap.size w1 wr)) (fun i _ => k4 - (intOf i).toNat)
      case atStart => exact ⟨0, R, Nat.zero_le _, rfl, HK.out, HO6.out, HY6.out, HZ6.out, HN6.out⟩
      case round =>
        obtain ⟨j, M, hj, rfl, HM, HOM, HYM, HZM, HBM⟩ := hrel
        by_cases hlt : j < k4
        · obtain ⟨ao', cap', hv', _, hsh⟩ := HOM.out.opened
          obtain ⟨gx, hgx, hgB, hgl⟩ := hsh (by rw [HM.out]; omega)
          injection hv' with e1 e2 e3
          subst e1 e3
          subst hgx
          have HGX : Hid (gx < w2.heap.size) := HLT.out gx rfl
          obtain ⟨cx, fx⟩ := HOM.out.cellM HM.out j hlt
          obtain ⟨x, hx⟩ : ∃ x, M.getD j 0 = x := ⟨_, rfl⟩
          rw [hx] at cx
          have HS : Hid (Own (_ : World) _ _ (M.set j (IntKind.u8.wrap (x + 1)))) := HOM.out.storedM HM.out j (IntKind.u8.wrap (x + 1))
          have HGB : Hid (w1.heap.size ≤ gx) := hgB
          clear hsh hgl hgB hx e2
          go_wp2_with fail
          go_roundw
          case rel => exact ⟨j + 1, M.set j (IntKind.u8.wrap (x + 1)), by omega, by go_num, by rw [Hid, List.length_set]; exact HM.out, HS.out, HYM.out.setOtherM HGX.out, HZM.out.setOtherM (Nat.lt_of_lt_of_le HGX.out HSZ.out), Below.setCell (p := ⟨gx, j, none⟩) HBM.out HGB.out _⟩
          case measure => simp [intOf]; omega
        · obtain rfl : k4 = j := by omega
          have q5 := Bs.str (P := Try.prog) HYM.out.bs Try.underlying22 Try.underlying5 (dst := 9) Try.underlying9
          have q6 := Bs.str (P := Try.prog) HZM.out.bs Try.underlying22 Try.underlying5 (dst := 9) Try.underlying9
          go_wp2_with (first | (go_at_call 13; refine (kept_any g l.length cap (.slice ao n c0) l _ (HI1.out.below HBM.out) (HV1.out.below HBM.out) HCP.out HLB.out).mono ?_; rintro e w9 ⟨rfl, hk9⟩; have HN9 : Hid (Below w1.heap.size w1 w9) := (by obtain ⟨k, e⟩ := hk9; rw [e]; exact below_drewN HBM.out k); clear hk9) | (go_at_call 9; refine (lives15_any _).mono ?_; rintro e w10 ⟨rfl, hb10⟩; have HBZ : Hid (Below w.heap.size w w10) := (HB1.out.trans (HN9.out.mono HB1.out.size)).trans (hb10.mono (HB1.out.trans (HN9.out.mono HB1.out.size)).size); clear hb10))
          go_ret
          exact ⟨rfl, HBZ.out⟩
end Go.Proofs.Ytbhcnpkioamjlaa
