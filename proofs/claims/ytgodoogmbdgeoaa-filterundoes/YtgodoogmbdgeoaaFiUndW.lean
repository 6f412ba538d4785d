/-
  Of any bytes any filters are undone as the document says: the law's walk. No conditions.
-/
import Derived.Test.YtgodoogmbdgeoaaFiBackW
import Derived.Test.YtgodoogmbdgeoaaFiRefU
import Derived.Test.YtgodoogmbdgeoaaMUnpW
namespace Go.Proofs.Ytgodoogmbdgeoaa
open Go.RowKit
set_option linter.unusedVariables false
set_option maxRecDepth 100000

theorem chE_in (L : List Fil) : 0 ≤ chE L ∧ chE L ≤ 3 := by
  unfold chE
  split
  · omega
  · split <;> omega
theorem udE_in (L : List Fil) (b : List Int) (n : Int) : 0 ≤ udE L b n ∧ udE L b n ≤ 5 := by
  unfold udE
  split
  · split
    · omega
    · split <;> omega
  · have := chE_in L; omega
theorem udR_len (L : List Fil) (b : List Int) (n : Int) : (udR L b n).length ≤ 4096 := by
  unfold udR
  split
  · rename_i h
    unfold udE at h
    split at h
    · split at h
      · omega
      · split at h
        · rename_i h1 h2 h3
          have := h3.2
          omega
        · omega
    · omega
  · simp
set_option maxHeartbeats 32000000 in
theorem filterUndoes_walk (u : Value) (L : List Fil) (v : Value) (l : List Int) (most : Int) (w : World) (hf : Fls w u L) (hfl : L.length ≤ 8796093021952) (hl : Bs w v l) (hby : Byt l) (hlb : l.length ≤ 140737488351232) (h1 : (Lit.int .i64 most).wf = true) :
    Calls Try.prog 5 #[u, v, .int .i64 most] w fun e w' => e = .returned (.bool true) ∧ Below w.heap.size w w' := by
  by_cases hbig : 10000 < l.length
  · obtain ⟨xo, xc, rfl, hq1, hq2, hq3⟩ := id hl
    clear hq1 hq2 hq3
    obtain ⟨m, hm⟩ : ∃ m, l.length = m := ⟨_, rfl⟩
    rw [hm] at hbig ⊢
    have hbi : (10000 : Int) < (m : Int) := by omega
    have HLV : Hid _ := lives16_any w
    clear hl hf hbig hm hlb hby
    go_enter Try.func5, Try.ntmps5
    go_wp2_with fail
    refine Calls.mono HLV.out ?_
    rintro e w4 ⟨rfl, hb4⟩
    have HB4 : Hid (Below w.heap.size w w4) := hb4
    clear hb4
    go_wp2_with fail
    go_ret
    exact ⟨rfl, HB4.out⟩
  have hsm : ¬ (10000 : Int) < (l.length : Int) := by omega
  have HV : Hid (Bs w v l) := hl
  have HLB : Hid (l.length ≤ 140737488351232) := hlb
  have HFL : Hid (Fls w u L) := hf
  obtain ⟨R, hR⟩ : ∃ R, udR L l most = R := ⟨_, rfl⟩
  obtain ⟨E, hE⟩ : ∃ E, udE L l most = E := ⟨_, rfl⟩
  have hEb := udE_in L l most
  have hRb := udR_len L l most
  rw [hE] at hEb
  rw [hR] at hRb
  have HU : Hid (∀ (x : Value) (w1 : World), Below w.heap.size w w1 → Bs w1 x l → Calls Try.prog 17 #[u, x, .int .i64 most] w1 (TlP w1 E R)) := fun x w1 hb hx => by rw [← hR, ← hE]; exact undo_any u x L l most w1 (HFL.out.below hb) hx hby hfl hlb
  have HF : Hid (∀ (w1 : World), Below w.heap.size w w1 → Calls Try.prog 18 #[u, v, .int .i64 most] w1 (RdP w1 E R)) := fun w1 hb => by rw [← hR, ← hE]; exact refUndo_any u v L l most w1 (HFL.out.below hb) (HV.out.below hb) hby hfl hlb
  obtain ⟨vo, vc, rfl, hq1, hq2, hq3⟩ := id hl
  clear hby hE hR hf hfl hbig hq1 hq2 hq3
  go_enter Try.func5, Try.ntmps5
  go_wp2_with fail
  refine Calls.mono (lent_any _ l w HV.out HLB.out) ?_
  rintro e w1 ⟨g, cap, rfl, hg1, hg2, hcap, hown, hb1⟩
  have HB1 : Hid (Below w.heap.size w w1) := hb1
  have HI1 : Hid (Bs w1 (.slice (some ⟨g, 0, none⟩) (l.length + 1) cap) (l ++ [90])) := by
    have := hown.bs
    exact this
  have HJ1 : Hid (Bs w1 (.slice (some ⟨g, 0, none⟩) l.length cap) l) := lent_bs HI1.out
  have HV1 : Hid (Bs w1 _ l) := HV.out.below hb1
  have HCP : Hid (l.length + 1 ≤ cap) := hcap
  clear hb1 hown hg1 hg2 hcap hl
  go_wp2_with fail
  refine Calls.mono (HU.out _ w1 HB1.out HJ1.out) ?_
  intro e w2 h2
  obtain ⟨a2, k, c2, rfl, hk, ho2, hb2⟩ := h2.openF
  have HK : Hid (R.length = k) := hk
  have HO2 : Hid (Own w2 w1.heap.size (.slice a2 k c2) R) := ho2
  have HN2 : Hid (Below w1.heap.size w1 w2) := hb2
  have hkb : k ≤ 65536 := by omega
  clear h2 ho2 hb2 hk
  go_wp2_with fail
  refine Calls.mono (HF.out w2 (HB1.out.trans (HN2.out.mono HB1.out.size))) ?_
  rintro e w3 ⟨x3, rfl, ho3, hb3⟩
  have HX3 : Hid (Bs w3 x3 R) := ho3
  have HO3 : Hid (Own w3 w1.heap.size (.slice a2 k c2) R) := HO2.out.below hb3
  have HN3 : Hid (Below w1.heap.size w1 w3) := HN2.out.trans (hb3.mono HN2.out.size)
  clear ho3 hb3 hRb
  have q2 := Bs.str (P := Try.prog) HO3.out.bs Try.underlying28 Try.underlying5 (dst := 9) Try.underlying9
  have q3 := Bs.str (P := Try.prog) HX3.out Try.underlying28 Try.underlying5 (dst := 9) Try.underlying9
  go_wp2_with (go_at_call 15; refine (kept_any g l.length cap _ l _ (HI1.out.below HN3.out) (HV1.out.below HN3.out) HCP.out HLB.out).mono ?_; rintro e w6 ⟨rfl, hk6⟩; have HK6 : Hid (∃ k, w6 = w3.drewN k) := hk6; clear hk6)
  have HN6 : Hid (Below w1.heap.size w1 w6) := by obtain ⟨k, e⟩ := HK6.out; rw [e]; exact below_drewN HN3.out k
  have HO6 : Hid (Own w6 w1.heap.size (.slice a2 k c2) R) := by obtain ⟨k', e⟩ := HK6.out; rw [e]; exact own_drewN HO3.out k'
  clear q2 q3
  go_loopw [12] (fun i wr => ∃ (j : Nat) (M : List Int), j ≤ k ∧ i = .int .i64 j ∧ Hid (M.length = k) ∧ Hid (Own wr w1.heap.size (.slice a2 k c2) M) ∧ Hid (Below w1.heap.size w1 wr)) (fun i _ => k - (intOf i).toNat)
  case atStart => exact ⟨0, R, Nat.zero_le _, rfl, HK.out, HO6.out, HN6.out⟩
  case round =>
    obtain ⟨j, M, hj, rfl, HM, HOM, HBM⟩ := hrel
    by_cases hlt : j < k
    · obtain ⟨ao', cap', hv', _, hsh⟩ := HOM.out.opened
      obtain ⟨gx, hgx, hgB, hgl⟩ := hsh (by rw [HM.out]; omega)
      injection hv' with e1 e2 e3
      subst e1 e3
      subst hgx
      obtain ⟨cx, fx⟩ := HOM.out.cellM HM.out j hlt
      obtain ⟨x, hx⟩ : ∃ x, M.getD j 0 = x := ⟨_, rfl⟩
      rw [hx] at cx
      have HS : Hid (Own (_ : World) _ _ (M.set j (IntKind.u8.wrap (x + 1)))) := HOM.out.storedM HM.out j (IntKind.u8.wrap (x + 1))
      have HGB : Hid (w1.heap.size ≤ gx) := hgB
      clear hsh hgl hgB hx e2
      go_wp2_with fail
      go_roundw
      case rel => exact ⟨j + 1, M.set j (IntKind.u8.wrap (x + 1)), by omega, by go_num, by rw [Hid, List.length_set]; exact HM.out, HS.out, Below.setCell (p := ⟨gx, j, none⟩) HBM.out HGB.out _⟩
      case measure => simp [intOf]; omega
    · obtain rfl : k = j := by omega
      go_wp2_with fail
      refine Calls.mono (kept_any g l.length cap _ l _ (HI1.out.below HBM.out) (HV1.out.below HBM.out) HCP.out HLB.out) ?_
      rintro e w9 ⟨rfl, hk9⟩
      have HN9 : Hid (Below w1.heap.size w1 w9) := by obtain ⟨k, e⟩ := hk9; rw [e]; exact below_drewN HBM.out k
      clear hk9
      go_wp2_with (go_at_call 11; refine (lives16_any _).mono ?_; rintro e w10 ⟨rfl, hb10⟩; have HBZ : Hid (Below w.heap.size w w10) := (HB1.out.trans (HN9.out.mono HB1.out.size)).trans (hb10.mono (HB1.out.trans (HN9.out.mono HB1.out.size)).size); clear hb10)
      go_ret
      exact ⟨rfl, HBZ.out⟩
end Go.Proofs.Ytgodoogmbdgeoaa
