/-
  Any filters make of any bytes what the document says: the law's walk. No conditions.
-/
import Derived.Test.YtgodoogmbdgeoaaFiBackW
import Derived.Test.YtgodoogmbdgeoaaFiRefA
import Derived.Test.YtgodoogmbdgeoaaFiSame
import Derived.Test.YtgodoogmbdgeoaaMPksW
namespace Go.Proofs.Ytgodoogmbdgeoaa
open Go.RowKit
set_option linter.unusedVariables false
set_option maxRecDepth 100000

theorem Try.infoFil : ∃ i, Try.prog.info? 43 = some i ∧ i.zero = some (.agg #[.int .i64 0, .int .i64 0]) ∧ i.size = 2 ∧ i.bytes = 16 := by
  refine ⟨_, rfl, ?_⟩
  exact ⟨by kernel_rfl, by kernel_rfl, by kernel_rfl⟩
theorem bel_grownF {W w w' : World} {r : Option Nat} (h : Below W.heap.size W w) (hg : w.grownBy w' r) (hr : ∀ k, r = some k → W.heap.size ≤ k) : Below W.heap.size W w' :=
  ⟨hg.os.trans h.os, hg.tape.trans h.tape, hg.output.trans h.output, Nat.le_trans h.size hg.size, fun x hx => by
    refine (hg.block x (Nat.lt_of_lt_of_le hx h.size) (fun e => ?_)).trans (h.block x hx)
    have := hr x e.symm
    omega⟩
theorem empty_ownF (w : World) : ∃ w1, w.alloc (.cells #[] 43) = w1 ∧ Below w.heap.size w w1 ∧ w.heap.size ≤ w1.heap.size ∧ OwnF w1 w.heap.size 43 (.slice (some ⟨w.heap.size, 0, none⟩) 0 0) [] :=
  ⟨_, rfl, (Below.refl _ _).alloc (Nat.le_refl _) _, by rw [World.size_alloc]; omega, OwnF.empty w _ _ (Nat.le_refl _)⟩
theorem chE_in' (L : List Fil) : 0 ≤ chE L ∧ chE L ≤ 3 := by
  unfold chE
  split
  · omega
  · split <;> omega
theorem apE_in (L : List Fil) (n : Nat) : 0 ≤ apE L n ∧ apE L n ≤ 20 := by
  have := chE_in' L
  unfold apE
  split
  · split <;> omega
  · omega
set_option maxHeartbeats 64000000 in
theorem filterApplies_walk (u : Value) (L : List Fil) (v : Value) (l : List Int) (w : World) (hf : Fls w u L) (hfl : L.length ≤ 8796093021952) (hl : Bs w v l) (hby : Byt l) (hlb : l.length ≤ 140737488351232) :
    Calls Try.prog 4 #[u, v] w fun e w' => e = .returned (.bool true) ∧ Below w.heap.size w w' := by
  obtain ⟨iF, hiF, hzF, hsF, hbF⟩ := Try.infoFil
  have HV : Hid (Bs w v l) := hl
  have HLB : Hid (l.length ≤ 140737488351232) := hlb
  have HFL : Hid (Fls w u L) := hf
  have HFB : Hid (L.length ≤ 8796093021952) := hfl
  obtain ⟨R, hR⟩ : ∃ R, apR L l = R := ⟨_, rfl⟩
  obtain ⟨E, hE⟩ : ∃ E, apE L l.length = E := ⟨_, rfl⟩
  have hEb := apE_in L l.length
  have hRb := (apR_len L l).1
  rw [hE] at hEb
  rw [hR] at hRb
  have HU : Hid (∀ (y x : Value) (w1 : World), Fls w1 y L → Bs w1 x l → Calls Try.prog 13 #[y, x] w1 (TlP w1 E R)) := fun y x w1 hy hx => by rw [← hR, ← hE]; exact apply_any y x L l w1 hy hx hby hfl hlb
  have HF : Hid (∀ (w1 : World), Below w.heap.size w w1 → Calls Try.prog 14 #[u, v] w1 (TlP w1 E R)) := fun w1 hb => by rw [← hR, ← hE]; exact refApply_any u v L l w1 (HFL.out.below hb) (HV.out.below hb) hby hfl hlb
  have hwr : IntKind.i64.wrap E = E := wrap_i64_in _ (by omega) (by omega)
  clear hby hE hR hf hfl hl
  go_enter Try.func4, Try.ntmps4
  go_wp2_with fail
  refine Calls.mono (lent_any v l w HV.out HLB.out) ?_
  rintro e w1 ⟨g, cap, rfl, hg1, hg2, hcap, hown, hb1⟩
  have HB1 : Hid (Below w.heap.size w w1) := hb1
  have HI1 : Hid (Bs w1 (.slice (some ⟨g, 0, none⟩) (l.length + 1) cap) (l ++ [90])) := hown.bs
  have HJ1 : Hid (Bs w1 (.slice (some ⟨g, 0, none⟩) l.length cap) l) := lent_bs HI1.out
  have HV1 : Hid (Bs w1 v l) := HV.out.below hb1
  have HCP : Hid (l.length + 1 ≤ cap) := hcap
  obtain ⟨wE, hwE, bE, sE, oE⟩ := empty_ownF w1
  have HOE : Hid _ := oE
  have HBE : Hid (Below w1.heap.size w1 wE) := bE
  have HFE : Hid (Fls wE u L) := (HFL.out.below hb1).below bE
  have HSE : Hid (w1.heap.size ≤ wE.heap.size) := sE
  clear hb1 hown hg1 hg2 hcap bE oE sE
  go_wp2_with (at_builtin; refine wpList_append_f _ rfl (.tmp 16) (.tmp 17) 22 43 rfl iF Try.underlying22 hiF hzF hsF hbF w1.heap.size _ u [] L rfl rfl HOE.out HFE.out (by have := HFB.out; simp only [List.length_nil]; omega) HSE.out ?_; intro ao1 cap1 wA hoA hgA _ _; rw [List.nil_append] at hoA; generalize ([] : List Fil).length + L.length = N1 at hoA ⊢; have HGA : Hid (Fls wA _ L) := hoA.fls; have HBA : Hid (Below w1.heap.size w1 wA) := bel_grownF HBE.out hgA (fun k hk => by have hk' : some w1.heap.size = some k := hk; injection hk' with hk'; omega); clear hoA hgA)
  have HJA : Hid (Bs wA (.slice (some ⟨g, 0, none⟩) l.length cap) l) := HJ1.out.below HBA.out
  refine Calls.mono (HU.out _ _ wA HGA.out HJA.out) ?_
  intro e w2 h2
  obtain ⟨a2, k, c2, rfl, hk, ho2, hb2⟩ := h2.openF
  have HK : Hid (R.length = k) := hk
  have HO2 : Hid (Own w2 wA.heap.size (.slice a2 k c2) R) := ho2
  have HN2 : Hid (Below wA.heap.size wA w2) := hb2
  have HG2 : Hid (Fls w2 _ L) := HGA.out.below hb2
  have HLT : Hid (∀ gx, a2 = some ⟨gx, 0, none⟩ → gx < w2.heap.size) := fun gx e => by subst e; exact (ho2.ltM gx rfl).2
  have hkb : k ≤ 140737488351248 := by omega
  clear h2 ho2 hb2
  go_wp2_with fail
  refine Calls.mono (HU.out _ _ w2 HG2.out (HJA.out.below HN2.out)) ?_
  intro e w3 h3
  obtain ⟨a3, k3, c3, rfl, hk3, ho3, hb3⟩ := h3.openF
  obtain rfl : k3 = k := by rw [← hk3, ← hk]
  have HO3 : Hid (Own w3 wA.heap.size (.slice a2 k3 c2) R) := HO2.out.below hb3
  have HY3 : Hid (Own w3 w2.heap.size (.slice a3 k3 c3) R) := ho3
  have HG3 : Hid (Fls w3 _ L) := HG2.out.below hb3
  have HN3 : Hid (Below wA.heap.size wA w3) := HN2.out.trans (hb3.mono HN2.out.size)
  have HSZ : Hid (w2.heap.size ≤ w3.heap.size) := hb3.size
  clear h3 ho3 hb3 hk hRb
  go_wp2_with fail
  refine Calls.mono (HF.out w3 (HB1.out.trans ((HBA.out.trans (HN3.out.mono HBA.out.size)).mono HB1.out.size))) ?_
  intro e w4 h4
  obtain ⟨a4, k4, c4, rfl, hk4, ho4, hb4⟩ := h4.openF
  obtain rfl : k4 = k3 := by rw [← hk4, ← hk3]
  have HO4 : Hid (Own w4 wA.heap.size (.slice a2 k4 c2) R) := HO3.out.below hb4
  have HY4 : Hid (Own w4 w2.heap.size (.slice a3 k4 c3) R) := HY3.out.below hb4
  have HZ4 : Hid (Own w4 w3.heap.size (.slice a4 k4 c4) R) := ho4
  have HG4 : Hid (Fls w4 _ L) := HG3.out.below hb4
  have HNA : Hid (Below wA.heap.size wA w4) := HN3.out.trans (hb4.mono HN3.out.size)
  have HN4 : Hid (Below w1.heap.size w1 w4) := HBA.out.trans (HNA.out.mono HBA.out.size)
  clear h4 ho4 hb4 hk3 hk4
  have q2 := Bs.str (P := Try.prog) HO4.out.bs Try.underlying28 Try.underlying5 (dst := 9) Try.underlying9
  have q3 := Bs.str (P := Try.prog) HZ4.out.bs Try.underlying28 Try.underlying5 (dst := 9) Try.underlying9
  go_wp2_with (first | (go_at_call 15; refine (kept_any g l.length cap v l _ (HI1.out.below HN4.out) (HV1.out.below HN4.out) HCP.out HLB.out).mono ?_; rintro e w6 ⟨rfl, hk6⟩; have HK6 : Hid (∃ k, w6 = w4.drewN k) := hk6; have HN6 : Hid (Below w4.heap.size w4 w6) := (by obtain ⟨k, e⟩ := hk6; rw [e]; exact below_drewN (Below.refl _ _) k); clear hk6) | (go_at_call 16; refine (same_yes _ u L _ (HG4.out.below HN6.out) ((HFL.out.below HB1.out).below (HN4.out.trans (HN6.out.mono HN4.out.size))) (by have := HFB.out; omega)).mono ?_; rintro e w7 ⟨rfl, hb7⟩; have HN7 : Hid (Below w4.heap.size w4 w7) := HN6.out.trans (hb7.mono HN6.out.size); clear hb7))
  have HO7 : Hid (Own w7 wA.heap.size (.slice a2 k4 c2) R) := HO4.out.below HN7.out
  have HY7 : Hid (Own w7 w2.heap.size (.slice a3 k4 c3) R) := HY4.out.below HN7.out
  have HZ7 : Hid (Own w7 w3.heap.size (.slice a4 k4 c4) R) := HZ4.out.below HN7.out
  have HQ7 : Hid (Below w1.heap.size w1 w7) := HN4.out.trans (HN7.out.mono HN4.out.size)
  have HSA : Hid (w1.heap.size ≤ wA.heap.size) := HBA.out.size
  clear q2 q3
  go_loopw [13] (fun i wr => ∃ (j : Nat) (M : List Int), j ≤ k4 ∧ i = .int .i64 j ∧ Hid (M.length = k4) ∧ Hid (Own wr wA.heap.size (.slice a2 k4 c2) M) ∧ Hid (Own wr w2.heap.size (.slice a3 k4 c3) R) ∧ Hid (Own wr w3.heap.size (.slice a4 k4 c4) R) ∧ Hid (Below w1.heap.size w1 wr)) (fun i _ => k4 - (intOf i).toNat)
  case atStart => exact ⟨0, R, Nat.zero_le _, rfl, HK.out, HO7.out, HY7.out, HZ7.out, HQ7.out⟩
  case round =>
    obtain ⟨j, M, hj, rfl, HM, HOM, HYM, HZM, HBM⟩ := hrel
    by_cases hlt : j < k4
    · obtain ⟨ao', cap', hv', _, hsh⟩ := HOM.out.opened
      obtain ⟨gx, hgx, hgB, hgl⟩ := hsh (by rw [HM.out]; omega)
      injection hv' with e1 e2 e3
      subst e1 e3
      subst hgx
      have HGX : Hid (gx < w2.heap.size) := HLT.out gx rfl
      obtain ⟨cx, fx⟩ := HOM.out.cellM HM.out j hlt
      obtain ⟨x, hx⟩ : ∃ x, M.getD j 0 = x := ⟨_, rfl⟩
      rw [hx] at cx
      have HS : Hid (Own (_ : World) _ _ (M.set j (IntKind.u8.wrap (x + 1)))) := HOM.out.storedM HM.out j (IntKind.u8.wrap (x + 1))
      have HGB : Hid (w1.heap.size ≤ gx) := Nat.le_trans HSA.out hgB
      clear hsh hgl hgB hx e2
      go_wp2_with fail
      go_roundw
      case rel => exact ⟨j + 1, M.set j (IntKind.u8.wrap (x + 1)), by omega, by go_num, by rw [Hid, List.length_set]; exact HM.out, HS.out, HYM.out.setOtherM HGX.out, HZM.out.setOtherM (Nat.lt_of_lt_of_le HGX.out HSZ.out), Below.setCell (p := ⟨gx, j, none⟩) HBM.out HGB.out _⟩
      case measure => simp [intOf]; omega
    · obtain rfl : k4 = j := by omega
      have q5 := Bs.str (P := Try.prog) HYM.out.bs Try.underlying28 Try.underlying5 (dst := 9) Try.underlying9
      have q6 := Bs.str (P := Try.prog) HZM.out.bs Try.underlying28 Try.underlying5 (dst := 9) Try.underlying9
      go_wp2_with (first | (go_at_call 15; refine (kept_any g l.length cap v l _ (HI1.out.below HBM.out) (HV1.out.below HBM.out) HCP.out HLB.out).mono ?_; rintro e w9 ⟨rfl, hk9⟩; have HN9 : Hid (Below w1.heap.size w1 w9) := (by obtain ⟨k, e⟩ := hk9; rw [e]; exact below_drewN HBM.out k); clear hk9) | (go_at_call 11; refine (lives16_any _).mono ?_; rintro e w10 ⟨rfl, hb10⟩; have HBZ : Hid (Below w.heap.size w w10) := (HB1.out.trans (HN9.out.mono HB1.out.size)).trans (hb10.mono (HB1.out.trans (HN9.out.mono HB1.out.size)).size); clear hb10))
      go_ret
      exact ⟨rfl, HBZ.out⟩
end Go.Proofs.Ytgodoogmbdgeoaa
