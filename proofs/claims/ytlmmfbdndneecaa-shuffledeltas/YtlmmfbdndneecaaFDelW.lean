/-
  Any bytes are told by differences, and put back, as the document says: the law's walk. No conditions.
-/
import Derived.Test.YtlmmfbdndneecaaFMixW
namespace Go.Proofs.Ytlmmfbdndneecaa
open Go.RowKit Go.Shelf
set_option linter.unusedVariables false
set_option maxRecDepth 100000

set_option maxHeartbeats 32000000 in
theorem shuffleDeltas_walk (z : Int) (v : Value) (l : List Int) (w : World) (h0 : (Lit.int .i64 z).wf = true) (hl : Bs w v l) (hby : Byt l) (hlb : l.length ≤ 140737488351232) :
    Calls Try.prog 4 #[.int .i64 z, v] w fun e w' => e = .returned (.bool true) ∧ Below w.heap.size w w' := by
  obtain ⟨P, HP⟩ : ∃ P, Hid (wL z deL l = P) := ⟨_, rfl⟩
  obtain ⟨Q, HQ⟩ : ∃ Q, Hid (wL z udL l = Q) := ⟨_, rfl⟩
  obtain ⟨er, HE⟩ : ∃ er, Hid (wE z = er) := ⟨_, rfl⟩
  have HPL : Hid (P.length ≤ 281474976710656) := by rw [Hid, ← HP.out]; have := wL_len deL_len z l; omega
  have HQL : Hid (Q.length ≤ 281474976710656) := by rw [Hid, ← HQ.out]; have := wL_len udL_len z l; omega
  have HV : Hid (Bs w v l) := hl
  have HLB : Hid (l.length ≤ 140737488351232) := hlb
  have HA : Hid (∀ (w1 : World) (x : Value), Bs w1 x l → Calls Try.prog 16 #[.int .i64 z, x] w1 (ShP w1 er P)) := fun w1 x hx => by
    have := delta_any z x l w1 hx hby hlb
    rwa [HE.out, HP.out] at this
  have HB : Hid (∀ (w1 : World) (x : Value), Bs w1 x l → Calls Try.prog 17 #[.int .i64 z, x] w1 (ShP w1 er Q)) := fun w1 x hx => by
    have := undelta_any z x l w1 hx hby hlb
    rwa [HE.out, HQ.out] at this
  have HC : Hid (∀ (w1 : World), Bs w1 v l → Calls Try.prog 18 #[.int .i64 z, v] w1 (RfP w1 er P)) := fun w1 hx => by
    have := refDe_any z v l w1 hx hby hlb
    rwa [HE.out, HP.out] at this
  have HD : Hid (∀ (w1 : World), Bs w1 v l → Calls Try.prog 19 #[.int .i64 z, v] w1 (RfP w1 er Q)) := fun w1 hx => by
    have := refUd_any z v l w1 hx hby hlb
    rwa [HE.out, HQ.out] at this
  have HLT : Hid (Calls Try.prog 8 #[v] w fun e w' => ∃ g cap, e = .returned (.slice (some ⟨g, 0, none⟩) l.length cap) ∧ w.heap.size ≤ g ∧ g < w'.heap.size ∧ l.length + 1 ≤ cap ∧ Own w' w.heap.size (.slice (some ⟨g, 0, none⟩) (l.length + 1) cap) (l ++ [90]) ∧ Below w.heap.size w w') := lent_any v l w hl hlb
  have HER : Hid (wE z = 0 ∨ wE z = 2) := wE_cases z
  clear hl hby hlb h0
  go_enter Try.func4, Try.ntmps4
  go_wp2_with fail
  refine Calls.mono HLT.out ?_
  rintro e w1 ⟨g, cap, rfl, hg1, hg2, hcap, hown, hb1⟩
  have HB1 : Hid (Below w.heap.size w w1) := hb1
  have HI1 : Hid (Bs w1 (.slice (some ⟨g, 0, none⟩) (l.length + 1) cap) (l ++ [90])) := hown.bs
  have HJ1 : Hid (Bs w1 (.slice (some ⟨g, 0, none⟩) l.length cap) l) := lent_bs hown.bs
  have HV1 : Hid (Bs w1 v l) := HV.out.below hb1
  have HCP : Hid (l.length + 1 ≤ cap) := hcap
  have HN1 : Hid (Below w1.heap.size w1 w1) := Below.refl _ _
  clear hb1 hown hg1 hg2 hcap
  go_wp2_with fail
  refine Calls.mono (HA.out w1 _ (HJ1.out.below HN1.out)) ?_
  rintro e w2 ⟨x2, rfl, hx2, hb2⟩
  have HN2 : Hid (Below w1.heap.size w1 w2) := HN1.out.trans (hb2.mono HN1.out.size)
  have HX2 : Hid (Fr w2 w1.heap.size x2 P) := fr_lo hx2 HN1.out.size
  have HS2 : Hid (Below w1.heap.size w1 w2) := hb2
  clear hx2 hb2
  go_wp2_with fail
  refine Calls.mono (HB.out w2 _ (HJ1.out.below HN2.out)) ?_
  rintro e w3 ⟨x3, rfl, hx3, hb3⟩
  have HN3 : Hid (Below w1.heap.size w1 w3) := HN2.out.trans (hb3.mono HN2.out.size)
  have HS3x : Hid (Fr w3 w2.heap.size x3 Q) := hx3
  have HX3 : Hid (Fr w3 w1.heap.size x3 Q) := fr_lo hx3 HN2.out.size
  have HS3 : Hid (Below w2.heap.size w2 w3) := hb3
  clear hx3 hb3
  go_wp2_with fail
  refine Calls.mono (HC.out w3 (HV1.out.below HN3.out)) ?_
  rintro e w4 ⟨x4, rfl, hx4, hb4⟩
  have HN4 : Hid (Below w1.heap.size w1 w4) := HN3.out.trans (hb4.mono HN3.out.size)
  have HX4 : Hid (Bs w4 x4 P) := hx4.bs
  have HS4 : Hid (Below w3.heap.size w3 w4) := hb4
  clear hx4 hb4
  go_wp2_with fail
  refine Calls.mono (HD.out w4 (HV1.out.below HN4.out)) ?_
  rintro e w5 ⟨x5, rfl, hx5, hb5⟩
  have HN5 : Hid (Below w1.heap.size w1 w5) := HN4.out.trans (hb5.mono HN4.out.size)
  have HX5 : Hid (Bs w5 x5 Q) := hx5.bs
  have HS5 : Hid (Below w4.heap.size w4 w5) := hb5
  clear hx5 hb5
  have HX25 : Hid (Fr w5 w1.heap.size x2 P) := ((HX2.out.below HS3.out).below HS4.out).below HS5.out
  have HX35 : Hid (Fr w5 w1.heap.size x3 Q) := (HX3.out.below HS4.out).below HS5.out
  have q2 := Bs.str (P := Try.prog) HX25.out.bs Try.underlying22 Try.underlying5 (dst := 9) Try.underlying9
  have q3 := Bs.str (P := Try.prog) HX35.out.bs Try.underlying22 Try.underlying5 (dst := 9) Try.underlying9
  have q4 := Bs.str (P := Try.prog) (HX4.out.below HS5.out) Try.underlying22 Try.underlying5 (dst := 9) Try.underlying9
  have q5 := Bs.str (P := Try.prog) HX5.out Try.underlying22 Try.underlying5 (dst := 9) Try.underlying9
  have HB5 : Hid (Below w.heap.size w w5) := HB1.out.trans (HN5.out.mono HB1.out.size)
  have HNE : Hid (∀ b, x3.ownBlock = some b → x2.ownBlock ≠ some b) := fun b h3 h2 => by
    have h4 := (HX2.out.lt b h2).2
    have h5 := fr_new HS3x.out b h3
    omega
  rcases HER.out with he | he
  · rw [HE.out] at he
    subst he
    go_wp2_with (go_at_call 13; refine (kept_any g l.length cap v l _ (HI1.out.below HN5.out) (HV1.out.below HN5.out) HCP.out HLB.out).mono ?_; rintro e w6 ⟨rfl, hk6⟩; have HK6 : Hid (∃ k, w6 = w5.drewN k) := hk6; clear hk6)
    have HN6 : Hid (Below w1.heap.size w1 w6) := by obtain ⟨k, e⟩ := HK6.out; rw [e]; exact below_drewN HN5.out k
    have HX26 : Hid (Fr w6 w1.heap.size x2 P) := by obtain ⟨k, e⟩ := HK6.out; rw [e]; exact fr_drewN HX25.out k
    have HX36 : Hid (Fr w6 w1.heap.size x3 Q) := by obtain ⟨k, e⟩ := HK6.out; rw [e]; exact fr_drewN HX35.out k
    clear q2 q3 q4 q5
    refine Calls.mono (spoil_any w1.heap.size x2 P w6 HX26.out HPL.out) ?_
    rintro e w7 ⟨rfl, hg7⟩
    have HN7 : Hid (Below w1.heap.size w1 w7) := HN6.out.grown hg7 HN6.out.size (fun b hb => (HX26.out.lt b hb).1)
    have HX37 : Hid (Fr w7 w1.heap.size x3 Q) := fr_apart HX36.out hg7 HNE.out
    clear hg7
    go_wp2_with fail
    refine Calls.mono (spoil_any w1.heap.size x3 Q w7 HX37.out HQL.out) ?_
    rintro e w8 ⟨rfl, hg8⟩
    have HN8 : Hid (Below w1.heap.size w1 w8) := HN7.out.grown hg8 HN7.out.size (fun b hb => (HX37.out.lt b hb).1)
    clear hg8
    go_wp2_with fail
    refine Calls.mono (kept_any g l.length cap v l w8 (HI1.out.below HN8.out) (HV1.out.below HN8.out) HCP.out HLB.out) ?_
    rintro e w9 ⟨rfl, hk9⟩
    have HN9 : Hid (Below w1.heap.size w1 w9) := by obtain ⟨k, e⟩ := hk9; rw [e]; exact below_drewN HN8.out k
    clear hk9
    go_wp2_with (go_at_call 15; refine (lives14_any _).mono ?_; rintro e w10 ⟨rfl, hb10⟩; have HBZ : Hid (Below w.heap.size w w10) := (HB1.out.trans (HN9.out.mono HB1.out.size)).trans (hb10.mono (HB1.out.trans (HN9.out.mono HB1.out.size)).size); clear hb10)
    go_ret
    exact ⟨rfl, HBZ.out⟩
  · rw [HE.out] at he
    subst he
    go_wp2_with (go_at_call 13; refine (kept_any g l.length cap v l _ (HI1.out.below HN5.out) (HV1.out.below HN5.out) HCP.out HLB.out).mono ?_; rintro e w6 ⟨rfl, hk6⟩; have HK6 : Hid (∃ k, w6 = w5.drewN k) := hk6; clear hk6)
    have HN6 : Hid (Below w1.heap.size w1 w6) := by obtain ⟨k, e⟩ := HK6.out; rw [e]; exact below_drewN HN5.out k
    have HX26 : Hid (Fr w6 w1.heap.size x2 P) := by obtain ⟨k, e⟩ := HK6.out; rw [e]; exact fr_drewN HX25.out k
    have HX36 : Hid (Fr w6 w1.heap.size x3 Q) := by obtain ⟨k, e⟩ := HK6.out; rw [e]; exact fr_drewN HX35.out k
    clear q2 q3 q4 q5
    refine Calls.mono (spoil_any w1.heap.size x2 P w6 HX26.out HPL.out) ?_
    rintro e w7 ⟨rfl, hg7⟩
    have HN7 : Hid (Below w1.heap.size w1 w7) := HN6.out.grown hg7 HN6.out.size (fun b hb => (HX26.out.lt b hb).1)
    have HX37 : Hid (Fr w7 w1.heap.size x3 Q) := fr_apart HX36.out hg7 HNE.out
    clear hg7
    go_wp2_with fail
    refine Calls.mono (spoil_any w1.heap.size x3 Q w7 HX37.out HQL.out) ?_
    rintro e w8 ⟨rfl, hg8⟩
    have HN8 : Hid (Below w1.heap.size w1 w8) := HN7.out.grown hg8 HN7.out.size (fun b hb => (HX37.out.lt b hb).1)
    clear hg8
    go_wp2_with fail
    refine Calls.mono (kept_any g l.length cap v l w8 (HI1.out.below HN8.out) (HV1.out.below HN8.out) HCP.out HLB.out) ?_
    rintro e w9 ⟨rfl, hk9⟩
    have HN9 : Hid (Below w1.heap.size w1 w9) := by obtain ⟨k, e⟩ := hk9; rw [e]; exact below_drewN HN8.out k
    clear hk9
    go_wp2_with (go_at_call 15; refine (lives14_any _).mono ?_; rintro e w10 ⟨rfl, hb10⟩; have HBZ : Hid (Below w.heap.size w w10) := (HB1.out.trans (HN9.out.mono HB1.out.size)).trans (hb10.mono (HB1.out.trans (HN9.out.mono HB1.out.size)).size); clear hb10)
    go_ret
    exact ⟨rfl, HBZ.out⟩
end Go.Proofs.Ytlmmfbdndneecaa
