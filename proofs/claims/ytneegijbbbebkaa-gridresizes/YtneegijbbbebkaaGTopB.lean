/-
  Clip of the program. Conditions: lengths are such as memory bears.
-/
import Derived.Test.YtneegijbbbebkaaGTopA
namespace Go.Proofs.Ytneegijbbbebkaa
open Go.RowKit Go.Shelf
set_option linter.unusedVariables false
set_option maxRecDepth 100000

/-- What Clip tells. -/
def cpE (D S C : List Int) : Int := if fitE D S ≠ 0 then fitE D S else if okB D.length C = true then 0 else 2
def CpP (w : World) (D S C : List Int) (e : Ending) (w' : World) : Prop := ∃ u v, e = .returned (.tuple #[u, v, .int .i64 (cpE D S C)]) ∧ Is w' u (if cpE D S C = 0 then clS D S C else []) ∧ Is w' v (if cpE D S C = 0 then clB D S C else []) ∧ Below w.heap.size w w'
theorem clip_i64 {D S C : List Int} (hd : ∀ x ∈ D, 0 ≤ x ∧ x ≤ 1048576) (hl : S.length = D.length) (hc : C.length = D.length) (ps : ∀ x ∈ S, 1 ≤ x) (pc : ∀ x ∈ C, 0 ≤ x) : (∀ x ∈ clS D S C, I64 x ∧ 0 ≤ x ∧ x ≤ 1048576) ∧ ∀ x ∈ clB D S C, I64 x ∧ 0 ≤ x ∧ x ≤ 1048576 := by
  obtain ⟨_, bx2⟩ := clip_box (r := D.length) rfl hl hc (fun x hx => (hd x hx).1) ps pc
  refine ⟨fun x hx => ?_, fun x hx => ?_⟩
  · obtain ⟨i, hi⟩ := List.getElem?_of_mem hx
    have hil := (List.getElem?_eq_some_iff.1 hi).1
    rw [bx2.s] at hil
    have h8 := bx2.fit i _ x _ (List.getElem?_eq_getElem (by rw [bx2.d]; exact hil)) hi (List.getElem?_eq_getElem (by rw [bx2.x]; exact hil))
    have h7 := hd _ (List.getElem_mem (show i < D.length by rw [bx2.d]; exact hil))
    exact ⟨⟨by omega, by omega⟩, by omega, by omega⟩
  · obtain ⟨i, hi⟩ := List.getElem?_of_mem hx
    have hil := (List.getElem?_eq_some_iff.1 hi).1
    rw [bx2.x] at hil
    have h8 := bx2.fit i _ _ x (List.getElem?_eq_getElem (by rw [bx2.d]; exact hil)) (List.getElem?_eq_getElem (by rw [bx2.s]; exact hil)) hi
    have h7 := hd _ (List.getElem_mem (show i < D.length by rw [bx2.d]; exact hil))
    exact ⟨⟨by omega, by omega⟩, by omega, by omega⟩
theorem is_nil (w : World) : Is w (.slice none 0 0) [] := ⟨by simp, by simp, none, 0, rfl, Nat.le_refl _, fun i x h => by simp at h⟩
set_option maxHeartbeats 8000000 in
theorem clipX_any (D S C : List Int) (vd vs vc : Value) (w : World) (hD : Is w vd D) (hS : Is w vs S) (hC : Is w vc C) : Calls Try.prog 15 #[vd, vs, vc] w (CpP w D S C) := by
  have HFI : Hid _ := fit_any D S vd vs w hD hS
  have HD : Hid (Is w vd D) := hD
  have HS : Hid (Is w vs S) := hS
  have HC : Hid (Is w vc C) := hC
  obtain ⟨a1, m1, c1, rfl, e1, k1, l1⟩ := hD.open
  obtain ⟨a2, m2, c2, rfl, e2, k2, l2⟩ := hS.open
  obtain ⟨a3, m3, c3, rfl, e3, k3, l3⟩ := hC.open
  obtain ⟨fe, HFE⟩ : ∃ fe, Hid (fitE D S = fe) := ⟨_, rfl⟩
  obtain ⟨en, HEN⟩ : ∃ en, Hid (fitN D S (elN D) = en) := ⟨_, rfl⟩
  obtain ⟨sn, HSN⟩ : ∃ sn, Hid (fitN D S (elN S) = sn) := ⟨_, rfl⟩
  rw [HFE.out, HEN.out, HSN.out] at HFI
  by_cases h1 : fe = 0
  · subst h1
    obtain ⟨ok, HOK⟩ : ∃ ok, Hid (okB m1 C = ok) := ⟨_, rfl⟩
    have HIT : Hid (∀ w1, Below w.heap.size w w1 → Calls Try.prog 33 #[.slice a3 m3 c3, .int .i64 (m1 : Int)] w1 fun e w' => e = .returned (.bool ok) ∧ Below w1.heap.size w1 w') := fun w1 h => by
      have := isTuple_any w1 _ C m1 l1 (HC.out.below h)
      rwa [HOK.out] at this
    cases ok with
    | false =>
      have HCP : Hid (cpE D S C = 2) := by rw [Hid, cpE, HFE.out, if_neg (by simp), e1, HOK.out]; rfl
      have HRET : Hid (∀ w', Below w.heap.size w w' → CpP w D S C (.returned (.tuple #[.slice none 0 0, .slice none 0 0, .int .i64 2])) w') := fun w' h => ⟨_, _, by rw [HCP.out], by rw [HCP.out]; exact is_nil _, by rw [HCP.out]; exact is_nil _, h⟩
      clear hD hS hC e1 e2 e3
      go_enter Try.func15, Try.ntmps15
      go_wp2_with (first
        | (go_at_call 31; refine Calls.mono HFI.out ?_; rintro e w1 ⟨rfl, hb1⟩; have HB1 : Hid (Below w.heap.size w w1) := hb1; clear hb1)
        | (go_at_call 33; refine Calls.mono (HIT.out _ HB1.out) ?_; rintro e w2 ⟨rfl, hb2⟩; have HB2 : Hid (Below w.heap.size w w2) := HB1.out.trans (hb2.mono HB1.out.size); clear hb2))
      go_ret3
      exact HRET.out _ HB2.out
    | true =>
      obtain ⟨f1, f2, f3⟩ := fitE_zero HFE.out
      obtain ⟨s1, s2⟩ := shB_iff.1 f2
      obtain ⟨o1, o2⟩ := okB_iff.1 HOK.out
      have hd4 : m1 ≤ 4 := by have := (dims_of (elE_ok f1).1).1; omega
      have HCP : Hid (cpE D S C = 0) := by rw [Hid, cpE, HFE.out, if_neg (by simp), e1, HOK.out]; rfl
      have HCLP : Hid (∀ w1, Below w.heap.size w w1 → Calls Try.prog 35 #[.slice a1 m1 c1, .slice a2 m2 c2, .slice a3 m3 c3] w1 (ClP w1 D S C m1)) := fun w1 h => clip_any D S C _ _ _ m1 w1 (HD.out.below h) (HS.out.below h) (HC.out.below h) e1 hd4 (by omega) o1 (fun x hx => (dims_of (elE_ok f1).1).2 x hx) s2 o2
      have HRET : Hid (∀ w' g1 g2, Below w.heap.size w w' → RI w' g1 (clS D S C) → RI w' g2 (clB D S C) → CpP w D S C (.returned (.tuple #[.slice (some ⟨g1, 0, none⟩) m1 m1, .slice (some ⟨g2, 0, none⟩) m1 m1, .int .i64 0])) w') := fun w' g1 g2 h r1 r2 => by
        obtain ⟨i1, i2⟩ := clip_i64 (fun x hx => (dims_of (elE_ok f1).1).2 x hx) (by omega) (by omega : C.length = D.length) (fun x hx => (s2 x hx).1) o2
        have q1 := clS_length D S C (by omega) (by omega)
        have q2 := clB_length D S C (by omega) (by omega)
        refine ⟨_, _, by rw [HCP.out], ?_, ?_, h⟩
        · rw [HCP.out, if_pos rfl]
          have := r1.is (by omega) (fun x hx => (i1 x hx).1)
          rwa [q1, e1] at this
        · rw [HCP.out, if_pos rfl]
          have := r2.is (by omega) (fun x hx => (i2 x hx).1)
          rwa [q2, e1] at this
      clear hD hS hC e1 e2 e3 f1 f2 f3 s1 s2 o1 o2
      go_enter Try.func15, Try.ntmps15
      go_wp2_with (first
        | (go_at_call 31; refine Calls.mono HFI.out ?_; rintro e w1 ⟨rfl, hb1⟩; have HB1 : Hid (Below w.heap.size w w1) := hb1; clear hb1)
        | (go_at_call 33; refine Calls.mono (HIT.out _ HB1.out) ?_; rintro e w2 ⟨rfl, hb2⟩; have HB2 : Hid (Below w.heap.size w w2) := HB1.out.trans (hb2.mono HB1.out.size); clear hb2)
        | (go_at_call 35; refine Calls.mono (HCLP.out _ HB2.out) ?_; rintro e w3 ⟨g1, g2, rfl, hr1, hr2, hne, hg1, hg2, hb3⟩; have HV : Hid (CpP w D S C (.returned (.tuple #[.slice (some ⟨g1, 0, none⟩) m1 m1, .slice (some ⟨g2, 0, none⟩) m1 m1, .int .i64 0])) w3) := HRET.out w3 g1 g2 (HB2.out.trans (hb3.mono HB2.out.size)) hr1 hr2; clear hr1 hr2 hne hg1 hg2 hb3))
      go_ret3
      exact HV.out
  · have HCP : Hid (cpE D S C = fe) := by rw [Hid, cpE, HFE.out, if_pos h1]
    have b2 : (fe != 0) = true := by simpa using h1
    have HRET : Hid (∀ w', Below w.heap.size w w' → CpP w D S C (.returned (.tuple #[.slice none 0 0, .slice none 0 0, .int .i64 fe])) w') := fun w' h => ⟨_, _, by rw [HCP.out], by rw [HCP.out, if_neg h1]; exact is_nil _, by rw [HCP.out, if_neg h1]; exact is_nil _, h⟩
    clear hD hS hC e1 e2 e3
    go_enter Try.func15, Try.ntmps15
    go_wp2_with (go_at_call 31; refine Calls.mono HFI.out ?_; rintro e w1 ⟨rfl, hb1⟩; have HB1 : Hid (Below w.heap.size w w1) := hb1; clear hb1)
    go_ret3
    exact HRET.out _ HB1.out
end Go.Proofs.Ytneegijbbbebkaa
