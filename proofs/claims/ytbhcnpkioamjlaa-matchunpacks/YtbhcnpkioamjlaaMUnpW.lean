/-
  Any bytes are unpacked as the document says: the law's walk. No conditions.
-/
import Derived.Test.YtbhcnpkioamjlaaMRefV
namespace Go.Proofs.Ytbhcnpkioamjlaa
open Go.RowKit
set_option linter.unusedVariables false
set_option maxRecDepth 100000

theorem Own.storedM {w : World} {B g n cap : Nat} {l : List Int} (h : Own w B (.slice (some ⟨g, 0, none⟩) n cap) l) (hl : l.length = n) (j : Nat) (u : Int) :
    Own (w.setCell ⟨g, j, none⟩ (.int .u8 u)) B (.slice (some ⟨g, 0, none⟩) n cap) (l.set j u) := by
  have h' : w.ownsRow B 5 1 (.slice (some ⟨g, 0, none⟩) n cap) n (bcells l) := by have := h; unfold Own at this; rwa [hl] at this
  obtain ⟨h1, h2⟩ := h'.stored j (.int .u8 u)
  unfold Own
  rw [List.length_set, hl]
  have e : bcells (l.set j u) = (bcells l).set j (.int .u8 u) := by simp [bcells, List.map_set]
  rw [e]; exact h1
theorem Own.cellM {w : World} {B g n cap : Nat} {l : List Int} (h : Own w B (.slice (some ⟨g, 0, none⟩) n cap) l) (hl : l.length = n) (j : Nat) (hj : j < n) : w.cell? ⟨g, j, none⟩ = some (.int .u8 (l.getD j 0)) ∧ w.frozen? ⟨g, j, none⟩ = false := by
  have h' : w.ownsRow B 5 1 (.slice (some ⟨g, 0, none⟩) n cap) n (bcells l) := by have := h; unfold Own at this; rwa [hl] at this
  refine ⟨?_, h'.frozenAt j⟩
  rw [h'.cellAt j (by omega)]
  simp [bcells, List.getD, hl, hj]
theorem unE_err (l : List Int) (m : Nat) : (unE l m).2 = 0 ∨ (unE l m).2 = 3 ∨ (unE l m).2 = 5 := by
  rcases un_most l m with h | h
  · exact .inl h.1
  · rcases h.2 with h | h
    · exact .inr (.inl h)
    · exact .inr (.inr h)
theorem unA_err (l : List Int) (most : Int) : 0 ≤ (unA l most).2 ∧ (unA l most).2 ≤ 5 := by
  unfold unA
  split
  · simp
  · have := unE_err l most.toNat
    omega
theorem unA_len (l : List Int) (most : Int) : (unA l most).1.length ≤ 65536 := by
  unfold unA
  split
  · simp
  · rename_i h
    rcases un_most l most.toNat with h1 | h1
    · have := h1.2; omega
    · rw [h1.1]; simp
theorem own_drewN {w : World} {B : Nat} {v : Value} {l : List Int} (h : Own w B v l) (k : Nat) : Own (w.drewN k) B v l := h.below (below_drewN (Below.refl _ _) k)
set_option maxHeartbeats 32000000 in
theorem matchUnpacks_walk (v : Value) (l : List Int) (most : Int) (w : World) (hl : Bs w v l) (hby : Byt l) (hlb : l.length ≤ 140737488351232) (h1 : (Lit.int .i64 most).wf = true) :
    Calls Try.prog 4 #[v, .int .i64 most] w fun e w' => e = .returned (.bool true) ∧ Below w.heap.size w w' := by
  have HV : Hid (Bs w v l) := hl
  have HLB : Hid (l.length ≤ 140737488351232) := hlb
  obtain ⟨R, hR⟩ : ∃ R, (unA l most).1 = R := ⟨_, rfl⟩
  obtain ⟨E, hE⟩ : ∃ E, (unA l most).2 = E := ⟨_, rfl⟩
  have hEb := unA_err l most
  have hRb := unA_len l most
  rw [hE] at hEb
  rw [hR] at hRb
  have HU : Hid (∀ (x : Value) (w1 : World), Bs w1 x l → Calls Try.prog 14 #[x, .int .i64 most] w1 (TlP w1 E R)) := fun x w1 hx => by rw [← hR, ← hE]; exact unpack_any x l most w1 hx hby hlb
  have HF : Hid (∀ (w1 : World), Bs w1 v l → Calls Try.prog 15 #[v, .int .i64 most] w1 (TlP w1 E R)) := fun w1 hx => by rw [← hR, ← hE]; exact refUnpack_any v l most w1 hx hby hlb
  have hwr : IntKind.i64.wrap E = E := wrap_i64_in _ (by omega) (by omega)
  clear hby hE hR
  go_enter Try.func4, Try.ntmps4
  go_wp2_with fail
  refine Calls.mono (lent_any v l w HV.out HLB.out) ?_
  rintro e w1 ⟨g, cap, rfl, hg1, hg2, hcap, hown, hb1⟩
  have HB1 : Hid (Below w.heap.size w w1) := hb1
  have HI1 : Hid (Bs w1 (.slice (some ⟨g, 0, none⟩) (l.length + 1) cap) (l ++ [90])) := by
    have := hown.bs
    exact this
  have HJ1 : Hid (Bs w1 (.slice (some ⟨g, 0, none⟩) l.length cap) l) := lent_bs HI1.out
  have HV1 : Hid (Bs w1 v l) := HV.out.below hb1
  have HCP : Hid (l.length + 1 ≤ cap) := hcap
  clear hb1 hown hg1 hg2 hcap hl
  go_wp2_with fail
  refine Calls.mono (HU.out _ w1 HJ1.out) ?_
  intro e w2 h2
  obtain ⟨a2, k, c2, rfl, hk, ho2, hb2⟩ := h2.open
  have HK : Hid (R.length = k) := hk
  have HO2 : Hid (Own w2 w1.heap.size (.slice a2 k c2) R) := ho2
  have HN2 : Hid (Below w1.heap.size w1 w2) := hb2
  have hkb : k ≤ 65536 := by omega
  clear h2 ho2 hb2 hk
  go_wp2_with fail
  refine Calls.mono (HF.out w2 (HV1.out.below HN2.out)) ?_
  intro e w3 h3
  obtain ⟨a3, k3, c3, rfl, hk3, ho3, hb3⟩ := h3.open
  have HX3 : Hid (Bs w3 (.slice a3 k3 c3) R) := ho3.bs
  have HO3 : Hid (Own w3 w1.heap.size (.slice a2 k c2) R) := HO2.out.below hb3
  have HN3 : Hid (Below w1.heap.size w1 w3) := HN2.out.trans (hb3.mono HN2.out.size)
  clear h3 ho3 hb3 hk3 hRb
  have q2 := Bs.str (P := Try.prog) HO3.out.bs Try.underlying22 Try.underlying5 (dst := 9) Try.underlying9
  have q3 := Bs.str (P := Try.prog) HX3.out Try.underlying22 Try.underlying5 (dst := 9) Try.underlying9
  go_wp2_with (go_at_call 13; refine (kept_any g l.length cap v l _ (HI1.out.below HN3.out) (HV1.out.below HN3.out) HCP.out HLB.out).mono ?_; rintro e w6 ⟨rfl, hk6⟩; have HK6 : Hid (∃ k, w6 = w3.drewN k) := hk6; clear hk6)
  have HN6 : Hid (Below w1.heap.size w1 w6) := by obtain ⟨k, e⟩ := HK6.out; rw [e]; exact below_drewN HN3.out k
  have HO6 : Hid (Own w6 w1.heap.size (.slice a2 k c2) R) := by obtain ⟨k', e⟩ := HK6.out; rw [e]; exact own_drewN HO3.out k'
  clear q2 q3
  go_loopw [10] (fun i wr => ∃ (j : Nat) (M : List Int), j ≤ k ∧ i = .int .i64 j ∧ Hid (M.length = k) ∧ Hid (Own wr w1.heap.size (.slice a2 k c2) M) ∧ Hid (Below w1.heap.size w1 wr)) (fun i _ => k - (intOf i).toNat)
  case atStart => exact ⟨0, R, Nat.zero_le _, rfl, HK.out, HO6.out, HN6.out⟩
  case round =>
    obtain ⟨j, M, hj, rfl, HM, HOM, HBM⟩ := hrel
    by_cases hlt : j < k
    · obtain ⟨ao', cap', hv', _, hsh⟩ := HOM.out.opened
      obtain ⟨gx, hgx, hgB, hgl⟩ := hsh (by rw [HM.out]; omega)
      injection hv' with e1 e2 e3
      subst e1 e3
      subst hgx
      obtain ⟨cx, fx⟩ := HOM.out.cellM HM.out j hlt
      obtain ⟨x, hx⟩ : ∃ x, M.getD j 0 = x := ⟨_, rfl⟩
      rw [hx] at cx
      have HS : Hid (Own (_ : World) _ _ (M.set j (IntKind.u8.wrap (x + 1)))) := HOM.out.storedM HM.out j (IntKind.u8.wrap (x + 1))
      have HGB : Hid (w1.heap.size ≤ gx) := hgB
      clear hsh hgl hgB hx e2
      go_wp2_with fail
      go_roundw
      case rel => exact ⟨j + 1, M.set j (IntKind.u8.wrap (x + 1)), by omega, by go_num, by rw [Hid, List.length_set]; exact HM.out, HS.out, Below.setCell (p := ⟨gx, j, none⟩) HBM.out HGB.out _⟩
      case measure => simp [intOf]; omega
    · obtain rfl : k = j := by omega
      go_wp2_with fail
      refine Calls.mono (kept_any g l.length cap v l _ (HI1.out.below HBM.out) (HV1.out.below HBM.out) HCP.out HLB.out) ?_
      rintro e w9 ⟨rfl, hk9⟩
      have HN9 : Hid (Below w1.heap.size w1 w9) := by obtain ⟨k, e⟩ := hk9; rw [e]; exact below_drewN HBM.out k
      clear hk9
      go_wp2_with (go_at_call 9; refine (lives15_any _).mono ?_; rintro e w10 ⟨rfl, hb10⟩; have HBZ : Hid (Below w.heap.size w w10) := (HB1.out.trans (HN9.out.mono HB1.out.size)).trans (hb10.mono (HB1.out.trans (HN9.out.mono HB1.out.size)).size); clear hb10)
      go_ret
      exact ⟨rfl, HBZ.out⟩
end Go.Proofs.Ytbhcnpkioamjlaa
