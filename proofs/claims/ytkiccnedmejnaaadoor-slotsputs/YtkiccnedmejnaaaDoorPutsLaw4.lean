/-
  The walk of the law SlotsPuts. Conditions: the two listed variables stand as the program's text lays them.
-/
import Derived.Test.YtkiccnedmejnaaaDoorRefPlace
import Derived.Test.YtkiccnedmejnaaaDoorRefWrite
import Derived.Deep.RegionHeld
namespace Go.Proofs.YtkiccnedmejnaaaDoor
open Go.RowKit
set_option linter.unusedVariables false
set_option maxRecDepth 100000

def Short4 (F : Mdl) : Prop := ∀ x ∈ F.rs, x.2.length ≤ 16
theorem wrN_short4 : ∀ (m : Nat) (F : Mdl) (q : Nat) (x : List Int), Short4 F → Short4 (wrN m F q x).2
  | 0, F, q, x, h => by simpa [wrN] using h
  | m + 1, F, q, x, h => by
    rw [wrN]
    split
    · exact h
    · split
      · exact h
      · refine wrN_short4 m _ _ _ (fun r hr => ?_)
        have hr' : r ∈ F.rs ++ [((q : Int), x.take 16)] := hr
        rcases List.mem_append.1 hr' with h1 | h1
        · exact h r h1
        · simp at h1
          rw [h1]
          simp [List.length_take]
          omega
theorem wrM_short4 {F : Mdl} (h : Short4 F) (at' : Int) (x : List Int) : Short4 (wrM F at' x).2 := by
  unfold wrM
  split
  · exact wrN_short4 _ _ _ _ h
  · exact h
theorem alienR {w w' : World} {B p g n cap o : Nat} {F : Mdl} {vb vr : Value} {rv : List RawV} (h : RF w B p F vb vr rv) (hg : w.heap.size ≤ g) (hl : g < w'.heap.size) : Alien w' p vb vr (.slice (some ⟨g, o, none⟩) n cap) := by
  intro k hk
  simp [Value.ownBlock] at hk
  subst hk
  exact ⟨fun hf => by have := (h.hold.foot _ hf).2; omega, hl⟩
theorem alien_own {w w' : World} {B p C : Nat} {F : Mdl} {vb vr : Value} {rv : List RawV} {x : Value} {l : List Int} (h : RF w B p F vb vr rv) (ho : Own w' C x l) (hC : w.heap.size ≤ C) : Alien w' p vb vr x := fun k hk => by
  have h1 := World.ownsRow.lt ho k hk
  exact ⟨fun hf => by have := (h.hold.foot _ hf).2; omega, h1.2⟩

set_option maxHeartbeats 8000000 in
theorem slotsPuts_walk (v : Value) (l : List Int) (most : Int) (x : Rt) (W : World) (hS : Sl W) (hl : Bs W v l) (hby : Byt l) (hb : l.length ≤ 140737488351232) (hmo : (Lit.int .i64 most).wf = true) (hx : RtW x) :
    Calls Tryd.prog 6 #[v, .int .i64 most, rtV x] W fun e W' => e = .returned (.bool true) ∧ Below W.heap.size W W' := by
  obtain ⟨g, a, z⟩ := x
  obtain ⟨⟨g0, g1⟩, ⟨a0, a1⟩, z0, z1⟩ := hx
  dsimp only at g0 g1 a0 a1 z0 z1
  unfold rtV
  dsimp only
  have hm64 : -9223372036854775808 ≤ most ∧ most ≤ 9223372036854775807 := by
    simp [Lit.wf, IntKind.min, IntKind.max, IntKind.bits, IntKind.signed] at hmo
    omega
  have HS : Hid (Sl W) := hS
  have HL : Hid (Bs W v l) := hl
  have HBY : Hid (Byt l) := hby
  obtain ⟨n, HN⟩ : ∃ n, Hid (l.length = n) := ⟨_, rfl⟩
  obtain ⟨ao, cap, rfl, hc, _⟩ := hl
  rw [HN.out] at HL hc hb ⊢
  obtain ⟨W1, HW1⟩ : ∃ W1, Hid (W1 = W.alloc (.cells #[.int .u64 g, .int .i64 a, .int .i64 z] 24)) := ⟨_, rfl⟩
  have HB1 : Hid (Below W.heap.size W W1) := by rw [Hid, HW1.out]; exact (Below.refl _ W).alloc (Nat.le_refl _) _
  have HC1 : Hid (W1.heap[W.heap.size]? = some (.cells #[.int .u64 g, .int .i64 a, .int .i64 z] 24 (0, 0))) := by rw [Hid, HW1.out]; exact heap_alloc_new W _
  have HCC : Hid (∀ w', Below W1.heap.size W1 w' → w'.cell? ⟨W.heap.size, 0, none⟩ = some (.int .u64 g) ∧ w'.cell? ⟨W.heap.size, 1, none⟩ = some (.int .i64 a) ∧ w'.cell? ⟨W.heap.size, 2, none⟩ = some (.int .i64 z)) := fun w' hb => by
    have := (hb.block _ (Array.getElem?_eq_some_iff.1 HC1.out).1).trans HC1.out
    obtain ⟨c0, c1, c2, _⟩ := three_cells this
    exact ⟨c0, c1, c2⟩
  have HBW : Hid (∀ w', Below W1.heap.size W1 w' → Below W.heap.size W w') := fun w' hb => HB1.out.trans (hb.mono HB1.out.size)
  clear hS hby hmo
  go_enter Tryd.func6, Tryd.ntmps6
  go_upto_region 1 with fail
  rw [← HW1.out]
  by_cases hbig : 1000 < (n : Int)
  · go_wp2_with fail
    refine (lives4_any W1 (HS.out.below HB1.out)).mono ?_
    rintro e w6 ⟨rfl, hb6⟩
    go_wp2_with fail
    go_ret
    exact ⟨rfl, HBW.out _ hb6⟩
  by_cases hmost : 1000 < most
  · go_wp2_with fail
    refine (lives4_any W1 (HS.out.below HB1.out)).mono ?_
    rintro e w6 ⟨rfl, hb6⟩
    go_wp2_with fail
    go_ret
    exact ⟨rfl, HBW.out _ hb6⟩
  by_cases hno : most < 0 ∨ most < (n : Int)
  · have hno2 : most < 0 ∨ 4194304 < most ∨ most < (n : Int) := by omega
    obtain ⟨c0, c1, c2⟩ := HCC.out _ (Below.refl _ _)
    go_wp2_with fail
    refine (of_none ao n cap most W1 hno2).mono ?_
    rintro e w2 ⟨rfl, hw2⟩
    obtain rfl := hw2.symm
    go_wp2_with fail
    refine (refOf_none ao n cap most W1 hno2).mono ?_
    rintro e w2 ⟨rfl, hw2⟩
    obtain rfl := hw2.symm
    go_wp2_with fail
    refine (rput_no _ g a z W1 (.inl rfl)).mono ?_
    rintro e w3 ⟨rfl, hb3⟩
    have HB3 : Hid (Below W1.heap.size W1 w3) := hb3
    clear hb3 c0 c1 c2
    go_wp2_with fail
    refine (lives4_any w3 (HS.out.below (HBW.out _ HB3.out))).mono ?_
    rintro e w6 ⟨rfl, hb6⟩
    go_wp2_with fail
    go_ret
    exact ⟨rfl, (HBW.out _ HB3.out).trans (hb6.mono (HBW.out _ HB3.out).size)⟩
  obtain ⟨F, HF⟩ : ∃ F, Hid (F = newM l most) := ⟨_, rfl⟩
  have HFL : Hid (F.bs.length = n) := by rw [Hid, HF.out]; exact HN.out
  have HF0 : Hid (F.rs.length = 0 ∧ Short4 F) := by rw [Hid, HF.out]; exact ⟨rfl, fun x hx => by simp [newM] at hx⟩
  go_wp2_with fail
  refine (of_some _ l most W1 (HL.out.below HB1.out) (by omega) (by omega) (by rw [HN.out]; omega)).mono ?_
  rintro e w2 ⟨p, vb, rfl, hp2, hb2⟩
  rw [← HF.out] at hp2
  have HP2 : Hid (PF w2 W1.heap.size p F vb (.slice none 0 0) []) := hp2
  have HB2 : Hid (Below W1.heap.size W1 w2) := hb2
  clear hp2 hb2
  go_wp2_with fail
  refine (refOf_some _ l most w2 (HL.out.below (HBW.out _ HB2.out)) (by omega) (by omega) (by rw [HN.out]; omega)).mono ?_
  rintro e w3 ⟨pm, vbm, rfl, hp3, hb3⟩
  rw [← HF.out] at hp3
  have HM3 : Hid (RF w3 w2.heap.size pm F vbm (.slice none 0 0) []) := hp3
  have HP3 : Hid (PF w3 W1.heap.size p F vb (.slice none 0 0) []) := HP2.out.below hb3
  have HB23 : Hid (Below w2.heap.size w2 w3) := hb3
  have HB3 : Hid (Below W1.heap.size W1 w3) := HB2.out.trans (hb3.mono HB2.out.size)
  have HPL : Hid (∀ k, Foot p vb (.slice none 0 0) k → k < w2.heap.size) := fun k hk => (HP2.out.hold.foot k hk).2
  have HPI : Hid (∀ k, Inn ([] : List RawV) k → False) := fun k hk => by obtain ⟨r, hr, _⟩ := hk; cases hr
  clear hp3 hb3
  obtain ⟨c0, c1, c2⟩ := HCC.out _ HB3.out
  go_wp2_with fail
  refine (plain4_any g a z w3).mono ?_
  rintro e w4 ⟨rfl, hb4⟩
  have HB34 : Hid (Below w3.heap.size w3 w4) := hb4
  have HB4 : Hid (Below W1.heap.size W1 w4) := HB3.out.trans (hb4.mono HB3.out.size)
  clear hb4 c0 c1 c2
  by_cases hin : inF a = false ∨ inF z = false
  · go_wp2_with fail
    refine (refPlace_no n g a z w4 hin).mono ?_
    rintro e w5 ⟨rfl, hb5⟩
    have HB35 : Hid (Below w3.heap.size w3 w5) := HB34.out.trans (hb5.mono HB34.out.size)
    have HB5 : Hid (Below W1.heap.size W1 w5) := HB4.out.trans (hb5.mono HB4.out.size)
    clear hb5
    obtain ⟨c0, c1, c2⟩ := HCC.out _ HB5.out
    go_wp2_with fail
    refine (rput_arg (HP3.out.below HB35.out) g a z hin).mono ?_
    rintro e wT ⟨rfl, hb6⟩
    obtain ⟨F', HF'⟩ : ∃ F', Hid (F = F') := ⟨_, rfl⟩
    obtain ⟨rvT, HrvT⟩ : ∃ rvT : List RawV, Hid (rvT = []) := ⟨_, rfl⟩
    obtain ⟨rvm, Hrvm⟩ : ∃ rvm : List RawV, Hid (rvm = []) := ⟨_, rfl⟩
    have HB3T : Hid (Below w3.heap.size w3 wT) := HB35.out.trans (hb6.mono HB35.out.size)
    have HTP : Hid (PF wT W1.heap.size p F' vb (.slice none 0 0) rvT) := by rw [Hid, ← HF'.out, HrvT.out]; exact HP3.out.below HB3T.out
    have HTM : Hid (RF wT w2.heap.size pm F' vbm (.slice none 0 0) rvm) := by rw [Hid, ← HF'.out, Hrvm.out]; exact HM3.out.below HB3T.out
    have HTB : Hid (Below W.heap.size W wT) := HBW.out _ (HB5.out.trans (hb6.mono HB5.out.size))
    have HRC : Hid (F'.rs.length ≤ 100) := by rw [Hid, ← HF'.out, HF0.out.1]; omega
    have HSH : Hid (Short4 F') := by rw [Hid, ← HF'.out]; exact HF0.out.2
    obtain ⟨vrm, Hvrm⟩ : ∃ vrm : Value, Hid (vrm = .slice none 0 0) := ⟨_, rfl⟩
    rw [← Hvrm.out] at HTM
    clear hb6 c0 c1 c2
    have c0 := HTM.out.cell 0
    have c5 := HTM.out.cell 5
    obtain ⟨abm, cbm, arm, crm, e1, hcb, e2⟩ := HTM.out.shape
    have HRV : Hid (rvm.length = F'.rs.length) := by rw [Hid, HTM.out.rs, plain_length]
    rw [HRV.out] at e2
    subst e1 e2
    simp only [rcs, List.getElem?_toArray, List.getElem?_cons_zero, List.getElem?_cons_succ] at c0 c5
    obtain ⟨M, HMM⟩ : ∃ M, Hid (F'.rs.length = M) := ⟨_, rfl⟩
    obtain ⟨LL, HLL⟩ : ∃ LL, Hid (F'.bs.length = LL) := ⟨_, rfl⟩
    rw [HMM.out] at c5
    rw [HLL.out] at c0
    have hMM : M ≤ 100 := by rw [← HMM.out]; exact HRC.out
    have HBX : Hid (Bs wT (.slice abm LL cbm) F'.bs) := by have := HTM.out.hold.own.bs; rw [HLL.out] at this; exact this
    have HK : Hid (∀ w', Below wT.heap.size wT w' → w'.cell? ⟨pm, 0, none⟩ = some (.slice abm LL cbm) ∧ w'.cell? ⟨pm, 5, none⟩ = some (.slice arm M crm) ∧ Sem.run Tryd.prog (convert 25 9 (.slice abm LL cbm)) w' = .ok (.string (strOfNums F'.bs)) w' ∧ Below wT.heap.size wT w') := fun w' hb =>
      ⟨cell_later hb c0, cell_later hb c5, str_of (HBX.out.below hb), hb⟩
    have HCB : Hid (∀ w', Below wT.heap.size wT w' → Calls Tryd.prog 24 #[.pointer (some ⟨p, 0, none⟩)] w' fun e w2 => ∃ ao cap, e = .returned (.slice ao LL cap) ∧ Own w2 w'.heap.size (.slice ao LL cap) F'.bs ∧ Below w'.heap.size w' w2) := fun w' hb => by
      have := bytes_any (HTP.out.below hb)
      rw [HLL.out] at this
      exact this
    have HCR : Hid (∀ w', Below wT.heap.size wT w' → Calls Tryd.prog 25 #[.pointer (some ⟨p, 0, none⟩)] w' fun e w2 => ∃ ao cap, e = .returned (.slice ao M cap) ∧ Below w'.heap.size w' w2) := fun w' hb => by
      have hPL : rvT.length = F'.rs.length := by rw [HTP.out.rs, plain_length]
      refine (raws_any (HTP.out.below hb) (by rw [hPL, HMM.out]; omega) (fun r hr => Nat.le_trans (short_raws (HTP.out.below hb) HSH.out r hr) (by omega))).mono ?_
      rintro e w5 ⟨ao, cap, rv', rfl, _, hpl, hb5⟩
      refine ⟨ao, cap, ?_, hb5⟩
      have : rv'.length = M := by rw [← HMM.out, ← hpl, plain_length]
      rw [this]
    clear hcb
    go_wp2_with fail
    have hd0 : Below wT.heap.size wT wT.drew := (Below.refl _ _).drew
    go_region_held (fun w' => w'.cell? ⟨pm, 0, none⟩ = some (.slice abm LL cbm) ∧ w'.cell? ⟨pm, 5, none⟩ = some (.slice arm M crm) ∧ Sem.run Tryd.prog (convert 25 9 (.slice abm LL cbm)) w' = .ok (.string (strOfNums F'.bs)) w' ∧ Below wT.heap.size wT w') (exact HK.out _ (by assumption)) (first | (go_at_call 24; refine (HCB.out _ (by assumption)).mono ?_; rintro e w7 ⟨ao7, cap7, rfl, ho7, hb7'⟩; have hs7 := str_of ho7.bs; have hb7 : Below wT.heap.size wT w7 := Below.trans (by assumption) (hb7'.mono (Below.size (by assumption))); clear hb7' ho7) | (go_at_call 25; refine (HCR.out _ (by assumption)).mono ?_; rintro e w8 ⟨ao8, cap8, rfl, hb8'⟩; have hb8 : Below wT.heap.size wT w8 := Below.trans (by assumption) (hb8'.mono (Below.size (by assumption))); clear hb8') | (go_at_call 12; refine (lives4_any _ (HS.out.below (HTB.out.trans (Below.mono (by assumption) HTB.out.size)))).mono ?_; rintro e w9 ⟨rfl, hb9'⟩; have hb9 : Below wT.heap.size wT w9 := Below.trans (by assumption) (hb9'.mono (Below.size (by assumption))); clear hb9'))
    all_goals
      have HB9 : Hid (Below wT.heap.size wT w9) := hb9
      clear hb9
      go_wp2
      go_ret
      exact ⟨rfl, HTB.out.trans (HB9.out.mono HTB.out.size)⟩
  · have hA : inF a = true := by cases h1 : inF a <;> simp_all
    have hZ : inF z = true := by cases h1 : inF z <;> simp_all
    obtain ⟨ha0, ha1⟩ := inF_bounds hA
    obtain ⟨hz0, hz1⟩ := inF_bounds hZ
    have HPC : Hid _ := refPlace_ok F g a z w4 (by rw [HFL.out]; omega) g0 g1 ha0 ha1 hz0 hz1
    rw [HFL.out] at HPC
    go_wp2_with fail
    refine Calls.mono HPC.out ?_
    rintro e w5 ⟨xv, rfl, ho5, hb5⟩
    have HB35 : Hid (Below w3.heap.size w3 w5) := HB34.out.trans (hb5.mono HB34.out.size)
    have HB5 : Hid (Below W1.heap.size W1 w5) := HB4.out.trans (hb5.mono HB4.out.size)
    have HX5 : Hid (Own w5 w4.heap.size xv (putX F g a z)) := ho5
    have HAL : Hid (Alien w5 pm vbm (.slice none 0 0) xv) := alien_own HM3.out ho5 HB34.out.size
    have HM5 : Hid (RF w5 w2.heap.size pm F vbm (.slice none 0 0) []) := HM3.out.below HB35.out
    have HP5 : Hid (PF w5 W1.heap.size p F vb (.slice none 0 0) []) := HP3.out.below HB35.out
    have HXL : Hid ((putX F g a z).length ≤ 64) := by unfold Hid; rw [putX_len F g a z g0]; have := putN_le g g0; omega
    have HFRL : Hid (putAt F g ≤ 32) := by have := putN_le g g0; unfold Hid putAt; omega
    have HMW : Hid _ := refWrite_any HM5.out (Nat.le_trans HB23.out.size HB35.out.size) ((putAt F g : Nat) : Int) (putX F g a z) xv ho5.bs (fun _ => HAL.out) (by simp) (by have := HXL.out; omega) (by have := HFRL.out; omega)
    clear ho5 hb5 HPC
    obtain ⟨F', HF'⟩ : ∃ F', Hid ((wrM F ((putAt F g : Nat) : Int) (putX F g a z)).2 = F') := ⟨_, rfl⟩
    obtain ⟨er, HER⟩ : ∃ er, Hid ((wrM F ((putAt F g : Nat) : Int) (putX F g a z)).1 = er) := ⟨_, rfl⟩
    rw [HF'.out, HER.out] at HMW
    go_wp2_with fail
    refine Calls.mono HMW.out ?_
    rintro e w6 ⟨rfl, vbm', vrm, rvm, hm6, hmv6⟩
    have HM6 : Hid (RF w6 w2.heap.size pm F' vbm' vrm rvm) := hm6
    have HBW6 : Hid (Below w2.heap.size w5 w6) := hmv6.chg.below (fun k hk => (HM5.out.hold.foot k hk).1) (Nat.le_trans HB23.out.size HB35.out.size)
    have HP6 : Hid (PF w6 W1.heap.size p F vb (.slice none 0 0) []) := HP5.out.chg hmv6.chg (fun k hk hk2 => by have h1 := HPL.out k hk; have h2 := (HM5.out.hold.foot k hk2).1; omega) (fun k hk => (HPI.out k hk).elim)
    have HML : Hid (∀ k, Foot pm vbm' vrm k → w2.heap.size ≤ k) := fun k hk => (hm6.hold.foot k hk).1
    have HMI : Hid (∀ k, Inn rvm k → w2.heap.size ≤ k) := fun k hk => by
      rcases hmv6.inn k hk with h1 | h1
      · exact (HPI.out k h1).elim
      · exact Nat.le_trans (Nat.le_trans HB23.out.size HB35.out.size) h1
    have HB6 : Hid (Below W1.heap.size W1 w6) := HB5.out.trans (HBW6.out.mono HB2.out.size)
    clear hm6 hmv6 HMW
    obtain ⟨c0, c1, c2⟩ := HCC.out _ HB6.out
    have HPU : Hid _ := rput_any HP6.out HB6.out.size g a z (HS.out.below (HBW.out _ HB6.out)).tab g0 g1 hA hZ (by simp)
    rw [HF'.out, HER.out] at HPU
    go_wp2_with fail
    refine Calls.mono HPU.out ?_
    rintro e wT ⟨vbT, vrT, rvT, rfl, hpT, hmT⟩
    have HTP : Hid (PF wT W1.heap.size p F' vbT vrT rvT) := hpT
    have HTM : Hid (RF wT w2.heap.size pm F' vbm' vrm rvm) := HM6.out.chg hmT.chg (fun k hk hk2 => by have h1 := HPL.out k hk2; have h2 := HML.out k hk; omega) (fun k hk hk2 => by have h1 := HPL.out k hk2; have h2 := HMI.out k hk; omega)
    have HTB : Hid (Below W.heap.size W wT) := HBW.out _ (HB6.out.trans (hmT.below HP6.out HB6.out.size))
    have HRC : Hid (F'.rs.length ≤ 100) := by
      have := wrM_count F ((putAt F g : Nat) : Int) (putX F g a z)
      rw [HF'.out, HF0.out.1] at this
      have h2 := HXL.out
      unfold Hid; omega
    have HSH : Hid (Short4 F') := by rw [Hid, ← HF'.out]; exact wrM_short4 HF0.out.2 _ _
    clear hpT hmT HPU c0 c1 c2
    have c0 := HTM.out.cell 0
    have c5 := HTM.out.cell 5
    obtain ⟨abm, cbm, arm, crm, e1, hcb, e2⟩ := HTM.out.shape
    have HRV : Hid (rvm.length = F'.rs.length) := by rw [Hid, HTM.out.rs, plain_length]
    rw [HRV.out] at e2
    subst e1 e2
    simp only [rcs, List.getElem?_toArray, List.getElem?_cons_zero, List.getElem?_cons_succ] at c0 c5
    obtain ⟨M, HMM⟩ : ∃ M, Hid (F'.rs.length = M) := ⟨_, rfl⟩
    obtain ⟨LL, HLL⟩ : ∃ LL, Hid (F'.bs.length = LL) := ⟨_, rfl⟩
    rw [HMM.out] at c5
    rw [HLL.out] at c0
    have hMM : M ≤ 100 := by rw [← HMM.out]; exact HRC.out
    have HBX : Hid (Bs wT (.slice abm LL cbm) F'.bs) := by have := HTM.out.hold.own.bs; rw [HLL.out] at this; exact this
    have HK : Hid (∀ w', Below wT.heap.size wT w' → w'.cell? ⟨pm, 0, none⟩ = some (.slice abm LL cbm) ∧ w'.cell? ⟨pm, 5, none⟩ = some (.slice arm M crm) ∧ Sem.run Tryd.prog (convert 25 9 (.slice abm LL cbm)) w' = .ok (.string (strOfNums F'.bs)) w' ∧ Below wT.heap.size wT w') := fun w' hb =>
      ⟨cell_later hb c0, cell_later hb c5, str_of (HBX.out.below hb), hb⟩
    have HCB : Hid (∀ w', Below wT.heap.size wT w' → Calls Tryd.prog 24 #[.pointer (some ⟨p, 0, none⟩)] w' fun e w2 => ∃ ao cap, e = .returned (.slice ao LL cap) ∧ Own w2 w'.heap.size (.slice ao LL cap) F'.bs ∧ Below w'.heap.size w' w2) := fun w' hb => by
      have := bytes_any (HTP.out.below hb)
      rw [HLL.out] at this
      exact this
    have HCR : Hid (∀ w', Below wT.heap.size wT w' → Calls Tryd.prog 25 #[.pointer (some ⟨p, 0, none⟩)] w' fun e w2 => ∃ ao cap, e = .returned (.slice ao M cap) ∧ Below w'.heap.size w' w2) := fun w' hb => by
      have hPL : rvT.length = F'.rs.length := by rw [HTP.out.rs, plain_length]
      refine (raws_any (HTP.out.below hb) (by rw [hPL, HMM.out]; omega) (fun r hr => Nat.le_trans (short_raws (HTP.out.below hb) HSH.out r hr) (by omega))).mono ?_
      rintro e w5 ⟨ao, cap, rv', rfl, _, hpl, hb5⟩
      refine ⟨ao, cap, ?_, hb5⟩
      have : rv'.length = M := by rw [← HMM.out, ← hpl, plain_length]
      rw [this]
    clear hcb
    go_wp2_with fail
    have hd0 : Below wT.heap.size wT wT.drew := (Below.refl _ _).drew
    go_region_held (fun w' => w'.cell? ⟨pm, 0, none⟩ = some (.slice abm LL cbm) ∧ w'.cell? ⟨pm, 5, none⟩ = some (.slice arm M crm) ∧ Sem.run Tryd.prog (convert 25 9 (.slice abm LL cbm)) w' = .ok (.string (strOfNums F'.bs)) w' ∧ Below wT.heap.size wT w') (exact HK.out _ (by assumption)) (first | (go_at_call 24; refine (HCB.out _ (by assumption)).mono ?_; rintro e w7 ⟨ao7, cap7, rfl, ho7, hb7'⟩; have hs7 := str_of ho7.bs; have hb7 : Below wT.heap.size wT w7 := Below.trans (by assumption) (hb7'.mono (Below.size (by assumption))); clear hb7' ho7) | (go_at_call 25; refine (HCR.out _ (by assumption)).mono ?_; rintro e w8 ⟨ao8, cap8, rfl, hb8'⟩; have hb8 : Below wT.heap.size wT w8 := Below.trans (by assumption) (hb8'.mono (Below.size (by assumption))); clear hb8') | (go_at_call 12; refine (lives4_any _ (HS.out.below (HTB.out.trans (Below.mono (by assumption) HTB.out.size)))).mono ?_; rintro e w9 ⟨rfl, hb9'⟩; have hb9 : Below wT.heap.size wT w9 := Below.trans (by assumption) (hb9'.mono (Below.size (by assumption))); clear hb9'))
    all_goals
      have HB9 : Hid (Below wT.heap.size wT w9) := hb9
      clear hb9
      go_wp2
      go_ret
      exact ⟨rfl, HTB.out.trans (HB9.out.mono HTB.out.size)⟩
end Go.Proofs.YtkiccnedmejnaaaDoor
