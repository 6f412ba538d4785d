/-
  The document's Undo. Conditions: bytes are bytes; their number, and that of the filters, is one that memory bears.
-/
import Derived.Test.YtgodoogmbdgeoaaFiUn
import Derived.Test.YtgodoogmbdgeoaaFiRefA
import Derived.Deep.RegionHeld
namespace Go.Proofs.Ytgodoogmbdgeoaa
open Go.RowKit
set_option linter.unusedVariables false
set_option maxRecDepth 100000

theorem str_injF {a b : List Int} (ha : Byt a) (hb : Byt b) (hl : a.length = b.length) (h : strOfNums a = strOfNums b) : a = b := by
  have h1 : a.map (fun n => UInt8.ofNat n.toNat) = b.map (fun n => UInt8.ofNat n.toNat) := by rw [← strOfNums_data, ← strOfNums_data, h]
  apply List.ext_getElem hl
  intro i h2 h3
  have h4 : (a.map (fun n => UInt8.ofNat n.toNat))[i]'(by simpa using h2) = (b.map (fun n => UInt8.ofNat n.toNat))[i]'(by simpa using h3) := by simp only [h1]
  simp only [List.getElem_map] at h4
  have ha' := ha i
  have hb' := hb i
  have e1 : a.getD i 0 = a[i] := by simp [List.getD, h2]
  have e2 : b.getD i 0 = b[i] := by simp [List.getD, h3]
  rw [e1] at ha'; rw [e2] at hb'
  have h5 := congrArg UInt8.toNat h4
  simp at h5
  omega
theorem str_neF {a b : List Int} (ha : Byt a) (hb : Byt b) (hl : a.length = b.length) (h : ¬ a = b) : ((strOfNums a).toList == (strOfNums b).toList) = false := by
  have : ¬ (strOfNums a).toList = (strOfNums b).toList := fun e => by
    rw [ByteArray.toList_eq, ByteArray.toList_eq] at e
    exact h (str_injF ha hb hl (by apply ByteArray.ext; apply Array.ext'; exact e))
  simpa using this
/-- What is told, to be read. -/
def RdP (w : World) (er : Int) (R : List Int) (e : Ending) (w' : World) : Prop := ∃ x, e = .returned (.tuple #[x, .int .i64 er]) ∧ Bs w' x R ∧ Below w.heap.size w w'
theorem rsh_un (z : Nat) (h1 : 1 ≤ z) (h8 : z ≤ 8) (v : Value) (l : List Int) (w : World) (hl : Bs w v l) (hby : Byt l) (hlb : l.length ≤ 140737488351232) :
    Calls Try.prog 27 #[.int .i64 (z : Int), v] w (TlP w (unF (1, (z : Int)) l).2 (unF (1, (z : Int)) l).1) := by
  rw [un_1, Int.toNat_natCast]
  refine (refUn_any z v l w hl (by omega)).mono fun e w' h => ?_
  rw [wE_yes h1 h8, wL_yes h1 h8] at h
  exact h
theorem rde_un (z : Nat) (h1 : 1 ≤ z) (h8 : z ≤ 8) (v : Value) (l : List Int) (w : World) (hl : Bs w v l) (hby : Byt l) (hlb : l.length ≤ 140737488351232) :
    Calls Try.prog 28 #[.int .i64 (z : Int), v] w (TlP w (unF (2, (z : Int)) l).2 (unF (2, (z : Int)) l).1) := by
  rw [un_2, Int.toNat_natCast]
  refine (refUd_any z v l w hl hby (by omega)).mono fun e w' h => ?_
  rw [wE_yes h1 h8, wL_yes h1 h8] at h
  exact h
theorem rpk_un (z : Int) (v : Value) (l : List Int) (w : World) (hl : Bs w v l) (hby : Byt l) (hlb : l.length ≤ 140737488351232) :
    Calls Try.prog 29 #[v, .int .i64 65536] w (TlP w (unF (3, z) l).2 (unF (3, z) l).1) := by
  rw [un_3]
  exact refUnpack_in v l 65536 w hl hby (by omega) hlb
set_option maxHeartbeats 64000000 in
theorem refUndo_any (v x : Value) (L : List Fil) (b : List Int) (nI : Int) (w : World) (hl : Fls w v L) (hb : Bs w x b) (hby : Byt b) (hlb : L.length ≤ 8796093021952) (hbl : b.length ≤ 140737488351232) :
    Calls Try.prog 18 #[v, x, .int .i64 nI] w (RdP w (udE L b nI) (udR L b nI)) := by
  obtain ⟨i0, hi, hi0, hi1, hi2⟩ := info_parts Try.info5
  have HK : Hid _ := refCheck_any v L w hl hlb
  by_cases h0 : chE L = 0
  · by_cases hn : nI < 0 ∨ 4096 < nI
    · obtain ⟨e1, e2⟩ := ud_arg h0 b hn
      rw [e1, e2]
      rw [h0] at HK
      clear hl hb e1 e2
      by_cases hneg : nI < 0
      · clear hn
        go_enter Try.func18, Try.ntmps18
        go_wp2_with fail
        refine Calls.mono HK.out ?_
        rintro e w2 ⟨rfl, rfl⟩
        go_wp2_with fail
        go_ret2
        exact ⟨_, rfl, Bs.nil _, Below.refl _ _⟩
      · have hbg : 4096 < nI := by omega
        clear hn
        go_enter Try.func18, Try.ntmps18
        go_wp2_with fail
        refine Calls.mono HK.out ?_
        rintro e w2 ⟨rfl, rfl⟩
        go_wp2_with fail
        go_ret2
        exact ⟨_, rfl, Bs.nil _, Below.refl _ _⟩
    · have HYES : Hid (∀ R, udN L L.length b = (R, 0) → (R.length : Int) = nI → udE L b nI = 0 ∧ udR L b nI = R) := fun R h1 h2 => by
        have := ud_yes h0 (b := b) hn (by rw [h1]) (by rw [h1]; exact h2)
        rw [h1] at this
        exact this
      have HNO : Hid (∀ R E, udN L L.length b = (R, E) → ¬ (E = 0 ∧ (R.length : Int) = nI) → udE L b nI = 5 ∧ udR L b nI = []) := fun R E h1 h2 => ud_no h0 (b := b) hn (by rw [h1]; exact h2)
      have hn1 : ¬ nI < 0 := by omega
      have hn2 : ¬ 4096 < nI := by omega
      obtain ⟨ao, cap, rfl, hc, hcell⟩ := hl.opened
      obtain ⟨xo, xc, rfl, hq1, hq2, hq3⟩ := id hb
      clear hq1 hq2 hq3
      obtain ⟨n, hnn⟩ : ∃ n, L.length = n := ⟨_, rfl⟩
      have HC : Hid (∀ i, i < n → ∃ b off, ao = some ⟨b, off, none⟩ ∧ w.cell? ⟨b, off + i * 2, none⟩ = some (.int .i64 (L.getD i (0, 0)).1) ∧ w.cell? ⟨b, off + i * 2 + 1, none⟩ = some (.int .i64 (L.getD i (0, 0)).2) ∧ b < w.heap.size) := by rw [← hnn]; exact hcell
      have HM : Hid (∀ j, j < n → mayP (L.getD j (0, 0))) := fun j hj => may_at h0 (by rw [hnn]; exact hj)
      obtain ⟨w1, hw1, b1, s1, o1⟩ := empty_own w
      have HO1 : Hid _ := o1
      have HB1 : Hid (Below w.heap.size w w1) := b1
      have HX : Hid (Bs w1 (.slice xo b.length xc) b) := hb.below b1
      have HY : Hid (Byt b) := hby
      have HBL : Hid (b.length ≤ 140737488351232) := hbl
      have hn4 : n ≤ 4 := by rw [← hnn]; exact (chE_ok h0).1
      rw [h0] at HK
      rw [hnn] at hc hlb HYES HNO HK ⊢
      generalize udE L b nI = ZE at *
      generalize udR L b nI = ZR at *
      obtain ⟨U, hU⟩ : ∃ U, udN L n b = U := ⟨_, rfl⟩
      have HU : Hid (udN L n b = U) := hU
      rw [hU] at HYES HNO
      obtain ⟨m, hm⟩ : ∃ m, b.length = m := ⟨_, rfl⟩
      rw [hm] at HX ⊢
      have HMM : Hid (b.length = m) := hm
      have wi : IntKind.i64.wrap ((n : Int) - 1) = (n : Int) - 1 := by simp [IntKind.wrap, IntKind.bits, IntKind.signed]; omega
      clear hl hcell hb hby hbl h0 hU hc hnn hm b1 o1 hn
      go_enter Try.func18, Try.ntmps18
      go_wp2_with fail
      refine Calls.mono HK.out ?_
      rintro e w2 ⟨rfl, rfl⟩
      go_wp2_with (at_builtin; refine wpList_append_bytes _ rfl (.tmp 24) (.tmp 25) 28 rfl i0 Try.underlying28 hi hi0 hi1 hi2 w2.heap.size _ (.slice xo m xc) [] b rfl rfl HO1.out HX.out (by have := HBL.out; simp only [List.length_nil]; omega) w2 HB1.out s1 ?_; intro ao1 cap1 w5 ho1 hb1 _ _; rw [List.nil_append] at ho1; generalize ([] : List Int).length + b.length = N1 at ho1 ⊢; have HO5 : Hid (Bs w5 _ _) := ho1.bs; have HB5 : Hid (Below w2.heap.size w2 w5) := hb1; clear ho1 hb1)
      clear wi s1
      go_loopw [9, 10, 11, 12] (fun y i _ _ wr => ∃ (j : Nat) (A : List Int), j ≤ n ∧ i = .int .i64 ((j : Int) - 1) ∧ Hid (udN L j A = U) ∧ Hid (Byt A) ∧ Hid (A.length ≤ 140737488351232) ∧ Hid (Bs wr y A) ∧ Hid (Below w2.heap.size w2 wr)) (fun _ i _ _ _ => (intOf i + 1).toNat)
      case atStart => exact ⟨n, b, Nat.le_refl _, rfl, HU.out, HY.out, HBL.out, HO5.out, HB5.out⟩
      case round =>
        obtain ⟨j, A, hj, rfl, HUA, HYA, HLA, HO, HB⟩ := hrel
        cases j with
        | zero =>
          have hge : ¬ (0 : Int) ≤ ((0 : Nat) : Int) - 1 := by omega
          have HUZ : Hid (U = (A, 0)) := by rw [Hid, ← HUA.out]; rfl
          obtain ⟨yo, yc, rfl, hq1, hq2, hq3⟩ := id HO.out
          clear hq1 hq2 hq3
          obtain ⟨k, hk⟩ : ∃ k, A.length = k := ⟨_, rfl⟩
          have HKA : Hid (A.length = k) := hk
          rw [hk] at HO ⊢
          clear hk
          by_cases hkn : (k : Int) = nI
          · obtain ⟨z1, z2⟩ := HYES.out A HUZ.out (by rw [HKA.out]; exact hkn)
            subst hkn
            subst z1 z2
            go_wp2_with fail
            go_ret2
            exact ⟨_, rfl, HO.out, HB.out⟩
          · obtain ⟨z1, z2⟩ := HNO.out A 0 HUZ.out (fun h => hkn (by rw [← HKA.out]; exact h.2))
            have hne : ((k : Int) != nI) = true := by simp [hkn]
            subst z1 z2
            go_wp2_with fail
            go_ret2
            exact ⟨_, rfl, Bs.nil _, HB.out⟩
        | succ q =>
          obtain ⟨I, hI⟩ : ∃ I, ((q + 1 : Nat) : Int) - 1 = I := ⟨_, rfl⟩
          obtain rfl : I = (q : Int) := by omega
          rw [hI]
          have hlt : q < n := by omega
          have hge : (0 : Int) ≤ (q : Int) := by omega
          have wi : IntKind.i64.wrap ((q : Int) - 1) = (q : Int) - 1 := by simp [IntKind.wrap, IntKind.bits, IntKind.signed]; omega
          obtain ⟨b0, off, rfl, c0, c1, hbl⟩ := HC.out q hlt
          replace c0 := (HB.out.cell (p := ⟨b0, off + q * 2, none⟩) hbl).trans c0
          replace c1 := (HB.out.cell (p := ⟨b0, off + q * 2 + 1, none⟩) hbl).trans c1
          have HM1 := HM.out q hlt
          obtain ⟨R, E, hRE⟩ : ∃ R E, unF (L.getD q (0, 0)) A = (R, E) := ⟨_, _, rfl⟩
          obtain ⟨hw1, hw2, hw3⟩ := un_wide hRE HYA.out HLA.out
          have HYR : Hid (Byt R) := hw1
          have HLR : Hid (R.length ≤ 140737488351232) := hw2
          have HST : Hid ((if E = 0 then udN L q R else ([], E)) = U) := by rw [Hid, ← ud_step hRE]; exact HUA.out
          have HWR : Hid (w2.heap.size ≤ wr.heap.size) := HB.out.size
          clear hw1 hw2 hw3 hbl hI
          rcases may_form HM1 with ⟨z, HF, hz1, hz8⟩ | ⟨z, HF, hz1, hz8⟩ | HF | HF
          · rw [HF] at c0 c1 hRE
            obtain rfl : 0 = E := by have := hRE; rw [un_1] at this; exact (Prod.ext_iff.1 this).2
            have HUN : Hid (unF (1, (z : Int)) A = (R, 0)) := hRE
            simp only at c0 c1
            have HS2 : Hid (udN L q R = U) := by have := HST.out; rwa [if_pos rfl] at this
            clear hRE HF HM1
            go_wp2_with (go_at_call 27; refine Calls.mono (rsh_un z hz1 hz8 _ A _ HO.out HYA.out HLA.out) ?_; rintro e w4 ⟨x4, rfl, ho4, hb4⟩; rw [HUN.out] at ho4 ⊢; have HO4 : Hid (Bs w4 x4 R) := ho4.bs; have HB4 : Hid (Below w2.heap.size w2 w4) := HB.out.trans (hb4.mono HWR.out); clear hb4 ho4)
            go_roundw
            case rel => exact ⟨q, R, by omega, rfl, HS2.out, HYR.out, HLR.out, HO4.out, HB4.out⟩
            case measure => simp [intOf] <;> omega
          · rw [HF] at c0 c1 hRE
            obtain rfl : 0 = E := by have := hRE; rw [un_2] at this; exact (Prod.ext_iff.1 this).2
            have HUN : Hid (unF (2, (z : Int)) A = (R, 0)) := hRE
            simp only at c0 c1
            have HS2 : Hid (udN L q R = U) := by have := HST.out; rwa [if_pos rfl] at this
            clear hRE HF HM1
            go_wp2_with (go_at_call 28; refine Calls.mono (rde_un z hz1 hz8 _ A _ HO.out HYA.out HLA.out) ?_; rintro e w4 ⟨x4, rfl, ho4, hb4⟩; rw [HUN.out] at ho4 ⊢; have HO4 : Hid (Bs w4 x4 R) := ho4.bs; have HB4 : Hid (Below w2.heap.size w2 w4) := HB.out.trans (hb4.mono HWR.out); clear hb4 ho4)
            go_roundw
            case rel => exact ⟨q, R, by omega, rfl, HS2.out, HYR.out, HLR.out, HO4.out, HB4.out⟩
            case measure => simp [intOf] <;> omega
          · obtain ⟨z, HF⟩ : ∃ z : Int, L.getD q (0, 0) = (3, z) := ⟨0, HF⟩
            rw [HF] at c0 c1 hRE
            have HUN : Hid (unF (3, z) A = (R, E)) := hRE
            simp only at c0 c1
            clear hRE HF HM1
            by_cases h5 : E = 0
            · subst h5
              have HS2 : Hid (udN L q R = U) := by have := HST.out; rwa [if_pos rfl] at this
              go_wp2_with (go_at_call 29; refine Calls.mono (rpk_un z _ A _ HO.out HYA.out HLA.out) ?_; rintro e w4 ⟨x4, rfl, ho4, hb4⟩; rw [HUN.out] at ho4 ⊢; have HO4 : Hid (Bs w4 x4 R) := ho4.bs; have HB4 : Hid (Below w2.heap.size w2 w4) := HB.out.trans (hb4.mono HWR.out); clear hb4 ho4)
              go_roundw
              case rel => exact ⟨q, R, by omega, rfl, HS2.out, HYR.out, HLR.out, HO4.out, HB4.out⟩
              case measure => simp [intOf] <;> omega
            · have HS3 : Hid (U = ([], E)) := by have := HST.out; rw [if_neg h5] at this; exact this.symm
              have hne : (E != 0) = true := by simp [h5]
              obtain ⟨z1, z2⟩ := HNO.out [] E HS3.out (fun h => h5 h.1)
              subst z1 z2
              go_wp2_with (go_at_call 29; refine Calls.mono (rpk_un z _ A _ HO.out HYA.out HLA.out) ?_; rintro e w4 ⟨x4, rfl, ho4, hb4⟩; rw [HUN.out] at ho4 ⊢; have HO4 : Hid (Bs w4 x4 R) := ho4.bs; have HB4 : Hid (Below w2.heap.size w2 w4) := HB.out.trans (hb4.mono HWR.out); clear hb4 ho4)
              go_ret2
              exact ⟨_, rfl, Bs.nil _, HB4.out⟩
          · obtain ⟨z, HF⟩ : ∃ z : Int, L.getD q (0, 0) = (4, z) := ⟨0, HF⟩
            rw [HF] at c0 c1 hRE
            simp only at c0 c1
            clear HF HM1
            obtain ⟨yo, yc, rfl, hq1, hq2, hq3⟩ := id HO.out
            clear hq2 hq3
            obtain ⟨k, hk⟩ : ∃ k, A.length = k := ⟨_, rfl⟩
            rw [hk] at HO hq1 ⊢
            have hlk := HLA.out
            rw [hk] at hlk
            by_cases h4 : k < 4
            · have hE : unF (4, z) A = ([], 5) := by rw [un_4, if_pos (.inl (by omega))]
              rw [hE] at hRE
              obtain ⟨rfl, rfl⟩ : [] = R ∧ 5 = E := Prod.ext_iff.1 hRE
              have HS3 : Hid (U = ([], 5)) := by have := HST.out; rw [if_neg (by omega)] at this; exact this.symm
              obtain ⟨z1, z2⟩ := HNO.out [] 5 HS3.out (fun h => by have := h.1; omega)
              subst z1 z2
              have w4' : IntKind.i64.wrap ((k : Int) - 4) = (k : Int) - 4 := by simp [IntKind.wrap, IntKind.bits, IntKind.signed]; omega
              have hlt0 : (k : Int) - 4 < 0 := by omega
              clear hRE hE hq1 hk hlk h4
              go_wp2_with fail
              go_region
              go_wp2_with fail
              go_ret2
              exact ⟨_, rfl, Bs.nil _, HB.out.drew⟩
            · obtain ⟨m', hm'⟩ : ∃ m', k - 4 = m' := ⟨_, rfl⟩
              have hkm : k = m' + 4 := by omega
              obtain ⟨u1, u2⟩ := un_sum hk (by omega) HYA.out z
              rw [hm'] at u1 u2
              obtain ⟨b9, o9, rfl, hq4⟩ := bs_some HO.out (by omega)
              clear hq4
              have HP : Hid (Bs wr (.slice (some ⟨b9, o9, none⟩) m' yc) (A.take m')) := by
                have := bs_part HO.out (lo := 0) (hi := m') (by omega) (by omega)
                rw [List.drop_zero, Nat.add_zero, Nat.sub_zero, Nat.sub_zero] at this
                exact this
              have HQ : Hid (Bs wr (.slice (some ⟨b9, o9 + m', none⟩) (k - m') (yc - m')) (A.drop m')) := bs_rest HO.out (by omega)
              have HPY : Hid (Byt (A.take m')) := byt_takeN HYA.out _
              have HPL : Hid ((A.take m').length ≤ 140737488351232) := by rw [Hid, List.length_take]; omega
              have HS : Hid (∀ w', Below wr.heap.size wr w' → Sem.run Try.prog (convert 28 9 (.slice (some ⟨b9, o9 + m', none⟩) (k - m') (yc - m'))) w' = .ok (.string (strOfNums (A.drop m'))) w') := fun w' hw => str_run (HQ.out.below hw)
              have w4' : IntKind.i64.wrap ((k : Int) - 4) = (m' : Int) := by rw [hkm]; simp [IntKind.wrap, IntKind.bits, IntKind.signed]; omega
              have hge4 : ¬ (m' : Int) < 0 := by omega
              have hmk : m' ≤ k := by omega
              have hmy : m' ≤ yc := by omega
              have hny : (yc = m') = False := by simp; omega
              have hiff := smB_iff (x := A.drop m') (b := A.take m') (byt_dropN HYA.out _) (by rw [List.length_drop]; omega)
              have hsn : ¬ smB (A.take m') = A.drop m' → ((strOfNums (smB (A.take m'))).toList == (strOfNums (A.drop m')).toList) = false := fun h => str_neF (smB_byt _) (byt_dropN HYA.out _) (by rw [smB_len, List.length_drop]; omega) h
              have HCS : Hid (∀ w', Below wr.heap.size wr w' → Calls Try.prog 25 #[.slice (some ⟨b9, o9, none⟩) m' yc] w' fun e w2 => ∃ x, e = .returned x ∧ Own w2 w'.heap.size x (smB (A.take m')) ∧ Below w'.heap.size w' w2) := fun w' hb => refSum_any _ _ w' (HP.out.below hb) HPY.out HPL.out
              by_cases heq : smB (A.take m') = A.drop m'
              · have hE := u1 (hiff.2 heq.symm)
                rw [hE] at hRE
                obtain ⟨rfl, rfl⟩ : A.take m' = R ∧ 0 = E := Prod.ext_iff.1 hRE
                have HS2 : Hid (udN L q (A.take m') = U) := by have := HST.out; rwa [if_pos rfl] at this
                rw [heq] at HCS
                generalize A.take m' = AT at *
                generalize A.drop m' = AD at *
                clear hRE hE u1 u2 hiff hsn heq hk hkm hm' h4 hq1 hlk
                go_wp2_with fail
                have hd0 : Below wr.heap.size wr wr.drew := (Below.refl _ _).drew
                go_region_held (fun w' => Sem.run Try.prog (convert 28 9 (.slice (some ⟨b9, o9 + m', none⟩) (k - m') (yc - m'))) w' = .ok (.string (strOfNums AD)) w' ∧ Below wr.heap.size wr w') (exact ⟨HS.out _ (by assumption), by assumption⟩) ((go_at_call 25; refine (HCS.out _ (by assumption)).mono ?_; rintro e w4 ⟨x2, rfl, ho2, hb2⟩; have hs2 := str_run ho2.bs; have hb3 := below_undrew hb2))
                have HB3 : Hid (Below wr.heap.size wr w4) := hb3
                clear ho2 hb2 hs2 hb3 hd0
                go_wp2_with fail
                go_roundw
                case rel => exact ⟨q, AT, by omega, rfl, HS2.out, HPY.out, HPL.out, HP.out.below HB3.out, box_next HB.out HWR.out HB3.out⟩
                case measure => simp [intOf] <;> omega
              · have hE := u2 (fun h => heq (hiff.1 h).symm)
                rw [hE] at hRE
                obtain ⟨rfl, rfl⟩ : [] = R ∧ 5 = E := Prod.ext_iff.1 hRE
                have HS3 : Hid (U = ([], 5)) := by have := HST.out; rw [if_neg (by omega)] at this; exact this.symm
                obtain ⟨z1, z2⟩ := HNO.out [] 5 HS3.out (fun h => by have := h.1; omega)
                subst z1 z2
                have hsn2 := hsn heq
                generalize smB (A.take m') = S at *
                generalize A.take m' = AT at *
                generalize A.drop m' = AD at *
                clear hRE hE u1 u2 hiff hsn heq hk hkm hm' h4 hq1 hlk
                go_wp2_with fail
                have hd0 : Below wr.heap.size wr wr.drew := (Below.refl _ _).drew
                go_region_held (fun w' => Sem.run Try.prog (convert 28 9 (.slice (some ⟨b9, o9 + m', none⟩) (k - m') (yc - m'))) w' = .ok (.string (strOfNums AD)) w' ∧ Below wr.heap.size wr w') (exact ⟨HS.out _ (by assumption), by assumption⟩) ((go_at_call 25; refine (HCS.out _ (by assumption)).mono ?_; rintro e w4 ⟨x2, rfl, ho2, hb2⟩; have hs2 := str_run ho2.bs; have hb3 := below_undrew hb2))
                have HB3 : Hid (Below wr.heap.size wr w4) := hb3
                clear ho2 hb2 hs2 hb3 hd0
                go_wp2_with fail
                go_ret2
                exact ⟨_, rfl, Bs.nil _, box_next HB.out HWR.out HB3.out⟩
  · obtain ⟨e1, e2⟩ := ud_bad h0 b nI
    rw [e1, e2]
    obtain ⟨c, hc0⟩ : ∃ c, chE L = c := ⟨_, rfl⟩
    rw [hc0] at HK h0 ⊢
    have hne : (c != 0) = true := by simp [h0]
    clear hl hb e1 e2 hby h0 hc0
    go_enter Try.func18, Try.ntmps18
    go_wp2_with fail
    refine Calls.mono HK.out ?_
    rintro e w2 ⟨rfl, rfl⟩
    go_wp2_with fail
    go_ret2
    exact ⟨_, rfl, Bs.nil _, Below.refl _ _⟩
end Go.Proofs.Ytgodoogmbdgeoaa
