/-
  The walk of BtreeNames. Conditions: none but what memory bears.
-/
import Derived.Test.YtelfjgnmbikofaaBNmW
import Derived.Deep.RegionHeldLaw
import Derived.Test.YtelfjgnmbikofaaRLast
namespace Go.Proofs.Ytelfjgnmbikofaa
open Go.RowKit
set_option linter.unusedVariables false
set_option maxRecDepth 100000

set_option maxHeartbeats 16000000 in
theorem btreeNames_walk (a0 : Int) (v1 : Value) (Q : List A7) (s2 : ByteArray) (w : World) (w0 : (Lit.int .i64 a0).wf = true) (b1 : As7 w v1 Q) (z1 : Q.length ≤ 140737488351232) (w2' : s2.size ≤ maxLen) :
    Calls Try.prog 3 #[.int .i64 a0, v1, .string s2] w fun e w' => e = .returned (.bool true) ∧ Below w.heap.size w w' := by
  have HLV : Hid (∀ W, Below w.heap.size w W → Calls Try.prog 9 #[] W fun e w' => e = .returned (.bool true) ∧ Below w.heap.size w w') := fun W hW => (lives7_any W).mono (by rintro e w' ⟨rfl, hb⟩; exact ⟨rfl, hW.trans (hb.mono hW.size)⟩)
  obtain ⟨ao, cap, rfl, hc⟩ := b1
  by_cases hbad : a0 < 3 ∨ 64 < a0
  · have HNB : Hid _ := newNames_bad a0 w hbad
    have HBX : Hid (Below w.heap.size w (w.alloc (.cells #[.slice none 0 0, .slice none 0 0] 29))) := (Below.refl _ _).alloc (Nat.le_refl _) _
    clear hc
    by_cases h3 : a0 < 3
    · go_enter Try.func3, Try.ntmps3
      go_wp2_with (first
        | (go_at_call 8; refine Calls.mono HNB.out ?_; rintro e w1 ⟨rfl, hw1⟩; obtain rfl := hw1.symm)
        | (go_at_call 9; refine Calls.mono (HLV.out _ HBX.out) ?_; rintro e w8 ⟨rfl, hb8⟩; have HB8 : Hid (Below w.heap.size w w8) := hb8; clear hb8))
      go_ret
      exact ⟨rfl, HB8.out⟩
    · have h4 : 64 < a0 := by omega
      go_enter Try.func3, Try.ntmps3
      go_wp2_with (first
        | (go_at_call 8; refine Calls.mono HNB.out ?_; rintro e w1 ⟨rfl, hw1⟩; obtain rfl := hw1.symm)
        | (go_at_call 9; refine Calls.mono (HLV.out _ HBX.out) ?_; rintro e w8 ⟨rfl, hb8⟩; have HB8 : Hid (Below w.heap.size w w8) := hb8; clear hb8))
      go_ret
      exact ⟨rfl, HB8.out⟩
  · obtain ⟨mm, rfl⟩ : ∃ mm : Nat, a0 = (mm : Int) := ⟨a0.toNat, by omega⟩
    have h3 : 3 ≤ mm := by omega
    have h64 : mm ≤ 64 := by omega
    have h3i : ¬ (mm : Int) < 3 := by omega
    have h64i : ¬ (64 : Int) < (mm : Int) := by omega
    have HC : Hid (∀ (i : Nat) (a : A7), Q[i]? = some a → a.2.1.size ≤ 281474976710656 ∧ ∃ g o, ao = some ⟨g, o, none⟩ ∧ w.cell? ⟨g, o + i * 3, none⟩ = some (.int .i64 a.1) ∧ w.cell? ⟨g, o + i * 3 + 1, none⟩ = some (.string a.2.1) ∧ w.cell? ⟨g, o + i * 3 + 2, none⟩ = some (.int .u64 a.2.2)) := hc
    obtain ⟨n, HN⟩ : ∃ n, Hid (Q.length = n) := ⟨_, rfl⟩
    rw [HN.out] at z1 ⊢
    have HN1 : Hid _ := newNames_sep (w := w) (B := w.heap.size) (ps := []) ⟨fun p hp => (List.not_mem_nil hp).elim, List.nodup_nil⟩ (Nat.le_refl _) mm h3 h64
    clear hc hbad w0
    go_enter Try.func3, Try.ntmps3
    go_wp2_with (go_at_call 8; refine Calls.mono HN1.out ?_; rintro e w1 ⟨p, q, rfl, ht1, hb1⟩; have HP1 : Hid (Nm w (w1.alloc (.cells #[.slice none 0 0, .slice none 0 0] 29)) mm p q w1.heap.size 0 []) := nm_new ht1 hb1; clear ht1 hb1)
    clear HN1
    obtain ⟨r, HR⟩ : ∃ r, Hid (w1.heap.size = r) := ⟨_, rfl⟩
    rw [HR.out] at HP1 ⊢
    go_loopw [9] (fun x wr => ∃ i : Nat, i ≤ n ∧ i ≤ 200 ∧ x = .int .i64 (i : Int) ∧ Hid (Nm w wr mm p q r i [])) (fun x _ => n - (intOf x).toNat)
    case atStart => exact ⟨0, Nat.zero_le _, Nat.zero_le _, rfl, HP1.out⟩
    case round =>
      obtain ⟨i, hin, hi2, rfl, HPr⟩ := hrel
      clear HP1
      by_cases hgo : i < n ∧ i < 200
      · obtain ⟨hlt, hl2⟩ := hgo
        have hili : (i : Int) < (n : Int) := by omega
        have hil2 : (i : Int) < 200 := by omega
        obtain ⟨⟨ki, nm, vl⟩, ha⟩ : ∃ a, Q[i]? = some a := ⟨Q[i]'(by rw [HN.out]; exact hlt), List.getElem?_eq_getElem _⟩
        obtain ⟨hsz, g, o, rfl, c0, c1, c2⟩ := HC.out i _ ha
        have hb := HPr.out.bel
        have c0' : wr.cell? ⟨g, o + i * 3, none⟩ = some (.int .i64 ki) := (hb.cell (World.block_lt_of_cell? w _ c0)).trans c0
        have c1' : wr.cell? ⟨g, o + i * 3 + 1, none⟩ = some (.string nm) := (hb.cell (World.block_lt_of_cell? w _ c1)).trans c1
        have c2' : wr.cell? ⟨g, o + i * 3 + 2, none⟩ = some (.int .u64 vl) := (hb.cell (World.block_lt_of_cell? w _ c2)).trans c2
        have HSZ : Hid (nm.size ≤ 281474976710656) := hsz
        have HPA : Hid (Nm w (wr.alloc (.cells #[.int .i64 ki, .string nm, .int .u64 vl] 33)) mm p q r i [.obj wr.heap.size #[.int .i64 ki, .string nm, .int .u64 vl] 33]) := HPr.out.obj _ _
        clear ha c0 c1 c2 hb hsz HPr
        by_cases k0 : ki = 0
        · subst k0
          obtain ⟨wa, ewa⟩ : ∃ wa, wr.alloc (.cells #[.int .i64 0, .string nm, .int .u64 vl] 33) = wa := ⟨_, rfl⟩
          rw [ewa] at HPA
          have a0 := cellO (HPA.out.pc (g := wr.heap.size) (List.Mem.head _)) 0 rfl
          have a1 := cellO (HPA.out.pc (g := wr.heap.size) (List.Mem.head _)) 1 rfl
          have a2 := cellO (HPA.out.pc (g := wr.heap.size) (List.Mem.head _)) 2 rfl
          have HPU : Hid _ := nm_put h3 h64 HPA.out (by omega) nm HSZ.out vl
          go_upto_region 24 with (first
            | (have hg := HP4; clear hg; go_at_call 11; refine Calls.mono (nm_rput HPF.out HP4.out (by omega) HSZ.out) ?_; rintro e w5 ⟨rfl, hn5⟩; have HP5 : Hid (Nm w w5 mm p q r (i + 1) [.obj wr.heap.size #[.int .i64 0, .string nm, .int .u64 vl] 33]) := hn5; clear hn5)
            | (go_at_call 10; refine Calls.mono HPU.out ?_; rintro e w4 ⟨b4, F4, G4, rfl, hp4, hn4⟩; have HPF : Hid (PutF F4 nm vl b4 G4) := hp4; have HP4 : Hid (NmP w w4 mm p q r i [.obj wr.heap.size #[.int .i64 0, .string nm, .int .u64 vl] 33] F4 G4) := hn4; have d1 := cellO (hn4.pc (g := wr.heap.size) (List.Mem.head _)) 1 rfl; have d2 := cellO (hn4.pc (g := wr.heap.size) (List.Mem.head _)) 2 rfl; clear hp4 hn4))
          obtain ⟨ln, aoL, capL, hln, hlen, q9⟩ := HP5.out.len
          have HLN : Hid (∀ k, Calls Try.prog 16 #[.pointer (some ⟨p, 0, none⟩)] (w5.drewN k) fun e w' => e = .returned (.int .i64 ((ln : Nat) : Int)) ∧ w' = w5.drewN k) := hlen
          have HDN : Hid (∀ k, Nm w (w5.drewN k) mm p q r (i + 1) []) := fun k => ((HP5.out.drop).up (by omega)).below (drewN_below k)
          clear hlen
          go_quiet ((go_at_call 16; exact Calls.quiet_of_same (HLN.out _)))
          go_wp2_with fail
          go_roundw
          case rel => exact ⟨i + 1, by omega, by omega, by simp, HDN.out _⟩
          case measure => simp [intOf]; omega
        · by_cases k1 : ki = 1
          · subst k1
            clear k0
            obtain ⟨wa, ewa⟩ : ∃ wa, wr.alloc (.cells #[.int .i64 1, .string nm, .int .u64 vl] 33) = wa := ⟨_, rfl⟩
            rw [ewa] at HPA
            have a0 := cellO (HPA.out.pc (g := wr.heap.size) (List.Mem.head _)) 0 rfl
            have a1 := cellO (HPA.out.pc (g := wr.heap.size) (List.Mem.head _)) 1 rfl
            have a2 := cellO (HPA.out.pc (g := wr.heap.size) (List.Mem.head _)) 2 rfl
            obtain ⟨gv, gb, hG1, hG2⟩ := nm_get h64 HPA.out (by omega) nm HSZ.out
            have HG1 : Hid _ := hG1
            have HG2 : Hid _ := hG2
            clear hG1 hG2
            go_upto_region 24 with (first
              | (have hg := HB4; clear hg; go_at_call 13; refine Calls.mono (HG2.out _ HB4.out) ?_; rintro e w5 ⟨rfl, hb5⟩; have HP5 : Hid (Nm w w5 mm p q r i [.obj wr.heap.size #[.int .i64 1, .string nm, .int .u64 vl] 33]) := HP4.out.below hb5; clear hb5)
              | (go_at_call 12; refine Calls.mono (HG1.out _ (Below.refl _ _)) ?_; rintro e w4 ⟨rfl, hb4⟩; have HB4 : Hid (Below wa.heap.size wa w4) := hb4; have HP4 : Hid (Nm w w4 mm p q r i [.obj wr.heap.size #[.int .i64 1, .string nm, .int .u64 vl] 33]) := HPA.out.below hb4; have d1 := cellO (HP4.out.pc (g := wr.heap.size) (List.Mem.head _)) 1 rfl; clear hb4))
            obtain ⟨ln, aoL, capL, hln, hlen, q9⟩ := HP5.out.len
            have HLN : Hid (∀ k, Calls Try.prog 16 #[.pointer (some ⟨p, 0, none⟩)] (w5.drewN k) fun e w' => e = .returned (.int .i64 ((ln : Nat) : Int)) ∧ w' = w5.drewN k) := hlen
            have HDN : Hid (∀ k, Nm w (w5.drewN k) mm p q r (i + 1) []) := fun k => ((HP5.out.drop).up (by omega)).below (drewN_below k)
            clear hlen
            go_quiet ((go_at_call 16; exact Calls.quiet_of_same (HLN.out _)))
            go_wp2_with fail
            go_roundw
            case rel => exact ⟨i + 1, by omega, by omega, by simp, HDN.out _⟩
            case measure => simp [intOf]; omega
          · by_cases k2 : ki = 2
            · subst k2
              clear k0 k1
              obtain ⟨wa, ewa⟩ : ∃ wa, wr.alloc (.cells #[.int .i64 2, .string nm, .int .u64 vl] 33) = wa := ⟨_, rfl⟩
              rw [ewa] at HPA
              have a0 := cellO (HPA.out.pc (g := wr.heap.size) (List.Mem.head _)) 0 rfl
              have a1 := cellO (HPA.out.pc (g := wr.heap.size) (List.Mem.head _)) 1 rfl
              have a2 := cellO (HPA.out.pc (g := wr.heap.size) (List.Mem.head _)) 2 rfl
              obtain ⟨F, hD, hRi⟩ := HPA.out.to
              have HRi : Hid (Rise F) := hRi
              obtain ⟨bd, hbd⟩ : ∃ bd : Bool, (∀ y ∈ F, cmpN y.1 nm ≠ 0) ↔ bd = false := by
                by_cases hh : ∀ y ∈ F, cmpN y.1 nm ≠ 0
                · exact ⟨false, fun _ => rfl, fun _ => hh⟩
                · exact ⟨true, fun h => absurd h hh, fun h => by cases h⟩
              have HBd : Hid ((∀ y ∈ F, cmpN y.1 nm ≠ 0) ↔ bd = false) := hbd
              have HD0 : Hid (NmD w wa.drew mm p q r i [.obj wr.heap.size #[.int .i64 2, .string nm, .int .u64 vl] 33] F F) := hD.below (Below.refl _ _).drew
              clear hD hRi hbd
              go_upto_region 22 with fail
              go_cut [120] (fun t wc => t = .bool false ∧ Hid (Nm w wc mm p q r i [.obj wr.heap.size #[.int .i64 2, .string nm, .int .u64 vl] 33]))
              case first =>
                go_region_law (first
                  | (have hg := HT1; clear hg; refine step_call rfl 15 (enters_of Try.func15 (by kernel_rfl) rfl) #[.tmp 116, .tmp 118] _ rfl _ (by go_simp) (fun v w' => v = .bool bd ∧ NmD w w' mm p q r i [.obj wr.heap.size #[.int .i64 2, .string nm, .int .u64 vl] 33] (drF F nm) (drF F nm)) (Calls.mono (nm_rdrop HT1.out (by omega) nm HSZ.out HBd.out) (by rintro e w' ⟨rfl, h⟩; exact ⟨_, rfl, rfl, h⟩)) ?_; rintro v9 w9 ⟨rfl, h9⟩; have HF9 : Hid (Nm w w9 mm p q r i [.obj wr.heap.size #[.int .i64 2, .string nm, .int .u64 vl] 33]) := Nm.of h9; clear h9)
                  | (have hg := HR1; clear hg; refine step_call rfl 14 (enters_of Try.func14 (by kernel_rfl) rfl) #[.tmp 112, .tmp 114] _ rfl _ (by go_simp) (fun v w' => v = .bool bd ∧ NmD w w' mm p q r i [.obj wr.heap.size #[.int .i64 2, .string nm, .int .u64 vl] 33] (drF F nm) (drF F nm)) (Calls.mono (nm_drop h3 h64 HRi.out HR1.out (by omega) nm HBd.out) (by rintro e w' ⟨rfl, h⟩; exact ⟨_, rfl, rfl, h⟩)) ?_; rintro v9 w9 ⟨rfl, h9⟩; have HF9 : Hid (Nm w w9 mm p q r i [.obj wr.heap.size #[.int .i64 2, .string nm, .int .u64 vl] 33]) := Nm.of h9; clear h9)
                  | (refine step_call rfl 14 (enters_of Try.func14 (by kernel_rfl) rfl) #[.tmp 112, .tmp 114] _ rfl _ (by go_simp) (fun v w' => v = .bool bd ∧ NmD w w' mm p q r i [.obj wr.heap.size #[.int .i64 2, .string nm, .int .u64 vl] 33] (drF F nm) F) (Calls.mono (nm_drop h3 h64 HRi.out HD0.out (by omega) nm HBd.out) (by rintro e w' ⟨rfl, h⟩; exact ⟨_, rfl, rfl, h⟩)) ?_; rintro v8 w8 ⟨rfl, h8⟩; have HT1 : Hid (NmD w w8 mm p q r i [.obj wr.heap.size #[.int .i64 2, .string nm, .int .u64 vl] 33] (drF F nm) F) := h8; have e1 := cellO (h8.pc (g := wr.heap.size) (List.Mem.head _)) 1 rfl; clear h8)
                  | (refine step_call rfl 15 (enters_of Try.func15 (by kernel_rfl) rfl) #[.tmp 116, .tmp 118] _ rfl _ (by go_simp) (fun v w' => v = .bool bd ∧ NmD w w' mm p q r i [.obj wr.heap.size #[.int .i64 2, .string nm, .int .u64 vl] 33] F (drF F nm)) (Calls.mono (nm_rdrop HD0.out (by omega) nm HSZ.out HBd.out) (by rintro e w' ⟨rfl, h⟩; exact ⟨_, rfl, rfl, h⟩)) ?_; rintro v8 w8 ⟨rfl, h8⟩; have HR1 : Hid (NmD w w8 mm p q r i [.obj wr.heap.size #[.int .i64 2, .string nm, .int .u64 vl] 33] F (drF F nm)) := h8; have e1 := cellO (h8.pc (g := wr.heap.size) (List.Mem.head _)) 1 rfl; clear h8))
                all_goals go_wp2_with fail
                all_goals go_meet
                all_goals exact ⟨by simp, HF9.out⟩
              case rest =>
                obtain ⟨rfl, HP5⟩ := hcut
                go_upto_region 24 with fail
                obtain ⟨ln, aoL, capL, hln, hlen, q9⟩ := HP5.out.len
                have HLN : Hid (∀ k, Calls Try.prog 16 #[.pointer (some ⟨p, 0, none⟩)] (wc.drewN k) fun e w' => e = .returned (.int .i64 ((ln : Nat) : Int)) ∧ w' = wc.drewN k) := hlen
                have HDN : Hid (∀ k, Nm w (wc.drewN k) mm p q r (i + 1) []) := fun k => ((HP5.out.drop).up (by omega)).below (drewN_below k)
                clear hlen
                go_quiet ((go_at_call 16; exact Calls.quiet_of_same (HLN.out _)))
                go_wp2_with fail
                go_roundw
                case rel => exact ⟨i + 1, by omega, by omega, by simp, HDN.out _⟩
                case measure => simp [intOf]; omega
            · have k0b : (ki == 0) = false := by simp [k0]
              have k1b : (ki == 1) = false := by simp [k1]
              have k2b : (ki == 2) = false := by simp [k2]
              obtain ⟨wa, ewa⟩ : ∃ wa, wr.alloc (.cells #[.int .i64 ki, .string nm, .int .u64 vl] 33) = wa := ⟨_, rfl⟩
              rw [ewa] at HPA
              have a0 := cellO (HPA.out.pc (g := wr.heap.size) (List.Mem.head _)) 0 rfl
              have a1 := cellO (HPA.out.pc (g := wr.heap.size) (List.Mem.head _)) 1 rfl
              have a2 := cellO (HPA.out.pc (g := wr.heap.size) (List.Mem.head _)) 2 rfl
              go_upto_region 24 with fail
              obtain ⟨ln, aoL, capL, hln, hlen, q9⟩ := HPA.out.len
              have HLN : Hid (∀ k, Calls Try.prog 16 #[.pointer (some ⟨p, 0, none⟩)] (wa.drewN k) fun e w' => e = .returned (.int .i64 ((ln : Nat) : Int)) ∧ w' = wa.drewN k) := hlen
              have HDN : Hid (∀ k, Nm w (wa.drewN k) mm p q r (i + 1) []) := fun k => ((HPA.out.drop).up (by omega)).below (drewN_below k)
              clear hlen
              go_quiet ((go_at_call 16; exact Calls.quiet_of_same (HLN.out _)))
              go_wp2_with fail
              go_roundw
              case rel => exact ⟨i + 1, by omega, by omega, by simp, HDN.out _⟩
              case measure => simp [intOf]; omega
      · have HFI : Hid (¬ (i < n ∧ i < 200)) := hgo
        clear hgo
        obtain ⟨F, hF⟩ := HPr.out.toF hi2
        have HF : Hid (NmF w wr mm p q r [] F) := hF
        clear hF HPr
        go_upto_region 7 with fail
        go_cut [49] (fun t wc => t = .bool false ∧ Hid (wc = wr))
        case first =>
          by_cases hlt : i < n
          · have hili : (i : Int) < (n : Int) := by omega
            have hil2 : ¬ (i : Int) < 200 := by have := HFI.out; omega
            go_wp2_with fail
            go_meet
            exact ⟨by first | rfl | simp, rfl⟩
          · have hili : ¬ (i : Int) < (n : Int) := by omega
            go_wp2_with fail
            go_meet
            exact ⟨by first | rfl | simp, rfl⟩
        case rest =>
          obtain ⟨rfl, hwc⟩ := hcut
          obtain rfl := hwc.out
          clear hwc
          have HKE : Hid _ := nm_keys h3 h64 HF.out
          go_upto_region 27 with (go_at_call 17; refine Calls.mono HKE.out ?_; rintro e w2 ⟨vL, rfl, hn2⟩; obtain ⟨aoL, capL, hvL, _⟩ := hn2.ss (List.Mem.head _); have hvL' : vL = .slice aoL F.length capL := (by rw [hvL, List.length_map]); subst hvL'; have HA : Hid (NmF w w2 mm p q r [rowS (.slice aoL F.length capL) (F.map (fun x : It => x.1))] F) := hn2; clear hn2 hvL)
          clear HKE HF
          obtain ⟨fn, HFN⟩ : ∃ fn, Hid (F.length = fn) := ⟨_, rfl⟩
          have hfn : fn ≤ 200 := by rw [← HFN.out]; exact HA.out.len
          rw [HFN.out] at HA ⊢
          have HAD : Hid (NmF w w2.drew mm p q r [rowS (.slice aoL fn capL) (F.map (fun x : It => x.1))] F) := HA.out.below (Below.refl _ _).drew
          obtain ⟨aoK, capK, hq, hsk⟩ := HAD.out.k
          rw [HFN.out] at hq hsk
          have q2 : w2.cell? ⟨r, 0, none⟩ = some (.slice aoK fn capK) := hq
          have HSK : Hid (Ss w2.drew (.slice aoK fn capK) (F.map (fun x : It => x.1))) := hsk
          have HT1 : Hid _ := texts_any (HAD.out.ss (List.Mem.head _)) HSK.out (by rw [List.length_map, HFN.out]; omega)
          clear hq hsk
          go_cut [160] (fun t wc => t = .bool false ∧ Hid (NmF w wc mm p q r [rowS (.slice aoL fn capL) (F.map (fun x : It => x.1))] F))
          case first =>
            rename_i K2 a4 rt K1 a3 K0 a2 J KK a1 a0
            clear a4 rt a3 a2
            clear hin hi2 h3i h64i HFI
            by_cases hn0 : 0 < n
            · obtain ⟨⟨ki, nm, vl⟩, ha⟩ : ∃ a, Q[0]? = some a := ⟨Q[0]'(by rw [HN.out]; exact hn0), List.getElem?_eq_getElem _⟩
              obtain ⟨hsz, g, o, rfl, _, c1, _⟩ := HC.out 0 _ ha
              have c1a : w.cell? ⟨g, o + 1, none⟩ = some (.string nm) := by simpa using c1
              have HCN : Hid (∀ W, Below w.heap.size w W → W.cell? ⟨g, o + 1, none⟩ = some (.string nm)) := fun W hW => (hW.cell (World.block_lt_of_cell? w _ c1a)).trans c1a
              have HSH : Hid (nm.size ≤ maxLen) := by unfold Hid maxLen; have h9 : nm.size ≤ 281474976710656 := hsz; omega
              have hn0i : (0 : Int) < (n : Int) := by omega
              clear ha c1 hsz c1a
              have e2 : w2.cell? ⟨g, o + 1, none⟩ = some (.string nm) := HCN.out w2 HA.out.bel
              refine wp_region_L (S := fun w' => w'.cell? ⟨g, o + 1, none⟩ = some (.string nm)) 29 (by kernel_rfl) e2 (fun hHeld => ?_)
              refine GoL.takeD (some 131) (i := 0) (v := ?_) rfl rfl (by kernel_rfl) (by kernel_rfl) (by kernel_rfl) (by decide) (fun _ _ _ h => h) (Or.inl ⟨by rfl, ?_⟩) (by assumption) ?_
              rotate_left 1
              · intro w hSw
                (try dsimp only at hSw)
                go_simp
                try with_reducible rfl
              try simp only [Act.put, List.setIfInBounds_toArray, List.set_cons_zero, List.set_cons_succ]
              refine GoL.takeD (some 132) (i := 1) (v := ?_) rfl rfl (by kernel_rfl) (by kernel_rfl) (by kernel_rfl) (by decide) (fun _ _ _ h => h) (Or.inl ⟨by rfl, ?_⟩) (by assumption) ?_
              rotate_left 1
              · intro w hSw
                (try dsimp only at hSw)
                go_simp
                try with_reducible rfl
              try simp only [Act.put, List.setIfInBounds_toArray, List.set_cons_zero, List.set_cons_succ]
              refine GoL.takeD (some 133) (i := 2) (v := ?_) rfl rfl (by kernel_rfl) (by kernel_rfl) (by kernel_rfl) (by decide) (fun _ _ _ h => h) (Or.inl ⟨by rfl, ?_⟩) (by assumption) ?_
              rotate_left 1
              · intro w hSw
                (try dsimp only at hSw)
                go_simp
                try with_reducible rfl
              try simp only [Act.put, List.setIfInBounds_toArray, List.set_cons_zero, List.set_cons_succ]
              refine GoL.takeD (some 134) (i := 3) (v := ?_) rfl rfl (by kernel_rfl) (by kernel_rfl) (by kernel_rfl) (by decide) (fun _ _ _ h => h) (Or.inl ⟨by rfl, ?_⟩) (by assumption) ?_
              rotate_left 1
              · intro w hSw
                (try dsimp only at hSw)
                go_simp
                try with_reducible rfl
              try simp only [Act.put, List.setIfInBounds_toArray, List.set_cons_zero, List.set_cons_succ]
              refine GoL.ready (rs := [4]) (by kernel_rfl) (by simp) (by decide) (AllL.cons rfl (fun K hK => ?_) AllL.nil)
              go_simp
              refine hK.out _ _ e2 (fun hHeld => ?_)
              clear hK K
              refine GoL.ready (rs := [5]) (by kernel_rfl) (by simp) (by decide) (AllL.cons rfl (fun K hK => ?_) AllL.nil)
              refine step_callW rfl 18 (enters_of Try.func18 (by kernel_rfl) rfl) #[.tmp 131, .tmp 135] _ rfl _ (by go_simp) (fun v w' => v = .bool true ∧ Below w2.heap.size w2 w') (Calls.mono HT1.out (by rintro e w' ⟨rfl, hb⟩; exact ⟨_, rfl, rfl, ⟨hb.os, hb.tape, hb.output, hb.size, hb.block⟩⟩)) ?_
              rintro v3 w3 ⟨rfl, hb3⟩
              have HA3 : Hid (NmF w w3 mm p q r [rowS (.slice aoL fn capL) (F.map (fun x : It => x.1))] F) := HA.out.below hb3
              have e3 := HCN.out w3 HA3.out.bel
              clear hb3
              refine hK.out _ _ e3 (fun hHeld => ?_)
              clear hK K
              show GoL _ _ _ _ _ _ _ _ (Act.put _ (some 136) (.bool true)) _
              simp only [Act.put, List.setIfInBounds_toArray, List.set_cons_zero, List.set_cons_succ]
              refine GoL.takeD (some 137) (i := 6) (v := ?_) rfl rfl (by kernel_rfl) (by kernel_rfl) (by kernel_rfl) (by decide) (fun _ _ _ h => h) (Or.inl ⟨by rfl, ?_⟩) (by assumption) ?_
              rotate_left 1
              · intro w hSw
                (try dsimp only at hSw)
                go_simp
                try with_reducible rfl
              try simp only [Act.put, List.setIfInBounds_toArray, List.set_cons_zero, List.set_cons_succ]
              refine GoL.takeD (some 138) (i := 7) (v := ?_) rfl rfl (by kernel_rfl) (by kernel_rfl) (by kernel_rfl) (by decide) (fun _ _ _ h => h) (Or.inl ⟨by rfl, ?_⟩) (by assumption) ?_
              rotate_left 1
              · intro w hSw
                (try dsimp only at hSw)
                go_simp
                try with_reducible rfl
              try simp only [Act.put, List.setIfInBounds_toArray, List.set_cons_zero, List.set_cons_succ]
              refine GoL.takeD (some 139) (i := 8) (v := ?_) rfl rfl (by kernel_rfl) (by kernel_rfl) (by kernel_rfl) (by decide) (fun _ _ _ h => h) (Or.inl ⟨by rfl, ?_⟩) (by assumption) ?_
              rotate_left 1
              · intro w hSw
                (try dsimp only at hSw)
                go_simp
                try with_reducible rfl
              try simp only [Act.put, List.setIfInBounds_toArray, List.set_cons_zero, List.set_cons_succ]
              refine GoL.takeD (some 140) (i := 9) (v := ?_) rfl rfl (by kernel_rfl) (by kernel_rfl) (by kernel_rfl) (by decide) (fun _ _ _ h => h) (Or.inl ⟨by rfl, ?_⟩) (by assumption) ?_
              rotate_left 1
              · intro w hSw
                (try dsimp only at hSw)
                go_simp
                try with_reducible rfl
              try simp only [Act.put, List.setIfInBounds_toArray, List.set_cons_zero, List.set_cons_succ]
              refine GoL.takeD (some 141) (i := 10) (v := ?_) rfl rfl (by kernel_rfl) (by kernel_rfl) (by kernel_rfl) (by decide) (fun _ _ _ h => h) (Or.inl ⟨by rfl, ?_⟩) (by assumption) ?_
              rotate_left 1
              · intro w hSw
                (try dsimp only at hSw)
                go_simp
                try with_reducible rfl
              try simp only [Act.put, List.setIfInBounds_toArray, List.set_cons_zero, List.set_cons_succ]
              refine GoL.takeD (some 142) (i := 11) (v := ?_) rfl rfl (by kernel_rfl) (by kernel_rfl) (by kernel_rfl) (by decide) (fun _ _ _ h => h) (Or.inl ⟨by rfl, ?_⟩) (by assumption) ?_
              rotate_left 1
              · intro w hSw
                (try dsimp only at hSw)
                go_simp
                try with_reducible rfl
              try simp only [Act.put, List.setIfInBounds_toArray, List.set_cons_zero, List.set_cons_succ]
              refine GoL.takeD (some 143) (i := 12) (v := ?_) rfl rfl (by kernel_rfl) (by kernel_rfl) (by kernel_rfl) (by decide) (fun _ _ _ h => h) (Or.inl ⟨by rfl, ?_⟩) (by assumption) ?_
              rotate_left 1
              · intro w hSw
                (try dsimp only at hSw)
                go_simp
                try with_reducible rfl
              try simp only [Act.put, List.setIfInBounds_toArray, List.set_cons_zero, List.set_cons_succ]
              refine GoL.takeD (some 144) (i := 13) (v := ?_) rfl rfl (by kernel_rfl) (by kernel_rfl) (by kernel_rfl) (by decide) (fun _ _ _ h => h) (Or.inl ⟨by rfl, ?_⟩) (by assumption) ?_
              rotate_left 1
              · intro w hSw
                (try dsimp only at hSw)
                go_simp
                try with_reducible rfl
              try simp only [Act.put, List.setIfInBounds_toArray, List.set_cons_zero, List.set_cons_succ]
              refine GoL.takeD (some 145) (i := 14) (v := ?_) rfl rfl (by kernel_rfl) (by kernel_rfl) (by kernel_rfl) (by decide) (fun _ _ _ h => h) (Or.inl ⟨by rfl, ?_⟩) (by assumption) ?_
              rotate_left 1
              · intro w hSw
                (try dsimp only at hSw)
                go_simp
                try with_reducible rfl
              try simp only [Act.put, List.setIfInBounds_toArray, List.set_cons_zero, List.set_cons_succ]
              refine GoL.takeD (some 146) (i := 15) (v := ?_) rfl rfl (by kernel_rfl) (by kernel_rfl) (by kernel_rfl) (by decide) (fun _ _ _ h => h) (Or.inl ⟨by rfl, ?_⟩) (by assumption) ?_
              rotate_left 1
              · intro w hSw
                (try dsimp only at hSw)
                go_simp
                try with_reducible rfl
              try simp only [Act.put, List.setIfInBounds_toArray, List.set_cons_zero, List.set_cons_succ]
              refine GoL.takeD (some 147) (i := 16) (v := ?_) rfl rfl (by kernel_rfl) (by kernel_rfl) (by kernel_rfl) (by decide) (fun _ _ _ h => h) (Or.inl ⟨by rfl, ?_⟩) (by assumption) ?_
              rotate_left 1
              · intro w hSw
                (try dsimp only at hSw)
                go_simp
                try with_reducible rfl
              try simp only [Act.put, List.setIfInBounds_toArray, List.set_cons_zero, List.set_cons_succ]
              refine GoL.takeD (some 148) (i := 17) (v := ?_) rfl rfl (by kernel_rfl) (by kernel_rfl) (by kernel_rfl) (by decide) (fun _ _ _ h => h) (Or.inl ⟨by rfl, ?_⟩) (by assumption) ?_
              rotate_left 1
              · intro w hSw
                (try dsimp only at hSw)
                go_simp
                try with_reducible rfl
              try simp only [Act.put, List.setIfInBounds_toArray, List.set_cons_zero, List.set_cons_succ]
              refine GoL.takeD (some 150) (i := 19) (v := ?_) rfl rfl (by kernel_rfl) (by kernel_rfl) (by kernel_rfl) (by decide) (fun _ _ _ h => h) (Or.inl ⟨by rfl, ?_⟩) (by assumption) ?_
              rotate_left 1
              · intro w hSw
                (try dsimp only at hSw)
                go_simp
                try with_reducible rfl
              try simp only [Act.put, List.setIfInBounds_toArray, List.set_cons_zero, List.set_cons_succ]
              refine GoL.takeD (some 151) (i := 20) (v := ?_) rfl rfl (by kernel_rfl) (by kernel_rfl) (by kernel_rfl) (by decide) (fun _ _ _ h => h) (Or.inl ⟨by rfl, ?_⟩) (by assumption) ?_
              rotate_left 1
              · intro w hSw
                (try dsimp only at hSw)
                go_simp
                try with_reducible rfl
              try simp only [Act.put, List.setIfInBounds_toArray, List.set_cons_zero, List.set_cons_succ]
              refine GoL.takeD (some 152) (i := 21) (v := ?_) rfl rfl (by kernel_rfl) (by kernel_rfl) (by kernel_rfl) (by decide) (fun _ _ _ h => h) (Or.inl ⟨by rfl, ?_⟩) (by assumption) ?_
              rotate_left 1
              · intro w hSw
                (try dsimp only at hSw)
                go_simp
                try with_reducible rfl
              try simp only [Act.put, List.setIfInBounds_toArray, List.set_cons_zero, List.set_cons_succ]
              refine GoL.takeD (some 153) (i := 22) (v := ?_) rfl rfl (by kernel_rfl) (by kernel_rfl) (by kernel_rfl) (by decide) (fun _ _ _ h => h) (Or.inl ⟨by rfl, ?_⟩) (by assumption) ?_
              rotate_left 1
              · intro w hSw
                (try dsimp only at hSw)
                go_simp
                try with_reducible rfl
              try simp only [Act.put, List.setIfInBounds_toArray, List.set_cons_zero, List.set_cons_succ]
              refine GoL.takeD (some 154) (i := 23) (v := ?_) rfl rfl (by kernel_rfl) (by kernel_rfl) (by kernel_rfl) (by decide) (fun _ _ _ h => h) (Or.inl ⟨by rfl, ?_⟩) (by assumption) ?_
              rotate_left 1
              · intro w hSw
                (try dsimp only at hSw)
                go_simp
                try with_reducible rfl
              try simp only [Act.put, List.setIfInBounds_toArray, List.set_cons_zero, List.set_cons_succ]
              refine GoL.takeD (some 155) (i := 24) (v := ?_) rfl rfl (by kernel_rfl) (by kernel_rfl) (by kernel_rfl) (by decide) (fun _ _ _ h => h) (Or.inl ⟨by rfl, ?_⟩) (by assumption) ?_
              rotate_left 1
              · intro w hSw
                (try dsimp only at hSw)
                go_simp
                try with_reducible rfl
              try simp only [Act.put, List.setIfInBounds_toArray, List.set_cons_zero, List.set_cons_succ]
              refine GoL.ready (rs := [18]) (by kernel_rfl) (by simp) (by decide) (AllL.cons rfl (fun K hK => ?_) AllL.nil)
              refine step_callW rfl 19 (enters_of Try.func19 (by kernel_rfl) rfl) #[.tmp 143, .tmp 144, .tmp 148] _ rfl _ (by go_simp) (fun v w' => NmF w w' mm p q r [rowS v ((spanF s2 nm F).map (fun x : It => x.1)), rowS (.slice aoL fn capL) (F.map (fun x : It => x.1))] F) (Calls.mono (nm_span h3 h64 HA3.out s2 nm) (by rintro e w' ⟨v, rfl, h⟩; exact ⟨v, rfl, h⟩)) ?_
              rintro v4 w4 h4
              have HS4 : Hid (NmF w w4 mm p q r [rowS v4 ((spanF s2 nm F).map (fun x : It => x.1)), rowS (.slice aoL fn capL) (F.map (fun x : It => x.1))] F) := h4
              have e4 := HCN.out w4 h4.bel
              clear h4
              refine hK.out _ _ e4 (fun hHeld => ?_)
              clear hK K
              show GoL _ _ _ _ _ _ _ _ (Act.put _ (some 149) v4) _
              simp only [Act.put, List.setIfInBounds_toArray, List.set_cons_zero, List.set_cons_succ]
              refine GoL.ready (rs := [25]) (by kernel_rfl) (by simp) (by decide) (AllL.cons rfl (fun K hK => ?_) AllL.nil)
              refine step_callW rfl 20 (enters_of Try.func20 (by kernel_rfl) rfl) #[.tmp 150, .tmp 151, .tmp 155] _ rfl _ (by go_simp) (fun v w' => NmF w w' mm p q r [rowS v ((spanF s2 nm F).map (fun x : It => x.1)), rowS v4 ((spanF s2 nm F).map (fun x : It => x.1)), rowS (.slice aoL fn capL) (F.map (fun x : It => x.1))] F) (Calls.mono (nm_rspan HS4.out s2 nm w2' HSH.out) (by rintro e w' ⟨v, rfl, h⟩; exact ⟨v, rfl, h⟩)) ?_
              rintro v5 w5 h5
              have H5 : Hid (NmF w w5 mm p q r [rowS v5 ((spanF s2 nm F).map (fun x : It => x.1)), rowS v4 ((spanF s2 nm F).map (fun x : It => x.1)), rowS (.slice aoL fn capL) (F.map (fun x : It => x.1))] F) := h5
              have HSa : Hid (Ss w5 v4 ((spanF s2 nm F).map (fun x : It => x.1))) := h5.ss (by simp)
              have HSb : Hid (Ss w5 v5 ((spanF s2 nm F).map (fun x : It => x.1))) := h5.ss (by simp)
              have e5 := HCN.out w5 h5.bel
              clear h5
              refine hK.out _ _ e5 (fun hHeld => ?_)
              clear hK K
              show GoL _ _ _ _ _ _ _ _ (Act.put _ (some 156) v5) _
              simp only [Act.put, List.setIfInBounds_toArray, List.set_cons_zero, List.set_cons_succ]
              refine GoL.ready (rs := [26]) (by kernel_rfl) (by simp) (by decide) (AllL.cons rfl (fun K hK => ?_) AllL.nil)
              refine step_callW rfl 18 (enters_of Try.func18 (by kernel_rfl) rfl) #[.tmp 149, .tmp 156] _ rfl _ (by go_simp) (fun v w' => v = .bool true ∧ NmF w w' mm p q r [rowS (.slice aoL fn capL) (F.map (fun x : It => x.1))] F) (Calls.mono (texts_any HSa.out HSb.out (by rw [List.length_map]; have h1 := spanF_len s2 nm F; have h2 := HFN.out; omega)) (by rintro e w' ⟨rfl, hb⟩; exact ⟨_, rfl, rfl, (H5.out.sub ((List.sublist_cons_self _ _).trans (List.sublist_cons_self _ _))).below hb⟩)) ?_
              rintro v9 w9 ⟨rfl, h9⟩
              have H9 : Hid (NmF w w9 mm p q r [rowS (.slice aoL fn capL) (F.map (fun x : It => x.1))] F) := h9
              have e9 := HCN.out w9 h9.bel
              clear h9
              refine hK.out _ _ e9 (fun hHeld => ?_)
              clear hK K
              show GoL _ _ _ _ _ _ _ _ (Act.put _ (some 157) (.bool true)) _
              simp only [Act.put, List.setIfInBounds_toArray, List.set_cons_zero, List.set_cons_succ]
              refine GoL.takeD (some 158) (i := 27) (v := ?_) rfl rfl (by kernel_rfl) (by kernel_rfl) (by kernel_rfl) (by decide) (fun _ _ _ h => h) (Or.inl ⟨by rfl, ?_⟩) (by assumption) ?_
              rotate_left 1
              · intro w hSw
                (try dsimp only at hSw)
                go_simp
                try with_reducible rfl
              try simp only [Act.put, List.setIfInBounds_toArray, List.set_cons_zero, List.set_cons_succ]
              refine GoL.takeD (some 159) (i := 28) (v := ?_) rfl rfl (by kernel_rfl) (by kernel_rfl) (by kernel_rfl) (by decide) (fun _ _ _ h => h) (Or.inl ⟨by rfl, ?_⟩) (by assumption) ?_
              rotate_left 1
              · intro w hSw
                (try dsimp only at hSw)
                go_simp
                try with_reducible rfl
              try simp only [Act.put, List.setIfInBounds_toArray, List.set_cons_zero, List.set_cons_succ]
              refine GoL.last (by kernel_rfl) (by kernel_rfl) rfl (fun K hK => ?_)
              go_simp
              refine hK.out _ _ ?_
              all_goals go_wp2_with fail
              all_goals go_meet
              all_goals exact ⟨by first | rfl | simp, H9.out⟩
            · have hn0i : n = 0 := by omega
              subst hn0i
              clear hn0 z1
              refine wp_region_L (S := fun w' => w'.cell? ⟨r, 0, none⟩ = some (.slice aoK fn capK)) 29 (by kernel_rfl) q2 (fun hHeld => ?_)
              refine GoL.takeD (some 131) (i := 0) (v := ?_) rfl rfl (by kernel_rfl) (by kernel_rfl) (by kernel_rfl) (by decide) (fun _ _ _ h => h) (Or.inl ⟨by rfl, ?_⟩) (by assumption) ?_
              rotate_left 1
              · intro w hSw
                (try dsimp only at hSw)
                go_simp
                try with_reducible rfl
              try simp only [Act.put, List.setIfInBounds_toArray, List.set_cons_zero, List.set_cons_succ]
              refine GoL.takeD (some 132) (i := 1) (v := ?_) rfl rfl (by kernel_rfl) (by kernel_rfl) (by kernel_rfl) (by decide) (fun _ _ _ h => h) (Or.inl ⟨by rfl, ?_⟩) (by assumption) ?_
              rotate_left 1
              · intro w hSw
                (try dsimp only at hSw)
                go_simp
                try with_reducible rfl
              try simp only [Act.put, List.setIfInBounds_toArray, List.set_cons_zero, List.set_cons_succ]
              refine GoL.takeD (some 133) (i := 2) (v := ?_) rfl rfl (by kernel_rfl) (by kernel_rfl) (by kernel_rfl) (by decide) (fun _ _ _ h => h) (Or.inl ⟨by rfl, ?_⟩) (by assumption) ?_
              rotate_left 1
              · intro w hSw
                (try dsimp only at hSw)
                go_simp
                try with_reducible rfl
              try simp only [Act.put, List.setIfInBounds_toArray, List.set_cons_zero, List.set_cons_succ]
              refine GoL.takeD (some 134) (i := 3) (v := ?_) rfl rfl (by kernel_rfl) (by kernel_rfl) (by kernel_rfl) (by decide) (fun _ _ _ h => h) (Or.inl ⟨by rfl, ?_⟩) (by assumption) ?_
              rotate_left 1
              · intro w hSw
                (try dsimp only at hSw)
                go_simp
                try with_reducible rfl
              try simp only [Act.put, List.setIfInBounds_toArray, List.set_cons_zero, List.set_cons_succ]
              refine GoL.takeD (some 135) (i := 4) (v := ?_) rfl rfl (by kernel_rfl) (by kernel_rfl) (by kernel_rfl) (by decide) (fun _ _ _ h => h) (Or.inl ⟨by rfl, ?_⟩) (by assumption) ?_
              rotate_left 1
              · intro w hSw
                (try dsimp only at hSw)
                go_simp
                try with_reducible rfl
              try simp only [Act.put, List.setIfInBounds_toArray, List.set_cons_zero, List.set_cons_succ]
              refine GoL.ready (rs := [5]) (by kernel_rfl) (by simp) (by decide) (AllL.cons rfl (fun K hK => ?_) AllL.nil)
              refine step_callW rfl 18 (enters_of Try.func18 (by kernel_rfl) rfl) #[.tmp 131, .tmp 135] _ rfl _ (by go_simp) (fun v w' => v = .bool true ∧ Below w2.heap.size w2 w') (Calls.mono HT1.out (by rintro e w' ⟨rfl, hb⟩; exact ⟨_, rfl, rfl, ⟨hb.os, hb.tape, hb.output, hb.size, hb.block⟩⟩)) ?_
              rintro v3 w3 ⟨rfl, hb3⟩
              have HA3 : Hid (NmF w w3 mm p q r [rowS (.slice aoL fn capL) (F.map (fun x : It => x.1))] F) := HA.out.below hb3
              have q3 := (hb3.cell (World.block_lt_of_cell? w2 _ q2)).trans q2
              clear hb3
              refine hK.out _ _ q3 (fun hHeld => ?_)
              clear hK K
              show GoL _ _ _ _ _ _ _ _ (Act.put _ (some 136) (.bool true)) _
              simp only [Act.put, List.setIfInBounds_toArray, List.set_cons_zero, List.set_cons_succ]
              refine GoL.takeD (some 137) (i := 6) (v := ?_) rfl rfl (by kernel_rfl) (by kernel_rfl) (by kernel_rfl) (by decide) (fun _ _ _ h => h) (Or.inl ⟨by rfl, ?_⟩) (by assumption) ?_
              rotate_left 1
              · intro w hSw
                (try dsimp only at hSw)
                go_simp
                try with_reducible rfl
              try simp only [Act.put, List.setIfInBounds_toArray, List.set_cons_zero, List.set_cons_succ]
              refine GoL.takeD (some 138) (i := 7) (v := ?_) rfl rfl (by kernel_rfl) (by kernel_rfl) (by kernel_rfl) (by decide) (fun _ _ _ h => h) (Or.inl ⟨by rfl, ?_⟩) (by assumption) ?_
              rotate_left 1
              · intro w hSw
                (try dsimp only at hSw)
                go_simp
                try with_reducible rfl
              try simp only [Act.put, List.setIfInBounds_toArray, List.set_cons_zero, List.set_cons_succ]
              refine GoL.takeD (some 139) (i := 8) (v := ?_) rfl rfl (by kernel_rfl) (by kernel_rfl) (by kernel_rfl) (by decide) (fun _ _ _ h => h) (Or.inl ⟨by rfl, ?_⟩) (by assumption) ?_
              rotate_left 1
              · intro w hSw
                (try dsimp only at hSw)
                go_simp
                try with_reducible rfl
              try simp only [Act.put, List.setIfInBounds_toArray, List.set_cons_zero, List.set_cons_succ]
              refine GoL.takeD (some 140) (i := 9) (v := ?_) rfl rfl (by kernel_rfl) (by kernel_rfl) (by kernel_rfl) (by decide) (fun _ _ _ h => h) (Or.inl ⟨by rfl, ?_⟩) (by assumption) ?_
              rotate_left 1
              · intro w hSw
                (try dsimp only at hSw)
                go_simp
                try with_reducible rfl
              try simp only [Act.put, List.setIfInBounds_toArray, List.set_cons_zero, List.set_cons_succ]
              refine GoL.takeD (some 141) (i := 10) (v := ?_) rfl rfl (by kernel_rfl) (by kernel_rfl) (by kernel_rfl) (by decide) (fun _ _ _ h => h) (Or.inl ⟨by rfl, ?_⟩) (by assumption) ?_
              rotate_left 1
              · intro w hSw
                (try dsimp only at hSw)
                go_simp
                try with_reducible rfl
              try simp only [Act.put, List.setIfInBounds_toArray, List.set_cons_zero, List.set_cons_succ]
              refine GoL.takeD (some 142) (i := 11) (v := ?_) rfl rfl (by kernel_rfl) (by kernel_rfl) (by kernel_rfl) (by decide) (fun _ _ _ h => h) (Or.inl ⟨by rfl, ?_⟩) (by assumption) ?_
              rotate_left 1
              · intro w hSw
                (try dsimp only at hSw)
                go_simp
                try with_reducible rfl
              try simp only [Act.put, List.setIfInBounds_toArray, List.set_cons_zero, List.set_cons_succ]
              refine GoL.takeD (some 143) (i := 12) (v := undef) rfl rfl (by kernel_rfl) (by kernel_rfl) (by kernel_rfl) (by decide) (fun _ _ _ h => h) (Or.inr ⟨by rfl, rfl⟩) (by assumption) ?_
              try simp only [Act.put, List.setIfInBounds_toArray, List.set_cons_zero, List.set_cons_succ]
              refine GoL.takeD (some 144) (i := 13) (v := undef) rfl rfl (by kernel_rfl) (by kernel_rfl) (by kernel_rfl) (by decide) (fun _ _ _ h => h) (Or.inr ⟨by rfl, rfl⟩) (by assumption) ?_
              try simp only [Act.put, List.setIfInBounds_toArray, List.set_cons_zero, List.set_cons_succ]
              refine GoL.takeD (some 145) (i := 14) (v := undef) rfl rfl (by kernel_rfl) (by kernel_rfl) (by kernel_rfl) (by decide) (fun _ _ _ h => h) (Or.inr ⟨by rfl, rfl⟩) (by assumption) ?_
              try simp only [Act.put, List.setIfInBounds_toArray, List.set_cons_zero, List.set_cons_succ]
              refine GoL.takeD (some 146) (i := 15) (v := undef) rfl rfl (by kernel_rfl) (by kernel_rfl) (by kernel_rfl) (by decide) (fun _ _ _ h => h) (Or.inr ⟨by rfl, rfl⟩) (by assumption) ?_
              try simp only [Act.put, List.setIfInBounds_toArray, List.set_cons_zero, List.set_cons_succ]
              refine GoL.takeD (some 147) (i := 16) (v := undef) rfl rfl (by kernel_rfl) (by kernel_rfl) (by kernel_rfl) (by decide) (fun _ _ _ h => h) (Or.inr ⟨by rfl, rfl⟩) (by assumption) ?_
              try simp only [Act.put, List.setIfInBounds_toArray, List.set_cons_zero, List.set_cons_succ]
              refine GoL.takeD (some 148) (i := 17) (v := undef) rfl rfl (by kernel_rfl) (by kernel_rfl) (by kernel_rfl) (by decide) (fun _ _ _ h => h) (Or.inr ⟨by rfl, rfl⟩) (by assumption) ?_
              try simp only [Act.put, List.setIfInBounds_toArray, List.set_cons_zero, List.set_cons_succ]
              refine GoL.takeD (some 149) (i := 18) (v := undef) rfl rfl (by kernel_rfl) (by kernel_rfl) (by kernel_rfl) (by decide) (fun _ _ _ h => h) (Or.inr ⟨by rfl, rfl⟩) (by assumption) ?_
              try simp only [Act.put, List.setIfInBounds_toArray, List.set_cons_zero, List.set_cons_succ]
              refine GoL.takeD (some 150) (i := 19) (v := undef) rfl rfl (by kernel_rfl) (by kernel_rfl) (by kernel_rfl) (by decide) (fun _ _ _ h => h) (Or.inr ⟨by rfl, rfl⟩) (by assumption) ?_
              try simp only [Act.put, List.setIfInBounds_toArray, List.set_cons_zero, List.set_cons_succ]
              refine GoL.takeD (some 151) (i := 20) (v := undef) rfl rfl (by kernel_rfl) (by kernel_rfl) (by kernel_rfl) (by decide) (fun _ _ _ h => h) (Or.inr ⟨by rfl, rfl⟩) (by assumption) ?_
              try simp only [Act.put, List.setIfInBounds_toArray, List.set_cons_zero, List.set_cons_succ]
              refine GoL.takeD (some 152) (i := 21) (v := undef) rfl rfl (by kernel_rfl) (by kernel_rfl) (by kernel_rfl) (by decide) (fun _ _ _ h => h) (Or.inr ⟨by rfl, rfl⟩) (by assumption) ?_
              try simp only [Act.put, List.setIfInBounds_toArray, List.set_cons_zero, List.set_cons_succ]
              refine GoL.takeD (some 153) (i := 22) (v := undef) rfl rfl (by kernel_rfl) (by kernel_rfl) (by kernel_rfl) (by decide) (fun _ _ _ h => h) (Or.inr ⟨by rfl, rfl⟩) (by assumption) ?_
              try simp only [Act.put, List.setIfInBounds_toArray, List.set_cons_zero, List.set_cons_succ]
              refine GoL.takeD (some 154) (i := 23) (v := undef) rfl rfl (by kernel_rfl) (by kernel_rfl) (by kernel_rfl) (by decide) (fun _ _ _ h => h) (Or.inr ⟨by rfl, rfl⟩) (by assumption) ?_
              try simp only [Act.put, List.setIfInBounds_toArray, List.set_cons_zero, List.set_cons_succ]
              refine GoL.takeD (some 155) (i := 24) (v := undef) rfl rfl (by kernel_rfl) (by kernel_rfl) (by kernel_rfl) (by decide) (fun _ _ _ h => h) (Or.inr ⟨by rfl, rfl⟩) (by assumption) ?_
              try simp only [Act.put, List.setIfInBounds_toArray, List.set_cons_zero, List.set_cons_succ]
              refine GoL.takeD (some 156) (i := 25) (v := undef) rfl rfl (by kernel_rfl) (by kernel_rfl) (by kernel_rfl) (by decide) (fun _ _ _ h => h) (Or.inr ⟨by rfl, rfl⟩) (by assumption) ?_
              try simp only [Act.put, List.setIfInBounds_toArray, List.set_cons_zero, List.set_cons_succ]
              refine GoL.takeD (some 157) (i := 26) (v := undef) rfl rfl (by kernel_rfl) (by kernel_rfl) (by kernel_rfl) (by decide) (fun _ _ _ h => h) (Or.inr ⟨by rfl, rfl⟩) (by assumption) ?_
              try simp only [Act.put, List.setIfInBounds_toArray, List.set_cons_zero, List.set_cons_succ]
              refine GoL.takeD (some 158) (i := 27) (v := undef) rfl rfl (by kernel_rfl) (by kernel_rfl) (by kernel_rfl) (by decide) (fun _ _ _ h => h) (Or.inr ⟨by rfl, rfl⟩) (by assumption) ?_
              try simp only [Act.put, List.setIfInBounds_toArray, List.set_cons_zero, List.set_cons_succ]
              refine GoL.takeD (some 159) (i := 28) (v := ?_) rfl rfl (by kernel_rfl) (by kernel_rfl) (by kernel_rfl) (by decide) (fun _ _ _ h => h) (Or.inl ⟨by rfl, ?_⟩) (by assumption) ?_
              rotate_left 1
              · intro w hSw
                (try dsimp only at hSw)
                go_simp
                try with_reducible rfl
              try simp only [Act.put, List.setIfInBounds_toArray, List.set_cons_zero, List.set_cons_succ]
              refine GoL.last (by kernel_rfl) (by kernel_rfl) rfl (fun K hK => ?_)
              go_simp
              refine hK.out _ _ ?_
              all_goals go_wp2_with fail
              all_goals go_meet
              all_goals exact ⟨by first | rfl | simp, HA3.out⟩
          case rest =>
            obtain ⟨rfl, HB0⟩ := hcut
            clear HT1 HSK HAD HA q2
            go_wp2_with fail
            go_loopw [20] (fun x wr' => ∃ i : Nat, i ≤ fn ∧ x = .int .i64 (i : Int) ∧ Hid (∃ K : List ByteArray, K.length = fn ∧ NmF w wr' mm p q r [rowS (.slice aoL fn capL) K] F)) (fun x _ => fn - (intOf x).toNat)
            case atStart => exact ⟨0, Nat.zero_le _, rfl, ⟨F.map (fun x : It => x.1), by rw [List.length_map, HFN.out], HB0.out⟩⟩
            case round =>
              obtain ⟨j, hj, rfl, HKJ⟩ := hrel
              clear HB0
              by_cases hjl : j < fn
              · obtain ⟨K, hK, hN⟩ := HKJ.out
                obtain ⟨g2, hg2⟩ : ∃ g2, aoL = some ⟨g2, 0, none⟩ := by
                  obtain ⟨ao9, cap9, e9, hc9⟩ := hN.ss (List.Mem.head _)
                  obtain ⟨g9, o9, h9, _⟩ := hc9 0 K[0] (List.getElem?_eq_getElem (by omega))
                  injection e9 with e9a _ _
                  exact NmF.at0 hN (by omega)
                subst hg2
                obtain ⟨u1, u2⟩ := hN.cell (i := j) (by omega)
                have HNX : Hid (NmF w (wr.setCell ⟨g2, j, none⟩ (.string ⟨#[115, 112, 111, 105, 108, 116]⟩)) mm p q r [rowS (.slice (some ⟨g2, 0, none⟩) fn capL) (K.set j ⟨#[115, 112, 111, 105, 108, 116]⟩)] F) := hN.spoil hK _
                have HKL : Hid ((K.set j (⟨#[115, 112, 111, 105, 108, 116]⟩ : ByteArray)).length = fn) := by unfold Hid; rw [List.length_set]; exact hK
                have hji : (j : Int) < (fn : Int) := by omega
                clear hN HKJ
                go_wp2_with fail
                go_roundw
                case rel => exact ⟨j + 1, by omega, by simp, ⟨_, HKL.out, HNX.out⟩⟩
                case measure => simp [intOf]; omega
              · have hji : ¬ (j : Int) < (fn : Int) := by omega
                obtain ⟨K, hK, hN⟩ := HKJ.out
                have HN0 : Hid (NmF w wr.drew mm p q r [] F) := (hN.sub (List.nil_sublist _)).below (Below.refl _ _).drew
                obtain ⟨aoN, capN, qN, hKE⟩ := nm_keysK h3 h64 HN0.out
                rw [HFN.out] at qN hKE
                have HKE : Hid _ := hKE
                clear hN hK HKJ hKE
                go_upto_region 33 with fail
                go_region_held_law (fun w' => w'.cell? ⟨r, 0, none⟩ = some (.slice aoN fn capN)) (first | assumption | go_keep) (first
                  | (have hg := HB6; clear hg; refine step_callW rfl 9 (enters_of Try.func9 (by kernel_rfl) rfl) #[] _ rfl _ (by go_simp) (fun v w' => v = .bool true ∧ Below w.heap.size w w' ∧ w'.cell? ⟨r, 0, none⟩ = some (.slice aoN fn capN)) (Calls.mono (lives7_any _) (by rintro e w' ⟨rfl, hb⟩; exact ⟨_, rfl, rfl, HB6.out.trans (hb.mono HB6.out.size), (hb.cell (World.block_lt_of_cell? _ _ q6)).trans q6⟩)) ?_; rintro v7 w7 ⟨rfl, h7, q7⟩; have HB7 : Hid (Below w.heap.size w w7) := h7; clear h7)
                  | (have hg := HK5; clear hg; refine step_callW rfl 18 (enters_of Try.func18 (by kernel_rfl) rfl) #[.tmp 171, .tmp 175] _ rfl _ (by go_simp) (fun v w' => v = .bool true ∧ Below w.heap.size w w' ∧ w'.cell? ⟨r, 0, none⟩ = some (.slice aoN fn capN)) (Calls.mono (texts_any (HK5.out.ss (List.Mem.head _)) HSK5.out (by rw [List.length_map, HFN.out]; omega)) (by rintro e w' ⟨rfl, hb⟩; exact ⟨_, rfl, rfl, HK5.out.bel.trans (hb.mono HK5.out.bel.size), (hb.cell (World.block_lt_of_cell? _ _ q5)).trans q5⟩)) ?_; rintro v6 w6 ⟨rfl, h6, q6⟩; have HB6 : Hid (Below w.heap.size w w6) := h6; clear h6)
                  | (refine step_callW rfl 17 (enters_of Try.func17 (by kernel_rfl) rfl) #[.tmp 170] _ rfl _ (by go_simp) (fun v w' => NmF w w' mm p q r [rowS v (F.map (fun x : It => x.1))] F ∧ w'.cell? ⟨r, 0, none⟩ = some (.slice aoN fn capN) ∧ Ss w' (.slice aoN fn capN) (F.map (fun x : It => x.1))) (Calls.mono HKE.out (by rintro e w' ⟨v, rfl, h, g1, g2⟩; exact ⟨v, rfl, h, g1, g2⟩)) ?_; rintro v5 w5 ⟨h5, q5, hs5⟩; have HK5 : Hid (NmF w w5 mm p q r [rowS v5 (F.map (fun x : It => x.1))] F) := h5; have HSK5 : Hid (Ss w5 (.slice aoN fn capN) (F.map (fun x : It => x.1))) := hs5; clear h5 hs5))
                all_goals go_wp2_with fail
                all_goals (go_ret; exact ⟨by first | rfl | simp, HB7.out⟩)
end Go.Proofs.Ytelfjgnmbikofaa
