/-
  The walk of the law's own 'alike': a heap and the document's that have the same things. Conditions: the table of check stands; lengths are such as memory bears.
-/
import Derived.Test.YtpkbdpbggmiolaaDoorHRef4
import Derived.Test.YtpkbdpbggmiolaaDoorPlace
namespace Go.Proofs.YtpkbdpbggmiolaaDoor
open Go.RowKit Go.Maps
set_option linter.unusedVariables false
set_option maxRecDepth 100000

theorem ids_one {T : Int → Option (List Int)} {L M : List Int} (h1 : Ids T L) (h2 : Ids T M) : L = M := by
  refine List.Perm.eq_of_pairwise (le := fun a b => a ≤ b) (fun a b _ _ h3 h4 => Int.le_antisymm h3 h4) (h1.rise.imp (fun h => Int.le_of_lt h)) (h2.rise.imp (fun h => Int.le_of_lt h)) ?_
  exact (List.perm_ext_iff_of_nodup h1.nodup h2.nodup).2 (fun a => by rw [h1.mem, h2.mem])
theorem tS_ids (S : List SV) : Ids (tS S) (idsN (tS S) S.length) := idsN_ids (fun i b h => tS_bd h)
theorem nxt_last {S : List SV} (h : LastOk S) : nxt (idsN (tS S) S.length) (idsN (tS S) S.length).length = (S.length : Int) := by
  have hI := tS_ids S
  obtain ⟨L, hL⟩ : ∃ L, idsN (tS S) S.length = L := ⟨_, rfl⟩
  rw [hL] at hI ⊢
  cases hn : S.length with
  | zero =>
    have : L = [] := by rw [← hL, hn]; rfl
    subst this; rfl
  | succ j =>
    obtain ⟨s, hs⟩ : ∃ s, S[j]? = some s := ⟨S[j]'(by omega), List.getElem?_eq_getElem _⟩
    have hso := h s (by rw [List.getLast?_eq_getElem?, hn]; exact hs)
    have hm : (j : Int) ∈ L := (hI.mem _).2 (by rw [tS_nat, hs]; exact hso)
    obtain ⟨a, ha, hae⟩ := List.getElem_of_mem hm
    have hae' : L.getD a 0 = (j : Int) := by rw [List.getD, List.getElem?_eq_getElem ha]; exact hae
    have hlast : L.getD (L.length - 1) 0 = (j : Int) := by
      by_cases e : a = L.length - 1
      · rw [← e]; exact hae'
      · have h1 := getD_lt hI.rise (show a < L.length - 1 by omega) (by omega)
        have h2 := getD_mem (show L.length - 1 < L.length by omega)
        obtain ⟨b, hb⟩ := Option.isSome_iff_exists.1 ((hI.mem _).1 h2)
        have h3 := tS_bd hb
        rw [hn] at h3
        omega
    cases hl : L.length with
    | zero => omega
    | succ k => rw [hl] at hlast; show L.getD k 0 + 1 = _; rw [show k = k + 1 - 1 by omega, hlast]; omega
theorem bytes_alike {S : List SV} (h : LastOk S) {L : List Int} (hL : Ids (tS S) L) : heapB (tS S) L = sealN (plainR S) := by
  obtain rfl := ids_one hL (tS_ids S)
  unfold heapB
  congr 1
  rw [plainH, encK_encN hL (fun i hi => by obtain ⟨b, hb⟩ := Option.isSome_iff_exists.1 ((hL.mem i).1 hi); exact (tS_bd hb).1) _ (Nat.le_refl _), nxt_last h, Int.toNat_natCast]
  rfl

set_option maxHeartbeats 8000000 in
theorem alike6_any {w : World} {B p m c low N B' p' : Nat} {D : DataW Value} {vL : Value} {S : List SV} (hp : HP w B p m c low N (tS S) D) (hr : RH w B' p' vL S) (hl : LastOk S) (hc : c ≤ 65536) (hN : N < 4294967296) (hn : S.length ≤ 1048576) (ht : Tab w) :
    Calls Tryd.prog 15 #[.pointer (some ⟨p, 0, none⟩), .pointer (some ⟨p', 0, none⟩)] w fun e w' => e = .returned (.bool true) ∧ Below w.heap.size w w' := by
  have HP0 : Hid (HP w B p m c low N (tS S) D) := hp
  have HR0 : Hid (RH w B' p' vL S) := hr
  have HT0 : Hid (Tab w) := ht
  have HI : Hid (Ids (tS S) (idsN (tS S) S.length)) := tS_ids S
  have hcnt : (idsN (tS S) S.length).length = c := HI.out.count hp.mp
  have HBA : Hid (heapB (tS S) (idsN (tS S) S.length) = sealN (plainR S)) := bytes_alike hl HI.out
  obtain ⟨L, HL⟩ : ∃ L, Hid (idsN (tS S) S.length = L) := ⟨_, rfl⟩
  have HCI : Hid _ := hids_any hp hc (idsN (tS S) S.length) HI.out
  have HRI : Hid (∀ w', Below w.heap.size w w' → Calls Tryd.prog 33 #[.pointer (some ⟨p', 0, none⟩)] w' fun e w'' => ∃ v, e = .returned v ∧ w''.ownsRow w'.heap.size 3 1 v L.length (L.map encZ) ∧ Below w'.heap.size w' w'') := fun w' hb => by
    have := refIds_any (HR0.out.below hb) (by omega)
    rw [HL.out] at this
    exact this
  rw [HL.out] at HCI HI HBA hcnt
  have HQ : Hid (L.length = c) := hcnt
  rw [hcnt] at HCI HRI
  obtain ⟨X, HX⟩ : ∃ X, Hid (sealN (plainR S) = X) := ⟨_, rfl⟩
  rw [HX.out] at HBA
  have HBY : Hid (∀ w', Below w.heap.size w w' → (Calls Tryd.prog 14 #[.pointer (some ⟨p, 0, none⟩)] w' fun e w2 => ∃ ao z cap, e = .returned (.slice ao z cap) ∧ (∀ w3, Below w2.heap.size w2 w3 → Sem.run Tryd.prog (convert 29 9 (.slice ao z cap)) w3 = .ok (.string (strOfNums X)) w3) ∧ Below w.heap.size w w2 ∧ Below w'.heap.size w' w2 ∧ Below w2.heap.size w2 w2) ∧ (Calls Tryd.prog 34 #[.pointer (some ⟨p', 0, none⟩)] w' fun e w2 => ∃ ao z cap, e = .returned (.slice ao z cap) ∧ (∀ w3, Below w2.heap.size w2 w3 → Sem.run Tryd.prog (convert 29 9 (.slice ao z cap)) w3 = .ok (.string (strOfNums X)) w3) ∧ Below w.heap.size w w2 ∧ Below w'.heap.size w' w2 ∧ Below w2.heap.size w2 w2)) := fun w' hw => by
    refine ⟨(hbytes_any (HP0.out.below hw) hc hN L HI.out (HT0.out.below hw)).mono ?_, (refBytes6_any (HR0.out.below hw) hn).mono ?_⟩
    · rintro e w2 ⟨g, rfl, _, hr, hb⟩
      rw [HBA.out] at hr ⊢
      exact ⟨_, _, _, rfl, fun w3 h3 => (hr.whole.below h3).str Tryd.underlying29 Tryd.underlying5 Tryd.underlying9, hw.trans (hb.mono hw.size), hb, Below.refl _ _⟩
    · rintro e w2 ⟨x, rfl, ho, hb⟩
      rw [HX.out] at ho
      obtain ⟨ao, cap, rfl, _⟩ := ho.opened
      exact ⟨ao, _, cap, rfl, fun w3 h3 => (ho.bs.below h3).str Tryd.underlying29 Tryd.underlying5 Tryd.underlying9, hw.trans (hb.mono hw.size), hb, Below.refl _ _⟩
  have HLE : Hid (∀ w', Below w.heap.size w w' → Calls Tryd.prog 19 #[.pointer (some ⟨p, 0, none⟩)] w' fun e w2 => e = .returned (.int .i64 (c : Int)) ∧ w2 = w') := fun w' hw => hlen_any (HP0.out.below hw)
  have HG : Hid (∀ (i : Nat), i < c → ∃ b, b.length ≤ 65536 ∧ (∀ w', Below w.heap.size w w' → Calls Tryd.prog 9 #[.pointer (some ⟨p, 0, none⟩), .int .i64 (L.getD i 0)] w' fun e w2 => ∃ ao cap, e = .returned (.tuple #[.slice ao b.length cap, .int .i64 0]) ∧ Own w2 w'.heap.size (.slice ao b.length cap) b ∧ Below w'.heap.size w' w2) ∧ ∀ w3, Below w.heap.size w w3 → Calls Tryd.prog 10 #[.pointer (some ⟨p', 0, none⟩), .int .i64 (L.getD i 0)] w3 fun e w2 => ∃ ao cap, e = .returned (.tuple #[.slice ao b.length cap, .int .i64 0]) ∧ Own w2 w3.heap.size (.slice ao b.length cap) b ∧ Below w3.heap.size w3 w2) := fun i hi => by
    obtain ⟨b, hb⟩ := Option.isSome_iff_exists.1 ((HI.out.mem _).1 (getD_mem (show i < L.length by rw [HQ.out]; exact hi)))
    have hbd := tS_bd hb
    exact ⟨b, (HR0.out.bytT _ _ hb).2, fun w' hw => hget_some (HP0.out.below hw) _ (by omega) (by omega) b hb, fun w3 hw3 => refGet6_some (HR0.out.below hw3) (by omega) _ b hb⟩
  clear hp hr ht hcnt hN hn
  go_enter Tryd.func15, Tryd.ntmps15
  go_upto_region 3 with (first
    | (go_at_call 27; refine Calls.mono HCI.out ?_; rintro e w1 ⟨v1, rfl, ho1, hb1⟩; obtain ⟨al, cl, rfl⟩ : ∃ al cl, v1 = .slice al c cl := (by rcases ownsRow_shape ho1 with ⟨rfl, h0⟩ | ⟨g, cap, rfl, _⟩; exact ⟨none, 0, by rw [h0]⟩; exact ⟨_, _, rfl⟩); have HO1 : Hid (w1.ownsRow w.heap.size 3 1 (.slice al c cl) c (L.map encZ)) := ho1; have HB1 : Hid (Below w.heap.size w w1) := hb1; clear ho1 hb1)
    | (go_at_call 33; refine (HRI.out _ HB1.out).mono ?_; rintro e w2 ⟨v2, rfl, ho2, hb2⟩; obtain ⟨am, cm, rfl⟩ : ∃ am cm, v2 = .slice am c cm := (by rcases ownsRow_shape ho2 with ⟨rfl, h0⟩ | ⟨g, cap, rfl, _⟩; exact ⟨none, 0, by rw [h0]⟩; exact ⟨_, _, rfl⟩); have HO2 : Hid (w2.ownsRow w1.heap.size 3 1 (.slice am c cm) c (L.map encZ)) := ho2; have HB2 : Hid (Below w.heap.size w w2) := HB1.out.trans (hb2.mono HB1.out.size); have HO1' : Hid (w2.ownsRow w.heap.size 3 1 (.slice al c cl) c (L.map encZ)) := ownsRow_below HO1.out hb2; have HAL : Hid (∀ g, (Value.slice al c cl).ownBlock = some g → g < w1.heap.size) := fun g hg => (World.ownsRow.lt HO1.out g hg).2; clear ho2 hb2 HCI HRI))
  go_cut [37] (fun t wc => t = .bool false ∧ Hid (Below w.heap.size w wc) ∧ Hid (Below w2.heap.size w2 wc))
  case first =>
    have HBY2 : Hid (∀ w', Below w2.heap.size w2 w' → (Calls Tryd.prog 14 #[.pointer (some ⟨p, 0, none⟩)] w' fun e w3 => ∃ ao z cap, e = .returned (.slice ao z cap) ∧ (∀ w4, Below w3.heap.size w3 w4 → Sem.run Tryd.prog (convert 29 9 (.slice ao z cap)) w4 = .ok (.string (strOfNums X)) w4) ∧ Below w2.heap.size w2 w3 ∧ Below w'.heap.size w' w3 ∧ Below w3.heap.size w3 w3) ∧ (Calls Tryd.prog 34 #[.pointer (some ⟨p', 0, none⟩)] w' fun e w3 => ∃ ao z cap, e = .returned (.slice ao z cap) ∧ (∀ w4, Below w3.heap.size w3 w4 → Sem.run Tryd.prog (convert 29 9 (.slice ao z cap)) w4 = .ok (.string (strOfNums X)) w4) ∧ Below w2.heap.size w2 w3 ∧ Below w'.heap.size w' w3 ∧ Below w3.heap.size w3 w3)) := fun w' hw => by
      have h := HBY.out w' (HB2.out.trans (hw.mono HB2.out.size))
      exact ⟨h.1.mono (fun e w3 ⟨ao, z, cap, h1, h2, h3, h4, h5⟩ => ⟨ao, z, cap, h1, h2, hw.trans (h4.mono hw.size), h4, h5⟩), h.2.mono (fun e w3 ⟨ao, z, cap, h1, h2, h3, h4, h5⟩ => ⟨ao, z, cap, h1, h2, hw.trans (h4.mono hw.size), h4, h5⟩)⟩
    have HLE2 : Hid (∀ w', Below w2.heap.size w2 w' → Calls Tryd.prog 19 #[.pointer (some ⟨p, 0, none⟩)] w' fun e w2 => e = .returned (.int .i64 (c : Int)) ∧ w2 = w') := fun w' hw => HLE.out w' (HB2.out.trans (hw.mono HB2.out.size))
    have hrr : Below w2.heap.size w2 w2.drew := (Below.refl _ _).drew
    have HB2c : Hid (∀ w', Below w2.heap.size w2 w' → Below w.heap.size w w') := fun w' hw => HB2.out.trans (hw.mono HB2.out.size)
    rename_i K1 a3 K0 a2 J K2 a1 a0
    clear a3 a2 HBY HLE HG
    go_region_held (fun w' => Below w2.heap.size w2 w') (assumption) (first | (go_at_call 19; refine (HLE2.out _ (by assumption)).mono ?_; rintro e w6 ⟨rfl, rfl⟩) | (go_at_call 14; refine (HBY2.out _ (by assumption)).1.mono ?_; rintro e w7 ⟨ao7, z7, cap7, rfl, hs7, hd7, hp7, hz7⟩) | (go_at_call 34; refine (HBY2.out _ (by assumption)).2.mono ?_; rintro e w8 ⟨ao8, z8, cap8, rfl, hs8, hd8, hp8, hz8⟩))
    all_goals (go_wp2_with fail; go_meet; exact ⟨rfl, HB2c.out _ (by assumption), (by assumption)⟩)
  case rest =>
    obtain ⟨rfl, HB3, HB3'⟩ := hcut
    have HO3 : Hid (wc.ownsRow w.heap.size 3 1 (.slice al c cl) c (L.map encZ)) := ownsRow_below HO1'.out HB3'.out
    have HM3 : Hid (wc.ownsRow w1.heap.size 3 1 (.slice am c cm) c (L.map encZ)) := ownsRow_below HO2.out HB3'.out
    clear HBY HLE HO1 HO2 HO1' HB1 HB2 HB3'
    go_wp2_with fail
    go_loopw [7] (fun x wr => ∃ (i : Nat) (xs : List Value), i ≤ c ∧ x = .int .i64 (i : Int) ∧ Hid (∀ j, i ≤ j → j < c → xs[j]? = some (.int .i64 (L.getD j 0))) ∧ Hid (wr.ownsRow w.heap.size 3 1 (.slice al c cl) c xs) ∧ Hid (wr.ownsRow w1.heap.size 3 1 (.slice am c cm) c (L.map encZ)) ∧ Hid (Below w.heap.size w wr)) (fun x _ => c - (intOf x).toNat)
    case atStart =>
      refine ⟨0, L.map encZ, Nat.zero_le _, by simp, fun j _ hj => ?_, HO3.out, HM3.out, HB3.out⟩
      rw [List.getElem?_map, List.getElem?_eq_getElem (by rw [HQ.out]; exact hj), List.getD, List.getElem?_eq_getElem (by rw [HQ.out]; exact hj)]; rfl
    case round =>
      obtain ⟨i, xs, hi, rfl, HXS, HO, HM, HB⟩ := hrel
      by_cases hlt : i < c
      · obtain ⟨gl, e1, hgl, hfl, hcl⟩ : ∃ gl, al = some ⟨gl, 0, none⟩ ∧ gl < w1.heap.size ∧ wr.frozen? ⟨gl, i, none⟩ = false ∧ wr.cell? ⟨gl, i, none⟩ = some (.int .i64 (L.getD i 0)) := by
          rcases ownsRow_shape HO.out with ⟨e, h0⟩ | ⟨g, cap, e, _, _, _, _, hf, hcc⟩
          · omega
          · injection e with e1 _ e3
            subst e1
            exact ⟨g, rfl, HAL.out g rfl, hf i, hcc _ _ (HXS.out i (Nat.le_refl _) hlt)⟩
        obtain ⟨gm, e2, hgm, hcm, hcmc⟩ : ∃ gm, am = some ⟨gm, 0, none⟩ ∧ w1.heap.size ≤ gm ∧ wr.cell? ⟨gm, i, none⟩ = some (.int .i64 (L.getD i 0)) ∧ c ≤ cm := by
          rcases ownsRow_shape HM.out with ⟨e, h0⟩ | ⟨g, cap, e, hB, _, hle, _, hf, hcc⟩
          · omega
          · injection e with e1 _ e3
            subst e1; subst e3
            refine ⟨g, rfl, hB, hcc _ _ ?_, hle⟩
            rw [List.getElem?_map, List.getElem?_eq_getElem (by rw [HQ.out]; exact hlt), List.getD, List.getElem?_eq_getElem (by rw [HQ.out]; exact hlt)]; rfl
        have hclc : c ≤ cl := by
          rcases ownsRow_shape HO.out with ⟨e, h0⟩ | ⟨g, cap, e, _, _, hle, _⟩
          · omega
          · injection e with _ _ e3; omega
        subst e1; subst e2
        obtain ⟨b, hbl, hg1, hg2⟩ := HG.out i hlt
        obtain ⟨y, HY⟩ : ∃ y, Hid (L.getD i 0 = y) := ⟨_, rfl⟩
        rw [HY.out] at hcl hcm hg1 hg2
        have HG1 : Hid _ := hg1
        have HG2 : Hid _ := hg2
        clear hg1 hg2
        obtain ⟨n, HN⟩ : ∃ n, Hid (b.length = n) := ⟨_, rfl⟩
        rw [HN.out] at HG1 HG2 hbl
        have HGL : Hid (gl < wr.heap.size) := World.block_lt_of_cell? wr _ hcl
        go_wp2_with fail
        go_quiet (fail)
        have HBd : Hid (Below wr.heap.size wr (wr.drewN nq)) := below_drewN _ _
        generalize wr.drewN nq = wd at HBd ⊢
        have HBD : Hid (Below w.heap.size w wd) := HB.out.trans (HBd.out.mono HB.out.size)
        have HOD : Hid (wd.ownsRow w.heap.size 3 1 (.slice (some ⟨gl, 0, none⟩) c cl) c xs) := ownsRow_below HO.out HBd.out
        have HMD : Hid (wd.ownsRow w1.heap.size 3 1 (.slice (some ⟨gm, 0, none⟩) c cm) c (L.map encZ)) := ownsRow_below HM.out HBd.out
        have hcld := cell_later HBd.out hcl
        have hcmd := cell_later HBd.out hcm
        have HFD : Hid (wd.frozen? ⟨gl, i, none⟩ = false) := (World.frozen?_of_block (w := wr) (a := ⟨gl, i, none⟩) (HBd.out.block gl HGL.out)).trans hfl
        have HGD : Hid (gl < wd.heap.size) := Nat.lt_of_lt_of_le HGL.out HBd.out.size
        clear HO HM HB HBd hcl hcm hfl HGL
        go_wp2_with fail
        refine (HG1.out _ HBD.out).mono ?_
        rintro e w7 ⟨ax, cx, rfl, ho7, hb7⟩
        have HO7 : Hid (Own w7 wd.heap.size (.slice ax n cx) b) := ho7
        have HB7 : Hid (Below wd.heap.size wd w7) := hb7
        have hcm7 := cell_later hb7 hcmd
        clear ho7 hb7 hcmd
        go_wp2_with fail
        refine (HG2.out _ (HBD.out.trans (HB7.out.mono HBD.out.size))).mono ?_
        rintro e w8 ⟨az, cz, rfl, ho8, hb8⟩
        have hs8 := Bs.str (P := Tryd.prog) ho8.bs Tryd.underlying29 Tryd.underlying5 Tryd.underlying9
        have hs7 := Bs.str (P := Tryd.prog) (HO7.out.bs.below hb8) Tryd.underlying29 Tryd.underlying5 Tryd.underlying9
        have HO8 : Hid (Own w8 wd.heap.size (.slice ax n cx) b) := HO7.out.below hb8
        have HB8 : Hid (Below wd.heap.size wd w8) := HB7.out.trans (hb8.mono HB7.out.size)
        clear ho8 hb8 hcm7 HO7 HB7 HG1 HG2 HG
        go_wp2_with fail
        clear hs7 hs8
        go_loopw [12] (fun y wr => ∃ (k : Nat) (M : List Int), k ≤ n ∧ y = .int .i64 (k : Int) ∧ Hid (Own wr wd.heap.size (.slice ax n cx) M) ∧ Hid (M.length = n) ∧ Hid (Below wd.heap.size wd wr)) (fun y _ => n - (intOf y).toNat)
        case atStart => exact ⟨0, b, Nat.zero_le _, by simp, HO8.out, HN.out, HB8.out⟩
        case round =>
          obtain ⟨k, M, hk, rfl, HOM, HML, HBM⟩ := hrel
          by_cases hkn : k < n
          · obtain ⟨gx, e4, hgx⟩ : ∃ gx, ax = some ⟨gx, 0, none⟩ ∧ wd.heap.size ≤ gx := by
              obtain ⟨ao', cap', e5, _, h5⟩ := HOM.out.opened
              injection e5 with e6
              obtain ⟨g5, e7, h7, _⟩ := h5 (by rw [HML.out]; omega)
              exact ⟨g5, by rw [e6, e7], h7⟩
            subst e4
            obtain ⟨hc1, hf1⟩ := HOM.out.cell HML.out k hkn
            have hcx : n ≤ cx := by obtain ⟨ao', cap', e5, h6, _⟩ := HOM.out.opened; injection e5 with _ _ e8; rw [HML.out] at h6; omega
            have HGX : Hid (wd.heap.size ≤ gx) := hgx
            clear hgx
            go_wp2_with fail
            go_roundw
            case rel => exact ⟨k + 1, M.set k _, hkn, by simp, (HOM.out.stored HML.out k _).1, by unfold Hid; rw [List.length_set]; exact HML.out, HBM.out.setCell HGX.out _⟩
            case measure => simp [intOf]; omega
          · obtain rfl : k = n := by omega
            have hc2 := cell_later HBM.out hcld
            have hf2 : wr.frozen? ⟨gl, i, none⟩ = false := (World.frozen?_of_block (w := wd) (a := ⟨gl, i, none⟩) (HBM.out.block gl HGD.out)).trans HFD.out
            clear hcld
            go_wp2_with fail
            go_roundw
            case rel =>
              refine ⟨i + 1, xs.set i (.int .i64 (-1)), hlt, by simp, fun j hj1 hj2 => ?_, ownsRow_setCell (ownsRow_below HOD.out HBM.out) i _, ?_, ?_⟩
              · rw [List.getElem?_set_ne (by omega)]; exact HXS.out j (by omega) hj2
              · exact ownsRow_kp (ownsRow_below HMD.out HBM.out) ((Kp.refl (fun x => x = gl) wr).setCell (a := ⟨gl, i, none⟩) _ (fun _ => rfl)) (fun g' hg' e => by
                  have : gm = g' := by simpa [Value.ownBlock] using hg'
                  omega)
              · have hbx : Below w.heap.size w wr := HBD.out.trans (HBM.out.mono HBD.out.size)
                exact hbx.setCell (World.ownsRow.lt HOD.out gl rfl).1 _
            case measure => simp [intOf]; omega
      · obtain rfl : i = c := by omega
        go_wp2_with fail
        go_ret
        exact ⟨rfl, HB.out⟩
end Go.Proofs.YtpkbdpbggmiolaaDoor
