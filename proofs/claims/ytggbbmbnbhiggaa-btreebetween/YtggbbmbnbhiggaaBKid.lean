/-
  The law's children: the places of a node's children. Conditions: levels and numbers are small.
-/
import Derived.Test.YtggbbmbnbhiggaaBKidM
import Derived.BigQuiet
namespace Go.Proofs.Ytggbbmbnbhiggaa
open Go.RowKit
set_option linter.unusedVariables false
set_option maxRecDepth 100000

def encK (n : Nat) : List Value := [.int .i64 (n : Int)]
theorem encK_len (n : Nat) : (encK n).length = 1 := rfl
theorem Try.infoK : (Try.prog.info? 3).map (fun i => (i.zero, i.size, i.bytes)) = some (some (.int .i64 0), 1, 8) := by kernel_rfl
set_option maxHeartbeats 4000000 in
theorem kids_any {w : World} {ao : Option Addr} {cap : Nat} {es : List En} (hE : ∀ (i : Nat) (e : En), es[i]? = some e → ∃ g, ao = some ⟨g, 0, none⟩ ∧ w.cell? ⟨g, i * 3, none⟩ = some (.int .i64 e.1)) (hn : es.length ≤ 100000) (hlv : ∀ (i : Nat) (e : En), es[i]? = some e → 0 ≤ e.1 ∧ e.1 ≤ 100000) {i : Nat} {e : En} (he : es[i]? = some e) {cs : List Nat} (hcs : kidsF e.1 (i + 1) ((es.map (fun e => e.1)).drop (i + 1)) = cs) :
    Calls Try.prog 27 #[.slice ao es.length cap, .int .i64 (i : Int)] w fun x w' => ∃ v, x = .returned v ∧ w'.ownsRow w.heap.size 3 1 v cs.length (gc encK cs) ∧ Below w.heap.size w w' := by
  obtain ⟨i1, hi1, hy0, hy1, hy2⟩ := info_partsG Try.infoK
  have HE : Hid _ := hE
  have HLV : Hid _ := hlv
  obtain ⟨n, HN⟩ : ∃ n, Hid (es.length = n) := ⟨_, rfl⟩
  obtain ⟨g, rfl, x0⟩ := HE.out i e he
  obtain ⟨l0, l1⟩ := HLV.out i e he
  have hin : i < n := by rw [← HN.out]; exact (List.getElem?_eq_some_iff.1 he).1
  obtain ⟨lv, HL⟩ : ∃ lv, Hid (e.1 = lv) := ⟨_, rfl⟩
  have HCS : Hid (kidsF lv (i + 1) ((es.map (fun e => e.1)).drop (i + 1)) = cs) := by unfold Hid; rw [← HL.out]; exact hcs
  rw [HL.out] at l0 l1 x0
  rw [HN.out] at hn ⊢
  have HX0 : Hid (w.cell? ⟨g, i * 3, none⟩ = some (.int .i64 lv)) := x0
  have HR0 : Hid (w.ownsRow w.heap.size 3 1 (.slice none 0 0) 0 []) := ⟨rfl, .inl ⟨rfl, rfl⟩⟩
  have hini : (i : Int) < (n : Int) := by omega
  clear hE hlv hcs he x0
  go_enter Try.func27, Try.ntmps27
  go_wp2_with fail
  go_loopw [6, 5] (fun x y wr => ∃ (k : Nat) (os : List Nat) (aoY : Option Addr) (m capY : Nat), i + 1 ≤ k ∧ k ≤ n ∧ m ≤ k ∧ x = .int .i64 (k : Int) ∧ y = .slice aoY m capY ∧ Hid (os.length = m) ∧ Hid (os ++ kidsF lv k ((es.map (fun e => e.1)).drop k) = cs) ∧ Hid (wr.ownsRow w.heap.size 3 1 (.slice aoY m capY) m (gc encK os)) ∧ Hid (Below w.heap.size w wr)) (fun x _ _ => n - (intOf x).toNat)
  case atStart => exact ⟨i + 1, [], none, 0, 0, Nat.le_refl _, hin, Nat.zero_le _, by simp, rfl, rfl, HCS.out, HR0.out, Below.refl _ _⟩
  case round =>
    obtain ⟨k, os, aoY, m, capY, hik, hkn, hmk, rfl, rfl, HOL, HOS, HRr, HBr⟩ := hrel
    have y0 : wr.cell? ⟨g, i * 3, none⟩ = some (.int .i64 lv) := (HBr.out.cell (World.block_lt_of_cell? w _ HX0.out)).trans HX0.out
    have HDR : Hid (∀ nq, Below w.heap.size w (wr.drewN nq)) := fun nq => HBr.out.trans ⟨rfl, rfl, rfl, Nat.le_refl _, fun _ _ => rfl⟩
    by_cases hlt : k < n
    · obtain ⟨e', he'⟩ : ∃ e, es[k]? = some e := ⟨es[k]'(by rw [HN.out]; exact hlt), List.getElem?_eq_getElem _⟩
      obtain ⟨g', hg', z0⟩ := HE.out k e' he'
      cases hg'
      obtain ⟨m0, m1⟩ := HLV.out k e' he'
      obtain ⟨lw, HLw⟩ : ∃ lw, Hid (e'.1 = lw) := ⟨_, rfl⟩
      have HDP : Hid ((es.map (fun e => e.1)).drop k = lw :: (es.map (fun e => e.1)).drop (k + 1)) := by
        unfold Hid
        rw [List.drop_eq_getElem_cons (by rw [List.length_map, HN.out]; exact hlt), List.getElem_map]
        obtain ⟨_, h9⟩ := List.getElem?_eq_some_iff.1 he'
        rw [h9, HLw.out]
      rw [HLw.out] at m0 m1 z0
      have z1 : wr.cell? ⟨g, k * 3, none⟩ = some (.int .i64 lw) := (HBr.out.cell (World.block_lt_of_cell? w _ z0)).trans z0
      have HZ0 : Hid (w.cell? ⟨g, k * 3, none⟩ = some (.int .i64 lw)) := z0
      have hkni : (k : Int) < (n : Int) := by omega
      clear he' z0
      by_cases hd : lv < lw
      · go_upto_region 3 with fail
        go_cut [25] (fun t wc => t = .bool true ∧ Hid (Below wr.heap.size wr wc))
        case first =>
          go_quiet (fail)
          go_wp2_with fail
          go_meet
          exact ⟨rfl, ⟨rfl, rfl, rfl, Nat.le_refl _, fun _ _ => rfl⟩⟩
        case rest =>
          obtain ⟨rfl, HBc⟩ := hcut
          clear y0 z1
          have y0 : wc.cell? ⟨g, i * 3, none⟩ = some (.int .i64 lv) := ((HBr.out.trans (HBc.out.mono HBr.out.size)).cell (World.block_lt_of_cell? w _ HX0.out)).trans HX0.out
          have z1 : wc.cell? ⟨g, k * 3, none⟩ = some (.int .i64 lw) := ((HBr.out.trans (HBc.out.mono HBr.out.size)).cell (World.block_lt_of_cell? w _ HZ0.out)).trans HZ0.out
          go_upto_region 5 with fail
          obtain ⟨b, hb⟩ : ∃ b, decide (lw = lv + 1) = b := ⟨_, rfl⟩
          have hb2 : (lw == lv + 1) = b := hb
          go_cut [39] (fun t wd => t = .bool b ∧ Hid (Below wr.heap.size wr wd))
          case first =>
            have HX : Hid (∀ nq, Below wr.heap.size wr (wc.drewN nq)) := fun nq => HBc.out.trans ⟨rfl, rfl, rfl, Nat.le_refl _, fun _ _ => rfl⟩
            go_quiet (fail)
            go_wp2_with fail
            go_meet
            exact ⟨by simp, HX.out _⟩
          case rest =>
            obtain ⟨rfl, HBd⟩ := hcut
            clear y0 z1 HBc HDR
            have HBD : Hid (Below w.heap.size w wc) := HBr.out.trans (HBd.out.mono HBr.out.size)
            have HRd : Hid (wc.ownsRow w.heap.size 3 1 (.slice aoY m capY) m (gc encK os)) := ownsRow_below HRr.out HBd.out
            have hk1 : k + 1 ≤ n := hlt
            cases hbb : b with
            | true =>
              subst hbb
              have hlw : lw = lv + 1 := of_decide_eq_true hb
              have HOS2 : Hid ((os ++ [k]) ++ kidsF lv (k + 1) ((es.map (fun e => e.1)).drop (k + 1)) = cs) := by
                unfold Hid
                rw [← HOS.out, HDP.out]
                show _ = os ++ (if lv < lw then (if lw = lv + 1 then k :: kidsF lv (k + 1) _ else kidsF lv (k + 1) _) else [])
                rw [if_pos hd, if_pos hlw, List.append_assoc]
                rfl
              have HWB : Hid (Below wc.heap.size wc (wc.alloc (.cells #[.int .i64 (k : Int)] 3))) := (Below.refl _ _).alloc (Nat.le_refl _) _
              have HBX : Hid ((wc.alloc (.cells #[.int .i64 (k : Int)] 3)).heap[wc.heap.size]? = some (.cells #[.int .i64 (k : Int)] 3 (0, 0))) := heap_alloc_new wc _
              have HRA : Hid ((wc.alloc (.cells #[.int .i64 (k : Int)] 3)).ownsRow w.heap.size 3 1 (.slice aoY m capY) m (gc encK os)) := ownsRow_below HRd.out HWB.out
              have HBA : Hid (Below w.heap.size w (wc.alloc (.cells #[.int .i64 (k : Int)] 3))) := HBD.out.trans (HWB.out.mono HBD.out.size)
              have HON : Hid (∀ u ∈ encK k, u.oneCell' = true) := by intro u hu; simp [encK] at hu; rw [hu]; rfl
              clear hb hb2 hlw
              go_wp2_with (at_builtin; refine wpList_append_G _ rfl (.tmp 40) (.tmp 42) 47 rfl 3 i1 Try.underlying47 hi1 _ hy0 1 8 hy1 hy2 rfl (by omega) w.heap.size (.slice aoY m capY) m (gc encK os) ⟨wc.heap.size, 0, none⟩ 1 1 (encK k) rfl rfl HRA.out rfl (news_one HBX.out) HON.out (by omega) (by omega) (by omega) HBA.out.size ?_; intro g3 cap3 w3 ho3 hg3 ha3; have HO3 : Hid (w3.ownsRow w.heap.size 3 1 (.slice (some ⟨g3, 0, none⟩) (m + 1) cap3) (m + 1) (gc encK os ++ encK k)) := ho3; have HB3 : Hid (Below w.heap.size w w3) := below_gr HBA.out HBA.out.size HRA.out hg3; clear ho3 hg3 ha3)
              go_roundw
              case rel =>
                refine ⟨k + 1, os ++ [k], some ⟨g3, 0, none⟩, m + 1, cap3, by omega, hk1, by omega, by simp, rfl, ?_, HOS2.out, ?_, HB3.out⟩
                · unfold Hid; rw [List.length_append, HOL.out]; rfl
                · unfold Hid; rw [gc_append, gc_one]; exact HO3.out
              case measure => simp [intOf]; omega
            | false =>
              subst hbb
              have hlw : ¬ lw = lv + 1 := of_decide_eq_false hb
              have HOS2 : Hid (os ++ kidsF lv (k + 1) ((es.map (fun e => e.1)).drop (k + 1)) = cs) := by
                unfold Hid
                rw [← HOS.out, HDP.out]
                show _ = os ++ (if lv < lw then (if lw = lv + 1 then k :: kidsF lv (k + 1) _ else kidsF lv (k + 1) _) else [])
                rw [if_pos hd, if_neg hlw]
              clear hb hb2 hlw
              go_wp2_with fail
              go_roundw
              case rel => exact ⟨k + 1, os, aoY, m, capY, by omega, hk1, by omega, by simp, rfl, HOL.out, HOS2.out, HRd.out, HBD.out⟩
              case measure => simp [intOf]; omega
      · have HOS2 : Hid (os = cs) := by
          unfold Hid
          rw [← HOS.out, HDP.out]
          show _ = os ++ (if lv < lw then (if lw = lv + 1 then k :: kidsF lv (k + 1) _ else kidsF lv (k + 1) _) else [])
          rw [if_neg hd, List.append_nil]
        have HRB : Hid (∀ nq, (wr.drewN nq).ownsRow w.heap.size 3 1 (.slice aoY m capY) m (gc encK os)) := fun nq => ownsRow_below HRr.out ⟨rfl, rfl, rfl, Nat.le_refl _, fun _ _ => rfl⟩
        go_upto_region 3 with fail
        go_quiet (fail)
        go_wp2_with fail
        go_ret
        refine ⟨_, rfl, ?_, HDR.out _⟩
        rw [← HOS2.out, HOL.out]
        exact HRB.out _
    · obtain rfl : k = n := by omega
      have HOS2 : Hid (os = cs) := by
        unfold Hid
        rw [← HOS.out, List.drop_eq_nil_of_le (by rw [List.length_map, HN.out]; exact Nat.le_refl _)]
        show _ = os ++ []
        rw [List.append_nil]
      have HRB : Hid (∀ nq, (wr.drewN nq).ownsRow w.heap.size 3 1 (.slice aoY m capY) m (gc encK os)) := fun nq => ownsRow_below HRr.out ⟨rfl, rfl, rfl, Nat.le_refl _, fun _ _ => rfl⟩
      have hkk : ¬ (k : Int) < (k : Int) := by omega
      go_upto_region 3 with fail
      go_quiet (fail)
      go_wp2_with fail
      go_ret
      refine ⟨_, rfl, ?_, HDR.out _⟩
      rw [← HOS2.out, HOL.out]
      exact HRB.out _
end Go.Proofs.Ytggbbmbnbhiggaa
