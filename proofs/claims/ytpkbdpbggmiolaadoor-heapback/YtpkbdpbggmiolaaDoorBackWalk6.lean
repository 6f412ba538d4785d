/-
  The walk of the law HeapBack. Conditions: the table of check stands.
-/
import Derived.Test.YtpkbdpbggmiolaaDoorHTwo
import Derived.Test.YtpkbdpbggmiolaaDoorHFill2
import Derived.Deep.RegionHeld
namespace Go.Proofs.YtpkbdpbggmiolaaDoor
open Go.RowKit Go.Maps
set_option linter.unusedVariables false
set_option maxRecDepth 100000

set_option maxHeartbeats 8000000 in
theorem heapBack_walk (v : Value) (ls : List (List Int)) (vd : Value) (ds : List Int) (vm : Value) (ms : List (List Int)) (W : World) (hT : Tab W) (hR : Rws W v ls) (hn1 : ls.length ≤ 140737488351232) (hZ : Zs W vd ds) (hdb : ∀ x ∈ ds, -9223372036854775808 ≤ x ∧ x ≤ 9223372036854775807) (hn2 : ds.length ≤ 140737488351232) (hM : Rws W vm ms) (hn3 : ms.length ≤ 140737488351232) :
    Calls Tryd.prog 5 #[v, vd, vm] W fun e W' => e = .returned (.bool true) ∧ Below W.heap.size W W' := by
  have HT : Hid (Tab W) := hT
  have HR : Hid (Rws W v ls) := hR
  have HZ : Hid (Zs W vd ds) := hZ
  have HDB : Hid (∀ x ∈ ds, -9223372036854775808 ≤ x ∧ x ≤ 9223372036854775807) := hdb
  obtain ⟨n, HN⟩ : ∃ n, Hid (ls.length = n) := ⟨_, rfl⟩
  obtain ⟨q, HQ⟩ : ∃ q, Hid (ds.length = q) := ⟨_, rfl⟩
  obtain ⟨r, HRR⟩ : ∃ r, Hid (ms.length = r) := ⟨_, rfl⟩
  obtain ⟨ao, cap, rfl, hcap, hx1⟩ := hR
  obtain ⟨aod, capd, rfl, hcapd, hx2⟩ := hZ
  clear hx1 hx2
  obtain ⟨aom, capm, rfl, hcapm, hcellm⟩ := hM
  rw [HN.out] at hcap hn1 HR ⊢
  rw [HQ.out] at hcapd hn2 HZ ⊢
  rw [HRR.out] at hcapm hn3 hcellm ⊢
  have HCM : Hid (∀ i, i < r → ∃ b off u, aom = some ⟨b, off, none⟩ ∧ W.cell? ⟨b, off + i, none⟩ = some u ∧ Bs W u (ms.getD i []) ∧ Byt (ms.getD i [])) := hcellm
  have HLV : Hid (∀ w, Below W.heap.size W w → Calls Tryd.prog 16 #[] w fun e w' => e = .returned (.bool true) ∧ Below W.heap.size W w') := fun w hw => (lives6_any w (HT.out.below hw)).mono (fun e w' ⟨h1, h2⟩ => ⟨h1, hw.trans (h2.mono hw.size)⟩)
  clear hcellm hT hdb
  by_cases h100 : 100 < (n : Int) + (r : Int)
  · have h1' : decide (100 < (n : Int) + (r : Int)) = true := by simpa using h100
    go_enter Tryd.func5, Tryd.ntmps5
    go_wp2_with (go_at_call 16; refine (HLV.out _ (Below.refl _ _)).mono ?_; rintro e w3 ⟨rfl, hb3⟩)
    go_ret
    exact ⟨rfl, by assumption⟩
  · have h1' : decide (100 < (n : Int) + (r : Int)) = false := by simpa using h100
    have hnr : n + r ≤ 100 := by omega
    have HF : Hid _ := filled_any (.slice ao n cap) (.slice aod q capd) ls ds W HR.out HZ.out (by rw [HN.out]; omega) (by rw [HQ.out]; exact hn2) HDB.out
    obtain ⟨T, HTT⟩ : ∃ T, Hid (dropT (tbl (okL ls)) ds = T) := ⟨_, rfl⟩
    obtain ⟨K, HK⟩ : ∃ K, Hid ((okL ls).length = K) := ⟨_, rfl⟩
    have hKn : K ≤ n := by have := okL_len ls; rw [HK.out, HN.out] at this; exact this
    rw [HTT.out, HK.out] at HF
    obtain ⟨S, HS⟩ : ∃ S, Hid (heapB T (idsN T K) = S) := ⟨_, rfl⟩
    obtain ⟨sn, HSN⟩ : ∃ sn, Hid (S.length = sn) := ⟨_, rfl⟩
    clear hn1 hn2 hn3
    go_enter Tryd.func5, Tryd.ntmps5
    go_wp2_with (first
      | (go_at_call 18; refine Calls.mono HF.out ?_; rintro e w3 ⟨c3, low3, D3, rfl, hc3, hp3, hb3⟩; have HP3 : Hid (HP w3 W.heap.size (W.heap.size + 1) W.heap.size c3 low3 K T D3) := hp3; have HB3 : Hid (Below W.heap.size W w3) := hb3; clear hp3 hb3)
      | (go_at_call 14; refine (hbytes_any HP3.out (by omega) (by omega) (idsN T K) (idsN_ids HP3.out.bd) (HT.out.below HB3.out)).mono ?_; rintro e w4 ⟨g4, rfl, hg4, hr4, hb4⟩; have hw4 := hr4.whole; rw [HS.out, HSN.out] at hw4 ⊢; have HS4 : Hid (Bs w4 (.slice (some ⟨g4, 0, none⟩) sn sn) (heapB T (idsN T K))) := (by rw [HS.out]; exact hw4); have HP4 : Hid (HP w4 W.heap.size (W.heap.size + 1) W.heap.size c3 low3 K T D3) := HP3.out.below hb4; have HB4 : Hid (Below W.heap.size W w4) := HB3.out.trans (hb4.mono HB3.out.size); clear hr4 hb4 hg4 hw4)
      | (go_at_call 13; refine (two_load HP4.out HB4.out (HT.out.below HB4.out) (by omega) (by omega) _ HS4.out).mono ?_; rintro e w5 ⟨p5, m5, rfl, ht5, hb5⟩; have HW5 : Hid (Two W w5 (W.heap.size + 1) W.heap.size p5 m5 c3 c3 K K T T) := ht5; have HB5 : Hid (Below W.heap.size W w5) := hb5; clear ht5 hb5)
      | (go_at_call 19; obtain ⟨B6, B6', l6, l6', D6, D6', h6, h6', _⟩ := HW5.out.ex; first | (refine (hlen_any h6').mono ?_; rintro e w6 ⟨rfl, hw6⟩; obtain rfl := hw6.symm; clear h6 h6') | (refine (hlen_any h6).mono ?_; rintro e w6 ⟨rfl, hw6⟩; obtain rfl := hw6.symm; clear h6 h6')))
    obtain ⟨p, Hp⟩ : ∃ p, Hid (W.heap.size + 1 = p) := ⟨_, rfl⟩
    obtain ⟨m, Hm⟩ : ∃ m, Hid (W.heap.size = m) := ⟨_, rfl⟩
    rw [Hp.out] at HW5 ⊢
    have HW5b : Hid (Two W w5 p m p5 m5 c3 c3 K K T T) := by rw [← Hm.out]; exact HW5.out
    clear HF HP3 HP4 HS4 HW5
    go_loopw [10] (fun x wr => ∃ (k c K' : Nat) (T' : Int → Option (List Int)), k ≤ r ∧ x = .int .i64 (k : Int) ∧ Hid (c ≤ n + k ∧ K' ≤ n + k) ∧ Hid (Two W wr p m p5 m5 c c K' K' T' T') ∧ Hid (Below W.heap.size W wr)) (fun x _ => r - (intOf x).toNat)
    case atStart => exact ⟨0, c3, K, T, Nat.zero_le _, by simp, ⟨by omega, by omega⟩, HW5b.out, HB5.out⟩
    case round =>
      obtain ⟨k, c, K', T', hk, rfl, HC, HW, HB⟩ := hrel
      by_cases hlt : k < r
      · obtain ⟨g, off, u, rfl, hc0, hbs, hby⟩ := HCM.out k hlt
        have hc1 : wr.cell? ⟨g, off + k, none⟩ = some u := (HB.out.cell (World.block_lt_of_cell? W _ hc0)).trans hc0
        have HBU : Hid (Bs W u (ms.getD k [])) := hbs
        have HBY : Hid (Byt (ms.getD k [])) := hby
        have HCU : Hid (W.cell? ⟨g, off + k, none⟩ = some u) := hc0
        have HA : Hid _ := two_add HW.out HB.out u (ms.getD k []) (hbs.below HB.out) hby (by have := HC.out; omega) (by have := HC.out; omega)
        clear hc0 hbs hby
        go_wp2_with (first
          | (go_at_call 7; refine Calls.mono HA.out ?_; rintro e w7 ⟨x7, er7, T7, c7, rfl, ha7, hc7, ht7, hb7⟩; have HA7 : Hid (AddR T' (ms.getD k []) x7 er7 c T7 c7) := ha7; have HC7 : Hid (c7 ≤ c + 1) := hc7; have HW7 : Hid (Two W w7 p m p5 m5 c7 c (K' + 1) K' T7 T') := ht7; have HB7 : Hid (Below W.heap.size W w7) := hb7; have hcw7 : w7.cell? ⟨g, off + k, none⟩ = some u := (hb7.cell (World.block_lt_of_cell? W _ HCU.out)).trans HCU.out; clear ha7 hc7 ht7 hb7 HA)
          | (go_at_call 7; refine (two_add HW7.out.swap HB7.out u (ms.getD k []) (HBU.out.below HB7.out) HBY.out (by have := HC.out; omega) (by have := HC.out; omega)).mono ?_; rintro e w8 ⟨x8, er8, T8, c8, rfl, ha8, hc8, ht8, hb8⟩; obtain ⟨rfl, rfl, rfl, rfl⟩ := HA7.out.same ha8; have HW8 : Hid (Two W w8 p m p5 m5 c7 c7 (K' + 1) (K' + 1) T7 T7) := ht8.swap; have HB8 : Hid (Below W.heap.size W w8) := hb8; clear ha8 hc8 ht8 hb8))
        go_roundw
        case rel => exact ⟨k + 1, c7, K' + 1, T7, hlt, by simp, ⟨by have := HC.out; have := HC7.out; omega, by have := HC.out; omega⟩, HW8.out, HB8.out⟩
        case measure => simp [intOf]; omega
      · obtain rfl : k = r := by omega
        obtain ⟨wA, rfl⟩ : ∃ wA, wA = wr := ⟨_, rfl⟩
        have hCC := HC.out
        have HGN : Hid (∀ w' (i : Nat), i ≤ k + n → Below wA.heap.size wA w' → T' (i : Int) = none → (Calls Tryd.prog 9 #[.pointer (some ⟨p, 0, none⟩), .int .i64 (i : Int)] w' fun e w2 => e = .returned (.tuple #[.slice none 0 0, .int .i64 10]) ∧ w2 = w') ∧ (Calls Tryd.prog 9 #[.pointer (some ⟨p5, 0, none⟩), .int .i64 (i : Int)] w' fun e w2 => e = .returned (.tuple #[.slice none 0 0, .int .i64 10]) ∧ w2 = w')) := fun w' i hi hw hT => by
          obtain ⟨B6, B6', l6, l6', D6, D6', h6, h6', _⟩ := (HW.out.below hw).ex
          exact ⟨hget_none h6 _ (by omega) (by omega) hT, hget_none h6' _ (by omega) (by omega) hT⟩
        have HGS : Hid (∀ w' (i : Nat) b, i ≤ k + n → Below wA.heap.size wA w' → T' (i : Int) = some b → (Calls Tryd.prog 9 #[.pointer (some ⟨p, 0, none⟩), .int .i64 (i : Int)] w' fun e w2 => ∃ ao cap, e = .returned (.tuple #[.slice ao b.length cap, .int .i64 0]) ∧ Own w2 w'.heap.size (.slice ao b.length cap) b ∧ Below w'.heap.size w' w2) ∧ (Calls Tryd.prog 9 #[.pointer (some ⟨p5, 0, none⟩), .int .i64 (i : Int)] w' fun e w2 => ∃ ao cap, e = .returned (.tuple #[.slice ao b.length cap, .int .i64 0]) ∧ Own w2 w'.heap.size (.slice ao b.length cap) b ∧ Below w'.heap.size w' w2)) := fun w' i b hi hw hT => by
          obtain ⟨B6, B6', l6, l6', D6, D6', h6, h6', _⟩ := (HW.out.below hw).ex
          exact ⟨hget_some h6 _ (by omega) (by omega) b hT, hget_some h6' _ (by omega) (by omega) b hT⟩
        obtain ⟨S2, HS2⟩ : ∃ S2, Hid (heapB T' (idsN T' K') = S2) := ⟨_, rfl⟩
        have HBT : Hid (∀ w', Below wA.heap.size wA w' → (Calls Tryd.prog 14 #[.pointer (some ⟨p, 0, none⟩)] w' fun e w2 => ∃ z, e = .returned z ∧ Bs w2 z S2 ∧ Below w'.heap.size w' w2) ∧ (Calls Tryd.prog 14 #[.pointer (some ⟨p5, 0, none⟩)] w' fun e w2 => ∃ z, e = .returned z ∧ Bs w2 z S2 ∧ Below w'.heap.size w' w2)) := fun w' hw => by
          obtain ⟨B6, B6', l6, l6', D6, D6', h6, h6', _⟩ := (HW.out.below hw).ex
          have ht' : Tab w' := HT.out.below (HB.out.trans (hw.mono HB.out.size))
          rw [← HS2.out]
          refine ⟨(hbytes_any h6 (by omega) (by omega) _ (idsN_ids h6.bd) ht').mono ?_, (hbytes_any h6' (by omega) (by omega) _ (idsN_ids h6.bd) ht').mono ?_⟩
          · rintro e w2 ⟨g, rfl, _, hr, hb⟩; exact ⟨_, rfl, hr.whole, hb⟩
          · rintro e w2 ⟨g, rfl, _, hr, hb⟩; exact ⟨_, rfl, hr.whole, hb⟩
        clear hCC
        go_wp2_with fail
        go_loopw [15] (fun x wr => ∃ i : Nat, i ≤ k + n ∧ x = .int .i64 (i : Int) ∧ Hid (Below wA.heap.size wA wr)) (fun x _ => k + n - (intOf x).toNat)
        case atStart => exact ⟨0, Nat.zero_le _, by simp, Below.refl _ _⟩
        case round =>
          obtain ⟨i, hi, rfl, HBi⟩ := hrel
          by_cases hlt2 : (i : Int) < (n : Int) + (k : Int)
          · cases hTi : T' (i : Int) with
            | none =>
              have HTi : Hid (T' (i : Int) = none) := hTi
              have hs0 := fun w => Bs.str (P := Tryd.prog) (Bs.nil w) Tryd.underlying29 Tryd.underlying5 Tryd.underlying9
              clear hTi
              go_wp2_with fail
              refine Calls.mono ((HGN.out _ i hi HBi.out HTi.out).1) ?_
              rintro e w7 ⟨rfl, hw7⟩
              obtain rfl := hw7.symm
              go_wp2_with fail
              refine Calls.mono ((HGN.out _ i hi HBi.out HTi.out).2) ?_
              rintro e w8 ⟨rfl, hw8⟩
              obtain rfl := hw8.symm
              go_wp2_with fail
              go_roundw
              case rel => exact ⟨i + 1, by omega, by simp, HBi.out⟩
              case measure => simp [intOf]; omega
            | some b =>
              obtain ⟨bl, HBL⟩ : ∃ bl, Hid (b.length = bl) := ⟨_, rfl⟩
              have HTi : Hid (T' (i : Int) = some b) := hTi
              clear hTi
              go_wp2_with fail
              refine Calls.mono ((HGS.out _ i b hi HBi.out HTi.out).1) ?_
              rintro e w7 ⟨ao7, cap7, rfl, ho7, hb7⟩
              rw [HBL.out] at ho7 ⊢
              have HS7 : Hid (Bs w7 (.slice ao7 bl cap7) b) := ho7.bs
              have HB7 : Hid (Below wA.heap.size wA w7) := HBi.out.trans (hb7.mono HBi.out.size)
              clear ho7 hb7
              go_wp2_with fail
              refine Calls.mono ((HGS.out _ i b hi HB7.out HTi.out).2) ?_
              rintro e w8 ⟨ao8, cap8, rfl, ho8, hb8⟩
              rw [HBL.out] at ho8 ⊢
              have hs8 := Bs.str (P := Tryd.prog) ho8.bs Tryd.underlying29 Tryd.underlying5 Tryd.underlying9
              have hs7 := Bs.str (P := Tryd.prog) (HS7.out.below hb8) Tryd.underlying29 Tryd.underlying5 Tryd.underlying9
              have HB8 : Hid (Below wA.heap.size wA w8) := HB7.out.trans (hb8.mono HB7.out.size)
              clear ho8 hb8
              go_wp2_with fail
              go_roundw
              case rel => exact ⟨i + 1, by omega, by simp, HB8.out⟩
              case measure => simp [intOf]; omega
          · have hltf : decide ((i : Int) < (n : Int) + (k : Int)) = false := by simpa using hlt2
            have HBY : Hid (∀ w', Below wA.heap.size wA w' → (Calls Tryd.prog 14 #[.pointer (some ⟨p, 0, none⟩)] w' fun e w2 => ∃ ao z cap, e = .returned (.slice ao z cap) ∧ (∀ w3, Below w2.heap.size w2 w3 → Sem.run Tryd.prog (convert 29 9 (.slice ao z cap)) w3 = .ok (.string (strOfNums S2)) w3) ∧ Below wA.heap.size wA w2 ∧ Below w'.heap.size w' w2 ∧ Below w2.heap.size w2 w2) ∧ (Calls Tryd.prog 14 #[.pointer (some ⟨p5, 0, none⟩)] w' fun e w2 => ∃ ao z cap, e = .returned (.slice ao z cap) ∧ (∀ w3, Below w2.heap.size w2 w3 → Sem.run Tryd.prog (convert 29 9 (.slice ao z cap)) w3 = .ok (.string (strOfNums S2)) w3) ∧ Below wA.heap.size wA w2 ∧ Below w'.heap.size w' w2 ∧ Below w2.heap.size w2 w2)) := fun w' hw => by
              have h := HBT.out w' hw
              refine ⟨h.1.mono ?_, h.2.mono ?_⟩
              · rintro e w2 ⟨z, rfl, hz, hb⟩
                obtain ⟨ao, cap, rfl, hc, h1, h2⟩ := hz
                exact ⟨ao, _, cap, rfl, fun w3 h3 => (Bs.below ⟨ao, cap, rfl, hc, h1, h2⟩ h3).str Tryd.underlying29 Tryd.underlying5 Tryd.underlying9, hw.trans (hb.mono hw.size), hb, Below.refl _ _⟩
              · rintro e w2 ⟨z, rfl, hz, hb⟩
                obtain ⟨ao, cap, rfl, hc, h1, h2⟩ := hz
                exact ⟨ao, _, cap, rfl, fun w3 h3 => (Bs.below ⟨ao, cap, rfl, hc, h1, h2⟩ h3).str Tryd.underlying29 Tryd.underlying5 Tryd.underlying9, hw.trans (hb.mono hw.size), hb, Below.refl _ _⟩
            have HLW : Hid (∀ w', Below wA.heap.size wA w' → Calls Tryd.prog 16 #[] w' fun e w2 => e = .returned (.bool true) ∧ Below wA.heap.size wA w2) := fun w' hw => (lives6_any w' (HT.out.below (HB.out.trans (hw.mono HB.out.size)))).mono (fun e w2 ⟨h1, h2⟩ => ⟨h1, hw.trans (h2.mono hw.size)⟩)
            have hri : Below wA.heap.size wA wr := HBi.out
            have hrd : Below wA.heap.size wA wr.drew := HBi.out.drew
            clear HBT HGN HGS HLV hlt2
            go_upto_region 21 with fail
            clear hltf
            go_region_held (fun w' => Below wA.heap.size wA w') (assumption) (first | (go_at_call_of 14 (Value.pointer (some ⟨p, 0, none⟩)); refine (HBY.out _ (by assumption)).1.mono ?_; rintro e w7 ⟨ao7, z7, cap7, rfl, hs7, hd7, hp7, hz7⟩) | (go_at_call_of 14 (Value.pointer (some ⟨p5, 0, none⟩)); refine (HBY.out _ (by assumption)).2.mono ?_; rintro e w8 ⟨ao8, z8, cap8, rfl, hs8, hd8, hp8, hz8⟩) | (go_at_call 16; refine (HLW.out _ (by assumption)).mono ?_; rintro e w9 ⟨rfl, hd9⟩))
            all_goals
              go_wp2_with fail
              go_ret
              exact ⟨rfl, HB.out.trans (Below.mono (by assumption) HB.out.size)⟩
end Go.Proofs.YtpkbdpbggmiolaaDoor
