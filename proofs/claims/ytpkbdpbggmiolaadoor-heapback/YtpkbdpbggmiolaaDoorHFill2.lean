/-
  The walk of the law's filled, its loops. Conditions: at most 100 things are handed in.
-/
import Derived.Test.YtpkbdpbggmiolaaDoorHFill
namespace Go.Proofs.YtpkbdpbggmiolaaDoor
open Go.RowKit Go.Maps
set_option linter.unusedVariables false
set_option maxRecDepth 100000

set_option maxHeartbeats 4000000 in
theorem filled_any (v vd : Value) (ls : List (List Int)) (ds : List Int) (W : World) (hR : Rws W v ls) (hZ : Zs W vd ds) (hn : ls.length ≤ 100) (hq : ds.length ≤ 140737488351232) (hd : ∀ x ∈ ds, -9223372036854775808 ≤ x ∧ x ≤ 9223372036854775807) :
    Calls Tryd.prog 18 #[v, vd] W fun e w' => ∃ c low D, e = .returned (.pointer (some ⟨W.heap.size + 1, 0, none⟩)) ∧ c ≤ (okL ls).length ∧ HP w' W.heap.size (W.heap.size + 1) W.heap.size c low (okL ls).length (dropT (tbl (okL ls)) ds) D ∧ Below W.heap.size W w' := by
  obtain ⟨ao, cap, rfl, hcap, hcell⟩ := hR
  obtain ⟨aod, capd, rfl, hcapd, hcelld⟩ := hZ
  have HR : Hid (∀ r, r < ls.length → ∃ b off u, ao = some ⟨b, off, none⟩ ∧ W.cell? ⟨b, off + r, none⟩ = some u ∧ Bs W u (ls.getD r []) ∧ Byt (ls.getD r [])) := hcell
  have HD : Hid (∀ i, i < ds.length → ∃ g off, aod = some ⟨g, off, none⟩ ∧ W.cell? ⟨g, off + i, none⟩ = some (.int .i64 (ds.getD i 0)) ∧ -9223372036854775808 ≤ ds.getD i 0 ∧ ds.getD i 0 ≤ 9223372036854775807) := fun i hi => by
    obtain ⟨g, off, h1, h2⟩ := hcelld i hi
    have h3 := hd (ds.getD i 0) (by rw [List.getD, List.getElem?_eq_getElem hi]; exact List.getElem_mem hi)
    exact ⟨g, off, h1, h2, h3⟩
  obtain ⟨n, HN⟩ : ∃ n, Hid (ls.length = n) := ⟨_, rfl⟩
  obtain ⟨q, HQ⟩ : ∃ q, Hid (ds.length = q) := ⟨_, rfl⟩
  have HTK : Hid (∀ k, k < n → okL (ls.take (k + 1)) = okL (ls.take k) ++ okL [ls.getD k []]) := fun k hk => by
    rw [take_snoc ls k (by rw [HN.out]; exact hk) [], okL_snoc]
    by_cases h : (ls.getD k []).length ≤ 65536
    · simp only [h, if_true]; simp [okL, -List.getD_eq_getElem?_getD, h]
    · simp only [h, if_false]; simp [okL, -List.getD_eq_getElem?_getD, h]
  have HLK : Hid (∀ k, k ≤ n → (okL (ls.take k)).length ≤ 100) := fun k hk => by
    have h1 := okL_len (ls.take k)
    have h2 : (ls.take k).length ≤ ls.length := by simp; omega
    omega
  have HEN : Hid (okL (ls.take n) = okL ls) := by rw [← HN.out, List.take_length]; rfl
  have HDK : Hid (∀ k, k < q → ∀ T, dropT T (ds.take (k + 1)) = putT (dropT T (ds.take k)) (ds.getD k 0) none) := fun k hk T => by
    rw [take_snoc ds k (by rw [HQ.out]; exact hk) 0, dropT_snoc]
  have HED : Hid (ds.take q = ds) := by rw [← HQ.out, List.take_length]; rfl
  rw [HN.out] at hn hcap HR
  rw [HQ.out] at hcapd HD hq
  rw [HN.out, HQ.out]
  clear hcell hcelld hd
  go_enter Tryd.func18, Tryd.ntmps18
  go_wp2_with (go_at_call 6; refine (hnew_any _).mono ?_; rintro e w1 ⟨rfl, hp1, hb1⟩; have HP1 : Hid (HP w1 W.heap.size (W.heap.size + 1) W.heap.size 0 0 0 (fun _ => none) (.map [])) := hp1; have HB1 : Hid (Below W.heap.size W w1) := hb1; clear hp1 hb1)
  go_loopw [6] (fun i wr => ∃ (k c : Nat) (D : DataW Value), k ≤ n ∧ i = .int .i64 (k : Int) ∧ Hid ((okL (ls.take k)).length = c) ∧ Hid (HP wr W.heap.size (W.heap.size + 1) W.heap.size c c c (tbl (okL (ls.take k))) D) ∧ Hid (Below W.heap.size W wr)) (fun i _ => n - (intOf i).toNat)
  case atStart => exact ⟨0, 0, _, Nat.zero_le _, by simp, rfl, by rw [show okL (ls.take 0) = [] from rfl, tbl_nil]; exact HP1.out, HB1.out⟩
  case round =>
    obtain ⟨k, c, D, hk, rfl, HC, HP0, HB⟩ := hrel
    by_cases hlt : k < n
    · obtain ⟨g, off, u, rfl, hc0, hbs, hby⟩ := HR.out k hlt
      have hc1 : wr.cell? ⟨g, off + k, none⟩ = some u := (HB.out.cell (World.block_lt_of_cell? W _ hc0)).trans hc0
      have hFA := fill_add (by have := HP0.out; rw [← HC.out] at this; exact this) HB.out.size u (ls.getD k []) (hbs.below HB.out) hby (HLK.out k hk)
      have HFA : Hid _ := hFA
      rw [← HTK.out k hlt] at HFA
      have HT2 : Hid ((okL (ls.take k)).length + (okL [ls.getD k []]).length = (okL (ls.take (k + 1))).length) := by rw [HTK.out k hlt, List.length_append]; rfl
      clear hFA hbs hby hc0
      go_wp2_with (go_at_call 7; refine Calls.mono HFA.out ?_; rintro e w2 ⟨x2, D2, rfl, hp2, hb2⟩; have HP2 : Hid (HP w2 W.heap.size (W.heap.size + 1) W.heap.size (okL (ls.take (k + 1))).length (okL (ls.take (k + 1))).length (okL (ls.take (k + 1))).length (tbl (okL (ls.take (k + 1)))) D2) := (by rw [← HT2.out]; exact hp2); have HB2 : Hid (Below W.heap.size W w2) := HB.out.trans hb2; clear hp2 hb2)
      go_roundw
      case rel => exact ⟨k + 1, _, D2, hlt, by simp, rfl, HP2.out, HB2.out⟩
      case measure => simp [intOf]; omega
    · obtain rfl : k = n := by omega
      rw [HEN.out] at HC HP0
      go_wp2
      go_loopw [7] (fun i wr2 => ∃ (j c2 low2 : Nat) (D2 : DataW Value), j ≤ q ∧ i = .int .i64 (j : Int) ∧ Hid (c2 ≤ c) ∧ Hid (HP wr2 W.heap.size (W.heap.size + 1) W.heap.size c2 low2 c (dropT (tbl (okL ls)) (ds.take j)) D2) ∧ Hid (Below W.heap.size W wr2)) (fun i _ => q - (intOf i).toNat)
      case atStart => exact ⟨0, c, c, D, Nat.zero_le _, by simp, Nat.le_refl _, by rw [show ds.take 0 = [] from rfl, dropT_nil]; exact HP0.out, HB.out⟩
      case round =>
        obtain ⟨j, c2, low2, D2, hj, rfl, HC2, HP2, HB2⟩ := hrel
        by_cases hlt2 : j < q
        · obtain ⟨g, off, rfl, hc0, hx0, hx1⟩ := HD.out j hlt2
          have hc1 := (HB2.out.cell (World.block_lt_of_cell? W _ hc0)).trans hc0
          have HFD : Hid _ := fill_drop HP2.out HB2.out.size (ds.getD j 0) hx0 hx1
          rw [← HDK.out j hlt2] at HFD
          obtain ⟨x, HX⟩ : ∃ x, ds.getD j 0 = x := ⟨_, rfl⟩
          rw [HX] at HFD hc1 hx0 hx1
          clear hc0 HX
          go_wp2_with (go_at_call 11; refine Calls.mono HFD.out ?_; rintro e w3 ⟨y3, c3, low3, D3, rfl, hc3, hp3, hb3⟩; have HC3 : Hid (c3 ≤ c) := Nat.le_trans hc3 HC2.out; have HP3 : Hid _ := hp3; have HB3 : Hid (Below W.heap.size W w3) := HB2.out.trans hb3; clear hp3 hb3 hc3)
          go_roundw
          case rel => exact ⟨j + 1, c3, low3, D3, hlt2, by simp, HC3.out, HP3.out, HB3.out⟩
          case measure => simp [intOf]; omega
        · obtain rfl : j = q := by omega
          go_wp2
          go_ret
          rw [HED.out] at HP2
          exact ⟨c2, low2, D2, rfl, by rw [HC.out]; exact HC2.out, by rw [HC.out]; exact HP2.out, HB2.out⟩
end Go.Proofs.YtpkbdpbggmiolaaDoor
