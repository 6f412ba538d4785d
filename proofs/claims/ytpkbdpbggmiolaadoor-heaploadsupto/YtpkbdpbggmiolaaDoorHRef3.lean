/-
  The walk of the document's Add. Conditions: lengths are such as memory bears.
-/
import Derived.Test.YtpkbdpbggmiolaaDoorHRef2
import Derived.Deep.RegionHeldLaw
namespace Go.Proofs.YtpkbdpbggmiolaaDoor
open Go.RowKit Go.Maps
set_option linter.unusedVariables false
set_option maxRecDepth 100000

theorem Tryd.infoSl : (Tryd.prog.info? 62).map (fun i => (i.zero, i.size, i.bytes)) = some (some (.agg #[.bool false, .slice none 0 0]), 2, 32) := by kernel_rfl
def LastOk (S : List SV) : Prop := ∀ s, S.getLast? = some s → s.1.isSome = true
theorem refAdd6_big {w : World} {B p : Nat} {vL : Value} {S : List SV} (h : RH w B p vL S) (v : Value) (b : List Int) (hv : Bs w v b) (hb : 65536 < b.length) :
    Calls Tryd.prog 8 #[.pointer (some ⟨p, 0, none⟩), v] w fun e w' => e = .returned (.tuple #[.int .i64 0, .int .i64 3]) ∧ w' = w := by
  obtain ⟨ao, cap, rfl, hcap, _, _⟩ := hv
  have hd : decide ((65536 : Int) < (b.length : Int)) = true := by simp; omega
  clear h
  go_enter Tryd.func8, Tryd.ntmps8
  go_wp2_with fail
  go_ret2
  exact ⟨rfl, rfl⟩

/-- What a number may hold. -/
def SOk (w : World) (p : Nat) (vL : Value) (s : SV) : Prop := (∀ b, s.1 = some b → Bs w s.2 b ∧ Byt b ∧ b.length ≤ 65536 ∧ ∀ g, s.2.ownBlock = some g → g < w.heap.size ∧ g ≠ p ∧ vL.ownBlock ≠ some g) ∧ s.2.oneCell' = true
theorem Bs.off {w w' : World} {F : Nat → Prop} (hk : Kp F w w') {v : Value} {b : List Int} (h : Bs w v b) (hF : ∀ g, v.ownBlock = some g → ¬ F g) : Bs w' v b := by
  obtain ⟨ao, cap, rfl, hcap, hnil, hcell⟩ := h
  refine ⟨ao, cap, rfl, hcap, hnil, fun ad hd j hj => hk.cell (hcell ad hd j hj) ?_⟩
  subst hd
  have e : (ad.add j).block = ad.block := by unfold Addr.add; split <;> rfl
  rw [e]
  exact hF _ rfl
theorem RH.set {w : World} {B p g n cap : Nat} {S : List SV} (h : RH w B p (.slice (some ⟨g, 0, none⟩) n cap) S) {k : Nat} (hk : k < S.length) (s : SV) (hs : SOk w p (.slice (some ⟨g, 0, none⟩) n cap) s) :
    RH ((w.setCell ⟨g, k * 2, none⟩ (.bool s.1.isSome)).setCell ⟨g, k * 2 + 1, none⟩ s.2) B p (.slice (some ⟨g, 0, none⟩) n cap) (S.set k s) := by
  have hgp : g ≠ p := fun e => h.ne (by rw [e]; rfl)
  have hrow := h.row
  have hn : n = S.length := by
    rcases ownsRow_shape hrow with ⟨e, _⟩ | ⟨g', c', e, _⟩
    · cases e
    · injection e
  subst hn
  have hkp : Kp (fun x => x = g) w ((w.setCell ⟨g, k * 2, none⟩ (.bool s.1.isSome)).setCell ⟨g, k * 2 + 1, none⟩ s.2) := ((Kp.refl (fun x => x = g) w).setCell (a := ⟨g, k * 2, none⟩) _ (fun _ => rfl)).setCell (a := ⟨g, k * 2 + 1, none⟩) _ (fun _ => rfl)
  have hgood : ∀ t, SOk w p (.slice (some ⟨g, 0, none⟩) S.length cap) t → SOk ((w.setCell ⟨g, k * 2, none⟩ (.bool s.1.isSome)).setCell ⟨g, k * 2 + 1, none⟩ s.2) p (.slice (some ⟨g, 0, none⟩) S.length cap) t := fun t ht => ⟨fun b hb => by
    obtain ⟨h1, h2, h3, h4⟩ := ht.1 b hb
    refine ⟨h1.off hkp (fun g' hg' e => (h4 g' hg').2.2 (by rw [e]; rfl)), h2, h3, fun g' hg' => ⟨?_, (h4 g' hg').2⟩⟩
    have := (h4 g' hg').1
    simpa [World.setCell] using this, ht.2⟩
  have hmem : ∀ t ∈ S.set k s, SOk w p (.slice (some ⟨g, 0, none⟩) S.length cap) t := fun t ht => by
    rcases List.mem_or_eq_of_mem_set ht with h1 | h1
    · exact ⟨h.good t h1, h.one t h1⟩
    · rw [h1]; exact hs
  refine ⟨(hkp.block p h.c0.2.2 (fun e => hgp e.symm)).trans h.cells, ?_, fun t ht => (hgood t (hmem t ht)).1, fun t ht => (hmem t ht).2, h.bp, h.ne⟩
  have := ownsRow_setCell (ownsRow_setCell hrow (k * 2) (.bool s.1.isSome)) (k * 2 + 1) s.2
  rw [gc_set2 encS_len S k s _ _ hk rfl, List.length_set]
  exact this
theorem RH.push {w w' : World} {B p g cap : Nat} {vL : Value} {S : List SV} (h : RH w B p vL S) (s : SV) (hs : SOk w p vL s) (hkp : Kp (fun x => vL.ownBlock = some x) w w') (hrow : w'.ownsRow B 62 2 (.slice (some ⟨g, 0, none⟩) (S.length + 1) cap) (S.length + 1) (gc encS S ++ encS s)) (hg : vL.ownBlock = some g ∨ w.heap.size ≤ g) :
    RH (w'.setCell ⟨p, 0, none⟩ (.slice (some ⟨g, 0, none⟩) (S.length + 1) cap)) B p (.slice (some ⟨g, 0, none⟩) (S.length + 1) cap) (S ++ [s]) := by
  have hpl := h.c0.2.2
  have hgp : g ≠ p := fun e => by rcases hg with h1 | h1; exact h.ne (by rw [← e]; exact h1); omega
  have hkp2 : Kp (fun x => x = p) w' (w'.setCell ⟨p, 0, none⟩ (.slice (some ⟨g, 0, none⟩) (S.length + 1) cap)) := (Kp.refl (fun x => x = p) w').setCell (a := ⟨p, 0, none⟩) _ (fun _ => rfl)
  have hgood : ∀ t, SOk w p vL t → SOk (w'.setCell ⟨p, 0, none⟩ (.slice (some ⟨g, 0, none⟩) (S.length + 1) cap)) p (.slice (some ⟨g, 0, none⟩) (S.length + 1) cap) t := fun t ht => ⟨fun b hb => by
    obtain ⟨h1, h2, h3, h4⟩ := ht.1 b hb
    refine ⟨(h1.off hkp (fun g' hg' e => (h4 g' hg').2.2 e)).off hkp2 (fun g' hg' e => (h4 g' hg').2.1 e), h2, h3, fun g' hg' => ⟨?_, (h4 g' hg').2.1, fun e => ?_⟩⟩
    · have h5 := (h4 g' hg').1
      have h6 := hkp2.size
      have h7 := hkp.size
      omega
    · have e' : g = g' := by simpa [Value.ownBlock] using e
      rcases hg with h1 | h1
      · exact (h4 g' hg').2.2 (by rw [← e']; exact h1)
      · have := (h4 g' hg').1; omega, ht.2⟩
  have hmem : ∀ t ∈ S ++ [s], SOk w p vL t := fun t ht => by
    rcases List.mem_append.1 ht with h1 | h1
    · exact ⟨h.good t h1, h.one t h1⟩
    · rw [List.mem_singleton.1 h1]; exact hs
  have hc1 : w'.heap[p]? = some (.cells #[vL] 28 (0, 0)) := (hkp.block p hpl h.ne).trans h.cells
  refine ⟨?_, ?_, fun t ht => (hgood t (hmem t ht)).1, fun t ht => (hmem t ht).2, h.bp, fun e => hgp (by simpa [Value.ownBlock] using e)⟩
  · rw [heap_setCell_same w' p 0 _ _ _ hc1]; simp
  · rw [gc_append, gc_one, List.length_append]
    exact ownsRow_kp hrow hkp2 (fun g' hg' e => hgp (by rw [← e]; simpa [Value.ownBlock] using hg'))
theorem tS_set {S : List SV} {k : Nat} (hk : k < S.length) (s : SV) : tS (S.set k s) = putT (tS S) k s.1 := by
  funext i
  by_cases hi : 0 ≤ i
  · obtain ⟨j, rfl⟩ := Int.eq_ofNat_of_zero_le hi
    by_cases e : j = k
    · subst e
      rw [putT_same, tS_nat, List.getElem?_set_self hk]; rfl
    · rw [putT_other _ _ (by omega), tS_nat, tS_nat, List.getElem?_set_ne (by omega)]
  · rw [putT_other _ _ (by omega)]; simp [tS, hi]
theorem tS_push (S : List SV) (s : SV) : tS (S ++ [s]) = putT (tS S) S.length s.1 := by
  funext i
  by_cases hi : 0 ≤ i
  · obtain ⟨j, rfl⟩ := Int.eq_ofNat_of_zero_le hi
    rcases Nat.lt_trichotomy j S.length with e | e | e
    · rw [putT_other _ _ (by omega), tS_nat, tS_nat, List.getElem?_append_left e]
    · subst e; rw [putT_same, tS_nat, List.getElem?_append_right (Nat.le_refl _)]; simp
    · rw [putT_other _ _ (by omega), tS_nat, tS_nat, List.getElem?_eq_none (by simp; omega), List.getElem?_eq_none (by omega)]
  · rw [putT_other _ _ (by omega)]; simp [tS, hi]
theorem LastOk.set {S : List SV} (h : LastOk S) (k : Nat) (s : SV) (hs : s.1.isSome = true) : LastOk (S.set k s) := by
  intro t ht
  rw [List.getLast?_eq_getElem?, List.length_set] at ht
  by_cases e : S.length - 1 = k
  · have hk : k < S.length := by
      have := (List.getElem?_eq_some_iff.1 ht).1
      rw [List.length_set] at this; omega
    rw [e, List.getElem?_set_self hk] at ht
    rw [← Option.some.inj ht]; exact hs
  · rw [List.getElem?_set_ne (by omega)] at ht
    exact h t (by rw [List.getLast?_eq_getElem?]; exact ht)
theorem LastOk.push (S : List SV) (s : SV) (hs : s.1.isSome = true) : LastOk (S ++ [s]) := by
  intro t ht
  rw [List.getLast?_append] at ht
  simp at ht
  rw [← ht]; exact hs

set_option maxHeartbeats 4000000 in
theorem refAdd6_any {w : World} {B p : Nat} {vL : Value} {S : List SV} (h : RH w B p vL S) (hBw : B ≤ w.heap.size) (hn : S.length ≤ 1048576) (v : Value) (b : List Int) (hv : Bs w v b) (hby : Byt b) (hb : b.length ≤ 65536) (hfull : (idsN (tS S) S.length).length < 65536) :
    Calls Tryd.prog 8 #[.pointer (some ⟨p, 0, none⟩), v] w fun e w' => ∃ (k : Nat) (vL' : Value) (S' : List SV), e = .returned (.tuple #[.int .i64 (k : Int), .int .i64 0]) ∧ Free (tS S) k ∧ RH w' B p vL' S' ∧ tS S' = putT (tS S) k (some b) ∧ S'.length ≤ S.length + 1 ∧ (LastOk S → LastOk S') ∧ Kp (fun x => x = p ∨ vL.ownBlock = some x) w w' ∧ (∀ g, vL'.ownBlock = some g → vL.ownBlock = some g ∨ w.heap.size ≤ g) ∧ (∀ s ∈ S', s ∈ S ∨ ∀ g, s.2.ownBlock = some g → w.heap.size ≤ g) := by
  obtain ⟨i0, hi, hz0, hz1, hz2⟩ := info_parts Tryd.info5
  obtain ⟨i1, hi1, hy0, hy1, hy2⟩ := info_partsG Tryd.infoSl
  have HH : Hid (RH w B p vL S) := h
  have HL : Hid _ := refLen_any h (by omega)
  obtain ⟨q, HQ⟩ : ∃ q, Hid ((idsN (tS S) S.length).length = q) := ⟨_, rfl⟩
  rw [HQ.out] at HL hfull
  have HBS : Hid (Bs w v b) := hv
  obtain ⟨ao, cap, rfl, hcap, _, _⟩ := hv
  obtain ⟨m, HM⟩ : ∃ m, Hid (b.length = m) := ⟨_, rfl⟩
  rw [HM.out] at hb hcap HBS ⊢
  obtain ⟨n, HN⟩ : ∃ n, Hid (S.length = n) := ⟨_, rfl⟩
  rw [HN.out] at hn
  have hd : decide ((65536 : Int) < (m : Int)) = false := by simp; omega
  have hd2 : ((q : Int) == 65536) = false := by simp; omega
  clear h
  go_enter Tryd.func8, Tryd.ntmps8
  go_wp2_with (first
    | (go_at_call 23; refine Calls.mono HL.out ?_; rintro e w1 ⟨rfl, hb1⟩; have HB1 : Hid (Below w.heap.size w w1) := hb1; clear hb1)
    | (at_builtin; refine wpList_append_bytes _ rfl (.tmp 14) (.tmp 15) 29 rfl i0 Tryd.underlying29 hi hz0 hz1 hz2 w.heap.size _ _ [] b rfl rfl (Own.empty _ _ HB1.out.size) (HBS.out.below (HB1.out.alloc HB1.out.size _)) (by simp [HM.out]; omega) w (HB1.out.alloc HB1.out.size _) (by have := HB1.out.size; simp; omega) ?_; intro ao2 cap2 w2 ho2 hb2 hg2 hc2; simp only [HM.out, List.length_nil, Nat.zero_add, List.nil_append] at ho2 hc2 ⊢; have HO2 : Hid (Own w2 w.heap.size (.slice ao2 m cap2) b) := ho2; have HB2 : Hid (Below w.heap.size w w2) := hb2; clear ho2 hb2 hc2 hg2))
  have HC5 : Hid ((w2.alloc (.cells #[.bool true, .slice ao2 m cap2] 62)).heap[w2.heap.size]? = some (.cells #[.bool true, .slice ao2 m cap2] 62 (0, 0))) := heap_alloc_new w2 _
  have HB5 : Hid (Below w.heap.size w (w2.alloc (.cells #[.bool true, .slice ao2 m cap2] 62))) := HB2.out.alloc HB2.out.size _
  have HO5 : Hid (Own (w2.alloc (.cells #[.bool true, .slice ao2 m cap2] 62)) w.heap.size (.slice ao2 m cap2) b) := HO2.out.below ((Below.refl _ _).alloc (Nat.le_refl _) _)
  have HXB : Hid (w.heap.size ≤ w2.heap.size) := HB2.out.size
  generalize w2.alloc (.cells #[.bool true, .slice ao2 m cap2] 62) = w5 at HC5 HB5 HO5 ⊢
  generalize w2.heap.size = xb at HC5 HXB ⊢
  have x0 : w5.cell? ⟨xb, 0, none⟩ = some (.bool true) := by simp [World.cell?, HC5.out]
  have x1 : w5.cell? ⟨xb, 1, none⟩ = some (.slice ao2 m cap2) := by simp [World.cell?, HC5.out]
  have HR5 : Hid (RH w5 B p vL S) := HH.out.below HB5.out
  have HSO : Hid (SOk w5 p vL (some b, .slice ao2 m cap2)) := ⟨fun b' hb' => by
    obtain rfl := Option.some.inj hb'
    refine ⟨HO5.out.bs, hby, by rw [HM.out]; exact hb, fun g hg => ?_⟩
    have h1 := World.ownsRow.lt HO5.out g hg
    have h2 := HH.out.c0.2.2
    refine ⟨h1.2, by omega, fun e => ?_⟩
    have h3 := (World.ownsRow.lt HH.out.row g e).2
    omega, rfl⟩
  obtain ⟨aoL, capL, hvL, hcapL⟩ := HH.out.shape
  rw [HN.out] at hvL hcapL
  have c0 := HR5.out.c0.1
  have f0 := HR5.out.c0.2.1
  clear HO2 HB2 HB1 HL HC5 HBS
  subst hvL
  go_loopw [7] (fun x wr => ∃ (k : Nat), k ≤ n ∧ x = .int .i64 (k : Int) ∧ Hid (∀ j : Nat, j < k → ∃ b, tS S (j : Int) = some b) ∧ Hid (wr = w5)) (fun x _ => n - (intOf x).toNat)
  case atStart => exact ⟨0, Nat.zero_le _, by simp, fun j hj => by omega, rfl⟩
  case round =>
    obtain ⟨k, hk, rfl, HA, HW⟩ := hrel
    obtain rfl := HW.out
    clear HW
    by_cases hlt : k < n
    · obtain ⟨s, hs⟩ : ∃ s, S[k]? = some s := ⟨S[k]'(by rw [HN.out]; exact hlt), List.getElem?_eq_getElem _⟩
      obtain ⟨g, cp, e, _, hgl, hgp, ha, hb', f1, f2⟩ := HR5.out.at hs
      have HGW : Hid (g < w.heap.size) := by
        obtain ⟨g', cp', e', _, hgl', _⟩ := HH.out.at hs
        injection e' with e1'
        injection e with e1
        obtain rfl : g = g' := by rw [e1] at e1'; simpa using e1'
        exact hgl'
      injection e with e1 e2 e3
      subst e1; subst e3
      have hTk : tS S (k : Int) = s.1 := by rw [tS_nat, hs]; rfl
      clear hs
      cases hs1 : s.1 with
      | some b0 =>
        rw [hs1] at ha hTk
        have HTK : Hid (tS S (k : Int) = some b0) := hTk
        simp only [Option.isSome_some] at ha
        clear hTk hs1
        go_wp2_with fail
        go_roundw
        case rel =>
          refine ⟨k + 1, hlt, by simp, fun j hj => ?_, (by first | exact trivial | exact rfl)⟩
          by_cases e : j = k
          · subst e; exact ⟨b0, HTK.out⟩
          · exact HA.out j (by omega)
        case measure => simp [intOf]; omega
      | none =>
        rw [hs1] at ha hTk
        have HTK : Hid (tS S (k : Int) = none) := hTk
        simp only [Option.isSome_none] at ha
        have hgx : xb ≠ g := by have := HXB.out; have := HGW.out; omega
        clear hTk hs1
        go_wp2_with fail
        go_region
        all_goals
          go_wp2_with fail
          go_ret2
          have hkS : k < S.length := by rw [HN.out]; exact hlt
          have hbl : ∀ a b : World, Below a.heap.size a a.drew := fun a b => (Below.refl _ _).drew
          refine ⟨k, _, S.set k (some b, .slice ao2 m cap2), rfl, ⟨HTK.out, HA.out⟩, (HR5.out.set hkS (some b, .slice ao2 m cap2) HSO.out).below ((Below.refl _ _).drew), tS_set hkS _, by rw [List.length_set]; omega, fun h => h.set _ _ rfl, ?_, fun g' hg' => .inl hg', fun t ht => by
            rcases List.mem_or_eq_of_mem_set ht with h1 | h1
            · exact .inl h1
            · rw [h1]; exact .inr (fun g' hg' => (World.ownsRow.lt HO5.out g' hg').1)⟩
          exact (((Kp.of HB5.out).setCell (a := ⟨g, k * 2, none⟩) _ (fun _ => .inr rfl)).setCell (a := ⟨g, k * 2 + 1, none⟩) _ (fun _ => .inr rfl)).drew
    · obtain rfl : k = n := by omega
      have HRW : Hid (wr.ownsRow B 62 2 (.slice aoL k capL) k (gc encS S)) := by have := HR5.out.row; rw [HN.out] at this; exact this
      have HPK : Hid (p < wr.heap.size ∧ xb < wr.heap.size ∧ (Value.slice aoL k capL).ownBlock ≠ some p ∧ (Value.slice aoL k capL).ownBlock ≠ some xb) := ⟨HR5.out.c0.2.2, World.block_lt_of_cell? wr _ x0, HR5.out.ne, fun e => by have := (World.ownsRow.lt HH.out.row _ e).2; have := HXB.out; omega⟩
      have HKA : Hid (∀ w3, (wr.alloc (.cells #[.bool true, .slice ao2 m cap2] 62)).drew.grownBy w3 (Value.slice aoL k capL).ownBlock → (w3.cell? ⟨p, 0, none⟩ = some (.slice aoL k capL) ∧ w3.cell? ⟨xb, 0, none⟩ = some (.bool true) ∧ w3.cell? ⟨xb, 1, none⟩ = some (.slice ao2 m cap2)) ∧ w3.frozen? ⟨p, 0, none⟩ = false) := fun w3 hg => by
        have hk : Kp (fun x => (Value.slice aoL k capL).ownBlock = some x) wr w3 := ((Kp.refl _ wr).alloc (.cells #[.bool true, .slice ao2 m cap2] 62)).drew.grown hg (fun x _ e => e)
        refine ⟨⟨hk.cell c0 HPK.out.2.2.1, hk.cell x0 HPK.out.2.2.2, hk.cell x1 HPK.out.2.2.2⟩, ?_⟩
        exact (World.frozen?_of_block (w := wr) (a := ⟨p, 0, none⟩) (hk.block p HPK.out.1 HPK.out.2.2.1)).trans f0
      go_wp2_with fail
      have hpx : p < (wr.alloc (.cells #[.bool true, .slice ao2 m cap2] 62)).heap.size := by have := HPK.out.1; simp; omega
      have c0a : (wr.alloc (.cells #[.bool true, .slice ao2 m cap2] 62)).cell? ⟨p, 0, none⟩ = some (.slice aoL k capL) := ((Kp.refl (fun _ => False) wr).alloc _).cell c0 (fun h => h)
      go_region_law ((refine step_append_G 51 rfl rfl (.tmp 48) (.tmp 50) 26 62 rfl i1 Tryd.underlying26 hi1 _ hy0 2 32 hy1 hy2 rfl (by omega) B (.slice aoL k capL) k (gc encS S) ⟨wr.heap.size, 0, none⟩ 1 1 [.bool true, .slice ao2 m cap2] rfl rfl (HRW.out.alloc _) rfl (news_one (w := (wr.alloc (.cells #[.bool true, .slice ao2 m cap2] 62)).drew) (heap_alloc_new wr _)) (by simp [Value.oneCell']) (by omega) (by omega) (by omega) (by have := HB5.out.size; simp; omega) ?_; intro g3 cap3 w3 ho3 hg3 hat3; obtain ⟨⟨hc3, hx3, hy3⟩, hf3⟩ := HKA.out _ hg3; have HO3 : Hid _ := ho3; have HG3 : Hid _ := hg3; have HAT3 : Hid _ := hat3; clear ho3 hg3 hat3 hx3 hy3))
      all_goals
        have HKP : Hid (Kp (fun x => (Value.slice aoL k capL).ownBlock = some x) wr w3) := ((Kp.refl _ wr).alloc (.cells #[.bool true, .slice ao2 m cap2] 62)).drew.grown HG3.out (fun x _ e => e)
        have HAT : Hid ((Value.slice aoL k capL).ownBlock = some g3 ∨ wr.heap.size ≤ g3) := (by rcases HAT3.out with h | h; exact .inl h; exact .inr (by rw [h]; simp))
        have HRO : Hid (w3.ownsRow B 62 2 (.slice (some ⟨g3, 0, none⟩) (S.length + 1) cap3) (S.length + 1) (gc encS S ++ encS (some b, .slice ao2 m cap2))) := (by rw [HN.out]; exact HO3.out)
        have HRP : Hid _ := HR5.out.push (some b, .slice ao2 m cap2) HSO.out HKP.out HRO.out HAT.out
        rw [HN.out] at HRP
        have c9 := HRP.out.c0.1
        clear HO3 HG3 HAT3 HKA hc3 hf3 c0a hpx c0 x0 x1 f0
        go_wp2_with fail
        go_ret2
        have hTn : tS S (k : Int) = none := by rw [tS_nat, List.getElem?_eq_none (by rw [HN.out]; exact Nat.le_refl _)]; rfl
        refine ⟨k, _, S ++ [(some b, .slice ao2 m cap2)], by simp, ⟨hTn, HA.out⟩, HRP.out, ?_, by simp, fun _ => LastOk.push _ _ rfl, ?_, fun g' hg' => ?_, fun t ht => ?_⟩
        · have := tS_push S (some b, .slice ao2 m cap2); rw [HN.out] at this; exact this
        · exact ((Kp.of HB5.out).trans HKP.out (fun x _ e => .inr e)).setCell (a := ⟨p, 0, none⟩) _ (fun _ => .inl rfl)
        · obtain rfl : g3 = g' := by simpa [Value.ownBlock] using hg'
          rcases HAT.out with h | h
          · exact .inl h
          · exact .inr (Nat.le_trans HB5.out.size h)
        · rcases List.mem_append.1 ht with h1 | h1
          · exact .inl h1
          · rw [List.mem_singleton.1 h1]; exact .inr (fun g' hg' => (World.ownsRow.lt HO5.out g' hg').1)
end Go.Proofs.YtpkbdpbggmiolaaDoor
