/-
  The walk of the law HeapActs. Conditions: the table of check stands; lengths are such as memory bears.
-/
import Derived.Test.YtpkbdpbggmiolaaDoorHState
import Derived.Deep.RegionHeld
namespace Go.Proofs.YtpkbdpbggmiolaaDoor
open Go.RowKit Go.Maps
set_option linter.unusedVariables false
set_option maxRecDepth 100000

/-- An act. -/
structure HAct where
  ki : Int
  id : Int
  v : Value
  l : List Int
structure HAct.ok (a : HAct) (W : World) : Prop where
  bs : Bs W a.v a.l
  byt : Byt a.l
  len : a.l.length ≤ 140737488351232
  bki : -9223372036854775808 ≤ a.ki ∧ a.ki ≤ 9223372036854775807
  bid : -9223372036854775808 ≤ a.id ∧ a.id ≤ 9223372036854775807
/-- A list of acts. -/
def HAs (W : World) (v : Value) (qs : List HAct) : Prop :=
  ∃ ao cap, v = .slice ao qs.length cap ∧ qs.length ≤ cap ∧ cap ≤ maxLen ∧ ∀ i a, qs[i]? = some a → a.ok W ∧ ∃ g o, ao = some ⟨g, o, none⟩ ∧
    W.cell? ⟨g, o + i * 3, none⟩ = some (.int .i64 a.ki) ∧ W.cell? ⟨g, o + i * 3 + 1, none⟩ = some (.int .i64 a.id) ∧ W.cell? ⟨g, o + i * 3 + 2, none⟩ = some a.v
theorem bs_pre {w : World} {ao : Option Addr} {n cap : Nat} {l : List Int} (h : Bs w (.slice ao n cap) l) (k : Nat) (hk : k ≤ l.length) : Bs w (.slice ao k cap) (l.take k) := by
  obtain ⟨ao', cap', e, hcap, hnil, hcell⟩ := h
  injection e with e1 e2 e3
  subst e1; subst e3
  have hl : (l.take k).length = k := by simp; omega
  refine ⟨ao, cap, by rw [hl], by rw [hl]; omega, hnil, fun ad ha i hi => ?_⟩
  rw [hl] at hi
  rw [hcell ad ha i (by omega)]
  simp [List.getD, hi]
/-- The state ahead of act k. -/
def Acted6 (W w : World) (k p p' : Nat) (S : List SV) : Prop := ∃ m c low N D vL, St W w p m c low N (tS S) D p' vL S ∧ c ≤ k ∧ N ≤ k ∧ S.length ≤ k ∧ LastOk S
theorem Acted6.below {W w w' : World} {k p p' : Nat} {S : List SV} (h : Acted6 W w k p p' S) (hb : Below w.heap.size w w') : Acted6 W w' k p p' S := by
  obtain ⟨m, c, low, N, D, vL, h1, h2⟩ := h
  exact ⟨m, c, low, N, D, vL, h1.below hb, h2⟩
theorem Acted6.bw {W w : World} {k p p' : Nat} {S : List SV} (h : Acted6 W w k p p' S) : Below W.heap.size W w := by
  obtain ⟨m, c, low, N, D, vL, h1, h2⟩ := h
  exact h1.bw
theorem Acted6.mono {W w : World} {k k' p p' : Nat} {S : List SV} (h : Acted6 W w k p p' S) (hk : k ≤ k') : Acted6 W w k' p p' S := by
  obtain ⟨m, c, low, N, D, vL, h1, h2, h3, h4, h5⟩ := h
  exact ⟨m, c, low, N, D, vL, h1, by omega, by omega, by omega, h5⟩
theorem Acted6.alike {W w : World} {k p p' : Nat} {S : List SV} (h : Acted6 W w k p p' S) (hk : k ≤ 100) (ht : Tab W) : Calls Tryd.prog 15 #[.pointer (some ⟨p, 0, none⟩), .pointer (some ⟨p', 0, none⟩)] w fun e w' => e = .returned (.bool true) ∧ Acted6 W w' k p p' S := by
  have h0 := h
  obtain ⟨m, c, low, N, D, vL, h1, h2, h3, h4, h5⟩ := h
  obtain ⟨B, hp, _⟩ := h1.hp
  obtain ⟨B', hr, _⟩ := h1.hr
  exact (alike6_any hp hr h5 (by omega) (by omega) (by omega) (ht.below h1.bw)).mono fun e w' ⟨e1, e2⟩ => ⟨e1, h0.below e2⟩
theorem kp_lt {F : Nat → Prop} {w w' : World} {H : Nat} (h : Kp F w w') (hF : ∀ x, F x → x < H) : Kp (fun x => x < H) w w' := h.mono (fun x _ e => hF x e)
/-- The program's Add, then the document's. -/
theorem Acted6.adds {W wr w : World} {k p p' : Nat} {S : List SV} (h : Acted6 W wr k p p' S) (hb : Below wr.heap.size wr w) (hk : k ≤ 100) (u : Value) (b : List Int) (hu : Bs w u b) (hy : Byt b) :
    Calls Tryd.prog 7 #[.pointer (some ⟨p, 0, none⟩), u] w fun e w1 => ∃ x er, e = .returned (.tuple #[.int .i64 x, .int .i64 er]) ∧ Kp (fun y => y < wr.heap.size) w w1 ∧ Below W.heap.size W w1 ∧
      ∀ u', Bs w1 u' b → Calls Tryd.prog 8 #[.pointer (some ⟨p', 0, none⟩), u'] w1 fun e w2 => e = .returned (.tuple #[.int .i64 x, .int .i64 er]) ∧ ∃ S', Kp (fun y => y < wr.heap.size) w1 w2 ∧ Acted6 W w2 (k + 1) p p' S' ∧ ∀ w3, Kp (fun y => wr.heap.size ≤ y ∧ y < w.heap.size) w2 w3 → Acted6 W w3 (k + 1) p p' S' := by
  obtain ⟨m, c, low, N, D, vL, h1, h2, h3, h4, h5⟩ := h
  obtain ⟨l1, l2, l3, l4⟩ := h1.lt
  refine ((h1.below hb).padd u b hu hy (by omega) (by omega)).mono ?_
  rintro e w1 ⟨x, er, c', low', N', T', D', rfl, ha, hc', hN', hst, hkp, hvv⟩
  refine ⟨x, er, rfl, kp_lt hkp (fun y hy => by rcases hy with rfl | rfl <;> assumption), hst.bw, fun u' hu' => ?_⟩
  refine (hst.radd u' b hu' hy (by omega)).mono ?_
  rintro e w2 ⟨x2, er2, vL2, S2, rfl, ha2, hl2, hlo2, hst2, hkp2, hg2, hss2⟩
  obtain ⟨rfl, rfl, rfl⟩ := ha.same ha2
  have hw1 := hkp.size
  refine ⟨rfl, S2, kp_lt hkp2 (fun y hy => by rcases hy with rfl | hy; exact l3; exact l4 y hy), ⟨m, c', low', N', D', vL2, hst2, by omega, by omega, by omega, hlo2 h5⟩, fun w3 hk3 => ⟨m, c', low', N', D', vL2, hst2.keep hk3 (fun x hx => Nat.le_trans h1.bw.size hx.1) (fun h => by omega) (fun h => by omega) (fun h => by omega) (fun g hg h => ?_) (fun i b' v hT hb' hat g hg h => ?_) (fun s hs b0 hs1 g hg h => ?_), by omega, by omega, by omega, hlo2 h5⟩⟩
  · rcases hg2 g hg with h9 | h9
    · have := l4 g h9; omega
    · omega
  · rcases hvv i b' v hT hat g hg with ⟨q1, q2⟩ | q1
    · obtain ⟨B, hp, _⟩ := h1.hp
      obtain ⟨v2, _, h22, h23, _⟩ := hp.mp.yes i b' q1
      have e1 : v = v2 := by have := (h22 .nil).symm.trans q2; injection this with this; exact this.symm
      subst e1
      obtain ⟨ao, cap, rfl, hcap, hnil, hcell⟩ := h23
      cases ao with
      | none => cases hg
      | some ad =>
        obtain rfl : ad.block = g := by simpa [Value.ownBlock] using hg
        have hc := hcell ad rfl 0 (by cases b' with | nil => exact absurd rfl hb' | cons _ _ => simp)
        have e : (ad.add 0).block = ad.block := by unfold Addr.add; split <;> rfl
        have h7 := World.block_lt_of_cell? wr _ hc
        rw [e] at h7
        omega
    · omega
  · rcases hss2 s hs with q1 | q1
    · obtain ⟨B', hr, _⟩ := h1.hr
      have := ((hr.good s q1 b0 hs1).2.2.2 g hg).1
      omega
    · have := q1 g hg; omega
theorem Acted6.drops {W wr w : World} {k p p' : Nat} {S : List SV} (h : Acted6 W wr k p p' S) (hb : Below wr.heap.size wr w) (hk : k ≤ 100) (i : Int) (h0 : -9223372036854775808 ≤ i) (h1 : i ≤ 9223372036854775807) :
    Calls Tryd.prog 11 #[.pointer (some ⟨p, 0, none⟩), .int .i64 i] w fun e w1 => ∃ er, e = .returned (.int .i64 er) ∧ Kp (fun y => y < wr.heap.size) w w1 ∧
      Calls Tryd.prog 12 #[.pointer (some ⟨p', 0, none⟩), .int .i64 i] w1 fun e w2 => e = .returned (.int .i64 er) ∧ ∃ S', Kp (fun y => y < wr.heap.size) w1 w2 ∧ Acted6 W w2 (k + 1) p p' S' := by
  obtain ⟨m, c, low, N, D, vL, h1', h2, h3, h4, h5⟩ := h
  obtain ⟨l1, l2, l3, l4⟩ := h1'.lt
  refine ((h1'.below hb).pdrop i h0 h1).mono ?_
  rintro e w1 ⟨er, c', low', T', D', rfl, ha, hc', hst, hkp⟩
  refine ⟨er, rfl, kp_lt hkp (fun y hy => by rcases hy with rfl | rfl <;> assumption), ?_⟩
  refine (hst.rdrop (by omega) i h0 h1).mono ?_
  rintro e w2 ⟨er2, vL2, S2, rfl, ha2, hl2, hlo2, hst2, hkp2⟩
  obtain ⟨rfl, rfl⟩ := ha.same ha2
  exact ⟨rfl, S2, kp_lt hkp2 (fun y hy => by rcases hy with rfl | hy; exact l3; exact l4 y hy), m, c', low', N, D', vL2, hst2, by omega, by omega, by omega, hlo2 h5⟩
/-- Both Gets. -/
theorem Acted6.gets {W w : World} {k p p' : Nat} {S : List SV} (h : Acted6 W w k p p' S) (hk : k ≤ 100) (i : Int) (h0 : -9223372036854775808 ≤ i) (h1 : i ≤ 9223372036854775807) :
    ∃ (er : Int) (b : List Int), (∀ w', Below w.heap.size w w' → Calls Tryd.prog 9 #[.pointer (some ⟨p, 0, none⟩), .int .i64 i] w' fun e w1 => ∃ ao n cap, e = .returned (.tuple #[.slice ao n cap, .int .i64 er]) ∧ Bs w1 (.slice ao n cap) b ∧ Below w'.heap.size w' w1) ∧
      (∀ w', Below w.heap.size w w' → Calls Tryd.prog 10 #[.pointer (some ⟨p', 0, none⟩), .int .i64 i] w' fun e w1 => ∃ ao n cap, e = .returned (.tuple #[.slice ao n cap, .int .i64 er]) ∧ Bs w1 (.slice ao n cap) b ∧ Below w'.heap.size w' w1) := by
  obtain ⟨m, c, low, N, D, vL, h1', h2, h3, h4, h5⟩ := h
  obtain ⟨B, hp, _⟩ := h1'.hp
  obtain ⟨B', hr, _⟩ := h1'.hr
  cases hT : tS S i with
  | none =>
    refine ⟨10, [], fun w' hb => (hget_none (hp.below hb) i h0 h1 hT).mono ?_, fun w' hb => (refGet6_none (hr.below hb) (by omega) i h0 h1 hT).mono ?_⟩
    · rintro e w1 ⟨rfl, rfl⟩; exact ⟨none, 0, 0, rfl, Bs.nil _, Below.refl _ _⟩
    · rintro e w1 ⟨rfl, rfl⟩; exact ⟨none, 0, 0, rfl, Bs.nil _, Below.refl _ _⟩
  | some b =>
    refine ⟨0, b, fun w' hb => (hget_some (hp.below hb) i h0 h1 b hT).mono ?_, fun w' hb => (refGet6_some (hr.below hb) (by omega) i b hT).mono ?_⟩
    · rintro e w1 ⟨ao, cap, rfl, ho, hb⟩; exact ⟨ao, _, cap, rfl, ho.bs, hb⟩
    · rintro e w1 ⟨ao, cap, rfl, ho, hb⟩; exact ⟨ao, _, cap, rfl, ho.bs, hb⟩
/-- Bytes, then Load. -/
theorem Acted6.loads {W w : World} {k p p' : Nat} {S : List SV} (h : Acted6 W w k p p' S) (hk : k ≤ 100) (ht : Tab W) :
    Calls Tryd.prog 14 #[.pointer (some ⟨p, 0, none⟩)] w fun e w1 => ∃ v, e = .returned v ∧ Calls Tryd.prog 13 #[v] w1 fun e w2 => ∃ p2, e = .returned (.tuple #[.pointer (some ⟨p2, 0, none⟩), .int .i64 0]) ∧ Acted6 W w2 k p2 p' S := by
  obtain ⟨m, c, low, N, D, vL, h1, h2, h3, h4, h5⟩ := h
  obtain ⟨B, hp, _⟩ := h1.hp
  refine (hbytes_any hp (by omega) (by omega) _ (idsN_ids hp.bd) (ht.below h1.bw)).mono ?_
  rintro e w1 ⟨g, rfl, _, hr, hb⟩
  refine ⟨_, rfl, ((h1.below hb).pload (ht.below (h1.below hb).bw) (by omega) (by omega) _ hr.whole).mono ?_⟩
  rintro e w2 ⟨p2, m2, D2, rfl, hst⟩
  exact ⟨p2, rfl, m2, c, 0, N, D2, vL, hst, h2, h3, h4, h5⟩

set_option maxHeartbeats 8000000 in
theorem heapActs_walk (v : Value) (qs : List HAct) (W : World) (hT : Tab W) (hA : HAs W v qs) :
    Calls Tryd.prog 3 #[v] W fun e W' => e = .returned (.bool true) ∧ Below W.heap.size W W' := by
  obtain ⟨i0, hi, hz0, hz1, hz2⟩ := info_parts Tryd.info5
  have HT : Hid (Tab W) := hT
  obtain ⟨n, HN⟩ : ∃ n, Hid (qs.length = n) := ⟨_, rfl⟩
  obtain ⟨ao, cap, rfl, hcap, hcm, hcell⟩ := hA
  rw [HN.out] at hcap ⊢
  have HC : Hid (∀ i a, qs[i]? = some a → a.ok W ∧ ∃ g o, ao = some ⟨g, o, none⟩ ∧ W.cell? ⟨g, o + i * 3, none⟩ = some (.int .i64 a.ki) ∧ W.cell? ⟨g, o + i * 3 + 1, none⟩ = some (.int .i64 a.id) ∧ W.cell? ⟨g, o + i * 3 + 2, none⟩ = some a.v) := hcell
  have HNW : Hid _ := hnew_any W
  have hcmm : cap ≤ 9223372036854775807 := by have := hcm; unfold maxLen at this; omega
  clear hcell hT hcm
  go_enter Tryd.func3, Tryd.ntmps3
  go_wp2_with (go_at_call 6; refine Calls.mono HNW.out ?_; rintro e w1 ⟨rfl, hp1, hb1⟩; have HP1 : Hid _ := hp1; have HB1 : Hid (Below W.heap.size W w1) := hb1; clear hp1 hb1)
  have HS0 : Hid (Acted6 W (w1.alloc (.cells #[.slice none 0 0] 28)) 0 (W.heap.size + 1) w1.heap.size []) := by
    have hs := HB1.out.size
    have hbl : Below w1.heap.size w1 (w1.alloc (.cells #[.slice none 0 0] 28)) := (Below.refl _ _).alloc (Nat.le_refl _) _
    have hTS : tS [] = fun _ => none := by funext i; simp [tS]
    refine ⟨_, 0, 0, 0, _, .slice none 0 0, ⟨⟨_, by rw [hTS]; exact HP1.out.below hbl, Nat.le_refl _, by simp; omega⟩, ⟨w1.heap.size, ⟨heap_alloc_new w1 _, World.ownsRow_nil _ _ _ _, (fun s hs => by cases hs), (fun s hs => by cases hs), Nat.le_refl _, (fun e => by cases e)⟩, hs, by simp⟩, ?_, HB1.out.alloc HB1.out.size _⟩, Nat.le_refl _, Nat.le_refl _, Nat.le_refl _, fun s hs => by cases hs⟩
    intro i b v h1
    simp [tS] at h1
  obtain ⟨p', Hp'⟩ : ∃ p', Hid (w1.heap.size = p') := ⟨_, rfl⟩
  rw [Hp'.out] at HS0 ⊢
  clear HNW HP1 HB1
  go_loopw [3, 5] (fun h x wr => ∃ (k p : Nat) (S : List SV), k ≤ n ∧ k ≤ 40 ∧ x = .int .i64 (k : Int) ∧ h = .pointer (some ⟨p, 0, none⟩) ∧ Hid (Acted6 W wr k p p' S)) (fun _ x _ => 40 - (intOf x).toNat)
  case atStart => exact ⟨0, _, [], Nat.zero_le _, Nat.zero_le _, by simp, rfl, HS0.out⟩
  case round =>
    obtain ⟨k, p, S, hk, hk40, rfl, rfl, HS⟩ := hrel
    have HLV : Hid (∀ w, Below W.heap.size W w → Calls Tryd.prog 16 #[] w fun e w' => e = .returned (.bool true) ∧ Below W.heap.size W w') := fun w hw => (lives6_any w (HT.out.below hw)).mono (fun e w' ⟨h1, h2⟩ => ⟨h1, hw.trans (h2.mono hw.size)⟩)
    by_cases hlt : k < n
    · by_cases h40 : k < 40
      · clear HLV HS0
        obtain ⟨a, ha⟩ : ∃ a, qs[k]? = some a := ⟨qs[k]'(by rw [HN.out]; exact hlt), List.getElem?_eq_getElem _⟩
        obtain ⟨hok, g, o, rfl, ca, cb, cc⟩ := HC.out k a ha
        have HOK : Hid (a.ok W) := hok
        have hbw := HS.out.bw
        have d1 := cell_later hbw ca
        have d2 := cell_later hbw cb
        have d3 := cell_later hbw cc
        obtain ⟨ki, id, va, l⟩ := a
        have HBS : Hid (Bs W va l) := HOK.out.bs
        have hlen := HOK.out.len
        have hid := HOK.out.bid
        obtain ⟨ax, cx, hva, hcx, _, _⟩ := HOK.out.bs
        obtain ⟨m, HM⟩ : ∃ m, Hid (l.length = m) := ⟨_, rfl⟩
        simp only at hva hlen hid d1 d2 d3 hcx
        rw [HM.out] at hva hlen hcx
        subst hva
        have HAL : Hid (∀ w' k' p2 S', k' ≤ 100 → Acted6 W w' k' p2 p' S' → Calls Tryd.prog 15 #[.pointer (some ⟨p2, 0, none⟩), .pointer (some ⟨p', 0, none⟩)] w' fun e w'' => e = .returned (.bool true) ∧ Acted6 W w'' k' p2 p' S') := fun w' k' p2 S' hk' h => h.alike hk' HT.out
        clear ha hok hbw ca cb cc HC
        have HBX : Hid (Below wr.heap.size wr (wr.alloc (.cells #[.int .i64 ki, .int .i64 id, .slice ax m cx] 31))) := (Below.refl _ _).alloc (Nat.le_refl _) _
        have HCX : Hid ((wr.alloc (.cells #[.int .i64 ki, .int .i64 id, .slice ax m cx] 31)).heap[wr.heap.size]? = some (.cells #[.int .i64 ki, .int .i64 id, .slice ax m cx] 31 (0, 0))) := heap_alloc_new wr _
        have HX1 : Hid ((wr.alloc (.cells #[.int .i64 ki, .int .i64 id, .slice ax m cx] 31)).cell? ⟨wr.heap.size, 1, none⟩ = some (.int .i64 id)) := by unfold Hid; simp only [World.cell?, HCX.out]; rfl
        have HX2 : Hid ((wr.alloc (.cells #[.int .i64 ki, .int .i64 id, .slice ax m cx] 31)).cell? ⟨wr.heap.size, 2, none⟩ = some (.slice ax m cx)) := by unfold Hid; simp only [World.cell?, HCX.out]; rfl
        by_cases k0 : ki = 0
        · subst k0
          obtain ⟨X, HXW⟩ : ∃ X, Hid (wr.alloc (.cells #[.int .i64 0, .int .i64 id, .slice ax m cx] 31) = X) := ⟨_, rfl⟩
          rw [HXW.out] at HBX HCX HX1 HX2
          have HXB : Hid (wr.heap.size < X.heap.size) := (Array.getElem?_eq_some_iff.1 HCX.out).1
          have x2 := HX2.out
          have HBSX : Hid (Bs X (.slice ax m cx) l) := HBS.out.below (HS.out.bw.trans (HBX.out.mono HS.out.bw.size))
          have HY : Hid (Byt l) := HOK.out.byt
          have x2a : (X.alloc (.cells #[] 5)).cell? ⟨wr.heap.size, 2, none⟩ = some (.slice ax m cx) := cell_later ((Below.refl _ X).alloc (Nat.le_refl _) _) x2
          go_upto_region 10 with fail
          rw [HXW.out]
          go_upto_region 11 with (first
            | (at_builtin; refine wpList_append_bytes _ rfl (.tmp 41) (.tmp 43) 29 rfl i0 Tryd.underlying29 hi hz0 hz1 hz2 X.heap.size _ _ [] l rfl rfl (Own.empty _ _ (Nat.le_refl _)) (HBSX.out.below ((Below.refl _ X).alloc (Nat.le_refl _) _)) (by rw [HM.out]; simp; omega) X ((Below.refl _ X).alloc (Nat.le_refl _) _) (by simp) ?_; intro aoa capa w2 hoa hba _ _; simp only [List.length_nil, Nat.zero_add, List.nil_append, HM.out] at hoa ⊢; have HOA : Hid (Own w2 X.heap.size (.slice aoa m capa) l) := hoa; have HBA : Hid (Below X.heap.size X w2) := hba; clear hoa hba)
            | (at_builtin; refine wpList_append_bytes _ rfl (.tmp 44) (.tmp 45) 29 rfl i0 Tryd.underlying29 hi hz0 hz1 hz2 X.heap.size _ _ l [90] rfl rfl (HOA.out.alloc _) (Bs.one _ _) (by rw [HM.out]; simp; omega) X (HBA.out.alloc HBA.out.size _) (by have := HBA.out.size; simp; omega) ?_; intro aoi capi w3 hoi hbi hgi hci; simp only [List.length_cons, List.length_nil, Nat.zero_add, HM.out] at hoi hgi hci ⊢; have HOI : Hid (Own w3 X.heap.size (.slice aoi (m + 1) capi) (l ++ [90])) := hoi; have HBI : Hid (Below X.heap.size X w3) := hbi; have HGI : Hid _ := hgi; have hci' := hci; clear hoi hbi hgi hci))
          obtain ⟨gi, rfl, hg1, hg2⟩ := HGI.out (by omega)
          have HG1 : Hid (X.heap.size ≤ gi ∧ gi < w3.heap.size) := ⟨hg1, hg2⟩
          obtain ⟨z, hzz⟩ : ∃ z : Int, (l ++ [90]).getD 0 0 = z := ⟨_, rfl⟩
          have HZ : Hid ((l ++ [90]).getD 0 0 = z) := hzz
          clear hzz
          have x23 := cell_later HBI.out x2
          have HIN : Hid (Bs w3 (.slice (some ⟨gi, 0, none⟩) m capi) l) := by
            have := bs_pre HOI.out.bs m (by simp [HM.out])
            rwa [List.take_left' HM.out] at this
          have HAD : Hid _ := HS.out.adds (HBX.out.trans (HBI.out.mono HBX.out.size)) (by omega) _ l HIN.out HY.out
          have hadd : ∀ w', (Op.stringOp .add (strOfNums l) ⟨#[90]⟩).run Tryd.prog w' = .ok (.string (strOfNums (l ++ [90]))) w' := fun w' => str_add l 90 ⟨#[90]⟩ rfl (by rw [HM.out]; omega) w'
          have hmc : (m : Int) ≤ (capi : Int) := by omega
          have HEX : Hid (∀ w4 w5 : World, Kp (fun y => y < wr.heap.size) w4 w5 → w4.cell? ⟨wr.heap.size, 2, none⟩ = some (.slice ax m cx) → Own w4 X.heap.size (.slice (some ⟨gi, 0, none⟩) (m + 1) capi) (l ++ [90]) → w5.cell? ⟨wr.heap.size, 2, none⟩ = some (.slice ax m cx) ∧ Own w5 X.heap.size (.slice (some ⟨gi, 0, none⟩) (m + 1) capi) (l ++ [90])) := fun w4 w5 h1 h2 h3 => ⟨h1.cell h2 (Nat.lt_irrefl _), ownsRow_kp h3 h1 (fun g' hg' e => by
            have e' : gi = g' := by simpa [Value.ownBlock] using hg'
            have := HG1.out; have := HXB.out; omega)⟩
          clear hg1 hg2 HGI x2 x2a HOA HBA
          go_wp2_with (first
            | (go_at_call 7; refine Calls.mono HAD.out ?_; rintro e w4 ⟨x4, er4, rfl, hk4, hbw4, hr4⟩; obtain ⟨x24, ho4⟩ := HEX.out _ _ hk4 x23 HOI.out; have HO4 : Hid _ := ho4; have HR4 : Hid _ := hr4 (.slice ax m cx) (HBS.out.below hbw4); clear hk4 hbw4 hr4 ho4)
            | (go_at_call 8; refine Calls.mono HR4.out ?_; rintro e w5 ⟨rfl, S5, hk5, hs5, hs6⟩; obtain ⟨x25, ho5⟩ := HEX.out _ _ hk5 x24 HO4.out; have hc5 := Bs.str (P := Tryd.prog) ho5.bs Tryd.underlying29 Tryd.underlying5 Tryd.underlying9; have hc6 := Bs.str (P := Tryd.prog) (HBS.out.below hs5.bw) Tryd.underlying29 Tryd.underlying5 Tryd.underlying9; obtain ⟨hcz, hfz⟩ := ho5.cell (by simp [HM.out]) 0 (by omega); rw [HZ.out] at hcz; have HS6 : Hid _ := hs6; clear hk5 hs5 hs6 ho5)
            | (go_at_call 15; refine (HAL.out _ (k + 1) _ _ (by omega) (HS6.out _ ((Kp.refl (fun y => wr.heap.size ≤ y ∧ y < w3.heap.size) w5).setCell (a := ⟨gi, 0, none⟩) _ (fun _ => ⟨by have := HG1.out; have := HXB.out; show wr.heap.size ≤ gi; omega, HG1.out.2⟩)))).mono ?_; rintro e w7 ⟨rfl, hs7⟩; have HS7 : Hid (Acted6 W w7 (k + 1) p p' S5) := hs7; clear hs7))
          go_roundw
          case rel => exact ⟨k + 1, p, S5, hlt, by omega, by simp, rfl, HS7.out⟩
          case measure => simp [intOf]; omega
        · by_cases k1 : ki = 1
          · subst k1
            obtain ⟨er, bb, hg1, hg2⟩ := HS.out.gets (by omega) id hid.1 hid.2
            have HG1 : Hid _ := hg1
            have HG2 : Hid _ := hg2
            clear hg1 hg2 k0
            go_wp2_with (first
              | (go_at_call 9; refine (HG1.out _ HBX.out).mono ?_; rintro e w2 ⟨ao2, n2, cap2, rfl, hs2, hb2⟩; have HS2 : Hid (Bs w2 (.slice ao2 n2 cap2) bb) := hs2; have HB2 : Hid (Below wr.heap.size wr w2) := HBX.out.trans (hb2.mono HBX.out.size); have hcx2 : w2.cell? ⟨wr.heap.size, 1, none⟩ = some (.int .i64 id) := cell_later hb2 HX1.out; clear hs2 hb2)
              | (go_at_call 10; refine (HG2.out _ HB2.out).mono ?_; rintro e w3 ⟨ao3, n3, cap3, rfl, hs3, hb3⟩; have hc2 := Bs.str (P := Tryd.prog) (HS2.out.below hb3) Tryd.underlying29 Tryd.underlying5 Tryd.underlying9; have hc3 := Bs.str (P := Tryd.prog) hs3 Tryd.underlying29 Tryd.underlying5 Tryd.underlying9; have HS3 : Hid (Acted6 W w3 k p p' S) := HS.out.below (HB2.out.trans (hb3.mono HB2.out.size)); clear hs3 hb3)
              | (go_at_call 15; refine (HAL.out _ _ _ _ (by omega) HS3.out).mono ?_; rintro e w4 ⟨rfl, hs4⟩; have HS4 : Hid (Acted6 W w4 k p p' S) := hs4; clear hs4))
            go_roundw
            case rel => exact ⟨k + 1, p, S, hlt, by omega, by simp, rfl, HS4.out.mono (by omega)⟩
            case measure => simp [intOf]; omega
          · by_cases k2 : ki = 2
            · subst k2
              have HDR : Hid _ := HS.out.drops (HBX.out.drew) (by omega) id hid.1 hid.2
              have x1 := HX1.out
              have HXL : Hid (wr.heap.size < (wr.alloc (.cells #[.int .i64 2, .int .i64 id, .slice ax m cx] 31)).heap.size) := (Array.getElem?_eq_some_iff.1 HCX.out).1
              have HKX : Hid (∀ w1 w2 : World, Kp (fun y => y < wr.heap.size) w1 w2 → w1.cell? ⟨wr.heap.size, 1, none⟩ = some (.int .i64 id) → w2.cell? ⟨wr.heap.size, 1, none⟩ = some (.int .i64 id)) := fun w1 w2 h hc => h.cell hc (Nat.lt_irrefl _)
              clear k0 k1
              go_upto_region 22 with fail
              go_cut [123] (fun t wc => t = .bool false ∧ ∃ S', Hid (Acted6 W wc (k + 1) p p' S'))
              case first =>
                clear HAL
                go_region_held (fun w' => w'.cell? ⟨wr.heap.size, 1, none⟩ = some (.int .i64 id)) (first | assumption | exact x1) (first | (go_at_call 11; refine Calls.mono HDR.out ?_; rintro e w4 ⟨er4, rfl, hk4, hr4⟩; have x14 := HKX.out _ _ hk4 x1; have HR4 : Hid _ := hr4; clear hk4 hr4) | (go_at_call 12; refine Calls.mono HR4.out ?_; rintro e w5 ⟨rfl, S5, hk5, hs5⟩; have x15 := HKX.out _ _ hk5 x14; have HS5 : Hid (Acted6 W w5 (k + 1) p p' S5) := hs5; clear hk5 hs5))
                all_goals (go_wp2_with fail; go_meet; exact ⟨rfl, S5, HS5.out⟩)
              case rest =>
                obtain ⟨rfl, S', HS3⟩ := hcut
                go_wp2_with (go_at_call 15; refine (HAL.out _ _ _ _ (by omega) HS3.out).mono ?_; rintro e w4 ⟨rfl, hs4⟩; have HS4 : Hid (Acted6 W w4 (k + 1) p p' S') := hs4; clear hs4)
                go_roundw
                case rel => exact ⟨k + 1, p, S', hlt, by omega, by simp, rfl, HS4.out⟩
                case measure => simp [intOf]; omega
            · by_cases k3 : ki = 3
              · subst k3
                have HLD : Hid _ := (HS.out.below HBX.out).loads (by omega) HT.out
                clear k0 k1 k2
                go_wp2_with (first
                  | (go_at_call 14; refine Calls.mono HLD.out ?_; rintro e w2 ⟨v2, rfl, hl2⟩; have HL2 : Hid _ := hl2; clear hl2)
                  | (go_at_call 13; refine Calls.mono HL2.out ?_; rintro e w3 ⟨p2, rfl, hs3⟩; have HS3 : Hid (Acted6 W w3 k p2 p' S) := hs3; clear hs3)
                  | (go_at_call 15; refine (HAL.out _ _ _ _ (by omega) HS3.out).mono ?_; rintro e w4 ⟨rfl, hs4⟩; have HS4 : Hid (Acted6 W w4 k p2 p' S) := hs4; clear hs4))
                go_roundw
                case rel => exact ⟨k + 1, p2, S, hlt, by omega, by simp, rfl, HS4.out.mono (by omega)⟩
                case measure => simp [intOf]; omega
              · have e0 : (ki == 0) = false := by simp [k0]
                have e1 : (ki == 1) = false := by simp [k1]
                have e2 : (ki == 2) = false := by simp [k2]
                have e3 : (ki == 3) = false := by simp [k3]
                have HS3 : Hid (Acted6 W _ k p p' S) := HS.out.below HBX.out
                clear k0 k1 k2 k3
                go_wp2_with (go_at_call 15; refine (HAL.out _ _ _ _ (by omega) HS3.out).mono ?_; rintro e w4 ⟨rfl, hs4⟩; have HS4 : Hid (Acted6 W w4 k p p' S) := hs4; clear hs4)
                go_roundw
                case rel => exact ⟨k + 1, p, S, hlt, by omega, by simp, rfl, HS4.out.mono (by omega)⟩
                case measure => simp [intOf]; omega
      · obtain rfl : k = 40 := by omega
        go_wp2_with (go_at_call 16; refine (HLV.out _ HS.out.bw).mono ?_; rintro e w3 ⟨rfl, hb3⟩)
        go_ret
        exact ⟨rfl, by assumption⟩
    · obtain rfl : k = n := by omega
      go_wp2_with (go_at_call 16; refine (HLV.out _ HS.out.bw).mono ?_; rintro e w3 ⟨rfl, hb3⟩)
      go_ret
      exact ⟨rfl, by assumption⟩
end Go.Proofs.YtpkbdpbggmiolaaDoor
