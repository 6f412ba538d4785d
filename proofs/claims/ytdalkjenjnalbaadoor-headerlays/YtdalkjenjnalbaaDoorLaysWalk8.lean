/-
  What HeaderLays wants beside: copies by append; blocks whose bytes are written over, and what that leaves. No conditions.
  The walk of HeaderLays. Conditions: none but what memory bears; the two listed variables stand.
-/
import Derived.Test.YtdalkjenjnalbaaDoorERefA
import Derived.Test.YtdalkjenjnalbaaDoorGAppS
import Derived.Test.YtdalkjenjnalbaaDoorERef
namespace Go.Proofs.YtdalkjenjnalbaaDoor
open Go.RowKit
set_option linter.unusedVariables false
set_option maxRecDepth 100000

theorem Tryd.infoAM : (Tryd.prog.info? 56).map (fun i => (i.zero, i.size, i.bytes)) = some (some (.agg #[.int .i64 0, .slice none 0 0]), 2, 32) := by kernel_rfl
theorem Tryd.infoAX : (Tryd.prog.info? 49).map (fun i => (i.zero, i.size, i.bytes)) = some (some (.agg #[.int .i64 0, .int .i64 0]), 2, 16) := by kernel_rfl
theorem rd_of_ms {w : World} {v : Value} {l : List Msg} (h : Ms w v l) (hn : ∀ n cap, v = .slice none n cap → cap = 0) : Rd w v l.length 2 (gc encM l) := by
  obtain ⟨ao, cap, rfl, hc, hcell⟩ := h
  refine ⟨gc_length encM_len l, ?_⟩
  cases ao with
  | none =>
    have h0 := hn _ _ rfl
    have hl : l.length = 0 := by omega
    exact .inl ⟨by rw [hl, h0], hl⟩
  | some ad =>
    refine .inr ⟨ad, cap, rfl, fun j y hy => ?_⟩
    have hj : j < l.length * 2 := by have := (List.getElem?_eq_some_iff.1 hy).1; rwa [gc_length encM_len] at this
    obtain ⟨m, hm⟩ : ∃ m, l[j / 2]? = some m := ⟨l[j / 2]'(by omega), List.getElem?_eq_getElem _⟩
    obtain ⟨_, g, o, ha, c1, c2⟩ := hcell _ m hm
    obtain rfl := Option.some.inj ha
    rw [addG]
    rcases Nat.mod_two_eq_zero_or_one j with h2 | h2
    · have h3 := gc_at encM_len l (j / 2) m hm 0 _ rfl
      rw [show j / 2 * 2 + 0 = j by omega, hy] at h3
      obtain rfl := Option.some.inj h3
      rw [show o + j = o + j / 2 * 2 by omega]
      exact c1
    · have h3 := gc_at encM_len l (j / 2) m hm 1 _ rfl
      rw [show j / 2 * 2 + 1 = j by omega, hy] at h3
      obtain rfl := Option.some.inj h3
      rw [show o + j = o + j / 2 * 2 + 1 by omega]
      exact c2
theorem rd_of_xs {w : World} {v : Value} {l : List Ext} (h : Xs w v l) : Rd w v l.length 2 (ecells l) := by
  obtain ⟨ao, cap, rfl, hc, hn, hcell⟩ := h
  refine ⟨ecells_length l, ?_⟩
  cases ao with
  | none =>
    have h0 := hn rfl
    have hl : l.length = 0 := by omega
    exact .inl ⟨by rw [hl, h0], hl⟩
  | some ad => exact .inr ⟨ad, cap, rfl, hcell ad rfl⟩
theorem gcM_one (l : List Msg) (hb : ∀ (i : Nat) (m : Msg), l[i]? = some m → ∃ ao n cap, m.2.1 = .slice ao n cap) : ∀ y ∈ gc encM l, y.oneCell' = true := by
  intro y hy
  obtain ⟨m, hm, hy⟩ := List.mem_flatMap.1 hy
  obtain ⟨i, hi⟩ := List.getElem?_of_mem hm
  obtain ⟨ao, n, cap, e⟩ := hb i m hi
  simp only [encM, e, List.mem_cons, List.not_mem_nil, or_false] at hy
  rcases hy with rfl | rfl <;> rfl
theorem below_growE {w W w1 : World} {r : Option Nat} (hb : Below w.heap.size w W) (hg : W.grownBy w1 r) (hr : ∀ k, r = some k → w.heap.size ≤ k) : Below w.heap.size w w1 :=
  ⟨hg.os.trans hb.os, hg.tape.trans hb.tape, hg.output.trans hb.output, Nat.le_trans hb.size hg.size, fun x hx => (hg.block x (Nat.lt_of_lt_of_le hx hb.size) (fun e => by have := hr x e.symm; omega)).trans (hb.block x hx)⟩
theorem empty_row (w : World) (B : Nat) (T : TypeId) (k : Nat) (hB : B ≤ w.heap.size) : (w.alloc (.cells #[] T)).ownsRow B T k (.slice (some ⟨w.heap.size, 0, none⟩) 0 0) 0 [] :=
  ⟨by simp, .inr ⟨w.heap.size, 0, #[], rfl, hB, heap_alloc_new w _, Nat.le_refl _, by simp, by simp, by simp⟩⟩
/-- The blocks that hold the bytes of blocks. -/
def FB (L : List Blk) (g : Nat) : Prop := ∃ b ∈ L, b.2.1.ownBlock = some g
def Sh (L M : List Blk) : Prop := M.length = L.length ∧ ∀ (i : Nat) (a b : Blk), L[i]? = some a → M[i]? = some b → a.1 = b.1 ∧ a.2.1 = b.2.1 ∧ a.2.2.length = b.2.2.length
/-- Blocks whose bytes may have been written over since the world wD. -/
def Spl (wD : World) (B : Nat) (v : Value) (L : List Blk) (wr : World) : Prop := ∃ M, Sh L M ∧ BkS wr B v M ∧ Kp (FB L) wD wr
theorem Spl.start {w : World} {B : Nat} {v : Value} {L : List Blk} (h : BkS w B v L) : Spl w B v L w :=
  ⟨L, ⟨rfl, fun i a b ha hb => by rw [ha] at hb; obtain rfl := Option.some.inj hb; exact ⟨rfl, rfl, rfl⟩⟩, h, Kp.refl _ _⟩
theorem Spl.drew {w wr : World} {B : Nat} {v : Value} {L : List Blk} (h : Spl w B v L wr) : Spl w B v L wr.drew := by
  obtain ⟨M, h1, h2, h3⟩ := h
  exact ⟨M, h1, h2.below (Below.refl _ _).drew, h3.drew⟩
theorem Spl.keep {w wr : World} {B : Nat} {v : Value} {L : List Blk} (h : Spl w B v L wr) : Kp (FB L) w wr := by
  obtain ⟨M, h1, h2, h3⟩ := h
  exact h3
theorem Spl.at_ {w wr : World} {B : Nat} {v : Value} {L : List Blk} (h : Spl w B v L wr) {i : Nat} {b : Blk} (hb : L[i]? = some b) : ∃ g cap gb capb, v = .slice (some ⟨g, 0, none⟩) L.length cap ∧ wr.cell? ⟨g, i * 2 + 1, none⟩ = some (.slice gb b.2.2.length capb) ∧ b.2.1 = .slice gb b.2.2.length capb ∧
    ∀ k, k < b.2.2.length → ∃ gx, gb = some ⟨gx, 0, none⟩ ∧ (∃ u, wr.cell? ⟨gx, k, none⟩ = some (.int .u8 u)) ∧ wr.frozen? ⟨gx, k, none⟩ = false ∧ ∀ z, Spl w B v L (wr.setCell ⟨gx, k, none⟩ (.int .u8 z)) := by
  obtain ⟨M, hS, hK, hP⟩ := h
  obtain ⟨ao, cap, hv, hc⟩ := hK.cells
  have hi := (List.getElem?_eq_some_iff.1 hb).1
  obtain ⟨c, hM⟩ : ∃ c, M[i]? = some c := ⟨M[i]'(by rw [hS.1]; exact hi), List.getElem?_eq_getElem _⟩
  obtain ⟨e1, e2, e3⟩ := hS.2 i b c hb hM
  obtain ⟨g, gb, capb, ha, c1, c2, c3⟩ := hc i c hM
  subst ha
  rw [← e3] at c2 c3
  rw [← e2] at c3
  refine ⟨g, cap, gb, capb, by rw [hv, hS.1], c2, c3, fun k hk => ?_⟩
  have hmem : byR c ∈ rowBk v M :: M.map byR := List.mem_cons_of_mem _ (List.mem_map.2 ⟨c, List.mem_of_getElem? hM, rfl⟩)
  have hown : wr.ownsRow B 5 1 c.2.1 c.2.2.length (bcells c.2.2) := hK.at_ _ hmem
  rcases ownsRow_shape hown with ⟨_, h0⟩ | ⟨gx, cap9, hv9, hB9, hlt9, _, _, hfz, hcell⟩
  · omega
  · rw [← e2, c3] at hv9
    injection hv9 with a1 a2 a3
    refine ⟨gx, a1, ⟨c.2.2.getD k 0, hcell k _ ?_⟩, hfz k, fun z => ?_⟩
    · have hk' : k < c.2.2.length := by omega
      simp [bcells, hk', List.getD]
    · have hl9 : c.2.2.length = b.2.2.length := e3.symm
      refine ⟨M.set i (c.1, c.2.1, c.2.2.set k z), ⟨by rw [List.length_set]; exact hS.1, fun j p q hp hq => ?_⟩, ?_, ?_⟩
      · by_cases hj : j = i
        · subst hj
          rw [hb] at hp
          obtain rfl := Option.some.inj hp
          rw [List.getElem?_set_self (by rw [hS.1]; exact hi)] at hq
          obtain rfl := Option.some.inj hq
          exact ⟨e1, e2, by simp [e3]⟩
        · rw [List.getElem?_set_ne (fun e => hj e.symm)] at hq
          exact hS.2 j p q hp hq
      · have hsplit : M = M.take i ++ c :: M.drop (i + 1) := by
          have h1 := List.getElem?_eq_some_iff.1 hM
          obtain ⟨h2, h3⟩ := h1
          rw [← h3, List.getElem_cons_drop, List.take_append_drop]
        have hset : M.set i (c.1, c.2.1, c.2.2.set k z) = M.take i ++ (c.1, c.2.1, c.2.2.set k z) :: M.drop (i + 1) := by
          rw [List.set_eq_take_append_cons_drop, if_pos (by rw [hS.1]; exact hi)]
        have hrow : rowBk v (M.set i (c.1, c.2.1, c.2.2.set k z)) = rowBk v M := by
          unfold rowBk
          rw [List.length_set, hset]
          congr 1
          conv => rhs; rw [hsplit]
          simp [gc, encBk]
        have hsep : Sep wr B ((rowBk v M :: (M.take i).map byR) ++ byR c :: (M.drop (i + 1)).map byR) := by
          have h9 := hK
          unfold BkS at h9
          rw [show M.map byR = (M.take i).map byR ++ byR c :: (M.drop (i + 1)).map byR by have h8 := congrArg (List.map byR) hsplit; rw [List.map_append, List.map_cons] at h8; exact h8] at h9
          simpa using h9
        have hbc : byR c = .row 5 1 (.slice (some ⟨gx, 0, none⟩) c.2.2.length capb) c.2.2.length (bcells c.2.2) := by
          unfold byR
          rw [← e2, c3, a1, e3]
        rw [hbc] at hsep
        have h8 := hsep.storeRow (rowBk v M :: (M.take i).map byR) k (.int .u8 z)
        unfold BkS
        rw [hrow, hset, List.map_append, List.map_cons]
        have hbz : byR (c.1, c.2.1, c.2.2.set k z) = .row 5 1 (.slice (some ⟨gx, 0, none⟩) c.2.2.length capb) c.2.2.length ((bcells c.2.2).set k (.int .u8 z)) := by
          unfold byR
          simp only
          rw [← e2, c3, a1, e3, List.length_set]
          simp [bcells, List.map_set]
        rw [hbz]
        simpa using h8
      · refine hP.setCell _ (fun hlt => ⟨b, List.mem_of_getElem? hb, ?_⟩)
        rw [c3, a1]
        rfl
theorem Sep.kp {w w' : World} {B : Nat} {ps : List Pc} {F : Nat → Prop} (h : Sep w B ps) (hk : Kp F w w') (hF : ∀ x ∈ ps.flatMap Pc.blk, ¬ F x) : Sep w' B ps :=
  ⟨fun p hp => (h.at_ p hp).keep (fun x hx => hk.block x ((h.at_ p hp).lt hx).2 (hF x (List.mem_flatMap.2 ⟨p, hp, hx⟩))), h.nd⟩
/-- The bytes' blocks lie within. -/
theorem FB.in_ {w : World} {B : Nat} {v : Value} {L : List Blk} (h : BkS w B v L) {g : Nat} (hg : FB L g) : B ≤ g ∧ g < w.heap.size := by
  obtain ⟨b, hb, e⟩ := hg
  exact (h.at_ (byR b) (List.mem_cons_of_mem _ (List.mem_map.2 ⟨b, hb, rfl⟩))).lt (by simp [byR, Pc.blk, e])
end Go.Proofs.YtdalkjenjnalbaaDoor

namespace Go.Proofs.YtdalkjenjnalbaaDoor
open Go.RowKit
set_option linter.unusedVariables false
set_option maxRecDepth 100000

theorem belTr {a b c : World} (h : Below a.heap.size a b) (k : Below b.heap.size b c) : Below a.heap.size a c := h.trans (k.mono h.size)
def HvL (t : Value) : Prop := ∃ b, t = .bool b
set_option maxHeartbeats 8000000 in
theorem headerLays_walk (v0 : Value) (l : List Msg) (v1 : Value) (r : List Ext) (w : World) (hT : Tab w ∧ NoX w) (b0 : Ms w v0 l) (y0 : MOk l) (z0 : l.length ≤ 4398046510976) (n0 : ∀ n cap, v0 = .slice none n cap → cap = 0) (b1 : Xs w v1 r) (y1 : EWs r) (z1 : r.length ≤ 8796093021952) :
    Calls Tryd.prog 4 #[v0, v1] w fun e w' => e = .returned (.bool true) ∧ Below w.heap.size w w' := by
  obtain ⟨i1, hi1, hy0, hy1, hy2⟩ := info_parts2 Tryd.infoAM
  obtain ⟨i2, hi2, hx0, hx1, hx2⟩ := info_parts2 Tryd.infoAX
  have HHV : Hid _ := heavy_any w v0 v1 l r b0 (by omega) b1 (by omega)
  have HLV : Hid (∀ W, Below w.heap.size w W → Calls Tryd.prog 10 #[] W fun e w' => e = .returned (.bool true) ∧ Below w.heap.size w w') := fun W hW => (lives8_any W (hT.1.below hW) (hT.2.below hW)).mono (by rintro e w' ⟨rfl, hb⟩; exact ⟨rfl, hW.trans (hb.mono hW.size)⟩)
  obtain ⟨rn, HRN⟩ : ∃ rn, Hid (r.length = rn) := ⟨_, rfl⟩
  obtain ⟨ln, HLN⟩ : ∃ ln, Hid (l.length = ln) := ⟨_, rfl⟩
  have HPL : Hid (∀ W, Below w.heap.size w W → Calls Tryd.prog 13 #[v0] W fun e w' => ∃ v', e = .returned v' ∧ Ms w' v' l ∧ Below W.heap.size W w') := fun W hW => plain_any W v0 l (b0.below hW) z0
  have HPC : Hid (∀ W, Below w.heap.size w W → Calls Tryd.prog 17 #[v1] W fun e w' => ∃ v', e = .returned v' ∧ Xs w' v' r ∧ Below W.heap.size W w') := fun W hW => (places_any v1 r W (b1.below hW) (by omega)).mono (by rintro e w' ⟨ao, cap, rfl, ho, hb⟩; exact ⟨_, rfl, ho.xs, hb⟩)
  obtain ⟨le, HLE⟩ : ∃ le, Hid (layErr l r = le) := ⟨_, rfl⟩
  have HLY : Hid (∀ W vo vr, Below w.heap.size w W → Ms W vo l → Xs W vr r → Calls Tryd.prog 15 #[vo, vr] W fun e w' => ∃ v L, e = .returned (.tuple #[v, .int .i64 le]) ∧ L.map plB = layL l r ∧ BkS w' W.heap.size v L ∧ Below W.heap.size W w') := fun W vo vr hW h1 h2 => by
    have := lay_any W vo vr l r h1 y0 (by omega) h2 y1 (by omega) (hT.1.below hW) (hT.2.below hW)
    rwa [HLE.out] at this
  have HRL : Hid (∀ W vo vr, Below w.heap.size w W → Ms W vo l → Xs W vr r → Calls Tryd.prog 16 #[vo, vr] W fun e w' => ∃ v L, e = .returned (.tuple #[v, .int .i64 le]) ∧ L.map plB = layL l r ∧ BkR w' W.heap.size v L ∧ Below W.heap.size W w') := fun W vo vr hW h1 h2 => by
    have := refLay_any W vo vr l r h1 y0 (by omega) h2 y1 (by omega) (hT.1.below hW)
    rwa [HLE.out] at this
  have hlay : (layL l r).length ≤ r.length := by
    unfold layL
    split
    · exact blks_len r (strm l)
    · simp
  have HSB : Hid (∀ W va vb (La Lb : List Blk), Ms W va La → Ms W vb Lb → La.map plB = layL l r → Lb.map plB = layL l r → Calls Tryd.prog 18 #[va, vb] W fun e w' => e = .returned (.bool true) ∧ Below W.heap.size W w') := fun W va vb La Lb h1 h2 h3 h4 => by
    obtain ⟨g1, g2⟩ := same_of_plB (h3.trans h4.symm)
    exact sameBk_yes va vb La Lb W h1 h2 g1 g2 (by have h5 := congrArg List.length h3; rw [List.length_map] at h5; omega)
  have HSM : Hid (∀ W va vb, Ms W va l → Ms W vb l → Calls Tryd.prog 19 #[va, vb] W fun e w' => e = .returned (.bool true) ∧ Below W.heap.size W w') := fun W va vb h1 h2 => sameMs_yes va vb l l W h1 h2 rfl (fun i a b ha hb => by rw [ha] at hb; obtain rfl := Option.some.inj hb; exact ⟨rfl, rfl⟩) (by omega)
  have HSP : Hid (∀ W va vb, Xs W va r → Xs W vb r → Calls Tryd.prog 20 #[va, vb] W fun e w' => e = .returned (.bool true) ∧ Below W.heap.size W w') := fun W va vb h1 h2 => by
    have := samePl_any va vb r r W h1 h2 (by omega) (by omega)
    simpa using this
  have HRD : Hid (∀ W, Below w.heap.size w W → Rd W v0 ln 2 (gc encM l)) := fun W hW => by rw [← HLN.out]; exact rd_of_ms (b0.below hW) n0
  have HRX : Hid (∀ W, Below w.heap.size w W → Rd W v1 rn 2 (ecells r)) := fun W hW => by rw [← HRN.out]; exact rd_of_xs (b1.below hW)
  have HMB : Hid (∀ (i : Nat) (m : Msg), l[i]? = some m → Bs w m.2.1 m.2.2) := fun i m hm => by obtain ⟨_, _, _, _, hc⟩ := b0; exact (hc i m hm).1
  have HON : Hid (∀ y ∈ gc encM l, y.oneCell' = true) := gcM_one l (fun i m hm => by obtain ⟨ao, cap, e, _⟩ := HMB.out i m hm; exact ⟨ao, _, cap, e⟩)
  have HMR : Hid (∀ W v, Below w.heap.size w W → W.ownsRow w.heap.size 56 2 v ln ([] ++ gc encM l) → Ms W v l) := fun W v hW h => ms_of_row HLN.out (by simpa using h) (fun i m hm => (HMB.out i m hm).below hW)
  have HXR : Hid (∀ W B v, W.ownsRow B 49 2 v rn ([] ++ ecells r) → Xs W v r) := fun W B v h => OwnX.xs (B := B) (T := 49) (by unfold OwnX; rw [HRN.out]; simpa using h)
  obtain ⟨ao0, cap0, hv0, _⟩ := b0
  obtain ⟨ao1, cap1, hv1, _⟩ := b1
  subst hv0 hv1
  rw [HRN.out] at HHV HPC HRX z1 ⊢
  rw [HLN.out] at HHV HPL HRD z0 ⊢
  clear hT y0 y1 n0 hlay
  go_enter Tryd.func4, Tryd.ntmps4
  go_upto_region 1 with fail
  go_cut [17] (fun t wc => HvL t ∧ Hid (wc = w))
  case first =>
    go_wp2_with (go_at_call 9; refine Calls.mono HHV.out ?_; rintro e w1 ⟨bh, rfl, hw1⟩; obtain rfl := hw1.symm)
    all_goals go_meet
    all_goals exact ⟨⟨_, rfl⟩, rfl⟩
  case rest =>
    obtain ⟨⟨bh, rfl⟩, hwc⟩ := hcut
    obtain rfl := hwc.out
    clear hwc HHV
    cases bh with
    | true =>
      go_wp2_with (go_at_call 10; refine Calls.mono (HLV.out _ (Below.refl _ _)) ?_; rintro e w8 ⟨rfl, hb8⟩; have HB8 : Hid (Below wc.heap.size wc w8) := hb8; clear hb8)
      go_ret
      exact ⟨rfl, HB8.out⟩
    | false =>
      have HE1 : Hid (Below wc.heap.size wc (wc.alloc (.cells #[] 56))) := (Below.refl _ _).alloc (Nat.le_refl _) _
      go_upto_region 4 with (at_builtin; refine wpList_append_S (wc.alloc (.cells #[] 56)) rfl (.tmp 19) (.tmp 20) 22 rfl 56 i1 Tryd.underlying22 hi1 _ hy0 2 32 hy1 hy2 rfl (by omega) wc.heap.size (.slice (some ⟨wc.heap.size, 0, none⟩) 0 0) (.slice ao0 ln cap0) 0 ln [] (gc encM l) rfl rfl (empty_row wc _ _ _ (Nat.le_refl _)) (HRD.out _ HE1.out) HON.out (by omega) (by omega) HE1.out.size ln (by omega) ?_; intro aoA capA w1 ho1 hg1 ha1; clear ha1; have HB1 : Hid (Below wc.heap.size wc w1) := below_growE HE1.out hg1 (fun k hk => by simp [Value.ownBlock] at hk; omega); have HM1 : Hid (Ms w1 (.slice aoA ln capA) l) := HMR.out _ _ HB1.out ho1; clear ho1 hg1)
      have HE2 : Hid (Below w1.heap.size w1 (w1.alloc (.cells #[] 49))) := (Below.refl _ _).alloc (Nat.le_refl _) _
      have HR2 : Hid (Rd (w1.alloc (.cells #[] 49)) (.slice ao1 rn cap1) rn 2 (ecells r)) := HRX.out _ ((belTr HB1.out HE2.out))
      have HO2 : Hid ((w1.alloc (.cells #[] 49)).ownsRow w1.heap.size 49 2 (.slice (some ⟨w1.heap.size, 0, none⟩) 0 0) 0 []) := empty_row w1 _ _ _ (Nat.le_refl _)
      have HC2 : Hid (∀ y ∈ ecells r, y.oneCell' = true) := ecells_oneCell r
      go_upto_region 5 with (at_builtin; refine wpList_append_S (w1.alloc (.cells #[] 49)) rfl (.tmp 22) (.tmp 23) 34 rfl 49 i2 Tryd.underlying34 hi2 _ hx0 2 16 hx1 hx2 rfl (by omega) w1.heap.size (.slice (some ⟨w1.heap.size, 0, none⟩) 0 0) (.slice ao1 rn cap1) 0 rn [] (ecells r) rfl rfl HO2.out HR2.out HC2.out (by omega) (by omega) HE2.out.size rn (by omega) ?_; intro aoB capB w2 ho2 hg2 ha2; clear ha2; have HB12 : Hid (Below w1.heap.size w1 w2) := below_growE HE2.out hg2 (fun k hk => by simp [Value.ownBlock] at hk; omega); have HB2 : Hid (Below wc.heap.size wc w2) := (belTr HB1.out HB12.out); have HM2 : Hid (Ms w2 (.slice aoA ln capA) l) := HM1.out.below HB12.out; have HX2 : Hid (Xs w2 (.slice aoB rn capB) r) := HXR.out w2 w1.heap.size _ ho2; clear ho2 hg2)
      clear HE2 HR2 HO2 HC2 HE1 HRD HRX HMB HON HMR HXR HB1 HM1 HB12
      go_upto_region 10 with (first
        | (have hg := HBb; clear hg; go_at_call 20; refine Calls.mono (HSP.out _ _ _ (HX2.out.below (HB2b.out)) HXb.out) ?_; rintro e wd ⟨rfl, hbd⟩; have HB2d : Hid (Below w2.heap.size w2 wd) := (belTr HB2b.out hbd); have HB3d : Hid (Below w3.heap.size w3 wd) := (belTr HB3b.out hbd); have HB4d : Hid (Below w4.heap.size w4 wd) := (belTr HB4b.out hbd); have HB7d : Hid (Below w7.heap.size w7 wd) := (belTr HB7b.out hbd); clear hbd)
        | (have hg := HBa; clear hg; go_at_call 17; refine Calls.mono (HPC.out _ ((belTr HB2.out HB2a.out))) ?_; rintro e wb ⟨vb, rfl, hxb, hbb⟩; have HXb : Hid (Xs wb vb r) := hxb; have HBb : Hid True := trivial; have HB2b : Hid (Below w2.heap.size w2 wb) := (belTr HB2a.out hbb); have HB3b : Hid (Below w3.heap.size w3 wb) := (belTr HB3a.out hbb); have HB4b : Hid (Below w4.heap.size w4 wb) := (belTr HB4a.out hbb); have HB7b : Hid (Below w7.heap.size w7 wb) := (belTr HB7a.out hbb); clear hbb hxb)
        | (have hg := HB9; clear hg; go_at_call 19; refine Calls.mono (HSM.out _ _ _ (HM2.out.below HB29.out) HM9.out) ?_; rintro e wa ⟨rfl, hba⟩; have HBa : Hid True := trivial; have HB2a : Hid (Below w2.heap.size w2 wa) := (belTr HB29.out hba); have HB3a : Hid (Below w3.heap.size w3 wa) := (belTr HB39.out hba); have HB4a : Hid (Below w4.heap.size w4 wa) := (belTr HB49.out hba); have HB7a : Hid (Below w7.heap.size w7 wa) := (belTr HB79.out hba); clear hba)
        | (have hg := HB8; clear hg; go_at_call 13; refine Calls.mono (HPL.out _ ((belTr HB2.out HB28.out))) ?_; rintro e w9 ⟨v9, rfl, hm9, hb9⟩; have HM9 : Hid (Ms w9 v9 l) := hm9; have HB9 : Hid True := trivial; have HB29 : Hid (Below w2.heap.size w2 w9) := (belTr HB28.out hb9); have HB39 : Hid (Below w3.heap.size w3 w9) := (belTr HB38.out hb9); have HB49 : Hid (Below w4.heap.size w4 w9) := (belTr HB48.out hb9); have HB79 : Hid (Below w7.heap.size w7 w9) := (belTr HB78.out hb9); clear hb9 hm9)
        | (have hg := HB7; clear hg; go_at_call 18; refine Calls.mono (HSB.out _ _ _ Lx Lw (bks_ms (HK3.out.below HB37.out)) (bkr_ms HK7.out) HL3.out HL7.out) ?_; rintro e w8 ⟨rfl, hb8⟩; have HB8 : Hid True := trivial; have HB28 : Hid (Below w2.heap.size w2 w8) := (belTr HB27.out hb8); have HB38 : Hid (Below w3.heap.size w3 w8) := (belTr HB37.out hb8); have HB48 : Hid (Below w4.heap.size w4 w8) := (belTr HB47.out hb8); have HB78 : Hid (Below w7.heap.size w7 w8) := hb8; clear hb8)
        | (have hg := HB6; clear hg; go_at_call 16; refine Calls.mono (HRL.out _ _ _ ((belTr HB2.out HB26.out)) HM6.out HX6.out) ?_; rintro e w7 ⟨vw, Lw, rfl, hl7, hk7, hb7⟩; have HL7 : Hid (Lw.map plB = layL l r) := hl7; have HK7 : Hid (BkR w7 w6.heap.size vw Lw) := hk7; have HB7 : Hid True := trivial; have HB27 : Hid (Below w2.heap.size w2 w7) := (belTr HB26.out hb7); have HB37 : Hid (Below w3.heap.size w3 w7) := (belTr HB36.out hb7); have HB47 : Hid (Below w4.heap.size w4 w7) := (belTr HB46.out hb7); clear hl7 hk7 hb7)
        | (have hg := HB5; clear hg; go_at_call 17; refine Calls.mono (HPC.out _ ((belTr HB2.out HB25.out))) ?_; rintro e w6 ⟨v6, rfl, hx6, hb6⟩; have HX6 : Hid (Xs w6 v6 r) := hx6; have HM6 : Hid (Ms w6 v5 l) := HM5.out.below hb6; have HB6 : Hid True := trivial; have HB26 : Hid (Below w2.heap.size w2 w6) := (belTr HB25.out hb6); have HB36 : Hid (Below w3.heap.size w3 w6) := (belTr HB35.out hb6); have HB46 : Hid (Below w4.heap.size w4 w6) := (belTr HB45.out hb6); clear hx6 hb6)
        | (have hg := HB4; clear hg; go_at_call 13; refine Calls.mono (HPL.out _ ((belTr HB2.out HB24.out))) ?_; rintro e w5 ⟨v5, rfl, hm5, hb5⟩; have HM5 : Hid (Ms w5 v5 l) := hm5; have HB5 : Hid True := trivial; have HB25 : Hid (Below w2.heap.size w2 w5) := (belTr HB24.out hb5); have HB35 : Hid (Below w3.heap.size w3 w5) := (belTr HB34.out hb5); have HB45 : Hid (Below w4.heap.size w4 w5) := hb5; clear hm5 hb5)
        | (have hg := HB3; clear hg; go_at_call 15; refine Calls.mono (HLY.out _ _ _ ((belTr HB2.out HB23.out)) (HM2.out.below HB23.out) (HX2.out.below HB23.out)) ?_; rintro e w4 ⟨vy, Ly, rfl, hl4, hk4, hb4⟩; have HL4 : Hid (Ly.map plB = layL l r) := hl4; have HK4 : Hid (BkS w4 w3.heap.size vy Ly) := hk4; have HB4 : Hid True := trivial; have HB24 : Hid (Below w2.heap.size w2 w4) := (belTr HB23.out hb4); have HB34 : Hid (Below w3.heap.size w3 w4) := hb4; clear hl4 hk4 hb4)
        | (go_at_call 15; refine Calls.mono (HLY.out _ _ _ HB2.out HM2.out HX2.out) ?_; rintro e w3 ⟨vx, Lx, rfl, hl3, hk3, hb3⟩; obtain ⟨aox, capx, rfl, _⟩ := hk3.cells; have HL3 : Hid (Lx.map plB = layL l r) := hl3; obtain ⟨xn, HXN⟩ : ∃ xn, Hid (Lx.length = xn) := ⟨_, rfl⟩; rw [HXN.out] at hk3; rw [HXN.out]; have HK3 : Hid (BkS w3 w2.heap.size (.slice aox xn capx) Lx) := hk3; have HB3 : Hid True := trivial; have HB23 : Hid (Below w2.heap.size w2 w3) := hb3; clear hl3 hk3 hb3))
      have HEND : Hid (∀ wr, Kp (FB Lx) wd wr → Ms wr vy Ly ∧ Ms wr vw Lw ∧ Ms wr (.slice aoA ln capA) l ∧ Below wc.heap.size wc wr) := fun wr hk => by
        have hF : ∀ x, FB Lx x → w2.heap.size ≤ x ∧ x < w3.heap.size := fun x hx => FB.in_ HK3.out hx
        have hb2 : Below w2.heap.size w2 wr := HB2d.out.trans (hk.below HB2d.out.size (fun x hx => (hF x hx).1))
        have hy := HK4.out.below HB4d.out
        have hw := HK7.out.below HB7d.out
        refine ⟨bks_ms (Sep.kp hy hk (fun x hx hf => ?_)), bkr_ms (Sep.kp hw hk (fun x hx hf => ?_)), HM2.out.below hb2, (belTr HB2.out hb2)⟩
        · have h1 := (Sep.lt hy hx).1
          have h2 := (hF x hf).2
          omega
        · have h1 := (Sep.lt hw hx).1
          have h2 := (hF x hf).2
          have h3 := HB36.out.size
          omega
      have HS0 : Hid (Spl wd w2.heap.size (.slice aox xn capx) Lx wd) := Spl.start (HK3.out.below HB3d.out)
      have HBB : Hid (xn ≤ 281474976710656) := by
        have h5 := congrArg List.length HL3.out
        rw [List.length_map, HXN.out] at h5
        have h6 : (layL l r).length ≤ r.length := by
          unfold layL
          split
          · exact blks_len r (strm l)
          · simp
        rw [HRN.out] at h6
        unfold Hid
        omega
      clear HB2d HB3d HB4d HB7d HB2b HB3b HB4b HB7b HB2a HB3a HB4a HB7a HB29 HB39 HB49 HB79 HB28 HB38 HB48 HB78 HB27 HB37 HB47 HB26 HB36 HB46 HB25 HB35 HB45 HB24 HB34 HB23 HBb HBa HB9 HB8 HB7 HB6 HB5 HB4 HB3 HK3 HK4 HK7 HM2 HX2 HM5 HM6 HX6 HM9 HXb HLY HRL HPC HSP
      go_wp2_with fail
      go_loopw [13] (fun x wr => ∃ i : Nat, i ≤ xn ∧ x = .int .i64 (i : Int) ∧ Hid (Spl wd w2.heap.size (.slice aox xn capx) Lx wr)) (fun x _ => xn - (intOf x).toNat)
      case atStart => exact ⟨0, Nat.zero_le _, rfl, HS0.out⟩
      case round =>
        obtain ⟨i, hin, rfl, HS⟩ := hrel
        have hxb := HBB.out
        by_cases hlt : i < xn
        · obtain ⟨b, hb⟩ : ∃ b, Lx[i]? = some b := ⟨Lx[i]'(by rw [HXN.out]; exact hlt), List.getElem?_eq_getElem _⟩
          obtain ⟨g, cap9, gb, capb, hv9, d0, e9, _⟩ := HS.out.at_ hb
          obtain ⟨bn, HBN⟩ : ∃ bn, Hid (b.2.2.length = bn) := ⟨_, rfl⟩
          injection hv9 with a1 a2 a3
          subst a1
          rw [HBN.out] at d0 e9
          have HAT : Hid (∀ W, Spl wd w2.heap.size (.slice (some ⟨g, 0, none⟩) xn capx) Lx W → W.cell? ⟨g, i * 2 + 1, none⟩ = some (.slice gb bn capb) ∧ ∀ k, k < bn → ∃ gx, gb = some ⟨gx, 0, none⟩ ∧ (∃ u, W.cell? ⟨gx, k, none⟩ = some (.int .u8 u)) ∧ W.frozen? ⟨gx, k, none⟩ = false ∧ ∀ z, Spl wd w2.heap.size (.slice (some ⟨g, 0, none⟩) xn capx) Lx (W.setCell ⟨gx, k, none⟩ (.int .u8 z))) := fun W hW => by
            obtain ⟨g', cap', gb', capb', hv', d', e', hk'⟩ := hW.at_ hb
            rw [HBN.out] at d' e' hk'
            injection hv' with a1 _ _
            injection a1 with a1
            injection a1 with a1
            rw [e9] at e'
            injection e' with a4 a5 a6
            subst a1 a4 a6
            exact ⟨d', hk'⟩
          have HBN2 : Hid (bn ≤ 9223372036854775807) := by
            have h1 := HS.out
            obtain ⟨M, hS, hK, _⟩ := h1
            obtain ⟨c, hM⟩ : ∃ c, M[i]? = some c := ⟨M[i]'(by rw [hS.1, HXN.out]; exact hlt), List.getElem?_eq_getElem _⟩
            obtain ⟨_, _, e3⟩ := hS.2 i b c hb hM
            rw [HBN.out] at e3
            have hown : wr.ownsRow w2.heap.size 5 1 c.2.1 c.2.2.length (bcells c.2.2) := hK.at_ (byR c) (List.mem_cons_of_mem _ (List.mem_map.2 ⟨c, List.mem_of_getElem? hM, rfl⟩))
            unfold Hid
            rcases ownsRow_shape hown with ⟨_, h0⟩ | ⟨_, _, _, _, _, h5, h6, _⟩
            · omega
            · unfold maxLen at h6
              omega
          have hbn := HBN2.out
          have hili : (i : Int) < (xn : Int) := by omega
          clear hb e9 a2 a3 HBN2 d0
          have HSi : Hid (Spl wd w2.heap.size (.slice (some ⟨g, 0, none⟩) xn capx) Lx wr) := HS.out
          clear HS HS0
          go_wp2_with fail
          generalize wr = wo at *
          go_loopw [14] (fun y wr => ∃ k : Nat, k ≤ bn ∧ y = .int .i64 (k : Int) ∧ Hid (Spl wd w2.heap.size (.slice (some ⟨g, 0, none⟩) xn capx) Lx wr)) (fun y _ => bn - (intOf y).toNat)
          case atStart => exact ⟨0, Nat.zero_le _, rfl, HSi.out⟩
          case round =>
            obtain ⟨k, hkn, rfl, HSk⟩ := hrel
            obtain ⟨d1, hk⟩ := HAT.out _ HSk.out
            by_cases hkl : k < bn
            · obtain ⟨gx, rfl, ⟨u, d2⟩, d3, hset⟩ := hk k hkl
              have HSET : Hid _ := hset
              have hkli : (k : Int) < (bn : Int) := by omega
              clear hset hk
              go_wp2_with fail
              go_region
              all_goals
                go_wp2_with fail
                go_roundw
                case rel => exact ⟨k + 1, by omega, by go_num, (HSET.out _).drew⟩
                case measure => simp [intOf]; omega
            · have hkli : ¬ (k : Int) < (bn : Int) := by omega
              clear hk
              go_wp2_with fail
              go_roundw
              case rel => exact ⟨i + 1, by omega, by go_num, HSk.out⟩
              case measure => simp [intOf]; omega
        · obtain ⟨m1, m2, m3, m4⟩ := HEND.out _ HS.out.keep
          have HY : Hid (Ms wr vy Ly) := m1
          have HW : Hid (Ms wr vw Lw) := m2
          have HO : Hid (Ms wr (.slice aoA ln capA) l) := m3
          have HBw : Hid (Below wc.heap.size wc wr) := m4
          have hili : ¬ (i : Int) < (xn : Int) := by omega
          clear m1 m2 m3 m4 HEND HS
          go_wp2_with (first
            | (have hg := HBr; clear hg; go_at_call 10; refine Calls.mono (HLV.out _ HBr.out) ?_; rintro e ws ⟨rfl, hbs⟩; have HBs : Hid (Below wc.heap.size wc ws) := hbs; clear hbs)
            | (have hg := HBq; clear hg; go_at_call 19; refine Calls.mono (HSM.out _ _ _ (HO.out.below HBrq.out) HMq.out) ?_; rintro e wz ⟨rfl, hbz⟩; have HBr : Hid (Below wc.heap.size wc wz) := (belTr HBq.out hbz); clear hbz)
            | (have hg := HBp; clear hg; go_at_call 13; refine Calls.mono (HPL.out _ HBp.out) ?_; rintro e wq ⟨vq, rfl, hmq, hbq⟩; have HMq : Hid (Ms wq vq l) := hmq; have HBq : Hid (Below wc.heap.size wc wq) := (belTr HBp.out hbq); have HBrq : Hid (Below wr.heap.size wr wq) := (belTr HBrp.out hbq); clear hmq hbq)
            | (go_at_call 18; refine Calls.mono (HSB.out _ _ _ Ly Lw HY.out HW.out HL4.out HL7.out) ?_; rintro e wp ⟨rfl, hbp⟩; have HBp : Hid (Below wc.heap.size wc wp) := (belTr HBw.out hbp); have HBrp : Hid (Below wr.heap.size wr wp) := hbp; clear hbp))
          go_ret
          exact ⟨rfl, HBs.out⟩
end Go.Proofs.YtdalkjenjnalbaaDoor
