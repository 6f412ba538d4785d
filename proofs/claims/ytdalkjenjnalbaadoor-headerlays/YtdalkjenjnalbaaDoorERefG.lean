/-
  The document's Lay, where nothing is refused ahead of the stream. Conditions: lengths are such as memory bears; the table of the sum stands.
-/
import Derived.Test.YtdalkjenjnalbaaDoorERefL
import Derived.Deep.RegionLaw
namespace Go.Proofs.YtdalkjenjnalbaaDoor
open Go.RowKit
set_option linter.unusedVariables false
set_option maxRecDepth 100000

/-- Blocks of the document's, with their bytes. -/
def rowBR (v : Value) (L : List Blk) : Pc := .row 76 2 v L.length (gc encBk L)
def BkR (w : World) (B : Nat) (v : Value) (L : List Blk) : Prop := Sep w B (rowBR v L :: L.map byR)
theorem BkR.nil (w : World) (B : Nat) : BkR w B (.slice none 0 0) [] := by
  refine ⟨fun p hp => ?_, ?_⟩
  · simp only [List.map_nil, List.mem_singleton] at hp
    subst hp
    exact ⟨rfl, .inl ⟨rfl, rfl⟩⟩
  · simp [rowBR, Pc.blk, Value.ownBlock]
theorem BkR.lower {w : World} {B B' : Nat} {v : Value} {L : List Blk} (h : BkR w B v L) (hB : B' ≤ B) : BkR w B' v L := by
  refine ⟨fun p hp => ?_, h.nd⟩
  have h1 := h.at_ p hp
  cases p with
  | obj g a T => exact ⟨h1.1, Nat.le_trans hB h1.2⟩
  | row T k v n xs =>
    obtain ⟨h2, h3 | ⟨g, cap, cur, rfl, hg, r⟩⟩ := h1
    · exact ⟨h2, .inl h3⟩
    · exact ⟨h2, .inr ⟨g, cap, cur, rfl, Nat.le_trans hB hg, r⟩⟩
/-- What Lay tells of a stream. -/
def LayP (w : World) (r : List Ext) (s : List Int) (e : Ending) (w' : World) : Prop := ∃ v L, e = .returned (.tuple #[v, .int .i64 (if roomOf r < s.length then 7 else 0)]) ∧ L.map plB = (if roomOf r < s.length then [] else blksM r s) ∧ BkR w' w.heap.size v L ∧ Below w.heap.size w w'
theorem bkr_new {w w9 : World} {B : Nat} {v x9 : Value} {L : List Blk} {a : Int} {bs : List Int} (h : BkR w B v L) (hb : Below w.heap.size w w9) (hB : B ≤ w.heap.size) (ho : Own w9 w.heap.size x9 bs) (o : Obj) :
    Sep (w9.alloc o) B ([byR (a, x9, bs)] ++ rowBR v L :: L.map byR) := by
  have h1 : Sep w9 B (byR (a, x9, bs) :: (rowBR v L :: L.map byR)) := Sep.new h hb (ho.mono hB) (fun x hx => (own_lt ho x (by simpa [Pc.blk, byR] using hx)).1)
  exact h1.below ((Below.refl _ _).alloc (Nat.le_refl _) _)
theorem bkr_turn {w w3 : World} {B g3 cap3 ln : Nat} {ao : Option Addr} {cap : Nat} {L : List Blk} {b : Blk} (hl : L.length = ln) (h : Sep w B ([byR b] ++ rowBR (.slice ao ln cap) L :: L.map byR)) (ho : w3.ownsRow B 76 2 (.slice (some ⟨g3, 0, none⟩) (ln + 1) cap3) (ln + 1) (gc encBk L ++ encBk b)) (hg : w.grownBy w3 (Value.slice ao ln cap).ownBlock) (ha : (Value.slice ao ln cap).ownBlock = some g3 ∨ g3 = w.heap.size) :
    BkR w3 B (.slice (some ⟨g3, 0, none⟩) (ln + 1) cap3) (L ++ [b]) := by
  have h1 := Sep.turn [byR b] (v := .slice ao ln cap) (n := L.length) (xs := gc encBk L) h ho hg (ha.elim (fun e => Or.inl e.symm) (fun e => Or.inr (by intro x hx; simp [Value.ownBlock] at hx; omega)))
  unfold BkR
  have e : rowBR (.slice (some ⟨g3, 0, none⟩) (ln + 1) cap3) (L ++ [b]) = .row 76 2 (.slice (some ⟨g3, 0, none⟩) (ln + 1) cap3) (ln + 1) (gc encBk L ++ encBk b) := by
    unfold rowBR
    rw [gc_append, gc_one, List.length_append, hl]
    rfl
  rw [e]
  refine h1.perm ?_
  classical
  refine List.perm_iff_count.2 (fun a => ?_)
  simp only [List.map_append, List.map_cons, List.map_nil, List.count_append, List.count_cons, List.count_nil]
  omega
theorem Tryd.infoBR : (Tryd.prog.info? 76).map (fun i => (i.zero, i.size, i.bytes)) = some (some (.agg #[.int .i64 0, .slice none 0 0]), 2, 32) := by kernel_rfl
def sliceLen : Value → Nat | .slice _ n _ => n | _ => 0
/-- How much of the stream is left behind i extents. -/
def LeftOf (r : List Ext) (s c : List Int) (i : Nat) : Prop := (c = [] → s.length ≤ roomOf (r.take i)) ∧ (c ≠ [] → c.length + roomOf (r.take i) = s.length)
theorem roomOf_take {r : List Ext} {i : Nat} {x : Ext} (h : r[i]? = some x) : roomOf (r.take (i + 1)) = roomOf (r.take i) + rmX x := by
  obtain ⟨h1, h2⟩ := List.getElem?_eq_some_iff.1 h
  rw [List.take_add_one, h]
  simp [roomOf]
theorem roomOf_leT (r : List Ext) (i : Nat) : roomOf (r.take i) ≤ roomOf r := by
  have h := List.take_append_drop i r
  have : roomOf r = roomOf (r.take i) + roomOf (r.drop i) := by
    unfold roomOf
    rw [← List.sum_append, ← List.map_append, h]
  omega
theorem LeftOf.step {r : List Ext} {s c : List Int} {i q : Nat} {x : Ext} (h : LeftOf r s c i) (hx : r[i]? = some x) (hc : c ≠ []) (hq : q = min c.length (rmX x)) : LeftOf r s (c.drop q) (i + 1) := by
  have h1 := h.2 hc
  have h2 := roomOf_take hx
  constructor
  · intro he
    have h3 := congrArg List.length he
    rw [List.length_drop] at h3
    simp at h3
    omega
  · intro he
    have h3 : 0 < (c.drop q).length := by
      cases hh : c.drop q with
      | nil => exact absurd hh he
      | cons a t => simp
    rw [List.length_drop] at h3 ⊢
    omega

set_option maxHeartbeats 8000000 in
theorem refLay_good (w : World) (vl vr : Value) (l : List Msg) (r : List Ext) (hM : Ms w vl l) (hk : MOk l) (hn : l.length ≤ 140737488351232) (hR : Xs w vr r) (hE : EWs r) (hr : r.length ≤ 8796093022208) (he : preErr l r = 0) (hT : Tab w) :
    Calls Tryd.prog 16 #[vl, vr] w fun e w' => LayP w r (strm l) e w' := by
  have hse : szErr l = 0 := by
    unfold preErr at he; split at he
    · rename_i h; exact absurd he h
    · rename_i h; simpa using h
  have he2 : r.length ≤ 65536 ∧ r.any narrowB = false ∧ meetsB r = false := by
    unfold preErr at he; rw [if_neg (by simp [hse])] at he
    split at he
    · omega
    · split at he
      · omega
      · split at he
        · omega
        · rename_i h1 h2 h3; exact ⟨by omega, by simpa using h2, by simpa using h3⟩
  obtain ⟨hrl, hna, hme⟩ := he2
  obtain ⟨g1, g2, g3⟩ := szErr_zero hse
  have hsl : (strm l).length ≤ 5000000000 := by
    have h1 := strm_len l
    have h4 := szTo_bd g2 l.length
    have h5 : szTo l l.length = szOf l := by unfold szTo szOf; rw [List.take_length]
    rw [h5] at h4
    omega
  have HY : Hid (Byt (strm l)) := strm_byt hk
  have HMY : Hid _ := refMay8_any w vl l hM hn
  rw [hse] at HMY
  have HME : Hid (∀ W, Below w.heap.size w W → Calls Tryd.prog 36 #[vr] W fun e w' => e = .returned (.bool false) ∧ Below W.heap.size W w') := fun W hW => by have := refMeets_any vr r W (hR.below hW) hE (by omega); rwa [hme] at this
  have HST : Hid (∀ W, Below w.heap.size w W → Calls Tryd.prog 14 #[vl] W fun e w' => ∃ v', e = .returned v' ∧ Own w' W.heap.size v' (strm l) ∧ Below W.heap.size W w') := fun W hW => refStream_any W vl l (hM.below hW) g1 g2 g3
  obtain ⟨aor, capr, hvr, hcr, hxr⟩ := hR.opened
  have HXR : Hid (∀ i, i < r.length → ∃ b off, aor = some ⟨b, off, none⟩ ∧ w.cell? ⟨b, off + i * 2, none⟩ = some (.int .i64 (r.getD i (0, 0)).1) ∧ w.cell? ⟨b, off + i * 2 + 1, none⟩ = some (.int .i64 (r.getD i (0, 0)).2) ∧ b < w.heap.size) := hxr
  have HEE : Hid (∀ (i : Nat) (x : Ext), r[i]? = some x → EW x ∧ narrowB x = false) := fun i x h => ⟨hE x (List.mem_of_getElem? h), by have := (List.any_eq_false.1 hna) x (List.mem_of_getElem? h); simpa using this⟩
  have HT : Hid (Tab w) := hT
  obtain ⟨aol, capl, hvl, _⟩ := hM
  subst hvl hvr
  obtain ⟨rn, HRN⟩ : ∃ rn, Hid (r.length = rn) := ⟨_, rfl⟩
  rw [HRN.out] at hcr hr hrl HXR HME ⊢
  obtain ⟨s, HS⟩ : ∃ s, Hid (strm l = s) := ⟨_, rfl⟩
  rw [HS.out] at hsl HY HST ⊢
  have hbi : ¬ (65536 : Int) < (rn : Int) := by omega
  clear hxr hR hE he hse hna hme g1 g2 g3 hk hT
  obtain ⟨i0, hi0, hz0, hz1, hz2⟩ := info_parts Tryd.info5
  obtain ⟨i1, hi1, hy0, hy1, hy2⟩ := info_parts2 Tryd.infoBR
  go_enter Tryd.func16, Tryd.ntmps16
  go_wp2_with (go_at_call 12; refine Calls.mono HMY.out ?_; rintro e w1 ⟨rfl, hw1⟩; obtain rfl := hw1.symm)
  go_loopw [7] (fun x wr => ∃ i : Nat, i ≤ rn ∧ x = .int .i64 (i : Int) ∧ Hid (Below w.heap.size w wr)) (fun x _ => rn - (intOf x).toNat)
  case atStart => exact ⟨0, Nat.zero_le _, rfl, Below.refl _ _⟩
  case round =>
    obtain ⟨i, hi, rfl, HB⟩ := hrel
    by_cases hlt : i < rn
    · have hir : i < r.length := by rw [HRN.out]; exact hlt
      obtain ⟨gr, or_, rfl, c1, c2, _⟩ := HXR.out i hlt
      have hxm : r[i]? = some (r.getD i (0, 0)) := by simp [List.getD, hir]
      generalize r.getD i (0, 0) = x at *
      obtain ⟨xa, xs⟩ := x
      dsimp only at c1 c2
      obtain ⟨hew, hnb⟩ := HEE.out i _ hxm
      have d1 := (HB.out.cell (World.block_lt_of_cell? w _ c1)).trans c1
      have d2 := (HB.out.cell (World.block_lt_of_cell? w _ c2)).trans c2
      have HWI : Hid (∀ W, Calls Tryd.prog 35 #[.agg #[.int .i64 xa, .int .i64 xs]] W fun e w' => e = .returned (.bool true) ∧ Below W.heap.size W w') := fun W => by have := refWide_any xa xs W hew; rwa [hnb] at this
      have hili : (i : Int) < (rn : Int) := by omega
      clear c1 c2 hxm hew hnb
      go_wp2_with (go_at_call 35; refine Calls.mono (HWI.out _) ?_; rintro e w2 ⟨rfl, hb2⟩; have HB2 : Hid (Below w.heap.size w w2) := HB.out.trans (hb2.mono HB.out.size); clear hb2)
      go_roundw
      case rel => exact ⟨i + 1, by omega, by go_num, HB2.out⟩
      case measure => simp [intOf]; omega
    · have hili : ¬ (i : Int) < (rn : Int) := by omega
      go_wp2_with (first
        | (go_at_call 36; refine Calls.mono (HME.out _ HB.out) ?_; rintro e w2 ⟨rfl, hb2⟩; have HB2 : Hid (Below w.heap.size w w2) := HB.out.trans (hb2.mono HB.out.size); clear hb2)
        | (go_at_call 14; refine Calls.mono (HST.out _ HB2.out) ?_; rintro e w3 ⟨v3, rfl, ho3, hb3⟩; have HB3 : Hid (Below w.heap.size w w3) := HB2.out.trans (hb3.mono HB2.out.size); have HO3 : Hid (Bs w3 v3 s) := ho3.bs; clear ho3 hb3))
      obtain ⟨aoS, capS, hvS, _⟩ := HO3.out
      subst hvS
      clear HB HB2
      go_loopw [10, 8, 9] (fun x y z wr => ∃ (i : Nat) (c : List Int) (ao : Option Addr) (n cap : Nat) (L : List Blk), i ≤ rn ∧ x = .int .i64 (i : Int) ∧ y = .slice ao n cap ∧ Hid (c.length = n) ∧ n ≤ 5000000000 ∧ Hid (Bs w3 (.slice ao n cap) c) ∧ Hid (Byt c) ∧ Hid (L.map plB ++ blksM (r.drop i) c = blksM r s) ∧ Hid (LeftOf r s c i) ∧ Hid (L.length = i) ∧ Hid (BkR wr w3.heap.size z L) ∧ Hid (Below w3.heap.size w3 wr)) (fun x _ _ _ => rn - (intOf x).toNat)
      case atStart => exact ⟨0, s, aoS, s.length, capS, [], Nat.zero_le _, rfl, rfl, rfl, hsl, HO3.out, HY.out, rfl, ⟨fun h => by rw [h]; simp, fun _ => by simp [roomOf]⟩, rfl, BkR.nil _ _, Below.refl _ _⟩
      case round =>
        obtain ⟨i, c, ao, n, cap, L, hin, rfl, rfl, HCn, hn5, HBc, HYc, HMm, HLf, HLi, HBk, HB⟩ := hrel
        have HWB : Hid (Below w.heap.size w wr) := HB3.out.trans (HB.out.mono HB3.out.size)
        by_cases hn0 : 0 < n
        · by_cases hlt : i < rn
          · have hir : i < r.length := by rw [HRN.out]; exact hlt
            obtain ⟨gr, or_, rfl, c1, c2, _⟩ := HXR.out i hlt
            have hxm : r[i]? = some (r.getD i (0, 0)) := by simp [List.getD, hir]
            obtain ⟨b, off, cap', hao, hcap', _⟩ := HBc.out.opened (by rw [HCn.out]; exact hn0)
            rw [HCn.out] at hao
            injection hao with ea eb ec
            subst ea ec
            have hwx := wide_of (HEE.out i _ hxm).2
            generalize r.getD i (0, 0) = x at *
            obtain ⟨hw0, hw1, hw2⟩ := hwx
            obtain ⟨q, HQ⟩ : ∃ q : Nat, Hid (q = min n (rmX x)) := ⟨_, rfl⟩
            have hq0 : q ≤ n := by rw [HQ.out]; exact Nat.min_le_left _ _
            have hq1 : 0 < q := by have := HQ.out; unfold rmX at this; omega
            have hqx : (q : Int) ≤ x.2 - 16 := by have := HQ.out; unfold rmX at this; omega
            have hmin : min (n : Int) (x.2 - 16) = (q : Int) := by have := HQ.out; unfold rmX at this; omega
            have hncap : n ≤ cap := by have h9 := hcap'; rw [HCn.out] at h9; exact h9
            have HCne : Hid (c ≠ []) := by intro e; rw [e] at HCn; have := HCn.out; simp at this; omega
            have HRX : Hid (r.drop i = x :: r.drop (i + 1)) := room_next hxm
            have HSt : Hid (LeftOf r s (c.drop q) (i + 1)) := HLf.out.step hxm HCne.out (by rw [HCn.out]; exact HQ.out)
            have HTK : Hid (c.take (rmX x) = c.take q ∧ c.drop (rmX x) = c.drop q) := by
              have h9 := HQ.out
              have h8 := HCn.out
              rcases Nat.lt_or_ge (rmX x) n with h7 | h7
              · have e : q = rmX x := by omega
                rw [e]; exact ⟨rfl, rfl⟩
              · have e : q = n := by omega
                rw [e, List.take_of_length_le (by omega), List.take_of_length_le (by omega), List.drop_eq_nil_of_le (by omega), List.drop_eq_nil_of_le (by omega)]
                exact ⟨rfl, rfl⟩
            have HMN : Hid (∀ vb nx, nx = (if c.drop q = [] then ((0, 0) : Ext) else (r.drop (i + 1)).headD (0, 0)) → (L ++ [(x.1, vb, blkL (c.take q) nx x.2.toNat)]).map plB ++ blksM (r.drop (i + 1)) (c.drop q) = blksM r s) := by
              intro vb nx hnx
              rw [← HMm.out, HRX.out, blksM_cons HCne.out, HTK.out.1, HTK.out.2, hnx, List.map_append, List.append_assoc]
              rfl
            have HCL : Hid ((c.drop q).length = n - q) := by unfold Hid; rw [List.length_drop, HCn.out]
            have HTL : Hid ((c.take q).length = q) := by unfold Hid; rw [List.length_take, HCn.out]; omega
            have HYT : Hid (Byt (c.take q)) := byt_takeE HYc.out q
            have HYD : Hid (Byt (c.drop q)) := byt_dropE HYc.out q
            have HBT : Hid (Bs w3 (.slice (some ⟨b, off, none⟩) q cap) (c.take q)) := bs_front HBc.out q (by rw [HCn.out]; exact hq0)
            obtain ⟨aoL, capL, hvL⟩ := row_sliceE ((HBk.out).at_ (rowBR u9 L) (List.Mem.head _))
            subst hvL
            obtain ⟨ln, HLn⟩ : ∃ ln, Hid (L.length = ln) := ⟨_, rfl⟩
            have hln : ln ≤ 65536 := by rw [← HLn.out, HLi.out]; omega
            rw [HLn.out] at HBk ⊢
            have HCN : Hid (∀ W, Below wr.heap.size wr W → Below w.heap.size w W ∧ Below w3.heap.size w3 W) := fun W h => ⟨HWB.out.trans (h.mono HWB.out.size), HB.out.trans (h.mono HB.out.size)⟩
            have HCA : Hid (∀ W, Below w.heap.size w W → W.cell? ⟨gr, or_ + i * 2, none⟩ = some (.int .i64 x.1) ∧ W.cell? ⟨gr, or_ + i * 2 + 1, none⟩ = some (.int .i64 x.2)) := fun W hW => ⟨(hW.cell (World.block_lt_of_cell? w _ c1)).trans c1, (hW.cell (World.block_lt_of_cell? w _ c2)).trans c2⟩
            obtain ⟨d1, d2⟩ := HCA.out wr HWB.out
            have y3 : gr < wr.heap.size := World.block_lt_of_cell? wr _ d1
            have y4 : ¬ wr.heap.size = gr := by omega
            have y5 : ¬ gr = wr.heap.size := by omega
            have hili : (i : Int) < (rn : Int) := by omega
            have hn0i : (0 : Int) < (n : Int) := by omega
            have HW : Hid (∃ nx : Ext, nx = (if c.drop q = [] then ((0, 0) : Ext) else (r.drop (i + 1)).headD (0, 0)) ∧ 0 ≤ nx.1 ∧ nx.1 ≤ 4194304 ∧ 0 ≤ nx.2 ∧ nx.2 ≤ 4194304 ∧ (q < n → i + 1 < rn → w.cell? ⟨gr, or_ + (i + 1) * 2, none⟩ = some (.int .i64 nx.1) ∧ w.cell? ⟨gr, or_ + (i + 1) * 2 + 1, none⟩ = some (.int .i64 nx.2)) ∧ (¬ (q < n ∧ i + 1 < rn) → nx = (0, 0))) := by
              by_cases hh : q < n ∧ i + 1 < rn
              · have hne : c.drop q ≠ [] := by intro e; have h9 := HCL.out; rw [e] at h9; simp at h9; omega
                have hr1 : i + 1 < r.length := by rw [HRN.out]; exact hh.2
                obtain ⟨gr', or', hgr, p1, p2, _⟩ := HXR.out (i + 1) hh.2
                cases hgr
                have hm1 : r[i + 1]? = some (r.getD (i + 1) (0, 0)) := by simp [List.getD, hr1]
                obtain ⟨v0, v1, v2⟩ := wide_of (HEE.out (i + 1) _ hm1).2
                refine ⟨r.getD (i + 1) (0, 0), ?_, v0, by omega, by omega, by omega, fun _ _ => ⟨p1, p2⟩, fun h => absurd hh h⟩
                rw [if_neg hne, room_next hm1]; rfl
              · refine ⟨(0, 0), ?_, by simp, by simp, by simp, by simp, fun h1 h2 => absurd ⟨h1, h2⟩ hh, fun _ => rfl⟩
                by_cases hd : c.drop q = []
                · rw [if_pos hd]
                · have h9 : ¬ i + 1 < rn := fun h => hh ⟨by have := HCL.out; cases hq9 : c.drop q with
                    | nil => exact absurd hq9 hd
                    | cons a t => rw [hq9] at this; simp at this; omega, h⟩
                  rw [if_neg hd, List.drop_eq_nil_of_le (by rw [HRN.out]; omega)]; rfl
            obtain ⟨nx, hnx, n0, n1, n2, n3, hnlt, hnge⟩ := HW.out
            have HNX : Hid (nx = (if c.drop q = [] then ((0, 0) : Ext) else (r.drop (i + 1)).headD (0, 0))) := hnx
            clear hnx HW hxm
            by_cases hrest : q < n ∧ i + 1 < rn
            · obtain ⟨p1, p2⟩ := hnlt hrest.1 hrest.2
              have p1' : wr.cell? ⟨gr, or_ + (i + 1) * 2, none⟩ = some (.int .i64 nx.1) := (HWB.out.cell (World.block_lt_of_cell? w _ p1)).trans p1
              have p2' : wr.cell? ⟨gr, or_ + (i + 1) * 2 + 1, none⟩ = some (.int .i64 nx.2) := (HWB.out.cell (World.block_lt_of_cell? w _ p2)).trans p2
              have hqni : (q : Int) < (n : Int) := by omega
              have hirn1 : (i : Int) + 1 < (rn : Int) := by omega
              obtain ⟨hra, hrb⟩ := hrest
              clear hnlt hnge p1 p2
              go_upto_region 22 with fail
              obtain ⟨wc, hwc⟩ : ∃ wc, wr.alloc (.cells #[.int .i64 nx.1, .int .i64 nx.2] 54) = wc := ⟨_, rfl⟩
              have HBw : Hid (Below wr.heap.size wr wc) := by unfold Hid; rw [← hwc]; exact (Below.refl _ _).alloc (Nat.le_refl _) _
              have ho8 : wc.heap[wr.heap.size]? = some (.cells #[.int .i64 nx.1, .int .i64 nx.2] 54 (0, 0)) := by rw [← hwc]; exact heap_alloc_new wr _
              rw [hwc]
              have HE8 : Hid (∀ W, Below wc.heap.size wc W → W.cell? ⟨wr.heap.size, 0, none⟩ = some (.int .i64 nx.1) ∧ W.cell? ⟨wr.heap.size, 1, none⟩ = some (.int .i64 nx.2)) := fun W hW => ⟨(hW.cell (World.block_lt_of_cell? wc _ (cellO ho8 0 rfl))).trans (cellO ho8 0 rfl), (hW.cell (World.block_lt_of_cell? wc _ (cellO ho8 1 rfl))).trans (cellO ho8 1 rfl)⟩
              have HWC : Hid (∀ W, Below wc.heap.size wc W → Below wr.heap.size wr W ∧ Below w.heap.size w W ∧ Below w3.heap.size w3 W) := fun W h => ⟨HBw.out.trans (h.mono HBw.out.size), (HCN.out W (HBw.out.trans (h.mono HBw.out.size))).1, (HCN.out W (HBw.out.trans (h.mono HBw.out.size))).2⟩
              have HKW : Hid (∀ W, Below wc.heap.size wc W → BkR W w3.heap.size (.slice aoL ln capL) L) := fun W h => HBk.out.below (HWC.out W h).1
              clear ho8 hwc d1 d2 y3 y4 y5
              generalize wr.heap.size = b8 at *
              obtain ⟨na, nb⟩ := nx
              dsimp only at n0 n1 n2 n3 HE8
              have hwq : IntKind.u64.wrap (q : Int) = (q : Int) := by simp [IntKind.wrap, IntKind.bits, IntKind.signed]; omega
              have hwa : IntKind.u64.wrap na = na := by simp [IntKind.wrap, IntKind.bits, IntKind.signed]; omega
              have hwb : IntKind.u64.wrap nb = nb := by simp [IntKind.wrap, IntKind.bits, IntKind.signed]; omega
              have HDG : Hid (∀ (u : Int) (W : World), 0 ≤ u → u < 4294967296 → Calls Tryd.prog 28 #[.int .i64 4, .bool true, .int .u64 u] W fun e w' => ∃ v', e = .returned v' ∧ Own w' W.heap.size v' (d4 u) ∧ Below W.heap.size W w') := fun u W h0 h1 => refDigits_four u W h0 (by omega)
              have HL0 : Hid ((d4 (q : Int)).length = 4) := d4_length _
              have HL1 : Hid ((d4 na).length = 4) := d4_length _
              have HL2 : Hid ((d4 nb).length = 4) := d4_length _
              have HL3 : Hid ((d4 (q : Int) ++ d4 na).length = 8) := by unfold Hid; rw [List.length_append, d4_length, d4_length]
              have HL4 : Hid (((d4 (q : Int) ++ d4 na) ++ d4 nb).length = 12) := by unfold Hid; rw [List.length_append, HL3.out, d4_length]
              go_wp2_with (first
                | (have hg := HB6; clear hg; at_builtin; refine wpList_append_bg w6 rfl (.tmp 90) (.tmp 93) 31 rfl i0 Tryd.underlying31 hi0 hz0 hz1 hz2 wc.heap.size (.slice ao6 12 cap6) (.slice (some ⟨b, off, none⟩) q cap) ((d4 (q : Int) ++ d4 na) ++ d4 nb) (c.take q) 12 q HL4.out HTL.out rfl rfl HO6.out (HBT.out.below (HWC.out w6 HB6.out).2.2) (by omega) HB6.out.size ?_; intro ao7 cap7 w7 ho7 hg7 _; have HB7 : Hid (Below wc.heap.size wc w7) := below_gr8 HB6.out HO6.out hg7; have HO7 : Hid (Own w7 wc.heap.size (.slice ao7 (12 + q) cap7) (((d4 (q : Int) ++ d4 na) ++ d4 nb) ++ c.take q)) := ho7; clear ho7 hg7)
                | (have hg := HB5; clear hg; at_builtin; refine wpList_append_bg w5 rfl (.tmp 84) (.tmp 88) 31 rfl i0 Tryd.underlying31 hi0 hz0 hz1 hz2 wc.heap.size (.slice ao4 8 cap4) v5 (d4 (q : Int) ++ d4 na) (d4 nb) 8 4 HL3.out HL2.out rfl rfl HO5.out HD5.out (by omega) HB5.out.size ?_; intro ao6 cap6 w6 ho6 hg6 _; have HB6 : Hid (Below wc.heap.size wc w6) := below_gr8 HB5.out HO5.out hg6; have HO6 : Hid (Own w6 wc.heap.size (.slice ao6 12 cap6) ((d4 (q : Int) ++ d4 na) ++ d4 nb)) := ho6; clear ho6 hg6)
                | (have hg := HB4; clear hg; go_at_call 28; refine Calls.mono (HDG.out nb _ (by omega) (by omega)) ?_; rintro e w5 ⟨v5, rfl, ho5, hb5⟩; have HD5 : Hid (Bs w5 v5 (d4 nb)) := ho5.bs; have HB5 : Hid (Below wc.heap.size wc w5) := HB4.out.trans (hb5.mono HB4.out.size); have HO5 : Hid (Own w5 wc.heap.size (.slice ao4 8 cap4) (d4 (q : Int) ++ d4 na)) := HO4.out.below hb5; clear ho5 hb5)
                | (have hg := HBb; clear hg; at_builtin; refine wpList_append_bg wb rfl (.tmp 78) (.tmp 82) 31 rfl i0 Tryd.underlying31 hi0 hz0 hz1 hz2 wc.heap.size v1 v2 (d4 (q : Int)) (d4 na) 4 4 HL0.out HL1.out rfl rfl HOb.out HDb.out (by omega) HBb.out.size ?_; intro ao4 cap4 w4 ho4 hg4 _; have HB4 : Hid (Below wc.heap.size wc w4) := below_gr8 HBb.out HOb.out hg4; have HO4 : Hid (Own w4 wc.heap.size (.slice ao4 8 cap4) (d4 (q : Int) ++ d4 na)) := ho4; have e4 := (HE8.out w4 HB4.out).2; clear ho4 hg4)
                | (have hg := HBa; clear hg; go_at_call 28; refine Calls.mono (HDG.out na _ (by omega) (by omega)) ?_; rintro e wb ⟨v2, rfl, hob, hbb⟩; have HDb : Hid (Bs wb v2 (d4 na)) := hob.bs; have HBb : Hid (Below wc.heap.size wc wb) := HBa.out.trans (hbb.mono HBa.out.size); have HOb : Hid (Own wb wc.heap.size v1 (d4 (q : Int))) := HOa.out.below hbb; clear hob hbb)
                | (go_at_call 28; refine Calls.mono (HDG.out (q : Int) _ (by omega) (by omega)) ?_; rintro e wa ⟨v1, rfl, hoa, hba⟩; have HOa : Hid (Own wa wc.heap.size v1 (d4 (q : Int))) := hoa; have HBa : Hid (Below wc.heap.size wc wa) := hba; have ea := (HE8.out wa hba).1; clear hoa hba))
              obtain ⟨P0, HP0⟩ : ∃ P0, Hid (((d4 (q : Int) ++ d4 na) ++ d4 nb) ++ c.take q = P0) := ⟨_, rfl⟩
              have HPL : Hid (P0.length = 12 + q) := by unfold Hid; rw [← HP0.out, List.length_append, HL4.out, HTL.out]
              rw [HP0.out] at HO7
              obtain ⟨sz, HSZ⟩ : ∃ sz : Nat, Hid (x.2.toNat = sz) := ⟨_, rfl⟩
              have hsz : x.2 = (sz : Int) := by have := HSZ.out; omega
              have hszq : 16 + q ≤ sz := by omega
              have hszt : sz ≤ 4194304 := by omega
              have HBP : Hid (P0 ++ List.replicate (sz - 4 - (12 + q)) 0 = blkP (c.take q) (na, nb) sz) := by
                unfold Hid blkP
                rw [← HP0.out, HTL.out, show sz - 4 - (12 + q) = sz - 16 - q from by omega]
              clear HOa HBa ea HDb HBb HOb HB4 HO4 e4 HD5 HB5 HO5 HB6 HO6
              go_loopw [13] (fun z wl => ∃ (k : Nat) (ao : Option Addr) (cap : Nat), 12 + q ≤ k ∧ k ≤ sz - 4 ∧ z = .slice ao k cap ∧ Hid (Own wl wc.heap.size (.slice ao k cap) (P0 ++ List.replicate (k - (12 + q)) 0)) ∧ Hid (Below wc.heap.size wc wl)) (fun z _ => sz - 4 - sliceLen z)
              case atStart => exact ⟨12 + q, ao7, cap7, Nat.le_refl _, by omega, rfl, by unfold Hid; rw [Nat.sub_self, List.replicate_zero, List.append_nil]; exact HO7.out, HB7.out⟩
              case round =>
                obtain ⟨k, aoB, capB, hk1, hk2, rfl, HOk, HBk2⟩ := hrel
                obtain ⟨f1, f2⟩ := HCA.out wr (HWC.out wr HBk2.out).2.1
                rw [hsz] at f2
                have y3 : gr < wr.heap.size := World.block_lt_of_cell? wr _ f1
                have y4 : ¬ wr.heap.size = gr := by omega
                have y5 : ¬ gr = wr.heap.size := by omega
                have HLk : Hid ((P0 ++ List.replicate (k - (12 + q)) 0).length = k) := by unfold Hid; rw [List.length_append, List.length_replicate, HPL.out]; omega
                by_cases hks : k < sz - 4
                · have hki : (k : Int) < (sz : Int) - 4 := by omega
                  have HNXT : Hid ((P0 ++ List.replicate (k - (12 + q)) 0) ++ [0] = P0 ++ List.replicate (k + 1 - (12 + q)) 0) := by
                    unfold Hid
                    rw [List.append_assoc, show k + 1 - (12 + q) = (k - (12 + q)) + 1 from by omega, List.replicate_succ']
                  have HBa1 : Hid (Below wc.heap.size wc (wr.alloc (.cells #[.int .u8 0] 5))) := HBk2.out.alloc HBk2.out.size _
                  have HHK : Hid (12 + q ≤ k ∧ k < sz - 4 ∧ sz ≤ 4194304) := ⟨hk1, hks, hszt⟩
                  clear hsz
                  go_wp2_with (at_builtin; refine wpList_append_bg _ rfl (.tmp 104) (.tmp 105) 31 rfl i0 Tryd.underlying31 hi0 hz0 hz1 hz2 wc.heap.size (.slice aoB k capB) _ (P0 ++ List.replicate (k - (12 + q)) 0) [0] k 1 HLk.out rfl rfl rfl (HOk.out.alloc _) (Bs.one _ _) (by have := HHK.out; omega) HBa1.out.size ?_; intro ao1 cap1 w1 ho1 hg1 _; have HBn : Hid (Below wc.heap.size wc w1) := below_gr8 HBa1.out (HOk.out.alloc _) hg1; have HOn : Hid (Own w1 wc.heap.size (.slice ao1 (k + 1) cap1) (P0 ++ List.replicate (k + 1 - (12 + q)) 0)) := (by unfold Hid; rw [← HNXT.out]; exact ho1); clear ho1 hg1)
                  go_roundw
                  case rel => exact ⟨k + 1, ao1, cap1, by have := HHK.out; omega, by have := HHK.out; omega, rfl, HOn.out, HBn.out⟩
                  case measure => have := HHK.out; simp [sliceLen]; omega
                · have hki : ¬ (k : Int) < (sz : Int) - 4 := by omega
                  obtain ⟨kk, HKK⟩ : ∃ kk, Hid (k = sz - 4 ∧ kk = k ∧ 16 + q ≤ sz ∧ sz ≤ 4194304) := ⟨k, by omega, rfl, hszq, hszt⟩
                  have HBB : Hid (Bs wr (.slice aoB k capB) (blkP (c.take q) (na, nb) sz)) := by
                    have h9 := HOk.out.bs
                    rw [HKK.out.1] at h9 ⊢
                    rw [← HBP.out]; exact h9
                  have HSX : Hid (x.2 = (sz : Int)) := hsz
                  clear hsz
                  go_upto_region 28 with fail
                  have HSL : Hid (Calls Tryd.prog 37 #[.slice aoB k capB] wr.drew fun e w' => ∃ x, e = .returned x ∧ Own w' wr.drew.heap.size x (blkL (c.take q) (na, nb) sz) ∧ Below wr.drew.heap.size wr.drew w') := refSeal_any (.slice aoB k capB) (blkP (c.take q) (na, nb) sz) wr.drew (HBB.out.below (Below.refl _ _).drew) (by rw [blkP_length (by rw [HTL.out]; have := HKK.out; omega)]; have := HKK.out; omega) (blkP_byt HYT.out)
                  have HKD : Hid (BkR wr w3.heap.size (.slice aoL ln capL) L) := HKW.out wr HBk2.out
                  have HW3 : Hid (Below w3.heap.size w3 wr) := (HWC.out wr HBk2.out).2.2
                  have HLB : Hid ((blkL (c.take q) (na, nb) sz).length = sz) := blkL_length (by rw [HTL.out]; have := HKK.out; omega)
                  go_region_law (first
                    | (refine step_call rfl 37 (enters_of Tryd.func37 (by kernel_rfl) rfl) #[.tmp 113] _ rfl _ (by go_simp) (fun v w' => ∃ ao9 cap9, v = .slice ao9 sz cap9 ∧ Own w' wr.heap.size (.slice ao9 sz cap9) (blkL (c.take q) (na, nb) sz) ∧ Below wr.heap.size wr w') (Calls.mono HSL.out (by rintro e w' ⟨x9, rfl, h1, h2⟩; obtain ⟨ao9, cap9, hx9⟩ := row_sliceE h1; rw [HLB.out] at hx9; subst hx9; exact ⟨_, rfl, ao9, cap9, rfl, h1, below_undrew h2⟩)) ?_; rintro v9 w9 ⟨ao9, cap9, rfl, ho9, hb9⟩; have f1n : w9.cell? ⟨gr, or_ + i * 2, none⟩ = some (.int .i64 x.1) := (hb9.cell (World.block_lt_of_cell? wr _ f1)).trans f1; have HGX : Hid ((w9.alloc (.cells #[.int .i64 x.1, .slice ao9 sz cap9] 76)).heap[w9.heap.size]? = some (.cells #[.int .i64 x.1, .slice ao9 sz cap9] 76 (0, 0))) := heap_alloc_new w9 _; have HS9 : Hid (Sep (w9.alloc (.cells #[.int .i64 x.1, .slice ao9 sz cap9] 76)) w3.heap.size ([byR (x.1, .slice ao9 sz cap9, blkL (c.take q) (na, nb) sz)] ++ rowBR (.slice aoL ln capL) L :: L.map byR)) := bkr_new HKD.out hb9 HW3.out.size ho9 _; have HB9 : Hid (Below w3.heap.size w3 (w9.alloc (.cells #[.int .i64 x.1, .slice ao9 sz cap9] 76))) := (HW3.out.trans (hb9.mono HW3.out.size)).alloc (Nat.le_trans HW3.out.size hb9.size) _; have HRW : Hid ((w9.alloc (.cells #[.int .i64 x.1, .slice ao9 sz cap9] 76)).ownsRow w3.heap.size 76 2 (.slice aoL ln capL) ln (gc encBk L)) := (by have h := HS9.out.at_ (rowBR (.slice aoL ln capL) L) (by simp); have h' : (w9.alloc (.cells #[.int .i64 x.1, .slice ao9 sz cap9] 76)).ownsRow w3.heap.size 76 2 (.slice aoL ln capL) L.length (gc encBk L) := h; rw [HLn.out] at h'; exact h'); clear ho9 hb9)
                    | (refine step_append_G 117 rfl rfl (.tmp 107) (.tmp 116) 38 76 rfl i1 Tryd.underlying38 hi1 _ hy0 2 32 hy1 hy2 rfl (by omega) w3.heap.size (.slice aoL ln capL) ln (gc encBk L) ⟨w9.heap.size, 0, none⟩ 1 1 [.int .i64 x.1, .slice ao9 sz cap9] rfl rfl HRW.out rfl (news_one HGX.out) (by intro u hu; simp at hu; rcases hu with rfl | rfl <;> rfl) (by omega) (by omega) (by omega) HB9.out.size ?_; intro g4 cap4 w4 ho4 hg4 ha4; have HS4 : Hid (BkR w4 w3.heap.size (.slice (some ⟨g4, 0, none⟩) (ln + 1) cap4) (L ++ [(x.1, .slice ao9 sz cap9, blkL (c.take q) (na, nb) sz)])) := bkr_turn HLn.out HS9.out ho4 hg4 ha4; have HB4 : Hid (Below w3.heap.size w3 w4) := blk_below HB9.out HRW.out hg4; clear ho4 hg4 ha4))
                  all_goals
                    go_wp2_with fail
                    go_roundw
                    case rel => exact ⟨i + 1, c.drop q, _, n - q, cap - q, L ++ [((x.1, Value.slice ao9 sz cap9, blkL (c.take q) (na, nb) sz) : Blk)], by omega, by simp, rfl, HCL.out, by omega, bs_drop HBc.out HCn.out hq0 _ (fun _ => rfl) (by simp), HYD.out, by have h9 := HMN.out (Value.slice ao9 sz cap9) (na, nb) HNX.out; rw [HSZ.out] at h9; exact h9, HSt.out, by unfold Hid; rw [List.length_append, HLi.out]; rfl, HS4.out, HB4.out⟩
                    case measure => simp [intOf]; omega
            · have hz : nx = (0, 0) := hnge hrest
              clear hnlt hnge
              by_cases hqn2 : q < n
              · have hqni : (q : Int) < (n : Int) := by omega
                have hirn1 : ¬ (i : Int) + 1 < (rn : Int) := by omega
                clear hrest
                have e0 : wr.alloc (.cells #[.int .i64 0, .int .i64 0] 54) = wr.alloc (.cells #[.int .i64 nx.1, .int .i64 nx.2] 54) := by rw [hz]
                go_upto_region 22 with fail
                try rw [e0]
                clear e0 hz
                obtain ⟨wc, hwc⟩ : ∃ wc, wr.alloc (.cells #[.int .i64 nx.1, .int .i64 nx.2] 54) = wc := ⟨_, rfl⟩
                have HBw : Hid (Below wr.heap.size wr wc) := by unfold Hid; rw [← hwc]; exact (Below.refl _ _).alloc (Nat.le_refl _) _
                have ho8 : wc.heap[wr.heap.size]? = some (.cells #[.int .i64 nx.1, .int .i64 nx.2] 54 (0, 0)) := by rw [← hwc]; exact heap_alloc_new wr _
                rw [hwc]
                have HE8 : Hid (∀ W, Below wc.heap.size wc W → W.cell? ⟨wr.heap.size, 0, none⟩ = some (.int .i64 nx.1) ∧ W.cell? ⟨wr.heap.size, 1, none⟩ = some (.int .i64 nx.2)) := fun W hW => ⟨(hW.cell (World.block_lt_of_cell? wc _ (cellO ho8 0 rfl))).trans (cellO ho8 0 rfl), (hW.cell (World.block_lt_of_cell? wc _ (cellO ho8 1 rfl))).trans (cellO ho8 1 rfl)⟩
                have HWC : Hid (∀ W, Below wc.heap.size wc W → Below wr.heap.size wr W ∧ Below w.heap.size w W ∧ Below w3.heap.size w3 W) := fun W h => ⟨HBw.out.trans (h.mono HBw.out.size), (HCN.out W (HBw.out.trans (h.mono HBw.out.size))).1, (HCN.out W (HBw.out.trans (h.mono HBw.out.size))).2⟩
                have HKW : Hid (∀ W, Below wc.heap.size wc W → BkR W w3.heap.size (.slice aoL ln capL) L) := fun W h => HBk.out.below (HWC.out W h).1
                clear ho8 hwc d1 d2 y3 y4 y5
                generalize wr.heap.size = b8 at *
                obtain ⟨na, nb⟩ := nx
                dsimp only at n0 n1 n2 n3 HE8
                have hwq : IntKind.u64.wrap (q : Int) = (q : Int) := by simp [IntKind.wrap, IntKind.bits, IntKind.signed]; omega
                have hwa : IntKind.u64.wrap na = na := by simp [IntKind.wrap, IntKind.bits, IntKind.signed]; omega
                have hwb : IntKind.u64.wrap nb = nb := by simp [IntKind.wrap, IntKind.bits, IntKind.signed]; omega
                have HDG : Hid (∀ (u : Int) (W : World), 0 ≤ u → u < 4294967296 → Calls Tryd.prog 28 #[.int .i64 4, .bool true, .int .u64 u] W fun e w' => ∃ v', e = .returned v' ∧ Own w' W.heap.size v' (d4 u) ∧ Below W.heap.size W w') := fun u W h0 h1 => refDigits_four u W h0 (by omega)
                have HL0 : Hid ((d4 (q : Int)).length = 4) := d4_length _
                have HL1 : Hid ((d4 na).length = 4) := d4_length _
                have HL2 : Hid ((d4 nb).length = 4) := d4_length _
                have HL3 : Hid ((d4 (q : Int) ++ d4 na).length = 8) := by unfold Hid; rw [List.length_append, d4_length, d4_length]
                have HL4 : Hid (((d4 (q : Int) ++ d4 na) ++ d4 nb).length = 12) := by unfold Hid; rw [List.length_append, HL3.out, d4_length]
                go_wp2_with (first
                  | (have hg := HB6; clear hg; at_builtin; refine wpList_append_bg w6 rfl (.tmp 90) (.tmp 93) 31 rfl i0 Tryd.underlying31 hi0 hz0 hz1 hz2 wc.heap.size (.slice ao6 12 cap6) (.slice (some ⟨b, off, none⟩) q cap) ((d4 (q : Int) ++ d4 na) ++ d4 nb) (c.take q) 12 q HL4.out HTL.out rfl rfl HO6.out (HBT.out.below (HWC.out w6 HB6.out).2.2) (by omega) HB6.out.size ?_; intro ao7 cap7 w7 ho7 hg7 _; have HB7 : Hid (Below wc.heap.size wc w7) := below_gr8 HB6.out HO6.out hg7; have HO7 : Hid (Own w7 wc.heap.size (.slice ao7 (12 + q) cap7) (((d4 (q : Int) ++ d4 na) ++ d4 nb) ++ c.take q)) := ho7; clear ho7 hg7)
                  | (have hg := HB5; clear hg; at_builtin; refine wpList_append_bg w5 rfl (.tmp 84) (.tmp 88) 31 rfl i0 Tryd.underlying31 hi0 hz0 hz1 hz2 wc.heap.size (.slice ao4 8 cap4) v5 (d4 (q : Int) ++ d4 na) (d4 nb) 8 4 HL3.out HL2.out rfl rfl HO5.out HD5.out (by omega) HB5.out.size ?_; intro ao6 cap6 w6 ho6 hg6 _; have HB6 : Hid (Below wc.heap.size wc w6) := below_gr8 HB5.out HO5.out hg6; have HO6 : Hid (Own w6 wc.heap.size (.slice ao6 12 cap6) ((d4 (q : Int) ++ d4 na) ++ d4 nb)) := ho6; clear ho6 hg6)
                  | (have hg := HB4; clear hg; go_at_call 28; refine Calls.mono (HDG.out nb _ (by omega) (by omega)) ?_; rintro e w5 ⟨v5, rfl, ho5, hb5⟩; have HD5 : Hid (Bs w5 v5 (d4 nb)) := ho5.bs; have HB5 : Hid (Below wc.heap.size wc w5) := HB4.out.trans (hb5.mono HB4.out.size); have HO5 : Hid (Own w5 wc.heap.size (.slice ao4 8 cap4) (d4 (q : Int) ++ d4 na)) := HO4.out.below hb5; clear ho5 hb5)
                  | (have hg := HBb; clear hg; at_builtin; refine wpList_append_bg wb rfl (.tmp 78) (.tmp 82) 31 rfl i0 Tryd.underlying31 hi0 hz0 hz1 hz2 wc.heap.size v1 v2 (d4 (q : Int)) (d4 na) 4 4 HL0.out HL1.out rfl rfl HOb.out HDb.out (by omega) HBb.out.size ?_; intro ao4 cap4 w4 ho4 hg4 _; have HB4 : Hid (Below wc.heap.size wc w4) := below_gr8 HBb.out HOb.out hg4; have HO4 : Hid (Own w4 wc.heap.size (.slice ao4 8 cap4) (d4 (q : Int) ++ d4 na)) := ho4; have e4 := (HE8.out w4 HB4.out).2; clear ho4 hg4)
                  | (have hg := HBa; clear hg; go_at_call 28; refine Calls.mono (HDG.out na _ (by omega) (by omega)) ?_; rintro e wb ⟨v2, rfl, hob, hbb⟩; have HDb : Hid (Bs wb v2 (d4 na)) := hob.bs; have HBb : Hid (Below wc.heap.size wc wb) := HBa.out.trans (hbb.mono HBa.out.size); have HOb : Hid (Own wb wc.heap.size v1 (d4 (q : Int))) := HOa.out.below hbb; clear hob hbb)
                  | (go_at_call 28; refine Calls.mono (HDG.out (q : Int) _ (by omega) (by omega)) ?_; rintro e wa ⟨v1, rfl, hoa, hba⟩; have HOa : Hid (Own wa wc.heap.size v1 (d4 (q : Int))) := hoa; have HBa : Hid (Below wc.heap.size wc wa) := hba; have ea := (HE8.out wa hba).1; clear hoa hba))
                obtain ⟨P0, HP0⟩ : ∃ P0, Hid (((d4 (q : Int) ++ d4 na) ++ d4 nb) ++ c.take q = P0) := ⟨_, rfl⟩
                have HPL : Hid (P0.length = 12 + q) := by unfold Hid; rw [← HP0.out, List.length_append, HL4.out, HTL.out]
                rw [HP0.out] at HO7
                obtain ⟨sz, HSZ⟩ : ∃ sz : Nat, Hid (x.2.toNat = sz) := ⟨_, rfl⟩
                have hsz : x.2 = (sz : Int) := by have := HSZ.out; omega
                have hszq : 16 + q ≤ sz := by omega
                have hszt : sz ≤ 4194304 := by omega
                have HBP : Hid (P0 ++ List.replicate (sz - 4 - (12 + q)) 0 = blkP (c.take q) (na, nb) sz) := by
                  unfold Hid blkP
                  rw [← HP0.out, HTL.out, show sz - 4 - (12 + q) = sz - 16 - q from by omega]
                clear HOa HBa ea HDb HBb HOb HB4 HO4 e4 HD5 HB5 HO5 HB6 HO6
                go_loopw [13] (fun z wl => ∃ (k : Nat) (ao : Option Addr) (cap : Nat), 12 + q ≤ k ∧ k ≤ sz - 4 ∧ z = .slice ao k cap ∧ Hid (Own wl wc.heap.size (.slice ao k cap) (P0 ++ List.replicate (k - (12 + q)) 0)) ∧ Hid (Below wc.heap.size wc wl)) (fun z _ => sz - 4 - sliceLen z)
                case atStart => exact ⟨12 + q, ao7, cap7, Nat.le_refl _, by omega, rfl, by unfold Hid; rw [Nat.sub_self, List.replicate_zero, List.append_nil]; exact HO7.out, HB7.out⟩
                case round =>
                  obtain ⟨k, aoB, capB, hk1, hk2, rfl, HOk, HBk2⟩ := hrel
                  obtain ⟨f1, f2⟩ := HCA.out wr (HWC.out wr HBk2.out).2.1
                  rw [hsz] at f2
                  have y3 : gr < wr.heap.size := World.block_lt_of_cell? wr _ f1
                  have y4 : ¬ wr.heap.size = gr := by omega
                  have y5 : ¬ gr = wr.heap.size := by omega
                  have HLk : Hid ((P0 ++ List.replicate (k - (12 + q)) 0).length = k) := by unfold Hid; rw [List.length_append, List.length_replicate, HPL.out]; omega
                  by_cases hks : k < sz - 4
                  · have hki : (k : Int) < (sz : Int) - 4 := by omega
                    have HNXT : Hid ((P0 ++ List.replicate (k - (12 + q)) 0) ++ [0] = P0 ++ List.replicate (k + 1 - (12 + q)) 0) := by
                      unfold Hid
                      rw [List.append_assoc, show k + 1 - (12 + q) = (k - (12 + q)) + 1 from by omega, List.replicate_succ']
                    have HBa1 : Hid (Below wc.heap.size wc (wr.alloc (.cells #[.int .u8 0] 5))) := HBk2.out.alloc HBk2.out.size _
                    have HHK : Hid (12 + q ≤ k ∧ k < sz - 4 ∧ sz ≤ 4194304) := ⟨hk1, hks, hszt⟩
                    clear hsz
                    go_wp2_with (at_builtin; refine wpList_append_bg _ rfl (.tmp 104) (.tmp 105) 31 rfl i0 Tryd.underlying31 hi0 hz0 hz1 hz2 wc.heap.size (.slice aoB k capB) _ (P0 ++ List.replicate (k - (12 + q)) 0) [0] k 1 HLk.out rfl rfl rfl (HOk.out.alloc _) (Bs.one _ _) (by have := HHK.out; omega) HBa1.out.size ?_; intro ao1 cap1 w1 ho1 hg1 _; have HBn : Hid (Below wc.heap.size wc w1) := below_gr8 HBa1.out (HOk.out.alloc _) hg1; have HOn : Hid (Own w1 wc.heap.size (.slice ao1 (k + 1) cap1) (P0 ++ List.replicate (k + 1 - (12 + q)) 0)) := (by unfold Hid; rw [← HNXT.out]; exact ho1); clear ho1 hg1)
                    go_roundw
                    case rel => exact ⟨k + 1, ao1, cap1, by have := HHK.out; omega, by have := HHK.out; omega, rfl, HOn.out, HBn.out⟩
                    case measure => have := HHK.out; simp [sliceLen]; omega
                  · have hki : ¬ (k : Int) < (sz : Int) - 4 := by omega
                    obtain ⟨kk, HKK⟩ : ∃ kk, Hid (k = sz - 4 ∧ kk = k ∧ 16 + q ≤ sz ∧ sz ≤ 4194304) := ⟨k, by omega, rfl, hszq, hszt⟩
                    have HBB : Hid (Bs wr (.slice aoB k capB) (blkP (c.take q) (na, nb) sz)) := by
                      have h9 := HOk.out.bs
                      rw [HKK.out.1] at h9 ⊢
                      rw [← HBP.out]; exact h9
                    have HSX : Hid (x.2 = (sz : Int)) := hsz
                    clear hsz
                    go_upto_region 28 with fail
                    have HSL : Hid (Calls Tryd.prog 37 #[.slice aoB k capB] wr.drew fun e w' => ∃ x, e = .returned x ∧ Own w' wr.drew.heap.size x (blkL (c.take q) (na, nb) sz) ∧ Below wr.drew.heap.size wr.drew w') := refSeal_any (.slice aoB k capB) (blkP (c.take q) (na, nb) sz) wr.drew (HBB.out.below (Below.refl _ _).drew) (by rw [blkP_length (by rw [HTL.out]; have := HKK.out; omega)]; have := HKK.out; omega) (blkP_byt HYT.out)
                    have HKD : Hid (BkR wr w3.heap.size (.slice aoL ln capL) L) := HKW.out wr HBk2.out
                    have HW3 : Hid (Below w3.heap.size w3 wr) := (HWC.out wr HBk2.out).2.2
                    have HLB : Hid ((blkL (c.take q) (na, nb) sz).length = sz) := blkL_length (by rw [HTL.out]; have := HKK.out; omega)
                    go_region_law (first
                      | (refine step_call rfl 37 (enters_of Tryd.func37 (by kernel_rfl) rfl) #[.tmp 113] _ rfl _ (by go_simp) (fun v w' => ∃ ao9 cap9, v = .slice ao9 sz cap9 ∧ Own w' wr.heap.size (.slice ao9 sz cap9) (blkL (c.take q) (na, nb) sz) ∧ Below wr.heap.size wr w') (Calls.mono HSL.out (by rintro e w' ⟨x9, rfl, h1, h2⟩; obtain ⟨ao9, cap9, hx9⟩ := row_sliceE h1; rw [HLB.out] at hx9; subst hx9; exact ⟨_, rfl, ao9, cap9, rfl, h1, below_undrew h2⟩)) ?_; rintro v9 w9 ⟨ao9, cap9, rfl, ho9, hb9⟩; have f1n : w9.cell? ⟨gr, or_ + i * 2, none⟩ = some (.int .i64 x.1) := (hb9.cell (World.block_lt_of_cell? wr _ f1)).trans f1; have HGX : Hid ((w9.alloc (.cells #[.int .i64 x.1, .slice ao9 sz cap9] 76)).heap[w9.heap.size]? = some (.cells #[.int .i64 x.1, .slice ao9 sz cap9] 76 (0, 0))) := heap_alloc_new w9 _; have HS9 : Hid (Sep (w9.alloc (.cells #[.int .i64 x.1, .slice ao9 sz cap9] 76)) w3.heap.size ([byR (x.1, .slice ao9 sz cap9, blkL (c.take q) (na, nb) sz)] ++ rowBR (.slice aoL ln capL) L :: L.map byR)) := bkr_new HKD.out hb9 HW3.out.size ho9 _; have HB9 : Hid (Below w3.heap.size w3 (w9.alloc (.cells #[.int .i64 x.1, .slice ao9 sz cap9] 76))) := (HW3.out.trans (hb9.mono HW3.out.size)).alloc (Nat.le_trans HW3.out.size hb9.size) _; have HRW : Hid ((w9.alloc (.cells #[.int .i64 x.1, .slice ao9 sz cap9] 76)).ownsRow w3.heap.size 76 2 (.slice aoL ln capL) ln (gc encBk L)) := (by have h := HS9.out.at_ (rowBR (.slice aoL ln capL) L) (by simp); have h' : (w9.alloc (.cells #[.int .i64 x.1, .slice ao9 sz cap9] 76)).ownsRow w3.heap.size 76 2 (.slice aoL ln capL) L.length (gc encBk L) := h; rw [HLn.out] at h'; exact h'); clear ho9 hb9)
                      | (refine step_append_G 117 rfl rfl (.tmp 107) (.tmp 116) 38 76 rfl i1 Tryd.underlying38 hi1 _ hy0 2 32 hy1 hy2 rfl (by omega) w3.heap.size (.slice aoL ln capL) ln (gc encBk L) ⟨w9.heap.size, 0, none⟩ 1 1 [.int .i64 x.1, .slice ao9 sz cap9] rfl rfl HRW.out rfl (news_one HGX.out) (by intro u hu; simp at hu; rcases hu with rfl | rfl <;> rfl) (by omega) (by omega) (by omega) HB9.out.size ?_; intro g4 cap4 w4 ho4 hg4 ha4; have HS4 : Hid (BkR w4 w3.heap.size (.slice (some ⟨g4, 0, none⟩) (ln + 1) cap4) (L ++ [(x.1, .slice ao9 sz cap9, blkL (c.take q) (na, nb) sz)])) := bkr_turn HLn.out HS9.out ho4 hg4 ha4; have HB4 : Hid (Below w3.heap.size w3 w4) := blk_below HB9.out HRW.out hg4; clear ho4 hg4 ha4))
                    all_goals
                      go_wp2_with fail
                      go_roundw
                      case rel => exact ⟨i + 1, c.drop q, _, n - q, cap - q, L ++ [((x.1, Value.slice ao9 sz cap9, blkL (c.take q) (na, nb) sz) : Blk)], by omega, by simp, rfl, HCL.out, by omega, bs_drop HBc.out HCn.out hq0 _ (fun _ => rfl) (by simp), HYD.out, by have h9 := HMN.out (Value.slice ao9 sz cap9) (na, nb) HNX.out; rw [HSZ.out] at h9; exact h9, HSt.out, by unfold Hid; rw [List.length_append, HLi.out]; rfl, HS4.out, HB4.out⟩
                      case measure => simp [intOf]; omega
              · obtain rfl : q = n := by omega
                clear hrest hqn2
                have e0 : wr.alloc (.cells #[.int .i64 0, .int .i64 0] 54) = wr.alloc (.cells #[.int .i64 nx.1, .int .i64 nx.2] 54) := by rw [hz]
                go_upto_region 22 with fail
                try rw [e0]
                clear e0 hz
                obtain ⟨wc, hwc⟩ : ∃ wc, wr.alloc (.cells #[.int .i64 nx.1, .int .i64 nx.2] 54) = wc := ⟨_, rfl⟩
                have HBw : Hid (Below wr.heap.size wr wc) := by unfold Hid; rw [← hwc]; exact (Below.refl _ _).alloc (Nat.le_refl _) _
                have ho8 : wc.heap[wr.heap.size]? = some (.cells #[.int .i64 nx.1, .int .i64 nx.2] 54 (0, 0)) := by rw [← hwc]; exact heap_alloc_new wr _
                rw [hwc]
                have HE8 : Hid (∀ W, Below wc.heap.size wc W → W.cell? ⟨wr.heap.size, 0, none⟩ = some (.int .i64 nx.1) ∧ W.cell? ⟨wr.heap.size, 1, none⟩ = some (.int .i64 nx.2)) := fun W hW => ⟨(hW.cell (World.block_lt_of_cell? wc _ (cellO ho8 0 rfl))).trans (cellO ho8 0 rfl), (hW.cell (World.block_lt_of_cell? wc _ (cellO ho8 1 rfl))).trans (cellO ho8 1 rfl)⟩
                have HWC : Hid (∀ W, Below wc.heap.size wc W → Below wr.heap.size wr W ∧ Below w.heap.size w W ∧ Below w3.heap.size w3 W) := fun W h => ⟨HBw.out.trans (h.mono HBw.out.size), (HCN.out W (HBw.out.trans (h.mono HBw.out.size))).1, (HCN.out W (HBw.out.trans (h.mono HBw.out.size))).2⟩
                have HKW : Hid (∀ W, Below wc.heap.size wc W → BkR W w3.heap.size (.slice aoL ln capL) L) := fun W h => HBk.out.below (HWC.out W h).1
                clear ho8 hwc d1 d2 y3 y4 y5
                generalize wr.heap.size = b8 at *
                obtain ⟨na, nb⟩ := nx
                dsimp only at n0 n1 n2 n3 HE8
                have hwq : IntKind.u64.wrap (q : Int) = (q : Int) := by simp [IntKind.wrap, IntKind.bits, IntKind.signed]; omega
                have hwa : IntKind.u64.wrap na = na := by simp [IntKind.wrap, IntKind.bits, IntKind.signed]; omega
                have hwb : IntKind.u64.wrap nb = nb := by simp [IntKind.wrap, IntKind.bits, IntKind.signed]; omega
                have HDG : Hid (∀ (u : Int) (W : World), 0 ≤ u → u < 4294967296 → Calls Tryd.prog 28 #[.int .i64 4, .bool true, .int .u64 u] W fun e w' => ∃ v', e = .returned v' ∧ Own w' W.heap.size v' (d4 u) ∧ Below W.heap.size W w') := fun u W h0 h1 => refDigits_four u W h0 (by omega)
                have HL0 : Hid ((d4 (q : Int)).length = 4) := d4_length _
                have HL1 : Hid ((d4 na).length = 4) := d4_length _
                have HL2 : Hid ((d4 nb).length = 4) := d4_length _
                have HL3 : Hid ((d4 (q : Int) ++ d4 na).length = 8) := by unfold Hid; rw [List.length_append, d4_length, d4_length]
                have HL4 : Hid (((d4 (q : Int) ++ d4 na) ++ d4 nb).length = 12) := by unfold Hid; rw [List.length_append, HL3.out, d4_length]
                go_wp2_with (first
                  | (have hg := HB6; clear hg; at_builtin; refine wpList_append_bg w6 rfl (.tmp 90) (.tmp 93) 31 rfl i0 Tryd.underlying31 hi0 hz0 hz1 hz2 wc.heap.size (.slice ao6 12 cap6) (.slice (some ⟨b, off, none⟩) q cap) ((d4 (q : Int) ++ d4 na) ++ d4 nb) (c.take q) 12 q HL4.out HTL.out rfl rfl HO6.out (HBT.out.below (HWC.out w6 HB6.out).2.2) (by omega) HB6.out.size ?_; intro ao7 cap7 w7 ho7 hg7 _; have HB7 : Hid (Below wc.heap.size wc w7) := below_gr8 HB6.out HO6.out hg7; have HO7 : Hid (Own w7 wc.heap.size (.slice ao7 (12 + q) cap7) (((d4 (q : Int) ++ d4 na) ++ d4 nb) ++ c.take q)) := ho7; clear ho7 hg7)
                  | (have hg := HB5; clear hg; at_builtin; refine wpList_append_bg w5 rfl (.tmp 84) (.tmp 88) 31 rfl i0 Tryd.underlying31 hi0 hz0 hz1 hz2 wc.heap.size (.slice ao4 8 cap4) v5 (d4 (q : Int) ++ d4 na) (d4 nb) 8 4 HL3.out HL2.out rfl rfl HO5.out HD5.out (by omega) HB5.out.size ?_; intro ao6 cap6 w6 ho6 hg6 _; have HB6 : Hid (Below wc.heap.size wc w6) := below_gr8 HB5.out HO5.out hg6; have HO6 : Hid (Own w6 wc.heap.size (.slice ao6 12 cap6) ((d4 (q : Int) ++ d4 na) ++ d4 nb)) := ho6; clear ho6 hg6)
                  | (have hg := HB4; clear hg; go_at_call 28; refine Calls.mono (HDG.out nb _ (by omega) (by omega)) ?_; rintro e w5 ⟨v5, rfl, ho5, hb5⟩; have HD5 : Hid (Bs w5 v5 (d4 nb)) := ho5.bs; have HB5 : Hid (Below wc.heap.size wc w5) := HB4.out.trans (hb5.mono HB4.out.size); have HO5 : Hid (Own w5 wc.heap.size (.slice ao4 8 cap4) (d4 (q : Int) ++ d4 na)) := HO4.out.below hb5; clear ho5 hb5)
                  | (have hg := HBb; clear hg; at_builtin; refine wpList_append_bg wb rfl (.tmp 78) (.tmp 82) 31 rfl i0 Tryd.underlying31 hi0 hz0 hz1 hz2 wc.heap.size v1 v2 (d4 (q : Int)) (d4 na) 4 4 HL0.out HL1.out rfl rfl HOb.out HDb.out (by omega) HBb.out.size ?_; intro ao4 cap4 w4 ho4 hg4 _; have HB4 : Hid (Below wc.heap.size wc w4) := below_gr8 HBb.out HOb.out hg4; have HO4 : Hid (Own w4 wc.heap.size (.slice ao4 8 cap4) (d4 (q : Int) ++ d4 na)) := ho4; have e4 := (HE8.out w4 HB4.out).2; clear ho4 hg4)
                  | (have hg := HBa; clear hg; go_at_call 28; refine Calls.mono (HDG.out na _ (by omega) (by omega)) ?_; rintro e wb ⟨v2, rfl, hob, hbb⟩; have HDb : Hid (Bs wb v2 (d4 na)) := hob.bs; have HBb : Hid (Below wc.heap.size wc wb) := HBa.out.trans (hbb.mono HBa.out.size); have HOb : Hid (Own wb wc.heap.size v1 (d4 (q : Int))) := HOa.out.below hbb; clear hob hbb)
                  | (go_at_call 28; refine Calls.mono (HDG.out (q : Int) _ (by omega) (by omega)) ?_; rintro e wa ⟨v1, rfl, hoa, hba⟩; have HOa : Hid (Own wa wc.heap.size v1 (d4 (q : Int))) := hoa; have HBa : Hid (Below wc.heap.size wc wa) := hba; have ea := (HE8.out wa hba).1; clear hoa hba))
                obtain ⟨P0, HP0⟩ : ∃ P0, Hid (((d4 (q : Int) ++ d4 na) ++ d4 nb) ++ c.take q = P0) := ⟨_, rfl⟩
                have HPL : Hid (P0.length = 12 + q) := by unfold Hid; rw [← HP0.out, List.length_append, HL4.out, HTL.out]
                rw [HP0.out] at HO7
                obtain ⟨sz, HSZ⟩ : ∃ sz : Nat, Hid (x.2.toNat = sz) := ⟨_, rfl⟩
                have hsz : x.2 = (sz : Int) := by have := HSZ.out; omega
                have hszq : 16 + q ≤ sz := by omega
                have hszt : sz ≤ 4194304 := by omega
                have HBP : Hid (P0 ++ List.replicate (sz - 4 - (12 + q)) 0 = blkP (c.take q) (na, nb) sz) := by
                  unfold Hid blkP
                  rw [← HP0.out, HTL.out, show sz - 4 - (12 + q) = sz - 16 - q from by omega]
                clear HOa HBa ea HDb HBb HOb HB4 HO4 e4 HD5 HB5 HO5 HB6 HO6
                go_loopw [13] (fun z wl => ∃ (k : Nat) (ao : Option Addr) (cap : Nat), 12 + q ≤ k ∧ k ≤ sz - 4 ∧ z = .slice ao k cap ∧ Hid (Own wl wc.heap.size (.slice ao k cap) (P0 ++ List.replicate (k - (12 + q)) 0)) ∧ Hid (Below wc.heap.size wc wl)) (fun z _ => sz - 4 - sliceLen z)
                case atStart => exact ⟨12 + q, ao7, cap7, Nat.le_refl _, by omega, rfl, by unfold Hid; rw [Nat.sub_self, List.replicate_zero, List.append_nil]; exact HO7.out, HB7.out⟩
                case round =>
                  obtain ⟨k, aoB, capB, hk1, hk2, rfl, HOk, HBk2⟩ := hrel
                  obtain ⟨f1, f2⟩ := HCA.out wr (HWC.out wr HBk2.out).2.1
                  rw [hsz] at f2
                  have y3 : gr < wr.heap.size := World.block_lt_of_cell? wr _ f1
                  have y4 : ¬ wr.heap.size = gr := by omega
                  have y5 : ¬ gr = wr.heap.size := by omega
                  have HLk : Hid ((P0 ++ List.replicate (k - (12 + q)) 0).length = k) := by unfold Hid; rw [List.length_append, List.length_replicate, HPL.out]; omega
                  by_cases hks : k < sz - 4
                  · have hki : (k : Int) < (sz : Int) - 4 := by omega
                    have HNXT : Hid ((P0 ++ List.replicate (k - (12 + q)) 0) ++ [0] = P0 ++ List.replicate (k + 1 - (12 + q)) 0) := by
                      unfold Hid
                      rw [List.append_assoc, show k + 1 - (12 + q) = (k - (12 + q)) + 1 from by omega, List.replicate_succ']
                    have HBa1 : Hid (Below wc.heap.size wc (wr.alloc (.cells #[.int .u8 0] 5))) := HBk2.out.alloc HBk2.out.size _
                    have HHK : Hid (12 + q ≤ k ∧ k < sz - 4 ∧ sz ≤ 4194304) := ⟨hk1, hks, hszt⟩
                    clear hsz
                    go_wp2_with (at_builtin; refine wpList_append_bg _ rfl (.tmp 104) (.tmp 105) 31 rfl i0 Tryd.underlying31 hi0 hz0 hz1 hz2 wc.heap.size (.slice aoB k capB) _ (P0 ++ List.replicate (k - (12 + q)) 0) [0] k 1 HLk.out rfl rfl rfl (HOk.out.alloc _) (Bs.one _ _) (by have := HHK.out; omega) HBa1.out.size ?_; intro ao1 cap1 w1 ho1 hg1 _; have HBn : Hid (Below wc.heap.size wc w1) := below_gr8 HBa1.out (HOk.out.alloc _) hg1; have HOn : Hid (Own w1 wc.heap.size (.slice ao1 (k + 1) cap1) (P0 ++ List.replicate (k + 1 - (12 + q)) 0)) := (by unfold Hid; rw [← HNXT.out]; exact ho1); clear ho1 hg1)
                    go_roundw
                    case rel => exact ⟨k + 1, ao1, cap1, by have := HHK.out; omega, by have := HHK.out; omega, rfl, HOn.out, HBn.out⟩
                    case measure => have := HHK.out; simp [sliceLen]; omega
                  · have hki : ¬ (k : Int) < (sz : Int) - 4 := by omega
                    obtain ⟨kk, HKK⟩ : ∃ kk, Hid (k = sz - 4 ∧ kk = k ∧ 16 + q ≤ sz ∧ sz ≤ 4194304) := ⟨k, by omega, rfl, hszq, hszt⟩
                    have HBB : Hid (Bs wr (.slice aoB k capB) (blkP (c.take q) (na, nb) sz)) := by
                      have h9 := HOk.out.bs
                      rw [HKK.out.1] at h9 ⊢
                      rw [← HBP.out]; exact h9
                    have HSX : Hid (x.2 = (sz : Int)) := hsz
                    clear hsz
                    go_upto_region 28 with fail
                    have HSL : Hid (Calls Tryd.prog 37 #[.slice aoB k capB] wr.drew fun e w' => ∃ x, e = .returned x ∧ Own w' wr.drew.heap.size x (blkL (c.take q) (na, nb) sz) ∧ Below wr.drew.heap.size wr.drew w') := refSeal_any (.slice aoB k capB) (blkP (c.take q) (na, nb) sz) wr.drew (HBB.out.below (Below.refl _ _).drew) (by rw [blkP_length (by rw [HTL.out]; have := HKK.out; omega)]; have := HKK.out; omega) (blkP_byt HYT.out)
                    have HKD : Hid (BkR wr w3.heap.size (.slice aoL ln capL) L) := HKW.out wr HBk2.out
                    have HW3 : Hid (Below w3.heap.size w3 wr) := (HWC.out wr HBk2.out).2.2
                    have HLB : Hid ((blkL (c.take q) (na, nb) sz).length = sz) := blkL_length (by rw [HTL.out]; have := HKK.out; omega)
                    go_region_law (first
                      | (refine step_call rfl 37 (enters_of Tryd.func37 (by kernel_rfl) rfl) #[.tmp 113] _ rfl _ (by go_simp) (fun v w' => ∃ ao9 cap9, v = .slice ao9 sz cap9 ∧ Own w' wr.heap.size (.slice ao9 sz cap9) (blkL (c.take q) (na, nb) sz) ∧ Below wr.heap.size wr w') (Calls.mono HSL.out (by rintro e w' ⟨x9, rfl, h1, h2⟩; obtain ⟨ao9, cap9, hx9⟩ := row_sliceE h1; rw [HLB.out] at hx9; subst hx9; exact ⟨_, rfl, ao9, cap9, rfl, h1, below_undrew h2⟩)) ?_; rintro v9 w9 ⟨ao9, cap9, rfl, ho9, hb9⟩; have f1n : w9.cell? ⟨gr, or_ + i * 2, none⟩ = some (.int .i64 x.1) := (hb9.cell (World.block_lt_of_cell? wr _ f1)).trans f1; have HGX : Hid ((w9.alloc (.cells #[.int .i64 x.1, .slice ao9 sz cap9] 76)).heap[w9.heap.size]? = some (.cells #[.int .i64 x.1, .slice ao9 sz cap9] 76 (0, 0))) := heap_alloc_new w9 _; have HS9 : Hid (Sep (w9.alloc (.cells #[.int .i64 x.1, .slice ao9 sz cap9] 76)) w3.heap.size ([byR (x.1, .slice ao9 sz cap9, blkL (c.take q) (na, nb) sz)] ++ rowBR (.slice aoL ln capL) L :: L.map byR)) := bkr_new HKD.out hb9 HW3.out.size ho9 _; have HB9 : Hid (Below w3.heap.size w3 (w9.alloc (.cells #[.int .i64 x.1, .slice ao9 sz cap9] 76))) := (HW3.out.trans (hb9.mono HW3.out.size)).alloc (Nat.le_trans HW3.out.size hb9.size) _; have HRW : Hid ((w9.alloc (.cells #[.int .i64 x.1, .slice ao9 sz cap9] 76)).ownsRow w3.heap.size 76 2 (.slice aoL ln capL) ln (gc encBk L)) := (by have h := HS9.out.at_ (rowBR (.slice aoL ln capL) L) (by simp); have h' : (w9.alloc (.cells #[.int .i64 x.1, .slice ao9 sz cap9] 76)).ownsRow w3.heap.size 76 2 (.slice aoL ln capL) L.length (gc encBk L) := h; rw [HLn.out] at h'; exact h'); clear ho9 hb9)
                      | (refine step_append_G 117 rfl rfl (.tmp 107) (.tmp 116) 38 76 rfl i1 Tryd.underlying38 hi1 _ hy0 2 32 hy1 hy2 rfl (by omega) w3.heap.size (.slice aoL ln capL) ln (gc encBk L) ⟨w9.heap.size, 0, none⟩ 1 1 [.int .i64 x.1, .slice ao9 sz cap9] rfl rfl HRW.out rfl (news_one HGX.out) (by intro u hu; simp at hu; rcases hu with rfl | rfl <;> rfl) (by omega) (by omega) (by omega) HB9.out.size ?_; intro g4 cap4 w4 ho4 hg4 ha4; have HS4 : Hid (BkR w4 w3.heap.size (.slice (some ⟨g4, 0, none⟩) (ln + 1) cap4) (L ++ [(x.1, .slice ao9 sz cap9, blkL (c.take q) (na, nb) sz)])) := bkr_turn HLn.out HS9.out ho4 hg4 ha4; have HB4 : Hid (Below w3.heap.size w3 w4) := blk_below HB9.out HRW.out hg4; clear ho4 hg4 ha4))
                    all_goals
                      go_wp2_with fail
                      go_roundw
                      case rel => exact ⟨i + 1, c.drop q, _, 0, cap - q, L ++ [((x.1, Value.slice ao9 sz cap9, blkL (c.take q) (na, nb) sz) : Blk)], by omega, by simp, rfl, by have := HCL.out; rw [Nat.sub_self] at this; exact this, by omega, by have h9 := bs_drop HBc.out HCn.out (Nat.le_refl q) (if cap = q then some ⟨b, off, none⟩ else some ⟨b, off + q, none⟩) (fun h => absurd h (by omega)) (by split <;> simp); rw [Nat.sub_self] at h9; exact h9, HYD.out, by have h9 := HMN.out (Value.slice ao9 sz cap9) (na, nb) HNX.out; rw [HSZ.out] at h9; exact h9, HSt.out, by unfold Hid; rw [List.length_append, HLi.out]; rfl, HS4.out, HB4.out⟩
                      case measure => simp [intOf]; omega
          · have hili : ¬ (i : Int) < (rn : Int) := by omega
            have hn0i : (0 : Int) < (n : Int) := by omega
            have HFull : Hid (roomOf r < s.length) := by
              have h1 := HLf.out.2 (by intro e; have h9 := HCn.out; rw [e] at h9; simp at h9; omega)
              have h2 : i = r.length := by rw [HRN.out]; omega
              rw [h2, List.take_length] at h1
              have h3 := HCn.out
              unfold Hid; omega
            go_wp2_with fail
            go_ret2
            exact ⟨_, [], by rw [if_pos HFull.out]; rfl, by rw [if_pos HFull.out]; rfl, BkR.nil _ _, HWB.out⟩
        · have hn00 : n = 0 := by omega
          subst hn00
          have HCe : Hid (c = []) := List.eq_nil_of_length_eq_zero HCn.out
          have HNF : Hid (¬ roomOf r < s.length) := by
            have h1 := HLf.out.1 HCe.out
            have h2 := roomOf_leT r i
            unfold Hid; omega
          have HEq : Hid (L.map plB = blksM r s) := by have h9 := HMm.out; rw [HCe.out, blksM_nil, List.append_nil] at h9; exact h9
          have HBL : Hid (∀ v, BkR wr w3.heap.size v L → BkR wr w.heap.size v L) := fun v h => h.lower HB3.out.size
          by_cases hlt : i < rn
          · have hili : (i : Int) < (rn : Int) := by omega
            go_wp2_with fail
            go_ret2
            exact ⟨_, L, by rw [if_neg HNF.out]; rfl, by rw [if_neg HNF.out]; exact HEq.out, HBL.out _ HBk.out, HWB.out⟩
          · have hili : ¬ (i : Int) < (rn : Int) := by omega
            go_wp2_with fail
            go_ret2
            exact ⟨_, L, by rw [if_neg HNF.out]; rfl, by rw [if_neg HNF.out]; exact HEq.out, HBL.out _ HBk.out, HWB.out⟩
end Go.Proofs.YtdalkjenjnalbaaDoor
