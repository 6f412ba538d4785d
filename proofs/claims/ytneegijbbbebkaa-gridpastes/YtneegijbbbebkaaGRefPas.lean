/-
  A paste, tuple by tuple and byte by byte. Conditions: the box lies within both parts.
  The document's Paste. Conditions: the chunk has at most 3000 elements, lengths are such as memory bears.
-/
import Derived.Test.YtneegijbbbebkaaGBoxT
import Derived.Test.YtneegijbbbebkaaGRefT
import Derived.Test.YtneegijbbbebkaaGRefW
import Derived.Test.YtneegijbbbebkaaGRefB
import Derived.Test.YtneegijbbbebkaaGFd
namespace Go.Proofs.Ytneegijbbbebkaa
open Go.RowKit
set_option linter.unusedVariables false
set_option maxRecDepth 100000

theorem cpy_set {s y : List Int} {a k : Nat} {x : Int} (hy : y[k]? = some x) (h : a + y.length ≤ s.length) : (cpy s (y.take k) a).set (a + k) x = cpy s (y.take (k + 1)) a := by
  have hk := (List.getElem?_eq_some_iff.1 hy).1
  have l1 : (y.take k).length = k := by rw [List.length_take]; omega
  have l2 : (y.take (k + 1)).length = k + 1 := by rw [List.length_take]; omega
  have c1 := cpy_len (s := s) (x := y.take k) (a := a) (by omega)
  refine List.ext_getElem? (fun m => ?_)
  rw [List.getElem?_set, c1, cpy_at (by omega), cpy_at (by omega), l1, l2]
  by_cases e : a + k = m
  · subst e
    rw [if_pos rfl, if_pos (by omega), if_pos (by omega), show a + k - a = k by omega, List.getElem?_take_of_lt (by omega), hy]
  · rw [if_neg e]
    by_cases h2 : a ≤ m ∧ m < a + k
    · rw [if_pos h2, if_pos (by omega), List.getElem?_take_of_lt (by omega), List.getElem?_take_of_lt (by omega)]
    · rw [if_neg h2, if_neg (by omega)]
theorem cpy_nil (s y : List Int) (a : Nat) : cpy s (y.take 0) a = s := by simp [cpy]
/-- What becomes of the bytes by a tuple; and by the first of them. -/
def pasF (D S C chunk : List Int) (z : Nat) (s : List Int) (K : Nat) : List Int := if inbB (clB D S C) (tG S K) = true then cpy s ((chunk.drop (K * z)).take z) ((plc D (addL (clS D S C) (tG S K))).toNat * z) else s
def pasS (D S C chunk : List Int) (z : Nat) (data : List Int) (i : Nat) : List Int := (List.range i).foldl (pasF D S C chunk z) data
theorem pasS_zero (D S C chunk : List Int) (z : Nat) (data : List Int) : pasS D S C chunk z data 0 = data := rfl
theorem pasS_succ (D S C chunk : List Int) (z : Nat) (data : List Int) (i : Nat) : pasS D S C chunk z data (i + 1) = pasF D S C chunk z (pasS D S C chunk z data i) i := by
  rw [pasS, List.range_succ, List.foldl_append]; rfl
/-- A paste is the tuples' bytes, laid one behind the other. -/
theorem pas_all {data chunk D S C : List Int} {r z N : Nat} (bx1 : BoxIn S (List.replicate r 0) (clB D S C) r) (bx2 : BoxIn D (clS D S C) (clB D S C) r) (hz : 1 ≤ z) (hd : (data.length : Int) = prd D * z) (hc : (chunk.length : Int) = prd S * z) (hs : ∀ y ∈ S, 0 ≤ y) (hN : prdN (dN S) = N) :
    pasS D S C chunk z data N = pasR data chunk D S C z ∧ (∀ i, i ≤ N → (pasS D S C chunk z data i).length = data.length) ∧ ∀ K, K < N → ∃ t, tG S K = t ∧ t.length = r ∧ Ins2 S t ∧ (K + 1) * z ≤ chunk.length ∧
      (inbB (clB D S C) t = true → Ins2 D (addL (clS D S C) t) ∧ ∃ p : Nat, plc D (addL (clS D S C) t) = (p : Int) ∧ (p + 1) * z ≤ data.length ∧ pasS D S C chunk z data (K + 1) = cpy (pasS D S C chunk z data K) ((chunk.drop (K * z)).take z) (p * z)) ∧
      (inbB (clB D S C) t = false → pasS D S C chunk z data (K + 1) = pasS D S C chunk z data K) := by
  have hP : prd S = (N : Int) := by rw [← prd_dN hs, hN]
  have hcN : chunk.length = N * z := by rw [hP] at hc; exact_mod_cast hc
  have facts : ∀ K, K < N → Ins2 S (tG S K) ∧ plc S (tG S K) = (K : Int) ∧ (tG S K).length = r ∧ (K + 1) * z ≤ chunk.length ∧ (inbB (clB D S C) (tG S K) = true ↔ InB (clB D S C) (tG S K)) ∧ (InB (clB D S C) (tG S K) → Ins2 D (addL (clS D S C) (tG S K)) ∧ ∃ p : Nat, plc D (addL (clS D S C) (tG S K)) = (p : Int) ∧ (p + 1) * z ≤ data.length) := fun K hK => by
    obtain ⟨hin, hpl⟩ := tG_plc hs (K := K) (by rw [hN]; exact hK)
    have htl : (tG S K).length = r := by rw [tG_length, bx1.d]
    refine ⟨hin, hpl, htl, by rw [hcN]; exact Nat.mul_le_mul_right _ hK, inbB_iff (by rw [htl, bx1.x]), fun hb => ?_⟩
    have hi2 := bx2.ins htl hb
    have hp := plc_in hi2
    obtain ⟨p, hpp⟩ : ∃ p : Nat, plc D (addL (clS D S C) (tG S K)) = (p : Int) := ⟨(plc D (addL (clS D S C) (tG S K))).toNat, by omega⟩
    refine ⟨hi2, p, hpp, ?_⟩
    have h1 := Int.mul_le_mul_of_nonneg_right (show (p : Int) + 1 ≤ prd D by omega) (show (0 : Int) ≤ z by omega)
    rw [← hd] at h1
    exact_mod_cast h1
  have step : ∀ K, K < N → ∀ s : List Int, s.length = data.length → Wr (Vx D (clS D S C) S (List.replicate r 0) chunk (clB D S C) r z) s (pasF D S C chunk z s K) (fun m => InB (clB D S C) (tG S K) ∧ (plc D (addL (clS D S C) (tG S K))).toNat * z ≤ m ∧ m < (plc D (addL (clS D S C) (tG S K))).toNat * z + z) := fun K hK s hsl => by
    obtain ⟨hin, hpl, htl, hck, hiff, hyes⟩ := facts K hK
    unfold pasF
    by_cases hb : inbB (clB D S C) (tG S K) = true
    · rw [if_pos hb]
      have hb' := hiff.1 hb
      obtain ⟨hi2, p, hpp, hpd⟩ := hyes hb'
      rw [hpp, show ((p : Int)).toNat = p from rfl]
      rw [Nat.succ_mul] at hck hpd
      have hy : ((chunk.drop (K * z)).take z).length = z := by rw [List.length_take, List.length_drop]; omega
      have hat : ∀ m, (cpy s ((chunk.drop (K * z)).take z) (p * z))[m]? = if p * z ≤ m ∧ m < p * z + z then ((chunk.drop (K * z)).take z)[m - p * z]? else s[m]? := fun m => by
        rw [cpy_at (by rw [hy, hsl]; exact hpd), hy]
      refine ⟨cpy_len (by rw [hy, hsl]; exact hpd), fun m hm u k hu hbu hk hmu => ?_, fun m hm => by rw [hat, if_neg (fun h => hm ⟨hb', h⟩)]⟩
      have hiu := bx2.ins hu hbu
      have hpu := plc_in hiu
      obtain ⟨U, hU⟩ : ∃ U : Nat, plc D (addL (clS D S C) u) = (U : Int) := ⟨(plc D (addL (clS D S C) u)).toNat, by omega⟩
      rw [hU, show ((U : Int)).toNat = U from rfl] at hmu
      obtain ⟨e1, e2⟩ := mul_inj (a := U) (b := p) (k := k) (l := m - p * z) hk (by omega) (by omega)
      have e : u = tG S K := addL_inj (S := clS D S C) (by rw [hu, bx2.s]) (by rw [htl, bx2.s]) (plc_inj hiu hi2 (by rw [hU, hpp, e1]))
      rw [hat, if_pos hm.2, List.getElem?_take_of_lt (by omega), List.getElem?_drop, e, addL_zero htl, hpl, ← e2]
      rfl
    · rw [if_neg hb]
      exact (Wr.nil _ s).iff (fun m => ⟨fun h => h.elim, fun h => hb (hiff.2 h.1)⟩)
  have wp := pas_wr bx1 bx2 hz hd hc
  have wall : ∀ i, i ≤ N → Wr (Vx D (clS D S C) S (List.replicate r 0) chunk (clB D S C) r z) data (pasS D S C chunk z data i) (fun m => ∃ K < i, InB (clB D S C) (tG S K) ∧ (plc D (addL (clS D S C) (tG S K))).toNat * z ≤ m ∧ m < (plc D (addL (clS D S C) (tG S K))).toNat * z + z) := fun i hi => Wr.fold rfl i (fun K hK s hsl => step K (by omega) s hsl)
  refine ⟨List.ext_getElem? (fun m => ?_), fun i hi => (wall i hi).len, fun K hK => ?_⟩
  · have wN := wall N (Nat.le_refl _)
    by_cases hm : InP D S C r z m
    · have hm' := hm
      obtain ⟨u, k, hu, hb, hk, he⟩ := hm'
      have hiu := bx1.ins hu hb
      rw [addL_zero hu] at hiu
      have hpu := plc_in hiu
      obtain ⟨U, hU⟩ : ∃ U : Nat, plc S u = (U : Int) := ⟨(plc S u).toNat, by omega⟩
      have hUN : U < N := by omega
      obtain ⟨hin, hpl, htl, _⟩ := facts U hUN
      have e : u = tG S U := plc_inj hiu hin (by rw [hU, hpl])
      have h1 := wN.yes m ⟨U, hUN, by rw [← e]; exact hb, by rw [← e]; omega, by rw [← e]; omega⟩ u k hu hb hk he
      have h2 := wp.yes m hm u k hu hb hk he
      rw [h1, h2]
    · rw [wp.no m hm]
      refine wN.no m (fun ⟨K, hK, hb, h1, h2⟩ => hm ⟨tG S K, m - (plc D (addL (clS D S C) (tG S K))).toNat * z, (facts K hK).2.2.1, hb, by omega, by omega⟩)
  · obtain ⟨hin, hpl, htl, hck, hiff, hyes⟩ := facts K hK
    refine ⟨_, rfl, htl, hin, hck, fun hb => ?_, fun hb => ?_⟩
    · obtain ⟨hi2, p, hpp, hpd⟩ := hyes (hiff.1 hb)
      exact ⟨hi2, p, hpp, hpd, by rw [pasS_succ, pasF, if_pos hb, hpp]; rfl⟩
    · rw [pasS_succ, pasF, if_neg (by rw [hb]; simp)]
end Go.Proofs.Ytneegijbbbebkaa

namespace Go.Proofs.Ytneegijbbbebkaa
open Go.RowKit Go.Shelf
set_option linter.unusedVariables false
set_option maxRecDepth 100000

theorem RwP.grown {w w' : World} {B : Nat} {v : Value} {L : List (List Int)} (h : RwP w B v L) {r : Option Nat} (hg : w.grownBy w' r) (hr : ∀ k, r = some k → k < B) : RwP w' B v L := by
  obtain ⟨vs, h⟩ := h
  refine ⟨vs, h.grown hg (fun g h1 h2 => ?_) (fun i u t hu ht g h1 h2 => ?_)⟩
  · have := (h.own.lt g h1).1
    have := hr g h2.symm
    omega
  · have h3 : w.ownsRow B 3 1 u t.length (gc encZ t) := (h.el i u t hu ht).1
    have := (h3.lt g h1).1
    have := hr g h2.symm
    omega
theorem bel_store {w wk : World} {g i : Nat} {v : Value} (h : Below w.heap.size w wk) (hg : w.heap.size ≤ g) : Below w.heap.size w (wk.setCell ⟨g, i, none⟩ v) := h.grown (grown_set (World.grownBy.refl _ _) _ _) h.size (fun b hb => by have := Option.some.inj hb; omega)
set_option maxHeartbeats 16000000 in
theorem refPaste_any (data fill D S C : List Int) (vda vd vs vc vf : Value) (z : Int) (w : World) (hda : Bs w vda data) (hdl : data.length ≤ 140737488351232) (hfi : Bs w vf fill) (hfl : fill.length ≤ 140737488351232) (hD : Is w vd D) (hS : Is w vs S) (hC : Is w vc C) (hz : I64 z) (hlt : elN S ≤ 3000) :
    Calls Try.prog 24 #[vda, .int .i64 z, vd, vs, vc, vf] w (RfB w (pasE data.length z D S C fill.length) (pasR data fill D S C z.toNat)) := by
  have HDA : Hid (Bs w vda data) := hda
  have HFI : Hid (Bs w vf fill) := hfi
  have HD : Hid (Is w vd D) := hD
  have HS : Hid (Is w vs S) := hS
  have HC : Hid (Is w vc C) := hC
  obtain ⟨xa, xc, rfl, xl1, xl2, _⟩ := hda
  obtain ⟨fa, fc, rfl, fl1, fl2, _⟩ := hfi
  obtain ⟨a1, m1, c1, rfl, e1, k1, l1⟩ := hD.open
  obtain ⟨a2, m2, c2, rfl, e2, k2, l2⟩ := hS.open
  obtain ⟨a3, m3, c3, rfl, e3, k3, l3⟩ := hC.open
  obtain ⟨dl, hdl'⟩ : ∃ dl, data.length = dl := ⟨_, rfl⟩
  obtain ⟨fl, hfl'⟩ : ∃ fl, fill.length = fl := ⟨_, rfl⟩
  have HDL : Hid (data.length = dl) := hdl'
  have HFL : Hid (fill.length = fl) := hfl'
  rw [hdl'] at hdl xl1 ⊢
  rw [hfl'] at hfl fl1 ⊢
  obtain ⟨ce, HCE⟩ : ∃ ce, Hid (pasE dl z D S C fl = ce) := ⟨_, rfl⟩
  have HBY : Hid (Calls Try.prog 41 #[.slice xa dl xc, .int .i64 z, .slice a1 m1 c1, .slice a2 m2 c2, .slice a3 m3 c3, .slice fa fl fc, .bool true] w fun e w' => e = .returned (.int .i64 ce) ∧ Below w.heap.size w w') := by
    have := refBytes_any true D S C xa dl xc fa fl fc _ _ _ z w hdl hfl hD hS hC
    rwa [byE, if_pos rfl, HCE.out] at this
  rw [HCE.out]
  by_cases h1 : ce = 0
  · subst h1
    have hce := HCE.out
    unfold pasE at hce
    by_cases hfb : fbE D S z = 0
    · rw [if_neg (by simpa using hfb)] at hce
      by_cases hall : (dl : Int) = elN D * z ∧ (fl : Int) = elN S * z ∧ okB D.length C = true
      · obtain ⟨g1, g2, g3⟩ := hall
        obtain ⟨f1, f2, f3, f4, f5, f6, z1, z2, p1, p2, p3⟩ := fb_ok hfb
        obtain ⟨zn, rfl⟩ : ∃ zn : Nat, z = (zn : Int) := ⟨z.toNat, by omega⟩
        have hz1 : 1 ≤ zn := by omega
        have hz2 : zn ≤ 256 := by omega
        obtain ⟨o1, o2⟩ := okB_iff.1 g3
        have hdD := (dims_of (elE_ok f1).1).2
        have hd4 : m1 ≤ 4 := by have := (dims_of (elE_ok f1).1).1; omega
        obtain ⟨bx1, bx2⟩ := clip_box (D := D) (S := S) (C := C) (r := m1) e1 (by omega) (by omega) (fun x hx => (hdD x hx).1) (fun x hx => (f4 x hx).1) o2
        have hS0 : ∀ x ∈ S, 0 ≤ x := fun x hx => by have := f4 x hx; omega
        obtain ⟨N, hN⟩ : ∃ N, prdN (dN S) = N := ⟨_, rfl⟩
        have hNi : (N : Int) = prd S := by rw [← hN]; exact prd_dN hS0
        have hN3 : N ≤ 3000 := by omega
        rw [f5] at g1
        rw [f6] at g2
        obtain ⟨hall, hlen, hEL⟩ := pas_all (z := zn) (N := N) (data := data) (chunk := fill) bx1 bx2 hz1 (by rw [HDL.out]; exact g1) (by rw [HFL.out]; exact g2) hS0 hN
        have HEL : Hid _ := hEL
        have HALL : Hid (pasS D S C fill zn data N = pasR data fill D S C zn) := hall
        have HLEN : Hid (∀ i, i ≤ N → (pasS D S C fill zn data i).length = dl) := fun i h => by rw [hlen i h, HDL.out]
        have HRV : Hid (∀ (x : Value) (w' : World), Bs w' x (pasR data fill D S C zn) → Below w.heap.size w w' → RfB w 0 (pasR data fill D S C ((zn : Int)).toNat) (.returned (.tuple #[x, .int .i64 0])) w') := fun x w' h1 h2 => ⟨x, rfl, by rw [if_pos rfl, show ((zn : Int)).toNat = zn from rfl]; exact h1, h2⟩
        have HTU : Hid (∀ w1, Below w.heap.size w w1 → Calls Try.prog 42 #[.slice a2 m2 c2] w1 fun e w' => ∃ vo vc, e = .returned (.slice vo N vc) ∧ RwP w' w1.heap.size (.slice vo N vc) (outG S m1) ∧ Below w1.heap.size w1 w') := fun w1 h => by
          refine (refTuples_any S _ w1 (HS.out.below h) (by omega) f4 (by omega)).mono ?_
          rintro e w2 ⟨v, rfl, hv, hb⟩
          rw [show S.length = m1 by omega] at hv
          have hl : (outG S m1).length = N := by rw [outG_len, List.take_of_length_le (by omega), hN]
          have hi := hv.iss (by omega)
          obtain ⟨ao, n, cap, rfl, hn, _⟩ := hi.open
          rw [hl] at hn
          subst hn
          exact ⟨ao, cap, rfl, hv, hb⟩
        have HOL : Hid ((outG S m1).length = N) := by rw [Hid, outG_len, List.take_of_length_le (by omega), hN]
        have HOG : Hid (∀ (i : Nat) t, (outG S m1)[i]? = some t → i < N ∧ t = tG S i) := fun i t h => by
          have := outG_at h
          rwa [List.take_of_length_le (by omega), hN] at this
        have HWH : Hid (∀ (t : List Int) (vt : Value) w1, Below w.heap.size w w1 → Is w1 vt t → Ins2 S t → Calls Try.prog 43 #[.slice a1 m1 c1, .slice a2 m2 c2, .slice a3 m3 c3, vt] w1 (WhP w1 (inbB (clB D S C) t) (addL (clS D S C) t))) := fun t vt w1 hb ht hi =>
          refWhere_any D S C t _ _ _ vt m1 w1 (HD.out.below hb) (HS.out.below hb) (HC.out.below hb) ht hd4 e1 (by omega) (by omega) hi hdD f4 o2
        have HPL : Hid (∀ (u : List Int) (vu : Value) (p : Nat) w1, Below w.heap.size w w1 → Is w1 vu u → Ins2 D u → plc D u = (p : Int) → Calls Try.prog 44 #[.slice a1 m1 c1, vu] w1 fun e w' => e = .returned (.int .i64 (p : Int)) ∧ Below w1.heap.size w1 w') := fun u vu p w1 hb hu hi hp => by
          have := refPlace_any D u _ vu w1 (HD.out.below hb) hu hi (elE_ok f1).2
          rwa [hp] at this
        have H64 : Hid (∀ u : List Int, Ins2 D u → u.length ≤ 17592186043904 ∧ ∀ x ∈ u, I64 x) := fun u hi => ⟨by rw [hi.1]; omega, fun x hx => by
          obtain ⟨j, hj⟩ := List.getElem?_of_mem hx
          have hl := (List.getElem?_eq_some_iff.1 hj).1
          have h8 := hi.2 j x _ hj (List.getElem?_eq_getElem (by rw [← hi.1]; exact hl))
          have h9 := hdD _ (List.getElem_mem (show j < D.length by rw [← hi.1]; exact hl))
          exact ⟨by omega, by omega⟩⟩
        have hdl6 : dl ≤ 65536 := by omega
        have hfl6 : fl ≤ 65536 := by omega
        have hd4' : m1 ≤ 4 := hd4
        have HAPP : Hid (∀ w3 : World, Below w.heap.size w w3 → ∃ g3 cap3 w4, (Builtin.append_ #[37, 37] 37 #[.slice (some ⟨w3.heap.size, 0, none⟩) 0 0, .slice xa dl xc]).run Try.prog (w3.alloc (.cells #[] 5)) = .ok (.slice (some ⟨g3, 0, none⟩) dl cap3) w4 ∧ dl ≤ cap3 ∧ Dst w4 g3 data ∧ w3.heap.size ≤ g3 ∧ Below w3.heap.size w3 w4) := fun w3 hb => by
          have h9 := HDA.out.below hb
          rw [HDL.out] at h9
          have := run_app_dst w3 37 _ data h9 (by rw [HDL.out]; omega)
          rwa [HDL.out] at this
        clear hD hS hC e1 e2 e3 hdl' hfl' hce hfb g1 g2 g3 f1 f2 f3 f4 f5 f6 z1 z2 p1 p2 p3 o1 o2 hdD bx1 bx2 hS0 hN hNi hall hlen hEL hz hlt hdl
        go_enter Try.func24, Try.ntmps24
        go_wp2_with (first
          | (go_at_call 41; refine Calls.mono HBY.out ?_; rintro e w1 ⟨rfl, hb1⟩; have HB1 : Hid (Below w.heap.size w w1) := hb1; clear hb1)
          | (have hgd := HB1; clear hgd; obtain ⟨g3, cap3, w2, hrun, hc3, hd3, hg3, hb4⟩ := HAPP.out w1 HB1.out; refine wpList_run_append rfl (.tmp 32) (.tmp 33) _ rfl rfl rfl hrun ?_; have HD2 : Hid (Dst w2 g3 data ∧ dl ≤ cap3) := ⟨hd3, hc3⟩; have HG2 : Hid (w.heap.size ≤ g3 ∧ g3 < w2.heap.size) := ⟨Nat.le_trans HB1.out.size hg3, hd3.lt⟩; have HB2 : Hid (Below w.heap.size w w2) := HB1.out.trans (hb4.mono HB1.out.size); clear hc3 hd3 hg3 hb4 hrun HB1)
          | (go_at_call 42; refine Calls.mono (HTU.out _ HB2.out) ?_; rintro e w3 ⟨vo, vcp, rfl, hr3, hb3⟩; have HR3 : Hid (RwP w3 w2.heap.size (.slice vo N vcp) (outG S m1)) := hr3; have HD3 : Hid (Dst w3 g3 data) := HD2.out.1.below hb3; have HB3 : Hid (Below w.heap.size w w3) := HB2.out.trans (hb3.mono HB2.out.size); clear hr3 hb3))
        go_loopw [17] (fun x wr => ∃ i : Nat, i ≤ N ∧ x = .int .i64 (i : Int) ∧ Hid (RwP wr w2.heap.size (.slice vo N vcp) (outG S m1)) ∧ Hid (Dst wr g3 (pasS D S C fill zn data i)) ∧ Hid (Below w.heap.size w wr)) (fun x _ => N - (intOf x).toNat)
        case atStart => exact ⟨0, Nat.zero_le _, rfl, HR3.out, HD3.out, HB3.out⟩
        case round =>
          obtain ⟨i, hiN, rfl, HR, HD, HBW⟩ := hrel
          rename World => w4
          by_cases hlt : i < N
          · have hil : (i : Int) < (N : Int) := by omega
            obtain ⟨go, oo, t, ua, un, uc, rfl, ht, htl, _, _, hcu, hiu⟩ := (HR.out.iss (by rw [HOL.out]; omega)).at hlt
            obtain ⟨_, rfl⟩ := HOG.out i t ht
            obtain ⟨t, rfl, htr, hti, hck, hyes, hno⟩ := HEL.out i hlt
            have HIU : Hid (Is w4 (.slice ua un uc) (tG S i)) := hiu
            have HTI : Hid (Ins2 S (tG S i)) := hti
            clear ht htl hiu htr hti
            cases hib : inbB (clB D S C) (tG S i) with
            | true =>
              obtain ⟨hin2, p, hpl, hpb, htk⟩ := hyes hib
              have HHT : Hid (Ins2 D (addL (clS D S C) (tG S i)) ∧ plc D (addL (clS D S C) (tG S i)) = (p : Int)) := ⟨hin2, hpl⟩
              obtain ⟨pz, hpz⟩ : ∃ pz, p * zn = pz := ⟨_, rfl⟩
              obtain ⟨q, hq⟩ : ∃ q, i * zn = q := ⟨_, rfl⟩
              rw [hpz, hq] at htk
              rw [Nat.succ_mul, hpz, HDL.out] at hpb
              rw [Nat.succ_mul, hq, HFL.out] at hck
              obtain ⟨y, hy⟩ : ∃ y, (fill.drop q).take zn = y := ⟨_, rfl⟩
              rw [hy] at htk
              obtain ⟨sB, hsB⟩ : ∃ sB, pasS D S C fill zn data i = sB := ⟨_, rfl⟩
              rw [hsB] at htk HD
              have HTK : Hid (pasS D S C fill zn data (i + 1) = cpy sB y pz) := htk
              have HYL : Hid (y.length = zn) := by rw [Hid, ← hy, List.length_take, List.length_drop, HFL.out]; omega
              have HSL : Hid (sB.length = dl) := by rw [Hid, ← hsB]; exact HLEN.out i hiN
              have HYA : Hid (∀ k, k < zn → y[k]? = some (fill.getD (q + k) 0)) := fun k hk => by
                rw [← hy, List.getElem?_take_of_lt hk, List.getElem?_drop, List.getD, List.getElem?_eq_getElem (show q + k < fill.length by rw [HFL.out]; omega)]
                rfl
              have hw1 : IntKind.i64.wrap ((p : Int) * (zn : Int)) = (pz : Int) := by rw [← Int.natCast_mul, hpz]; exact wrap_i64_in _ (by omega) (by omega)
              have hw2 : IntKind.i64.wrap ((i : Int) * (zn : Int)) = (q : Int) := by rw [← Int.natCast_mul, hq]; exact wrap_i64_in _ (by omega) (by omega)
              have HWC : Hid (Calls Try.prog 43 #[.slice a1 m1 c1, .slice a2 m2 c2, .slice a3 m3 c3, .slice ua un uc] w4 fun e w' => ∃ v, e = .returned (.tuple #[v, .bool true]) ∧ Is w' v (addL (clS D S C) (tG S i)) ∧ Below w4.heap.size w4 w') := by
                refine (HWH.out _ _ w4 HBW.out HIU.out HTI.out).mono ?_
                rintro e w5 ⟨hb, _, hy⟩
                obtain ⟨v, rfl, ho⟩ := hy hib
                exact ⟨v, rfl, ho.is (H64.out _ HHT.out.1).1 (H64.out _ HHT.out.1).2, hb⟩
              obtain ⟨fb, fo, rfl, hfc⟩ := some_at HFI.out (by rw [HFL.out]; omega)
              have HFC : Hid _ := hfc
              rw [HFL.out] at HFC
              clear hyes hno hpl hin2 htk hpz hq hy hsB hfc
              go_wp2_with (first
                | (go_at_call 43; refine Calls.mono HWC.out ?_; rintro e w5 ⟨v5, rfl, hi5, hb5⟩; have HI5 : Hid (Is w5 v5 (addL (clS D S C) (tG S i))) := hi5; have HB5 : Hid (Below w4.heap.size w4 w5) := hb5; clear hi5 hb5)
                | (go_at_call 44; refine Calls.mono (HPL.out _ _ p w5 (HBW.out.trans (HB5.out.mono HBW.out.size)) HI5.out HHT.out.1 HHT.out.2) ?_; rintro e w6 ⟨rfl, hb6⟩; have HB6 : Hid (Below w4.heap.size w4 w6) := HB5.out.trans (hb6.mono HB5.out.size); clear hb6))
              go_loopw [21] (fun x wk => ∃ k : Nat, k ≤ zn ∧ x = .int .i64 (k : Int) ∧ Hid (RwP wk w2.heap.size (.slice (some ⟨go, oo, none⟩) N vcp) (outG S m1)) ∧ Hid (Dst wk g3 (cpy sB (y.take k) pz)) ∧ Hid (Below w.heap.size w wk)) (fun x _ => zn - (intOf x).toNat)
              case atStart => exact ⟨0, Nat.zero_le _, rfl, HR.out.below HB6.out, by rw [Hid, cpy_nil]; exact HD.out.below HB6.out, HBW.out.trans (HB6.out.mono HBW.out.size)⟩
              case round =>
                obtain ⟨k, hkz, rfl, HRk, HDk, HBk⟩ := hrel
                rename World => w7
                by_cases hlt2 : k < zn
                · have hkl : (k : Int) < (zn : Int) := by omega
                  have hqk : q + k < fl := by omega
                  have hpk : pz + k < dl := by omega
                  have hc1 := (HBk.out.cell (World.block_lt_of_cell? w _ (HFC.out _ hqk))).trans (HFC.out _ hqk)
                  have hyk := HYA.out k hlt2
                  obtain ⟨x, hx⟩ : ∃ x, fill.getD (q + k) 0 = x := ⟨_, rfl⟩
                  rw [hx] at hc1 hyk
                  have HYK : Hid (cpy sB (y.take (k + 1)) pz = (cpy sB (y.take k) pz).set (pz + k) x) := (cpy_set hyk (by rw [HYL.out, HSL.out]; omega)).symm
                  have hlc : (cpy sB (y.take k) pz).length = dl := by rw [cpy_len (by rw [List.length_take, HYL.out, HSL.out]; omega), HSL.out]
                  have hc2 := HDk.out.cell (i := pz + k) (by rw [hlc]; exact hpk)
                  have hf2 := HDk.out.free (pz + k)
                  have HRN : Hid (RwP (w7.setCell ⟨g3, pz + k, none⟩ (.int .u8 x)) w2.heap.size (.slice (some ⟨go, oo, none⟩) N vcp) (outG S m1)) := HRk.out.grown (grown_set (World.grownBy.refl _ _) _ _) (fun b hb => by have := Option.some.inj hb; have := HG2.out.2; omega)
                  have HDN : Hid (Dst (w7.setCell ⟨g3, pz + k, none⟩ (.int .u8 x)) g3 (cpy sB (y.take (k + 1)) pz)) := by rw [Hid, HYK.out]; exact HDk.out.set _ _
                  have HBN : Hid (Below w.heap.size w (w7.setCell ⟨g3, pz + k, none⟩ (.int .u8 x))) := bel_store HBk.out HG2.out.1
                  have hdc : dl ≤ cap3 := HD2.out.2
                  clear hx hyk hlc
                  go_wp2_with fail
                  go_roundw
                  case rel => exact ⟨k + 1, by omega, by simp, HRN.out, HDN.out, HBN.out⟩
                  case measure => simp [intOf]; omega
                · obtain rfl : k = zn := by omega
                  have HDN : Hid (Dst w7 g3 (pasS D S C fill k data (i + 1))) := by
                    have h9 := HDk.out
                    rw [List.take_of_length_le (by rw [HYL.out]; exact Nat.le_refl _)] at h9
                    rw [Hid, HTK.out]
                    exact h9
                  go_wp2_with fail
                  go_roundw
                  case rel => exact ⟨i + 1, hlt, by simp, HRk.out, HDN.out, HBk.out⟩
                  case measure => simp [intOf]; omega
            | false =>
              have HTKN : Hid (pasS D S C fill zn data (i + 1) = pasS D S C fill zn data i) := hno hib
              have HWC : Hid (Calls Try.prog 43 #[.slice a1 m1 c1, .slice a2 m2 c2, .slice a3 m3 c3, .slice ua un uc] w4 fun e w' => e = .returned (.tuple #[.slice none 0 0, .bool false]) ∧ Below w4.heap.size w4 w') := by
                refine (HWH.out _ _ w4 HBW.out HIU.out HTI.out).mono ?_
                rintro e w5 ⟨hb, hy, _⟩
                exact ⟨hy hib, hb⟩
              clear hyes hno
              go_wp2_with (go_at_call 43; refine Calls.mono HWC.out ?_; rintro e w5 ⟨rfl, hb5⟩; have HB5 : Hid (Below w4.heap.size w4 w5) := hb5; clear hb5)
              go_roundw
              case rel => exact ⟨i + 1, hlt, by simp, HR.out.below HB5.out, by rw [Hid, HTKN.out]; exact HD.out.below HB5.out, HBW.out.trans (HB5.out.mono HBW.out.size)⟩
              case measure => simp [intOf]; omega
          · obtain rfl : i = N := by omega
            have h9 := HD.out
            have h8 := HLEN.out i (Nat.le_refl _)
            rw [HALL.out] at h9 h8
            have h7 := h9.bs cap3 (by rw [h8]; exact HD2.out.2)
            rw [h8] at h7
            have HV : Hid _ := HRV.out _ w4 h7 HBW.out
            clear h9 h8 h7
            go_wp2_with fail
            go_ret2
            exact HV.out
      · rw [if_neg hall] at hce; cases hce
    · rw [if_pos (by simpa using hfb)] at hce; exact absurd hce hfb
  · have b2 : (ce != 0) = true := by simpa using h1
    have HC0 : Hid (ce ≠ 0) := h1
    clear hD hS hC e1 e2 e3 hdl' hfl' h1
    go_enter Try.func24, Try.ntmps24
    go_wp2_with (go_at_call 41; refine Calls.mono HBY.out ?_; rintro e w1 ⟨rfl, hb1⟩; have HB1 : Hid (Below w.heap.size w w1) := hb1; clear hb1)
    go_ret2
    exact rfB_no HC0.out HB1.out
end Go.Proofs.Ytneegijbbbebkaa
