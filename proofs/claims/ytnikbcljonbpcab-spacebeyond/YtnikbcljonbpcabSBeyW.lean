/-
  A hyperslab that selects something, moved by the extent, or with a last step or a block beyond it, is refused: the law's walk. No conditions.
-/
import Derived.Test.YtnikbcljonbpcabSBeyF
import Derived.Test.YtnikbcljonbpcabSLaw
namespace Go.Proofs.Ytnikbcljonbpcab
open Go.RowKit Go.Shelf
set_option linter.unusedVariables false
set_option maxRecDepth 100000

/-- A selection is laid into a new place. -/
theorem sel_box (w : World) (v0 v1 v2 v3 v4 v5 : Value) :
    ∃ wa y0 y1 y2 y3 y4 y5 : World, w.alloc (.cells #[.int .i64 0, .slice none 0 0, .slice none 0 0, .slice none 0 0, .slice none 0 0, .slice none 0 0] 26) = wa ∧ (wa.setCell ⟨w.heap.size, 0, none⟩ v0 = y0 ∧ wa.cell? ⟨w.heap.size, 0, none⟩ = some (.int .i64 0) ∧ wa.frozen? ⟨w.heap.size, 0, none⟩ = false) ∧ (y0.setCell ⟨w.heap.size, 1, none⟩ v1 = y1 ∧ y0.cell? ⟨w.heap.size, 1, none⟩ = some (.slice none 0 0) ∧ y0.frozen? ⟨w.heap.size, 1, none⟩ = false) ∧ (y1.setCell ⟨w.heap.size, 2, none⟩ v2 = y2 ∧ y1.cell? ⟨w.heap.size, 2, none⟩ = some (.slice none 0 0) ∧ y1.frozen? ⟨w.heap.size, 2, none⟩ = false) ∧ (y2.setCell ⟨w.heap.size, 3, none⟩ v3 = y3 ∧ y2.cell? ⟨w.heap.size, 3, none⟩ = some (.slice none 0 0) ∧ y2.frozen? ⟨w.heap.size, 3, none⟩ = false) ∧ (y3.setCell ⟨w.heap.size, 4, none⟩ v4 = y4 ∧ y3.cell? ⟨w.heap.size, 4, none⟩ = some (.slice none 0 0) ∧ y3.frozen? ⟨w.heap.size, 4, none⟩ = false) ∧ (y4.setCell ⟨w.heap.size, 5, none⟩ v5 = y5 ∧ y4.cell? ⟨w.heap.size, 5, none⟩ = some (.slice none 0 0) ∧ y4.frozen? ⟨w.heap.size, 5, none⟩ = false) ∧ y5.heap[w.heap.size]? = some (.cells #[v0, v1, v2, v3, v4, v5] 26 (0, 0)) ∧ Below w.heap.size w y5 := by
  obtain ⟨wa, hwa, hb, hz, hg⟩ := alloc_facts w (.cells #[.int .i64 0, .slice none 0 0, .slice none 0 0, .slice none 0 0, .slice none 0 0, .slice none 0 0] 26)
  obtain ⟨y0, y1, y2, y3, y4, y5, j0, j1, j2, j3, j4, j5, hy, hgr⟩ := sel_sets wa w.heap.size _ _ _ _ _ _ v0 v1 v2 v3 v4 v5 hg
  exact ⟨wa, y0, y1, y2, y3, y4, y5, hwa, j0, j1, j2, j3, j4, j5, hy, hb.grown hgr (by omega) (fun x hx => by have := Option.some.inj hx; omega)⟩
theorem t_mod {u : Int} (h : 0 ≤ u) (k : Nat) (hk : 0 < k) : ∃ q : Nat, u.tmod (k : Int) = (q : Int) ∧ q < k := by
  have h1 := Int.emod_nonneg u (show (k : Int) ≠ 0 by omega)
  have h2 := Int.emod_lt_of_pos u (show (0 : Int) < (k : Int) by omega)
  exact ⟨(u % (k : Int)).toNat, by rw [Int.tmod_eq_emod_of_nonneg h]; omega, by omega⟩
theorem u64_of_wf {n : Int} (h : (Lit.int .u64 n).wf = true) : 0 ≤ n ∧ n < 18446744073709551616 := by
  simp [Lit.wf, IntKind.min, IntKind.max, IntKind.bits, IntKind.signed] at h
  exact ⟨by omega, by omega⟩
/-- Numbers such as a selection may have. -/
structure SOk (s : Sel) : Prop where
  k : I64 s.kind
  p : s.pts.length ≤ 30000
  l : s.st.length ≤ 17592186043904 ∧ s.sd.length ≤ 17592186043904 ∧ s.ct.length ≤ 17592186043904 ∧ s.bl.length ≤ 17592186043904
  a : ∀ x ∈ s.st, I64 x
  b : ∀ x ∈ s.sd, I64 x
  c : ∀ x ∈ s.ct, I64 x
  d : ∀ x ∈ s.bl, I64 x
theorem i64_set {l : List Int} (h : ∀ x ∈ l, I64 x) (j : Nat) {y : Int} (hy : I64 y) : ∀ x ∈ l.set j y, I64 x := fun x hx => by
  rcases List.mem_or_eq_of_mem_set hx with h1 | h1
  · exact h x h1
  · rw [h1]; exact hy
theorem SOk.setSt {s : Sel} (h : SOk s) (j : Nat) {y : Int} (hy : I64 y) : SOk { s with st := s.st.set j y } := ⟨h.k, h.p, ⟨by rw [List.length_set]; exact h.l.1, h.l.2⟩, i64_set h.a j hy, h.b, h.c, h.d⟩
theorem SOk.setSd {s : Sel} (h : SOk s) (j : Nat) {y : Int} (hy : I64 y) : SOk { s with sd := s.sd.set j y } := ⟨h.k, h.p, ⟨h.l.1, by rw [List.length_set]; exact h.l.2.1, h.l.2.2⟩, h.a, i64_set h.b j hy, h.c, h.d⟩
theorem SOk.setCt {s : Sel} (h : SOk s) (j : Nat) {y : Int} (hy : I64 y) : SOk { s with ct := s.ct.set j y } := ⟨h.k, h.p, ⟨h.l.1, h.l.2.1, by rw [List.length_set]; exact h.l.2.2.1, h.l.2.2.2⟩, h.a, h.b, i64_set h.c j hy, h.d⟩
theorem SOk.setBl {s : Sel} (h : SOk s) (j : Nat) {y : Int} (hy : I64 y) : SOk { s with bl := s.bl.set j y } := ⟨h.k, h.p, ⟨h.l.1, h.l.2.1, h.l.2.2.1, by rw [List.length_set]; exact h.l.2.2.2⟩, h.a, h.b, h.c, i64_set h.d j hy⟩
theorem check_own {D : List Int} {vd : Value} {w : World} {B M : Nat} {s : Sel} {pv : Value} {n1 n2 n3 n4 g1 d1 g2 d2 g3 d3 g4 d4 : Nat} (hD : Is w vd D) (h : OwnF w B M s pv n1 n2 n3 n4 g1 d1 g2 d2 g3 d3 g4 d4) (ok : SOk s) (hk : s.kind = 3) (he : slE D s = 17) :
    Calls Try.prog 9 #[vd, .agg #[.int .i64 3, pv, .slice (some ⟨g1, 0, none⟩) n1 d1, .slice (some ⟨g2, 0, none⟩) n2 d2, .slice (some ⟨g3, 0, none⟩) n3 d3, .slice (some ⟨g4, 0, none⟩) n4 d4]] w fun e w' => e = .returned (.int .i64 17) ∧ Below w.heap.size w w' := by
  have := check_any D s vd _ w hD (h.ss ok.k ok.p ok.l.1 ok.l.2.1 ok.l.2.2.1 ok.l.2.2.2 ok.a ok.b ok.c ok.d)
  rw [he] at this
  rw [← hk]
  exact this
theorem OwnF.setN {w : World} {g : Nat} {v : Value} {B : Nat} (hw : Below B w w) (i : Nat) (hg : B ≤ g) (hs : B ≤ w.heap.size) : Below B w (w.setCell ⟨g, i, none⟩ v) := hw.grown (set_grown w g i v) hs (fun x hx => by have := Option.some.inj hx; omega)
set_option maxHeartbeats 32000000 in
theorem spaceBeyond_walk (v : Value) (D : List Int) (V : SV) (s : Sel) (pat more : Int) (w : World) (hD : Is w v D) (hS : Ss w V s) (hpat : (Lit.int .u64 pat).wf = true) (hmore : (Lit.int .u64 more).wf = true) : Calls Try.prog 3 #[v, selV s.kind V, .int .u64 pat, .int .u64 more] w fun e w' => e = .returned (.bool true) ∧ Below w.heap.size w w' := by
  have HI : Hid (Is w v D) := hD
  have HS : Hid (Ss w V s) := hS
  obtain ⟨ao, n, cap, rfl, hn, hc, hb⟩ := hD.open
  have HN : Hid (D.length = n) := hn
  obtain ⟨a0, n0, c0, a1, n1, c1, a2, n2, c2, a3, n3, c3, a4, n4, c4, e, hV⟩ := selV_open hS
  obtain ⟨W1, hW1, hb1, hz1, b0, b1, b2, b3, b4, b5⟩ := box_sel w s.kind (.slice a0 n0 c0) (.slice a1 n1 c1) (.slice a2 n2 c2) (.slice a3 n3 c3) (.slice a4 n4 c4)
  have HB1 : Hid (Below w.heap.size w W1) := hb1
  have HC6 : Hid (∀ w9, Below W1.heap.size W1 w9 → w9.cell? ⟨w.heap.size, 0, none⟩ = some (.int .i64 s.kind) ∧ w9.cell? ⟨w.heap.size, 1, none⟩ = some (.slice a0 n0 c0) ∧ w9.cell? ⟨w.heap.size, 2, none⟩ = some (.slice a1 n1 c1) ∧ w9.cell? ⟨w.heap.size, 3, none⟩ = some (.slice a2 n2 c2) ∧ w9.cell? ⟨w.heap.size, 4, none⟩ = some (.slice a3 n3 c3) ∧ w9.cell? ⟨w.heap.size, 5, none⟩ = some (.slice a4 n4 c4)) := fun w9 h =>
    ⟨(h.cell (World.block_lt_of_cell? W1 _ b0)).trans b0, (h.cell (World.block_lt_of_cell? W1 _ b1)).trans b1, (h.cell (World.block_lt_of_cell? W1 _ b2)).trans b2, (h.cell (World.block_lt_of_cell? W1 _ b3)).trans b3, (h.cell (World.block_lt_of_cell? W1 _ b4)).trans b4, (h.cell (World.block_lt_of_cell? W1 _ b5)).trans b5⟩
  obtain ⟨er, HER⟩ : ∃ er, Hid (slE D s = er) := ⟨_, rfl⟩
  obtain ⟨cn, HCN⟩ : ∃ cn, Hid (cnN D s = cn) := ⟨_, rfl⟩
  have HCO : Hid (Calls Try.prog 5 #[.slice ao n cap, .agg #[.int .i64 s.kind, .slice a0 n0 c0, .slice a1 n1 c1, .slice a2 n2 c2, .slice a3 n3 c3, .slice a4 n4 c4]] W1 fun e w' => e = .returned (.tuple #[.int .i64 cn, .int .i64 er]) ∧ Below W1.heap.size W1 w') := by
    have := count_any D s _ V W1 (hD.below hb1) (hS.below hb1)
    rwa [e, HER.out, HCN.out] at this
  have HGR : Hid (∀ w2, Below W1.heap.size W1 w2 → Calls Try.prog 6 #[.agg #[.int .i64 s.kind, .slice a0 n0 c0, .slice a1 n1 c1, .slice a2 n2 c2, .slice a3 n3 c3, .slice a4 n4 c4]] w2 fun e w' => GrL s.pts.length e ∧ Below w2.heap.size w2 w') := fun w2 h => by
    have := great_le s V w2 (HS.out.below (hb1.trans (h.mono hb1.size)))
    rwa [e] at this
  have HOWN : Hid (∀ w2, s.pts.length ≤ 30000 → Below W1.heap.size W1 w2 → Calls Try.prog 8 #[.agg #[.int .i64 s.kind, .slice a0 n0 c0, .slice a1 n1 c1, .slice a2 n2 c2, .slice a3 n3 c3, .slice a4 n4 c4]] w2 fun e w' => ∃ v, e = .returned v ∧ OwnS w' w2.heap.size s v ∧ Below w2.heap.size w2 w') := fun w2 hp h => by
    have := own_any V s w2 (HS.out.below (hb1.trans (h.mono hb1.size))) hp
    rwa [e] at this
  have HCE : Hid (er ≠ 0 → cn = 0) := fun h => by rw [← HCN.out, cnN, if_neg (by rw [HER.out]; exact h)]
  rw [e]
  clear hD hS hn e hV hb1
  by_cases hk : s.kind = 3
  · rw [hk] at hW1 HC6 HCO HGR HOWN b0 ⊢
    go_enter Try.func3, Try.ntmps3
    go_wp2_with fail
    clear b0 b1 b2 b3 b4 b5
    refine Calls.mono HCO.out ?_
    rintro e w2 ⟨rfl, hb2⟩
    have HW2 : Hid (Below W1.heap.size W1 w2) := hb2
    obtain ⟨b0, b1, b2, b3, b4, b5⟩ := HC6.out w2 hb2
    clear hb2
    go_wp2_with fail
    clear b0 b1 b2 b3 b4 b5
    refine Calls.mono (HGR.out _ HW2.out) ?_
    rintro e w3 ⟨⟨b, rfl, hpl⟩, hb3⟩
    have HPL : Hid (b = false → s.pts.length ≤ 30000) := hpl
    have HW3 : Hid (Below W1.heap.size W1 w3) := HW2.out.trans (hb3.mono HW2.out.size)
    obtain ⟨b0, b1, b2, b3, b4, b5⟩ := HC6.out w3 HW3.out
    clear hpl hb3
    have HFIN : Hid (∀ w', Below w3.heap.size w3 w' → Below w.heap.size w w') := fun w' h => HB1.out.trans ((HW3.out.trans (h.mono HW3.out.size)).mono HB1.out.size)
    cases b with
    | true =>
      by_cases h0 : er = 0
      · have q0 : (er == 0) = true := by simpa using h0
        go_wp2_with (go_at_call 7; refine (lives_any _).mono ?_; rintro e w4 ⟨rfl, hb4⟩; have HBZ : Hid (Below w.heap.size w w4) := HFIN.out _ hb4; clear hb4)
        go_ret
        exact ⟨rfl, HBZ.out⟩
      · have q0 : (er == 0) = false := by simpa using h0
        obtain rfl := HCE.out h0
        go_wp2_with (go_at_call 7; refine (lives_any _).mono ?_; rintro e w4 ⟨rfl, hb4⟩; have HBZ : Hid (Below w.heap.size w w4) := HFIN.out _ hb4; clear hb4)
        go_ret
        exact ⟨rfl, HBZ.out⟩
    | false =>
      by_cases h0 : er = 0
      · have q0 : (er == 0) = true := by simpa using h0
        have q1 : (er != 0) = false := by simpa using h0
        by_cases hc0 : cn = 0
        · have q2 : (cn == 0) = true := by simpa using hc0
          go_wp2_with (go_at_call 7; refine (lives_any _).mono ?_; rintro e w4 ⟨rfl, hb4⟩; have HBZ : Hid (Below w.heap.size w w4) := HFIN.out _ hb4; clear hb4)
          go_ret
          exact ⟨rfl, HBZ.out⟩
        · have q2 : (cn == 0) = false := by simpa using hc0
          by_cases hn0 : n = 0
          · subst hn0
            have q3 : (((0 : Nat) : Int) == 0) = true := by simp
            go_wp2_with (go_at_call 7; refine (lives_any _).mono ?_; rintro e w4 ⟨rfl, hb4⟩; have HBZ : Hid (Below w.heap.size w w4) := HFIN.out _ hb4; clear hb4)
            go_ret
            exact ⟨rfl, HBZ.out⟩
          · have q3 : ((n : Int) == 0) = false := by simp; omega
            subst h0
            have hE0 : slE D s = 0 := HER.out
            have hN0 : slN D s ≠ 0 := by
              have h9 := HCN.out
              rw [cnN, if_pos hE0] at h9
              rw [h9]; exact hc0
            obtain ⟨hG, hF⟩ := slab_open hE0 hk hN0
            have HG : Hid (SlabG D s) := hG
            have HF : Hid (fitsB D (slabA s.st s.sd s.ct s.bl) = true) := hF
            have hl1 : s.st.length = n := by rw [(okB_iff2.1 hG.st).1]; exact HN.out
            have hl2 : s.sd.length = n := by rw [(okB_iff2.1 hG.sd).1]; exact HN.out
            have hl3 : s.ct.length = n := by rw [(okB_iff2.1 hG.ct).1]; exact HN.out
            have hl4 : s.bl.length = n := by rw [(okB_iff2.1 hG.bl).1]; exact HN.out
            have hp0 : 0 ≤ pat := (u64_of_wf hpat).1
            have hm0 : 0 ≤ more := (u64_of_wf hmore).1
            obtain ⟨dn, hdn, hdl⟩ := t_mod hp0 n (by omega)
            obtain ⟨r1, hr1, hrl1⟩ := t_mod hm0 2305843009213693952 (by omega)
            obtain ⟨r2, hr2, hrl2⟩ := t_mod hm0 4611686018427387904 (by omega)
            obtain ⟨gd, od, nd, rfl, hnd, _, cd0⟩ := HI.out.at hdl
            have HCD : Hid (w.cell? ⟨gd, od + dn, none⟩ = some (.int .i64 nd)) := cd0
            obtain ⟨st, hst⟩ : ∃ st, s.st[dn]? = some st := ⟨_, List.getElem?_eq_getElem (by omega)⟩
            obtain ⟨sd, hsd⟩ : ∃ sd, s.sd[dn]? = some sd := ⟨_, List.getElem?_eq_getElem (by omega)⟩
            obtain ⟨ct, hct⟩ : ∃ ct, s.ct[dn]? = some ct := ⟨_, List.getElem?_eq_getElem (by omega)⟩
            obtain ⟨bl, hbl⟩ : ∃ bl, s.bl[dn]? = some bl := ⟨_, List.getElem?_eq_getElem (by omega)⟩
            have HAT : Hid (D[dn]? = some nd ∧ s.st[dn]? = some st ∧ s.sd[dn]? = some sd ∧ s.ct[dn]? = some ct ∧ s.bl[dn]? = some bl) := ⟨hnd, hst, hsd, hct, hbl⟩
            have hnd1 := (dims_of (elE_ok hG.el).1).2 nd (List.mem_of_getElem? hnd)
            have hst1 := (okB_iff2.1 hG.st).2 st (List.mem_of_getElem? hst)
            have hbl1 := hG.pb bl (List.mem_of_getElem? hbl)
            have hfit := fits_at hF hnd hst hsd hct hbl
            have hw1 : IntKind.i64.wrap (st + nd) = st + nd := wrap_i64_in _ (by omega) (by omega)
            have HR : Hid (I64 (st + nd) ∧ I64 (4611686018427387904 + (r1 : Int)) ∧ I64 (2 + (r2 : Int)) ∧ I64 (nd + (r2 : Int)) ∧ I64 (nd + 1 + (r2 : Int))) := ⟨⟨by omega, by omega⟩, ⟨by omega, by omega⟩, ⟨by omega, by omega⟩, ⟨by omega, by omega⟩, ⟨by omega, by omega⟩⟩
            have hv1 : IntKind.i64.wrap (r2 : Int) = (r2 : Int) := wrap_i64_in _ (by omega) (by omega)
            have hv2 : IntKind.u64.wrap (r2 : Int) = (r2 : Int) := by rw [IntKind.wrap_u64]; omega
            have hv3 : IntKind.i64.wrap (2 + (r2 : Int)) = 2 + (r2 : Int) := wrap_i64_in _ (by omega) (by omega)
            have hv4 : IntKind.i64.wrap (nd + (r2 : Int)) = nd + (r2 : Int) := wrap_i64_in _ (by omega) (by omega)
            have hv5 : IntKind.i64.wrap (nd + 1) = nd + 1 := wrap_i64_in _ (by omega) (by omega)
            have hv6 : IntKind.i64.wrap (nd + 1 + (r2 : Int)) = nd + 1 + (r2 : Int) := wrap_i64_in _ (by omega) (by omega)
            have hr2' : more.tmod 4611686018427387904 = (r2 : Int) := hr2
            have HOK : Hid (SOk s) := ⟨HS.out.k, HPL.out (by first | rfl | trivial), ⟨HS.out.a.len, HS.out.b.len, HS.out.c.len, HS.out.d.len⟩, HS.out.a.rng, HS.out.b.rng, HS.out.c.rng, HS.out.d.rng⟩
            have HS1 : Hid (slE D { s with st := s.st.set dn (st + nd) } = 17) := beyond_start hG hnd hst hsd hct hbl (by omega) (by omega)
            have HS2 : Hid (slE D { s with st := s.st.set dn (4611686018427387904 + (r1 : Int)) } = 17) := beyond_start hG hnd hst hsd hct hbl (by omega) (by omega)
            have HS3 : Hid (slE D { s with ct := s.ct.set dn (2 + (r2 : Int)), sd := s.sd.set dn (nd + (r2 : Int)) } = 17) := beyond_step hG hF hnd hst hsd hct hbl (by omega) (by omega)
            have HS4 : Hid (slE D { s with bl := s.bl.set dn (nd + 1 + (r2 : Int)) } = 17) := beyond_block hG hnd hst hsd hct hbl (by omega) (by omega)
            have HIW : Hid (∀ w9, Below W1.heap.size W1 w9 → Is w9 (.slice (some ⟨gd, od, none⟩) n cap) D) := fun w9 h => HI.out.below (HB1.out.trans (h.mono HB1.out.size))
            have HCW : Hid (∀ w9, Below W1.heap.size W1 w9 → w9.cell? ⟨gd, od + dn, none⟩ = some (.int .i64 nd)) := fun w9 h => ((HB1.out.trans (h.mono HB1.out.size)).cell (World.block_lt_of_cell? w _ HCD.out)).trans HCD.out
            have hdi : (dn : Int) < (n : Int) := by omega
            have hdi0 : (0 : Int) ≤ (dn : Int) := by omega
            have hnn : (n : Int) ≠ 0 := by omega
            have hwn : IntKind.u64.wrap (n : Int) = (n : Int) := by rw [IntKind.wrap_u64]; omega
            have hwd : IntKind.i64.wrap (dn : Int) = (dn : Int) := wrap_i64_in _ (by omega) (by omega)
            have hwd2 : IntKind.u64.wrap (dn : Int) = (dn : Int) := by rw [IntKind.wrap_u64]; omega
            clear hE0 hN0 hG hF hpat hmore hp0 hm0 hnd hst hsd hct hbl hnd1 cd0 hfit
            go_wp2_with fail
            clear b0 b1 b2 b3 b4 b5
            refine Calls.mono (HOWN.out w3 (HPL.out (by first | rfl | trivial)) HW3.out) ?_
            rintro e w4 ⟨v4, rfl, ho4, hb4⟩
            obtain ⟨xM, xpv, xg1, xd1, xg2, xd2, xg3, xd3, xg4, xd4, rfl, hf4⟩ := ho4.open
            rw [hk, hl1, hl2, hl3, hl4]
            rw [hl1, hl2, hl3, hl4] at hf4
            obtain ⟨xpa, xpn, xpc, rfl, _⟩ := (hf4.pt.iss (by have := HOK.out.p; omega)).open
            have xOF : Hid (OwnF w4 w3.heap.size xM s (.slice xpa xpn xpc) n n n n xg1 xd1 xg2 xd2 xg3 xd3 xg4 xd4) := hf4
            have xW4 : Hid (Below W1.heap.size W1 w4) := HW3.out.trans (hb4.mono HW3.out.size)
            have xM4 : Hid (w3.heap.size ≤ xM ∧ xM ≤ w4.heap.size) := hf4.mb
            have xGB : Hid (w3.heap.size ≤ xg1 ∧ w3.heap.size ≤ xg2 ∧ w3.heap.size ≤ xg3 ∧ w3.heap.size ≤ xg4) := ⟨(own_at hf4.fo.a hl1 dn HAT.out.2.1).2.2.1, (own_at hf4.fo.b hl2 dn HAT.out.2.2.1).2.2.1, (own_at hf4.fo.c hl3 dn HAT.out.2.2.2.1).2.2.1, (own_at hf4.fo.d hl4 dn HAT.out.2.2.2.2).2.2.1⟩
            have xLT : Hid (xg1 < w4.heap.size ∧ xg2 < w4.heap.size ∧ xg3 < w4.heap.size ∧ xg4 < w4.heap.size) := ⟨(own_at hf4.fo.a hl1 dn HAT.out.2.1).2.2.2.1, (own_at hf4.fo.b hl2 dn HAT.out.2.2.1).2.2.2.1, (own_at hf4.fo.c hl3 dn HAT.out.2.2.2.1).2.2.2.1, (own_at hf4.fo.d hl4 dn HAT.out.2.2.2.2).2.2.2.1⟩
            clear hf4 ho4 hb4
            obtain ⟨xa, xy0, xy1, xy2, xy3, xy4, xy5, xh, ⟨xj0, xj1, xj2⟩, ⟨xj3, xj4, xj5⟩, ⟨xj6, xj7, xj8⟩, ⟨xj9, xj10, xj11⟩, ⟨xj12, xj13, xj14⟩, ⟨xj15, xj16, xj17⟩, xhy, xby⟩ := sel_box w4 (.int .i64 3) (.slice xpa xpn xpc) (.slice (some ⟨xg1, 0, none⟩) n xd1) (.slice (some ⟨xg2, 0, none⟩) n xd2) (.slice (some ⟨xg3, 0, none⟩) n xd3) (.slice (some ⟨xg4, 0, none⟩) n xd4)
            have xOY : Hid (OwnF xy5 w3.heap.size xM s (.slice xpa xpn xpc) n n n n xg1 xd1 xg2 xd2 xg3 xd3 xg4 xd4) := xOF.out.below xby
            have xWY : Hid (Below W1.heap.size W1 xy5) := xW4.out.trans (xby.mono xW4.out.size)
            have xHY : Hid (xy5.heap[w4.heap.size]? = some (.cells #[.int .i64 3, (.slice xpa xpn xpc), .slice (some ⟨xg1, 0, none⟩) n xd1, .slice (some ⟨xg2, 0, none⟩) n xd2, .slice (some ⟨xg3, 0, none⟩) n xd3, .slice (some ⟨xg4, 0, none⟩) n xd4] 26 (0, 0))) := xhy
            have xBY : Hid (Below w4.heap.size w4 xy5) := xby
            clear xhy xby
            go_upto_region 6 with fail
            clear xh xj0 xj1 xj2 xj3 xj4 xj5 xj6 xj7 xj8 xj9 xj10 xj11 xj12 xj13 xj14 xj15 xj16 xj17
            have xWD : Hid (Below W1.heap.size W1 xy5.drew) := xWY.out.drew
            have xOD : Hid (OwnF xy5.drew w3.heap.size xM s (.slice xpa xpn xpc) n n n n xg1 xd1 xg2 xd2 xg3 xd3 xg4 xd4) := xOY.out.below (Below.refl _ _).drew
            have xHD : Hid (xy5.drew.heap[w4.heap.size]? = some (.cells #[.int .i64 3, (.slice xpa xpn xpc), .slice (some ⟨xg1, 0, none⟩) n xd1, .slice (some ⟨xg2, 0, none⟩) n xd2, .slice (some ⟨xg3, 0, none⟩) n xd3, .slice (some ⟨xg4, 0, none⟩) n xd4] 26 (0, 0))) := xHY.out
            obtain ⟨f1, f2, _, f4, _⟩ := own_at xOD.out.fo.a hl1 dn HAT.out.2.1
            have e6 : xy5.drew.cell? ⟨w4.heap.size, 2, none⟩ = some (.slice (some ⟨xg1, 0, none⟩) n xd1) ∧ xy5.drew.cell? ⟨xg1, dn, none⟩ = some (.int .i64 st) ∧ xy5.drew.cell? ⟨gd, od + dn, none⟩ = some (.int .i64 nd) := ⟨cell_of_row _ _ 2 _ _ _ xHD.out, f1, HCW.out _ xWD.out⟩
            refine wp_region_L (S := fun w9 => w9.cell? ⟨w4.heap.size, 2, none⟩ = some (.slice (some ⟨xg1, 0, none⟩) n xd1) ∧ w9.cell? ⟨xg1, dn, none⟩ = some (.int .i64 st) ∧ w9.cell? ⟨gd, od + dn, none⟩ = some (.int .i64 nd)) 14 (by kernel_rfl) e6 (fun hHeld => ?_)
            refine GoL.takeD (some 58) (i := 0) (v := ?_) rfl rfl (by kernel_rfl) (by kernel_rfl) (by kernel_rfl) (by decide) (fun _ _ _ h => h) (Or.inl ⟨by rfl, ?_⟩) (by assumption) ?_
            rotate_left 1
            · intro w9 hSw
              obtain ⟨s0, s1, s2⟩ := hSw
              go_simp
              try with_reducible rfl
            try simp only [Act.put, List.setIfInBounds_toArray, List.set_cons_zero, List.set_cons_succ]
            refine GoL.takeD (some 59) (i := 1) (v := ?_) rfl rfl (by kernel_rfl) (by kernel_rfl) (by kernel_rfl) (by decide) (fun _ _ _ h => h) (Or.inl ⟨by rfl, ?_⟩) (by assumption) ?_
            rotate_left 1
            · intro w9 hSw
              obtain ⟨s0, s1, s2⟩ := hSw
              go_simp
              try with_reducible rfl
            try simp only [Act.put, List.setIfInBounds_toArray, List.set_cons_zero, List.set_cons_succ]
            refine GoL.takeD (some 60) (i := 2) (v := ?_) rfl rfl (by kernel_rfl) (by kernel_rfl) (by kernel_rfl) (by decide) (fun _ _ _ h => h) (Or.inl ⟨by rfl, ?_⟩) (by assumption) ?_
            rotate_left 1
            · intro w9 hSw
              obtain ⟨s0, s1, s2⟩ := hSw
              go_simp
              try with_reducible rfl
            try simp only [Act.put, List.setIfInBounds_toArray, List.set_cons_zero, List.set_cons_succ]
            refine GoL.takeD (some 61) (i := 3) (v := ?_) rfl rfl (by kernel_rfl) (by kernel_rfl) (by kernel_rfl) (by decide) (fun _ _ _ h => h) (Or.inl ⟨by rfl, ?_⟩) (by assumption) ?_
            rotate_left 1
            · intro w9 hSw
              obtain ⟨s0, s1, s2⟩ := hSw
              go_simp
              try with_reducible rfl
            try simp only [Act.put, List.setIfInBounds_toArray, List.set_cons_zero, List.set_cons_succ]
            refine GoL.takeD (some 62) (i := 4) (v := ?_) rfl rfl (by kernel_rfl) (by kernel_rfl) (by kernel_rfl) (by decide) (fun _ _ _ h => h) (Or.inl ⟨by rfl, ?_⟩) (by assumption) ?_
            rotate_left 1
            · intro w9 hSw
              obtain ⟨s0, s1, s2⟩ := hSw
              go_simp
              try with_reducible rfl
            try simp only [Act.put, List.setIfInBounds_toArray, List.set_cons_zero, List.set_cons_succ]
            refine GoL.takeD (some 63) (i := 5) (v := ?_) rfl rfl (by kernel_rfl) (by kernel_rfl) (by kernel_rfl) (by decide) (fun _ _ _ h => h) (Or.inl ⟨by rfl, ?_⟩) (by assumption) ?_
            rotate_left 1
            · intro w9 hSw
              obtain ⟨s0, s1, s2⟩ := hSw
              go_simp
              try with_reducible rfl
            try simp only [Act.put, List.setIfInBounds_toArray, List.set_cons_zero, List.set_cons_succ]
            refine GoL.takeD (some 64) (i := 6) (v := ?_) rfl rfl (by kernel_rfl) (by kernel_rfl) (by kernel_rfl) (by decide) (fun _ _ _ h => h) (Or.inl ⟨by rfl, ?_⟩) (by assumption) ?_
            rotate_left 1
            · intro w9 hSw
              obtain ⟨s0, s1, s2⟩ := hSw
              go_simp
              try with_reducible rfl
            try simp only [Act.put, List.setIfInBounds_toArray, List.set_cons_zero, List.set_cons_succ]
            refine GoL.takeD (some 65) (i := 7) (v := ?_) rfl rfl (by kernel_rfl) (by kernel_rfl) (by kernel_rfl) (by decide) (fun _ _ _ h => h) (Or.inl ⟨by rfl, ?_⟩) (by assumption) ?_
            rotate_left 1
            · intro w9 hSw
              obtain ⟨s0, s1, s2⟩ := hSw
              go_simp
              try with_reducible rfl
            try simp only [Act.put, List.setIfInBounds_toArray, List.set_cons_zero, List.set_cons_succ]
            refine GoL.takeD (some 66) (i := 8) (v := ?_) rfl rfl (by kernel_rfl) (by kernel_rfl) (by kernel_rfl) (by decide) (fun _ _ _ h => h) (Or.inl ⟨by rfl, ?_⟩) (by assumption) ?_
            rotate_left 1
            · intro w9 hSw
              obtain ⟨s0, s1, s2⟩ := hSw
              go_simp
              try with_reducible rfl
            try simp only [Act.put, List.setIfInBounds_toArray, List.set_cons_zero, List.set_cons_succ]
            refine GoL.takeD (some 67) (i := 9) (v := ?_) rfl rfl (by kernel_rfl) (by kernel_rfl) (by kernel_rfl) (by decide) (fun _ _ _ h => h) (Or.inl ⟨by rfl, ?_⟩) (by assumption) ?_
            rotate_left 1
            · intro w9 hSw
              obtain ⟨s0, s1, s2⟩ := hSw
              go_simp
              try with_reducible rfl
            try simp only [Act.put, List.setIfInBounds_toArray, List.set_cons_zero, List.set_cons_succ]
            refine GoL.takeD (some 68) (i := 10) (v := ?_) rfl rfl (by kernel_rfl) (by kernel_rfl) (by kernel_rfl) (by decide) (fun _ _ _ h => h) (Or.inl ⟨by rfl, ?_⟩) (by assumption) ?_
            rotate_left 1
            · intro w9 hSw
              obtain ⟨s0, s1, s2⟩ := hSw
              go_simp
              try with_reducible rfl
            try simp only [Act.put, List.setIfInBounds_toArray, List.set_cons_zero, List.set_cons_succ]
            refine GoL.takeD (some 69) (i := 11) (v := ?_) rfl rfl (by kernel_rfl) (by kernel_rfl) (by kernel_rfl) (by decide) (fun _ _ _ h => h) (Or.inl ⟨by rfl, ?_⟩) (by assumption) ?_
            rotate_left 1
            · intro w9 hSw
              obtain ⟨s0, s1, s2⟩ := hSw
              go_simp
              try with_reducible rfl
            try simp only [Act.put, List.setIfInBounds_toArray, List.set_cons_zero, List.set_cons_succ]
            refine GoL.takeD (some 70) (i := 12) (v := ?_) rfl rfl (by kernel_rfl) (by kernel_rfl) (by kernel_rfl) (by decide) (fun _ _ _ h => h) (Or.inl ⟨by rfl, ?_⟩) (by assumption) ?_
            rotate_left 1
            · intro w9 hSw
              obtain ⟨s0, s1, s2⟩ := hSw
              go_simp
              try with_reducible rfl
            try simp only [Act.put, List.setIfInBounds_toArray, List.set_cons_zero, List.set_cons_succ]
            refine GoL.takeD (some 71) (i := 13) (v := ?_) rfl rfl (by kernel_rfl) (by kernel_rfl) (by kernel_rfl) (by decide) (fun _ _ _ h => h) (Or.inl ⟨by rfl, ?_⟩) (by assumption) ?_
            rotate_left 1
            · intro w9 hSw
              obtain ⟨s0, s1, s2⟩ := hSw
              go_simp
              try with_reducible rfl
            try simp only [Act.put, List.setIfInBounds_toArray, List.set_cons_zero, List.set_cons_succ]
            obtain ⟨z1, hz1'⟩ : ∃ z1, xy5.drew.setCell ⟨xg1, dn, none⟩ (.int .i64 (st + nd)) = z1 := ⟨_, rfl⟩
            have xOZ : Hid (OwnF z1 w3.heap.size xM { s with st := s.st.set dn (st + nd) } (.slice xpa xpn xpc) n n n n xg1 xd1 xg2 xd2 xg3 xd3 xg4 xd4) := by rw [← hz1']; exact xOD.out.setSt dn (st + nd)
            have xHZ : Hid (z1.heap[w4.heap.size]? = some (.cells #[.int .i64 3, (.slice xpa xpn xpc), .slice (some ⟨xg1, 0, none⟩) n xd1, .slice (some ⟨xg2, 0, none⟩) n xd2, .slice (some ⟨xg3, 0, none⟩) n xd3, .slice (some ⟨xg4, 0, none⟩) n xd4] 26 (0, 0))) := by
              rw [← hz1']
              exact ((set_grown xy5.drew xg1 dn _).block _ (Array.getElem?_eq_some_iff.1 xHD.out).1 (some_ne (show w4.heap.size ≠ xg1 by have := xLT.out.1; omega))).trans xHD.out
            have xWZ : Hid (Below W1.heap.size W1 z1) := by
              rw [← hz1']
              exact xWD.out.grown (set_grown _ _ _ _) xWD.out.size (fun b hb => by have := Option.some.inj hb; have := xGB.out.1; have := HW3.out.size; omega)
            refine GoL.last (by kernel_rfl) (by kernel_rfl) rfl (fun K hK => ?_)
            go_simp
            refine hK.out _ _ ?_
            clear hK K e6 f1 f2 f4 hHeld
            have cc0 : z1.cell? ⟨w4.heap.size, 0, none⟩ = some (.int .i64 3) := cell_of_row _ _ 0 _ _ _ xHZ.out
            have cc1 : z1.cell? ⟨w4.heap.size, 1, none⟩ = some ((.slice xpa xpn xpc)) := cell_of_row _ _ 1 _ _ _ xHZ.out
            have cc2 : z1.cell? ⟨w4.heap.size, 2, none⟩ = some (.slice (some ⟨xg1, 0, none⟩) n xd1) := cell_of_row _ _ 2 _ _ _ xHZ.out
            have cc3 : z1.cell? ⟨w4.heap.size, 3, none⟩ = some (.slice (some ⟨xg2, 0, none⟩) n xd2) := cell_of_row _ _ 3 _ _ _ xHZ.out
            have cc4 : z1.cell? ⟨w4.heap.size, 4, none⟩ = some (.slice (some ⟨xg3, 0, none⟩) n xd3) := cell_of_row _ _ 4 _ _ _ xHZ.out
            have cc5 : z1.cell? ⟨w4.heap.size, 5, none⟩ = some (.slice (some ⟨xg4, 0, none⟩) n xd4) := cell_of_row _ _ 5 _ _ _ xHZ.out
            go_wp2_with fail
            clear cc0 cc1 cc2 cc3 cc4 cc5 hz1'
            refine Calls.mono (check_own (HIW.out z1 xWZ.out) xOZ.out (HOK.out.setSt dn HR.out.1) hk HS1.out) ?_
            rintro e w5 ⟨rfl, hb5⟩
            have xW5 : Hid (Below W1.heap.size W1 w5) := xWZ.out.trans (hb5.mono xWZ.out.size)
            have xO5 : Hid (OwnF w5 w3.heap.size xM { s with st := s.st.set dn (st + nd) } (.slice xpa xpn xpc) n n n n xg1 xd1 xg2 xd2 xg3 xd3 xg4 xd4) := xOZ.out.below hb5
            have xH5 : Hid (w5.heap[w4.heap.size]? = some (.cells #[.int .i64 3, (.slice xpa xpn xpc), .slice (some ⟨xg1, 0, none⟩) n xd1, .slice (some ⟨xg2, 0, none⟩) n xd2, .slice (some ⟨xg3, 0, none⟩) n xd3, .slice (some ⟨xg4, 0, none⟩) n xd4] 26 (0, 0))) := (hb5.block _ (Array.getElem?_eq_some_iff.1 xHZ.out).1).trans xHZ.out
            clear hb5
            obtain ⟨f1, f2, _, f4, _⟩ := own_at xO5.out.fo.a (by rw [List.length_set]; exact hl1) dn (set_at HAT.out.2.1 (st + nd))
            have cc0 : w5.cell? ⟨w4.heap.size, 0, none⟩ = some (.int .i64 3) := cell_of_row _ _ 0 _ _ _ xH5.out
            have cc1 : w5.cell? ⟨w4.heap.size, 1, none⟩ = some ((.slice xpa xpn xpc)) := cell_of_row _ _ 1 _ _ _ xH5.out
            have cc2 : w5.cell? ⟨w4.heap.size, 2, none⟩ = some (.slice (some ⟨xg1, 0, none⟩) n xd1) := cell_of_row _ _ 2 _ _ _ xH5.out
            have cc3 : w5.cell? ⟨w4.heap.size, 3, none⟩ = some (.slice (some ⟨xg2, 0, none⟩) n xd2) := cell_of_row _ _ 3 _ _ _ xH5.out
            have cc4 : w5.cell? ⟨w4.heap.size, 4, none⟩ = some (.slice (some ⟨xg3, 0, none⟩) n xd3) := cell_of_row _ _ 4 _ _ _ xH5.out
            have cc5 : w5.cell? ⟨w4.heap.size, 5, none⟩ = some (.slice (some ⟨xg4, 0, none⟩) n xd4) := cell_of_row _ _ 5 _ _ _ xH5.out
            obtain ⟨z2, hz2'⟩ : ∃ z2, w5.setCell ⟨xg1, dn, none⟩ (.int .i64 (4611686018427387904 + (r1 : Int))) = z2 := ⟨_, rfl⟩
            have xOQ : Hid (OwnF z2 w3.heap.size xM { s with st := s.st.set dn (4611686018427387904 + (r1 : Int)) } (.slice xpa xpn xpc) n n n n xg1 xd1 xg2 xd2 xg3 xd3 xg4 xd4) := by
              rw [← hz2']
              have h9 := xO5.out.setSt dn (4611686018427387904 + (r1 : Int))
              rw [List.set_set] at h9
              exact h9
            have xHQ : Hid (z2.heap[w4.heap.size]? = some (.cells #[.int .i64 3, (.slice xpa xpn xpc), .slice (some ⟨xg1, 0, none⟩) n xd1, .slice (some ⟨xg2, 0, none⟩) n xd2, .slice (some ⟨xg3, 0, none⟩) n xd3, .slice (some ⟨xg4, 0, none⟩) n xd4] 26 (0, 0))) := by
              rw [← hz2']
              exact ((set_grown w5 xg1 dn _).block _ (Array.getElem?_eq_some_iff.1 xH5.out).1 (some_ne (show w4.heap.size ≠ xg1 by have := xLT.out.1; omega))).trans xH5.out
            have xWQ : Hid (Below W1.heap.size W1 z2) := by
              rw [← hz2']
              exact xW5.out.grown (set_grown _ _ _ _) xW5.out.size (fun b hb => by have := Option.some.inj hb; have := xGB.out.1; have := HW3.out.size; omega)
            have hwr : IntKind.i64.wrap (r1 : Int) = (r1 : Int) := wrap_i64_in _ (by omega) (by omega)
            have hwr2 : IntKind.i64.wrap (4611686018427387904 + (r1 : Int)) = 4611686018427387904 + (r1 : Int) := wrap_i64_in _ (by omega) (by omega)
            have hwr3 : IntKind.u64.wrap (r1 : Int) = (r1 : Int) := by rw [IntKind.wrap_u64]; omega
            have hr1' : more.tmod 2305843009213693952 = (r1 : Int) := hr1
            have kk0 : z2.cell? ⟨w4.heap.size, 0, none⟩ = some (.int .i64 3) := cell_of_row _ _ 0 _ _ _ xHQ.out
            have kk1 : z2.cell? ⟨w4.heap.size, 1, none⟩ = some ((.slice xpa xpn xpc)) := cell_of_row _ _ 1 _ _ _ xHQ.out
            have kk2 : z2.cell? ⟨w4.heap.size, 2, none⟩ = some (.slice (some ⟨xg1, 0, none⟩) n xd1) := cell_of_row _ _ 2 _ _ _ xHQ.out
            have kk3 : z2.cell? ⟨w4.heap.size, 3, none⟩ = some (.slice (some ⟨xg2, 0, none⟩) n xd2) := cell_of_row _ _ 3 _ _ _ xHQ.out
            have kk4 : z2.cell? ⟨w4.heap.size, 4, none⟩ = some (.slice (some ⟨xg3, 0, none⟩) n xd3) := cell_of_row _ _ 4 _ _ _ xHQ.out
            have kk5 : z2.cell? ⟨w4.heap.size, 5, none⟩ = some (.slice (some ⟨xg4, 0, none⟩) n xd4) := cell_of_row _ _ 5 _ _ _ xHQ.out
            go_wp2_with fail
            clear cc0 cc1 cc2 cc3 cc4 cc5 kk0 kk1 kk2 kk3 kk4 kk5 hz2' f1 f2 f4
            refine Calls.mono (check_own (HIW.out z2 xWQ.out) xOQ.out (HOK.out.setSt dn HR.out.2.1) hk HS2.out) ?_
            rintro e w6 ⟨rfl, hb6⟩
            have yW3 : Hid (Below W1.heap.size W1 w6) := xWQ.out.trans (hb6.mono xWQ.out.size)
            obtain ⟨b0, b1, b2, b3, b4, b5⟩ := HC6.out w6 yW3.out
            clear hb6
            go_wp2_with fail
            clear b0 b1 b2 b3 b4 b5
            refine Calls.mono (HOWN.out w6 (HPL.out (by first | rfl | trivial)) yW3.out) ?_
            rintro e w7 ⟨v4, rfl, ho4, hb4⟩
            obtain ⟨yM, ypv, yg1, yd1, yg2, yd2, yg3, yd3, yg4, yd4, rfl, hf4⟩ := ho4.open
            rw [hk, hl1, hl2, hl3, hl4]
            rw [hl1, hl2, hl3, hl4] at hf4
            obtain ⟨ypa, ypn, ypc, rfl, _⟩ := (hf4.pt.iss (by have := HOK.out.p; omega)).open
            have yOF : Hid (OwnF w7 w6.heap.size yM s (.slice ypa ypn ypc) n n n n yg1 yd1 yg2 yd2 yg3 yd3 yg4 yd4) := hf4
            have yW4 : Hid (Below W1.heap.size W1 w7) := yW3.out.trans (hb4.mono yW3.out.size)
            have yM4 : Hid (w6.heap.size ≤ yM ∧ yM ≤ w7.heap.size) := hf4.mb
            have yGB : Hid (w6.heap.size ≤ yg1 ∧ w6.heap.size ≤ yg2 ∧ w6.heap.size ≤ yg3 ∧ w6.heap.size ≤ yg4) := ⟨(own_at hf4.fo.a hl1 dn HAT.out.2.1).2.2.1, (own_at hf4.fo.b hl2 dn HAT.out.2.2.1).2.2.1, (own_at hf4.fo.c hl3 dn HAT.out.2.2.2.1).2.2.1, (own_at hf4.fo.d hl4 dn HAT.out.2.2.2.2).2.2.1⟩
            have yLT : Hid (yg1 < w7.heap.size ∧ yg2 < w7.heap.size ∧ yg3 < w7.heap.size ∧ yg4 < w7.heap.size) := ⟨(own_at hf4.fo.a hl1 dn HAT.out.2.1).2.2.2.1, (own_at hf4.fo.b hl2 dn HAT.out.2.2.1).2.2.2.1, (own_at hf4.fo.c hl3 dn HAT.out.2.2.2.1).2.2.2.1, (own_at hf4.fo.d hl4 dn HAT.out.2.2.2.2).2.2.2.1⟩
            have yB4 : Hid (Below w6.heap.size w6 w7) := hb4
            clear hf4 ho4 hb4
            obtain ⟨ya, yy0, yy1, yy2, yy3, yy4, yy5, yh, ⟨yj0, yj1, yj2⟩, ⟨yj3, yj4, yj5⟩, ⟨yj6, yj7, yj8⟩, ⟨yj9, yj10, yj11⟩, ⟨yj12, yj13, yj14⟩, ⟨yj15, yj16, yj17⟩, yhy, yby⟩ := sel_box w7 (.int .i64 3) (.slice ypa ypn ypc) (.slice (some ⟨yg1, 0, none⟩) n yd1) (.slice (some ⟨yg2, 0, none⟩) n yd2) (.slice (some ⟨yg3, 0, none⟩) n yd3) (.slice (some ⟨yg4, 0, none⟩) n yd4)
            have yOY : Hid (OwnF yy5 w6.heap.size yM s (.slice ypa ypn ypc) n n n n yg1 yd1 yg2 yd2 yg3 yd3 yg4 yd4) := yOF.out.below yby
            have yWY : Hid (Below W1.heap.size W1 yy5) := yW4.out.trans (yby.mono yW4.out.size)
            have yHY : Hid (yy5.heap[w7.heap.size]? = some (.cells #[.int .i64 3, (.slice ypa ypn ypc), .slice (some ⟨yg1, 0, none⟩) n yd1, .slice (some ⟨yg2, 0, none⟩) n yd2, .slice (some ⟨yg3, 0, none⟩) n yd3, .slice (some ⟨yg4, 0, none⟩) n yd4] 26 (0, 0))) := yhy
            have yBY : Hid (Below w6.heap.size w6 yy5) := yB4.out.trans (yby.mono yB4.out.size)
            clear yhy yby
            obtain ⟨f1, f2, _, f4, _⟩ := own_at yOY.out.fo.c hl3 dn HAT.out.2.2.2.1
            have kk4 : yy5.cell? ⟨w7.heap.size, 4, none⟩ = some (.slice (some ⟨yg3, 0, none⟩) n yd3) := cell_of_row _ _ 4 _ _ _ yHY.out
            obtain ⟨zc, hzc⟩ : ∃ zc, yy5.setCell ⟨yg3, dn, none⟩ (.int .i64 (2 + (r2 : Int))) = zc := ⟨_, rfl⟩
            have yOC : Hid (OwnF zc w6.heap.size yM { s with ct := s.ct.set dn (2 + (r2 : Int)) } (.slice ypa ypn ypc) n n n n yg1 yd1 yg2 yd2 yg3 yd3 yg4 yd4) := by rw [← hzc]; exact yOY.out.setCt dn (2 + (r2 : Int))
            have yHC : Hid (zc.heap[w7.heap.size]? = some (.cells #[.int .i64 3, (.slice ypa ypn ypc), .slice (some ⟨yg1, 0, none⟩) n yd1, .slice (some ⟨yg2, 0, none⟩) n yd2, .slice (some ⟨yg3, 0, none⟩) n yd3, .slice (some ⟨yg4, 0, none⟩) n yd4] 26 (0, 0))) := by
              rw [← hzc]
              exact ((set_grown yy5 yg3 dn _).block _ (Array.getElem?_eq_some_iff.1 yHY.out).1 (some_ne (show w7.heap.size ≠ yg3 by have := yLT.out.2.2.1; omega))).trans yHY.out
            have yWC : Hid (Below W1.heap.size W1 zc) := by
              rw [← hzc]
              exact yWY.out.grown (set_grown _ _ _ _) yWY.out.size (fun b hb => by have := Option.some.inj hb; have := yGB.out.2.2.1; have := yW3.out.size; omega)
            go_upto_region 14 with fail
            clear yh yj0 yj1 yj2 yj3 yj4 yj5 yj6 yj7 yj8 yj9 yj10 yj11 yj12 yj13 yj14 yj15 yj16 yj17
            clear f1 f2 f4 kk4 hzc
            have yWD : Hid (Below W1.heap.size W1 zc.drew) := yWC.out.drew
            have yOD : Hid (OwnF zc.drew w6.heap.size yM { s with ct := s.ct.set dn (2 + (r2 : Int)) } (.slice ypa ypn ypc) n n n n yg1 yd1 yg2 yd2 yg3 yd3 yg4 yd4) := yOC.out.below (Below.refl _ _).drew
            have yHD : Hid (zc.drew.heap[w7.heap.size]? = some (.cells #[.int .i64 3, (.slice ypa ypn ypc), .slice (some ⟨yg1, 0, none⟩) n yd1, .slice (some ⟨yg2, 0, none⟩) n yd2, .slice (some ⟨yg3, 0, none⟩) n yd3, .slice (some ⟨yg4, 0, none⟩) n yd4] 26 (0, 0))) := yHC.out
            obtain ⟨f1, f2, _, f4, _⟩ := own_at yOD.out.fo.b hl2 dn HAT.out.2.2.1
            have e14 : zc.drew.cell? ⟨w7.heap.size, 3, none⟩ = some (.slice (some ⟨yg2, 0, none⟩) n yd2) ∧ zc.drew.cell? ⟨gd, od + dn, none⟩ = some (.int .i64 nd) := ⟨cell_of_row _ _ 3 _ _ _ yHD.out, HCW.out _ yWD.out⟩
            refine wp_region_L (S := fun w9 => w9.cell? ⟨w7.heap.size, 3, none⟩ = some (.slice (some ⟨yg2, 0, none⟩) n yd2) ∧ w9.cell? ⟨gd, od + dn, none⟩ = some (.int .i64 nd)) 12 (by kernel_rfl) e14 (fun hHeld => ?_)
            refine GoL.takeD (some 98) (i := 0) (v := ?_) rfl rfl (by kernel_rfl) (by kernel_rfl) (by kernel_rfl) (by decide) (fun _ _ _ h => h) (Or.inl ⟨by rfl, ?_⟩) (by assumption) ?_
            rotate_left 1
            · intro w9 hSw
              obtain ⟨s0, s1⟩ := hSw
              go_simp
              try with_reducible rfl
            try simp only [Act.put, List.setIfInBounds_toArray, List.set_cons_zero, List.set_cons_succ]
            refine GoL.takeD (some 99) (i := 1) (v := ?_) rfl rfl (by kernel_rfl) (by kernel_rfl) (by kernel_rfl) (by decide) (fun _ _ _ h => h) (Or.inl ⟨by rfl, ?_⟩) (by assumption) ?_
            rotate_left 1
            · intro w9 hSw
              obtain ⟨s0, s1⟩ := hSw
              go_simp
              try with_reducible rfl
            try simp only [Act.put, List.setIfInBounds_toArray, List.set_cons_zero, List.set_cons_succ]
            refine GoL.takeD (some 100) (i := 2) (v := ?_) rfl rfl (by kernel_rfl) (by kernel_rfl) (by kernel_rfl) (by decide) (fun _ _ _ h => h) (Or.inl ⟨by rfl, ?_⟩) (by assumption) ?_
            rotate_left 1
            · intro w9 hSw
              obtain ⟨s0, s1⟩ := hSw
              go_simp
              try with_reducible rfl
            try simp only [Act.put, List.setIfInBounds_toArray, List.set_cons_zero, List.set_cons_succ]
            refine GoL.takeD (some 101) (i := 3) (v := ?_) rfl rfl (by kernel_rfl) (by kernel_rfl) (by kernel_rfl) (by decide) (fun _ _ _ h => h) (Or.inl ⟨by rfl, ?_⟩) (by assumption) ?_
            rotate_left 1
            · intro w9 hSw
              obtain ⟨s0, s1⟩ := hSw
              go_simp
              try with_reducible rfl
            try simp only [Act.put, List.setIfInBounds_toArray, List.set_cons_zero, List.set_cons_succ]
            refine GoL.takeD (some 102) (i := 4) (v := ?_) rfl rfl (by kernel_rfl) (by kernel_rfl) (by kernel_rfl) (by decide) (fun _ _ _ h => h) (Or.inl ⟨by rfl, ?_⟩) (by assumption) ?_
            rotate_left 1
            · intro w9 hSw
              obtain ⟨s0, s1⟩ := hSw
              go_simp
              try with_reducible rfl
            try simp only [Act.put, List.setIfInBounds_toArray, List.set_cons_zero, List.set_cons_succ]
            refine GoL.takeD (some 103) (i := 5) (v := ?_) rfl rfl (by kernel_rfl) (by kernel_rfl) (by kernel_rfl) (by decide) (fun _ _ _ h => h) (Or.inl ⟨by rfl, ?_⟩) (by assumption) ?_
            rotate_left 1
            · intro w9 hSw
              obtain ⟨s0, s1⟩ := hSw
              go_simp
              try with_reducible rfl
            try simp only [Act.put, List.setIfInBounds_toArray, List.set_cons_zero, List.set_cons_succ]
            refine GoL.takeD (some 104) (i := 6) (v := ?_) rfl rfl (by kernel_rfl) (by kernel_rfl) (by kernel_rfl) (by decide) (fun _ _ _ h => h) (Or.inl ⟨by rfl, ?_⟩) (by assumption) ?_
            rotate_left 1
            · intro w9 hSw
              obtain ⟨s0, s1⟩ := hSw
              go_simp
              try with_reducible rfl
            try simp only [Act.put, List.setIfInBounds_toArray, List.set_cons_zero, List.set_cons_succ]
            refine GoL.takeD (some 105) (i := 7) (v := ?_) rfl rfl (by kernel_rfl) (by kernel_rfl) (by kernel_rfl) (by decide) (fun _ _ _ h => h) (Or.inl ⟨by rfl, ?_⟩) (by assumption) ?_
            rotate_left 1
            · intro w9 hSw
              obtain ⟨s0, s1⟩ := hSw
              go_simp
              try with_reducible rfl
            try simp only [Act.put, List.setIfInBounds_toArray, List.set_cons_zero, List.set_cons_succ]
            refine GoL.takeD (some 106) (i := 8) (v := ?_) rfl rfl (by kernel_rfl) (by kernel_rfl) (by kernel_rfl) (by decide) (fun _ _ _ h => h) (Or.inl ⟨by rfl, ?_⟩) (by assumption) ?_
            rotate_left 1
            · intro w9 hSw
              obtain ⟨s0, s1⟩ := hSw
              go_simp
              try with_reducible rfl
            try simp only [Act.put, List.setIfInBounds_toArray, List.set_cons_zero, List.set_cons_succ]
            refine GoL.takeD (some 107) (i := 9) (v := ?_) rfl rfl (by kernel_rfl) (by kernel_rfl) (by kernel_rfl) (by decide) (fun _ _ _ h => h) (Or.inl ⟨by rfl, ?_⟩) (by assumption) ?_
            rotate_left 1
            · intro w9 hSw
              obtain ⟨s0, s1⟩ := hSw
              go_simp
              try with_reducible rfl
            try simp only [Act.put, List.setIfInBounds_toArray, List.set_cons_zero, List.set_cons_succ]
            refine GoL.takeD (some 108) (i := 10) (v := ?_) rfl rfl (by kernel_rfl) (by kernel_rfl) (by kernel_rfl) (by decide) (fun _ _ _ h => h) (Or.inl ⟨by rfl, ?_⟩) (by assumption) ?_
            rotate_left 1
            · intro w9 hSw
              obtain ⟨s0, s1⟩ := hSw
              go_simp
              try with_reducible rfl
            try simp only [Act.put, List.setIfInBounds_toArray, List.set_cons_zero, List.set_cons_succ]
            refine GoL.takeD (some 109) (i := 11) (v := ?_) rfl rfl (by kernel_rfl) (by kernel_rfl) (by kernel_rfl) (by decide) (fun _ _ _ h => h) (Or.inl ⟨by rfl, ?_⟩) (by assumption) ?_
            rotate_left 1
            · intro w9 hSw
              obtain ⟨s0, s1⟩ := hSw
              go_simp
              try with_reducible rfl
            try simp only [Act.put, List.setIfInBounds_toArray, List.set_cons_zero, List.set_cons_succ]
            obtain ⟨zd, hzd⟩ : ∃ zd, zc.drew.setCell ⟨yg2, dn, none⟩ (.int .i64 (nd + (r2 : Int))) = zd := ⟨_, rfl⟩
            have yOZ : Hid (OwnF zd w6.heap.size yM { s with ct := s.ct.set dn (2 + (r2 : Int)), sd := s.sd.set dn (nd + (r2 : Int)) } (.slice ypa ypn ypc) n n n n yg1 yd1 yg2 yd2 yg3 yd3 yg4 yd4) := by rw [← hzd]; exact yOD.out.setSd dn (nd + (r2 : Int))
            have yHZ : Hid (zd.heap[w7.heap.size]? = some (.cells #[.int .i64 3, (.slice ypa ypn ypc), .slice (some ⟨yg1, 0, none⟩) n yd1, .slice (some ⟨yg2, 0, none⟩) n yd2, .slice (some ⟨yg3, 0, none⟩) n yd3, .slice (some ⟨yg4, 0, none⟩) n yd4] 26 (0, 0))) := by
              rw [← hzd]
              exact ((set_grown zc.drew yg2 dn _).block _ (Array.getElem?_eq_some_iff.1 yHD.out).1 (some_ne (show w7.heap.size ≠ yg2 by have := yLT.out.2.1; omega))).trans yHD.out
            have zW3 : Hid (Below W1.heap.size W1 zd) := by
              rw [← hzd]
              exact yWD.out.grown (set_grown _ _ _ _) yWD.out.size (fun b hb => by have := Option.some.inj hb; have := yGB.out.2.1; have := yW3.out.size; omega)
            refine GoL.last (by kernel_rfl) (by kernel_rfl) rfl (fun K hK => ?_)
            go_simp
            refine hK.out _ _ ?_
            clear hK K e14 f1 f2 f4 hHeld hzd
            obtain ⟨b0, b1, b2, b3, b4, b5⟩ := HC6.out zd zW3.out
            go_wp2_with fail
            clear b0 b1 b2 b3 b4 b5
            refine Calls.mono (HOWN.out zd (HPL.out (by first | rfl | trivial)) zW3.out) ?_
            rintro e w9 ⟨v4, rfl, ho4, hb4⟩
            obtain ⟨zM, zpv, zg1, zd1, zg2, zd2, zg3, zd3, zg4, zd4, rfl, hf4⟩ := ho4.open
            rw [hk, hl1, hl2, hl3, hl4]
            rw [hl1, hl2, hl3, hl4] at hf4
            obtain ⟨zpa, zpn, zpc, rfl, _⟩ := (hf4.pt.iss (by have := HOK.out.p; omega)).open
            have zOF : Hid (OwnF w9 zd.heap.size zM s (.slice zpa zpn zpc) n n n n zg1 zd1 zg2 zd2 zg3 zd3 zg4 zd4) := hf4
            have zW4 : Hid (Below W1.heap.size W1 w9) := zW3.out.trans (hb4.mono zW3.out.size)
            have zM4 : Hid (zd.heap.size ≤ zM ∧ zM ≤ w9.heap.size) := hf4.mb
            have zGB : Hid (zd.heap.size ≤ zg1 ∧ zd.heap.size ≤ zg2 ∧ zd.heap.size ≤ zg3 ∧ zd.heap.size ≤ zg4) := ⟨(own_at hf4.fo.a hl1 dn HAT.out.2.1).2.2.1, (own_at hf4.fo.b hl2 dn HAT.out.2.2.1).2.2.1, (own_at hf4.fo.c hl3 dn HAT.out.2.2.2.1).2.2.1, (own_at hf4.fo.d hl4 dn HAT.out.2.2.2.2).2.2.1⟩
            have zLT : Hid (zg1 < w9.heap.size ∧ zg2 < w9.heap.size ∧ zg3 < w9.heap.size ∧ zg4 < w9.heap.size) := ⟨(own_at hf4.fo.a hl1 dn HAT.out.2.1).2.2.2.1, (own_at hf4.fo.b hl2 dn HAT.out.2.2.1).2.2.2.1, (own_at hf4.fo.c hl3 dn HAT.out.2.2.2.1).2.2.2.1, (own_at hf4.fo.d hl4 dn HAT.out.2.2.2.2).2.2.2.1⟩
            have zB4 : Hid (Below zd.heap.size zd w9) := hb4
            clear hf4 ho4 hb4
            obtain ⟨za, zy0, zy1, zy2, zy3, zy4, zy5, zh, ⟨zj0, zj1, zj2⟩, ⟨zj3, zj4, zj5⟩, ⟨zj6, zj7, zj8⟩, ⟨zj9, zj10, zj11⟩, ⟨zj12, zj13, zj14⟩, ⟨zj15, zj16, zj17⟩, zhy, zby⟩ := sel_box w9 (.int .i64 3) (.slice zpa zpn zpc) (.slice (some ⟨zg1, 0, none⟩) n zd1) (.slice (some ⟨zg2, 0, none⟩) n zd2) (.slice (some ⟨zg3, 0, none⟩) n zd3) (.slice (some ⟨zg4, 0, none⟩) n zd4)
            have zOY : Hid (OwnF zy5 zd.heap.size zM s (.slice zpa zpn zpc) n n n n zg1 zd1 zg2 zd2 zg3 zd3 zg4 zd4) := zOF.out.below zby
            have zWY : Hid (Below W1.heap.size W1 zy5) := zW4.out.trans (zby.mono zW4.out.size)
            have zHY : Hid (zy5.heap[w9.heap.size]? = some (.cells #[.int .i64 3, (.slice zpa zpn zpc), .slice (some ⟨zg1, 0, none⟩) n zd1, .slice (some ⟨zg2, 0, none⟩) n zd2, .slice (some ⟨zg3, 0, none⟩) n zd3, .slice (some ⟨zg4, 0, none⟩) n zd4] 26 (0, 0))) := zhy
            have zBY : Hid (Below zd.heap.size zd zy5) := zB4.out.trans (zby.mono zB4.out.size)
            clear zhy zby
            go_upto_region 16 with fail
            clear zh zj0 zj1 zj2 zj3 zj4 zj5 zj6 zj7 zj8 zj9 zj10 zj11 zj12 zj13 zj14 zj15 zj16 zj17
            have zWD : Hid (Below W1.heap.size W1 zy5.drew) := zWY.out.drew
            have zOD : Hid (OwnF zy5.drew zd.heap.size zM s (.slice zpa zpn zpc) n n n n zg1 zd1 zg2 zd2 zg3 zd3 zg4 zd4) := zOY.out.below (Below.refl _ _).drew
            have zHD : Hid (zy5.drew.heap[w9.heap.size]? = some (.cells #[.int .i64 3, (.slice zpa zpn zpc), .slice (some ⟨zg1, 0, none⟩) n zd1, .slice (some ⟨zg2, 0, none⟩) n zd2, .slice (some ⟨zg3, 0, none⟩) n zd3, .slice (some ⟨zg4, 0, none⟩) n zd4] 26 (0, 0))) := zHY.out
            obtain ⟨f1, f2, _, f4, _⟩ := own_at zOD.out.fo.d hl4 dn HAT.out.2.2.2.2
            have e16 : zy5.drew.cell? ⟨w9.heap.size, 5, none⟩ = some (.slice (some ⟨zg4, 0, none⟩) n zd4) ∧ zy5.drew.cell? ⟨gd, od + dn, none⟩ = some (.int .i64 nd) := ⟨cell_of_row _ _ 5 _ _ _ zHD.out, HCW.out _ zWD.out⟩
            refine wp_region_L (S := fun w8 => w8.cell? ⟨w9.heap.size, 5, none⟩ = some (.slice (some ⟨zg4, 0, none⟩) n zd4) ∧ w8.cell? ⟨gd, od + dn, none⟩ = some (.int .i64 nd)) 13 (by kernel_rfl) e16 (fun hHeld => ?_)
            refine GoL.takeD (some 112) (i := 0) (v := ?_) rfl rfl (by kernel_rfl) (by kernel_rfl) (by kernel_rfl) (by decide) (fun _ _ _ h => h) (Or.inl ⟨by rfl, ?_⟩) (by assumption) ?_
            rotate_left 1
            · intro w8 hSw
              obtain ⟨s0, s1⟩ := hSw
              go_simp
              try with_reducible rfl
            try simp only [Act.put, List.setIfInBounds_toArray, List.set_cons_zero, List.set_cons_succ]
            refine GoL.takeD (some 113) (i := 1) (v := ?_) rfl rfl (by kernel_rfl) (by kernel_rfl) (by kernel_rfl) (by decide) (fun _ _ _ h => h) (Or.inl ⟨by rfl, ?_⟩) (by assumption) ?_
            rotate_left 1
            · intro w8 hSw
              obtain ⟨s0, s1⟩ := hSw
              go_simp
              try with_reducible rfl
            try simp only [Act.put, List.setIfInBounds_toArray, List.set_cons_zero, List.set_cons_succ]
            refine GoL.takeD (some 114) (i := 2) (v := ?_) rfl rfl (by kernel_rfl) (by kernel_rfl) (by kernel_rfl) (by decide) (fun _ _ _ h => h) (Or.inl ⟨by rfl, ?_⟩) (by assumption) ?_
            rotate_left 1
            · intro w8 hSw
              obtain ⟨s0, s1⟩ := hSw
              go_simp
              try with_reducible rfl
            try simp only [Act.put, List.setIfInBounds_toArray, List.set_cons_zero, List.set_cons_succ]
            refine GoL.takeD (some 115) (i := 3) (v := ?_) rfl rfl (by kernel_rfl) (by kernel_rfl) (by kernel_rfl) (by decide) (fun _ _ _ h => h) (Or.inl ⟨by rfl, ?_⟩) (by assumption) ?_
            rotate_left 1
            · intro w8 hSw
              obtain ⟨s0, s1⟩ := hSw
              go_simp
              try with_reducible rfl
            try simp only [Act.put, List.setIfInBounds_toArray, List.set_cons_zero, List.set_cons_succ]
            refine GoL.takeD (some 116) (i := 4) (v := ?_) rfl rfl (by kernel_rfl) (by kernel_rfl) (by kernel_rfl) (by decide) (fun _ _ _ h => h) (Or.inl ⟨by rfl, ?_⟩) (by assumption) ?_
            rotate_left 1
            · intro w8 hSw
              obtain ⟨s0, s1⟩ := hSw
              go_simp
              try with_reducible rfl
            try simp only [Act.put, List.setIfInBounds_toArray, List.set_cons_zero, List.set_cons_succ]
            refine GoL.takeD (some 117) (i := 5) (v := ?_) rfl rfl (by kernel_rfl) (by kernel_rfl) (by kernel_rfl) (by decide) (fun _ _ _ h => h) (Or.inl ⟨by rfl, ?_⟩) (by assumption) ?_
            rotate_left 1
            · intro w8 hSw
              obtain ⟨s0, s1⟩ := hSw
              go_simp
              try with_reducible rfl
            try simp only [Act.put, List.setIfInBounds_toArray, List.set_cons_zero, List.set_cons_succ]
            refine GoL.takeD (some 118) (i := 6) (v := ?_) rfl rfl (by kernel_rfl) (by kernel_rfl) (by kernel_rfl) (by decide) (fun _ _ _ h => h) (Or.inl ⟨by rfl, ?_⟩) (by assumption) ?_
            rotate_left 1
            · intro w8 hSw
              obtain ⟨s0, s1⟩ := hSw
              go_simp
              try with_reducible rfl
            try simp only [Act.put, List.setIfInBounds_toArray, List.set_cons_zero, List.set_cons_succ]
            refine GoL.takeD (some 119) (i := 7) (v := ?_) rfl rfl (by kernel_rfl) (by kernel_rfl) (by kernel_rfl) (by decide) (fun _ _ _ h => h) (Or.inl ⟨by rfl, ?_⟩) (by assumption) ?_
            rotate_left 1
            · intro w8 hSw
              obtain ⟨s0, s1⟩ := hSw
              go_simp
              try with_reducible rfl
            try simp only [Act.put, List.setIfInBounds_toArray, List.set_cons_zero, List.set_cons_succ]
            refine GoL.takeD (some 120) (i := 8) (v := ?_) rfl rfl (by kernel_rfl) (by kernel_rfl) (by kernel_rfl) (by decide) (fun _ _ _ h => h) (Or.inl ⟨by rfl, ?_⟩) (by assumption) ?_
            rotate_left 1
            · intro w8 hSw
              obtain ⟨s0, s1⟩ := hSw
              go_simp
              try with_reducible rfl
            try simp only [Act.put, List.setIfInBounds_toArray, List.set_cons_zero, List.set_cons_succ]
            refine GoL.takeD (some 121) (i := 9) (v := ?_) rfl rfl (by kernel_rfl) (by kernel_rfl) (by kernel_rfl) (by decide) (fun _ _ _ h => h) (Or.inl ⟨by rfl, ?_⟩) (by assumption) ?_
            rotate_left 1
            · intro w8 hSw
              obtain ⟨s0, s1⟩ := hSw
              go_simp
              try with_reducible rfl
            try simp only [Act.put, List.setIfInBounds_toArray, List.set_cons_zero, List.set_cons_succ]
            refine GoL.takeD (some 122) (i := 10) (v := ?_) rfl rfl (by kernel_rfl) (by kernel_rfl) (by kernel_rfl) (by decide) (fun _ _ _ h => h) (Or.inl ⟨by rfl, ?_⟩) (by assumption) ?_
            rotate_left 1
            · intro w8 hSw
              obtain ⟨s0, s1⟩ := hSw
              go_simp
              try with_reducible rfl
            try simp only [Act.put, List.setIfInBounds_toArray, List.set_cons_zero, List.set_cons_succ]
            refine GoL.takeD (some 123) (i := 11) (v := ?_) rfl rfl (by kernel_rfl) (by kernel_rfl) (by kernel_rfl) (by decide) (fun _ _ _ h => h) (Or.inl ⟨by rfl, ?_⟩) (by assumption) ?_
            rotate_left 1
            · intro w8 hSw
              obtain ⟨s0, s1⟩ := hSw
              go_simp
              try with_reducible rfl
            try simp only [Act.put, List.setIfInBounds_toArray, List.set_cons_zero, List.set_cons_succ]
            refine GoL.takeD (some 124) (i := 12) (v := ?_) rfl rfl (by kernel_rfl) (by kernel_rfl) (by kernel_rfl) (by decide) (fun _ _ _ h => h) (Or.inl ⟨by rfl, ?_⟩) (by assumption) ?_
            rotate_left 1
            · intro w8 hSw
              obtain ⟨s0, s1⟩ := hSw
              go_simp
              try with_reducible rfl
            try simp only [Act.put, List.setIfInBounds_toArray, List.set_cons_zero, List.set_cons_succ]
            obtain ⟨ze, hze⟩ : ∃ ze, zy5.drew.setCell ⟨zg4, dn, none⟩ (.int .i64 (nd + 1 + (r2 : Int))) = ze := ⟨_, rfl⟩
            have zOZ : Hid (OwnF ze zd.heap.size zM { s with bl := s.bl.set dn (nd + 1 + (r2 : Int)) } (.slice zpa zpn zpc) n n n n zg1 zd1 zg2 zd2 zg3 zd3 zg4 zd4) := by rw [← hze]; exact zOD.out.setBl dn (nd + 1 + (r2 : Int))
            have zHZ : Hid (ze.heap[w9.heap.size]? = some (.cells #[.int .i64 3, (.slice zpa zpn zpc), .slice (some ⟨zg1, 0, none⟩) n zd1, .slice (some ⟨zg2, 0, none⟩) n zd2, .slice (some ⟨zg3, 0, none⟩) n zd3, .slice (some ⟨zg4, 0, none⟩) n zd4] 26 (0, 0))) := by
              rw [← hze]
              exact ((set_grown zy5.drew zg4 dn _).block _ (Array.getElem?_eq_some_iff.1 zHD.out).1 (some_ne (show w9.heap.size ≠ zg4 by have := zLT.out.2.2.2; omega))).trans zHD.out
            have zBZ : Hid (Below zd.heap.size zd ze) := by
              rw [← hze]
              exact zBY.out.drew.grown (set_grown _ _ _ _) zBY.out.size (fun b hb => by have := Option.some.inj hb; have := zGB.out.2.2.2; omega)
            have zWZ : Hid (Below W1.heap.size W1 ze) := zW3.out.trans (zBZ.out.mono zW3.out.size)
            have yHE : Hid (ze.heap[w7.heap.size]? = some (.cells #[.int .i64 3, (.slice ypa ypn ypc), .slice (some ⟨yg1, 0, none⟩) n yd1, .slice (some ⟨yg2, 0, none⟩) n yd2, .slice (some ⟨yg3, 0, none⟩) n yd3, .slice (some ⟨yg4, 0, none⟩) n yd4] 26 (0, 0))) := (zBZ.out.block _ (Array.getElem?_eq_some_iff.1 yHZ.out).1).trans yHZ.out
            have yOE : Hid (OwnF ze w6.heap.size yM { s with ct := s.ct.set dn (2 + (r2 : Int)), sd := s.sd.set dn (nd + (r2 : Int)) } (.slice ypa ypn ypc) n n n n yg1 yd1 yg2 yd2 yg3 yd3 yg4 yd4) := yOZ.out.below zBZ.out
            refine GoL.last (by kernel_rfl) (by kernel_rfl) rfl (fun K hK => ?_)
            go_simp
            refine hK.out _ _ ?_
            clear hK K e16 f1 f2 f4 hHeld hze
            have cc0 : ze.cell? ⟨w7.heap.size, 0, none⟩ = some (.int .i64 3) := cell_of_row _ _ 0 _ _ _ yHE.out
            have cc1 : ze.cell? ⟨w7.heap.size, 1, none⟩ = some ((.slice ypa ypn ypc)) := cell_of_row _ _ 1 _ _ _ yHE.out
            have cc2 : ze.cell? ⟨w7.heap.size, 2, none⟩ = some (.slice (some ⟨yg1, 0, none⟩) n yd1) := cell_of_row _ _ 2 _ _ _ yHE.out
            have cc3 : ze.cell? ⟨w7.heap.size, 3, none⟩ = some (.slice (some ⟨yg2, 0, none⟩) n yd2) := cell_of_row _ _ 3 _ _ _ yHE.out
            have cc4 : ze.cell? ⟨w7.heap.size, 4, none⟩ = some (.slice (some ⟨yg3, 0, none⟩) n yd3) := cell_of_row _ _ 4 _ _ _ yHE.out
            have cc5 : ze.cell? ⟨w7.heap.size, 5, none⟩ = some (.slice (some ⟨yg4, 0, none⟩) n yd4) := cell_of_row _ _ 5 _ _ _ yHE.out
            go_wp2_with fail
            clear cc0 cc1 cc2 cc3 cc4 cc5
            refine Calls.mono (check_own (HIW.out ze zWZ.out) yOE.out ((HOK.out.setCt dn HR.out.2.2.1).setSd dn HR.out.2.2.2.1) hk HS3.out) ?_
            rintro e w10 ⟨rfl, hb10⟩
            have zW10 : Hid (Below W1.heap.size W1 w10) := zWZ.out.trans (hb10.mono zWZ.out.size)
            have zO10 : Hid (OwnF w10 zd.heap.size zM { s with bl := s.bl.set dn (nd + 1 + (r2 : Int)) } (.slice zpa zpn zpc) n n n n zg1 zd1 zg2 zd2 zg3 zd3 zg4 zd4) := zOZ.out.below hb10
            have zH10 : Hid (w10.heap[w9.heap.size]? = some (.cells #[.int .i64 3, (.slice zpa zpn zpc), .slice (some ⟨zg1, 0, none⟩) n zd1, .slice (some ⟨zg2, 0, none⟩) n zd2, .slice (some ⟨zg3, 0, none⟩) n zd3, .slice (some ⟨zg4, 0, none⟩) n zd4] 26 (0, 0))) := (hb10.block _ (Array.getElem?_eq_some_iff.1 zHZ.out).1).trans zHZ.out
            clear hb10
            have cc0 : w10.cell? ⟨w9.heap.size, 0, none⟩ = some (.int .i64 3) := cell_of_row _ _ 0 _ _ _ zH10.out
            have cc1 : w10.cell? ⟨w9.heap.size, 1, none⟩ = some ((.slice zpa zpn zpc)) := cell_of_row _ _ 1 _ _ _ zH10.out
            have cc2 : w10.cell? ⟨w9.heap.size, 2, none⟩ = some (.slice (some ⟨zg1, 0, none⟩) n zd1) := cell_of_row _ _ 2 _ _ _ zH10.out
            have cc3 : w10.cell? ⟨w9.heap.size, 3, none⟩ = some (.slice (some ⟨zg2, 0, none⟩) n zd2) := cell_of_row _ _ 3 _ _ _ zH10.out
            have cc4 : w10.cell? ⟨w9.heap.size, 4, none⟩ = some (.slice (some ⟨zg3, 0, none⟩) n zd3) := cell_of_row _ _ 4 _ _ _ zH10.out
            have cc5 : w10.cell? ⟨w9.heap.size, 5, none⟩ = some (.slice (some ⟨zg4, 0, none⟩) n zd4) := cell_of_row _ _ 5 _ _ _ zH10.out
            go_wp2_with fail
            clear cc0 cc1 cc2 cc3 cc4 cc5
            refine Calls.mono (check_own (HIW.out w10 zW10.out) zO10.out (HOK.out.setBl dn HR.out.2.2.2.2) hk HS4.out) ?_
            rintro e w11 ⟨rfl, hb11⟩
            have zW11 : Hid (Below W1.heap.size W1 w11) := zW10.out.trans (hb11.mono zW10.out.size)
            clear hb11
            go_wp2_with (go_at_call 7; refine (lives_any _).mono ?_; rintro e w12 ⟨rfl, hb12⟩; have HBZ : Hid (Below w.heap.size w w12) := HB1.out.trans ((zW11.out.trans (hb12.mono zW11.out.size)).mono HB1.out.size); clear hb12)
            go_ret
            exact ⟨rfl, HBZ.out⟩
      · have q0 : (er == 0) = false := by simpa using h0
        have q1 : (er != 0) = true := by simpa using h0
        obtain rfl := HCE.out h0
        go_wp2_with (go_at_call 7; refine (lives_any _).mono ?_; rintro e w4 ⟨rfl, hb4⟩; have HBZ : Hid (Below w.heap.size w w4) := HFIN.out _ hb4; clear hb4)
        go_ret
        exact ⟨rfl, HBZ.out⟩
  · have k3 : (s.kind != 3) = true := by simpa using hk
    have HFIN : Hid (∀ w2 w', Below W1.heap.size W1 w2 → Below w2.heap.size w2 w' → Below w.heap.size w w') := fun w2 w' h h' => HB1.out.trans ((h.trans (h'.mono h.size)).mono HB1.out.size)
    go_enter Try.func3, Try.ntmps3
    go_wp2_with fail
    clear b0 b1 b2 b3 b4 b5
    refine Calls.mono HCO.out ?_
    rintro e w2 ⟨rfl, hb2⟩
    have HW2 : Hid (Below W1.heap.size W1 w2) := hb2
    obtain ⟨b0, b1, b2, b3, b4, b5⟩ := HC6.out w2 hb2
    clear hb2
    by_cases h0 : er = 0
    · have q0 : (er == 0) = true := by simpa using h0
      go_wp2_with (go_at_call 7; refine (lives_any _).mono ?_; rintro e w4 ⟨rfl, hb4⟩; have HBZ : Hid (Below w.heap.size w w4) := HFIN.out _ _ HW2.out hb4; clear hb4)
      go_ret
      exact ⟨rfl, HBZ.out⟩
    · have q0 : (er == 0) = false := by simpa using h0
      obtain rfl := HCE.out h0
      go_wp2_with (go_at_call 7; refine (lives_any _).mono ?_; rintro e w4 ⟨rfl, hb4⟩; have HBZ : Hid (Below w.heap.size w w4) := HFIN.out _ _ HW2.out hb4; clear hb4)
      go_ret
      exact ⟨rfl, HBZ.out⟩
end Go.Proofs.Ytnikbcljonbpcab
