/-
  The law's own: a type anew. Conditions: lengths are such as memory bears.
-/
import Derived.Test.YtojcokdfplldbaaROwnB
namespace Go.Proofs.Ytojcokdfplldbaa
open Go.RowKit Go.Shelf
set_option linter.unusedVariables false
set_option maxRecDepth 100000

theorem below_al {w W : World} (h : Below w.heap.size w W) (o : Obj) : Below w.heap.size w (W.alloc o) := h.alloc h.size o
theorem below_st {w W : World} (h : Below w.heap.size w W) (j : Nat) (v : Value) (p : Nat) (hp : w.heap.size ≤ p) : Below w.heap.size w (W.setCell ⟨p, j, none⟩ v) := Below.setCell (p := ⟨p, j, none⟩) h hp v
theorem below_dr {w W : World} (h : Below w.heap.size w W) : Below w.heap.size w W.drew := h.drew
theorem NewP.bel {w w' : World} {n : Nat} {news : List Value} {q : Value} (h : NewP w n news q w') : Below w.heap.size w w' := by obtain ⟨_, _, _, _, h, _⟩ := h; exact h
theorem Try.infoZo : ∃ i, Try.prog.info? 3 = some i ∧ i.zero = some (.int .i64 0) ∧ i.size = 1 ∧ i.bytes = 8 := by
  refine ⟨_, rfl, ?_⟩
  exact ⟨by kernel_rfl, by kernel_rfl, by kernel_rfl⟩
theorem Try.infoMb : ∃ i, Try.prog.info? 69 = some i ∧ i.zero = some (.agg #[.string ⟨#[]⟩, .int .i64 0]) ∧ i.size = 2 ∧ i.bytes = 24 := by
  refine ⟨_, rfl, ?_⟩
  exact ⟨by kernel_rfl, by kernel_rfl, by kernel_rfl⟩
theorem bx_frozen (w : World) (c wd : Int) (b : Bool) (f d y n : Value) : (w.alloc (.cells #[.int .i64 c, .int .i64 wd, .bool b, f, d, y, n] 28)).heap[w.heap.size]? = some (.cells #[.int .i64 c, .int .i64 wd, .bool b, f, d, y, n] 28 (0, 0)) := heap_alloc_new w _
/-- Two worlds agree on these blocks. -/
def Agr (lo hi : Nat) (w w' : World) : Prop := ∀ x, lo ≤ x → x < hi → w'.heap[x]? = w.heap[x]?
theorem cell_agr {lo hi : Nat} {w w' : World} (h : Agr lo hi w w') {g j : Nat} {u : Value} (hc : w.cell? ⟨g, j, none⟩ = some u) (hg : lo ≤ g) (hh : g < hi) : w'.cell? ⟨g, j, none⟩ = some u :=
  (World.cell?_of_block (w := w) (a := ⟨g, j, none⟩) (h g hg hh)).trans hc
theorem Agr.mono {lo hi lo' hi' : Nat} {w w' : World} (h : Agr lo hi w w') (h1 : lo ≤ lo') (h2 : hi' ≤ hi) : Agr lo' hi' w w' := fun x a b => h x (by omega) (by omega)
theorem Agr.trans {lo hi : Nat} {w w' w'' : World} (h : Agr lo hi w w') (h' : Agr lo hi w' w'') : Agr lo hi w w'' := fun x a b => (h' x a b).trans (h x a b)
theorem Agr.of_below {w w' : World} (h : Below w.heap.size w w') (lo : Nat) : Agr lo w.heap.size w w' := fun x _ hx => h.block x hx
theorem Is.stay {v : Value} {w0 w w' : World} {lo : Nat} {g cap : Nat} {l : List Int} (h : Is w0 v l) (hp : NewP w l.length (l.map fun x => Value.int .i64 x) (.slice (some ⟨g, 0, none⟩) l.length cap) w') (hlo : lo ≤ w.heap.size) : ∀ W, Agr lo w'.heap.size w' W → Is W (.slice (some ⟨g, 0, none⟩) l.length cap) l := by
  intro W hW
  obtain ⟨g', cap', e, hc, hb, hn⟩ := hp
  injection e with e1 e2 e3
  injection e1 with e1
  injection e1 with e1
  subst e1 e3
  refine ⟨h.len, h.rng, _, cap, rfl, hc, fun i x hx => ⟨g, 0, rfl, ?_⟩⟩
  rw [Nat.zero_add]
  obtain ⟨k1, k2⟩ := hn i _ (by rw [List.getElem?_map, hx]; rfl)
  exact cell_agr hW k2 (by omega) (World.block_lt_of_cell? w' _ k2)
theorem Nms.stay {v : Value} {w0 w w' : World} {lo : Nat} {g cap : Nat} {l : List (ByteArray × Int)} (h : Nms w0 v l) (hp : NewP w l.length (mcells l) (.slice (some ⟨g, 0, none⟩) l.length cap) w') (hlo : lo ≤ w.heap.size) : ∀ W, Agr lo w'.heap.size w' W → Nms W (.slice (some ⟨g, 0, none⟩) l.length cap) l := by
  intro W hW
  obtain ⟨g', cap', e, hc, hb, hn⟩ := hp
  injection e with e1 e2 e3
  injection e1 with e1
  injection e1 with e1
  subst e1 e3
  refine ⟨h.len, h.rng, _, cap, rfl, hc, fun i x hx => ⟨g, 0, rfl, ?_⟩⟩
  obtain ⟨h1, h2⟩ := mcells_at l i x hx
  rw [Nat.zero_add]
  obtain ⟨k1, k2⟩ := hn _ _ h1
  obtain ⟨k3, k4⟩ := hn _ _ h2
  exact ⟨cell_agr hW k2 (by omega) (World.block_lt_of_cell? w' _ k2), cell_agr hW k4 (by omega) (World.block_lt_of_cell? w' _ k4)⟩
theorem ty_set4 {W : World} {p : Nat} {c wd : Int} {b : Bool} {f d y n : Value} (h : TyRow W p c wd b f d y n) (f' d' y' n' : Value) :
    TyRow ((((W.setCell ⟨p, 3, none⟩ f').setCell ⟨p, 4, none⟩ d').setCell ⟨p, 5, none⟩ y').setCell ⟨p, 6, none⟩ n') p c wd b f' d' y' n' ∧ (∀ x, x ≠ p → ((((W.setCell ⟨p, 3, none⟩ f').setCell ⟨p, 4, none⟩ d').setCell ⟨p, 5, none⟩ y').setCell ⟨p, 6, none⟩ n').heap[x]? = W.heap[x]?) ∧ ((((W.setCell ⟨p, 3, none⟩ f').setCell ⟨p, 4, none⟩ d').setCell ⟨p, 5, none⟩ y').setCell ⟨p, 6, none⟩ n').heap.size = W.heap.size := by
  have h0 := heap_setCell_same _ p 3 _ _ f' h
  have h1 := heap_setCell_same _ p 4 _ _ d' h0
  have h2 := heap_setCell_same _ p 5 _ _ y' h1
  have h3 := heap_setCell_same _ p 6 _ _ n' h2
  refine ⟨h3, fun x hx => ?_, by simp [World.setCell]⟩
  have k : ∀ (V : World) (j : Nat) (v : Value), (V.setCell ⟨p, j, none⟩ v).heap[x]? = V.heap[x]? := fun V j v => Below.heap_setCell _ _ _ _ (fun e => hx e)
  rw [k, k, k, k]
/-- What stands behind the first region. -/
structure Ow2 (w2 w3 : World) (p : Nat) (c wd : Int) (b : Bool) (ds : List Int) (ns : List (ByteArray × Int)) (q8 q9 : Value) (wx : World) : Prop where
  bel : Below w2.heap.size w2 wx
  size : w3.heap.size ≤ wx.heap.size
  row : TyRow wx p c wd b (.slice none 0 0) q8 (.slice none 0 0) q9
  ds : ∀ W, Agr w3.heap.size wx.heap.size wx W → Is W q8 ds
  ns : ∀ W, Agr w3.heap.size wx.heap.size wx W → Nms W q9 ns
theorem OwnP.eq1 {n : Nat} {t : Ty n} {z1 z2 : Int} {z3 : Bool} (h1 : (hd t).1 = z1) (h2 : (hd t).2.1 = z2) (h3 : (hd t).2.2 = z3) {w : World} : OwnP t w = fun e w2 => ∃ a1 m1 c1 a2 m2 c2 a3 m3 c3 a4 m4 c4, e = .returned (.agg #[.int .i64 z1, .int .i64 z2, .bool z3, .slice a1 m1 c1, .slice a2 m2 c2, .slice a3 m3 c3, .slice a4 m4 c4]) ∧ Below w.heap.size w w2 ∧ ∀ W, (∀ x, w.heap.size ≤ x → x < w2.heap.size → W.heap[x]? = w2.heap[x]?) → TR n W ⟨.slice a1 m1 c1, .slice a2 m2 c2, .slice a3 m3 c3, .slice a4 m4 c4⟩ t := by
  funext e w2
  rw [OwnP, h1, h2, h3]
theorem ow2_of {w2 w3 W8 W9 : World} {c wd : Int} {b : Bool} {f d y n : Value} {ds : List Int} {ns : List (ByteArray × Int)} {g8 g9 dn nn c8 c9 : Nat} (hr : TyRow w3 w2.heap.size c wd b f d y n) (h9 : Below w3.heap.size w3 W9) (hp : w2.heap.size < w3.heap.size) (hd : ds.length = dn) (hn : ns.length = nn)
    (i8 : ∀ W, Agr w3.heap.size W8.heap.size W8 W → Is W (.slice (some ⟨g8, 0, none⟩) ds.length c8) ds) (i9 : ∀ W, Agr w3.heap.size W9.heap.size W9 W → Nms W (.slice (some ⟨g9, 0, none⟩) ns.length c9) ns) (hl : Below W8.heap.size W8 W9) (hb : Below w2.heap.size w2 w3) :
    Ow2 w2 w3 w2.heap.size c wd b ds ns (.slice (some ⟨g8, 0, none⟩) dn c8) (.slice (some ⟨g9, 0, none⟩) nn c9) ((((W9.setCell ⟨w2.heap.size, 3, none⟩ (.slice none 0 0)).setCell ⟨w2.heap.size, 4, none⟩ (.slice (some ⟨g8, 0, none⟩) dn c8)).setCell ⟨w2.heap.size, 5, none⟩ (.slice none 0 0)).setCell ⟨w2.heap.size, 6, none⟩ (.slice (some ⟨g9, 0, none⟩) nn c9)) := by
  subst hd hn
  have hr9 : TyRow W9 w2.heap.size c wd b f d y n := (h9.block _ hp).trans hr
  obtain ⟨s1, s2, s3⟩ := ty_set4 hr9 (.slice none 0 0) (.slice (some ⟨g8, 0, none⟩) ds.length c8) (.slice none 0 0) (.slice (some ⟨g9, 0, none⟩) ns.length c9)
  refine ⟨below_st (below_st (below_st (below_st (hb.trans (h9.mono hb.size)) _ _ _ (Nat.le_refl _)) _ _ _ (Nat.le_refl _)) _ _ _ (Nat.le_refl _)) _ _ _ (Nat.le_refl _), by rw [s3]; exact h9.size, s1, fun W hW => i8 W ?_, fun W hW => i9 W ?_⟩
  · intro x a e
    rw [hW x a (by rw [s3]; exact Nat.lt_of_lt_of_le e hl.size), s2 x (by omega)]
    exact hl.block x e
  · intro x a e
    rw [hW x a (by rw [s3]; exact e), s2 x (by omega)]
theorem ow2_of' {w2 w3 W8 W9 : World} {c wd : Int} {b : Bool} {f d y n : Value} {ds : List Int} {ns : List (ByteArray × Int)} {g8 g9 dn nn c8 c9 : Nat} (hr : TyRow w3 w2.heap.size c wd b f d y n) (h8 : Below w3.heap.size w3 W8) (hp : w2.heap.size < w3.heap.size) (hd : ds.length = dn) (hn : ns.length = nn)
    (i8 : ∀ W, Agr w3.heap.size W8.heap.size W8 W → Is W (.slice (some ⟨g8, 0, none⟩) ds.length c8) ds) (i9 : ∀ W, Agr w3.heap.size W9.heap.size W9 W → Nms W (.slice (some ⟨g9, 0, none⟩) ns.length c9) ns) (hl : Below W9.heap.size W9 W8) (hb : Below w2.heap.size w2 w3) :
    Ow2 w2 w3 w2.heap.size c wd b ds ns (.slice (some ⟨g8, 0, none⟩) dn c8) (.slice (some ⟨g9, 0, none⟩) nn c9) ((((W8.setCell ⟨w2.heap.size, 3, none⟩ (.slice none 0 0)).setCell ⟨w2.heap.size, 4, none⟩ (.slice (some ⟨g8, 0, none⟩) dn c8)).setCell ⟨w2.heap.size, 5, none⟩ (.slice none 0 0)).setCell ⟨w2.heap.size, 6, none⟩ (.slice (some ⟨g9, 0, none⟩) nn c9)) := by
  subst hd hn
  have hr8 : TyRow W8 w2.heap.size c wd b f d y n := (h8.block _ hp).trans hr
  obtain ⟨s1, s2, s3⟩ := ty_set4 hr8 (.slice none 0 0) (.slice (some ⟨g8, 0, none⟩) ds.length c8) (.slice none 0 0) (.slice (some ⟨g9, 0, none⟩) ns.length c9)
  refine ⟨below_st (below_st (below_st (below_st (hb.trans (h8.mono hb.size)) _ _ _ (Nat.le_refl _)) _ _ _ (Nat.le_refl _)) _ _ _ (Nat.le_refl _)) _ _ _ (Nat.le_refl _), by rw [s3]; exact h8.size, s1, fun W hW => i8 W ?_, fun W hW => i9 W ?_⟩
  · intro x a e
    rw [hW x a (by rw [s3]; exact e), s2 x (by omega)]
  · intro x a e
    rw [hW x a (by rw [s3]; exact Nat.lt_of_lt_of_le e hl.size), s2 x (by omega)]
    exact hl.block x e
set_option maxHeartbeats 64000000 in
theorem own_step {n : Nat} (A : TyN (Ty n)) (V : TV) (w : World) (hA : TRN (TR n) hd w V A) (ih : OwnR w n) :
    Calls Try.prog 11 #[tyV (A.c, A.w, A.b) V] w (OwnP (n := n + 1) A w) := by
  have HI : Hid (OwnR w n) := ih
  have HA : Hid (TRN (TR n) hd w V A) := hA
  obtain ⟨fa, fn, fc, da, dn, dc, ba, bn, bc, na, nn, nc, rfl, ⟨f1, f2, f3⟩, ⟨d1, d2, d3⟩, ⟨b1, b2, b3⟩, ⟨n1, n2, n3⟩⟩ := HA.out.open
  show Calls _ _ #[.agg #[.int .i64 A.c, .int .i64 A.w, .bool A.b, _, _, _, _]] _ _
  obtain ⟨c, hc⟩ : ∃ c, A.c = c := ⟨_, rfl⟩
  obtain ⟨wd, hwd⟩ : ∃ c, A.w = c := ⟨_, rfl⟩
  obtain ⟨b, hb⟩ : ∃ c, A.b = c := ⟨_, rfl⟩
  rw [hc, hwd, hb]
  obtain ⟨w1, hw1, hb1, hs1, hx1⟩ := bx_made w c wd b (.slice fa fn fc) (.slice da dn dc) (.slice ba bn bc) (.slice na nn nc)
  obtain ⟨w2, hw2, hb2, hs2, hx2⟩ := bx_made w1 0 0 false (.slice none 0 0) (.slice none 0 0) (.slice none 0 0) (.slice none 0 0)
  obtain ⟨w3, hw3, hb3, hs3, hx3⟩ := bx_made w2 c wd b (.slice fa fn fc) (.slice da dn dc) (.slice ba bn bc) (.slice na nn nc)
  have hr3 : w3.heap[w2.heap.size]? = some (.cells #[.int .i64 c, .int .i64 wd, .bool b, .slice fa fn fc, .slice da dn dc, .slice ba bn bc, .slice na nn nc] 28 (0, 0)) := by rw [← hw3]; exact bx_frozen _ _ _ _ _ _ _ _
  have HX1 : Hid (Bx w2 w.heap.size c wd b (.slice fa fn fc) (.slice da dn dc) (.slice ba bn bc) (.slice na nn nc)) := hx1.below hb2
  have HR3 : Hid (w3.heap[w2.heap.size]? = some (.cells #[.int .i64 c, .int .i64 wd, .bool b, .slice fa fn fc, .slice da dn dc, .slice ba bn bc, .slice na nn nc] 28 (0, 0))) := hr3
  have HB2 : Hid (Below w.heap.size w w2) := bel_next hb1 hb2
  have HB3 : Hid (Below w2.heap.size w2 w3) := hb3
  have HPP : Hid (w2.heap.size < w3.heap.size) := (by omega : w2.heap.size < w3.heap.size)
  have hb30 := hb3
  have HD : Hid (Is w2 (.slice da dn dc) A.ds) := HA.out.ds.below HB2.out
  have HN : Hid (Nms w2 (.slice na nn nc) A.ns) := HA.out.ns.below HB2.out
  have HS : Hid (∀ W, Below w2.heap.size w2 W → W.cell? ⟨w.heap.size, 4, none⟩ = some (.slice da dn dc) ∧ W.cell? ⟨w.heap.size, 6, none⟩ = some (.slice na nn nc)) := fun W h => by
    obtain ⟨k0, k1, k2, k3, k4, k5, k6⟩ := HX1.out.below h
    exact ⟨k4, k6⟩
  have HXC : Hid (∀ W, Below w3.heap.size w3 W → (∀ j, W.frozen? ⟨w2.heap.size, j, none⟩ = false) ∧ W.cell? ⟨w2.heap.size, 3, none⟩ = some (.slice fa fn fc) ∧ W.cell? ⟨w2.heap.size, 4, none⟩ = some (.slice da dn dc) ∧ W.cell? ⟨w2.heap.size, 5, none⟩ = some (.slice ba bn bc) ∧ W.cell? ⟨w2.heap.size, 6, none⟩ = some (.slice na nn nc)) := fun W h => by
    have hr := (h.block w2.heap.size (by omega)).trans HR3.out
    exact ⟨fun j => by simp [World.frozen?, hr], cell_of_row _ _ 3 _ _ _ hr, cell_of_row _ _ 4 _ _ _ hr, cell_of_row _ _ 5 _ _ _ hr, cell_of_row _ _ 6 _ _ _ hr⟩
  obtain ⟨iZ, hiZ, hzZ, hsZ, hyZ⟩ := Try.infoZo
  obtain ⟨iM, hiM, hzM, hsM, hyM⟩ := Try.infoMb
  obtain ⟨k0, k1, k2, k3, k4, k5, k6⟩ := hx1.below hb2
  have HDL : Hid (A.ds.length = dn) := d1
  have HNL : Hid (A.ns.length = nn) := n1
  have HFN : Hid (A.fs.length = fn) := f1
  have HP12 : Hid (w1.heap.size < w2.heap.size) := (by omega : w1.heap.size < w2.heap.size)
  have HP1 : Hid (w.heap.size ≤ w1.heap.size) := hb1.size
  have HCC : Hid (A.c = c ∧ A.w = wd ∧ A.b = b) := ⟨hc, hwd, hb⟩
  have HR2 : Hid (TyRow w2 w1.heap.size 0 0 false (.slice none 0 0) (.slice none 0 0) (.slice none 0 0) (.slice none 0 0)) := by rw [← hw2]; exact heap_alloc_new w1 _
  have HBN : Hid (A.bs.length = bn) := b1
  clear hA ih hx1 hx2 hx3 hr3 hb1 hb2 hs1 hs2 hs3 f1 f2 d1 d2 b1 b2 n1 n2 hc hwd hb
  go_enter Try.func11, Try.ntmps11
  go_upto_region 2 with fail
  clear k0 k1 k2 k3 k4 k5 k6
  go_cut [3] from 7 to 60 (fun x wx => x = .pointer (some ⟨w2.heap.size, 0, none⟩) ∧ ∃ q8 q9, Hid (Ow2 w2 w3 w2.heap.size c wd b A.ds A.ns q8 q9 wx))
  case first =>
   have hd3 : Below w3.heap.size w3 w3.drew := (Below.refl _ _).drew
   have hr3 : Below w3.heap.size w3 w3 := Below.refl _ _
   have hd2 : Below w2.heap.size w2 w3.drew := hb3.drew
   go_region_held_law (fun W => W.cell? ⟨w.heap.size, 4, none⟩ = some (.slice da dn dc) ∧ W.cell? ⟨w.heap.size, 6, none⟩ = some (.slice na nn nc)) (exact HS.out _ (by repeat (first | assumption | refine below_al ?_ _ | refine below_dr ?_ | refine below_st ?_ _ _ _ (Nat.le_refl _))))
     (first
       | (refine step_app_new rfl (.tmp 8) (.tmp 10) 24 3 rfl 11 rfl iZ (.int .i64 0) 1 8 Try.underlying24 hiZ hzZ hsZ hyZ _ da dn dc (A.ds.map fun x => .int .i64 x) rfl rfl (HD.out.news).2.1 (by rw [List.length_map, HDL.out, Nat.mul_one]) ((HD.out.below (by repeat (first | assumption | refine below_al ?_ _ | refine below_dr ?_))).news).2.2 (by omega) (by omega) ?_; intro q8 W8 hp8; have HP8 : Hid _ := hp8; have hq8 := hp8.bel; obtain ⟨g8, c8, rfl, hy81, hy82, hy83⟩ := hp8; clear hy81 hy82 hy83; have h83 : Below w3.heap.size w3 W8 := Below.trans (by repeat (first | assumption | refine below_al ?_ _ | refine below_dr ?_)) (hq8.mono (Below.size (by repeat (first | assumption | refine below_al ?_ _ | refine below_dr ?_)))); have HI8 : Hid (∀ W, Agr w3.heap.size W8.heap.size W8 W → Is W (.slice (some ⟨g8, 0, none⟩) A.ds.length c8) A.ds) := Is.stay HD.out (by rw [HDL.out]; exact HP8.out) (Below.size (w := w3) (by repeat (first | assumption | refine below_al ?_ _ | refine below_dr ?_))); have H83 : Hid (Below w3.heap.size w3 W8) := h83; (try (have H98 : Hid (Below W9.heap.size W9 W8) := by first | exact hq8 | exact Below.trans (by repeat (first | assumption | exact Below.refl _ _ | refine below_al ?_ _ | refine below_dr ?_)) (hq8.mono (Below.size (by repeat (first | assumption | exact Below.refl _ _ | refine below_al ?_ _ | refine below_dr ?_)))))); have h82 : Below w2.heap.size w2 W8 := HB3.out.trans (h83.mono HB3.out.size); obtain ⟨fz8, x83, x84, x85, x86⟩ := HXC.out _ h83)
       | (refine step_app_new rfl (.tmp 12) (.tmp 14) 26 69 rfl 15 rfl iM (.agg #[.string ⟨#[]⟩, .int .i64 0]) 2 24 Try.underlying26 hiM hzM hsM hyM _ na nn nc (mcells A.ns) rfl rfl (HN.out.news).2.1 (by rw [mcells_len, HNL.out]) ((HN.out.below (by repeat (first | assumption | refine below_al ?_ _ | refine below_dr ?_))).news).2.2 (by omega) (by omega) ?_; intro q9 W9 hp9; have HP9 : Hid _ := hp9; have hq9 := hp9.bel; obtain ⟨g9, c9, rfl, hy91, hy92, hy93⟩ := hp9; clear hy91 hy92 hy93; have h93 : Below w3.heap.size w3 W9 := Below.trans (by repeat (first | assumption | refine below_al ?_ _ | refine below_dr ?_)) (hq9.mono (Below.size (by repeat (first | assumption | refine below_al ?_ _ | refine below_dr ?_)))); have HI9 : Hid (∀ W, Agr w3.heap.size W9.heap.size W9 W → Nms W (.slice (some ⟨g9, 0, none⟩) A.ns.length c9) A.ns) := Nms.stay HN.out (by rw [HNL.out]; exact HP9.out) (Below.size (w := w3) (by repeat (first | assumption | refine below_al ?_ _ | refine below_dr ?_))); have H93 : Hid (Below w3.heap.size w3 W9) := h93; (try (have H89 : Hid (Below W8.heap.size W8 W9) := by first | exact hq9 | exact Below.trans (by repeat (first | assumption | exact Below.refl _ _ | refine below_al ?_ _ | refine below_dr ?_)) (hq9.mono (Below.size (by repeat (first | assumption | exact Below.refl _ _ | refine below_al ?_ _ | refine below_dr ?_)))))); have h92 : Below w2.heap.size w2 W9 := HB3.out.trans (h93.mono HB3.out.size); obtain ⟨fz9, x93, x94, x95, x96⟩ := HXC.out _ h93))
   all_goals
     first | (have HLast := H89) | (have HLast := H98)
     go_wp2_with fail
     go_meet
     case rel =>
      first | exact ⟨rfl, _, _, ow2_of HR3.out h93 HPP.out HDL.out HNL.out HI8.out HI9.out HLast.out hb30⟩ | exact ⟨rfl, _, _, ow2_of' HR3.out h83 HPP.out HDL.out HNL.out HI8.out HI9.out HLast.out hb30⟩
  case rest =>
    obtain ⟨rfl, q8, q9, HOw⟩ := hcut
    obtain ⟨iF, zF, hiF, hzF, hsF, hyF, hcF⟩ := Try.infoFd
    have HBc : Hid (Below w2.heap.size w2 wc) := HOw.out.bel
    have HPc : Hid (w2.heap.size < wc.heap.size) := Nat.lt_of_lt_of_le HPP.out HOw.out.size
    have HRc : Hid (TyRow wc w2.heap.size c wd b (.slice none 0 0) q8 (.slice none 0 0) q9) := HOw.out.row
    go_wp2_with fail
    go_loopw [4] (fun y wr => ∃ (i : Nat) (vF : Value) (L : List FI), i ≤ fn ∧ y = .int .i64 (i : Int) ∧ Hid (L.length = i) ∧ Hid (Itm encFI 9 66 (StF A) wc.heap.size wr vF L) ∧ Hid (TyRow wr w2.heap.size c wd b vF q8 (.slice none 0 0) q9) ∧ Hid (Kep wc wr w2.heap.size) ∧ Hid (Below w2.heap.size w2 wr)) (fun y _ => fn - (intOf y).toNat)
    case atStart => exact ⟨0, .slice none 0 0, [], Nat.zero_le _, by simp, rfl, Itm.nil _ _ _ _ _ _, HRc.out, ⟨fun x _ _ => rfl, Nat.le_refl _⟩, HBc.out⟩
    case round =>
      obtain ⟨i, vF, L, hin, rfl, HLi, HIt, HTr, HKe, HBr⟩ := hrel
      obtain ⟨k0, k1, k2, k3, k4, k5, k6⟩ := HX1.out.below HBr.out
      clear k0 k1 k2 k4 k5 k6
      by_cases hlt : i < fn
      · obtain ⟨g, o, Vp, p, rfl, hp, hpr, hv, e0, e1, e2, e3, e4, e5, e6, e7, e8⟩ := HA.out.fs.at hlt
        obtain ⟨s0, a0, T⟩ := p
        simp only [] at e0 e1 e2 e3 e4 e5 e6 e7 e8 hv
        obtain ⟨z1, hz1⟩ : ∃ s, (hd T).1 = s := ⟨_, rfl⟩
        obtain ⟨z2, hz2⟩ : ∃ s, (hd T).2.1 = s := ⟨_, rfl⟩
        obtain ⟨z3, hz3⟩ : ∃ s, (hd T).2.2 = s := ⟨_, rfl⟩
        rw [hz1] at e2
        rw [hz2] at e3
        rw [hz3] at e4
        have HZ : Hid (hd T = (z1, z2, z3)) := by rw [Hid, ← hz1, ← hz2, ← hz3]
        obtain ⟨ga, gn, gk, xa, xn, xc, ya, yn, yc, za, zn, zc, rfl⟩ := hv.sl
        simp only [] at e5 e6 e7 e8
        have HBw : Hid (Below w.heap.size w wr) := bel_next HB2.out HBr.out
        have K : ∀ {p : Addr} {x : Value}, w.cell? p = some x → wr.cell? p = some x := fun h => (HBw.out.cell (World.block_lt_of_cell? w _ h)).trans h
        replace e0 := K e0
        replace e1 := K e1
        replace e2 := K e2
        replace e3 := K e3
        replace e4 := K e4
        replace e5 := K e5
        replace e6 := K e6
        replace e7 := K e7
        replace e8 := K e8
        clear K
        obtain ⟨w5, hw5, hb5, hs5, hr5⟩ := fd_made wr s0 a0 z1 z2 z3 (.slice ga gn gk) (.slice xa xn xc) (.slice ya yn yc) (.slice za zn zc)
        have HCL : Hid (Calls Try.prog 11 #[.agg #[.int .i64 z1, .int .i64 z2, .bool z3, .slice ga gn gk, .slice xa xn xc, .slice ya yn yc, .slice za zn zc]] w5 (OwnP T w5)) := by
          have h := HI.out T ⟨.slice ga gn gk, .slice xa xn xc, .slice ya yn yc, .slice za zn zc⟩ w5 (HBw.out.trans (hb5.mono HBw.out.size)) hv
          rw [tyV, hz1, hz2, hz3] at h
          exact h
        rw [OwnP.eq1 hz1 hz2 hz3] at HCL
        have HP2 : Hid (A.fs[i]? = some (s0, a0, T)) := hp
        have HR5 : Hid (FdRow w5 wr.heap.size s0 a0 z1 z2 z3 (.slice ga gn gk) (.slice xa xn xc) (.slice ya yn yc) (.slice za zn zc)) := hr5
        have HB5 : Hid (Below wr.heap.size wr w5) := hb5
        have HS5 : Hid (w5.heap.size = wr.heap.size + 1) := hs5
        obtain ⟨fz5, d0, d1, d2, d3, d4, d5, d6, d7, d8⟩ := hr5.cells
        clear hp hpr hv hb5 hs5 hr5 hz1 hz2 hz3
        go_wp2_with fail
        refine Calls.mono HCL.out ?_
        rintro e w6 ⟨a1, m1, c1, a2, m2, c2, a3, m3, c3, a4, m4, c4, rfl, hb6, hst⟩
        have hr6 : FdRow w6 wr.heap.size s0 a0 z1 z2 z3 (.slice ga gn gk) (.slice xa xn xc) (.slice ya yn yc) (.slice za zn zc) := (hb6.block wr.heap.size (by rw [HS5.out]; omega)).trans HR5.out
        obtain ⟨w7, hw7, hr7, ho7, hs7, hb7⟩ := fd_set7 hr6 z1 z2 z3 (.slice a1 m1 c1) (.slice a2 m2 c2) (.slice a3 m3 c3) (.slice a4 m4 c4)
        obtain ⟨w8, hw8, hb8, hs8, hr8⟩ := fd_made w7 s0 a0 z1 z2 z3 (.slice a1 m1 c1) (.slice a2 m2 c2) (.slice a3 m3 c3) (.slice a4 m4 c4)
        have HB7 : Hid (Below w2.heap.size w2 w7) := hb7 _ _ ((HBr.out.trans (HB5.out.mono HBr.out.size)).trans (hb6.mono (Nat.le_trans HBr.out.size HB5.out.size))) HBr.out.size
        have HO8 : Hid (w8.ownsRow wc.heap.size 66 9 vF L.length (L.flatMap encFI)) := ownsRow_agr HIt.out.own (fun x hx => by
          have h1 := (World.ownsRow.lt HIt.out.own x hx).2
          rw [hb8.block x (by rw [hs7]; have := hb6.size; have := HB5.out.size; omega), ho7 x (by omega), hb6.block x (by have := HB5.out.size; omega), HB5.out.block x h1])
        have HT7 : Hid (TyRow w7 w2.heap.size c wd b vF q8 (.slice none 0 0) q9) := by
          have h1 : w2.heap.size < wr.heap.size := Nat.lt_of_lt_of_le HPc.out HKe.out.size
          rw [Hid, TyRow, ho7 _ (by omega), hb6.block _ (by have := HB5.out.size; omega), HB5.out.block _ h1]
          exact HTr.out
        have HNW : Hid (∀ j u, (encFI (s0, a0, (z1, z2, z3), ⟨.slice a1 m1 c1, .slice a2 m2 c2, .slice a3 m3 c3, .slice a4 m4 c4⟩))[j]? = some u → w8.cell? ((⟨w7.heap.size, 0, none⟩ : Addr).add j) = some u) := fun j u hj => by
          obtain ⟨_, l0, l1, l2, l3, l4, l5, l6, l7, l8⟩ := hr8.cells
          rw [addG]
          rcases j with _ | _ | _ | _ | _ | _ | _ | _ | _ | j <;> simp [encFI] at hj <;> subst hj <;> assumption
        have HON : Hid (∀ u ∈ encFI (s0, a0, (z1, z2, z3), ⟨.slice a1 m1 c1, .slice a2 m2 c2, .slice a3 m3 c3, .slice a4 m4 c4⟩), u.oneCell' = true) := fun u hu => by
          simp [encFI] at hu
          rcases hu with rfl | rfl | rfl | rfl | rfl | rfl | rfl | rfl | rfl <;> rfl
        have HSZ : Hid (wc.heap.size ≤ w8.heap.size) := by
          have := HKe.out.size; have := HB5.out.size; have := hb6.size; have := hb8.size
          rw [Hid]; omega
        have HB6 : Hid (Below w5.heap.size w5 w6) := hb6
        have HST : Hid (∀ W, (∀ x, w5.heap.size ≤ x → x < w6.heap.size → W.heap[x]? = w6.heap[x]?) → TR n W ⟨.slice a1 m1 c1, .slice a2 m2 c2, .slice a3 m3 c3, .slice a4 m4 c4⟩ T) := hst
        have HO7 : Hid (∀ x, x ≠ wr.heap.size → w7.heap[x]? = w6.heap[x]?) := ho7
        have HS7 : Hid (w7.heap.size = w6.heap.size) := hs7
        have HB8 : Hid (Below w7.heap.size w7 w8) := hb8
        obtain ⟨fz6, y0, y1, y2, y3, y4, y5, y6, y7, y8⟩ := hr6.cells
        obtain ⟨fz7, x0, x1, x2, x3, x4, x5, x6, x7, x8⟩ := hr7.cells
        have ht7 : w7.heap[w2.heap.size]? = some (.cells #[.int .i64 c, .int .i64 wd, .bool b, vF, q8, .slice none 0 0, q9] 28 (0, 0)) := HT7.out
        have t73 := cell_of_row _ _ 3 _ _ _ ht7
        have hLn : L.length ≤ 977343669105 := by have := HA.out.fs.len; have := HLi.out; have := HFN.out; omega
        clear hb6 hst hr6 hr7 ho7 hs7 hb7 hb8 hs8 hr8 ht7 fz5 d0 d1 d2 d3 d4 d5 d6 d7 d8
        go_wp2_with (at_builtin; refine wpList_append_G _ rfl (.tmp 37) (.tmp 39) 23 rfl 66 iF Try.underlying23 hiF zF hzF 9 144 hsF hyF hcF (by omega) wc.heap.size vF L.length (L.flatMap encFI) ⟨w7.heap.size, 0, none⟩ 1 1 (encFI (s0, a0, (z1, z2, z3), ⟨.slice a1 m1 c1, .slice a2 m2 c2, .slice a3 m3 c3, .slice a4 m4 c4⟩)) rfl rfl HO8.out rfl HNW.out HON.out (by omega) (by omega) (by omega) HSZ.out ?_; intro g9 c9 w9 ho9 hg9 hat9; obtain ⟨tc9, tf9, w10, hw10, hi10, hr10, hk10, hb10⟩ := own_fnext HIt.out HTr.out HKe.out HBr.out HPc.out (Nat.le_refl _) HB5.out HS5.out HB6.out HST.out HO7.out HS7.out HB7.out HB8.out ho9 hg9 hat9 HLi.out HP2.out HZ.out ⟨_, _, _, _, _, _, _, _, _, _, _, _, rfl⟩; have HI10 : Hid _ := hi10; have HR10 : Hid _ := hr10; have HK10 : Hid _ := hk10; have HB10 : Hid _ := hb10; clear ho9 hg9 hat9 hi10 hr10 hk10 hb10)
        go_roundw
        case rel => exact ⟨i + 1, _, _, by omega, by go_num, by rw [Hid, List.length_append, HLi.out]; rfl, HI10.out, HR10.out, HK10.out, HB10.out⟩
        case measure => simp [intOf]; omega
      · obtain rfl : i = fn := by omega
        obtain ⟨we, rfl⟩ : ∃ we, we = wr := ⟨_, rfl⟩
        obtain ⟨iT, zT, hiT, hzT, hsT, hyT, hcT⟩ := Try.infoTy
        have HPe : Hid (w2.heap.size < we.heap.size) := Nat.lt_of_lt_of_le HPc.out HKe.out.size
        go_wp2_with fail
        clear k3
        go_loopw [6] (fun y wr => ∃ (i2 : Nat) (vB : Value) (LB : List BI), i2 ≤ bn ∧ y = .int .i64 (i2 : Int) ∧ Hid (LB.length = i2) ∧ Hid (Itm encBI 7 28 (StB A) we.heap.size wr vB LB) ∧ Hid (TyRow wr w2.heap.size c wd b vF q8 vB q9) ∧ Hid (Kep we wr w2.heap.size) ∧ Hid (Below w2.heap.size w2 wr)) (fun y _ => bn - (intOf y).toNat)
        case atStart => exact ⟨0, .slice none 0 0, [], Nat.zero_le _, by simp, rfl, Itm.nil _ _ _ _ _ _, HTr.out, ⟨fun x _ _ => rfl, Nat.le_refl _⟩, HBr.out⟩
        case round =>
          obtain ⟨i2, vB, LB, hin2, rfl, HLi2, HIt2, HTr2, HKe2, HBr2⟩ := hrel
          obtain ⟨k0, k1, k2, k3, k4, k5, k6⟩ := HX1.out.below HBr2.out
          clear k0 k1 k2 k3 k4 k6
          by_cases hlt2 : i2 < bn
          · obtain ⟨g, o, Vp, T, rfl, hp, hv, e0, e1, e2, e3, e4, e5, e6⟩ := HA.out.bs.at hlt2
            obtain ⟨z1, hz1⟩ : ∃ s, (hd T).1 = s := ⟨_, rfl⟩
            obtain ⟨z2, hz2⟩ : ∃ s, (hd T).2.1 = s := ⟨_, rfl⟩
            obtain ⟨z3, hz3⟩ : ∃ s, (hd T).2.2 = s := ⟨_, rfl⟩
            rw [hz1] at e0
            rw [hz2] at e1
            rw [hz3] at e2
            have HZ : Hid (hd T = (z1, z2, z3)) := by rw [Hid, ← hz1, ← hz2, ← hz3]
            obtain ⟨ga, gn, gk, xa, xn, xc, ya, yn, yc, za, zn, zc, rfl⟩ := hv.sl
            simp only [] at e3 e4 e5 e6
            have HSS : Hid (∀ W, Below w2.heap.size w2 W → W.cell? ⟨w.heap.size, 5, none⟩ = some (.slice (some ⟨g, o, none⟩) bn bc) ∧ W.cell? ⟨g, o + i2 * 7, none⟩ = some (.int .i64 z1) ∧ W.cell? ⟨g, o + i2 * 7 + 1, none⟩ = some (.int .i64 z2) ∧ W.cell? ⟨g, o + i2 * 7 + 2, none⟩ = some (.bool z3) ∧ W.cell? ⟨g, o + i2 * 7 + 3, none⟩ = some (.slice ga gn gk) ∧ W.cell? ⟨g, o + i2 * 7 + 4, none⟩ = some (.slice xa xn xc) ∧ W.cell? ⟨g, o + i2 * 7 + 5, none⟩ = some (.slice ya yn yc) ∧ W.cell? ⟨g, o + i2 * 7 + 6, none⟩ = some (.slice za zn zc)) := fun W h => by
              have hw : Below w.heap.size w W := bel_next HB2.out h
              have K : ∀ {p : Addr} {x : Value}, w.cell? p = some x → W.cell? p = some x := fun h => (hw.cell (World.block_lt_of_cell? w _ h)).trans h
              exact ⟨(HX1.out.below h).c5, K e0, K e1, K e2, K e3, K e4, K e5, K e6⟩
            have HCL : Hid (∀ W, Below w2.heap.size w2 W → Calls Try.prog 11 #[.agg #[.int .i64 z1, .int .i64 z2, .bool z3, .slice ga gn gk, .slice xa xn xc, .slice ya yn yc, .slice za zn zc]] W fun e w2 => ∃ a1 m1 c1 a2 m2 c2 a3 m3 c3 a4 m4 c4, e = .returned (.agg #[.int .i64 z1, .int .i64 z2, .bool z3, .slice a1 m1 c1, .slice a2 m2 c2, .slice a3 m3 c3, .slice a4 m4 c4]) ∧ Below W.heap.size W w2 ∧ ∀ W', (∀ x, W.heap.size ≤ x → x < w2.heap.size → W'.heap[x]? = w2.heap[x]?) → TR n W' ⟨.slice a1 m1 c1, .slice a2 m2 c2, .slice a3 m3 c3, .slice a4 m4 c4⟩ T) := fun W hW => by
              have h := HI.out T ⟨.slice ga gn gk, .slice xa xn xc, .slice ya yn yc, .slice za zn zc⟩ W (bel_next HB2.out hW) hv
              rw [tyV, hz1, hz2, hz3, OwnP.eq1 hz1 hz2 hz3] at h
              exact h
            have HP2 : Hid (A.bs[i2]? = some T) := hp
            have hb0 : Below w2.heap.size w2 wr := HBr2.out
            have hbd : Below w2.heap.size w2 wr.drew := HBr2.out.drew
            obtain ⟨fzr, r0, r1, r2, r3, r4, r5, r6⟩ := HTr2.out.cells
            have hLn : LB.length ≤ 1172812402926 := by have := HA.out.bs.len; have := HLi2.out; have := HBN.out; omega
            have rd5 : wr.drew.cell? ⟨w2.heap.size, 5, none⟩ = some vB := r5
            clear hp hv hz1 hz2 hz3 e0 e1 e2 e3 e4 e5 e6 r0 r1 r2 r3 r4 r6
            go_wp2_with fail
            clear k5
            obtain ⟨v0, v1, v2, v3, v4, v5, v6, v7⟩ := HSS.out _ hb0
            go_region_law
              (first
                | (have hg := HI8; clear hg; refine step_append_G 58 rfl rfl (.tmp 50) (.tmp 57) 25 28 rfl iT Try.underlying25 hiT zT hzT 7 120 hsT hyT hcT (by omega) we.heap.size vB LB.length (LB.flatMap encBI) ⟨w6.heap.size, 0, none⟩ 1 1 (encBI ((z1, z2, z3), ⟨.slice a1 m1 c1, .slice a2 m2 c2, .slice a3 m3 c3, .slice a4 m4 c4⟩)) rfl rfl HO8.out rfl HNW.out HON.out (by omega) (by omega) (by omega) HSZ.out ?_; intro g9 c9 w9 ho9 hg9 hat9; obtain ⟨hb9, tc9, tf9, w10, hw10, hi10, hr10, hk10, hb10⟩ := own_bnext HIt2.out HTr2.out HKe2.out HBr2.out HPe.out (Nat.le_refl _) HB6.out HST.out HB8.out ho9 hg9 hat9 HLi2.out HP2.out HZ.out ⟨_, _, _, _, _, _, _, _, _, _, _, _, rfl⟩; have HI10 : Hid _ := hi10; have HR10 : Hid _ := hr10; have HK10 : Hid _ := hk10; have HB10 : Hid _ := hb10; clear ho9 hg9 hat9 hi10 hr10 hk10)
                | (refine step_callO rfl 11 (enters_of Try.func11 (by kernel_rfl) rfl) #[.tmp 55] _ rfl #[.agg #[.int .i64 z1, .int .i64 z2, .bool z3, .slice ga gn gk, .slice xa xn xc, .slice ya yn yc, .slice za zn zc]] (by go_simp) (fun v w6 => ∃ a1 m1 c1 a2 m2 c2 a3 m3 c3 a4 m4 c4, v = .agg #[.int .i64 z1, .int .i64 z2, .bool z3, .slice a1 m1 c1, .slice a2 m2 c2, .slice a3 m3 c3, .slice a4 m4 c4] ∧ Below wr.heap.size wr w6 ∧ ∀ W', (∀ x, wr.heap.size ≤ x → x < w6.heap.size → W'.heap[x]? = w6.heap[x]?) → TR n W' ⟨.slice a1 m1 c1, .slice a2 m2 c2, .slice a3 m3 c3, .slice a4 m4 c4⟩ T) (Calls.mono (HCL.out _ (by assumption)) (by rintro e w' ⟨a1, m1, c1, a2, m2, c2, a3, m3, c3, a4, m4, c4, rfl, h1, h2⟩; exact ⟨_, rfl, a1, m1, c1, a2, m2, c2, a3, m3, c3, a4, m4, c4, rfl, below_undr h1, h2⟩)) 56 rfl ?_; rintro v6 w6 ⟨a1, m1, c1, a2, m2, c2, a3, m3, c3, a4, m4, c4, rfl, hb6, hst⟩; have HI8 : Hid True := trivial; obtain ⟨w8, hw8, hb8, hs8, hr8⟩ := ty_made w6 z1 z2 z3 (.slice a1 m1 c1) (.slice a2 m2 c2) (.slice a3 m3 c3) (.slice a4 m4 c4); obtain ⟨HO8, HNW, HON, HSZ, h26, h28, r56, r58⟩ := own_bcall (sf := by simp [Value.oneCell']) HIt2.out HTr2.out HKe2.out HBr2.out HPe.out hb6 hb8 hr8; have HB6 : Hid _ := hb6; have HST : Hid _ := hst; have HB8 : Hid _ := hb8; clear hb6 hst hb8 hs8 hr8))
            all_goals
              go_wp2_with fail
              go_roundw
              case rel => exact ⟨i2 + 1, _, _, by omega, by go_num, by rw [Hid, List.length_append, HLi2.out]; rfl, HI10.out, HR10.out, HK10.out, HB10.out⟩
              case measure => simp [intOf]; omega
          · obtain rfl : i2 = bn := by omega
            have HTRW : Hid (∀ W, (∀ x, w3.heap.size ≤ x → x < wr.heap.size → W.heap[x]? = wr.heap[x]?) → TRN (TR n) hd W ⟨vF, q8, vB, q9⟩ A) := fun W hW => by
              have s1 := HOw.out.size
              have s2 := HKe.out.size
              have s3 := HKe2.out.size
              have hp3 := HPP.out
              have e1 : ∀ x, w3.heap.size ≤ x → x < we.heap.size → W.heap[x]? = we.heap[x]? := fun x h1 h2 => (hW x h1 (by omega)).trans (HKe2.out.old x h2 (by omega))
              have e2 : ∀ x, w3.heap.size ≤ x → x < wc.heap.size → W.heap[x]? = wc.heap[x]? := fun x h1 h2 => (e1 x h1 (by omega)).trans (HKe.out.old x h2 (by omega))
              exact ⟨HA.out.c, HA.out.wd, fs_end HIt.out (by rw [HLi.out, HFN.out]) HA.out.fs.len HA.out.fs.rng (fun x h1 h2 => e1 x (by omega) h2), HOw.out.ds W e2, bs_end HIt2.out (by rw [HLi2.out, HBN.out]) HA.out.bs.len (fun x h1 h2 => hW x (by omega) h2), HOw.out.ns W e2⟩
            obtain ⟨fa', fn', fc', da', dn', dc', ba', bn', bc', na', nn', nc', hV, _⟩ := (HTRW.out wr (fun x _ _ => rfl)).open
            obtain ⟨rfl, rfl, rfl, rfl⟩ : vF = .slice fa' fn' fc' ∧ q8 = .slice da' dn' dc' ∧ vB = .slice ba' bn' bc' ∧ q9 = .slice na' nn' nc' := by injection hV with h1 h2 h3 h4; exact ⟨h1, h2, h3, h4⟩
            obtain ⟨fzr, r0, r1, r2, r3, r4, r5, r6⟩ := HTr2.out.cells
            have ht2 : TyRow wr w1.heap.size 0 0 false (.slice none 0 0) (.slice none 0 0) (.slice none 0 0) (.slice none 0 0) := (HBr2.out.block w1.heap.size HP12.out).trans HR2.out
            obtain ⟨fzq, g0, g1, g2, g3, g4, g5, g6⟩ := ht2.cells
            obtain ⟨wz, hwz, hrz, hoz, hsz⟩ := ty_set7 ht2 c wd b (.slice fa' fn' fc') (.slice da' dn' dc') (.slice ba' bn' bc') (.slice na' nn' nc')
            obtain ⟨fzz, l0, l1, l2, l3, l4, l5, l6⟩ := hrz.cells
            have HFIN : Hid (OwnP (n := n + 1) A w (.returned (.agg #[.int .i64 c, .int .i64 wd, .bool b, .slice fa' fn' fc', .slice da' dn' dc', .slice ba' bn' bc', .slice na' nn' nc'])) wz) := by
              refine ⟨fa', fn', fc', da', dn', dc', ba', bn', bc', na', nn', nc', ?_, ?_, fun W hW => ?_⟩
              · rw [← HCC.out.1, ← HCC.out.2.1, ← HCC.out.2.2]; rfl
              · exact own_belz HB2.out HBr2.out HP1.out hoz hsz hwz
              · exact HTRW.out W (fun x h1 h2 => by
                  have := HP12.out
                  have := HPP.out
                  rw [hW x (by have := HB2.out.size; omega) (by omega), hoz x (by omega)])
            clear HTRW HA HI HX1 HOw hoz hsz hrz ht2 hV
            go_wp2_with fail
            try simp only [Exit.inBlock, Exit.then]
            refine bodyPost_ret (v := .agg #[.int .i64 c, .int .i64 wd, .bool b, .slice fa' fn' fc', .slice da' dn' dc', .slice ba' bn' bc', .slice na' nn' nc']) ?_ rfl ?_
            · rw [results_cellO (fn := Try.f11) rfl]
              go_simp
            · exact HFIN.out
theorem own_any : ∀ (n : Nat) (A : Ty n) (V : TV) (w : World), TR n w V A → Calls Try.prog 11 #[tyV (hd A) V] w (OwnP A w)
  | 0, A, _, _, _ => nomatch A
  | n + 1, A, V, w, hA => own_step A V w hA (fun t V w' hb h => own_any n t V w' (h.below hb))
end Go.Proofs.Ytojcokdfplldbaa
