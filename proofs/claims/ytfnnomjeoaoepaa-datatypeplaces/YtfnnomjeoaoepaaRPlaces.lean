/-
  The document's within, at enums and at whatever type; the document's Places. Conditions: the type lies in memory.
-/
import Derived.Test.YtfnnomjeoaoepaaRWithA
import Derived.Test.YtfnnomjeoaoepaaDPlaces
namespace Go.Proofs.Ytfnnomjeoaoepaa
open Go.RowKit Go.Shelf
set_option linter.unusedVariables false
set_option maxRecDepth 100000

set_option maxHeartbeats 16000000 in
theorem with_enum {w0 : World} {n : Nat} (ih : WithR w0 n) (T : Ty (n + 1)) (t : Ty n) (V : TV) (p : Int) (d : Nat) (s : Int) (w : World) (h : TR (n + 1) w0 V T) (hb0 : Below w0.heap.size w0 w) (hd1 : 1 ≤ d) (hc : TyN.c T = 7) (ht : TyN.bs T = [t]) (hs0 : s ≠ 0) (hs1 : sz n t 1 = s) (hsd : sz n t (d + 1) = s) (hST : sz (n + 1) T 1 = s) (hp : 0 ≤ p ∧ p + s ≤ 256) :
    Calls Try.prog 28 #[tyV (hd T) V, .int .i64 p] w (WtP w (plF (n + 1) T p)) := by
  have H : Hid (TRN (TR n) hd w0 V T) := h
  obtain ⟨fa, fn, fc, da, dn, dc, ba, bn, bc, na, nn, nc, rfl, -, -, ⟨b1, b2, b3⟩, -⟩ := H.out.open
  obtain rfl : 1 = bn := by rw [← b1, ht]; rfl
  have HPF : Hid (plF (n + 1) T p = plF n t p) := by
    rw [Hid, plF, if_neg (by omega), if_neg (by omega), if_pos (.inr hc), ht]
    simp only []
    rw [hST, hs1, Int.ediv_self hs0]
    simp
  obtain ⟨g, o, U, q, rfl, hq, hu, k0, k1, k2, k3, k4, k5, k6⟩ := H.out.bs.at (show 0 < 1 by omega)
  rw [ht] at hq
  obtain rfl : t = q := by simpa using hq
  simp only [Nat.zero_mul, Nat.add_zero] at k0 k1 k2 k3 k4 k5 k6
  obtain ⟨ga, gn, gk, xa, xn, xc, ya, yn, yc, za, zn, zc, rfl⟩ := hu.sl
  simp only [] at k3 k4 k5 k6
  have HCL : Hid (∀ w', Below w0.heap.size w0 w' → Calls Try.prog 28 #[.agg #[.int .i64 (hd t).1, .int .i64 (hd t).2.1, .bool (hd t).2.2, .slice ga gn gk, .slice xa xn xc, .slice ya yn yc, .slice za zn zc], .int .i64 p] w' (WtP w' (plF n t p))) := fun w' hb =>
    ih t ⟨.slice ga gn gk, .slice xa xn xc, .slice ya yn yc, .slice za zn zc⟩ p (d + 1) w' hu hb (by omega) (by rw [hsd]; exact hs0) hp.1 (by rw [hsd]; exact hp.2)
  show Calls _ _ #[.agg #[.int .i64 (TyN.c T), .int .i64 (TyN.w T), .bool (TyN.b T), _, _, _, _], _] _ _
  rw [hc, HPF.out]
  obtain ⟨wd, hwd⟩ : ∃ c, TyN.w T = c := ⟨_, rfl⟩
  obtain ⟨b, hb⟩ : ∃ c, TyN.b T = c := ⟨_, rfl⟩
  rw [hwd, hb]
  obtain ⟨w1, hw1, hb1, hs1x, hx1⟩ := bx_made w 7 wd b (.slice fa fn fc) (.slice da dn dc) (.slice (some ⟨g, o, none⟩) 1 bc) (.slice na nn nc)
  have HB1 : Hid (Below w.heap.size w w1) := hb1
  have HBZ : Hid (Below w0.heap.size w0 w1) := bel_next hb0 hb1
  have K : ∀ {p : Addr} {x : Value}, w0.cell? p = some x → w1.cell? p = some x := fun h => (HBZ.out.cell (World.block_lt_of_cell? w0 _ h)).trans h
  replace k0 := K k0
  replace k1 := K k1
  replace k2 := K k2
  replace k3 := K k3
  replace k4 := K k4
  replace k5 := K k5
  replace k6 := K k6
  obtain ⟨c0, c1, c2, c3, c4, c5, c6⟩ := hx1
  clear h hc hwd hb ih hb0 hb1 hs1x hu hq ht hs1 hsd hST K HPF b1 b2 b3 hp
  generalize plF n t p = PQ at *
  generalize (hd t).1 = z2' at *
  generalize (hd t).2.1 = z3 at *
  generalize (hd t).2.2 = z4 at *
  go_enter Try.func28, Try.ntmps28
  go_wp2_with (go_at_call 28; refine Calls.mono (HCL.out _ HBZ.out) ?_; rintro e' w6 ⟨v6, rfl, ho6, hb6⟩; have HO6 : Hid (OwnRp w6 w.heap.size v6 PQ) := ho6.mono HB1.out.size; have HB6 : Hid (Below w.heap.size w w6) := bel_next HB1.out hb6; clear ho6 hb6)
  go_ret
  exact ⟨_, rfl, HO6.out, HB6.out⟩
/-- The document's numbers of whatever type. -/
theorem with_any (w0 : World) : ∀ n, WithR w0 n
  | 0 => fun t U p d w' h => h.elim
  | n + 1 => fun T V p d w h hb hd1 hsz hp1 hp2 => by
    have ih := with_any w0 n
    have hS1 := sz_depth (n + 1) T d 1 hd1 hsz
    rcases sz_open hsz with ⟨h5, hw, hnm, hs, e, he⟩ | ⟨h67, t, ht, hst, k, hk, hs⟩ | ⟨hc, hw1, hw2, hs⟩ | ⟨hc, hw1, hw2, hs⟩
    · exact with_cmp ih T V p d w h hb hd1 h5 ⟨hp1, by omega⟩ hw e he
    · have e1 := sz_depth n t (d + 1) 1 (by omega) hst
      have e2 := sz_depth n t (d + 1) 2 (by omega) hst
      rcases h67 with h6 | h7
      · have hz := sz_c6 T h6 (show 1 ≤ 4 by omega)
        have hcnd : TyN.w T = 0 ∧ TyN.b T = false ∧ (TyN.fs T).length = 0 ∧ (TyN.ns T).length = 0 := by
          refine Classical.not_not.1 (fun hn => ?_)
          rw [if_neg hn, hS1] at hz
          exact hsz hz
        rw [if_pos hcnd, ht, arrSz] at hz
        have hln : 1 ≤ (TyN.ds T).length ∧ (TyN.ds T).length ≤ 4 := by
          refine Classical.not_not.1 (fun hn => ?_)
          rw [if_neg hn, hS1] at hz
          exact hsz hz
        rw [if_pos hln] at hz
        exact with_arr ih T t V p d k (sz (n + 1) T d) (sz n t (d + 1)) w h hb hd1 h6 ht hst e1 rfl (by rw [← e2, ← hS1]; exact hz.symm) hsz hS1 hs ⟨hp1, hp2⟩
      · have hz := sz_c7 T h7 (show 1 ≤ 4 by omega)
        have hcnd : TyN.w T = 0 ∧ TyN.b T = false ∧ (TyN.fs T).length = 0 ∧ (TyN.ds T).length = 0 := by
          refine Classical.not_not.1 (fun hn => ?_)
          rw [if_neg hn, hS1] at hz
          exact hsz hz
        rw [if_pos hcnd, ht, enSz_one] at hz
        have hz2 : sz (n + 1) T 1 = sz n t 2 := by
          rw [hz]
          refine if_pos (Classical.not_not.1 (fun hn => ?_))
          rw [if_neg hn, hS1] at hz
          exact hsz hz
        have hz3 : sz (n + 1) T 1 = sz n t (d + 1) := hz2.trans e2
        exact with_enum ih T t V p d (sz n t (d + 1)) w h hb hd1 h7 ht hst e1 rfl hz3 ⟨hp1, by rw [← hz3, hS1]; exact hp2⟩
    · obtain ⟨fa, fn, fc, da, dn, dc, ba, bn, bc, na, nn, nc, rfl⟩ := TR.sl (n := n + 1) h
      rw [plF, if_neg (by omega), if_neg (by omega), if_neg (by omega)]
      exact with_num (TyN.c T) (TyN.w T) (TyN.b T) _ _ _ _ p w hc
    · obtain ⟨fa, fn, fc, da, dn, dc, ba, bn, bc, na, nn, nc, rfl⟩ := TR.sl (n := n + 1) h
      rw [plF, if_pos hc]
      have := with_cpx (TyN.w T) (TyN.b T) (.slice fa fn fc) (.slice da dn dc) (.slice ba bn bc) (.slice na nn nc) p w hw1 hw2 ⟨hp1, by omega⟩
      rw [← hc] at this
      exact this
set_option maxHeartbeats 8000000 in
theorem refPlaces_any (n : Nat) (T : Ty n) (V : TV) (w : World) (h : TR n w V T) : Calls Try.prog 15 #[tyV (hd T) V] w fun e w' => (∃ v, e = .returned (.tuple #[v, .int .i64 (szE T)]) ∧ OwnRp w' w.heap.size v (plT T)) ∧ Below w.heap.size w w' := by
  have HCL : Hid (∀ w', Below w.heap.size w w' → Calls Try.prog 11 #[.agg #[.int .i64 (hd T).1, .int .i64 (hd T).2.1, .bool (hd T).2.2, V.f, V.d, V.b, V.n]] w' fun e w2 => e = .returned (.tuple #[.int .i64 (sz n T 1), .int .i64 (szE T)]) ∧ Below w'.heap.size w' w2) := fun w' hb => refSize_any n T V w' (h.below hb)
  have HWI : Hid (∀ w', Below w.heap.size w w' → sz n T 1 ≠ 0 → Calls Try.prog 28 #[.agg #[.int .i64 (hd T).1, .int .i64 (hd T).2.1, .bool (hd T).2.2, V.f, V.d, V.b, V.n], .int .i64 0] w' (WtP w' (plF n T 0))) := fun w' hb hz => with_any w n T V 0 1 w' h hb (Nat.le_refl _) hz (by omega) (by have := sz_rng n T 1; omega)
  have HE : Hid (szE T = (if sz n T 1 = 0 then 15 else 0) ∧ plT T = if sz n T 1 = 0 then [] else plF n T 0) := ⟨rfl, rfl⟩
  unfold tyV
  obtain ⟨S, hS⟩ : ∃ S, sz n T 1 = S := ⟨_, rfl⟩
  rw [hS] at HE HCL HWI
  clear h hS
  generalize szE T = er at *
  generalize plF n T 0 = PF at *
  generalize plT T = PT at *
  generalize (hd T).1 = x1 at *
  generalize (hd T).2.1 = x2 at *
  generalize (hd T).2.2 = x3 at *
  obtain ⟨w1, hw1, hb1, hs1, hx1⟩ := bx_made w x1 x2 x3 V.f V.d V.b V.n
  have HB1 : Hid (Below w.heap.size w w1) := hb1
  have HX1 : Hid (∀ w', Below w1.heap.size w1 w' → Bx w' w.heap.size x1 x2 x3 V.f V.d V.b V.n) := fun w' hb => hx1.below hb
  obtain ⟨c0, c1, c2, c3, c4, c5, c6⟩ := hx1
  clear hb1 hs1
  obtain ⟨he1, he2⟩ := HE.out
  by_cases h0 : S = 0
  · rw [if_pos h0] at he1 he2
    subst he1 he2
    go_enter Try.func15, Try.ntmps15
    go_wp2_with (go_at_call 11; refine Calls.mono (HCL.out _ HB1.out) ?_; rintro e w5 ⟨rfl, hb5⟩; have HB5 : Hid (Below w.heap.size w w5) := bel_next HB1.out hb5; clear hb5)
    go_ret2
    exact ⟨⟨_, rfl, ⟨rfl, .inl ⟨rfl, rfl⟩⟩⟩, HB5.out⟩
  · rw [if_neg h0] at he1 he2
    subst he1 he2
    go_enter Try.func15, Try.ntmps15
    go_wp2_with (first | (go_at_call 11; refine Calls.mono (HCL.out _ HB1.out) ?_; rintro e w5 ⟨rfl, hb5⟩; have HB5 : Hid (Below w.heap.size w w5) := bel_next HB1.out hb5; obtain ⟨y0, y1, y2, y3, y4, y5, y6⟩ := HX1.out w5 hb5; clear hb5) | (go_at_call 28; refine Calls.mono (HWI.out _ HB5.out h0) ?_; rintro e w6 ⟨v6, rfl, ho6, hb6⟩; have HO6 : Hid (OwnRp w6 w.heap.size v6 PT) := ho6.mono HB5.out.size; have HB6 : Hid (Below w.heap.size w w6) := bel_next HB5.out hb6; clear ho6 hb6))
    go_ret2
    exact ⟨⟨_, rfl, HO6.out⟩, HB6.out⟩
end Go.Proofs.Ytfnnomjeoaoepaa
