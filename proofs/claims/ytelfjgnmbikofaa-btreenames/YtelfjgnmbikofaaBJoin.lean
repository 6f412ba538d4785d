/-
  join: two children of a node become one. Conditions: lengths are such as memory bears.
-/
import Derived.Test.YtelfjgnmbikofaaBNd
import Derived.Test.YtelfjgnmbikofaaGAppR
import Derived.Deep.DeepCutAuto
import Derived.Deep.QuietTactic
import Derived.BigQuiet
namespace Go.Proofs.Ytelfjgnmbikofaa
open Go.RowKit
set_option linter.unusedVariables false
set_option maxRecDepth 100000

set_option maxHeartbeats 4000000 in
theorem join_any {w : World} {B n c d a : Nat} {vI vC wI wC uI uC : Value} {L M Q : List It} {cs bs ds : List Nat} {R : List Pc} {s : It}
    (hS : Sep w B (ndp n vI vC L cs ++ (ndp c wI wC M bs ++ (ndp d uI uC Q ds ++ R)))) (hac : cs[a]? = some c) (had : cs[a + 1]? = some d) (hs : L[a]? = some s) (hLn : L.length ≤ 1000) (hcn : cs.length ≤ 1000) (hMn : M.length ≤ 1000) (hQn : Q.length ≤ 1000) (hbn : bs.length ≤ 1001) (hdn : ds.length ≤ 1001) (hB : B ≤ w.heap.size) :
    Calls Try.prog 67 #[.pointer (some ⟨n, 0, none⟩), .int .i64 (a : Int)] w fun e w' => e = .returned (.tuple #[]) ∧ (∃ vI' vC' wI' wC', Sep w' B (ndp n vI' vC' (L.take a ++ L.drop (a + 1)) (cs.take (a + 1) ++ cs.drop (a + 2)) ++ (ndp c wI' wC' (M ++ s :: Q) (bs ++ ds) ++ R))) ∧ Below B w w' := by
  have HS : Hid (Sep w B (ndp n vI vC L cs ++ (ndp c wI wC M bs ++ (ndp d uI uC Q ds ++ R)))) := hS
  have hN := hS.nd_ []
  obtain ⟨n0, n1, _, _⟩ := hN.c
  have hal := (List.getElem?_eq_some_iff.1 had).1
  have hsl := (List.getElem?_eq_some_iff.1 hs).1
  obtain ⟨gC, capC, rfl, hC1, hC2, _, _, _, hCc⟩ := row_some hN.rC (by omega)
  have ca := hCc _ _ (gcP_at hac)
  have cb := hCc _ _ (gcP_at had)
  obtain ⟨q, HQ⟩ : ∃ q, Hid (cs.length = q) := ⟨_, rfl⟩
  rw [HQ.out] at hal hC1 hcn n1 HS
  have HAC : Hid (cs[a]? = some c) := hac
  have HAD : Hid (cs[a + 1]? = some d) := had
  have HSs : Hid (L[a]? = some s) := hs
  have HBQ : Hid (∀ nq, Below w.heap.size w (w.drewN nq)) := fun nq => ⟨rfl, rfl, rfl, Nat.le_refl _, fun _ _ => rfl⟩
  clear hS hN hCc hac had hs
  go_enter Try.func67, Try.ntmps67
  go_upto_region 0 with fail
  go_cut [4, 5] (fun t u wc => t = .pointer (some ⟨c, 0, none⟩) ∧ u = .pointer (some ⟨d, 0, none⟩) ∧ Hid (Sep wc B (ndp n vI (.slice (some ⟨gC, 0, none⟩) q capC) L cs ++ (ndp c wI wC M bs ++ (ndp d uI uC Q ds ++ R)))) ∧ Hid (Below B w wc))
  case first =>
    go_quiet (fail)
    go_wp2_with fail
    go_meet
    exact ⟨rfl, rfl, HS.out.below (HBQ.out _), (HBQ.out _).mono hB⟩
  case rest =>
  obtain ⟨rfl, rfl, HS1, HB1⟩ := hcut
  generalize wc = w1 at *
  clear n0 n1 ca cb HS HBQ
  obtain ⟨i1, hi1, hy0, hy1, hy2⟩ := info_partsG Try.infoI
  obtain ⟨j1, hj1, hv0, hv1, hv2⟩ := info_partsG Try.infoP
  have hN := HS1.out.nd_ []
  have hC := HS1.out.nd_ (ndp n vI (.slice (some ⟨gC, 0, none⟩) q capC) L cs)
  have hD := HS1.out.nd_ (ndp n vI (.slice (some ⟨gC, 0, none⟩) q capC) L cs ++ ndp c wI wC M bs)
  obtain ⟨n0, n1, nf0, nf1⟩ := hN.c
  obtain ⟨c0, c1, cf0, cf1⟩ := hC.c
  obtain ⟨d0, d1, df0, df1⟩ := hD.c
  obtain ⟨gN, capN, rfl, hN1, hN2, _, hNl, hNf, hNc⟩ := row_some hN.rI (by omega)
  have s0 := hNc _ _ (gc_at encI_len L _ _ HSs.out 0 _ rfl)
  have s1 := hNc _ _ (gc_at encI_len L _ _ HSs.out 1 _ rfl)
  rw [Nat.add_zero] at s0
  have HRW : Hid (w1.ownsRow B 69 2 wI M.length (gc encI M)) := hC.rI
  obtain ⟨l, HLl⟩ : ∃ l, Hid (L.length = l) := ⟨_, rfl⟩
  obtain ⟨m, HMm⟩ : ∃ m, Hid (M.length = m) := ⟨_, rfl⟩
  obtain ⟨z, HZz⟩ : ∃ z, Hid (Q.length = z) := ⟨_, rfl⟩
  rw [HLl.out] at n0 hN1 hsl hLn HS1
  rw [HZz.out] at hQn
  rw [HMm.out] at hMn HRW
  have HBz : Hid (B ≤ w1.heap.size) := Nat.le_trans hB HB1.out.size
  have HWA : Hid (Below w1.heap.size w1 (w1.alloc (.cells (encI s).toArray 69)).drew) := ((Below.refl _ _).alloc (Nat.le_refl _) _).drew
  have HGX : Hid ((w1.alloc (.cells (encI s).toArray 69)).drew.heap[w1.heap.size]? = some (.cells (encI s).toArray 69 (0, 0))) := heap_alloc_new w1 _
  have HSA : Hid (Sep (w1.alloc (.cells (encI s).toArray 69)).drew B (ndp n (.slice (some ⟨gN, 0, none⟩) l capN) (.slice (some ⟨gC, 0, none⟩) q capC) L cs ++ (ndp c wI wC M bs ++ (ndp d uI uC Q ds ++ R)))) := HS1.out.below HWA.out
  have HRA : Hid ((w1.alloc (.cells (encI s).toArray 69)).drew.ownsRow B 69 2 wI m (gc encI M)) := ownsRow_below HRW.out HWA.out
  have HBA : Hid (Below B w (w1.alloc (.cells (encI s).toArray 69)).drew) := HB1.out.trans (HWA.out.mono HBz.out)
  have HON : Hid (∀ u ∈ encI s, u.oneCell' = true) := fun u hu => one_gcI [s] u (by rw [gc_one]; exact hu)
  have HONQ : Hid (∀ u ∈ gc encI Q, u.oneCell' = true) := one_gcI Q
  have HLQ : Hid ((M ++ s :: Q).length = m + 1 + z) := by unfold Hid; rw [List.length_append, List.length_cons, HMm.out, HZz.out]; omega
  have HGQ : Hid (gc encI M ++ encI s ++ gc encI Q = gc encI (M ++ s :: Q)) := by unfold Hid; rw [gc_append, show gc encI (s :: Q) = encI s ++ gc encI Q by simp [gc], List.append_assoc]
  have c0' : (w1.alloc (.cells #[.string s.1, .int .u64 s.2] 69)).cell? ⟨c, 0, none⟩ = some wI := cellO (HSA.out.nd_ (ndp n (.slice (some ⟨gN, 0, none⟩) l capN) (.slice (some ⟨gC, 0, none⟩) q capC) L cs)).o 0 rfl
  have d0' : (w1.alloc (.cells #[.string s.1, .int .u64 s.2] 69)).cell? ⟨d, 0, none⟩ = some uI := cellO (HSA.out.nd_ (ndp n (.slice (some ⟨gN, 0, none⟩) l capN) (.slice (some ⟨gC, 0, none⟩) q capC) L cs ++ ndp c wI wC M bs)).o 0 rfl
  have hai : (a : Int) < (l : Int) := by omega
  clear hN hC hD hNc
  go_upto_region 1 with fail
  go_cut [21] (fun t wc => t = .pointer (some ⟨c, 0, none⟩) ∧ Hid (∃ v9, Sep wc B (ndp n (.slice (some ⟨gN, 0, none⟩) l capN) (.slice (some ⟨gC, 0, none⟩) q capC) L cs ++ (ndp c v9 wC (M ++ s :: Q) bs ++ (ndp d uI uC Q ds ++ R)))) ∧ Hid (Below B w wc))
  case first =>
    go_region_law (first
      | (refine step_append_G 34 rfl rfl (.tmp 25) (.tmp 33) 70 69 rfl i1 Try.underlying70 hi1 _ hy0 2 24 hy1 hy2 rfl (by omega) B wI m (gc encI M) ⟨w1.heap.size, 0, none⟩ 1 1 (encI s) rfl rfl HRA.out rfl (news_one HGX.out) HON.out (by omega) (by omega) (by omega) (Nat.le_trans hB HBA.out.size) ?_; intro gM capM w8 ho8 hg8 ha8; have HO8 : Hid (w8.ownsRow B 69 2 (.slice (some ⟨gM, 0, none⟩) (m + 1) capM) (m + 1) (gc encI M ++ encI s)) := ho8; have HG8 : Hid ((w1.alloc (.cells (encI s).toArray 69)).drew.grownBy w8 wI.ownBlock) := hg8; have HA8 : Hid (wI.ownBlock = some gM ∨ gM = (w1.alloc (.cells (encI s).toArray 69)).drew.heap.size) := ha8; have HS8 : Hid (Sep w8 B ((ndp n (.slice (some ⟨gN, 0, none⟩) l capN) (.slice (some ⟨gC, 0, none⟩) q capC) L cs ++ [Pc.obj c #[wI, wC] 73]) ++ .row 69 2 (.slice (some ⟨gM, 0, none⟩) (m + 1) capM) (m + 1) (gc encI M ++ encI s) :: (.row 65 1 wC bs.length (gc encP bs) :: (ndp d uI uC Q ds ++ R)))) := Sep.turn (ndp n (.slice (some ⟨gN, 0, none⟩) l capN) (.slice (some ⟨gC, 0, none⟩) q capC) L cs ++ [Pc.obj c #[wI, wC] 73]) (v := wI) (n := M.length) (xs := gc encI M) (Y := .row 65 1 wC bs.length (gc encP bs) :: (ndp d uI uC Q ds ++ R)) HSA.out ho8 hg8 (ha8.elim (fun e => Or.inl e.symm) (fun e => Or.inr (by intro x hx; simp [Value.ownBlock] at hx; rw [← hx, e]; exact Nat.le_refl _))); have HB8 : Hid (Below B w w8) := below_gr HBA.out (Nat.le_trans hB HBA.out.size) HRA.out hg8; have HU8 : Hid (w8.ownsRow B 69 2 uI z (gc encI Q)) := (by have h := HS8.out.rw_ (T := 69) (k := 2) (v := uI) (n := Q.length) (xs := gc encI Q) (by simp [ndp]); rw [HZz.out] at h; exact h); have e0 : w8.cell? ⟨d, 0, none⟩ = some uI := cellO (HS8.out.obj (g := d) (a := #[uI, uC]) (T := 73) (by simp [ndp])) 0 rfl; clear ho8 hg8 ha8)
      | (refine step_append_row 39 rfl rfl (.tmp 34) (.tmp 38) 70 69 rfl i1 Try.underlying70 hi1 _ hy0 2 24 hy1 hy2 rfl (by omega) B (.slice (some ⟨gM, 0, none⟩) (m + 1) capM) uI (m + 1) z (gc encI M ++ encI s) (gc encI Q) rfl rfl HO8.out HU8.out HONQ.out (by omega) (by omega) (Nat.le_trans hB HB8.out.size) ?_; intro ao9 cap9 w9 ho9 hg9 ha9; have h9 : Sep w9 B ((ndp n (.slice (some ⟨gN, 0, none⟩) l capN) (.slice (some ⟨gC, 0, none⟩) q capC) L cs ++ [Pc.obj c #[wI, wC] 73]) ++ .row 69 2 (.slice ao9 (m + 1 + z) cap9) (m + 1 + z) (gc encI M ++ encI s ++ gc encI Q) :: (.row 65 1 wC bs.length (gc encP bs) :: (ndp d uI uC Q ds ++ R))) := HS8.out.turn _ ho9 hg9 (ha9.imp id (fun e => by intro x hx; rw [e] at hx; injection hx with hx; omega)); have z0 : w9.cell? ⟨c, 0, none⟩ = some wI := cellO (h9.obj (g := c) (a := #[wI, wC]) (T := 73) (by simp [ndp])) 0 rfl; have z1 : w9.frozen? ⟨c, 0, none⟩ = false := frozenO (h9.obj (g := c) (a := #[wI, wC]) (T := 73) (by simp [ndp])) 0; have HS9 : Hid (Sep (w9.setCell ⟨c, 0, none⟩ (.slice ao9 (m + 1 + z) cap9)) B (ndp n (.slice (some ⟨gN, 0, none⟩) l capN) (.slice (some ⟨gC, 0, none⟩) q capC) L cs ++ (ndp c (.slice ao9 (m + 1 + z) cap9) wC (M ++ s :: Q) bs ++ (ndp d uI uC Q ds ++ R)))) := (by refine Sep.store (ndp n (.slice (some ⟨gN, 0, none⟩) l capN) (.slice (some ⟨gC, 0, none⟩) q capC) L cs) (a := #[wI, wC]) (T := 73) (Y := .row 69 2 (.slice ao9 (m + 1 + z) cap9) (M ++ s :: Q).length (gc encI (M ++ s :: Q)) :: .row 65 1 wC bs.length (gc encP bs) :: (ndp d uI uC Q ds ++ R)) ?_ 0 (.slice ao9 (m + 1 + z) cap9); rw [HLQ.out, ← HGQ.out]; exact h9); have HB9 : Hid (Below B w (w9.setCell ⟨c, 0, none⟩ (.slice ao9 (m + 1 + z) cap9))) := (below_gr HB8.out (Nat.le_trans hB HB8.out.size) HO8.out hg9).setCell (HSA.out.nd_ (ndp n (.slice (some ⟨gN, 0, none⟩) l capN) (.slice (some ⟨gC, 0, none⟩) q capC) L cs)).bn _; clear ho9 hg9 ha9 h9))
    all_goals (go_wp2_with fail)
    all_goals (go_meet; exact ⟨rfl, ⟨_, HS9.out⟩, HB9.out⟩)
  case rest =>
  obtain ⟨rfl, ⟨v9, hS2⟩, HB2⟩ := hcut
  generalize wc = w2 at *
  clear n0 n1 nf0 nf1 c0 c1 cf0 cf1 d0 d1 df0 df1 hNl hNf s0 s1 HRW HWA HGX HSA HRA HBA c0' d0' HBz HGQ HLQ
  have HS2 : Hid (Sep w2 B (ndp n (.slice (some ⟨gN, 0, none⟩) l capN) (.slice (some ⟨gC, 0, none⟩) q capC) L cs ++ (ndp c v9 wC (M ++ s :: Q) bs ++ (ndp d uI uC Q ds ++ R)))) := hS2
  obtain ⟨c0, c1, cf0, cf1⟩ := (hS2.nd_ (ndp n (.slice (some ⟨gN, 0, none⟩) l capN) (.slice (some ⟨gC, 0, none⟩) q capC) L cs)).c
  obtain ⟨d0, d1, df0, df1⟩ := (hS2.nd_ (ndp n (.slice (some ⟨gN, 0, none⟩) l capN) (.slice (some ⟨gC, 0, none⟩) q capC) L cs ++ ndp c v9 wC (M ++ s :: Q) bs)).c
  have HS2d : Hid (Sep w2.drew B (ndp n (.slice (some ⟨gN, 0, none⟩) l capN) (.slice (some ⟨gC, 0, none⟩) q capC) L cs ++ (ndp c v9 wC (M ++ s :: Q) bs ++ (ndp d uI uC Q ds ++ R)))) := hS2.below (Below.refl _ _).drew
  have HRB : Hid (w2.drew.ownsRow B 65 1 wC bs.length (gc encP bs)) := (HS2d.out.nd_ (ndp n (.slice (some ⟨gN, 0, none⟩) l capN) (.slice (some ⟨gC, 0, none⟩) q capC) L cs)).rC
  have HRD : Hid (w2.drew.ownsRow B 65 1 uC ds.length (gc encP ds)) := (HS2d.out.nd_ (ndp n (.slice (some ⟨gN, 0, none⟩) l capN) (.slice (some ⟨gC, 0, none⟩) q capC) L cs ++ ndp c v9 wC (M ++ s :: Q) bs)).rC
  have HOND : Hid (∀ u ∈ gc encP ds, u.oneCell' = true) := one_gcP ds
  have HBz : Hid (B ≤ w2.drew.heap.size) := Nat.le_trans hB HB2.out.size
  have HLB : Hid ((bs ++ ds).length = bs.length + ds.length) := List.length_append
  have HBD2 : Hid (Below B w w2.drew) := HB2.out.drew
  clear hS2
  go_upto_region 2 with fail
  go_cut [42] (fun t wc => t = .pointer (some ⟨c, 0, none⟩) ∧ Hid (∃ v10, Sep wc B (ndp n (.slice (some ⟨gN, 0, none⟩) l capN) (.slice (some ⟨gC, 0, none⟩) q capC) L cs ++ (ndp c v9 v10 (M ++ s :: Q) (bs ++ ds) ++ (ndp d uI uC Q ds ++ R)))) ∧ Hid (Below B w wc))
  case first =>
    go_region_law (refine step_append_row 51 rfl rfl (.tmp 46) (.tmp 50) 71 65 rfl j1 Try.underlying71 hj1 _ hv0 1 8 hv1 hv2 rfl (by omega) B wC uC bs.length ds.length (gc encP bs) (gc encP ds) rfl rfl HRB.out HRD.out HOND.out (by omega) (by omega) HBz.out ?_; intro ao9 cap9 w9 ho9 hg9 ha9; have h9 := HS2d.out.ndC (wC' := (.slice ao9 (bs.length + ds.length) cap9)) (bs' := bs ++ ds) (ndp n (.slice (some ⟨gN, 0, none⟩) l capN) (.slice (some ⟨gC, 0, none⟩) q capC) L cs) (by rw [HLB.out, gc_append]; exact ho9) hg9 (ha9.imp id (fun e => by intro x hx; rw [e] at hx; injection hx with hx; omega)); have z0 := cellO h9.1 1 rfl; have z1 := frozenO h9.1 1; have HS9 : Hid (Sep (w9.setCell ⟨c, 1, none⟩ (.slice ao9 (bs.length + ds.length) cap9)) B (ndp n (.slice (some ⟨gN, 0, none⟩) l capN) (.slice (some ⟨gC, 0, none⟩) q capC) L cs ++ (ndp c v9 (.slice ao9 (bs.length + ds.length) cap9) (M ++ s :: Q) (bs ++ ds) ++ (ndp d uI uC Q ds ++ R)))) := h9.2; have HB9 : Hid (Below B w (w9.setCell ⟨c, 1, none⟩ (.slice ao9 (bs.length + ds.length) cap9))) := (below_gr HBD2.out HBz.out HRB.out hg9).setCell (HS2d.out.nd_ (ndp n (.slice (some ⟨gN, 0, none⟩) l capN) (.slice (some ⟨gC, 0, none⟩) q capC) L cs)).bn _; clear ho9 hg9 ha9 h9)
    all_goals (go_wp2_with fail)
    all_goals (go_meet; exact ⟨rfl, ⟨_, HS9.out⟩, HB9.out⟩)
  case rest =>
  obtain ⟨rfl, ⟨v10, hS3⟩, HB3⟩ := hcut
  generalize wc = w3 at *
  clear c0 c1 cf0 cf1 d0 d1 df0 df1 HS2 HS2d HRB HRD HBz HBD2 HB2
  have HS3 : Hid (Sep w3 B (ndp n (.slice (some ⟨gN, 0, none⟩) l capN) (.slice (some ⟨gC, 0, none⟩) q capC) L cs ++ (ndp c v9 v10 (M ++ s :: Q) (bs ++ ds) ++ (ndp d uI uC Q ds ++ R)))) := hS3
  obtain ⟨n0, n1, nf0, nf1⟩ := (hS3.nd_ []).c
  have HRN : Hid (w3.ownsRow B 69 2 (.slice (some ⟨gN, 0, none⟩) l capN) l (gc encI L)) := by have := (hS3.nd_ []).rI; rw [HLl.out] at this; exact this
  have HDEL : Hid _ := sdelI HLl.out HRN.out a (a + 1) (by omega) (by omega) (by omega)
  have hca : (((a + 1 : Nat) : Int)) = (a : Int) + 1 := by omega
  rw [hca] at HDEL
  have HLD : Hid ((L.take a ++ L.drop (a + 1)).length = l - 1) := by unfold Hid; rw [List.length_append, List.length_take, List.length_drop, HLl.out]; omega
  have HE1 : Hid (l - (a + 1 - a) = l - 1) := by unfold Hid; omega
  have HB3z : Hid (B ≤ w3.heap.size) := Nat.le_trans hB HB3.out.size
  rw [HE1.out] at HDEL
  clear hS3
  go_upto_region 4 with (go_at_call 48; refine Calls.mono HDEL.out ?_; rintro e w5 ⟨rfl, ho5, hg5⟩; have h5 := HS3.out.ndI (wI' := (.slice (some ⟨gN, 0, none⟩) (l - 1) capN)) (M' := L.take a ++ L.drop (a + 1)) [] (by rw [HLD.out]; exact ho5) hg5 (Or.inl rfl); have HS5 : Hid (Sep (w5.setCell ⟨n, 0, none⟩ (.slice (some ⟨gN, 0, none⟩) (l - 1) capN)) B (ndp n (.slice (some ⟨gN, 0, none⟩) (l - 1) capN) (.slice (some ⟨gC, 0, none⟩) q capC) (L.take a ++ L.drop (a + 1)) cs ++ (ndp c v9 v10 (M ++ s :: Q) (bs ++ ds) ++ (ndp d uI uC Q ds ++ R)))) := h5.2; have z0 := cellO h5.1 0 rfl; have z1 := frozenO h5.1 0; have HB5 : Hid (Below B w (w5.setCell ⟨n, 0, none⟩ (.slice (some ⟨gN, 0, none⟩) (l - 1) capN))) := (below_gr HB3.out HB3z.out HRN.out hg5).setCell (HS3.out.nd_ []).bn _; clear ho5 hg5 h5)
  generalize w5.setCell ⟨n, 0, none⟩ (.slice (some ⟨gN, 0, none⟩) (l - 1) capN) = w6 at HS5 HB5 ⊢
  clear n0 n1 nf0 nf1 HRN HDEL z0 z1 HS3 HB3 HB3z
  obtain ⟨n0, n1, nf0, nf1⟩ := (HS5.out.nd_ []).c
  have HRC : Hid (w6.ownsRow B 65 1 (.slice (some ⟨gC, 0, none⟩) q capC) q (gc encP cs)) := by have := (HS5.out.nd_ []).rC; rw [HQ.out] at this; exact this
  have HDEL : Hid _ := sdelP HQ.out HRC.out (a + 1) (a + 2) (by omega) (by omega) (by omega)
  have hcb : (((a + 2 : Nat) : Int)) = (a : Int) + 2 := by omega
  rw [hca, hcb] at HDEL
  have HLE : Hid ((cs.take (a + 1) ++ cs.drop (a + 2)).length = q - 1) := by unfold Hid; rw [List.length_append, List.length_take, List.length_drop, HQ.out]; omega
  have HE2 : Hid (q - (a + 2 - (a + 1)) = q - 1) := by unfold Hid; omega
  have HB6z : Hid (B ≤ w6.heap.size) := Nat.le_trans hB HB5.out.size
  rw [HE2.out] at HDEL
  go_wp2_with (go_at_call 60; refine Calls.mono HDEL.out ?_; rintro e w10 ⟨rfl, ho5, hg5⟩; have h5 := HS5.out.ndC (wC' := (.slice (some ⟨gC, 0, none⟩) (q - 1) capC)) (bs' := cs.take (a + 1) ++ cs.drop (a + 2)) [] (by rw [HLE.out]; exact ho5) hg5 (Or.inl rfl); have HS10 : Hid (Sep (w10.setCell ⟨n, 1, none⟩ (.slice (some ⟨gC, 0, none⟩) (q - 1) capC)) B (ndp n (.slice (some ⟨gN, 0, none⟩) (l - 1) capN) (.slice (some ⟨gC, 0, none⟩) (q - 1) capC) (L.take a ++ L.drop (a + 1)) (cs.take (a + 1) ++ cs.drop (a + 2)) ++ (ndp c v9 v10 (M ++ s :: Q) (bs ++ ds) ++ (ndp d uI uC Q ds ++ R)))) := h5.2; have z0 := cellO h5.1 1 rfl; have z1 := frozenO h5.1 1; have HB10 : Hid (Below B w (w10.setCell ⟨n, 1, none⟩ (.slice (some ⟨gC, 0, none⟩) (q - 1) capC))) := (below_gr HB5.out HB6z.out HRC.out hg5).setCell (HS5.out.nd_ []).bn _; clear ho5 hg5 h5)
  refine bodyPost_end (results_none rfl _ _ _) rfl ?_
  refine ⟨rfl, ⟨(.slice (some ⟨gN, 0, none⟩) (l - 1) capN), (.slice (some ⟨gC, 0, none⟩) (q - 1) capC), v9, v10, HS10.out.sub ?_⟩, HB10.out⟩
  exact List.Sublist.append (List.Sublist.refl _) (List.Sublist.append (List.Sublist.refl _) (List.sublist_append_right _ _))
end Go.Proofs.Ytelfjgnmbikofaa
