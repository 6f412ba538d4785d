/-
  turnRight: an item goes from a child to the one behind it. Conditions: lengths are such as memory bears.
-/
import Derived.Test.YtelfjgnmbikofaaBCutL
import Derived.Deep.DeepCutAuto
import Derived.Deep.QuietTactic
import Derived.BigQuiet
namespace Go.Proofs.Ytelfjgnmbikofaa
open Go.RowKit
set_option linter.unusedVariables false
set_option maxRecDepth 100000

set_option maxHeartbeats 4000000 in
theorem turnRight_leaf {w : World} {B n c d a m : Nat} {vI vC wI wC uI uC : Value} {L M Q : List It} {cs : List Nat} {R : List Pc} {s : It}
    (hS : Sep w B (ndp n vI vC L cs ++ (ndp c wI wC M [] ++ (ndp d uI uC Q [] ++ R)))) (hac : cs[a]? = some c) (had : cs[a + 1]? = some d) (hs : L[a]? = some s) (hLn : L.length ≤ 1000) (hcn : cs.length ≤ 1000) (hMn : M.length ≤ 1000) (hQn : Q.length ≤ 1000) (hM1 : M.length = m + 1) (hB : B ≤ w.heap.size) :
    Calls Try.prog 65 #[.pointer (some ⟨n, 0, none⟩), .int .i64 (a : Int)] w fun e w' => e = .returned (.tuple #[]) ∧ (∃ t vI' vC' wI' wC' uI' uC', M[m]? = some t ∧ Sep w' B (ndp n vI' vC' (L.set a t) cs ++ (ndp c wI' wC' (M.take m) [] ++ (ndp d uI' uC' (s :: Q) [] ++ R)))) ∧ Below B w w' := by
  have HS : Hid (Sep w B (ndp n vI vC L cs ++ (ndp c wI wC M [] ++ (ndp d uI uC Q [] ++ R)))) := hS
  have hN := hS.nd_ []
  obtain ⟨n0, n1, _, _⟩ := hN.c
  have hal := (List.getElem?_eq_some_iff.1 had).1
  have hsl := (List.getElem?_eq_some_iff.1 hs).1
  obtain ⟨gC, capC, rfl, hC1, hC2, _, _, _, hCc⟩ := row_some hN.rC (by omega)
  have ca := hCc _ _ (gcP_at hac)
  have cb := hCc _ _ (gcP_at had)
  obtain ⟨q, HQ⟩ : ∃ q, Hid (cs.length = q) := ⟨_, rfl⟩
  rw [HQ.out] at hal hC1 hcn n1 HS
  have HAC : Hid (cs[a]? = some c) := hac
  have HAD : Hid (cs[a + 1]? = some d) := had
  have HSs : Hid (L[a]? = some s) := hs
  have HBQ : Hid (∀ nq, Below w.heap.size w (w.drewN nq)) := fun nq => ⟨rfl, rfl, rfl, Nat.le_refl _, fun _ _ => rfl⟩
  clear hS hN hCc hac had hs
  go_enter Try.func65, Try.ntmps65
  go_upto_region 0 with fail
  go_cut [4, 5] (fun t u wc => t = .pointer (some ⟨c, 0, none⟩) ∧ u = .pointer (some ⟨d, 0, none⟩) ∧ Hid (Sep wc B (ndp n vI (.slice (some ⟨gC, 0, none⟩) q capC) L cs ++ (ndp c wI wC M [] ++ (ndp d uI uC Q [] ++ R)))) ∧ Hid (Below B w wc))
  case first =>
    go_quiet (fail)
    go_wp2_with fail
    go_meet
    exact ⟨rfl, rfl, HS.out.below (HBQ.out _), (HBQ.out _).mono hB⟩
  case rest =>
  obtain ⟨rfl, rfl, HS1, HB1⟩ := hcut
  generalize wc = w1 at *
  clear n0 n1 ca cb HS HBQ
  have hN := HS1.out.nd_ []
  have hC := HS1.out.nd_ (ndp n vI (.slice (some ⟨gC, 0, none⟩) q capC) L cs)
  have hD := HS1.out.nd_ (ndp n vI (.slice (some ⟨gC, 0, none⟩) q capC) L cs ++ ndp c wI wC M [])
  obtain ⟨n0, n1, nf0, nf1⟩ := hN.c
  obtain ⟨c0, c1, cf0, cf1⟩ := hC.c
  obtain ⟨gN, capN, rfl, hN1, hN2, _, hNl, hNf, hNc⟩ := row_some hN.rI (by omega)
  obtain ⟨gM, capM, rfl, hM2, hM3, _, hMl, _, hMc⟩ := row_some hC.rI (by omega)
  obtain ⟨t, ht⟩ : ∃ t, M[m]? = some t := ⟨M[m]'(by omega), List.getElem?_eq_getElem _⟩
  obtain ⟨l, HLl⟩ : ∃ l, Hid (L.length = l) := ⟨_, rfl⟩
  have HMm : Hid (M.length = m + 1) := hM1
  obtain ⟨z, HZz⟩ : ∃ z, Hid (Q.length = z) := ⟨_, rfl⟩
  rw [HLl.out] at n0 hN1 hsl hLn HS1
  rw [HZz.out] at hQn
  rw [HMm.out] at hMn HS1 c0 hM2
  clear hM1
  have HTM : Hid (M[m]? = some t) := ht
  have HRC : Hid (w1.ownsRow B 69 2 (.slice (some ⟨gM, 0, none⟩) (m + 1) capM) (m + 1) (gc encI M)) := by have := hC.rI; rw [HMm.out] at this; exact this
  have HCL : Hid _ := cutLastI HMm.out HRC.out ht (by omega)
  have HBz : Hid (B ≤ w1.heap.size) := Nat.le_trans hB HB1.out.size
  have HLT : Hid ((M.take m).length = m) := by unfold Hid; rw [List.length_take, HMm.out]; omega
  clear hN hC hD hNc hMc ht hNl hNf hMl
  go_upto_region 2 with (go_at_call 62; refine Calls.mono HCL.out ?_; rintro e w2 ⟨rfl, ho2, hg2⟩; have HS2 : Hid (Sep w2 B (ndp n (.slice (some ⟨gN, 0, none⟩) l capN) (.slice (some ⟨gC, 0, none⟩) q capC) L cs ++ ([Pc.obj c #[(.slice (some ⟨gM, 0, none⟩) (m + 1) capM), wC] 73, Pc.row 69 2 (.slice (some ⟨gM, 0, none⟩) m capM) m (gc encI (M.take m)), Pc.row 65 1 wC ([] : List Nat).length (gc encP [])] ++ (ndp d uI uC Q [] ++ R)))) := Sep.turn (ndp n (.slice (some ⟨gN, 0, none⟩) l capN) (.slice (some ⟨gC, 0, none⟩) q capC) L cs ++ [Pc.obj c #[(.slice (some ⟨gM, 0, none⟩) (m + 1) capM), wC] 73]) (v := (.slice (some ⟨gM, 0, none⟩) (m + 1) capM)) (n := M.length) (xs := gc encI M) (Y := .row 65 1 wC ([] : List Nat).length (gc encP []) :: (ndp d uI uC Q [] ++ R)) HS1.out ho2 hg2 (Or.inl rfl); have HB2 : Hid (Below B w w2) := below_gr HB1.out HBz.out HRC.out hg2; clear ho2 hg2)
  have HS3 : Hid (Sep (w2.alloc (.cells #[.string t.1, .int .u64 t.2] 69)) B (ndp n (.slice (some ⟨gN, 0, none⟩) l capN) (.slice (some ⟨gC, 0, none⟩) q capC) L cs ++ ([Pc.obj c #[(.slice (some ⟨gM, 0, none⟩) (m + 1) capM), wC] 73, Pc.row 69 2 (.slice (some ⟨gM, 0, none⟩) m capM) m (gc encI (M.take m)), Pc.row 65 1 wC ([] : List Nat).length (gc encP [])] ++ (ndp d uI uC Q [] ++ (Pc.obj w2.heap.size #[.string t.1, .int .u64 t.2] 69 :: R))))) := by
    have h := Sep.new (w' := w2.alloc (.cells #[.string t.1, .int .u64 t.2] 69)) (p := Pc.obj w2.heap.size #[.string t.1, .int .u64 t.2] 69) HS2.out ((Below.refl _ _).alloc (Nat.le_refl _) _) ⟨heap_alloc_new w2 _, Nat.le_trans hB HB2.out.size⟩ (by simp [Pc.blk])
    exact h.perm ((List.perm_middle (l₁ := ndp n (.slice (some ⟨gN, 0, none⟩) l capN) (.slice (some ⟨gC, 0, none⟩) q capC) L cs ++ [Pc.obj c #[(.slice (some ⟨gM, 0, none⟩) (m + 1) capM), wC] 73, Pc.row 69 2 (.slice (some ⟨gM, 0, none⟩) m capM) m (gc encI (M.take m)), Pc.row 65 1 wC ([] : List Nat).length (gc encP [])] ++ (ndp d uI uC Q [])) (l₂ := R)).symm)
  have HB3 : Hid (Below B w (w2.alloc (.cells #[.string t.1, .int .u64 t.2] 69))) := HB2.out.alloc (Nat.le_trans hB HB2.out.size) _
  generalize w2.alloc (.cells #[.string t.1, .int .u64 t.2] 69) = w3 at HS3 HB3 ⊢
  obtain ⟨k, HKk⟩ : ∃ k, Hid (k = w2.heap.size) := ⟨_, rfl⟩
  rw [← HKk.out] at HS3 ⊢
  clear n0 n1 nf0 nf1 c0 c1 cf0 cf1 HRC HCL HS2 HB2 HBz HS1 HB1
  obtain ⟨n0, n1, nf0, nf1⟩ := (HS3.out.nd_ []).c
  obtain ⟨d0, d1, df0, df1⟩ := (HS3.out.nd_ (ndp n (.slice (some ⟨gN, 0, none⟩) l capN) (.slice (some ⟨gC, 0, none⟩) q capC) L cs ++ [Pc.obj c #[(.slice (some ⟨gM, 0, none⟩) (m + 1) capM), wC] 73, Pc.row 69 2 (.slice (some ⟨gM, 0, none⟩) m capM) m (gc encI (M.take m)), Pc.row 65 1 wC ([] : List Nat).length (gc encP [])])).c
  have hNr := row_at (HS3.out.nd_ []).rI
  have s0 := hNr.2.2.2 _ _ (gc_at encI_len L _ _ HSs.out 0 _ rfl)
  have s1 := hNr.2.2.2 _ _ (gc_at encI_len L _ _ HSs.out 1 _ rfl)
  rw [Nat.add_zero] at s0
  have HBz : Hid (B ≤ w3.heap.size) := Nat.le_trans hB HB3.out.size
  have HWA : Hid (Below w3.heap.size w3 (w3.alloc (.cells (encI s).toArray 69)).drew) := ((Below.refl _ _).alloc (Nat.le_refl _) _).drew
  have HGX : Hid ((w3.alloc (.cells (encI s).toArray 69)).drew.heap[w3.heap.size]? = some (.cells (encI s).toArray 69 (0, 0))) := heap_alloc_new w3 _
  have HSA : Hid (Sep (w3.alloc (.cells (encI s).toArray 69)).drew B (ndp n (.slice (some ⟨gN, 0, none⟩) l capN) (.slice (some ⟨gC, 0, none⟩) q capC) L cs ++ ([Pc.obj c #[(.slice (some ⟨gM, 0, none⟩) (m + 1) capM), wC] 73, Pc.row 69 2 (.slice (some ⟨gM, 0, none⟩) m capM) m (gc encI (M.take m)), Pc.row 65 1 wC ([] : List Nat).length (gc encP [])] ++ (ndp d uI uC Q [] ++ (Pc.obj k #[.string t.1, .int .u64 t.2] 69 :: R))))) := HS3.out.below HWA.out
  have HRA : Hid ((w3.alloc (.cells (encI s).toArray 69)).drew.ownsRow B 69 2 uI z (gc encI Q)) := by have := (HSA.out.nd_ (ndp n (.slice (some ⟨gN, 0, none⟩) l capN) (.slice (some ⟨gC, 0, none⟩) q capC) L cs ++ [Pc.obj c #[(.slice (some ⟨gM, 0, none⟩) (m + 1) capM), wC] 73, Pc.row 69 2 (.slice (some ⟨gM, 0, none⟩) m capM) m (gc encI (M.take m)), Pc.row 65 1 wC ([] : List Nat).length (gc encP [])])).rI; rw [HZz.out] at this; exact this
  have HNE : Hid (uI.ownBlock ≠ some w3.heap.size) := fun e => by have := (World.ownsRow.lt (HS3.out.nd_ (ndp n (.slice (some ⟨gN, 0, none⟩) l capN) (.slice (some ⟨gC, 0, none⟩) q capC) L cs ++ [Pc.obj c #[(.slice (some ⟨gM, 0, none⟩) (m + 1) capM), wC] 73, Pc.row 69 2 (.slice (some ⟨gM, 0, none⟩) m capM) m (gc encI (M.take m)), Pc.row 65 1 wC ([] : List Nat).length (gc encP [])])).rI _ e).2; omega
  have HBA : Hid (Below B w (w3.alloc (.cells (encI s).toArray 69)).drew) := HB3.out.trans (HWA.out.mono HBz.out)
  have HLY : Hid ((s :: Q).length = z + 1) := by unfold Hid; rw [List.length_cons, HZz.out]
  have HTQ : Hid (Q.take 0 ++ s :: Q.drop 0 = s :: Q) := by unfold Hid; simp
  have d0' : (w3.alloc (.cells #[.string s.1, .int .u64 s.2] 69)).cell? ⟨d, 0, none⟩ = some uI := cellO (HSA.out.nd_ (ndp n (.slice (some ⟨gN, 0, none⟩) l capN) (.slice (some ⟨gC, 0, none⟩) q capC) L cs ++ [Pc.obj c #[(.slice (some ⟨gM, 0, none⟩) (m + 1) capM), wC] 73, Pc.row 69 2 (.slice (some ⟨gM, 0, none⟩) m capM) m (gc encI (M.take m)), Pc.row 65 1 wC ([] : List Nat).length (gc encP [])])).o 0 rfl
  have hai : (a : Int) < (l : Int) := by omega
  clear hNr
  go_cut [33] (fun t' wc => t' = .pointer (some ⟨d, 0, none⟩) ∧ Hid (∃ gQ capQ, Sep wc B (ndp n (.slice (some ⟨gN, 0, none⟩) l capN) (.slice (some ⟨gC, 0, none⟩) q capC) L cs ++ ([Pc.obj c #[(.slice (some ⟨gM, 0, none⟩) (m + 1) capM), wC] 73, Pc.row 69 2 (.slice (some ⟨gM, 0, none⟩) m capM) m (gc encI (M.take m)), Pc.row 65 1 wC ([] : List Nat).length (gc encP [])] ++ (ndp d (.slice (some ⟨gQ, 0, none⟩) (z + 1) capQ) uC (s :: Q) [] ++ (Pc.obj k #[.string t.1, .int .u64 t.2] 69 :: R))))) ∧ Hid (Below B w wc))
  case first =>
    go_region_law (refine step_sinsI rfl (.tmp 37) (.const (.int .i64 0)) (.tmp 45) rfl HZz.out HRA.out (Nat.le_trans hB HBA.out.size) 0 (Nat.zero_le _) (by omega) s w3.heap.size HGX.out HNE.out rfl rfl rfl rfl ?_; rw [HTQ.out]; intro gQ capQ w8 ho8 hg8 ha8; have h8 := HSA.out.ndI (wI' := (.slice (some ⟨gQ, 0, none⟩) (z + 1) capQ)) (M' := s :: Q) (ndp n (.slice (some ⟨gN, 0, none⟩) l capN) (.slice (some ⟨gC, 0, none⟩) q capC) L cs ++ [Pc.obj c #[(.slice (some ⟨gM, 0, none⟩) (m + 1) capM), wC] 73, Pc.row 69 2 (.slice (some ⟨gM, 0, none⟩) m capM) m (gc encI (M.take m)), Pc.row 65 1 wC ([] : List Nat).length (gc encP [])]) (by rw [HLY.out]; exact ho8) hg8 (ha8.elim (fun e => Or.inl e.symm) (fun e => Or.inr (by intro x hx; simp [Value.ownBlock] at hx; rw [← hx, e]; exact Nat.le_refl _))); have HS8 : Hid (Sep (w8.setCell ⟨d, 0, none⟩ (.slice (some ⟨gQ, 0, none⟩) (z + 1) capQ)) B (ndp n (.slice (some ⟨gN, 0, none⟩) l capN) (.slice (some ⟨gC, 0, none⟩) q capC) L cs ++ ([Pc.obj c #[(.slice (some ⟨gM, 0, none⟩) (m + 1) capM), wC] 73, Pc.row 69 2 (.slice (some ⟨gM, 0, none⟩) m capM) m (gc encI (M.take m)), Pc.row 65 1 wC ([] : List Nat).length (gc encP [])] ++ (ndp d (.slice (some ⟨gQ, 0, none⟩) (z + 1) capQ) uC (s :: Q) [] ++ (Pc.obj k #[.string t.1, .int .u64 t.2] 69 :: R))))) := h8.2; have z0 := cellO h8.1 0 rfl; have z1 := frozenO h8.1 0; have HB9 : Hid (Below B w (w8.setCell ⟨d, 0, none⟩ (.slice (some ⟨gQ, 0, none⟩) (z + 1) capQ))) := (below_gr HBA.out (Nat.le_trans hB HBA.out.size) HRA.out hg8).setCell (HSA.out.nd_ (ndp n (.slice (some ⟨gN, 0, none⟩) l capN) (.slice (some ⟨gC, 0, none⟩) q capC) L cs ++ [Pc.obj c #[(.slice (some ⟨gM, 0, none⟩) (m + 1) capM), wC] 73, Pc.row 69 2 (.slice (some ⟨gM, 0, none⟩) m capM) m (gc encI (M.take m)), Pc.row 65 1 wC ([] : List Nat).length (gc encP [])])).bn _; clear ho8 hg8 ha8 h8)
    all_goals (go_wp2_with fail)
    all_goals (go_meet; exact ⟨rfl, ⟨gQ, capQ, HS8.out⟩, HB9.out⟩)
  case rest =>
  obtain ⟨rfl, ⟨gQ, capQ, hS4⟩, HB4⟩ := hcut
  generalize wc = w4 at *
  clear n0 n1 nf0 nf1 d0 d1 df0 df1 s0 s1 HBz HWA HGX HSA HRA HNE HBA d0' HS3 HB3
  have HS4 : Hid (Sep w4 B (ndp n (.slice (some ⟨gN, 0, none⟩) l capN) (.slice (some ⟨gC, 0, none⟩) q capC) L cs ++ ([Pc.obj c #[(.slice (some ⟨gM, 0, none⟩) (m + 1) capM), wC] 73, Pc.row 69 2 (.slice (some ⟨gM, 0, none⟩) m capM) m (gc encI (M.take m)), Pc.row 65 1 wC ([] : List Nat).length (gc encP [])] ++ (ndp d (.slice (some ⟨gQ, 0, none⟩) (z + 1) capQ) uC (s :: Q) [] ++ (Pc.obj k #[.string t.1, .int .u64 t.2] 69 :: R))))) := hS4
  obtain ⟨n0, n1, nf0, nf1⟩ := (hS4.nd_ []).c
  obtain ⟨hNB, hNl, hNf, hNc⟩ := row_at (hS4.nd_ []).rI
  have s0 := hNc _ _ (gc_at encI_len L _ _ HSs.out 0 _ rfl)
  have s1 := hNc _ _ (gc_at encI_len L _ _ HSs.out 1 _ rfl)
  rw [Nat.add_zero] at s0
  have z0 := hNf (a * 2)
  have z1 := hNf (a * 2 + 1)
  have hK := hS4.obj (g := k) (a := #[.string t.1, .int .u64 t.2]) (T := 69) (by simp [ndp])
  have k0 := cellO hK 0 rfl
  have k1 := cellO hK 1 rfl
  have HS5 : Hid (Sep ((w4.drew.setCell ⟨gN, a * 2, none⟩ (.string t.1)).setCell ⟨gN, a * 2 + 1, none⟩ (.int .u64 t.2)) B (ndp n (.slice (some ⟨gN, 0, none⟩) l capN) (.slice (some ⟨gC, 0, none⟩) q capC) (L.set a t) cs ++ ([Pc.obj c #[(.slice (some ⟨gM, 0, none⟩) (m + 1) capM), wC] 73, Pc.row 69 2 (.slice (some ⟨gM, 0, none⟩) m capM) m (gc encI (M.take m)), Pc.row 65 1 wC ([] : List Nat).length (gc encP [])] ++ (ndp d (.slice (some ⟨gQ, 0, none⟩) (z + 1) capQ) uC (s :: Q) [] ++ (Pc.obj k #[.string t.1, .int .u64 t.2] 69 :: R))))) := Sep.ndSet [] (HS4.out.below (Below.refl _ _).drew) HLl.out a hsl t
  have hC5 := HS5.out.obj (g := c) (a := #[(.slice (some ⟨gM, 0, none⟩) (m + 1) capM), wC]) (T := 73) (by simp [ndp])
  have y0 := cellO hC5 0 rfl
  have y1 := frozenO hC5 0
  have HS6 : Hid (Sep (((w4.drew.setCell ⟨gN, a * 2, none⟩ (.string t.1)).setCell ⟨gN, a * 2 + 1, none⟩ (.int .u64 t.2)).setCell ⟨c, 0, none⟩ (.slice (some ⟨gM, 0, none⟩) m capM)) B (ndp n (.slice (some ⟨gN, 0, none⟩) l capN) (.slice (some ⟨gC, 0, none⟩) q capC) (L.set a t) cs ++ (ndp c (.slice (some ⟨gM, 0, none⟩) m capM) wC (M.take m) [] ++ (ndp d (.slice (some ⟨gQ, 0, none⟩) (z + 1) capQ) uC (s :: Q) [] ++ (Pc.obj k #[.string t.1, .int .u64 t.2] 69 :: R))))) := by
    refine Sep.store (ndp n (.slice (some ⟨gN, 0, none⟩) l capN) (.slice (some ⟨gC, 0, none⟩) q capC) (L.set a t) cs) (a := #[(.slice (some ⟨gM, 0, none⟩) (m + 1) capM), wC]) (T := 73) (Y := .row 69 2 (.slice (some ⟨gM, 0, none⟩) m capM) (M.take m).length (gc encI (M.take m)) :: .row 65 1 wC ([] : List Nat).length (gc encP []) :: (ndp d (.slice (some ⟨gQ, 0, none⟩) (z + 1) capQ) uC (s :: Q) [] ++ (Pc.obj k #[.string t.1, .int .u64 t.2] 69 :: R))) ?_ 0 (.slice (some ⟨gM, 0, none⟩) m capM)
    rw [HLT.out]
    exact HS5.out
  have hbc : B ≤ c := (HS5.out.at_ (.obj c #[(.slice (some ⟨gM, 0, none⟩) (m + 1) capM), wC] 73) (by simp [ndp])).2
  have HB6 : Hid (Below B w (((w4.drew.setCell ⟨gN, a * 2, none⟩ (.string t.1)).setCell ⟨gN, a * 2 + 1, none⟩ (.int .u64 t.2)).setCell ⟨c, 0, none⟩ (.slice (some ⟨gM, 0, none⟩) m capM))) := ((HB4.out.drew.setCell hNB _).setCell hNB _).setCell hbc _
  have x0 := cellO (hS4.obj (g := c) (a := #[(.slice (some ⟨gM, 0, none⟩) (m + 1) capM), wC]) (T := 73) (by simp [ndp])) 0 rfl
  have hgc : ¬ gN = c := fun e => by
    obtain ⟨cur, h1⟩ := row_heap (HS4.out.nd_ []).rI
    have h2 := HS4.out.obj (g := c) (a := #[(.slice (some ⟨gM, 0, none⟩) (m + 1) capM), wC]) (T := 73) (by simp [ndp])
    rw [e, h2] at h1
    injection h1 with h1
    injection h1 with _ h1
    exact absurd h1 (by decide)
  have hcg : ¬ c = gN := fun e => hgc e.symm
  have x1 := frozenO (hS4.obj (g := c) (a := #[(.slice (some ⟨gM, 0, none⟩) (m + 1) capM), wC]) (T := 73) (by simp [ndp])) 0
  clear hNc hS4 hK hC5 hNl hNf
  go_upto_region 3 with fail
  go_cut [49] (fun t' wc => t' = .pointer (some ⟨n, 0, none⟩) ∧ Hid (Sep wc B (ndp n (.slice (some ⟨gN, 0, none⟩) l capN) (.slice (some ⟨gC, 0, none⟩) q capC) (L.set a t) cs ++ (ndp c (.slice (some ⟨gM, 0, none⟩) m capM) wC (M.take m) [] ++ (ndp d (.slice (some ⟨gQ, 0, none⟩) (z + 1) capQ) uC (s :: Q) [] ++ (Pc.obj k #[.string t.1, .int .u64 t.2] 69 :: R))))) ∧ Hid (Below B w wc))
  case first =>
    go_region_law (fail)
    all_goals (go_wp2_with fail)
    all_goals (go_meet; exact ⟨rfl, HS6.out, HB6.out⟩)
  case rest =>
  obtain ⟨rfl, HS7, HB7⟩ := hcut
  generalize wc = w7 at *
  clear n0 n1 nf0 nf1 hNB s0 s1 z0 z1 k0 k1 y0 y1 hbc hgc hcg x0 x1 HS4 HS5 HS6 HB4 HB6
  obtain ⟨c0, c1, cf0, cf1⟩ := (HS7.out.nd_ (ndp n (.slice (some ⟨gN, 0, none⟩) l capN) (.slice (some ⟨gC, 0, none⟩) q capC) (L.set a t) cs)).c
  obtain ⟨ao, capL, rfl⟩ := row_zero (HS7.out.nd_ (ndp n (.slice (some ⟨gN, 0, none⟩) l capN) (.slice (some ⟨gC, 0, none⟩) q capC) (L.set a t) cs)).rC
  have HIL : Hid _ := isLeaf_z (n := c) (w := w7) (ao := ao) (cap := capL) c1
  go_wp2_with (go_at_call 45; refine Calls.mono HIL.out ?_; rintro e w8 ⟨rfl, hw8⟩; obtain rfl := hw8.symm)
  refine bodyPost_end (results_none rfl _ _ _) rfl ?_
  refine ⟨rfl, ⟨t, (.slice (some ⟨gN, 0, none⟩) l capN), (.slice (some ⟨gC, 0, none⟩) q capC), (.slice (some ⟨gM, 0, none⟩) m capM), .slice ao 0 capL, (.slice (some ⟨gQ, 0, none⟩) (z + 1) capQ), uC, HTM.out, HS7.out.sub ?_⟩, HB7.out⟩
  exact List.Sublist.append (List.Sublist.refl _) (List.Sublist.append (List.Sublist.refl _) (List.Sublist.append (List.Sublist.refl _) (List.sublist_cons_self _ _)))
set_option maxHeartbeats 4000000 in
theorem turnRight_node {w : World} {B n c d a m : Nat} {vI vC wI wC uI uC : Value} {L M Q : List It} {cs bs ds : List Nat} {R : List Pc} {s : It}
    (hS : Sep w B (ndp n vI vC L cs ++ (ndp c wI wC M bs ++ (ndp d uI uC Q ds ++ R)))) (hac : cs[a]? = some c) (had : cs[a + 1]? = some d) (hs : L[a]? = some s) (hLn : L.length ≤ 1000) (hcn : cs.length ≤ 1000) (hMn : M.length ≤ 1000) (hQn : Q.length ≤ 1000) (hbs : bs.length = M.length + 1) (hds : ds.length = Q.length + 1) (hM1 : M.length = m + 1) (hB : B ≤ w.heap.size) :
    Calls Try.prog 65 #[.pointer (some ⟨n, 0, none⟩), .int .i64 (a : Int)] w fun e w' => e = .returned (.tuple #[]) ∧ (∃ t e vI' vC' wI' wC' uI' uC', M[m]? = some t ∧ bs[m + 1]? = some e ∧ Sep w' B (ndp n vI' vC' (L.set a t) cs ++ (ndp c wI' wC' (M.take m) (bs.take (m + 1)) ++ (ndp d uI' uC' (s :: Q) (e :: ds) ++ R)))) ∧ Below B w w' := by
  have HS : Hid (Sep w B (ndp n vI vC L cs ++ (ndp c wI wC M bs ++ (ndp d uI uC Q ds ++ R)))) := hS
  have hN := hS.nd_ []
  obtain ⟨n0, n1, _, _⟩ := hN.c
  have hal := (List.getElem?_eq_some_iff.1 had).1
  have hsl := (List.getElem?_eq_some_iff.1 hs).1
  obtain ⟨gC, capC, rfl, hC1, hC2, _, _, _, hCc⟩ := row_some hN.rC (by omega)
  have ca := hCc _ _ (gcP_at hac)
  have cb := hCc _ _ (gcP_at had)
  obtain ⟨q, HQ⟩ : ∃ q, Hid (cs.length = q) := ⟨_, rfl⟩
  rw [HQ.out] at hal hC1 hcn n1 HS
  have HAC : Hid (cs[a]? = some c) := hac
  have HAD : Hid (cs[a + 1]? = some d) := had
  have HSs : Hid (L[a]? = some s) := hs
  have HBQ : Hid (∀ nq, Below w.heap.size w (w.drewN nq)) := fun nq => ⟨rfl, rfl, rfl, Nat.le_refl _, fun _ _ => rfl⟩
  clear hS hN hCc hac had hs
  go_enter Try.func65, Try.ntmps65
  go_upto_region 0 with fail
  go_cut [4, 5] (fun t u wc => t = .pointer (some ⟨c, 0, none⟩) ∧ u = .pointer (some ⟨d, 0, none⟩) ∧ Hid (Sep wc B (ndp n vI (.slice (some ⟨gC, 0, none⟩) q capC) L cs ++ (ndp c wI wC M bs ++ (ndp d uI uC Q ds ++ R)))) ∧ Hid (Below B w wc))
  case first =>
    go_quiet (fail)
    go_wp2_with fail
    go_meet
    exact ⟨rfl, rfl, HS.out.below (HBQ.out _), (HBQ.out _).mono hB⟩
  case rest =>
  obtain ⟨rfl, rfl, HS1, HB1⟩ := hcut
  generalize wc = w1 at *
  clear n0 n1 ca cb HS HBQ
  have hN := HS1.out.nd_ []
  have hC := HS1.out.nd_ (ndp n vI (.slice (some ⟨gC, 0, none⟩) q capC) L cs)
  have hD := HS1.out.nd_ (ndp n vI (.slice (some ⟨gC, 0, none⟩) q capC) L cs ++ ndp c wI wC M bs)
  obtain ⟨n0, n1, nf0, nf1⟩ := hN.c
  obtain ⟨c0, c1, cf0, cf1⟩ := hC.c
  obtain ⟨gN, capN, rfl, hN1, hN2, _, hNl, hNf, hNc⟩ := row_some hN.rI (by omega)
  obtain ⟨gM, capM, rfl, hM2, hM3, _, hMl, _, hMc⟩ := row_some hC.rI (by omega)
  obtain ⟨t, ht⟩ : ∃ t, M[m]? = some t := ⟨M[m]'(by omega), List.getElem?_eq_getElem _⟩
  obtain ⟨l, HLl⟩ : ∃ l, Hid (L.length = l) := ⟨_, rfl⟩
  have HMm : Hid (M.length = m + 1) := hM1
  obtain ⟨z, HZz⟩ : ∃ z, Hid (Q.length = z) := ⟨_, rfl⟩
  rw [HLl.out] at n0 hN1 hsl hLn HS1
  rw [HZz.out] at hQn
  rw [HMm.out] at hMn HS1 c0 hM2 hbs
  clear hM1
  have HTM : Hid (M[m]? = some t) := ht
  have HRC : Hid (w1.ownsRow B 69 2 (.slice (some ⟨gM, 0, none⟩) (m + 1) capM) (m + 1) (gc encI M)) := by have := hC.rI; rw [HMm.out] at this; exact this
  have HCL : Hid _ := cutLastI HMm.out HRC.out ht (by omega)
  have HBz : Hid (B ≤ w1.heap.size) := Nat.le_trans hB HB1.out.size
  have HLT : Hid ((M.take m).length = m) := by unfold Hid; rw [List.length_take, HMm.out]; omega
  clear hN hC hD hNc hMc ht hNl hNf hMl
  go_upto_region 2 with (go_at_call 62; refine Calls.mono HCL.out ?_; rintro e w2 ⟨rfl, ho2, hg2⟩; have HS2 : Hid (Sep w2 B (ndp n (.slice (some ⟨gN, 0, none⟩) l capN) (.slice (some ⟨gC, 0, none⟩) q capC) L cs ++ ([Pc.obj c #[(.slice (some ⟨gM, 0, none⟩) (m + 1) capM), wC] 73, Pc.row 69 2 (.slice (some ⟨gM, 0, none⟩) m capM) m (gc encI (M.take m)), Pc.row 65 1 wC bs.length (gc encP bs)] ++ (ndp d uI uC Q ds ++ R)))) := Sep.turn (ndp n (.slice (some ⟨gN, 0, none⟩) l capN) (.slice (some ⟨gC, 0, none⟩) q capC) L cs ++ [Pc.obj c #[(.slice (some ⟨gM, 0, none⟩) (m + 1) capM), wC] 73]) (v := (.slice (some ⟨gM, 0, none⟩) (m + 1) capM)) (n := M.length) (xs := gc encI M) (Y := .row 65 1 wC bs.length (gc encP bs) :: (ndp d uI uC Q ds ++ R)) HS1.out ho2 hg2 (Or.inl rfl); have HB2 : Hid (Below B w w2) := below_gr HB1.out HBz.out HRC.out hg2; clear ho2 hg2)
  have HS3 : Hid (Sep (w2.alloc (.cells #[.string t.1, .int .u64 t.2] 69)) B (ndp n (.slice (some ⟨gN, 0, none⟩) l capN) (.slice (some ⟨gC, 0, none⟩) q capC) L cs ++ ([Pc.obj c #[(.slice (some ⟨gM, 0, none⟩) (m + 1) capM), wC] 73, Pc.row 69 2 (.slice (some ⟨gM, 0, none⟩) m capM) m (gc encI (M.take m)), Pc.row 65 1 wC bs.length (gc encP bs)] ++ (ndp d uI uC Q ds ++ (Pc.obj w2.heap.size #[.string t.1, .int .u64 t.2] 69 :: R))))) := by
    have h := Sep.new (w' := w2.alloc (.cells #[.string t.1, .int .u64 t.2] 69)) (p := Pc.obj w2.heap.size #[.string t.1, .int .u64 t.2] 69) HS2.out ((Below.refl _ _).alloc (Nat.le_refl _) _) ⟨heap_alloc_new w2 _, Nat.le_trans hB HB2.out.size⟩ (by simp [Pc.blk])
    exact h.perm ((List.perm_middle (l₁ := ndp n (.slice (some ⟨gN, 0, none⟩) l capN) (.slice (some ⟨gC, 0, none⟩) q capC) L cs ++ [Pc.obj c #[(.slice (some ⟨gM, 0, none⟩) (m + 1) capM), wC] 73, Pc.row 69 2 (.slice (some ⟨gM, 0, none⟩) m capM) m (gc encI (M.take m)), Pc.row 65 1 wC bs.length (gc encP bs)] ++ (ndp d uI uC Q ds)) (l₂ := R)).symm)
  have HB3 : Hid (Below B w (w2.alloc (.cells #[.string t.1, .int .u64 t.2] 69))) := HB2.out.alloc (Nat.le_trans hB HB2.out.size) _
  generalize w2.alloc (.cells #[.string t.1, .int .u64 t.2] 69) = w3 at HS3 HB3 ⊢
  obtain ⟨k, HKk⟩ : ∃ k, Hid (k = w2.heap.size) := ⟨_, rfl⟩
  rw [← HKk.out] at HS3 ⊢
  clear n0 n1 nf0 nf1 c0 c1 cf0 cf1 HRC HCL HS2 HB2 HBz HS1 HB1
  obtain ⟨n0, n1, nf0, nf1⟩ := (HS3.out.nd_ []).c
  obtain ⟨d0, d1, df0, df1⟩ := (HS3.out.nd_ (ndp n (.slice (some ⟨gN, 0, none⟩) l capN) (.slice (some ⟨gC, 0, none⟩) q capC) L cs ++ [Pc.obj c #[(.slice (some ⟨gM, 0, none⟩) (m + 1) capM), wC] 73, Pc.row 69 2 (.slice (some ⟨gM, 0, none⟩) m capM) m (gc encI (M.take m)), Pc.row 65 1 wC bs.length (gc encP bs)])).c
  have hNr := row_at (HS3.out.nd_ []).rI
  have s0 := hNr.2.2.2 _ _ (gc_at encI_len L _ _ HSs.out 0 _ rfl)
  have s1 := hNr.2.2.2 _ _ (gc_at encI_len L _ _ HSs.out 1 _ rfl)
  rw [Nat.add_zero] at s0
  have HBz : Hid (B ≤ w3.heap.size) := Nat.le_trans hB HB3.out.size
  have HWA : Hid (Below w3.heap.size w3 (w3.alloc (.cells (encI s).toArray 69)).drew) := ((Below.refl _ _).alloc (Nat.le_refl _) _).drew
  have HGX : Hid ((w3.alloc (.cells (encI s).toArray 69)).drew.heap[w3.heap.size]? = some (.cells (encI s).toArray 69 (0, 0))) := heap_alloc_new w3 _
  have HSA : Hid (Sep (w3.alloc (.cells (encI s).toArray 69)).drew B (ndp n (.slice (some ⟨gN, 0, none⟩) l capN) (.slice (some ⟨gC, 0, none⟩) q capC) L cs ++ ([Pc.obj c #[(.slice (some ⟨gM, 0, none⟩) (m + 1) capM), wC] 73, Pc.row 69 2 (.slice (some ⟨gM, 0, none⟩) m capM) m (gc encI (M.take m)), Pc.row 65 1 wC bs.length (gc encP bs)] ++ (ndp d uI uC Q ds ++ (Pc.obj k #[.string t.1, .int .u64 t.2] 69 :: R))))) := HS3.out.below HWA.out
  have HRA : Hid ((w3.alloc (.cells (encI s).toArray 69)).drew.ownsRow B 69 2 uI z (gc encI Q)) := by have := (HSA.out.nd_ (ndp n (.slice (some ⟨gN, 0, none⟩) l capN) (.slice (some ⟨gC, 0, none⟩) q capC) L cs ++ [Pc.obj c #[(.slice (some ⟨gM, 0, none⟩) (m + 1) capM), wC] 73, Pc.row 69 2 (.slice (some ⟨gM, 0, none⟩) m capM) m (gc encI (M.take m)), Pc.row 65 1 wC bs.length (gc encP bs)])).rI; rw [HZz.out] at this; exact this
  have HNE : Hid (uI.ownBlock ≠ some w3.heap.size) := fun e => by have := (World.ownsRow.lt (HS3.out.nd_ (ndp n (.slice (some ⟨gN, 0, none⟩) l capN) (.slice (some ⟨gC, 0, none⟩) q capC) L cs ++ [Pc.obj c #[(.slice (some ⟨gM, 0, none⟩) (m + 1) capM), wC] 73, Pc.row 69 2 (.slice (some ⟨gM, 0, none⟩) m capM) m (gc encI (M.take m)), Pc.row 65 1 wC bs.length (gc encP bs)])).rI _ e).2; omega
  have HBA : Hid (Below B w (w3.alloc (.cells (encI s).toArray 69)).drew) := HB3.out.trans (HWA.out.mono HBz.out)
  have HLY : Hid ((s :: Q).length = z + 1) := by unfold Hid; rw [List.length_cons, HZz.out]
  have HTQ : Hid (Q.take 0 ++ s :: Q.drop 0 = s :: Q) := by unfold Hid; simp
  have d0' : (w3.alloc (.cells #[.string s.1, .int .u64 s.2] 69)).cell? ⟨d, 0, none⟩ = some uI := cellO (HSA.out.nd_ (ndp n (.slice (some ⟨gN, 0, none⟩) l capN) (.slice (some ⟨gC, 0, none⟩) q capC) L cs ++ [Pc.obj c #[(.slice (some ⟨gM, 0, none⟩) (m + 1) capM), wC] 73, Pc.row 69 2 (.slice (some ⟨gM, 0, none⟩) m capM) m (gc encI (M.take m)), Pc.row 65 1 wC bs.length (gc encP bs)])).o 0 rfl
  have hai : (a : Int) < (l : Int) := by omega
  clear hNr
  go_cut [33] (fun t' wc => t' = .pointer (some ⟨d, 0, none⟩) ∧ Hid (∃ gQ capQ, Sep wc B (ndp n (.slice (some ⟨gN, 0, none⟩) l capN) (.slice (some ⟨gC, 0, none⟩) q capC) L cs ++ ([Pc.obj c #[(.slice (some ⟨gM, 0, none⟩) (m + 1) capM), wC] 73, Pc.row 69 2 (.slice (some ⟨gM, 0, none⟩) m capM) m (gc encI (M.take m)), Pc.row 65 1 wC bs.length (gc encP bs)] ++ (ndp d (.slice (some ⟨gQ, 0, none⟩) (z + 1) capQ) uC (s :: Q) ds ++ (Pc.obj k #[.string t.1, .int .u64 t.2] 69 :: R))))) ∧ Hid (Below B w wc))
  case first =>
    go_region_law (refine step_sinsI rfl (.tmp 37) (.const (.int .i64 0)) (.tmp 45) rfl HZz.out HRA.out (Nat.le_trans hB HBA.out.size) 0 (Nat.zero_le _) (by omega) s w3.heap.size HGX.out HNE.out rfl rfl rfl rfl ?_; rw [HTQ.out]; intro gQ capQ w8 ho8 hg8 ha8; have h8 := HSA.out.ndI (wI' := (.slice (some ⟨gQ, 0, none⟩) (z + 1) capQ)) (M' := s :: Q) (ndp n (.slice (some ⟨gN, 0, none⟩) l capN) (.slice (some ⟨gC, 0, none⟩) q capC) L cs ++ [Pc.obj c #[(.slice (some ⟨gM, 0, none⟩) (m + 1) capM), wC] 73, Pc.row 69 2 (.slice (some ⟨gM, 0, none⟩) m capM) m (gc encI (M.take m)), Pc.row 65 1 wC bs.length (gc encP bs)]) (by rw [HLY.out]; exact ho8) hg8 (ha8.elim (fun e => Or.inl e.symm) (fun e => Or.inr (by intro x hx; simp [Value.ownBlock] at hx; rw [← hx, e]; exact Nat.le_refl _))); have HS8 : Hid (Sep (w8.setCell ⟨d, 0, none⟩ (.slice (some ⟨gQ, 0, none⟩) (z + 1) capQ)) B (ndp n (.slice (some ⟨gN, 0, none⟩) l capN) (.slice (some ⟨gC, 0, none⟩) q capC) L cs ++ ([Pc.obj c #[(.slice (some ⟨gM, 0, none⟩) (m + 1) capM), wC] 73, Pc.row 69 2 (.slice (some ⟨gM, 0, none⟩) m capM) m (gc encI (M.take m)), Pc.row 65 1 wC bs.length (gc encP bs)] ++ (ndp d (.slice (some ⟨gQ, 0, none⟩) (z + 1) capQ) uC (s :: Q) ds ++ (Pc.obj k #[.string t.1, .int .u64 t.2] 69 :: R))))) := h8.2; have z0 := cellO h8.1 0 rfl; have z1 := frozenO h8.1 0; have HB9 : Hid (Below B w (w8.setCell ⟨d, 0, none⟩ (.slice (some ⟨gQ, 0, none⟩) (z + 1) capQ))) := (below_gr HBA.out (Nat.le_trans hB HBA.out.size) HRA.out hg8).setCell (HSA.out.nd_ (ndp n (.slice (some ⟨gN, 0, none⟩) l capN) (.slice (some ⟨gC, 0, none⟩) q capC) L cs ++ [Pc.obj c #[(.slice (some ⟨gM, 0, none⟩) (m + 1) capM), wC] 73, Pc.row 69 2 (.slice (some ⟨gM, 0, none⟩) m capM) m (gc encI (M.take m)), Pc.row 65 1 wC bs.length (gc encP bs)])).bn _; clear ho8 hg8 ha8 h8)
    all_goals (go_wp2_with fail)
    all_goals (go_meet; exact ⟨rfl, ⟨gQ, capQ, HS8.out⟩, HB9.out⟩)
  case rest =>
  obtain ⟨rfl, ⟨gQ, capQ, hS4⟩, HB4⟩ := hcut
  generalize wc = w4 at *
  clear n0 n1 nf0 nf1 d0 d1 df0 df1 s0 s1 HBz HWA HGX HSA HRA HNE HBA d0' HS3 HB3
  have HS4 : Hid (Sep w4 B (ndp n (.slice (some ⟨gN, 0, none⟩) l capN) (.slice (some ⟨gC, 0, none⟩) q capC) L cs ++ ([Pc.obj c #[(.slice (some ⟨gM, 0, none⟩) (m + 1) capM), wC] 73, Pc.row 69 2 (.slice (some ⟨gM, 0, none⟩) m capM) m (gc encI (M.take m)), Pc.row 65 1 wC bs.length (gc encP bs)] ++ (ndp d (.slice (some ⟨gQ, 0, none⟩) (z + 1) capQ) uC (s :: Q) ds ++ (Pc.obj k #[.string t.1, .int .u64 t.2] 69 :: R))))) := hS4
  obtain ⟨n0, n1, nf0, nf1⟩ := (hS4.nd_ []).c
  obtain ⟨hNB, hNl, hNf, hNc⟩ := row_at (hS4.nd_ []).rI
  have s0 := hNc _ _ (gc_at encI_len L _ _ HSs.out 0 _ rfl)
  have s1 := hNc _ _ (gc_at encI_len L _ _ HSs.out 1 _ rfl)
  rw [Nat.add_zero] at s0
  have z0 := hNf (a * 2)
  have z1 := hNf (a * 2 + 1)
  have hK := hS4.obj (g := k) (a := #[.string t.1, .int .u64 t.2]) (T := 69) (by simp [ndp])
  have k0 := cellO hK 0 rfl
  have k1 := cellO hK 1 rfl
  have HS5 : Hid (Sep ((w4.drew.setCell ⟨gN, a * 2, none⟩ (.string t.1)).setCell ⟨gN, a * 2 + 1, none⟩ (.int .u64 t.2)) B (ndp n (.slice (some ⟨gN, 0, none⟩) l capN) (.slice (some ⟨gC, 0, none⟩) q capC) (L.set a t) cs ++ ([Pc.obj c #[(.slice (some ⟨gM, 0, none⟩) (m + 1) capM), wC] 73, Pc.row 69 2 (.slice (some ⟨gM, 0, none⟩) m capM) m (gc encI (M.take m)), Pc.row 65 1 wC bs.length (gc encP bs)] ++ (ndp d (.slice (some ⟨gQ, 0, none⟩) (z + 1) capQ) uC (s :: Q) ds ++ (Pc.obj k #[.string t.1, .int .u64 t.2] 69 :: R))))) := Sep.ndSet [] (HS4.out.below (Below.refl _ _).drew) HLl.out a hsl t
  have hC5 := HS5.out.obj (g := c) (a := #[(.slice (some ⟨gM, 0, none⟩) (m + 1) capM), wC]) (T := 73) (by simp [ndp])
  have y0 := cellO hC5 0 rfl
  have y1 := frozenO hC5 0
  have HS6 : Hid (Sep (((w4.drew.setCell ⟨gN, a * 2, none⟩ (.string t.1)).setCell ⟨gN, a * 2 + 1, none⟩ (.int .u64 t.2)).setCell ⟨c, 0, none⟩ (.slice (some ⟨gM, 0, none⟩) m capM)) B (ndp n (.slice (some ⟨gN, 0, none⟩) l capN) (.slice (some ⟨gC, 0, none⟩) q capC) (L.set a t) cs ++ (ndp c (.slice (some ⟨gM, 0, none⟩) m capM) wC (M.take m) bs ++ (ndp d (.slice (some ⟨gQ, 0, none⟩) (z + 1) capQ) uC (s :: Q) ds ++ (Pc.obj k #[.string t.1, .int .u64 t.2] 69 :: R))))) := by
    refine Sep.store (ndp n (.slice (some ⟨gN, 0, none⟩) l capN) (.slice (some ⟨gC, 0, none⟩) q capC) (L.set a t) cs) (a := #[(.slice (some ⟨gM, 0, none⟩) (m + 1) capM), wC]) (T := 73) (Y := .row 69 2 (.slice (some ⟨gM, 0, none⟩) m capM) (M.take m).length (gc encI (M.take m)) :: .row 65 1 wC bs.length (gc encP bs) :: (ndp d (.slice (some ⟨gQ, 0, none⟩) (z + 1) capQ) uC (s :: Q) ds ++ (Pc.obj k #[.string t.1, .int .u64 t.2] 69 :: R))) ?_ 0 (.slice (some ⟨gM, 0, none⟩) m capM)
    rw [HLT.out]
    exact HS5.out
  have hbc : B ≤ c := (HS5.out.at_ (.obj c #[(.slice (some ⟨gM, 0, none⟩) (m + 1) capM), wC] 73) (by simp [ndp])).2
  have HB6 : Hid (Below B w (((w4.drew.setCell ⟨gN, a * 2, none⟩ (.string t.1)).setCell ⟨gN, a * 2 + 1, none⟩ (.int .u64 t.2)).setCell ⟨c, 0, none⟩ (.slice (some ⟨gM, 0, none⟩) m capM))) := ((HB4.out.drew.setCell hNB _).setCell hNB _).setCell hbc _
  have x0 := cellO (hS4.obj (g := c) (a := #[(.slice (some ⟨gM, 0, none⟩) (m + 1) capM), wC]) (T := 73) (by simp [ndp])) 0 rfl
  have hgc : ¬ gN = c := fun e => by
    obtain ⟨cur, h1⟩ := row_heap (HS4.out.nd_ []).rI
    have h2 := HS4.out.obj (g := c) (a := #[(.slice (some ⟨gM, 0, none⟩) (m + 1) capM), wC]) (T := 73) (by simp [ndp])
    rw [e, h2] at h1
    injection h1 with h1
    injection h1 with _ h1
    exact absurd h1 (by decide)
  have hcg : ¬ c = gN := fun e => hgc e.symm
  have x1 := frozenO (hS4.obj (g := c) (a := #[(.slice (some ⟨gM, 0, none⟩) (m + 1) capM), wC]) (T := 73) (by simp [ndp])) 0
  clear hNc hS4 hK hC5 hNl hNf
  go_upto_region 3 with fail
  go_cut [49] (fun t' wc => t' = .pointer (some ⟨n, 0, none⟩) ∧ Hid (Sep wc B (ndp n (.slice (some ⟨gN, 0, none⟩) l capN) (.slice (some ⟨gC, 0, none⟩) q capC) (L.set a t) cs ++ (ndp c (.slice (some ⟨gM, 0, none⟩) m capM) wC (M.take m) bs ++ (ndp d (.slice (some ⟨gQ, 0, none⟩) (z + 1) capQ) uC (s :: Q) ds ++ (Pc.obj k #[.string t.1, .int .u64 t.2] 69 :: R))))) ∧ Hid (Below B w wc))
  case first =>
    go_region_law (fail)
    all_goals (go_wp2_with fail)
    all_goals (go_meet; exact ⟨rfl, HS6.out, HB6.out⟩)
  case rest =>
  obtain ⟨rfl, HS7, HB7⟩ := hcut
  generalize wc = w7 at *
  clear n0 n1 nf0 nf1 hNB s0 s1 z0 z1 k0 k1 y0 y1 hbc hgc hcg x0 x1 HS4 HS5 HS6 HB4 HB6
  obtain ⟨c0, c1, cf0, cf1⟩ := (HS7.out.nd_ (ndp n (.slice (some ⟨gN, 0, none⟩) l capN) (.slice (some ⟨gC, 0, none⟩) q capC) (L.set a t) cs)).c
  have hrC := (HS7.out.nd_ (ndp n (.slice (some ⟨gN, 0, none⟩) l capN) (.slice (some ⟨gC, 0, none⟩) q capC) (L.set a t) cs)).rC
  rw [hbs] at hrC
  obtain ⟨gB, capB, rfl, hB1, hB2, _, hBl, _, hBc⟩ := row_some hrC (by omega)
  obtain ⟨e0, he0⟩ : ∃ e0, bs[m + 1]? = some e0 := ⟨bs[m + 1]'(by omega), List.getElem?_eq_getElem _⟩
  have HE0 : Hid (bs[m + 1]? = some e0) := he0
  have HRB : Hid (w7.ownsRow B 65 1 (.slice (some ⟨gB, 0, none⟩) (m + 1 + 1) capB) (m + 1 + 1) (gc encP bs)) := hrC
  have HCL : Hid _ := cutLastP (n := m + 1) hbs HRB.out he0 (by omega)
  have HIL : Hid _ := isLeaf_no (n := c) (w := w7) (ad := ⟨gB, 0, none⟩) (k := m + 1 + 1) (cap := capB) c1 (by omega)
  have HBz : Hid (B ≤ w7.heap.size) := Nat.le_trans hB HB7.out.size
  have HLB : Hid ((bs.take (m + 1)).length = m + 1) := by unfold Hid; rw [List.length_take, hbs]; omega
  clear hrC hBc he0
  go_upto_region 6 with (first
    | (go_at_call 45; refine Calls.mono HIL.out ?_; rintro e w8 ⟨rfl, hw8⟩; obtain rfl := hw8.symm)
    | (go_at_call 73; refine Calls.mono HCL.out ?_; rintro e w8 ⟨rfl, ho2, hg2⟩; have HS8 : Hid (Sep w8 B (ndp n (.slice (some ⟨gN, 0, none⟩) l capN) (.slice (some ⟨gC, 0, none⟩) q capC) (L.set a t) cs ++ ([Pc.obj c #[(.slice (some ⟨gM, 0, none⟩) m capM), (.slice (some ⟨gB, 0, none⟩) (m + 1 + 1) capB)] 73, Pc.row 69 2 (.slice (some ⟨gM, 0, none⟩) m capM) (M.take m).length (gc encI (M.take m)), Pc.row 65 1 (.slice (some ⟨gB, 0, none⟩) (m + 1) capB) (m + 1) (gc encP (bs.take (m + 1)))] ++ (ndp d (.slice (some ⟨gQ, 0, none⟩) (z + 1) capQ) uC (s :: Q) ds ++ (Pc.obj k #[.string t.1, .int .u64 t.2] 69 :: R))))) := Sep.turn (ndp n (.slice (some ⟨gN, 0, none⟩) l capN) (.slice (some ⟨gC, 0, none⟩) q capC) (L.set a t) cs ++ [Pc.obj c #[(.slice (some ⟨gM, 0, none⟩) m capM), (.slice (some ⟨gB, 0, none⟩) (m + 1 + 1) capB)] 73, Pc.row 69 2 (.slice (some ⟨gM, 0, none⟩) m capM) (M.take m).length (gc encI (M.take m))]) (v := (.slice (some ⟨gB, 0, none⟩) (m + 1 + 1) capB)) (n := bs.length) (xs := gc encP bs) (Y := ndp d (.slice (some ⟨gQ, 0, none⟩) (z + 1) capQ) uC (s :: Q) ds ++ (Pc.obj k #[.string t.1, .int .u64 t.2] 69 :: R)) HS7.out ho2 hg2 (Or.inl rfl); have HB8 : Hid (Below B w w8) := below_gr HB7.out HBz.out HRB.out hg2; clear ho2 hg2))
  clear c0 c1 cf0 cf1 HRB HCL HIL HS7 HB7 HBz
  obtain ⟨d0, d1, df0, df1⟩ := (HS8.out.nd_ (ndp n (.slice (some ⟨gN, 0, none⟩) l capN) (.slice (some ⟨gC, 0, none⟩) q capC) (L.set a t) cs ++ [Pc.obj c #[(.slice (some ⟨gM, 0, none⟩) m capM), (.slice (some ⟨gB, 0, none⟩) (m + 1 + 1) capB)] 73, Pc.row 69 2 (.slice (some ⟨gM, 0, none⟩) m capM) (M.take m).length (gc encI (M.take m)), Pc.row 65 1 (.slice (some ⟨gB, 0, none⟩) (m + 1) capB) (m + 1) (gc encP (bs.take (m + 1)))])).c
  have HBz : Hid (B ≤ w8.heap.size) := Nat.le_trans hB HB8.out.size
  have HWA : Hid (Below w8.heap.size w8 (w8.alloc (.cells (encP e0).toArray 65))) := (Below.refl _ _).alloc (Nat.le_refl _) _
  have HGX : Hid ((w8.alloc (.cells (encP e0).toArray 65)).heap[w8.heap.size]? = some (.cells (encP e0).toArray 65 (0, 0))) := heap_alloc_new w8 _
  have HSA : Hid (Sep (w8.alloc (.cells (encP e0).toArray 65)) B (ndp n (.slice (some ⟨gN, 0, none⟩) l capN) (.slice (some ⟨gC, 0, none⟩) q capC) (L.set a t) cs ++ ([Pc.obj c #[(.slice (some ⟨gM, 0, none⟩) m capM), (.slice (some ⟨gB, 0, none⟩) (m + 1 + 1) capB)] 73, Pc.row 69 2 (.slice (some ⟨gM, 0, none⟩) m capM) (M.take m).length (gc encI (M.take m)), Pc.row 65 1 (.slice (some ⟨gB, 0, none⟩) (m + 1) capB) (m + 1) (gc encP (bs.take (m + 1)))] ++ (ndp d (.slice (some ⟨gQ, 0, none⟩) (z + 1) capQ) uC (s :: Q) ds ++ (Pc.obj k #[.string t.1, .int .u64 t.2] 69 :: R))))) := HS8.out.below HWA.out
  have HDS : Hid (ds.length = z + 1) := by unfold Hid; rw [hds, HZz.out]
  have HRA : Hid ((w8.alloc (.cells (encP e0).toArray 65)).ownsRow B 65 1 uC (z + 1) (gc encP ds)) := by have := (HSA.out.nd_ (ndp n (.slice (some ⟨gN, 0, none⟩) l capN) (.slice (some ⟨gC, 0, none⟩) q capC) (L.set a t) cs ++ [Pc.obj c #[(.slice (some ⟨gM, 0, none⟩) m capM), (.slice (some ⟨gB, 0, none⟩) (m + 1 + 1) capB)] 73, Pc.row 69 2 (.slice (some ⟨gM, 0, none⟩) m capM) (M.take m).length (gc encI (M.take m)), Pc.row 65 1 (.slice (some ⟨gB, 0, none⟩) (m + 1) capB) (m + 1) (gc encP (bs.take (m + 1)))])).rC; rw [HDS.out] at this; exact this
  have HNE : Hid (uC.ownBlock ≠ some w8.heap.size) := fun e => by have := (World.ownsRow.lt (HS8.out.nd_ (ndp n (.slice (some ⟨gN, 0, none⟩) l capN) (.slice (some ⟨gC, 0, none⟩) q capC) (L.set a t) cs ++ [Pc.obj c #[(.slice (some ⟨gM, 0, none⟩) m capM), (.slice (some ⟨gB, 0, none⟩) (m + 1 + 1) capB)] 73, Pc.row 69 2 (.slice (some ⟨gM, 0, none⟩) m capM) (M.take m).length (gc encI (M.take m)), Pc.row 65 1 (.slice (some ⟨gB, 0, none⟩) (m + 1) capB) (m + 1) (gc encP (bs.take (m + 1)))])).rC _ e).2; omega
  have HBA : Hid (Below B w (w8.alloc (.cells (encP e0).toArray 65))) := HB8.out.trans (HWA.out.mono HBz.out)
  have HINS : Hid _ := sinsP HDS.out HRA.out (Nat.le_trans hB HBA.out.size) 0 (Nat.zero_le _) (by omega) e0 w8.heap.size HGX.out HNE.out
  rw [show ds.take 0 ++ e0 :: ds.drop 0 = e0 :: ds by simp] at HINS
  have HLY2 : Hid ((e0 :: ds).length = z + 1 + 1) := by unfold Hid; rw [List.length_cons, HDS.out]
  have d1' : (w8.alloc (.cells #[.pointer (some ⟨e0, 0, none⟩)] 65)).cell? ⟨d, 1, none⟩ = some uC := cellO (HSA.out.nd_ (ndp n (.slice (some ⟨gN, 0, none⟩) l capN) (.slice (some ⟨gC, 0, none⟩) q capC) (L.set a t) cs ++ [Pc.obj c #[(.slice (some ⟨gM, 0, none⟩) m capM), (.slice (some ⟨gB, 0, none⟩) (m + 1 + 1) capB)] 73, Pc.row 69 2 (.slice (some ⟨gM, 0, none⟩) m capM) (M.take m).length (gc encI (M.take m)), Pc.row 65 1 (.slice (some ⟨gB, 0, none⟩) (m + 1) capB) (m + 1) (gc encP (bs.take (m + 1)))])).o 1 rfl
  go_upto_region 7 with (go_at_call 61; refine Calls.mono HINS.out ?_; rintro e w9 ⟨gE, capE, rfl, ho8, hg8, ha8⟩; have h8 := HSA.out.ndC (wC' := (.slice (some ⟨gE, 0, none⟩) (z + 1 + 1) capE)) (bs' := e0 :: ds) (ndp n (.slice (some ⟨gN, 0, none⟩) l capN) (.slice (some ⟨gC, 0, none⟩) q capC) (L.set a t) cs ++ [Pc.obj c #[(.slice (some ⟨gM, 0, none⟩) m capM), (.slice (some ⟨gB, 0, none⟩) (m + 1 + 1) capB)] 73, Pc.row 69 2 (.slice (some ⟨gM, 0, none⟩) m capM) (M.take m).length (gc encI (M.take m)), Pc.row 65 1 (.slice (some ⟨gB, 0, none⟩) (m + 1) capB) (m + 1) (gc encP (bs.take (m + 1)))]) (by rw [HLY2.out]; exact ho8) hg8 (ha8.elim (fun e => Or.inl e.symm) (fun e => Or.inr (by intro x hx; simp [Value.ownBlock] at hx; rw [← hx, e]; exact Nat.le_refl _))); have HS9 : Hid (Sep (w9.setCell ⟨d, 1, none⟩ (.slice (some ⟨gE, 0, none⟩) (z + 1 + 1) capE)) B (ndp n (.slice (some ⟨gN, 0, none⟩) l capN) (.slice (some ⟨gC, 0, none⟩) q capC) (L.set a t) cs ++ ([Pc.obj c #[(.slice (some ⟨gM, 0, none⟩) m capM), (.slice (some ⟨gB, 0, none⟩) (m + 1 + 1) capB)] 73, Pc.row 69 2 (.slice (some ⟨gM, 0, none⟩) m capM) (M.take m).length (gc encI (M.take m)), Pc.row 65 1 (.slice (some ⟨gB, 0, none⟩) (m + 1) capB) (m + 1) (gc encP (bs.take (m + 1)))] ++ (ndp d (.slice (some ⟨gQ, 0, none⟩) (z + 1) capQ) (.slice (some ⟨gE, 0, none⟩) (z + 1 + 1) capE) (s :: Q) (e0 :: ds) ++ (Pc.obj k #[.string t.1, .int .u64 t.2] 69 :: R))))) := h8.2; have z0 := cellO h8.1 1 rfl; have z1 := frozenO h8.1 1; have HB9 : Hid (Below B w (w9.setCell ⟨d, 1, none⟩ (.slice (some ⟨gE, 0, none⟩) (z + 1 + 1) capE))) := (below_gr HBA.out (Nat.le_trans hB HBA.out.size) HRA.out hg8).setCell (HSA.out.nd_ (ndp n (.slice (some ⟨gN, 0, none⟩) l capN) (.slice (some ⟨gC, 0, none⟩) q capC) (L.set a t) cs ++ [Pc.obj c #[(.slice (some ⟨gM, 0, none⟩) m capM), (.slice (some ⟨gB, 0, none⟩) (m + 1 + 1) capB)] 73, Pc.row 69 2 (.slice (some ⟨gM, 0, none⟩) m capM) (M.take m).length (gc encI (M.take m)), Pc.row 65 1 (.slice (some ⟨gB, 0, none⟩) (m + 1) capB) (m + 1) (gc encP (bs.take (m + 1)))])).bn _; clear ho8 hg8 ha8 h8)
  generalize w9.setCell ⟨d, 1, none⟩ (.slice (some ⟨gE, 0, none⟩) (z + 1 + 1) capE) = w10 at HS9 HB9 ⊢
  clear d0 d1 df0 df1 HBz HWA HGX HSA HRA HNE HBA HINS d1' z0 z1 HS8 HB8
  have y0 := cellO (HS9.out.obj (g := c) (a := #[(.slice (some ⟨gM, 0, none⟩) m capM), (.slice (some ⟨gB, 0, none⟩) (m + 1 + 1) capB)]) (T := 73) (by simp [ndp])) 1 rfl
  have y1 := frozenO (HS9.out.obj (g := c) (a := #[(.slice (some ⟨gM, 0, none⟩) m capM), (.slice (some ⟨gB, 0, none⟩) (m + 1 + 1) capB)]) (T := 73) (by simp [ndp])) 1
  have HS11 : Hid (Sep (w10.setCell ⟨c, 1, none⟩ (.slice (some ⟨gB, 0, none⟩) (m + 1) capB)) B (ndp n (.slice (some ⟨gN, 0, none⟩) l capN) (.slice (some ⟨gC, 0, none⟩) q capC) (L.set a t) cs ++ (ndp c (.slice (some ⟨gM, 0, none⟩) m capM) (.slice (some ⟨gB, 0, none⟩) (m + 1) capB) (M.take m) (bs.take (m + 1)) ++ (ndp d (.slice (some ⟨gQ, 0, none⟩) (z + 1) capQ) (.slice (some ⟨gE, 0, none⟩) (z + 1 + 1) capE) (s :: Q) (e0 :: ds) ++ (Pc.obj k #[.string t.1, .int .u64 t.2] 69 :: R))))) := by
    refine Sep.store (ndp n (.slice (some ⟨gN, 0, none⟩) l capN) (.slice (some ⟨gC, 0, none⟩) q capC) (L.set a t) cs) (a := #[(.slice (some ⟨gM, 0, none⟩) m capM), (.slice (some ⟨gB, 0, none⟩) (m + 1 + 1) capB)]) (T := 73) (Y := .row 69 2 (.slice (some ⟨gM, 0, none⟩) m capM) (M.take m).length (gc encI (M.take m)) :: .row 65 1 (.slice (some ⟨gB, 0, none⟩) (m + 1) capB) (bs.take (m + 1)).length (gc encP (bs.take (m + 1))) :: (ndp d (.slice (some ⟨gQ, 0, none⟩) (z + 1) capQ) (.slice (some ⟨gE, 0, none⟩) (z + 1 + 1) capE) (s :: Q) (e0 :: ds) ++ (Pc.obj k #[.string t.1, .int .u64 t.2] 69 :: R))) ?_ 1 (.slice (some ⟨gB, 0, none⟩) (m + 1) capB)
    rw [HLB.out]
    exact HS9.out
  have hbc : B ≤ c := (HS9.out.at_ (.obj c #[(.slice (some ⟨gM, 0, none⟩) m capM), (.slice (some ⟨gB, 0, none⟩) (m + 1 + 1) capB)] 73) (by simp [ndp])).2
  have HB11 : Hid (Below B w (w10.setCell ⟨c, 1, none⟩ (.slice (some ⟨gB, 0, none⟩) (m + 1) capB))) := HB9.out.setCell hbc _
  go_wp2_with fail
  refine bodyPost_end (results_none rfl _ _ _) rfl ?_
  refine ⟨rfl, ⟨t, e0, (.slice (some ⟨gN, 0, none⟩) l capN), (.slice (some ⟨gC, 0, none⟩) q capC), (.slice (some ⟨gM, 0, none⟩) m capM), (.slice (some ⟨gB, 0, none⟩) (m + 1) capB), (.slice (some ⟨gQ, 0, none⟩) (z + 1) capQ), (.slice (some ⟨gE, 0, none⟩) (z + 1 + 1) capE), HTM.out, HE0.out, HS11.out.sub ?_⟩, HB11.out⟩
  exact List.Sublist.append (List.Sublist.refl _) (List.Sublist.append (List.Sublist.refl _) (List.Sublist.append (List.Sublist.refl _) (List.sublist_cons_self _ _)))
end Go.Proofs.Ytelfjgnmbikofaa
