/-
  turnLeft, turnRight, join: items go between two children of a node. Conditions: lengths are such as memory bears.
-/
import Derived.Test.YtelfjgnmbikofaaBNd
import Derived.Deep.DeepCutAuto
import Derived.Deep.QuietTactic
import Derived.BigQuiet
namespace Go.Proofs.Ytelfjgnmbikofaa
open Go.RowKit
set_option linter.unusedVariables false
set_option maxRecDepth 100000

set_option maxHeartbeats 4000000 in
theorem turnLeft_leaf {w : World} {B n c d a : Nat} {vI vC wI wC uI uC : Value} {L M Q : List It} {cs : List Nat} {R : List Pc} {s : It}
    (hS : Sep w B (ndp n vI vC L cs ++ (ndp c wI wC M [] ++ (ndp d uI uC Q [] ++ R)))) (hac : cs[a]? = some c) (had : cs[a + 1]? = some d) (hs : L[a]? = some s) (hLn : L.length ≤ 1000) (hcn : cs.length ≤ 1000) (hMn : M.length ≤ 1000) (hQn : Q.length ≤ 1000) (hQ1 : 1 ≤ Q.length) (hB : B ≤ w.heap.size) :
    Calls Try.prog 66 #[.pointer (some ⟨n, 0, none⟩), .int .i64 (a : Int)] w fun e w' => e = .returned (.tuple #[]) ∧ (∃ t vI' vC' wI' wC' uI' uC', Q[0]? = some t ∧ Sep w' B (ndp n vI' vC' (L.set a t) cs ++ (ndp c wI' wC' (M ++ [s]) [] ++ (ndp d uI' uC' (Q.drop 1) [] ++ R)))) ∧ Below B w w' := by
  have HS : Hid (Sep w B (ndp n vI vC L cs ++ (ndp c wI wC M [] ++ (ndp d uI uC Q [] ++ R)))) := hS
  have hN := hS.nd_ []
  obtain ⟨n0, n1, _, _⟩ := hN.c
  have hal := (List.getElem?_eq_some_iff.1 had).1
  have hsl := (List.getElem?_eq_some_iff.1 hs).1
  obtain ⟨gC, capC, rfl, hC1, hC2, _, _, _, hCc⟩ := row_some hN.rC (by omega)
  have ca := hCc _ _ (gcP_at hac)
  have cb := hCc _ _ (gcP_at had)
  obtain ⟨q, HQ⟩ : ∃ q, Hid (cs.length = q) := ⟨_, rfl⟩
  rw [HQ.out] at hal hC1 hcn n1 HS
  have HAC : Hid (cs[a]? = some c) := hac
  have HAD : Hid (cs[a + 1]? = some d) := had
  have HSs : Hid (L[a]? = some s) := hs
  have HBQ : Hid (∀ nq, Below w.heap.size w (w.drewN nq)) := fun nq => ⟨rfl, rfl, rfl, Nat.le_refl _, fun _ _ => rfl⟩
  clear hS hN hCc hac had hs
  go_enter Try.func66, Try.ntmps66
  go_upto_region 0 with fail
  go_cut [4, 5] (fun t u wc => t = .pointer (some ⟨c, 0, none⟩) ∧ u = .pointer (some ⟨d, 0, none⟩) ∧ Hid (Sep wc B (ndp n vI (.slice (some ⟨gC, 0, none⟩) q capC) L cs ++ (ndp c wI wC M [] ++ (ndp d uI uC Q [] ++ R)))) ∧ Hid (Below B w wc))
  case first =>
    go_quiet (fail)
    go_wp2_with fail
    go_meet
    exact ⟨rfl, rfl, HS.out.below (HBQ.out _), (HBQ.out _).mono hB⟩
  case rest =>
  obtain ⟨rfl, rfl, HS1, HB1⟩ := hcut
  generalize wc = w1 at *
  clear n0 n1 ca cb HS HBQ
  obtain ⟨i1, hi1, hy0, hy1, hy2⟩ := info_partsG Try.infoI
  have hN := HS1.out.nd_ []
  have hC := HS1.out.nd_ (ndp n vI (.slice (some ⟨gC, 0, none⟩) q capC) L cs)
  have hD := HS1.out.nd_ (ndp n vI (.slice (some ⟨gC, 0, none⟩) q capC) L cs ++ ndp c wI wC M [])
  obtain ⟨n0, n1, nf0, nf1⟩ := hN.c
  obtain ⟨c0, c1, cf0, cf1⟩ := hC.c
  obtain ⟨d0, d1, df0, df1⟩ := hD.c
  obtain ⟨gN, capN, rfl, hN1, hN2, _, hNl, hNf, hNc⟩ := row_some hN.rI (by omega)
  obtain ⟨gQ, capQ, rfl, hQ2, hQ3, _, hQl, _, hQc⟩ := row_some hD.rI (by omega)
  obtain ⟨t, ht⟩ : ∃ t, Q[0]? = some t := ⟨Q[0]'(by omega), List.getElem?_eq_getElem _⟩
  have s0 := hNc _ _ (gc_at encI_len L _ _ HSs.out 0 _ rfl)
  have s1 := hNc _ _ (gc_at encI_len L _ _ HSs.out 1 _ rfl)
  rw [Nat.add_zero] at s0
  have HTQ : Hid (Q[0]? = some t) := ht
  have HRW : Hid (w1.ownsRow B 69 2 wI M.length (gc encI M)) := hC.rI
  obtain ⟨l, HLl⟩ : ∃ l, Hid (L.length = l) := ⟨_, rfl⟩
  obtain ⟨m, HMm⟩ : ∃ m, Hid (M.length = m) := ⟨_, rfl⟩
  obtain ⟨z, HZz⟩ : ∃ z, Hid (Q.length = z) := ⟨_, rfl⟩
  rw [HLl.out] at n0 hN1 hsl hLn HS1
  rw [HZz.out] at d0 hQ2 hQ1 hQn HS1
  rw [HMm.out] at hMn HRW
  have HBz : Hid (B ≤ w1.heap.size) := Nat.le_trans hB HB1.out.size
  have HWA : Hid (Below w1.heap.size w1 (w1.alloc (.cells (encI s).toArray 69)).drew) := ((Below.refl _ _).alloc (Nat.le_refl _) _).drew
  have HGX : Hid ((w1.alloc (.cells (encI s).toArray 69)).drew.heap[w1.heap.size]? = some (.cells (encI s).toArray 69 (0, 0))) := heap_alloc_new w1 _
  have HSA : Hid (Sep (w1.alloc (.cells (encI s).toArray 69)).drew B (ndp n (.slice (some ⟨gN, 0, none⟩) l capN) (.slice (some ⟨gC, 0, none⟩) q capC) L cs ++ (ndp c wI wC M [] ++ (ndp d (.slice (some ⟨gQ, 0, none⟩) z capQ) uC Q [] ++ R)))) := HS1.out.below HWA.out
  have HRA : Hid ((w1.alloc (.cells (encI s).toArray 69)).drew.ownsRow B 69 2 wI m (gc encI M)) := ownsRow_below HRW.out HWA.out
  have HBA : Hid (Below B w (w1.alloc (.cells (encI s).toArray 69)).drew) := HB1.out.trans (HWA.out.mono HBz.out)
  have HLY : Hid ((M ++ [s]).length = m + 1) := by unfold Hid; rw [List.length_append, HMm.out]; rfl
  have HON : Hid (∀ u ∈ encI s, u.oneCell' = true) := fun u hu => one_gcI [s] u (by rw [gc_one]; exact hu)
  have c0' : (w1.alloc (.cells #[.string s.1, .int .u64 s.2] 69)).cell? ⟨c, 0, none⟩ = some wI := cellO (HSA.out.nd_ (ndp n (.slice (some ⟨gN, 0, none⟩) l capN) (.slice (some ⟨gC, 0, none⟩) q capC) L cs)).o 0 rfl
  have hai : (a : Int) < (l : Int) := by omega
  clear hN hC hD hNc hQc ht
  go_upto_region 1 with fail
  go_cut [21] (fun t wc => t = .pointer (some ⟨c, 0, none⟩) ∧ Hid (∃ gM capM, Sep wc B (ndp n (.slice (some ⟨gN, 0, none⟩) l capN) (.slice (some ⟨gC, 0, none⟩) q capC) L cs ++ (ndp c (.slice (some ⟨gM, 0, none⟩) (m + 1) capM) wC (M ++ [s]) [] ++ (ndp d (.slice (some ⟨gQ, 0, none⟩) z capQ) uC Q [] ++ R)))) ∧ Hid (Below B w wc))
  case first =>
    go_region_law (refine step_append_G 34 rfl rfl (.tmp 25) (.tmp 33) 70 69 rfl i1 Try.underlying70 hi1 _ hy0 2 24 hy1 hy2 rfl (by omega) B wI m (gc encI M) ⟨w1.heap.size, 0, none⟩ 1 1 (encI s) rfl rfl HRA.out rfl (news_one HGX.out) HON.out (by omega) (by omega) (by omega) (Nat.le_trans hB HBA.out.size) ?_; intro gM capM w8 ho8 hg8 ha8; have h8 := HSA.out.ndI (wI' := .slice (some ⟨gM, 0, none⟩) (m + 1) capM) (M' := M ++ [s]) (ndp n (.slice (some ⟨gN, 0, none⟩) l capN) (.slice (some ⟨gC, 0, none⟩) q capC) L cs) (by rw [HLY.out, gc_append, gc_one]; exact ho8) hg8 (ha8.elim (fun e => Or.inl e.symm) (fun e => Or.inr (by intro x hx; simp [Value.ownBlock] at hx; rw [← hx, e]; exact Nat.le_refl _))); have HS8 : Hid (Sep (w8.setCell ⟨c, 0, none⟩ (.slice (some ⟨gM, 0, none⟩) (m + 1) capM)) B (ndp n (.slice (some ⟨gN, 0, none⟩) l capN) (.slice (some ⟨gC, 0, none⟩) q capC) L cs ++ (ndp c (.slice (some ⟨gM, 0, none⟩) (m + 1) capM) wC (M ++ [s]) [] ++ (ndp d (.slice (some ⟨gQ, 0, none⟩) z capQ) uC Q [] ++ R)))) := h8.2; have z0 := cellO h8.1 0 rfl; have z1 := frozenO h8.1 0; have HB8 : Hid (Below B w w8) := below_gr HBA.out (Nat.le_trans hB HBA.out.size) HRA.out hg8; have HB9 : Hid (Below B w (w8.setCell ⟨c, 0, none⟩ (.slice (some ⟨gM, 0, none⟩) (m + 1) capM))) := HB8.out.setCell (HSA.out.nd_ (ndp n (.slice (some ⟨gN, 0, none⟩) l capN) (.slice (some ⟨gC, 0, none⟩) q capC) L cs)).bn _; clear ho8 hg8 ha8 h8)
    all_goals (go_wp2_with fail)
    all_goals (go_meet; exact ⟨rfl, ⟨gM, capM, HS8.out⟩, HB9.out⟩)
  case rest =>
  obtain ⟨rfl, ⟨gM, capM, hS2⟩, HB2⟩ := hcut
  generalize wc = w2 at *
  clear n0 n1 nf0 nf1 c0 c1 cf0 cf1 d0 d1 df0 df1 hNl hNf hQl s0 s1 HRW HWA HGX HSA HRA HBA c0' HBz
  have HS2 : Hid (Sep w2 B (ndp n (.slice (some ⟨gN, 0, none⟩) l capN) (.slice (some ⟨gC, 0, none⟩) q capC) L cs ++ (ndp c (.slice (some ⟨gM, 0, none⟩) (m + 1) capM) wC (M ++ [s]) [] ++ (ndp d (.slice (some ⟨gQ, 0, none⟩) z capQ) uC Q [] ++ R)))) := hS2
  have hN := hS2.nd_ []
  have hD := hS2.nd_ (ndp n (.slice (some ⟨gN, 0, none⟩) l capN) (.slice (some ⟨gC, 0, none⟩) q capC) L cs ++ ndp c (.slice (some ⟨gM, 0, none⟩) (m + 1) capM) wC (M ++ [s]) [])
  obtain ⟨n0, n1, nf0, nf1⟩ := hN.c
  obtain ⟨d0, d1, df0, df1⟩ := hD.c
  obtain ⟨hNB, hNl, hNf, hNc⟩ := row_at hN.rI
  obtain ⟨hQB, hQl, hQf, hQc⟩ := row_at hD.rI
  have s0 := hNc _ _ (gc_at encI_len L _ _ HSs.out 0 _ rfl)
  have s1 := hNc _ _ (gc_at encI_len L _ _ HSs.out 1 _ rfl)
  rw [Nat.add_zero] at s0
  have q0 := hQc _ _ (gc_at encI_len Q _ _ HTQ.out 0 _ rfl)
  have q1 := hQc _ _ (gc_at encI_len Q _ _ HTQ.out 1 _ rfl)
  simp only [Nat.zero_mul, Nat.zero_add] at q0 q1
  have z0 := hNf (a * 2)
  have z1 := hNf (a * 2 + 1)
  have HS3 : Hid (Sep ((w2.drew.setCell ⟨gN, a * 2, none⟩ (.string t.1)).setCell ⟨gN, a * 2 + 1, none⟩ (.int .u64 t.2)) B (ndp n (.slice (some ⟨gN, 0, none⟩) l capN) (.slice (some ⟨gC, 0, none⟩) q capC) (L.set a t) cs ++ (ndp c (.slice (some ⟨gM, 0, none⟩) (m + 1) capM) wC (M ++ [s]) [] ++ (ndp d (.slice (some ⟨gQ, 0, none⟩) z capQ) uC Q [] ++ R)))) := Sep.ndSet [] (HS2.out.below (Below.refl _ _).drew) HLl.out a hsl t
  have HGN : Hid (B ≤ gN) := hNB
  have HB3 : Hid (Below B w ((w2.drew.setCell ⟨gN, a * 2, none⟩ (.string t.1)).setCell ⟨gN, a * 2 + 1, none⟩ (.int .u64 t.2))) := (HB2.out.drew.setCell HGN.out _).setCell HGN.out _
  clear hN hD hNc hQc hS2 hQf
  have hz0 : 0 < z := by omega
  go_upto_region 2 with fail
  go_cut [37] (fun t' wc => t' = .pointer (some ⟨n, 0, none⟩) ∧ Hid (Sep wc B (ndp n (.slice (some ⟨gN, 0, none⟩) l capN) (.slice (some ⟨gC, 0, none⟩) q capC) (L.set a t) cs ++ (ndp c (.slice (some ⟨gM, 0, none⟩) (m + 1) capM) wC (M ++ [s]) [] ++ (ndp d (.slice (some ⟨gQ, 0, none⟩) z capQ) uC Q [] ++ R)))) ∧ Hid (Below B w wc))
  case first =>
    go_region_law (fail)
    all_goals (go_wp2_with fail)
    all_goals (go_meet; exact ⟨rfl, HS3.out, HB3.out⟩)
  case rest =>
  obtain ⟨rfl, HS4, HB4⟩ := hcut
  generalize wc = w4 at *
  clear n0 n1 nf0 nf1 d0 d1 df0 df1 hNl hNf hQl s0 s1 q0 q1 z0 z1 HS3 HB3 HS2 HB2 HGN
  obtain ⟨d0, d1, df0, df1⟩ := (HS4.out.nd_ (ndp n (.slice (some ⟨gN, 0, none⟩) l capN) (.slice (some ⟨gC, 0, none⟩) q capC) (L.set a t) cs ++ ndp c (.slice (some ⟨gM, 0, none⟩) (m + 1) capM) wC (M ++ [s]) [])).c
  have HRD : Hid (w4.ownsRow B 69 2 (.slice (some ⟨gQ, 0, none⟩) z capQ) z (gc encI Q)) := by have := (HS4.out.nd_ (ndp n (.slice (some ⟨gN, 0, none⟩) l capN) (.slice (some ⟨gC, 0, none⟩) q capC) (L.set a t) cs ++ ndp c (.slice (some ⟨gM, 0, none⟩) (m + 1) capM) wC (M ++ [s]) [])).rI; rw [HZz.out] at this; exact this
  have HDEL : Hid _ := sdelI HZz.out HRD.out 0 1 (by omega) hQ1 (by omega)
  have HQM : Hid (Q.take 0 ++ Q.drop 1 = Q.drop 1) := by unfold Hid; rw [List.take_zero, List.nil_append]
  have HLD : Hid ((Q.drop 1).length = z - 1) := by unfold Hid; rw [List.length_drop, HZz.out]
  have HB4z : Hid (B ≤ w4.heap.size) := Nat.le_trans hB HB4.out.size
  go_upto_region 4 with (go_at_call 48; refine Calls.mono HDEL.out ?_; rintro e w5 ⟨rfl, ho5, hg5⟩; rw [HQM.out] at ho5; have h5 := HS4.out.ndI (wI' := (.slice (some ⟨gQ, 0, none⟩) (z - 1) capQ)) (M' := Q.drop 1) (ndp n (.slice (some ⟨gN, 0, none⟩) l capN) (.slice (some ⟨gC, 0, none⟩) q capC) (L.set a t) cs ++ ndp c (.slice (some ⟨gM, 0, none⟩) (m + 1) capM) wC (M ++ [s]) []) (by rw [HLD.out]; exact ho5) hg5 (Or.inl rfl); have HS5 : Hid (Sep (w5.setCell ⟨d, 0, none⟩ (.slice (some ⟨gQ, 0, none⟩) (z - 1) capQ)) B (ndp n (.slice (some ⟨gN, 0, none⟩) l capN) (.slice (some ⟨gC, 0, none⟩) q capC) (L.set a t) cs ++ (ndp c (.slice (some ⟨gM, 0, none⟩) (m + 1) capM) wC (M ++ [s]) [] ++ (ndp d (.slice (some ⟨gQ, 0, none⟩) (z - 1) capQ) uC (Q.drop 1) [] ++ R)))) := h5.2; have z0 := cellO h5.1 0 rfl; have z1 := frozenO h5.1 0; have HB5 : Hid (Below B w (w5.setCell ⟨d, 0, none⟩ (.slice (some ⟨gQ, 0, none⟩) (z - 1) capQ))) := (below_gr HB4.out HB4z.out HRD.out hg5).setCell (HS4.out.nd_ (ndp n (.slice (some ⟨gN, 0, none⟩) l capN) (.slice (some ⟨gC, 0, none⟩) q capC) (L.set a t) cs ++ ndp c (.slice (some ⟨gM, 0, none⟩) (m + 1) capM) wC (M ++ [s]) [])).bn _; clear ho5 hg5 h5)
  generalize w5.setCell ⟨d, 0, none⟩ (.slice (some ⟨gQ, 0, none⟩) (z - 1) capQ) = w6 at HS5 HB5 ⊢
  clear d0 d1 df0 df1 HRD HDEL z0 z1 HS4 HB4 HB4z
  obtain ⟨d0, d1, df0, df1⟩ := (HS5.out.nd_ (ndp n (.slice (some ⟨gN, 0, none⟩) l capN) (.slice (some ⟨gC, 0, none⟩) q capC) (L.set a t) cs ++ ndp c (.slice (some ⟨gM, 0, none⟩) (m + 1) capM) wC (M ++ [s]) [])).c
  obtain ⟨ao, capL, rfl⟩ := row_zero (HS5.out.nd_ (ndp n (.slice (some ⟨gN, 0, none⟩) l capN) (.slice (some ⟨gC, 0, none⟩) q capC) (L.set a t) cs ++ ndp c (.slice (some ⟨gM, 0, none⟩) (m + 1) capM) wC (M ++ [s]) [])).rC
  have HIL : Hid _ := isLeaf_z (n := d) (w := w6) (ao := ao) (cap := capL) d1
  go_wp2_with (go_at_call 45; refine Calls.mono HIL.out ?_; rintro e w7 ⟨rfl, hw7⟩; obtain rfl := hw7.symm)
  refine bodyPost_end (results_none rfl _ _ _) rfl ?_
  exact ⟨rfl, ⟨t, _, _, _, _, _, _, HTQ.out, HS5.out⟩, HB5.out⟩
set_option maxHeartbeats 4000000 in
theorem turnLeft_node {w : World} {B n c d a : Nat} {vI vC wI wC uI uC : Value} {L M Q : List It} {cs bs ds : List Nat} {R : List Pc} {s : It}
    (hS : Sep w B (ndp n vI vC L cs ++ (ndp c wI wC M bs ++ (ndp d uI uC Q ds ++ R)))) (hac : cs[a]? = some c) (had : cs[a + 1]? = some d) (hs : L[a]? = some s) (hLn : L.length ≤ 1000) (hcn : cs.length ≤ 1000) (hMn : M.length ≤ 1000) (hQn : Q.length ≤ 1000) (hbs : bs.length = M.length + 1) (hds : ds.length = Q.length + 1) (hQ1 : 1 ≤ Q.length) (hB : B ≤ w.heap.size) :
    Calls Try.prog 66 #[.pointer (some ⟨n, 0, none⟩), .int .i64 (a : Int)] w fun e w' => e = .returned (.tuple #[]) ∧ (∃ t e vI' vC' wI' wC' uI' uC', Q[0]? = some t ∧ ds[0]? = some e ∧ Sep w' B (ndp n vI' vC' (L.set a t) cs ++ (ndp c wI' wC' (M ++ [s]) (bs ++ [e]) ++ (ndp d uI' uC' (Q.drop 1) (ds.drop 1) ++ R)))) ∧ Below B w w' := by
  have HS : Hid (Sep w B (ndp n vI vC L cs ++ (ndp c wI wC M bs ++ (ndp d uI uC Q ds ++ R)))) := hS
  have hN := hS.nd_ []
  obtain ⟨n0, n1, _, _⟩ := hN.c
  have hal := (List.getElem?_eq_some_iff.1 had).1
  have hsl := (List.getElem?_eq_some_iff.1 hs).1
  obtain ⟨gC, capC, rfl, hC1, hC2, _, _, _, hCc⟩ := row_some hN.rC (by omega)
  have ca := hCc _ _ (gcP_at hac)
  have cb := hCc _ _ (gcP_at had)
  obtain ⟨q, HQ⟩ : ∃ q, Hid (cs.length = q) := ⟨_, rfl⟩
  rw [HQ.out] at hal hC1 hcn n1 HS
  have HAC : Hid (cs[a]? = some c) := hac
  have HAD : Hid (cs[a + 1]? = some d) := had
  have HSs : Hid (L[a]? = some s) := hs
  have HBQ : Hid (∀ nq, Below w.heap.size w (w.drewN nq)) := fun nq => ⟨rfl, rfl, rfl, Nat.le_refl _, fun _ _ => rfl⟩
  clear hS hN hCc hac had hs
  go_enter Try.func66, Try.ntmps66
  go_upto_region 0 with fail
  go_cut [4, 5] (fun t u wc => t = .pointer (some ⟨c, 0, none⟩) ∧ u = .pointer (some ⟨d, 0, none⟩) ∧ Hid (Sep wc B (ndp n vI (.slice (some ⟨gC, 0, none⟩) q capC) L cs ++ (ndp c wI wC M bs ++ (ndp d uI uC Q ds ++ R)))) ∧ Hid (Below B w wc))
  case first =>
    go_quiet (fail)
    go_wp2_with fail
    go_meet
    exact ⟨rfl, rfl, HS.out.below (HBQ.out _), (HBQ.out _).mono hB⟩
  case rest =>
  obtain ⟨rfl, rfl, HS1, HB1⟩ := hcut
  generalize wc = w1 at *
  clear n0 n1 ca cb HS HBQ
  obtain ⟨i1, hi1, hy0, hy1, hy2⟩ := info_partsG Try.infoI
  have hN := HS1.out.nd_ []
  have hC := HS1.out.nd_ (ndp n vI (.slice (some ⟨gC, 0, none⟩) q capC) L cs)
  have hD := HS1.out.nd_ (ndp n vI (.slice (some ⟨gC, 0, none⟩) q capC) L cs ++ ndp c wI wC M bs)
  obtain ⟨n0, n1, nf0, nf1⟩ := hN.c
  obtain ⟨c0, c1, cf0, cf1⟩ := hC.c
  obtain ⟨d0, d1, df0, df1⟩ := hD.c
  obtain ⟨gN, capN, rfl, hN1, hN2, _, hNl, hNf, hNc⟩ := row_some hN.rI (by omega)
  obtain ⟨gQ, capQ, rfl, hQ2, hQ3, _, hQl, _, hQc⟩ := row_some hD.rI (by omega)
  obtain ⟨t, ht⟩ : ∃ t, Q[0]? = some t := ⟨Q[0]'(by omega), List.getElem?_eq_getElem _⟩
  have s0 := hNc _ _ (gc_at encI_len L _ _ HSs.out 0 _ rfl)
  have s1 := hNc _ _ (gc_at encI_len L _ _ HSs.out 1 _ rfl)
  rw [Nat.add_zero] at s0
  have HTQ : Hid (Q[0]? = some t) := ht
  have HRW : Hid (w1.ownsRow B 69 2 wI M.length (gc encI M)) := hC.rI
  obtain ⟨l, HLl⟩ : ∃ l, Hid (L.length = l) := ⟨_, rfl⟩
  obtain ⟨m, HMm⟩ : ∃ m, Hid (M.length = m) := ⟨_, rfl⟩
  obtain ⟨z, HZz⟩ : ∃ z, Hid (Q.length = z) := ⟨_, rfl⟩
  rw [HLl.out] at n0 hN1 hsl hLn HS1
  rw [HZz.out] at d0 hQ2 hQ1 hQn HS1
  rw [HMm.out] at hMn HRW
  have HBz : Hid (B ≤ w1.heap.size) := Nat.le_trans hB HB1.out.size
  have HWA : Hid (Below w1.heap.size w1 (w1.alloc (.cells (encI s).toArray 69)).drew) := ((Below.refl _ _).alloc (Nat.le_refl _) _).drew
  have HGX : Hid ((w1.alloc (.cells (encI s).toArray 69)).drew.heap[w1.heap.size]? = some (.cells (encI s).toArray 69 (0, 0))) := heap_alloc_new w1 _
  have HSA : Hid (Sep (w1.alloc (.cells (encI s).toArray 69)).drew B (ndp n (.slice (some ⟨gN, 0, none⟩) l capN) (.slice (some ⟨gC, 0, none⟩) q capC) L cs ++ (ndp c wI wC M bs ++ (ndp d (.slice (some ⟨gQ, 0, none⟩) z capQ) uC Q ds ++ R)))) := HS1.out.below HWA.out
  have HRA : Hid ((w1.alloc (.cells (encI s).toArray 69)).drew.ownsRow B 69 2 wI m (gc encI M)) := ownsRow_below HRW.out HWA.out
  have HBA : Hid (Below B w (w1.alloc (.cells (encI s).toArray 69)).drew) := HB1.out.trans (HWA.out.mono HBz.out)
  have HLY : Hid ((M ++ [s]).length = m + 1) := by unfold Hid; rw [List.length_append, HMm.out]; rfl
  have HON : Hid (∀ u ∈ encI s, u.oneCell' = true) := fun u hu => one_gcI [s] u (by rw [gc_one]; exact hu)
  have c0' : (w1.alloc (.cells #[.string s.1, .int .u64 s.2] 69)).cell? ⟨c, 0, none⟩ = some wI := cellO (HSA.out.nd_ (ndp n (.slice (some ⟨gN, 0, none⟩) l capN) (.slice (some ⟨gC, 0, none⟩) q capC) L cs)).o 0 rfl
  have hai : (a : Int) < (l : Int) := by omega
  clear hN hC hD hNc hQc ht
  go_upto_region 1 with fail
  go_cut [21] (fun t wc => t = .pointer (some ⟨c, 0, none⟩) ∧ Hid (∃ gM capM, Sep wc B (ndp n (.slice (some ⟨gN, 0, none⟩) l capN) (.slice (some ⟨gC, 0, none⟩) q capC) L cs ++ (ndp c (.slice (some ⟨gM, 0, none⟩) (m + 1) capM) wC (M ++ [s]) bs ++ (ndp d (.slice (some ⟨gQ, 0, none⟩) z capQ) uC Q ds ++ R)))) ∧ Hid (Below B w wc))
  case first =>
    go_region_law (refine step_append_G 34 rfl rfl (.tmp 25) (.tmp 33) 70 69 rfl i1 Try.underlying70 hi1 _ hy0 2 24 hy1 hy2 rfl (by omega) B wI m (gc encI M) ⟨w1.heap.size, 0, none⟩ 1 1 (encI s) rfl rfl HRA.out rfl (news_one HGX.out) HON.out (by omega) (by omega) (by omega) (Nat.le_trans hB HBA.out.size) ?_; intro gM capM w8 ho8 hg8 ha8; have h8 := HSA.out.ndI (wI' := .slice (some ⟨gM, 0, none⟩) (m + 1) capM) (M' := M ++ [s]) (ndp n (.slice (some ⟨gN, 0, none⟩) l capN) (.slice (some ⟨gC, 0, none⟩) q capC) L cs) (by rw [HLY.out, gc_append, gc_one]; exact ho8) hg8 (ha8.elim (fun e => Or.inl e.symm) (fun e => Or.inr (by intro x hx; simp [Value.ownBlock] at hx; rw [← hx, e]; exact Nat.le_refl _))); have HS8 : Hid (Sep (w8.setCell ⟨c, 0, none⟩ (.slice (some ⟨gM, 0, none⟩) (m + 1) capM)) B (ndp n (.slice (some ⟨gN, 0, none⟩) l capN) (.slice (some ⟨gC, 0, none⟩) q capC) L cs ++ (ndp c (.slice (some ⟨gM, 0, none⟩) (m + 1) capM) wC (M ++ [s]) bs ++ (ndp d (.slice (some ⟨gQ, 0, none⟩) z capQ) uC Q ds ++ R)))) := h8.2; have z0 := cellO h8.1 0 rfl; have z1 := frozenO h8.1 0; have HB8 : Hid (Below B w w8) := below_gr HBA.out (Nat.le_trans hB HBA.out.size) HRA.out hg8; have HB9 : Hid (Below B w (w8.setCell ⟨c, 0, none⟩ (.slice (some ⟨gM, 0, none⟩) (m + 1) capM))) := HB8.out.setCell (HSA.out.nd_ (ndp n (.slice (some ⟨gN, 0, none⟩) l capN) (.slice (some ⟨gC, 0, none⟩) q capC) L cs)).bn _; clear ho8 hg8 ha8 h8)
    all_goals (go_wp2_with fail)
    all_goals (go_meet; exact ⟨rfl, ⟨gM, capM, HS8.out⟩, HB9.out⟩)
  case rest =>
  obtain ⟨rfl, ⟨gM, capM, hS2⟩, HB2⟩ := hcut
  generalize wc = w2 at *
  clear n0 n1 nf0 nf1 c0 c1 cf0 cf1 d0 d1 df0 df1 hNl hNf hQl s0 s1 HRW HWA HGX HSA HRA HBA c0' HBz
  have HS2 : Hid (Sep w2 B (ndp n (.slice (some ⟨gN, 0, none⟩) l capN) (.slice (some ⟨gC, 0, none⟩) q capC) L cs ++ (ndp c (.slice (some ⟨gM, 0, none⟩) (m + 1) capM) wC (M ++ [s]) bs ++ (ndp d (.slice (some ⟨gQ, 0, none⟩) z capQ) uC Q ds ++ R)))) := hS2
  have hN := hS2.nd_ []
  have hD := hS2.nd_ (ndp n (.slice (some ⟨gN, 0, none⟩) l capN) (.slice (some ⟨gC, 0, none⟩) q capC) L cs ++ ndp c (.slice (some ⟨gM, 0, none⟩) (m + 1) capM) wC (M ++ [s]) bs)
  obtain ⟨n0, n1, nf0, nf1⟩ := hN.c
  obtain ⟨d0, d1, df0, df1⟩ := hD.c
  obtain ⟨hNB, hNl, hNf, hNc⟩ := row_at hN.rI
  obtain ⟨hQB, hQl, hQf, hQc⟩ := row_at hD.rI
  have s0 := hNc _ _ (gc_at encI_len L _ _ HSs.out 0 _ rfl)
  have s1 := hNc _ _ (gc_at encI_len L _ _ HSs.out 1 _ rfl)
  rw [Nat.add_zero] at s0
  have q0 := hQc _ _ (gc_at encI_len Q _ _ HTQ.out 0 _ rfl)
  have q1 := hQc _ _ (gc_at encI_len Q _ _ HTQ.out 1 _ rfl)
  simp only [Nat.zero_mul, Nat.zero_add] at q0 q1
  have z0 := hNf (a * 2)
  have z1 := hNf (a * 2 + 1)
  have HS3 : Hid (Sep ((w2.drew.setCell ⟨gN, a * 2, none⟩ (.string t.1)).setCell ⟨gN, a * 2 + 1, none⟩ (.int .u64 t.2)) B (ndp n (.slice (some ⟨gN, 0, none⟩) l capN) (.slice (some ⟨gC, 0, none⟩) q capC) (L.set a t) cs ++ (ndp c (.slice (some ⟨gM, 0, none⟩) (m + 1) capM) wC (M ++ [s]) bs ++ (ndp d (.slice (some ⟨gQ, 0, none⟩) z capQ) uC Q ds ++ R)))) := Sep.ndSet [] (HS2.out.below (Below.refl _ _).drew) HLl.out a hsl t
  have HGN : Hid (B ≤ gN) := hNB
  have HB3 : Hid (Below B w ((w2.drew.setCell ⟨gN, a * 2, none⟩ (.string t.1)).setCell ⟨gN, a * 2 + 1, none⟩ (.int .u64 t.2))) := (HB2.out.drew.setCell HGN.out _).setCell HGN.out _
  clear hN hD hNc hQc hS2 hQf
  have hz0 : 0 < z := by omega
  go_upto_region 2 with fail
  go_cut [37] (fun t' wc => t' = .pointer (some ⟨n, 0, none⟩) ∧ Hid (Sep wc B (ndp n (.slice (some ⟨gN, 0, none⟩) l capN) (.slice (some ⟨gC, 0, none⟩) q capC) (L.set a t) cs ++ (ndp c (.slice (some ⟨gM, 0, none⟩) (m + 1) capM) wC (M ++ [s]) bs ++ (ndp d (.slice (some ⟨gQ, 0, none⟩) z capQ) uC Q ds ++ R)))) ∧ Hid (Below B w wc))
  case first =>
    go_region_law (fail)
    all_goals (go_wp2_with fail)
    all_goals (go_meet; exact ⟨rfl, HS3.out, HB3.out⟩)
  case rest =>
  obtain ⟨rfl, HS4, HB4⟩ := hcut
  generalize wc = w4 at *
  clear n0 n1 nf0 nf1 d0 d1 df0 df1 hNl hNf hQl s0 s1 q0 q1 z0 z1 HS3 HB3 HS2 HB2 HGN
  obtain ⟨d0, d1, df0, df1⟩ := (HS4.out.nd_ (ndp n (.slice (some ⟨gN, 0, none⟩) l capN) (.slice (some ⟨gC, 0, none⟩) q capC) (L.set a t) cs ++ ndp c (.slice (some ⟨gM, 0, none⟩) (m + 1) capM) wC (M ++ [s]) bs)).c
  have HRD : Hid (w4.ownsRow B 69 2 (.slice (some ⟨gQ, 0, none⟩) z capQ) z (gc encI Q)) := by have := (HS4.out.nd_ (ndp n (.slice (some ⟨gN, 0, none⟩) l capN) (.slice (some ⟨gC, 0, none⟩) q capC) (L.set a t) cs ++ ndp c (.slice (some ⟨gM, 0, none⟩) (m + 1) capM) wC (M ++ [s]) bs)).rI; rw [HZz.out] at this; exact this
  have HDEL : Hid _ := sdelI HZz.out HRD.out 0 1 (by omega) hQ1 (by omega)
  have HQM : Hid (Q.take 0 ++ Q.drop 1 = Q.drop 1) := by unfold Hid; rw [List.take_zero, List.nil_append]
  have HLD : Hid ((Q.drop 1).length = z - 1) := by unfold Hid; rw [List.length_drop, HZz.out]
  have HB4z : Hid (B ≤ w4.heap.size) := Nat.le_trans hB HB4.out.size
  go_upto_region 4 with (go_at_call 48; refine Calls.mono HDEL.out ?_; rintro e w5 ⟨rfl, ho5, hg5⟩; rw [HQM.out] at ho5; have h5 := HS4.out.ndI (wI' := (.slice (some ⟨gQ, 0, none⟩) (z - 1) capQ)) (M' := Q.drop 1) (ndp n (.slice (some ⟨gN, 0, none⟩) l capN) (.slice (some ⟨gC, 0, none⟩) q capC) (L.set a t) cs ++ ndp c (.slice (some ⟨gM, 0, none⟩) (m + 1) capM) wC (M ++ [s]) bs) (by rw [HLD.out]; exact ho5) hg5 (Or.inl rfl); have HS5 : Hid (Sep (w5.setCell ⟨d, 0, none⟩ (.slice (some ⟨gQ, 0, none⟩) (z - 1) capQ)) B (ndp n (.slice (some ⟨gN, 0, none⟩) l capN) (.slice (some ⟨gC, 0, none⟩) q capC) (L.set a t) cs ++ (ndp c (.slice (some ⟨gM, 0, none⟩) (m + 1) capM) wC (M ++ [s]) bs ++ (ndp d (.slice (some ⟨gQ, 0, none⟩) (z - 1) capQ) uC (Q.drop 1) ds ++ R)))) := h5.2; have z0 := cellO h5.1 0 rfl; have z1 := frozenO h5.1 0; have HB5 : Hid (Below B w (w5.setCell ⟨d, 0, none⟩ (.slice (some ⟨gQ, 0, none⟩) (z - 1) capQ))) := (below_gr HB4.out HB4z.out HRD.out hg5).setCell (HS4.out.nd_ (ndp n (.slice (some ⟨gN, 0, none⟩) l capN) (.slice (some ⟨gC, 0, none⟩) q capC) (L.set a t) cs ++ ndp c (.slice (some ⟨gM, 0, none⟩) (m + 1) capM) wC (M ++ [s]) bs)).bn _; clear ho5 hg5 h5)
  generalize w5.setCell ⟨d, 0, none⟩ (.slice (some ⟨gQ, 0, none⟩) (z - 1) capQ) = w6 at HS5 HB5 ⊢
  clear d0 d1 df0 df1 HRD HDEL z0 z1 HS4 HB4 HB4z
  obtain ⟨d0, d1, df0, df1⟩ := (HS5.out.nd_ (ndp n (.slice (some ⟨gN, 0, none⟩) l capN) (.slice (some ⟨gC, 0, none⟩) q capC) (L.set a t) cs ++ ndp c (.slice (some ⟨gM, 0, none⟩) (m + 1) capM) wC (M ++ [s]) bs)).c
  obtain ⟨j1, hj1, hv0, hv1, hv2⟩ := info_partsG Try.infoP
  have hD := HS5.out.nd_ (ndp n (.slice (some ⟨gN, 0, none⟩) l capN) (.slice (some ⟨gC, 0, none⟩) q capC) (L.set a t) cs ++ ndp c (.slice (some ⟨gM, 0, none⟩) (m + 1) capM) wC (M ++ [s]) bs)
  have hC := HS5.out.nd_ (ndp n (.slice (some ⟨gN, 0, none⟩) l capN) (.slice (some ⟨gC, 0, none⟩) q capC) (L.set a t) cs)
  obtain ⟨c0, c1, cf0, cf1⟩ := hC.c
  have hrD := hD.rC
  rw [hds, HZz.out] at hrD
  obtain ⟨gE, capE, rfl, hE1, hE2, _, hEl, _, hEc⟩ := row_some hrD (by omega)
  obtain ⟨e0, he0⟩ : ∃ e0, ds[0]? = some e0 := ⟨ds[0]'(by omega), List.getElem?_eq_getElem _⟩
  have ce := hEc _ _ (gcP_at he0)
  have HIL : Hid _ := isLeaf_no (n := d) (w := w6) (ad := ⟨gE, 0, none⟩) (k := z + 1) (cap := capE) d1 (by omega)
  have HE0 : Hid (ds[0]? = some e0) := he0
  have HRB : Hid (w6.ownsRow B 65 1 wC (m + 1) (gc encP bs)) := by have := hC.rC; rw [hbs, HMm.out] at this; exact this
  have HBz : Hid (B ≤ w6.heap.size) := Nat.le_trans hB HB5.out.size
  have HWA : Hid (Below w6.heap.size w6 (w6.alloc (.cells (encP e0).toArray 65)).drew) := ((Below.refl _ _).alloc (Nat.le_refl _) _).drew
  have HGX : Hid ((w6.alloc (.cells (encP e0).toArray 65)).drew.heap[w6.heap.size]? = some (.cells (encP e0).toArray 65 (0, 0))) := heap_alloc_new w6 _
  have HSA : Hid (Sep (w6.alloc (.cells (encP e0).toArray 65)).drew B (ndp n (.slice (some ⟨gN, 0, none⟩) l capN) (.slice (some ⟨gC, 0, none⟩) q capC) (L.set a t) cs ++ (ndp c (.slice (some ⟨gM, 0, none⟩) (m + 1) capM) wC (M ++ [s]) bs ++ (ndp d (.slice (some ⟨gQ, 0, none⟩) (z - 1) capQ) (.slice (some ⟨gE, 0, none⟩) (z + 1) capE) (Q.drop 1) ds ++ R)))) := HS5.out.below HWA.out
  have HRA : Hid ((w6.alloc (.cells (encP e0).toArray 65)).drew.ownsRow B 65 1 wC (m + 1) (gc encP bs)) := ownsRow_below HRB.out HWA.out
  have HBA : Hid (Below B w (w6.alloc (.cells (encP e0).toArray 65)).drew) := HB5.out.trans (HWA.out.mono HBz.out)
  have HLY2 : Hid ((bs ++ [e0]).length = m + 1 + 1) := by unfold Hid; rw [List.length_append, hbs, HMm.out]; rfl
  have HON2 : Hid (∀ u ∈ encP e0, u.oneCell' = true) := fun u hu => one_gcP [e0] u (by rw [gc_one]; exact hu)
  have c1' : (w6.alloc (.cells #[.pointer (some ⟨e0, 0, none⟩)] 65)).cell? ⟨c, 1, none⟩ = some wC := cellO (HSA.out.nd_ (ndp n (.slice (some ⟨gN, 0, none⟩) l capN) (.slice (some ⟨gC, 0, none⟩) q capC) (L.set a t) cs)).o 1 rfl
  have HDS : Hid (ds.length = z + 1) := by unfold Hid; rw [hds, HZz.out]
  have hz1 : (0 : Int) < (z : Int) + 1 := by omega
  clear hD hC hrD hEc he0 hbs hds
  go_upto_region 5 with (go_at_call 45; refine Calls.mono HIL.out ?_; rintro e w7 ⟨rfl, hw7⟩; obtain rfl := hw7.symm)
  go_cut [60] (fun t' wc => t' = .pointer (some ⟨c, 0, none⟩) ∧ Hid (∃ gB capB, Sep wc B (ndp n (.slice (some ⟨gN, 0, none⟩) l capN) (.slice (some ⟨gC, 0, none⟩) q capC) (L.set a t) cs ++ (ndp c (.slice (some ⟨gM, 0, none⟩) (m + 1) capM) (.slice (some ⟨gB, 0, none⟩) (m + 1 + 1) capB) (M ++ [s]) (bs ++ [e0]) ++ (ndp d (.slice (some ⟨gQ, 0, none⟩) (z - 1) capQ) (.slice (some ⟨gE, 0, none⟩) (z + 1) capE) (Q.drop 1) ds ++ R)))) ∧ Hid (Below B w wc))
  case first =>
    go_region_law (refine step_append_G 72 rfl rfl (.tmp 64) (.tmp 71) 71 65 rfl j1 Try.underlying71 hj1 _ hv0 1 8 hv1 hv2 rfl (by omega) B wC (m + 1) (gc encP bs) ⟨w6.heap.size, 0, none⟩ 1 1 (encP e0) rfl rfl HRA.out rfl (news_one HGX.out) HON2.out (by omega) (by omega) (by omega) (Nat.le_trans hB HBA.out.size) ?_; intro gB capB w8 ho8 hg8 ha8; have h8 := HSA.out.ndC (wC' := .slice (some ⟨gB, 0, none⟩) (m + 1 + 1) capB) (bs' := bs ++ [e0]) (ndp n (.slice (some ⟨gN, 0, none⟩) l capN) (.slice (some ⟨gC, 0, none⟩) q capC) (L.set a t) cs) (by rw [HLY2.out, gc_append, gc_one]; exact ho8) hg8 (ha8.elim (fun e => Or.inl e.symm) (fun e => Or.inr (by intro x hx; simp [Value.ownBlock] at hx; rw [← hx, e]; exact Nat.le_refl _))); have HS8 : Hid (Sep (w8.setCell ⟨c, 1, none⟩ (.slice (some ⟨gB, 0, none⟩) (m + 1 + 1) capB)) B (ndp n (.slice (some ⟨gN, 0, none⟩) l capN) (.slice (some ⟨gC, 0, none⟩) q capC) (L.set a t) cs ++ (ndp c (.slice (some ⟨gM, 0, none⟩) (m + 1) capM) (.slice (some ⟨gB, 0, none⟩) (m + 1 + 1) capB) (M ++ [s]) (bs ++ [e0]) ++ (ndp d (.slice (some ⟨gQ, 0, none⟩) (z - 1) capQ) (.slice (some ⟨gE, 0, none⟩) (z + 1) capE) (Q.drop 1) ds ++ R)))) := h8.2; have z0 := cellO h8.1 1 rfl; have z1 := frozenO h8.1 1; have HB9 : Hid (Below B w (w8.setCell ⟨c, 1, none⟩ (.slice (some ⟨gB, 0, none⟩) (m + 1 + 1) capB))) := (below_gr HBA.out (Nat.le_trans hB HBA.out.size) HRA.out hg8).setCell (HSA.out.nd_ (ndp n (.slice (some ⟨gN, 0, none⟩) l capN) (.slice (some ⟨gC, 0, none⟩) q capC) (L.set a t) cs)).bn _; clear ho8 hg8 ha8 h8)
    all_goals (go_wp2_with fail)
    all_goals (go_meet; exact ⟨rfl, ⟨gB, capB, HS8.out⟩, HB9.out⟩)
  case rest =>
  obtain ⟨rfl, ⟨gB, capB, hS9⟩, HB9⟩ := hcut
  generalize wc = w9 at *
  clear d0 d1 df0 df1 c0 c1 cf0 cf1 ce HIL HRB HBz HWA HGX HSA HRA HBA c1' HS5 HB5
  have HS9 : Hid (Sep w9 B (ndp n (.slice (some ⟨gN, 0, none⟩) l capN) (.slice (some ⟨gC, 0, none⟩) q capC) (L.set a t) cs ++ (ndp c (.slice (some ⟨gM, 0, none⟩) (m + 1) capM) (.slice (some ⟨gB, 0, none⟩) (m + 1 + 1) capB) (M ++ [s]) (bs ++ [e0]) ++ (ndp d (.slice (some ⟨gQ, 0, none⟩) (z - 1) capQ) (.slice (some ⟨gE, 0, none⟩) (z + 1) capE) (Q.drop 1) ds ++ R)))) := hS9
  obtain ⟨d0, d1, df0, df1⟩ := (hS9.nd_ (ndp n (.slice (some ⟨gN, 0, none⟩) l capN) (.slice (some ⟨gC, 0, none⟩) q capC) (L.set a t) cs ++ ndp c (.slice (some ⟨gM, 0, none⟩) (m + 1) capM) (.slice (some ⟨gB, 0, none⟩) (m + 1 + 1) capB) (M ++ [s]) (bs ++ [e0]))).c
  have HRE : Hid (w9.ownsRow B 65 1 (.slice (some ⟨gE, 0, none⟩) (z + 1) capE) (z + 1) (gc encP ds)) := by have := (hS9.nd_ (ndp n (.slice (some ⟨gN, 0, none⟩) l capN) (.slice (some ⟨gC, 0, none⟩) q capC) (L.set a t) cs ++ ndp c (.slice (some ⟨gM, 0, none⟩) (m + 1) capM) (.slice (some ⟨gB, 0, none⟩) (m + 1 + 1) capB) (M ++ [s]) (bs ++ [e0]))).rC; rw [HDS.out] at this; exact this
  have HDEL : Hid _ := sdelP HDS.out HRE.out 0 1 (by omega) (by omega) (by omega)
  have HQM2 : Hid (ds.take 0 ++ ds.drop 1 = ds.drop 1) := by unfold Hid; rw [List.take_zero, List.nil_append]
  have HLD2 : Hid ((ds.drop 1).length = z) := by unfold Hid; rw [List.length_drop, HDS.out]; omega
  have HB9z : Hid (B ≤ w9.heap.size) := Nat.le_trans hB HB9.out.size
  clear hS9
  go_wp2_with (go_at_call 60; refine Calls.mono HDEL.out ?_; rintro e w10 ⟨rfl, ho5, hg5⟩; rw [HQM2.out, show z + 1 - (1 - 0) = z by omega] at ho5; have h5 := HS9.out.ndC (wC' := (.slice (some ⟨gE, 0, none⟩) z capE)) (bs' := ds.drop 1) (ndp n (.slice (some ⟨gN, 0, none⟩) l capN) (.slice (some ⟨gC, 0, none⟩) q capC) (L.set a t) cs ++ ndp c (.slice (some ⟨gM, 0, none⟩) (m + 1) capM) (.slice (some ⟨gB, 0, none⟩) (m + 1 + 1) capB) (M ++ [s]) (bs ++ [e0])) (by rw [HLD2.out]; exact ho5) hg5 (Or.inl rfl); have HS10 : Hid (Sep (w10.setCell ⟨d, 1, none⟩ (.slice (some ⟨gE, 0, none⟩) z capE)) B (ndp n (.slice (some ⟨gN, 0, none⟩) l capN) (.slice (some ⟨gC, 0, none⟩) q capC) (L.set a t) cs ++ (ndp c (.slice (some ⟨gM, 0, none⟩) (m + 1) capM) (.slice (some ⟨gB, 0, none⟩) (m + 1 + 1) capB) (M ++ [s]) (bs ++ [e0]) ++ (ndp d (.slice (some ⟨gQ, 0, none⟩) (z - 1) capQ) (.slice (some ⟨gE, 0, none⟩) z capE) (Q.drop 1) (ds.drop 1) ++ R)))) := h5.2; have z0 := cellO h5.1 1 rfl; have z1 := frozenO h5.1 1; have HB10 : Hid (Below B w (w10.setCell ⟨d, 1, none⟩ (.slice (some ⟨gE, 0, none⟩) z capE))) := (below_gr HB9.out HB9z.out HRE.out hg5).setCell (HS9.out.nd_ (ndp n (.slice (some ⟨gN, 0, none⟩) l capN) (.slice (some ⟨gC, 0, none⟩) q capC) (L.set a t) cs ++ ndp c (.slice (some ⟨gM, 0, none⟩) (m + 1) capM) (.slice (some ⟨gB, 0, none⟩) (m + 1 + 1) capB) (M ++ [s]) (bs ++ [e0]))).bn _; clear ho5 hg5 h5)
  refine bodyPost_end (results_none rfl _ _ _) rfl ?_
  exact ⟨rfl, ⟨t, e0, _, _, _, _, _, _, HTQ.out, HE0.out, HS10.out⟩, HB10.out⟩
end Go.Proofs.Ytelfjgnmbikofaa
