/-
  The outer loop of the iterator over tuples: each tuple in order, the last one last. Conditions: the axes' numbers fit.
-/
import Derived.Test.YtnikbcljonbpcaaSTup2
namespace Go.Proofs.Ytnikbcljonbpcaa
open Go.RowKit Go.Sort Go.Shelf Go.Lib
set_option linter.unusedVariables false
set_option maxRecDepth 100000
attribute [local go_sem] Oper.semAt_some

theorem dig_lt : ∀ (L : List Nat) (k : Nat), (∀ x ∈ L, 0 < x) → k < prdN L → ∀ (j t n : Nat), (dig L k)[j]? = some t → L[j]? = some n → t < n
  | [], _, _, _, j, t, n, h, _ => by simp [dig] at h
  | a :: L, k, hp, hk, 0, t, n, h1, h2 => by
    simp only [dig, List.getElem?_cons_zero, Option.some.injEq] at h1 h2
    subst h1 h2
    have hm := prdN_pos (L := L) (fun y hy => hp y (by simp [hy]))
    exact (Nat.div_lt_iff_lt_mul hm).2 hk
  | a :: L, k, hp, hk, j + 1, t, n, h1, h2 => by
    have hm := prdN_pos (L := L) (fun y hy => hp y (by simp [hy]))
    exact dig_lt L (k % prdN L) (fun y hy => hp y (by simp [hy])) (Nat.mod_lt _ hm) j t n (by simpa [dig] using h1) (by simpa using h2)
/-- The digits when the last ones have come round. -/
def Tj (S : List Nat) (m j : Nat) : List Nat := S.take j ++ List.replicate (m - j) 0
theorem Tj_length {S : List Nat} {m j : Nat} (hS : S.length = m) (hj : j ≤ m) : (Tj S m j).length = m := by
  rw [Tj, List.length_append, List.length_take, List.length_replicate]; omega
theorem Tj_all {S : List Nat} {m : Nat} (hS : S.length = m) : Tj S m m = S := by
  rw [Tj, List.take_of_length_le (by omega), Nat.sub_self]; simp
theorem Tj_at {S : List Nat} {m j t : Nat} (hS : S.length = m) (hj : j < m) (ht : S[j]? = some t) : (Tj S m (j + 1))[j]? = some t := by
  rw [Tj, List.getElem?_append_left (by rw [List.length_take]; omega), List.getElem?_take_of_lt (by omega), ht]
theorem Tj_set {S : List Nat} {m j : Nat} (v : Nat) (hS : S.length = m) (hj : j < m) : (Tj S m (j + 1)).set j v = S.take j ++ v :: List.replicate (m - (j + 1)) 0 := by
  have h1 : S.take (j + 1) = S.take j ++ [S[j]'(by omega)] := by rw [List.take_add_one, List.getElem?_eq_getElem (by omega)]; rfl
  have h2 : (S.take j).length = j := by rw [List.length_take]; omega
  rw [Tj, h1, List.append_assoc, List.set_append_right _ _ (by omega), h2, Nat.sub_self]
  rfl
theorem Tj_set0 {S : List Nat} {m j : Nat} (hS : S.length = m) (hj : j < m) : (Tj S m (j + 1)).set j 0 = Tj S m j := by
  rw [Tj_set 0 hS hj, Tj, show m - j = (m - (j + 1)) + 1 by omega, List.replicate_succ]
theorem inc_at {L S : List Nat} {j n t : Nat} (hL : L[j]? = some n) (hS : S[j]? = some t) (hn : inc (L.drop (j + 1)) (S.drop (j + 1)) = none) : inc (L.drop j) (S.drop j) = if t + 1 < n then some ((t + 1) :: List.replicate (L.length - (j + 1)) 0) else none := by
  obtain ⟨h1, rfl⟩ := List.getElem?_eq_some_iff.1 hL
  obtain ⟨h2, rfl⟩ := List.getElem?_eq_some_iff.1 hS
  rw [List.drop_eq_getElem_cons h1, List.drop_eq_getElem_cons h2, inc, hn, List.length_drop]
/-- The numbers at such digits. -/
def zipAt (A : List Ax) (T : List Nat) : List Int := (A.zip T).map fun x => atA x.1 x.2
theorem zipAt_length {A : List Ax} {T : List Nat} (h : T.length = A.length) : (zipAt A T).length = A.length := by
  rw [zipAt, List.length_map, List.length_zip, h, Nat.min_self]
theorem zipAt_set : ∀ (A : List Ax) (T : List Nat) (j v : Nat) (x : Ax), T.length = A.length → A[j]? = some x → (zipAt A T).set j (atA x v) = zipAt A (T.set j v)
  | [], _, j, v, x, _, h => by simp at h
  | a :: A, [], j, v, x, h, _ => by simp at h
  | a :: A, t :: T, 0, v, x, h, hx => by
    simp only [List.getElem?_cons_zero, Option.some.injEq] at hx
    subst hx
    rfl
  | a :: A, t :: T, j + 1, v, x, h, hx => by
    have ih := zipAt_set A T j v x (by simpa using h) (by simpa using hx)
    simp only [zipAt, List.zip_cons_cons, List.map_cons, List.set_cons_succ] at ih ⊢
    rw [ih]
theorem tupA_eq (A : List Ax) (k : Nat) : tupA A k = zipAt A (dig (A.map lenA) k) := rfl
theorem Mv.kp_new {B0 B1 : Nat} {w w' w'' : World} {F : Nat → Prop} (h : Mv B0 B1 w w') (k : Kp F w' w'') (hB : B0 ≤ w.heap.size) (hF : ∀ x, F x → w.heap.size ≤ x ∨ (B0 ≤ x ∧ x < B1)) : Mv B0 B1 w w'' :=
  ⟨k.os.trans h.os, k.tape.trans h.tape, k.output.trans h.output, Nat.le_trans h.size k.size,
   fun x hx hs => (k.block x (Nat.lt_of_lt_of_le hs h.size) (fun e => by have := hF x e; omega)).trans (h.low x hx hs),
   fun x o hx ho hc => (k.block x (Nat.lt_of_lt_of_le (Array.getElem?_eq_some_iff.1 ho).1 h.size) (fun e => by have := hF x e; have := (Array.getElem?_eq_some_iff.1 ho).1; omega)).trans (h.high x o hx ho hc)⟩
theorem TS.kp {w w' : World} {B0 bs bt rs rt : Nat} {T : List Nat} {U : List Int} {F : Nat → Prop} (h : TS w B0 bs bt rs rt T U) (hk : Kp F w w') (hF : ∀ x, F x → x ≠ bs ∧ x ≠ bt ∧ x ≠ rs ∧ x ≠ rt) : TS w' B0 bs bt rs rt T U :=
  ⟨(hk.block _ (Array.getElem?_eq_some_iff.1 h.cs).1 (fun e => (hF _ e).1 rfl)).trans h.cs, (hk.block _ (Array.getElem?_eq_some_iff.1 h.ct).1 (fun e => (hF _ e).2.1 rfl)).trans h.ct, (hk.block _ (Array.getElem?_eq_some_iff.1 h.ss).1 (fun e => (hF _ e).2.2.1 rfl)).trans h.ss, (hk.block _ (Array.getElem?_eq_some_iff.1 h.tt).1 (fun e => (hF _ e).2.2.2 rfl)).trans h.tt, h.b1, h.ne⟩
theorem TS.lt {w : World} {B0 bs bt rs rt : Nat} {T : List Nat} {U : List Int} (h : TS w B0 bs bt rs rt T U) : bs < w.heap.size ∧ bt < w.heap.size ∧ rs < w.heap.size ∧ rt < w.heap.size :=
  ⟨(Array.getElem?_eq_some_iff.1 h.cs).1, (Array.getElem?_eq_some_iff.1 h.ct).1, (Array.getElem?_eq_some_iff.1 h.ss).1, (Array.getElem?_eq_some_iff.1 h.tt).1⟩
theorem leaves_marks {n : Nat} {fn : Func} (hr : fn.results = #[]) {tmps : Array Value} {R : Ending → World → Prop} {B0 B1 : Nat} : ∀ (rl : List Nat) (w : World), rl.Nodup → (∀ r ∈ rl, B0 ≤ r ∧ w.heap[r]? = some (.deferred (some []))) → (∀ w', Mv B0 B1 w w' → R (.returned (.tuple #[])) w') → LeavesInM Fence.wide n Try.prog fn tmps R (rl.map mk) .returning w
  | [], w, _, _, h => ⟨_, results_none hr _ _ _, h w (Mv.refl _ _ _)⟩
  | r :: rl, w, hn, hm, h => by
    obtain ⟨hr1, hr2⟩ := hm r (by simp)
    have hnd := List.nodup_cons.1 hn
    refine ⟨by simp, .inl ⟨r, _, rfl, run_takeDeferred hr2, ?_⟩⟩
    refine leaves_marks hr rl _ hnd.2 (fun q hq => ?_) (fun w' hw => h w' ((Mv.put hr1 hr2 rfl).trans hw))
    obtain ⟨h1, h2⟩ := hm q (by simp [hq])
    exact ⟨h1, (World.putObj_heap_other (fun e : q = r => hnd.1 (by rw [← e]; exact hq))).trans h2⟩
def loopOf : Code → Code
  | .seq _ (.seq _ r) => r
  | c => c
theorem backward_any (A : List Ax) (v : Value) (w : World) (h : Axs w v A) : Calls Try.prog 49 #[v] w fun e w' => e = .returned (.func (.func 55) #[] #[.pointer (some ⟨w.heap.size, 0, none⟩)]) ∧ Below w.heap.size w w' ∧ w'.heap[w.heap.size]? = some (.cells #[v] 63 (0, 0)) := by
  obtain ⟨ao, n, cap, rfl, hn, hc, hb⟩ := h.open
  clear h hn
  go_enter Try.func49, Try.ntmps49
  go_wp2_with fail
  go_ret
  exact ⟨rfl, (Below.refl _ _).alloc (Nat.le_refl _) _, heap_alloc_new w _⟩
/-- The inner loop's invariant. -/
structure Ib (wk : World) (B0 B1 bs bt rs rt gk m k : Nat) (ao : Option Addr) (cap : Nat) (A : List Ax) (rl : List Nat) (j : Nat) (W : World) : Prop where
  mv : Mv B0 B1 wk W
  ts : TS W B0 bs bt rs rt (Tj (dig (A.map lenA) k) m j) (zipAt A (Tj (dig (A.map lenA) k) m j))
  mks : ∀ r ∈ rl, W.heap[r]? = some (.deferred (some []))
  ax : W.cell? ⟨gk, 0, none⟩ = some (.slice ao m cap)
  nc : inc ((A.map lenA).drop j) ((dig (A.map lenA) k).drop j) = none
structure Xb (wk : World) (B0 B1 bs bt rs rt m k : Nat) (A : List Ax) (rl : List Nat) (W : World) : Prop where
  mv : Mv B0 B1 wk W
  ts : TS W B0 bs bt rs rt (dig (A.map lenA) (k + 1)) (tupA A (k + 1))
  mks : ∀ r ∈ rl, W.heap[r]? = some (.deferred (some []))
  nx : k + 1 < prdN (A.map lenA)
set_option maxHeartbeats 16000000 in
theorem tup_loop (n l gb : Nat) (ao : Option Addr) (m cap : Nat) (A : List Ax) (w0 : World) (B0 B1 bs bt rs rt : Nat) (J : Nat → Nat → World → Prop) (R : Ending → World → Prop) (w : World)
    (hm4 : m ≤ 4) (hAl : A.length = m) (hAg : ∀ a ∈ A, AxG a)
    (hJ0 : J B1 0 w) (hmv : ∀ B1 k W1 W2, J B1 k W1 → Mv B0 B1 W1 W2 → J B1 k W2)
    (hJx : ∀ k W1, J B1 k W1 → W1.cell? ⟨gb, 0, none⟩ = some (.slice ao m cap) ∧ Axs W1 (.slice ao m cap) A)
    (hY : ∀ k W1 v, k < prdN (A.map lenA) → J B1 k W1 → B1 ≤ W1.heap.size → Is W1 v (tupA A k) → YieldAt Fence.wide (n - 1) Try.prog l #[v] W1 fun e W2 => e = .returned (.bool true) ∧ Keep B0 W1 W2 ∧ J B1 (k + 1) W2)
    (hR : ∀ W1, J B1 (prdN (A.map lenA)) W1 → R (.returned (.tuple #[])) W1)
    (hB : B0 ≤ B1) (hB1 : B1 ≤ w.heap.size) (hlt : bs < B1 ∧ bt < B1 ∧ rs < B1 ∧ rt < B1) (hts : TS w B0 bs bt rs rt (dig (A.map lenA) 0) (tupA A 0))
    (u2 u5 u6 u7 u8 u9 u10 u11 u12 u13 u14 u15 u16 u17 u18 u19 u20 u21 u22 u23 u24 u25 u26 u27 u28 u29 u30 u31 u32 u33 u34 u35 u36 u37 u38 u39 u40 u41 u42 u43 u44 u45 u46 u47 u48 u49 u50 u51 u52 u53 u54 u55 u56 u57 u58 u59 u60 u61 u62 u63 u64 u65 u66 : Value) :
    (loopOf (restOf (Try.f45.body.getD .skip))).wpIn Fence.wide n Try.prog (Exit.noGoto (bodyPostM Fence.wide n Try.prog Try.f45 R)) { tmps := #[.func (.yield l) #[] #[], .pointer (some ⟨gb, 0, none⟩), u2, .pointer (some ⟨bs, 0, none⟩), .pointer (some ⟨bt, 0, none⟩), u5, u6, u7, u8, u9, u10, u11, u12, u13, u14, u15, u16, u17, u18, u19, u20, u21, u22, u23, u24, u25, u26, u27, u28, u29, u30, u31, u32, u33, u34, u35, u36, u37, u38, u39, u40, u41, u42, u43, u44, u45, u46, u47, u48, u49, u50, u51, u52, u53, u54, u55, u56, u57, u58, u59, u60, u61, u62, u63, u64, u65, u66], defers := [] } w := by
  have HJX : Hid _ := hJx
  have HY : Hid _ := hY
  have HR : Hid _ := hR
  have HMV : Hid _ := hmv
  have HAG : Hid _ := hAg
  have HD : Hid (Fence.wide.depth.isSome = true → 1 ≤ n) := fun h => by simp [Fence.wide] at h
  have HLP : Hid (∀ y ∈ A.map lenA, 0 < y) := fun y hy => by
    obtain ⟨a, ha, rfl⟩ := List.mem_map.1 hy
    exact (hAg a ha).len.2.1
  have HLL : Hid ((A.map lenA).length = m) := by rw [Hid, List.length_map]; exact hAl
  have HAL : Hid _ := hAl
  have hN := prdN_pos HLP.out
  clear hJx hY hR hmv hAg hAl
  simp only [loopOf, restOf, Try.f45, Option.getD]
  refine wpIn_block ?_
  refine wpIn_loop_ghost (fun k a' w' => ∃ (u30 u31 u32 u33 u34 : Value) (rl : List Nat), a' = { tmps := #[.func (.yield l) #[] #[], .pointer (some ⟨gb, 0, none⟩), u2, .pointer (some ⟨bs, 0, none⟩), .pointer (some ⟨bt, 0, none⟩), u5, u6, u7, u8, u9, u10, u11, u12, u13, u14, u15, u16, u17, u18, u19, u20, u21, u22, u23, u24, u25, u26, u27, u28, u29, u30, u31, u32, u33, u34, u35, u36, u37, u38, u39, u40, u41, u42, u43, u44, u45, u46, u47, u48, u49, u50, u51, u52, u53, u54, u55, u56, u57, u58, u59, u60, u61, u62, u63, u64, u65, u66], defers := rl.map mk } ∧ J B1 k w' ∧ TS w' B0 bs bt rs rt (dig (A.map lenA) k) (tupA A k) ∧ rl.Nodup ∧ (∀ r ∈ rl, B1 ≤ r ∧ w'.heap[r]? = some (.deferred (some []))) ∧ B1 ≤ w'.heap.size) (prdN (A.map lenA)) hN ?_ ?_
  · exact ⟨u30, u31, u32, u33, u34, [], rfl, hJ0, hts, List.nodup_nil, fun r hr => by simp at hr, hB1⟩
  clear hJ0 hts hB1 hN u30 u31 u32 u33 u34 w
  rintro k a' w hk ⟨u30, u31, u32, u33, u34, rl, rfl, hj, hts, hnd, hrl, hBw⟩
  have HDL : Hid ((dig (A.map lenA) k).length = m) := by rw [Hid, dig_length]; exact HLL.out
  have HTL : Hid ((tupA A k).length = m) := by rw [Hid, tupA_eq, zipAt_length (by rw [HDL.out, HAL.out])]; exact HAL.out
  obtain ⟨c1, c2, c3, c4, f1, f2⟩ := ts_cells hts HDL.out HTL.out
  have HIS : Hid (Is w (.slice (some ⟨rt, 0, none⟩) m m) (tupA A k)) := by
    refine ⟨by rw [HTL.out]; omega, fun y hy => ?_, _, m, by rw [HTL.out], by rw [HTL.out]; exact Nat.le_refl _, fun i y hi => ⟨rt, 0, rfl, by rw [Nat.zero_add]; exact c4 i y hi⟩⟩
    rw [tupA_eq, zipAt, List.mem_map] at hy
    obtain ⟨z, hz, rfl⟩ := hy
    obtain ⟨i, hi⟩ := List.mem_iff_getElem?.1 hz
    rw [List.getElem?_zip_eq_some] at hi
    have h9 := atA_i64 (HAG.out z.1 (List.mem_of_getElem? hi.1)) (dig_lt _ _ HLP.out hk i z.2 (lenA z.1) hi.2 (by rw [List.getElem?_map, hi.1]; rfl))
    exact ⟨by omega, by omega⟩
  obtain ⟨fn, tmps, assign, body, hy, hRR⟩ := HY.out k w _ hk hj hBw HIS.out
  have HRR : Hid _ := hRR
  have HTS : Hid _ := hts
  have HRL : Hid _ := hrl
  have HND : Hid _ := hnd
  clear hRR hts hrl hnd c1 c3 c4 f1 f2 hj
  gi_wp2_with fail
  refine ⟨HD.out, ?_⟩
  refine RoundIn.mono HRR.out ?_
  rintro e W3 ⟨rfl, hkeep, hj3⟩
  have HJ3 : Hid (J B1 (k + 1) W3) := hj3
  have HTS3 : Hid (TS W3 B0 bs bt rs rt (dig (A.map lenA) k) (tupA A k)) := HTS.out.keep hkeep
  have HRL3 : Hid (∀ r ∈ rl, B1 ≤ r ∧ W3.heap[r]? = some (.deferred (some []))) := fun r hr => ⟨(HRL.out r hr).1, (hkeep.block r (Nat.le_trans hB (HRL.out r hr).1) (Array.getElem?_eq_some_iff.1 (HRL.out r hr).2).1).trans (HRL.out r hr).2⟩
  have HB3 : Hid (B1 ≤ W3.heap.size) := Nat.le_trans hBw hkeep.size
  obtain ⟨hc3, hax3⟩ := HJX.out _ _ hj3
  have HAX3 : Hid _ := hax3
  have HBC : Hid _ := backward_any A _ W3 hax3
  clear hkeep hj3 hax3 HTS HRL HIS HRR hy c2
  gi_wp2_with (refine ⟨trivial, HD.out, ?_⟩; refine (callsIn_wide.2 HBC.out).mono ?_; rintro e wk ⟨rfl, hb4, hg4⟩; have HB4 : Hid (Below W3.heap.size W3 wk) := hb4; have HG4 : Hid _ := hg4; clear hb4 hg4)
  obtain ⟨gk, HGK⟩ : ∃ gk, Hid (W3.heap.size = gk) := ⟨_, rfl⟩
  rw [HGK.out] at HG4 ⊢
  have HJK : Hid (J B1 (k + 1) wk) := HMV.out _ _ _ _ HJ3.out (Mv.of_below HB4.out)
  have HTSK : Hid (TS wk B0 bs bt rs rt (dig (A.map lenA) k) (tupA A k)) := HTS3.out.keep (Keep.of_below HB4.out)
  have HRLK : Hid (∀ r ∈ rl, B1 ≤ r ∧ wk.heap[r]? = some (.deferred (some []))) := fun r hr => ⟨(HRL3.out r hr).1, (HB4.out.block r (Array.getElem?_eq_some_iff.1 (HRL3.out r hr).2).1).trans (HRL3.out r hr).2⟩
  have HSZK : Hid (B1 ≤ wk.heap.size ∧ gk < wk.heap.size ∧ B1 ≤ gk) := ⟨Nat.le_trans HB3.out HB4.out.size, (Array.getElem?_eq_some_iff.1 HG4.out).1, by rw [← HGK.out]; exact HB3.out⟩
  clear HJ3 HTS3 HRL3 HB4 HAX3 HBC hc3 HB3
  refine wpIn_back n 3 gk ao m cap A hm4 rfl (Ib wk B0 B1 bs bt rs rt gk m k ao cap A rl) (Xb wk B0 B1 bs bt rs rt m k A rl) ?hIr ?hIl ?hXl ?h0 ?round ?done ?stop
  case hIr =>
    intro j W hi
    exact ⟨hi.ax, (HJX.out _ _ (HMV.out _ _ _ _ HJK.out hi.mv)).2⟩
  case hIl =>
    intro j W W' hi hkp
    obtain ⟨z1, z2, z3⟩ := HSZK.out
    exact ⟨hi.mv.kp_new hkp (by omega) (fun x e => by omega), hi.ts.kp hkp (fun x e => by omega), fun r hr => (hkp.block r (Array.getElem?_eq_some_iff.1 (hi.mks r hr)).1 (fun e => by have := (Array.getElem?_eq_some_iff.1 (HRLK.out r hr).2).1; omega)).trans (hi.mks r hr), hkp.cell hi.ax (fun e => by simp only [] at e; omega), hi.nc⟩
  case hXl =>
    intro W W' hi hkp
    obtain ⟨z1, z2, z3⟩ := HSZK.out
    exact ⟨hi.mv.kp_new hkp (by omega) (fun x e => by omega), hi.ts.kp hkp (fun x e => by omega), fun r hr => (hkp.block r (Array.getElem?_eq_some_iff.1 (hi.mks r hr)).1 (fun e => by have := (Array.getElem?_eq_some_iff.1 (HRLK.out r hr).2).1; omega)).trans (hi.mks r hr), hi.nx⟩
  case h0 =>
    intro W' hb
    refine ⟨Mv.of_below hb, ?_, fun r hr => (hb.block r (Array.getElem?_eq_some_iff.1 (HRLK.out r hr).2).1).trans (HRLK.out r hr).2, ?_, ?_⟩
    · rw [Tj_all HDL.out]
      exact HTSK.out.keep (Keep.of_below hb)
    · exact (hb.cell (p := ⟨gk, 0, none⟩) HSZK.out.2.1).trans (cell_of_row wk gk 0 _ _ _ HG4.out)
    · rw [List.drop_of_length_le (by rw [HLL.out]; exact Nat.le_refl _)]
      rfl
  case round =>
    intro j W x hj hi hsW hx
    obtain ⟨z1, z2, z3⟩ := HSZK.out
    have HI : Hid (Ib wk B0 B1 bs bt rs rt gk m k ao cap A rl (j + 1) W) := hi
    have HX : Hid _ := hx
    clear hi hx
    rw [axV_eq]
    gi_wp2
    refine ⟨(Below.refl _ _).alloc (Nat.le_refl _) _, fun W2 hkp => ?_⟩
    obtain ⟨t, ht⟩ : ∃ t, (dig (A.map lenA) k)[j]? = some t := ⟨(dig (A.map lenA) k)[j]'(by rw [HDL.out]; exact hj), List.getElem?_eq_getElem _⟩
    have hLj : (A.map lenA)[j]? = some (lenA x) := by rw [List.getElem?_map, HX.out]; rfl
    have htl : t < lenA x := dig_lt _ _ HLP.out hk j t (lenA x) ht hLj
    have hTl : (Tj (dig (A.map lenA) k) m (j + 1)).length = m := Tj_length HDL.out (by omega)
    have hUl : (zipAt A (Tj (dig (A.map lenA) k) m (j + 1))).length = m := by rw [zipAt_length (by rw [hTl, HAL.out]), HAL.out]
    have hal : Below W.heap.size W (W.alloc (.cells #[.int .i64 x.st, .int .i64 x.sd, .int .i64 x.ct, .int .i64 x.bl] 71)) := (Below.refl _ _).alloc (Nat.le_refl _) _
    have hszW := HI.out.mv.size
    have hd2 : Hd W2 B0 bs bt rs rt W.heap.size m x (Tj (dig (A.map lenA) k) m (j + 1)) (zipAt A (Tj (dig (A.map lenA) k) m (j + 1))) :=
      ⟨(HI.out.ts.keep (Keep.of_below hal)).kp hkp (fun y e => by omega), (hkp.block W.heap.size (by rw [World.size_alloc]; omega) (fun e => by omega)).trans (heap_alloc_new W _), hTl, hUl, by omega⟩
    refine wpIn_mono (Q := bodyQ W2 B0 bs bt rs rt j x t (Tj (dig (A.map lenA) k) m (j + 1)) (zipAt A (Tj (dig (A.map lenA) k) m (j + 1)))) ?_ ?_
    · exact tup_body (wk.heap.size + 1) (n - 1 - 1) B0 bs bt rs rt W.heap.size m j t x _ _ _ _ _ _ _ _ _ _ _ _ _ _ _ _ _ _ _ _ _ _ _ _ _ _ _ _ _ _ _ _ _ _ _ _ _ _ _ _ _ _ _ _ _ _ _ _ _ _ _ _ _ _ _ _ _ _ _ _ _ _ _ _ _ W2 hd2 (Tj_at HDL.out hj ht) hj (HAG.out x (List.mem_of_getElem? HX.out)) htl
    intro e3 a3 W3 hq
    have hk0 : Kp (fun y => y = wk.heap.size + 1) W W2 := (Kp.of hal).trans hkp (fun y _ e => e)
    cases e3 with
    | ret => exact hq.elim
    | goto t => exact hq.elim
    | panic ch => exact hq.elim
    | outgrown => exact hq.elim
    | normal =>
      obtain ⟨hnl, hts3, hk3⟩ := hq
      have hkk : Kp (fun y => y = wk.heap.size + 1 ∨ y = rs ∨ y = rt) W W3 := (hk0.mono (fun y _ e => .inl e)).trans hk3 (fun y _ e => .inr e)
      have hs2 := hk0.size
      have hbb := HI.out.ts.b1
      refine ⟨hk3.block _ (by omega) (fun e => by rcases e with e | e <;> omega), hk3.block _ (by omega) (fun e => by rcases e with e | e <;> omega), ?_⟩
      refine ⟨HI.out.mv.kp_new hkk (by omega) (fun y e => by omega), ?_, fun r hr => (hkk.block r (Array.getElem?_eq_some_iff.1 (HI.out.mks r hr)).1 (fun e => by have := (HRLK.out r hr).1; have := (Array.getElem?_eq_some_iff.1 (HRLK.out r hr).2).1; omega)).trans (HI.out.mks r hr), hkk.cell HI.out.ax (fun e => by simp only [] at e; omega), ?_⟩
      · rw [Tj_set0 HDL.out hj] at hts3
        rw [zipAt_set A _ j 0 x (by rw [hTl, HAL.out]) HX.out, Tj_set0 HDL.out hj] at hts3
        exact hts3
      · rw [inc_at hLj ht HI.out.nc, if_neg hnl]
    | exit id =>
      obtain ⟨rfl, hlt2, hts3, hk3⟩ := hq
      have hkk : Kp (fun y => y = wk.heap.size + 1 ∨ y = rs ∨ y = rt) W W3 := (hk0.mono (fun y _ e => .inl e)).trans hk3 (fun y _ e => .inr e)
      have hs2 := hk0.size
      have hbb := HI.out.ts.b1
      refine ⟨rfl, hk3.block _ (by omega) (fun e => by rcases e with e | e <;> omega), hk3.block _ (by omega) (fun e => by rcases e with e | e <;> omega), ?_⟩
      have hinc : inc (A.map lenA) (dig (A.map lenA) k) = some ((dig (A.map lenA) k).take j ++ (t + 1) :: List.replicate (m - (j + 1)) 0) := by
        have h1 := inc_at hLj ht HI.out.nc
        rw [if_pos hlt2, HLL.out] at h1
        have h2 := inc_app ((A.map lenA).take j) ((dig (A.map lenA) k).take j) _ _ _ (by rw [List.length_take, List.length_take, HLL.out, HDL.out]) h1
        rwa [List.take_append_drop, List.take_append_drop] at h2
      have hid := inc_dig (A.map lenA) k HLP.out hk
      rw [hinc] at hid
      have hnx : k + 1 < prdN (A.map lenA) := by
        by_cases h : k + 1 < prdN (A.map lenA)
        · exact h
        · rw [if_neg h] at hid; cases hid
      rw [if_pos hnx] at hid
      injection hid with hid
      refine ⟨HI.out.mv.kp_new hkk (by omega) (fun y e => by omega), ?_, fun r hr => (hkk.block r (Array.getElem?_eq_some_iff.1 (HI.out.mks r hr)).1 (fun e => by have := (HRLK.out r hr).1; have := (Array.getElem?_eq_some_iff.1 (HRLK.out r hr).2).1; omega)).trans (HI.out.mks r hr), hnx⟩
      rw [zipAt_set A _ j (t + 1) x (by rw [hTl, HAL.out]) HX.out, Tj_set (t + 1) HDL.out hj, hid] at hts3
      exact hts3
  case done =>
    intro W hi hdf
    have HI : Hid _ := hi
    have HDF : Hid _ := hdf
    clear hi hdf
    gi_wp2
    have hN : k + 1 = prdN (A.map lenA) := by
      have h1 := HI.out.nc
      rw [List.drop_zero, List.drop_zero, inc_dig _ _ HLP.out hk] at h1
      by_cases h : k + 1 < prdN (A.map lenA)
      · rw [if_pos h] at h1; cases h1
      · omega
    have HJW : Hid (J B1 (k + 1) W) := HMV.out _ _ _ _ HJK.out HI.out.mv
    show LeavesInM _ _ _ _ _ _ ((wk.heap.size :: rl).map mk) _ _
    refine leaves_marks (B0 := B0) (B1 := B1) rfl (wk.heap.size :: rl) W ?_ ?_ ?_
    · exact List.nodup_cons.2 ⟨fun h => by have := (Array.getElem?_eq_some_iff.1 (HRLK.out _ h).2).1; omega, HND.out⟩
    · intro r hr
      rcases List.mem_cons.1 hr with rfl | hr
      · exact ⟨by have := HSZK.out.1; omega, HDF.out⟩
      · exact ⟨by have := (HRLK.out r hr).1; omega, HI.out.mks r hr⟩
    · intro w' hw
      refine HR.out _ ?_
      rw [← hN]
      exact HMV.out _ _ _ _ HJW.out hw
  case stop =>
    intro W hi hdf
    have HI : Hid _ := hi
    have HDF : Hid _ := hdf
    clear hi hdf
    gi_wp2
    refine ⟨HI.out.nx, _, _, _, _, _, wk.heap.size :: rl, rfl, HMV.out _ _ _ _ HJK.out HI.out.mv, HI.out.ts, ?_, ?_, Nat.le_trans HSZK.out.1 HI.out.mv.size⟩
    · exact List.nodup_cons.2 ⟨fun h => by have := (Array.getElem?_eq_some_iff.1 (HRLK.out _ h).2).1; omega, HND.out⟩
    · intro r hr
      rcases List.mem_cons.1 hr with rfl | hr
      · exact ⟨HSZK.out.1, HDF.out⟩
      · exact ⟨(HRLK.out r hr).1, HI.out.mks r hr⟩
end Go.Proofs.Ytnikbcljonbpcaa
