/-
  The program's firstToken. Conditions: there is a byte.
-/
import Derived.Test.YtgodoogmbdgeoabMPack
namespace Go.Proofs.Ytgodoogmbdgeoab
open Go.RowKit
set_option linter.unusedVariables false
set_option maxRecDepth 100000

/-- A slice cut behind a place. -/
theorem cut_at {w : World} {b off n cap : Nat} {l : List Int} (h : Bs w (.slice (some ⟨b, off, none⟩) n cap) l) {k : Nat} (hk : k ≤ n) : Bs w (.slice (if cap = k then some ⟨b, off, none⟩ else some ⟨b, off + k, none⟩) (n - k) (cap - k)) (l.drop k) := by
  obtain ⟨hn, hc, _⟩ := bs_n h
  split
  · rename_i e
    rw [show n - k = 0 by omega, List.drop_of_length_le (by omega)]
    exact bs_none _ _ _ (fun h => by cases h)
  · exact bs_rest h hk
/-- What was in either of two worlds has not turned. -/
def BB (w0 w X : World) : Prop := Below w0.heap.size w0 X ∧ Below w.heap.size w X
theorem BB.drewN {w0 w X : World} (h : BB w0 w X) (k : Nat) : BB w0 w (X.drewN k) := ⟨below_drewN h.1 k, below_drewN h.2 k⟩
/-- The cell of the result, anew. -/
theorem tok_cell (w0 w : World) (hb : Below w0.heap.size w0 w) : ∃ w1, w.alloc (.cells #[.bool false, .int .i64 0, .int .i64 0, .slice none 0 0] 65) = w1 ∧ BB w0 w w1 ∧ w1.heap[w.heap.size]? = some (.cells #[.bool false, .int .i64 0, .int .i64 0, .slice none 0 0] 65 (0, 0)) :=
  ⟨_, rfl, ⟨hb.alloc hb.size _, (Below.refl _ w).alloc (Nat.le_refl _) _⟩, heap_alloc_new w _⟩
theorem tok_facts {w : World} {g : Nat} {a b c d : Value} (h : w.heap[g]? = some (.cells #[a, b, c, d] 65 (0, 0))) : w.frozen? ⟨g, 0, none⟩ = false ∧ w.frozen? ⟨g, 1, none⟩ = false ∧ w.frozen? ⟨g, 2, none⟩ = false ∧ w.frozen? ⟨g, 3, none⟩ = false ∧ w.cell? ⟨g, 0, none⟩ = some a ∧ w.cell? ⟨g, 1, none⟩ = some b ∧ w.cell? ⟨g, 2, none⟩ = some c ∧ w.cell? ⟨g, 3, none⟩ = some d := by
  refine ⟨?_, ?_, ?_, ?_, ?_, ?_, ?_, ?_⟩ <;> simp [World.frozen?, World.cell?, h]
theorem tok_finN {w0 wz wd : World} {g : Nat} {a b c d a' b' c' d' : Value} {G : World → Prop} (hb : BB w0 wz wd) (hg : w0.heap.size ≤ g) (hgz : wz.heap.size ≤ g) (h : wd.heap[g]? = some (.cells #[a, b, c, d] 65 (0, 0)))
    (k : ∀ wf, BB w0 wz wf → wf.heap[g]? = some (.cells #[a', b', c', d'] 65 (0, 0)) → G wf) : G ((((wd.setCell ⟨g, 0, none⟩ a').setCell ⟨g, 1, none⟩ b').setCell ⟨g, 2, none⟩ c').setCell ⟨g, 3, none⟩ d') := by
  have key : ∀ ww : World, ww.heap.size ≤ g → Below ww.heap.size ww wd → Below ww.heap.size ww ((((wd.setCell ⟨g, 0, none⟩ a').setCell ⟨g, 1, none⟩ b').setCell ⟨g, 2, none⟩ c').setCell ⟨g, 3, none⟩ d') := fun ww hg hb =>
    Below.setCell (p := ⟨g, 3, none⟩) (Below.setCell (p := ⟨g, 2, none⟩) (Below.setCell (p := ⟨g, 1, none⟩) (Below.setCell (p := ⟨g, 0, none⟩) hb hg _) hg _) hg _) hg _
  refine k _ ⟨key w0 hg hb.1, key wz hgz hb.2⟩ ?_
  have h1 := heap_setCell_same wd g 0 _ _ a' h
  have h2 := heap_setCell_same _ g 1 _ _ b' h1
  have h3 := heap_setCell_same _ g 2 _ _ c' h2
  have h4 := heap_setCell_same _ g 3 _ _ d' h3
  exact h4
theorem tok_fin {w0 wz wd : World} {g : Nat} {a b c d a' b' c' d' : Value} {G : World → Prop} (hb : BB w0 wz wd) (hg : w0.heap.size ≤ g) (hgz : wz.heap.size ≤ g) (h : wd.heap[g]? = some (.cells #[a, b, c, d] 65 (0, 0)))
    (k : ∀ wf, BB w0 wz wf → wf.heap[g]? = some (.cells #[a', b', c', d'] 65 (0, 0)) → G wf) : G ((((wd.setCell ⟨g, 0, none⟩ a').setCell ⟨g, 1, none⟩ b').setCell ⟨g, 2, none⟩ c').setCell ⟨g, 3, none⟩ d').drew :=
  tok_finN (G := fun W => G W.drew) hb hg hgz h (fun wf h1 h2 => k _ ⟨h1.1.drew, h1.2.drew⟩ h2)
theorem results_cell3 {fn : Func} {p u v : Tmp} {ty : TypeId} (h : fn.results = #[.cell p ty, .tmp u, .tmp v]) (tmps : Array Value) (P : Program) (w : World) :
    (results fn tmps).run P w =
      ((asAddr (tmps.getD p undef)).run P w).andThen fun a w₁ => ((loadVar ty a).run P w₁).andThen fun x w₂ => .ok (.tuple #[x, tmps.getD u undef, tmps.getD v undef]) w₂ := by
  simp only [results, h]
  simp [Sem.run_bind, Result.andThen]
set_option maxHeartbeats 32000000 in
theorem first_cp (v : Value) (k d : Int) (cn dn : Nat) (hcn : k - 124 = (cn : Int)) (hdn : d = (dn : Int)) (t : List Int) (w0 w : World) (hb : Below w0.heap.size w0 w) (hx : Bs w0 v (k :: d :: t)) (hk : 128 ≤ k) (hk2 : k ≤ 255) (hd : 0 ≤ d ∧ d ≤ 255) (hlb : t.length ≤ 140737488351232) :
    Calls Try.prog 43 #[v] w fun e w' => ∃ y, e = .returned (.tuple #[.agg #[.bool true, .int .i64 (cn : Int), .int .i64 (dn : Int), .slice none 0 0], y, .bool true]) ∧ Bs w0 y t ∧ BB w0 w w' := by
  rw [← hcn, ← hdn]
  clear hcn hdn
  obtain ⟨ao, cap, rfl, hc, _⟩ := id hx
  obtain ⟨n, hn⟩ : ∃ n, (k :: d :: t).length = n := ⟨_, rfl⟩
  rw [hn] at hx hc ⊢
  have hnt : n = t.length + 2 := by rw [← hn]; rfl
  obtain ⟨b, off, rfl, hcl⟩ := bs_some hx (by omega)
  obtain ⟨w1, hw1, hb1, hbl⟩ := tok_cell w0 w hb
  have c0 : w1.cell? ⟨b, off, none⟩ = some (.int .u8 k) := bel_cell hb1.1 (hcl 0 (by omega))
  have c1 : w1.cell? ⟨b, off + 1, none⟩ = some (.int .u8 d) := bel_cell hb1.1 (hcl 1 (by omega))
  have HX : Hid (Bs w0 (.slice (some ⟨b, off, none⟩) n cap) (k :: d :: t)) := hx
  have HB : Hid (BB w0 w w1) := hb1
  have hsz := hb.size
  have e1 : IntKind.i64.wrap k = k := wrap_i64_in _ (by omega) (by omega)
  have e2 : IntKind.i64.wrap (k - 128) = k - 128 := wrap_i64_in _ (by omega) (by omega)
  have e3 : IntKind.i64.wrap (k - 128 + 4) = k - 124 := by rw [show k - 128 + 4 = k - 124 by omega]; exact wrap_i64_in _ (by omega) (by omega)
  have e4 : IntKind.i64.wrap d = d := wrap_i64_in _ (by omega) (by omega)
  have HNT : Hid (n = t.length + 2) := hnt
  have hn2 : 0 < n := by omega
  have hn3 : 1 < n := by omega
  have hn4 : 1 ≤ n := by omega
  have hn5 : 0 < n - 1 := by omega
  have hn6 : 1 ≤ n - 1 := by omega
  have hn1 : 1 ≤ cap := by omega
  have hn7 : n - 1 ≤ cap - 1 := by omega
  have hn8 : 1 ≤ cap - 1 := by omega
  have hk0 : ((n - 1 : Nat) : Int) ≠ 0 := by omega
  have n1 : (cap = 1) = False := by simp; omega
  have hnM : n ≤ 140737488351234 := by omega
  have HY : Hid (Bs w0 (.slice (if cap - 1 = 1 then some ⟨b, off + 1, none⟩ else some ⟨b, off + 1 + 1, none⟩) (n - 1 - 1) (cap - 1 - 1)) t) := cut_at (bs_rest hx (lo := 1) (by omega)) (k := 1) (by omega)
  clear hx hcl hb hn hnt hb1
  by_cases h11 : cap - 1 = 1
  all_goals
    have h11' := h11
    rw [Hid] at HY
    first | rw [if_pos h11, show cap - 1 - 1 = 0 by omega] at HY | rw [if_neg h11] at HY
    have HYY : Hid _ := HY
    clear HY h11'
    go_enter Try.func43, Try.ntmps43
    go_wp2_with fail
    go_quiet (fail)
    go_wp2_with fail
    obtain ⟨w2, hw2, hb2, hbl2⟩ : ∃ w2, w1.drewN nq = w2 ∧ BB w0 w w2 ∧ w2.heap[w.heap.size]? = some (.cells #[.bool false, .int .i64 0, .int .i64 0, .slice none 0 0] 65 (0, 0)) := ⟨_, rfl, HB.out.drewN _, hbl⟩
    have c2 : w2.cell? ⟨b, off + 1, none⟩ = some (.int .u8 d) := by rw [← hw2]; exact c1
    rw [hw2]
    clear hw2
    obtain ⟨f0, f1, f2, f3, k0, k1, k2, k3⟩ := tok_facts hbl2
    go_region
    all_goals
      go_wp2_with fail
      refine tok_fin (G := fun W => bodyPost Try.prog Try.f43 _ Exit.ret _ W) hb2 hsz (Nat.le_refl _) hbl2 ?_
      intro wf hb9 hbl9
      have HB9 : Hid (BB w0 w wf) := hb9
      clear hbl2 hb2 hb9 f0 f1 f2 f3 k0 k1 k2 k3 c2 c0 c1
      obtain ⟨f0, f1, f2, f3, k0, k1, k2, k3⟩ := tok_facts hbl9
      refine bodyPost_ret (by rw [results_cell3 rfl]; go_simp; try rfl) rfl ?_
      exact ⟨_, rfl, HYY.out, HB9.out⟩
set_option maxHeartbeats 32000000 in
theorem first_run (v : Value) (k : Int) (t : List Int) (w0 w : World) (hb : Below w0.heap.size w0 w) (hx : Bs w0 v (k :: t)) (hk : 0 ≤ k) (hk2 : k < 128) (hlb : t.length ≤ 140737488351232) (kn m : Nat) (hkn : k = (kn : Int)) (hlt : kn < t.length) (hm : kn + 1 = m) :
    Calls Try.prog 43 #[v] w fun e w' => ∃ x y, e = .returned (.tuple #[.agg #[.bool false, .int .i64 (m : Int), .int .i64 0, x], y, .bool true]) ∧ Bs w0 x (t.take m) ∧ Bs w0 y (t.drop m) ∧ BB w0 w w' := by
  obtain ⟨ao, cap, rfl, hc, _⟩ := id hx
  obtain ⟨n, hn⟩ : ∃ n, (k :: t).length = n := ⟨_, rfl⟩
  rw [hn] at hx hc ⊢
  have hnt : n = t.length + 1 := by rw [← hn]; rfl
  obtain ⟨b, off, rfl, hcl⟩ := bs_some hx (by omega)
  obtain ⟨w1, hw1, hb1, hbl⟩ := tok_cell w0 w hb
  have c0 : w1.cell? ⟨b, off, none⟩ = some (.int .u8 k) := bel_cell hb1.1 (hcl 0 (by omega))
  have HB : Hid (BB w0 w w1) := hb1
  have hsz := hb.size
  have e1 : IntKind.i64.wrap k = k := wrap_i64_in _ (by omega) (by omega)
  have e2 : IntKind.i64.wrap (k + 1) = (m : Int) := by rw [show k + 1 = (m : Int) by omega]; exact wrap_i64_in _ (by omega) (by omega)
  have HM : Hid (kn + 1 = m) := hm
  have hn2 : 0 < n := by omega
  have hn3 : 1 ≤ n := by omega
  have hn4 : m ≤ n - 1 := by omega
  have hn5 : m ≤ cap - 1 := by omega
  have hn6 : ¬ ((n - 1 : Nat) : Int) < (m : Int) := by omega
  have hn7 : n - 1 ≤ cap - 1 := by omega
  have hn8 : 1 ≤ cap := by omega
  have n1 : (cap = 1) = False := by simp; omega
  have hk3 : ¬ 128 ≤ k := by omega
  have HX : Hid (Bs w0 (.slice (some ⟨b, off + 1, none⟩) m (cap - 1)) (t.take m)) := by
    have := bs_part (bs_rest hx (lo := 1) (by omega)) (lo := 0) (hi := m) (Nat.zero_le _) (by omega)
    show Bs _ _ _
    simpa using this
  have HY : Hid (Bs w0 (.slice (if cap - 1 = m then some ⟨b, off + 1, none⟩ else some ⟨b, off + 1 + m, none⟩) (n - 1 - m) (cap - 1 - m)) (t.drop m)) := cut_at (bs_rest hx (lo := 1) (by omega)) (k := m) (by omega)
  clear hx hcl hb hn hnt hb1 hm hkn hlt hk2
  by_cases h11 : cap - 1 = m
  all_goals
    have h11' := h11
    rw [Hid] at HY
    first | rw [if_pos h11, show cap - 1 - m = 0 by omega] at HY; rw [h11] at HX | rw [if_neg h11] at HY
    have HYY : Hid _ := HY
    clear HY h11'
    go_enter Try.func43, Try.ntmps43
    go_wp2_with fail
    go_quiet (fail)
    go_wp2_with fail
    obtain ⟨w2, hw2, hb2, hbl2⟩ : ∃ w2, w1.drewN nq = w2 ∧ BB w0 w w2 ∧ w2.heap[w.heap.size]? = some (.cells #[.bool false, .int .i64 0, .int .i64 0, .slice none 0 0] 65 (0, 0)) := ⟨_, rfl, HB.out.drewN _, hbl⟩
    rw [hw2]
    clear hw2
    obtain ⟨f0, f1, f2, f3, k0, k1, k2, k3⟩ := tok_facts hbl2
    go_region
    all_goals
      go_wp2_with fail
      refine tok_fin (G := fun W => bodyPost Try.prog Try.f43 _ Exit.ret _ W) hb2 hsz (Nat.le_refl _) hbl2 ?_
      intro wf hb9 hbl9
      have HB9 : Hid (BB w0 w wf) := hb9
      clear hbl2 hb2 hb9 f0 f1 f2 f3 k0 k1 k2 k3 c0
      obtain ⟨f0, f1, f2, f3, k0, k1, k2, k3⟩ := tok_facts hbl9
      refine bodyPost_ret (by rw [results_cell3 rfl]; go_simp; try rfl) rfl ?_
      exact ⟨_, _, rfl, HX.out, HYY.out, HB9.out⟩
set_option maxHeartbeats 32000000 in
theorem first_noc (v : Value) (k : Int) (t : List Int) (w0 w : World) (hb : Below w0.heap.size w0 w) (hx : Bs w0 v (k :: t)) (hk : 128 ≤ k) (hk2 : k ≤ 255) (ht : t = []) (hlb : t.length ≤ 140737488351232) :
    Calls Try.prog 43 #[v] w fun e w' => ∃ x y, e = .returned (.tuple #[x, y, .bool false]) ∧ x = .agg #[.bool false, .int .i64 0, .int .i64 0, .slice none 0 0] ∧ y = .slice none 0 0 ∧ BB w0 w w' := by
  obtain ⟨ao, cap, rfl, hc, _⟩ := id hx
  obtain ⟨n, hn⟩ : ∃ n, (k :: t).length = n := ⟨_, rfl⟩
  rw [hn] at hx hc ⊢
  have hnt : n = t.length + 1 := by rw [← hn]; rfl
  obtain ⟨b, off, rfl, hcl⟩ := bs_some hx (by omega)
  obtain ⟨w1, hw1, hb1, hbl⟩ := tok_cell w0 w hb
  have c0 : w1.cell? ⟨b, off, none⟩ = some (.int .u8 k) := bel_cell hb1.1 (hcl 0 (by omega))
  have HB : Hid (BB w0 w w1) := hb1
  have hsz := hb.size
  have hne : n = 1 := by rw [hnt, ht]; rfl
  subst hne
  have e1 : IntKind.i64.wrap k = k := wrap_i64_in _ (by omega) (by omega)
  have hn8 : 1 ≤ cap := by omega
  clear hx hcl hb hn hb1 hnt ht
  by_cases h1c : cap = 1
  all_goals
    go_enter Try.func43, Try.ntmps43
    go_wp2_with fail
    go_quiet (fail)
    have hb2 : BB w0 w (w1.drewN nq) := HB.out.drewN _
    have hbl2 : (w1.drewN nq).heap[w.heap.size]? = some (.cells #[.bool false, .int .i64 0, .int .i64 0, .slice none 0 0] 65 (0, 0)) := hbl
    obtain ⟨w2, hw2⟩ : ∃ w2, w1.drewN nq = w2 := ⟨_, rfl⟩
    rw [hw2] at hb2 hbl2 ⊢
    clear hw2
    obtain ⟨f0, f1, f2, f3, k0, k1, k2, k3⟩ := tok_facts hbl2
    go_wp2_with fail
    refine tok_finN (G := fun W => bodyPost Try.prog Try.f43 _ Exit.ret _ W) hb2 hsz (Nat.le_refl _) hbl2 ?_
    intro wf hb9 hbl9
    have HB9 : Hid (BB w0 w wf) := hb9
    clear hbl2 hb2 hb9 f0 f1 f2 f3 k0 k1 k2 k3 c0
    obtain ⟨f0, f1, f2, f3, k0, k1, k2, k3⟩ := tok_facts hbl9
    refine bodyPost_ret (by rw [results_cell3 rfl]; go_simp; try rfl) rfl ?_
    exact ⟨_, _, rfl, rfl, rfl, HB9.out⟩
set_option maxHeartbeats 32000000 in
theorem first_nor (v : Value) (k : Int) (t : List Int) (w0 w : World) (hb : Below w0.heap.size w0 w) (hx : Bs w0 v (k :: t)) (hk : 0 ≤ k) (hk2 : k < 128) (ht : (t.length : Int) ≤ k) (hlb : t.length ≤ 140737488351232) :
    Calls Try.prog 43 #[v] w fun e w' => ∃ x y, e = .returned (.tuple #[x, y, .bool false]) ∧ x = .agg #[.bool false, .int .i64 0, .int .i64 0, .slice none 0 0] ∧ y = .slice none 0 0 ∧ BB w0 w w' := by
  obtain ⟨ao, cap, rfl, hc, _⟩ := id hx
  obtain ⟨n, hn⟩ : ∃ n, (k :: t).length = n := ⟨_, rfl⟩
  rw [hn] at hx hc ⊢
  have hnt : n = t.length + 1 := by rw [← hn]; rfl
  obtain ⟨b, off, rfl, hcl⟩ := bs_some hx (by omega)
  obtain ⟨w1, hw1, hb1, hbl⟩ := tok_cell w0 w hb
  have c0 : w1.cell? ⟨b, off, none⟩ = some (.int .u8 k) := bel_cell hb1.1 (hcl 0 (by omega))
  have HB : Hid (BB w0 w w1) := hb1
  have hsz := hb.size
  have e1 : IntKind.i64.wrap k = k := wrap_i64_in _ (by omega) (by omega)
  have e2 : IntKind.i64.wrap (k + 1) = k + 1 := wrap_i64_in _ (by omega) (by omega)
  have hk3 : ¬ 128 ≤ k := by omega
  have hk4 : ((n - 1 : Nat) : Int) < k + 1 := by omega
  have hn2 : 0 < n := by omega
  have hn3 : 1 ≤ n := by omega
  have hn8 : 1 ≤ cap := by omega
  clear hx hcl hb hn hb1 hnt
  by_cases h1c : cap = 1
  all_goals
    go_enter Try.func43, Try.ntmps43
    go_wp2_with fail
    go_quiet (fail)
    have hb2 : BB w0 w (w1.drewN nq) := HB.out.drewN _
    have hbl2 : (w1.drewN nq).heap[w.heap.size]? = some (.cells #[.bool false, .int .i64 0, .int .i64 0, .slice none 0 0] 65 (0, 0)) := hbl
    obtain ⟨w2, hw2⟩ : ∃ w2, w1.drewN nq = w2 := ⟨_, rfl⟩
    rw [hw2] at hb2 hbl2 ⊢
    clear hw2
    obtain ⟨f0, f1, f2, f3, k0, k1, k2, k3⟩ := tok_facts hbl2
    go_wp2_with fail
    refine tok_finN (G := fun W => bodyPost Try.prog Try.f43 _ Exit.ret _ W) hb2 hsz (Nat.le_refl _) hbl2 ?_
    intro wf hb9 hbl9
    have HB9 : Hid (BB w0 w wf) := hb9
    clear hbl2 hb2 hb9 f0 f1 f2 f3 k0 k1 k2 k3 c0
    obtain ⟨f0, f1, f2, f3, k0, k1, k2, k3⟩ := tok_facts hbl9
    refine bodyPost_ret (by rw [results_cell3 rfl]; go_simp; try rfl) rfl ?_
    exact ⟨_, _, rfl, rfl, rfl, HB9.out⟩
end Go.Proofs.Ytgodoogmbdgeoab
