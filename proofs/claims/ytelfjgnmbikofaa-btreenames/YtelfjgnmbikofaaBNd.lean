/-
  A tree of nodes in memory: its pieces, all its items in order, its shape. No conditions.
  A node's pieces: what they tell, and what a turned row or a stored cell leaves. No conditions.
-/
import Derived.Test.YtelfjgnmbikofaaBIns2P
import Derived.Test.YtelfjgnmbikofaaBMath
namespace Go.Proofs.Ytelfjgnmbikofaa
open Go.RowKit
set_option linter.unusedVariables false
set_option maxRecDepth 100000

/-- A node, with where it lies. -/
structure Nd (K : Type) where
  n : Nat
  vI : Value
  vC : Value
  L : List It
  ks : List K
/-- Trees of one depth: all leaves lie h - 1 levels below. -/
def Tr : Nat → Type
  | 0 => Empty
  | h + 1 => Nd (Tr h)
def adr : (h : Nat) → Tr h → Nat
  | 0, _ => 0
  | h + 1, t => Nd.n (K := Tr h) t
/-- The pieces of a node. -/
def ndp (n : Nat) (vI vC : Value) (L : List It) (cs : List Nat) : List Pc :=
  [.obj n #[vI, vC] 73, .row 69 2 vI L.length (gc encI L), .row 65 1 vC cs.length (gc encP cs)]
/-- The pieces of a tree. -/
def pcs : (h : Nat) → Tr h → List Pc
  | 0, _ => []
  | h + 1, t => ndp (Nd.n (K := Tr h) t) (Nd.vI (K := Tr h) t) (Nd.vC (K := Tr h) t) (Nd.L (K := Tr h) t) ((Nd.ks (K := Tr h) t).map (adr h)) ++ (Nd.ks (K := Tr h) t).flatMap (pcs h)
/-- All items in order. -/
def flat : (h : Nat) → Tr h → List It
  | 0, _ => []
  | h + 1, t => il (Nd.L (K := Tr h) t) ((Nd.ks (K := Tr h) t).map (flat h))
/-- The shape: how few and how many items the top node has; all below it are as they must be. -/
def Shp (most : Nat) : (h : Nat) → Nat → Nat → Tr h → Prop
  | 0, _, _, _ => False
  | h + 1, lo, hi, t => lo ≤ (Nd.L (K := Tr h) t).length ∧ (Nd.L (K := Tr h) t).length ≤ hi ∧ (0 < h → (Nd.ks (K := Tr h) t).length = (Nd.L (K := Tr h) t).length + 1) ∧ ∀ k ∈ Nd.ks (K := Tr h) t, Shp most h (most / 2) most k
theorem pcs_succ (h : Nat) (t : Nd (Tr h)) : pcs (h + 1) t = ndp t.n t.vI t.vC t.L (t.ks.map (adr h)) ++ t.ks.flatMap (pcs h) := rfl
theorem flat_succ (h : Nat) (t : Nd (Tr h)) : flat (h + 1) t = il t.L (t.ks.map (flat h)) := rfl
theorem adr_succ (h : Nat) (t : Nd (Tr h)) : adr (h + 1) t = t.n := rfl
theorem shp_succ (most h lo hi : Nat) (t : Nd (Tr h)) : Shp most (h + 1) lo hi t ↔ lo ≤ t.L.length ∧ t.L.length ≤ hi ∧ (0 < h → t.ks.length = t.L.length + 1) ∧ ∀ k ∈ t.ks, Shp most h (most / 2) most k := Iff.rfl
/-- A leaf has no children. -/
theorem ks_leaf (t : Nd (Tr 0)) : t.ks = [] := by
  cases h : t.ks with
  | nil => rfl
  | cons k _ => exact nomatch k
theorem shp_kin {most h lo hi : Nat} {t : Nd (Tr h)} (hs : Shp most (h + 1) lo hi t) : t.ks.map (flat h) ≠ [] → (t.ks.map (flat h)).length = t.L.length + 1 := by
  intro hne
  cases h with
  | zero => rw [ks_leaf t] at hne; exact absurd rfl hne
  | succ h => rw [List.length_map]; exact ((shp_succ ..).1 hs).2.2.1 (by omega)
theorem shp_leaf {most h lo hi : Nat} {t : Nd (Tr h)} (hs : Shp most (h + 1) lo hi t) : t.ks.length = 0 ↔ h = 0 := by
  cases h with
  | zero => simp [ks_leaf t]
  | succ h => have := ((shp_succ ..).1 hs).2.2.1 (by omega); omega

/-- A call of a function, as a step of a region that draws. -/
theorem step_call {ops : Array Oper} {o : Oper} {a : Act} {w : World} {K : Act → World → Prop} {Q : Exit → Act → World → Prop} {E : Prop}
    (hg : o.guard = none) (f : FuncId) (he : ∀ args w, (callFunc f args).run Try.prog w = .ok (.enter f args) w) (xs : Array Operand) (ts : Array TypeId) (hop : o.op = Op.call { callee := Callee.value (Operand.func f), args := xs, argTypes := ts })
    (vs : Array Value) (hev : xs.map a.eval = vs) (R : Value → World → Prop) (hC : Calls Try.prog f vs w fun e w' => ∃ v, e = .returned v ∧ R v w') (hK : ∀ v w', R v w' → K (a.put o.dst v) w') :
    if Region.wanted o (yielded ops a.tmps) = true then Oper.wp Try.prog o a w K Q else E := by
  have hw : Region.wanted o (yielded ops a.tmps) = true := by simp [Region.wanted, hg]
  rw [if_pos hw]
  have hf : a.eval (Operand.func f) = .func (.func f) #[] #[] := rfl
  have hev' : xs.map (fun x => a.eval x) = vs := hev
  unfold Oper.wp
  simp [execOp, hop, resolve, invoke, hev', hf, Oper.upon, Deferred.ofValue, he]
  refine hC.mono ?_
  rintro e w' ⟨v, rfl, h2⟩
  exact hK v w' h2
end Go.Proofs.Ytelfjgnmbikofaa

namespace Go.Proofs.Ytelfjgnmbikofaa
open Go.RowKit
set_option linter.unusedVariables false
set_option maxRecDepth 100000

/-- What a node's pieces tell. -/
structure NdAt (w : World) (B n : Nat) (vI vC : Value) (L : List It) (cs : List Nat) : Prop where
  o : w.heap[n]? = some (.cells #[vI, vC] 73 (0, 0))
  bn : B ≤ n
  rI : w.ownsRow B 69 2 vI L.length (gc encI L)
  rC : w.ownsRow B 65 1 vC cs.length (gc encP cs)
theorem Sep.nd_ {w : World} {B n : Nat} {vI vC : Value} {L : List It} {cs : List Nat} (X : List Pc) {Y : List Pc} (h : Sep w B (X ++ (ndp n vI vC L cs ++ Y))) : NdAt w B n vI vC L cs :=
  ⟨(h.at_ (.obj n #[vI, vC] 73) (by simp [ndp])).1, (h.at_ (.obj n #[vI, vC] 73) (by simp [ndp])).2, h.at_ (.row 69 2 vI L.length (gc encI L)) (by simp [ndp]), h.at_ (.row 65 1 vC cs.length (gc encP cs)) (by simp [ndp])⟩
theorem NdAt.c {w : World} {B n : Nat} {vI vC : Value} {L : List It} {cs : List Nat} (h : NdAt w B n vI vC L cs) : w.cell? ⟨n, 0, none⟩ = some vI ∧ w.cell? ⟨n, 1, none⟩ = some vC ∧ w.frozen? ⟨n, 0, none⟩ = false ∧ w.frozen? ⟨n, 1, none⟩ = false :=
  ⟨cellO h.o 0 rfl, cellO h.o 1 rfl, frozenO h.o 0, frozenO h.o 1⟩
/-- A row that has something, written out. -/
theorem row_some {w : World} {B k n : Nat} {T : TypeId} {v : Value} {xs : List Value} (h : w.ownsRow B T k v n xs) (hn : 1 ≤ n) : ∃ g cap, v = .slice (some ⟨g, 0, none⟩) n cap ∧ n ≤ cap ∧ cap ≤ 9223372036854775807 ∧ B ≤ g ∧ g < w.heap.size ∧ (∀ j, w.frozen? ⟨g, j, none⟩ = false) ∧ ∀ j u, xs[j]? = some u → w.cell? ⟨g, j, none⟩ = some u := by
  rcases ownsRow_shape h with ⟨_, h0⟩ | ⟨g, cap, rfl, h1, h2, h3, h4, h5, h6⟩
  · omega
  · exact ⟨g, cap, rfl, h3, by unfold maxLen at h4; omega, h1, h2, h5, h6⟩
theorem perm_blk (a b c : List Pc) : List.Perm (a ++ (b ++ c)) (b ++ (a ++ c)) := by rw [← List.append_assoc, ← List.append_assoc]; exact List.perm_append_comm.append_right c
theorem perm_obj (p : Pc) (a b c : List Pc) : List.Perm (p :: (a ++ (b ++ c))) (a ++ (b ++ p :: c)) := List.perm_middle.symm.trans (List.Perm.append_left a List.perm_middle.symm)
theorem isLeaf_no {n k cap : Nat} {ad : Addr} {w : World} (hc : w.cell? ⟨n, 1, none⟩ = some (.slice (some ad) k cap)) (hk : 1 ≤ k) : Calls Try.prog 45 #[.pointer (some ⟨n, 0, none⟩)] w fun e w' => e = .returned (.bool false) ∧ w' = w := by
  have d1 : ((k : Int) == 0) = false := by simp; omega
  go_enter Try.func45, Try.ntmps45
  go_wp2
  go_ret
  exact ⟨rfl, rfl⟩
theorem isLeaf_z {n cap : Nat} {ao : Option Addr} {w : World} (hc : w.cell? ⟨n, 1, none⟩ = some (.slice ao 0 cap)) : Calls Try.prog 45 #[.pointer (some ⟨n, 0, none⟩)] w fun e w' => e = .returned (.bool true) ∧ w' = w := by
  go_enter Try.func45, Try.ntmps45
  go_wp2
  go_ret
  exact ⟨rfl, rfl⟩
theorem row_zero {w : World} {B k : Nat} {T : TypeId} {v : Value} {xs : List Value} (h : w.ownsRow B T k v 0 xs) : ∃ ao cap, v = .slice ao 0 cap := by
  rcases ownsRow_shape h with ⟨rfl, _⟩ | ⟨g, cap, rfl, _⟩
  · exact ⟨none, 0, rfl⟩
  · exact ⟨_, cap, rfl⟩
theorem row_at {w : World} {B k n n' g cap : Nat} {T : TypeId} {xs : List Value} (h : w.ownsRow B T k (.slice (some ⟨g, 0, none⟩) n cap) n' xs) : B ≤ g ∧ g < w.heap.size ∧ (∀ j, w.frozen? ⟨g, j, none⟩ = false) ∧ ∀ j u, xs[j]? = some u → w.cell? ⟨g, j, none⟩ = some u := by
  rcases ownsRow_shape h with ⟨e, _⟩ | ⟨g', cap', e, h1, h2, h3, h4, h5, h6⟩
  · cases e
  · injection e with e1 _ _
    obtain rfl : g = g' := by simpa using e1
    exact ⟨h1, h2, h5, h6⟩
theorem row_heap {w : World} {B k n n' g cap : Nat} {T : TypeId} {xs : List Value} (h : w.ownsRow B T k (.slice (some ⟨g, 0, none⟩) n cap) n' xs) : ∃ cur, w.heap[g]? = some (.cells cur T (0, 0)) := by
  obtain ⟨_, ⟨e, _⟩ | ⟨g', cap', cur, e, _, hg, _⟩⟩ := h
  · cases e
  · injection e with e1 _ _
    obtain rfl : g = g' := by simpa using e1
    exact ⟨cur, hg⟩
theorem gcP_at {cs : List Nat} {i c : Nat} (h : cs[i]? = some c) : (gc encP cs)[i]? = some (.pointer (some ⟨c, 0, none⟩)) := by
  have := gc_at encP_len cs i c h 0 _ rfl
  simpa using this


/-- A node's items are turned and laid down in it. -/
theorem Sep.ndI {w w4 : World} {B c : Nat} {wI wI' wC : Value} {M M' : List It} {bs : List Nat} (X : List Pc) {Y : List Pc} (h : Sep w B (X ++ (ndp c wI wC M bs ++ Y))) (ho : w4.ownsRow B 69 2 wI' M'.length (gc encI M')) (hg : w.grownBy w4 wI.ownBlock) (ha : wI'.ownBlock = wI.ownBlock ∨ ∀ x, wI'.ownBlock = some x → w.heap.size ≤ x) :
    w4.heap[c]? = some (.cells #[wI, wC] 73 (0, 0)) ∧ Sep (w4.setCell ⟨c, 0, none⟩ wI') B (X ++ (ndp c wI' wC M' bs ++ Y)) := by
  have h1 : Sep w B ((X ++ [.obj c #[wI, wC] 73]) ++ .row 69 2 wI M.length (gc encI M) :: (.row 65 1 wC bs.length (gc encP bs) :: Y)) := by simpa [ndp] using h
  have h2 := h1.turn _ ho hg ha
  have h3 : Sep w4 B (X ++ .obj c #[wI, wC] 73 :: (.row 69 2 wI' M'.length (gc encI M') :: .row 65 1 wC bs.length (gc encP bs) :: Y)) := by simpa using h2
  exact ⟨h3.obj (by simp), by simpa [ndp] using h3.store X 0 wI'⟩
theorem Sep.ndC {w w4 : World} {B c : Nat} {wI wC wC' : Value} {M : List It} {bs bs' : List Nat} (X : List Pc) {Y : List Pc} (h : Sep w B (X ++ (ndp c wI wC M bs ++ Y))) (ho : w4.ownsRow B 65 1 wC' bs'.length (gc encP bs')) (hg : w.grownBy w4 wC.ownBlock) (ha : wC'.ownBlock = wC.ownBlock ∨ ∀ x, wC'.ownBlock = some x → w.heap.size ≤ x) :
    w4.heap[c]? = some (.cells #[wI, wC] 73 (0, 0)) ∧ Sep (w4.setCell ⟨c, 1, none⟩ wC') B (X ++ (ndp c wI wC' M bs' ++ Y)) := by
  have h1 : Sep w B ((X ++ [.obj c #[wI, wC] 73, .row 69 2 wI M.length (gc encI M)]) ++ .row 65 1 wC bs.length (gc encP bs) :: Y) := by simpa [ndp] using h
  have h2 := h1.turn _ ho hg ha
  have h3 : Sep w4 B (X ++ .obj c #[wI, wC] 73 :: (.row 69 2 wI M.length (gc encI M) :: .row 65 1 wC' bs'.length (gc encP bs') :: Y)) := by simpa using h2
  exact ⟨h3.obj (by simp), by simpa [ndp] using h3.store X 1 wC'⟩
/-- An item of a node is laid over another one. -/
theorem Sep.ndSet {w : World} {B c g cap m : Nat} {wC : Value} {M : List It} {bs : List Nat} (X : List Pc) {Y : List Pc} (h : Sep w B (X ++ (ndp c (.slice (some ⟨g, 0, none⟩) m cap) wC M bs ++ Y))) (hm : M.length = m) (i : Nat) (hi : i < m) (x : It) :
    Sep ((w.setCell ⟨g, i * 2, none⟩ (.string x.1)).setCell ⟨g, i * 2 + 1, none⟩ (.int .u64 x.2)) B (X ++ (ndp c (.slice (some ⟨g, 0, none⟩) m cap) wC (M.set i x) bs ++ Y)) := by
  subst hm
  have h1 : Sep w B ((X ++ [.obj c #[.slice (some ⟨g, 0, none⟩) M.length cap, wC] 73]) ++ .row 69 2 (.slice (some ⟨g, 0, none⟩) M.length cap) M.length (gc encI M) :: (.row 65 1 wC bs.length (gc encP bs) :: Y)) := by simpa [ndp] using h
  have h2 := (h1.storeRow _ (i * 2) (.string x.1)).storeRow _ (i * 2 + 1) (.int .u64 x.2)
  rw [← gc_set2 encI_len M i x _ _ hi rfl] at h2
  simpa [ndp] using h2
/-- A new node, with a row of items of its own and no children. -/
theorem Sep.ndNew {w w2 : World} {B k cap : Nat} {g : Nat} {M : List It} {ps : List Pc} (h : Sep w B ps) (hb : Below w.heap.size w w2) (hm : M.length = k) (ho : w2.ownsRow B 69 2 (.slice (some ⟨g, 0, none⟩) k cap) k (gc encI M)) (hg : w.heap.size ≤ g) (hB : B ≤ w2.heap.size) :
    Sep (w2.alloc (.cells #[.slice (some ⟨g, 0, none⟩) k cap, .slice none 0 0] 73)) B (ndp w2.heap.size (.slice (some ⟨g, 0, none⟩) k cap) (.slice none 0 0) M [] ++ ps) := by
  subst hm
  have h2 := Sep.new (w' := w2) (p := .row 69 2 (.slice (some ⟨g, 0, none⟩) M.length cap) M.length (gc encI M)) h hb ho (by intro x hx; simp [Pc.blk, Value.ownBlock] at hx; rw [hx]; exact hg)
  have h3 := Sep.new (w' := w2.alloc (.cells #[.slice (some ⟨g, 0, none⟩) M.length cap, .slice none 0 0] 73)) (p := .obj w2.heap.size #[.slice (some ⟨g, 0, none⟩) M.length cap, .slice none 0 0] 73) h2 ((Below.refl _ _).alloc (Nat.le_refl _) _) ⟨heap_alloc_new w2 _, hB⟩ (by simp [Pc.blk])
  have h4 := (h3.nil 65 1).perm (List.Perm.swap _ _ _)
  exact h4.perm (List.Perm.cons _ (List.Perm.swap _ _ _))
theorem below_gr {w0 w w' : World} {B : Nat} {v : Value} {T : TypeId} {k n : Nat} {xs : List Value} (hb : Below B w0 w) (hB : B ≤ w.heap.size) (hr : w.ownsRow B T k v n xs) (hg : w.grownBy w' v.ownBlock) : Below B w0 w' :=
  hb.grown hg hB (fun j hj => (World.ownsRow.lt hr j hj).1)
end Go.Proofs.Ytelfjgnmbikofaa
