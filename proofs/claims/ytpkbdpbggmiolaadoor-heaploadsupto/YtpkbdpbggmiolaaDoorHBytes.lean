/-
  The walk of Bytes. Conditions: at most 65536 things, all numbers below 2^32 - 1, the table of check stands.
-/
import Derived.Test.YtpkbdpbggmiolaaDoorHRep
import Derived.Test.YtpkbdpbggmiolaaDoorWalkG
import Derived.Test.YtpkbdpbggmiolaaDoorUnsealWalk
namespace Go.Proofs.YtpkbdpbggmiolaaDoor
open Go.RowKit Go.Maps
set_option linter.unusedVariables false
set_option maxRecDepth 100000

/-- Numbers, read off a slice. -/
def Zs (w : World) (v : Value) (L : List Int) : Prop := ∃ ao cap, v = .slice ao L.length cap ∧ L.length ≤ cap ∧ ∀ i, i < L.length → ∃ g off, ao = some ⟨g, off, none⟩ ∧ w.cell? ⟨g, off + i, none⟩ = some (.int .i64 (L.getD i 0))
theorem Zs.of_owns {w : World} {B : Nat} {v : Value} {L : List Int} (h : w.ownsRow B 3 1 v L.length (L.map encZ)) : Zs w v L := by
  obtain ⟨_, ⟨rfl, h0⟩ | ⟨g, cap, cur, rfl, hB, hg, hle, hm, hs, ht⟩⟩ := h
  · obtain rfl : L = [] := List.eq_nil_of_length_eq_zero h0
    exact ⟨none, 0, rfl, Nat.le_refl _, fun i hi => by simp at hi⟩
  · refine ⟨some ⟨g, 0, none⟩, cap, rfl, hle, fun i hi => ⟨g, 0, rfl, ?_⟩⟩
    rw [Nat.zero_add]
    have e : (L.map encZ)[i]? = some (.int .i64 (L.getD i 0)) := by simp [hi]
    rw [← ht, List.getElem?_take, if_pos (by omega)] at e
    simp only [World.cell?, hg]
    simpa using e
theorem Zs.below {w w' : World} {v : Value} {L : List Int} (h : Zs w v L) (hb : Below w.heap.size w w') : Zs w' v L := by
  obtain ⟨ao, cap, rfl, hc, hcell⟩ := h
  refine ⟨ao, cap, rfl, hc, fun i hi => ?_⟩
  obtain ⟨g, off, rfl, h1⟩ := hcell i hi
  exact ⟨g, off, rfl, (hb.cell (World.block_lt_of_cell? w _ h1)).trans h1⟩

/-- The number behind the first k ones. -/
def nxt (L : List Int) : Nat → Int
  | 0 => 0
  | k + 1 => L.getD k 0 + 1
theorem countOf_any (v : Value) (L : List Int) (w : World) (hZ : Zs w v L) (hm : L.length ≤ 65536) (hL : ∀ i, i < L.length → 0 ≤ L.getD i 0 ∧ L.getD i 0 < 4294967296) :
    Calls Tryd.prog 29 #[v] w fun e w' => e = .returned (.int .i64 (nxt L L.length)) ∧ w' = w := by
  obtain ⟨ao, cap, rfl, hcap, hcell⟩ := hZ
  obtain ⟨n, hn⟩ : ∃ n, L.length = n := ⟨_, rfl⟩
  rw [hn] at hcap hm hL hcell ⊢
  cases n with
  | zero =>
    have HX : Hid (nxt L 0 = 0) := rfl
    clear hcell hL hn
    go_enter Tryd.func29, Tryd.ntmps29
    go_wp2
    go_ret
    exact ⟨by rw [HX.out]; simp, rfl⟩
  | succ k =>
    obtain ⟨g, off, rfl, c0⟩ := hcell k (by omega)
    have hx := hL k (by omega)
    have HX : Hid (nxt L (k + 1) = L.getD k 0 + 1) := rfl
    obtain ⟨x, hxx⟩ : ∃ x, L.getD k 0 = x := ⟨_, rfl⟩
    rw [hxx] at c0 hx HX
    clear hcell hL hn hxx
    go_enter Tryd.func29, Tryd.ntmps29
    go_wp2
    go_ret
    exact ⟨by rw [HX.out]; rfl, rfl⟩

/-- What stands for the first k numbers. -/
def encK (T : Int → Option (List Int)) (L : List Int) : Nat → List Int
  | 0 => []
  | k + 1 => encK T L k ++ (List.replicate (L.getD k 0 - nxt L k).toNat 0 ++ ([1] ++ pbList [] ((T (L.getD k 0)).getD [])))
def plainH (T : Int → Option (List Int)) (L : List Int) (k : Nat) : List Int := dig2 true (nxt L L.length) 4 ++ encK T L k
theorem byt_rep0 (n : Nat) : Byt (List.replicate n 0) := fun i => by
  by_cases h : i < n <;> simp [List.getD, h]
theorem pb_byt {l b : List Int} (hl : Byt l) (h : Byt b) : Byt (pbList l b) := by
  unfold pbList
  split
  · exact byt_lit [] rfl
  · exact byt_append hl (byt_append (byt_dig2 true _ 4) h)
theorem encK_byt {T : Int → Option (List Int)} {L : List Int} (h : ∀ i b, T i = some b → Byt b) : ∀ k, Byt (encK T L k)
  | 0 => byt_lit [] rfl
  | k + 1 => byt_append (encK_byt h k) (byt_append (byt_rep0 _) (byt_append (byt_lit [1] rfl) (pb_byt (byt_lit [] rfl) (by
      cases hT : T (L.getD k 0) with
      | none => exact byt_lit [] rfl
      | some b => exact h _ b hT))))
theorem nxt_le {L : List Int} (h : L.Pairwise (· < ·)) (h0 : ∀ i ∈ L, 0 ≤ i) {k : Nat} (hk : k < L.length) : 0 ≤ nxt L k ∧ nxt L k ≤ L.getD k 0 := by
  have e : ∀ j, j < L.length → 0 ≤ L.getD j 0 := fun j hj => by rw [List.getD, List.getElem?_eq_getElem hj]; exact h0 _ (List.getElem_mem hj)
  cases k with
  | zero => exact ⟨Int.le_refl _, e 0 hk⟩
  | succ k =>
    have h1 := List.pairwise_iff_getElem.1 h k (k + 1) (by omega) hk (by omega)
    have h2 := e k (by omega)
    show 0 ≤ L.getD k 0 + 1 ∧ L.getD k 0 + 1 ≤ L.getD (k + 1) 0
    have e1 : L.getD k 0 = L[k]'(by omega) := by simp [List.getD, show k < L.length by omega]
    have e2 : L.getD (k + 1) 0 = L[k + 1] := by simp [List.getD, hk]
    rw [e2]
    rw [e1] at h2 ⊢
    omega
theorem encK_len {T : Int → Option (List Int)} {L : List Int} (h : L.Pairwise (· < ·)) (h0 : ∀ i ∈ L, 0 ≤ i) : ∀ k, k ≤ L.length → ((encK T L k).length : Int) ≤ nxt L k + k * 65541
  | 0, _ => by simp [encK, nxt]
  | k + 1, hk => by
    have ih := encK_len (T := T) h h0 k (by omega)
    have h1 := nxt_le h h0 (k := k) (by omega)
    have h2 := pbList_length [] ((T (L.getD k 0)).getD [])
    have e : (encK T L (k + 1)).length = (encK T L k).length + ((L.getD k 0 - nxt L k).toNat + (1 + (pbList [] ((T (L.getD k 0)).getD [])).length)) := by simp [encK]; omega
    rw [e]
    have e2 : nxt L (k + 1) = L.getD k 0 + 1 := rfl
    rw [e2]
    simp only [List.length_nil, Nat.zero_add] at h2
    omega
end Go.Proofs.YtpkbdpbggmiolaaDoor
