/-
  The document's list of names: where a name is, and what stands there. Conditions: lengths are such as memory bears.
  The document's list with its names and numbers apart; cut ends of a slice. No conditions.
-/
import Derived.Test.YtelfjgnmbikofaaBSpan
import Derived.Test.YtelfjgnmbikofaaBOrdN
import Derived.Test.YtelfjgnmbikofaaGAppS
namespace Go.Proofs.Ytelfjgnmbikofaa
open Go.RowKit
set_option linter.unusedVariables false
set_option maxRecDepth 100000

def encU (u : Int) : List Value := [.int .u64 u]
theorem encU_len (u : Int) : (encU u).length = 1 := rfl
def rowU (v : Value) (l : List Int) : Pc := .row 31 1 v l.length (gc encU l)
def nmO (r : Nat) (vK vV : Value) : Pc := .obj r #[vK, vV] 29
/-- The document's list: its object, its names, its numbers. -/
def NM (r : Nat) (vK vV : Value) (F : List It) : List Pc := [nmO r vK vV, rowS vK (F.map (·.1)), rowU vV (F.map (·.2))]
theorem NM.k {w : World} {B r : Nat} {vK vV : Value} {F : List It} {X : List Pc} (h : Sep w B (NM r vK vV F ++ X)) : w.cell? ⟨r, 0, none⟩ = some vK ∧ w.cell? ⟨r, 1, none⟩ = some vV ∧ w.ownsRow B 9 1 vK F.length (gc encS (F.map (·.1))) ∧ w.ownsRow B 31 1 vV F.length (gc encU (F.map (·.2))) ∧ w.frozen? ⟨r, 0, none⟩ = false ∧ w.frozen? ⟨r, 1, none⟩ = false := by
  have h1 := h.obj (g := r) (a := #[vK, vV]) (T := 29) (by simp [NM, nmO])
  have h2 : w.ownsRow B 9 1 vK (F.map (·.1)).length (gc encS (F.map (·.1))) := h.at_ (rowS vK (F.map (fun x : It => x.1))) (by simp [NM])
  have h3 : w.ownsRow B 31 1 vV (F.map (·.2)).length (gc encU (F.map (·.2))) := h.at_ (rowU vV (F.map (fun x : It => x.2))) (by simp [NM])
  rw [List.length_map] at h2 h3
  exact ⟨cellO h1 0 rfl, cellO h1 1 rfl, h2, h3, frozenO h1 0, frozenO h1 1⟩
theorem NM.at {w : World} {B r : Nat} {vK vV : Value} {F : List It} {X : List Pc} (h : Sep w B (NM r vK vV F ++ X)) : ∃ aoK capK aoV capV, vK = .slice aoK F.length capK ∧ vV = .slice aoV F.length capV ∧ F.length ≤ capK ∧ F.length ≤ capV ∧ ∀ (i : Nat) (y : It), F[i]? = some y → ∃ gk gv, aoK = some ⟨gk, 0, none⟩ ∧ aoV = some ⟨gv, 0, none⟩ ∧ w.cell? ⟨gk, i, none⟩ = some (.string y.1) ∧ w.cell? ⟨gv, i, none⟩ = some (.int .u64 y.2) ∧ w.frozen? ⟨gv, i, none⟩ = false := by
  obtain ⟨_, _, h2, h3, _, _⟩ := NM.k h
  obtain ⟨aoK, capK, e1⟩ := row_slice h2
  obtain ⟨aoV, capV, e2⟩ := row_slice h3
  have hcap : ∀ {T : TypeId} {v : Value} {xs : List Value} {ao : Option Addr} {cap : Nat}, w.ownsRow B T 1 v F.length xs → v = .slice ao F.length cap → F.length ≤ cap := by
    intro T v xs ao cap h e
    rcases ownsRow_shape h with ⟨e', h0⟩ | ⟨g, cap', e', _, _, hc, _⟩
    · omega
    · rw [e] at e'; injection e' with _ _ e3; omega
  refine ⟨aoK, capK, aoV, capV, e1, e2, hcap h2 e1, hcap h3 e2, fun i y hy => ?_⟩
  have hi := (List.getElem?_eq_some_iff.1 hy).1
  obtain ⟨gk, ck, k1, _, _, _, _, _, k2⟩ := row_some h2 (by omega)
  obtain ⟨gv, cv, v1, _, _, _, _, v3, v2⟩ := row_some h3 (by omega)
  rw [e1] at k1
  rw [e2] at v1
  injection k1 with k1 _ _
  injection v1 with v1 _ _
  refine ⟨gk, gv, k1, v1, ?_, ?_, v3 i⟩
  · have := k2 _ _ (gc_at encS_len (F.map (·.1)) i y.1 (by rw [List.getElem?_map, hy]; rfl) 0 _ rfl)
    simpa using this
  · have := v2 _ _ (gc_at encU_len (F.map (·.2)) i y.2 (by rw [List.getElem?_map, hy]; rfl) 0 _ rfl)
    simpa using this
set_option maxHeartbeats 4000000 in
theorem at_any {w : World} {B r : Nat} {vK vV : Value} {F : List It} {X : List Pc} (hS : Sep w B (NM r vK vV F ++ X)) (hr : Rise F) (hz : ∀ y ∈ F, y.1.size ≤ 281474976710656) (k : ByteArray) (hk : k.size ≤ 281474976710656) (hn : F.length ≤ 1000000) :
    Calls Try.prog 34 #[.pointer (some ⟨r, 0, none⟩), .string k] w fun e w' => ∃ i : Nat, e = .returned (.tuple #[.int .i64 (i : Int), .bool (isAt F k i)]) ∧ At F k i ∧ Below w.heap.size w w' := by
  obtain ⟨aoK, capK, aoV, capV, rfl, rfl, _, _, hat⟩ := NM.at hS
  have HAT : Hid (∀ (i : Nat) (y : It), F[i]? = some y → ∃ gk, aoK = some ⟨gk, 0, none⟩ ∧ w.cell? ⟨gk, i, none⟩ = some (.string y.1)) := fun i y hy => by obtain ⟨gk, gv, h1, _, h2, _⟩ := hat i y hy; exact ⟨gk, h1, h2⟩
  have HR0 : Hid (w.cell? ⟨r, 0, none⟩ = some (.slice aoK F.length capK)) := (NM.k hS).1
  have HLow : Hid (Low F k) := hr.low k
  have HCM : Hid (∀ (y : It), y ∈ F → ∀ W, Calls Try.prog 22 #[.string k, .string y.1] W fun e w' => e = .returned (.int .i64 (cmpN k y.1)) ∧ Below W.heap.size W w') := fun y hy W => refCmpN_any k y.1 W (by unfold maxLen; omega) (by have := hz y hy; unfold maxLen; omega)
  obtain ⟨n, HN⟩ : ∃ n, Hid (F.length = n) := ⟨_, rfl⟩
  rw [HN.out] at hn HR0
  clear hat hS hr hz
  have r0 := HR0.out
  go_enter Try.func34, Try.ntmps34
  go_wp2_with fail
  clear r0
  go_loopw [6] (fun x wr => ∃ i : Nat, i ≤ n ∧ x = .int .i64 (i : Int) ∧ Hid (∀ (j : Nat) (y : It), F[j]? = some y → j < i → cmpN y.1 k < 0) ∧ Hid (Below w.heap.size w wr)) (fun x _ => n - (intOf x).toNat)
  case atStart => exact ⟨0, Nat.zero_le _, rfl, (fun j y _ h => absurd h (by omega)), Below.refl _ _⟩
  case round =>
    obtain ⟨i, hin, rfl, HL, HB⟩ := hrel
    have r0 : wr.cell? ⟨r, 0, none⟩ = some (.slice aoK n capK) := (HB.out.cell (World.block_lt_of_cell? w _ HR0.out)).trans HR0.out
    by_cases hlt : i < n
    · obtain ⟨y, hy⟩ : ∃ y, F[i]? = some y := ⟨F[i]'(by rw [HN.out]; exact hlt), List.getElem?_eq_getElem _⟩
      obtain ⟨gk, rfl, c0⟩ := HAT.out i y hy
      have d0 : wr.cell? ⟨gk, i, none⟩ = some (.string y.1) := (HB.out.cell (World.block_lt_of_cell? w _ c0)).trans c0
      have HC : Hid _ := HCM.out y (List.mem_of_getElem? hy) wr
      have HSW : Hid (cmpN y.1 k = - cmpN k y.1) := cmpN_swap k y.1
      have HIS : Hid (isAt F k i = (cmpN y.1 k == 0)) := by unfold Hid isAt; rw [hy]
      have HY : Hid (F[i]? = some y) := hy
      obtain ⟨cm, HCm⟩ : ∃ cm, Hid (cmpN k y.1 = cm) := ⟨_, rfl⟩
      rw [HCm.out] at HC HSW
      have hili : (i : Int) < (n : Int) := by omega
      clear hy c0
      by_cases hc : cm ≤ 0
      · have HA : Hid (At F k i) := by
          refine ⟨by rw [HN.out]; exact hin, fun j x hx => ⟨HL.out j x hx, fun h1 => ?_⟩⟩
          rcases Nat.lt_or_ge j i with h2 | h2
          · exact h2
          · exfalso
            have h3 : ¬ cmpN y.1 k < 0 := by rw [HSW.out]; omega
            rcases Nat.lt_or_ge i j with h4 | h4
            · exact h3 (HLow.out i j y x h4 HY.out hx h1)
            · have e : j = i := by omega
              subst e
              rw [HY.out] at hx
              have := Option.some.inj hx
              subst this
              exact h3 h1
        have HI2 : Hid (isAt F k i = (cm == 0)) := by unfold Hid; rw [HIS.out, HSW.out, Bool.eq_iff_iff]; simp
        go_wp2_with (go_at_call 22; refine Calls.mono HC.out ?_; rintro e w1 ⟨rfl, hb1⟩; have HB1 : Hid (Below w.heap.size w w1) := HB.out.trans (hb1.mono HB.out.size); clear hb1)
        go_ret2
        exact ⟨i, by rw [HI2.out]; rfl, HA.out, HB1.out⟩
      · have HLN : Hid (∀ (j : Nat) (x : It), F[j]? = some x → j < i + 1 → cmpN x.1 k < 0) := by
          intro j x hx hj
          rcases Nat.lt_or_ge j i with h2 | h2
          · exact HL.out j x hx h2
          · have e : j = i := by omega
            subst e
            rw [HY.out] at hx
            have := Option.some.inj hx
            subst this
            rw [HSW.out]; omega
        go_wp2_with (go_at_call 22; refine Calls.mono HC.out ?_; rintro e w1 ⟨rfl, hb1⟩; have HB1 : Hid (Below w.heap.size w w1) := HB.out.trans (hb1.mono HB.out.size); clear hb1)
        go_roundw
        case rel => exact ⟨i + 1, by omega, by simp, HLN.out, HB1.out⟩
        case measure => simp [intOf]; omega
    · obtain rfl : i = n := by omega
      have hii : ¬ (i : Int) < (i : Int) := by omega
      have HA : Hid (At F k i) := ⟨by rw [HN.out]; exact Nat.le_refl _, fun j x hx => ⟨HL.out j x hx, fun _ => by have := (List.getElem?_eq_some_iff.1 hx).1; rw [HN.out] at this; exact this⟩⟩
      have HI2 : Hid (isAt F k i = false) := by unfold Hid isAt; rw [List.getElem?_eq_none (by rw [HN.out]; exact Nat.le_refl _)]
      go_wp2_with fail
      go_ret2
      exact ⟨i, by rw [HI2.out]; rfl, HA.out, HB.out⟩
end Go.Proofs.Ytelfjgnmbikofaa

namespace Go.Proofs.Ytelfjgnmbikofaa
open Go.RowKit
set_option linter.unusedVariables false
set_option maxRecDepth 100000

theorem Try.infoU : (Try.prog.info? 31).map (fun i => (i.zero, i.size, i.bytes)) = some (some (.int .u64 0), 1, 8) := by kernel_rfl
theorem one_gcU (L : List Int) : ∀ v ∈ gc encU L, v.oneCell' = true := by
  intro v hv
  simp only [gc, List.mem_flatMap] at hv
  obtain ⟨x, _, hx⟩ := hv
  simp [encU] at hx; subst hx; rfl
def NM2 (r : Nat) (vK vV : Value) (Ks : List ByteArray) (Vs : List Int) : List Pc := [nmO r vK vV, rowS vK Ks, rowU vV Vs]
theorem NM2.k {w : World} {B r n : Nat} {vK vV : Value} {Ks : List ByteArray} {Vs : List Int} {X : List Pc} (h : Sep w B (NM2 r vK vV Ks Vs ++ X)) : w.cell? ⟨r, 0, none⟩ = some vK ∧ w.frozen? ⟨r, 0, none⟩ = false ∧ (Ks.length = n → w.ownsRow B 9 1 vK n (gc encS Ks)) := by
  have h1 := h.obj (g := r) (a := #[vK, vV]) (T := 29) (by simp [NM2, nmO])
  exact ⟨cellO h1 0 rfl, frozenO h1 0, fun e => by have h2 : w.ownsRow B 9 1 vK Ks.length (gc encS Ks) := h.at_ (rowS vK Ks) (by simp [NM2]); rw [e] at h2; exact h2⟩
theorem NM2.v {w : World} {B r n : Nat} {vK vV : Value} {Ks : List ByteArray} {Vs : List Int} {X : List Pc} (h : Sep w B (NM2 r vK vV Ks Vs ++ X)) : w.cell? ⟨r, 1, none⟩ = some vV ∧ w.frozen? ⟨r, 1, none⟩ = false ∧ (Vs.length = n → w.ownsRow B 31 1 vV n (gc encU Vs)) := by
  have h1 := h.obj (g := r) (a := #[vK, vV]) (T := 29) (by simp [NM2, nmO])
  exact ⟨cellO h1 1 rfl, frozenO h1 1, fun e => by have h2 : w.ownsRow B 31 1 vV Vs.length (gc encU Vs) := h.at_ (rowU vV Vs) (by simp [NM2]); rw [e] at h2; exact h2⟩
theorem row_cap {w : World} {B n cap : Nat} {T : TypeId} {ao : Option Addr} {xs : List Value} (h : w.ownsRow B T 1 (.slice ao n cap) n xs) : n ≤ cap := by
  rcases ownsRow_shape h with ⟨e', h0⟩ | ⟨g, cap', e', _, _, hc, _⟩
  · omega
  · injection e' with _ _ e3; omega
/-- Where a slice that was cut in front begins. -/
def pk (cap m : Nat) (ao : Option Addr) : Option Addr := if cap = m then ao else Option.map (fun x => (⟨x.block, x.off + m, none⟩ : Addr)) ao
theorem pk0 (cap m : Nat) (ao : Option Addr) : ao = none → pk cap m ao = none := fun e => by unfold pk; rw [e]; split <;> rfl
theorem pk1 {cap m n : Nat} {ao : Option Addr} (hc : n ≤ cap) : m < n → ∀ g, ao = some ⟨g, 0, none⟩ → pk cap m ao = some ⟨g, m * 1, none⟩ := fun h g e => by unfold pk; rw [if_neg (by omega), e]; simp
theorem pk2 (cap m : Nat) (ao : Option Addr) : ao ≠ none → pk cap m ao ≠ none := fun e => by unfold pk; split <;> simp [e]
def pkA (cap m : Nat) (ao : Option Addr) : Option Addr := if cap = m then ao else Option.map (fun x => x.add m) ao
theorem pkA0 (cap m : Nat) (ao : Option Addr) : ao = none → pkA cap m ao = none := fun e => by unfold pkA; rw [e]; split <;> rfl
theorem pkA1 {cap m n : Nat} {ao : Option Addr} (hc : n ≤ cap) : m < n → ∀ g, ao = some ⟨g, 0, none⟩ → pkA cap m ao = some ⟨g, m * 1, none⟩ := fun h g e => by unfold pkA; rw [if_neg (by omega), e, Option.map_some, addG]; simp
theorem pkA2 (cap m : Nat) (ao : Option Addr) : ao ≠ none → pkA cap m ao ≠ none := fun e => by unfold pkA; split <;> simp [e]
/-- A new row of names, or of numbers, is laid down in the object. -/
theorem nm_k {w : World} {B r n N : Nat} {vK vV v' : Value} {Ks : List ByteArray} {Vs : List Int} {X : List Pc} {xs : List Value} {Ks' : List ByteArray} (hl : Ks'.length = N) (hx : xs = gc encS Ks') (h : Sep w B (.row 9 1 v' N xs :: (NM2 r vK vV Ks Vs ++ X))) : Sep (w.setCell ⟨r, 0, none⟩ v') B (NM2 r v' vV Ks' Vs ++ X) := by
  subst hl hx
  have h1 : Sep w B ([rowS v' Ks'] ++ .obj r #[vK, vV] 29 :: (rowS vK Ks :: rowU vV Vs :: X)) := h
  have h2 := h1.store [rowS v' Ks'] 0 v'
  have h3 : Sep (w.setCell ⟨r, 0, none⟩ v') B (rowS v' Ks' :: nmO r v' vV :: (rowS vK Ks :: rowU vV Vs :: X)) := h2
  have h4 : Sep (w.setCell ⟨r, 0, none⟩ v') B (rowS v' Ks' :: nmO r v' vV :: (rowU vV Vs :: X)) := h3.sub (((List.sublist_cons_self _ _).cons_cons _).cons_cons _)
  exact h4.perm (List.Perm.swap _ _ _)
theorem nm_v {w : World} {B r n N : Nat} {vK vV v' : Value} {Ks : List ByteArray} {Vs : List Int} {X : List Pc} {xs : List Value} {Vs' : List Int} (hl : Vs'.length = N) (hx : xs = gc encU Vs') (h : Sep w B (.row 31 1 v' N xs :: (NM2 r vK vV Ks Vs ++ X))) : Sep (w.setCell ⟨r, 1, none⟩ v') B (NM2 r vK v' Ks Vs' ++ X) := by
  subst hl hx
  have h1 : Sep w B ([rowU v' Vs'] ++ .obj r #[vK, vV] 29 :: (rowS vK Ks :: rowU vV Vs :: X)) := h
  have h2 := h1.store [rowU v' Vs'] 1 v'
  have h3 : Sep (w.setCell ⟨r, 1, none⟩ v') B (rowU v' Vs' :: nmO r vK v' :: (rowS vK Ks :: rowU vV Vs :: X)) := h2
  have h4 : Sep (w.setCell ⟨r, 1, none⟩ v') B (rowU v' Vs' :: nmO r vK v' :: (rowS vK Ks :: X)) := h3.sub ((((List.sublist_cons_self _ _).cons_cons _).cons_cons _).cons_cons _)
  refine h4.perm ?_
  exact (List.Perm.swap _ _ _).trans ((List.Perm.swap _ _ _).cons _)
theorem obj_ge {w : World} {B r : Nat} {vK vV : Value} {p : Pc} {Ks : List ByteArray} {Vs : List Int} {X : List Pc} (h : Sep w B (p :: (NM2 r vK vV Ks Vs ++ X))) : B ≤ r := (h.at_ (nmO r vK vV) (by simp [NM2])).2
theorem nm_below {w w4 : World} {B r i : Nat} {v : Value} (h : Below B w w4) (hr : B ≤ r) : Below B w (w4.setCell ⟨r, i, none⟩ v) := h.setCell hr v
end Go.Proofs.Ytelfjgnmbikofaa
