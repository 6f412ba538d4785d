/-
  The roots that stand in a file's slots: the walk of standing. Conditions: the two listed variables stand; the file's bytes are bytes.
-/
import Derived.Test.YtkiccnedmejnaaaDoorBetter
namespace Go.Proofs.YtkiccnedmejnaaaDoor
open Go.RowKit
set_option linter.unusedVariables false
set_option maxRecDepth 100000

set_option maxHeartbeats 2000000 in
theorem ownRoot_go (ao : Option Addr) (n cap : Nat) (k g a z e : Int) (w : World) (R : Value) (hyes : e = 0 ∧ g % 2 = k → R = .agg #[.int .u64 g, .int .i64 a, .int .i64 z]) (hno : ¬ (e = 0 ∧ g % 2 = k) → R = .agg #[.int .u64 0, .int .i64 (-1), .int .i64 0]) (hN : NoR w) (h0 : 0 ≤ g) (h1 : g < 18446744073709551616)
    (hL : ∀ w1, Below w.heap.size w w1 → Calls Tryd.prog 13 #[.slice ao n cap] w1 fun e' w' => e' = .returned (.tuple #[.agg #[.int .u64 g, .int .i64 a, .int .i64 z], .int .i64 e]) ∧ Below w1.heap.size w1 w') :
    Calls Tryd.prog 57 #[.int .i64 k, .slice ao n cap] w fun e' w' => e' = .returned R ∧ Below w.heap.size w w' := by
  have HYES : Hid _ := hyes
  have HNO : Hid _ := hno
  clear hyes hno
  have HL : Hid _ := hL
  have HN : Hid (NoR w) := hN
  obtain ⟨W, HW⟩ : ∃ W, Hid (W = w.alloc (.cells #[.int .u64 0, .int .i64 0, .int .i64 0] 24)) := ⟨_, rfl⟩
  have HB0 : Hid (Below w.heap.size w W) := by rw [Hid, HW.out]; exact (Below.refl _ w).alloc (Nat.le_refl _) _
  have HC0 : Hid (W.heap[w.heap.size]? = some (.cells #[.int .u64 0, .int .i64 0, .int .i64 0] 24 (0, 0))) := by rw [Hid, HW.out]; exact heap_alloc_new w _
  clear hL hN
  go_enter Tryd.func57, Tryd.ntmps57
  go_wp2_with fail
  rw [← HW.out]
  refine (HL.out _ HB0.out).mono ?_
  rintro e' w2 ⟨rfl, hb2⟩
  obtain ⟨W3, HW3⟩ : ∃ W3, Hid (W3 = w2.alloc (.cells #[.int .u64 g, .int .i64 a, .int .i64 z] 24)) := ⟨_, rfl⟩
  have HB3 : Hid (Below W.heap.size W W3) := by rw [Hid, HW3.out]; exact hb2.alloc hb2.size _
  have HC3 : Hid (W3.heap[w2.heap.size]? = some (.cells #[.int .u64 g, .int .i64 a, .int .i64 z] 24 (0, 0))) := by rw [Hid, HW3.out]; exact heap_alloc_new w2 _
  have HCR : Hid (∀ w4, Below W3.heap.size W3 w4 → w4.heap[w.heap.size]? = some (.cells #[.int .u64 0, .int .i64 0, .int .i64 0] 24 (0, 0)) ∧ w4.heap[w2.heap.size]? = some (.cells #[.int .u64 g, .int .i64 a, .int .i64 z] 24 (0, 0)) ∧ NoR w4 ∧ Below w.heap.size w w4) := fun w4 hb4 =>
    have hb04 : Below W.heap.size W w4 := HB3.out.trans (hb4.mono HB3.out.size)
    have hbw : Below w.heap.size w w4 := HB0.out.trans (hb04.mono HB0.out.size)
    ⟨(hb04.block _ (Array.getElem?_eq_some_iff.1 HC0.out).1).trans HC0.out, (hb4.block _ (Array.getElem?_eq_some_iff.1 HC3.out).1).trans HC3.out, HN.out.below hbw HN.out.lt, hbw⟩
  clear hb2
  go_upto_region 2 with fail
  rw [← HW3.out]
  obtain ⟨p1, p2, p3, p4⟩ := HCR.out _ (Below.refl _ _)
  obtain ⟨g0, g1, g2, _, _, _⟩ := three_cells p2
  obtain ⟨c0, c1, c2, f0, f1, f2⟩ := three_cells p1
  obtain ⟨n0, n1, n2⟩ := p3
  by_cases he : e = 0
  · subst he
    clear n0 n1 n2 c0 c1 c2 f0 f1 f2 p1 p2 p4
    go_wp2_with fail
    refine (slotOf_any g a z _ h0 h1).mono ?_
    rintro e' w5 ⟨rfl, hb5⟩
    obtain ⟨p1, p2, p3, p4⟩ := HCR.out _ hb5
    clear g0 g1 g2 hb5
    obtain ⟨g0, g1, g2, _, _, _⟩ := three_cells p2
    obtain ⟨c0, c1, c2, f0, f1, f2⟩ := three_cells p1
    obtain ⟨n0, n1, n2⟩ := p3
    have HQ : Hid _ := p1
    have HBQ : Hid (Below w.heap.size w w5) := p4
    clear p1 p2 p4
    obtain ⟨m, HM⟩ : ∃ m, Hid (g % 2 = m) := ⟨_, rfl⟩
    rw [HM.out]
    by_cases hk : m = k
    · subst hk
      go_wp2_with fail
      refine bodyPost_ret (v := .agg #[.int .u64 g, .int .i64 a, .int .i64 z]) ?_ rfl ?_
      · have d0 := three_set HQ.out (.int .u64 g) (.int .i64 a) (.int .i64 z) 0
        have d1 := three_set HQ.out (.int .u64 g) (.int .i64 a) (.int .i64 z) 1
        have d2 := three_set HQ.out (.int .u64 g) (.int .i64 a) (.int .i64 z) 2
        simp at d0 d1 d2
        simp [results, Tryd.f57, go_sem, d0, d1, d2]
      · refine ⟨by rw [HYES.out (by first | exact ⟨rfl, HM.out⟩ | exact ⟨trivial, HM.out⟩ | exact HM.out)], ?_⟩
        exact ((HBQ.out.setCell (p := ⟨w.heap.size, 0, none⟩) (Nat.le_refl _) _).setCell (p := ⟨w.heap.size, 1, none⟩) (Nat.le_refl _) _).setCell (p := ⟨w.heap.size, 2, none⟩) (Nat.le_refl _) _
    · have hk2 : (m == k) = false := by simpa using hk
      have hk3 : (m != k) = true := by simpa using hk
      go_wp2_with fail
      refine bodyPost_ret (v := .agg #[.int .u64 0, .int .i64 (-1), .int .i64 0]) ?_ rfl ?_
      · have d0 := three_set HQ.out (.int .u64 0) (.int .i64 (-1)) (.int .i64 0) 0
        have d1 := three_set HQ.out (.int .u64 0) (.int .i64 (-1)) (.int .i64 0) 1
        have d2 := three_set HQ.out (.int .u64 0) (.int .i64 (-1)) (.int .i64 0) 2
        simp at d0 d1 d2
        simp [results, Tryd.f57, go_sem, d0, d1, d2]
      · refine ⟨by rw [HNO.out (by first | exact (fun h => hk (HM.out.symm.trans h.2)) | exact (fun h => hk (HM.out.symm.trans h)) | exact (fun _ h => hk (HM.out.symm.trans h)))], ?_⟩
        exact ((HBQ.out.setCell (p := ⟨w.heap.size, 0, none⟩) (Nat.le_refl _) _).setCell (p := ⟨w.heap.size, 1, none⟩) (Nat.le_refl _) _).setCell (p := ⟨w.heap.size, 2, none⟩) (Nat.le_refl _) _
  · have he2 : (e != 0) = true := by simpa using he
    have HQ : Hid _ := p1
    have HBQ : Hid (Below w.heap.size w W3) := p4
    clear p1 p2 p4
    go_wp2_with fail
    refine bodyPost_ret (v := .agg #[.int .u64 0, .int .i64 (-1), .int .i64 0]) ?_ rfl ?_
    · have d0 := three_set HQ.out (.int .u64 0) (.int .i64 (-1)) (.int .i64 0) 0
      have d1 := three_set HQ.out (.int .u64 0) (.int .i64 (-1)) (.int .i64 0) 1
      have d2 := three_set HQ.out (.int .u64 0) (.int .i64 (-1)) (.int .i64 0) 2
      simp at d0 d1 d2
      simp [results, Tryd.f57, go_sem, d0, d1, d2]
    · refine ⟨by rw [HNO.out (by first | exact (fun h => he h.1) | simp [he])], ?_⟩
      exact ((HBQ.out.setCell (p := ⟨w.heap.size, 0, none⟩) (Nat.le_refl _) _).setCell (p := ⟨w.heap.size, 1, none⟩) (Nat.le_refl _) _).setCell (p := ⟨w.heap.size, 2, none⟩) (Nat.le_refl _) _


def ng : Option Rt → Int
  | none => 0
  | some r => r.1
def na : Option Rt → Int
  | none => -1
  | some r => r.2.1
def nz : Option Rt → Int
  | none => 0
  | some r => r.2.2
def nrV (o : Option Rt) : Value := .agg #[.int .u64 (ng o), .int .i64 (na o), .int .i64 (nz o)]
/-- The root that stands in a slot's bytes and is its own. -/
def ownR (k : Int) (x : List Int) : Option Rt := if 32 ≤ x.length ∧ isRt (x.take 32) = true ∧ ldG (x.take 32) % 2 = k then some (ldG (x.take 32), ldA (x.take 32), ldZ (x.take 32)) else none
theorem ownR_some {k : Int} {x : List Int} {r : Rt} (hx : Byt x) (h : ownR k x = some r) : (0 ≤ r.1 ∧ r.1 < 18446744073709551616) ∧ (0 ≤ r.2.1 ∧ r.2.1 ≤ 4194304) ∧ (0 ≤ r.2.2 ∧ r.2.2 ≤ 4194304) := by
  unfold ownR at h
  split at h
  · rename_i hc
    obtain ⟨h1, h2, h3⟩ := hc
    obtain rfl := Option.some.inj h
    have hb := byt_left hx 32
    obtain ⟨g0, g1⟩ := ldG_bounds hb
    unfold isRt at h2
    simp only [Bool.and_eq_true] at h2
    obtain ⟨⟨ha, hz⟩, _⟩ := h2
    rcases inF_cases (ldA (x.take 32)) with ⟨_, a0, a1⟩ | ⟨e, _⟩
    · rcases inF_cases (ldZ (x.take 32)) with ⟨_, z0, z1⟩ | ⟨e, _⟩
      · exact ⟨⟨g0, g1⟩, ⟨a0, a1⟩, z0, z1⟩
      · rw [hz] at e; cases e
    · rw [ha] at e; cases e
  · cases h
theorem ownRoot_any (v : Value) (l : List Int) (k : Int) (w : World) (hl : Bs w v l) (hb : l.length ≤ 140737488351232) (hby : Byt l) (hS : Sl w) :
    Calls Tryd.prog 57 #[.int .i64 k, v] w fun e w' => e = .returned (nrV (ownR k l)) ∧ Below w.heap.size w w' := by
  have hl' := hl
  obtain ⟨ao, cap, rfl, _⟩ := hl'
  by_cases h : l.length < 32
  · refine ownRoot_go ao l.length cap k 0 0 0 4 w (nrV (ownR k l)) (fun h1 => by cases h1.1) (fun _ => ?_) hS.nor (by omega) (by omega) (fun w1 hb1 => load_short _ l w1 (hl.below hb1) h)
    unfold ownR; rw [if_neg (fun h1 => by omega)]; rfl
  · have hbt := byt_left hby 32
    obtain ⟨g0, g1⟩ := ldG_bounds hbt
    cases hr : isRt (l.take 32) with
    | true =>
      refine ownRoot_go ao l.length cap k (ldG (l.take 32)) (ldA (l.take 32)) (ldZ (l.take 32)) 0 w (nrV (ownR k l)) (fun h1 => ?_) (fun h1 => ?_) hS.nor g0 g1 (fun w1 hb1 => ?_)
      · unfold ownR; rw [if_pos ⟨by omega, hr, h1.2⟩]; rfl
      · unfold ownR; rw [if_neg (fun h2 => h1 ⟨rfl, h2.2.2⟩)]; rfl
      · have := load_long _ l w1 (hl.below hb1) (by omega) hby (by omega) (hS.below hb1).tab
        simpa [ldRoot, ldErr, hr] using this
    | false =>
      refine ownRoot_go ao l.length cap k 0 0 0 5 w (nrV (ownR k l)) (fun h1 => by cases h1.1) (fun h1 => ?_) hS.nor (by omega) (by omega) (fun w1 hb1 => ?_)
      · unfold ownR; rw [if_neg (fun h2 => by rw [hr] at h2; cases h2.2.1)]; rfl
      · have := load_long _ l w1 (hl.below hb1) (by omega) hby (by omega) (hS.below hb1).tab
        simpa [ldRoot, ldErr, hr] using this

def slotX (bs : List Int) (k : Nat) : List Int := if 32 * (k + 1) ≤ bs.length then (bs.drop (32 * k)).take 32 else []
def slotR (bs : List Int) (k : Nat) : Option Rt := ownR k (slotX bs k)
theorem slotX_byt {bs : List Int} (h : Byt bs) (k : Nat) : Byt (slotX bs k) := by
  unfold slotX; split
  · exact byt_take h _ _
  · intro i; simp
theorem slotX_len (bs : List Int) (k : Nat) : (slotX bs k).length ≤ 32 := by
  unfold slotX; split
  · rw [List.length_take]; omega
  · simp
theorem rd_slot {F : Mdl} (h : F.off = false) (k : Nat) : rdList F ((32 * k : Nat) : Int) 32 = slotX F.bs k ∧ (rdErr F ((32 * k : Nat) : Int) 32 = 0 ∨ rdErr F ((32 * k : Nat) : Int) 32 = 4) := by
  have he : rdErr F ((32 * k : Nat) : Int) 32 = if 32 * (k + 1) ≤ F.bs.length then 0 else 4 := by
    unfold rdErr
    rw [h, if_neg (by simp), if_neg (by omega)]
    by_cases h1 : 32 * (k + 1) ≤ F.bs.length
    · rw [if_pos h1, if_neg (by omega)]
    · rw [if_neg h1, if_pos (by omega)]
  unfold rdList slotX
  rw [he]
  by_cases h1 : 32 * (k + 1) ≤ F.bs.length
  · rw [if_pos h1, if_pos rfl, if_pos h1]; exact ⟨rfl, .inl rfl⟩
  · rw [if_neg h1, if_neg (by decide), if_neg h1]; exact ⟨rfl, .inr rfl⟩
theorem read_slot {w : World} {B p : Nat} {F : Mdl} {vb vr : Value} {rv : List RawV} (h : PF w B p F vb vr rv) (ho : F.off = false) (k : Nat) (hk : k ≤ 1) :
    ∃ er : Int, (er = 0 ∨ er = 4) ∧ Calls Tryd.prog 48 #[.pointer (some ⟨p, 0, none⟩), .int .i64 ((k : Int) * 32), .int .i64 32] w fun e w' => ∃ ao cap, e = .returned (.tuple #[.slice ao (slotX F.bs k).length cap, .int .i64 er]) ∧ Own w' w.heap.size (.slice ao (slotX F.bs k).length cap) (slotX F.bs k) ∧ Below w.heap.size w w' := by
  obtain ⟨h1, h2⟩ := rd_slot ho k
  have := read_any h ((32 * k : Nat) : Int) 32 (by omega) (by omega)
  rw [h1, show ((32 * k : Nat) : Int) = (k : Int) * 32 by omega] at this
  rw [show ((32 * k : Nat) : Int) = (k : Int) * 32 by omega] at h2
  exact ⟨_, h2, this⟩

def six (a b : Option Rt) : Array Value := #[.int .u64 (ng a), .int .i64 (na a), .int .i64 (nz a), .int .u64 (ng b), .int .i64 (na b), .int .i64 (nz b)]
end Go.Proofs.YtkiccnedmejnaaaDoor
