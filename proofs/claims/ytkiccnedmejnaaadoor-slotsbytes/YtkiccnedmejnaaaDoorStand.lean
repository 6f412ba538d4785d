/-
  The roots that stand in a file's slots: the walk of standing. Conditions: the two listed variables stand; the file's bytes are bytes.
-/
import Derived.Test.YtkiccnedmejnaaaDoorOwnRoot
namespace Go.Proofs.YtkiccnedmejnaaaDoor
open Go.RowKit
set_option linter.unusedVariables false
set_option maxRecDepth 100000

def ng : Option Rt → Int
  | none => 0
  | some r => r.1
def na : Option Rt → Int
  | none => -1
  | some r => r.2.1
def nz : Option Rt → Int
  | none => 0
  | some r => r.2.2
def nrV (o : Option Rt) : Value := .agg #[.int .u64 (ng o), .int .i64 (na o), .int .i64 (nz o)]
/-- The root that stands in a slot's bytes and is its own. -/
def ownR (k : Int) (x : List Int) : Option Rt := if 32 ≤ x.length ∧ isRt (x.take 32) = true ∧ ldG (x.take 32) % 2 = k then some (ldG (x.take 32), ldA (x.take 32), ldZ (x.take 32)) else none
theorem ownR_some {k : Int} {x : List Int} {r : Rt} (hx : Byt x) (h : ownR k x = some r) : (0 ≤ r.1 ∧ r.1 < 18446744073709551616) ∧ (0 ≤ r.2.1 ∧ r.2.1 ≤ 4194304) ∧ (0 ≤ r.2.2 ∧ r.2.2 ≤ 4194304) := by
  unfold ownR at h
  split at h
  · rename_i hc
    obtain ⟨h1, h2, h3⟩ := hc
    obtain rfl := Option.some.inj h
    have hb := byt_left hx 32
    obtain ⟨g0, g1⟩ := ldG_bounds hb
    unfold isRt at h2
    simp only [Bool.and_eq_true] at h2
    obtain ⟨⟨ha, hz⟩, _⟩ := h2
    rcases inF_cases (ldA (x.take 32)) with ⟨_, a0, a1⟩ | ⟨e, _⟩
    · rcases inF_cases (ldZ (x.take 32)) with ⟨_, z0, z1⟩ | ⟨e, _⟩
      · exact ⟨⟨g0, g1⟩, ⟨a0, a1⟩, z0, z1⟩
      · rw [hz] at e; cases e
    · rw [ha] at e; cases e
  · cases h
theorem ownRoot_any (v : Value) (l : List Int) (k : Int) (w : World) (hl : Bs w v l) (hb : l.length ≤ 140737488351232) (hby : Byt l) (hS : Sl w) :
    Calls Tryd.prog 57 #[.int .i64 k, v] w fun e w' => e = .returned (nrV (ownR k l)) ∧ Below w.heap.size w w' := by
  have hl' := hl
  obtain ⟨ao, cap, rfl, _⟩ := hl'
  by_cases h : l.length < 32
  · refine ownRoot_go ao l.length cap k 0 0 0 4 w (nrV (ownR k l)) (fun h1 => by cases h1.1) (fun _ => ?_) hS.nor (by omega) (by omega) (fun w1 hb1 => load_short _ l w1 (hl.below hb1) h)
    unfold ownR; rw [if_neg (fun h1 => by omega)]; rfl
  · have hbt := byt_left hby 32
    obtain ⟨g0, g1⟩ := ldG_bounds hbt
    cases hr : isRt (l.take 32) with
    | true =>
      refine ownRoot_go ao l.length cap k (ldG (l.take 32)) (ldA (l.take 32)) (ldZ (l.take 32)) 0 w (nrV (ownR k l)) (fun h1 => ?_) (fun h1 => ?_) hS.nor g0 g1 (fun w1 hb1 => ?_)
      · unfold ownR; rw [if_pos ⟨by omega, hr, h1.2⟩]; rfl
      · unfold ownR; rw [if_neg (fun h2 => h1 ⟨rfl, h2.2.2⟩)]; rfl
      · have := load_long _ l w1 (hl.below hb1) (by omega) hby (by omega) (hS.below hb1).tab
        simpa [ldRoot, ldErr, hr] using this
    | false =>
      refine ownRoot_go ao l.length cap k 0 0 0 5 w (nrV (ownR k l)) (fun h1 => by cases h1.1) (fun h1 => ?_) hS.nor (by omega) (by omega) (fun w1 hb1 => ?_)
      · unfold ownR; rw [if_neg (fun h2 => by rw [hr] at h2; cases h2.2.1)]; rfl
      · have := load_long _ l w1 (hl.below hb1) (by omega) hby (by omega) (hS.below hb1).tab
        simpa [ldRoot, ldErr, hr] using this

def slotX (bs : List Int) (k : Nat) : List Int := if 32 * (k + 1) ≤ bs.length then (bs.drop (32 * k)).take 32 else []
def slotR (bs : List Int) (k : Nat) : Option Rt := ownR k (slotX bs k)
theorem slotX_byt {bs : List Int} (h : Byt bs) (k : Nat) : Byt (slotX bs k) := by
  unfold slotX; split
  · exact byt_take h _ _
  · intro i; simp
theorem slotX_len (bs : List Int) (k : Nat) : (slotX bs k).length ≤ 32 := by
  unfold slotX; split
  · rw [List.length_take]; omega
  · simp
theorem rd_slot {F : Mdl} (h : F.off = false) (k : Nat) : rdList F ((32 * k : Nat) : Int) 32 = slotX F.bs k ∧ (rdErr F ((32 * k : Nat) : Int) 32 = 0 ∨ rdErr F ((32 * k : Nat) : Int) 32 = 4) := by
  have he : rdErr F ((32 * k : Nat) : Int) 32 = if 32 * (k + 1) ≤ F.bs.length then 0 else 4 := by
    unfold rdErr
    rw [h, if_neg (by simp), if_neg (by omega)]
    by_cases h1 : 32 * (k + 1) ≤ F.bs.length
    · rw [if_pos h1, if_neg (by omega)]
    · rw [if_neg h1, if_pos (by omega)]
  unfold rdList slotX
  rw [he]
  by_cases h1 : 32 * (k + 1) ≤ F.bs.length
  · rw [if_pos h1, if_pos rfl, if_pos h1]; exact ⟨rfl, .inl rfl⟩
  · rw [if_neg h1, if_neg (by decide), if_neg h1]; exact ⟨rfl, .inr rfl⟩
theorem read_slot {w : World} {B p : Nat} {F : Mdl} {vb vr : Value} {rv : List RawV} (h : PF w B p F vb vr rv) (ho : F.off = false) (k : Nat) (hk : k ≤ 1) :
    ∃ er : Int, (er = 0 ∨ er = 4) ∧ Calls Tryd.prog 48 #[.pointer (some ⟨p, 0, none⟩), .int .i64 ((k : Int) * 32), .int .i64 32] w fun e w' => ∃ ao cap, e = .returned (.tuple #[.slice ao (slotX F.bs k).length cap, .int .i64 er]) ∧ Own w' w.heap.size (.slice ao (slotX F.bs k).length cap) (slotX F.bs k) ∧ Below w.heap.size w w' := by
  obtain ⟨h1, h2⟩ := rd_slot ho k
  have := read_any h ((32 * k : Nat) : Int) 32 (by omega) (by omega)
  rw [h1, show ((32 * k : Nat) : Int) = (k : Int) * 32 by omega] at this
  rw [show ((32 * k : Nat) : Int) = (k : Int) * 32 by omega] at h2
  exact ⟨_, h2, this⟩

def six (a b : Option Rt) : Array Value := #[.int .u64 (ng a), .int .i64 (na a), .int .i64 (nz a), .int .u64 (ng b), .int .i64 (na b), .int .i64 (nz b)]
end Go.Proofs.YtkiccnedmejnaaaDoor
