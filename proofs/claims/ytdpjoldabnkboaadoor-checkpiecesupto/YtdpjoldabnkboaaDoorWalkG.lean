/-
  Walks of PutBytes and GetBytes, the program's and the document's. Conditions: lengths within the machine's bounds.
-/
import Derived.Test.YtdpjoldabnkboaaDoorWalkF
namespace Go.Proofs.YtdpjoldabnkboaaDoor
open Go.RowKit
set_option linter.unusedVariables false

theorem room_int (v : Value) (l : List Int) (k : Int) (n : Nat) (w : World) (hk : k = (n : Int)) (hl : Bs w v l) (hb : l.length + n ≤ 281474976710656) :
    Calls Tryd.prog 28 #[v, .int .i64 k] w fun e w' => e = .returned (.slice (some ⟨w.heap.size, 0, none⟩) (l.length + n) (l.length + n)) ∧ Row w' w.heap.size (l ++ List.replicate n 0) ∧ Below w.heap.size w w' := by
  subst hk; exact room_any v l n w hl hb

theorem refDigits_four (u : Int) (w : World) (hu0 : 0 ≤ u) (hu1 : u < 18446744073709551616) :
    Calls Tryd.prog 26 #[.int .i64 4, .bool true, .int .u64 u] w fun e w' => ∃ v', e = .returned v' ∧ Own w' w.heap.size v' (dig2 true u 4) ∧ Below w.heap.size w w' :=
  refDigits_any 4 true u w (by omega) hu0 hu1

/-- What PutBytes tells. -/
def pbErr (lx : List Int) : Int := if 65536 < lx.length then 3 else 0
def pbList (l lx : List Int) : List Int := if 65536 < lx.length then [] else l ++ (dig2 true lx.length 4 ++ lx)
theorem pbList_length (l lx : List Int) : (pbList l lx).length ≤ l.length + 65540 := by
  unfold pbList; split
  · simp
  · rw [List.length_append, List.length_append, dig2_length]; omega

/-- Get of four bytes, the highest first: what GetBytes asks. -/
theorem get_four (v : Value) (l : List Int) (p : Int) (w : World) (hl : Bs w v l) (hb : l.length ≤ 140737488351232) (hby : Byt l) :
    Calls Tryd.prog 25 #[v, .int .i64 p, .int .i64 4, .bool true] w fun e w' => e = .returned (.tuple #[.int .u64 (getNum l p 4 true), .int .i64 (getErr l.length p 4)]) ∧ Below w.heap.size w w' :=
  get_any v l p 4 true w hl hb hby
/-- A part of a slice that reads as bytes. -/
theorem Bs.part {w : World} {b off : Nat} {l : List Int} (a m : Nat) (h : ∀ i, i < l.length → w.cell? ⟨b, off + i, none⟩ = some (.int .u8 (l.getD i 0))) (hm : a + m ≤ l.length) {ao : Option Addr} {c : Nat} (hc : m ≤ c) (hao : 0 < m → ao = some ⟨b, off + a, none⟩) (hne : ∃ ad, ao = some ad) :
    Bs w (.slice ao m c) ((l.drop a).take m) := by
  have hlen : ((l.drop a).take m).length = m := by simp; omega
  obtain ⟨ad, rfl⟩ := hne
  refine ⟨some ad, c, by rw [hlen], by omega, (fun h => by cases h), fun ad' ha i hi => ?_⟩
  obtain rfl := Option.some.inj ha
  have := Option.some.inj (hao (by omega))
  subst this
  rw [addr_add, Nat.add_assoc, h (a + i) (by omega)]
  simp [List.getD, show i < m by omega]

/-- What GetBytes tells: the error, the run, the place behind it. -/
def gbErr (l : List Int) (p : Int) : Int :=
  if getErr l.length p 4 = 0 then (if 65536 < getNum l p 4 true then 3 else if (l.length : Int) - p - 4 < getNum l p 4 true then 4 else 0) else getErr l.length p 4
def gbList (l : List Int) (p : Int) : List Int := if gbErr l p = 0 then (l.drop (p.toNat + 4)).take (getNum l p 4 true).toNat else []
def gbNext (l : List Int) (p : Int) : Int := if gbErr l p = 0 then p + 4 + getNum l p 4 true else 0

theorem getNum_bounds {l : List Int} (h : Byt l) (p n : Int) (big : Bool) : 0 ≤ getNum l p n big ∧ getNum l p n big < 18446744073709551616 := by
  unfold getNum
  split
  · rename_i hE
    rcases getErr_cases l.length p n with ⟨hE', _⟩ | ⟨_, _, _, _, _, hE'⟩ | ⟨h1, h2, h3, h4, _⟩
    · omega
    · omega
    · exact val_bounds (byt_take h _ _) big (by simp; omega)
  · omega


end Go.Proofs.YtdpjoldabnkboaaDoor
