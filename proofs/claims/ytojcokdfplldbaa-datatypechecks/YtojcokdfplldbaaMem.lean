/-
  Slices of bytes in memory, as the walks of octet speak of them: a block that is a row of bytes, a slice that reads as a list of bytes; that both stay through whatever leaves their block alone. No conditions.
-/
import Derived.Test.YtojcokdfplldbaaNums
import Derived.WalkKit
import Derived.WalkSpells
import Derived.Laws.CopyOwn
import Derived.Laws.AppendOwnNone
import Derived.Laws.BytesArg
import Derived.Laws.Concat
import Derived.WalkSmall
import Derived.Deep.QuietTactic
import Derived.BigQuiet
namespace Go.Proofs.Ytojcokdfplldbaa
open Go.RowKit
set_option linter.unusedVariables false

/-- The cells of a list of bytes. -/
def bcells (l : List Int) : List Value := l.map (Value.int .u8)
theorem bcells_length (l : List Int) : (bcells l).length = l.length := by simp [bcells]
theorem bcells_append (a b : List Int) : bcells (a ++ b) = bcells a ++ bcells b := by simp [bcells]
theorem bcells_get {l : List Int} {j : Nat} {v : Value} (h : (bcells l)[j]? = some v) : j < l.length ∧ v = .int .u8 (l.getD j 0) := by
  have hj : j < l.length := by
    rcases Nat.lt_or_ge j l.length with h' | h'
    · exact h'
    · rw [List.getElem?_eq_none (by simpa [bcells] using h')] at h; cases h
  refine ⟨hj, ?_⟩
  simp [bcells, List.getElem?_eq_getElem hj] at h
  simp [List.getD, List.getElem?_eq_getElem hj, h]
theorem bcells_one (l : List Int) : ∀ u ∈ bcells l, u.oneCell' = true := ints_oneCell _ _

/-- Block g is a row of bytes, all of it free. -/
def Row (w : World) (g : Nat) (l : List Int) : Prop := w.heap[g]? = some (.cells (bcells l).toArray 5 (0, 0))

theorem Row.lt {w : World} {g : Nat} {l : List Int} (h : Row w g l) : g < w.heap.size := lt_of_block h
theorem Row.cell {w : World} {g : Nat} {l : List Int} (h : Row w g l) {i : Nat} (hi : i < l.length) : w.cell? ⟨g, i, none⟩ = some (.int .u8 (l.getD i 0)) := by
  have h' : w.heap[g]? = _ := h
  simp [World.cell?, h', bcells, List.getD, hi]
theorem Row.free {w : World} {g : Nat} {l : List Int} (h : Row w g l) (i : Nat) : w.frozen? ⟨g, i, none⟩ = false := by
  have h' : w.heap[g]? = _ := h
  simp [World.frozen?, h']
theorem Row.of_block {w w' : World} {g : Nat} {l : List Int} (h : Row w g l) (e : w'.heap[g]? = w.heap[g]?) : Row w' g l := Eq.trans e h
theorem Row.drew {w : World} {g : Nat} {l : List Int} (h : Row w g l) : Row w.drew g l := h
theorem Row.alloc {w : World} {g : Nat} {l : List Int} (h : Row w g l) (o : Obj) : Row (w.alloc o) g l := h.of_block (Below.heap_alloc _ _ _ h.lt)
theorem Row.below {w w' : World} {g B : Nat} {l : List Int} (h : Row w g l) (hb : Below B w w') (hg : g < B) : Row w' g l := h.of_block (hb.block g hg)
theorem Row.grown {w w' : World} {g : Nat} {r : Option Nat} {l : List Int} (h : Row w g l) (hb : w.grownBy w' r) (hg : some g ≠ r) : Row w' g l := h.of_block (hb.block g h.lt hg)
theorem Row.set {w : World} {g : Nat} {l : List Int} (h : Row w g l) (i : Nat) (x : Int) : Row (w.setCell ⟨g, i, none⟩ (.int .u8 x)) g (l.set i x) := by
  have := heap_setCell_same w g i _ _ (.int .u8 x) h
  unfold Row
  rw [this]
  simp [bcells, List.map_set]

theorem below_undrew {w w' : World} (h : Below w.drew.heap.size w.drew w') : Below w.heap.size w w' := ⟨h.os, h.tape, h.output, h.size, h.block⟩
theorem below_of_grown {w w' : World} (h : w.grownBy w' none) : Below w.heap.size w w' := ⟨h.os, h.tape, h.output, h.size, fun k hk => h.block k hk (by simp)⟩

theorem grown_alloc (w : World) (o : Obj) (r : Option Nat) : w.grownBy (w.alloc o) r := ⟨rfl, rfl, rfl, by simp, fun k hk _ => Below.heap_alloc _ _ _ hk⟩

theorem grown_set {w wr : World} {g : Nat} (h : w.grownBy wr (some g)) (i : Nat) (v : Value) : w.grownBy (wr.setCell ⟨g, i, none⟩ v) (some g) :=
  ⟨h.os, h.tape, h.output, Nat.le_trans h.size (by simp [World.setCell]), fun k hk hne => (Below.heap_setCell _ _ _ _ (fun e => hne (by rw [e]))).trans (h.block k hk hne)⟩
theorem grown_drew {w wr : World} {r : Option Nat} (h : w.grownBy wr r) : w.grownBy wr.drew r := ⟨h.os, h.tape, h.output, h.size, h.block⟩
theorem grown_trans {a b c : World} {r : Option Nat} (h : a.grownBy b r) (k : b.grownBy c r) : a.grownBy c r :=
  ⟨k.os.trans h.os, k.tape.trans h.tape, k.output.trans h.output, Nat.le_trans h.size k.size, fun i hi hne => (k.block i (Nat.lt_of_lt_of_le hi h.size) hne).trans (h.block i hi hne)⟩
theorem cell_set_other {w : World} {g b i : Nat} {v x : Value} (h : w.cell? ⟨b, 0, none⟩ = some x) (hne : b ≠ g) : (w.setCell ⟨g, i, none⟩ v).cell? ⟨b, 0, none⟩ = some x :=
  (World.cell?_of_block (w := w) (a := ⟨b, 0, none⟩) (Below.heap_setCell _ _ _ _ hne)).trans h
theorem lay_set {w : World} {g : Nat} {l : List Int} (h : Row w g l) (i k : Nat) (u : Int) : Row (w.setCell ⟨g, i, none⟩ (.int .u8 (u / 2 ^ (8 * k) % 256))).drew g (l.set i (qd u k % 256)) := by
  rw [show (u / 2 ^ (8 * k) % 256) = qd u k % 256 by unfold qd; rw [pow_256]]
  exact (h.set i _).drew

/-- A slice that reads as a list of bytes. -/
def Bs (w : World) (v : Value) (l : List Int) : Prop :=
  ∃ ao cap, v = .slice ao l.length cap ∧ l.length ≤ cap ∧ (ao = none → cap = 0) ∧ ∀ ad, ao = some ad → ∀ i, i < l.length → w.cell? (ad.add i) = some (.int .u8 (l.getD i 0))

theorem Bs.keep {w w' : World} {v : Value} {l : List Int} (h : Bs w v l) (hk : ∀ p x, w.cell? p = some x → w'.cell? p = some x) : Bs w' v l := by
  obtain ⟨ao, cap, hv, hc, hn, hcell⟩ := h
  exact ⟨ao, cap, hv, hc, hn, fun ad ha i hi => hk _ _ (hcell ad ha i hi)⟩
theorem Bs.below {w w' : World} {v : Value} {l : List Int} (h : Bs w v l) (hb : Below w.heap.size w w') : Bs w' v l :=
  h.keep fun p x hx => (hb.cell (World.block_lt_of_cell? w p hx)).trans hx
theorem Bs.drew {w : World} {v : Value} {l : List Int} (h : Bs w v l) : Bs w.drew v l := h
theorem Bs.drewN {w : World} {v : Value} {l : List Int} (h : Bs w v l) (k : Nat) : Bs (w.drewN k) v l := h.below (below_drewN (Below.refl _ _) k)
theorem Bs.nil (w : World) : Bs w (.slice none 0 0) [] := ⟨none, 0, rfl, Nat.le_refl _, fun _ => rfl, fun _ h => by cases h⟩
theorem addr_add (g o i : Nat) : (⟨g, o, none⟩ : Addr).add i = ⟨g, o + i, none⟩ := by unfold Addr.add; split <;> simp_all

theorem Bs.opened {w : World} {v : Value} {l : List Int} (h : Bs w v l) (h0 : 0 < l.length) :
    ∃ b off cap, v = .slice (some ⟨b, off, none⟩) l.length cap ∧ l.length ≤ cap ∧ ∀ i, i < l.length → w.cell? ⟨b, off + i, none⟩ = some (.int .u8 (l.getD i 0)) := by
  obtain ⟨ao, cap, rfl, hc, hn, hcell⟩ := h
  cases ao with
  | none => have := hn rfl; omega
  | some ad =>
    obtain ⟨b, off, spot⟩ := ad
    have h00 := hcell _ rfl 0 h0
    have hspot : spot = none := by simpa [Addr.add] using World.cell?_spot h00
    subst hspot
    exact ⟨b, off, cap, rfl, hc, fun i hi => by rw [← addr_add]; exact hcell _ rfl i hi⟩

/-- A part of a row reads as that part of the list. -/
theorem Row.bs {w : World} {g : Nat} {l : List Int} (h : Row w g l) (o n cap : Nat) (hn : o + n ≤ l.length) (hc : n ≤ cap) : Bs w (.slice (some ⟨g, o, none⟩) n cap) ((l.drop o).take n) := by
  have hl : ((l.drop o).take n).length = n := by simp; omega
  refine ⟨some ⟨g, o, none⟩, cap, by rw [hl], by omega, (fun h => by cases h), ?_⟩
  intro ad ha i hi
  obtain rfl := Option.some.inj ha
  rw [addr_add, h.cell (by omega)]
  congr 2
  simp [List.getD, List.getElem?_drop, show i < n by omega]
theorem Row.whole {w : World} {g : Nat} {l : List Int} (h : Row w g l) : Bs w (.slice (some ⟨g, 0, none⟩) l.length l.length) l := by
  have := h.bs 0 l.length l.length (by omega) (Nat.le_refl _)
  simpa using this

/-- What is owned reads as bytes. -/
theorem bs_of_owns {w : World} {B : Nat} {v : Value} {l : List Int} (h : w.ownsRow B 5 1 v l.length (bcells l)) : Bs w v l := by
  obtain ⟨_, ⟨rfl, h0⟩ | ⟨g, cap, cur, rfl, hB, hg, hle, hm, hs, ht⟩⟩ := h
  · obtain rfl : l = [] := List.eq_nil_of_length_eq_zero h0
    exact Bs.nil _
  · refine ⟨some ⟨g, 0, none⟩, cap, rfl, hle, (fun h => by cases h), ?_⟩
    intro ad ha i hi
    obtain rfl := Option.some.inj ha
    rw [addr_add, Nat.zero_add]
    have e : (bcells l)[i]? = some (.int .u8 (l.getD i 0)) := by simp [bcells, hi]
    rw [← ht, List.getElem?_take, if_pos (by omega)] at e
    simp only [World.cell?, hg]
    simpa using e

/-- A slice of the call's own (its block from B on) that reads as a list of bytes. -/
def Own (w : World) (B : Nat) (v : Value) (l : List Int) : Prop := w.ownsRow B 5 1 v l.length (bcells l)
theorem Own.nil (w : World) (B : Nat) : Own w B (.slice none 0 0) [] := World.ownsRow_nil _ _ _ _
theorem Own.alloc {w : World} {B : Nat} {v : Value} {l : List Int} (h : Own w B v l) (o : Obj) : Own (w.alloc o) B v l := World.ownsRow.alloc h o
theorem Own.bs {w : World} {B : Nat} {v : Value} {l : List Int} (h : Own w B v l) : Bs w v l := bs_of_owns h
theorem Own.opened {w : World} {B : Nat} {v : Value} {l : List Int} (h : Own w B v l) : ∃ ao cap, v = .slice ao l.length cap ∧ l.length ≤ cap ∧ (0 < l.length → ∃ g, ao = some ⟨g, 0, none⟩ ∧ B ≤ g ∧ g < w.heap.size) := by
  have h' : w.ownsRow B 5 1 v l.length (bcells l) := h
  obtain ⟨_, ⟨rfl, h0⟩ | ⟨g, cap, cur, rfl, hB, hg, hle, hm, hs, ht⟩⟩ := h
  · rw [h0]
    exact ⟨none, 0, rfl, Nat.le_refl _, fun h => absurd h (by omega)⟩
  · exact ⟨_, _, rfl, hle, fun _ => ⟨g, rfl, hB, (h'.lt g rfl).2⟩⟩
theorem Own.below {w w' : World} {B : Nat} {v : Value} {l : List Int} (h : Own w B v l) (hb : Below w.heap.size w w') : Own w' B v l := by
  have h' : w.ownsRow B 5 1 v l.length (bcells l) := h
  obtain ⟨h1, h2 | ⟨g, cap, cur, rfl, hB, hg, r⟩⟩ := h
  · exact ⟨h1, .inl h2⟩
  · exact ⟨h1, .inr ⟨g, cap, cur, rfl, hB, (hb.block g (h'.lt g rfl).2).trans hg, r⟩⟩
theorem Own.mono {w : World} {B B' : Nat} {v : Value} {l : List Int} (h : Own w B v l) (hB : B' ≤ B) : Own w B' v l := by
  obtain ⟨h1, h2 | ⟨g, cap, cur, rfl, hg, r⟩⟩ := h
  · exact ⟨h1, .inl h2⟩
  · exact ⟨h1, .inr ⟨g, cap, cur, rfl, Nat.le_trans hB hg, r⟩⟩
theorem Row.own {w : World} {g B : Nat} {l : List Int} (h : Row w g l) (hB : B ≤ g) (hm : l.length ≤ maxLen) : Own w B (.slice (some ⟨g, 0, none⟩) l.length l.length) l :=
  ⟨by rw [bcells_length]; omega, .inr ⟨g, l.length, _, rfl, hB, h, Nat.le_refl _, hm, by simp [bcells_length], by rw [Nat.mul_one]; exact List.take_of_length_le (by simp [bcells_length])⟩⟩

/-- One byte in a block of its own. -/
theorem Bs.one (w : World) (x : Int) : Bs (w.alloc (.cells #[.int .u8 x] 5)) (.slice (some ⟨w.heap.size, 0, none⟩) 1 1) [x] := by
  have hr : Row (w.alloc (.cells #[.int .u8 x] 5)) w.heap.size [x] := heap_alloc_new w _
  exact hr.whole
/-- A block without cells. -/
theorem Own.empty (w : World) (B : Nat) (hB : B ≤ w.heap.size) : Own (w.alloc (.cells #[] 5)) B (.slice (some ⟨w.heap.size, 0, none⟩) 0 0) [] :=
  World.ownsRow_made w #[] 0 hB (Nat.zero_le _) rfl

/-- 'append(s, x...)', s nil or the call's own, x any slice that reads as bytes. -/
theorem wpList_append_bytes {P : Program} (w : World) {ops : Array Oper} {rest : List Oper} {o : Oper} {a : Act} {Q : Exit → Act → World → Prop} (hgd : o.guard = none) (s x : Operand) (t : TypeId)
    (ho : o.op = .call { callee := .builtin .append, args := #[s, x], argTypes := #[t, t] }) (i : TypeInfo) (ht : P.underlying t = some (.slice 5)) (hi : P.info? 5 = some i) (hz : i.zero = some (.int .u8 0)) (hsize : i.size = 1) (hby : i.bytes = 1)
    (B : Nat) (v y : Value) (l m : List Int) (hs : a.eval s = v) (hx : a.eval x = y) (hown : Own w B v l) (hm : Bs w y m) (hbytes : l.length + m.length ≤ 140737488355328) (w0 : World) (hb : Below B w0 w) (hB : B ≤ w.heap.size)
    (h : ∀ ao cap w', Own w' B (.slice ao (l.length + m.length) cap) (l ++ m) → Below B w0 w' → (0 < l.length + m.length → ∃ g, ao = some ⟨g, 0, none⟩ ∧ B ≤ g ∧ g < w'.heap.size) → l.length + m.length ≤ cap → wpList P ops Q rest (a.put o.dst (.slice ao (l.length + m.length) cap)) w') :
    wpList P ops Q (o :: rest) a w := by
  have hlen : (l ++ m).length = l.length + m.length := List.length_append
  obtain ⟨ao, cap, rfl, hc, hn, hcell⟩ := hm
  cases ao with
  | none =>
    obtain rfl : cap = 0 := hn rfl
    obtain rfl : m = [] := List.eq_nil_of_length_eq_zero (by omega)
    have hown' := hown
    obtain ⟨ao, cap, rfl, hle, hsh⟩ := hown.opened
    refine wpList_append_own_none hgd s x t ho B 5 i 1 ht hi _ _ _ hs hown (by simpa using hx) ?_
    simpa using h ao cap w (by simpa using hown') hb (by simpa using hsh) (by simpa using hle)
  | some ad =>
    refine wpList_append_own w hgd s x t ho B 5 i (.int .u8 0) 1 1 ht hi hz hsize hby rfl (by decide) v l.length (bcells l) hs hown ad m.length cap (bcells m) hx (by rw [bcells_length]; omega)
      (fun j u hj => ?_) (bcells_one m) (by unfold maxLen; omega) (by omega) hB (fun v' w' ho' hg' _ => ?_)
    · obtain ⟨hj', rfl⟩ := bcells_get hj
      exact hcell ad rfl j hj'
    · have hbw : Below B w0 w' := hb.grown hg' hB (fun k hk => (World.ownsRow.lt hown k hk).1)
      have ho2 : Own w' B v' (l ++ m) := by unfold Own; rw [hlen, bcells_append]; exact ho'
      obtain ⟨ao', cap', rfl, hle, hsh⟩ := ho2.opened
      rw [hlen] at ho2 hsh hle ⊢
      exact h ao' cap' w' ho2 hbw hsh hle

/-- The first of what lies in a slice. -/
theorem lent_bs {w : World} {g cap : Nat} {l : List Int} (h : Bs w (.slice (some ⟨g, 0, none⟩) (l.length + 1) cap) (l ++ [90])) : Bs w (.slice (some ⟨g, 0, none⟩) l.length cap) l := by
  obtain ⟨ao, cap', hv, hc, hn, hcell⟩ := h
  injection hv with h1 h2 h3
  subst h1; subst h3
  refine ⟨_, _, rfl, by simp at hc; omega, hn, fun ad ha i hi => ?_⟩
  rw [hcell ad ha i (by simp; omega)]
  simp [List.getD, List.getElem?_append_left hi]

/-- string(x) of a slice that reads as bytes. -/
theorem Bs.str {P : Program} {w : World} {v : Value} {l : List Int} (h : Bs w v l) {src e dst : TypeId} (hs : P.underlying src = some (.slice e)) (he : P.underlying e = some (.int .u8)) (hd : P.underlying dst = some .string) :
    (convert src dst v).run P w = .ok (.string (strOfNums l)) w := by
  obtain ⟨ao, cap, rfl, hc, hn, hcell⟩ := h
  cases ao with
  | none =>
    obtain rfl : cap = 0 := hn rfl
    obtain rfl : l = [] := List.eq_nil_of_length_eq_zero (by omega)
    exact run_convert_bytes_nil w src e hs he _ _ dst hd
  | some ad =>
    rcases Nat.eq_zero_or_pos l.length with h0 | h0
    · obtain rfl : l = [] := List.eq_nil_of_length_eq_zero h0
      have hl : (loadCells ad 0).run P w = .ok #[] w := run_loadCells_list (P := P) w ad [] (by simp)
      show (convert src dst (.slice (some ad) 0 cap)).run P w = _
      rw [run_convert_bytes_string w src dst e _ 0 cap hs he hd, run_bytesToString w _ 0 cap [] (by simpa using hl)]
      simp [strOfNums, ByteArray.empty, ByteArray.emptyWithCapacity]
      rfl
    · obtain ⟨b, off, spot⟩ := ad
      have h00 := hcell _ rfl 0 h0
      have hspot : spot = none := by simpa [Addr.add] using World.cell?_spot h00
      subst hspot
      exact run_convert_bytes_arg w src e hs he b off l.length cap l rfl (fun i hi => by rw [← addr_add]; exact hcell _ rfl i hi) dst hd

theorem row_of_made {w : World} {B n : Nat} {g : Nat} (h : w.ownsRow B 5 1 (.slice (some ⟨g, 0, none⟩) n n) n (madeCells (Value.int .u8 0).cells (n * 1)).toList) : Row w g (List.replicate n 0) := by
  obtain ⟨hlen, ⟨h0, _⟩ | ⟨g', cap, cur, hv, hB, hg, hle, hm, hs, ht⟩⟩ := h
  · cases h0
  · injection hv with h1 h2 h3
    obtain rfl : g' = g := by simp at h1; exact h1.symm
    subst h3
    have e : cur.toList = (madeCells (Value.int .u8 0).cells (n * 1)).toList := by
      rw [← ht, List.take_of_length_le (by rw [Array.length_toList]; omega)]
    have e2 : cur = (bcells (List.replicate n 0)).toArray := by
      apply Array.ext'
      rw [e]
      simp [madeCells, bcells, Value.cells, Nat.mod_one, List.map_const']
    unfold Row
    rw [hg, e2]

/-- 'make([]byte, n)': a new row of noughts. -/
theorem wpList_make_bytes {P : Program} (w : World) {ops : Array Oper} {rest : List Oper} {o : Oper} {a : Act} {Q : Exit → Act → World → Prop}
    (hg : o.guard = none) (l c : Operand) (t : TypeId) (hop : o.op = Op.makeSlice t l c)
    (i : TypeInfo) (h1 : P.underlying t = some (.slice 5)) (h2 : P.info? 5 = some i) (h3 : i.zero = some (.int .u8 0)) (h4 : i.size = 1) (h5 : i.bytes = 1)
    (kl kc : IntKind) (L C : Int) (n : Nat) (hl : a.eval l = .int kl L) (hc : a.eval c = .int kc C) (hL : L = (n : Int)) (hC : C = (n : Int)) (b2 : n ≤ 281474976710656)
    (hK : ∀ w', Row w' w.heap.size (List.replicate n 0) → w.grownBy w' none → wpList P ops Q rest (a.put o.dst (.slice (some ⟨w.heap.size, 0, none⟩) n n)) w') :
    wpList P ops Q (o :: rest) a w :=
  wpList_make_full w hg l c t hop w.heap.size 5 i (.int .u8 0) 1 h1 h2 h3 h4 kl kc L C n hl hc hL hC (by rw [h5]; omega) (by unfold maxLen; omega) (Nat.le_refl _)
    fun w' ho hgr => hK w' (row_of_made ho) hgr

/-- 'copy(dst, src)', dst a part of a row that is known whole, src any slice that reads as bytes and is no longer. -/
theorem wpList_copy_bytes {P : Program} {w : World} {ops : Array Oper} {rest : List Oper} {o : Oper} {a : Act} {Q : Exit → Act → World → Prop} (hgd : o.guard = none) (d s : Operand) (t : TypeId)
    (ho : o.op = .call { callee := .builtin .copy, args := #[d, s], argTypes := #[t, t] }) (hu : P.underlying t = some (.slice 5)) (hsz : (P.info? 5).map (·.size) = some 1)
    (g off dLen dCap : Nat) (dp : Option Addr) (hd : a.eval d = .slice dp dLen dCap) (v : Value) (hs : a.eval s = v) (L l : List Int) (hdp : 0 < l.length → dp = some ⟨g, off, none⟩) (hg : Row w g L) (hl : Bs w v l) (hle : l.length ≤ dLen) (hfit : off + l.length ≤ L.length)
    (R : List Int) (hR : L.take off ++ (l ++ L.drop (off + l.length)) = R) (B : Nat) (w0 : World) (hb : Below B w0 w) (hBg : B ≤ g)
    (h : ∀ w', Row w' g R → Below B w0 w' → wpList P ops Q rest (a.put o.dst (goInt l.length)) w') :
    wpList P ops Q (o :: rest) a w := by
  subst hR
  obtain ⟨ao, cap, rfl, hc, hn, hcell⟩ := hl
  have e := bcells_length l
  refine wpList_copy_splice hgd d s t t ho 5 hu hsz dp ao dLen dCap l.length cap hd hs g off (bcells L) 5 hg (bcells l) (by rw [e]; exact (Nat.min_eq_left hle).symm)
    (fun h0 => ?_) (by rw [e, bcells_length]; exact hfit) (bcells_one l) B w0 hb hBg (fun w' hr hbl => ?_)
  · rw [e] at h0
    refine ⟨hdp h0, ?_⟩
    cases ao with
    | none => have := hn rfl; omega
    | some ad =>
      refine ⟨ad, rfl, fun j u hj => ?_⟩
      obtain ⟨hj', rfl⟩ := bcells_get hj
      exact hcell ad rfl j hj'
  · rw [e]
    refine h w' ?_ hbl
    have := hr.out
    unfold Row
    rw [this]
    simp [splice, bcells, List.map_take, List.map_drop]

theorem str_append (a b : List Int) : strOfNums a ++ strOfNums b = strOfNums (a ++ b) := by
  apply ByteArray.ext
  simp [strOfNums, ByteArray.data_append]
theorem str_add {P : Program} (l : List Int) (x : Int) (c : ByteArray) (hc : c = strOfNums [x]) (h : l.length + 1 ≤ 9223372036854775807) (w : World) : (Op.stringOp .add (strOfNums l) c).run P w = .ok (.string (strOfNums (l ++ [x]))) w := by
  subst hc
  rw [run_string_add_sum w (strOfNums l) (strOfNums [x]) (by rw [strOfNums_size, strOfNums_size]; exact h), str_append]

end Go.Proofs.Ytojcokdfplldbaa
