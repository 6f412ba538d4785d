/-
  A chain of blocks, and the messages of a stream, in plain words: the program's way and the document's, which come to the same. No conditions.
  What Load calls: numbers at a place, noughts. Conditions: lengths are such as memory bears.
  Load's 'enter': an extent is taken among those of the chain, or the chain is given up. Conditions: lengths are such as memory bears.
  Load's 'readBlock': a block's part of the stream is taken, and the next extent told, or the chain is given up. Conditions: lengths are such as memory bears; the table of the sum and the empty extent stand.
-/
import Derived.Test.YtdalkjenjnalbaaDoorEBlkM
import Derived.Test.YtdalkjenjnalbaaDoorXNormal
import Derived.Test.YtdalkjenjnalbaaDoorTold
import Derived.Test.YtdalkjenjnalbaaDoorELay
import Derived.Deep.QuietTactic
import Derived.BigQuiet
import Derived.Test.YtdalkjenjnalbaaDoorUnsealWalk
import Derived.Test.YtdalkjenjnalbaaDoorGAppS
namespace Go.Proofs.YtdalkjenjnalbaaDoor
open Go.RowKit
set_option linter.unusedVariables false
set_option maxRecDepth 100000

theorem at4_bd8 {b : List Int} (h : Byt b) {p : Nat} (hp : p + 4 ≤ b.length) : 0 ≤ at4 b p ∧ at4 b p < 4294967296 := by
  have hl : ((b.drop p).take 4).length = 4 := by rw [List.length_take, List.length_drop]; omega
  have h1 := byt_reverse (byt_take h p 4)
  have h2 := num_bounds h1 4
  unfold at4 val
  rw [hl]
  exact h2
def noughtB (l : List Int) : Bool := l.all (fun x => decide (x = 0))
/-- A block's bytes, read: its part of the stream, and the next extent. -/
def blkE (c : List Int) : Option (List Int × Ext) :=
  if at4 c 0 < 1 ∨ ((c.drop 12).length : Int) < at4 c 0 ∨ noughtB ((c.drop 12).drop (at4 c 0).toNat) = false then none
  else if (at4 c 4, at4 c 8) ≠ ((0, 0) : Ext) ∧ (at4 c 0 < ((c.drop 12).length : Int) ∨ narrowB (at4 c 4, at4 c 8) = true) then none
  else some ((c.drop 12).take (at4 c 0).toNat, (at4 c 4, at4 c 8))
def blkD (b : List Int) : Option (List Int × Ext) := if unErr b ≠ 0 then none else blkE (unList b)
theorem blkP_at {part : List Int} {nx : Ext} {size : Nat} (h : part.length < 4294967296) (n0 : 0 ≤ nx.1 ∧ nx.1 < 4294967296) (n1 : 0 ≤ nx.2 ∧ nx.2 < 4294967296) :
    at4 (blkP part nx size) 0 = part.length ∧ at4 (blkP part nx size) 4 = nx.1 ∧ at4 (blkP part nx size) 8 = nx.2 ∧ (blkP part nx size).drop 12 = part ++ List.replicate (size - 16 - part.length) 0 := by
  have e0 : blkP part nx size = [] ++ (d4 part.length ++ (d4 nx.1 ++ (d4 nx.2 ++ (part ++ List.replicate (size - 16 - part.length) 0)))) := by simp [blkP]
  have e1 : blkP part nx size = d4 part.length ++ (d4 nx.1 ++ (d4 nx.2 ++ (part ++ List.replicate (size - 16 - part.length) 0))) := by simp [blkP]
  have e2 : blkP part nx size = (d4 part.length ++ d4 nx.1) ++ (d4 nx.2 ++ (part ++ List.replicate (size - 16 - part.length) 0)) := by simp [blkP]
  have e3 : blkP part nx size = ((d4 part.length ++ d4 nx.1) ++ d4 nx.2) ++ (part ++ List.replicate (size - 16 - part.length) 0) := by simp [blkP]
  refine ⟨?_, ?_, ?_, ?_⟩
  · have := at4_app [] (d4 part.length) (d4 nx.1 ++ (d4 nx.2 ++ (part ++ List.replicate (size - 16 - part.length) 0))) (d4_length _)
    rw [← e0] at this
    rw [show (0 : Nat) = ([] : List Int).length from rfl, this]
    exact four_back (by omega) (by omega)
  · have := at4_app (d4 part.length) (d4 nx.1) (d4 nx.2 ++ (part ++ List.replicate (size - 16 - part.length) 0)) (d4_length _)
    rw [← e1, d4_length] at this
    rw [this]
    exact four_back n0.1 n0.2
  · have := at4_app (d4 part.length ++ d4 nx.1) (d4 nx.2) (part ++ List.replicate (size - 16 - part.length) 0) (d4_length _)
    rw [← e2, List.length_append, d4_length, d4_length] at this
    rw [this]
    exact four_back n1.1 n1.2
  · rw [e3]
    have h12 : ((d4 (part.length : Int) ++ d4 nx.1) ++ d4 nx.2).length = 12 := by simp [d4_length]
    rw [← h12, List.drop_left]
theorem blkD_blkL {part : List Int} {nx : Ext} {size : Nat} (h1 : 1 ≤ part.length) (h2 : 16 + part.length ≤ size) (hs : size ≤ 4294967295) (n0 : 0 ≤ nx.1 ∧ nx.1 < 4294967296) (n1 : 0 ≤ nx.2 ∧ nx.2 < 4294967296) (hn : nx ≠ (0, 0) → part.length + 16 = size ∧ narrowB nx = false) :
    blkD (blkL part nx size) = some (part, nx) := by
  unfold blkD blkL
  rw [unErr_seal, if_neg (by simp), unList_seal]
  obtain ⟨a0, a1, a2, a3⟩ := blkP_at (size := size) (show part.length < 4294967296 by omega) n0 n1
  unfold blkE
  rw [a0, a1, a2, a3]
  have hno : noughtB (List.drop ((part.length : Int)).toNat (part ++ List.replicate (size - 16 - part.length) 0)) = true := by
    rw [Int.toNat_natCast, List.drop_left]
    simp [noughtB]
  rw [if_neg (by rw [hno]; simp; omega), if_neg]
  · rw [Int.toNat_natCast, List.take_left]
  · rintro ⟨g1, g2⟩
    obtain ⟨k1, k2⟩ := hn g1
    rcases g2 with g2 | g2
    · simp at g2; omega
    · rw [show ((nx.1, nx.2) : Ext) = nx from rfl, k2] at g2; cases g2
theorem sum_perm {l m : List Ext} (h : l.Perm m) : (l.map (·.2)).sum = (m.map (·.2)).sum := by
  induction h with
  | nil => rfl
  | cons x _ ih => simp [ih]
  | swap x y l => simp; omega
  | trans _ _ a b => exact a.trans b
/-- Extents that lie apart have together no more than there is. -/
theorem total_fit {N : Int} {l : List Ext} (h1 : ∀ x ∈ l, Wd x) (h2 : ∀ x ∈ l, x.1 + x.2 ≤ N) (hN : 0 ≤ N) (hm : meetsB l = false) : (l.map (·.2)).sum ≤ N := by
  have hfit : ∀ x ∈ l, fitB x = true := fun x hx => fitB_iff.2 ⟨(h1 x hx).1, by have := (h1 x hx).2.1; omega, (h1 x hx).2.2⟩
  have hfl : l.filter fitB = l := List.filter_eq_self.2 hfit
  have hp : (sortE l).Perm l := by have := sortE_perm l; rwa [hfl] at this
  have hs : ((sortE l).map (·.2)).sum = (l.map (·.2)).sum := sum_perm hp
  rw [← hs]
  have hm' : meetsB (sortE l) = false := by rw [meetsB_perm hp]; exact hm
  have ho := sortE_ord l
  have hf' : ∀ x ∈ sortE l, fitB x = true := fun x hx => hfit x (hp.mem_iff.1 hx)
  have h0 := overFrom_meets hf' ho
  rw [hm'] at h0
  have h3 := (overFrom_false (r := 0) (fun x hx => (fitB_iff.1 (hf' x hx)).2.1)).1 h0
  have hN' : ∀ x ∈ sortE l, x.1 + x.2 ≤ N := fun x hx => h2 x (hp.mem_iff.1 hx)
  have key : ∀ (m : List Ext) (r : Int), (∀ x ∈ m, r ≤ x.1) → (∀ x ∈ m, x.1 + x.2 ≤ N) → (m.Pairwise fun x y => x.1 + x.2 ≤ y.1) → r ≤ N → r + (m.map (·.2)).sum ≤ N := by
    intro m
    induction m with
    | nil => intro r _ _ _ h; simpa using h
    | cons x m ih =>
      intro r g1 g2 g3 g4
      rw [List.pairwise_cons] at g3
      have := ih (x.1 + x.2) (fun y hy => g3.1 y hy) (fun y hy => g2 y (List.mem_cons_of_mem _ hy)) g3.2 (g2 x List.mem_cons_self)
      have g5 := g1 x List.mem_cons_self
      simp only [List.map_cons, List.sum_cons]
      omega
  have := key (sortE l) 0 h3.1 hN' h3.2 hN
  omega
theorem meetsB_more {l m : List Ext} (h : meetsB l = true) : meetsB (l ++ m) = true := by
  cases h2 : meetsB (l ++ m) with
  | true => rfl
  | false =>
    rw [meetsB_false, List.pairwise_append] at h2
    rw [meetsB_false.2 h2.1] at h
    cases h
/-- What lies at an extent. -/
def slc (b : List Int) (x : Ext) : List Int := (b.drop x.1.toNat).take x.2.toNat
/-- What a chain tells: its error, the stream, the extents. -/
abbrev ChR := Int × List Int × List Ext
def prM (b : List Int) (L : Int) : Nat → List Ext → Int → List Int → Ext → ChR
  | 0, _, _, _, _ => (5, [], [])
  | k + 1, used, tot, all, x =>
    if L - x.1 < x.2 then (if meetsB (used ++ [x]) then (5, [], []) else (4, [], []))
    else if L < tot + x.2 then (5, [], [])
    else match blkD (slc b x) with
      | none => (5, [], [])
      | some (part, nx) => if nx = (0, 0) then (if meetsB (used ++ [x]) then (5, [], []) else (0, all ++ part, used ++ [x])) else prM b L k (used ++ [x]) (tot + x.2) (all ++ part) nx
def dcM (b : List Int) : Nat → List Ext → List Int → Ext → ChR
  | 0, _, _, _ => (5, [], [])
  | k + 1, used, all, x =>
    if (b.length : Int) < x.1 + x.2 then (4, [], [])
    else match blkD (slc b x) with
      | none => (5, [], [])
      | some (part, nx) => if nx = (0, 0) then (0, all ++ part, used ++ [x]) else if meetsB (used ++ [x] ++ [nx]) then (5, [], []) else dcM b k (used ++ [x]) (all ++ part) nx
theorem blkE_next {c : List Int} {part : List Int} {nx : Ext} (h : blkE c = some (part, nx)) (hn : nx ≠ (0, 0)) : narrowB nx = false := by
  unfold blkE at h
  split at h
  · cases h
  · split at h
    · cases h
    · rename_i h2
      injection h with h
      injection h with _ h
      rw [h] at h2
      cases h3 : narrowB nx with
      | false => rfl
      | true => exact absurd ⟨hn, .inr h3⟩ h2
theorem blkD_next {b : List Int} {part : List Int} {nx : Ext} (h : blkD b = some (part, nx)) (hn : nx ≠ (0, 0)) : narrowB nx = false := by
  unfold blkD at h
  split at h
  · cases h
  · exact blkE_next h hn
theorem pr_dc (b : List Int) (L : Int) (hL : L = min (b.length : Int) 4194304) : ∀ (k : Nat) (used : List Ext) (tot : Int) (all : List Int) (x : Ext), Wd x → (∀ y ∈ used, Wd y ∧ y.1 + y.2 ≤ (b.length : Int)) → tot = (used.map (·.2)).sum → (L - tot).toNat < k →
    (meetsB (used ++ [x]) = false → prM b L k used tot all x = dcM b k used all x) ∧ (meetsB (used ++ [x]) = true → prM b L k used tot all x = (5, [], []))
  | 0, used, tot, all, x, hx, hu, ht, hk => by omega
  | k + 1, used, tot, all, x, hx, hu, ht, hk => by
    have hx2 := hx.2.1
    have hx3 := hx.2.2
    have hx1 := hx.1
    by_cases hsh : L - x.1 < x.2
    · have hsh' : (b.length : Int) < x.1 + x.2 := by omega
      refine ⟨fun hm => ?_, fun hm => ?_⟩
      · simp only [prM, dcM, if_pos hsh, if_pos hsh', hm]; rfl
      · simp only [prM, if_pos hsh, hm]; rfl
    · have hsh' : ¬ (b.length : Int) < x.1 + x.2 := by omega
      have hall : ∀ y ∈ used ++ [x], Wd y ∧ y.1 + y.2 ≤ L := by
        intro y hy
        rcases List.mem_append.1 hy with hy | hy
        · have := hu y hy
          have := this.1.2.2
          exact ⟨(hu y hy).1, by omega⟩
        · rw [List.mem_singleton.1 hy]; exact ⟨hx, by omega⟩
      have hsum : ((used ++ [x]).map (·.2)).sum = tot + x.2 := by rw [List.map_append, List.sum_append, ht]; simp
      have hfit : meetsB (used ++ [x]) = false → ¬ L < tot + x.2 := fun hm => by
        have := total_fit (N := L) (fun y hy => (hall y hy).1) (fun y hy => (hall y hy).2) (by omega) hm
        omega
      have hrec : ∀ (part : List Int) (nx : Ext), ¬ L < tot + x.2 → blkD (slc b x) = some (part, nx) → nx ≠ (0, 0) → (meetsB (used ++ [x] ++ [nx]) = false → prM b L k (used ++ [x]) (tot + x.2) (all ++ part) nx = dcM b k (used ++ [x]) (all ++ part) nx) ∧ (meetsB (used ++ [x] ++ [nx]) = true → prM b L k (used ++ [x]) (tot + x.2) (all ++ part) nx = (5, [], [])) := fun part nx hb hd hn =>
        pr_dc b L hL k (used ++ [x]) (tot + x.2) (all ++ part) nx (wide_of (blkD_next hd hn)) (fun y hy => ⟨(hall y hy).1, by have := (hall y hy).2; omega⟩) hsum.symm (by omega)
      refine ⟨fun hm => ?_, fun hm => ?_⟩
      · have hb := hfit hm
        simp only [prM, dcM, if_neg hsh, if_neg hsh', if_neg hb]
        cases hd : blkD (slc b x) with
        | none => rfl
        | some q =>
          obtain ⟨part, nx⟩ := q
          simp only
          by_cases hn : nx = (0, 0)
          · rw [if_pos hn, if_pos hn, hm]; rfl
          · rw [if_neg hn, if_neg hn]
            cases hm2 : meetsB (used ++ [x] ++ [nx]) with
            | true => rw [(hrec part nx hb hd hn).2 hm2]; rfl
            | false => rw [(hrec part nx hb hd hn).1 hm2]; rfl
      · simp only [prM, if_neg hsh]
        by_cases hb : L < tot + x.2
        · rw [if_pos hb]
        · rw [if_neg hb]
          cases hd : blkD (slc b x) with
          | none => rfl
          | some q =>
            obtain ⟨part, nx⟩ := q
            simp only
            by_cases hn : nx = (0, 0)
            · rw [if_pos hn, hm]; rfl
            · rw [if_neg hn]
              exact (hrec part nx hb hd hn).2 (meetsB_more hm)
/-- The messages of a stream from a place on; which kinds may not be is told by q. -/
def pmM (q : Int → Bool) (s : List Int) : Nat → Int → Option (List (Int × List Int) × Int)
  | 0, p => some ([], p)
  | k + 1, p => if getErr s.length p 4 ≠ 0 ∨ gbErr s (p + 4) ≠ 0 ∨ q (getNum s p 4 true) = true then none else (pmM q s k (gbNext s (p + 4))).map fun r => ((getNum s p 4 true, gbList s (p + 4)) :: r.1, r.2)
def kdB (x : Int) : Bool := decide (x < 1) || decide (255 < x)
/-- The messages of a stream, or none. -/
def msM (s : List Int) : Option (List (Int × List Int)) :=
  if getErr s.length 0 4 ≠ 0 ∨ 65536 < getNum s 0 4 true then none
  else match pmM kdB s (getNum s 0 4 true).toNat 4 with
    | none => none
    | some (l, p) => if p = (s.length : Int) then some l else none
theorem gb_len {s : List Int} {p : Int} : (gbList s p).length ≤ 65536 := by
  unfold gbList
  split
  · rename_i h
    unfold gbErr at h
    split at h
    · split at h
      · omega
      · rw [List.length_take]; omega
    · rename_i h2; exact absurd h h2
  · simp
/-- Without a look at the kinds there are the same messages, and the kinds are looked at behind. -/
theorem pm_both (s : List Int) : ∀ (k : Nat) (p : Int), (∀ r, pmM kdB s k p = some r → pmM (fun _ => false) s k p = some r ∧ (r.1.any fun m => kdB m.1) = false) ∧ (pmM kdB s k p = none → pmM (fun _ => false) s k p = none ∨ ∃ r, pmM (fun _ => false) s k p = some r ∧ (r.1.any fun m => kdB m.1) = true)
  | 0, p => ⟨fun r h => by simp only [pmM] at h ⊢; injection h with h; subst h; exact ⟨rfl, rfl⟩, fun h => by simp [pmM] at h⟩
  | k + 1, p => by
    obtain ⟨i1, i2⟩ := pm_both s k (gbNext s (p + 4))
    simp only [pmM]
    by_cases h1 : getErr s.length p 4 ≠ 0 ∨ gbErr s (p + 4) ≠ 0
    · rw [if_pos (h1.elim .inl (fun h => .inr (.inl h))), if_pos (h1.elim .inl (fun h => .inr (.inl h)))]
      exact ⟨(fun r h => by cases h), fun _ => .inl rfl⟩
    · have h1' : ¬ (getErr s.length p 4 ≠ 0 ∨ gbErr s (p + 4) ≠ 0 ∨ false = true) := fun h => h.elim (fun h => h1 (.inl h)) (fun h => h.elim (fun h => h1 (.inr h)) (fun h => by cases h))
      rw [if_neg h1']
      by_cases h2 : kdB (getNum s p 4 true) = true
      · rw [if_pos (.inr (.inr h2))]
        refine ⟨(fun r h => by cases h), fun _ => ?_⟩
        cases h3 : pmM (fun _ => false) s k (gbNext s (p + 4)) with
        | none => exact .inl rfl
        | some r => exact .inr ⟨_, rfl, by simp [h2]⟩
      · rw [if_neg (fun h => h.elim (fun h => h1 (.inl h)) (fun h => h.elim (fun h => h1 (.inr h)) h2))]
        refine ⟨fun r h => ?_, fun h => ?_⟩
        · cases h3 : pmM kdB s k (gbNext s (p + 4)) with
          | none => rw [h3] at h; cases h
          | some r' =>
            rw [h3] at h
            injection h with h
            subst h
            obtain ⟨j1, j2⟩ := i1 r' h3
            rw [j1]
            exact ⟨rfl, by simp only [List.any_cons, j2, Bool.or_false]; simpa using h2⟩
        · cases h3 : pmM kdB s k (gbNext s (p + 4)) with
          | some r' => rw [h3] at h; cases h
          | none =>
            rcases i2 h3 with h4 | ⟨r, h4, h5⟩
            · rw [h4]; exact .inl rfl
            · rw [h4]; exact .inr ⟨_, rfl, by simp [h5]⟩
end Go.Proofs.YtdalkjenjnalbaaDoor

namespace Go.Proofs.YtdalkjenjnalbaaDoor
open Go.RowKit
set_option linter.unusedVariables false
set_option maxRecDepth 100000

/-- It ends with an Errno that nobody has caught. -/
def Gave (e : Ending) (k : Int) : Prop := e = .panicked [{ v := .iface 25 (.int .i64 k), recovered := false }]
theorem numberAt_yes (v : Value) (l : List Int) (p : Int) (w : World) (hl : Bs w v l) (hb : l.length ≤ 140737488351232) (hby : Byt l) (hE : getErr l.length p 4 = 0) :
    Calls Tryd.prog 61 #[v, .int .i64 p] w fun e w' => e = .returned (.int .i64 (getNum l p 4 true)) ∧ Below w.heap.size w w' := by
  have HG : Hid _ := get_four v l p w hl hb hby
  have hgn := getNum_bounds hby p 4 true
  have h32 : getNum l p 4 true < 4294967296 := by
    rcases getErr_cases l.length p 4 with ⟨h, _⟩ | ⟨_, _, _, _, _, h⟩ | ⟨_, _, h3, h4, _⟩
    · omega
    · omega
    · have := at4_bd8 hby (p := p.toNat) (by omega)
      unfold getNum
      rw [if_pos hE]
      exact this.2
  generalize getNum l p 4 true = u at *
  generalize getErr l.length p 4 = er at *
  subst hE
  go_enter Tryd.func61, Tryd.ntmps61
  go_wp2_with (go_at_call 78; refine Calls.mono HG.out ?_; rintro e w1 ⟨rfl, hb1⟩; have HB1 : Hid (Below w.heap.size w w1) := hb1; clear hb1)
  go_ret
  exact ⟨by simp, HB1.out⟩
theorem numberAt_no (v : Value) (l : List Int) (p : Int) (w : World) (hl : Bs w v l) (hb : l.length ≤ 140737488351232) (hby : Byt l) (hE : getErr l.length p 4 ≠ 0) :
    Calls Tryd.prog 61 #[v, .int .i64 p] w fun e w' => Gave e 5 ∧ Below w.heap.size w w' := by
  have HG : Hid _ := get_four v l p w hl hb hby
  generalize getNum l p 4 true = u at *
  generalize getErr l.length p 4 = er at *
  go_enter Tryd.func61, Tryd.ntmps61
  go_wp2_with (go_at_call 78; refine Calls.mono HG.out ?_; rintro e w1 ⟨rfl, hb1⟩; have HB1 : Hid (Below w.heap.size w w1) := hb1; clear hb1)
  exact ⟨rfl, rfl, HB1.out⟩
theorem noughtB_at {l : List Int} {k : Nat} (hk : k < l.length) (h : l.getD k 0 ≠ 0) : noughtB l = false := by
  unfold noughtB
  rw [List.all_eq_false]
  exact ⟨l.getD k 0, by simp [List.getD, hk], by simpa using h⟩
theorem noughtB_all {l : List Int} (h : ∀ k, k < l.length → l.getD k 0 = 0) : noughtB l = true := by
  unfold noughtB
  rw [List.all_eq_true]
  intro x hx
  obtain ⟨k, hk⟩ := List.getElem?_of_mem hx
  have h1 := h k (List.getElem?_eq_some_iff.1 hk).1
  simp [List.getD, hk] at h1
  simpa using h1
theorem isNoughts_any (v : Value) (l : List Int) (w : World) (hl : Bs w v l) (hb : l.length ≤ 281474976710656) :
    Calls Tryd.prog 77 #[v] w fun e w' => e = .returned (.bool (noughtB l)) ∧ w' = w := by
  obtain ⟨ao, cap, rfl, hc, hn, hcell⟩ := hl
  have HC : Hid (∀ k, k < l.length → ∃ b off, ao = some ⟨b, off, none⟩ ∧ w.cell? ⟨b, off + k, none⟩ = some (.int .u8 (l.getD k 0))) := by
    intro k hk
    obtain ⟨b, off, c, hv, _, h⟩ := Bs.opened (w := w) (v := .slice ao l.length cap) (l := l) ⟨ao, cap, rfl, hc, hn, hcell⟩ (by omega)
    injection hv with h1 _ _
    exact ⟨b, off, h1, h k hk⟩
  obtain ⟨n, HN⟩ : ∃ n, Hid (l.length = n) := ⟨_, rfl⟩
  obtain ⟨q, HQ⟩ : ∃ q, Hid (noughtB l = q) := ⟨_, rfl⟩
  rw [HN.out] at hb hc HC ⊢
  rw [HQ.out]
  clear hcell hn
  go_enter Tryd.func77, Tryd.ntmps77
  go_wp2_with fail
  go_loopw [7] (fun x wr => ∃ k : Nat, k ≤ n ∧ x = .int .i64 (k : Int) ∧ Hid (∀ j, j < k → l.getD j 0 = 0) ∧ Hid (wr = w)) (fun x _ => n - (intOf x).toNat)
  case atStart => exact ⟨0, Nat.zero_le _, rfl, fun j hj => by omega, rfl⟩
  case round =>
    obtain ⟨k, hk, rfl, HZ, hwr⟩ := hrel
    obtain rfl := hwr.out
    clear hwr
    by_cases hlt : k < n
    · obtain ⟨b, off, rfl, c1⟩ := HC.out k hlt
      have hki : (k : Int) < (n : Int) := by omega
      by_cases hz : l.getD k 0 = 0
      · rw [hz] at c1
        have HZ2 : Hid (∀ j, j < k + 1 → l.getD j 0 = 0) := fun j hj => by
          by_cases e : j = k
          · rw [e]; exact hz
          · exact HZ.out j (by omega)
        clear hz
        go_wp2_with fail
        go_roundw
        case rel => exact ⟨k + 1, by omega, by go_num, HZ2.out, by first | rfl | trivial⟩
        case measure => simp [intOf]; omega
      · have e1 : q = false := by rw [← HQ.out]; exact noughtB_at (by rw [HN.out]; exact hlt) hz
        subst e1
        generalize l.getD k 0 = u at c1 hz
        have hz2 : (u != 0) = true := by simpa using hz
        go_wp2_with fail
        go_ret
        exact ⟨rfl, rfl⟩
    · have e1 : q = true := by rw [← HQ.out]; exact noughtB_all (fun j hj => HZ.out j (by rw [HN.out] at hj; omega))
      subst e1
      have hki : ¬ (k : Int) < (n : Int) := by omega
      go_wp2_with fail
      go_ret
      exact ⟨rfl, rfl⟩
/-- What has been read of a chain: the object, the extents, the stream. -/
def chO (g : Nat) (vf vu : Value) (tot : Int) (vs : Value) : Pc := .obj g #[vf, vu, .int .i64 tot, vs] 99
def chU (vu : Value) (used : List Ext) : Pc := .row 49 2 vu used.length (ecells used)
def chT (vs : Value) (all : List Int) : Pc := .row 5 1 vs all.length (bcells all)
def ChS (w : World) (B g : Nat) (vf vu vs : Value) (used : List Ext) (tot : Int) (all : List Int) (R : List Pc) : Prop := Sep w B (chO g vf vu tot vs :: chU vu used :: chT vs all :: R)
theorem ChS.below {w w' : World} {B g : Nat} {vf vu vs : Value} {used : List Ext} {tot : Int} {all : List Int} {R : List Pc} (h : ChS w B g vf vu vs used tot all R) (hb : Below w.heap.size w w') : ChS w' B g vf vu vs used tot all R := Sep.below h hb
theorem ChS.cell {w : World} {B g : Nat} {vf vu vs : Value} {used : List Ext} {tot : Int} {all : List Int} {R : List Pc} (h : ChS w B g vf vu vs used tot all R) : w.cell? ⟨g, 0, none⟩ = some vf ∧ w.cell? ⟨g, 1, none⟩ = some vu ∧ w.cell? ⟨g, 2, none⟩ = some (.int .i64 tot) ∧ w.cell? ⟨g, 3, none⟩ = some vs ∧ (∀ i, w.frozen? ⟨g, i, none⟩ = false) ∧ B ≤ g ∧ g < w.heap.size := by
  have h1 := Sep.obj h (List.mem_cons_self)
  have h2 := (h.at_ (chO g vf vu tot vs) (List.mem_cons_self)).2
  exact ⟨cellO h1 0 rfl, cellO h1 1 rfl, cellO h1 2 rfl, cellO h1 3 rfl, fun i => frozenO h1 i, h2, (Array.getElem?_eq_some_iff.1 h1).1⟩
theorem ChS.xs {w : World} {B g : Nat} {vf vu vs : Value} {used : List Ext} {tot : Int} {all : List Int} {R : List Pc} (h : ChS w B g vf vu vs used tot all R) : OwnX w B 49 vu used := h.at_ (chU vu used) (by simp)
theorem ChS.own {w : World} {B g : Nat} {vf vu vs : Value} {used : List Ext} {tot : Int} {all : List Int} {R : List Pc} (h : ChS w B g vf vu vs used tot all R) : Own w B vs all := h.at_ (chT vs all) (by simp)
theorem wantApart_any (w : World) (B g : Nat) (vf vu vs : Value) (used : List Ext) (tot : Int) (all : List Int) (R : List Pc) (h : ChS w B g vf vu vs used tot all R) (hE : EWs used) (hn : used.length ≤ 1000000000) :
    Calls Tryd.prog 60 #[.pointer (some ⟨g, 0, none⟩)] w fun e w' => (meetsB used = true → Gave e 5) ∧ (meetsB used = false → e = .returned (.tuple #[])) ∧ Below w.heap.size w w' := by
  obtain ⟨_, c1, _⟩ := h.cell
  have HM : Hid _ := meets_any vu used w h.xs.xs hE (by omega)
  obtain ⟨q, HQ⟩ : ∃ q, Hid (meetsB used = q) := ⟨_, rfl⟩
  rw [HQ.out] at HM ⊢
  cases q with
  | true =>
    go_enter Tryd.func60, Tryd.ntmps60
    go_wp2_with (go_at_call 31; refine Calls.mono HM.out ?_; rintro e w1 ⟨rfl, hb1⟩; have HB1 : Hid (Below w.heap.size w w1) := hb1; clear hb1)
    exact ⟨rfl, (fun _ => rfl), (fun h => by cases h), HB1.out⟩
  | false =>
    go_enter Tryd.func60, Tryd.ntmps60
    go_wp2_with (go_at_call 31; refine Calls.mono HM.out ?_; rintro e w1 ⟨rfl, hb1⟩; have HB1 : Hid (Below w.heap.size w w1) := hb1; clear hb1)
    go_end0
    exact ⟨(fun h => by cases h), (fun _ => rfl), HB1.out⟩
end Go.Proofs.YtdalkjenjnalbaaDoor

namespace Go.Proofs.YtdalkjenjnalbaaDoor
open Go.RowKit
set_option linter.unusedVariables false
set_option maxRecDepth 100000

theorem Tryd.infoXE : (Tryd.prog.info? 49).map (fun i => (i.zero, i.size, i.bytes)) = some (some (.agg #[.int .i64 0, .int .i64 0]), 2, 16) := by kernel_rfl
def boxX (b : Nat) (x : Ext) : Pc := .obj b #[.int .i64 x.1, .int .i64 x.2] 49
theorem ChS.box {w : World} {B g : Nat} {vf vu vs : Value} {used : List Ext} {tot : Int} {all : List Int} {R : List Pc} (h : ChS w B g vf vu vs used tot all R) (hB : B ≤ w.heap.size) (x : Ext) : ChS (w.alloc (.cells #[.int .i64 x.1, .int .i64 x.2] 49)) B g vf vu vs used tot all (boxX w.heap.size x :: R) := by
  have h1 : Sep (w.alloc (.cells #[.int .i64 x.1, .int .i64 x.2] 49)) B (boxX w.heap.size x :: chO g vf vu tot vs :: chU vu used :: chT vs all :: R) :=
    Sep.new h ((Below.refl _ _).alloc (Nat.le_refl _) _) ⟨heap_alloc_new w _, hB⟩ (by simp [boxX, Pc.blk])
  exact h1.perm (by
    refine (List.Perm.swap _ _ _).trans (List.Perm.cons _ ?_)
    refine (List.Perm.swap _ _ _).trans (List.Perm.cons _ ?_)
    exact (List.Perm.swap _ _ _))
theorem ChS.boxCell {w : World} {B g b : Nat} {vf vu vs : Value} {used : List Ext} {tot : Int} {all : List Int} {R : List Pc} {x : Ext} (h : ChS w B g vf vu vs used tot all (boxX b x :: R)) : w.cell? ⟨b, 0, none⟩ = some (.int .i64 x.1) ∧ w.cell? ⟨b, 1, none⟩ = some (.int .i64 x.2) := by
  have h1 := Sep.obj (g := b) (a := #[.int .i64 x.1, .int .i64 x.2]) (T := 49) h (by simp [boxX])
  exact ⟨cellO h1 0 rfl, cellO h1 1 rfl⟩
theorem ChS.unbox {w : World} {B g b : Nat} {vf vu vs : Value} {used : List Ext} {tot : Int} {all : List Int} {R : List Pc} {x : Ext} (h : ChS w B g vf vu vs used tot all (boxX b x :: R)) : ChS w B g vf vu vs used tot all R :=
  Sep.sub h (.cons_cons _ (.cons_cons _ (.cons_cons _ (.cons _ (List.Sublist.refl _)))))
/-- An extent more. -/
theorem ChS.push {w w3 : World} {B g : Nat} {vf vu vs vu' : Value} {used : List Ext} {tot : Int} {all : List Int} {R : List Pc} {x : Ext} (h : ChS w B g vf vu vs used tot all R) (ho : w3.ownsRow B 49 2 vu' (used.length + 1) (ecells used ++ [.int .i64 x.1, .int .i64 x.2])) (hg : w.grownBy w3 vu.ownBlock) (ha : vu.ownBlock = vu'.ownBlock ∨ ∀ k, vu'.ownBlock = some k → w.heap.size ≤ k) : ChS (w3.setCell ⟨g, 1, none⟩ vu') B g vf vu' vs (used ++ [x]) tot all R := by
  have h1 : Sep w3 B ([chO g vf vu tot vs] ++ .row 49 2 vu' (used.length + 1) (ecells used ++ [.int .i64 x.1, .int .i64 x.2]) :: chT vs all :: R) :=
    Sep.turn [chO g vf vu tot vs] (v := vu) (n := used.length) (xs := ecells used) h ho hg (ha.imp Eq.symm id)
  have h2 := Sep.store [] (g := g) (a := #[vf, vu, .int .i64 tot, vs]) (T := 99) h1 1 vu'
  have e1 : chU vu' (used ++ [x]) = .row 49 2 vu' (used.length + 1) (ecells used ++ [.int .i64 x.1, .int .i64 x.2]) := by
    unfold chU
    rw [List.length_append, ecells_append, ecells_one]
    rfl
  unfold ChS
  rw [e1]
  exact h2
theorem ChS.total {w : World} {B g : Nat} {vf vu vs : Value} {used : List Ext} {tot : Int} {all : List Int} {R : List Pc} (h : ChS w B g vf vu vs used tot all R) (t : Int) : ChS (w.setCell ⟨g, 2, none⟩ (.int .i64 t)) B g vf vu vs used t all R :=
  Sep.store [] (g := g) (a := #[vf, vu, .int .i64 tot, vs]) (T := 99) h 2 (.int .i64 t)
/-- What 'enter' does. -/
def EnP (w : World) (B g : Nat) (vf vs : Value) (used : List Ext) (tot : Int) (all : List Int) (R : List Pc) (x : Ext) (L : Nat) (e : Ending) (w' : World) : Prop :=
  Below B w w' ∧ ((L : Int) - x.1 < x.2 → Gave e (if meetsB (used ++ [x]) = true then 5 else 4)) ∧ (¬ (L : Int) - x.1 < x.2 → (L : Int) < tot + x.2 → Gave e 5) ∧
  (¬ (L : Int) - x.1 < x.2 → ¬ (L : Int) < tot + x.2 → e = .returned (.tuple #[]) ∧ ∃ ao cap, ChS w' B g vf (.slice ao (used.length + 1) cap) vs (used ++ [x]) (tot + x.2) all R)
def EnR (w : World) (B g b n : Nat) (vf vs : Value) (l : List Ext) (tot : Int) (all : List Int) (R : List Pc) (x : Ext) (W : World) : Prop :=
  Below B w W ∧ ∃ ao cap, ChS W B g vf (.slice ao n cap) vs l tot all (boxX b x :: R)
set_option maxHeartbeats 4000000 in
theorem enter_any (w : World) (B g : Nat) (aof : Option Addr) (L capf : Nat) (vu vs : Value) (used : List Ext) (tot : Int) (all : List Int) (R : List Pc) (x : Ext) (h : ChS w B g (.slice aof L capf) vu vs used tot all R) (hB : B ≤ w.heap.size) (hn : used.length ≤ 1000000) (hx : Wd x) (ht : 0 ≤ tot ∧ tot ≤ 4194304) (hL : L ≤ 4194304) (hE : EWs (used ++ [x])) :
    Calls Tryd.prog 58 #[.pointer (some ⟨g, 0, none⟩), .agg #[.int .i64 x.1, .int .i64 x.2]] w fun e w' => EnP w B g (.slice aof L capf) vs used tot all R x L e w' := by
  obtain ⟨i2, hi2, hx0, hx1, hx2⟩ := info_parts2 Tryd.infoXE
  obtain ⟨un, HUN⟩ : ∃ un, Hid (used.length = un) := ⟨_, rfl⟩
  have HBX := h.box hB x
  have HB1 : Hid (Below B w (w.alloc (.cells #[.int .i64 x.1, .int .i64 x.2] 49))) := ((Below.refl _ w).alloc (Nat.le_refl _) _).mono hB
  obtain ⟨x1, x2⟩ := x
  obtain ⟨q1, q2, q3⟩ := hx
  obtain ⟨t1, t2⟩ := ht
  dsimp only at q1 q2 q3 HBX HB1 ⊢
  have hsz : B ≤ (w.alloc (.cells #[.int .i64 x1, .int .i64 x2] 49)).heap.size := Nat.le_trans hB HB1.out.size
  obtain ⟨b0, HB0⟩ : ∃ b0, Hid (w.heap.size = b0) := ⟨_, rfl⟩
  rw [HB0.out] at HBX
  generalize hW1 : w.alloc (.cells #[.int .i64 x1, .int .i64 x2] 49) = W1 at HBX HB1 hsz
  have HC : Hid (ChS W1 B g (.slice aof L capf) vu vs used tot all (boxX b0 (x1, x2) :: R)) := HBX
  obtain ⟨d0, d1⟩ := HBX.boxCell
  obtain ⟨c0, c1, c2, c3, cz, cb, cl⟩ := HBX.cell
  obtain ⟨aou, capu, hvu, _⟩ := HBX.xs.shape
  subst hvu
  dsimp only at d0 d1
  have hW2 : Below W1.heap.size W1 (W1.alloc (.cells #[.int .i64 x1, .int .i64 x2] 49)).drew := ((Below.refl _ _).alloc (Nat.le_refl _) _).drew
  have HO2 : Hid ((W1.alloc (.cells #[.int .i64 x1, .int .i64 x2] 49)).drew.ownsRow B 49 2 (.slice aou un capu) un (ecells used)) := by
    have h9 := ownsRow_below HBX.xs hW2
    unfold Hid
    rw [HUN.out] at h9
    exact h9
  have HG2 : Hid ((W1.alloc (.cells #[.int .i64 x1, .int .i64 x2] 49)).drew.heap[W1.heap.size]? = some (.cells #[.int .i64 x1, .int .i64 x2] 49 (0, 0))) := heap_alloc_new W1 _
  have HS2 : Hid (B ≤ (W1.alloc (.cells #[.int .i64 x1, .int .i64 x2] 49)).drew.heap.size) := Nat.le_trans hsz hW2.size
  have HR1 : Hid (∀ (g3 cap : Nat) (w3 : World), w3.ownsRow B 49 2 (.slice (some ⟨g3, 0, none⟩) (un + 1) cap) (un + 1) (ecells used ++ [.int .i64 x1, .int .i64 x2]) → (W1.alloc (.cells #[.int .i64 x1, .int .i64 x2] 49)).drew.grownBy w3 (Value.slice aou un capu).ownBlock → ((Value.slice aou un capu).ownBlock = some g3 ∨ g3 = (W1.alloc (.cells #[.int .i64 x1, .int .i64 x2] 49)).drew.heap.size) → w3.cell? ⟨g, 1, none⟩ = some (.slice aou un capu) ∧ w3.frozen? ⟨g, 1, none⟩ = false ∧ EnR w B g b0 (un + 1) (.slice aof L capf) vs (used ++ [(x1, x2)]) tot all R (x1, x2) (w3.setCell ⟨g, 1, none⟩ (.slice (some ⟨g3, 0, none⟩) (un + 1) cap))) := by
    intro g3 cap w3 ho hg ha
    have hc2 := HC.out.below hW2
    rw [HUN.out] at hc2
    have hob : ∀ k, (Value.slice aou un capu).ownBlock = some k → B ≤ k := fun k hk => (World.ownsRow.lt HO2.out k hk).1
    have hgne : some g ≠ (Value.slice aou un capu).ownBlock := fun e => by
      have hnd := hc2.nd
      simp only [List.flatMap_cons, chO, chU, Pc.blk, ← e] at hnd
      simp at hnd
    have hblk : w3.heap[g]? = W1.heap[g]? := (hg.block g (Nat.lt_of_lt_of_le cl hW2.size) hgne).trans (hW2.block g cl)
    have hpush := ChS.push (x := (x1, x2)) (vu' := .slice (some ⟨g3, 0, none⟩) (un + 1) cap) hc2 (by rw [HUN.out]; exact ho) hg (ha.elim (fun e => .inl e) (fun e => .inr (fun k hk => by
      have : g3 = k := by simpa [Value.ownBlock] using hk
      omega)))
    refine ⟨(World.cell?_of_block hblk).trans (by rw [← HUN.out]; exact c1), (World.frozen?_of_block hblk).trans (cz 1), ?_, some ⟨g3, 0, none⟩, cap, hpush⟩
    exact HB1.out.trans (((Kp.of (F := fun y => y = g ∨ (Value.slice aou un capu).ownBlock = some y) hW2).grown hg (fun y _ e => .inr e)).setCell _ (fun _ => .inl rfl) |>.below hsz (fun y hy => hy.elim (fun e => e ▸ cb) (hob y)))
  rw [HUN.out] at c1 hn
  go_enter Tryd.func58, Tryd.ntmps58
  go_upto_region 1 with fail
  clear hW1 hW2 HC HBX
  rw [HB0.out] at *
  go_cut [12] (fun t wc => t = .pointer (some ⟨g, 0, none⟩) ∧ Hid (EnR w B g b0 (un + 1) (.slice aof L capf) vs (used ++ [(x1, x2)]) tot all R (x1, x2) wc))
  case first =>
    go_region_law (refine step_append_G 11 rfl rfl (.tmp 8) (.tmp 10) 34 49 rfl i2 Tryd.underlying34 hi2 _ hx0 2 16 hx1 hx2 rfl (by omega) B (.slice aou un capu) un (ecells used) ⟨W1.heap.size, 0, none⟩ 1 1 [.int .i64 x1, .int .i64 x2] rfl rfl HO2.out rfl (news_one HG2.out) (by intro u hu; simp at hu; rcases hu with rfl | rfl <;> rfl) (by omega) (by omega) (by omega) HS2.out ?_; intro g3 cap3 w3 ho3 hg3 ha3; obtain ⟨f1, f2, f3⟩ := HR1.out g3 cap3 w3 ho3 hg3 ha3; have HF3 : Hid _ := f3; clear f3 ho3 hg3 ha3)
    all_goals
      go_wp2_with fail
      go_meet
      exact ⟨rfl, HF3.out⟩
  case rest =>
    obtain ⟨rfl, hR⟩ := hcut
    obtain ⟨hb1, aoU, capU, hc1⟩ := hR.out
    have HBc : Hid (Below B w wc) := hb1
    have HCc : Hid (ChS wc B g (.slice aof L capf) (.slice aoU (un + 1) capU) vs (used ++ [(x1, x2)]) tot all (boxX b0 (x1, x2) :: R)) := hc1
    obtain ⟨d0, d1⟩ := hc1.boxCell
    obtain ⟨c0, c1, c2, c3, cz, cb, cl⟩ := hc1.cell
    have z2 := cz 2
    dsimp only at d0 d1
    clear hR hb1 hc1 HR1 HO2 HG2 HS2 cz
    go_upto_region 2 with fail
    go_cut [21] (fun t wd => t = .pointer (some ⟨g, 0, none⟩) ∧ Hid (EnR w B g b0 (un + 1) (.slice aof L capf) vs (used ++ [(x1, x2)]) (tot + x2) all R (x1, x2) wd))
    case first =>
      have HF : Hid (∀ W, W = (wc.setCell ⟨g, 2, none⟩ (.int .i64 (tot + x2))).drew → EnR w B g b0 (un + 1) (.slice aof L capf) vs (used ++ [(x1, x2)]) (tot + x2) all R (x1, x2) W) := by
        rintro W rfl
        refine ⟨(HBc.out.setCell cb _).drew, aoU, capU, ?_⟩
        exact (HCc.out.total (tot + x2)).below (Below.refl _ _).drew
      go_region
      all_goals
        go_wp2_with fail
        go_meet
        exact ⟨rfl, HF.out _ rfl⟩
    case rest =>
      obtain ⟨rfl, hR⟩ := hcut
      obtain ⟨hb2, aoV, capV, hc2⟩ := hR.out
      have HBd : Hid (Below B w wc) := hb2
      have HCd : Hid (ChS wc B g (.slice aof L capf) (.slice aoV (un + 1) capV) vs (used ++ [(x1, x2)]) (tot + x2) all (boxX b0 (x1, x2) :: R)) := hc2
      obtain ⟨d0, d1⟩ := hc2.boxCell
      obtain ⟨c0, c1, c2, c3, cz, cb, cl⟩ := hc2.cell
      dsimp only at d0 d1
      have HBs : Hid (B ≤ wc.heap.size) := Nat.le_of_lt (Nat.lt_of_le_of_lt cb cl)
      have HDR : Hid (∀ nq, Below wc.heap.size wc (wc.drewN nq)) := fun nq => ⟨rfl, rfl, rfl, Nat.le_refl _, fun _ _ => rfl⟩
      have HLE : Hid ((used ++ [(x1, x2)]).length ≤ 1000000000) := by unfold Hid; rw [List.length_append, HUN.out]; simp; omega
      have HWA : Hid (∀ W, Below wc.heap.size wc W → Calls Tryd.prog 60 #[.pointer (some ⟨g, 0, none⟩)] W fun e w' => (meetsB (used ++ [(x1, x2)]) = true → Gave e 5) ∧ (meetsB (used ++ [(x1, x2)]) = false → e = .returned (.tuple #[])) ∧ Below W.heap.size W w') := fun W hW => wantApart_any W B g _ _ _ _ _ _ _ (HCd.out.below hW) hE HLE.out
      obtain ⟨q, HQ⟩ : ∃ q, Hid (meetsB (used ++ [(x1, x2)]) = q) := ⟨_, rfl⟩
      rw [HQ.out] at HWA
      have HFIN : Hid (∀ W, Below wc.heap.size wc W → Below B w W) := fun W hW => HBd.out.trans (hW.mono HBs.out)
      clear hR hb2 hc2 HBc HCc c1 c3 cz z2
      by_cases hs : (L : Int) - x1 < x2
      · have HS : Hid ((L : Int) - x1 < x2) := hs
        cases q with
        | true =>
          have HW2 : Hid (∀ W, Below wc.heap.size wc W → Calls Tryd.prog 60 #[.pointer (some ⟨g, 0, none⟩)] W fun e w' => e = .panicked [{ v := .iface 25 (.int .i64 5), recovered := false }] ∧ Below wc.heap.size wc w') := fun W hW => (HWA.out W hW).mono fun e w' ⟨h1, _, h3⟩ => ⟨h1 rfl, hW.trans (h3.mono hW.size)⟩
          clear HWA
          go_wp2_with fail
          go_quiet (fail)
          go_wp2_with (go_at_call 60; refine Calls.mono (HW2.out _ (HDR.out _)) ?_; rintro e w5 ⟨rfl, hb5⟩; have HB5 : Hid (Below B w w5) := HFIN.out _ hb5; clear hb5)
          refine ⟨rfl, ?_⟩
          unfold EnP
          rw [HQ.out]
          exact ⟨HB5.out, (fun _ => rfl), (fun h => by have h9 := HS.out; dsimp only at h; omega), (fun h => by have h9 := HS.out; dsimp only at h; omega)⟩
        | false =>
          have HW2 : Hid (∀ W, Below wc.heap.size wc W → Calls Tryd.prog 60 #[.pointer (some ⟨g, 0, none⟩)] W fun e w' => e = .returned (.tuple #[]) ∧ Below wc.heap.size wc w') := fun W hW => (HWA.out W hW).mono fun e w' ⟨_, h1, h3⟩ => ⟨h1 rfl, hW.trans (h3.mono hW.size)⟩
          clear HWA
          go_wp2_with fail
          go_quiet (fail)
          go_wp2_with (go_at_call 60; refine Calls.mono (HW2.out _ (HDR.out _)) ?_; rintro e w5 ⟨rfl, hb5⟩; have HB5 : Hid (Below B w w5) := HFIN.out _ hb5; clear hb5)
          refine ⟨rfl, ?_⟩
          unfold EnP
          rw [HQ.out]
          exact ⟨HB5.out, (fun _ => rfl), (fun h => by have h9 := HS.out; dsimp only at h; omega), (fun h => by have h9 := HS.out; dsimp only at h; omega)⟩
      · have HS : Hid (¬ (L : Int) - x1 < x2) := hs
        clear HWA
        by_cases ho : (L : Int) < tot + x2
        · have HO : Hid ((L : Int) < tot + x2) := ho
          have HF2 : Hid (∀ a, Below B w (wc.drewN a)) := fun a => HFIN.out _ (HDR.out a)
          go_wp2_with fail
          go_quiet (fail)
          go_wp2_with fail
          go_quiet (fail)
          go_wp2_with fail
          refine ⟨rfl, ?_⟩
          unfold EnP
          exact ⟨HF2.out _, (fun h => by have h9 := HS.out; dsimp only at h; omega), (fun _ _ => rfl), (fun _ h => by have h9 := HO.out; dsimp only at h; omega)⟩
        · have HO : Hid (¬ (L : Int) < tot + x2) := ho
          have HDD : Hid (∀ a b, Below wc.heap.size wc ((wc.drewN a).drewN b)) := fun a b => ⟨rfl, rfl, rfl, Nat.le_refl _, fun _ _ => rfl⟩
          have HF2 : Hid (∀ a b, Below B w ((wc.drewN a).drewN b)) := fun a b => HFIN.out _ (HDD.out a b)
          have HC2 : Hid (∀ a b, ChS ((wc.drewN a).drewN b) B g (.slice aof L capf) (.slice aoV (un + 1) capV) vs (used ++ [(x1, x2)]) (tot + x2) all R) := fun a b => (HCd.out.below (HDD.out a b)).unbox
          go_wp2_with fail
          go_quiet (fail)
          go_wp2_with fail
          go_quiet (fail)
          go_wp2_with fail
          go_end0
          unfold EnP
          rw [HUN.out]
          exact ⟨HF2.out _ _, (fun h => by have h9 := HS.out; dsimp only at h; omega), (fun _ h => by have h9 := HO.out; dsimp only at h; omega), (fun _ _ => ⟨rfl, aoV, capV, HC2.out _ _⟩)⟩
end Go.Proofs.YtdalkjenjnalbaaDoor

namespace Go.Proofs.YtdalkjenjnalbaaDoor
open Go.RowKit
set_option linter.unusedVariables false
set_option maxRecDepth 100000

/-- The bytes of an extent within a slice. -/
theorem bs_slc {w : World} {ao : Option Addr} {L cap : Nat} {bf : List Int} {x : Ext} (h : Bs w (.slice ao L cap) bf) (hl : bf.length = L) (h0 : 0 ≤ x.1) (h1 : 0 < x.2) (h2 : x.1 + x.2 ≤ (L : Int)) :
    ∃ b off, ao = some ⟨b, off, none⟩ ∧ L ≤ cap ∧ (slc bf x).length = x.2.toNat ∧ Bs w (.slice (some ⟨b, off + x.1.toNat, none⟩) x.2.toNat (cap - x.1.toNat)) (slc bf x) := by
  obtain ⟨b, off, c, hv, hc, hcell⟩ := h.opened (by omega)
  injection hv with e1 e2 e3
  subst e1 e3
  refine ⟨b, off, rfl, by omega, by simp [slc]; omega, ?_⟩
  exact Bs.part x.1.toNat x.2.toNat hcell (by omega) (by omega) (fun _ => rfl) ⟨_, rfl⟩
theorem byt_slc {bf : List Int} (h : Byt bf) (x : Ext) : Byt (slc bf x) := byt_take h _ _
theorem Tryd.hiX : (Tryd.prog.info? 49).map (·.size) = some 2 := by kernel_rfl
def RbP (w : World) (B g : Nat) (vf vu vs : Value) (used : List Ext) (tot : Int) (all : List Int) (R : List Pc) (y : List Int) (e : Ending) (w' : World) : Prop :=
  Below B w w' ∧ (blkD y = none → Gave e 5) ∧ ∀ part nx, blkD y = some (part, nx) → e = .returned (.agg #[.int .i64 nx.1, .int .i64 nx.2]) ∧ ∃ ao cap, ChS w' B g vf vu (.slice ao (all.length + part.length) cap) used tot (all ++ part) R
/-- What stands behind the call of Unseal. -/
def RbU (w : World) (B g b0 b1 : Nat) (vf vu vs : Value) (used : List Ext) (tot : Int) (all : List Int) (R : List Pc) (x : Ext) (y : List Int) (v : Value) (W : World) : Prop :=
  Below B w W ∧ Bs W v (unList y) ∧ ChS W B g vf vu vs used tot all (boxX b1 (0, 0) :: boxX b0 x :: R) ∧ NoX W
theorem rd_of_bs {w : World} {v : Value} {l : List Int} (h : Bs w v l) : Rd w v l.length 1 (bcells l) := by
  obtain ⟨ao, cap, rfl, hc, hn, hcell⟩ := h
  refine ⟨by rw [bcells_length, Nat.mul_one], ?_⟩
  cases ao with
  | none =>
    have h0 := hn rfl
    have hl : l.length = 0 := by omega
    exact .inl ⟨by rw [hl, h0], hl⟩
  | some ad =>
    refine .inr ⟨ad, cap, rfl, fun j y hy => ?_⟩
    obtain ⟨hj, rfl⟩ := bcells_get hy
    exact hcell ad rfl j hj
theorem ChS.setBox {w : World} {B g b2 b1 : Nat} {vf vu vs : Value} {used : List Ext} {tot : Int} {all : List Int} {R : List Pc} {x z : Ext} (h : ChS w B g vf vu vs used tot all (boxX b2 x :: boxX b1 z :: R)) (p q : Int) : ChS ((w.setCell ⟨b1, 0, none⟩ (.int .i64 p)).setCell ⟨b1, 1, none⟩ (.int .i64 q)) B g vf vu vs used tot all (boxX b2 x :: boxX b1 (p, q) :: R) := by
  have h1 := Sep.store [chO g vf vu tot vs, chU vu used, chT vs all, boxX b2 x] (g := b1) (a := #[.int .i64 z.1, .int .i64 z.2]) (T := 49) h 0 (.int .i64 p)
  have h2 := Sep.store [chO g vf vu tot vs, chU vu used, chT vs all, boxX b2 x] h1 1 (.int .i64 q)
  exact h2
theorem ChS.unboxes {w : World} {B g b2 b1 b0 : Nat} {vf vu vs : Value} {used : List Ext} {tot : Int} {all : List Int} {R : List Pc} {x y z : Ext} (h : ChS w B g vf vu vs used tot all (boxX b2 x :: boxX b1 y :: boxX b0 z :: R)) : ChS w B g vf vu vs used tot all R := h.unbox.unbox.unbox
/-- The stream goes on. -/
theorem ChS.more {w w3 : World} {B g : Nat} {vf vu vs vs' : Value} {used : List Ext} {tot : Int} {all part : List Int} {R : List Pc} (h : ChS w B g vf vu vs used tot all R) (ho : w3.ownsRow B 5 1 vs' (all.length + part.length) (bcells all ++ bcells part)) (hg : w.grownBy w3 vs.ownBlock) (ha : vs'.ownBlock = vs.ownBlock ∨ vs'.ownBlock = some w.heap.size) : ChS (w3.setCell ⟨g, 3, none⟩ vs') B g vf vu vs' used tot (all ++ part) R := by
  have h1 : Sep w3 B ([chO g vf vu tot vs, chU vu used] ++ .row 5 1 vs' (all.length + part.length) (bcells all ++ bcells part) :: R) :=
    Sep.turn [chO g vf vu tot vs, chU vu used] (v := vs) (n := all.length) (xs := bcells all) h ho hg (ha.imp id (fun e x hx => by rw [e] at hx; injection hx with hx; omega))
  have h2 := Sep.store [] (g := g) (a := #[vf, vu, .int .i64 tot, vs]) (T := 99) h1 3 vs'
  have e1 : chT vs' (all ++ part) = .row 5 1 vs' (all.length + part.length) (bcells all ++ bcells part) := by
    unfold chT
    rw [List.length_append, bcells_append]
  unfold ChS
  rw [e1]
  exact h2
/-- What stands where the part has been taken. -/
def RbE (w : World) (B g b0 b2 n : Nat) (vf vu : Value) (used : List Ext) (tot : Int) (all : List Int) (R : List Pc) (x nx : Ext) (W : World) : Prop :=
  Below B w W ∧ ∃ ao cap, ChS W B g vf vu (.slice ao n cap) used tot all (boxX b2 nx :: boxX (b0 + 1) (0, 0) :: boxX b0 x :: R)
set_option maxHeartbeats 4000000 in
theorem readBlock_any (w : World) (B g : Nat) (aof : Option Addr) (L capf : Nat) (vu vs : Value) (used : List Ext) (tot : Int) (all : List Int) (R : List Pc) (x : Ext) (bf : List Int) (h : ChS w B g (.slice aof L capf) vu vs used tot all R) (hB : B ≤ w.heap.size) (hx : Wd x) (hL : L ≤ 4194304) (hxl : x.1 + x.2 ≤ (L : Int)) (hf : Bs w (.slice aof L capf) bf) (hfl : bf.length = L) (hfy : Byt bf) (hal : all.length ≤ 4194304) (hT : Tab w) (hX : NoX w) :
    Calls Tryd.prog 59 #[.pointer (some ⟨g, 0, none⟩), .agg #[.int .i64 x.1, .int .i64 x.2]] w fun e w' => RbP w B g (.slice aof L capf) vu vs used tot all R (slc bf x) e w' := by
  have hC1 := h.box hB x
  have hsz1 : B ≤ (w.alloc (.cells #[.int .i64 x.1, .int .i64 x.2] 49)).heap.size := by simp; omega
  have hC2 := hC1.box hsz1 (0, 0)
  have hW2 : Below w.heap.size w ((w.alloc (.cells #[.int .i64 x.1, .int .i64 x.2] 49)).alloc (.cells #[.int .i64 0, .int .i64 0] 49)) := ((Below.refl _ w).alloc (Nat.le_refl _) _).alloc (by simp) _
  obtain ⟨b, off, rfl, hLc, hyl, hby⟩ := bs_slc hf hfl hx.1 (by have := hx.2.1; omega) hxl
  have HBY : Hid (Bs _ _ _) := hby.below hW2
  clear hby
  have HYY : Hid (Byt (slc bf x)) := byt_slc hfy x
  obtain ⟨y, HY⟩ : ∃ y, Hid (slc bf x = y) := ⟨_, rfl⟩
  rw [HY.out] at HBY HYY hyl ⊢
  obtain ⟨x1, x2⟩ := x
  obtain ⟨q1, q2, q3⟩ := hx
  dsimp only at q1 q2 q3 hC1 hC2 hW2 hxl HBY hyl ⊢
  obtain ⟨n1, rfl⟩ := Int.eq_ofNat_of_zero_le q1
  obtain ⟨n2, rfl⟩ := Int.eq_ofNat_of_zero_le (show 0 ≤ x2 by omega)
  rw [Int.toNat_natCast] at HBY hyl
  rw [Int.toNat_natCast] at HBY
  obtain ⟨b0, HB0⟩ : ∃ b0, Hid (w.heap.size = b0) := ⟨_, rfl⟩
  obtain ⟨b1, HB1⟩ : ∃ b1, Hid ((w.alloc (.cells #[.int .i64 (n1 : Int), .int .i64 (n2 : Int)] 49)).heap.size = b1) := ⟨_, rfl⟩
  have hb01 : b1 = b0 + 1 := by rw [← HB0.out, ← HB1.out]; simp
  have HWB : Hid (Below B w ((w.alloc (.cells #[.int .i64 (n1 : Int), .int .i64 (n2 : Int)] 49)).alloc (.cells #[.int .i64 0, .int .i64 0] 49))) := hW2.mono hB
  have hT2 := hT.below hW2
  have hX2 := hX.below hW2
  rw [HB1.out, HB0.out] at hC2
  generalize hWW : (w.alloc (.cells #[.int .i64 (n1 : Int), .int .i64 (n2 : Int)] 49)).alloc (.cells #[.int .i64 0, .int .i64 0] 49) = W2 at HBY HWB hC2 hT2 hX2
  have HC : Hid (ChS W2 B g (.slice (some ⟨b, off, none⟩) L capf) vu vs used tot all (boxX b1 (0, 0) :: boxX b0 ((n1 : Int), (n2 : Int)) :: R)) := hC2
  have HX : Hid (NoX W2) := hX2
  have hsz2 : B ≤ W2.heap.size := by obtain ⟨_, _, _, _, _, c5, c6⟩ := hC2.cell; omega
  have HUN : Hid (∀ W, Below W2.heap.size W2 W → Calls Tryd.prog 76 #[.slice (some ⟨b, off + n1, none⟩) n2 (capf - n1)] W fun e w' => ∃ v, e = .returned (.tuple #[v, .int .i64 (unErr y)]) ∧ Below W2.heap.size W2 w' ∧ RbU w B g b0 b1 (.slice (some ⟨b, off, none⟩) L capf) vu vs used tot all R ((n1 : Int), (n2 : Int)) y v w') := fun W hW =>
    (unseal_any _ y W (HBY.out.below hW) (by omega) HYY.out (hT2.below hW)).mono fun e w' ⟨v, he, ho, hb⟩ => ⟨v, he, hW.trans (hb.mono hW.size), HWB.out.trans ((hW.trans (hb.mono hW.size)).mono hsz2), ho.bs, HC.out.below (hW.trans (hb.mono hW.size)), HX.out.below (hW.trans (hb.mono hW.size))⟩
  obtain ⟨ue, HUE⟩ : ∃ ue, Hid (unErr y = ue) := ⟨_, rfl⟩
  rw [HUE.out] at HUN
  have c0 := hC2.cell.1
  have hbx : W2.cell? ⟨b0, 0, none⟩ = some (.int .i64 (n1 : Int)) ∧ W2.cell? ⟨b0, 1, none⟩ = some (.int .i64 (n2 : Int)) := by
    have h1 := Sep.obj (g := b0) (a := #[.int .i64 (n1 : Int), .int .i64 (n2 : Int)]) (T := 49) hC2 (by simp [boxX])
    exact ⟨cellO h1 0 rfl, cellO h1 1 rfl⟩
  have HS : Hid (∀ W, Below W2.heap.size W2 W → W.cell? ⟨g, 0, none⟩ = some (.slice (some ⟨b, off, none⟩) L capf) ∧ W.cell? ⟨b0, 0, none⟩ = some (.int .i64 (n1 : Int)) ∧ W.cell? ⟨b0, 1, none⟩ = some (.int .i64 (n2 : Int))) := fun W hW => ⟨(hW.cell (World.block_lt_of_cell? W2 _ c0)).trans c0, (hW.cell (World.block_lt_of_cell? W2 _ hbx.1)).trans hbx.1, (hW.cell (World.block_lt_of_cell? W2 _ hbx.2)).trans hbx.2⟩
  obtain ⟨k0, k1, k2⟩ := HS.out W2 (Below.refl _ _)
  clear hC1 hC2 hW2 hT2 hX2 hbx c0 hT hX hf h hsz1
  have hs1 : ((n1 : Int) + (n2 : Int)) ≤ (L : Int) := hxl
  go_enter Tryd.func59, Tryd.ntmps59
  go_upto_region 1 with fail
  clear hWW
  rw [HB0.out] at *
  subst hb01
  have hw12 : IntKind.i64.wrap ((n1 : Int) + (n2 : Int)) = ((n1 + n2 : Nat) : Int) := by simp [IntKind.wrap, IntKind.bits, IntKind.signed]; omega
  go_cut [5, 6] (fun t5 t6 wc => t6 = .int .i64 ue ∧ Hid (RbU w B g b0 (b0 + 1) (.slice (some ⟨b, off, none⟩) L capf) vu vs used tot all R ((n1 : Int), (n2 : Int)) y t5 wc))
  case first =>
    have hDR : Below W2.heap.size W2 W2.drew := (Below.refl _ _).drew
    go_region_held (fun w' => w'.cell? ⟨g, 0, none⟩ = some (.slice (some ⟨b, off, none⟩) L capf) ∧ w'.cell? ⟨b0, 0, none⟩ = some (.int .i64 (n1 : Int)) ∧ w'.cell? ⟨b0, 1, none⟩ = some (.int .i64 (n2 : Int)) ∧ Below W2.heap.size W2 w') (exact ⟨(HS.out _ (by assumption)).1, (HS.out _ (by assumption)).2.1, (HS.out _ (by assumption)).2.2, by assumption⟩) ((go_at_call 76; refine Calls.mono (HUN.out _ (by assumption)) ?_; rintro e w3 ⟨v3, rfl, hb3, hr3⟩; have HR3 : Hid (RbU _ _ _ _ _ _ _ _ _ _ _ _ _ _ _ _) := hr3; clear hr3))
    all_goals
      go_wp2_with fail
      go_meet
      exact ⟨rfl, HR3.out⟩
  case rest =>
    obtain ⟨rfl, hR⟩ := hcut
    obtain ⟨hb3, hu3, hc3, hx3⟩ := hR.out
    have HBc : Hid (Below B w wc) := hb3
    have HCc : Hid (ChS wc B g (.slice (some ⟨b, off, none⟩) L capf) vu vs used tot all (boxX (b0 + 1) (0, 0) :: boxX b0 ((n1 : Int), (n2 : Int)) :: R)) := hc3
    have HXc : Hid (NoX wc) := hx3
    have HUc : Hid (Bs wc u5 (unList y)) := hu3
    clear hR hb3 hu3 hc3 hx3 HS HUN HBY HX HC HWB k0 k1 k2
    by_cases hue : ue = 0
    · subst hue
      have hul : unList y = y.take (n2 - 4) := by unfold unList; rw [HUE.out, if_pos rfl, hyl]
      have HDE : Hid (blkD y = blkE (unList y)) := by unfold Hid blkD; rw [HUE.out, if_neg (by simp)]
      have HCY : Hid (Byt (unList y)) := by rw [hul]; exact byt_left HYY.out _
      have hcl : (unList y).length = n2 - 4 := by rw [hul, List.length_take, hyl]; omega
      obtain ⟨c, HCC⟩ : ∃ c, Hid (unList y = c) := ⟨_, rfl⟩
      rw [HCC.out] at HDE HCY hcl HUc
      clear hul
      obtain ⟨pn, HPN⟩ : ∃ pn, Hid (n2 - 4 = pn) := ⟨_, rfl⟩
      have hpn : 13 ≤ pn ∧ pn ≤ 4194304 := by rw [← HPN.out]; omega
      rw [HPN.out] at hcl
      obtain ⟨bp, op, capp, rfl, hcapp, hcellp⟩ := HUc.out.opened (by omega)
      have HCELL : Hid _ := hcellp
      rw [hcl] at hcapp HUc ⊢
      have hga : ∀ q : Nat, q + 4 ≤ pn → getErr c.length (q : Int) 4 = 0 ∧ getNum c (q : Int) 4 true = at4 c q := fun q hq => by
        have h1 : getErr c.length (q : Int) 4 = 0 := by
          rcases getErr_cases c.length (q : Int) 4 with ⟨h, _, h2⟩ | ⟨_, _, _, _, h2, h⟩ | ⟨_, _, _, _, h⟩
          · omega
          · omega
          · exact h
        refine ⟨h1, ?_⟩
        unfold getNum at4
        rw [if_pos h1]
        rfl
      have HNA : Hid (∀ (q : Nat) (p : Int) (W : World), p = (q : Int) → q + 4 ≤ pn → Below wc.heap.size wc W → Calls Tryd.prog 61 #[.slice (some ⟨bp, op, none⟩) pn capp, .int .i64 p] W fun e w' => e = .returned (.int .i64 (at4 c q)) ∧ Below wc.heap.size wc w') := fun q p W hp hq hW => by
        subst hp
        obtain ⟨g1, g2⟩ := hga q hq
        have := numberAt_yes (.slice (some ⟨bp, op, none⟩) pn capp) c (q : Int) W (HUc.out.below hW) (by omega) HCY.out g1
        rw [g2] at this
        exact this.mono fun e w' ⟨h1, h2⟩ => ⟨h1, hW.trans (h2.mono hW.size)⟩
      obtain ⟨n00, n01⟩ := at4_bd8 HCY.out (p := 0) (by omega)
      obtain ⟨n10, n11⟩ := at4_bd8 HCY.out (p := 4) (by omega)
      obtain ⟨n20, n21⟩ := at4_bd8 HCY.out (p := 8) (by omega)
      have HBE : Hid (blkE c = if at4 c 0 < 1 ∨ ((c.drop 12).length : Int) < at4 c 0 ∨ noughtB ((c.drop 12).drop (at4 c 0).toNat) = false then none else if (at4 c 4, at4 c 8) ≠ ((0, 0) : Ext) ∧ (at4 c 0 < ((c.drop 12).length : Int) ∨ narrowB (at4 c 4, at4 c 8) = true) then none else some ((c.drop 12).take (at4 c 0).toNat, (at4 c 4, at4 c 8))) := rfl
      have N0 := HNA.out 0 0
      have N1 := HNA.out 4 4
      have N2 := HNA.out 8 8
      generalize at4 c 0 = nn at *
      generalize at4 c 4 = na at *
      generalize at4 c 8 = ns at *
      have HN0 : Hid _ := N0
      have HN1 : Hid _ := N1
      have HN2 : Hid _ := N2
      clear N0 N1 N2 HNA hga hcellp
      go_upto_region 7 with (first
        | (have hg := HB4; clear hg; go_at_call 61; refine Calls.mono (HN2.out _ rfl (by omega) HB4.out) ?_; rintro e w5 ⟨rfl, hb5⟩; have HB5 : Hid (Below wc.heap.size wc w5) := hb5; clear hb5)
        | (have hg := HB3; clear hg; go_at_call 61; refine Calls.mono (HN1.out _ rfl (by omega) HB3.out) ?_; rintro e w4 ⟨rfl, hb4⟩; have HB4 : Hid (Below wc.heap.size wc w4) := hb4; clear hb4)
        | (go_at_call 61; refine Calls.mono (HN0.out _ rfl (by omega) (Below.refl _ _)) ?_; rintro e w3 ⟨rfl, hb3⟩; have HB3 : Hid (Below wc.heap.size wc w3) := hb3; clear hb3))
      obtain ⟨rl, HRL⟩ : ∃ rl, Hid ((c.drop 12).length = rl) := ⟨_, rfl⟩
      have hrl : pn = rl + 12 := by rw [← HRL.out, List.length_drop, hcl]; omega
      subst hrl
      rw [show rl + 12 - 12 = rl by omega]
      have HW6 : Hid (Below wc.heap.size wc (w5.alloc (.cells #[.int .i64 na, .int .i64 ns] 49))) := HB5.out.alloc HB5.out.size _
      have HC6 : Hid (ChS (w5.alloc (.cells #[.int .i64 na, .int .i64 ns] 49)) B g (.slice (some ⟨b, off, none⟩) L capf) vu vs used tot all (boxX w5.heap.size (na, ns) :: boxX (b0 + 1) (0, 0) :: boxX b0 ((n1 : Int), (n2 : Int)) :: R)) := (HCc.out.below HB5.out).box (by have h9 := HB5.out.size; have h8 := HCc.out.cell.2.2.2.2.2; omega) (na, ns)
      obtain ⟨b2, HB2⟩ : ∃ b2, Hid (w5.heap.size = b2) := ⟨_, rfl⟩
      rw [HB2.out] at HC6 ⊢
      generalize w5.alloc (.cells #[.int .i64 na, .int .i64 ns] 49) = W6 at HW6 HC6 ⊢
      have HU6 : Hid (Bs W6 (.slice (some ⟨bp, op, none⟩) (rl + 12) capp) c) := HUc.out.below HW6.out
      have HX6 : Hid (NoX W6) := HXc.out.below HW6.out
      have HB6 : Hid (Below B w W6) := HBc.out.trans (HW6.out.mono (by have h8 := HCc.out.cell.2.2.2.2.2; omega))
      have hs6 : B ≤ W6.heap.size := by have h8 := HC6.out.cell.2.2.2.2.2; omega
      clear HW6 HUc HXc HBc HCc HCELL HN0 HN1 HN2 HB3 HB4 HB5 HYY
      rw [HRL.out] at HBE
      obtain ⟨bq, HBQ⟩ : ∃ bq, Hid (decide (nn < 1 ∨ (rl : Int) < nn ∨ noughtB ((c.drop 12).drop nn.toNat) = false) = bq) := ⟨_, rfl⟩
      obtain ⟨bd, HBD⟩ : ∃ bd, Hid (decide ((na, ns) ≠ ((0, 0) : Ext) ∧ (nn < (rl : Int) ∨ narrowB (na, ns) = true)) = bd) := ⟨_, rfl⟩
      have HBE2 : Hid (blkD y = if bq = true then none else if bd = true then none else some ((c.drop 12).take nn.toNat, (na, ns))) := by
        unfold Hid
        rw [HDE.out, HBE.out, ← HBQ.out, ← HBD.out]
        simp only [decide_eq_true_eq]
      clear HBE HDE
      go_cut [52] (fun t wd => t = .bool bq ∧ Hid (wd = W6))
      case first =>
        by_cases h1 : nn < 1
        · have e1 : bq = true := by rw [← HBQ.out]; simp [h1]
          subst e1
          go_wp2_with fail
          go_meet
          exact ⟨rfl, rfl⟩
        · by_cases h2 : (rl : Int) < nn
          · have e1 : bq = true := by rw [← HBQ.out]; simp [h2]
            subst e1
            go_wp2_with fail
            go_meet
            exact ⟨rfl, rfl⟩
          · obtain ⟨m, rfl⟩ := Int.eq_ofNat_of_zero_le (show 0 ≤ nn by omega)
            have e1 : (!noughtB ((c.drop 12).drop m)) = bq := by
              rw [← HBQ.out, Int.toNat_natCast]
              cases noughtB ((c.drop 12).drop m) <;> simp <;> omega
            have HNO : Hid (∀ ap : Option Addr, (0 < rl - m → ap = some ⟨bp, op + 12 + m, none⟩) → (∃ ad, ap = some ad) → Calls Tryd.prog 77 #[.slice ap (rl - m) (capp - 12 - m)] W6 fun e w' => e = .returned (.bool (!bq)) ∧ w' = W6) := fun ap hap hne => by
              obtain ⟨bb, oo, cc, hv, hcc, hcell⟩ := HU6.out.opened (by omega)
              injection hv with v1 v2 v3
              injection v1 with v1
              injection v1 with v4 v5
              subst v3 v4 v5
              have hb := Bs.part (12 + m) (rl - m) hcell (by omega) (ao := ap) (c := capp - 12 - m) (by omega) (fun h => by rw [hap h]; rw [Nat.add_assoc]) hne
              have hd : (c.drop (12 + m)).take (rl - m) = (c.drop 12).drop m := by
                rw [List.drop_drop, List.take_of_length_le]
                rw [List.length_drop, hcl]
                omega
              rw [hd] at hb
              have := isNoughts_any _ _ W6 hb (by rw [List.length_drop, HRL.out]; omega)
              rw [← e1, Bool.not_not]
              exact this
            clear e1
            by_cases hcm : capp - 12 = m
            · have hcm2 : (capp - 12 = m) = True := by simp [hcm]
              have HCM : Hid (capp - 12 = m) := hcm
              clear hcm
              go_wp2_with (go_at_call 77; refine Calls.mono (HNO.out (some ⟨bp, op + 12, none⟩) (fun h => by have h9 := HCM.out; omega) ⟨_, rfl⟩) ?_; rintro e w7 ⟨rfl, hw7⟩; obtain rfl := hw7.symm)
              go_meet
              exact ⟨by simp, rfl⟩
            · have hcm2 : (capp - 12 = m) = False := by simp [hcm]
              go_wp2_with (go_at_call 77; refine Calls.mono (HNO.out (some ⟨bp, op + 12 + m, none⟩) (fun h => rfl) ⟨_, rfl⟩) ?_; rintro e w7 ⟨rfl, hw7⟩; obtain rfl := hw7.symm)
              go_meet
              exact ⟨by simp, rfl⟩
      case rest =>
        obtain ⟨rfl, hw⟩ := hcut
        obtain rfl := hw.out
        clear hw
        generalize wc = W6 at *
        cases bq with
        | true =>
          clear HBQ HBD
          go_wp2_with fail
          refine ⟨rfl, HB6.out, (fun _ => rfl), (fun part nx h => ?_)⟩
          rw [HBE2.out] at h
          simp at h
        | false =>
          have hq := HBQ.out
          rw [decide_eq_false_iff_not] at hq
          obtain ⟨m, rfl⟩ := Int.eq_ofNat_of_zero_le n00
          have hm1 : 1 ≤ m ∧ m ≤ rl := by
            constructor
            · have : ¬ (m : Int) < 1 := fun h => hq (.inl h)
              omega
            · have : ¬ (rl : Int) < (m : Int) := fun h => hq (.inr (.inl h))
              omega
          obtain ⟨hm1, hm2⟩ := hm1
          have hb2 := HC6.out.boxCell
          obtain ⟨d20, d21⟩ := hb2
          obtain ⟨x0, x1⟩ := HX6.out
          dsimp only at d20 d21
          have HNW : Hid (∀ W, Calls Tryd.prog 30 #[.agg #[.int .i64 na, .int .i64 ns]] W fun e w' => e = .returned (.bool (narrowB (na, ns))) ∧ Below W.heap.size W w') := fun W => narrow_any (na, ns) (by unfold EW; dsimp only; omega) W
          rw [if_neg (by simp)] at HBE2
          clear hq HBQ HCY n00 n01
          go_upto_region 9 with fail
          go_cut [66] (fun t wd => t = .bool bd ∧ Hid (Below W6.heap.size W6 wd))
          case first =>
            by_cases hz : na = 0 ∧ ns = 0
            · obtain ⟨rfl, rfl⟩ := hz
              have e1 : bd = false := by rw [← HBD.out]; simp
              subst e1
              go_wp2_with fail
              go_meet
              exact ⟨rfl, Below.refl _ _⟩
            · have hne : ((na, ns) : Ext) ≠ (0, 0) := fun e => hz (by injection e with e1 e2; exact ⟨e1, e2⟩)
              by_cases hml : m < rl
              · have e1 : bd = true := by rw [← HBD.out]; simp only [decide_eq_true_eq]; exact ⟨hne, .inl (by omega)⟩
                subst e1
                have hml2 : ¬ rl ≤ m := by omega
                clear hne
                by_cases h0 : na = 0
                · have h1 : ¬ ns = 0 := fun e => hz ⟨h0, e⟩
                  clear hz HBD HBE2
                  subst h0
                  go_wp2_with fail
                  go_meet
                  exact ⟨rfl, Below.refl _ _⟩
                · clear hz HBD HBE2
                  go_wp2_with fail
                  go_meet
                  exact ⟨rfl, Below.refl _ _⟩
              · have e1 : narrowB (na, ns) = bd := by
                  rw [← HBD.out]
                  cases h9 : narrowB (na, ns) with
                  | true => exact (decide_eq_true ⟨hne, .inr rfl⟩).symm
                  | false => exact (decide_eq_false (fun h => h.2.elim (fun h => by omega) (fun h => by cases h))).symm
                rw [e1] at HNW
                have hml2 : rl ≤ m := by omega
                clear hne e1
                by_cases h0 : na = 0
                · have h1 : ¬ ns = 0 := fun e => hz ⟨h0, e⟩
                  clear hz HBD HBE2
                  subst h0
                  go_wp2_with (go_at_call 30; refine Calls.mono (HNW.out _) ?_; rintro e w7 ⟨rfl, hb7⟩; have HB7 : Hid (Below W6.heap.size W6 w7) := hb7; clear hb7)
                  go_meet
                  exact ⟨rfl, HB7.out⟩
                · clear hz HBD HBE2
                  go_wp2_with (go_at_call 30; refine Calls.mono (HNW.out _) ?_; rintro e w7 ⟨rfl, hb7⟩; have HB7 : Hid (Below W6.heap.size W6 w7) := hb7; clear hb7)
                  go_meet
                  exact ⟨rfl, HB7.out⟩
          case rest =>
            obtain ⟨rfl, HB7⟩ := hcut
            have HBw : Hid (Below B w wc) := HB6.out.trans (HB7.out.mono hs6)
            cases bd with
            | true =>
              clear HBD
              go_wp2_with fail
              refine ⟨rfl, HBw.out, (fun _ => rfl), (fun part nx h => ?_)⟩
              rw [HBE2.out] at h
              simp at h
            | false =>
              clear HBD d20 d21 x0 x1
              have HC7 : Hid (ChS wc B g (.slice (some ⟨b, off, none⟩) L capf) vu vs used tot all (boxX b2 (na, ns) :: boxX (b0 + 1) (0, 0) :: boxX b0 ((n1 : Int), (n2 : Int)) :: R)) := HC6.out.below HB7.out
              obtain ⟨aos, caps, hvs, _⟩ := HC7.out.own.opened
              obtain ⟨an, HAN⟩ : ∃ an, Hid (all.length = an) := ⟨_, rfl⟩
              rw [HAN.out] at hvs hal
              subst hvs
              have HPT : Hid (Bs wc (.slice (some ⟨bp, op + 12, none⟩) m (capp - 12)) ((c.drop 12).take m)) := by
                obtain ⟨bb, oo, cc, hv, hcc, hcell⟩ := (HU6.out.below HB7.out).opened (by omega)
                injection hv with v1 v2 v3
                injection v1 with v1
                injection v1 with v4 v5
                subst v3 v4 v5
                exact Bs.part 12 m hcell (by omega) (by omega) (fun h => rfl) ⟨_, rfl⟩
              have HPL : Hid (((c.drop 12).take m).length = m) := by unfold Hid; rw [List.length_take, HRL.out]; omega
              have HDC : Hid (blkD y = some ((c.drop 12).take m, (na, ns))) := by unfold Hid; rw [HBE2.out, Int.toNat_natCast]; simp
              obtain ⟨part, HPA⟩ : ∃ part, Hid ((c.drop 12).take m = part) := ⟨_, rfl⟩
              rw [HPA.out] at HPT HPL HDC
              obtain ⟨i0, hi, hz0, hz1, hz2⟩ := info_parts Tryd.info5
              have hDr : Below wc.heap.size wc wc.drew := (Below.refl _ _).drew
              have HOW : Hid (wc.drew.ownsRow B 5 1 (.slice aos an caps) an (bcells all)) := by
                have h9 := ownsRow_below HC7.out.own hDr
                rw [HAN.out] at h9
                exact h9
              have HRW : Hid (Rd wc.drew (.slice (some ⟨bp, op + 12, none⟩) m (capp - 12)) m 1 (bcells part)) := by
                have h9 := rd_of_bs (HPT.out.below hDr)
                rw [HPL.out] at h9
                exact h9
              have hsw : B ≤ wc.drew.heap.size := Nat.le_trans hs6 (Nat.le_trans HB7.out.size hDr.size)
              obtain ⟨_, _, _, c3, cz, cb, cl⟩ := HC7.out.cell
              have HR3 : Hid (∀ (ao : Option Addr) (cap : Nat) (w3 : World), w3.ownsRow B 5 1 (.slice ao (an + m) cap) (an + m) (bcells all ++ bcells part) → wc.drew.grownBy w3 (Value.slice aos an caps).ownBlock → ((Value.slice ao (an + m) cap).ownBlock = (Value.slice aos an caps).ownBlock ∨ (Value.slice ao (an + m) cap).ownBlock = some wc.drew.heap.size) → w3.cell? ⟨g, 3, none⟩ = some (.slice aos an caps) ∧ w3.frozen? ⟨g, 3, none⟩ = false ∧ RbE w B g b0 b2 (an + m) (.slice (some ⟨b, off, none⟩) L capf) vu used tot (all ++ part) R ((n1 : Int), (n2 : Int)) (na, ns) (w3.setCell ⟨g, 3, none⟩ (.slice ao (an + m) cap))) := by
                intro ao cap w3 ho hg ha
                have hc2 := HC7.out.below hDr
                have hgne : some g ≠ (Value.slice aos an caps).ownBlock := fun e => by
                  have hnd := hc2.nd
                  simp only [List.flatMap_cons, chO, chU, chT, Pc.blk, ← e] at hnd
                  simp at hnd
                have hob : ∀ k, (Value.slice aos an caps).ownBlock = some k → B ≤ k := fun k hk => (World.ownsRow.lt HOW.out k hk).1
                have hblk : w3.heap[g]? = wc.heap[g]? := (hg.block g (Nat.lt_of_lt_of_le cl hDr.size) hgne).trans (hDr.block g cl)
                have hmore := ChS.more (vs' := .slice ao (an + m) cap) (part := part) hc2 (by rw [HAN.out, HPL.out]; exact ho) hg ha
                refine ⟨(World.cell?_of_block hblk).trans c3, (World.frozen?_of_block hblk).trans (cz 3), ?_, ao, cap, hmore⟩
                exact HBw.out.trans (((Kp.of (F := fun y => y = g ∨ (Value.slice aos an caps).ownBlock = some y) hDr).grown hg (fun y _ e => .inr e)).setCell _ (fun _ => .inl rfl) |>.below (Nat.le_trans hs6 HB7.out.size) (fun y hy => hy.elim (fun e => e ▸ cb) (hob y)))
              have hone : ∀ u ∈ bcells part, u.oneCell' = true := bcells_one part
              have HON : Hid _ := hone
              clear hone cz hDr HPT HU6 HX6
              have hmc : m ≤ capp - 12 := by omega
              go_upto_region 11 with fail
              go_cut [77] (fun t wd => t = .pointer (some ⟨g, 0, none⟩) ∧ Hid (RbE w B g b0 b2 (an + m) (.slice (some ⟨b, off, none⟩) L capf) vu used tot (all ++ part) R ((n1 : Int), (n2 : Int)) (na, ns) wd))
              case first =>
                go_region_law (refine step_append_T 76 rfl rfl (.tmp 72) (.tmp 75) 31 5 rfl i0 Tryd.underlying31 hi _ hz0 1 1 hz1 hz2 rfl (by omega) B (.slice aos an caps) (.slice (some ⟨bp, op + 12, none⟩) m (capp - 12)) an m (bcells all) (bcells part) rfl rfl HOW.out HRW.out HON.out (by omega) (by omega) hsw (an + m) rfl ?_; intro ao3 cap3 w3 ho3 hg3 ha3; obtain ⟨f1, f2, f3⟩ := HR3.out ao3 cap3 w3 ho3 hg3 ha3; have HF3 : Hid (RbE _ _ _ _ _ _ _ _ _ _ _ _ _ _ _) := f3; clear f3 ho3 hg3 ha3)
                all_goals
                  go_wp2_with fail
                  go_meet
                  exact ⟨rfl, HF3.out⟩
              case rest =>
                obtain ⟨rfl, hE⟩ := hcut
                obtain ⟨hb8, ao8, cap8, hc8⟩ := hE.out
                have HB8 : Hid (Below B w wc) := hb8
                have HC8 : Hid (ChS wc B g (.slice (some ⟨b, off, none⟩) L capf) vu (.slice ao8 (an + m) cap8) used tot (all ++ part) (boxX b2 (na, ns) :: boxX (b0 + 1) (0, 0) :: boxX b0 ((n1 : Int), (n2 : Int)) :: R)) := hc8
                obtain ⟨d20, d21⟩ := hc8.boxCell
                dsimp only at d20 d21
                have ho1 := Sep.obj (g := b0 + 1) (a := #[.int .i64 0, .int .i64 0]) (T := 49) hc8 (by simp [boxX])
                have hB1 : B ≤ b0 + 1 := (hc8.at_ (boxX (b0 + 1) (0, 0)) (by simp)).2
                have e0 := cellO ho1 0 rfl
                have e1 := cellO ho1 1 rfl
                have z0 := frozenO ho1 0
                have z1 := frozenO ho1 1
                have HFIN : Hid (RbP w B g (.slice (some ⟨b, off, none⟩) L capf) vu (.slice aos an caps) used tot all R y (.returned (.agg #[.int .i64 na, .int .i64 ns])) ((wc.setCell ⟨b0 + 1, 0, none⟩ (.int .i64 na)).setCell ⟨b0 + 1, 1, none⟩ (.int .i64 ns))) := by
                  refine ⟨(HB8.out.setCell hB1 _).setCell hB1 _, (fun h => by rw [HDC.out] at h; cases h), fun part' nx' h => ?_⟩
                  rw [HDC.out] at h
                  injection h with h
                  injection h with h1 h2
                  subst h1 h2
                  refine ⟨rfl, ao8, cap8, ?_⟩
                  rw [HAN.out, HPL.out]
                  exact (HC8.out.setBox na ns).unboxes
                have HROW : Hid (((wc.setCell ⟨b0 + 1, 0, none⟩ (.int .i64 na)).setCell ⟨b0 + 1, 1, none⟩ (.int .i64 ns)).heap[b0 + 1]? = some (.cells #[.int .i64 na, .int .i64 ns] 49 (0, 0))) := Sep.obj (HC8.out.setBox na ns) (by simp [boxX])
                clear hE hb8 hc8 ho1 HR3 HOW HRW HON HDC HBE2
                go_wp2_with fail
                refine bodyPost_ret (results_cell_row (P := Tryd.prog) rfl _ _ (b0 + 1) _ _ _ _ rfl HROW.out Tryd.underlying49 rfl Tryd.hiX) rfl ?_
                exact HFIN.out
    · have HN : Hid (blkD y = none) := by unfold Hid blkD; rw [HUE.out, if_pos hue]
      have hue2 : (ue != 0) = true := by simpa using hue
      go_wp2_with fail
      refine ⟨rfl, HBc.out, (fun _ => rfl), (fun part nx h => ?_)⟩
      rw [HN.out] at h
      cases h
end Go.Proofs.YtdalkjenjnalbaaDoor
