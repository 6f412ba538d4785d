/-
  What Cut, Paste and Resize hand out, in memory; a case's cells; what is lent. Conditions: lengths are such as memory bears.
-/
import Derived.Test.YtneegijbbbebkaaFrameCs
import Derived.Test.YtneegijbbbebkaaGLives
import Derived.Test.YtneegijbbbebkaaGCut2
import Derived.Test.YtneegijbbbebkaaWalkF
namespace Go.Proofs.Ytneegijbbbebkaa
open Go.RowKit Go.Shelf
set_option linter.unusedVariables false
set_option maxRecDepth 100000

/-- Nil, or bytes in a block from lo on, with room behind them perhaps. -/
def Fd (w : World) (lo : Nat) (x : Value) (l : List Int) : Prop := (x = .slice none 0 0 ∧ l = []) ∨ ∃ g cap, lo ≤ g ∧ x = .slice (some ⟨g, 0, none⟩) l.length cap ∧ l.length ≤ cap ∧ Dst w g l
theorem Fd.bs {w : World} {lo : Nat} {x : Value} {l : List Int} (h : Fd w lo x l) : Bs w x l := by
  rcases h with ⟨rfl, rfl⟩ | ⟨g, cap, _, rfl, hc, hd⟩
  · exact Bs.nil _
  · exact hd.bs cap hc
theorem Fd.lt {w : World} {lo : Nat} {x : Value} {l : List Int} (h : Fd w lo x l) : ∀ k, x.ownBlock = some k → lo ≤ k ∧ k < w.heap.size := by
  rcases h with ⟨rfl, rfl⟩ | ⟨g, cap, hg, rfl, hc, hd⟩
  · intro k hk; cases hk
  · intro k hk; cases hk; exact ⟨hg, hd.lt⟩
theorem Fd.below {w w' : World} {lo : Nat} {x : Value} {l : List Int} (h : Fd w lo x l) (hb : Below w.heap.size w w') : Fd w' lo x l := by
  rcases h with h | ⟨g, cap, hg, rfl, hc, hd⟩
  · exact .inl h
  · exact .inr ⟨g, cap, hg, rfl, hc, hd.below hb⟩
theorem Fd.mono {w : World} {lo lo' : Nat} {x : Value} {l : List Int} (h : Fd w lo x l) (hl : lo' ≤ lo) : Fd w lo' x l := by
  rcases h with h | ⟨g, cap, hg, r⟩
  · exact .inl h
  · exact .inr ⟨g, cap, by omega, r⟩
theorem Fd.drewN {w : World} {lo : Nat} {x : Value} {l : List Int} (h : Fd w lo x l) (k : Nat) : Fd (w.drewN k) lo x l := h
theorem Fd.apart {w w' : World} {lo : Nat} {x : Value} {l : List Int} {r : Option Nat} (h : Fd w lo x l) (hb : w.grownBy w' r) (hr : ∀ b, x.ownBlock = some b → r ≠ some b) : Fd w' lo x l := by
  rcases h with h | ⟨g, cap, hg, rfl, hc, hd⟩
  · exact .inl h
  · exact .inr ⟨g, cap, hg, rfl, hc, hd.of_block (hb.block g hd.lt (fun e => hr g rfl e.symm))⟩
theorem fd_of {w : World} {er : Int} {R : List Int} {e : Ending} {w' : World} (h : ByP w er R e w') : ∃ v, e = .returned (.tuple #[v, .int .i64 er]) ∧ Fd w' w.heap.size v (if er = 0 then R else []) ∧ Below w.heap.size w w' := by
  obtain ⟨v, rfl, hb, h1, h2⟩ := h
  refine ⟨v, rfl, ?_, hb⟩
  by_cases e0 : er = 0
  · obtain ⟨g, cap, rfl, hc, hd, hg⟩ := h2 e0
    rw [if_pos e0]
    exact .inr ⟨g, cap, hg, rfl, hc, hd⟩
  · rw [if_neg e0]
    exact .inl ⟨h1 e0, rfl⟩
theorem Dst.set {w : World} {g : Nat} {l : List Int} (h : Dst w g l) (k : Nat) (x : Int) : Dst (w.setCell ⟨g, k, none⟩ (.int .u8 x)) g (l.set k x) := by
  obtain ⟨cs, h1, h2⟩ := h
  refine ⟨_, heap_setCell_same w g k _ _ (.int .u8 x) h1, ?_⟩
  rw [List.length_set, Array.toList_setIfInBounds, List.take_set, h2]
  simp [bcells, List.map_set]
theorem Dst.free {w : World} {g : Nat} {l : List Int} (h : Dst w g l) (i : Nat) : w.frozen? ⟨g, i, none⟩ = false := by
  obtain ⟨cs, h1, _⟩ := h
  simp [World.frozen?, h1]
set_option maxHeartbeats 4000000 in
theorem spoil_dst (g n cap : Nat) (L : List Int) (w : World) (hr : Dst w g L) (hn : L.length = n) (hc : n ≤ cap) (hb : n ≤ 281474976710656) :
    Calls Try.prog 22 #[.slice (some ⟨g, 0, none⟩) n cap] w fun e w' => e = .returned (.tuple #[]) ∧ w.grownBy w' (some g) := by
  go_enter Try.func22, Try.ntmps22
  go_wp2
  go_loopw [2] (fun i wr => ∃ (k : Nat) (M : List Int), k ≤ n ∧ i = .int .i64 k ∧ Dst wr g M ∧ M.length = n ∧ w.grownBy wr (some g)) (fun i _ => n - (intOf i).toNat)
  case atStart => exact ⟨0, L, Nat.zero_le _, rfl, hr, hn, World.grownBy.refl _ _⟩
  case round =>
    obtain ⟨k, M, hk, rfl, hrr, hM, hgr⟩ := hrel
    have HM : Hid (M.length = n) := hM
    by_cases hlt : k < n
    · have hc1 := hrr.cell (i := k) (by omega)
      have hf1 := hrr.free k
      have HRR : Hid (Dst _ g M) := hrr
      clear hM hrr
      go_wp2
      go_roundw
      case rel => exact ⟨k + 1, M.set k _, by omega, by go_num, HRR.out.set k _, by simp [HM.out], grown_set hgr _ _⟩
      case measure => simp [intOf]; omega
    · go_wp2
      go_end0
      exact ⟨rfl, hgr⟩
theorem spoil_fd (lo : Nat) (x : Value) (l : List Int) (w : World) (h : Fd w lo x l) (hl : l.length ≤ 281474976710656) :
    Calls Try.prog 22 #[x] w fun e w' => e = .returned (.tuple #[]) ∧ w.grownBy w' x.ownBlock := by
  rcases h with ⟨rfl, rfl⟩ | ⟨g, cap, _, rfl, hc, hd⟩
  · exact (spoil_nil w).mono fun e w' ⟨h1, h2⟩ => ⟨h1, by subst h2; exact World.grownBy.refl _ _⟩
  · exact spoil_dst g _ cap l w hd rfl hc hl
/-- The six cells of a case in memory. -/
def Cs6 (w : World) (b : Nat) (v0 v1 v2 v3 v4 v5 : Value) : Prop := w.cell? ⟨b, 0, none⟩ = some v0 ∧ w.cell? ⟨b, 1, none⟩ = some v1 ∧ w.cell? ⟨b, 2, none⟩ = some v2 ∧ w.cell? ⟨b, 3, none⟩ = some v3 ∧ w.cell? ⟨b, 4, none⟩ = some v4 ∧ w.cell? ⟨b, 5, none⟩ = some v5
theorem cs_next {w1 w2 : World} {b : Nat} {v0 v1 v2 v3 v4 v5 : Value} (hb : Below w1.heap.size w1 w2) (h : Cs6 w1 b v0 v1 v2 v3 v4 v5) : Cs6 w2 b v0 v1 v2 v3 v4 v5 := by
  obtain ⟨t0, t1, t2, t3, t4, t5⟩ := h
  exact ⟨(hb.cell (World.block_lt_of_cell? _ _ t0)).trans t0, (hb.cell (World.block_lt_of_cell? _ _ t1)).trans t1, (hb.cell (World.block_lt_of_cell? _ _ t2)).trans t2, (hb.cell (World.block_lt_of_cell? _ _ t3)).trans t3, (hb.cell (World.block_lt_of_cell? _ _ t4)).trans t4, (hb.cell (World.block_lt_of_cell? _ _ t5)).trans t5⟩
/-- What was lent. -/
def Lt (w : World) (g cap : Nat) (l : List Int) : Prop := l.length + 1 ≤ cap ∧ Bs w (.slice (some ⟨g, 0, none⟩) (l.length + 1) cap) (l ++ [90])
theorem Lt.below {w w' : World} {g cap : Nat} {l : List Int} (h : Lt w g cap l) (hb : Below w.heap.size w w') : Lt w' g cap l := ⟨h.1, h.2.below hb⟩
theorem Lt.bs {w : World} {g cap : Nat} {l : List Int} (h : Lt w g cap l) : Bs w (.slice (some ⟨g, 0, none⟩) l.length cap) l := lent_bs h.2
theorem lent_lt (v : Value) (l : List Int) (n : Nat) (w : World) (hl : Bs w v l) (hb : l.length ≤ 140737488351232) (hn : l.length = n) :
    Calls Try.prog 18 #[v] w fun e w' => ∃ g cap, e = .returned (.slice (some ⟨g, 0, none⟩) n cap) ∧ Lt w' g cap l ∧ Below w.heap.size w w' := by
  subst hn
  refine (lent_any v l w hl hb).mono ?_
  rintro e w' ⟨g, cap, rfl, _, _, hc, ho, hb⟩
  exact ⟨g, cap, rfl, ⟨hc, ho.bs⟩, hb⟩
end Go.Proofs.Ytneegijbbbebkaa
