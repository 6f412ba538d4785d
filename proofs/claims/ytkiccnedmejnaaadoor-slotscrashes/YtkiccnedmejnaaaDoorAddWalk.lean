/-
  Walks of record.add and of File.lay: a raw write that is within the file or at its end is laid down, counted and recorded.
-/
import Derived.Test.YtkiccnedmejnaaaDoorSteps
namespace Go.Proofs.YtkiccnedmejnaaaDoor
open Go.RowKit
set_option linter.unusedVariables false
set_option maxRecDepth 100000

/-- A slice whose block is none of the file's, and lies already. -/
def Alien (w : World) (p : Nat) (vb vr v : Value) : Prop := ∀ k, v.ownBlock = some k → ¬ Foot p vb vr k ∧ k < w.heap.size

theorem cells_pair {w : World} {g : Nat} {a b : Value} {t : TypeId} (h : w.heap[g]? = some (.cells #[a, b] t (0, 0))) : ∀ j u, [a, b][j]? = some u → w.cell? ((⟨g, 0, none⟩ : Addr).add j) = some u := by
  intro j u hj
  rw [addr_add, Nat.zero_add]
  simp only [World.cell?, h]
  match j with
  | 0 => simpa using hj
  | 1 => simpa using hj
  | (j + 2) => simp at hj

theorem rec_added {w w2 w3 : World} {B p : Nat} {F : Mdl} {vb vr vr' : Value} {rv : List RawV} (h : PF w B p F vb vr rv) {at' : Int} {x : List Int} {v : Value} (hx : Bs w v x) (hal : Alien w p vb vr v)
    (hg1 : Below w.heap.size w w2) (ho : w3.ownsRow B 91 2 vr' (rv.length + 1) (rcells rv ++ [.int .i64 at', v])) (hg : w2.grownBy w3 vr.ownBlock) (hb : ∀ k, vr'.ownBlock = some k → vr.ownBlock = some k ∨ w2.heap.size ≤ k) :
    PF (w3.setCell ⟨p, 4, none⟩ vr') B p { F with rs := F.rs ++ [(at', x)] } vb vr' (rv ++ [(at', x, v)]) ∧ Chg (Foot p vb vr) w (w3.setCell ⟨p, 4, none⟩ vr') ∧
    (∀ k, Foot p vb vr' k → Foot p vb vr k ∨ w.heap.size ≤ k) ∧ (∀ k, Inn (rv ++ [(at', x, v)]) k → Inn rv k ∨ v.ownBlock = some k) := by
  have c12 : Chg (fun k => vr.ownBlock = some k) w w3 := (Chg.of_below hg1).trans (Chg.of_grown (S := fun k => vr.ownBlock = some k) hg (fun k e => e)) (fun _ => .inl)
  have hb' : ∀ k, vr'.ownBlock = some k → vr.ownBlock = some k ∨ w.heap.size ≤ k := fun k hk => (hb k hk).imp id (Nat.le_trans hg1.size)
  have hp3 : w3.heap[p]? = some (.cells (pcs F vb vr) 81 (0, 0)) := (c12.block p h.hold.plt (fun e => h.hold.d2 e)).trans h.cells
  have c3 : Chg (fun k => k = p) w3 (w3.setCell ⟨p, 4, none⟩ vr') := Chg.cell _ _ _ _
  have call : Chg (Foot p vb vr) w (w3.setCell ⟨p, 4, none⟩ vr') := (c12.mono (fun k e => .inr (.inr e))).trans c3 (fun k e => .inl (.inl e))
  have hft : ∀ k, Foot p vb vr' k → Foot p vb vr k ∨ w.heap.size ≤ k := by
    rintro k (rfl | e | e)
    · exact .inl (.inl rfl)
    · exact .inl (.inr (.inl e))
    · exact (hb' k e).imp (fun e => .inr (.inr e)) id
  have hin : ∀ k, Inn (rv ++ [(at', x, v)]) k → Inn rv k ∨ v.ownBlock = some k := by
    rintro k ⟨r, hr, hk⟩
    rcases List.mem_append.1 hr with hr | hr
    · exact .inl ⟨r, hr, hk⟩
    · simp at hr; subst hr; exact .inr hk
  have hd2 : vr'.ownBlock ≠ some p := fun e => by
    rcases hb' p e with e | e
    · exact h.hold.d2 e
    · have := h.hold.plt; omega
  have hnf : ∀ k, Inn (rv ++ [(at', x, v)]) k → ¬ Foot p vb vr k ∧ k < w.heap.size := fun k hk => by
    rcases hin k hk with hk | hk
    · exact ⟨h.hold.dis k hk, h.hold.ilt k hk⟩
    · exact hal k hk
  refine ⟨⟨?_, ⟨h.hold.bp, Nat.lt_of_lt_of_le h.hold.plt call.size, ?_, ?_, h.hold.d1, hd2, ?_, ?_, ?_, ?_⟩, ?_, h.fit⟩, call, hft, hin⟩
  · rw [heap_setCell_same w3 p 4 _ _ vr' hp3]
    simp [pcs]
  · exact owns_chg (owns_chg h.hold.own c12 (fun g hgb e => h.hold.d3 g hgb e)) c3 (fun g hgb e => h.hold.d1 (by rw [hgb, e]))
  · refine owns_chg (S := fun k => k = p) ?_ c3 (fun g hgb e => hd2 (by rw [hgb, e]))
    rw [rcells_append]
    simpa [rcells] using ho
  · intro g hgb e
    rcases hb' g e with e | e
    · exact h.hold.d3 g hgb e
    · have := World.ownsRow.lt h.hold.own g hgb; omega
  · intro r hr
    rcases List.mem_append.1 hr with hr' | hr'
    · exact (h.hold.inn r hr').chg call (fun g hgb => h.hold.dis g ⟨r, hr', hgb⟩)
    · simp at hr'; subst hr'; exact hx.chg call (fun g hgb => (hal g hgb).1)
  · intro k hk hf
    have := hnf k hk
    rcases hft k hf with e | e
    · exact this.1 e
    · omega
  · intro k hk
    exact Nat.lt_of_lt_of_le (hnf k hk).2 call.size
  · simp [plain, h.rs]

theorem add_any {w : World} {B p : Nat} {F : Mdl} {vb vr : Value} {rv : List RawV} (h : PF w B p F vb vr rv) (hB : B ≤ w.heap.size) (at' : Int) (x : List Int) (v : Value) (hx : Bs w v x) (hal : Alien w p vb vr v) (hn : rv.length ≤ 1000000000000) :
    Calls Tryd.prog 47 #[.pointer (some ⟨p, 4, none⟩), .agg #[.int .i64 at', v]] w fun e w' => (∃ u, e = .returned u) ∧ ∃ vr', PF w' B p { F with rs := F.rs ++ [(at', x)] } vb vr' (rv ++ [(at', x, v)]) ∧ Chg (Foot p vb vr) w w' ∧
      (∀ k, Foot p vb vr' k → Foot p vb vr k ∨ w.heap.size ≤ k) ∧ (∀ k, Inn (rv ++ [(at', x, v)]) k → Inn rv k ∨ v.ownBlock = some k) := by
  obtain ⟨i1, hi, hz0, hz1, hz2⟩ := info_parts Tryd.infoRaw
  have hv1 : v.oneCell' = true := bs_one hx
  have H0 : Hid (PF w B p F vb vr rv) := h
  have HX : Hid (Bs w v x) := hx
  have HA : Hid (Alien w p vb vr v) := hal
  have c4 : w.cell? ⟨p, 4, none⟩ = some vr := h.cell 4
  have z4 : w.frozen? ⟨p, 4, none⟩ = false := h.free 4
  have hpl : p < w.heap.size := h.hold.plt
  have HO : Hid (w.ownsRow B 91 2 vr rv.length (rcells rv)) := h.hold.raws
  obtain ⟨ab, cb, ar, cr, e1, hcb, rfl⟩ := h.shape
  obtain ⟨ao, cap, rfl, hcx⟩ := hx
  clear h hal hcx e1
  have hb2 : Below w.heap.size w ((w.alloc (.cells #[.int .i64 at', .slice ao x.length cap] 91)).alloc (.cells #[.int .i64 at', .slice ao x.length cap] 91)).drew := (((Below.refl _ w).alloc (Nat.le_refl _) _).alloc (by simp) _).drew
  have HO2 : Hid ((((w.alloc (.cells #[.int .i64 at', .slice ao x.length cap] 91)).alloc (.cells #[.int .i64 at', .slice ao x.length cap] 91)).drew).ownsRow B 91 2 (.slice ar rv.length cr) rv.length (rcells rv)) := owns_chg HO.out (Chg.of_below (S := fun _ => False) hb2) (fun _ _ => id)
  have HN2 : Hid ((((w.alloc (.cells #[.int .i64 at', .slice ao x.length cap] 91)).alloc (.cells #[.int .i64 at', .slice ao x.length cap] 91)).drew).heap[w.heap.size + 1]? = some (.cells #[.int .i64 at', .slice ao x.length cap] 91 (0, 0))) := by
    have := heap_alloc_new (w.alloc (.cells #[.int .i64 at', .slice ao x.length cap] 91)) (.cells #[.int .i64 at', .slice ao x.length cap] 91)
    rw [World.size_alloc] at this
    exact this
  have HB2 : Hid (Below w.heap.size w ((w.alloc (.cells #[.int .i64 at', .slice ao x.length cap] 91)).alloc (.cells #[.int .i64 at', .slice ao x.length cap] 91)).drew) := hb2
  have HS2 : Hid (B ≤ ((w.alloc (.cells #[.int .i64 at', .slice ao x.length cap] 91)).alloc (.cells #[.int .i64 at', .slice ao x.length cap] 91)).drew.heap.size) := Nat.le_trans hB hb2.size
  have HL2 : Hid (rv.length + 1 ≤ maxLen) := by unfold Hid maxLen; omega
  have HM2 : Hid ((rv.length + 1) * 32 ≤ 140737488355328) := by unfold Hid; omega
  have HP2 : Hid (∀ w3 : World, (((w.alloc (.cells #[.int .i64 at', .slice ao x.length cap] 91)).alloc (.cells #[.int .i64 at', .slice ao x.length cap] 91)).drew).grownBy w3 (Value.slice ar rv.length cr).ownBlock → w3.heap[p]? = w.heap[p]?) := fun w3 hg => (hg.block p (Nat.lt_of_lt_of_le hpl hb2.size) (fun e => H0.out.hold.d2 e.symm)).trans (hb2.block p hpl)
  clear hb2 HO
  go_enter Tryd.func47, Tryd.ntmps47
  go_wp2
  go_region_law (refine step_append_at rfl (.tmp 8) (.tmp 10) 58 rfl 91 i1 _ 2 32 Tryd.underlying58 hi hz0 hz1 hz2 rfl (by decide) B (.slice ar rv.length cr) rv.length (rcells rv) ⟨w.heap.size + 1, 0, none⟩ 1 1 [.int .i64 at', .slice ao x.length cap] rfl rfl HO2.out rfl (cells_pair HN2.out) (by simp [Value.oneCell']) HL2.out HM2.out HS2.out ?_; intro ao2 cap2 w3 ho3 hg3 hb3; have hc4 : w3.cell? ⟨p, 4, none⟩ = some (.slice ar rv.length cr) := (World.cell?_of_block (a := ⟨p, 4, none⟩) (HP2.out w3 hg3)).trans c4; have hz4 : w3.frozen? ⟨p, 4, none⟩ = false := (World.frozen?_of_block (a := ⟨p, 4, none⟩) (HP2.out w3 hg3)).trans z4)
  all_goals
    go_end0
    exact ⟨⟨_, rfl⟩, .slice ao2 (rv.length + 1) cap2, rec_added H0.out HX.out HA.out HB2.out ho3 hg3 hb3⟩
end Go.Proofs.YtkiccnedmejnaaaDoor
