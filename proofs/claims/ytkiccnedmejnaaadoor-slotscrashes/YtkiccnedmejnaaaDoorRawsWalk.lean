/-
  The walk of File.Raws: a new row of raw writes, each with bytes of its own.
-/
import Derived.Test.YtkiccnedmejnaaaDoorReadWalk
namespace Go.Proofs.YtkiccnedmejnaaaDoor
open Go.RowKit Go.Shelf
set_option linter.unusedVariables false
set_option maxRecDepth 100000

/-- own, as a step. -/
theorem step_own {ops : Array Oper} {o : Oper} {a : Act} {w : World} {K : Act → World → Prop} {Q : Exit → Act → World → Prop} {E : Prop}
    (hg : o.guard = none) (x : Operand) (hop : o.op = Op.call { callee := Callee.value (Operand.func 38), args := #[x], argTypes := #[25] })
    (v : Value) (l : List Int) (hx : a.eval x = v) (hb : Bs w v l) (hl : l.length ≤ 140737488355328)
    (hK : ∀ ao cap w', Own w' w.heap.size (.slice ao l.length cap) l → Below w.heap.size w w' → K (a.put o.dst (.slice ao l.length cap)) w') :
    if Region.wanted o (yielded ops a.tmps) = true then Oper.wp Tryd.prog o a w K Q else E := by
  have hw : Region.wanted o (yielded ops a.tmps) = true := by simp [Region.wanted, hg]
  rw [if_pos hw]
  have hf : a.eval (Operand.func 38) = .func (.func 38) #[] #[] := rfl
  unfold Oper.wp
  simp [execOp, hop, resolve, invoke, hx, hf, Result.andThen, Oper.upon]
  refine (own_any v l w hb hl).mono ?_
  rintro e w' ⟨ao, cap, rfl, h1, h2, _⟩
  exact hK ao cap w' h1 h2

/-- Raw writes in a row of the call's own, each with bytes of its own. -/
structure Fresh (w : World) (B : Nat) (v : Value) (rv : List RawV) : Prop where
  row : w.ownsRow B 91 2 v rv.length (rcells rv)
  inn : ∀ r ∈ rv, Own w B r.2.2 r.2.1
  dis : ∀ r ∈ rv, ∀ g, r.2.2.ownBlock = some g → v.ownBlock ≠ some g
theorem Fresh.below {w w' : World} {B : Nat} {v : Value} {rv : List RawV} (h : Fresh w B v rv) (hb : Below w.heap.size w w') : Fresh w' B v rv :=
  ⟨owns_chg h.row (Chg.of_below (S := fun _ => False) hb) (fun _ _ => id), fun r hr => (h.inn r hr).below hb, h.dis⟩

theorem cell_later {w w' : World} {b o : Nat} {x : Value} (hb : Below w.heap.size w w') (h : w.cell? ⟨b, o, none⟩ = some x) : w'.cell? ⟨b, o, none⟩ = some x := (hb.cell (World.block_lt_of_cell? w _ h)).trans h
theorem raws_no (v : Value) (w : World) (h : NoFile w v) : Calls Tryd.prog 25 #[v] w fun e w' => e = .returned (.slice none 0 0) ∧ w' = w := by
  have H : Hid (NoFile w v) := h
  clear h
  go_enter Tryd.func25, Tryd.ntmps25
  go_wp2_with (go_at_call 41; refine (isNone_no _ _ H.out).mono ?_; rintro e w' ⟨rfl, rfl⟩)
  go_ret
  exact ⟨rfl, rfl⟩

theorem fresh_more {w1 w2 w3 : World} {B : Nat} {vo vo' : Value} {rk : List RawV} {at' : Int} {x : List Int} {v : Value} (h : Fresh w1 B vo rk) (hb12 : Below w1.heap.size w1 w2) (hx : Own w2 w1.heap.size v x) (hB : B ≤ w1.heap.size)
    (ho : w3.ownsRow B 91 2 vo' (rk.length + 1) (rcells rk ++ [.int .i64 at', v])) (hg : w2.grownBy w3 vo.ownBlock) (hb : ∀ k, vo'.ownBlock = some k → vo.ownBlock = some k ∨ w2.heap.size ≤ k) : Fresh w3 B vo' (rk ++ [(at', x, v)]) := by
  have hlt : ∀ g, vo.ownBlock = some g → g < w1.heap.size := fun g hg' => (World.ownsRow.lt h.row g hg').2
  have c23 : Chg (fun k => vo.ownBlock = some k) w2 w3 := Chg.of_grown hg (fun k e => e)
  refine ⟨?_, ?_, ?_⟩
  · rw [rcells_append]; simpa [rcells] using ho
  · intro r hr
    rcases List.mem_append.1 hr with hr | hr
    · exact owns_chg ((h.inn r hr).below hb12) c23 (fun g hg' e => h.dis r hr g hg' e)
    · simp at hr
      subst hr
      exact Own.mono (show Own w3 w1.heap.size v x from owns_chg (S := fun k => vo.ownBlock = some k) hx c23 (fun g hg' e => by have := (World.ownsRow.lt hx g hg').1; have := hlt g e; omega)) hB
  · intro r hr g hg' e
    rcases List.mem_append.1 hr with hr | hr
    · rcases hb g e with e | e
      · exact h.dis r hr g hg' e
      · have := (World.ownsRow.lt (h.inn r hr) g hg').2; have := hb12.size; omega
    · simp at hr
      subst hr
      rcases hb g e with e | e
      · have := (World.ownsRow.lt hx g hg').1; have := hlt g e; omega
      · have := (World.ownsRow.lt hx g hg').2; omega

set_option maxHeartbeats 4000000 in
theorem raws_any {w : World} {B p : Nat} {F : Mdl} {vb vr : Value} {rv : List RawV} (h : PF w B p F vb vr rv) (hrl : rv.length ≤ 1000000000000) (hxl : ∀ r ∈ rv, r.2.1.length ≤ 140737488355328) :
    Calls Tryd.prog 25 #[.pointer (some ⟨p, 0, none⟩)] w fun e w' => ∃ ao cap rv', e = .returned (.slice ao rv'.length cap) ∧ Fresh w' w.heap.size (.slice ao rv'.length cap) rv' ∧ plain rv' = F.rs ∧ Below w.heap.size w w' := by
  obtain ⟨i1, hi, hz0, hz1, hz2⟩ := info_parts Tryd.infoRaw
  have c0 : w.cell? ⟨p, 0, none⟩ = some (.bool true) := h.cell 0
  have c4 : w.cell? ⟨p, 4, none⟩ = some vr := h.cell 4
  have hpl := h.hold.plt
  have HRS : Hid (F.rs = plain rv) := h.rs
  have HIN : Hid (∀ r ∈ rv, Bs w r.2.2 r.2.1) := h.hold.inn
  have HXL : Hid (∀ r ∈ rv, r.2.1.length ≤ 140737488355328) := hxl
  have hsh : ∃ ao cap, vr = .slice ao rv.length cap ∧ rv.length ≤ cap ∧ ((ao = none ∧ rv.length = 0) ∨ ∃ g, ao = some ⟨g, 0, none⟩ ∧ ∀ j u, (rcells rv)[j]? = some u → w.cell? ⟨g, j, none⟩ = some u) := by
    have h' := h.hold.raws
    obtain ⟨_, ⟨e, h0⟩ | ⟨g, cap, cur, e, hB, hg, hle, hm, hs, ht⟩⟩ := h.hold.raws
    · exact ⟨none, 0, by rw [e, h0], by omega, .inl ⟨rfl, h0⟩⟩
    · refine ⟨some ⟨g, 0, none⟩, cap, e, hle, .inr ⟨g, rfl, fun j u hj => ?_⟩⟩
      have := World.ownsRow.cells h' (g := g) (by rw [e]; rfl) j u hj
      rwa [addr_add, Nat.zero_add] at this
  obtain ⟨ao, cap, rfl, hcap, hsh⟩ := hsh
  have HC : Hid ((ao = none ∧ rv.length = 0) ∨ ∃ g, ao = some ⟨g, 0, none⟩ ∧ ∀ j u, (rcells rv)[j]? = some u → w.cell? ⟨g, j, none⟩ = some u) := hsh
  clear h hsh hxl
  obtain ⟨N, HN⟩ : ∃ N, Hid (rv.length = N) := ⟨_, rfl⟩
  rw [HN.out] at c4 hrl hcap
  go_enter Tryd.func25, Tryd.ntmps25
  go_wp2_with (first | (go_at_call 41; refine (isNone_at _ true _ c0).mono ?_; rintro e w' ⟨rfl, hw'⟩; obtain rfl := hw'.symm) | (at_make; refine wpList_make_own _ rfl _ _ 58 rfl w.heap.size 91 i1 _ 2 Tryd.underlying58 hi hz0 hz1 _ _ _ N rfl rfl rfl (by rw [hz2]; omega) (by unfold maxLen; omega) (Nat.le_refl _) ?_; intro w1 ho1 hg1; have HO1 : Hid (w1.ownsRow w.heap.size 91 2 (.slice (some ⟨w.heap.size, 0, none⟩) 0 N) 0 []) := ho1; have HB1 : Hid (Below w.heap.size w w1) := below_of_grown hg1; have c41 := (HB1.out.cell (p := ⟨p, 4, none⟩) hpl).trans c4; clear ho1 hg1))
  go_loopw [3, 21] (fun out i wr => ∃ k ao2 cap2 rk, i = .int .i64 ((k : Nat) : Int) ∧ k ≤ N ∧ out = .slice ao2 k cap2 ∧ Fresh wr w.heap.size (.slice ao2 k cap2) rk ∧ rk.length = k ∧ plain rk = (plain rv).take k ∧ Below w.heap.size w wr) (fun _ i _ => N - (intOf i).toNat)
  case atStart =>
    exact ⟨0, some ⟨w.heap.size, 0, none⟩, N, [], rfl, Nat.zero_le _, rfl, ⟨HO1.out, fun r hr => by simp at hr, fun r hr => by simp at hr⟩, rfl, by simp [plain], HB1.out⟩
  case round =>
    obtain ⟨k, ao2, cap2, rk, rfl, hk, rfl, hfr, hrk, hpk, hbr⟩ := hrel
    have HFR : Hid (Fresh wr w.heap.size (.slice ao2 k cap2) rk) := hfr
    have HRK : Hid (rk.length = k) := hrk
    have HPK : Hid (plain rk = (plain rv).take k) := hpk
    have HBR : Hid (Below w.heap.size w wr) := hbr
    clear hfr hrk hpk hbr
    by_cases hlt : k < N
    · obtain ⟨r, hr⟩ : ∃ r, rv[k]? = some r := ⟨rv[k]'(by rw [HN.out]; exact hlt), List.getElem?_eq_getElem _⟩
      have hrm : r ∈ rv := List.mem_of_getElem? hr
      obtain ⟨hc1, hc2⟩ := rcells_at rv k r hr
      rcases HC.out with ⟨_, h0⟩ | ⟨b, rfl, hC⟩
      · rw [HN.out] at h0; omega
      · have hd1 := hC _ _ hc1
        have hd2 := hC _ _ hc2
        rw [show 2 * k = k * 2 by omega] at hd1 hd2
        obtain ⟨ra, rx, rb⟩ := r
        have hx : Bs w rb rx := HIN.out _ hrm
        have HX : Hid (Bs w rb rx) := hx
        have hxl := HXL.out _ hrm
        obtain ⟨ar, cpr, rfl, _⟩ := hx
        have e1 := cell_later HBR.out hd1
        have e2 := cell_later HBR.out hd2
        clear hc1 hc2 hd1 hd2 hC HC
        dsimp only at e1 e2 hxl
        have hbd : Below wr.heap.size wr (wr.alloc (.cells #[.int .i64 ra, .slice ar rx.length cpr] 91)).drew := ((Below.refl _ wr).alloc (Nat.le_refl _) _).drew
        have HSD : Hid ((wr.alloc (.cells #[.int .i64 ra, .slice ar rx.length cpr] 91)).drew.heap.size = wr.heap.size + 1) := World.size_alloc _ _
        have HFD : Hid (Fresh (wr.alloc (.cells #[.int .i64 ra, .slice ar rx.length cpr] 91)).drew w.heap.size (.slice ao2 k cap2) rk) := HFR.out.below hbd
        have HBD : Hid (Below w.heap.size w (wr.alloc (.cells #[.int .i64 ra, .slice ar rx.length cpr] 91)).drew) := HBR.out.trans (hbd.mono HBR.out.size)
        have HXD : Hid (Bs (wr.alloc (.cells #[.int .i64 ra, .slice ar rx.length cpr] 91)).drew (.slice ar rx.length cpr) rx) := HX.out.below HBD.out
        have hbc0 : (wr.alloc (.cells #[.int .i64 ra, .slice ar rx.length cpr] 91)).drew.cell? ⟨wr.heap.size, 0, none⟩ = some (.int .i64 ra) := cells_pair (heap_alloc_new wr (.cells #[.int .i64 ra, .slice ar rx.length cpr] 91)) 0 _ rfl
        have HC0 : Hid ((wr.alloc (.cells #[.int .i64 ra, .slice ar rx.length cpr] 91)).drew.cell? ⟨wr.heap.size, 0, none⟩ = some (.int .i64 ra)) := hbc0
        have HRW : Hid (∀ w2, Below (wr.alloc (.cells #[.int .i64 ra, .slice ar rx.length cpr] 91)).drew.heap.size (wr.alloc (.cells #[.int .i64 ra, .slice ar rx.length cpr] 91)).drew w2 → ∀ o, (w2.alloc o).ownsRow w.heap.size 91 2 (.slice ao2 k cap2) k (rcells rk)) := fun w2 hb o => by
          have := (HFD.out.below hb).row
          rw [HRK.out] at this
          exact this.alloc o
        have HL2 : Hid (k + 1 ≤ maxLen) := by unfold Hid maxLen; omega
        have HM2 : Hid ((k + 1) * 32 ≤ 140737488355328) := by unfold Hid; omega
        clear hbd hbc0
        go_wp2
        go_region_law (first | (refine step_own rfl (.tmp 29) rfl (.slice ar rx.length cpr) rx rfl HXD.out hxl ?_; intro ao3 cap3 w2 ho3 hb3; have b0 : w2.cell? ⟨wr.heap.size, 0, none⟩ = some (.int .i64 ra) := cell_later hb3 HC0.out; have HO3 : Hid (Own w2 (wr.alloc (.cells #[.int .i64 ra, .slice ar rx.length cpr] 91)).drew.heap.size (.slice ao3 rx.length cap3) rx) := ho3; have HB3 : Hid (Below (wr.alloc (.cells #[.int .i64 ra, .slice ar rx.length cpr] 91)).drew.heap.size (wr.alloc (.cells #[.int .i64 ra, .slice ar rx.length cpr] 91)).drew w2) := hb3; clear ho3 hb3) | (refine step_append_at rfl (.tmp 25) (.tmp 32) 58 rfl 91 i1 _ 2 32 Tryd.underlying58 hi hz0 hz1 hz2 rfl (by decide) w.heap.size (.slice ao2 k cap2) k (rcells rk) ⟨w2.heap.size, 0, none⟩ 1 1 [.int .i64 ra, .slice ao3 rx.length cap3] rfl rfl (HRW.out _ HB3.out _) rfl (cells_pair (heap_alloc_new w2 _)) (by simp [Value.oneCell']) HL2.out HM2.out (by have h1 := HB3.out.size; have h2 := HSD.out; have h3 := HBR.out.size; simp only [World.size_alloc]; omega) ?_; intro ao4 cap4 w4 ho4 hg4 hb4))
        all_goals
          go_wp2
          go_roundw
          case rel =>
            have h5 : Fresh w4 w.heap.size (.slice ao4 (k + 1) cap4) (rk ++ [(ra, rx, .slice ao3 rx.length cap3)]) :=
              fresh_more (HFD.out) (HB3.out.trans ((Below.refl _ w2).alloc HB3.out.size _)) (HO3.out.alloc _) (by have h2 := HSD.out; have h3 := HBR.out.size; omega) (by rw [HRK.out]; exact ho4) hg4 hb4
            refine ⟨k + 1, ao4, cap4, _, by simp, by omega, rfl, h5, by simp [HRK.out], ?_, ?_⟩
            · simp only [plain, List.map_append, List.map_cons, List.map_nil]
              have hp := HPK.out
              simp only [plain] at hp
              rw [hp, List.take_add_one, List.getElem?_map, hr]
              rfl
            · have h6 := (HBD.out.trans (HB3.out.mono HBD.out.size)).alloc (Nat.le_trans HBD.out.size HB3.out.size) (.cells #[.int .i64 ra, .slice ao3 rx.length cap3] 91)
              exact h6.grown hg4 h6.size (fun kk e => (World.ownsRow.lt HFD.out.row kk e).1)
          case measure => simp [intOf]; omega
    · obtain rfl : k = N := by omega
      go_wp2
      go_ret
      exact ⟨ao2, cap2, rk, by rw [HRK.out]; rfl, by rw [HRK.out]; exact HFR.out, by rw [HPK.out, HRS.out, List.take_of_length_le (by rw [plain_length, HN.out]; omega)], HBR.out⟩
end Go.Proofs.YtkiccnedmejnaaaDoor
