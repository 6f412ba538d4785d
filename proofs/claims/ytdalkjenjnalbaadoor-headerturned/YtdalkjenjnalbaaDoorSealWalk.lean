/-
  Walks of Crc and Seal, the program's and the document's, and of the law's own examples (lives). Conditions: lengths within the machine's bounds; the table stands as the program's text lays it.
-/
import Derived.Test.YtdalkjenjnalbaaDoorCrcWalk
import Derived.Lib.SlBytesConst
namespace Go.Proofs.YtdalkjenjnalbaaDoor
open Go.RowKit
set_option linter.unusedVariables false
set_option maxRecDepth 100000

theorem crc_any (v : Value) (l : List Int) (w : World) (hl : Bs w v l) (hb : l.length ≤ 140737488351240) (hby : Byt l) (ht : Tab w) :
    Calls Tryd.prog 82 #[v] w fun e w' => e = .returned (.int .u32 (crcN l : Nat)) ∧ w' = w := by
  have HM : Hid _ := more_any v l 0 w hl hb hby ht (by decide)
  clear hl ht
  go_enter Tryd.func82, Tryd.ntmps82
  go_wp2_with (go_at_call 98; refine Calls.mono HM.out ?_; rintro e w' ⟨rfl, rfl⟩)
  go_ret
  exact ⟨rfl, rfl⟩
theorem refCrc_any (v : Value) (l : List Int) (w : World) (hl : Bs w v l) (hb : l.length ≤ 140737488351240) (hby : Byt l) :
    Calls Tryd.prog 57 #[v] w fun e w' => e = .returned (.int .u32 (crcN l : Nat)) ∧ w' = w := by
  have HM : Hid _ := refMore_any v l 0 w hl hb hby (by decide)
  clear hl
  go_enter Tryd.func57, Tryd.ntmps57
  go_wp2_with (go_at_call 75; refine Calls.mono HM.out ?_; rintro e w' ⟨rfl, rfl⟩)
  go_ret
  exact ⟨rfl, rfl⟩

theorem byt_lit (l : List Int) (h : l.all (fun x => decide (0 ≤ x) && decide (x ≤ 255)) = true) : Byt l := fun i => by
  by_cases hi : i < l.length
  · have e : l.getD i 0 = l[i] := by simp [List.getD, hi]
    have := List.all_eq_true.1 h l[i] (List.getElem_mem _)
    rw [e]; simpa using this
  · have e : l.getD i 0 = 0 := by rw [List.getD, List.getElem?_eq_none (by omega)]; rfl
    rw [e]; omega
theorem Bs.made (w : World) (l : List Int) (C : Array Value) (hC : C = (bcells l).toArray) (fr : Nat × Nat) : Bs (w.alloc (.cells C 5 fr)) (.slice (some ⟨w.heap.size, 0, none⟩) l.length l.length) l := by
  refine ⟨some ⟨w.heap.size, 0, none⟩, l.length, rfl, Nat.le_refl _, (fun h => by cases h), fun ad ha i hi => ?_⟩
  obtain rfl := Option.some.inj ha
  rw [addr_add, Nat.zero_add, World.cell?_alloc_mark, hC]
  simp [bcells, List.getD, hi]

/-- Bytes with their sum behind them. -/
def sealN (l : List Int) : List Int := l ++ digs (crcN l) 4
theorem sealN_length (l : List Int) : (sealN l).length = l.length + 4 := by rw [sealN, List.length_append, digs_length]

theorem seal_any (v : Value) (l : List Int) (w : World) (hl : Bs w v l) (hb : l.length ≤ 140737488351232) (hby : Byt l) (ht : Tab w) :
    Calls Tryd.prog 71 #[v] w fun e w' => e = .returned (.slice (some ⟨w.heap.size, 0, none⟩) (l.length + 4) (l.length + 4)) ∧ Row w' w.heap.size (sealN l) ∧ Below w.heap.size w w' := by
  have hlt := crcN_lt l
  have HC : Hid _ := crc_any v l w hl (by omega) hby ht
  have HP : Hid _ := put_yes v l (crcN l) 4 false w hl hb (by omega) (by omega) (numErr_of (by omega) (by omega) (by omega) (by show _ < (4294967296 : Int); omega))
  obtain ⟨c, hce⟩ : ∃ c, c = crcN l := ⟨_, rfl⟩
  rw [← hce] at HC HP hlt
  have HS : Hid (l ++ dig2 false c 4 = sealN l) := by show _ = _; rw [hce]; rfl
  clear hce hl ht
  go_enter Tryd.func71, Tryd.ntmps71
  go_wp2_with (first | (go_at_call 82; refine Calls.mono HC.out ?_; rintro e w' ⟨rfl, rfl⟩) | (go_at_call 72; refine Calls.mono HP.out ?_; rintro e w1 ⟨rfl, hr1, hb1⟩))
  go_ret
  rw [HS.out] at hr1
  exact ⟨rfl, hr1, hb1⟩

theorem refSeal_any (v : Value) (l : List Int) (w : World) (hl : Bs w v l) (hb : l.length ≤ 140737488351232) (hby : Byt l) :
    Calls Tryd.prog 37 #[v] w fun e w' => ∃ x, e = .returned x ∧ Own w' w.heap.size x (sealN l) ∧ Below w.heap.size w w' := by
  obtain ⟨i0, hi, hz0, hz1, hz2⟩ := info_parts Tryd.info5
  have hlt := crcN_lt l
  have HL : Hid (Bs w v l) := hl
  have HC : Hid (∀ w', Below w.heap.size w w' → Calls Tryd.prog 57 #[v] w' fun e w'' => e = .returned (.int .u32 (crcN l : Nat)) ∧ w'' = w') := fun w' h => refCrc_any v l w' (hl.below h) (by omega) hby
  obtain ⟨c, hce⟩ : ∃ c, c = crcN l := ⟨_, rfl⟩
  rw [← hce] at HC hlt
  have HS : Hid (l ++ dig2 false c 4 = sealN l) := by show _ = _; rw [hce]; rfl
  have HD : Hid ((dig2 false c 4).length = 4) := dig2_length _ _ _
  clear hce
  obtain ⟨ao, cap, rfl, hc, hn, hcell⟩ := hl
  clear hcell hn
  go_enter Tryd.func37, Tryd.ntmps37
  go_wp2_with (first | (at_builtin; refine wpList_append_bytes _ rfl (.tmp 3) (.tmp 4) 31 rfl i0 Tryd.underlying31 hi hz0 hz1 hz2 w.heap.size _ _ [] l rfl rfl (Own.empty _ _ (Nat.le_refl _)) (HL.out.below ((Below.refl _ _).alloc (Nat.le_refl _) _)) (by simp; omega) w ((Below.refl _ _).alloc (Nat.le_refl _) _) (by simp) ?_; intro ao1 cap1 w1 ho1 hb1 _ _; simp only [List.length_nil, Nat.zero_add, List.nil_append] at ho1) | (go_at_call 57; refine Calls.mono (HC.out _ (by assumption)) ?_; rintro e w' ⟨rfl, rfl⟩) | (go_at_call 28; refine (refDigits_any 4 false c _ (by omega) (by omega) (by omega)).mono ?_; rintro e w2 ⟨v2, rfl, ho2, hb2⟩) | (at_builtin; refine wpList_append_bytes _ rfl (.tmp 5) (.tmp 9) 31 rfl i0 Tryd.underlying31 hi hz0 hz1 hz2 w.heap.size _ _ l (dig2 false c 4) rfl rfl (ho1.below hb2) ho2.bs (by rw [HD.out]; omega) w (hb1.trans (hb2.mono hb1.size)) (by have := hb1.size; have := hb2.size; omega) ?_; intro ao3 cap3 w3 ho3 hb3 _ _; rw [HD.out, HS.out] at ho3))
  go_ret
  exact ⟨_, rfl, ho3, hb3⟩

end Go.Proofs.YtdalkjenjnalbaaDoor
