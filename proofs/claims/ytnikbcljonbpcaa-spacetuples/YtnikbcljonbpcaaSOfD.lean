/-
  What axes select, and what any selection selects. Conditions: the extent's dimensions may be.
-/
import Derived.Test.YtnikbcljonbpcaaSOfC
import Derived.Test.YtnikbcljonbpcaaTail
namespace Go.Proofs.Ytnikbcljonbpcaa
open Go.RowKit Go.Shelf
set_option linter.unusedVariables false
set_option maxRecDepth 100000

theorem cnts_append (A B : List Ax) : cnts (A ++ B) = cnts A ++ cnts B := by simp [cnts]
theorem cnts_length (A : List Ax) : (cnts A).length = A.length * 2 := by
  induction A with
  | nil => rfl
  | cons a A ih => rw [show cnts (a :: A) = [a.ct, a.bl] ++ cnts A by simp [cnts], List.length_append, ih, List.length_cons]; simp; omega
theorem cnts_mem {A : List Ax} {x : Int} (h : x ∈ cnts A) : ∃ a ∈ A, x = a.ct ∨ x = a.bl := by
  simp only [cnts, List.mem_flatMap, List.mem_cons, List.not_mem_nil, or_false] at h
  exact h
theorem cnts_has {A : List Ax} {a : Ax} (h : a ∈ A) : a.ct ∈ cnts A ∧ a.bl ∈ cnts A := by
  simp only [cnts, List.mem_flatMap, List.mem_cons, List.not_mem_nil, or_false]
  exact ⟨⟨a, h, .inl rfl⟩, ⟨a, h, .inr rfl⟩⟩
def AxP (w : World) (D : List Int) (A : List Ax) (e : Ending) (w' : World) : Prop :=
  Below w.heap.size w w' ∧ if axE D A = 0 then ∃ it, e = .returned (.tuple #[.int .i64 (prd (cnts A)), it, .int .i64 0]) ∧ ItAx w' it A else e = .returned (.tuple #[.int .i64 0, .nilFunc, .int .i64 (axE D A)])
theorem below_grown {w w' : World} {B : Nat} {r : Option Nat} (h : w.grownBy w' r) (hB : B ≤ w.heap.size) (hr : ∀ g, r = some g → B ≤ g) : Below B w w' :=
  ⟨h.os, h.tape, h.output, h.size, fun x hx => h.block x (by omega) (fun e => by have := hr x e.symm; omega)⟩
theorem below_drewN {w w' : World} {B : Nat} (h : Below B w w') (n : Nat) : Below B w (w'.drewN n) := ⟨h.os, h.tape, h.output, h.size, h.block⟩
theorem below_undrew {w w' : World} (h : Below w.drew.heap.size w.drew w') : Below w.heap.size w w' := ⟨h.os, h.tape, h.output, h.size, h.block⟩
set_option maxHeartbeats 8000000 in
theorem ofAxes_any (D : List Int) (A : List Ax) (vd va : Value) (w : World) (hD : Is w vd D) (hA : Axs w va A) (hd : dimsB D = true) (hl : A.length = D.length) : Calls Try.prog 33 #[vd, va] w (AxP w D A) := by
  have HI : Hid (Is w vd D) := hD
  have HJ : Hid (Axs w va A) := hA
  obtain ⟨ao, n, cap, rfl, hn, hc, hb⟩ := hD.open
  obtain ⟨bo, m, dap, rfl, hm, hdc, h4⟩ := hA.open
  obtain rfl : m = n := by omega
  have HN : Hid _ := hn
  have HM : Hid _ := hm
  have HDB : Hid (∀ x ∈ D, 0 ≤ x ∧ x ≤ 1048576) := by
    rw [dimsB, Bool.and_eq_true, List.all_eq_true] at hd
    intro x hx
    have := hd.2 x hx
    simpa using this
  have HC0 : Hid (∀ x ∈ cnts A, 0 ≤ x ∧ I64 x) := fun x hx => by
    obtain ⟨a, ha, h | h⟩ := cnts_mem hx
    · have := hA.ok a ha; rw [h]; exact ⟨this.c0, by have := this.c0; omega, this.c1⟩
    · have := hA.ok a ha; rw [h]; exact ⟨this.b0, by have := this.b0; omega, this.b1⟩
  obtain ⟨i0, hi, hz, hs, hy⟩ := Try.infoZ
  clear hD hA hn hm hd hl
  go_enter Try.func33, Try.ntmps33
  go_wp2_with fail
  go_loopw [17, 7] (fun x y wr => ∃ (i : Nat) (co : Option Addr) (cc : Nat), i ≤ m ∧ x = .int .i64 (i : Int) ∧ y = .slice co (i * 2) cc ∧ Hid (OwnI wr w.heap.size (.slice co (i * 2) cc) (cnts (A.take i))) ∧ Hid (Below w.heap.size w wr)) (fun x _ _ => m - (intOf x).toNat)
  case atStart => exact ⟨0, none, 0, Nat.zero_le _, rfl, rfl, ⟨rfl, .inl ⟨rfl, rfl⟩⟩, Below.refl _ _⟩
  case round =>
    obtain ⟨i, co, cc, hin, rfl, rfl, HO, HB⟩ := hrel
    by_cases hlt : i < m
    · obtain ⟨g, o, a, rfl, hma, hok, c0, c1, c2, c3⟩ := (HJ.out.below HB.out).at hlt
      have hili : (i : Int) < (m : Int) := by omega
      have HMA : Hid _ := hma
      have hln : (cnts (A.take i)).length = i * 2 := by rw [cnts_length, List.length_take, HM.out]; omega
      have HOR : Hid (wr.ownsRow w.heap.size 3 1 (.slice co (i * 2) cc) (i * 2) (gc encZ (cnts (A.take i)))) := by have := HO.out; rw [OwnI, hln] at this; exact this
      have HNX : Hid (gc encZ (cnts (A.take i)) ++ [.int .i64 a.ct, .int .i64 a.bl] = gc encZ (cnts (A.take (i + 1)))) := by
        rw [Hid, List.take_add_one, hma, cnts_append, gc_append]; rfl
      have HLN : Hid ((cnts (A.take (i + 1))).length = (i + 1) * 2) := by rw [Hid, cnts_length, List.length_take, HM.out]; omega
      have HSZ : Hid (w.heap.size ≤ wr.heap.size) := HB.out.size
      clear hma hok hln
      obtain ⟨W2, HW2⟩ : ∃ W2, (wr.alloc (.cells #[.int .i64 a.st, .int .i64 a.sd, .int .i64 a.ct, .int .i64 a.bl] 71)).alloc (.cells #[.int .i64 a.ct, .int .i64 a.bl] 3) = W2 := ⟨_, rfl⟩
      have HB2 : Hid (Below wr.heap.size wr W2) := by rw [← HW2]; exact ((Below.refl _ _).alloc (Nat.le_refl _) _).alloc (by simp) _
      have HG2 : Hid (W2.heap[wr.heap.size + 1]? = some (.cells [Value.int .i64 a.ct, .int .i64 a.bl].toArray 3 (0, 0))) := by
        rw [← HW2]; have := heap_alloc_new (wr.alloc (.cells #[.int .i64 a.st, .int .i64 a.sd, .int .i64 a.ct, .int .i64 a.bl] 71)) (.cells #[.int .i64 a.ct, .int .i64 a.bl] 3); rwa [World.size_alloc] at this
      have HSZ2 : Hid (w.heap.size ≤ W2.heap.size) := Nat.le_trans HB.out.size HB2.out.size
      have HON : Hid (∀ u ∈ [Value.int .i64 a.ct, .int .i64 a.bl], u.oneCell' = true) := by intro u hu; simp at hu; rcases hu with rfl | rfl <;> rfl
      have HOR2 : Hid _ := ownsRow_below HOR.out HB2.out
      go_wp2_with (at_builtin; refine wpList_append_G W2 rfl (.tmp 21) (.tmp 26) 22 rfl 3 i0 Try.underlying22 hi _ hz 1 8 hs hy rfl (by omega) w.heap.size (.slice co (i * 2) cc) (i * 2) (gc encZ (cnts (A.take i))) ⟨wr.heap.size + 1, 0, none⟩ 2 2 [.int .i64 a.ct, .int .i64 a.bl] rfl rfl HOR2.out rfl (news_one HG2.out) HON.out (by omega) (by omega) (by omega) HSZ2.out ?_; intro g3 cap3 w3 ho3 hg3 hat3; have HO3 : Hid (w3.ownsRow w.heap.size 3 1 (.slice (some ⟨g3, 0, none⟩) (i * 2 + 2) cap3) (i * 2 + 2) (gc encZ (cnts (A.take i)) ++ [.int .i64 a.ct, .int .i64 a.bl])) := ho3; have HB3 : Hid (Below w.heap.size w w3) := (HB.out.trans (HB2.out.mono HB.out.size)).trans (below_grown hg3 HSZ2.out (fun g hg => (World.ownsRow.lt HOR2.out g hg).1)); clear ho3 hg3 hat3)
      go_roundw
      case rel =>
        refine ⟨i + 1, some ⟨g3, 0, none⟩, cap3, by omega, by simp, by rw [show (i + 1) * 2 = i * 2 + 2 by omega], ?_, HB3.out⟩
        rw [Hid, OwnI, HLN.out, ← HNX.out, show (i + 1) * 2 = i * 2 + 2 by omega]
        exact HO3.out
      case measure => simp [intOf]; omega
    · rename World => w9
      obtain rfl : i = m := by omega
      have HTK : Hid (A.take i = A) := by rw [Hid, List.take_of_length_le (by rw [HM.out]; omega)]
      rw [HTK.out] at HO
      have HCI : Hid (Is w9 (.slice co (i * 2) cc) (cnts A)) := HO.out.is (by rw [cnts_length, HM.out]; omega) (fun x hx => (HC0.out x hx).2)
      have HPR : Hid _ := product_any (cnts A) _ 4096 w9 HCI.out (fun x hx => (HC0.out x hx).1) (by omega) (by omega)
      obtain ⟨Z, HZ⟩ : ∃ Z, Hid (prd (cnts A) = Z) := ⟨_, rfl⟩
      have HPM : Hid (prodM 4096 (cnts A) = if Z ≤ 4096 then (Z, true) else (0, false)) := by rw [Hid, prodM, HZ.out]
      have HZ0 : Hid (0 ≤ Z) := by rw [Hid, ← HZ.out]; exact prd_nonneg (fun x hx => (HC0.out x hx).1)
      have HPOS : Hid (Z ≠ 0 → ∀ a ∈ A, 1 ≤ a.ct ∧ 1 ≤ a.bl) := fun hne a ha => by
        obtain ⟨h1, h2⟩ := cnts_has ha
        have h0 : (0 : Int) ∉ cnts A := fun e => hne (by rw [← HZ.out]; exact prd_zero e)
        have h3 := HC0.out _ h1
        have h4 := HC0.out _ h2
        have h5 : a.ct ≠ 0 := fun e => h0 (e ▸ h1)
        have h6 : a.bl ≠ 0 := fun e => h0 (e ▸ h2)
        omega
      obtain ⟨f, HF⟩ : ∃ f : Int × Ax → Bool, Hid ((fun x : Int × Ax => fitB x.1 x.2) = f) := ⟨_, rfl⟩
      have HAE : Hid (axE D A = if Z ≠ 0 ∧ (D.zip A).all f = false then 17 else if Z ≤ 4096 then 0 else 18) := by rw [Hid, axE, fitsB, HZ.out, HF.out]
      clear HO HTK HCI
      by_cases hz0 : Z = 0
      · subst hz0
        rw [HPM.out, if_pos (by omega)] at HPR
        have HAE2 : Hid (axE D A = 0) := by rw [Hid, HAE.out, if_neg (fun e => e.1 rfl), if_pos (by omega)]
        go_wp2_with (go_at_call 24; refine Calls.mono HPR.out ?_; rintro e w1 ⟨rfl, hb1⟩; have HB1 : Hid (Below w.heap.size w w1) := HB.out.trans (hb1.mono HB.out.size); clear hb1)
        go_loopw [41] (fun x wr => ∃ j : Nat, j ≤ i ∧ x = .int .i64 (j : Int) ∧ Hid (Below w.heap.size w wr)) (fun x _ => i - (intOf x).toNat)
        case atStart => exact ⟨0, Nat.zero_le _, rfl, HB1.out⟩
        case round =>
          clear HB
          obtain ⟨j, hjn, rfl, HB⟩ := hrel
          by_cases hlt2 : j < i
          · obtain ⟨g, o, a, rfl, hma, hok, c0, c1, c2, c3⟩ := (HJ.out.below HB.out).at hlt2
            have hili : (j : Int) < (i : Int) := by omega
            clear hma hok
            go_wp2_with fail
            go_quiet (fail)
            go_wp2_with fail
            go_roundw
            case rel =>
              have h9 := HB.out.alloc HB.out.size (.cells #[.int .i64 a.st, .int .i64 a.sd, .int .i64 a.ct, .int .i64 a.bl] 71)
              exact ⟨j + 1, by omega, by simp, h9.trans (Below.mono ⟨rfl, rfl, rfl, Nat.le_refl _, fun _ _ => rfl⟩ h9.size)⟩
            case measure => simp [intOf]; omega
          · have HV : Hid _ := tuplesOf_any A _ wr (HJ.out.below HB.out)
            go_wp2_with (go_at_call 41; refine Calls.mono HV.out ?_; rintro e w1 ⟨⟨it, rfl, hit⟩, hb1⟩; have HIT : Hid (ItAx w1 it A) := hit; have HB2 : Hid (Below w.heap.size w w1) := HB.out.trans (hb1.mono HB.out.size); clear hb1 hit)
            go_ret3
            refine ⟨HB2.out, ?_⟩
            rw [if_pos HAE2.out]
            exact ⟨it, by rw [HZ.out]; rfl, HIT.out⟩
      · by_cases hbig : Z ≤ 4096
        · have hzn : (Z == 0) = false := by simp [hz0]
          rw [HPM.out, if_pos hbig] at HPR
          have HEND : Hid ((D.zip A).all f = true → axE D A = 0) := fun h => by rw [HAE.out, if_neg (fun e => by rw [h] at e; cases e.2), if_pos hbig]
          clear HPM
          go_wp2_with (go_at_call 24; refine Calls.mono HPR.out ?_; rintro e w1 ⟨rfl, hb1⟩; have HB1 : Hid (Below w.heap.size w w1) := HB.out.trans (hb1.mono HB.out.size); clear hb1)
          go_loopw [41] (fun x wr => ∃ j : Nat, j ≤ i ∧ x = .int .i64 (j : Int) ∧ Hid (((D.zip A).take j).all f = true) ∧ Hid (Below w.heap.size w wr)) (fun x _ => i - (intOf x).toNat)
          case atStart => exact ⟨0, Nat.zero_le _, rfl, rfl, HB1.out⟩
          case round =>
            clear HB
            obtain ⟨j, hjn, rfl, HFJ, HB⟩ := hrel
            by_cases hlt2 : j < i
            · obtain ⟨g, o, a, rfl, hma, hok, c0, c1, c2, c3⟩ := (HJ.out.below HB.out).at hlt2
              obtain ⟨gd, od, dm, rfl, hmd, hokd, cd⟩ := (HI.out.below HB.out).at hlt2
              have hili : (j : Int) < (i : Int) := by omega
              have hps := HPOS.out hz0 a (List.mem_of_getElem? hma)
              have hdm := HDB.out dm (List.mem_of_getElem? hmd)
              have hzp : (D.zip A)[j]? = some (dm, a) := by rw [List.getElem?_zip_eq_some]; exact ⟨hmd, hma⟩
              have HZP : Hid _ := hzp
              obtain ⟨b, hb⟩ : ∃ b, f (dm, a) = b := ⟨_, rfl⟩
              have HFB : Hid _ := hb
              have HFC : Hid (∀ w2 : World, Calls Try.prog 40 #[.agg #[.int .i64 a.st, .int .i64 a.sd, .int .i64 a.ct, .int .i64 a.bl], .int .i64 dm] w2 fun e w' => e = .returned (.bool b) ∧ Below w2.heap.size w2 w') := fun w2 => by
                have := fits_any a dm w2 hok hdm.1 hdm.2 hps.2 hps.1
                rw [show fitB dm a = b by rw [← hb]; exact congrFun HF.out (dm, a)] at this
                exact this
              have hbk := World.block_lt_of_cell? wr _ cd
              have hbk2 : gd ≠ wr.heap.size := by simp only [] at hbk; omega
              clear hma hok hmd hokd hb hzp
              obtain ⟨W2, HW2⟩ : ∃ W2, wr.alloc (.cells #[.int .i64 a.st, .int .i64 a.sd, .int .i64 a.ct, .int .i64 a.bl] 71) = W2 := ⟨_, rfl⟩
              have HB2 : Hid (Below w.heap.size w W2) := by rw [← HW2]; exact HB.out.alloc HB.out.size _
              have hx0 : W2.cell? ⟨wr.heap.size, 0, none⟩ = some (.int .i64 a.st) := by rw [← HW2]; exact cell_of_row _ wr.heap.size 0 _ _ _ (heap_alloc_new wr _)
              have hx1 : W2.cell? ⟨wr.heap.size, 1, none⟩ = some (.int .i64 a.sd) := by rw [← HW2]; exact cell_of_row _ wr.heap.size 1 _ _ _ (heap_alloc_new wr _)
              have hx2 : W2.cell? ⟨wr.heap.size, 2, none⟩ = some (.int .i64 a.ct) := by rw [← HW2]; exact cell_of_row _ wr.heap.size 2 _ _ _ (heap_alloc_new wr _)
              have hx3 : W2.cell? ⟨wr.heap.size, 3, none⟩ = some (.int .i64 a.bl) := by rw [← HW2]; exact cell_of_row _ wr.heap.size 3 _ _ _ (heap_alloc_new wr _)
              have hx4 : W2.cell? ⟨gd, od + j, none⟩ = some (.int .i64 dm) := by rw [← HW2]; exact (((Below.refl _ wr).alloc (Nat.le_refl _) _).cell hbk).trans cd
              clear HB1
              go_upto_region 12 with fail
              clear c0 c1 c2 c3 cd
              refine wp_region_quiet_tail (C := fun w' => ∃ n, w' = W2.drewN n) 8 (by kernel_rfl) (by kernel_rfl) ⟨1, rfl⟩ ?_
              simp only [List.take_succ_cons, List.take_zero, List.drop_succ_cons, List.drop_zero]
              repeat (go_big_quiet_step (fail))
              refine wpQuiet_nil ?_
              intro w4 hw4
              obtain ⟨n2, hw4⟩ := hw4
              have hb4 : Below w.heap.size w w4 := by rw [hw4]; exact below_drewN HB2.out n2
              have HB4 : Hid _ := hb4
              clear hb4 hw4 HW2 HB2 hx0 hx1 hx2 hx3 hx4
              cases b with
              | true =>
                go_wp2_with (go_at_call 40; refine (HFC.out _).mono ?_; rintro e w1 ⟨rfl, hb1⟩; have HB3 : Hid (Below w.heap.size w w1) := HB4.out.trans (hb1.mono HB4.out.size); clear hb1)
                go_roundw
                case rel => exact ⟨j + 1, by omega, by simp, by rw [Hid, List.take_add_one, HZP.out, List.all_append, HFJ.out]; simp [HFB.out], HB3.out⟩
                case measure => simp [intOf]; omega
              | false =>
                have HE17 : Hid (axE D A = 17) := by
                  rw [Hid, HAE.out, if_pos]
                  refine ⟨hz0, ?_⟩
                  rw [List.all_eq_false]
                  exact ⟨(dm, a), List.mem_of_getElem? HZP.out, by rw [HFB.out]; simp⟩
                go_wp2_with (go_at_call 40; refine (HFC.out _).mono ?_; rintro e w1 ⟨rfl, hb1⟩; have HB3 : Hid (Below w.heap.size w w1) := HB4.out.trans (hb1.mono HB4.out.size); clear hb1)
                go_ret3
                refine ⟨HB3.out, ?_⟩
                rw [HE17.out, if_neg (by omega)]
                rfl
            · have HFJ2 : Hid ((D.zip A).all f = true) := by rw [Hid, ← HFJ.out, List.take_of_length_le (by rw [List.length_zip, HN.out, HM.out]; omega)]
              have HEE : Hid _ := HEND.out HFJ2.out
              clear HEND HFJ2 HFJ
              have HV : Hid _ := tuplesOf_any A _ wr (HJ.out.below HB.out)
              go_wp2_with (go_at_call 41; refine Calls.mono HV.out ?_; rintro e w1 ⟨⟨it, rfl, hit⟩, hb1⟩; have HIT : Hid (ItAx w1 it A) := hit; have HB2 : Hid (Below w.heap.size w w1) := HB.out.trans (hb1.mono HB.out.size); clear hb1 hit)
              go_ret3
              refine ⟨HB2.out, ?_⟩
              rw [if_pos HEE.out]
              exact ⟨it, by rw [HZ.out]; rfl, HIT.out⟩
        · rw [HPM.out, if_neg hbig] at HPR
          have HEND : Hid ((D.zip A).all f = true → axE D A = 18) := fun h => by rw [HAE.out, if_neg (fun e => by rw [h] at e; cases e.2), if_neg hbig]
          clear HPM
          go_wp2_with (go_at_call 24; refine Calls.mono HPR.out ?_; rintro e w1 ⟨rfl, hb1⟩; have HB1 : Hid (Below w.heap.size w w1) := HB.out.trans (hb1.mono HB.out.size); clear hb1)
          go_loopw [41] (fun x wr => ∃ j : Nat, j ≤ i ∧ x = .int .i64 (j : Int) ∧ Hid (((D.zip A).take j).all f = true) ∧ Hid (Below w.heap.size w wr)) (fun x _ => i - (intOf x).toNat)
          case atStart => exact ⟨0, Nat.zero_le _, rfl, rfl, HB1.out⟩
          case round =>
            clear HB
            obtain ⟨j, hjn, rfl, HFJ, HB⟩ := hrel
            by_cases hlt2 : j < i
            · obtain ⟨g, o, a, rfl, hma, hok, c0, c1, c2, c3⟩ := (HJ.out.below HB.out).at hlt2
              obtain ⟨gd, od, dm, rfl, hmd, hokd, cd⟩ := (HI.out.below HB.out).at hlt2
              have hili : (j : Int) < (i : Int) := by omega
              have hps := HPOS.out hz0 a (List.mem_of_getElem? hma)
              have hdm := HDB.out dm (List.mem_of_getElem? hmd)
              have hzp : (D.zip A)[j]? = some (dm, a) := by rw [List.getElem?_zip_eq_some]; exact ⟨hmd, hma⟩
              have HZP : Hid _ := hzp
              obtain ⟨b, hb⟩ : ∃ b, f (dm, a) = b := ⟨_, rfl⟩
              have HFB : Hid _ := hb
              have HFC : Hid (∀ w2 : World, Calls Try.prog 40 #[.agg #[.int .i64 a.st, .int .i64 a.sd, .int .i64 a.ct, .int .i64 a.bl], .int .i64 dm] w2 fun e w' => e = .returned (.bool b) ∧ Below w2.heap.size w2 w') := fun w2 => by
                have := fits_any a dm w2 hok hdm.1 hdm.2 hps.2 hps.1
                rw [show fitB dm a = b by rw [← hb]; exact congrFun HF.out (dm, a)] at this
                exact this
              have hbk := World.block_lt_of_cell? wr _ cd
              have hbk2 : gd ≠ wr.heap.size := by simp only [] at hbk; omega
              clear hma hok hmd hokd hb hzp
              obtain ⟨W2, HW2⟩ : ∃ W2, wr.alloc (.cells #[.int .i64 a.st, .int .i64 a.sd, .int .i64 a.ct, .int .i64 a.bl] 71) = W2 := ⟨_, rfl⟩
              have HB2 : Hid (Below w.heap.size w W2) := by rw [← HW2]; exact HB.out.alloc HB.out.size _
              have hx0 : W2.cell? ⟨wr.heap.size, 0, none⟩ = some (.int .i64 a.st) := by rw [← HW2]; exact cell_of_row _ wr.heap.size 0 _ _ _ (heap_alloc_new wr _)
              have hx1 : W2.cell? ⟨wr.heap.size, 1, none⟩ = some (.int .i64 a.sd) := by rw [← HW2]; exact cell_of_row _ wr.heap.size 1 _ _ _ (heap_alloc_new wr _)
              have hx2 : W2.cell? ⟨wr.heap.size, 2, none⟩ = some (.int .i64 a.ct) := by rw [← HW2]; exact cell_of_row _ wr.heap.size 2 _ _ _ (heap_alloc_new wr _)
              have hx3 : W2.cell? ⟨wr.heap.size, 3, none⟩ = some (.int .i64 a.bl) := by rw [← HW2]; exact cell_of_row _ wr.heap.size 3 _ _ _ (heap_alloc_new wr _)
              have hx4 : W2.cell? ⟨gd, od + j, none⟩ = some (.int .i64 dm) := by rw [← HW2]; exact (((Below.refl _ wr).alloc (Nat.le_refl _) _).cell hbk).trans cd
              clear HB1
              go_upto_region 12 with fail
              clear c0 c1 c2 c3 cd
              refine wp_region_quiet_tail (C := fun w' => ∃ n, w' = W2.drewN n) 8 (by kernel_rfl) (by kernel_rfl) ⟨1, rfl⟩ ?_
              simp only [List.take_succ_cons, List.take_zero, List.drop_succ_cons, List.drop_zero]
              repeat (go_big_quiet_step (fail))
              refine wpQuiet_nil ?_
              intro w4 hw4
              obtain ⟨n2, hw4⟩ := hw4
              have hb4 : Below w.heap.size w w4 := by rw [hw4]; exact below_drewN HB2.out n2
              have HB4 : Hid _ := hb4
              clear hb4 hw4 HW2 HB2 hx0 hx1 hx2 hx3 hx4
              cases b with
              | true =>
                go_wp2_with (go_at_call 40; refine (HFC.out _).mono ?_; rintro e w1 ⟨rfl, hb1⟩; have HB3 : Hid (Below w.heap.size w w1) := HB4.out.trans (hb1.mono HB4.out.size); clear hb1)
                go_roundw
                case rel => exact ⟨j + 1, by omega, by simp, by rw [Hid, List.take_add_one, HZP.out, List.all_append, HFJ.out]; simp [HFB.out], HB3.out⟩
                case measure => simp [intOf]; omega
              | false =>
                have HE17 : Hid (axE D A = 17) := by
                  rw [Hid, HAE.out, if_pos]
                  refine ⟨hz0, ?_⟩
                  rw [List.all_eq_false]
                  exact ⟨(dm, a), List.mem_of_getElem? HZP.out, by rw [HFB.out]; simp⟩
                go_wp2_with (go_at_call 40; refine (HFC.out _).mono ?_; rintro e w1 ⟨rfl, hb1⟩; have HB3 : Hid (Below w.heap.size w w1) := HB4.out.trans (hb1.mono HB4.out.size); clear hb1)
                go_ret3
                refine ⟨HB3.out, ?_⟩
                rw [HE17.out, if_neg (by omega)]
                rfl
            · have HFJ2 : Hid ((D.zip A).all f = true) := by rw [Hid, ← HFJ.out, List.take_of_length_le (by rw [List.length_zip, HN.out, HM.out]; omega)]
              have HEE : Hid _ := HEND.out HFJ2.out
              clear HEND HFJ2 HFJ
              go_wp2_with fail
              go_ret3
              refine ⟨HB.out, ?_⟩
              rw [HEE.out, if_neg (by omega)]
              rfl
end Go.Proofs.Ytnikbcljonbpcaa
