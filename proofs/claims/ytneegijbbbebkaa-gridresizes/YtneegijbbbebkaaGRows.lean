/-
  rows: each row along the last dimension of a box. Conditions: what is done with each row has a contract.
-/
import Derived.Test.YtneegijbbbebkaaGWalk
import Derived.Laws.EntriesVeiled
namespace Go.Proofs.Ytneegijbbbebkaa
open Go.RowKit Go.Shelf
set_option linter.unusedVariables false
set_option maxRecDepth 100000

/-- An object of one cell. -/
def OC (w : World) (g : Nat) (v : Value) (T : TypeId) : Prop := w.heap[g]? = some (.cells #[v] T (0, 0))
theorem OC.cell {w : World} {g : Nat} {v : Value} {T : TypeId} (h : OC w g v T) : w.cell? ⟨g, 0, none⟩ = some v := cell_of_row w g 0 _ _ _ h
theorem OC.free {w : World} {g : Nat} {v : Value} {T : TypeId} (h : OC w g v T) : w.frozen? ⟨g, 0, none⟩ = false := by
  have : w.heap[g]? = _ := h
  simp [World.frozen?, this]
theorem OC.lt {w : World} {g : Nat} {v : Value} {T : TypeId} (h : OC w g v T) : g < w.heap.size := (Array.getElem?_eq_some_iff.1 h).1
theorem OC.below {w w' : World} {g : Nat} {v : Value} {T : TypeId} (h : OC w g v T) (hb : Below w.heap.size w w') : OC w' g v T := (hb.block g h.lt).trans h
theorem OC.kp {w w' : World} {g : Nat} {v : Value} {T : TypeId} {F : Nat → Prop} (h : OC w g v T) (hk : Kp F w w') (hF : ¬ F g) : OC w' g v T := (hk.block g h.lt hF).trans h
theorem oc_new (w : World) (v : Value) (T : TypeId) : ∃ w', w.alloc (.cells #[v] T) = w' ∧ OC w' w.heap.size v T ∧ Below w.heap.size w w' ∧ w.heap.size < w'.heap.size :=
  ⟨_, rfl, heap_alloc_new w _, (Below.refl _ _).alloc (Nat.le_refl _) _, by rw [World.size_alloc]; omega⟩
theorem oc_set {w : World} {g : Nat} {u : Value} {T : TypeId} (h : OC w g u T) (v : Value) : ∃ w', w.setCell ⟨g, 0, none⟩ v = w' ∧ OC w' g v T ∧ Kp (fun x => x = g) w w' ∧ w'.heap.size = w.heap.size :=
  ⟨_, rfl, by unfold OC; rw [heap_setCell_same w g 0 _ _ _ h]; rfl, (Kp.refl _ w).setCell v (fun _ => rfl), by simp [World.setCell]⟩
theorem bel_kp {w a b : World} {g : Nat} (h : Below w.heap.size w a) (k : Kp (fun x => x = g) a b) (hg : w.heap.size ≤ g) : Below w.heap.size w b :=
  h.trans (k.below h.size (fun x e => by rw [e]; exact hg))
theorem rows_env {w w1 w2 w3 w4 w5 w6 w7 w8 w9 w10 w11 w12 w13 : World} {xv rv z0 z1 lv nv t0 tv cl : Value} {Z : Array Value} {T1 T2 Ti Tf : TypeId}
    (HB2 : Below w.heap.size w w2) (HB3 : Below w2.heap.size w2 w3) (HO1 : OC w2 w.heap.size xv T1) (HO2 : OC w2 w1.heap.size rv T2) (HZ1 : w.heap.size < w1.heap.size ∧ w1.heap.size < w2.heap.size)
    (o4 : OC w4 w3.heap.size z0 Ti) (b4 : Below w3.heap.size w3 w4) (s4 : w3.heap.size < w4.heap.size) (o5 : OC w5 w4.heap.size z1 Ti) (b5 : Below w4.heap.size w4 w5) (s5 : w4.heap.size < w5.heap.size)
    (o6 : OC w6 w3.heap.size lv Ti) (k6 : Kp (fun x => x = w3.heap.size) w5 w6) (s6 : w6.heap.size = w5.heap.size) (k7 : Kp (fun x => x = w4.heap.size) w6 w7) (s7 : w7.heap.size = w6.heap.size)
    (o8 : OC w8 w4.heap.size nv Ti) (k8 : Kp (fun x => x = w4.heap.size) w7 w8) (s8 : w8.heap.size = w7.heap.size)
    (b9 : Below w8.heap.size w8 w9) (s9 : w9.heap.size = w8.heap.size + 1) (g9 : w9.heap[w8.heap.size]? = some (.cells Z Ti (0, 0))) (o10 : OC w10 w9.heap.size t0 T1) (b10 : Below w9.heap.size w9 w10) (s10 : w9.heap.size < w10.heap.size)
    (o11 : OC w11 w9.heap.size tv T1) (k11 : Kp (fun x => x = w9.heap.size) w10 w11) (s11 : w11.heap.size = w10.heap.size) (b12 : Below w11.heap.size w11 w12) (s12 : w11.heap.size < w12.heap.size) (o13 : OC w13 w11.heap.size cl Tf) (k13 : Kp (fun x => x = w11.heap.size) w12 w13) (s13 : w13.heap.size = w12.heap.size) :
    Below w.heap.size w w13 ∧ OC w13 w3.heap.size lv Ti ∧ OC w13 w1.heap.size rv T2 ∧ OC w13 w9.heap.size tv T1 ∧ OC w13 w4.heap.size nv Ti ∧ OC w13 w.heap.size xv T1 ∧ w13.heap[w8.heap.size]? = some (.cells Z Ti (0, 0)) ∧
      w.heap.size ≤ w3.heap.size ∧ w3.heap.size < w4.heap.size ∧ w4.heap.size < w8.heap.size ∧ w8.heap.size < w9.heap.size ∧ w9.heap.size < w11.heap.size ∧ w1.heap.size < w3.heap.size := by
  have s2 := HB2.size
  have s3 := HB3.size
  have hk : ∀ {g : Nat} {v : Value} {T : TypeId}, OC w8 g v T → g < w8.heap.size → OC w13 g v T := fun {g v T} h hg => by
    have h9 := h.below b9
    have h10 := h9.below b10
    have h11 := h10.kp k11 (by omega)
    have h12 := h11.below b12
    exact h12.kp k13 (by omega)
  have h58 : ∀ {g : Nat} {v : Value} {T : TypeId}, OC w5 g v T → g < w3.heap.size → OC w8 g v T := fun {g v T} h hg => ((h.kp k6 (by omega)).kp k7 (by omega)).kp k8 (by omega)
  have h35 : ∀ {g : Nat} {v : Value} {T : TypeId}, OC w3 g v T → OC w5 g v T := fun {g v T} h => (h.below b4).below b5
  refine ⟨?_, hk ((o6.kp k7 (by omega)).kp k8 (by omega)) (by omega), hk (h58 (h35 (HO2.below HB3)) (by omega)) (by omega), (o11.below b12).kp k13 (by omega), hk o8 (by omega), hk (h58 (h35 (HO1.below HB3)) (by omega)) (by omega), ?_, by omega, by omega, by omega, by omega, by omega, by omega⟩
  · have h3 : Below w.heap.size w w3 := HB2.trans (HB3.mono HB2.size)
    have h4 : Below w.heap.size w w4 := h3.trans (b4.mono h3.size)
    have h5 : Below w.heap.size w w5 := h4.trans (b5.mono h4.size)
    have h8 := bel_kp (bel_kp (bel_kp h5 k6 (by omega)) k7 (by omega)) k8 (by omega)
    have h9 := h8.trans (b9.mono h8.size)
    have h10 := h9.trans (b10.mono h9.size)
    have h11 := bel_kp h10 k11 (by omega)
    have h12 := h11.trans (b12.mono h11.size)
    exact bel_kp h12 k13 (by omega)
  · exact (k13.block _ (by omega) (by omega)).trans ((b12.block _ (by omega)).trans ((k11.block _ (by omega) (by omega)).trans ((b10.block _ (by omega)).trans g9)))
/-- How long a box's rows are, and its other numbers. -/
def lenX (X : List Int) : Nat := match X.getLast? with | some x => x.toNat | none => 1
def bsX (X : List Int) : List Nat := X.dropLast.map Int.toNat
def boxF (f : List Int → List Int → List Int) (X s : List Int) : List Int := if (0 : Int) ∈ X then s else walkF f (bsX X) [] s
def RsP (w : World) (g : Nat) (R : List Int) (e : Ending) (w' : World) : Prop := e = .returned (.tuple #[]) ∧ Dst w' g R ∧ Kp (fun y => y = g) w w'
theorem kp_shrink {w Wb w' : World} {g gt : Nat} (h1 : Below w.heap.size w Wb) (h2 : Kp (fun y => y = g ∨ y = gt) Wb w') (hgt : w.heap.size ≤ gt) : Kp (fun y => y = g) w w' :=
  ⟨h2.os.trans h1.os, h2.tape.trans h1.tape, h2.output.trans h1.output, Nat.le_trans h1.size h2.size, fun x hx hne => (h2.block x (Nat.lt_of_lt_of_le hx h1.size) (fun e => by rcases e with e | e; exact hne e; omega)).trans (h1.block x hx)⟩
set_option maxHeartbeats 16000000 in
theorem rows_any (f : List Int → List Int → List Int) (X s : List Int) (r sl g bz bt bf : Nat) (xv : Value) (w : World)
    (hf : (0 : Int) ∉ X → ∀ p s, s.length = sl → p.length + 1 = r ∨ (p = [] ∧ r = 0) → InB X p → (f p s).length = sl)
    (hI : ∀ w', Kp (fun y => y = g) w w' → Is w' xv X) (hX : X.length = r) (hr4 : r ≤ 4) (hX0 : ∀ x ∈ X, 0 ≤ x) (hD : Dst w g s) (hs : s.length = sl)
    (hrow : ∀ w' gt p T s, Kp (fun y => y = g) w w' → w.heap.size ≤ gt → RI w' gt T → Tp r p.length p T → p.length + 1 = r ∨ (p = [] ∧ r = 0) → InB X p → (0 : Int) ∉ X → Dst w' g s → s.length = sl → Calls Try.prog 54 #[.slice (some ⟨gt, 0, none⟩) r r, .int .i64 (lenX X : Int), .pointer (some ⟨bz, 0, none⟩), .pointer (some ⟨bt, 0, none⟩), .pointer (some ⟨bf, 0, none⟩)] w' fun e w'' => e = .returned (.tuple #[]) ∧ Dst w'' g (f p s) ∧ Kp (fun y => y = g) w' w'') :
    Calls Try.prog 53 #[xv, .func (.func 54) #[] #[.pointer (some ⟨bz, 0, none⟩), .pointer (some ⟨bt, 0, none⟩), .pointer (some ⟨bf, 0, none⟩)]] w (RsP w g (boxF f X s)) := by
  have HII : Hid _ := hI
  have HI : Hid (Is w xv X) := hI w (Kp.refl _ _)
  have HD : Hid (Dst w g s) := hD
  have HROW : Hid _ := hrow
  have HF : Hid _ := hf
  have HX0 : Hid _ := hX0
  have HX : Hid (X.length = r) := hX
  have HSL : Hid (s.length = sl) := hs
  obtain ⟨xa, m, xc, rfl, e1, k1, _⟩ := (hI w (Kp.refl _ _)).open
  obtain rfl : r = m := by omega
  have eh : ∀ args w, (callFunc 61 args).run Try.prog w = .ok (.enter 61 args) w := enters_of Try.func61 (by kernel_rfl) rfl
  obtain ⟨w1, hw1, o1, b1, z1⟩ := oc_new w (.slice xa r xc) 22
  obtain ⟨w2, hw2, o2, b2, z2⟩ := oc_new w1 (.func (.func 54) #[] #[.pointer (some ⟨bz, 0, none⟩), .pointer (some ⟨bt, 0, none⟩), .pointer (some ⟨bf, 0, none⟩)]) 80
  have HB2 : Hid (Below w.heap.size w w2) := b1.trans (b2.mono b1.size)
  have HO1 : Hid (OC w2 w.heap.size (.slice xa r xc) 22) := o1.below b2
  have HO2 : Hid (OC w2 w1.heap.size (.func (.func 54) #[] #[.pointer (some ⟨bz, 0, none⟩), .pointer (some ⟨bt, 0, none⟩), .pointer (some ⟨bf, 0, none⟩)]) 80) := o2
  have HZ1 : Hid (w.heap.size < w1.heap.size ∧ w1.heap.size < w2.heap.size) := ⟨z1, z2⟩
  have HCO : Hid (Calls Try.prog 60 #[.slice xa r xc, .int .i64 0] w2 fun e w' => e = .returned (.bool (decide ((0 : Int) ∈ X))) ∧ Below w2.heap.size w2 w') := contains_any X _ w2 (HI.out.below HB2.out)
  have q1 := HO1.out.cell
  clear hI hD hrow hf hX0 hX hs e1 o1 b1 z1 o2 b2 z2
  by_cases h0 : (0 : Int) ∈ X
  · have HV : Hid (boxF f X s = s) := by rw [Hid, boxF, if_pos h0]
    rw [decide_eq_true h0] at HCO
    rw [HV.out]
    clear h0
    go_enter Try.func53, Try.ntmps53
    go_wp2_with (go_at_call 60; refine Calls.mono HCO.out ?_; rintro e w3 ⟨rfl, hb3⟩; have HB3 : Hid (Below w.heap.size w w3) := HB2.out.trans (hb3.mono HB2.out.size); clear hb3)
    go_end0
    exact ⟨rfl, HD.out.below HB3.out, Kp.of HB3.out⟩
  · have HV : Hid (boxF f X s = walkF f (bsX X) [] s) := by rw [Hid, boxF, if_neg h0]
    have HN0 : Hid ((0 : Int) ∉ X) := h0
    rw [decide_eq_false h0] at HCO
    rw [HV.out]
    clear h0
    obtain ⟨Z, hZ, hmk⟩ := make_rule r hr4
    have HZ : Hid _ := hZ
    obtain ⟨R, HR⟩ : ∃ R, Hid (walkF f (bsX X) [] s = R) := ⟨_, rfl⟩
    rw [HR.out]
    clear hZ
    -- everything up to the call of the closure, from the world behind Contains on
    have HWK : Hid (∀ (Wb : World) (bl btu ble bw gt : Nat), Below w.heap.size w Wb → w.heap.size ≤ gt → w.heap.size ≤ bl → w.heap.size ≤ btu → w.heap.size ≤ ble → w.heap.size ≤ bw → bl ≠ gt → btu ≠ gt → ble ≠ gt → bw ≠ gt → w.heap.size ≠ gt → w1.heap.size ≠ gt →
        OC Wb bl (.int .i64 ((r : Int) - 1)) 3 → OC Wb w1.heap.size (.func (.func 54) #[] #[.pointer (some ⟨bz, 0, none⟩), .pointer (some ⟨bt, 0, none⟩), .pointer (some ⟨bf, 0, none⟩)]) 80 → OC Wb btu (.slice (some ⟨gt, 0, none⟩) r r) 22 → OC Wb ble (.int .i64 (lenX X : Int)) 3 → OC Wb w.heap.size (.slice xa r xc) 22 →
        OC Wb bw (.func (.func 61) #[] #[.pointer (some ⟨bl, 0, none⟩), .pointer (some ⟨w1.heap.size, 0, none⟩), .pointer (some ⟨btu, 0, none⟩), .pointer (some ⟨ble, 0, none⟩), .pointer (some ⟨w.heap.size, 0, none⟩), .pointer (some ⟨bw, 0, none⟩)]) 90 → RI Wb gt (List.replicate r 0) →
        Calls Try.prog 61 #[.int .i64 0, .pointer (some ⟨bl, 0, none⟩), .pointer (some ⟨w1.heap.size, 0, none⟩), .pointer (some ⟨btu, 0, none⟩), .pointer (some ⟨ble, 0, none⟩), .pointer (some ⟨w.heap.size, 0, none⟩), .pointer (some ⟨bw, 0, none⟩)] Wb (RsP w g R)) := by
      intro Wb bl btu ble bw gt hb hgt l1 l2 l3 l4 n1 n2 n3 n4 n5 n6 c1 c2 c3 c4 c5 c6 hT
      have hgl := HD.out.lt
      have ng : ∀ y, w.heap.size ≤ y → y ≠ g := fun y hy e => by omega
      have hz1 := HZ1.out
      have key := walk_any f X r (lenX X) sl g gt bl w1.heap.size btu ble w.heap.size bw bz bt bf xa xc Wb (HF.out HN0.out) HX.out hr4 (fun e => ng gt hgt e.symm)
        (fun w' hk => ⟨(c1.kp hk (by rintro (e | e); exact ng bl l1 e; exact n1 e)).cell, (c2.kp hk (by rintro (e | e); exact ng _ (by omega) e; exact n6 e)).cell, (c3.kp hk (by rintro (e | e); exact ng btu l2 e; exact n2 e)).cell, (c4.kp hk (by rintro (e | e); exact ng ble l3 e; exact n3 e)).cell, (c5.kp hk (by rintro (e | e); exact ng _ (Nat.le_refl _) e; exact n5 e)).cell, (c6.kp hk (by rintro (e | e); exact ng bw l4 e; exact n4 e)).cell, HII.out w' (kp_shrink hb hk hgt)⟩)
        (fun w' p T s' hk h1 h2 h3 h4 h5 h6 => HROW.out w' gt p T s' (kp_shrink hb hk hgt) hgt h1 h2 h3 h4 HN0.out h5 h6)
        (bsX X) 0 [] (List.replicate r 0) s Wb rfl ?_ ?_ (fun i x y hx => by simp at hx) (Kp.refl _ _) hT (tp_zero r) (HD.out.below hb) HSL.out
      · rw [HR.out] at key
        refine Calls.mono key ?_
        rintro e w' ⟨rfl, _, h2, h3⟩
        exact ⟨rfl, h2, kp_shrink hb h3 hgt⟩
      · rcases Nat.eq_zero_or_pos r with h0 | h0
        · right
          have hx : X = [] := List.eq_nil_of_length_eq_zero (by rw [HX.out]; exact h0)
          exact ⟨rfl, by rw [hx]; rfl, h0⟩
        · left
          rw [bsX, List.length_map, List.length_dropLast, HX.out]; omega
      · intro i b hb9
        rw [bsX, List.getElem?_map, Option.map_eq_some_iff] at hb9
        obtain ⟨x, hx, rfl⟩ := hb9
        rw [List.getElem?_dropLast] at hx
        split at hx
        · rw [Nat.zero_add, hx]
          have := HX0.out x (List.mem_of_getElem? hx)
          congr 1
          omega
        · cases hx
    clear HV
    rcases Nat.eq_zero_or_pos r with h0 | h0
    · subst h0
      have HXN : Hid (X = []) := List.eq_nil_of_length_eq_zero HX.out
      have HLX0 : Hid ((lenX X : Int) = 1) := by rw [Hid, HXN.out]; rfl
      have hmk' : ∀ w : World, (Instr.makeSlice 22 (.int .i64 0) (.int .i64 0)).run Try.prog w = .ok (.slice (some ⟨w.heap.size, 0, none⟩) 0 0) (w.alloc (.cells Z 3)) := hmk
      clear hmk
      go_enter Try.func53, Try.ntmps53
      go_wp2_with fail
      refine Calls.mono HCO.out ?_
      rintro e w3 ⟨rfl, hb3⟩
      obtain ⟨w4, hw4, o4, b4, z4⟩ := oc_new w3 (.int .i64 0) 3
      obtain ⟨w5, hw5, o5, b5, z5⟩ := oc_new w4 (.int .i64 0) 3
      obtain ⟨w6, hw6, o6, k6, z6⟩ := oc_set (o4.below b5) (.int .i64 (-1))
      obtain ⟨w7, hw7, o7, k7, z7⟩ := oc_set (o5.kp k6 (by omega)) (.int .i64 1)
      obtain ⟨w9, hw9, b9, z9, g9⟩ := alloc_facts w7 (.cells Z 3)
      obtain ⟨w10, hw10, o10, b10, z10⟩ := oc_new w9 (.slice none 0 0) 22
      obtain ⟨w11, hw11, o11, k11, z11⟩ := oc_set o10 (.slice (some ⟨w7.heap.size, 0, none⟩) 0 0)
      obtain ⟨w12, hw12, o12, b12, z12⟩ := oc_new w11 .nilFunc 90
      obtain ⟨w13, hw13, o13, k13, z13⟩ := oc_set o12 (.func (.func 61) #[] #[.pointer (some ⟨w3.heap.size, 0, none⟩), .pointer (some ⟨w1.heap.size, 0, none⟩), .pointer (some ⟨w9.heap.size, 0, none⟩), .pointer (some ⟨w4.heap.size, 0, none⟩), .pointer (some ⟨w.heap.size, 0, none⟩), .pointer (some ⟨w11.heap.size, 0, none⟩)])
      obtain ⟨e1, e2, e3, e4, e5, e6, e7, y1, y2, y3, y4, y5, y6⟩ := rows_env HB2.out hb3 HO1.out HO2.out HZ1.out o4 b4 z4 o5 b5 z5 o6 k6 z6 k7 z7 o7 (Kp.refl _ _) rfl b9 z9 g9 o10 b10 z10 o11 k11 z11 b12 z12 o13 k13 z13
      have HCALL : Hid _ := HWK.out w13 w3.heap.size w9.heap.size w4.heap.size w11.heap.size w7.heap.size e1 (by omega) y1 (by omega) (by omega) (by omega) (by omega) (by omega) (by omega) (by omega) (by have := HZ1.out; omega) (by omega) (by simpa using e2) e3 e4 (by rw [HLX0.out]; exact e5) e6 o13 (by rw [RI, ← HZ.out]; exact e7)
      have p3 := (HO1.out.below hb3).cell
      have p4 := (o4.below b5).cell
      have p4' := (o4.below b5).free
      have p5 := (o5.kp k6 (by omega)).cell
      have p5' := (o5.kp k6 (by omega)).free
      have p6 := (o6.kp k7 (by omega)).cell
      have y7 : w.heap.size < w3.heap.size := by have := HB2.out.size; have := hb3.size; have := HZ1.out; omega
      have OX7 := ((((HO1.out.below hb3).below b4).below b5).kp k6 (by omega)).kp k7 (by omega)
      have p7 := OX7.cell
      clear OX7 y7
      have p10 := o10.cell
      have p10' := o10.free
      have p12 := o12.cell
      have p12' := o12.free
      have p13 := o13.cell
      clear hb3 o4 b4 z4 o5 b5 z5 o6 k6 z6 o7 k7 z7 b9 z9 g9 o10 b10 z10 o11 k11 z11 o12 b12 z12 o13 k13 z13 e1 e2 e3 e4 e5 e6 e7 y1 y2 y3 y4 y5 y6
      clear HWK HCO
      go_wp2_with fail
      refine Calls.mono HCALL.out ?_
      rintro e w14 ⟨rfl, hd14, hk14⟩
      have HEND : Hid (Dst w14 g R ∧ Kp (fun y => y = g) w w14) := ⟨hd14, hk14⟩
      clear hd14 hk14
      go_wp2_with fail
      go_end0
      exact ⟨rfl, HEND.out.1, HEND.out.2⟩
    · obtain ⟨L, rfl⟩ : ∃ L, r = L + 1 := ⟨r - 1, by omega⟩
      have HLX : Hid (∀ x, X[L]? = some x → x = (lenX X : Int)) := fun x hx => by
        have h1 : X.getLast? = some x := by rw [List.getLast?_eq_getElem?, HX.out]; exact hx
        have h2 := HX0.out x (List.mem_of_getElem? hx)
        rw [lenX, h1]
        simp only []
        omega
      have hL1 : ((L : Int) + 1) - 1 = (L : Int) := by omega
      have hmk' : ∀ w : World, (Instr.makeSlice 22 (.int .i64 ((L : Int) + 1)) (.int .i64 ((L : Int) + 1))).run Try.prog w = .ok (.slice (some ⟨w.heap.size, 0, none⟩) (L + 1) (L + 1)) (w.alloc (.cells Z 3)) := hmk
      clear hmk
      have hLi : (L : Int) < (L : Int) + 1 := by omega
      have hL0 : (0 : Int) ≤ (L : Int) := by omega
      go_enter Try.func53, Try.ntmps53
      go_wp2_with fail
      refine Calls.mono HCO.out ?_
      rintro e w3 ⟨rfl, hb3⟩
      obtain ⟨w4, hw4, o4, b4, z4⟩ := oc_new w3 (.int .i64 0) 3
      obtain ⟨w5, hw5, o5, b5, z5⟩ := oc_new w4 (.int .i64 0) 3
      obtain ⟨w6, hw6, o6, k6, z6⟩ := oc_set (o4.below b5) (.int .i64 (L : Int))
      obtain ⟨w7, hw7, o7, k7, z7⟩ := oc_set (o5.kp k6 (by omega)) (.int .i64 1)
      obtain ⟨w8, hw8, o8, k8, z8⟩ := oc_set o7 (.int .i64 (lenX X : Int))
      obtain ⟨w9, hw9, b9, z9, g9⟩ := alloc_facts w8 (.cells Z 3)
      obtain ⟨w10, hw10, o10, b10, z10⟩ := oc_new w9 (.slice none 0 0) 22
      obtain ⟨w11, hw11, o11, k11, z11⟩ := oc_set o10 (.slice (some ⟨w8.heap.size, 0, none⟩) (L + 1) (L + 1))
      obtain ⟨w12, hw12, o12, b12, z12⟩ := oc_new w11 .nilFunc 90
      obtain ⟨w13, hw13, o13, k13, z13⟩ := oc_set o12 (.func (.func 61) #[] #[.pointer (some ⟨w3.heap.size, 0, none⟩), .pointer (some ⟨w1.heap.size, 0, none⟩), .pointer (some ⟨w9.heap.size, 0, none⟩), .pointer (some ⟨w4.heap.size, 0, none⟩), .pointer (some ⟨w.heap.size, 0, none⟩), .pointer (some ⟨w11.heap.size, 0, none⟩)])
      obtain ⟨e1, e2, e3, e4, e5, e6, e7, y1, y2, y3, y4, y5, y6⟩ := rows_env HB2.out hb3 HO1.out HO2.out HZ1.out o4 b4 z4 o5 b5 z5 o6 k6 z6 k7 z7 o8 k8 z8 b9 z9 g9 o10 b10 z10 o11 k11 z11 b12 z12 o13 k13 z13
      have HCALL : Hid _ := HWK.out w13 w3.heap.size w9.heap.size w4.heap.size w11.heap.size w8.heap.size e1 (by omega) y1 (by omega) (by omega) (by omega) (by omega) (by omega) (by omega) (by omega) (by have := HZ1.out; omega) (by omega) (by have h9 : (((L + 1 : Nat) : Int) - 1) = (L : Int) := (by omega); rw [h9]; exact e2) e3 e4 e5 e6 o13 (by rw [RI, ← HZ.out]; exact e7)
      have p3 := (HO1.out.below hb3).cell
      have p4 := (o4.below b5).cell
      have p4' := (o4.below b5).free
      have p5 := (o5.kp k6 (by omega)).cell
      have p5' := (o5.kp k6 (by omega)).free
      have p6 := (o6.kp k7 (by omega)).cell
      have y7 : w.heap.size < w3.heap.size := by have := HB2.out.size; have := hb3.size; have := HZ1.out; omega
      have OX7 := ((((HO1.out.below hb3).below b4).below b5).kp k6 (by omega)).kp k7 (by omega)
      have p7 := OX7.cell
      have p8 := (OX7.kp k8 (by omega)).cell
      have q8 := o7.cell
      have q8' := o7.free
      obtain ⟨gx, ox, xL, hxa, hxL, _, cx⟩ := (HII.out w7 (Kp.of (bel_kp (bel_kp ((HB2.out.trans (hb3.mono HB2.out.size)).trans ((b4.trans (b5.mono b4.size)).mono (HB2.out.trans (hb3.mono HB2.out.size)).size)) k6 (HB2.out.trans (hb3.mono HB2.out.size)).size) k7 (by omega)))).at (show L < L + 1 by omega)
      obtain rfl : xL = (lenX X : Int) := HLX.out xL hxL
      subst hxa
      clear hxL
      clear OX7 y7
      have p10 := o10.cell
      have p10' := o10.free
      have p12 := o12.cell
      have p12' := o12.free
      have p13 := o13.cell
      clear hb3 o4 b4 z4 o5 b5 z5 o6 k6 z6 o7 k7 z7 b9 z9 g9 o10 b10 z10 o11 k11 z11 o12 b12 z12 o13 k13 z13 e1 e2 e3 e4 e5 e6 e7 y1 y2 y3 y4 y5 y6 o8 k8 z8
      clear HWK HCO
      go_wp2_with fail
      refine Calls.mono HCALL.out ?_
      rintro e w14 ⟨rfl, hd14, hk14⟩
      have HEND : Hid (Dst w14 g R ∧ Kp (fun y => y = g) w w14) := ⟨hd14, hk14⟩
      clear hd14 hk14
      go_wp2_with fail
      go_end0
      exact ⟨rfl, HEND.out.1, HEND.out.2⟩
end Go.Proofs.Ytneegijbbbebkaa
