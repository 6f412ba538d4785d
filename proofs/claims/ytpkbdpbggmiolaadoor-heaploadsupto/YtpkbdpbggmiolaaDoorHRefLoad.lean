/-
  The walk of the document's Load. Conditions: at most 2^20 bytes, which are bytes.
-/
import Derived.Test.YtpkbdpbggmiolaaDoorHAlike
import Derived.Test.YtpkbdpbggmiolaaDoorHLoadMath
import Derived.Test.YtpkbdpbggmiolaaDoorToldAny
import Derived.Test.YtpkbdpbggmiolaaDoorTail
import Derived.Deep.QuietTactic
import Derived.BigQuiet
namespace Go.Proofs.YtpkbdpbggmiolaaDoor
open Go.RowKit Go.Maps
set_option linter.unusedVariables false
set_option maxRecDepth 100000

theorem str_neH {a b : List Int} (ha : Byt a) (hb : Byt b) (h : ¬ a = b) : ((strOfNums a).toList == (strOfNums b).toList) = false := by
  by_cases hl : a.length = b.length
  · exact str_ne ha hb hl h
  · rw [beq_eq_false_iff_ne]
    intro e
    have e2 : (strOfNums a).size = (strOfNums b).size := by
      rw [ByteArray.toList_eq, ByteArray.toList_eq] at e
      have := congrArg List.length e
      simpa using this
    rw [strOfNums_size, strOfNums_size] at e2
    exact hl e2
theorem cntN_put (T : Int → Option (List Int)) (x : Option (List Int)) (n : Nat) : ∀ k, k ≤ n → cntN (putT T n x) k = cntN T k
  | 0, _ => rfl
  | k + 1, h => by rw [cntN, cntN, cntN_put T x n k (by omega), putT_other T _ (by omega)]
theorem thK_cnt {l : List Int} (hb : Byt l) : ∀ k s, thK l k = some s → s.c = cntN s.T k
  | 0, s, h => by simp only [thK, Option.some.injEq] at h; subst h; rfl
  | k + 1, s, h => by
    rw [thK] at h
    cases hk : thK l k with
    | none => rw [hk] at h; cases h
    | some s0 =>
      have ih := thK_cnt hb k s0 hk
      obtain ⟨f1, _⟩ := thK_facts hb k s0 hk
      have hTk : s0.T (k : Int) = none := by
        cases hT : s0.T (k : Int) with
        | none => rfl
        | some b => have := f1 _ _ hT; omega
      rw [hk] at h
      simp only [Option.bind_some] at h
      unfold thStep at h
      split at h
      · cases h
      · simp only [Option.some.injEq] at h
        subst h
        simp only
        rw [cntN, hTk, ih]; rfl
      · split at h
        · cases h
        · simp only [Option.some.injEq] at h
          subst h
          simp only
          rw [cntN, putT_same, cntN_put _ _ _ _ (Nat.le_refl _), ih]; rfl
theorem tS_map {S : List SV} {T : Int → Option (List Int)} {k : Nat} (h : S.map (·.1) = LT T k) (hT : ∀ i b, T i = some b → 0 ≤ i ∧ i < k) : tS S = T := by
  have hl : S.length = k := by have := congrArg List.length h; simpa [LT] using this
  funext i
  by_cases hi : 0 ≤ i
  · obtain ⟨j, rfl⟩ := Int.eq_ofNat_of_zero_le hi
    rw [tS_nat]
    by_cases hj : j < k
    · have h1 : (S.map (·.1))[j]? = some (T (j : Int)) := by rw [h]; unfold LT; simp [hj]
      rw [List.getElem?_map] at h1
      cases hs : S[j]? with
      | none => rw [hs] at h1; cases h1
      | some s => rw [hs] at h1; simpa using h1
    · rw [List.getElem?_eq_none (by omega)]
      cases hT' : T (j : Int) with
      | none => rfl
      | some b => have := hT _ _ hT'; omega
  · cases hT' : T i with
    | none => simp [tS, hi]
    | some b => have := hT _ _ hT'; omega
theorem plain_alike {S : List SV} (h : LastOk S) : plainH (tS S) (idsN (tS S) S.length) (idsN (tS S) S.length).length = plainR S := by
  have hL := tS_ids S
  rw [plainH, encK_encN hL (fun i hi => by obtain ⟨b, hb⟩ := Option.isSome_iff_exists.1 ((hL.mem i).1 hi); exact (tS_bd hb).1) _ (Nat.le_refl _), nxt_last h, Int.toNat_natCast]
  rfl
/-- What the program reads, the document reads. -/
theorem ref_yes {x : List Int} (hb : Byt x) {s : ThS} (h : thRes x = some s) {k pt : Nat} {S : List SV} (hr : rpN x k = some (pt, S.map (·.1))) (hn : rpN x (k + 1) = none) : pt = x.length ∧ tS S = s.T ∧ LastOk S ∧ (idsN (tS S) S.length).length ≤ 65536 ∧ plainR S = x := by
  obtain ⟨N, _, hg, hbd, hc, hla, hp, hK, hE⟩ := thRes_facts hb h
  obtain ⟨g1, g2⟩ := get4H hb 0 hE
  obtain ⟨r1, r2, _⟩ := thK_ref hb (by omega) N s hK
  have hst : rpN x (N + 1) = none := by rw [rpN, r1]; simp [hp]
  obtain ⟨rfl, e⟩ := rpN_one hr hn r1 hst
  simp only [Prod.mk.injEq] at e
  obtain ⟨e1, e2⟩ := e
  have hT := tS_map e2 hbd
  have hl : S.length = k := by have := congrArg List.length e2; simpa [LT] using this
  refine ⟨e1.trans hp, hT, fun t ht => ?_, ?_, ?_⟩
  · rw [List.getLast?_eq_getElem?] at ht
    have hlt := (List.getElem?_eq_some_iff.1 ht).1
    have h1 : tS S ((S.length - 1 : Nat) : Int) = t.1 := by rw [tS_nat, ht]; rfl
    rw [← h1, hT]
    rcases lst_some k s hK with h2 | ⟨h2, h3⟩
    · omega
    · rw [show ((S.length - 1 : Nat) : Int) = s.la by omega]; exact h3
  · have h1 := cntN_ids k _ (tS_ids S) (fun i b hi => by rw [hT] at hi; exact hbd i b hi)
    have h2 := thK_cnt hb k s hK
    rw [hT] at h1
    rw [hT, ← h1]
    omega
  · unfold plainR
    rw [hl, hT, ← hg]
    have h0 : (x.drop 0).take 4 = x.take 4 := by simp
    rw [h0] at g1
    rw [show ((0 : Nat) : Int) = 0 from rfl] at g1
    rw [g1]
    rw [hp, List.drop_length, List.append_nil] at r2
    exact r2.symm
/-- What the document reads, the program reads. -/
theorem ref_back {x : List Int} {S : List SV} (h1 : LastOk S) (h2 : (idsN (tS S) S.length).length ≤ 65536) (h3 : plainR S = x) (h4 : ∀ i b, tS S i = some b → b.length ≤ 65536) (h5 : S.length ≤ 1048576) : ∃ s, thRes x = some s := by
  obtain ⟨la, hR⟩ := back_res (tS_ids S) h4 (fun i b hb => by have := tS_bd hb; omega) h2
  rw [plain_alike h1, h3] at hR
  exact ⟨_, hR⟩
theorem refLoad6_seal (v : Value) (l : List Int) (w : World) (hl : Bs w v l) (hb : l.length ≤ 1048576) (hby : Byt l) (hu : ¬ unErr l = 0) :
    Calls Tryd.prog 17 #[v] w fun e w' => e = .returned (.tuple #[.pointer none, .int .i64 (unErr l)]) ∧ Below w.heap.size w w' := by
  have HU : Hid _ := refUnseal_any v l w hl (by omega) hby
  have he' : (unErr l != 0) = true := by simp [hu]
  obtain ⟨ao, cap, rfl, hc, hn, hcell⟩ := hl
  clear hcell hn hby
  go_enter Tryd.func17, Tryd.ntmps17
  go_wp2_with (go_at_call 35; refine Calls.mono HU.out ?_; rintro e w1 ⟨x1, rfl, ho1, hb1⟩; have HB1 : Hid (Below w.heap.size w w1) := hb1; clear ho1 hb1)
  go_ret2
  exact ⟨rfl, HB1.out⟩

/-- What the document's Load tells where the program reads. -/
def LdP (w w' : World) (x : List Int) (e : Ending) : Prop := ∀ s, thRes x = some s → ∃ p' vL S B, e = .returned (.tuple #[.pointer (some ⟨p', 0, none⟩), .int .i64 0]) ∧ RH w' B p' vL S ∧ w.heap.size ≤ B ∧ tS S = s.T ∧ LastOk S ∧ S.length ≤ 1048576 ∧ ∀ t ∈ S, ∀ g, t.2.ownBlock = some g → w.heap.size ≤ g
/-- What turns nothing of it leaves the document's heap. -/
theorem RH.keep {w w' : World} {B p : Nat} {vL : Value} {S : List SV} (h : RH w B p vL S) {F : Nat → Prop} (hk : Kp F w w') (f1 : ¬ F p) (f2 : ∀ g, vL.ownBlock = some g → ¬ F g) (f3 : ∀ t ∈ S, ∀ g, t.2.ownBlock = some g → ¬ F g) : RH w' B p vL S := by
  refine ⟨(hk.block p h.c0.2.2 f1).trans h.cells, ownsRow_kp h.row hk f2, fun s hs b hb => ?_, h.one, h.bp, h.ne⟩
  obtain ⟨q1, q2, q3, q4⟩ := h.good s hs b hb
  exact ⟨q1.off hk (f3 s hs), q2, q3, fun g hg => ⟨Nat.lt_of_lt_of_le (q4 g hg).1 hk.size, (q4 g hg).2⟩⟩
/-- A world behind w. -/
structure BlwOf (w : World) where
  v : World
  h : Below w.heap.size w v
theorem wp_region_quiet_blw {P : Program} {id : Nat} {Q : Exit → Act → World → Prop} {a : Act} {w : World} {l : List Oper} (hm : P.follows .mixedOrders = true) (hB : Region.lexB .any l.toArray = true)
    (h : wpQuiet P l.toArray (fun w' => ∃ p : BlwOf w, w' = p.v) (fun a' => ∀ w', (∃ p : BlwOf w, w' = p.v) → Q .normal a' w') l a) : (Code.region id l.toArray true).wp P Q a w :=
  wp_region_quiet (C := fun w' => ∃ p : BlwOf w, w' = p.v) hm hB ⟨⟨w.drew, (Below.refl _ _).drew⟩, rfl⟩ (by simpa using h)
/-- What append onto the list leaves, ahead of the store. -/
theorem RH.ahead {wr wx w3 : World} {B p g cap : Nat} {vL : Value} {S : List SV} (h : RH wr B p vL S) (s : SV) (hx : Below wr.heap.size wr wx) (hs : SOk wx p vL s) (hrow : w3.ownsRow B 62 2 (.slice (some ⟨g, 0, none⟩) (S.length + 1) cap) (S.length + 1) (gc encS S ++ encS s)) (hg : wx.grownBy w3 vL.ownBlock) (hat : vL.ownBlock = some g ∨ g = wx.heap.size) :
    w3.cell? ⟨p, 0, none⟩ = some vL ∧ w3.frozen? ⟨p, 0, none⟩ = false ∧ RH (w3.setCell ⟨p, 0, none⟩ (.slice (some ⟨g, 0, none⟩) (S.length + 1) cap)) B p (.slice (some ⟨g, 0, none⟩) (S.length + 1) cap) (S ++ [s]) ∧ Kp (fun x => vL.ownBlock = some x) wx w3 := by
  have hw := h.below hx
  have hk : Kp (fun x => vL.ownBlock = some x) wx w3 := (Kp.refl _ wx).grown hg (fun x _ e => e)
  refine ⟨hk.cell hw.c0.1 hw.ne, (World.frozen?_of_block (w := wx) (a := ⟨p, 0, none⟩) (hk.block p hw.c0.2.2 hw.ne)).trans hw.c0.2.1, hw.push s hs hk hrow ?_, hk⟩
  rcases hat with h | h
  · exact .inl h
  · exact .inr (by omega)

set_option maxHeartbeats 8000000 in
theorem refLoad6_any (v : Value) (l : List Int) (w : World) (hl : Bs w v l) (hb : l.length ≤ 1048576) (hby : Byt l) (hu : unErr l = 0) :
    Calls Tryd.prog 17 #[v] w fun e w' => (thRes (unList l) = none → e = .returned (.tuple #[.pointer none, .int .i64 5])) ∧ LdP w w' (unList l) e ∧ Below w.heap.size w w' := by
  obtain ⟨i1, hi1, hy0, hy1, hy2⟩ := info_partsG Tryd.infoSl
  have HU : Hid _ := refUnseal_any v l w hl (by omega) hby
  rw [hu] at HU
  have HUL : Hid (unErr l = 0) := hu
  have HBL : Hid (Bs w v l) := hl
  have HYL : Hid (Byt l) := hby
  have HSU : Hid (sealN (unList l) = l) := seal_unH hby hu
  obtain ⟨x, HX⟩ : ∃ x, Hid (unList l = x) := ⟨_, rfl⟩
  have HYX : Hid (Byt x) := by
    unfold Hid
    rw [← HX.out]; unfold unList; rw [if_pos hu]; exact byt_left hby _
  have hxl : x.length ≤ 1048576 := by rw [← HX.out]; exact Nat.le_trans (unList_len l) hb
  rw [HX.out] at HU HSU ⊢
  obtain ⟨n, HN⟩ : ∃ n, Hid (x.length = n) := ⟨_, rfl⟩
  rw [HN.out] at hxl
  obtain ⟨ao, cap, rfl, hc, hn', hcell⟩ := hl
  clear hcell hn' hby hu
  go_enter Tryd.func17, Tryd.ntmps17
  go_wp2_with (go_at_call 35; refine Calls.mono HU.out ?_; rintro e w1 ⟨x1, rfl, ho1, hb1⟩; obtain ⟨ax, cx, rfl, hcx, hgx⟩ := ho1.opened; rw [HN.out] at ho1 hcx hgx ⊢; have HO1 : Hid (Own w1 w.heap.size (.slice ax n cx) x) := ho1; have HB1 : Hid (Below w.heap.size w w1) := hb1; have HGX : Hid (0 < n → ∃ g, ax = some ⟨g, 0, none⟩ ∧ w.heap.size ≤ g ∧ g < w1.heap.size) := hgx; clear ho1 hb1 hgx)
  have HR0 : Hid (RH (w1.alloc (.cells #[.slice none 0 0] 28)) w1.heap.size w1.heap.size (.slice none 0 0) []) := ⟨heap_alloc_new w1 _, World.ownsRow_nil _ _ _ _, (fun s hs => by cases hs), (fun s hs => by cases hs), Nat.le_refl _, (fun e => by cases e)⟩
  have HB0 : Hid (Below w1.heap.size w1 (w1.alloc (.cells #[.slice none 0 0] 28))) := (Below.refl _ _).alloc (Nat.le_refl _) _
  obtain ⟨p', Hp'⟩ : ∃ p', Hid (w1.heap.size = p') := ⟨_, rfl⟩
  have HR0' : Hid (RH (w1.alloc (.cells #[.slice none 0 0] 28)) w1.heap.size p' (.slice none 0 0) []) := by rw [← Hp'.out]; exact HR0.out
  rw [Hp'.out]
  clear HR0 HU
  go_loopw [7] (fun y wr => ∃ (k pt : Nat) (vL : Value) (S : List SV), y = .int .i64 (pt : Int) ∧ k + 4 ≤ pt ∧ (pt ≤ n ∨ pt = 4) ∧ Hid (rpN x k = some (pt, S.map (·.1))) ∧ Hid (RH wr w1.heap.size p' vL S) ∧ Hid (S.length = k) ∧ Hid (∀ t ∈ S, ∀ g, t.2.ownBlock = some g → w1.heap.size ≤ g) ∧ Hid (Below w1.heap.size w1 wr)) (fun y _ => n + 5 - (intOf y).toNat)
  case atStart => exact ⟨0, 4, _, [], by simp, by omega, .inr rfl, rfl, HR0'.out, rfl, (fun t ht => by cases ht), HB0.out⟩
  case round =>
    obtain ⟨k, pt, vL, S, rfl, hk4, hptn, HRP, HR, HSL, HSG, HB⟩ := hrel
    have c0 := HR.out.c0.1
    have f0 := HR.out.c0.2.1
    obtain ⟨aoL, capL, hvL, hcapL⟩ := HR.out.shape
    rw [HSL.out] at hvL hcapL
    have hvB : ∀ g, vL.ownBlock = some g → w1.heap.size ≤ g := fun g hg => (World.ownsRow.lt HR.out.row g hg).1
    have HVB : Hid _ := hvB
    have HPB : Hid (w1.heap.size ≤ p') := HR.out.bp
    have HRW : Hid (wr.ownsRow w1.heap.size 62 2 vL k (gc encS S)) := by have := HR.out.row; rw [HSL.out] at this; exact this
    clear hvB
    by_cases hlt : pt < n
    · obtain ⟨gx, rfl, hgx1, hgx2⟩ := HGX.out (by omega)
      obtain ⟨cx0, _⟩ := (HO1.out.below HB.out).cell HN.out pt hlt
      have hyb := HYX.out pt
      obtain ⟨y, HY⟩ : ∃ y, Hid (x.getD pt 0 = y) := ⟨_, rfl⟩
      rw [HY.out] at cx0 hyb
      by_cases hy : y = 1
      · subst hy
        by_cases he : gbErr x ((pt : Int) + 1) = 0
        · have HG : Hid _ := refGetBytes_any _ x ((pt : Int) + 1) wr (HO1.out.bs.below HB.out) (by rw [HN.out]; omega) HYX.out
          obtain ⟨f1, f2, f3, f4⟩ := gb_facts HYX.out ((pt : Int) + 1) (by omega) he
          have f5 : (pt : Int) + 5 ≤ gbNext x ((pt : Int) + 1) := by have := (getNum_bounds HYX.out ((pt : Int) + 1) 4 true).1; unfold gbNext; rw [if_pos he]; omega
          obtain ⟨q, hq⟩ := Int.eq_ofNat_of_zero_le f3
          obtain ⟨b, HBB⟩ : ∃ b, Hid (gbList x ((pt : Int) + 1) = b) := ⟨_, rfl⟩
          have HNX : Hid (∀ u : Value, rpN x (k + 1) = some (q, (S ++ [((some b : Option (List Int)), u)]).map (·.1))) := fun u => by
            rw [rpN, HRP.out]
            simp only [Option.bind_some]
            rw [if_pos (by rw [HN.out]; exact hlt), entR, if_pos HY.out, if_pos he, HBB.out, hq]; simp
          rw [he, hq, HBB.out] at HG
          rw [HBB.out] at f1 f2
          rw [hq, HN.out] at f4
          rw [hq] at f5
          have HF : Hid (b.length ≤ 65536 ∧ Byt b) := ⟨f1, f2⟩
          obtain ⟨m, HM⟩ : ∃ m, Hid (b.length = m) := ⟨_, rfl⟩
          have HPW : Hid (p' < wr.heap.size) := HR.out.c0.2.2
          have HVW : Hid (∀ g, vL.ownBlock = some g → g < wr.heap.size) := fun g hg => (World.ownsRow.lt HR.out.row g hg).2
          subst hvL
          clear he hq f1 f2 f3
          go_wp2_with (first
            | (go_at_call 36; refine Calls.mono HG.out ?_; rintro e w2 ⟨u2, rfl, ho2, hb2⟩; obtain ⟨au, cu, rfl, hcu, _⟩ := ho2.opened; rw [HM.out] at ho2 hcu ⊢; have HO2 : Hid (Own w2 wr.heap.size (.slice au m cu) b) := ho2; have HB2 : Hid (Below wr.heap.size wr w2) := hb2; have c02 := cell_later hb2 c0; have c02a := cell_later ((Below.refl w2.heap.size w2).alloc (Nat.le_refl _) (.cells #[.bool true, .slice au m cu] 62)) c02; clear ho2 hb2)
            | (at_builtin; refine wpList_append_G _ rfl (.tmp 56) (.tmp 59) 26 rfl 62 i1 Tryd.underlying26 hi1 _ hy0 2 32 hy1 hy2 rfl (by omega) w1.heap.size (.slice aoL k capL) k (gc encS S) ⟨w2.heap.size, 0, none⟩ 1 1 [.bool true, .slice au m cu] rfl rfl ((ownsRow_below HRW.out HB2.out).alloc _) rfl (news_one (heap_alloc_new w2 _)) (by simp [Value.oneCell']) (by omega) (by omega) (by omega) (by have := HB.out.size; have := HB2.out.size; simp; omega) ?_; intro g3 cap3 w3 ho3 hg3 hat3; obtain ⟨hc3, hf3, hr3, hk3⟩ := (HR.out.below HB2.out).ahead (g := g3) (cap := cap3) (w3 := w3) (some b, .slice au m cu) ((Below.refl w2.heap.size w2).alloc (Nat.le_refl _) (.cells #[.bool true, .slice au m cu] 62)) ⟨(fun b' hb' => by obtain rfl := Option.some.inj hb'; refine ⟨HO2.out.bs.below ((Below.refl w2.heap.size w2).alloc (Nat.le_refl _) _), HF.out.2, HF.out.1, fun g hg => ?_⟩; have h1 := World.ownsRow.lt HO2.out g hg; have h2 := HPW.out; exact ⟨by simp; omega, by omega, fun e => by have := HVW.out g e; omega⟩), rfl⟩ (by rw [HSL.out]; exact ho3) hg3 hat3; rw [HSL.out] at hr3; have HR3 : Hid _ := hr3; have HK3 : Hid _ := hk3; clear ho3 hg3 hat3 hr3 hk3))
          go_roundw
          case rel =>
            refine ⟨k + 1, q, _, _, by simp, by omega, .inl (by omega), HNX.out _, HR3.out, by unfold Hid; rw [List.length_append, HSL.out]; rfl, (fun t ht g hg => by
              rcases List.mem_append.1 ht with h1 | h1
              · exact HSG.out t h1 g hg
              · rw [List.mem_singleton.1 h1] at hg; exact Nat.le_trans HB.out.size (World.ownsRow.lt HO2.out g hg).1), ?_⟩
            have hb3 : Below w1.heap.size w1 (w2.alloc (.cells #[.bool true, .slice au m cu] 62)) := (HB.out.trans (HB2.out.mono HB.out.size)).alloc (Nat.le_trans HB.out.size HB2.out.size) _
            exact (((Kp.of (F := fun x => w1.heap.size ≤ x) hb3).trans HK3.out (fun x hx e => HVB.out x e)).setCell (a := ⟨p', 0, none⟩) _ (fun _ => HPB.out)).below (Nat.le_refl _) (fun x h => h)
          case measure => simp [intOf]; omega
        · have HNX : Hid (rpN x (k + 1) = none) := by
            unfold Hid
            rw [rpN, HRP.out]
            simp only [Option.bind_some]
            rw [if_pos (by rw [HN.out]; exact hlt), entR, if_pos HY.out, if_neg he]; rfl
          have he' : (gbErr x ((pt : Int) + 1) != 0) = true := by simp [he]
          have HG : Hid _ := refGetBytes_any _ x ((pt : Int) + 1) wr (HO1.out.bs.below HB.out) (by rw [HN.out]; omega) HYX.out
          obtain ⟨er, HER⟩ : ∃ er, Hid (gbErr x ((pt : Int) + 1) = er) := ⟨_, rfl⟩
          rw [HER.out] at he' HG
          subst hvL
          clear he
          go_wp2_with (go_at_call 36; refine Calls.mono HG.out ?_; rintro e w2 ⟨u2, rfl, ho2, hb2⟩; have HB2 : Hid (Below w1.heap.size w1 w2) := HB.out.trans (hb2.mono HB.out.size); clear ho2 hb2)
          go_ret2
          refine ⟨fun _ => rfl, fun s hs => ?_, HB1.out.trans (HB2.out.mono HB1.out.size)⟩
          obtain ⟨e1, _⟩ := ref_yes HYX.out hs HRP.out HNX.out
          rw [HN.out] at e1
          omega
      · have HNX : Hid (rpN x (k + 1) = some (pt + 1, (S ++ [((none : Option (List Int)), Value.slice none 0 0)]).map (·.1))) := by
          unfold Hid
          rw [rpN, HRP.out]
          simp only [Option.bind_some]
          rw [if_pos (by rw [HN.out]; exact hlt), entR, if_neg (by rw [HY.out]; exact hy)]; simp
        have hyne : (y != 1) = true := by simp [hy]
        have HBA : Hid (Below wr.heap.size wr (wr.alloc (.cells #[.bool false, .slice none 0 0] 62))) := (Below.refl _ _).alloc (Nat.le_refl _) _
        have c0a := cell_later HBA.out c0
        subst hvL
        clear hy
        go_wp2_with (at_builtin; refine wpList_append_G _ rfl (.tmp 34) (.tmp 36) 26 rfl 62 i1 Tryd.underlying26 hi1 _ hy0 2 32 hy1 hy2 rfl (by omega) w1.heap.size (.slice aoL k capL) k (gc encS S) ⟨wr.heap.size, 0, none⟩ 1 1 [.bool false, .slice none 0 0] rfl rfl (HRW.out.alloc _) rfl (news_one (heap_alloc_new wr _)) (by simp [Value.oneCell']) (by omega) (by omega) (by omega) (by have := HB.out.size; simp; omega) ?_; intro g3 cap3 w3 ho3 hg3 hat3; obtain ⟨hc3, hf3, hr3, hk3⟩ := HR.out.ahead (g := g3) (cap := cap3) (w3 := w3) ((none : Option (List Int)), Value.slice none 0 0) HBA.out ⟨(fun b hb => by cases hb), rfl⟩ (by rw [HSL.out]; exact ho3) hg3 hat3; rw [HSL.out] at hr3; have HR3 : Hid _ := hr3; have HK3 : Hid _ := hk3; clear ho3 hg3 hat3 hr3 hk3)
        go_roundw
        case rel =>
          refine ⟨k + 1, pt + 1, _, _, by simp, by omega, .inl (by omega), HNX.out, HR3.out, by unfold Hid; rw [List.length_append, HSL.out]; rfl, (fun t ht g hg => by
            rcases List.mem_append.1 ht with h1 | h1
            · exact HSG.out t h1 g hg
            · rw [List.mem_singleton.1 h1] at hg; cases hg), ?_⟩
          exact ((((Kp.of (F := fun x => w1.heap.size ≤ x) HB.out).trans (Kp.of (F := fun _ => False) HBA.out) (fun _ _ h => h.elim)).trans HK3.out (fun x hx e => HVB.out x e)).setCell (a := ⟨p', 0, none⟩) _ (fun _ => HPB.out)).below (Nat.le_refl _) (fun x h => h)
        case measure => simp [intOf]; omega
    · have HNX : Hid (rpN x (k + 1) = none) := by
        unfold Hid
        rw [rpN, HRP.out]
        simp only [Option.bind_some]
        rw [if_neg (by rw [HN.out]; exact hlt)]
      have hk : k ≤ 1048576 := by omega
      have HLE : Hid (∀ w', Below wr.heap.size wr w' → Calls Tryd.prog 23 #[.pointer (some ⟨p', 0, none⟩)] w' fun e w2 => e = .returned (.int .i64 ((idsN (tS S) S.length).length : Int)) ∧ Below wr.heap.size wr w2) := fun w' hw => (refLen_any (HR.out.below hw) (by rw [HSL.out]; omega)).mono fun e w2 ⟨h1, h2⟩ => ⟨h1, hw.trans (h2.mono hw.size)⟩
      have HBY : Hid (∀ w', Below wr.heap.size wr w' → Calls Tryd.prog 34 #[.pointer (some ⟨p', 0, none⟩)] w' fun e w2 => ∃ ao z cap, e = .returned (.slice ao z cap) ∧ (∀ w3, Below w2.heap.size w2 w3 → Sem.run Tryd.prog (convert 29 9 (.slice ao z cap)) w3 = .ok (.string (strOfNums (sealN (plainR S)))) w3) ∧ Below wr.heap.size wr w2 ∧ Below w2.heap.size w2 w2) := fun w' hw => (refBytes6_any (HR.out.below hw) (by rw [HSL.out]; exact hk)).mono fun e w2 ⟨z, h1, h2, h3⟩ => by
        obtain ⟨ao, cap, rfl, _⟩ := h2.opened
        exact ⟨ao, _, cap, h1, fun w3 h4 => (h2.bs.below h4).str Tryd.underlying29 Tryd.underlying5 Tryd.underlying9, hw.trans (h3.mono hw.size), Below.refl _ _⟩
      have HYES : Hid (∀ s, thRes x = some s → tS S = s.T ∧ LastOk S ∧ (idsN (tS S) S.length).length ≤ 65536 ∧ sealN (plainR S) = l) := fun s hs => by
        obtain ⟨_, q2, q3, q4, q5⟩ := ref_yes HYX.out hs HRP.out HNX.out
        exact ⟨q2, q3, q4, by rw [q5]; exact HSU.out⟩
      have HBACK : Hid (LastOk S → (idsN (tS S) S.length).length ≤ 65536 → sealN (plainR S) = l → ∃ s, thRes x = some s) := fun q1 q2 q3 => ref_back q1 q2 (by
        have := unList_seal (plainR S)
        rw [q3, HX.out] at this
        exact this.symm) (fun i b hb => (HR.out.bytT i b hb).2) (by rw [HSL.out]; exact hk)
      obtain ⟨cnt, HCN⟩ : ∃ cnt, Hid ((idsN (tS S) S.length).length = cnt) := ⟨_, rfl⟩
      rw [HCN.out] at HLE HYES HBACK
      have HBW : Hid (∀ w', Below wr.heap.size wr w' → Below w.heap.size w w') := fun w' hw => (HB1.out.trans (HB.out.mono HB1.out.size)).trans (hw.mono (Nat.le_trans HB1.out.size HB.out.size))
      have hrr : Below wr.heap.size wr wr.drew := (Below.refl _ _).drew
      have HK : Hid (∀ w', Below wr.heap.size wr w' → w'.cell? ⟨p', 0, none⟩ = some vL) := fun w' hw => cell_later hw c0
      by_cases hcn : 65536 < cnt
      · have hcd : decide ((65536 : Int) < (cnt : Int)) = true := by simp; omega
        subst hvL
        go_upto_region 15 with fail
        go_cut [98] (fun t wc => t = .bool true ∧ Hid (Below wr.heap.size wr wc))
        case first =>
          rename_i K2 a4 K1 a3 K0 a2 J K3 a1 a0
          clear a4 a3 a2 HRP HYES HBACK HBY HK HNX HRW HVB HR HSL HB HBW hk4 hptn hlt hcn hk hxl hb hcapL f0 c0 hcx hc HBL HO1 HGX HB0 HR0' HPB HCN HN HX HYX HSU HYL HUL hi1 hy0 hy1 hy2 hrr
          haveI : Inhabited (BlwOf wr) := ⟨⟨wr, Below.refl _ _⟩⟩
          refine wp_region_quiet_blw (by kernel_rfl) (by kernel_rfl) ?_
          repeat (go_big_quiet_step ((go_at_call 23; exact (HLE.out _ (BlwOf.h _)).mono (fun e w6 ⟨h6, hd6⟩ => ⟨h6, ⟨⟨w6, hd6⟩, rfl⟩⟩))))
          refine wpQuiet_nil ?_
          intro _ hw'
          obtain ⟨⟨wq, hq⟩, rfl⟩ := hw'
          go_wp2_with fail
          go_meet
          exact ⟨rfl, hq⟩
        case rest =>
          obtain ⟨rfl, HBC⟩ := hcut
          go_wp2_with fail
          go_ret2
          refine ⟨fun _ => rfl, fun s hs => ?_, HBW.out _ HBC.out⟩
          have := (HYES.out s hs).2.2.1
          omega
      · have hcd : decide ((65536 : Int) < (cnt : Int)) = false := by simp; omega
        have hsl : ∀ w', Below wr.heap.size wr w' → Sem.run Tryd.prog (convert 29 9 (.slice ao l.length cap)) w' = .ok (.string (strOfNums l)) w' := fun w' hw => (HBL.out.below (HBW.out w' hw)).str Tryd.underlying29 Tryd.underlying5 Tryd.underlying9
        have HEQ : Hid (Byt (sealN (plainR S))) := byt_seal (byt_append (byt_dig2 true _ 4) (encN_byt (fun i b hb => (HR.out.bytT i b hb).1) _))
        obtain ⟨bq, HBQ⟩ : ∃ bq, Hid (decide (sealN (plainR S) = l) = bq) := ⟨_, rfl⟩
        have hst : ((strOfNums (sealN (plainR S))).toList == (strOfNums l).toList) = bq := by
          rw [← HBQ.out]
          by_cases heq : sealN (plainR S) = l
          · rw [heq]; simp
          · rw [str_neH HEQ.out HYL.out heq]; simp [heq]
        have HFIN : Hid (LastOk S → bq = true → ∃ s, thRes x = some s) := fun q1 q2 => HBACK.out q1 (by omega) (by rw [← HBQ.out] at q2; simpa using q2)
        have HNO : Hid (bq = false → ∀ s, thRes x = some s → False) := fun q1 s hs => by
          have := (HYES.out s hs).2.2.2
          rw [← HBQ.out, this] at q1
          simp at q1
        have HLOK : Hid (∀ s, thRes x = some s → tS S = s.T ∧ LastOk S) := fun s hs => ⟨(HYES.out s hs).1, (HYES.out s hs).2.1⟩
        generalize strOfNums (sealN (plainR S)) = S1 at HBY hst
        generalize strOfNums l = S2 at hsl hst
        cases hkk : k with
        | zero =>
          have HLO : Hid (LastOk S) := fun s hs => by rw [List.eq_nil_of_length_eq_zero (HSL.out.trans hkk)] at hs; cases hs
          rw [hkk] at hvL hcapL
          subst hvL
          go_upto_region 15 with fail
          go_cut [98] (fun t wc => t = .bool (!bq) ∧ Hid (Below wr.heap.size wr wc))
          case first =>
            have hcc : ∀ w', Below wr.heap.size wr w' → w'.cell? ⟨p', 0, none⟩ = some (.slice aoL 0 capL) := fun w' hw => cell_later hw c0
            rename_i K2 a4 K1 a3 K0 a2 J K3 a1 a0
            clear a4 a3 a2 HRP HYES HBACK HNX HRW HVB HR HSL HB HBW hk4 hptn hlt hcn hk hxl hb hcx hc HBL HO1 HGX HB0 HR0' HPB HCN HN HX HYX HSU HYL HUL hi1 hy0 hy1 hy2 HEQ HK c0 f0 hcapL HBQ HFIN HNO HLOK HLO hkk

            refine wp_region_any (by kernel_rfl) ?_
            change wpAny _ _ _ _ _ _ _ (World.drew _)
            refine wpAny_ready (rs := [0]) (by kernel_rfl) (by simp) (AllReady.cons rfl (fun K hK => ?_) AllReady.nil)
            go_simp
            refine hK _ _ ?_
            clear hK K
            refine wpAny_ready (rs := [1]) (by kernel_rfl) (by simp) (AllReady.cons rfl (fun K hK => ?_) AllReady.nil)
            go_simp
            go_wp2_with (go_at_call 23; refine (HLE.out _ (by assumption)).mono ?_; rintro e w6 ⟨rfl, hd6⟩)
            refine wpAny_ready (rs := [2]) (by kernel_rfl) (by simp) (AllReady.cons rfl (fun K hK => ?_) AllReady.nil)
            go_simp
            refine hK _ _ ?_
            clear hK K
            refine wpAny_ready (rs := [3]) (by kernel_rfl) (by simp) (AllReady.cons rfl (fun K hK => ?_) AllReady.nil)
            go_simp
            refine hK _ _ ?_
            clear hK K
            refine wpAny_ready (rs := [4]) (by kernel_rfl) (by simp) (AllReady.cons rfl (fun K hK => ?_) AllReady.nil)
            go_simp
            refine hK _ _ ?_
            clear hK K
            refine wpAny_ready (rs := [5]) (by kernel_rfl) (by simp) (AllReady.cons rfl (fun K hK => ?_) AllReady.nil)
            go_simp
            refine hK _ _ ?_
            clear hK K
            refine wpAny_ready (rs := [6]) (by kernel_rfl) (by simp) (AllReady.cons rfl (fun K hK => ?_) AllReady.nil)
            go_simp
            refine hK _ _ ?_
            clear hK K
            refine wpAny_ready (rs := [7]) (by kernel_rfl) (by simp) (AllReady.cons rfl (fun K hK => ?_) AllReady.nil)
            go_simp
            refine hK _ _ ?_
            clear hK K
            refine wpAny_ready (rs := [8]) (by kernel_rfl) (by simp) (AllReady.cons rfl (fun K hK => ?_) AllReady.nil)
            go_simp
            refine hK _ _ ?_
            clear hK K
            refine wpAny_ready (rs := [9]) (by kernel_rfl) (by simp) (AllReady.cons rfl (fun K hK => ?_) AllReady.nil)
            go_simp
            refine hK _ _ ?_
            clear hK K
            refine wpAny_ready (rs := [10]) (by kernel_rfl) (by simp) (AllReady.cons rfl (fun K hK => ?_) AllReady.nil)
            go_simp
            refine hK _ _ ?_
            clear hK K
            refine wpAny_take (i := 11) (v := undef) rfl (by kernel_rfl) (by kernel_rfl) (by kernel_rfl) (fun _ _ _ h => h) (Or.inr ⟨by rfl, rfl⟩) ?_
            simp only [Act.put, List.setIfInBounds_toArray]
            refine wpAny_take (i := 12) (v := undef) rfl (by kernel_rfl) (by kernel_rfl) (by kernel_rfl) (fun _ _ _ h => h) (Or.inr ⟨by rfl, rfl⟩) ?_
            simp only [Act.put]
            refine wpAny_take (i := 13) (v := undef) rfl (by kernel_rfl) (by kernel_rfl) (by kernel_rfl) (fun _ _ _ h => h) (Or.inr ⟨by rfl, rfl⟩) ?_
            simp only [Act.put]
            refine wpAny_take (i := 14) (v := undef) rfl (by kernel_rfl) (by kernel_rfl) (by kernel_rfl) (fun _ _ _ h => h) (Or.inr ⟨by rfl, rfl⟩) ?_
            simp only [Act.put]
            refine wpAny_ready (rs := [15]) (by kernel_rfl) (by simp) (AllReady.cons rfl (fun K hK => ?_) AllReady.nil)
            go_simp
            refine hK _ _ ?_
            clear hK K
            refine wpAny_ready (rs := [16]) (by kernel_rfl) (by simp) (AllReady.cons rfl (fun K hK => ?_) AllReady.nil)
            go_simp
            refine hK _ _ ?_
            clear hK K
            refine wpAny_ready (rs := [17]) (by kernel_rfl) (by simp) (AllReady.cons rfl (fun K hK => ?_) AllReady.nil)
            go_simp
            refine hK _ _ ?_
            clear hK K
            refine wpAny_ready (rs := [18]) (by kernel_rfl) (by simp) (AllReady.cons rfl (fun K hK => ?_) AllReady.nil)
            go_simp
            refine hK _ _ ?_
            clear hK K
            refine wpAny_ready (rs := [19]) (by kernel_rfl) (by simp) (AllReady.cons rfl (fun K hK => ?_) AllReady.nil)
            go_simp
            refine hK _ _ ?_
            clear hK K
            refine wpAny_ready (rs := [20]) (by kernel_rfl) (by simp) (AllReady.cons rfl (fun K hK => ?_) AllReady.nil)
            go_simp
            refine hK _ _ ?_
            clear hK K
            refine wpAny_ready (rs := [21]) (by kernel_rfl) (by simp) (AllReady.cons rfl (fun K hK => ?_) AllReady.nil)
            go_simp
            refine hK _ _ ?_
            clear hK K
            refine wpAny_ready (rs := [22]) (by kernel_rfl) (by simp) (AllReady.cons rfl (fun K hK => ?_) AllReady.nil)
            go_simp
            refine hK _ _ ?_
            clear hK K
            refine wpAny_ready (rs := [23]) (by kernel_rfl) (by simp) (AllReady.cons rfl (fun K hK => ?_) AllReady.nil)
            go_simp
            refine hK _ _ ?_
            clear hK K
            refine wpAny_ready (rs := [24]) (by kernel_rfl) (by simp) (AllReady.cons rfl (fun K hK => ?_) AllReady.nil)
            go_simp
            refine hK _ _ ?_
            clear hK K
            refine wpAny_ready (rs := [25]) (by kernel_rfl) (by simp) (AllReady.cons rfl (fun K hK => ?_) AllReady.nil)
            go_simp
            refine hK _ _ ?_
            clear hK K
            refine wpAny_ready (rs := [26]) (by kernel_rfl) (by simp) (AllReady.cons rfl (fun K hK => ?_) AllReady.nil)
            go_simp
            refine hK _ _ ?_
            clear hK K
            refine wpAny_ready (rs := [27]) (by kernel_rfl) (by simp) (AllReady.cons rfl (fun K hK => ?_) AllReady.nil)
            go_simp
            refine hK _ _ ?_
            clear hK K
            refine wpAny_take (i := 28) (v := ?_) rfl (by kernel_rfl) (by kernel_rfl) (by kernel_rfl) (fun _ _ _ h => h) (Or.inl ⟨by rfl, fun w => by go_simp; rfl⟩) ?_
            simp only [Act.put, List.setIfInBounds_toArray]
            refine wpAny_take (i := 31) (v := ?_) rfl (by kernel_rfl) (by kernel_rfl) (by kernel_rfl) (fun _ _ _ h => h) (Or.inl ⟨by rfl, fun w => by go_simp; rfl⟩) ?_
            simp only [Act.put]
            refine wpAny_ready (rs := [29, 32]) (by kernel_rfl) (by simp) (AllReady.cons rfl (fun K hK => ?_) (AllReady.cons rfl (fun K hK => ?_) AllReady.nil))
            · go_simp
              go_wp2_with (go_at_call 34; refine (HBY.out _ (by assumption)).mono ?_; rintro e w7 ⟨ao7, z7, cap7, rfl, hs7, hd7, hz7⟩)
              refine wpAny_ready (rs := [30, 32]) (by kernel_rfl) (by simp) (AllReady.cons rfl (fun K hK => ?_) (AllReady.cons rfl (fun K hK => ?_) AllReady.nil))
              · go_simp
                refine hK _ _ ?_
                clear hK K
                refine wpAny_ready (rs := [32]) (by kernel_rfl) (by simp) (AllReady.cons rfl (fun K hK => ?_) AllReady.nil)
                go_simp
                refine hK _ _ ?_
                clear hK K
                refine wpAny_ready (rs := [33]) (by kernel_rfl) (by simp) (AllReady.cons rfl (fun K hK => ?_) AllReady.nil)
                go_simp
                refine hK _ _ ?_
                clear hK K
                refine wpAny_ready (rs := [34]) (by kernel_rfl) (by simp) (AllReady.cons rfl (fun K hK => ?_) AllReady.nil)
                go_simp
                refine hK _ _ ?_
                clear hK K
                refine wpAny_done (by kernel_rfl) ?_ _
                go_wp2_with fail
                go_meet
                exact ⟨rfl, hd7⟩
              · go_simp
                refine hK _ _ ?_
                clear hK K
                refine wpAny_ready (rs := [30]) (by kernel_rfl) (by simp) (AllReady.cons rfl (fun K hK => ?_) AllReady.nil)
                go_simp
                refine hK _ _ ?_
                clear hK K
                refine wpAny_ready (rs := [33]) (by kernel_rfl) (by simp) (AllReady.cons rfl (fun K hK => ?_) AllReady.nil)
                go_simp
                refine hK _ _ ?_
                clear hK K
                refine wpAny_ready (rs := [34]) (by kernel_rfl) (by simp) (AllReady.cons rfl (fun K hK => ?_) AllReady.nil)
                go_simp
                refine hK _ _ ?_
                clear hK K
                refine wpAny_done (by kernel_rfl) ?_ _
                go_wp2_with fail
                go_meet
                exact ⟨rfl, hd7⟩
            · go_simp
              refine hK _ _ ?_
              clear hK K
              refine wpAny_ready (rs := [29]) (by kernel_rfl) (by simp) (AllReady.cons rfl (fun K hK => ?_) AllReady.nil)
              go_simp
              go_wp2_with (go_at_call 34; refine (HBY.out _ (by assumption)).mono ?_; rintro e w7 ⟨ao7, z7, cap7, rfl, hs7, hd7, hz7⟩)
              refine wpAny_ready (rs := [30]) (by kernel_rfl) (by simp) (AllReady.cons rfl (fun K hK => ?_) AllReady.nil)
              go_simp
              refine hK _ _ ?_
              clear hK K
              refine wpAny_ready (rs := [33]) (by kernel_rfl) (by simp) (AllReady.cons rfl (fun K hK => ?_) AllReady.nil)
              go_simp
              refine hK _ _ ?_
              clear hK K
              refine wpAny_ready (rs := [34]) (by kernel_rfl) (by simp) (AllReady.cons rfl (fun K hK => ?_) AllReady.nil)
              go_simp
              refine hK _ _ ?_
              clear hK K
              refine wpAny_done (by kernel_rfl) ?_ _
              go_wp2_with fail
              go_meet
              exact ⟨rfl, hd7⟩
          case rest =>
            obtain ⟨rfl, HBC⟩ := hcut
            cases bq with
            | true =>
              go_wp2_with fail
              go_ret2
              obtain ⟨s0, hs0⟩ := HFIN.out HLO.out (by first | rfl | trivial)
              refine ⟨(fun h => by rw [hs0] at h; cases h), fun s hs => ⟨p', _, S, w1.heap.size, rfl, HR.out.below HBC.out, HB1.out.size, (HLOK.out s hs).1, HLO.out, (by rw [HSL.out]; exact hk), fun t ht g hg => Nat.le_trans HB1.out.size (HSG.out t ht g hg)⟩, HBW.out _ HBC.out⟩
            | false =>
              go_wp2_with fail
              go_ret2
              exact ⟨fun _ => rfl, fun s hs => (HNO.out (by first | rfl | trivial) s hs).elim, HBW.out _ HBC.out⟩
        | succ j =>
          subst hkk
          obtain ⟨t, ht⟩ : ∃ t, S[j]? = some t := ⟨S[j]'(by rw [HSL.out]; omega), List.getElem?_eq_getElem _⟩
          obtain ⟨gL, cL, eL, _, hgL, hgp, hta, _, _, _⟩ := HR.out.at ht
          have HLS : Hid (S.getLast? = some t) := by unfold Hid; rw [List.getLast?_eq_getElem?, HSL.out]; exact ht
          rw [HSL.out] at eL
          have hvL2 := hvL
          rw [eL] at hvL
          injection hvL with e1 _ e3
          subst e1; subst e3
          subst hvL2
          have hj1 : IntKind.i64.wrap ((j : Int) + 1 - 1) = (j : Int) := by simp [IntKind.wrap, IntKind.bits, IntKind.signed]; omega
          have hjw : IntKind.i64.wrap (j : Int) = (j : Int) := by simp [IntKind.wrap, IntKind.bits, IntKind.signed]; omega
          have hjc : (j : Int) < (j : Int) + 1 := by omega
          have hj0 : (0 : Int) ≤ (j : Int) := by omega
          have hcc : ∀ p : BlwOf wr, p.v.cell? ⟨p', 0, none⟩ = some (.slice (some ⟨gL, 0, none⟩) (j + 1) cL) := fun p => cell_later p.h c0
          have hct : ∀ p : BlwOf wr, p.v.cell? ⟨gL, j * 2, none⟩ = some (.bool t.1.isSome) := fun p => cell_later p.h hta
          cases ht1 : t.1 with
          | none =>
            rw [ht1] at hct
            simp only [Option.isSome_none] at hct
            have HLN : Hid (¬ LastOk S) := fun h => by have := h t HLS.out; rw [ht1] at this; cases this
            clear hta ht ht1
            go_upto_region 15 with fail
            go_cut [98] (fun t wc => t = .bool true ∧ Hid (Below wr.heap.size wr wc))
            case first =>
              rename_i K2 a4 K1 a3 K0 a2 J K3 a1 a0
              clear a4 a3 a2 HRP HYES HBACK HNX HRW HVB HR HSL HB HBW hk4 hptn hlt hcn hk hxl hb hcx hc HBL HO1 HGX HB0 HR0' HPB HCN HN HX HYX HSU HYL HUL hi1 hy0 hy1 hy2 HEQ HK c0 f0 hcapL hrr HBQ HFIN HNO HLOK HLN HLS HBY hsl hst hgL hgp
              haveI : Inhabited (BlwOf wr) := ⟨⟨wr, Below.refl _ _⟩⟩
              refine wp_region_quiet_blw (by kernel_rfl) (by kernel_rfl) ?_
              repeat (go_big_quiet_step ((go_at_call 23; exact (HLE.out _ (BlwOf.h _)).mono (fun e w6 ⟨h6, hd6⟩ => ⟨h6, ⟨⟨w6, hd6⟩, rfl⟩⟩))))
              refine wpQuiet_nil ?_
              intro w6 hw6
              obtain ⟨⟨wq, hq⟩, rfl⟩ := hw6
              go_wp2_with fail
              go_meet
              exact ⟨rfl, hq⟩
            case rest =>
              obtain ⟨rfl, HBC⟩ := hcut
              go_wp2_with fail
              go_ret2
              exact ⟨fun _ => rfl, fun s hs => (HLN.out (HLOK.out s hs).2).elim, HBW.out _ HBC.out⟩
          | some b0 =>
            rw [ht1] at hct
            simp only [Option.isSome_some] at hct
            have HLO : Hid (LastOk S) := fun s hs => by rw [HLS.out] at hs; rw [← Option.some.inj hs, ht1]; rfl
            have HKT : Hid (∀ w', Below wr.heap.size wr w' → w'.cell? ⟨p', 0, none⟩ = some (.slice (some ⟨gL, 0, none⟩) (j + 1) cL) ∧ w'.cell? ⟨gL, j * 2, none⟩ = some (.bool true) ∧ Sem.run Tryd.prog (convert 29 9 (.slice ao l.length cap)) w' = .ok (.string S2) w' ∧ Below wr.heap.size wr w') := fun w' hw => ⟨hcc ⟨w', hw⟩, hct ⟨w', hw⟩, hsl w' hw, hw⟩
            have hrr : Below wr.heap.size wr wr.drew := (Below.refl _ _).drew
            have hjn : ¬ ((j : Int) < 0) := by omega
            clear hta ht ht1 hsl hcc hct
            go_upto_region 15 with fail
            go_cut [98] (fun t wc => t = .bool (!bq) ∧ Hid (Below wr.heap.size wr wc))
            case first =>
              rename_i K2 a4 K1 a3 K0 a2 J K3 a1 a0
              clear a4 a3 a2 HRP HYES HBACK HNX HRW HVB HR HSL HB HBW hk4 hptn hlt hcn hk hxl hb hcx hc HBL HO1 HGX HB0 HR0' HPB HCN HN HX HYX HSU HYL HUL hi1 hy0 hy1 hy2 HEQ HK c0 f0 hcapL HBQ HFIN HNO HLOK HLO HLS hgL hgp
              go_region_held (fun w' => w'.cell? ⟨p', 0, none⟩ = some (.slice (some ⟨gL, 0, none⟩) (j + 1) cL) ∧ w'.cell? ⟨gL, j * 2, none⟩ = some (.bool true) ∧ Sem.run Tryd.prog (convert 29 9 (.slice ao l.length cap)) w' = .ok (.string S2) w' ∧ Below wr.heap.size wr w') (exact HKT.out _ (by assumption)) (first | (go_at_call 23; refine (HLE.out _ (by assumption)).mono ?_; rintro e w6 ⟨rfl, hd6⟩) | (go_at_call 34; refine (HBY.out _ (by assumption)).mono ?_; rintro e w7 ⟨ao7, z7, cap7, rfl, hs7, hd7, hz7⟩))
              all_goals (go_wp2_with fail; go_meet; exact ⟨rfl, by assumption⟩)
            case rest =>
              obtain ⟨rfl, HBC⟩ := hcut
              cases bq with
              | true =>
                go_wp2_with fail
                go_ret2
                obtain ⟨s0, hs0⟩ := HFIN.out HLO.out (by first | rfl | trivial)
                refine ⟨(fun h => by rw [hs0] at h; cases h), fun s hs => ⟨p', _, S, w1.heap.size, rfl, HR.out.below HBC.out, HB1.out.size, (HLOK.out s hs).1, HLO.out, (by rw [HSL.out]; exact hk), fun t ht g hg => Nat.le_trans HB1.out.size (HSG.out t ht g hg)⟩, HBW.out _ HBC.out⟩
              | false =>
                go_wp2_with fail
                go_ret2
                exact ⟨fun _ => rfl, fun s hs => (HNO.out (by first | rfl | trivial) s hs).elim, HBW.out _ HBC.out⟩
end Go.Proofs.YtpkbdpbggmiolaaDoor
