/-
  The walk of thingsOf, its loop. Conditions: bytes are bytes, lengths such as memory bears.
-/
import Derived.Test.YtpkbdpbggmiolaaDoorHThings
namespace Go.Proofs.YtpkbdpbggmiolaaDoor
open Go.RowKit Go.Maps
set_option linter.unusedVariables false
set_option maxRecDepth 100000

/-- What the bytes hold, if a heap has them. -/
def thRes (l : List Int) : Option ThS :=
  if getErr l.length 0 4 = 0 then
    (match thK l (getNum l 0 4 true).toNat with
    | some s => if s.p = l.length ∧ s.la = getNum l 0 4 true - 1 then some s else none
    | none => none)
  else none
/-- The blocks of the things lie in memory. -/
def Inm (lo : Nat) (w : World) (T : Int → Option (List Int)) (D : DataW Value) : Prop := ∀ i b v, T i = some b → D.atKey (ky i) .nil = .held v → ∀ g, v.ownBlock = some g → lo ≤ g ∧ g < w.heap.size
theorem Inm.below {lo : Nat} {w w' : World} {T : Int → Option (List Int)} {D : DataW Value} (h : Inm lo w T D) (hs : w.heap.size ≤ w'.heap.size) : Inm lo w' T D := fun i b v h1 h2 g h3 => ⟨(h i b v h1 h2 g h3).1, Nat.lt_of_lt_of_le (h i b v h1 h2 g h3).2 hs⟩
set_option maxHeartbeats 4000000 in
theorem things_any (v : Value) (l : List Int) (w : World) (hl : Bs w v l) (hb : l.length ≤ 140737488351232) (hby : Byt l) :
    Calls Tryd.prog 26 #[v] w fun e w' => (thRes l = none → e = .returned (.tuple #[.map none, .bool false])) ∧ (∀ s, thRes l = some s → ∃ m D, e = .returned (.tuple #[.map (some m), .bool true]) ∧ w.heap.size ≤ m ∧ MP w' m s.c s.T D ∧ Inm w.heap.size w' s.T D) ∧ Below w.heap.size w w' := by
  have HG : Hid _ := get_any v l 0 4 true w hl hb hby
  have HL : Hid (Bs w v l) := hl
  have HBY : Hid (Byt l) := hby
  obtain ⟨n, HN⟩ : ∃ n, Hid (l.length = n) := ⟨_, rfl⟩
  obtain ⟨ao, cap, rfl, hc, _, _⟩ := hl
  have hmm := @run_makeMap Tryd.prog
  by_cases hE : getErr l.length 0 4 = 0
  · have hnb : 0 ≤ getNum l 0 4 true ∧ getNum l 0 4 true < 4294967296 := by
      have h1 := getNum_bounds hby 0 4 true
      refine ⟨h1.1, ?_⟩
      unfold getNum
      rw [if_pos hE]
      have hle : ((l.drop (0 : Int).toNat).take (4 : Int).toNat).length ≤ 4 := by simp; omega
      have h4 := num_bounds (byt_reverse (byt_take hby (0 : Int).toNat (4 : Int).toNat)) ((l.drop (0 : Int).toNat).take (4 : Int).toNat).length
      have h5 : (256 : Int) ^ ((l.drop (0 : Int).toNat).take (4 : Int).toNat).length ≤ 4294967296 := by
        generalize ((l.drop (0 : Int).toNat).take (4 : Int).toNat).length = j at hle
        rcases (by omega : j = 0 ∨ j = 1 ∨ j = 2 ∨ j = 3 ∨ j = 4) with rfl | rfl | rfl | rfl | rfl <;> decide
      show num _ _ < _
      exact Int.lt_of_lt_of_le h4.2 h5
    obtain ⟨u, hu⟩ := Int.eq_ofNat_of_zero_le hnb.1
    have HU : Hid (getNum l 0 4 true = (u : Int)) := hu
    rw [hE, hu] at HG
    rw [HN.out] at hc HL HG hb ⊢
    have hub : (u : Int) < 4294967296 := by omega
    have HEE : Hid (getErr l.length 0 4 = 0) := hE
    clear hu hnb hby hE
    go_enter Tryd.func26, Tryd.ntmps26
    go_wp2_with (first
      | (go_at_call 37; refine Calls.mono HG.out ?_; rintro e w1 ⟨rfl, hb1⟩; have HB1 : Hid (Below w.heap.size w w1) := hb1; clear hb1))
    obtain ⟨m, Hm⟩ : ∃ m, Hid (w1.heap.size = m) := ⟨_, rfl⟩
    rw [Hm.out]
    have HM0 : Hid (MP (w1.alloc (.map #[] 0)) m 0 (fun _ => none) (.map [])) := by
      rw [← Hm.out]
      exact ⟨World.ownsMap_made w1 Tryd.prog 3 Rv, rfl, (fun i b h => by cases h), (fun i _ => rfl)⟩
    have HBm : Hid (Below w.heap.size w (w1.alloc (.map #[] 0))) := HB1.out.alloc HB1.out.size _
    have Hwm : Hid (w.heap.size ≤ m) := by rw [← Hm.out]; exact HB1.out.size
    have HRN : Hid (∀ k, k ≤ u → thK l k = none → thRes l = none) := fun k hk h => by
      unfold thRes
      rw [HU.out, Int.toNat_natCast, thK_none h u hk]
      simp
    go_loopw [7, 8, 23] (fun x y i wr => ∃ (k c p : Nat) (la : Int) (T : Int → Option (List Int)) (D : DataW Value), k ≤ u ∧ i = .int .i64 (k : Int) ∧ x = .int .i64 la ∧ y = .int .i64 (p : Int) ∧ Hid (thK l k = some ⟨T, c, la, p⟩) ∧ Hid (MP wr m c T D) ∧ Hid (Inm w.heap.size wr T D) ∧ Hid (Below w.heap.size w wr)) (fun _ _ i _ => u - (intOf i).toNat)
    case atStart => exact ⟨0, 0, 4, -1, _, _, Nat.zero_le _, by simp, rfl, by simp, rfl, HM0.out, (fun i b v h => by cases h), HBm.out⟩
    case round =>
      obtain ⟨k, c, p, la, T, D, hk, rfl, rfl, rfl, HK, HM, HI, HB⟩ := hrel
      obtain ⟨fT, fc, fl0, fl1, fp⟩ := thK_facts HBY.out k _ HK.out
      simp only at fT fc fl0 fl1 fp
      rw [HN.out] at fp
      have HFT : Hid (∀ i b, T i = some b → 0 ≤ i ∧ i < k) := fT
      clear fT
      by_cases hlt : k < u
      · have hLr := HL.out.below HB.out
        cases he : entAt l p with
        | none =>
          have HE : Hid _ := ent_none hLr (by rw [HN.out]; exact hb) HBY.out (by omega) he
          have HR : Hid (thRes l = none) := HRN.out (k + 1) hlt (by rw [thK, HK.out]; simp [thStep, he])
          clear he hLr
          go_wp2_with (go_at_call 39; refine Calls.mono HE.out ?_; rintro e w2 ⟨rfl, hb2⟩; have HB2 : Hid (Below w.heap.size w w2) := HB.out.trans (hb2.mono HB.out.size); clear hb2)
          go_ret2
          exact ⟨fun _ => rfl, (fun s hs => by rw [HR.out] at hs; cases hs), HB2.out⟩
        | some r =>
          obtain ⟨ox, q⟩ := r
          have hq1 : ((q : Int) == -1) = false := by simp
          cases ox with
          | none =>
            obtain ⟨hql, hE⟩ := ent_absent hLr (by rw [HN.out]; exact hb) he
            have HE : Hid _ := hE
            have HK2 : Hid (thK l (k + 1) = some ⟨T, c, la, q⟩) := by unfold Hid; rw [thK, HK.out]; simp [thStep, he]
            clear he hLr hE
            go_wp2_with (go_at_call 39; refine Calls.mono HE.out ?_; rintro e w2 ⟨rfl, hb2⟩; have HM2 : Hid (MP w2 m c T D) := HM.out.below hb2; have HI2 : Hid (Inm w.heap.size w2 T D) := HI.out.below hb2.size; have HB2 : Hid (Below w.heap.size w w2) := HB.out.trans (hb2.mono HB.out.size); clear hb2)
            go_roundw
            case rel => exact ⟨k + 1, c, q, la, T, D, hlt, by simp, rfl, rfl, HK2.out, HM2.out, HI2.out, HB2.out⟩
            case measure => simp [intOf]; omega
          | some x =>
            obtain ⟨⟨hql, hxl, hxb⟩, hE⟩ := ent_thing hLr (by rw [HN.out]; exact hb) HBY.out he
            have HE : Hid _ := hE
            by_cases h65 : c = 65536
            · have HR : Hid (thRes l = none) := HRN.out (k + 1) hlt (by rw [thK, HK.out]; simp [thStep, he, h65])
              subst h65
              clear he hLr hE
              go_wp2_with (go_at_call 39; refine Calls.mono HE.out ?_; rintro e w2 ⟨u2, rfl, hf2, hb2⟩; have hln := (HM.out.below hb2).map.len Tryd.underlying57 3; rw [HM.out.sz] at hln; have HB2 : Hid (Below w.heap.size w w2) := HB.out.trans (hb2.mono HB.out.size); clear hb2 hf2)
              go_ret2
              exact ⟨fun _ => rfl, (fun s hs => by rw [HR.out] at hs; cases hs), HB2.out⟩
            · have HK2 : Hid (thK l (k + 1) = some ⟨putT T k (some x), c + 1, k, q⟩) := by unfold Hid; rw [thK, HK.out]; simp [thStep, he, h65]
              have HTN : Hid (T (k : Int) = none) := by
                cases hT : T (k : Int) with
                | none => rfl
                | some b => have := HFT.out _ _ hT; omega
              have h65i : ((c : Int) == 65536) = false := by simp; omega
              have HXB : Hid (x.length ≤ 65536 ∧ Byt x) := ⟨hxl, hxb⟩
              have HCM : Hid (c < maxLen) := by unfold Hid maxLen; omega
              clear he hLr hE h65
              go_wp2_with (first
                | (go_at_call 39; refine Calls.mono HE.out ?_; rintro e w2 ⟨u2, rfl, hf2, hb2⟩; have hln := (HM.out.below hb2).map.len Tryd.underlying57 3; rw [HM.out.sz] at hln; have HM2 : Hid (MP w2 m c T D) := HM.out.below hb2; have HI2 : Hid (Inm w.heap.size w2 T D) := HI.out.below hb2.size; have HF2 : Hid (Fr w2 wr.heap.size u2 x) := hf2; have HB2 : Hid (Below w.heap.size w w2) := HB.out.trans (hb2.mono HB.out.size); have HmW : Hid (m < wr.heap.size) := HM.out.map.lt; clear hb2 hf2)
                | (at_mapUpdate; refine wpList_mapUpdate_in _ rfl _ _ _ 57 rfl 3 29 Tryd.keyed Tryd.underlying57 Rv m c D rfl HM2.out.map HCM.out _ _ _ rfl rfl (key_mk (i := (k : Int)) (by omega) (by omega)) (.held u2) [] rfl ?_; intro w3 ho3 ht3; have HM3 : Hid (MP w3 m (c + 1) (putT T k (some x)) (D.put (ky k) (.held u2))) := HM2.out.put k u2 x HTN.out HF2.out.bs HXB.out.2 HXB.out.1 (fun g hg e => by have := HF2.out.lt g hg; have := HmW.out; omega) ho3 ht3; have HB3 : Hid (Below w.heap.size w w3) := HB2.out.grown ht3.grown HB2.out.size (fun j hj => by cases hj; exact Hwm.out); have HI3 : Hid (Inm w.heap.size w3 (putT T k (some x)) (D.put (ky k) (.held u2))) := (fun i b v hT hat g hg => by
                    have hs3 := ht3.grown.size
                    by_cases e : i = (k : Int)
                    · subst e
                      rw [atKey_put_same HM2.out.map.isMap (ky_key _)] at hat
                      injection hat with hat
                      subst hat
                      have h8 := HF2.out.lt g hg
                      have h9 := HB.out.size
                      omega
                    · rw [putT_other T _ e] at hT
                      rw [atKey_put_other (ky_ne e)] at hat
                      have := HI2.out i b v hT hat g hg
                      omega); clear ho3 ht3))
              go_roundw
              case rel => exact ⟨k + 1, c + 1, q, k, _, _, hlt, by simp, rfl, rfl, HK2.out, HM3.out, HI3.out, HB3.out⟩
              case measure => simp [intOf]; omega
      · obtain rfl : k = u := by omega
        by_cases hend : p = n ∧ la = (k : Int) - 1
        · have HR : Hid (thRes l = some ⟨T, c, la, p⟩) := by
            unfold Hid thRes
            rw [if_pos HEE.out, HU.out, Int.toNat_natCast, HK.out]
            simp only [HN.out]
            rw [if_pos hend]
          obtain ⟨rfl, rfl⟩ := hend
          go_wp2
          go_ret2
          exact ⟨(fun hs => by rw [HR.out] at hs; cases hs), (fun s hs => by rw [HR.out] at hs; cases hs; exact ⟨m, D, rfl, Hwm.out, HM.out, HI.out⟩), HB.out⟩
        · have HR : Hid (thRes l = none) := by
            unfold Hid thRes
            rw [if_pos HEE.out, HU.out, Int.toNat_natCast, HK.out]
            simp only [HN.out]
            rw [if_neg hend]
          by_cases hpn : p = n
          · have hla : ¬ la = (k : Int) - 1 := fun e => hend ⟨hpn, e⟩
            subst hpn
            go_upto_region 17 with fail
            obtain ⟨kI, hkI⟩ : ∃ kI, (k : Int) = kI := ⟨_, rfl⟩
            obtain ⟨kJ, hkJ⟩ : ∃ kJ, kI - 1 = kJ := ⟨_, rfl⟩
            have hk0 : 0 ≤ kI := by omega
            have hsub : IntKind.i64.wrap (kI - 1) = kJ := by rw [← hkJ]; simp [IntKind.wrap, IntKind.bits, IntKind.signed]; omega
            rw [hkI] at hla hub ⊢
            rw [hkJ] at hla
            clear hend fc fl0 fl1 fp hb hc hlt hkI
            go_wp2
            go_ret2
            exact ⟨fun _ => rfl, (fun s hs => by rw [HR.out] at hs; cases hs), HB.out⟩
          · have hpn2 : ((p : Int) == (n : Int)) = false := by simp; omega
            obtain ⟨pI, hpI⟩ : ∃ pI, (p : Int) = pI := ⟨_, rfl⟩
            rw [hpI] at hpn2 ⊢
            have hne : ¬ pI = (n : Int) := by simpa using hpn2
            clear hend hpn fc fl0 fl1 fp hb hc hpI hlt hpn2
            go_wp2
            go_ret2
            exact ⟨fun _ => rfl, (fun s hs => by rw [HR.out] at hs; cases hs), HB.out⟩
  · have HR : Hid (thRes l = none) := by unfold Hid thRes; rw [if_neg hE]
    obtain ⟨er, HER⟩ : ∃ er, Hid (getErr l.length 0 4 = er) := ⟨_, rfl⟩
    rw [HER.out] at HG hE
    rw [HN.out] at hc HG ⊢
    have h3 : (er == 0) = false := by simpa using hE
    go_enter Tryd.func26, Tryd.ntmps26
    go_wp2_with (go_at_call 37; refine Calls.mono HG.out ?_; rintro e w1 ⟨rfl, hb1⟩; have HB1 : Hid (Below w.heap.size w w1) := hb1; clear hb1)
    go_ret2
    exact ⟨fun _ => rfl, (fun s hs => by rw [HR.out] at hs; cases hs), HB1.out⟩
end Go.Proofs.YtpkbdpbggmiolaaDoor
