/-
  How rows goes along the dimensions of a box, by a closure that calls itself. Conditions: what is done with each row has a contract.
-/
import Derived.Test.YtneegijbbbebkaaGLine
namespace Go.Proofs.Ytneegijbbbebkaa
open Go.RowKit Go.Shelf
set_option linter.unusedVariables false
set_option maxRecDepth 100000

/-- What comes of going along the dimensions: f for each tuple, in order. -/
def walkF (f : List Int → List Int → List Int) : List Nat → List Int → List Int → List Int
  | [], p, s => f p s
  | b :: bs, p, s => (List.range b).foldl (fun s (k : Nat) => walkF f bs (p ++ [(k : Int)]) s) s
theorem foldl_range_succ {α : Type} (h : α → Nat → α) (s : α) (k : Nat) : (List.range (k + 1)).foldl h s = h ((List.range k).foldl h s) k := by
  rw [List.range_succ, List.foldl_append]; rfl
/-- A tuple while it is laid: the first numbers, and a 0 at the end. -/
structure Tp (r d : Nat) (p T : List Int) : Prop where
  len : T.length = r
  pre : T.take d = p
  last : ∀ i, r ≤ i + 1 → i < r → T[i]? = some 0
/-- The numbers so far lie in the box. -/
def InB (X p : List Int) : Prop := ∀ (i : Nat) (x y : Int), p[i]? = some x → X[i]? = some y → 0 ≤ x ∧ x < y
theorem tp_zero (r : Nat) : Tp r 0 [] (List.replicate r 0) := ⟨by simp, rfl, fun i _ hi => by rw [List.getElem?_replicate, if_pos hi]⟩
theorem Tp.next {r d : Nat} {p T : List Int} (h : Tp r d p T) (hd : d + 1 < r) (x : Int) : Tp r (d + 1) (p ++ [x]) (T.set d x) := by
  have hl : d < T.length := by rw [h.len]; omega
  refine ⟨by simp [h.len], ?_, fun i h1 h2 => ?_⟩
  · rw [List.take_add_one, List.take_set_of_le (Nat.le_refl d), h.pre, List.getElem?_set_self hl]
    rfl
  · rw [List.getElem?_set_ne (by omega)]
    exact h.last i h1 h2
theorem Tp.back {r d : Nat} {p T : List Int} {x : Int} (h : Tp r (d + 1) (p ++ [x]) T) (hp : p.length = d) : Tp r d p T := by
  refine ⟨h.len, ?_, h.last⟩
  have := congrArg (List.take d) h.pre
  rw [List.take_take, Nat.min_eq_left (by omega), List.take_left' hp] at this
  exact this
theorem InB.next {X p : List Int} {d k b : Nat} (h : InB X p) (hp : p.length = d) (hb : X[d]? = some (b : Int)) (hk : k < b) : InB X (p ++ [(k : Int)]) := fun i x y hx hy => by
  rcases Nat.lt_or_ge i d with h1 | h1
  · rw [List.getElem?_append_left (by omega)] at hx
    exact h i x y hx hy
  · have hi : i = d := by
      have := (List.getElem?_eq_some_iff.1 hx).1
      simp at this
      omega
    subst hi
    rw [List.getElem?_append_right (by omega), hp, Nat.sub_self] at hx
    obtain rfl : (k : Int) = x := by simpa using hx
    rw [hb] at hy
    obtain rfl : (b : Int) = y := by simpa using hy
    omega

theorem walkF_len (f : List Int → List Int → List Int) (X : List Int) (r sl : Nat) (hf : ∀ p s, s.length = sl → p.length + 1 = r ∨ (p = [] ∧ r = 0) → InB X p → (f p s).length = sl) :
    ∀ (bs : List Nat) (d : Nat) (p s : List Int), p.length = d → (d + bs.length + 1 = r ∨ (d = 0 ∧ bs = [] ∧ r = 0)) → (∀ (i : Nat) (b : Nat), bs[i]? = some b → X[d + i]? = some (b : Int)) → InB X p → s.length = sl → (walkF f bs p s).length = sl
  | [], d, p, s, hp, hd, hb, hin, hs => hf p s hs (by
      rcases hd with h | ⟨h1, _, h3⟩
      · left; simp at h; omega
      · right; exact ⟨List.eq_nil_of_length_eq_zero (by omega), h3⟩) hin
  | b :: bs, d, p, s, hp, hd, hb, hin, hs => by
    have hd' : d + (b :: bs).length + 1 = r := by
      rcases hd with h | ⟨_, h2, _⟩
      · exact h
      · cases h2
    have hXd : X[d]? = some (b : Int) := by have := hb 0 b rfl; simpa using this
    have h : ∀ k, k ≤ b → ((List.range k).foldl (fun s (k : Nat) => walkF f bs (p ++ [(k : Int)]) s) s).length = sl := by
      intro k
      induction k with
      | zero => intro _; exact hs
      | succ k ihk =>
        intro hk
        rw [foldl_range_succ]
        refine walkF_len f X r sl hf bs (d + 1) _ _ (by simp [hp]) (.inl (by simp at hd'; omega)) (fun i c h => ?_) (hin.next hp hXd hk) (ihk (by omega))
        have := hb (i + 1) c (by simpa using h)
        rwa [show d + (i + 1) = d + 1 + i by omega] at this
    exact h b (Nat.le_refl _)
def WkP (w : World) (g gt r d : Nat) (p R : List Int) (e : Ending) (w' : World) : Prop := e = .returned (.tuple #[]) ∧ (∃ T, RI w' gt T ∧ Tp r d p T) ∧ Dst w' g R ∧ Kp (fun y => y = g ∨ y = gt) w w'
set_option maxHeartbeats 16000000 in
theorem walk_any (f : List Int → List Int → List Int) (X : List Int) (r n sl g gt bl br btu ble bbx bw bz bt bf : Nat) (xa : Option Addr) (xc : Nat) (Wb : World)
    (hf : ∀ p s, s.length = sl → p.length + 1 = r ∨ (p = [] ∧ r = 0) → InB X p → (f p s).length = sl)
    (hX : X.length = r) (hr4 : r ≤ 4) (hne : g ≠ gt)
    (hc : ∀ w, Kp (fun y => y = g ∨ y = gt) Wb w → w.cell? ⟨bl, 0, none⟩ = some (.int .i64 ((r : Int) - 1)) ∧ w.cell? ⟨br, 0, none⟩ = some (.func (.func 54) #[] #[.pointer (some ⟨bz, 0, none⟩), .pointer (some ⟨bt, 0, none⟩), .pointer (some ⟨bf, 0, none⟩)]) ∧ w.cell? ⟨btu, 0, none⟩ = some (.slice (some ⟨gt, 0, none⟩) r r) ∧ w.cell? ⟨ble, 0, none⟩ = some (.int .i64 (n : Int)) ∧ w.cell? ⟨bbx, 0, none⟩ = some (.slice xa r xc) ∧ w.cell? ⟨bw, 0, none⟩ = some (.func (.func 61) #[] #[.pointer (some ⟨bl, 0, none⟩), .pointer (some ⟨br, 0, none⟩), .pointer (some ⟨btu, 0, none⟩), .pointer (some ⟨ble, 0, none⟩), .pointer (some ⟨bbx, 0, none⟩), .pointer (some ⟨bw, 0, none⟩)]) ∧ Is w (.slice xa r xc) X)
    (hrow : ∀ w p T s, Kp (fun y => y = g ∨ y = gt) Wb w → RI w gt T → Tp r p.length p T → p.length + 1 = r ∨ (p = [] ∧ r = 0) → InB X p → Dst w g s → s.length = sl → Calls Try.prog 54 #[.slice (some ⟨gt, 0, none⟩) r r, .int .i64 (n : Int), .pointer (some ⟨bz, 0, none⟩), .pointer (some ⟨bt, 0, none⟩), .pointer (some ⟨bf, 0, none⟩)] w fun e w' => e = .returned (.tuple #[]) ∧ Dst w' g (f p s) ∧ Kp (fun y => y = g) w w') :
    ∀ (bs : List Nat) (d : Nat) (p T s : List Int) (w : World), p.length = d → (d + bs.length + 1 = r ∨ (d = 0 ∧ bs = [] ∧ r = 0)) → (∀ (i : Nat) (b : Nat), bs[i]? = some b → X[d + i]? = some (b : Int)) → InB X p → Kp (fun y => y = g ∨ y = gt) Wb w → RI w gt T → Tp r d p T → Dst w g s → s.length = sl →
      Calls Try.prog 61 #[.int .i64 (d : Int), .pointer (some ⟨bl, 0, none⟩), .pointer (some ⟨br, 0, none⟩), .pointer (some ⟨btu, 0, none⟩), .pointer (some ⟨ble, 0, none⟩), .pointer (some ⟨bbx, 0, none⟩), .pointer (some ⟨bw, 0, none⟩)] w (WkP w g gt r d p (walkF f bs p s)) := by
  have eg : ∀ args w, (callFunc 54 args).run Try.prog w = .ok (.enter 54 args) w := enters_of Try.func54 (by kernel_rfl) rfl
  have eh : ∀ args w, (callFunc 61 args).run Try.prog w = .ok (.enter 61 args) w := enters_of Try.func61 (by kernel_rfl) rfl
  have HC : Hid _ := hc
  have HROW : Hid _ := hrow
  have HF : Hid _ := hf
  clear hc hrow hf
  intro bs
  induction bs with
  | nil =>
    intro d p T s w hp hd hb hin hJ hT hTp hD hs
    have hp' : p.length + 1 = r ∨ (p = [] ∧ r = 0) := by
      rcases hd with h | ⟨h1, _, h3⟩
      · left; simp at h; omega
      · right; exact ⟨List.eq_nil_of_length_eq_zero (by omega), h3⟩
    obtain ⟨u1, u2, u3, u4, u5, u6, _⟩ := HC.out w hJ
    have HRC : Hid _ := HROW.out w p T s hJ hT (by rw [hp]; exact hTp) hp' hin hD hs
    have HTT : Hid (RI w gt T ∧ Tp r d p T) := ⟨hT, hTp⟩
    have HNE : Hid (g ≠ gt) := hne
    have hge : (r : Int) - 1 ≤ (d : Int) := by rcases hd with h | ⟨h1, _, h3⟩ <;> simp at * <;> omega
    have hde : decide ((r : Int) - 1 ≤ (d : Int)) = true := by simpa using hge
    clear hD hT hTp hin hJ hb hd hp' hne hp hs
    show Calls _ _ _ _ (WkP w g gt r d p (f p s))
    obtain ⟨R, HR⟩ : ∃ R, Hid (f p s = R) := ⟨_, rfl⟩
    rw [HR.out] at HRC ⊢
    go_enter Try.func61, Try.ntmps61
    go_wp2_with (go_at_call 54; refine Calls.mono HRC.out ?_; rintro e w1 ⟨rfl, hd1, hk1⟩; have HD1 : Hid (Dst w1 g R) := hd1; have HK1 : Hid (Kp (fun y => y = g) w w1) := hk1; clear hd1 hk1)
    go_end0
    exact ⟨rfl, ⟨T, HTT.out.1.of_block (HK1.out.block gt HTT.out.1.lt (fun e => HNE.out e.symm)), HTT.out.2⟩, HD1.out, HK1.out.mono (fun _ _ e => .inl e)⟩
  | cons b bs ih =>
    intro d p T s w hp hd hb hin hJ hT hTp hD hs
    have hd' : d + (b :: bs).length + 1 = r := by
      rcases hd with h | ⟨_, h2, _⟩
      · exact h
      · cases h2
    have hXd : X[d]? = some (b : Int) := by have := hb 0 b rfl; simpa using this
    have HB0 : Hid (∀ (i : Nat) (c : Nat), bs[i]? = some c → X[d + 1 + i]? = some (c : Int)) := fun i c h => by
      have := hb (i + 1) c (by simpa using h)
      rwa [show d + (i + 1) = d + 1 + i by omega] at this
    have HIN : Hid (InB X p) := hin
    have HXD : Hid (X[d]? = some (b : Int)) := hXd
    have HP : Hid (p.length = d) := hp
    have hdr : d + 1 < r := by simp at hd'; omega
    have HDR : Hid (d + 1 + bs.length + 1 = r) := by rw [Hid]; simp at hd'; omega
    have HIH : Hid _ := ih
    -- the rounds' states
    obtain ⟨S, hS⟩ : ∃ S : Nat → List Int, S = fun k => (List.range k).foldl (fun s (k : Nat) => walkF f bs (p ++ [(k : Int)]) s) s := ⟨_, rfl⟩
    have HS0 : Hid (S 0 = s) := by rw [hS]; rfl
    have HSS : Hid (∀ k, S (k + 1) = walkF f bs (p ++ [(k : Int)]) (S k)) := fun k => by rw [hS]; exact foldl_range_succ _ _ _
    have HSB : Hid (S b = walkF f (b :: bs) p s) := by rw [hS]; rfl
    have HLEN : Hid (∀ k, k ≤ b → (S k).length = sl) := by
      intro k
      induction k with
      | zero => intro _; rw [HS0.out]; exact hs
      | succ k ihk =>
        intro hk
        rw [HSS.out]
        exact walkF_len f X r sl HF.out bs (d + 1) _ _ (by simp [hp]) (.inl HDR.out) HB0.out (hin.next hp hXd hk) (ihk (by omega))
    rw [← HSB.out]
    have HTT : Hid (RI w gt T ∧ Tp r d p T) := ⟨hT, hTp⟩
    have HD0 : Hid (Dst w g s) := hD
    have HNE : Hid (g ≠ gt) := hne
    have HJ : Hid (Kp (fun y => y = g ∨ y = gt) Wb w) := hJ
    obtain ⟨u1, u2, u3, u4, u5, u6, u7⟩ := HC.out w hJ
    have hde : decide ((r : Int) - 1 ≤ (d : Int)) = false := by simp; omega
    obtain ⟨gx, ox, bb, rfl, hbb, hb64, cb⟩ := u7.at (show d < r by omega)
    obtain rfl : bb = (b : Int) := by rw [HXD.out] at hbb; simpa using hbb.symm
    have hb63 : (b : Int) ≤ 9223372036854775807 := hb64.2
    clear hb64
    have hdl : (d : Int) < (r : Int) := by omega
    have hd0 : (0 : Int) ≤ (d : Int) := by omega
    have hdw : IntKind.i64.wrap ((d : Int) + 1) = ((d + 1 : Nat) : Int) := by rw [wrap_i64_in _ (by omega) (by omega)]; simp
    clear hD hT hTp hin hJ hb hd hd' hne hp hs ih hbb u7 hS hXd
    go_enter Try.func61, Try.ntmps61
    go_wp2_with fail
    go_loopw [20] (fun x wr => ∃ k : Nat, k ≤ b ∧ x = .int .i64 (k : Int) ∧ Hid (∃ T, RI wr gt T ∧ Tp r d p T) ∧ Hid (Dst wr g (S k)) ∧ Hid (Kp (fun y => y = g ∨ y = gt) w wr)) (fun x _ => b - (intOf x).toNat)
    case atStart => exact ⟨0, Nat.zero_le _, rfl, ⟨T, HTT.out⟩, by rw [Hid, HS0.out]; exact HD0.out, Kp.refl _ _⟩
    case round =>
      obtain ⟨k, hkb, rfl, HT, HDD, HK⟩ := hrel
      rename World => w6
      have HJ6 : Hid (Kp (fun y => y = g ∨ y = gt) Wb w6) := HJ.out.trans HK.out (fun _ _ e => e)
      clear u1 u2 u3 u4 u5 u6
      obtain ⟨u1, u2, u3, u4, u5, u6, _⟩ := HC.out w6 HJ6.out
      by_cases hlt : k < b
      · have hkl : (k : Int) < (b : Int) := by omega
        obtain ⟨T6, hT6, hTp6⟩ := HT.out
        obtain ⟨y6, hy6⟩ : ∃ y, T6[d]? = some y := ⟨_, List.getElem?_eq_getElem (by rw [hTp6.len]; omega)⟩
        have q6 := hT6.cell hy6
        have r6 := hT6.free d
        obtain ⟨w7, hw7⟩ : ∃ w7, w6.setCell ⟨gt, d, none⟩ (.int .i64 (k : Int)) = w7 := ⟨_, rfl⟩
        have hT7 : RI w7 gt (T6.set d (k : Int)) := by rw [← hw7]; exact hT6.set d _
        have hK7 : Kp (fun y => y = g ∨ y = gt) w6 w7 := by rw [← hw7]; exact (Kp.refl _ w6).setCell _ (fun _ => .inr rfl)
        have HK7 : Hid (Kp (fun y => y = g ∨ y = gt) w6 w7) := hK7
        have hD7 : Dst w7 g (S k) := by rw [← hw7]; exact HDD.out.of_block (Below.heap_setCell _ _ _ _ HNE.out)
        have hJ7 : Kp (fun y => y = g ∨ y = gt) Wb w7 := HJ6.out.trans hK7 (fun _ _ e => e)
        obtain ⟨v1, v2, v3, v4, v5, v6, _⟩ := HC.out w7 hJ7
        have HREC : Hid _ := (HIH.out (d + 1) (p ++ [(k : Int)]) (T6.set d (k : Int)) (S k) w7 (by rw [List.length_append, HP.out]; rfl) (.inl HDR.out) HB0.out (HIN.out.next HP.out HXD.out hlt) hJ7 hT7 (hTp6.next hdr _) hD7 (HLEN.out k hkb))
        rw [← HSS.out] at HREC
        clear hT6 hTp6 hy6 hT7 hK7 hD7 hJ7
        go_wp2_with (go_at_call 61; refine Calls.mono HREC.out ?_; rintro e w8 ⟨rfl, ⟨T8, hT8, hTp8⟩, hd8, hk8⟩; have HT8 : Hid (∃ T, RI w8 gt T ∧ Tp r d p T) := ⟨T8, hT8, hTp8.back HP.out⟩; have HD8 : Hid (Dst w8 g (S (k + 1))) := hd8; have HK8 : Hid (Kp (fun y => y = g ∨ y = gt) w w8) := (HK.out.trans HK7.out (fun _ _ e => e)).trans hk8 (fun _ _ e => e); clear hT8 hTp8 hd8 hk8)
        go_roundw
        case rel => exact ⟨k + 1, by omega, by simp, HT8.out, HD8.out, HK8.out⟩
        case measure => simp [intOf]; omega
      · obtain rfl : k = b := by omega
        go_wp2_with fail
        go_end0
        exact ⟨rfl, HT.out, HDD.out, HK.out⟩
end Go.Proofs.Ytneegijbbbebkaa
