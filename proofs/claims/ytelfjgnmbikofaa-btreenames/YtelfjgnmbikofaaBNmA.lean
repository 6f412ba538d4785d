/-
  What a put and a drop make of items that rise, in one way alone. No conditions.
  The document's Get, Put of a name that is there, Drop, Span. Conditions: lengths are such as memory bears.
  The document's Span. Conditions: lengths are such as memory bears.
  The tree and the document's list beside each other. Conditions: lengths are such as memory bears.
-/
import Derived.Test.YtelfjgnmbikofaaBNm2
import Derived.Test.YtelfjgnmbikofaaBMix
import Derived.Test.YtelfjgnmbikofaaBNmD
namespace Go.Proofs.Ytelfjgnmbikofaa
open Go.RowKit
set_option linter.unusedVariables false

def ltF (F : List It) (k : ByteArray) : List It := F.filter (fun y => decide (cmpN y.1 k < 0))
def gtF (F : List It) (k : ByteArray) : List It := F.filter (fun y => decide (0 < cmpN y.1 k))
theorem cut_lt {A C : List It} {k : ByteArray} (hA : ∀ a ∈ A, cmpN a.1 k < 0) (hC : ∀ c ∈ C, 0 < cmpN c.1 k) : ltF (A ++ C) k = A ∧ gtF (A ++ C) k = C := by
  unfold ltF gtF
  rw [List.filter_append, List.filter_append]
  have h1 : A.filter (fun y => decide (cmpN y.1 k < 0)) = A := List.filter_eq_self.2 (fun a ha => by simpa using hA a ha)
  have h2 : C.filter (fun y => decide (cmpN y.1 k < 0)) = [] := List.filter_eq_nil_iff.2 (fun c hc => by have := hC c hc; simp; omega)
  have h3 : A.filter (fun y => decide (0 < cmpN y.1 k)) = [] := List.filter_eq_nil_iff.2 (fun a ha => by have := hA a ha; simp; omega)
  have h4 : C.filter (fun y => decide (0 < cmpN y.1 k)) = C := List.filter_eq_self.2 (fun c hc => by simpa using hC c hc)
  rw [h1, h2, h3, h4]
  simp
theorem cut_eq {A C : List It} {k : ByteArray} {v : Int} (hr : Rise (A ++ (k, v) :: C)) : ltF (A ++ (k, v) :: C) k = A ∧ gtF (A ++ (k, v) :: C) k = C := by
  have a1 := List.pairwise_append.1 hr
  have hA : ∀ a ∈ A, cmpN a.1 k < 0 := fun a ha => a1.2.2 a ha (k, v) List.mem_cons_self
  have hC : ∀ c ∈ C, 0 < cmpN c.1 k := fun c hc => by
    have := (List.pairwise_cons.1 a1.2.1).1 c hc
    exact cmpN_pos.2 this
  have h := cut_lt hA hC
  have e : cmpN k k = 0 := cmpN_self k
  unfold ltF gtF at h ⊢
  rw [List.filter_append, List.filter_append] at h ⊢
  rw [List.filter_cons_of_neg (by simp [e]), List.filter_cons_of_neg (by simp [e])]
  exact h
theorem PutF.one {F F1 F2 : List It} {k : ByteArray} {x : Int} {b1 b2 : Bool} (hr : Rise F) (h1 : PutF F k x b1 F1) (h2 : PutF F k x b2 F2) : b1 = b2 ∧ F1 = F2 := by
  have key : ∀ {b : Bool} {F' : List It}, PutF F k x b F' → F' = ltF F k ++ (k, x) :: gtF F k := by
    intro b F' h
    rcases h with ⟨_, A, v, C, e1, e2⟩ | ⟨_, _, A, C, e1, hA, hC, e2⟩
    · subst e1
      obtain ⟨h3, h4⟩ := cut_eq hr
      rw [h3, h4, e2]
    · subst e1
      obtain ⟨h3, h4⟩ := cut_lt hA hC
      rw [h3, h4, e2]
  refine ⟨?_, by rw [key h1, key h2]⟩
  have hno : ∀ {F' F'' : List It}, PutF F k x false F' → PutF F k x true F'' → False := by
    intro F' F'' h h'
    rcases h with ⟨_, A, v, C, e1, _⟩ | ⟨h9, _⟩
    · rcases h' with ⟨h9, _⟩ | ⟨_, h9, _⟩
      · cases h9
      · exact h9 (k, v) (by rw [e1]; simp) (cmpN_self k)
    · cases h9
  cases b1 <;> cases b2
  · rfl
  · exact (hno h1 h2).elim
  · exact (hno h2 h1).elim
  · rfl
theorem Del.one {F F1 F2 : List It} {k : ByteArray} (hr : Rise F) (h1 : Del F k F1) (h2 : Del F k F2) : F1 = F2 := by
  have key : ∀ {F' : List It}, Del F k F' → F' = ltF F k ++ gtF F k := by
    intro F' h
    obtain ⟨A, v, C, e1, e2⟩ := h
    subst e1
    obtain ⟨h3, h4⟩ := cut_eq hr
    rw [h3, h4, e2]
  rw [key h1, key h2]
theorem Del.has {F F' : List It} {k : ByteArray} (h : Del F k F') : ¬ ∀ y ∈ F, cmpN y.1 k ≠ 0 := by
  obtain ⟨A, v, C, e1, _⟩ := h
  intro h9
  exact h9 (k, v) (by rw [e1]; simp) (cmpN_self k)
theorem key_one {F : List It} {k : ByteArray} {u v : Int} (hr : Rise F) (h1 : (k, u) ∈ F) (h2 : (k, v) ∈ F) : u = v := by
  obtain ⟨i, hi⟩ := List.mem_iff_getElem?.1 h1
  obtain ⟨j, hj⟩ := List.mem_iff_getElem?.1 h2
  obtain ⟨a1, a2⟩ := List.getElem?_eq_some_iff.1 hi
  obtain ⟨b1, b2⟩ := List.getElem?_eq_some_iff.1 hj
  rcases Nat.lt_trichotomy i j with h | h | h
  · have := List.pairwise_iff_getElem.1 hr i j a1 b1 h
    rw [a2, b2, cmpN_self] at this
    omega
  · subst h
    rw [hi] at hj
    exact congrArg Prod.snd (Option.some.inj hj)
  · have := List.pairwise_iff_getElem.1 hr j i b1 a1 h
    rw [a2, b2, cmpN_self] at this
    omega
/-- What the place of a name tells. -/
theorem at_yes {F : List It} {k : ByteArray} {i : Nat} (h : isAt F k i = true) : ∃ v A C, F[i]? = some (k, v) ∧ F = A ++ (k, v) :: C ∧ A = F.take i ∧ C = F.drop (i + 1) := by
  obtain ⟨v, hv⟩ := isAt_true h
  obtain ⟨h5, h6⟩ := List.getElem?_eq_some_iff.1 hv
  exact ⟨v, F.take i, F.drop (i + 1), hv, by rw [← h6, List.getElem_cons_drop, List.take_append_drop], rfl, rfl⟩
theorem at_no {F : List It} {k : ByteArray} {i : Nat} (hr : Rise F) (ha : At F k i) (h : isAt F k i = false) : (∀ y ∈ F, cmpN y.1 k ≠ 0) ∧ ∀ x, Ins F k x (F.take i ++ (k, x) :: F.drop i) := by
  have h1 := ha.split.1
  have h2 := isAt_false hr ha h
  refine ⟨fun y hy => ?_, fun x => ⟨F.take i, F.drop i, (List.take_append_drop i F).symm, h1, h2, rfl⟩⟩
  rw [← List.take_append_drop i F] at hy
  rcases List.mem_append.1 hy with h3 | h3
  · have := h1 y h3; omega
  · have := h2 y h3; omega
end Go.Proofs.Ytelfjgnmbikofaa

namespace Go.Proofs.Ytelfjgnmbikofaa
open Go.RowKit
set_option linter.unusedVariables false
set_option maxRecDepth 100000

theorem nm_eq (r : Nat) (vK vV : Value) (F : List It) : NM r vK vV F = NM2 r vK vV (F.map (·.1)) (F.map (·.2)) := rfl
set_option maxHeartbeats 4000000 in
theorem refGet_any {w : World} {B r : Nat} {vK vV : Value} {F : List It} {X : List Pc} (hS : Sep w B (NM r vK vV F ++ X)) (hr : Rise F) (hz : ∀ y ∈ F, y.1.size ≤ 281474976710656) (k : ByteArray) (hk : k.size ≤ 281474976710656) (hn : F.length ≤ 1000000) :
    Calls Try.prog 13 #[.pointer (some ⟨r, 0, none⟩), .string k] w fun e w' => ((∃ v, (k, v) ∈ F ∧ e = .returned (.tuple #[.int .u64 v, .bool true])) ∨ ((∀ y ∈ F, cmpN y.1 k ≠ 0) ∧ e = .returned (.tuple #[.int .u64 0, .bool false]))) ∧ Below w.heap.size w w' := by
  have HA : Hid _ := at_any hS hr hz k hk hn
  have HSw : Hid (Sep w B (NM r vK vV F ++ X)) := hS
  have HR : Hid (Rise F) := hr
  obtain ⟨aoK, capK, aoV, capV, rfl, rfl, _, _, _⟩ := NM.at hS
  have HCG : Hid (∀ (W : World) (i : Nat) (v : Int), Sep W B (NM r (.slice aoK F.length capK) (.slice aoV F.length capV) F ++ X) → F[i]? = some (k, v) → ∃ gv, aoV = some ⟨gv, 0, none⟩ ∧ W.cell? ⟨gv, i, none⟩ = some (.int .u64 v)) := by
    intro W i v hW hv
    obtain ⟨a1, a2, a3, a4, e1, e2, _, _, h9⟩ := NM.at hW
    obtain ⟨gk', gv', f1, f2, _, f3, f4⟩ := h9 i _ hv
    injection e2 with e2a _ _
    exact ⟨gv', by rw [e2a]; exact f2, f3⟩
  clear hS hr hz
  go_enter Try.func13, Try.ntmps13
  go_upto_region 2 with (go_at_call 34; refine Calls.mono HA.out ?_; rintro e w1 ⟨i, rfl, hat, hb1⟩; have HAT : Hid (At F k i) := hat; have HB1 : Hid (Below w.heap.size w w1) := hb1; clear hat hb1)
  obtain ⟨b, HBt⟩ : ∃ b, Hid (isAt F k i = b) := ⟨_, rfl⟩
  rw [HBt.out]
  have HS1 : Hid (Sep w1 B (NM r (.slice aoK F.length capK) (.slice aoV F.length capV) F ++ X)) := HSw.out.below HB1.out
  have q1 := (NM.k HS1.out).2.1
  cases b with
  | false =>
    have HNO : Hid (∀ y ∈ F, cmpN y.1 k ≠ 0) := (at_no HR.out HAT.out HBt.out).1
    go_wp2_with fail
    go_ret2
    exact ⟨.inr ⟨HNO.out, rfl⟩, HB1.out⟩
  | true =>
    obtain ⟨v, A, C, hv, _, _, _⟩ := at_yes HBt.out
    obtain ⟨gv, rfl, c2⟩ := HCG.out w1 i v HS1.out hv
    have HIN : Hid ((k, v) ∈ F) := List.mem_of_getElem? hv
    have hlt := (List.getElem?_eq_some_iff.1 hv).1
    obtain ⟨n, HN⟩ : ∃ n, Hid (F.length = n) := ⟨_, rfl⟩
    rw [HN.out] at q1 hlt
    have hlti : (i : Int) < (n : Int) := by omega
    clear hv HCG
    go_wp2_with fail
    go_ret2
    exact ⟨.inl ⟨v, HIN.out, rfl⟩, HB1.out⟩
theorem gcU_set (l : List Int) : ∀ (i : Nat) (x : Int), gc encU (l.set i x) = (gc encU l).set i (.int .u64 x) := by
  induction l with
  | nil => intro i x; rfl
  | cons y l ih =>
    intro i x
    cases i with
    | zero => rfl
    | succ i =>
      have h1 : gc encU (y :: l.set i x) = encU y ++ gc encU (l.set i x) := by rw [← List.singleton_append, gc_append, gc_one]
      have h2 : gc encU (y :: l) = encU y ++ gc encU l := by rw [← List.singleton_append, gc_append, gc_one]
      show gc encU (y :: l.set i x) = (gc encU (y :: l)).set (i + 1) _
      rw [h1, h2, ih]
      rfl
set_option maxHeartbeats 4000000 in
theorem refPut_same {w : World} {B r i : Nat} {vK vV : Value} {F : List It} {X : List Pc} (hS : Sep w B (NM r vK vV F ++ X)) (hB : B ≤ w.heap.size) (k : ByteArray) (x v : Int) (hv : F[i]? = some (k, v)) (hn : F.length ≤ 60000)
    (hat : Calls Try.prog 34 #[.pointer (some ⟨r, 0, none⟩), .string k] w fun e w' => e = .returned (.tuple #[.int .i64 (i : Int), .bool true]) ∧ Below w.heap.size w w') :
    Calls Try.prog 11 #[.pointer (some ⟨r, 0, none⟩), .string k, .int .u64 x] w fun e w' => e = .returned (.tuple #[.bool false, .int .i64 0]) ∧ Sep w' B (NM r vK vV (F.set i (k, x)) ++ X) ∧ Below B w w' := by
  have HAT : Hid _ := hat
  have HSw : Hid (Sep w B (NM r vK vV F ++ X)) := hS
  obtain ⟨aoK, capK, aoV, capV, rfl, rfl, _, _, hc⟩ := NM.at hS
  obtain ⟨gk, gv, rfl, rfl, _, _, _⟩ := hc i _ hv
  have hlt := (List.getElem?_eq_some_iff.1 hv).1
  have HFIN : Hid (∀ W, Sep W B (NM r (.slice (some ⟨gk, 0, none⟩) F.length capK) (.slice (some ⟨gv, 0, none⟩) F.length capV) F ++ X) → Sep (W.setCell ⟨gv, i, none⟩ (.int .u64 x)) B (NM r (.slice (some ⟨gk, 0, none⟩) F.length capK) (.slice (some ⟨gv, 0, none⟩) F.length capV) (F.set i (k, x)) ++ X)) := by
    intro W hW
    have h1 : Sep W B ([nmO r (.slice (some ⟨gk, 0, none⟩) F.length capK) (.slice (some ⟨gv, 0, none⟩) F.length capV), rowS (.slice (some ⟨gk, 0, none⟩) F.length capK) (F.map (fun x : It => x.1))] ++ .row 31 1 (.slice (some ⟨gv, 0, none⟩) F.length capV) F.length (gc encU (F.map (fun x : It => x.2))) :: X) := by
      have h9 : Sep W B ([nmO r (.slice (some ⟨gk, 0, none⟩) F.length capK) (.slice (some ⟨gv, 0, none⟩) F.length capV), rowS (.slice (some ⟨gk, 0, none⟩) F.length capK) (F.map (fun x : It => x.1))] ++ .row 31 1 (.slice (some ⟨gv, 0, none⟩) F.length capV) (F.map (fun x : It => x.2)).length (gc encU (F.map (fun x : It => x.2))) :: X) := hW
      rw [List.length_map] at h9
      exact h9
    have h2 := h1.storeRow _ i (.int .u64 x)
    have e1 : (F.set i (k, x)).map (fun x : It => x.1) = F.map (fun x : It => x.1) := by
      rw [List.map_set]
      have hk : (F.map (fun x : It => x.1))[i]? = some k := by rw [List.getElem?_map, hv]; rfl
      obtain ⟨h5, h6⟩ := List.getElem?_eq_some_iff.1 hk
      show (F.map (fun x : It => x.1)).set i k = _
      rw [← h6, List.set_getElem_self]
    have e2 : gc encU ((F.set i (k, x)).map (fun x : It => x.2)) = (gc encU (F.map (fun x : It => x.2))).set i (.int .u64 x) := by rw [List.map_set, gcU_set]
    have e3 : NM r (.slice (some ⟨gk, 0, none⟩) F.length capK) (.slice (some ⟨gv, 0, none⟩) F.length capV) (F.set i (k, x)) ++ X = [nmO r (.slice (some ⟨gk, 0, none⟩) F.length capK) (.slice (some ⟨gv, 0, none⟩) F.length capV), rowS (.slice (some ⟨gk, 0, none⟩) F.length capK) (F.map (fun x : It => x.1))] ++ .row 31 1 (.slice (some ⟨gv, 0, none⟩) F.length capV) F.length ((gc encU (F.map (fun x : It => x.2))).set i (.int .u64 x)) :: X := by
      unfold NM rowU
      rw [e1, e2, List.length_map, List.length_set]
      rfl
    rw [e3]
    exact h2
  have HGV : Hid (B ≤ gv) := by
    obtain ⟨_, _, _, h3, _, _⟩ := NM.k hS
    exact (World.ownsRow.lt h3 gv rfl).1
  have HC : Hid (∀ W, Sep W B (NM r (.slice (some ⟨gk, 0, none⟩) F.length capK) (.slice (some ⟨gv, 0, none⟩) F.length capV) F ++ X) → W.cell? ⟨r, 1, none⟩ = some (.slice (some ⟨gv, 0, none⟩) F.length capV) ∧ W.cell? ⟨gv, i, none⟩ = some (.int .u64 v) ∧ W.frozen? ⟨gv, i, none⟩ = false) := by
    intro W hW
    obtain ⟨a1, a2, a3, a4, e1, e2, _, _, h9⟩ := NM.at hW
    obtain ⟨gk', gv', f1, f2, _, f3, f4⟩ := h9 i _ hv
    injection e2 with e2a _ _
    rw [← e2a] at f2
    injection f2 with f2
    injection f2 with f2 _ _
    subst f2
    exact ⟨(NM.k hW).2.1, f3, f4⟩
  obtain ⟨n, HN⟩ : ∃ n, Hid (F.length = n) := ⟨_, rfl⟩
  rw [HN.out] at HSw HFIN HC hlt hn ⊢
  have hlti : (i : Int) < (n : Int) := by omega
  clear hS hat hc hv
  go_enter Try.func11, Try.ntmps11
  go_wp2_with (go_at_call 34; refine Calls.mono HAT.out ?_; rintro e w1 ⟨rfl, hb1⟩; have HS1 : Hid (Sep w1 B (NM r (.slice (some ⟨gk, 0, none⟩) n capK) (.slice (some ⟨gv, 0, none⟩) n capV) F ++ X)) := HSw.out.below hb1; have HB1 : Hid (Below B w w1) := hb1.mono hB; obtain ⟨c1, c2, c3⟩ := HC.out w1 HS1.out; clear hb1)
  go_ret2
  exact ⟨rfl, HFIN.out w1 HS1.out, HB1.out.setCell HGV.out _⟩
set_option maxHeartbeats 4000000 in
theorem refDrop_no {w : World} {B r i : Nat} {vK vV : Value} {F : List It} {X : List Pc} (hS : Sep w B (NM r vK vV F ++ X)) (k : ByteArray)
    (hat : Calls Try.prog 34 #[.pointer (some ⟨r, 0, none⟩), .string k] w fun e w' => e = .returned (.tuple #[.int .i64 (i : Int), .bool false]) ∧ Below w.heap.size w w') :
    Calls Try.prog 15 #[.pointer (some ⟨r, 0, none⟩), .string k] w fun e w' => e = .returned (.bool false) ∧ Below w.heap.size w w' := by
  have HAT : Hid _ := hat
  clear hS hat
  go_enter Try.func15, Try.ntmps15
  go_wp2_with (go_at_call 34; refine Calls.mono HAT.out ?_; rintro e w1 ⟨rfl, hb1⟩; have HB1 : Hid (Below w.heap.size w w1) := hb1; clear hb1)
  go_ret
  exact ⟨rfl, HB1.out⟩
end Go.Proofs.Ytelfjgnmbikofaa

namespace Go.Proofs.Ytelfjgnmbikofaa
open Go.RowKit
set_option linter.unusedVariables false
set_option maxRecDepth 100000

theorem spanF_take {lo hi : ByteArray} {F : List It} {i : Nat} {y : It} (h : F[i]? = some y) : spanF lo hi (F.take (i + 1)) = spanF lo hi (F.take i) ++ (if 0 ≤ cmpN y.1 lo ∧ cmpN y.1 hi < 0 then [y] else []) := by
  rw [List.take_add_one, h, spanF_append]
  congr 1
  show spanF lo hi [y] = _
  unfold spanF
  by_cases h1 : 0 ≤ cmpN y.1 lo ∧ cmpN y.1 hi < 0
  · rw [if_pos h1, List.filter_cons_of_pos (by simp [h1.1, h1.2])]; rfl
  · rw [if_neg h1, List.filter_cons_of_neg (by simp; intro h2; have : ¬ cmpN y.1 hi < 0 := fun h3 => h1 ⟨h2, h3⟩; omega)]; rfl
set_option maxHeartbeats 4000000 in
theorem refSpan_any {w : World} {B r : Nat} {vK vV : Value} {F : List It} {X : List Pc} (hS : Sep w B (NM r vK vV F ++ X)) (hB : B ≤ w.heap.size) (hz : ∀ y ∈ F, y.1.size ≤ 281474976710656) (sl sh : ByteArray) (hl : sl.size ≤ maxLen) (hh : sh.size ≤ maxLen) (hn : F.length ≤ 100000) :
    Calls Try.prog 20 #[.pointer (some ⟨r, 0, none⟩), .string sl, .string sh] w fun e w' => ∃ vO, e = .returned vO ∧ Sep w' B (rowS vO ((spanF sl sh F).map (·.1)) :: (NM r vK vV F ++ X)) ∧ Below B w w' := by
  obtain ⟨i1, hi1, hy0, hy1, hy2⟩ := info_partsG Try.infoS
  have HCM : Hid (∀ (y : It), y ∈ F → ∀ W, Calls Try.prog 22 #[.string y.1, .string sl] W fun e w' => e = .returned (.int .i64 (cmpN y.1 sl)) ∧ Below W.heap.size W w') := fun y hy W => refCmpN_any y.1 sl W (by have := hz y hy; unfold maxLen; omega) (by assumption)
  have HCH : Hid (∀ (y : It), y ∈ F → ∀ W, Calls Try.prog 22 #[.string y.1, .string sh] W fun e w' => e = .returned (.int .i64 (cmpN y.1 sh)) ∧ Below W.heap.size W w') := fun y hy W => refCmpN_any y.1 sh W (by have := hz y hy; unfold maxLen; omega) (by assumption)
  obtain ⟨aoK, capK, aoV, capV, rfl, rfl, _, _, _⟩ := NM.at hS
  obtain ⟨Z, HZ⟩ : ∃ Z, Hid (NM r (.slice aoK F.length capK) (.slice aoV F.length capV) F ++ X = Z) := ⟨_, rfl⟩
  have HXN : Hid (∀ W, Sep W B Z → W.cell? ⟨r, 0, none⟩ = some (.slice aoK F.length capK) ∧ ∀ (i : Nat) (y : It), F[i]? = some y → ∃ gk, aoK = some ⟨gk, 0, none⟩ ∧ W.cell? ⟨gk, i, none⟩ = some (.string y.1)) := by
    intro W hW
    rw [← HZ.out] at hW
    refine ⟨(NM.k hW).1, fun i y hy => ?_⟩
    obtain ⟨a1, a2, a3, a4, e1, e2, _, _, h9⟩ := NM.at hW
    obtain ⟨gk', gv', f1, f2, f3, _, _⟩ := h9 i _ hy
    injection e1 with e1a _ _
    exact ⟨gk', by rw [e1a]; exact f1, f3⟩
  have HS0 : Hid (Sep w B (rowS (.slice none 0 0) [] :: Z)) := by unfold Hid; rw [← HZ.out]; exact hS.nil _ _
  rw [HZ.out]
  obtain ⟨n, HN⟩ : ∃ n, Hid (F.length = n) := ⟨_, rfl⟩
  have HSL : Hid (∀ i, (spanF sl sh (F.take i)).length ≤ 100000) := fun i => Nat.le_trans (spanF_len ..) (by rw [List.length_take]; omega)
  rw [HN.out] at hn HXN
  clear hS hz
  go_enter Try.func20, Try.ntmps20
  go_wp2_with fail
  go_loopw [8, 7] (fun x y wr => ∃ (i : Nat) (aoY : Option Addr) (capY kk : Nat) (KK : List ByteArray), i ≤ n ∧ x = .int .i64 (i : Int) ∧ y = .slice aoY kk capY ∧ Hid (KK.length = kk) ∧ Hid (KK = (spanF sl sh (F.take i)).map (·.1)) ∧ Hid (Sep wr B (rowS (.slice aoY kk capY) KK :: Z)) ∧ Hid (Below B w wr)) (fun x _ _ => n - (intOf x).toNat)
  case atStart => exact ⟨0, none, 0, 0, [], Nat.zero_le _, rfl, rfl, rfl, rfl, HS0.out, Below.refl _ _⟩
  case round =>
    obtain ⟨i, aoY, capY, kk, KK, hin, rfl, rfl, HKK, HKe, HSr, HBr⟩ := hrel
    clear HS0
    obtain ⟨r0, hcell⟩ := HXN.out wr HSr.out.tail
    by_cases hlt : i < n
    · obtain ⟨y, hy⟩ : ∃ y, F[i]? = some y := ⟨F[i]'(by rw [HN.out]; exact hlt), List.getElem?_eq_getElem _⟩
      obtain ⟨gk, rfl, c0⟩ := hcell i y hy
      have HSP : Hid _ := spanF_take (lo := sl) (hi := sh) hy
      have HC1 : Hid _ := HCM.out y (List.mem_of_getElem? hy) wr
      have HC2 : Hid (∀ W, Calls Try.prog 22 #[.string y.1, .string sh] W fun e w' => e = .returned (.int .i64 (cmpN y.1 sh)) ∧ Below W.heap.size W w') := HCH.out y (List.mem_of_getElem? hy)
      have HY : Hid (F[i]? = some y) := hy
      have hkk : kk ≤ 100000 := by rw [← HKK.out, HKe.out, List.length_map]; exact HSL.out i
      obtain ⟨c1, HCa⟩ : ∃ c1, Hid (cmpN y.1 sl = c1) := ⟨_, rfl⟩
      obtain ⟨c2, HCb⟩ : ∃ c2, Hid (cmpN y.1 sh = c2) := ⟨_, rfl⟩
      rw [HCa.out] at HC1 HSP
      rw [HCb.out] at HC2 HSP
      have hili : (i : Int) < (n : Int) := by omega
      have HON : Hid (∀ u ∈ encS y.1, u.oneCell' = true) := fun u hu => one_gcS [y.1] u (by rw [gc_one]; exact hu)
      clear hcell hy
      by_cases h1 : 0 ≤ c1
      · by_cases h2 : c2 < 0
        · have HNE : Hid (KK ++ [y.1] = (spanF sl sh (F.take (i + 1))).map (·.1)) := by unfold Hid; rw [HSP.out, if_pos ⟨h1, h2⟩, List.map_append, HKe.out]; rfl
          go_wp2_with (first
            | (have hg := HB2; clear hg; at_builtin; refine wpList_append_G _ rfl (.tmp 40) (.tmp 48) 26 rfl 9 i1 Try.underlying26 hi1 _ hy0 1 16 hy1 hy2 rfl (by omega) B (.slice aoY kk capY) kk (gc encS KK) ⟨w2.heap.size, 0, none⟩ 1 1 (encS y.1) rfl rfl HRW.out rfl (news_one HGX.out) HON.out (by omega) (by omega) (by omega) (Nat.le_trans hB HBB.out.size) ?_; intro g3 cap3 w3 ho3 hg3 ha3; have HS3 : Hid (Sep w3 B (.row 9 1 (.slice (some ⟨g3, 0, none⟩) (kk + 1) cap3) (kk + 1) (gc encS KK ++ encS y.1) :: Z)) := Sep.turn [] (v := .slice aoY kk capY) (n := KK.length) (xs := gc encS KK) HS3a.out ho3 hg3 (ha3.elim (fun e => Or.inl e.symm) (fun e => Or.inr (by intro x hx; simp [Value.ownBlock] at hx; rw [← hx, e]; exact Nat.le_refl _))); have HB3 : Hid (Below B w w3) := below_gr HBB.out (Nat.le_trans hB HBB.out.size) HRW.out hg3; clear ho3 hg3 ha3)
            | (have hg := HB1; clear hg; go_at_call 22; refine Calls.mono (HC2.out _) ?_; rintro e w2 ⟨rfl, hb2⟩; have HB2 : Hid (Below B w w2) := HB1.out.trans (hb2.mono (Nat.le_trans hB HB1.out.size)); have HS2 : Hid (Sep w2 B (rowS (.slice aoY kk capY) KK :: Z)) := HS1.out.below hb2; obtain ⟨r2, hc2⟩ := HXN.out w2 HS2.out.tail; obtain ⟨gk2, hg2, c02⟩ := hc2 i y HY.out; cases hg2; have HBA : Hid (Below w2.heap.size w2 (w2.alloc (.cells #[.string y.1] 9))) := (Below.refl _ _).alloc (Nat.le_refl _) _; have HGX : Hid ((w2.alloc (.cells #[.string y.1] 9)).heap[w2.heap.size]? = some (.cells #[.string y.1] 9 (0, 0))) := heap_alloc_new w2 _; have HS3a : Hid (Sep (w2.alloc (.cells #[.string y.1] 9)) B (rowS (.slice aoY kk capY) KK :: Z)) := HS2.out.below HBA.out; have HRW : Hid ((w2.alloc (.cells #[.string y.1] 9)).ownsRow B 9 1 (.slice aoY kk capY) kk (gc encS KK)) := (by have h := HS3a.out.at_ (rowS (.slice aoY kk capY) KK) (List.Mem.head _); have h' : (w2.alloc (.cells #[.string y.1] 9)).ownsRow B 9 1 (.slice aoY kk capY) KK.length (gc encS KK) := h; rw [HKK.out] at h'; exact h'); have HBB : Hid (Below B w (w2.alloc (.cells #[.string y.1] 9))) := HB2.out.trans (HBA.out.mono (Nat.le_trans hB HB2.out.size)); clear hb2 hc2)
            | (go_at_call 22; refine Calls.mono HC1.out ?_; rintro e w1 ⟨rfl, hb1⟩; have HB1 : Hid (Below B w w1) := HBr.out.trans (hb1.mono (Nat.le_trans hB HBr.out.size)); have HS1 : Hid (Sep w1 B (rowS (.slice aoY kk capY) KK :: Z)) := HSr.out.below hb1; obtain ⟨r1, hc1⟩ := HXN.out w1 HS1.out.tail; obtain ⟨gk1, hg1, c01⟩ := hc1 i y HY.out; cases hg1; clear hb1 hc1))
          go_roundw
          case rel =>
            refine ⟨i + 1, some ⟨g3, 0, none⟩, cap3, kk + 1, KK ++ [y.1], by omega, by simp, rfl, ?_, HNE.out, ?_, HB3.out⟩
            · unfold Hid; rw [List.length_append, HKK.out]; rfl
            · unfold Hid rowS
              rw [gc_append, gc_one, List.length_append, HKK.out]
              exact HS3.out
          case measure => simp [intOf]; omega
        · have HNE : Hid (KK = (spanF sl sh (F.take (i + 1))).map (·.1)) := by unfold Hid; rw [HSP.out, if_neg (fun h => h2 h.2), List.append_nil]; exact HKe.out
          go_wp2_with (first
            | (have hg := HB1; clear hg; go_at_call 22; refine Calls.mono (HC2.out _) ?_; rintro e w2 ⟨rfl, hb2⟩; have HB2 : Hid (Below B w w2) := HB1.out.trans (hb2.mono (Nat.le_trans hB HB1.out.size)); have HS2 : Hid (Sep w2 B (rowS (.slice aoY kk capY) KK :: Z)) := HS1.out.below hb2; clear hb2)
            | (go_at_call 22; refine Calls.mono HC1.out ?_; rintro e w1 ⟨rfl, hb1⟩; have HB1 : Hid (Below B w w1) := HBr.out.trans (hb1.mono (Nat.le_trans hB HBr.out.size)); have HS1 : Hid (Sep w1 B (rowS (.slice aoY kk capY) KK :: Z)) := HSr.out.below hb1; obtain ⟨r1, hc1⟩ := HXN.out w1 HS1.out.tail; obtain ⟨gk1, hg1, c01⟩ := hc1 i y HY.out; cases hg1; clear hb1 hc1))
          go_roundw
          case rel => exact ⟨i + 1, aoY, capY, kk, KK, by omega, by simp, rfl, HKK.out, HNE.out, HS2.out, HB2.out⟩
          case measure => simp [intOf]; omega
      · have HNE : Hid (KK = (spanF sl sh (F.take (i + 1))).map (·.1)) := by unfold Hid; rw [HSP.out, if_neg (fun h => h1 h.1), List.append_nil]; exact HKe.out
        go_wp2_with (go_at_call 22; refine Calls.mono HC1.out ?_; rintro e w1 ⟨rfl, hb1⟩; have HB1 : Hid (Below B w w1) := HBr.out.trans (hb1.mono (Nat.le_trans hB HBr.out.size)); have HS1 : Hid (Sep w1 B (rowS (.slice aoY kk capY) KK :: Z)) := HSr.out.below hb1; clear hb1)
        go_roundw
        case rel => exact ⟨i + 1, aoY, capY, kk, KK, by omega, by simp, rfl, HKK.out, HNE.out, HS1.out, HB1.out⟩
        case measure => simp [intOf]; omega
    · obtain rfl : i = n := by omega
      have hii : ¬ (i : Int) < (i : Int) := by omega
      have HE : Hid (KK = (spanF sl sh F).map (·.1)) := by have h := HKe.out; rwa [List.take_of_length_le (by rw [HN.out]; exact Nat.le_refl _)] at h
      clear hcell
      go_wp2_with fail
      go_ret
      refine ⟨_, rfl, ?_, HBr.out⟩
      rw [← HE.out]
      exact HSr.out
end Go.Proofs.Ytelfjgnmbikofaa

namespace Go.Proofs.Ytelfjgnmbikofaa
open Go.RowKit
set_option linter.unusedVariables false
set_option maxRecDepth 100000

theorem At.one {F : List It} {k : ByteArray} {i j : Nat} (h1 : At F k i) (h2 : At F k j) : i = j := by
  rcases Nat.lt_trichotomy i j with h | h | h
  · exfalso
    have hl : i < F.length := Nat.lt_of_lt_of_le h h2.1
    have hx : F[i]? = some F[i] := List.getElem?_eq_getElem hl
    have := (h1.2 i _ hx).2 ((h2.2 i _ hx).1 h)
    omega
  · exact h
  · exfalso
    have hl : j < F.length := Nat.lt_of_lt_of_le h h1.1
    have hx : F[j]? = some F[j] := List.getElem?_eq_getElem hl
    have := (h2.2 j _ hx).2 ((h1.2 j _ hx).1 h)
    omega
theorem At.is {F : List It} (hr : Rise F) (k : ByteArray) : ∃ i, At F k i := by
  induction F with
  | nil => exact ⟨0, Nat.le_refl _, fun i x hx => by simp at hx⟩
  | cons y F ih =>
    have hc := List.pairwise_cons.1 hr
    by_cases h : cmpN y.1 k < 0
    · obtain ⟨i, hi⟩ := ih hc.2
      refine ⟨i + 1, by rw [List.length_cons]; have := hi.1; omega, fun j x hx => ?_⟩
      cases j with
      | zero =>
        have e : y = x := by simpa using hx
        subst e
        exact ⟨fun _ => h, fun _ => by omega⟩
      | succ j =>
        have := hi.2 j x (by simpa using hx)
        exact ⟨fun h2 => this.1 (by omega), fun h2 => by have := this.2 h2; omega⟩
    · refine ⟨0, Nat.zero_le _, fun j x hx => ⟨fun h2 => by omega, fun h2 => ?_⟩⟩
      exfalso
      cases j with
      | zero =>
        have e : y = x := by simpa using hx
        subst e
        exact h h2
      | succ j =>
        have hm : x ∈ F := List.mem_of_getElem? (by simpa using hx)
        exact h (cmpN_trans (hc.1 x hm) h2)
/-- Where a name is, told as one number. -/
theorem at_fix {w : World} {B r : Nat} {vK vV : Value} {F : List It} {X : List Pc} (hS : Sep w B (NM r vK vV F ++ X)) (hr : Rise F) (hz : ∀ y ∈ F, y.1.size ≤ 281474976710656) (k : ByteArray) (hk : k.size ≤ 281474976710656) (hn : F.length ≤ 1000000) {i : Nat} (hi : At F k i) :
    Calls Try.prog 34 #[.pointer (some ⟨r, 0, none⟩), .string k] w fun e w' => e = .returned (.tuple #[.int .i64 (i : Int), .bool (isAt F k i)]) ∧ Below w.heap.size w w' := by
  refine (at_any hS hr hz k hk hn).mono ?_
  rintro e w' ⟨j, rfl, hj, hb⟩
  obtain rfl := hj.one hi
  exact ⟨rfl, hb⟩
theorem map_cut {α : Type} (f : It → α) (F : List It) (i : Nat) : (F.take i ++ F.drop (i + 1)).map f = (F.map f).take i ++ (F.map f).drop (i + 1) := by
  rw [List.map_append, List.map_take, List.map_drop]
theorem refDrop_any {w : World} {B r : Nat} {vK vV : Value} {F : List It} {X : List Pc} (hS : Sep w B (NM r vK vV F ++ X)) (hB : B ≤ w.heap.size) (hr : Rise F) (hz : ∀ y ∈ F, y.1.size ≤ 281474976710656) (k : ByteArray) (hk : k.size ≤ 281474976710656) (hn : F.length ≤ 60000) :
    Calls Try.prog 15 #[.pointer (some ⟨r, 0, none⟩), .string k] w fun e w' => ((e = .returned (.bool true) ∧ ∃ F' vK' vV', Del F k F' ∧ Sep w' B (NM r vK' vV' F' ++ X)) ∨ ((∀ y ∈ F, cmpN y.1 k ≠ 0) ∧ e = .returned (.bool false) ∧ Sep w' B (NM r vK vV F ++ X))) ∧ Below B w w' := by
  obtain ⟨i, hi⟩ := At.is hr k
  have ha := at_fix hS hr hz k hk (by omega) hi
  cases hb : isAt F k i with
  | true =>
    rw [hb] at ha
    obtain ⟨v, A, C, hv, hF, hA, hC⟩ := at_yes hb
    have hlt := (List.getElem?_eq_some_iff.1 hv).1
    obtain ⟨aoK, capK, aoV, capV, rfl, rfl, _, _, _⟩ := NM.at hS
    refine (refDrop_yes (w := w) (B := B) (r := r) (n := F.length) (i := i) (Ks := F.map (fun x : It => x.1)) (Vs := F.map (fun x : It => x.2)) (X := X) hS hB (by simp) (by simp) hlt (by omega) k ha).mono ?_
    rintro e w' ⟨rfl, ⟨vK, vV, hs⟩, hbl⟩
    refine ⟨.inl ⟨rfl, F.take i ++ F.drop (i + 1), vK, vV, ⟨A, v, C, hF, by rw [hA, hC]⟩, ?_⟩, hbl⟩
    rw [nm_eq, map_cut, map_cut]
    exact hs
  | false =>
    rw [hb] at ha
    refine (refDrop_no hS k ha).mono ?_
    rintro e w' ⟨rfl, hbl⟩
    exact ⟨.inr ⟨(at_no hr hi hb).1, rfl, hS.below hbl⟩, hbl.mono hB⟩
/-- The tree's own pieces apart from the others. -/
theorem BT.focus {w : World} {B p q most : Nat} {F : List It} {R : List Pc} (h : BT w B p q most F R) : ∃ X, Sep w B (R ++ X) ∧ ∀ w' R', Sep w' B (R' ++ X) → BT w' B p q most F R' := by
  obtain ⟨⟨h, t, lo, hS, h1⟩, hR⟩ := h
  refine ⟨pcs (h + 1) (up1 t) ++ [treeO p q most, keptO q t.n F.length], hS.perm ?_, fun w' R' hW => ⟨⟨h, t, lo, hW.perm ?_, h1⟩, hR⟩⟩
  · classical
    refine List.perm_iff_count.2 (fun a => ?_)
    simp only [List.count_append, List.count_cons, List.count_nil]
    omega
  · classical
    refine List.perm_iff_count.2 (fun a => ?_)
    simp only [List.count_append, List.count_cons, List.count_nil]
    omega
/-- A tree and the document's list of the same items, beside other pieces. -/
def Nm (w0 w : World) (most p q r c : Nat) (Y : List Pc) : Prop := ∃ F vK vV, BT w w0.heap.size p q most F (NM r vK vV F ++ Y) ∧ F.length ≤ c ∧ (∀ y ∈ F, y.1.size ≤ 281474976710656) ∧ Below w0.heap.size w0 w
theorem Nm.below {w0 w w' : World} {most p q r c : Nat} {Y : List Pc} (h : Nm w0 w most p q r c Y) (hb : Below w.heap.size w w') : Nm w0 w' most p q r c Y := by
  obtain ⟨F, vK, vV, h1, h2, h3, h4⟩ := h
  exact ⟨F, vK, vV, h1.below hb, h2, h3, h4.trans (hb.mono h4.size)⟩
theorem Nm.up {w0 w : World} {most p q r c c' : Nat} {Y : List Pc} (h : Nm w0 w most p q r c Y) (hc : c ≤ c') : Nm w0 w most p q r c' Y := by
  obtain ⟨F, vK, vV, h1, h2, h3, h4⟩ := h
  exact ⟨F, vK, vV, h1, by omega, h3, h4⟩
theorem Nm.bel {w0 w : World} {most p q r c : Nat} {Y : List Pc} (h : Nm w0 w most p q r c Y) : Below w0.heap.size w0 w := by
  obtain ⟨F, vK, vV, h1, h2, h3, h4⟩ := h
  exact h4
/-- Other pieces come and go. -/
theorem Nm.swap {w0 w w' : World} {most p q r c : Nat} {Y Y' : List Pc} (h : Nm w0 w most p q r c Y) (hb : Below w0.heap.size w w') (hs : ∀ X, Sep w w0.heap.size (Y ++ X) → Sep w' w0.heap.size (Y' ++ X)) : Nm w0 w' most p q r c Y' := by
  obtain ⟨F, vK, vV, h1, h2, h3, h4⟩ := h
  obtain ⟨X, hS, hback⟩ := h1.focus
  refine ⟨F, vK, vV, hback w' _ ?_, h2, h3, h4.trans hb⟩
  have e1 : List.Perm (NM r vK vV F ++ Y ++ X) (Y ++ (NM r vK vV F ++ X)) := by
    classical
    refine List.perm_iff_count.2 (fun a => ?_)
    simp only [List.count_append]
    omega
  have e2 : List.Perm (Y' ++ (NM r vK vV F ++ X)) (NM r vK vV F ++ Y' ++ X) := by
    classical
    refine List.perm_iff_count.2 (fun a => ?_)
    simp only [List.count_append]
    omega
  exact (hs _ (hS.perm e1)).perm e2
theorem Nm.pc {w0 w : World} {most p q r c g : Nat} {a : Array Value} {T : TypeId} {Y : List Pc} (h : Nm w0 w most p q r c Y) (hm : Pc.obj g a T ∈ Y) : w.heap[g]? = some (.cells a T (0, 0)) := by
  obtain ⟨F, vK, vV, h1, h2, h3, h4⟩ := h
  obtain ⟨X, hS, _⟩ := h1.focus
  exact hS.obj (List.mem_append_left _ (List.mem_append_right _ hm))
end Go.Proofs.Ytelfjgnmbikofaa
