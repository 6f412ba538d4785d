/-
  The size of a type, in plain words: as the program goes; noSize is 0. No conditions.
-/
import Derived.Test.YtojcokdfplldbaaDNum
namespace Go.Proofs.Ytojcokdfplldbaa
set_option linter.unusedVariables false

/-- The end of fields, from one on: none, if one does not fit. (sz: the size of a field's type.) -/
def endF {α : Type} (sz : α → Int) (wd : Int) : Int → List (ByteArray × Int × α) → Option Int
  | e, [] => some e
  | e, q :: l => if sz q.2.2 = 0 ∨ ¬ (e ≤ q.2.1 ∧ q.2.1 ≤ wd - sz q.2.2) then none else endF sz wd (q.2.1 + sz q.2.2) l
def cmpSz {α : Type} (sz : α → Int) (wd : Int) (fs : List (ByteArray × Int × α)) : Int :=
  if (1 ≤ wd ∧ wd ≤ 256) ∧ namesB (fs.map (·.1)) = true then (match endF sz wd 0 fs with | some _ => wd | none => 0) else 0
/-- The size of so many of so many. -/
def dimF : Int → List Int → Int
  | s, [] => s
  | s, d :: l => if (1 ≤ d ∧ d ≤ 256) ∧ s * d ≤ 256 then dimF (s * d) l else 0
def arrSz {α : Type} (sz : α → Int) (ds : List Int) (bs : List α) : Int :=
  match bs with
  | [t] => if 1 ≤ ds.length ∧ ds.length ≤ 4 then dimF (sz t) ds else 0
  | _ => 0
/-- Values that are numbers of a type, and all unlike. -/
def valsTo (c wd : Int) (L : List Int) : Nat → Bool
  | 0 => true
  | i + 1 => valsTo c wd L i && (match L[i]? with | some v => !(L.take i).any (fun x => x == v) && fitV c wd v | none => true)
def enSz {α : Type} (sz : α → Int) (h : α → Int × Int × Bool) (bs : List α) (ns : List (ByteArray × Int)) : Int :=
  match bs with
  | [t] => if namesB (ns.map (·.1)) = true ∧ sz t ≠ 0 ∧ ((h t).1 = 1 ∨ (h t).1 = 2) ∧ valsTo (h t).1 (h t).2.1 (ns.map (·.2)) ns.length = true then sz t else 0
  | _ => 0
/-- A number's size. -/
def numSz (c wd : Int) : Int :=
  if c = 1 ∨ c = 2 then (if 1 ≤ wd ∧ wd ≤ 8 then wd else 0)
  else if c = 3 then (if wd = 4 ∨ wd = 8 then wd else 0)
  else if c = 4 then (if wd = 4 ∨ wd = 8 then 2 * wd else 0)
  else 0
/-- The size of a type at a depth, 0 if it may not be. -/
def sz : (n : Nat) → Ty n → Nat → Int
  | 0, _, _ => 0
  | n + 1, T, d =>
    if 4 < d ∨ ownB (TyN.c T) (TyN.w T) (TyN.b T) (TyN.fs T).length (TyN.ds T).length (TyN.bs T).length (TyN.ns T).length = false then 0
    else if TyN.c T = 5 then cmpSz (fun t => sz n t (d + 1)) (TyN.w T) (TyN.fs T)
    else if TyN.c T = 6 then arrSz (fun t => sz n t (d + 1)) (TyN.ds T) (TyN.bs T)
    else if TyN.c T = 7 then enSz (fun t => sz n t (d + 1)) hd (TyN.bs T) (TyN.ns T)
    else numSz (TyN.c T) (TyN.w T)
theorem dimF_rng : ∀ (l : List Int) (s : Int), 0 ≤ s → s ≤ 256 → 0 ≤ dimF s l ∧ dimF s l ≤ 256
  | [], s, h1, h2 => ⟨h1, h2⟩
  | d :: l, s, h1, h2 => by
    rw [dimF]
    split
    · rename_i h
      exact dimF_rng l _ (Int.mul_nonneg h1 (by omega)) h.2
    · omega
theorem numSz_rng (c wd : Int) : 0 ≤ numSz c wd ∧ numSz c wd ≤ 256 := by
  unfold numSz
  repeat' split
  all_goals omega
theorem cmpSz_rng {α : Type} (f : α → Int) (wd : Int) (fs : List (ByteArray × Int × α)) : 0 ≤ cmpSz f wd fs ∧ cmpSz f wd fs ≤ 256 := by
  unfold cmpSz
  split
  · rename_i h
    split <;> omega
  · omega
theorem arrSz_rng {α : Type} (f : α → Int) (hf : ∀ t, 0 ≤ f t ∧ f t ≤ 256) (ds : List Int) (bs : List α) : 0 ≤ arrSz f ds bs ∧ arrSz f ds bs ≤ 256 := by
  unfold arrSz
  split
  · split
    · exact dimF_rng _ _ (hf _).1 (hf _).2
    · omega
  · omega
theorem enSz_rng {α : Type} (f : α → Int) (hf : ∀ t, 0 ≤ f t ∧ f t ≤ 256) (h : α → Int × Int × Bool) (bs : List α) (ns : List (ByteArray × Int)) : 0 ≤ enSz f h bs ns ∧ enSz f h bs ns ≤ 256 := by
  unfold enSz
  split
  · split
    · exact hf _
    · omega
  · omega
theorem sz_rng : ∀ (n : Nat) (T : Ty n) (d : Nat), 0 ≤ sz n T d ∧ sz n T d ≤ 256
  | 0, _, _ => ⟨Int.le_refl _, by rw [sz]; omega⟩
  | n + 1, T, d => by
    rw [sz]
    split
    · omega
    · split
      · exact cmpSz_rng _ _ _
      · split
        · exact arrSz_rng _ (fun t => sz_rng n t (d + 1)) _ _
        · split
          · exact enSz_rng _ (fun t => sz_rng n t (d + 1)) _ _ _
          · exact numSz_rng _ _
end Go.Proofs.Ytojcokdfplldbaa
