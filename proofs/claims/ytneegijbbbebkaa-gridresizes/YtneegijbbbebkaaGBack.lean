/-
  What was cut and is pasted again changes nothing, in plain words. Conditions: the lists fit.
-/
import Derived.Test.YtneegijbbbebkaaGBoxF
import Derived.Test.YtneegijbbbebkaaGPaste
namespace Go.Proofs.Ytneegijbbbebkaa
open Go.RowKit
set_option linter.unusedVariables false
set_option maxRecDepth 100000

/-- The places of a chunk's part within the extent. -/
def InP (D S C : List Int) (r z m : Nat) : Prop := ∃ (u : List Int) (k : Nat), u.length = r ∧ InB (clB D S C) u ∧ k < z ∧ m = (plc D (addL (clS D S C) u)).toNat * z + k
theorem pas_wr {data chunk D S C : List Int} {r z : Nat} (bx1 : BoxIn S (List.replicate r 0) (clB D S C) r) (bx2 : BoxIn D (clS D S C) (clB D S C) r) (hz : 1 ≤ z) (hd : (data.length : Int) = prd D * z) (hc : (chunk.length : Int) = prd S * z) :
    Wr (Vx D (clS D S C) S (List.replicate r 0) chunk (clB D S C) r z) data (pasR data chunk D S C z) (InP D S C r z) := by
  rw [pasR, bx1.d]
  exact box_wr bx2 bx1 rfl hd hc hz
theorem cut_wr {data fill D S C : List Int} {r z : Nat} (bx1 : BoxIn S (List.replicate r 0) (clB D S C) r) (bx2 : BoxIn D (clS D S C) (clB D S C) r) (hz : 1 ≤ z) (hd : (data.length : Int) = prd D * z) (hf : fill.length = z) (eS : elN S = prd S) (pS : 0 ≤ prd S) :
    Wr (Vx S (List.replicate r 0) D (clS D S C) data (clB D S C) r z) (repL (elN S).toNat fill) (cutR data fill D S C z) (fun m => ∃ u k, u.length = r ∧ InB (clB D S C) u ∧ k < z ∧ m = (plc S (addL (List.replicate r 0) u)).toNat * z + k) ∧ ((cutR data fill D S C z).length : Int) = prd S * z := by
  have lS : ((repL (elN S).toNat fill).length : Int) = prd S * z := by rw [repL_len, hf, eS, Int.natCast_mul]; congr 1; omega
  have h := box_wr (z := z) bx1 bx2 rfl lS hd hz
  rw [cutR, bx1.d]
  exact ⟨h, by rw [h.len]; exact lS⟩
theorem paste_cut {d e fill D S C : List Int} {r z : Nat} (bx1 : BoxIn S (List.replicate r 0) (clB D S C) r) (bx2 : BoxIn D (clS D S C) (clB D S C) r) (hz : 1 ≤ z) (hd : (d.length : Int) = prd D * z) (he : (e.length : Int) = prd D * z) (hf : fill.length = z) (eS : elN S = prd S) (pS : 0 ≤ prd S)
    (hag : ∀ m, ¬ InP D S C r z m → d[m]? = e[m]?) : pasR d (cutR e fill D S C z) D S C z = e := by
  obtain ⟨wc, lc⟩ := cut_wr bx1 bx2 hz he hf eS pS
  have wp := pas_wr bx1 bx2 hz hd lc
  refine List.ext_getElem? (fun m => ?_)
  by_cases hm : InP D S C r z m
  · have hm' := hm
    obtain ⟨u, k, hu, hb, hk, rfl⟩ := hm'
    rw [wp.yes _ hm u k hu hb hk rfl]
    exact wc.yes _ ⟨u, k, hu, hb, hk, rfl⟩ u k hu hb hk rfl
  · rw [wp.no m hm]
    exact hag m hm
/-- What lies beyond the chunk is as it was. -/
theorem pas_out {data chunk D S C : List Int} {r z : Nat} (bx1 : BoxIn S (List.replicate r 0) (clB D S C) r) (bx2 : BoxIn D (clS D S C) (clB D S C) r) (hz : 1 ≤ z) (hd : (data.length : Int) = prd D * z) (hc : (chunk.length : Int) = prd S * z) :
    (∀ m, ¬ InP D S C r z m → (pasR data chunk D S C z)[m]? = data[m]?) ∧ ((pasR data chunk D S C z).length : Int) = prd D * z := by
  have h := pas_wr bx1 bx2 hz hd hc
  exact ⟨h.no, by rw [h.len]; exact hd⟩
end Go.Proofs.Ytneegijbbbebkaa
