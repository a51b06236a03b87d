/-
  What is proved here: a bundle with just the needs that it lacks is a bundle, lacks just these, and meets its needs if there are none; a bundle without needs meets them.
-/
import Derived.Test.YtofflhhlacdgfaaDoorJM25
namespace Go.Proofs.YtofflhhlacdgfaaDoor
open Go.RowKit
set_option linter.unusedVariables false

abbrev nLt (a b : NeedM) : Prop := needLt a.o a.f a.t a.k b.o b.f b.t b.k
theorem nLt_tr {a b c : NeedM} (h : nLt a b) (k : nLt b c) : nLt a c := by
  unfold nLt needLt at *
  omega
theorem ns_asc {ns : List NeedM} (h : ∀ i, i < ns.length → nOkAt ns i) : ns.Pairwise nLt := by
  have key : ∀ d i, i + d + 1 < ns.length → nLt (ns.getD i nz) (ns.getD (i + d + 1) nz) := by
    intro d
    induction d with
    | zero =>
      intro i hi
      exact (h (i + 0 + 1) hi).2 (by omega)
    | succ d ih =>
      intro i hi
      exact nLt_tr (ih i (by omega)) ((h (i + (d + 1) + 1) hi).2 (by omega))
  rw [List.pairwise_iff_getElem]
  intro i j hi hj hij
  have h1 := key (j - i - 1) i (by omega)
  rw [show i + (j - i - 1) + 1 = j by omega] at h1
  simpa [List.getD_eq_getElem?_getD, hi, hj] using h1
theorem ns_back {ns : List NeedM} (hp : ns.Pairwise nLt) (hg : ∀ a ∈ ns, needOk a.o a.f a.t a.k) : ∀ i, i < ns.length → nOkAt ns i := by
  intro i hi
  have e : ∀ j, (hj : j < ns.length) → ns.getD j nz = ns[j] := fun j hj => by rw [List.getD_eq_getElem?_getD, List.getElem?_eq_getElem hj]; rfl
  refine ⟨?_, fun h0 => ?_⟩
  · rw [e i hi]
    exact hg _ (List.getElem_mem hi)
  · have := List.pairwise_iff_getElem.1 hp (i - 1) i (by omega) hi (by omega)
    rw [e i hi, e (i - 1) (by omega)]
    exact this
/-- The bundle with other needs. -/
abbrev withN (B : BunM) (ns : List NeedM) : BunM := ⟨B.d, B.n, B.f, B.ps, ns⟩
theorem bOk_sub {B : BunM} (h : bOk B = true) {L : List NeedM} (hL : L.Sublist B.ns) : bOk (withN B L) = true := by
  rw [bOk_iff] at h ⊢
  obtain ⟨h1, h2, h3⟩ := h
  refine ⟨⟨h1.1, h1.2.1, h1.2.2.1, h1.2.2.2.1, ?_⟩, h2, ?_⟩
  · have := hL.length_le
    have := h1.2.2.2.2
    show L.length ≤ 8
    omega
  · refine ns_back ((ns_asc h3).sublist hL) (fun a ha => ?_)
    obtain ⟨i, hi, e⟩ := List.mem_iff_getElem.1 (hL.subset ha)
    have := (h3 i hi).1
    rw [List.getD_eq_getElem?_getD, List.getElem?_eq_getElem hi] at this
    rw [← e]
    exact this
theorem lkB_sub {B : BunM} (h : bOk B = true) : (lkB B).Sublist B.ns := by
  unfold lkB
  rw [if_pos h]
  exact List.filter_sublist
theorem lk_lack {B : BunM} (h : bOk B = true) : lkB (withN B (lkB B)) = lkB B := by
  have h2 := bOk_sub h (lkB_sub h)
  have e : lkB B = lkN B.ps B.ns := if_pos h
  rw [show lkB (withN B (lkB B)) = lkN B.ps (lkB B) from if_pos h2, e]
  unfold lkN
  rw [List.filter_filter]
  congr 1
  funext q
  simp
theorem mt_len {B : BunM} (h : bOk B = true) : mtB B = decide ((lkB B).length = 0) := by
  unfold mtB
  rw [h, Bool.true_and, Bool.eq_iff_iff, decide_eq_true_eq]
  exact (lk_nil h).symm
theorem mt_none {B : BunM} (h : bOk B = true) : mtB (withN B []) = true := by
  rw [mt_len (bOk_sub h (List.nil_sublist _))]
  have : lkB (withN B []) = [] := by
    rw [show lkB (withN B []) = lkN B.ps [] from if_pos (bOk_sub h (List.nil_sublist _))]
    rfl
  rw [this]
  rfl
theorem mt_lack {B : BunM} (h : bOk B = true) : mtB (withN B (lkB B)) = decide ((lkB B).length = 0) := by
  rw [mt_len (bOk_sub h (lkB_sub h)), lk_lack h]
end Go.Proofs.YtofflhhlacdgfaaDoor
