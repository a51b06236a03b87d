/-
  What is proved here: the summary of a state, behind a head, comes to the same state, as plain data; no program is spoken of.
-/
import Derived.Test.YtjceajgefpinpaaC1d
import Derived.Test.YtjceajgefpinpaaZa1
namespace Go.Proofs.Ytjceajgefpinpaa
open Go.RowKit
set_option maxRecDepth 100000
set_option maxHeartbeats 2000000
set_option linter.unusedVariables false

theorem foT_ok {l : List Rc} (h : (foT l).2 = true) : (foT l).1.Ok := by
  unfold foT at h ⊢
  split at h
  · next hc =>
    rw [if_pos hc]
    unfold foL at h ⊢
    split at h
    · next hg =>
      rw [if_pos hg]
      exact foS_ok hc.2 hg _ (by have := hg.1; omega)
    · cases h
  · cases h
theorem foT_no {l : List Rc} (h : (foT l).2 = false) : (foT l).1 = bz := by
  unfold foT at h ⊢
  split at h
  · next hc =>
    rw [if_pos hc]
    unfold foL at h ⊢
    split at h
    · cases h
    · next hg => rw [if_neg hg]
  · next hc => rw [if_neg hc]
theorem foT_of {l : List Rc} (h32 : l.length ≤ 32) (ha : foAll l) (hg : foGood l) : foT l = (foS l (l.length - 2), true) := by
  unfold foT
  rw [if_pos ⟨h32, ha⟩]
  unfold foL
  rw [if_pos hg]
abbrev rHead (x : Int) : Rc := ⟨1, 0, x, 0⟩
theorem smL_ok {s : Bt} (hs : s.Ok) : smL s.b s.n s.f s.t s.i s.o = smR s.b s.n s.f s.t s.i s.o := if_pos hs
theorem smR_ok {b n f i o : Int} {t : Bool} (h : btOk b n f t i o) : (∀ r ∈ smR b n f t i o, r.Ok) ∧ (smR b n f t i o).length ≤ 5 ∧ 1 ≤ (smR b n f t i o).length := by
  obtain ⟨h1, h2, h3, h4⟩ := h
  cases t
  · refine ⟨?_, by simp [smR], by simp [smR]⟩
    intro r hr
    simp [smR] at hr
    subst hr
    show rcOk 2 b n f
    exact .inr (.inl ⟨rfl, h1, h2, h3⟩)
  · rw [if_pos rfl] at h4
    refine ⟨?_, ?_, by simp [smR]⟩
    · intro r hr
      simp [smR] at hr
      rcases hr with rfl | rfl | ⟨_, rfl⟩
      · exact .inr (.inl ⟨rfl, by dsimp only; omega, h4.2, h3⟩)
      · exact .inr (.inr (.inl ⟨rfl, h1, h2, rfl⟩))
      · exact .inr (.inr (.inr (.inr ⟨.inl rfl, rfl, rfl, rfl⟩)))
    · simp [smR]
      omega
theorem fold_sum {s : Bt} (hs : s.Ok) (x : Int) (hx : 0 ≤ x ∧ x ≤ 1000) : foT (rHead x :: smL s.b s.n s.f s.t s.i s.o) = (s, true) := by
  rw [smL_ok hs]
  obtain ⟨b, n, f, t, i, o⟩ := s
  have hk : (∀ r ∈ smR b n f t i o, r.Ok) ∧ (smR b n f t i o).length ≤ 5 ∧ 1 ≤ (smR b n f t i o).length := smR_ok hs
  have ha : foAll (rHead x :: smR b n f t i o) := all_of (by
    intro r hr
    rw [List.mem_cons] at hr
    rcases hr with rfl | hr
    · exact .inl ⟨rfl, rfl, hx, rfl⟩
    · exact hk.1 r hr)
  obtain ⟨h1, h2, h3, h4⟩ := hs
  dsimp only at h1 h2 h3 h4
  cases t
  · simp only [Bool.false_eq_true, if_false] at h4
    obtain ⟨rfl, rfl⟩ := h4
    rw [foT_of (by simp [smR]) ha ⟨by simp [smR], rfl, rfl⟩]
    rfl
  · simp only [if_true] at h4
    have hi : i = 0 ∨ i = 1 ∨ i = 2 ∨ i = 3 := by omega
    have hb : ¬ (b = 1 - b) := by omega
    have e1 : stT ⟨1 - b, o, f, false, 0, 0⟩ ⟨3, b, n, 0⟩ = (⟨b, n, f, true, 0, o⟩, true) := by
      unfold stT
      rw [if_pos rfl, if_neg (by simp; exact hb)]
    have e2 : ∀ k : Int, k < 3 → stT ⟨b, n, f, true, k, o⟩ rTry = (⟨b, n, f, true, k + 1, o⟩, true) := by
      intro k hk
      unfold stT
      rw [if_neg (by decide), if_pos rfl, if_neg (by simp; omega)]
    rw [foT_of (by have := hk.2.1; rw [List.length_cons]; omega) ha ⟨by simp [smR], rfl, rfl⟩]
    rcases hi with rfl | rfl | rfl | rfl
    · show ((stT ⟨1 - b, o, f, false, 0, 0⟩ ⟨3, b, n, 0⟩).1, true) = _
      rw [e1]
    · show ((stT (stT ⟨1 - b, o, f, false, 0, 0⟩ ⟨3, b, n, 0⟩).1 rTry).1, true) = _
      rw [e1, e2 0 (by omega)]
      rfl
    · show ((stT (stT (stT ⟨1 - b, o, f, false, 0, 0⟩ ⟨3, b, n, 0⟩).1 rTry).1 rTry).1, true) = _
      rw [e1, e2 0 (by omega), e2 (0 + 1) (by omega)]
      rfl
    · show ((stT (stT (stT (stT ⟨1 - b, o, f, false, 0, 0⟩ ⟨3, b, n, 0⟩).1 rTry).1 rTry).1 rTry).1, true) = _
      rw [e1, e2 0 (by omega), e2 (0 + 1) (by omega), e2 (0 + 1 + 1) (by omega)]
      rfl
end Go.Proofs.Ytjceajgefpinpaa
