/-
  What is proved here: a law on a range over a function whose body never leaves the loop and whose iterator may range over a function itself: what the loop says of its own memory abides new blocks and turns of what is no cells. No program is spoken of.
-/
import Derived.Test.YtgfjbaigmkdbcaaRf
namespace Go.Proofs.Ytgfjbaigmkdbcaa
open Go.RowKit Go.Shelf

/-- What abides new blocks, and turns of a block from B on that is no cells. -/
def Abd (B : Nat) (J : Nat → World → Prop) : Prop := ∀ k A A' row, J k A → A.grownBy A' row → (∀ r, row = some r → B ≤ r ∧ ∃ o : Obj, A.heap[r]? = some o ∧ o.isCells = false) → J k A'
/-- What an iterator says that tells the N values encs 0, encs 1, .. over whatever state J of the loop that abides; a round keeps Kp. -/
def TellsO (n : Nat) (P : Program) (gf : Nat) (lb : Array Value) (encs : Nat → Array Value) (N : Nat) (Kp : World → World → Prop) (W : World) : Prop :=
  ∀ (l : Nat) (J : Nat → World → Prop), Abd W.heap.size J →
    (∀ k A, k < N → J k A → YieldAt Fence.wide (n - 1) P l (encs k) A fun e B => e = .returned (.bool true) ∧ J (k + 1) B ∧ Kp A B) →
    J 0 W →
    CallsIn Fence.wide n P gf (#[.func (.yield l) #[] #[]] ++ lb) W fun e B => (∃ v, e = .returned v) ∧ J N B

theorem range_tellsO {n : Nat} {P : Program} {g : Operand} {ps : Array Tmp} {assign body : Code} {Q : Exit → Act → World → Prop} {a : Act} {w : World}
    {gf : Nat} {lb : Array Value} (hg : a.eval g = .func (.func gf) #[] lb) (eg : ∀ args w, (callFunc gf args).run P w = .ok (.enter gf args) w)
    {encs : Nat → Array Value} {N : Nat} {Kp : World → World → Prop} (hKt : ∀ {A B C : World}, Kp A B → Kp B C → Kp A C)
    (hKb : ∀ (W : World) (o o' : Obj), W.heap[w.heap.size + 1]? = some o → o.isCells = false → Kp W (W.putObj (w.heap.size + 1) o'))
    (hseq : ∀ W, Below w.heap.size w W → w.heap.size + 2 ≤ W.heap.size → TellsO (n - 1) P gf lb encs N Kp W) (hps : ∀ k, (encs k).size = ps.size)
    (I : Nat → World → Prop) (hI : Abd w.heap.size I) (h0 : I 0 w)
    (Ax : Nat → Act → World → Prop) (hAx : ∀ k a' A o o', A.heap[w.heap.size + 1]? = some o → o.isCells = false → Ax k a' A → Ax k a' (A.putObj (w.heap.size + 1) o'))
    (hassign : ∀ (l k : Nat) (W : World) (R : Act → World → Prop), k < N → w.heap.size + 2 ≤ W.heap.size → I k W → (∀ a' W', Kp W W' → Same (fun b => b = w.heap.size ∨ b = w.heap.size + 1) W W' → I k W' → Ax k a' W' → R a' W') →
      assign.wpIn (Fence.wide.inRound l) (n - 1 - 1) P (Exit.then R (fun _ _ _ => False)) { tmps := (ps.zip (encs k)).foldl (fun t (p, v) => t.setIfInBounds p v) a.tmps, defers := [] } W)
    (hbody : ∀ (l k : Nat) (a' : Act) (W : World), k < N → w.heap.size + 2 ≤ W.heap.size → (∀ b, b = w.heap.size ∨ b = w.heap.size + 1 → ∃ o : Obj, W.heap[b]? = some o ∧ o.isCells = false) → I k W → Ax k a' W →
      body.wpIn (Fence.wide.inRound l) (n - 1 - 1) P (goesOn fun B => I (k + 1) B ∧ Kp W B ∧ Same (fun b => b = w.heap.size ∨ b = w.heap.size + 1) W B) a' W)
    (hdone : ∀ (W : World), I N W → W.heap[w.heap.size]? = some (.deferred (some [])) → Q .normal { a with defers := { target := .collected w.heap.size, args := #[] } :: a.defers } W) :
    (Code.rangeFunc g ps assign body).wpIn Fence.wide n P Q a w := by
  refine wpIn_rangeFunc ?_
  intro fn hfn
  let rec0 : LoopState → Loop := fun st => { state := st, pending := none, fn := fn, tmps := a.tmps, params := ps, assign := assign, body := body, defers := w.heap.size }
  let D := w.heap.size
  let L := w.heap.size + 1
  have hput : ∀ k A o o', A.heap[L]? = some o → o.isCells = false → I k A → I k (A.putObj L o') := fun k A o o' ho hc hi =>
    hI k A _ (some L) hi (grownBy_putObj' A L o') (fun r e => by cases e; exact ⟨by show w.heap.size ≤ w.heap.size + 1; omega, o, ho, hc⟩)
  obtain ⟨W1, hW1⟩ : ∃ W1, W1 = (w.alloc (.deferred (some []))).alloc (.loop (rec0 .ready)) := ⟨_, rfl⟩
  have hs1 : W1.heap.size = w.heap.size + 2 := by rw [hW1]; simp
  have hL1 : W1.heap[L]? = some (.loop (rec0 .ready)) := by
    rw [hW1]; have := World.alloc_heap_new (w.alloc (.deferred (some []))) (.loop (rec0 .ready)); rwa [World.size_alloc] at this
  have hD1 : W1.heap[D]? = some (.deferred (some [])) := by
    rw [hW1]; exact (Below.heap_alloc _ _ _ (by simp [D])).trans (World.alloc_heap_new w _)
  have hB1 : Below w.heap.size w W1 := by rw [hW1]; exact ((Below.refl _ w).alloc (Nat.le_refl _) _).alloc (by simp) _
  have hI1 : I 0 W1 := hI 0 w W1 none h0 ⟨hB1.os, hB1.tape, hB1.output, hB1.size, fun i hi _ => hB1.block i hi⟩ (fun r e => by cases e)
  refine ⟨L, [{ target := .collected D, args := #[] }], W1, { target := .fn (.func gf) lb, args := #[.func (.yield L) #[] #[]] }, W1, gf, #[.func (.yield L) #[] #[]] ++ lb, W1, ?_, ?_, ?_, ?_, ?_, ?_⟩
  · rw [hW1]; exact run_enterLoop_outer _ _ _ _ _
  · simp only [resolve, hg]; simp [go_sem]
  · intro f' _; trivial
  · simp [invoke, go_sem, eg]
  · intro h; simp [Fence.wide] at h
  · refine (hseq W1 hB1 (by omega) L (fun k W => I k W ∧ W.heap[L]? = some (.loop (rec0 .ready)) ∧ W.heap[D]? = some (.deferred (some []))) ?_ ?_ ?_).mono ?_
    · rintro k A B row ⟨hi, hl, hd⟩ hgr hr
      have ne : ∀ g, g < W1.heap.size → some g ≠ row := fun g hgs e => by have := (hr g e.symm).1; omega
      have lt : ∀ g o, A.heap[g]? = some o → g < A.heap.size := fun g o h => (Array.getElem?_eq_some_iff.1 h).1
      refine ⟨hI k A B row hi hgr (fun r e => ⟨by have := (hr r e).1; omega, (hr r e).2⟩), ?_, ?_⟩
      · exact (hgr.block L (lt _ _ hl) (ne L (by show w.heap.size + 1 < _; omega))).trans hl
      · exact (hgr.block D (lt _ _ hd) (ne D (by show w.heap.size < _; omega))).trans hd
    · rintro k W hk ⟨hi, hl, hd⟩
      have hlt : L < W.heap.size := (Array.getElem?_eq_some_iff.1 hl).1
      have hy := run_yield (P := P) (args := encs k) hl (hps k)
      refine ⟨fn, _, assign, body, hy, roundIn_of_wpIn hfn (hassign _ k W _ hk hlt hi ?_)⟩
      intro a' W' kW sW hiW hax
      have hlW : W'.heap[L]? = some (.loop (rec0 .ready)) := (sW.2 L (.inr rfl) hlt).trans hl
      have hltW : L < W'.heap.size := (Array.getElem?_eq_some_iff.1 hlW).1
      have hdW : W'.heap[D]? = some (.deferred (some [])) := (sW.2 D (.inl rfl) (by show w.heap.size < _; omega)).trans hd
      refine ⟨_, run_beginRound hlW rfl, ?_⟩
      obtain ⟨W2, hW2⟩ : ∃ W2, W2 = W'.putObj L (.loop { rec0 .ready with state := .busy }) := ⟨_, rfl⟩
      have hl2 : W2.heap[L]? = some (.loop { rec0 .ready with state := .busy }) := by rw [hW2]; exact World.putObj_heap_same hltW
      have ho2 : ∀ b, b ≠ L → W2.heap[b]? = W'.heap[b]? := fun b hb => by rw [hW2]; exact World.putObj_heap_other hb
      have hz2 : W2.heap.size = W'.heap.size := by rw [hW2]; simp
      have hi2 : I k W2 := by rw [hW2]; exact hput _ _ _ _ hlW rfl hiW
      have hax2 : Ax k a' W2 := by rw [hW2]; exact hAx _ _ _ _ _ hlW rfl hax
      have hk2 : Kp W' W2 := by rw [hW2]; exact hKb _ _ _ hlW rfl
      have hsz : w.heap.size + 2 ≤ W2.heap.size := by rw [hz2]; exact hltW
      rw [← hW2]
      have hnc : ∀ b, b = w.heap.size ∨ b = w.heap.size + 1 → ∃ o : Obj, W2.heap[b]? = some o ∧ o.isCells = false := fun b hb => by
        rcases hb with rfl | rfl
        · exact ⟨_, (ho2 _ (by show w.heap.size ≠ w.heap.size + 1; omega)).trans hdW, rfl⟩
        · exact ⟨_, hl2, rfl⟩
      refine wpIn_mono (hbody L k a' W2 hk hsz hnc hi2 hax2) ?_
      rintro e a3 W3 hp
      cases e with
      | normal =>
        obtain ⟨hi3, hk3, hs3⟩ := hp
        have hl3 : W3.heap[L]? = some (.loop { rec0 .ready with state := .busy }) := (hs3.2 L (.inr rfl) (by omega)).trans hl2
        have hd3 : W3.heap[D]? = some (.deferred (some [])) := ((hs3.2 D (.inl rfl) (by show w.heap.size < _; omega)).trans (ho2 D (by show w.heap.size ≠ w.heap.size + 1; omega))).trans hdW
        refine ⟨_, _, run_endRound (P := P) none hl3, rfl, ⟨hput _ _ _ _ hl3 rfl hi3, World.putObj_heap_same (by have := hs3.1; omega), (World.putObj_heap_other (by show w.heap.size ≠ w.heap.size + 1; omega)).trans hd3⟩, ?_⟩
        exact hKt kW (hKt hk2 (hKt hk3 (hKb _ _ _ hl3 rfl)))
      | ret => exact hp.elim
      | exit id => exact hp.elim
      | goto t => exact hp.elim
      | panic ch => exact hp.elim
      | outgrown => exact hp.elim
    · exact ⟨hI1, hL1, hD1⟩
    · rintro e W2 ⟨⟨v, rfl⟩, hi, hl, hd⟩
      exact ⟨none, _, run_endLoop (P := P) hl (by simp [rec0]), hdone _ (hput _ _ _ _ hl rfl hi) ((World.putObj_heap_other (by show w.heap.size ≠ w.heap.size + 1; omega)).trans hd)⟩
end Go.Proofs.Ytgfjbaigmkdbcaa
