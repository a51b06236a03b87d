/-
  What is proved here: a law on a range over a function whose body never leaves the loop and whose iterator keeps a row of its own in a block of the heap: the iterator says that it turns that one block and new ones alone, the body says that it leaves that block (and those that the iterator reads) as they are. No program is spoken of.
-/
import Derived.RangeFuncNested
import Derived.RangeFuncBound
import Derived.RangeFuncCalls
import Derived.RangeFuncLeaves
import Derived.Shelf.Abstract
import Derived.Shelf.RegionOpen
import Derived.WalkKit
import Derived.OwnWalkIn
import Derived.TacticsInMore
import Derived.LoopNIn
import Derived.LoopIn
namespace Go.Proofs.Ytgfjbaigmkdbcaa
open Go.RowKit Go.Shelf

/-- These blocks, where they were, are as they were. -/
def Same (K : Nat → Prop) (A B : World) : Prop := A.heap.size ≤ B.heap.size ∧ ∀ b, K b → b < A.heap.size → B.heap[b]? = A.heap[b]?
theorem Same.refl (K : Nat → Prop) (A : World) : Same K A A := ⟨Nat.le_refl _, fun _ _ _ => rfl⟩
theorem Same.trans {K : Nat → Prop} {A B C : World} (h : Same K A B) (k : Same K B C) : Same K A C :=
  ⟨Nat.le_trans h.1 k.1, fun b hb hl => (k.2 b hb (Nat.lt_of_lt_of_le hl h.1)).trans (h.2 b hb hl)⟩
theorem Same.of_grown {K : Nat → Prop} {A B : World} {r : Option Nat} (h : A.grownBy B r) (hr : ∀ b, K b → some b ≠ r) : Same K A B :=
  ⟨h.size, fun b hb hl => h.block b hl (hr b hb)⟩
theorem Same.imp {K K' : Nat → Prop} {A B : World} (h : Same K A B) (hk : ∀ b, K' b → K b) : Same K' A B := ⟨h.1, fun b hb hl => h.2 b (hk b hb) hl⟩

/-- What an iterator says that tells the N values encs 0, encs 1, ..: over whatever state J of the loop (k rounds have come; the iterator's own row lies in block g) that does not mind a turn of block g nor new blocks, it ends with all N told. It reads the blocks K between two rounds. -/
def Tells (n : Nat) (P : Program) (gf : Nat) (lb : Array Value) (encs : Nat → Array Value) (N : Nat) (K : Nat → Prop) (W : World) : Prop :=
  ∀ (l : Nat) (J : Nat → Nat → World → Prop),
    (∀ k g g' A B, J k g A → A.grownBy B (some g) → (g' = g ∨ A.heap.size ≤ g') → J k g' B) →
    (∀ k g A, k < N → g < A.heap.size → J k g A → YieldAt Fence.wide (n - 1) P l (encs k) A fun e B => e = .returned (.bool true) ∧ J (k + 1) g B ∧ Same (fun b => b = g ∨ K b) A B) →
    (∀ g, W.heap.size ≤ g → J 0 g W) →
    CallsIn Fence.wide n P gf (#[.func (.yield l) #[] #[]] ++ lb) W fun e B => (∃ v, e = .returned v) ∧ ∃ g, J N g B

/-- How the body of a round is left: off its end. -/
def goesOn (R : World → Prop) : Exit → Act → World → Prop
  | .normal, _, B => R B
  | _, _, _ => False

theorem range_tells {n : Nat} {P : Program} {g : Operand} {ps : Array Tmp} {assign body : Code} {Q : Exit → Act → World → Prop} {a : Act} {w : World}
    {gf : Nat} {lb : Array Value} (hg : a.eval g = .func (.func gf) #[] lb) (eg : ∀ args w, (callFunc gf args).run P w = .ok (.enter gf args) w)
    {encs : Nat → Array Value} {N : Nat} {K : Nat → Prop} (hK : ∀ b, K b → b < w.heap.size)
    (hseq : ∀ W, Below w.heap.size w W → Tells (n - 1) P gf lb encs N K W) (hps : ∀ k, (encs k).size = ps.size)
    (I : Nat → Nat → World → Prop)
    (hIg : ∀ k g g' A B, w.heap.size ≤ g → I k g A → A.grownBy B (some g) → (g' = g ∨ A.heap.size ≤ g') → I k g' B)
    (hIl : ∀ k g A o, I k g A → I k g (A.putObj (w.heap.size + 1) o))
    (h0 : ∀ W g, Below w.heap.size w W → W.heap.size = w.heap.size + 2 → W.heap.size ≤ g → I 0 g W)
    (a₁ : Nat → Act)
    (hassign : ∀ (l k : Nat) (W : World) (R : Act → World → Prop), k < N → R (a₁ k) W →
      assign.wpIn (Fence.wide.inRound l) (n - 1 - 1) P (Exit.then R (fun _ _ _ => False)) { tmps := (ps.zip (encs k)).foldl (fun t (p, v) => t.setIfInBounds p v) a.tmps, defers := [] } W)
    (hbody : ∀ (l k g : Nat) (W : World), k < N → w.heap.size ≤ g → g ≠ w.heap.size → g ≠ w.heap.size + 1 → w.heap.size + 2 ≤ W.heap.size → g < W.heap.size → I k g W →
      body.wpIn (Fence.wide.inRound l) (n - 1 - 1) P (goesOn fun B => I (k + 1) g B ∧ Same (fun b => b = g ∨ K b ∨ b = w.heap.size ∨ b = w.heap.size + 1) W B) (a₁ k) W)
    (hdone : ∀ (g : Nat) (W : World), I N g W → W.heap[w.heap.size]? = some (.deferred (some [])) → Q .normal { a with defers := { target := .collected w.heap.size, args := #[] } :: a.defers } W) :
    (Code.rangeFunc g ps assign body).wpIn Fence.wide n P Q a w := by
  refine wpIn_rangeFunc ?_
  intro fn hfn
  let rec0 : LoopState → Loop := fun st => { state := st, pending := none, fn := fn, tmps := a.tmps, params := ps, assign := assign, body := body, defers := w.heap.size }
  let D := w.heap.size
  let L := w.heap.size + 1
  obtain ⟨W1, hW1⟩ : ∃ W1, W1 = (w.alloc (.deferred (some []))).alloc (.loop (rec0 .ready)) := ⟨_, rfl⟩
  have hs1 : W1.heap.size = w.heap.size + 2 := by rw [hW1]; simp
  have hL1 : W1.heap[L]? = some (.loop (rec0 .ready)) := by
    rw [hW1]; have := World.alloc_heap_new (w.alloc (.deferred (some []))) (.loop (rec0 .ready)); rwa [World.size_alloc] at this
  have hD1 : W1.heap[D]? = some (.deferred (some [])) := by
    rw [hW1]; exact (Below.heap_alloc _ _ _ (by simp [D])).trans (World.alloc_heap_new w _)
  have hB1 : Below w.heap.size w W1 := by rw [hW1]; exact ((Below.refl _ w).alloc (Nat.le_refl _) _).alloc (by simp) _
  refine ⟨L, [{ target := .collected D, args := #[] }], W1, { target := .fn (.func gf) lb, args := #[.func (.yield L) #[] #[]] }, W1, gf, #[.func (.yield L) #[] #[]] ++ lb, W1, ?_, ?_, ?_, ?_, ?_, ?_⟩
  · rw [hW1]; exact run_enterLoop_outer _ _ _ _ _
  · simp only [resolve, hg]; simp [go_sem]
  · intro f' _; trivial
  · simp [invoke, go_sem, eg]
  · intro h; simp [Fence.wide] at h
  · refine (hseq W1 hB1 L (fun k g W => I k g W ∧ W.heap[L]? = some (.loop (rec0 .ready)) ∧ W.heap[D]? = some (.deferred (some [])) ∧ w.heap.size + 2 ≤ g) ?_ ?_ ?_).mono ?_
    · rintro k g g' A B ⟨hi, hl, hd, h2⟩ hgr hgg
      have hlt := (Array.getElem?_eq_some_iff.1 hl).1
      have hdt := (Array.getElem?_eq_some_iff.1 hd).1
      exact ⟨hIg k g g' A B (by omega) hi hgr hgg, (hgr.block L hlt (fun e => by cases e; omega)).trans hl, (hgr.block D hdt (fun e => by cases e; omega)).trans hd, by rcases hgg with h | h <;> omega⟩
    · rintro k g W hk hgl ⟨hi, hl, hd, h2⟩
      have hlt : L < W.heap.size := (Array.getElem?_eq_some_iff.1 hl).1
      have hy := run_yield (P := P) (args := encs k) hl (hps k)
      refine ⟨fn, _, assign, body, hy, roundIn_of_wpIn hfn (hassign _ k W _ hk ⟨_, run_beginRound hl rfl, ?_⟩)⟩
      obtain ⟨W2, hW2⟩ : ∃ W2, W2 = W.putObj L (.loop { rec0 .ready with state := .busy }) := ⟨_, rfl⟩
      have hl2 : W2.heap[L]? = some (.loop { rec0 .ready with state := .busy }) := by rw [hW2]; exact World.putObj_heap_same hlt
      have ho2 : ∀ b, b ≠ L → W2.heap[b]? = W.heap[b]? := fun b hb => by rw [hW2]; exact World.putObj_heap_other hb
      have hz2 : W2.heap.size = W.heap.size := by rw [hW2]; simp
      have hi2 : I k g W2 := by rw [hW2]; exact hIl _ _ _ _ hi
      rw [← hW2]
      refine wpIn_mono (hbody L k g W2 hk (by omega) (by omega) (by omega) (by omega) (by omega) hi2) ?_
      rintro e a3 W3 hp
      cases e with
      | normal =>
        obtain ⟨hi3, hs3⟩ := hp
        have hl3 : W3.heap[L]? = some (.loop { rec0 .ready with state := .busy }) := (hs3.2 L (.inr (.inr (.inr rfl))) (by omega)).trans hl2
        have hd3 : W3.heap[D]? = some (.deferred (some [])) := ((hs3.2 D (.inr (.inr (.inl rfl))) (by show w.heap.size < _; omega)).trans (ho2 D (by show w.heap.size ≠ w.heap.size + 1; omega))).trans hd
        refine ⟨_, _, run_endRound (P := P) none hl3, rfl, ⟨hIl _ _ _ _ hi3, World.putObj_heap_same (by have := hs3.1; omega), (World.putObj_heap_other (by show w.heap.size ≠ w.heap.size + 1; omega)).trans hd3, h2⟩, ?_⟩
        refine ⟨by simp; have := hs3.1; omega, fun b hb hbl => ?_⟩
        have hne : b ≠ L := by
          rcases hb with hb | hb
          · show b ≠ w.heap.size + 1; omega
          · have := hK b hb; show b ≠ w.heap.size + 1; omega
        refine (World.putObj_heap_other hne).trans ((hs3.2 b ?_ (by omega)).trans (ho2 b hne))
        rcases hb with hb | hb
        · exact .inl hb
        · exact .inr (.inl hb)
      | ret => exact hp.elim
      | exit id => exact hp.elim
      | goto t => exact hp.elim
      | panic ch => exact hp.elim
      | outgrown => exact hp.elim
    · intro g hgl
      exact ⟨h0 W1 g hB1 hs1 hgl, hL1, hD1, by omega⟩
    · rintro e W2 ⟨⟨v, rfl⟩, g, hi, hl, hd, h2⟩
      exact ⟨none, _, run_endLoop (P := P) hl (by simp [rec0]), hdone g _ (hIl _ _ _ _ hi) ((World.putObj_heap_other (by show w.heap.size ≠ w.heap.size + 1; omega)).trans hd)⟩
theorem grown_put {w W : World} {r : Option Nat} (h : w.grownBy W r) {D : Nat} (hD : w.heap.size ≤ D) (o : Obj) : w.grownBy (W.putObj D o) r :=
  ⟨h.os, h.tape, h.output, by simpa using h.size, fun i hi hne => (World.putObj_heap_other (by omega)).trans (h.block i hi hne)⟩
end Go.Proofs.Ytgfjbaigmkdbcaa
