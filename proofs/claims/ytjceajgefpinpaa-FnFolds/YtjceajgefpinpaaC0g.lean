/-
  What is proved here: how memory is kept while another part of it is written, and rows of their own; no program is spoken of.
-/
import Derived.Test.YtjceajgefpinpaaGr0
import Derived.Deep.RegionHeld3
import Derived.BigRegion
namespace Go.Proofs.Ytjceajgefpinpaa
set_option maxRecDepth 100000
open Go.RowKit

/-- Nothing old has turned but what lies in an interval of blocks. -/
structure Chg (W W' : World) (a b : Nat) : Prop where
  os : W'.os = W.os
  tape : W'.tape = W.tape
  output : W'.output = W.output
  size : W.heap.size ≤ W'.heap.size
  block : ∀ i, i < W.heap.size → (i < a ∨ b ≤ i) → W'.heap[i]? = W.heap[i]?

theorem Chg.of_below {W W' : World} (h : Below W.heap.size W W') (a : Nat) : Chg W W' a a := ⟨h.os, h.tape, h.output, h.size, fun i hi _ => h.block i hi⟩
theorem Chg.of_gr2 {W W' : World} {u v : Value} {a b : Nat} (h : Gr2 W W' u.ownBlock v.ownBlock) (i1 : In u a b) (i2 : In v a b) : Chg W W' a b :=
  ⟨h.os, h.tape, h.output, h.size, fun i hi hj => h.block i hi (fun e => by have := i1 i e.symm; omega) (fun e => by have := i2 i e.symm; omega)⟩
theorem Chg.of_grown {W W' : World} {u : Value} {a b : Nat} (h : W.grownBy W' u.ownBlock) (i1 : In u a b) : Chg W W' a b :=
  ⟨h.os, h.tape, h.output, h.size, fun i hi hj => h.block i hi (fun e => by have := i1 i e.symm; omega)⟩
theorem Chg.alloc (W : World) (o : Obj) (a : Nat) : Chg W (W.alloc o) a a := .of_below ((Below.refl _ _).alloc (Nat.le_refl _) _) a
theorem Chg.bel {w W W' : World} {a b : Nat} (h : Chg W W' a b) (hb : Below w.heap.size w W) (hl : b ≤ a ∨ w.heap.size ≤ a) : Below w.heap.size w W' :=
  ⟨h.os.trans hb.os, h.tape.trans hb.tape, h.output.trans hb.output, Nat.le_trans hb.size h.size, fun i hi => (h.block i (Nat.lt_of_lt_of_le hi hb.size) (by omega)).trans (hb.block i hi)⟩
theorem Arr.chg {W W' : World} {a b g : Nat} {t : TypeId} {cs : List Value} (h : Arr W g t cs) (hc : Chg W W' a b) (hl : g < a ∨ b ≤ g) : Arr W' g t cs := by
  unfold Arr
  rw [hc.block g h.lt hl]
  exact h
theorem own_chg {W W' : World} {lo hi a b e s n : Nat} {v : Value} {l : List Value} (h : W.ownsRow lo e s v n l) (i : In v lo hi) (hc : Chg W W' a b) (hl : hi ≤ a ∨ b ≤ lo) : W'.ownsRow lo e s v n l := by
  refine ⟨h.1, ?_⟩
  rcases h.2 with hn | ⟨g, cap, cur, rfl, hg, hgg, rest⟩
  · exact .inl hn
  · refine .inr ⟨g, cap, cur, rfl, hg, ?_, rest⟩
    have := i g rfl
    rw [hc.block g (Array.getElem?_eq_some_iff.1 hgg).1 (by omega)]
    exact hgg

/-- A row within [lo, hi). -/
structure Ro (W : World) (lo hi e : Nat) (v : Value) (n : Nat) (l : List Value) : Prop where
  o : W.ownsRow lo e 1 v n l
  i : In v lo hi
  z : hi ≤ W.heap.size
section
variable {W W' : World} {lo hi e n : Nat} {v : Value} {l : List Value}
theorem Ro.new (o : W.ownsRow lo e 1 v n l) : Ro W lo W.heap.size e v n l := ⟨o, In.of o, Nat.le_refl _⟩
theorem Ro.chg (h : Ro W lo hi e v n l) {a b : Nat} (hc : Chg W W' a b) (hl : hi ≤ a ∨ b ≤ lo ∨ b ≤ a) : Ro W' lo hi e v n l := by
  by_cases hab : b ≤ a
  · have hc' : Chg W W' hi hi := ⟨hc.os, hc.tape, hc.output, hc.size, fun i hi _ => hc.block i hi (by omega)⟩
    exact ⟨own_chg h.o h.i hc' (by omega), h.i, Nat.le_trans h.z hc.size⟩
  · exact ⟨own_chg h.o h.i hc (by omega), h.i, Nat.le_trans h.z hc.size⟩
theorem Ro.marked (h : Ro W lo hi e v n l) {l' : List Value} (hg : W.grownBy W' v.ownBlock) (o : W'.ownsRow lo e 1 v n l') : Ro W' lo hi e v n l' := ⟨o, h.i, Nat.le_trans h.z hg.size⟩
theorem Ro.gr (h : Ro W lo hi e v n l) (hg : W.grownBy W' v.ownBlock) : Chg W W' lo hi := .of_grown hg h.i
end
end Go.Proofs.Ytjceajgefpinpaa
