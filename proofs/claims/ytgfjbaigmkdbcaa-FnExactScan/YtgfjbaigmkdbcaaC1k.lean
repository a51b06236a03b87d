/-
  What is proved here: what the program's recordsIn tells a loop that ranges over it.
-/
import Derived.Test.YtgfjbaigmkdbcaaC1j
import Derived.Test.YtgfjbaigmkdbcaaC0h
namespace Go.Proofs.Ytgfjbaigmkdbcaa
open Go.RowKit Go.Shelf
set_option maxRecDepth 100000
set_option maxHeartbeats 4000000
set_option linter.unusedVariables false
attribute [local go_sem] Oper.semAt_some

/-- What a round keeps: what lay below n₀, blocks of other types than the records', and from B on what is no cells. -/
structure Kp3 (n₀ B : Nat) (W W' : World) : Prop where
  b : Below n₀ W W'
  t : KT W W'
  o : ∀ (g : Nat) (o : Obj), B ≤ g → W.heap[g]? = some o → o.isCells = false → W'.heap[g]? = some o
theorem Kp3.trans {n₀ B : Nat} {X Y Z : World} (h : Kp3 n₀ B X Y) (k : Kp3 n₀ B Y Z) : Kp3 n₀ B X Z := ⟨h.b.trans k.b, h.t.trans k.t, fun g o hb hg hc => k.o g o hb (h.o g o hb hg hc) hc⟩
abbrev eR (r : Rc) : Array Value := #[rcV r.k r.b r.n r.f]
theorem implRecordsIn (a : Option Addr) (n c : Nat) (w : World) :
    Calls Try.prog 109 #[.slice a n c] w fun e w' => e = .returned (.func (.func 140) #[] #[.pointer (some ⟨w.heap.size, 0, none⟩)]) ∧
      Arr w' w.heap.size 35 [.slice a n c] ∧ w'.heap.size = w.heap.size + 1 ∧ Below w.heap.size w w' := by
  obtain ⟨W, hW⟩ : ∃ W, W = w.alloc (.cells #[.slice a n c] 35) := ⟨_, rfl⟩
  have h1 : Arr W w.heap.size 35 [.slice a n c] := by rw [hW]; exact Arr.new w [.slice a n c] _
  have h3 : W.heap.size = w.heap.size + 1 := by rw [hW]; simp
  have hB : Below w.heap.size w W := by rw [hW]; exact (Below.refl _ _).alloc (Nat.le_refl _) _
  go_enter Try.func109, Try.ntmps109
  go_wp2
  rw [← hW]
  go_ret
  exact ⟨rfl, h1, h3, hB⟩
theorem bs_cap {w : World} {a : Option Addr} {n c c' : Nat} {xs : List Int} (h : Bs w a n c xs) (hn : n ≤ c') (ha : a ≠ none) : Bs w a n c' xs := ⟨fun e => absurd e ha, h.2.1, hn, h.2.2.2.1, h.2.2.2.2⟩
theorem scR_mono (xs : List Int) : ∀ (k j : Nat), ∃ t, scR xs (k + j) = scR xs k ++ t
  | k, 0 => ⟨[], by simp⟩
  | k, j + 1 => by
    obtain ⟨t, ht⟩ := scR_mono xs k j
    refine ⟨t ++ (if gOkB (pl xs (k + j)) = true then [goR (pl xs (k + j))] else []), ?_⟩
    show scR xs (k + j) ++ _ = _
    rw [ht, List.append_assoc]
    rfl
theorem scR_at {xs : List Int} {k : Nat} (hk : k < 32) (ho : gOkB (pl xs k) = true) : (scR xs k).length < (scR xs 32).length ∧ rg (scR xs 32) (scR xs k).length = goR (pl xs k) := by
  obtain ⟨t, ht⟩ := scR_mono xs (k + 1) (32 - (k + 1))
  rw [show k + 1 + (32 - (k + 1)) = 32 by omega] at ht
  have e : scR xs (k + 1) = scR xs k ++ [goR (pl xs k)] := by
    show scR xs k ++ _ = _
    rw [if_pos ho]
  rw [ht, e]
  refine ⟨by simp, ?_⟩
  simp [rg]

structure RI (w0 : World) (J : Nat → World → Prop) (xs : List Int) (lp y0 S k : Nat) (A : World) : Prop where
  j : J (scR xs k).length A
  y : Arr A y0 177 [.func (.yield lp) #[] #[]]
  b : Below w0.heap.size w0 A
  z : S ≤ A.heap.size
theorem RI.abd {w0 W : World} {J : Nat → World → Prop} {xs : List Int} {lp y0 S : Nat} (hJ : Abd W.heap.size J) (h1 : W.heap.size ≤ S) (h2 : w0.heap.size ≤ S) (h3 : y0 < S) : Abd S (RI w0 J xs lp y0 S) := fun k A B row h hg hr =>
  ⟨hJ _ A B row h.j hg (fun r e => ⟨Nat.le_trans h1 (hr r e).1, (hr r e).2⟩), (hg.block y0 h.y.lt (fun e => by have := (hr y0 e.symm).1; omega)).trans h.y, h.b.grown hg h.b.size (fun g e => Nat.le_trans h2 (hr g e).1), Nat.le_trans h.z hg.size⟩

end Go.Proofs.Ytgfjbaigmkdbcaa
