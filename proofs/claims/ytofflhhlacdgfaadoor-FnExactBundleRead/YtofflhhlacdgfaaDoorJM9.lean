/-
  What is proved here: contracts of the specification's l3turn, l3round and l3first; the contract of the program's narrowRules: the table of turns, and a new copy of the table of round words; where the program's variables hold what its text lays into them; a law on a range over a function whose body never leaves the loop and whose iterator keeps a row of its own in a block of the heap: the iterator says that it turns that one block and new ones alone, the body says that it leaves that block (and those that the iterator reads) as they are. No program is spoken of; plain facts on a row that a call owns, as one block of memory; no program is spoken of, no condition; what the program's iterator shaSchedule tells at words of 32 bits: the 64 words that the standard makes of a block of 64 bytes, each with its number, to whatever loop leaves the iterator's own row as it is; the contract of the program's method round at words of 32 bits: one round of the standard on the eight words behind a pointer, the table of turns as an argument; nothing else that was there turns; a law on a region that draws its order of evaluation, within the body of a range over a function: where it holds no defer statement, the orders may be walked as outside of such a body. No program is spoken of.
-/
import Derived.Test.YtofflhhlacdgfaaDoorJM8
import Derived.Test.YtofflhhlacdgfaaDoorProg
import Derived.Deep.QuietTactic
import Derived.BigQuiet
import Derived.Deep.Light
import Derived.Deep.RegionWith
import Derived.RangeFuncNested
import Derived.RangeFuncBound
import Derived.RangeFuncCalls
import Derived.RangeFuncLeaves
import Derived.Shelf.Abstract
import Derived.Shelf.RegionOpen
import Derived.WalkKit
import Derived.OwnWalkIn
import Derived.TacticsInMore
import Derived.LoopNIn
import Derived.LoopIn
import Derived.Deep.AppendLies
import Derived.RegionIn
namespace Go.Proofs.YtofflhhlacdgfaaDoor
open Go.RowKit

abbrev Z80 : List Int := [0, 0, 0, 0, 0, 0, 0, 0, 0, 0, 0, 0, 0, 0, 0, 0, 0, 0, 0, 0, 0, 0, 0, 0, 0, 0, 0, 0, 0, 0, 0, 0, 0, 0, 0, 0, 0, 0, 0, 0, 0, 0, 0, 0, 0, 0, 0, 0, 0, 0, 0, 0, 0, 0, 0, 0, 0, 0, 0, 0, 0, 0, 0, 0, 0, 0, 0, 0, 0, 0, 0, 0, 0, 0, 0, 0, 0, 0, 0, 0]

theorem zeroRun {P : Program} {t : TypeId} {z : Value} (h : (P.info? t).map (·.zero) = some (some z)) (w : World) : (zeroValue t).run P w = .ok z w := by
  cases hi : P.info? t with
  | none => rw [hi] at h; cases h
  | some i =>
    rw [hi] at h
    simp only [Option.map_some, Option.some.injEq] at h
    simp [zeroValue, typeInfo, hi, h]
theorem wpList_buildTo {P : Program} {ops : Array Oper} {rest : List Oper} {o : Oper} {a : Act} {w : World} {Q : Exit → Act → World → Prop} (hg : o.guard = none) (t : TypeId) (parts : Array (Nat × Operand)) (ho : o.op = .build t parts) (cells : Array Value)
    (hc : P.built t (parts.map fun (i, x) => (i, a.eval x)).toList = some cells) (h : wpList P ops Q rest (a.put o.dst (.agg cells)) w) : wpList P ops Q (o :: rest) a w :=
  wpList_build hg t parts ho (by rw [hc]; rfl) (by rw [hc]; exact h)

end Go.Proofs.YtofflhhlacdgfaaDoor
namespace Go.Proofs.YtofflhhlacdgfaaDoor
open Go.RowKit
set_option maxRecDepth 100000

/-- The program's two tables for words of 32 bits hold what its text lays into them. -/
structure Tabn (w : World) : Prop where
  tt : Vr w 3 (I64 [2, 13, 22, 6, 11, 25, 7, 18, 3, 17, 19, 10])
  tk : Vr w 2 (U32 KS)
theorem Tabn.kept {w w' : World} (h : Tabn w) (hb : Below w.heap.size w w') : Tabn w' := ⟨h.tt.kept hb, h.tk.kept hb⟩

/-- The rules that the program hands on: the turns, and the round words in block rb. -/
abbrev rulesVn (rb : Nat) : Value := .agg #[.int .i64 2, .int .i64 13, .int .i64 22, .int .i64 6, .int .i64 11, .int .i64 25, .int .i64 7, .int .i64 18, .int .i64 3, .int .i64 17, .int .i64 19, .int .i64 10, .slice (some ⟨rb, 0, none⟩) 64 64]

theorem infoKn : (Tryd.prog.info? 158).map (·.size) = some 64 := by kernel_rfl
def zkn : Array Value := (U32 (List.replicate 64 0)).toArray
theorem zeroKn (w : World) : (zeroValue 158).run Tryd.prog w = .ok (.agg zkn) w := zeroRun (by kernel_rfl) w

set_option maxHeartbeats 2000000 in
theorem rulesCn (w : World) (ht : Tabn w) :
    Calls Tryd.prog 116 #[] w fun e w' => ∃ rb, e = .returned (rulesVn rb) ∧ Arr w' rb 158 (U32 KS) ∧ w.heap.size ≤ rb ∧ Below w.heap.size w w' := by
  obtain ⟨t0, z0, hk⟩ := ht.tk
  obtain ⟨W, hW⟩ : ∃ W, W = (w.alloc (.cells #[.int .i64 0, .int .i64 0, .int .i64 0, .int .i64 0, .int .i64 0, .int .i64 0, .int .i64 0, .int .i64 0, .int .i64 0, .int .i64 0, .int .i64 0, .int .i64 0, .slice none 0 0] 142)).alloc (.cells zkn 158) := ⟨_, rfl⟩
  have hA : Arr W (w.heap.size + 1) 158 (U32 (List.replicate 64 0)) := by
    rw [hW]; have := Arr.new (w.alloc (.cells #[.int .i64 0, .int .i64 0, .int .i64 0, .int .i64 0, .int .i64 0, .int .i64 0, .int .i64 0, .int .i64 0, .int .i64 0, .int .i64 0, .int .i64 0, .int .i64 0, .slice none 0 0] 142)) (U32 (List.replicate 64 0)) 158
    rw [World.size_alloc] at this
    exact this
  have hS : Arr W w.heap.size 142 [.int .i64 0, .int .i64 0, .int .i64 0, .int .i64 0, .int .i64 0, .int .i64 0, .int .i64 0, .int .i64 0, .int .i64 0, .int .i64 0, .int .i64 0, .int .i64 0, .slice none 0 0] := by
    rw [hW]; exact (Arr.new w [.int .i64 0, .int .i64 0, .int .i64 0, .int .i64 0, .int .i64 0, .int .i64 0, .int .i64 0, .int .i64 0, .int .i64 0, .int .i64 0, .int .i64 0, .int .i64 0, .slice none 0 0] _).alloc _
  have hB : Below w.heap.size w W := by rw [hW]; exact ((Below.refl _ _).alloc (Nat.le_refl _) _).alloc (by simp) _
  obtain ⟨W2, hW2⟩ : ∃ W2, W2 = W.setRow (w.heap.size + 1) (U32 KS).toArray := ⟨_, rfl⟩
  have hB2 : Below w.heap.size w W2 := by rw [hW2]; exact setRow_below hB _ _ (by omega)
  have hA2 : Arr W2 (w.heap.size + 1) 158 (U32 KS) := by rw [hW2]; exact hA.row _
  have hS2 : Arr W2 w.heap.size 142 [.int .i64 0, .int .i64 0, .int .i64 0, .int .i64 0, .int .i64 0, .int .i64 0, .int .i64 0, .int .i64 0, .int .i64 0, .int .i64 0, .int .i64 0, .int .i64 0, .slice none 0 0] := by rw [hW2]; exact hS.rowOther _ _ (by omega)
  have hT2 := ht.tt.kept hB2
  have hzk := zeroKn
  have hk1 : (w.alloc (.cells #[.int .i64 0, .int .i64 0, .int .i64 0, .int .i64 0, .int .i64 0, .int .i64 0, .int .i64 0, .int .i64 0, .int .i64 0, .int .i64 0, .int .i64 0, .int .i64 0, .slice none 0 0] 142)).heap[(2 : Nat)]? = some (.cells (U32 KS).toArray t0 z0) := (heap_alloc_old w _ ht.tk.lt).trans hk
  go_enter Tryd.func116, Tryd.ntmps116
  go_wp2_with (first
    | (refine wpList_load_row rfl 158 _ rfl 2 rfl t0 (U32 KS).toArray z0 _ hk1 Tryd.underlying158 rfl (by kernel_rfl) ?_)
    | (refine wpList_store_row rfl 158 _ _ rfl (w.heap.size + 1) (U32 KS).toArray rfl rfl 158 _ (by first | exact hA | exact hW ▸ hA) (by kernel_rfl) (by kernel_rfl) (by kernel_rfl) ?_))
  rw [← hW, ← hW2]
  clear hW hW2 hk1 hk hA hS hB
  have u0 := hT2.int 0 (by simp)
  have u1 := hT2.int 1 (by simp)
  have u2 := hT2.int 2 (by simp)
  have u3 := hT2.int 3 (by simp)
  have u4 := hT2.int 4 (by simp)
  have u5 := hT2.int 5 (by simp)
  have u6 := hT2.int 6 (by simp)
  have u7 := hT2.int 7 (by simp)
  have u8 := hT2.int 8 (by simp)
  have u9 := hT2.int 9 (by simp)
  have u10 := hT2.int 10 (by simp)
  have u11 := hT2.int 11 (by simp)
  have c0 := hS2.cell 0
  have c1 := hS2.cell 1
  have c2 := hS2.cell 2
  have c3 := hS2.cell 3
  have c4 := hS2.cell 4
  have c5 := hS2.cell 5
  have c6 := hS2.cell 6
  have c7 := hS2.cell 7
  have c8 := hS2.cell 8
  have c9 := hS2.cell 9
  have c10 := hS2.cell 10
  have c11 := hS2.cell 11
  have c12 := hS2.cell 12
  simp at u0 u1 u2 u3 u4 u5 u6 u7 u8 u9 u10 u11 c0 c1 c2 c3 c4 c5 c6 c7 c8 c9 c10 c11 c12
  have hf := hS2.frozen
  clear hzk
  have hS3 := Arr.setAll [.int .i64 2, .int .i64 13, .int .i64 22, .int .i64 6, .int .i64 11, .int .i64 25, .int .i64 7, .int .i64 18, .int .i64 3, .int .i64 17, .int .i64 19, .int .i64 10, .slice (some ⟨w.heap.size + 1, 0, none⟩) 64 64] 0 hS2
  have hA3 := Arr.setAllOther (g := w.heap.size) (by omega) [.int .i64 2, .int .i64 13, .int .i64 22, .int .i64 6, .int .i64 11, .int .i64 25, .int .i64 7, .int .i64 18, .int .i64 3, .int .i64 17, .int .i64 19, .int .i64 10, .slice (some ⟨w.heap.size + 1, 0, none⟩) 64 64] 0 hA2
  have hB3 := setAll_below (B := w.heap.size) (g := w.heap.size) (Nat.le_refl _) [.int .i64 2, .int .i64 13, .int .i64 22, .int .i64 6, .int .i64 11, .int .i64 25, .int .i64 7, .int .i64 18, .int .i64 3, .int .i64 17, .int .i64 19, .int .i64 10, .slice (some ⟨w.heap.size + 1, 0, none⟩) 64 64] 0 hB2
  rw [show setL [.int .i64 0, .int .i64 0, .int .i64 0, .int .i64 0, .int .i64 0, .int .i64 0, .int .i64 0, .int .i64 0, .int .i64 0, .int .i64 0, .int .i64 0, .int .i64 0, .slice none 0 0] 0 [.int .i64 2, .int .i64 13, .int .i64 22, .int .i64 6, .int .i64 11, .int .i64 25, .int .i64 7, .int .i64 18, .int .i64 3, .int .i64 17, .int .i64 19, .int .i64 10, .slice (some ⟨w.heap.size + 1, 0, none⟩) 64 64] = [.int .i64 2, .int .i64 13, .int .i64 22, .int .i64 6, .int .i64 11, .int .i64 25, .int .i64 7, .int .i64 18, .int .i64 3, .int .i64 17, .int .i64 19, .int .i64 10, .slice (some ⟨w.heap.size + 1, 0, none⟩) 64 64] from rfl] at hS3
  obtain ⟨W3, hW3⟩ : ∃ W3, W3 = setAll W2 w.heap.size 0 [.int .i64 2, .int .i64 13, .int .i64 22, .int .i64 6, .int .i64 11, .int .i64 25, .int .i64 7, .int .i64 18, .int .i64 3, .int .i64 17, .int .i64 19, .int .i64 10, .slice (some ⟨w.heap.size + 1, 0, none⟩) 64 64] := ⟨_, rfl⟩
  rw [← hW3] at hS3 hA3 hB3
  simp only [setAll, Nat.zero_add, Nat.reduceAdd] at hW3
  have HS3 : Hid _ := hS3.drew
  have HA3 : Hid _ := hA3.drew
  have HB3 : Hid _ := hB3.drew
  have HW3 : Hid _ := hW3
  clear hW3 hS3 hA3 hB3 hS2 hA2 hB2 hT2 ht
  go_region
  go_wp2
  rw [← HW3.out]
  clear HW3
  have hq := fun tmps h => results_cell_row (P := Tryd.prog) (fn := Tryd.f116) (p := 0) (ty := 142) rfl tmps _ w.heap.size 142 _ (0, 0) _ h HS3.out Tryd.underlying142 rfl (by kernel_rfl)
  exact bodyPost_ret (hq _ rfl) rfl ⟨w.heap.size + 1, rfl, HA3.out, by omega, HB3.out⟩
end Go.Proofs.YtofflhhlacdgfaaDoor
namespace Go.Proofs.YtofflhhlacdgfaaDoor
open Go.RowKit Go.Shelf

/-- These blocks, where they were, are as they were. -/
def Same (K : Nat → Prop) (A B : World) : Prop := A.heap.size ≤ B.heap.size ∧ ∀ b, K b → b < A.heap.size → B.heap[b]? = A.heap[b]?
theorem Same.refl (K : Nat → Prop) (A : World) : Same K A A := ⟨Nat.le_refl _, fun _ _ _ => rfl⟩
theorem Same.trans {K : Nat → Prop} {A B C : World} (h : Same K A B) (k : Same K B C) : Same K A C :=
  ⟨Nat.le_trans h.1 k.1, fun b hb hl => (k.2 b hb (Nat.lt_of_lt_of_le hl h.1)).trans (h.2 b hb hl)⟩
theorem Same.of_grown {K : Nat → Prop} {A B : World} {r : Option Nat} (h : A.grownBy B r) (hr : ∀ b, K b → some b ≠ r) : Same K A B :=
  ⟨h.size, fun b hb hl => h.block b hl (hr b hb)⟩
theorem Same.imp {K K' : Nat → Prop} {A B : World} (h : Same K A B) (hk : ∀ b, K' b → K b) : Same K' A B := ⟨h.1, fun b hb hl => h.2 b (hk b hb) hl⟩

/-- What an iterator says that tells the N values encs 0, encs 1, ..: over whatever state J of the loop (k rounds have come; the iterator's own row lies in block g) that does not mind a turn of block g nor new blocks, it ends with all N told. It reads the blocks K between two rounds. -/
def Tells (n : Nat) (P : Program) (gf : Nat) (lb : Array Value) (encs : Nat → Array Value) (N : Nat) (K : Nat → Prop) (W : World) : Prop :=
  ∀ (l : Nat) (J : Nat → Nat → World → Prop),
    (∀ k g g' A B, J k g A → A.grownBy B (some g) → (g' = g ∨ A.heap.size ≤ g') → J k g' B) →
    (∀ k g A, k < N → g < A.heap.size → J k g A → YieldAt Fence.wide (n - 1) P l (encs k) A fun e B => e = .returned (.bool true) ∧ J (k + 1) g B ∧ Same (fun b => b = g ∨ K b) A B) →
    (∀ g, W.heap.size ≤ g → J 0 g W) →
    CallsIn Fence.wide n P gf (#[.func (.yield l) #[] #[]] ++ lb) W fun e B => (∃ v, e = .returned v) ∧ ∃ g, J N g B

/-- How the body of a round is left: off its end. -/
def goesOn (R : World → Prop) : Exit → Act → World → Prop
  | .normal, _, B => R B
  | _, _, _ => False

theorem range_tells {n : Nat} {P : Program} {g : Operand} {ps : Array Tmp} {assign body : Code} {Q : Exit → Act → World → Prop} {a : Act} {w : World}
    {gf : Nat} {lb : Array Value} (hg : a.eval g = .func (.func gf) #[] lb) (eg : ∀ args w, (callFunc gf args).run P w = .ok (.enter gf args) w)
    {encs : Nat → Array Value} {N : Nat} {K : Nat → Prop} (hK : ∀ b, K b → b < w.heap.size)
    (hseq : ∀ W, Below w.heap.size w W → Tells (n - 1) P gf lb encs N K W) (hps : ∀ k, (encs k).size = ps.size)
    (I : Nat → Nat → World → Prop)
    (hIg : ∀ k g g' A B, w.heap.size ≤ g → I k g A → A.grownBy B (some g) → (g' = g ∨ A.heap.size ≤ g') → I k g' B)
    (hIl : ∀ k g A o, I k g A → I k g (A.putObj (w.heap.size + 1) o))
    (h0 : ∀ W g, Below w.heap.size w W → W.heap.size = w.heap.size + 2 → W.heap.size ≤ g → I 0 g W)
    (a₁ : Nat → Act)
    (hassign : ∀ (l k : Nat) (W : World) (R : Act → World → Prop), k < N → R (a₁ k) W →
      assign.wpIn (Fence.wide.inRound l) (n - 1 - 1) P (Exit.then R (fun _ _ _ => False)) { tmps := (ps.zip (encs k)).foldl (fun t (p, v) => t.setIfInBounds p v) a.tmps, defers := [] } W)
    (hbody : ∀ (l k g : Nat) (W : World), k < N → w.heap.size ≤ g → g ≠ w.heap.size → g ≠ w.heap.size + 1 → w.heap.size + 2 ≤ W.heap.size → g < W.heap.size → I k g W →
      body.wpIn (Fence.wide.inRound l) (n - 1 - 1) P (goesOn fun B => I (k + 1) g B ∧ Same (fun b => b = g ∨ K b ∨ b = w.heap.size ∨ b = w.heap.size + 1) W B) (a₁ k) W)
    (hdone : ∀ (g : Nat) (W : World), I N g W → W.heap[w.heap.size]? = some (.deferred (some [])) → Q .normal { a with defers := { target := .collected w.heap.size, args := #[] } :: a.defers } W) :
    (Code.rangeFunc g ps assign body).wpIn Fence.wide n P Q a w := by
  refine wpIn_rangeFunc ?_
  intro fn hfn
  let rec0 : LoopState → Loop := fun st => { state := st, pending := none, fn := fn, tmps := a.tmps, params := ps, assign := assign, body := body, defers := w.heap.size }
  let D := w.heap.size
  let L := w.heap.size + 1
  obtain ⟨W1, hW1⟩ : ∃ W1, W1 = (w.alloc (.deferred (some []))).alloc (.loop (rec0 .ready)) := ⟨_, rfl⟩
  have hs1 : W1.heap.size = w.heap.size + 2 := by rw [hW1]; simp
  have hL1 : W1.heap[L]? = some (.loop (rec0 .ready)) := by
    rw [hW1]; have := World.alloc_heap_new (w.alloc (.deferred (some []))) (.loop (rec0 .ready)); rwa [World.size_alloc] at this
  have hD1 : W1.heap[D]? = some (.deferred (some [])) := by
    rw [hW1]; exact (Below.heap_alloc _ _ _ (by simp [D])).trans (World.alloc_heap_new w _)
  have hB1 : Below w.heap.size w W1 := by rw [hW1]; exact ((Below.refl _ w).alloc (Nat.le_refl _) _).alloc (by simp) _
  refine ⟨L, [{ target := .collected D, args := #[] }], W1, { target := .fn (.func gf) lb, args := #[.func (.yield L) #[] #[]] }, W1, gf, #[.func (.yield L) #[] #[]] ++ lb, W1, ?_, ?_, ?_, ?_, ?_, ?_⟩
  · rw [hW1]; exact run_enterLoop_outer _ _ _ _ _
  · simp only [resolve, hg]; simp [go_sem]
  · intro f' _; trivial
  · simp [invoke, go_sem, eg]
  · intro h; simp [Fence.wide] at h
  · refine (hseq W1 hB1 L (fun k g W => I k g W ∧ W.heap[L]? = some (.loop (rec0 .ready)) ∧ W.heap[D]? = some (.deferred (some [])) ∧ w.heap.size + 2 ≤ g) ?_ ?_ ?_).mono ?_
    · rintro k g g' A B ⟨hi, hl, hd, h2⟩ hgr hgg
      have hlt := (Array.getElem?_eq_some_iff.1 hl).1
      have hdt := (Array.getElem?_eq_some_iff.1 hd).1
      exact ⟨hIg k g g' A B (by omega) hi hgr hgg, (hgr.block L hlt (fun e => by cases e; omega)).trans hl, (hgr.block D hdt (fun e => by cases e; omega)).trans hd, by rcases hgg with h | h <;> omega⟩
    · rintro k g W hk hgl ⟨hi, hl, hd, h2⟩
      have hlt : L < W.heap.size := (Array.getElem?_eq_some_iff.1 hl).1
      have hy := run_yield (P := P) (args := encs k) hl (hps k)
      refine ⟨fn, _, assign, body, hy, roundIn_of_wpIn hfn (hassign _ k W _ hk ⟨_, run_beginRound hl rfl, ?_⟩)⟩
      obtain ⟨W2, hW2⟩ : ∃ W2, W2 = W.putObj L (.loop { rec0 .ready with state := .busy }) := ⟨_, rfl⟩
      have hl2 : W2.heap[L]? = some (.loop { rec0 .ready with state := .busy }) := by rw [hW2]; exact World.putObj_heap_same hlt
      have ho2 : ∀ b, b ≠ L → W2.heap[b]? = W.heap[b]? := fun b hb => by rw [hW2]; exact World.putObj_heap_other hb
      have hz2 : W2.heap.size = W.heap.size := by rw [hW2]; simp
      have hi2 : I k g W2 := by rw [hW2]; exact hIl _ _ _ _ hi
      rw [← hW2]
      refine wpIn_mono (hbody L k g W2 hk (by omega) (by omega) (by omega) (by omega) (by omega) hi2) ?_
      rintro e a3 W3 hp
      cases e with
      | normal =>
        obtain ⟨hi3, hs3⟩ := hp
        have hl3 : W3.heap[L]? = some (.loop { rec0 .ready with state := .busy }) := (hs3.2 L (.inr (.inr (.inr rfl))) (by omega)).trans hl2
        have hd3 : W3.heap[D]? = some (.deferred (some [])) := ((hs3.2 D (.inr (.inr (.inl rfl))) (by show w.heap.size < _; omega)).trans (ho2 D (by show w.heap.size ≠ w.heap.size + 1; omega))).trans hd
        refine ⟨_, _, run_endRound (P := P) none hl3, rfl, ⟨hIl _ _ _ _ hi3, World.putObj_heap_same (by have := hs3.1; omega), (World.putObj_heap_other (by show w.heap.size ≠ w.heap.size + 1; omega)).trans hd3, h2⟩, ?_⟩
        refine ⟨by simp; have := hs3.1; omega, fun b hb hbl => ?_⟩
        have hne : b ≠ L := by
          rcases hb with hb | hb
          · show b ≠ w.heap.size + 1; omega
          · have := hK b hb; show b ≠ w.heap.size + 1; omega
        refine (World.putObj_heap_other hne).trans ((hs3.2 b ?_ (by omega)).trans (ho2 b hne))
        rcases hb with hb | hb
        · exact .inl hb
        · exact .inr (.inl hb)
      | ret => exact hp.elim
      | exit id => exact hp.elim
      | goto t => exact hp.elim
      | panic ch => exact hp.elim
      | outgrown => exact hp.elim
    · intro g hgl
      exact ⟨h0 W1 g hB1 hs1 hgl, hL1, hD1, by omega⟩
    · rintro e W2 ⟨⟨v, rfl⟩, g, hi, hl, hd, h2⟩
      exact ⟨none, _, run_endLoop (P := P) hl (by simp [rec0]), hdone g _ (hIl _ _ _ _ hi) ((World.putObj_heap_other (by show w.heap.size ≠ w.heap.size + 1; omega)).trans hd)⟩
theorem grown_put {w W : World} {r : Option Nat} (h : w.grownBy W r) {D : Nat} (hD : w.heap.size ≤ D) (o : Obj) : w.grownBy (W.putObj D o) r :=
  ⟨h.os, h.tape, h.output, by simpa using h.size, fun i hi hne => (World.putObj_heap_other (by omega)).trans (h.block i hi hne)⟩
end Go.Proofs.YtofflhhlacdgfaaDoor
namespace Go.Proofs.YtofflhhlacdgfaaDoor
open Go.RowKit

theorem own_same {A B : World} {b e s m : Nat} {g cap : Nat} {xs : List Value} (h : A.ownsRow b e s (.slice (some ⟨g, 0, none⟩) m cap) m xs) (hs : B.heap[g]? = A.heap[g]?) : B.ownsRow b e s (.slice (some ⟨g, 0, none⟩) m cap) m xs := by
  refine ⟨h.1, ?_⟩
  rcases h.2 with ⟨hn, _⟩ | ⟨g', cap', cur, he, hb, hg, rest⟩
  · cases hn
  · cases he
    exact .inr ⟨g, cap, cur, rfl, hb, hs.trans hg, rest⟩
theorem own_cell {A : World} {b e m : Nat} {g cap : Nat} {K : IntKind} {l : List Int} (h : A.ownsRow b e 1 (.slice (some ⟨g, 0, none⟩) m cap) m (l.map (Value.int K))) (j : Nat) (hj : j < l.length) : A.cell? ⟨g, j, none⟩ = some (.int K (l.getD j 0)) := by
  have hl : l.length = m := by simpa using h.1
  rcases h.2 with ⟨hn, _⟩ | ⟨g', cap', cur, he, hb, hg, h1, h2, h3, h4⟩
  · cases hn
  · cases he
    rw [cell_of_row A g j _ e _ hg]
    have e1 : cur.toList[j]? = (l.map (Value.int K))[j]? := by
      rw [← h4, List.getElem?_take]
      simp [show j < m by omega]
    rw [← Array.getElem?_toList, e1]
    simp [hj]
theorem own_cap {A : World} {b e s m : Nat} {g cap : Nat} {xs : List Value} (h : A.ownsRow b e s (.slice (some ⟨g, 0, none⟩) m cap) m xs) : m ≤ cap ∧ cap ≤ maxLen ∧ b ≤ g ∧ g < A.heap.size := by
  have hlt := h.lt g rfl
  rcases h.2 with ⟨hn, _⟩ | ⟨g', cap', cur, he, hb, hg, h1, h2, _⟩
  · cases hn
  · cases he
    exact ⟨h1, h2, hlt⟩
theorem own_of_arr {A : World} {b e g m : Nat} {xs : List Value} (h : Arr A g e xs) (hl : xs.length = m) (hb : b ≤ g) (hm : m ≤ maxLen) : A.ownsRow b e 1 (.slice (some ⟨g, 0, none⟩) m m) m xs := by
  subst hl
  exact ⟨by simp, .inr ⟨g, _, _, rfl, hb, h, Nat.le_refl _, hm, by simp, by simp⟩⟩
theorem grown_below {A B : World} (hb : Below A.heap.size A B) (r : Option Nat) : A.grownBy B r := ⟨hb.os, hb.tape, hb.output, hb.size, fun i hi _ => hb.block i hi⟩
theorem app_J {J : Nat → Nat → World → Prop} (hJ : ∀ k g g' A B, J k g A → A.grownBy B (some g) → (g' = g ∨ A.heap.size ≤ g') → J k g' B) {k g gg : Nat} {A B : World} {o : Obj} (h : J k g A) (hg : (A.alloc o).grownBy B (some g)) (hat : some g = some gg ∨ gg = A.heap.size + 1) : J k gg B := by
  refine hJ k g gg (A.alloc o) B (hJ k g g A _ h (grown_below ((Below.refl _ _).alloc (Nat.le_refl _) _) _) (.inl rfl)) hg ?_
  rcases hat with e | e
  · left; cases e; rfl
  · right; simp [e]
end Go.Proofs.YtofflhhlacdgfaaDoor
namespace Go.Proofs.YtofflhhlacdgfaaDoor
open Go.RowKit Go.Shelf
set_option maxRecDepth 100000

theorem sch_pren (xs : List Int) (k m : Nat) (hk : k ≤ m) (j : Nat) (hj : j < k) : (schedL xs m).getD j 0 = (schedL xs k).getD j 0 := by
  induction m with
  | zero => omega
  | succ m ih =>
    by_cases e : k = m + 1
    · rw [e]
    · rw [schSnocn]
      have hl := schedL_len xs m
      have h2 : (schedL xs m ++ [nextW xs (schedL xs m)]).getD j 0 = (schedL xs m).getD j 0 := by
        simp [List.getD, List.getElem?_append_left, hl, show j < m by omega]
      rw [h2]
      exact ih (by omega)
theorem nextHin (xs : List Int) (k : Nat) (hk : 16 ≤ k) : nextW xs (schedL xs k) = (sS1 ((schedL xs k).getD (k - 16 + 14) 0) + (schedL xs k).getD (k - 16 + 9) 0 + sS0 ((schedL xs k).getD (k - 16 + 1) 0) + (schedL xs k).getD (k - 16) 0) % 4294967296 := by
  unfold nextW
  rw [if_neg (by rw [schedL_len]; omega), schedL_len, show k - 16 + 14 = k - 2 by omega, show k - 16 + 9 = k - 7 by omega, show k - 16 + 1 = k - 15 by omega]
  congr 1
  omega

/-- The row of words and the rules, through whatever keeps what is there. -/
structure Wsn (W wr : World) (q g m cap rb : Nat) (l : List Int) : Prop where
  own : wr.ownsRow W.heap.size 132 1 (.slice (some ⟨g, 0, none⟩) m cap) m (U32 l)
  ru : Arr wr q 142 [.int .i64 2, .int .i64 13, .int .i64 22, .int .i64 6, .int .i64 11, .int .i64 25, .int .i64 7, .int .i64 18, .int .i64 3, .int .i64 17, .int .i64 19, .int .i64 10, .slice (some ⟨rb, 0, none⟩) 64 64]
theorem Wsn.go {W A B : World} {q g m cap rb : Nat} {l : List Int} (h : Wsn W A q g m cap rb l) (hb : Below A.heap.size A B) : Wsn W B q g m cap rb l :=
  ⟨own_same h.own (hb.block g (own_cap h.own).2.2.2), h.ru.kept hb⟩
theorem Wsn.turns {W A : World} {q g m cap rb : Nat} {l : List Int} (h : Wsn W A q g m cap rb l) : A.cell? ⟨q, 0, none⟩ = some (.int .i64 2) ∧ A.cell? ⟨q, 1, none⟩ = some (.int .i64 13) ∧ A.cell? ⟨q, 2, none⟩ = some (.int .i64 22) ∧ A.cell? ⟨q, 3, none⟩ = some (.int .i64 6) ∧ A.cell? ⟨q, 4, none⟩ = some (.int .i64 11) ∧ A.cell? ⟨q, 5, none⟩ = some (.int .i64 25) ∧ A.cell? ⟨q, 6, none⟩ = some (.int .i64 7) ∧ A.cell? ⟨q, 7, none⟩ = some (.int .i64 18) ∧ A.cell? ⟨q, 8, none⟩ = some (.int .i64 3) ∧ A.cell? ⟨q, 9, none⟩ = some (.int .i64 17) ∧ A.cell? ⟨q, 10, none⟩ = some (.int .i64 19) ∧ A.cell? ⟨q, 11, none⟩ = some (.int .i64 10) :=
  ⟨h.ru.cell 0, h.ru.cell 1, h.ru.cell 2, h.ru.cell 3, h.ru.cell 4, h.ru.cell 5, h.ru.cell 6, h.ru.cell 7, h.ru.cell 8, h.ru.cell 9, h.ru.cell 10, h.ru.cell 11⟩
theorem Wsn.same {W A B : World} {q g m cap rb p : Nat} {l : List Int} (h : Wsn W A q g m cap rb l) (hs : Same (fun b => b = g ∨ b = p ∨ b = q) A B) : Wsn W B q g m cap rb l :=
  ⟨own_same h.own (hs.2 g (.inl rfl) (own_cap h.own).2.2.2), (hs.2 q (.inr (.inr rfl)) h.ru.lt).trans h.ru⟩
theorem Wsn.app {W A B : World} {o : Obj} {q g m cap rb gg cap' : Nat} {xs : List Int} {z : Int} (h : Wsn W A q g m cap rb (schedL xs m)) (hqg : q ≠ g)
    (hown : B.ownsRow W.heap.size 132 1 (.slice (some ⟨gg, 0, none⟩) (m + 1) cap') (m + 1) (U32 (schedL xs m) ++ U32 [z])) (hg : (A.alloc o).grownBy B (some g)) (hs : schedL xs (m + 1) = schedL xs m ++ [z]) : Wsn W B q gg (m + 1) cap' rb (schedL xs (m + 1)) := by
  refine ⟨by rw [hs]; simpa using hown, ?_⟩
  have h1 := h.ru.alloc o
  exact (hg.block q h1.lt (fun e => hqg (by cases e; rfl))).trans h1
set_option maxHeartbeats 2000000 in
theorem schedTellsn (n p q rb : Nat) (a : Option Addr) (c : Nat) (xs : List Int) (W : World) (hp : Arr W p 22 [.slice a 64 c]) (hq : Arr W q 142 [.int .i64 2, .int .i64 13, .int .i64 22, .int .i64 6, .int .i64 11, .int .i64 25, .int .i64 7, .int .i64 18, .int .i64 3, .int .i64 17, .int .i64 19, .int .i64 10, .slice (some ⟨rb, 0, none⟩) 64 64]) (hx : Bs W a 64 c xs) :
    Tells n Tryd.prog 151 #[.pointer (some ⟨p, 0, none⟩), .pointer (some ⟨q, 0, none⟩)] (fun k => #[.int .i64 (k : Int), .int .u32 ((schedL xs 64).getD k 0)]) 64 (fun b => b = p ∨ b = q) W := by
  intro l J hJ hY h0
  obtain ⟨i0, hi, hz0, hz1, hz2⟩ := info_parts infoUn
  have hpc : W.cell? ⟨p, 0, none⟩ = some (.slice a 64 c) := hp.cell 0
  refine callsIn_of_wp Tryd.func151 rfl trivial ?_ rfl
  simp only [Tryd.ntmps151, List.size_toArray, List.length_cons, List.length_nil, Nat.reduceAdd, Nat.reduceSub, Array.replicate_succ, Array.replicate_zero, List.push_toArray, List.append_toArray, List.nil_append, List.cons_append]
  have hwide : Fence.wide.depth.isSome = true → 1 ≤ n := fun h => by cases h
  gi_wp2
  refine ⟨trivial, hwide, (callsIn_wide.2 (blockWordsn a c xs _ hx)).mono ?_⟩
  rintro e w1 ⟨g, rfl, hA1, hg1, hb1⟩
  have hq1 := hq.kept hb1
  have hqc1 : w1.cell? ⟨q, 12, none⟩ = some (.slice (some ⟨rb, 0, none⟩) 64 64) := hq1.cell 12
  have hown1 : w1.ownsRow W.heap.size 132 1 (.slice (some ⟨g, 0, none⟩) 16 16) 16 (U32 (schedL xs 16)) := own_of_arr hA1 (by simp [schedL_len]) hg1 (by unfold maxLen; omega)
  have hJ1 : J 0 g w1 := hJ 0 W.heap.size g W w1 (h0 _ (Nat.le_refl _)) (grown_below hb1 _) (.inr hg1)
  have WS0 : Wsn W w1 q g 16 16 rb (schedL xs 16) := ⟨hown1, hq1⟩
  have hqW := hq.lt
  have hsz1 := hb1.size
  clear hA1 hg1 hb1 hown1 hq1 h0 hp hq hx hpc
  gi_wp2
  gi_loopw [4, 11] (fun v i wr => ∃ k g m cap : Nat, k ≤ 64 ∧ m = max 16 k ∧ v = .slice (some ⟨g, 0, none⟩) m cap ∧ i = .int .i64 k ∧ Wsn W wr q g m cap rb (schedL xs m) ∧ J k g wr ∧ W.heap.size ≤ wr.heap.size) (fun _ i _ => 64 - (intOf i).toNat)
  case atStart => exact ⟨0, g, 16, 16, by omega, by omega, rfl, rfl, WS0, hJ1, hsz1⟩
  case round =>
    clear WS0 hJ1 hqc1 hsz1
    obtain ⟨k, g, m, cap, hk, hm, rfl, rfl, WS, hJk, hsz⟩ := hrel
    by_cases hlt : k < 64
    · have hkR : (k : Int) < 64 := by omega
      by_cases h16 : 16 ≤ k
      · have h16' : (16 : Int) ≤ (k : Int) := by omega
        obtain rfl : m = k := by omega
        clear hm
        have WSd : Wsn W wr.drew q g m cap rb (schedL xs m) := WS.go (Below.refl _ _).drew
        have hJd : J m g wr.drew := hJ m g g wr _ hJk (grown_below (Below.refl _ _).drew _) (.inl rfl)
        obtain ⟨hcap1, hcap2, hg1, hg2⟩ := own_cap WSd.own
        obtain ⟨y0, e0⟩ : ∃ y, y = (schedL xs m).getD (m - 16) 0 := ⟨_, rfl⟩
        obtain ⟨y1, e1⟩ : ∃ y, y = (schedL xs m).getD (m - 16 + 1) 0 := ⟨_, rfl⟩
        obtain ⟨y9, e9⟩ : ∃ y, y = (schedL xs m).getD (m - 16 + 9) 0 := ⟨_, rfl⟩
        obtain ⟨y14, e14⟩ : ∃ y, y = (schedL xs m).getD (m - 16 + 14) 0 := ⟨_, rfl⟩
        have hnx := nextHin xs m h16
        rw [← e0, ← e1, ← e9, ← e14] at hnx
        have c0 : wr.drew.cell? ⟨g, m - 16, none⟩ = some (.int .u32 y0) := by rw [e0]; exact own_cell WSd.own _ (by rw [schedL_len]; omega)
        have c1 : wr.drew.cell? ⟨g, m - 16 + 1, none⟩ = some (.int .u32 y1) := by rw [e1]; exact own_cell WSd.own _ (by rw [schedL_len]; omega)
        have c9 : wr.drew.cell? ⟨g, m - 16 + 9, none⟩ = some (.int .u32 y9) := by rw [e9]; exact own_cell WSd.own _ (by rw [schedL_len]; omega)
        have c14 : wr.drew.cell? ⟨g, m - 16 + 14, none⟩ = some (.int .u32 y14) := by rw [e14]; exact own_cell WSd.own _ (by rw [schedL_len]; omega)
        obtain ⟨z, hz⟩ : ∃ z, z = (sS1 y14 + y9 + sS0 y1 + y0) % 4294967296 := ⟨_, rfl⟩
        rw [← hz] at hnx
        have HNC : Hid (Calls Tryd.prog 153 #[.slice (some ⟨g, m - 16, none⟩) 16 (cap - (m - 16)), .agg #[.int .i64 2, .int .i64 13, .int .i64 22, .int .i64 6, .int .i64 11, .int .i64 25, .int .i64 7, .int .i64 18, .int .i64 3, .int .i64 17, .int .i64 19, .int .i64 10]] wr.drew fun e w' => e = .returned (.int .u32 z) ∧ Below wr.drew.heap.size wr.drew w') := by
          unfold Hid
          rw [hz]
          exact nextCn g (m - 16) 16 (cap - (m - 16)) y0 y1 y9 y14 wr.drew (by omega) c0 c1 c9 c14
        have hsn := schSnocn xs m
        rw [hnx] at hsn
        have HSN : Hid (schedL xs (m + 1) = schedL xs m ++ [z]) := hsn
        have hqg : q ≠ g := by omega
        clear e0 e1 e9 e14 hnx c0 c1 c9 c14 hz hsn hJk WS
        have s1 : IntKind.i64.wrap ((m : Int) - 16) = (m : Int) - 16 := by rw [IntKind.wrap_i64]; omega
        have s2 : ((m : Int) - 16).toNat = m - 16 := by omega
        have s3 : (m : Int) - 16 ≤ (m : Int) := by omega
        have s4 : (m : Int) ≤ (cap : Int) := by omega
        have s5 : m - (m - 16) = 16 := by omega
        have s8 : ¬ (cap = m - 16) := by omega
        gi_wp2
        refine wpIn_wide.2 ?_
        go_region_held3 (fun Z => Z.cell? ⟨q, 0, none⟩ = some (.int .i64 2) ∧ Z.cell? ⟨q, 1, none⟩ = some (.int .i64 13) ∧ Z.cell? ⟨q, 2, none⟩ = some (.int .i64 22) ∧ Z.cell? ⟨q, 3, none⟩ = some (.int .i64 6) ∧ Z.cell? ⟨q, 4, none⟩ = some (.int .i64 11) ∧ Z.cell? ⟨q, 5, none⟩ = some (.int .i64 25) ∧ Z.cell? ⟨q, 6, none⟩ = some (.int .i64 7) ∧ Z.cell? ⟨q, 7, none⟩ = some (.int .i64 18) ∧ Z.cell? ⟨q, 8, none⟩ = some (.int .i64 3) ∧ Z.cell? ⟨q, 9, none⟩ = some (.int .i64 17) ∧ Z.cell? ⟨q, 10, none⟩ = some (.int .i64 19) ∧ Z.cell? ⟨q, 11, none⟩ = some (.int .i64 10))
          (first | exact WS3.turns | exact WSd.turns | exact (WSd.go ((Below.refl _ _).alloc (Nat.le_refl _) _)).turns)
          ((first
            | (refine step_append_lies _ (by rfl) _ _ _ (by rfl) W.heap.size 132 i0 _ 1 4 Tryd.underlying140 hi hz0 hz1 hz2 rfl (by omega) (.slice (some ⟨g, 0, none⟩) m cap) m (U32 (schedL xs m)) (by rfl) (WSd.own.alloc _)
                ⟨w2.heap.size, 0, none⟩ 1 1 (U32 [z]) (by rfl) (by rfl) (World.news_of_block (cs := #[.int .u32 z]) (t := 132) (fr := (0, 0)) (heap_alloc_new w2 _)) (by simp [Value.oneCell'])
                (by omega) (by unfold maxLen; omega) (by omega) (by simp; omega) (w2.heap.size + 1) (by simp) ?_; intro gg cap' w3 hown3 hgrow hat hlt3; have WS3 := Wsn.app WSd hqg hown3 hgrow HSN.out; have hJ3 := app_J hJ hJd hgrow hat; have hsz3 := Nat.le_trans (Nat.le_trans hsz (Nat.le_succ _)) (by simpa using hgrow.size))
            | (go_at_call 153; refine HNC.out.mono ?_; rintro e w2 ⟨rfl, hb2⟩; replace WSd := WSd.go hb2; replace hJd := hJ m g g _ w2 hJd (grown_below hb2 _) (.inl rfl); replace hsz := Nat.le_trans hsz hb2.size)))
        clear hown3 hgrow hat HSN HNC hb2 hJd WSd s1 s2 s3 s4 s5 s8
        rename_i hHeld0
        clear hHeld0
        obtain ⟨x, hx⟩ : ∃ x, x = (schedL xs 64).getD m 0 := ⟨_, rfl⟩
        have hxc : w3.cell? ⟨gg, m, none⟩ = some (.int .u32 x) := by
          rw [own_cell WS3.own m (by rw [schedL_len]; omega), hx, sch_pren xs (m + 1) 64 (by omega) m (by omega)]
        obtain ⟨fn, tmps, assign, body, hy, hR⟩ := hY m gg w3 hlt (own_cap WS3.own).2.2.2 hJ3
        rw [← hx] at hy
        clear hx hY
        have hkm : (m : Int) < ((m + 1 : Nat) : Int) := by omega
        gi_wp2
        refine ⟨hwide, hR.mono ?_⟩
        rintro e w4 ⟨rfl, hJ4, hs4⟩
        have WS4 : Wsn W w4 q gg (m + 1) cap' rb (schedL xs (m + 1)) := WS3.same hs4
        have hsz4 := Nat.le_trans hsz3 hs4.1
        clear WS3 hs4 hxc hy hR
        gi_wp2
        go_roundw
        case rel => exact ⟨m + 1, gg, m + 1, cap', by omega, by omega, rfl, by go_num, WS4, hJ4, hsz4⟩
        case measure => simp [intOf]; omega
      · obtain rfl : m = 16 := by omega
        clear hm
        have h16' : (k : Int) < 16 := by omega
        obtain ⟨x, hx⟩ : ∃ x, x = (schedL xs 64).getD k 0 := ⟨_, rfl⟩
        have hxc : wr.cell? ⟨g, k, none⟩ = some (.int .u32 x) := by
          rw [own_cell WS.own k (by rw [schedL_len]; omega), hx, sch_pren xs (16) 64 (by omega) k (by omega)]
        obtain ⟨fn, tmps, assign, body, hy, hR⟩ := hY k g wr hlt (own_cap WS.own).2.2.2 hJk
        rw [← hx] at hy
        clear hx hY
        have hkm : (k : Int) < ((16 : Nat) : Int) := by omega
        gi_wp2
        refine ⟨hwide, hR.mono ?_⟩
        rintro e w4 ⟨rfl, hJ4, hs4⟩
        have WS4 : Wsn W w4 q g (16) cap rb (schedL xs (16)) := WS.same hs4
        have hsz4 := Nat.le_trans hsz hs4.1
        clear WS hs4 hxc hy hR
        gi_wp2
        go_roundw
        case rel => exact ⟨k + 1, g, 16, cap, by omega, by omega, rfl, by go_num, WS4, hJ4, hsz4⟩
        case measure => simp [intOf]; omega
    · have hkn : k = 64 := by omega
      subst hkn
      gi_wp2
      go_end0
      exact ⟨⟨_, rfl⟩, g, hJk⟩
end Go.Proofs.YtofflhhlacdgfaaDoor
namespace Go.Proofs.YtofflhhlacdgfaaDoor
open Go.RowKit
set_option maxRecDepth 100000

set_option maxHeartbeats 2000000 in
theorem roundCn (g : Nat) (a b c d e f i h kw : Int) (w : World) (hA : Arr w g 134 (U32 [a, b, c, d, e, f, i, h])) :
    Calls Tryd.prog 143 #[.pointer (some ⟨g, 0, none⟩), .int .u32 kw, .agg #[.int .i64 2, .int .i64 13, .int .i64 22, .int .i64 6, .int .i64 11, .int .i64 25, .int .i64 7, .int .i64 18, .int .i64 3, .int .i64 17, .int .i64 19, .int .i64 10]] w fun en w' => en = .returned (.tuple #[]) ∧ Arr w' g 134 (U32 (stp8 a b c d e f i h kw)) ∧ w.grownBy w' (some g) := by
  obtain ⟨W, hW⟩ : ∃ W, W = w.alloc (.cells #[.int .i64 2, .int .i64 13, .int .i64 22, .int .i64 6, .int .i64 11, .int .i64 25, .int .i64 7, .int .i64 18, .int .i64 3, .int .i64 17, .int .i64 19, .int .i64 10] 139) := ⟨_, rfl⟩
  have hB : Below w.heap.size w W := by rw [hW]; exact (Below.refl _ _).alloc (Nat.le_refl _) _
  have hT : Arr W w.heap.size 139 (I64 [2, 13, 22, 6, 11, 25, 7, 18, 3, 17, 19, 10]) := by rw [hW]; exact Arr.new w (I64 [2, 13, 22, 6, 11, 25, 7, 18, 3, 17, 19, 10]) _
  replace hA := hA.kept hB
  have c0 := hA.u32 0 (by simp)
  have c1 := hA.u32 1 (by simp)
  have c2 := hA.u32 2 (by simp)
  have c3 := hA.u32 3 (by simp)
  have c4 := hA.u32 4 (by simp)
  have c5 := hA.u32 5 (by simp)
  have c6 := hA.u32 6 (by simp)
  have c7 := hA.u32 7 (by simp)
  simp at c0 c1 c2 c3 c4 c5 c6 c7
  have hsg : IntKind.u32.signed = false := rfl
  have u3 := hT.i64 3 (by simp)
  have u4 := hT.i64 4 (by simp)
  have u5 := hT.i64 5 (by simp)
  simp at u3 u4 u5
  go_enter Tryd.func143, Tryd.ntmps143
  go_wp2
  rw [← hW]
  clear hW
  go_quiet (fail)
  go_wp2
  go_quiet (fail)
  go_wp2_with fail
  refine (turnG1n e _).mono ?_
  rintro en w1 ⟨rfl, hb1⟩
  have B1 : Below W.heap.size W w1 := (bel_dN (Below.refl _ W) _).trans hb1
  clear hb1 c0 c1 c2 c3 c4 c5 c6 c7 u3 u4 u5
  have hT1 := hT.kept B1
  have u3 := hT1.i64 0 (by simp)
  have u4 := hT1.i64 1 (by simp)
  have u5 := hT1.i64 2 (by simp)
  simp at u3 u4 u5
  go_wp2_with fail
  refine (turnG0n a _).mono ?_
  rintro en w2 ⟨rfl, hb2⟩
  have B2 := B1.trans (hb2.mono B1.size)
  have A2 := hA.kept B2
  have c0 := A2.u32 0 (by simp)
  have c1 := A2.u32 1 (by simp)
  have c2 := A2.u32 2 (by simp)
  have c3 := A2.u32 3 (by simp)
  have c4 := A2.u32 4 (by simp)
  have c5 := A2.u32 5 (by simp)
  have c6 := A2.u32 6 (by simp)
  have c7 := A2.u32 7 (by simp)
  have f0 := A2.frozen
  simp at c0 c1 c2 c3 c4 c5 c6 c7
  have G2 := grown_of_below (hB.trans (B2.mono hB.size)) (some g)
  clear hA B1 hb2 B2 hB hT hT1 u3 u4 u5
  go_wp2
  go_end0
  refine ⟨rfl, ?_, grown_set8 G2 _ _ _ _ _ _ _ _⟩
  exact A2.set8 _ _ _ _ _ _ _ _
end Go.Proofs.YtofflhhlacdgfaaDoor
namespace Go.Proofs.YtofflhhlacdgfaaDoor
open Go.RowKit Go.Shelf

variable {F : Fence} {n : Nat} {P : Program} {ops : Array Oper} {Q : Exit → Act → World → Prop}

theorem operIn_round (l : Nat) {o : Oper} (ho : ∀ c, o.op ≠ .defer c) (hF : F.round = none) {a : Act} {w : World} {K : Act → World → Prop} (h : o.wpIn F n P a w K Q) : o.wpIn (F.inRound l) n P a w K Q := by
  unfold Oper.wpIn at *
  refine ⟨h.1, ?_⟩
  have h2 := h.2
  rw [hF, Oper.semAt_none] at h2
  rw [show (F.inRound l).round = some l from rfl, Oper.semAt_some l _ _ ho]
  generalize (execOp a.eval o).run P w = r at *
  cases r with
  | ok x w' =>
    cases x <;> simp only [Oper.uponIn] at h2 ⊢ <;> exact h2
  | halt x w' => cases x <;> simp only [Oper.uponIn] at h2 ⊢ <;> exact h2
theorem opIn_round (l : Nat) (hd : ∀ (i : Nat) (o : Oper), ops[i]? = some o → ∀ c, o.op ≠ .defer c) (hF : F.round = none) {i : Nat} {a : Act} {w : World} {K : Act → World → Prop} (h : wpOpIn F n P ops Q i K a w) : wpOpIn (F.inRound l) n P ops Q i K a w := by
  unfold wpOpIn at *
  split
  · simpa [*] using h
  · rename_i o ho
    simp only [ho] at h
    split
    · rename_i hw; simp only [hw, if_true] at h; exact operIn_round l (hd _ _ ho) hF h
    · rename_i hw; simp only [hw] at h; exact h
theorem opsIn_round (l : Nat) (hd : ∀ (i : Nat) (o : Oper), ops[i]? = some o → ∀ c, o.op ≠ .defer c) (hF : F.round = none) : ∀ (is : List Nat) {a : Act} {w : World}, wpOpsIn F n P ops Q is a w → wpOpsIn (F.inRound l) n P ops Q is a w
  | [], _, _, h => h
  | i :: is, a, w, h => by
    rw [wpOpsIn_cons] at h ⊢
    exact wpOpIn_mono (fun a w => opsIn_round l hd hF is) (opIn_round l hd hF h)
/-- No defer statement. -/
def noDefer (o : Oper) : Bool := match o.op with
  | .defer _ => false
  | _ => true
theorem noDefer_all (h : ops.all noDefer = true) (i : Nat) (o : Oper) (ho : ops[i]? = some o) (c : Call) : o.op ≠ .defer c := by
  intro hc
  obtain ⟨hi, he⟩ := Array.getElem?_eq_some_iff.1 ho
  have := Array.all_eq_true.1 h i hi
  rw [he] at this
  simp [noDefer, hc] at this
theorem region_round (l : Nat) {id : Nat} {a : Act} {w : World} (hm : P.follows .mixedOrders = true) (hF : F.round = none) (hd : ops.all noDefer = true)
    (h : wpAnyIn F n P .any ops Q ops.size (Array.replicate ops.size false) a w.drew) : (Code.region id ops true).wpIn (F.inRound l) n P Q a w :=
  wpIn_region_draw fun t => by
    simp only [Region.schedule, hm, Bool.true_or, if_true]
    exact opsIn_round l (noDefer_all hd) hF _ (wpAnyIn_sound ops.size t _ a _ h)
end Go.Proofs.YtofflhhlacdgfaaDoor
