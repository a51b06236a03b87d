/-
  What is proved here: the summary of a state, behind a head, comes to the same state, as plain data; no program is spoken of; what the laws' logs answers; what the program's usedPlaces answers; a law on a range over a function whose body never leaves the loop and whose iterator keeps a row of its own in a block of the heap: the iterator says that it turns that one block and new ones alone, the body says that it leaves that block (and those that the iterator reads) as they are. No program is spoken of.
-/
import Derived.Test.YtjceajgefpinpaaJN13
import Derived.Test.YtjceajgefpinpaaJN19
import Derived.Laws.OwnMore
import Derived.RangeFuncNested
import Derived.RangeFuncBound
import Derived.RangeFuncCalls
import Derived.RangeFuncLeaves
import Derived.Shelf.Abstract
import Derived.Shelf.RegionOpen
import Derived.WalkKit
import Derived.OwnWalkIn
import Derived.TacticsInMore
import Derived.LoopNIn
import Derived.LoopIn
namespace Go.Proofs.Ytjceajgefpinpaa
open Go.RowKit
set_option maxRecDepth 100000
set_option maxHeartbeats 2000000
set_option linter.unusedVariables false

theorem foT_ok {l : List Rc} (h : (foT l).2 = true) : (foT l).1.Ok := by
  unfold foT at h ⊢
  split at h
  · next hc =>
    rw [if_pos hc]
    unfold foL at h ⊢
    split at h
    · next hg =>
      rw [if_pos hg]
      exact foS_ok hc.2 hg _ (by have := hg.1; omega)
    · cases h
  · cases h
theorem foT_no {l : List Rc} (h : (foT l).2 = false) : (foT l).1 = bz := by
  unfold foT at h ⊢
  split at h
  · next hc =>
    rw [if_pos hc]
    unfold foL at h ⊢
    split at h
    · cases h
    · next hg => rw [if_neg hg]
  · next hc => rw [if_neg hc]
theorem foT_of {l : List Rc} (h32 : l.length ≤ 32) (ha : foAll l) (hg : foGood l) : foT l = (foS l (l.length - 2), true) := by
  unfold foT
  rw [if_pos ⟨h32, ha⟩]
  unfold foL
  rw [if_pos hg]
abbrev rHead (x : Int) : Rc := ⟨1, 0, x, 0⟩
theorem smL_ok {s : Bt} (hs : s.Ok) : smL s.b s.n s.f s.t s.i s.o = smR s.b s.n s.f s.t s.i s.o := if_pos hs
theorem smR_ok {b n f i o : Int} {t : Bool} (h : btOk b n f t i o) : (∀ r ∈ smR b n f t i o, r.Ok) ∧ (smR b n f t i o).length ≤ 5 ∧ 1 ≤ (smR b n f t i o).length := by
  obtain ⟨h1, h2, h3, h4⟩ := h
  cases t
  · refine ⟨?_, by simp [smR], by simp [smR]⟩
    intro r hr
    simp [smR] at hr
    subst hr
    show rcOk 2 b n f
    exact .inr (.inl ⟨rfl, h1, h2, h3⟩)
  · rw [if_pos rfl] at h4
    refine ⟨?_, ?_, by simp [smR]⟩
    · intro r hr
      simp [smR] at hr
      rcases hr with rfl | rfl | ⟨_, rfl⟩
      · exact .inr (.inl ⟨rfl, by dsimp only; omega, h4.2, h3⟩)
      · exact .inr (.inr (.inl ⟨rfl, h1, h2, rfl⟩))
      · exact .inr (.inr (.inr (.inr ⟨.inl rfl, rfl, rfl, rfl⟩)))
    · simp [smR]
      omega
theorem fold_sum {s : Bt} (hs : s.Ok) (x : Int) (hx : 0 ≤ x ∧ x ≤ 1000) : foT (rHead x :: smL s.b s.n s.f s.t s.i s.o) = (s, true) := by
  rw [smL_ok hs]
  obtain ⟨b, n, f, t, i, o⟩ := s
  have hk : (∀ r ∈ smR b n f t i o, r.Ok) ∧ (smR b n f t i o).length ≤ 5 ∧ 1 ≤ (smR b n f t i o).length := smR_ok hs
  have ha : foAll (rHead x :: smR b n f t i o) := all_of (by
    intro r hr
    rw [List.mem_cons] at hr
    rcases hr with rfl | hr
    · exact .inl ⟨rfl, rfl, hx, rfl⟩
    · exact hk.1 r hr)
  obtain ⟨h1, h2, h3, h4⟩ := hs
  dsimp only at h1 h2 h3 h4
  cases t
  · simp only [Bool.false_eq_true, if_false] at h4
    obtain ⟨rfl, rfl⟩ := h4
    rw [foT_of (by simp [smR]) ha ⟨by simp [smR], rfl, rfl⟩]
    rfl
  · simp only [if_true] at h4
    have hi : i = 0 ∨ i = 1 ∨ i = 2 ∨ i = 3 := by omega
    have hb : ¬ (b = 1 - b) := by omega
    have e1 : stT ⟨1 - b, o, f, false, 0, 0⟩ ⟨3, b, n, 0⟩ = (⟨b, n, f, true, 0, o⟩, true) := by
      unfold stT
      rw [if_pos rfl, if_neg (by simp; exact hb)]
    have e2 : ∀ k : Int, k < 3 → stT ⟨b, n, f, true, k, o⟩ rTry = (⟨b, n, f, true, k + 1, o⟩, true) := by
      intro k hk
      unfold stT
      rw [if_neg (by decide), if_pos rfl, if_neg (by simp; omega)]
    rw [foT_of (by have := hk.2.1; rw [List.length_cons]; omega) ha ⟨by simp [smR], rfl, rfl⟩]
    rcases hi with rfl | rfl | rfl | rfl
    · show ((stT ⟨1 - b, o, f, false, 0, 0⟩ ⟨3, b, n, 0⟩).1, true) = _
      rw [e1]
    · show ((stT (stT ⟨1 - b, o, f, false, 0, 0⟩ ⟨3, b, n, 0⟩).1 rTry).1, true) = _
      rw [e1, e2 0 (by omega)]
      rfl
    · show ((stT (stT (stT ⟨1 - b, o, f, false, 0, 0⟩ ⟨3, b, n, 0⟩).1 rTry).1 rTry).1, true) = _
      rw [e1, e2 0 (by omega), e2 (0 + 1) (by omega)]
      rfl
    · show ((stT (stT (stT (stT ⟨1 - b, o, f, false, 0, 0⟩ ⟨3, b, n, 0⟩).1 rTry).1 rTry).1 rTry).1, true) = _
      rw [e1, e2 0 (by omega), e2 (0 + 1) (by omega), e2 (0 + 1 + 1) (by omega)]
      rfl
end Go.Proofs.Ytjceajgefpinpaa
namespace Go.Proofs.Ytjceajgefpinpaa
open Go.RowKit
set_option maxRecDepth 100000
set_option maxHeartbeats 4000000
set_option linter.unusedVariables false

theorem implLogs (w : World) : Calls Try.prog 15 #[] w fun e w' => e = .returned (.bool true) ∧ Below w.heap.size w w' := by
  obtain ⟨L0, hL0⟩ : ∃ L0 : List Rc, L0 = [⟨1, 0, 1, 0⟩, ⟨2, 0, 3, 2⟩] := ⟨_, rfl⟩
  have hF : foT L0 = (⟨0, 3, 2, false, 0, 0⟩, true) := by
    rw [hL0, foT_of (by simp) (all_of (by
      intro r hr
      simp at hr
      rcases hr with rfl | rfl
      · exact .inl ⟨rfl, rfl, by dsimp only; omega, rfl⟩
      · exact .inr (.inl ⟨rfl, by dsimp only; omega, by dsimp only; omega, by dsimp only; omega⟩))) ⟨by simp, rfl, rfl⟩]
    rfl
  have hl0 : L0.length = 2 := by rw [hL0]; rfl
  obtain ⟨V, hV⟩ : ∃ V, V = w.alloc (.cells #[.int .i64 1, .int .i64 0, .int .i64 1, .int .i64 0, .int .i64 2, .int .i64 0, .int .i64 3, .int .i64 2] 29) := ⟨_, rfl⟩
  have HO : Hid (Rs V (some ⟨w.heap.size, 0, none⟩) 2 2 L0) := by
    have : V.ownsRow w.heap.size 29 4 (.slice (some ⟨w.heap.size, 0, none⟩) 2 2) 2 (FL L0) := by
      rw [hV, hL0]
      exact World.ownsRow_lit w #[.int .i64 1, .int .i64 0, .int .i64 1, .int .i64 0, .int .i64 2, .int .i64 0, .int .i64 3, .int .i64 2] 2 (Nat.le_refl _) (by unfold maxLen; omega) rfl
    exact rs_of_own this
  have BV : Below w.heap.size w V := by rw [hV]; exact (Below.refl _ _).alloc (Nat.le_refl _) _
  have HF : Hid (foT L0 = (⟨0, 3, 2, false, 0, 0⟩, true)) := hF
  clear hF hL0
  go_enter Try.func15, Try.ntmps15
  go_wp2_with fail
  rw [← hV]
  clear hV
  refine (implFold (some ⟨w.heap.size, 0, none⟩) 2 2 L0 _ HO.out (by omega)).mono ?_
  rintro e w2 ⟨rfl, hb⟩
  rw [HF.out]
  dsimp only [stV, btW]
  have HB : Hid (∀ o : Obj, Below w.heap.size w (w2.alloc o)) := fun o => (BV.trans (hb.mono BV.size)).alloc (BV.trans (hb.mono BV.size)).size _
  clear hb BV HO HF
  go_wp2
  go_ret
  exact ⟨rfl, HB.out _⟩
end Go.Proofs.Ytjceajgefpinpaa
namespace Go.Proofs.Ytjceajgefpinpaa
set_option maxRecDepth 100000
set_option maxHeartbeats 4000000
open Go.RowKit
set_option linter.unusedVariables false

theorem blk_pl {xs : List Int} {k : Nat} (h : xs.length = 256) (hk : k < 32) : blk (pl xs k) = true ↔ ∀ j, j < 8 → xs.getD (8 * k + j) 0 = 255 := by
  unfold blk
  rw [decide_eq_true_eq]
  constructor
  · intro ha j hj
    rw [← pl_get hj]
    have hl := pl_len h hk
    have e : (pl xs k).getD j 0 = (pl xs k)[j] := by simp [hl, hj]
    rw [e]
    exact ha _ (List.getElem_mem _)
  · intro ha x hx
    obtain ⟨j, hj, rfl⟩ := List.mem_iff_getElem.1 hx
    have hl := pl_len h hk
    have hj8 : j < 8 := by omega
    have := ha j hj8
    rw [← pl_get hj8] at this
    simpa [hj] using this
theorem scU_of {xs : List Int} {u : Nat} : ∀ K, (∀ k, u ≤ k → k < K → blk (pl xs k) = true) → (u = 0 ∨ (u ≤ K ∧ blk (pl xs (u - 1)) = false)) → scU xs K = u
  | 0, _, h => by rcases h with h | ⟨h, _⟩ <;> simp [scU] <;> omega
  | K + 1, ha, h => by
    unfold scU
    by_cases hb : blk (pl xs K) = true
    · rw [if_pos hb]
      refine scU_of K (fun k h1 h2 => ha k h1 (by omega)) ?_
      rcases h with h | ⟨h, h'⟩
      · exact .inl h
      · by_cases e : u = K + 1
        · rw [e] at h'
          simp at h'
          rw [hb] at h'
          cases h'
        · exact .inr ⟨by omega, h'⟩
    · rw [if_neg hb]
      by_cases hu : u ≤ K
      · exact absurd (ha K hu (by omega)) hb
      · rcases h with h | ⟨h, _⟩ <;> omega
theorem used_eq {xs : List Int} {E : Nat} (hl : xs.length = 256) (hE : E ≤ 256) (ha : ∀ j, E ≤ j → j < 256 → xs.getD j 0 = 255) (he : E = 0 ∨ xs.getD (E - 1) 0 ≠ 255) : scU xs 32 = (E + 7) / 8 := by
  refine scU_of 32 (fun k h1 h2 => (blk_pl hl h2).2 fun j hj => ha _ (by omega) (by omega)) ?_
  by_cases h0 : E = 0
  · exact .inl (by omega)
  · refine .inr ⟨by omega, ?_⟩
    have hne := he.resolve_left h0
    cases hx : blk (pl xs ((E + 7) / 8 - 1)) with
    | false => rfl
    | true =>
      have := (blk_pl hl (by omega)).1 hx ((E - 1) % 8) (by omega)
      rw [show 8 * ((E + 7) / 8 - 1) + (E - 1) % 8 = E - 1 by omega] at this
      exact absurd this hne

theorem implIsWritten (x : Int) (w : World) : Calls Try.prog 74 #[.int .u8 x] w fun e w' => e = .returned (.bool (x != 255)) ∧ w' = w := by
  go_enter Try.func74, Try.ntmps74
  go_wp2
  go_ret
  exact ⟨rfl, rfl⟩
theorem implUsed (a : Option Addr) (c : Nat) (xs : List Int) (w : World) (h : Bs w a 256 c xs) :
    Calls Try.prog 51 #[.slice a 256 c] w fun e w' => e = .returned (.int .i64 ((scU xs 32 : Nat) : Int)) ∧ w' = w := by
  have hl := h.2.1
  have hby := h.2.2.2.1
  rcases h.2.2.2.2 with h0 | ⟨b, o, rfl, hlt, hcell⟩
  · omega
  go_enter Try.func51, Try.ntmps51
  go_wp2
  go_loopw [3] (fun e wr => ∃ k : Nat, k ≤ 256 ∧ e = .int .i64 k ∧ Hid (∀ j, k ≤ j → j < 256 → xs.getD j 0 = 255) ∧ wr = w) (fun e _ => (intOf e).toNat)
  case atStart => exact ⟨256, by omega, rfl, (fun j h1 h2 => by omega), rfl⟩
  case round =>
    obtain ⟨k, hk, rfl, HA, rfl⟩ := hrel
    by_cases h0 : k = 0
    · have h0' : ¬ ((0 : Int) < (k : Int)) := by omega
      have HE : Hid (scU xs 32 = (k + 7) / 8) := used_eq hl hk HA.out (.inl h0)
      have w1 : IntKind.i64.wrap ((k : Int) + 8) = (k : Int) + 8 := wr64 (by omega) (by omega)
      have w2 : IntKind.i64.wrap ((k : Int) + 8 - 1) = (k : Int) + 8 - 1 := wr64 (by omega) (by omega)
      have hq : ((k : Int) + 8 - 1).tdiv 8 = (((k + 7) / 8 : Nat) : Int) := by rw [Int.tdiv_eq_ediv_of_nonneg (by omega)]; omega
      have w2b : IntKind.i64.wrap ((k : Int) + 7) = (k : Int) + 7 := wr64 (by omega) (by omega)
      have hqb : ((k : Int) + 7).tdiv 8 = (((k + 7) / 8 : Nat) : Int) := by rw [Int.tdiv_eq_ediv_of_nonneg (by omega)]; omega
      have w3 : IntKind.i64.wrap ((((k + 7) / 8 : Nat) : Int)) = (((k + 7) / 8 : Nat) : Int) := wr64 (by omega) (by omega)
      generalize (k + 7) / 8 = q at hq hqb w3 HE
      clear h0
      go_wp2
      go_ret
      exact ⟨by rw [HE.out]; first | rfl | (simp; done) | (simp only [w1, w2, w2b, hq, hqb, w3]; done), rfl⟩
    · obtain ⟨m, rfl⟩ : ∃ m, k = m + 1 := ⟨k - 1, by omega⟩
      have h1 : (0 : Int) < ((m + 1 : Nat) : Int) := by omega
      obtain ⟨x, hx⟩ : ∃ x, x = xs.getD m 0 := ⟨_, rfl⟩
      have hc := hcell m (by omega)
      rw [← hx] at hc
      have HX : Hid _ := hx
      clear hx h0
      obtain ⟨K, hK⟩ : ∃ K : Int, K = ((m + 1 : Nat) : Int) := ⟨_, rfl⟩
      rw [← hK] at h1 ⊢
      have s1 : IntKind.i64.wrap (K - 1) = (m : Int) := by rw [hK, show (((m + 1 : Nat) : Int) - 1) = (m : Int) by omega]; exact wr64 (by omega) (by omega)
      have hm256 : (m : Int) < 256 := by omega
      by_cases hx5 : x = 255
      · have hb : (x != 255) = false := by simpa using hx5
        have HA2 : Hid (∀ j, m ≤ j → j < 256 → xs.getD j 0 = 255) := fun j h1 h2 => by
          by_cases e : j = m
          · subst e; rw [← HX.out]; exact hx5
          · exact HA.out j (by omega) h2
        have HK : Hid _ := hK
        clear hK hx5 HA
        go_wp2_with fail
        refine (implIsWritten x _).mono ?_
        rintro e w2 ⟨rfl, hw2⟩
        rw [hw2, hb]
        clear hw2
        go_wp2
        go_roundw
        case rel => exact ⟨m, by omega, rfl, HA2, by first | rfl | trivial⟩
        case measure => have := HK.out; simp [intOf]; omega
      · have hb : (x != 255) = true := by simpa using hx5
        have HE : Hid (scU xs 32 = (m + 1 + 7) / 8) := used_eq hl hk HA.out (.inr (by simp only [Nat.add_sub_cancel]; rw [← HX.out]; exact hx5))
        have w1 : IntKind.i64.wrap (K + 8) = K + 8 := wr64 (by omega) (by omega)
        have w2 : IntKind.i64.wrap (K + 8 - 1) = K + 8 - 1 := wr64 (by omega) (by omega)
        have hq : (K + 8 - 1).tdiv 8 = (((m + 1 + 7) / 8 : Nat) : Int) := by rw [hK, Int.tdiv_eq_ediv_of_nonneg (by omega)]; omega
        have w2b : IntKind.i64.wrap (K + 7) = K + 7 := wr64 (by omega) (by omega)
        have hqb : (K + 7).tdiv 8 = (((m + 1 + 7) / 8 : Nat) : Int) := by rw [hK, Int.tdiv_eq_ediv_of_nonneg (by omega)]; omega
        have w3 : IntKind.i64.wrap ((((m + 1 + 7) / 8 : Nat) : Int)) = (((m + 1 + 7) / 8 : Nat) : Int) := wr64 (by omega) (by omega)
        generalize (m + 1 + 7) / 8 = q at hq hqb w3 HE
        clear hK hx5 HA
        go_wp2_with fail
        refine (implIsWritten x _).mono ?_
        rintro e w2 ⟨rfl, hw2⟩
        rw [hw2, hb]
        clear hw2
        go_wp2
        go_ret
        exact ⟨by rw [HE.out]; first | rfl | (simp; done) | (simp only [w1, w2, w2b, hq, hqb, w3]; done), rfl⟩
end Go.Proofs.Ytjceajgefpinpaa
namespace Go.Proofs.Ytjceajgefpinpaa
open Go.RowKit Go.Shelf

/-- These blocks, where they were, are as they were. -/
def Same (K : Nat → Prop) (A B : World) : Prop := A.heap.size ≤ B.heap.size ∧ ∀ b, K b → b < A.heap.size → B.heap[b]? = A.heap[b]?
theorem Same.refl (K : Nat → Prop) (A : World) : Same K A A := ⟨Nat.le_refl _, fun _ _ _ => rfl⟩
theorem Same.trans {K : Nat → Prop} {A B C : World} (h : Same K A B) (k : Same K B C) : Same K A C :=
  ⟨Nat.le_trans h.1 k.1, fun b hb hl => (k.2 b hb (Nat.lt_of_lt_of_le hl h.1)).trans (h.2 b hb hl)⟩
theorem Same.of_grown {K : Nat → Prop} {A B : World} {r : Option Nat} (h : A.grownBy B r) (hr : ∀ b, K b → some b ≠ r) : Same K A B :=
  ⟨h.size, fun b hb hl => h.block b hl (hr b hb)⟩
theorem Same.imp {K K' : Nat → Prop} {A B : World} (h : Same K A B) (hk : ∀ b, K' b → K b) : Same K' A B := ⟨h.1, fun b hb hl => h.2 b (hk b hb) hl⟩

/-- What an iterator says that tells the N values encs 0, encs 1, ..: over whatever state J of the loop (k rounds have come; the iterator's own row lies in block g) that does not mind a turn of block g nor new blocks, it ends with all N told. It reads the blocks K between two rounds. -/
def Tells (n : Nat) (P : Program) (gf : Nat) (lb : Array Value) (encs : Nat → Array Value) (N : Nat) (K : Nat → Prop) (W : World) : Prop :=
  ∀ (l : Nat) (J : Nat → Nat → World → Prop),
    (∀ k g g' A B, J k g A → A.grownBy B (some g) → (g' = g ∨ A.heap.size ≤ g') → J k g' B) →
    (∀ k g A, k < N → g < A.heap.size → J k g A → YieldAt Fence.wide (n - 1) P l (encs k) A fun e B => e = .returned (.bool true) ∧ J (k + 1) g B ∧ Same (fun b => b = g ∨ K b) A B) →
    (∀ g, W.heap.size ≤ g → J 0 g W) →
    CallsIn Fence.wide n P gf (#[.func (.yield l) #[] #[]] ++ lb) W fun e B => (∃ v, e = .returned v) ∧ ∃ g, J N g B

/-- How the body of a round is left: off its end. -/
def goesOn (R : World → Prop) : Exit → Act → World → Prop
  | .normal, _, B => R B
  | _, _, _ => False

theorem range_tells {n : Nat} {P : Program} {g : Operand} {ps : Array Tmp} {assign body : Code} {Q : Exit → Act → World → Prop} {a : Act} {w : World}
    {gf : Nat} {lb : Array Value} (hg : a.eval g = .func (.func gf) #[] lb) (eg : ∀ args w, (callFunc gf args).run P w = .ok (.enter gf args) w)
    {encs : Nat → Array Value} {N : Nat} {K : Nat → Prop} (hK : ∀ b, K b → b < w.heap.size)
    (hseq : ∀ W, Below w.heap.size w W → Tells (n - 1) P gf lb encs N K W) (hps : ∀ k, (encs k).size = ps.size)
    (I : Nat → Nat → World → Prop)
    (hIg : ∀ k g g' A B, w.heap.size ≤ g → I k g A → A.grownBy B (some g) → (g' = g ∨ A.heap.size ≤ g') → I k g' B)
    (hIl : ∀ k g A o, I k g A → I k g (A.putObj (w.heap.size + 1) o))
    (h0 : ∀ W g, Below w.heap.size w W → W.heap.size = w.heap.size + 2 → W.heap.size ≤ g → I 0 g W)
    (a₁ : Nat → Act)
    (hassign : ∀ (l k : Nat) (W : World) (R : Act → World → Prop), k < N → R (a₁ k) W →
      assign.wpIn (Fence.wide.inRound l) (n - 1 - 1) P (Exit.then R (fun _ _ _ => False)) { tmps := (ps.zip (encs k)).foldl (fun t (p, v) => t.setIfInBounds p v) a.tmps, defers := [] } W)
    (hbody : ∀ (l k g : Nat) (W : World), k < N → w.heap.size ≤ g → g ≠ w.heap.size → g ≠ w.heap.size + 1 → w.heap.size + 2 ≤ W.heap.size → g < W.heap.size → I k g W →
      body.wpIn (Fence.wide.inRound l) (n - 1 - 1) P (goesOn fun B => I (k + 1) g B ∧ Same (fun b => b = g ∨ K b ∨ b = w.heap.size ∨ b = w.heap.size + 1) W B) (a₁ k) W)
    (hdone : ∀ (g : Nat) (W : World), I N g W → W.heap[w.heap.size]? = some (.deferred (some [])) → Q .normal { a with defers := { target := .collected w.heap.size, args := #[] } :: a.defers } W) :
    (Code.rangeFunc g ps assign body).wpIn Fence.wide n P Q a w := by
  refine wpIn_rangeFunc ?_
  intro fn hfn
  let rec0 : LoopState → Loop := fun st => { state := st, pending := none, fn := fn, tmps := a.tmps, params := ps, assign := assign, body := body, defers := w.heap.size }
  let D := w.heap.size
  let L := w.heap.size + 1
  obtain ⟨W1, hW1⟩ : ∃ W1, W1 = (w.alloc (.deferred (some []))).alloc (.loop (rec0 .ready)) := ⟨_, rfl⟩
  have hs1 : W1.heap.size = w.heap.size + 2 := by rw [hW1]; simp
  have hL1 : W1.heap[L]? = some (.loop (rec0 .ready)) := by
    rw [hW1]; have := World.alloc_heap_new (w.alloc (.deferred (some []))) (.loop (rec0 .ready)); rwa [World.size_alloc] at this
  have hD1 : W1.heap[D]? = some (.deferred (some [])) := by
    rw [hW1]; exact (Below.heap_alloc _ _ _ (by simp [D])).trans (World.alloc_heap_new w _)
  have hB1 : Below w.heap.size w W1 := by rw [hW1]; exact ((Below.refl _ w).alloc (Nat.le_refl _) _).alloc (by simp) _
  refine ⟨L, [{ target := .collected D, args := #[] }], W1, { target := .fn (.func gf) lb, args := #[.func (.yield L) #[] #[]] }, W1, gf, #[.func (.yield L) #[] #[]] ++ lb, W1, ?_, ?_, ?_, ?_, ?_, ?_⟩
  · rw [hW1]; exact run_enterLoop_outer _ _ _ _ _
  · simp only [resolve, hg]; simp [go_sem]
  · intro f' _; trivial
  · simp [invoke, go_sem, eg]
  · intro h; simp [Fence.wide] at h
  · refine (hseq W1 hB1 L (fun k g W => I k g W ∧ W.heap[L]? = some (.loop (rec0 .ready)) ∧ W.heap[D]? = some (.deferred (some [])) ∧ w.heap.size + 2 ≤ g) ?_ ?_ ?_).mono ?_
    · rintro k g g' A B ⟨hi, hl, hd, h2⟩ hgr hgg
      have hlt := (Array.getElem?_eq_some_iff.1 hl).1
      have hdt := (Array.getElem?_eq_some_iff.1 hd).1
      exact ⟨hIg k g g' A B (by omega) hi hgr hgg, (hgr.block L hlt (fun e => by cases e; omega)).trans hl, (hgr.block D hdt (fun e => by cases e; omega)).trans hd, by rcases hgg with h | h <;> omega⟩
    · rintro k g W hk hgl ⟨hi, hl, hd, h2⟩
      have hlt : L < W.heap.size := (Array.getElem?_eq_some_iff.1 hl).1
      have hy := run_yield (P := P) (args := encs k) hl (hps k)
      refine ⟨fn, _, assign, body, hy, roundIn_of_wpIn hfn (hassign _ k W _ hk ⟨_, run_beginRound hl rfl, ?_⟩)⟩
      obtain ⟨W2, hW2⟩ : ∃ W2, W2 = W.putObj L (.loop { rec0 .ready with state := .busy }) := ⟨_, rfl⟩
      have hl2 : W2.heap[L]? = some (.loop { rec0 .ready with state := .busy }) := by rw [hW2]; exact World.putObj_heap_same hlt
      have ho2 : ∀ b, b ≠ L → W2.heap[b]? = W.heap[b]? := fun b hb => by rw [hW2]; exact World.putObj_heap_other hb
      have hz2 : W2.heap.size = W.heap.size := by rw [hW2]; simp
      have hi2 : I k g W2 := by rw [hW2]; exact hIl _ _ _ _ hi
      rw [← hW2]
      refine wpIn_mono (hbody L k g W2 hk (by omega) (by omega) (by omega) (by omega) (by omega) hi2) ?_
      rintro e a3 W3 hp
      cases e with
      | normal =>
        obtain ⟨hi3, hs3⟩ := hp
        have hl3 : W3.heap[L]? = some (.loop { rec0 .ready with state := .busy }) := (hs3.2 L (.inr (.inr (.inr rfl))) (by omega)).trans hl2
        have hd3 : W3.heap[D]? = some (.deferred (some [])) := ((hs3.2 D (.inr (.inr (.inl rfl))) (by show w.heap.size < _; omega)).trans (ho2 D (by show w.heap.size ≠ w.heap.size + 1; omega))).trans hd
        refine ⟨_, _, run_endRound (P := P) none hl3, rfl, ⟨hIl _ _ _ _ hi3, World.putObj_heap_same (by have := hs3.1; omega), (World.putObj_heap_other (by show w.heap.size ≠ w.heap.size + 1; omega)).trans hd3, h2⟩, ?_⟩
        refine ⟨by simp; have := hs3.1; omega, fun b hb hbl => ?_⟩
        have hne : b ≠ L := by
          rcases hb with hb | hb
          · show b ≠ w.heap.size + 1; omega
          · have := hK b hb; show b ≠ w.heap.size + 1; omega
        refine (World.putObj_heap_other hne).trans ((hs3.2 b ?_ (by omega)).trans (ho2 b hne))
        rcases hb with hb | hb
        · exact .inl hb
        · exact .inr (.inl hb)
      | ret => exact hp.elim
      | exit id => exact hp.elim
      | goto t => exact hp.elim
      | panic ch => exact hp.elim
      | outgrown => exact hp.elim
    · intro g hgl
      exact ⟨h0 W1 g hB1 hs1 hgl, hL1, hD1, by omega⟩
    · rintro e W2 ⟨⟨v, rfl⟩, g, hi, hl, hd, h2⟩
      exact ⟨none, _, run_endLoop (P := P) hl (by simp [rec0]), hdone g _ (hIl _ _ _ _ hi) ((World.putObj_heap_other (by show w.heap.size ≠ w.heap.size + 1; omega)).trans hd)⟩
theorem grown_put {w W : World} {r : Option Nat} (h : w.grownBy W r) {D : Nat} (hD : w.heap.size ≤ D) (o : Obj) : w.grownBy (W.putObj D o) r :=
  ⟨h.os, h.tape, h.output, by simpa using h.size, fun i hi hne => (World.putObj_heap_other (by omega)).trans (h.block i hi hne)⟩
end Go.Proofs.Ytjceajgefpinpaa
