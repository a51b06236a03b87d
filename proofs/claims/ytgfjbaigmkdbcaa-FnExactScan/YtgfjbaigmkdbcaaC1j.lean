/-
  What is proved here: what the library's slices.Chunk tells a loop that ranges over it, at 256 bytes in places of eight.
-/
import Derived.RangeFuncNested
import Derived.RangeFuncBound
import Derived.RangeFuncCalls
import Derived.RangeFuncLeaves
import Derived.Shelf.Abstract
import Derived.Shelf.RegionOpen
import Derived.OwnWalkIn
import Derived.TacticsInMore
import Derived.LoopNIn
import Derived.LoopIn
import Derived.Test.YtgfjbaigmkdbcaaC1i
import Derived.Test.YtgfjbaigmkdbcaaRfo
namespace Go.Proofs.Ytgfjbaigmkdbcaa
open Go.RowKit Go.Shelf
set_option maxRecDepth 100000
set_option maxHeartbeats 4000000
set_option linter.unusedVariables false
attribute [local go_sem] Oper.semAt_some

/-- Blocks of other types than those of the records that are collected stay as they are. -/
def KT (W W' : World) : Prop := W.heap.size ≤ W'.heap.size ∧ ∀ (g : Nat) (cs : Array Value) (t : TypeId) (fz : Nat × Nat), W.heap[g]? = some (.cells cs t fz) → t ≠ 54 → t ≠ 144 → W'.heap[g]? = some (.cells cs t fz)
theorem KT.trans {A B C : World} (h : KT A B) (k : KT B C) : KT A C := ⟨Nat.le_trans h.1 k.1, fun g cs t fz hg h1 h2 => k.2 g cs t fz (h.2 g cs t fz hg h1 h2) h1 h2⟩
theorem KT.of_bel {A B : World} (h : Below A.heap.size A B) : KT A B := ⟨h.size, fun g cs t fz hg _ _ => (h.block g (Array.getElem?_eq_some_iff.1 hg).1).trans hg⟩
theorem KT.put {W : World} {l : Nat} {o : Obj} (o' : Obj) (h : W.heap[l]? = some o) (ho : o.isCells = false) : KT W (W.putObj l o') := ⟨by simp, fun g cs t fz hg _ _ => by
  have : g ≠ l := fun e => by subst e; rw [h] at hg; cases hg; cases ho
  exact (World.putObj_heap_other this).trans hg⟩
theorem Arr.kt {A B : World} {g : Nat} {t : TypeId} {cs : List Value} (h : Arr A g t cs) (k : KT A B) (h1 : t ≠ 54) (h2 : t ≠ 144) : Arr B g t cs := k.2 g _ _ _ h h1 h2
abbrev ePl (b o k : Nat) : Array Value := #[.slice (some ⟨b, o + 8 * k, none⟩) 8 8]
theorem chunkNew (b o c : Nat) (w : World) :
    Calls Try.prog 141 #[.slice (some ⟨b, o, none⟩) 256 c, .int .i64 8] w fun e w' => e = .returned (.func (.func 155) #[] #[.pointer (some ⟨w.heap.size, 0, none⟩), .pointer (some ⟨w.heap.size + 1, 0, none⟩)]) ∧
      Arr w' w.heap.size 35 [.slice (some ⟨b, o, none⟩) 256 c] ∧ Arr w' (w.heap.size + 1) 3 [.int .i64 8] ∧ w'.heap.size = w.heap.size + 2 ∧ Below w.heap.size w w' := by
  obtain ⟨W, hW⟩ : ∃ W, W = (w.alloc (.cells #[.slice (some ⟨b, o, none⟩) 256 c] 35)).alloc (.cells #[.int .i64 8] 3) := ⟨_, rfl⟩
  have h1 : Arr W w.heap.size 35 [.slice (some ⟨b, o, none⟩) 256 c] := by rw [hW]; exact (Arr.new w [.slice (some ⟨b, o, none⟩) 256 c] _).alloc _
  have h2 : Arr W (w.heap.size + 1) 3 [.int .i64 8] := by rw [hW]; have := Arr.new (w.alloc (.cells #[.slice (some ⟨b, o, none⟩) 256 c] 35)) [.int .i64 8] 3; rw [World.size_alloc] at this; exact this
  have h3 : W.heap.size = w.heap.size + 2 := by rw [hW]; simp
  have hB : Below w.heap.size w W := by rw [hW]; exact ((Below.refl _ _).alloc (Nat.le_refl _) _).alloc (by simp) _
  have HW : Hid _ := hW
  clear hW
  go_enter Try.func141, Try.ntmps141
  go_wp2
  rw [← HW.out]
  go_ret
  exact ⟨rfl, h1, h2, h3, hB⟩

theorem grown_bel2 {w w' : World} (h : Below w.heap.size w w') : w.grownBy w' none := ⟨h.os, h.tape, h.output, h.size, fun i hi _ => h.block i hi⟩
theorem chunkTells (m p q b o c : Nat) (hc : 256 ≤ c) (W : World) (hp : Arr W p 35 [.slice (some ⟨b, o, none⟩) 256 c]) (hq : Arr W q 3 [.int .i64 8]) :
    TellsO m Try.prog 155 #[.pointer (some ⟨p, 0, none⟩), .pointer (some ⟨q, 0, none⟩)] (ePl b o) 32 KT W := by
  intro lp J hJ hY h0
  have hwide : Fence.wide.depth.isSome = true → 1 ≤ m := fun h => by cases h
  refine callsIn_of_wp Try.func155 rfl trivial ?_ rfl
  simp only [Try.ntmps155, List.size_toArray, List.length_cons, List.length_nil, Nat.reduceAdd, Nat.reduceSub, Array.replicate_succ, Array.replicate_zero, List.push_toArray, List.append_toArray, List.nil_append, List.cons_append]
  gi_wp2
  gi_loopw [4] (fun i wr => ∃ k : Nat, k ≤ 32 ∧ i = .int .i64 ((8 * k : Nat) : Int) ∧ J k wr ∧ Arr wr p 35 [.slice (some ⟨b, o, none⟩) 256 c] ∧ Arr wr q 3 [.int .i64 8]) (fun i _ => 256 - (intOf i).toNat)
  case atStart => exact ⟨0, by omega, rfl, h0, hp, hq⟩
  case round =>
    clear h0 hp hq
    obtain ⟨k, hk, rfl, hJk, hp, hq⟩ := hrel
    obtain ⟨i, hi⟩ : ∃ i : Nat, i = 8 * k := ⟨_, rfl⟩
    rw [← hi]
    have cp := hp.cell 0
    have cq := hq.cell 0
    simp at cp cq
    by_cases hlt : k < 32
    · have hltI : (i : Int) < 256 := by omega
      have w1 : IntKind.i64.wrap ((i : Int) + 8) = (i : Int) + 8 := wr64 (by omega) (by omega)
      have t1 : ((i : Int) + 8).toNat = i + 8 := by omega
      have hne : i ≠ c := by omega
      have hle2 : (i : Int) + 8 ≤ (c : Int) := by omega
      have hmin : min (8 : Int) (256 - (i : Int)) = 8 := by omega
      have hmin2 : min (8 : Int) ((256 - i : Nat) : Int) = 8 := by omega
      have hi256 : i ≤ 256 := by omega
      have HI : Hid _ := hi
      have hi256I : (i : Int) ≤ 256 := by omega
      have h8 : i + 8 ≤ 256 := by omega
      have hne' : c ≠ i := by omega
      have hne'' : ¬ (c = i) := hne'
      clear hi
      have lp1 := hp.lt
      have lq1 := hq.lt
      gi_wp2_with fail
      refine wpIn_wide.2 ?_
      try simp only [Act.put]
      refine tame [kc 13 (.int .i64 8), kc 14 (.slice (some ⟨b, o, none⟩) 256 c), kc 15 (.int .i64 (i : Int)), kc 16 (.slice (some ⟨b, o + i, none⟩) (256 - i) (c - i)), kc 17 (.int .i64 ((256 - i : Nat) : Int)), kc 18 (.int .i64 8), kc 5 (.int .i64 8)] 7 (by kernel_rfl) (by kernel_rfl) (by kernel_rfl) (by repeat' first | exact trivial | apply kc_keeps | constructor) 0 (by kernel_rfl) (fun vv ll hh yW bW => ?_) (fun vv ll hh yW bW F ivh aph => ?_)
      · have x1 := (bW.cell (p := ⟨p, 0, none⟩) lp1).trans cp
        have x2 := (bW.cell (p := ⟨q, 0, none⟩) lq1).trans cq
        refine ⟨tp ?_, tp ?_, tp (by kernel_rfl), tp ?_, tp ?_, tp ?_, tp (by kernel_rfl), trivial⟩
        all_goals
          simp only [fillK, putT, List.setIfInBounds_toArray, List.set_cons_zero, List.set_cons_succ]
          unfold execOp
          try go_simp
        all_goals (intro hlt8; omega)
      clear F ivh aph
      obtain ⟨y, hy2⟩ : ∃ z, z = yW := ⟨_, rfl⟩
      rw [← hy2] at bW ⊢
      clear hy2
      replace hp := hp.kept bW
      replace hq := hq.kept bW
      have hJy : J k y := hJ _ wr y none hJk (grown_bel2 bW) (fun r e => by cases e)
      obtain ⟨fn, tmps, assign, body, hy, hR⟩ := hY k y hlt hJy
      try dsimp only [ePl] at hy
      rw [← HI.out] at hy
      clear cp cq hJk bW lp1 lq1
      have cp := hp.cell 0
      have cq := hq.cell 0
      simp at cp cq
      have hr1 : i + 8 - i = 8 := by omega
      refine wpAny_done (by kernel_rfl) ?_ _
      simp only [fillK, putT, List.setIfInBounds_toArray, List.set_cons_zero, List.set_cons_succ]
      gi_wp2
      refine ⟨hwide, hR.mono ?_⟩
      rintro e w4 ⟨rfl, hJ4, hk4⟩
      · have hp4 := hp.kt hk4 (by decide) (by decide)
        have hq4 := hq.kt hk4 (by decide) (by decide)
        clear hp hq cp cq hy hR hk4 hJy
        have cp := hp4.cell 0
        have cq := hq4.cell 0
        simp at cp cq
        gi_wp2
        go_roundw
        case rel =>
          refine ⟨k + 1, by omega, ?_, hJ4, hp4, hq4⟩
          have := HI.out
          congr 1
          omega
        case measure => simp [intOf]; omega
    · have hkn : k = 32 := by omega
      subst hkn
      have hltI : ¬ ((i : Int) < 256) := by omega
      clear hi
      gi_wp2
      go_end0
      exact ⟨⟨_, rfl⟩, hJk⟩
end Go.Proofs.Ytgfjbaigmkdbcaa
