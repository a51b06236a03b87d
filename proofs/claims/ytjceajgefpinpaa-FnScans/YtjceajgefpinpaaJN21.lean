/-
  What is proved here: a law on a range over a function whose body never leaves the loop and whose iterator may range over a function itself: what the loop says of its own memory abides new blocks and turns of what is no cells. No program is spoken of; what the library's slices.Chunk tells a loop that ranges over it, at 256 bytes in places of eight; the contract of the library's bytes.Equal where the first slice may be nil.
-/
import Derived.Test.YtjceajgefpinpaaJN20
import Derived.RangeFuncNested
import Derived.RangeFuncBound
import Derived.RangeFuncCalls
import Derived.RangeFuncLeaves
import Derived.Shelf.Abstract
import Derived.Shelf.RegionOpen
import Derived.OwnWalkIn
import Derived.TacticsInMore
import Derived.LoopNIn
import Derived.LoopIn
import Derived.Test.YtjceajgefpinpaaJN11
namespace Go.Proofs.Ytjceajgefpinpaa
open Go.RowKit Go.Shelf

/-- What abides new blocks, and turns of a block from B on that is no cells. -/
def Abd (B : Nat) (J : Nat → World → Prop) : Prop := ∀ k A A' row, J k A → A.grownBy A' row → (∀ r, row = some r → B ≤ r ∧ ∃ o : Obj, A.heap[r]? = some o ∧ o.isCells = false) → J k A'
/-- What an iterator says that tells the N values encs 0, encs 1, .. over whatever state J of the loop that abides; a round keeps Kp. -/
def TellsO (n : Nat) (P : Program) (gf : Nat) (lb : Array Value) (encs : Nat → Array Value) (N : Nat) (Kp : World → World → Prop) (W : World) : Prop :=
  ∀ (l : Nat) (J : Nat → World → Prop), Abd W.heap.size J →
    (∀ k A, k < N → J k A → YieldAt Fence.wide (n - 1) P l (encs k) A fun e B => e = .returned (.bool true) ∧ J (k + 1) B ∧ Kp A B) →
    J 0 W →
    CallsIn Fence.wide n P gf (#[.func (.yield l) #[] #[]] ++ lb) W fun e B => (∃ v, e = .returned v) ∧ J N B

theorem range_tellsO {n : Nat} {P : Program} {g : Operand} {ps : Array Tmp} {assign body : Code} {Q : Exit → Act → World → Prop} {a : Act} {w : World}
    {gf : Nat} {lb : Array Value} (hg : a.eval g = .func (.func gf) #[] lb) (eg : ∀ args w, (callFunc gf args).run P w = .ok (.enter gf args) w)
    {encs : Nat → Array Value} {N : Nat} {Kp : World → World → Prop} (hKt : ∀ {A B C : World}, Kp A B → Kp B C → Kp A C)
    (hKb : ∀ (W : World) (o o' : Obj), W.heap[w.heap.size + 1]? = some o → o.isCells = false → Kp W (W.putObj (w.heap.size + 1) o'))
    (hseq : ∀ W, Below w.heap.size w W → w.heap.size + 2 ≤ W.heap.size → TellsO (n - 1) P gf lb encs N Kp W) (hps : ∀ k, (encs k).size = ps.size)
    (I : Nat → World → Prop) (hI : Abd w.heap.size I) (h0 : I 0 w)
    (Ax : Nat → Act → World → Prop) (hAx : ∀ k a' A o o', A.heap[w.heap.size + 1]? = some o → o.isCells = false → Ax k a' A → Ax k a' (A.putObj (w.heap.size + 1) o'))
    (hassign : ∀ (l k : Nat) (W : World) (R : Act → World → Prop), k < N → w.heap.size + 2 ≤ W.heap.size → I k W → (∀ a' W', Kp W W' → Same (fun b => b = w.heap.size ∨ b = w.heap.size + 1) W W' → I k W' → Ax k a' W' → R a' W') →
      assign.wpIn (Fence.wide.inRound l) (n - 1 - 1) P (Exit.then R (fun _ _ _ => False)) { tmps := (ps.zip (encs k)).foldl (fun t (p, v) => t.setIfInBounds p v) a.tmps, defers := [] } W)
    (hbody : ∀ (l k : Nat) (a' : Act) (W : World), k < N → w.heap.size + 2 ≤ W.heap.size → (∀ b, b = w.heap.size ∨ b = w.heap.size + 1 → ∃ o : Obj, W.heap[b]? = some o ∧ o.isCells = false) → I k W → Ax k a' W →
      body.wpIn (Fence.wide.inRound l) (n - 1 - 1) P (goesOn fun B => I (k + 1) B ∧ Kp W B ∧ Same (fun b => b = w.heap.size ∨ b = w.heap.size + 1) W B) a' W)
    (hdone : ∀ (W : World), I N W → W.heap[w.heap.size]? = some (.deferred (some [])) → Q .normal { a with defers := { target := .collected w.heap.size, args := #[] } :: a.defers } W) :
    (Code.rangeFunc g ps assign body).wpIn Fence.wide n P Q a w := by
  refine wpIn_rangeFunc ?_
  intro fn hfn
  let rec0 : LoopState → Loop := fun st => { state := st, pending := none, fn := fn, tmps := a.tmps, params := ps, assign := assign, body := body, defers := w.heap.size }
  let D := w.heap.size
  let L := w.heap.size + 1
  have hput : ∀ k A o o', A.heap[L]? = some o → o.isCells = false → I k A → I k (A.putObj L o') := fun k A o o' ho hc hi =>
    hI k A _ (some L) hi (grownBy_putObj' A L o') (fun r e => by cases e; exact ⟨by show w.heap.size ≤ w.heap.size + 1; omega, o, ho, hc⟩)
  obtain ⟨W1, hW1⟩ : ∃ W1, W1 = (w.alloc (.deferred (some []))).alloc (.loop (rec0 .ready)) := ⟨_, rfl⟩
  have hs1 : W1.heap.size = w.heap.size + 2 := by rw [hW1]; simp
  have hL1 : W1.heap[L]? = some (.loop (rec0 .ready)) := by
    rw [hW1]; have := World.alloc_heap_new (w.alloc (.deferred (some []))) (.loop (rec0 .ready)); rwa [World.size_alloc] at this
  have hD1 : W1.heap[D]? = some (.deferred (some [])) := by
    rw [hW1]; exact (Below.heap_alloc _ _ _ (by simp [D])).trans (World.alloc_heap_new w _)
  have hB1 : Below w.heap.size w W1 := by rw [hW1]; exact ((Below.refl _ w).alloc (Nat.le_refl _) _).alloc (by simp) _
  have hI1 : I 0 W1 := hI 0 w W1 none h0 ⟨hB1.os, hB1.tape, hB1.output, hB1.size, fun i hi _ => hB1.block i hi⟩ (fun r e => by cases e)
  refine ⟨L, [{ target := .collected D, args := #[] }], W1, { target := .fn (.func gf) lb, args := #[.func (.yield L) #[] #[]] }, W1, gf, #[.func (.yield L) #[] #[]] ++ lb, W1, ?_, ?_, ?_, ?_, ?_, ?_⟩
  · rw [hW1]; exact run_enterLoop_outer _ _ _ _ _
  · simp only [resolve, hg]; simp [go_sem]
  · intro f' _; trivial
  · simp [invoke, go_sem, eg]
  · intro h; simp [Fence.wide] at h
  · refine (hseq W1 hB1 (by omega) L (fun k W => I k W ∧ W.heap[L]? = some (.loop (rec0 .ready)) ∧ W.heap[D]? = some (.deferred (some []))) ?_ ?_ ?_).mono ?_
    · rintro k A B row ⟨hi, hl, hd⟩ hgr hr
      have ne : ∀ g, g < W1.heap.size → some g ≠ row := fun g hgs e => by have := (hr g e.symm).1; omega
      have lt : ∀ g o, A.heap[g]? = some o → g < A.heap.size := fun g o h => (Array.getElem?_eq_some_iff.1 h).1
      refine ⟨hI k A B row hi hgr (fun r e => ⟨by have := (hr r e).1; omega, (hr r e).2⟩), ?_, ?_⟩
      · exact (hgr.block L (lt _ _ hl) (ne L (by show w.heap.size + 1 < _; omega))).trans hl
      · exact (hgr.block D (lt _ _ hd) (ne D (by show w.heap.size < _; omega))).trans hd
    · rintro k W hk ⟨hi, hl, hd⟩
      have hlt : L < W.heap.size := (Array.getElem?_eq_some_iff.1 hl).1
      have hy := run_yield (P := P) (args := encs k) hl (hps k)
      refine ⟨fn, _, assign, body, hy, roundIn_of_wpIn hfn (hassign _ k W _ hk hlt hi ?_)⟩
      intro a' W' kW sW hiW hax
      have hlW : W'.heap[L]? = some (.loop (rec0 .ready)) := (sW.2 L (.inr rfl) hlt).trans hl
      have hltW : L < W'.heap.size := (Array.getElem?_eq_some_iff.1 hlW).1
      have hdW : W'.heap[D]? = some (.deferred (some [])) := (sW.2 D (.inl rfl) (by show w.heap.size < _; omega)).trans hd
      refine ⟨_, run_beginRound hlW rfl, ?_⟩
      obtain ⟨W2, hW2⟩ : ∃ W2, W2 = W'.putObj L (.loop { rec0 .ready with state := .busy }) := ⟨_, rfl⟩
      have hl2 : W2.heap[L]? = some (.loop { rec0 .ready with state := .busy }) := by rw [hW2]; exact World.putObj_heap_same hltW
      have ho2 : ∀ b, b ≠ L → W2.heap[b]? = W'.heap[b]? := fun b hb => by rw [hW2]; exact World.putObj_heap_other hb
      have hz2 : W2.heap.size = W'.heap.size := by rw [hW2]; simp
      have hi2 : I k W2 := by rw [hW2]; exact hput _ _ _ _ hlW rfl hiW
      have hax2 : Ax k a' W2 := by rw [hW2]; exact hAx _ _ _ _ _ hlW rfl hax
      have hk2 : Kp W' W2 := by rw [hW2]; exact hKb _ _ _ hlW rfl
      have hsz : w.heap.size + 2 ≤ W2.heap.size := by rw [hz2]; exact hltW
      rw [← hW2]
      have hnc : ∀ b, b = w.heap.size ∨ b = w.heap.size + 1 → ∃ o : Obj, W2.heap[b]? = some o ∧ o.isCells = false := fun b hb => by
        rcases hb with rfl | rfl
        · exact ⟨_, (ho2 _ (by show w.heap.size ≠ w.heap.size + 1; omega)).trans hdW, rfl⟩
        · exact ⟨_, hl2, rfl⟩
      refine wpIn_mono (hbody L k a' W2 hk hsz hnc hi2 hax2) ?_
      rintro e a3 W3 hp
      cases e with
      | normal =>
        obtain ⟨hi3, hk3, hs3⟩ := hp
        have hl3 : W3.heap[L]? = some (.loop { rec0 .ready with state := .busy }) := (hs3.2 L (.inr rfl) (by omega)).trans hl2
        have hd3 : W3.heap[D]? = some (.deferred (some [])) := ((hs3.2 D (.inl rfl) (by show w.heap.size < _; omega)).trans (ho2 D (by show w.heap.size ≠ w.heap.size + 1; omega))).trans hdW
        refine ⟨_, _, run_endRound (P := P) none hl3, rfl, ⟨hput _ _ _ _ hl3 rfl hi3, World.putObj_heap_same (by have := hs3.1; omega), (World.putObj_heap_other (by show w.heap.size ≠ w.heap.size + 1; omega)).trans hd3⟩, ?_⟩
        exact hKt kW (hKt hk2 (hKt hk3 (hKb _ _ _ hl3 rfl)))
      | ret => exact hp.elim
      | exit id => exact hp.elim
      | goto t => exact hp.elim
      | panic ch => exact hp.elim
      | outgrown => exact hp.elim
    · exact ⟨hI1, hL1, hD1⟩
    · rintro e W2 ⟨⟨v, rfl⟩, hi, hl, hd⟩
      exact ⟨none, _, run_endLoop (P := P) hl (by simp [rec0]), hdone _ (hput _ _ _ _ hl rfl hi) ((World.putObj_heap_other (by show w.heap.size ≠ w.heap.size + 1; omega)).trans hd)⟩
end Go.Proofs.Ytjceajgefpinpaa
namespace Go.Proofs.Ytjceajgefpinpaa
open Go.RowKit Go.Shelf
set_option maxRecDepth 100000
set_option maxHeartbeats 4000000
set_option linter.unusedVariables false
attribute [local go_sem] Oper.semAt_some

/-- Blocks of other types than those of the records that are collected stay as they are. -/
def KT (W W' : World) : Prop := W.heap.size ≤ W'.heap.size ∧ ∀ (g : Nat) (cs : Array Value) (t : TypeId) (fz : Nat × Nat), W.heap[g]? = some (.cells cs t fz) → t ≠ 24 → t ≠ 29 → W'.heap[g]? = some (.cells cs t fz)
theorem KT.trans {A B C : World} (h : KT A B) (k : KT B C) : KT A C := ⟨Nat.le_trans h.1 k.1, fun g cs t fz hg h1 h2 => k.2 g cs t fz (h.2 g cs t fz hg h1 h2) h1 h2⟩
theorem KT.of_bel {A B : World} (h : Below A.heap.size A B) : KT A B := ⟨h.size, fun g cs t fz hg _ _ => (h.block g (Array.getElem?_eq_some_iff.1 hg).1).trans hg⟩
theorem KT.put {W : World} {l : Nat} {o : Obj} (o' : Obj) (h : W.heap[l]? = some o) (ho : o.isCells = false) : KT W (W.putObj l o') := ⟨by simp, fun g cs t fz hg _ _ => by
  have : g ≠ l := fun e => by subst e; rw [h] at hg; cases hg; cases ho
  exact (World.putObj_heap_other this).trans hg⟩
theorem Arr.kt {A B : World} {g : Nat} {t : TypeId} {cs : List Value} (h : Arr A g t cs) (k : KT A B) (h1 : t ≠ 24) (h2 : t ≠ 29) : Arr B g t cs := k.2 g _ _ _ h h1 h2
abbrev ePl (b o k : Nat) : Array Value := #[.slice (some ⟨b, o + 8 * k, none⟩) 8 8]
theorem chunkNew (b o c : Nat) (w : World) :
    Calls Try.prog 73 #[.slice (some ⟨b, o, none⟩) 256 c, .int .i64 8] w fun e w' => e = .returned (.func (.func 86) #[] #[.pointer (some ⟨w.heap.size, 0, none⟩), .pointer (some ⟨w.heap.size + 1, 0, none⟩)]) ∧
      Arr w' w.heap.size 22 [.slice (some ⟨b, o, none⟩) 256 c] ∧ Arr w' (w.heap.size + 1) 3 [.int .i64 8] ∧ w'.heap.size = w.heap.size + 2 ∧ Below w.heap.size w w' := by
  obtain ⟨W, hW⟩ : ∃ W, W = (w.alloc (.cells #[.slice (some ⟨b, o, none⟩) 256 c] 22)).alloc (.cells #[.int .i64 8] 3) := ⟨_, rfl⟩
  have h1 : Arr W w.heap.size 22 [.slice (some ⟨b, o, none⟩) 256 c] := by rw [hW]; exact (Arr.new w [.slice (some ⟨b, o, none⟩) 256 c] _).alloc _
  have h2 : Arr W (w.heap.size + 1) 3 [.int .i64 8] := by rw [hW]; have := Arr.new (w.alloc (.cells #[.slice (some ⟨b, o, none⟩) 256 c] 22)) [.int .i64 8] 3; rw [World.size_alloc] at this; exact this
  have h3 : W.heap.size = w.heap.size + 2 := by rw [hW]; simp
  have hB : Below w.heap.size w W := by rw [hW]; exact ((Below.refl _ _).alloc (Nat.le_refl _) _).alloc (by simp) _
  have HW : Hid _ := hW
  clear hW
  go_enter Try.func73, Try.ntmps73
  go_wp2
  rw [← HW.out]
  go_ret
  exact ⟨rfl, h1, h2, h3, hB⟩

theorem grown_bel2 {w w' : World} (h : Below w.heap.size w w') : w.grownBy w' none := ⟨h.os, h.tape, h.output, h.size, fun i hi _ => h.block i hi⟩
theorem chunkTells (m p q b o c : Nat) (hc : 256 ≤ c) (W : World) (hp : Arr W p 22 [.slice (some ⟨b, o, none⟩) 256 c]) (hq : Arr W q 3 [.int .i64 8]) :
    TellsO m Try.prog 86 #[.pointer (some ⟨p, 0, none⟩), .pointer (some ⟨q, 0, none⟩)] (ePl b o) 32 KT W := by
  intro lp J hJ hY h0
  have hwide : Fence.wide.depth.isSome = true → 1 ≤ m := fun h => by cases h
  refine callsIn_of_wp Try.func86 rfl trivial ?_ rfl
  simp only [Try.ntmps86, List.size_toArray, List.length_cons, List.length_nil, Nat.reduceAdd, Nat.reduceSub, Array.replicate_succ, Array.replicate_zero, List.push_toArray, List.append_toArray, List.nil_append, List.cons_append]
  gi_wp2
  gi_loopw [4] (fun i wr => ∃ k : Nat, k ≤ 32 ∧ i = .int .i64 ((8 * k : Nat) : Int) ∧ J k wr ∧ Arr wr p 22 [.slice (some ⟨b, o, none⟩) 256 c] ∧ Arr wr q 3 [.int .i64 8]) (fun i _ => 256 - (intOf i).toNat)
  case atStart => exact ⟨0, by omega, rfl, h0, hp, hq⟩
  case round =>
    clear h0 hp hq
    obtain ⟨k, hk, rfl, hJk, hp, hq⟩ := hrel
    obtain ⟨i, hi⟩ : ∃ i : Nat, i = 8 * k := ⟨_, rfl⟩
    rw [← hi]
    have cp := hp.cell 0
    have cq := hq.cell 0
    simp at cp cq
    by_cases hlt : k < 32
    · have hltI : (i : Int) < 256 := by omega
      have w1 : IntKind.i64.wrap ((i : Int) + 8) = (i : Int) + 8 := wr64 (by omega) (by omega)
      have t1 : ((i : Int) + 8).toNat = i + 8 := by omega
      have hne : i ≠ c := by omega
      have hle2 : (i : Int) + 8 ≤ (c : Int) := by omega
      have hmin : min (8 : Int) (256 - (i : Int)) = 8 := by omega
      have hmin2 : min (8 : Int) ((256 - i : Nat) : Int) = 8 := by omega
      have hi256 : i ≤ 256 := by omega
      have HI : Hid _ := hi
      have hi256I : (i : Int) ≤ 256 := by omega
      have h8 : i + 8 ≤ 256 := by omega
      have hne' : c ≠ i := by omega
      have hne'' : ¬ (c = i) := hne'
      clear hi
      have lp1 := hp.lt
      have lq1 := hq.lt
      gi_wp2_with fail
      refine wpIn_wide.2 ?_
      try simp only [Act.put]
      refine tame [kc 13 (.int .i64 8), kc 14 (.slice (some ⟨b, o, none⟩) 256 c), kc 15 (.int .i64 (i : Int)), kc 16 (.slice (some ⟨b, o + i, none⟩) (256 - i) (c - i)), kc 17 (.int .i64 ((256 - i : Nat) : Int)), kc 18 (.int .i64 8), kc 5 (.int .i64 8)] 7 (by kernel_rfl) (by kernel_rfl) (by kernel_rfl) (by repeat' first | exact trivial | apply kc_keeps | constructor) 0 (by kernel_rfl) (fun vv ll hh yW bW => ?_) (fun vv ll hh yW bW F ivh aph => ?_)
      · have x1 := (bW.cell (p := ⟨p, 0, none⟩) lp1).trans cp
        have x2 := (bW.cell (p := ⟨q, 0, none⟩) lq1).trans cq
        refine ⟨tp ?_, tp ?_, tp (by kernel_rfl), tp ?_, tp ?_, tp ?_, tp (by kernel_rfl), trivial⟩
        all_goals
          simp only [fillK, putT, List.setIfInBounds_toArray, List.set_cons_zero, List.set_cons_succ]
          unfold execOp
          try go_simp
        all_goals (intro hlt8; omega)
      clear F ivh aph
      obtain ⟨y, hy2⟩ : ∃ z, z = yW := ⟨_, rfl⟩
      rw [← hy2] at bW ⊢
      clear hy2
      replace hp := hp.kept bW
      replace hq := hq.kept bW
      have hJy : J k y := hJ _ wr y none hJk (grown_bel2 bW) (fun r e => by cases e)
      obtain ⟨fn, tmps, assign, body, hy, hR⟩ := hY k y hlt hJy
      try dsimp only [ePl] at hy
      rw [← HI.out] at hy
      clear cp cq hJk bW lp1 lq1
      have cp := hp.cell 0
      have cq := hq.cell 0
      simp at cp cq
      have hr1 : i + 8 - i = 8 := by omega
      refine wpAny_done (by kernel_rfl) ?_ _
      simp only [fillK, putT, List.setIfInBounds_toArray, List.set_cons_zero, List.set_cons_succ]
      gi_wp2
      refine ⟨hwide, hR.mono ?_⟩
      rintro e w4 ⟨rfl, hJ4, hk4⟩
      · have hp4 := hp.kt hk4 (by decide) (by decide)
        have hq4 := hq.kt hk4 (by decide) (by decide)
        clear hp hq cp cq hy hR hk4 hJy
        have cp := hp4.cell 0
        have cq := hq4.cell 0
        simp at cp cq
        gi_wp2
        go_roundw
        case rel =>
          refine ⟨k + 1, by omega, ?_, hJ4, hp4, hq4⟩
          have := HI.out
          congr 1
          omega
        case measure => simp [intOf]; omega
    · have hkn : k = 32 := by omega
      subst hkn
      have hltI : ¬ ((i : Int) < 256) := by omega
      clear hi
      gi_wp2
      go_end0
      exact ⟨⟨_, rfl⟩, hJk⟩
end Go.Proofs.Ytjceajgefpinpaa
namespace Go.Proofs.Ytjceajgefpinpaa
open Go.RowKit
set_option maxRecDepth 100000

theorem nil_conv (w : World) : (convert 22 9 (.slice none 0 0)).run Try.prog w = .ok (.string (strOfNums [])) w := by
  rfl
set_option maxHeartbeats 1000000 in
theorem equalB' (a : Option Addr) (n c b' o' m d : Nat) (xs ys : List Int) (w : World) (h : Bs w a n c xs) (ha : a = none ∨ ∃ b o, a = some ⟨b, o, none⟩) (k : Bs w (some ⟨b', o', none⟩) m d ys) :
    Calls Try.prog 52 #[.slice a n c, .slice (some ⟨b', o', none⟩) m d] w fun e w' => e = .returned (.bool (decide (xs = ys))) ∧ w' = w := by
  rcases ha with rfl | ⟨b, o, rfl⟩
  case inr => exact equalB b o n c b' o' m d xs ys w h k
  case inl =>
    have hc := h.1 rfl
    have hn : n = 0 := by have := h.2.2.1; omega
    subst hc hn
    have hx : xs = [] := List.eq_nil_of_length_eq_zero h.2.1
    subst hx
    have h1 := nil_conv w
    have h2 := bs_conv k
    have e1 := str_eq (xs := []) (by simp) k.2.2.2.1
    obtain ⟨s, hs⟩ : ∃ s, s = strOfNums [] := ⟨_, rfl⟩
    obtain ⟨t, ht⟩ : ∃ t, t = strOfNums ys := ⟨_, rfl⟩
    rw [← hs] at h1 e1
    rw [← ht] at h2 e1
    rw [← e1]
    clear e1 hs ht h k
    go_enter Try.func52, Try.ntmps52
    go_wp2
    go_ret
    exact ⟨rfl, rfl⟩
theorem own_addr {W : World} {B n e s : Nat} {a : Option Addr} {c m : Nat} {l : List Value} (h : W.ownsRow B e s (.slice a n c) m l) : a = none ∨ ∃ b o, a = some ⟨b, o, none⟩ := by
  rcases h.2 with ⟨h, _⟩ | ⟨g, cap, cur, h, _⟩
  · simp only [Value.slice.injEq] at h
    exact .inl h.1
  · simp only [Value.slice.injEq] at h
    exact .inr ⟨g, 0, h.1⟩
end Go.Proofs.Ytjceajgefpinpaa
