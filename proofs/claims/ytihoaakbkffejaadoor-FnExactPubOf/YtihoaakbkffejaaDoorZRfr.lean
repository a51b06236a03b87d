/-
  What is proved here: a law on a range over a function whose body never leaves the loop and whose iterator only reads between two rounds: the body says that it leaves what the iterator reads as it is. No program is spoken of; the contract of the library's slices.Backward over ints as a range over a function meets it: it tells a slice's elements from the last on, to whatever loop leaves the slice as it is; loads and stores of long rows within a round; the contract of the program's multiplierOfColumns: columns from the lowest on come to their number modulo the order; where the program's variable holds the order; the contracts of the program's method product and of multipliersOf; where the program's variable holds the order; the contract of the specification's ScBytes: the bytes of a multiplier; the contracts of the program's ScOk, ScBytes and ScRead; where the program's variable holds the order.
-/
import Derived.Test.YtihoaakbkffejaaDoorZRf
import Derived.Test.YtihoaakbkffejaaDoorZFm
import Derived.Test.YtihoaakbkffejaaDoorZArr
import Derived.Test.YtihoaakbkffejaaDoorZQc
import Derived.Test.YtihoaakbkffejaaDoorZQa
import Derived.Test.YtihoaakbkffejaaDoorZJd
import Derived.Test.YtihoaakbkffejaaDoorZJhi
import Derived.Test.YtihoaakbkffejaaDoorZOhb
import Derived.Deep.AppendLies
import Derived.Test.YtihoaakbkffejaaDoorZOhm
import Derived.Test.YtihoaakbkffejaaDoorZJrd
namespace Go.Proofs.YtihoaakbkffejaaDoor
open Go.RowKit Go.Shelf

/-- What an iterator says that tells the N values encs 0, encs 1, ..: over whatever state J of the loop (k rounds have come) it ends with all N told. It reads the blocks K between two rounds, and makes nothing. -/
def TellsR (n : Nat) (P : Program) (gf : Nat) (lb : Array Value) (encs : Nat → Array Value) (N : Nat) (K : Nat → Prop) (W : World) : Prop :=
  ∀ (l : Nat) (J : Nat → World → Prop),
    (∀ k A, k < N → J k A → YieldAt Fence.wide (n - 1) P l (encs k) A fun e B => e = .returned (.bool true) ∧ J (k + 1) B ∧ Same K A B) →
    J 0 W →
    CallsIn Fence.wide n P gf (#[.func (.yield l) #[] #[]] ++ lb) W fun e B => (∃ v, e = .returned v) ∧ J N B

theorem range_tellsR {n : Nat} {P : Program} {g : Operand} {ps : Array Tmp} {assign body : Code} {Q : Exit → Act → World → Prop} {a : Act} {w : World}
    {gf : Nat} {lb : Array Value} (hg : a.eval g = .func (.func gf) #[] lb) (eg : ∀ args w, (callFunc gf args).run P w = .ok (.enter gf args) w)
    {encs : Nat → Array Value} {N : Nat} {K : Nat → Prop} (hK : ∀ b, K b → b < w.heap.size)
    (hseq : ∀ W, Below w.heap.size w W → TellsR (n - 1) P gf lb encs N K W) (hps : ∀ k, (encs k).size = ps.size)
    (I : Nat → World → Prop)
    (hIl : ∀ k A o, I k A → I k (A.putObj (w.heap.size + 1) o))
    (h0 : ∀ W, Below w.heap.size w W → W.heap.size = w.heap.size + 2 → I 0 W)
    (a₁ : Nat → Act)
    (hassign : ∀ (l k : Nat) (W : World) (R : Act → World → Prop), k < N → R (a₁ k) W →
      assign.wpIn (Fence.wide.inRound l) (n - 1 - 1) P (Exit.then R (fun _ _ _ => False)) { tmps := (ps.zip (encs k)).foldl (fun t (p, v) => t.setIfInBounds p v) a.tmps, defers := [] } W)
    (hbody : ∀ (l k : Nat) (W : World), k < N → w.heap.size + 2 ≤ W.heap.size → I k W →
      body.wpIn (Fence.wide.inRound l) (n - 1 - 1) P (goesOn fun B => I (k + 1) B ∧ Same (fun b => K b ∨ b = w.heap.size ∨ b = w.heap.size + 1) W B) (a₁ k) W)
    (hdone : ∀ (W : World), I N W → W.heap[w.heap.size]? = some (.deferred (some [])) → Q .normal { a with defers := { target := .collected w.heap.size, args := #[] } :: a.defers } W) :
    (Code.rangeFunc g ps assign body).wpIn Fence.wide n P Q a w := by
  refine wpIn_rangeFunc ?_
  intro fn hfn
  let rec0 : LoopState → Loop := fun st => { state := st, pending := none, fn := fn, tmps := a.tmps, params := ps, assign := assign, body := body, defers := w.heap.size }
  let D := w.heap.size
  let L := w.heap.size + 1
  obtain ⟨W1, hW1⟩ : ∃ W1, W1 = (w.alloc (.deferred (some []))).alloc (.loop (rec0 .ready)) := ⟨_, rfl⟩
  have hs1 : W1.heap.size = w.heap.size + 2 := by rw [hW1]; simp
  have hL1 : W1.heap[L]? = some (.loop (rec0 .ready)) := by
    rw [hW1]; have := World.alloc_heap_new (w.alloc (.deferred (some []))) (.loop (rec0 .ready)); rwa [World.size_alloc] at this
  have hD1 : W1.heap[D]? = some (.deferred (some [])) := by
    rw [hW1]; exact (Below.heap_alloc _ _ _ (by simp [D])).trans (World.alloc_heap_new w _)
  have hB1 : Below w.heap.size w W1 := by rw [hW1]; exact ((Below.refl _ w).alloc (Nat.le_refl _) _).alloc (by simp) _
  refine ⟨L, [{ target := .collected D, args := #[] }], W1, { target := .fn (.func gf) lb, args := #[.func (.yield L) #[] #[]] }, W1, gf, #[.func (.yield L) #[] #[]] ++ lb, W1, ?_, ?_, ?_, ?_, ?_, ?_⟩
  · rw [hW1]; exact run_enterLoop_outer _ _ _ _ _
  · simp only [resolve, hg]; simp [go_sem]
  · intro f' _; trivial
  · simp [invoke, go_sem, eg]
  · intro h; simp [Fence.wide] at h
  · refine (hseq W1 hB1 L (fun k W => I k W ∧ W.heap[L]? = some (.loop (rec0 .ready)) ∧ W.heap[D]? = some (.deferred (some []))) ?_ ?_).mono ?_
    · rintro k W hk ⟨hi, hl, hd⟩
      have hlt : L < W.heap.size := (Array.getElem?_eq_some_iff.1 hl).1
      have hy := run_yield (P := P) (args := encs k) hl (hps k)
      refine ⟨fn, _, assign, body, hy, roundIn_of_wpIn hfn (hassign _ k W _ hk ⟨_, run_beginRound hl rfl, ?_⟩)⟩
      obtain ⟨W2, hW2⟩ : ∃ W2, W2 = W.putObj L (.loop { rec0 .ready with state := .busy }) := ⟨_, rfl⟩
      have hl2 : W2.heap[L]? = some (.loop { rec0 .ready with state := .busy }) := by rw [hW2]; exact World.putObj_heap_same hlt
      have ho2 : ∀ b, b ≠ L → W2.heap[b]? = W.heap[b]? := fun b hb => by rw [hW2]; exact World.putObj_heap_other hb
      have hz2 : W2.heap.size = W.heap.size := by rw [hW2]; simp
      have hi2 : I k W2 := by rw [hW2]; exact hIl _ _ _ hi
      have hsz : w.heap.size + 2 ≤ W2.heap.size := by rw [hz2]; exact hlt
      rw [← hW2]
      refine wpIn_mono (hbody L k W2 hk hsz hi2) ?_
      rintro e a3 W3 hp
      cases e with
      | normal =>
        obtain ⟨hi3, hs3⟩ := hp
        have hl3 : W3.heap[L]? = some (.loop { rec0 .ready with state := .busy }) := (hs3.2 L (.inr (.inr rfl)) (by omega)).trans hl2
        have hd3 : W3.heap[D]? = some (.deferred (some [])) := ((hs3.2 D (.inr (.inl rfl)) (by show w.heap.size < _; omega)).trans (ho2 D (by show w.heap.size ≠ w.heap.size + 1; omega))).trans hd
        refine ⟨_, _, run_endRound (P := P) none hl3, rfl, ⟨hIl _ _ _ hi3, World.putObj_heap_same (by have := hs3.1; omega), (World.putObj_heap_other (by show w.heap.size ≠ w.heap.size + 1; omega)).trans hd3⟩, ?_⟩
        refine ⟨by simp; have := hs3.1; omega, fun b hb hbl => ?_⟩
        have hne : b ≠ L := by have := hK b hb; show b ≠ w.heap.size + 1; omega
        exact (World.putObj_heap_other hne).trans ((hs3.2 b (.inl hb) (by omega)).trans (ho2 b hne))
      | ret => exact hp.elim
      | exit id => exact hp.elim
      | goto t => exact hp.elim
      | panic ch => exact hp.elim
      | outgrown => exact hp.elim
    · exact ⟨h0 W1 hB1 hs1, hL1, hD1⟩
    · rintro e W2 ⟨⟨v, rfl⟩, hi, hl, hd⟩
      exact ⟨none, _, run_endLoop (P := P) hl (by simp [rec0]), hdone _ (hIl _ _ _ hi) ((World.putObj_heap_other (by show w.heap.size ≠ w.heap.size + 1; omega)).trans hd)⟩
end Go.Proofs.YtihoaakbkffejaaDoor
namespace Go.Proofs.YtihoaakbkffejaaDoor
open Go.RowKit Go.Shelf
set_option maxRecDepth 100000
attribute [local go_sem] Oper.semAt_some

theorem wpListIn_load_row {F : Fence} {n : Nat} {P : Program} {ops : Array Oper} {rest : List Oper} {o : Oper} {a : Act} {w : World} {Q : Exit → Act → World → Prop} (hgd : o.guard = none) (ty : TypeId) (x : Operand) (ho : o.op = .load ty x)
    (g : Nat) (hx : a.eval x = .pointer (some ⟨g, 0, none⟩)) (t : TypeId) (cs : Array Value) (fr : Nat × Nat) (d : TypeDesc) (hg : w.heap[g]? = some (.cells cs t fr))
    (hu : P.underlying ty = some d) (hd : (match d with | .struct _ | .array _ _ => true | _ => false) = true) (hi : (P.info? ty).map (·.size) = some cs.size)
    (h : wpListIn F n P ops Q rest (a.put o.dst (.agg cs)) w) : wpListIn F n P ops Q (o :: rest) a w :=
  wpListIn_plain hgd fun _ hK => by
    unfold Oper.wpIn
    refine ⟨?_, ?_⟩
    · simp [Oper.about, ho]
    · rw [Oper.semAt_plain F _ _ (by rw [ho]; intro c hc; cases hc)]
      unfold execOp
      simp only [ho, hx, Instr.loadAt, Instr.sureAddr, Sem.run_bind, Sem.run_pure, Result.andThen_ok, run_loadVar_row w g t ty cs fr d hg hu hd hi]
      exact hK _ _ h
theorem wpListIn_store_row {F : Fence} {n : Nat} {P : Program} {ops : Array Oper} {rest : List Oper} {o : Oper} {a : Act} {w : World} {Q : Exit → Act → World → Prop} (hgd : o.guard = none) (ty : TypeId) (x y : Operand) (ho : o.op = .store ty x y)
    (g : Nat) (cells : Array Value) (hx : a.eval x = .pointer (some ⟨g, 0, none⟩)) (hy : a.eval y = .agg cells)
    (t : TypeId) (old : Array Value) (hg : w.heap[g]? = some (.cells old t (0, 0))) (hi : (P.info? ty).map (·.size) = some cells.size)
    (hold : old.size = cells.size) (h1 : cells.all (·.oneCell') = true)
    (h : wpListIn F n P ops Q rest (a.put o.dst undef) (w.setRow g cells)) : wpListIn F n P ops Q (o :: rest) a w :=
  wpListIn_plain hgd fun _ hK => by
    unfold Oper.wpIn
    refine ⟨?_, ?_⟩
    · simp [Oper.about, ho]
    · rw [Oper.semAt_plain F _ _ (by rw [ho]; intro c hc; cases hc)]
      unfold execOp
      simp only [ho, hx, hy, Instr.storeAt, Instr.sureAddr, Sem.run_bind, Sem.run_pure, Result.andThen_ok, run_storeVar_row w g t ty old cells hg hi hold h1]
      exact hK _ _ h

theorem Is.same {A B : World} {a : Option Addr} {n c : Nat} {xs : List Int} {K : Nat → Prop} (h : Is A a n c xs) (hs : Same K A B) (hK : ∀ b o, a = some ⟨b, o, none⟩ → K b) : Is B a n c xs := by
  obtain ⟨h0, h1, h2, h3, h4⟩ := h
  refine ⟨h0, h1, h2, h3, ?_⟩
  rcases h4 with h4 | ⟨b, o, ha, hlt, hc⟩
  · exact .inl h4
  · refine .inr ⟨b, o, ha, Nat.lt_of_lt_of_le hlt hs.1, fun j hj => ?_⟩
    rw [← hc j hj]
    have := hs.2 b (hK b o ha) hlt
    simp [World.cell?, this]
theorem Arr.same {A B : World} {g : Nat} {t : TypeId} {cs : List Value} {K : Nat → Prop} (h : Arr A g t cs) (hs : Same K A B) (hK : K g) : Arr B g t cs := (hs.2 g hK h.lt).trans h

theorem backF (a : Option Addr) (n c : Nat) (w : World) :
    Calls Tryd.prog 66 #[.slice a n c] w fun e w' => e = .returned (.func (.func 77) #[] #[.pointer (some ⟨w.heap.size, 0, none⟩)]) ∧
      Arr w' w.heap.size 37 [.slice a n c] ∧ w'.heap.size = w.heap.size + 1 ∧ Below w.heap.size w w' := by
  obtain ⟨W, hW⟩ : ∃ W, W = w.alloc (.cells #[.slice a n c] 37) := ⟨_, rfl⟩
  have h1 : Arr W w.heap.size 37 [.slice a n c] := by rw [hW]; exact Arr.new w [.slice a n c] _
  have h3 : W.heap.size = w.heap.size + 1 := by rw [hW]; simp
  have hB : Below w.heap.size w W := by rw [hW]; exact (Below.refl _ _).alloc (Nat.le_refl _) _
  go_enter Tryd.func66, Tryd.ntmps66
  go_wp2
  rw [← hW]
  go_ret
  exact ⟨rfl, h1, h3, hB⟩

/-- What Backward tells. -/
def bkE (N : Nat) (cs : List Int) (k : Nat) : Array Value := #[.int .i64 ((N - 1 - k : Nat) : Int), .int .i64 (cs.getD (N - 1 - k) 0)]

set_option maxHeartbeats 1000000 in
theorem backTells (n p : Nat) (a : Option Addr) (N c : Nat) (cs : List Int) (W : World) (hp : Arr W p 37 [.slice a N c]) (hx : Is W a N c cs) (hN : N ≤ 9223372036854775807) :
    TellsR n Tryd.prog 77 #[.pointer (some ⟨p, 0, none⟩)] (bkE N cs) N (fun b => b = p ∨ ∃ o, a = some ⟨b, o, none⟩) W := by
  intro l J hY h0
  have hpc : W.cell? ⟨p, 0, none⟩ = some (.slice a N c) := hp.cell 0
  have s0 : IntKind.i64.wrap ((N : Int) - 1) = (N : Int) - 1 := by rw [IntKind.wrap_i64]; omega
  refine callsIn_of_wp Tryd.func77 rfl trivial ?_ rfl
  simp only [Tryd.ntmps77, List.size_toArray, List.length_cons, List.length_nil, Nat.reduceAdd, Nat.reduceSub, Array.replicate_succ, Array.replicate_zero, List.push_toArray, List.append_toArray, List.nil_append, List.cons_append]
  have hwide : Fence.wide.depth.isSome = true → 1 ≤ n := fun h => by cases h
  gi_wp2
  gi_loopw [3] (fun i wr => ∃ (k : Nat) (j : Int), k ≤ N ∧ j = (N : Int) - 1 - (k : Int) ∧ i = .int .i64 j ∧ J k wr ∧ Is wr a N c cs ∧ Arr wr p 37 [.slice a N c]) (fun i _ => (intOf i + 1).toNat)
  case atStart => exact ⟨0, (N : Int) - 1, by omega, by omega, rfl, h0, hx, hp⟩
  case round =>
    clear h0 hx hp hpc s0
    obtain ⟨k, j, hk, hj, rfl, hJk, hx, hp⟩ := hrel
    by_cases hlt : k < N
    · obtain ⟨i, rfl⟩ : ∃ i : Nat, j = (i : Int) := ⟨N - 1 - k, by omega⟩
      have hik : N - 1 - k = i := by omega
      have hpc : wr.cell? ⟨p, 0, none⟩ = some (.slice a N c) := hp.cell 0
      rcases hx.2.2.2.2 with h0 | ⟨b, o, ha, hbl, hc⟩
      · omega
      obtain ⟨x, hxx⟩ : ∃ x, x = cs.getD i 0 := ⟨_, rfl⟩
      have hxc := hc i (by omega)
      rw [← hxx] at hxc
      obtain ⟨fn, tmps, assign, body, hy, hR⟩ := hY k wr hlt hJk
      unfold bkE at hy
      rw [hik, ← hxx] at hy
      have HJ : Hid _ := hj
      have HK : Hid _ := hik
      have hiN : (i : Int) < (N : Int) := by omega
      have hi0 : (0 : Int) ≤ (i : Int) := by omega
      subst ha
      clear hxx hY hc hj hik
      gi_wp2
      refine ⟨hwide, hR.mono ?_⟩
      rintro e w4 ⟨rfl, hJ4, hs4⟩
      have hx4 := hx.same hs4 (fun b' o' e => .inr ⟨o', e⟩)
      have hp4 := hp.same hs4 (.inl rfl)
      have s5 : IntKind.i64.wrap ((i : Int) - 1) = (i : Int) - 1 := by rw [IntKind.wrap_i64]; omega
      clear hx hp hs4 hxc hy hR hpc
      gi_wp2
      go_roundw
      case rel => exact ⟨k + 1, (i : Int) - 1, by omega, by have := HJ.out; omega, by go_num, hJ4, hx4, hp4⟩
      case measure => simp [intOf]
    · have hkn : k = N := by omega
      subst hkn
      have hj0 : ¬ (0 : Int) ≤ j := by omega
      clear hj
      gi_wp2
      go_end0
      exact ⟨⟨_, rfl⟩, hJk⟩
end Go.Proofs.YtihoaakbkffejaaDoor
namespace Go.Proofs.YtihoaakbkffejaaDoor
open Go.RowKit Go.Shelf
set_option maxRecDepth 100000
attribute [local go_sem] Oper.semAt_some

/-- Where the loop over the columns stands: k rounds are done. -/
structure Ck (w : World) (S N : Nat) (cs : List Int) (k : Nat) (W : World) : Prop where
  sz : S ≤ W.heap.size
  fr : Below w.heap.size w W
  pr : Arr W w.heap.size 85 (I64 Z16)
  pn : Arr W (w.heap.size + 1) 85 (I64 (clm cs (N - k)))
theorem Ck.put {w : World} {S N : Nat} {cs : List Int} (hS : w.heap.size + 2 ≤ S) (k : Nat) (A : World) (o : Obj) (h : Ck w S N cs k A) : Ck w S N cs k (A.putObj (S + 1) o) := by
  have h2 := h.sz
  exact ⟨by simpa using h2, h.fr.grown (grownBy_putObj' _ _ _) h.fr.size (fun j e => by cases e; omega), (World.putObj_heap_other (by omega)).trans h.pr, (World.putObj_heap_other (by omega)).trans h.pn⟩

set_option maxHeartbeats 2000000 in
theorem implColumns (a : Option Addr) (N c : Nat) (cs : List Int) (w : World) (hx : Is w a N c cs) (hN0 : N ≠ 0) (hN : N ≤ 9223372036854775807) (hq : ∀ x ∈ cs, Cq x) (hV : Vr w 5 (I64 OL)) :
    Calls Tryd.prog 45 #[.slice a N c] w fun e w' => e = .returned (.agg (I64 (redO (val cs))).toArray) ∧ Below w.heap.size w w' := by
  have hNl := hx.2.1
  refine (callsIn_wide (n := 3)).1 ?_
  refine callsIn_of_wp_marks Tryd.func45 rfl trivial ?_ rfl
  simp only [Tryd.ntmps45, List.size_toArray, List.length_cons, List.length_nil, Nat.reduceAdd, Nat.reduceSub, Array.replicate_succ, Array.replicate_zero, List.push_toArray, List.append_toArray, List.nil_append, List.cons_append]
  obtain ⟨W0, hW0⟩ : ∃ W0, W0 = (w.alloc (.cells #[.int .i64 0, .int .i64 0, .int .i64 0, .int .i64 0, .int .i64 0, .int .i64 0, .int .i64 0, .int .i64 0, .int .i64 0, .int .i64 0, .int .i64 0, .int .i64 0, .int .i64 0, .int .i64 0, .int .i64 0, .int .i64 0] 85)).alloc (.cells #[.int .i64 0, .int .i64 0, .int .i64 0, .int .i64 0, .int .i64 0, .int .i64 0, .int .i64 0, .int .i64 0, .int .i64 0, .int .i64 0, .int .i64 0, .int .i64 0, .int .i64 0, .int .i64 0, .int .i64 0, .int .i64 0] 85) := ⟨_, rfl⟩
  have hS0 : W0.heap.size = w.heap.size + 2 := by rw [hW0]; simp
  have hB0 : Below w.heap.size w W0 := by rw [hW0]; exact ((Below.refl _ _).alloc (Nat.le_refl _) _).alloc (by simp) _
  have hR0 : Arr W0 w.heap.size 85 (I64 Z16) := by rw [hW0]; exact (Arr.new w (I64 Z16) _).alloc _
  have hA0 : Arr W0 (w.heap.size + 1) 85 (I64 Z16) := by
    rw [hW0]
    have := Arr.new (w.alloc (.cells (I64 Z16).toArray 85)) (I64 Z16) 85
    rw [World.size_alloc] at this
    exact this
  gi_wp2
  rw [← hW0]
  refine ⟨trivial, (callsIn_wide.2 (backF a N c W0)).mono ?_⟩
  rintro e w1 ⟨rfl, hp1, hs1, hb1⟩
  rw [hS0] at hp1 hs1
  have hB1 := hB0.trans (hb1.mono hB0.size)
  have hR1 := hR0.kept hb1
  have hA1 := hA0.kept hb1
  have hx1 := hx.below hB1
  have HT : ∀ W, Below w1.heap.size w1 W → TellsR (3 - 1) Tryd.prog 77 #[.pointer (some ⟨w.heap.size + 2, 0, none⟩)] (bkE N cs) N (fun b => b = w.heap.size + 2 ∨ ∃ o, a = some ⟨b, o, none⟩) W := by
    intro W hb
    exact backTells (3 - 1) (w.heap.size + 2) a N c cs W (hp1.kept hb) (hx1.below hb) hN
  have T0 : ∀ W, Below w1.heap.size w1 W → W.heap.size = w1.heap.size + 2 → Ck w w1.heap.size N cs 0 W := fun W hb hz => by
    refine ⟨by omega, hB1.trans (hb.mono hB1.size), hR1.kept hb, ?_⟩
    rw [Nat.sub_zero, ← hNl, clm_end]
    exact hA1.kept hb
  have HKb : ∀ b o, a = some ⟨b, o, none⟩ → b < w.heap.size := fun b o e => by
    rcases hx.2.2.2.2 with h | ⟨b', o', ha, hlt, _⟩
    · exact (hN0 h).elim
    · rw [ha] at e; cases e; exact hlt
  clear hB0 hR0 hA0 hb1 hW0 hp1 hR1 hA1 hx1
  gi_wp2
  refine range_tellsR (n := 3) (gf := 77) (lb := #[.pointer (some ⟨w.heap.size + 2, 0, none⟩)]) rfl (enters_of Tryd.func77 (by kernel_rfl) rfl)
    (fun b hb => by rw [hs1]; rcases hb with h | ⟨o, h⟩; omega; have := HKb b o h; omega) HT (fun _ => rfl) (Ck w w1.heap.size N cs) (Ck.put (by omega)) T0
    (fun k => { tmps := #[.slice a N c, undef, .pointer (some ⟨w.heap.size, 0, none⟩), .pointer (some ⟨w.heap.size + 1, 0, none⟩), undef, .int .i64 (cs.getD (N - 1 - k) 0), .slice a N c, .func (.func 77) #[] #[.pointer (some ⟨w.heap.size + 2, 0, none⟩)], .int .i64 ((N - 1 - k : Nat) : Int), .int .i64 (cs.getD (N - 1 - k) 0), undef, undef, undef, undef], defers := [] }) ?assign ?body ?done
  case assign =>
    intro l k W R _ hR
    unfold bkE
    generalize cs.getD (N - 1 - k) 0 = x at hR ⊢
    generalize ((N - 1 - k : Nat) : Int) = y at hR ⊢
    gi_wp2
    exact hR
  case body =>
    clear HT T0
    intro l k W hk hz CK
    obtain ⟨x, hxx⟩ : ∃ x, x = cs.getD (N - 1 - k) 0 := ⟨_, rfl⟩
    obtain ⟨L, hL⟩ : ∃ L, L = clm cs (N - k) := ⟨_, rfl⟩
    have hLo : scOk L = true := by rw [hL]; exact clm_ok _ _
    have hLl := ((scOk_iff L).1 hLo).1
    have hxq : Cq x := by rw [hxx]; exact getD_of hq (by unfold Cq; omega) _
    obtain ⟨R, hR⟩ : ∃ R, R = redO (x + 65536 * val L) := ⟨_, rfl⟩
    have hRl : R.length = 16 := by rw [hR]; exact redO_len _
    have hRe : R = clm cs (N - (k + 1)) := by
      rw [hR, hL, hxx, ← clm_step cs (N - (k + 1)) (by omega), show N - (k + 1) + 1 = N - k by omega, show N - 1 - k = N - (k + 1) by omega]
    have hfr := CK.fr
    have hsz := CK.sz
    have hpn := CK.pn
    have hpr := CK.pr
    rw [← hL] at hpn
    have HC := implLonger L x W hLo hxq (hV.kept hfr)
    rw [← hR] at HC
    have HC' : Hid (Calls Tryd.prog 67 #[.agg (I64 L).toArray, .int .i64 x] W fun e w' => e = .returned (.agg (I64 R).toArray) ∧ Below W.heap.size W w') := HC
    have HRe : Hid _ := hRe
    have hil : (Tryd.prog.info? 85).map (·.size) = some (I64 L).toArray.size := by simpa [hLl] using infoM
    have hir : (Tryd.prog.info? 85).map (·.size) = some (I64 R).toArray.size := by simpa [hRl] using infoM
    generalize ((N - 1 - k : Nat) : Int) = y
    rw [← hxx]
    clear hxx hL hR hRe CK HC hxq hLo
    gi_wp2_with (refine wpListIn_load_row rfl 85 _ rfl (w.heap.size + 1) rfl 85 (I64 L).toArray (0, 0) _ hpn Tryd.underlying85 rfl hil ?_)
    refine ⟨trivial, (CallsIn.inRound l (callsIn_wide.2 HC'.out)).mono ?_⟩
    rintro e w3 ⟨rfl, hb3⟩
    have hpn3 := hpn.kept hb3
    have hpr3 := hpr.kept hb3
    have hfr3 := hfr.trans (hb3.mono hfr.size)
    have hsz3 := hb3.size
    have hwz := hfr.size
    have hW3 : Same (fun b => (b = w.heap.size + 2 ∨ ∃ o, a = some ⟨b, o, none⟩) ∨ b = w1.heap.size ∨ b = w1.heap.size + 1) W (w3.setRow (w.heap.size + 1) (I64 R).toArray) := by
      refine ⟨by simpa using hsz3, fun b hb hbl => ?_⟩
      have hne : b ≠ w.heap.size + 1 := by
        rcases hb with (h | ⟨o, h⟩) | h | h
        · omega
        · have := HKb b o h; omega
        · omega
        · omega
      rw [setRow_other w3 (w.heap.size + 1) b _ hne]
      exact hb3.block b hbl
    have hfin : Ck w w1.heap.size N cs (k + 1) (w3.setRow (w.heap.size + 1) (I64 R).toArray) :=
      ⟨by simp; omega, setRow_below hfr3 _ _ (by omega), hpr3.rowOther _ _ (by omega), by rw [← HRe.out]; exact hpn3.row _⟩
    have HF : Hid _ := hfin
    have HS : Hid _ := hW3
    clear hfin hW3 hb3 hpn hpr hfr hfr3 hpr3 HC' HRe
    gi_wp2_with (refine wpListIn_store_row rfl 85 _ _ rfl (w.heap.size + 1) (I64 R).toArray rfl rfl 85 _ hpn3 hir (by simp [hLl, hRl]) (by simp [Value.oneCell']) ?_)
    exact ⟨HF.out, HS.out⟩
  case done =>
    clear HT T0
    intro W CK hD
    obtain ⟨R, hR⟩ : ∃ R, R = redO (val cs) := ⟨_, rfl⟩
    have hRl : R.length = 16 := by rw [hR]; exact redO_len _
    have hpn := CK.pn
    rw [Nat.sub_self, clm_zero, ← hR] at hpn
    have hpr := CK.pr
    have hfr := CK.fr
    have hsz := CK.sz
    have hwz := hfr.size
    have hir : (Tryd.prog.info? 85).map (·.size) = some (I64 R).toArray.size := by simpa [hRl] using infoM
    have h2 := hpr.row (I64 R)
    have hD2 : (W.setRow w.heap.size (I64 R).toArray).heap[w1.heap.size]? = some (.deferred (some [])) := (setRow_other W w.heap.size _ _ (by omega)).trans hD
    have HB : Hid (Below w.heap.size w (W.setRow w.heap.size (I64 R).toArray)) := setRow_below hfr w.heap.size (I64 R).toArray (Nat.le_refl _)
    have HR : Hid (R = redO (val cs)) := hR
    clear CK hR hD
    gi_wp2_with (first
      | (refine wpListIn_load_row rfl 85 _ rfl (w.heap.size + 1) rfl 85 (I64 R).toArray (0, 0) _ hpn Tryd.underlying85 rfl hir ?_)
      | (refine wpListIn_store_row rfl 85 _ _ rfl w.heap.size (I64 R).toArray rfl rfl 85 _ hpr hir (by simp [hRl]) (by simp [Value.oneCell']) ?_))
    refine ⟨by simp, .inl ⟨_, _, rfl, run_takeDeferred hD2, ?_⟩⟩
    refine ⟨_, results_cell_row rfl _ _ w.heap.size 85 (I64 R).toArray (0, 0) _ rfl ((World.putObj_heap_other (by omega)).trans h2) Tryd.underlying85 rfl hir, by rw [HR.out], ?_⟩
    exact HB.out.grown (grownBy_putObj' _ _ _) HB.out.size (fun j e => by cases e; omega)
end Go.Proofs.YtihoaakbkffejaaDoor
namespace Go.Proofs.YtihoaakbkffejaaDoor
open Go.RowKit
set_option maxRecDepth 100000

end Go.Proofs.YtihoaakbkffejaaDoor
namespace Go.Proofs.YtihoaakbkffejaaDoor
open Go.RowKit
set_option maxRecDepth 100000

end Go.Proofs.YtihoaakbkffejaaDoor
namespace Go.Proofs.YtihoaakbkffejaaDoor
open Go.RowKit
set_option maxRecDepth 100000
end Go.Proofs.YtihoaakbkffejaaDoor
