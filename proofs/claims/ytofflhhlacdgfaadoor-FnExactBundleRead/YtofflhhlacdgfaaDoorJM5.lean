/-
  What is proved here: what stays where two blocks alone were written; no program is spoken of; how memory is kept while another part of it is written, and rows of their own; no program is spoken of; an int that fits is not wrapped; no program is spoken of; rows of four cells an element, in memory of their own; no program is spoken of; the contract of the laws' eqByteS; contracts of two helpers of the exact laws (copy a slice of bytes, hold two against each other), for every slice of at most 2^21 bytes; contracts of two helpers of the exact laws (mark a slice of bytes, look whether the marks are held), for every slice of at most 2^21 bytes; the contract of a helper of the exact laws (hold two slices of ints against each other), for every slice of at most 2^21 ints; the contract of the laws' count of a slice of bytes; what the laws' toKey, eqKey, szKey answer; what the laws' toKeyS, eqKeyS, szKeyS answer, and rows of such elements in memory of their own.
-/
import Derived.Test.YtofflhhlacdgfaaDoorJM2
import Derived.Deep.RegionHeld3
import Derived.BigRegion
import Derived.Test.YtofflhhlacdgfaaDoorJM1
import Derived.Test.YtofflhhlacdgfaaDoorProg
import Derived.Deep.QuietTactic
import Derived.BigQuiet
import Derived.Test.YtofflhhlacdgfaaDoorBg
import Derived.Test.YtofflhhlacdgfaaDoorTm
namespace Go.Proofs.YtofflhhlacdgfaaDoor
open Go.RowKit

/-- Nothing old has turned but two blocks. -/
structure Gr2 (w w' : World) (r1 r2 : Option Nat) : Prop where
  os : w'.os = w.os
  tape : w'.tape = w.tape
  output : w'.output = w.output
  size : w.heap.size ≤ w'.heap.size
  block : ∀ i, i < w.heap.size → some i ≠ r1 → some i ≠ r2 → w'.heap[i]? = w.heap[i]?

theorem Gr2.below {w W W' : World} {r1 r2 : Option Nat} (h : Gr2 W W' r1 r2) (hb : Below w.heap.size w W) (h1 : ∀ k, r1 = some k → w.heap.size ≤ k) (h2 : ∀ k, r2 = some k → w.heap.size ≤ k) : Below w.heap.size w W' :=
  ⟨h.os.trans hb.os, h.tape.trans hb.tape, h.output.trans hb.output, Nat.le_trans hb.size h.size, fun i hi => (h.block i (Nat.lt_of_lt_of_le hi hb.size) (fun e => by have := h1 i e.symm; omega) (fun e => by have := h2 i e.symm; omega)).trans (hb.block i hi)⟩
theorem Gr2.own {W W' : World} {u1 u2 v : Value} {B e s n : Nat} {l : List Value} (h : Gr2 W W' u1.ownBlock u2.ownBlock) (ho : W.ownsRow B e s v n l) (a1 : Apart u1 v) (a2 : Apart u2 v) : W'.ownsRow B e s v n l := by
  refine ⟨ho.1, ?_⟩
  rcases ho.2 with hn | ⟨g, cap, cur, rfl, hg, hgg, rest⟩
  · exact .inl hn
  · refine .inr ⟨g, cap, cur, rfl, hg, ?_, rest⟩
    rw [h.block g (Array.getElem?_eq_some_iff.1 hgg).1 (fun e => a1 g e.symm rfl) (fun e => a2 g e.symm rfl)]
    exact hgg
theorem Gr2.arr {W W' : World} {r1 r2 : Option Nat} {g : Nat} {t : TypeId} {cs : List Value} (h : Gr2 W W' r1 r2) (ha : Arr W g t cs) (h1 : r1 ≠ some g) (h2 : r2 ≠ some g) : Arr W' g t cs := by
  unfold Arr
  rw [h.block g ha.lt (Ne.symm h1) (Ne.symm h2)]
  exact ha

theorem Gr2.cellsOf {W W' : World} {u1 u2 : Value} {a b g : Nat} {t : TypeId} {cs : List Value} (hg : Gr2 W W' u1.ownBlock u2.ownBlock) (h : Arr W g t cs) (i1 : In u1 a b) (i2 : In u2 a b) (hl : g < a ∨ b ≤ g) : Arr W' g t cs := hg.arr h (i1.ne hl) (i2.ne hl)
theorem grown_arr {W W' : World} {u : Value} {a b g : Nat} {t : TypeId} {cs : List Value} (hg : W.grownBy W' u.ownBlock) (h : Arr W g t cs) (i1 : In u a b) (hl : g < a ∨ b ≤ g) : Arr W' g t cs := by
  unfold Arr
  rw [hg.block g h.lt (fun e => i1.ne hl e.symm)]
  exact h
end Go.Proofs.YtofflhhlacdgfaaDoor
namespace Go.Proofs.YtofflhhlacdgfaaDoor
set_option maxRecDepth 100000
open Go.RowKit

/-- Nothing old has turned but what lies in an interval of blocks. -/
structure Chg (W W' : World) (a b : Nat) : Prop where
  os : W'.os = W.os
  tape : W'.tape = W.tape
  output : W'.output = W.output
  size : W.heap.size ≤ W'.heap.size
  block : ∀ i, i < W.heap.size → (i < a ∨ b ≤ i) → W'.heap[i]? = W.heap[i]?

theorem Chg.of_below {W W' : World} (h : Below W.heap.size W W') (a : Nat) : Chg W W' a a := ⟨h.os, h.tape, h.output, h.size, fun i hi _ => h.block i hi⟩
theorem Chg.of_gr2 {W W' : World} {u v : Value} {a b : Nat} (h : Gr2 W W' u.ownBlock v.ownBlock) (i1 : In u a b) (i2 : In v a b) : Chg W W' a b :=
  ⟨h.os, h.tape, h.output, h.size, fun i hi hj => h.block i hi (fun e => by have := i1 i e.symm; omega) (fun e => by have := i2 i e.symm; omega)⟩
theorem Chg.of_grown {W W' : World} {u : Value} {a b : Nat} (h : W.grownBy W' u.ownBlock) (i1 : In u a b) : Chg W W' a b :=
  ⟨h.os, h.tape, h.output, h.size, fun i hi hj => h.block i hi (fun e => by have := i1 i e.symm; omega)⟩
theorem Chg.alloc (W : World) (o : Obj) (a : Nat) : Chg W (W.alloc o) a a := .of_below ((Below.refl _ _).alloc (Nat.le_refl _) _) a
theorem Chg.bel {w W W' : World} {a b : Nat} (h : Chg W W' a b) (hb : Below w.heap.size w W) (hl : b ≤ a ∨ w.heap.size ≤ a) : Below w.heap.size w W' :=
  ⟨h.os.trans hb.os, h.tape.trans hb.tape, h.output.trans hb.output, Nat.le_trans hb.size h.size, fun i hi => (h.block i (Nat.lt_of_lt_of_le hi hb.size) (by omega)).trans (hb.block i hi)⟩
theorem Arr.chg {W W' : World} {a b g : Nat} {t : TypeId} {cs : List Value} (h : Arr W g t cs) (hc : Chg W W' a b) (hl : g < a ∨ b ≤ g) : Arr W' g t cs := by
  unfold Arr
  rw [hc.block g h.lt hl]
  exact h
theorem own_chg {W W' : World} {lo hi a b e s n : Nat} {v : Value} {l : List Value} (h : W.ownsRow lo e s v n l) (i : In v lo hi) (hc : Chg W W' a b) (hl : hi ≤ a ∨ b ≤ lo) : W'.ownsRow lo e s v n l := by
  refine ⟨h.1, ?_⟩
  rcases h.2 with hn | ⟨g, cap, cur, rfl, hg, hgg, rest⟩
  · exact .inl hn
  · refine .inr ⟨g, cap, cur, rfl, hg, ?_, rest⟩
    have := i g rfl
    rw [hc.block g (Array.getElem?_eq_some_iff.1 hgg).1 (by omega)]
    exact hgg

/-- A row within [lo, hi). -/
structure Ro (W : World) (lo hi e : Nat) (v : Value) (n : Nat) (l : List Value) : Prop where
  o : W.ownsRow lo e 1 v n l
  i : In v lo hi
  z : hi ≤ W.heap.size
section
variable {W W' : World} {lo hi e n : Nat} {v : Value} {l : List Value}
theorem Ro.new (o : W.ownsRow lo e 1 v n l) : Ro W lo W.heap.size e v n l := ⟨o, In.of o, Nat.le_refl _⟩
theorem Ro.chg (h : Ro W lo hi e v n l) {a b : Nat} (hc : Chg W W' a b) (hl : hi ≤ a ∨ b ≤ lo ∨ b ≤ a) : Ro W' lo hi e v n l := by
  by_cases hab : b ≤ a
  · have hc' : Chg W W' hi hi := ⟨hc.os, hc.tape, hc.output, hc.size, fun i hi _ => hc.block i hi (by omega)⟩
    exact ⟨own_chg h.o h.i hc' (by omega), h.i, Nat.le_trans h.z hc.size⟩
  · exact ⟨own_chg h.o h.i hc (by omega), h.i, Nat.le_trans h.z hc.size⟩
theorem Ro.marked (h : Ro W lo hi e v n l) {l' : List Value} (hg : W.grownBy W' v.ownBlock) (o : W'.ownsRow lo e 1 v n l') : Ro W' lo hi e v n l' := ⟨o, h.i, Nat.le_trans h.z hg.size⟩
theorem Ro.gr (h : Ro W lo hi e v n l) (hg : W.grownBy W' v.ownBlock) : Chg W W' lo hi := .of_grown hg h.i
end
end Go.Proofs.YtofflhhlacdgfaaDoor
namespace Go.Proofs.YtofflhhlacdgfaaDoor
open Go.RowKit

theorem wr64 {x : Int} (h : -9223372036854775808 ≤ x) (h1 : x ≤ 9223372036854775807) : IntKind.i64.wrap x = x := by simp [IntKind.wrap, IntKind.signed, IntKind.bits]; omega
end Go.Proofs.YtofflhhlacdgfaaDoor
namespace Go.Proofs.YtofflhhlacdgfaaDoor
open Go.RowKit
set_option maxRecDepth 100000
set_option linter.unusedVariables false

structure L4 where
  a : Value
  b : Value
  c : Value
  d : Value
structure Cell4 (W : World) (b o : Nat) (x : L4) : Prop where
  h0 : W.cell? ⟨b, o, none⟩ = some x.a
  h1 : W.cell? ⟨b, o + 1, none⟩ = some x.b
  h2 : W.cell? ⟨b, o + 2, none⟩ = some x.c
  h3 : W.cell? ⟨b, o + 3, none⟩ = some x.d
theorem Cell4.below {W W' : World} {b o : Nat} {x : L4} (h : Cell4 W b o x) (l : b < W.heap.size) (hb : Below W.heap.size W W') : Cell4 W' b o x :=
  ⟨(hb.cell (p := ⟨b, _, none⟩) l).trans h.h0, (hb.cell (p := ⟨b, _, none⟩) l).trans h.h1, (hb.cell (p := ⟨b, _, none⟩) l).trans h.h2, (hb.cell (p := ⟨b, _, none⟩) l).trans h.h3⟩
def Rw4 (W : World) (a : Option Addr) (n : Nat) (v : Nat → L4) : Prop := n = 0 ∨ ∃ b o, a = some ⟨b, o, none⟩ ∧ b < W.heap.size ∧ ∀ i, i < n → Cell4 W b (o + i * 4) (v i)
theorem Rw4.below {W W' : World} {a : Option Addr} {n : Nat} {v : Nat → L4} (h : Rw4 W a n v) (hb : Below W.heap.size W W') : Rw4 W' a n v := by
  rcases h with h | ⟨b, o, e, l, h⟩
  · exact .inl h
  · exact .inr ⟨b, o, e, Nat.lt_of_lt_of_le l hb.size, fun i hi => (h i hi).below l hb⟩
def lz : L4 := ⟨.int .i64 0, .int .i64 0, .int .i64 0, .int .i64 0⟩
def lg (xs : List L4) (i : Nat) : L4 := xs.getD i lz
/-- The cells of a row. -/
def QL : List L4 → List Value
  | [] => []
  | r :: t => r.a :: r.b :: r.c :: r.d :: QL t
theorem QL_len : ∀ xs : List L4, (QL xs).length = xs.length * 4
  | [] => rfl
  | _ :: t => by simp [QL, QL_len t]; omega
theorem QL_get : ∀ (xs : List L4) (i : Nat), i < xs.length → (QL xs)[i * 4]? = some (lg xs i).a ∧ (QL xs)[i * 4 + 1]? = some (lg xs i).b ∧ (QL xs)[i * 4 + 2]? = some (lg xs i).c ∧ (QL xs)[i * 4 + 3]? = some (lg xs i).d
  | [], i, h => by simp at h
  | r :: t, 0, _ => ⟨rfl, rfl, rfl, rfl⟩
  | r :: t, i + 1, h => by
    have e : (i + 1) * 4 = i * 4 + 4 := by omega
    rw [e]
    exact QL_get t i (by simpa using h)
theorem QL_set : ∀ (xs : List L4) (i : Nat) (r : L4), i < xs.length → QL (xs.set i r) = ((((QL xs).set (i * 4) r.a).set (i * 4 + 1) r.b).set (i * 4 + 2) r.c).set (i * 4 + 3) r.d
  | [], i, r, h => by simp at h
  | x :: t, 0, r, _ => rfl
  | x :: t, i + 1, r, h => by
    have e : (i + 1) * 4 = i * 4 + 4 := by omega
    rw [e]
    show _ :: _ :: _ :: _ :: QL (t.set i r) = _ :: _ :: _ :: _ :: _
    rw [QL_set t i r (by simpa using h)]
theorem QL_app : ∀ xs ys : List L4, QL (xs ++ ys) = QL xs ++ QL ys
  | [], _ => rfl
  | x :: t, ys => by show _ :: _ :: _ :: _ :: QL (t ++ ys) = _; rw [QL_app t ys]; rfl
theorem lg_set (xs : List L4) (i j : Nat) (r : L4) (h : i < xs.length) : lg (xs.set i r) j = if j = i then r else lg xs j := by
  unfold lg
  by_cases e : j = i
  · subst e; simp [h]
  · have e' : ¬ i = j := fun h => e h.symm
    simp [e, e']
theorem lg_rep (n i : Nat) (z : L4) (h : i < n) : lg (List.replicate n z) i = z := by unfold lg; simp [h]
theorem QL_rep (n : Nat) (z : L4) : (madeCells #[z.a, z.b, z.c, z.d] (n * 4)).toList = QL (List.replicate n z) := by
  apply List.ext_getElem?
  intro i
  by_cases hi : i < n * 4
  · obtain ⟨a, b, c, d⟩ := QL_get (List.replicate n z) (i / 4) (by simp; omega)
    rw [lg_rep n _ z (by omega)] at a b c d
    have hm : i % 4 = 0 ∨ i % 4 = 1 ∨ i % 4 = 2 ∨ i % 4 = 3 := by omega
    rcases hm with h | h | h | h
    · rw [show i = i / 4 * 4 by omega, a]; unfold madeCells; simp [show i / 4 * 4 < n * 4 by omega]
    · rw [show i = i / 4 * 4 + 1 by omega, b]; unfold madeCells; simp [show i / 4 * 4 + 1 < n * 4 by omega, show (i / 4 * 4 + 1) % 4 = 1 by omega]
    · rw [show i = i / 4 * 4 + 2 by omega, c]; unfold madeCells; simp [show i / 4 * 4 + 2 < n * 4 by omega, show (i / 4 * 4 + 2) % 4 = 2 by omega]
    · rw [show i = i / 4 * 4 + 3 by omega, d]; unfold madeCells; simp [show i / 4 * 4 + 3 < n * 4 by omega, show (i / 4 * 4 + 3) % 4 = 3 by omega]
  · rw [List.getElem?_eq_none (by rw [Array.length_toList, size_madeCells]; omega), List.getElem?_eq_none (by rw [QL_len]; simp; omega)]
section
variable {w : World} {lo t n cap g : Nat} {xs : List L4}
theorem q4_len {v : Value} (h : w.ownsRow lo t 4 v n (QL xs)) : xs.length = n := by have := h.1; rw [QL_len] at this; omega
theorem q4_at (h : w.ownsRow lo t 4 (.slice (some ⟨g, 0, none⟩) n cap) n (QL xs)) (i : Nat) (hi : i < n) : Cell4 w g (i * 4) (lg xs i) := by
  have hl := q4_len h
  obtain ⟨a, b, c, d⟩ := QL_get xs i (by omega)
  exact ⟨(h.cellAt _ (by omega)).trans a, (h.cellAt _ (by omega)).trans b, (h.cellAt _ (by omega)).trans c, (h.cellAt _ (by omega)).trans d⟩
theorem q4_set (h : w.ownsRow lo t 4 (.slice (some ⟨g, 0, none⟩) n cap) n (QL xs)) (i : Nat) (hi : i < n) (r : L4) :
    ((((w.setCell ⟨g, i * 4, none⟩ r.a).setCell ⟨g, i * 4 + 1, none⟩ r.b).setCell ⟨g, i * 4 + 2, none⟩ r.c).setCell ⟨g, i * 4 + 3, none⟩ r.d).ownsRow lo t 4 (.slice (some ⟨g, 0, none⟩) n cap) n (QL (xs.set i r)) := by
  rw [QL_set xs i r (by rw [q4_len h]; exact hi)]
  exact ((((h.stored (i * 4) r.a).1.stored (i * 4 + 1) r.b).1.stored (i * 4 + 2) r.c).1.stored (i * 4 + 3) r.d).1
end
theorem bel_r4 {w W : World} {B g : Nat} (h : Below B w W) (hg : B ≤ g) (m : Nat) (a b c d : Value) : Below B w ((((W.setCell ⟨g, m, none⟩ a).setCell ⟨g, m + 1, none⟩ b).setCell ⟨g, m + 2, none⟩ c).setCell ⟨g, m + 3, none⟩ d) :=
  (((h.setCell hg _).setCell hg _).setCell hg _).setCell hg _
theorem own_r4 {W : World} {b e s n : Nat} {v : Value} {xs : List Value} (h : W.ownsRow b e s v n xs) {g : Nat} (hg : g < b) (m : Nat) (p q r u : Value) :
    ((((W.setCell ⟨g, m, none⟩ p).setCell ⟨g, m + 1, none⟩ q).setCell ⟨g, m + 2, none⟩ r).setCell ⟨g, m + 3, none⟩ u).ownsRow b e s v n xs :=
  own_other (own_other (own_other (own_other h _ _ hg) _ _ hg) _ _ hg) _ _ hg
end Go.Proofs.YtofflhhlacdgfaaDoor
namespace Go.Proofs.YtofflhhlacdgfaaDoor
open Go.RowKit

theorem set_take (xs : List Int) (n k : Nat) (h : k < xs.length) (hn : xs.length = n) :
    (U8 (xs.take k ++ List.replicate (n - k) 0)).set k (.int .u8 (xs.getD k 0)) = U8 (xs.take (k + 1) ++ List.replicate (n - (k + 1)) 0) := by
  have e : n - k = (n - (k + 1)) + 1 := by omega
  rw [take_snoc xs k h, e, List.replicate_succ]
  have hl : (xs.take k).length = k := by simp; omega
  simp only [U8, List.map_append, List.map_cons]
  rw [List.set_append_right _ _ (by simp; omega)]
  simp [Nat.min_eq_left (show k ≤ xs.length by omega)]

set_option maxHeartbeats 400000 in
theorem eqB (a a' : Option Addr) (n cap cap' : Nat) (xs : List Int) (w : World) (h : Bs w a n cap xs) (h' : Bs w a' n cap' xs) (hn : n ≤ 2097152) :
    Calls Tryd.prog 35 #[.slice a n cap, .slice a' n cap'] w fun e w' => ∃ q, e = .returned (.bool true) ∧ w' = w.drewN q := by
  obtain ⟨_, hl, hc, hby, h⟩ := h
  obtain ⟨_, _, hc', _, h'⟩ := h'
  have hne : ((n : Int) != (n : Int)) = false := by simp
  go_enter Tryd.func35, Tryd.ntmps35
  go_wp2
  go_loopw [5] (fun i wr => ∃ k q : Nat, k ≤ n ∧ i = .int .i64 k ∧ wr = w.drewN q) (fun i _ => n - (intOf i).toNat)
  case atStart => exact ⟨0, 0, Nat.zero_le _, rfl, rfl⟩
  case round =>
    obtain ⟨k, q, hk, rfl, rfl⟩ := hrel
    by_cases hlt : k < n
    · rcases h with h | ⟨b, o, rfl, hbs, hcell⟩
      · omega
      · rcases h' with h' | ⟨b', o', rfl, hbs', hcell'⟩
        · omega
        · obtain ⟨x, hx⟩ : ∃ x, x = xs.getD k 0 := ⟨_, rfl⟩
          have hck : w.cell? ⟨b, o + k, none⟩ = some (.int .u8 x) := by rw [hx]; exact hcell k hlt
          have hck' : w.cell? ⟨b', o' + k, none⟩ = some (.int .u8 x) := by rw [hx]; exact hcell' k hlt
          have hxx : (x != x) = false := by simp
          have hlt' : (k : Int) < (n : Int) := by omega
          clear hcell hcell' hx
          go_wp2
          go_quiet (fail)
          go_wp2
          go_roundw
          case rel => exact ⟨k + 1, _, by omega, by go_num, rfl⟩
          case measure => simp [intOf]; omega
    · go_wp2
      go_ret
      exact ⟨q, rfl, rfl⟩

end Go.Proofs.YtofflhhlacdgfaaDoor
namespace Go.Proofs.YtofflhhlacdgfaaDoor
open Go.RowKit

set_option maxHeartbeats 400000 in
theorem toB (a : Option Addr) (n cap : Nat) (xs : List Int) (w : World) (h : Bs w a n cap xs) (hn : n ≤ 2097152) :
    Calls Tryd.prog 33 #[.slice a n cap] w fun e w' => ∃ v, e = .returned v ∧ w'.ownsRow w.heap.size 5 1 v n (U8 xs) ∧ Below w.heap.size w w' := by
  obtain ⟨i0, hi, hz0, hz1, hz2⟩ := info_parts Tryd.info5
  obtain ⟨_, hl, hc, _, h⟩ := h
  go_enter Tryd.func33, Tryd.ntmps33
  go_wp2_with (at_make; refine wpList_make_full _ rfl _ _ 22 rfl w.heap.size 5 i0 (.int .u8 0) 1 Tryd.underlying22 hi hz0 hz1 .i64 .i64 n n n rfl rfl rfl rfl (by rw [hz2]; omega) (by unfold maxLen; omega) (Nat.le_refl _) ?_; intro w1 hown hgrow)
  have hbel : Below w.heap.size w w1 := (Below.refl _ _).grown hgrow (Nat.le_refl _) (by intro k hk; cases hk)
  have hown0 : w1.ownsRow w.heap.size 5 1 (.slice (some ⟨w.heap.size, 0, none⟩) n n) n (U8 (xs.take 0 ++ List.replicate (n - 0) 0)) := by
    have e : (madeCells (Value.int IntKind.u8 0).cells (n * 1)).toList = U8 (xs.take 0 ++ List.replicate (n - 0) 0) := by
      rw [Nat.mul_one]; simpa [U8, Value.cells] using toList_madeCells_one (.int .u8 0) n
    rw [← e]; exact hown
  clear hown hgrow
  go_loopw [4] (fun i wr => ∃ k : Nat, k ≤ n ∧ i = .int .i64 k ∧ wr.ownsRow w.heap.size 5 1 (.slice (some ⟨w.heap.size, 0, none⟩) n n) n (U8 (xs.take k ++ List.replicate (n - k) 0)) ∧ Below w.heap.size w wr) (fun i _ => n - (intOf i).toNat)
  case atStart => exact ⟨0, Nat.zero_le _, rfl, hown0, hbel⟩
  case round =>
    obtain ⟨k, hk, rfl, hown, hb⟩ := hrel
    clear hown0 hbel
    by_cases hlt : k < n
    · rcases h with h | ⟨b, o, rfl, hbs, hcell⟩
      · omega
      · obtain ⟨x, hx⟩ : ∃ x, x = xs.getD k 0 := ⟨_, rfl⟩
        have hck : wr.cell? ⟨b, o + k, none⟩ = some (.int .u8 x) := by rw [hx]; exact (hb.cell (p := ⟨b, o + k, none⟩) hbs).trans (hcell k hlt)
        have hfz := hown.frozenAt k
        obtain ⟨u, hu⟩ : ∃ u, wr.cell? ⟨w.heap.size, k, none⟩ = some u := by
          rw [hown.cellAt k (by omega)]
          have : k < (U8 (xs.take k ++ List.replicate (n - k) 0)).length := by simp; omega
          exact ⟨_, List.getElem?_eq_getElem this⟩
        have hst := hown.stored k (.int .u8 x)
        rw [hx, set_take xs n k (by omega) hl, ← hx] at hst
        have hb2 := hb.setCell (p := ⟨w.heap.size, k, none⟩) (Nat.le_refl _) (.int .u8 x)
        have HS : Hid _ := hst
        have HB : Hid _ := hb2
        clear hst hb2 hown hcell hx
        go_wp2
        go_roundw
        case rel => exact ⟨k + 1, by omega, by go_num, HS.out.1, HB.out⟩
        case measure => simp [intOf]; omega
    · have hkn : k = n := by omega
      subst hkn
      go_wp2
      go_ret
      refine ⟨_, rfl, ?_, hb⟩
      simpa [List.take_of_length_le (show xs.length ≤ k by omega)] using hown

theorem toS (a : Option Addr) (n cap : Nat) (xs : List Int) (w : World) (h : Bs w a n cap xs) (hn : n ≤ 2097152) :
    Calls Tryd.prog 33 #[.slice a n cap] w fun e w' => ∃ a' cap', e = .returned (.slice a' n cap') ∧ w'.ownsRow w.heap.size 5 1 (.slice a' n cap') n (U8 xs) ∧ Bs w' a' n cap' xs ∧ Below w.heap.size w w' := by
  have hby := h.2.2.2.1
  refine (toB a n cap xs w h hn).mono ?_
  rintro e w' ⟨v, rfl, hown, hb⟩
  obtain ⟨a', cap', rfl, _, hbs⟩ := Bs.own hown hby
  exact ⟨a', cap', rfl, hown, hbs, hb⟩
end Go.Proofs.YtofflhhlacdgfaaDoor
namespace Go.Proofs.YtofflhhlacdgfaaDoor
open Go.RowKit

/-- The marks: k0, k0 + 1, .. as bytes. -/
def marks (k0 : Int) (n : Nat) : List Int := (List.range n).map (fun j : Nat => (k0 + (j : Int)) % 256)
theorem marks_len (k0 : Int) (n : Nat) : (marks k0 n).length = n := by simp [marks]
theorem marks_get (k0 : Int) (n k : Nat) (h : k < n) : (marks k0 n).getD k 0 = (k0 + (k : Int)) % 256 := by simp [marks, h]
theorem marks_byte (k0 : Int) (n : Nat) : ∀ x ∈ marks k0 n, 0 ≤ x ∧ x < 256 := by
  intro x hx; simp only [marks, List.mem_map] at hx; obtain ⟨j, _, rfl⟩ := hx; omega
theorem set_marks (xs : List Int) (k0 : Int) (n k : Nat) (h : k < n) (hn : xs.length = n) :
    (U8 (marks k0 k ++ xs.drop k)).set k (.int .u8 ((k0 + (k : Int)) % 256)) = U8 (marks k0 (k + 1) ++ xs.drop (k + 1)) := by
  have e : xs.drop k = xs.getD k 0 :: xs.drop (k + 1) := by
    rw [List.drop_eq_getElem_cons (by omega)]; simp [show k < xs.length by omega]
  have e2 : marks k0 (k + 1) = marks k0 k ++ [(k0 + (k : Int)) % 256] := by simp [marks, List.range_succ]
  rw [e, e2]
  simp only [U8, List.map_append, List.map_cons]
  rw [List.set_append_right _ _ (by simp [marks_len])]
  simp [marks_len]

set_option maxHeartbeats 400000 in
theorem markB (B n : Nat) (v : Value) (k0 : Int) (xs : List Int) (w : World) (hown : w.ownsRow B 5 1 v n (U8 xs)) (hn : n ≤ 2097152) (h0 : 0 ≤ k0) (h1 : k0 ≤ 4611686018427387904) :
    Calls Tryd.prog 36 #[v, .int .i64 k0] w fun e w' => e = .returned (.int .i64 (k0 + n)) ∧ w'.ownsRow B 5 1 v n (U8 (marks k0 n)) ∧ w.grownBy w' v.ownBlock := by
  obtain ⟨hl, hs⟩ := own_shape hown
  rcases hs with ⟨rfl, rfl⟩ | ⟨g, cap, rfl, hg, hgs, hnc, hcm, hc, hf⟩
  · go_enter Tryd.func36, Tryd.ntmps36
    go_wp2
    refine wp_loop_rounds 1 ?_
    rw [rounds_succ]
    go_wp2
    go_ret
    exact ⟨by simp, by simpa [marks] using World.ownsRow_nil w B 5 1, World.grownBy.refl _ _⟩
  · have hown0 : w.ownsRow B 5 1 (.slice (some ⟨g, 0, none⟩) n cap) n (U8 (marks k0 0 ++ xs.drop 0)) := by simpa [marks] using hown
    clear hown hc hf
    go_enter Tryd.func36, Tryd.ntmps36
    go_wp2
    go_loopw [1, 5] (fun m i wr => ∃ k : Nat, k ≤ n ∧ i = .int .i64 k ∧ m = .int .i64 (k0 + k) ∧ wr.ownsRow B 5 1 (.slice (some ⟨g, 0, none⟩) n cap) n (U8 (marks k0 k ++ xs.drop k)) ∧ w.grownBy wr (some g)) (fun _ i _ => n - (intOf i).toNat)
    case atStart => exact ⟨0, Nat.zero_le _, rfl, by simp, hown0, World.grownBy.refl _ _⟩
    case round =>
      obtain ⟨k, hk, rfl, rfl, hown, hb⟩ := hrel
      clear hown0
      by_cases hlt : k < n
      · have hfz := hown.frozenAt k
        obtain ⟨u, hu⟩ : ∃ u, wr.cell? ⟨g, k, none⟩ = some u := by
          rw [hown.cellAt k (by omega)]
          have : k < (U8 (marks k0 k ++ xs.drop k)).length := by simp [marks_len]; omega
          exact ⟨_, List.getElem?_eq_getElem this⟩
        have hst := hown.stored k (.int .u8 ((k0 + (k : Int)) % 256))
        rw [set_marks xs k0 n k hlt hl] at hst
        have HS : Hid _ := hst
        have HB : Hid _ := hb
        have hcv : IntKind.u8.wrap (k0 + (k : Int)) = (k0 + (k : Int)) % 256 := by simp [IntKind.wrap, IntKind.signed, IntKind.bits]
        clear hst hb hown
        go_wp2
        go_roundw
        case rel => exact ⟨k + 1, by omega, by go_num, by go_num, HS.out.1, grown_trans HB.out HS.out.2⟩
        case measure => simp [intOf]; omega
      · have hkn : k = n := by omega
        subst hkn
        go_wp2
        go_ret
        refine ⟨rfl, ?_, hb⟩
        simpa [List.drop_eq_nil_of_le (show xs.length ≤ k by omega)] using hown

set_option maxHeartbeats 400000 in
theorem heldB (a : Option Addr) (n cap : Nat) (k0 : Int) (w : World) (h : Bs w a n cap (marks k0 n)) (hn : n ≤ 2097152) (h0 : 0 ≤ k0) (h1 : k0 ≤ 4611686018427387904) :
    Calls Tryd.prog 97 #[.slice a n cap, .int .i64 k0] w fun e w' => e = .returned (.int .i64 (k0 + n)) ∧ w' = w := by
  obtain ⟨_, hl, hc, _, h⟩ := h
  go_enter Tryd.func97, Tryd.ntmps97
  go_wp2
  go_loop [1, 5] (fun m i => ∃ k : Nat, k ≤ n ∧ i = .int .i64 k ∧ m = .int .i64 (k0 + k)) (fun _ i => n - (intOf i).toNat)
  case atStart => exact ⟨0, Nat.zero_le _, rfl, by simp⟩
  case round =>
    obtain ⟨k, hk, rfl, rfl⟩ := hrel
    by_cases hlt : k < n
    · rcases h with h | ⟨b, o, rfl, hbs, hcell⟩
      · omega
      · have hck : w.cell? ⟨b, o + k, none⟩ = some (.int .u8 ((k0 + (k : Int)) % 256)) := by rw [← marks_get k0 n k hlt]; exact hcell k hlt
        have hcv : IntKind.u8.wrap (k0 + (k : Int)) = (k0 + (k : Int)) % 256 := by simp [IntKind.wrap, IntKind.signed, IntKind.bits]
        have hxx : (((k0 + (k : Int)) % 256) != ((k0 + (k : Int)) % 256)) = false := by simp
        clear hcell
        go_wp2
        go_round
        case rel => exact ⟨k + 1, by omega, by go_num, by go_num⟩
        case measure => simp [intOf]; omega
    · have hkn : k = n := by omega
      subst hkn
      go_wp2
      go_ret
      exact ⟨rfl, rfl⟩
end Go.Proofs.YtofflhhlacdgfaaDoor
namespace Go.Proofs.YtofflhhlacdgfaaDoor
open Go.RowKit

theorem set_takeI (xs : List Int) (n k : Nat) (h : k < xs.length) (hn : xs.length = n) :
    (I64 (xs.take k ++ List.replicate (n - k) 0)).set k (.int .i64 (xs.getD k 0)) = I64 (xs.take (k + 1) ++ List.replicate (n - (k + 1)) 0) := by
  have e : n - k = (n - (k + 1)) + 1 := by omega
  rw [take_snoc xs k h, e, List.replicate_succ]
  have hl : (xs.take k).length = k := by simp; omega
  simp only [I64, List.map_append, List.map_cons]
  rw [List.set_append_right _ _ (by simp; omega)]
  simp [Nat.min_eq_left (show k ≤ xs.length by omega)]

end Go.Proofs.YtofflhhlacdgfaaDoor
namespace Go.Proofs.YtofflhhlacdgfaaDoor
open Go.RowKit

set_option maxHeartbeats 1000000 in
theorem szB (a : Option Addr) (n c : Nat) (l : Int) (w : World) (h0 : 0 ≤ l) (h1 : l ≤ 1048576) (hn : n ≤ 9223372036854775807) :
    Calls Tryd.prog 98 #[.slice a n c, .int .i64 l] w fun e w' => e = .returned (.int .i64 (if l - (n : Int) < 0 then -1 else l - (n : Int))) ∧ w' = w := by
  have hw : wrap64 (l - (n : Int)) = l - (n : Int) := by unfold wrap64; omega
  by_cases hlt : l - (n : Int) < 0
  · rw [if_pos hlt]
    go_enter Tryd.func98, Tryd.ntmps98
    go_wp2
    go_ret
    exact ⟨rfl, rfl⟩
  · rw [if_neg hlt]
    go_enter Tryd.func98, Tryd.ntmps98
    go_wp2
    go_ret
    exact ⟨rfl, rfl⟩

end Go.Proofs.YtofflhhlacdgfaaDoor
namespace Go.Proofs.YtofflhhlacdgfaaDoor
open Go.RowKit
set_option maxRecDepth 100000
set_option maxHeartbeats 4000000
set_option linter.unusedVariables false

abbrev keyV (x0 x1 : Int) (x2 : Bool) (a : Option Addr) (n c : Nat) : Value := .agg #[.int .i64 x0, .int .i64 x1, .bool x2, .slice a n c]
abbrev key4 (x : KeyM) (a : Option Addr) (c : Nat) : L4 := ⟨.int .i64 x.i, .int .i64 x.r, .bool x.v, .slice a x.p.length c⟩
end Go.Proofs.YtofflhhlacdgfaaDoor
namespace Go.Proofs.YtofflhhlacdgfaaDoor
open Go.RowKit
set_option maxRecDepth 100000
set_option maxHeartbeats 4000000
set_option linter.unusedVariables false

/-- A row of its own from block lo on, whose inner rows lie behind it. -/
structure Kq (lo : Nat) (W : World) (a : Option Addr) (n c : Nat) (xs : List KeyM) : Prop where
  len : xs.length = n
  cap : n ≤ c
  row : ∃ g l, a = some ⟨g, 0, none⟩ ∧ lo ≤ g ∧ g < W.heap.size ∧ W.ownsRow lo 57 4 (.slice a n c) n (QL l) ∧ (∀ q, q < n → ∃ b d, lg l q = key4 (xs.getD q kz) b d ∧ W.ownsRow (g + 1) 5 1 (.slice b (xs.getD q kz).p.length d) (xs.getD q kz).p.length (U8 (xs.getD q kz).p)) ∧ ∀ q q', q < q' → q' < n → Apart (lg l q).d (lg l q').d
theorem Kq.below {lo : Nat} {W W' : World} {a : Option Addr} {n c : Nat} {xs : List KeyM} (h : Kq lo W a n c xs) (hb : Below W.heap.size W W') : Kq lo W' a n c xs := by
  obtain ⟨h0, h1, g, l, rfl, h2, h3, h4, h5, h6⟩ := h
  refine ⟨h0, h1, g, l, rfl, h2, Nat.lt_of_lt_of_le h3 hb.size, own_below h4 hb, fun q hq => ?_, h6⟩
  obtain ⟨b, d, e, o⟩ := h5 q hq
  exact ⟨b, d, e, own_below o hb⟩
theorem Kq.other {lo : Nat} {W : World} {a : Option Addr} {n c : Nat} {xs : List KeyM} (h : Kq lo W a n c xs) (p : Addr) (u : Value) (hp : p.block < lo) : Kq lo (W.setCell p u) a n c xs := by
  obtain ⟨h0, h1, g, l, rfl, h2, h3, h4, h5, h6⟩ := h
  refine ⟨h0, h1, g, l, rfl, h2, by simpa using h3, own_other h4 p u hp, fun q hq => ?_, h6⟩
  obtain ⟨b, d, e, o⟩ := h5 q hq
  exact ⟨b, d, e, own_other o p u (by omega)⟩
theorem Kq.base {lo lo' : Nat} {W : World} {a : Option Addr} {n c : Nat} {xs : List KeyM} (h : Kq lo W a n c xs) (hl : lo' ≤ lo) : Kq lo' W a n c xs := by
  obtain ⟨h0, h1, g, l, rfl, h2, h3, h4, h5, h6⟩ := h
  exact ⟨h0, h1, g, l, rfl, by omega, h3, own_base h4 hl, h5, h6⟩
abbrev KqBy (xs : List KeyM) : Prop := ∀ q, q < xs.length → ∀ x ∈ (xs.getD q kz).p, 0 ≤ x ∧ x < 256
theorem Kq.rd {lo : Nat} {W : World} {a : Option Addr} {n c : Nat} {xs : List KeyM} (h : Kq lo W a n c xs) (hy : KqBy xs) : Ks W a n c xs := by
  obtain ⟨h0, h1, g, l, rfl, h2, h3, h4, h5, _⟩ := h
  refine ⟨(fun h => by cases h), h0, h1, .inr ⟨g, 0, rfl, h3, fun i hi => ?_⟩⟩
  obtain ⟨b, d, e, o⟩ := h5 i hi
  obtain ⟨q0, q1, q2, q3⟩ := q4_at h4 i hi
  rw [e] at q0 q1 q2 q3
  rw [Nat.zero_add]
  exact ⟨b, d, q0, q1, q2, q3, bs_of_own o (hy i (by omega))⟩
theorem Ks.by_ {W : World} {a : Option Addr} {n c : Nat} {xs : List KeyM} (h : Ks W a n c xs) : KqBy xs := by
  obtain ⟨_, h1, _, h⟩ := h
  intro q hq
  rcases h with h | ⟨b, o, _, _, h⟩
  · omega
  · obtain ⟨_, _, P⟩ := h q (by omega)
    exact P.by_.2.2.2.1
theorem Ks.opened {W : World} {a : Option Addr} {n c : Nat} {xs : List KeyM} (h : Ks W a n c xs) (hn : 0 < n) : ∃ b o, a = some ⟨b, o, none⟩ ∧ b < W.heap.size ∧ ∀ i, i < n → ∃ ha hc, KeyAt W b (o + i * 4) (xs.getD i kz) ha hc := by
  rcases h.2.2.2 with h | h
  · omega
  · exact h
abbrev KqSm (n : Nat) (xs : List KeyM) : Prop := n ≤ 1048576 ∧ ∀ q, q < n → (xs.getD q kz).p.length ≤ 1048576
end Go.Proofs.YtofflhhlacdgfaaDoor
