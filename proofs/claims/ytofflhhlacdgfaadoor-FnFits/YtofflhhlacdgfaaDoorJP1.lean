/-
  What is proved here: plain facts on rows of bytes in memory (a row that a call owns stays as it is while newer memory is made or another row is written); no program is spoken of, no condition; plain facts on rows of ints in memory (a row that a call owns stays as it is while newer memory is made or another row is written); no program is spoken of, no condition; what the program's table says of bytes and of ints, and plain facts on memory; no condition; a law for the walk on 'append' where the first slice is a row of bytes that the call itself owns and the second is any slice of bytes; the two together hold at most 2^40 bytes; the bytes of eight words; no condition; the eight bytes of a length in bits; plain mathematics, no condition; the bytes that are padded behind a message; plain mathematics, no condition; the contract of a helper of the exact laws (hold two slices of ints against each other), for every slice of at most 2^21 ints; the contract of a helper of the exact laws (copy a slice of ints), for every slice of at most 2^21 ints; plain facts on a block of memory that holds just given cells (an array), and how it stays; no program is spoken of, no condition.
-/
import Derived.WalkKit
import Derived.Test.YtofflhhlacdgfaaDoorProg
import Derived.Deep.QuietTactic
import Derived.BigQuiet
import Derived.Laws.AppendOwnNone
import Derived.Laws.Rows
import Derived.Laws.ResultCell
namespace Go.Proofs.YtofflhhlacdgfaaDoor
open Go.RowKit

abbrev U8 (xs : List Int) : List Value := xs.map (Value.int .u8)

theorem own_below {w w' : World} {b e s n : Nat} {v : Value} {xs : List Value} (h : w.ownsRow b e s v n xs) (hb : Below w.heap.size w w') : w'.ownsRow b e s v n xs := by
  refine ⟨h.1, ?_⟩
  rcases h.2 with hn | ⟨g, cap, cur, rfl, hg, hgg, rest⟩
  · exact .inl hn
  · refine .inr ⟨g, cap, cur, rfl, hg, ?_, rest⟩
    rw [hb.block g (Array.getElem?_eq_some_iff.1 hgg).1]
    exact hgg

theorem own_base {w : World} {b b' e s n : Nat} {v : Value} {xs : List Value} (h : w.ownsRow b e s v n xs) (hb : b' ≤ b) : w.ownsRow b' e s v n xs := by
  refine ⟨h.1, ?_⟩
  rcases h.2 with hn | ⟨g, cap, cur, rfl, hg, rest⟩
  · exact .inl hn
  · exact .inr ⟨g, cap, cur, rfl, Nat.le_trans hb hg, rest⟩

/-- What a slice of bytes reads as. -/
def Bs (w : World) (a : Option Addr) (n cap : Nat) (xs : List Int) : Prop :=
  (a = none → cap = 0) ∧ xs.length = n ∧ n ≤ cap ∧ (∀ x ∈ xs, 0 ≤ x ∧ x < 256) ∧ (n = 0 ∨ ∃ b o, a = some ⟨b, o, none⟩ ∧ b < w.heap.size ∧ ∀ j, j < n → w.cell? ⟨b, o + j, none⟩ = some (.int .u8 (xs.getD j 0)))

theorem Bs.below {w w' : World} {a : Option Addr} {n cap : Nat} {xs : List Int} (h : Bs w a n cap xs) (hb : Below w.heap.size w w') : Bs w' a n cap xs := by
  obtain ⟨h0, h1, h2, h3, h4⟩ := h
  refine ⟨h0, h1, h2, h3, ?_⟩
  rcases h4 with h4 | ⟨b, o, ha, hlt, hc⟩
  · exact .inl h4
  · exact .inr ⟨b, o, ha, Nat.lt_of_lt_of_le hlt hb.size, fun j hj => (hb.cell (p := ⟨b, o + j, none⟩) hlt).trans (hc j hj)⟩

/-- A row that a call owns, opened. -/
theorem own_shape {w : World} {base n : Nat} {v : Value} {xs : List Int} (h : w.ownsRow base 5 1 v n (U8 xs)) :
    xs.length = n ∧ ((v = .slice none 0 0 ∧ n = 0) ∨ ∃ g cap, v = .slice (some ⟨g, 0, none⟩) n cap ∧ base ≤ g ∧ g < w.heap.size ∧ n ≤ cap ∧ cap ≤ maxLen ∧
      (∀ j, j < n → w.cell? ⟨g, j, none⟩ = some (.int .u8 (xs.getD j 0))) ∧ ∀ j, w.frozen? ⟨g, j, none⟩ = false) := by
  have hl : xs.length = n := by have := h.1; simpa using this
  refine ⟨hl, ?_⟩
  rcases h.2 with hn | ⟨g, cap, cur, rfl, hg, hgg, h1, h2, h3, h4⟩
  · exact .inl hn
  · refine .inr ⟨g, cap, rfl, hg, (Array.getElem?_eq_some_iff.1 hgg).1, h1, h2, fun j hj => ?_, fun j => h.frozenAt j⟩
    rw [h.cellAt j (by omega)]
    have hx : j < xs.length := by omega
    simp [hx]

theorem Bs.own {w : World} {base n : Nat} {v : Value} {xs : List Int} (h : w.ownsRow base 5 1 v n (U8 xs)) (hx : ∀ x ∈ xs, 0 ≤ x ∧ x < 256) :
    ∃ a cap, v = .slice a n cap ∧ cap ≤ maxLen ∧ Bs w a n cap xs := by
  obtain ⟨hl, h⟩ := own_shape h
  rcases h with ⟨rfl, rfl⟩ | ⟨g, cap, rfl, hg, hgs, h1, h2, hc, _⟩
  · exact ⟨none, 0, rfl, by unfold maxLen; omega, fun _ => rfl, hl, Nat.le_refl _, hx, .inl rfl⟩
  · exact ⟨_, cap, rfl, h2, (fun h => by cases h), hl, h1, hx, .inr ⟨g, 0, rfl, hgs, fun j hj => by simpa using hc j hj⟩⟩

theorem get_byte {xs : List Int} (h : ∀ x ∈ xs, 0 ≤ x ∧ x < 256) {i : Nat} (hi : i < xs.length) : 0 ≤ xs.getD i 0 ∧ xs.getD i 0 < 256 := by
  have e : xs.getD i 0 = xs[i] := by simp [hi]
  rw [e]; exact h _ (List.getElem_mem hi)

theorem byte_wf {n : Int} (h : (Lit.int .u8 n).wf = true) : 0 ≤ n ∧ n < 256 := by
  have h1 : IntKind.u8.min ≤ n ∧ n ≤ IntKind.u8.max := by simpa [Lit.wf] using h
  simp [IntKind.min, IntKind.max, IntKind.signed, IntKind.bits] at h1
  omega

theorem bs_of_arg {w : World} {x : Addr} {len cap : Nat} {zs : List Int} (hl : len ≤ cap) (hz : zs.length = cap) (hc : ∀ i, i < zs.length → w.cell? (x.add i) = some (.int .u8 (zs.getD i 0))) (hwf : ∀ n ∈ zs, (Lit.int .u8 n).wf = true) :
    Bs w (some x) len cap (zs.take len) := by
  refine ⟨(fun h => by cases h), by simp; omega, hl, fun n hn => byte_wf (hwf n (List.mem_of_mem_take hn)), ?_⟩
  by_cases h0 : len = 0
  · exact .inl h0
  · obtain ⟨b, off, spot⟩ := x
    have h1 := hc 0 (by omega)
    have hspot : spot = none := by simpa [Addr.add] using World.cell?_spot h1
    subst hspot
    refine .inr ⟨b, off, rfl, World.block_lt_of_cell? w _ h1, fun j hj => ?_⟩
    have h2 := hc j (by omega)
    rw [Addr.add_lit] at h2
    rw [h2]
    simp [hj]

theorem take_snoc (xs : List Int) (k : Nat) (h : k < xs.length) : xs.take (k + 1) = xs.take k ++ [xs.getD k 0] := by
  rw [List.take_succ_eq_append_getElem h]; simp [h]

end Go.Proofs.YtofflhhlacdgfaaDoor
namespace Go.Proofs.YtofflhhlacdgfaaDoor
open Go.RowKit

abbrev I64 (xs : List Int) : List Value := xs.map (Value.int .i64)





/-- What a slice of ints reads as. -/
def Is (w : World) (a : Option Addr) (n cap : Nat) (xs : List Int) : Prop :=
  (a = none → cap = 0) ∧ xs.length = n ∧ n ≤ cap ∧ (∀ x ∈ xs, -9223372036854775808 ≤ x ∧ x ≤ 9223372036854775807) ∧ (n = 0 ∨ ∃ b o, a = some ⟨b, o, none⟩ ∧ b < w.heap.size ∧ ∀ j, j < n → w.cell? ⟨b, o + j, none⟩ = some (.int .i64 (xs.getD j 0)))

theorem Is.below {w w' : World} {a : Option Addr} {n cap : Nat} {xs : List Int} (h : Is w a n cap xs) (hb : Below w.heap.size w w') : Is w' a n cap xs := by
  obtain ⟨h0, h1, h2, h3, h4⟩ := h
  refine ⟨h0, h1, h2, h3, ?_⟩
  rcases h4 with h4 | ⟨b, o, ha, hlt, hc⟩
  · exact .inl h4
  · exact .inr ⟨b, o, ha, Nat.lt_of_lt_of_le hlt hb.size, fun j hj => (hb.cell (p := ⟨b, o + j, none⟩) hlt).trans (hc j hj)⟩

/-- A row that a call owns, opened. -/
theorem own_shapeI {w : World} {base n e : Nat} {v : Value} {xs : List Int} (h : w.ownsRow base e 1 v n (I64 xs)) :
    xs.length = n ∧ ((v = .slice none 0 0 ∧ n = 0) ∨ ∃ g cap, v = .slice (some ⟨g, 0, none⟩) n cap ∧ base ≤ g ∧ g < w.heap.size ∧ n ≤ cap ∧ cap ≤ maxLen ∧
      (∀ j, j < n → w.cell? ⟨g, j, none⟩ = some (.int .i64 (xs.getD j 0))) ∧ ∀ j, w.frozen? ⟨g, j, none⟩ = false) := by
  have hl : xs.length = n := by have := h.1; simpa using this
  refine ⟨hl, ?_⟩
  rcases h.2 with hn | ⟨g, cap, cur, rfl, hg, hgg, h1, h2, h3, h4⟩
  · exact .inl hn
  · refine .inr ⟨g, cap, rfl, hg, (Array.getElem?_eq_some_iff.1 hgg).1, h1, h2, fun j hj => ?_, fun j => h.frozenAt j⟩
    rw [h.cellAt j (by omega)]
    have hx : j < xs.length := by omega
    simp [hx]

theorem Is.own {w : World} {base n e : Nat} {v : Value} {xs : List Int} (h : w.ownsRow base e 1 v n (I64 xs)) (hx : ∀ x ∈ xs, -9223372036854775808 ≤ x ∧ x ≤ 9223372036854775807) :
    ∃ a cap, v = .slice a n cap ∧ cap ≤ maxLen ∧ Is w a n cap xs := by
  obtain ⟨hl, h⟩ := own_shapeI h
  rcases h with ⟨rfl, rfl⟩ | ⟨g, cap, rfl, hg, hgs, h1, h2, hc, _⟩
  · exact ⟨none, 0, rfl, by unfold maxLen; omega, fun _ => rfl, hl, Nat.le_refl _, hx, .inl rfl⟩
  · exact ⟨_, cap, rfl, h2, (fun h => by cases h), hl, h1, hx, .inr ⟨g, 0, rfl, hgs, fun j hj => by simpa using hc j hj⟩⟩

theorem get_int {xs : List Int} (h : ∀ x ∈ xs, -9223372036854775808 ≤ x ∧ x ≤ 9223372036854775807) {i : Nat} (hi : i < xs.length) : -9223372036854775808 ≤ xs.getD i 0 ∧ xs.getD i 0 ≤ 9223372036854775807 := by
  have e : xs.getD i 0 = xs[i] := by simp [hi]
  rw [e]; exact h _ (List.getElem_mem hi)

theorem int_wf {n : Int} (h : (Lit.int .i64 n).wf = true) : -9223372036854775808 ≤ n ∧ n ≤ 9223372036854775807 := by
  have h1 : IntKind.i64.min ≤ n ∧ n ≤ IntKind.i64.max := by simpa [Lit.wf] using h
  simp [IntKind.min, IntKind.max, IntKind.signed, IntKind.bits] at h1
  omega

theorem is_of_arg {w : World} {x : Addr} {len cap : Nat} {zs : List Int} (hl : len ≤ cap) (hz : zs.length = cap) (hc : ∀ i, i < zs.length → w.cell? (x.add i) = some (.int .i64 (zs.getD i 0))) (hwf : ∀ n ∈ zs, (Lit.int .i64 n).wf = true) :
    Is w (some x) len cap (zs.take len) := by
  refine ⟨(fun h => by cases h), by simp; omega, hl, fun n hn => int_wf (hwf n (List.mem_of_mem_take hn)), ?_⟩
  by_cases h0 : len = 0
  · exact .inl h0
  · obtain ⟨b, off, spot⟩ := x
    have h1 := hc 0 (by omega)
    have hspot : spot = none := by simpa [Addr.add] using World.cell?_spot h1
    subst hspot
    refine .inr ⟨b, off, rfl, World.block_lt_of_cell? w _ h1, fun j hj => ?_⟩
    have h2 := hc j (by omega)
    rw [Addr.add_lit] at h2
    rw [h2]
    simp [hj]



end Go.Proofs.YtofflhhlacdgfaaDoor
namespace Go.Proofs.YtofflhhlacdgfaaDoor
open Go.RowKit

theorem Tryd.info5 : (Tryd.prog.info? 5).map (fun i => (i.zero, i.size, i.bytes)) = some (some (.int .u8 0), 1, 1) := by kernel_rfl
theorem Tryd.info3 : (Tryd.prog.info? 3).map (fun i => (i.zero, i.size, i.bytes)) = some (some (.int .i64 0), 1, 8) := by kernel_rfl
theorem bel_drewN (w : World) (q : Nat) : Below w.heap.size w (w.drewN q) := ⟨rfl, rfl, rfl, Nat.le_refl _, fun _ _ => rfl⟩
theorem grown_trans {a b c : World} {row : Option Nat} (h : a.grownBy b row) (k : b.grownBy c row) : a.grownBy c row :=
  ⟨k.os.trans h.os, k.tape.trans h.tape, k.output.trans h.output, Nat.le_trans h.size k.size, fun i hi hne => (k.block i (Nat.lt_of_lt_of_le hi h.size) hne).trans (h.block i hi hne)⟩
end Go.Proofs.YtofflhhlacdgfaaDoor
namespace Go.Proofs.YtofflhhlacdgfaaDoor
open Go.RowKit

theorem wpl_append_bs {w : World} {ops : Array Oper} {rest : List Oper} {o : Oper} {a : Act} {Q : Exit → Act → World → Prop} (hgd : o.guard = none) (s x : Operand)
    (ho : o.op = .call { callee := .builtin .append, args := #[s, x], argTypes := #[22, 22] })
    (base : Nat) (v : Value) (n : Nat) (xs : List Int) (hs : a.eval s = v) (ao : Option Addr) (m c : Nat) (ys : List Int) (hx : a.eval x = .slice ao m c)
    (hown : w.ownsRow base 5 1 v n (U8 xs)) (hb : Bs w ao m c ys) (hlen : n + m ≤ 1099511627776) (hbase : base ≤ w.heap.size)
    (h : ∀ v' w', w'.ownsRow base 5 1 v' (n + m) (U8 (xs ++ ys)) → w.grownBy w' v.ownBlock → (v' = .slice none 0 0 ↔ v = .slice none 0 0 ∧ m = 0) → wpList Tryd.prog ops Q rest (a.put o.dst v') w') :
    wpList Tryd.prog ops Q (o :: rest) a w := by
  obtain ⟨i0, hi, hz0, hz1, hz2⟩ := info_parts Tryd.info5
  obtain ⟨hcap, hl, hc, _, hb⟩ := hb
  cases ao with
  | none =>
    have hc0 := hcap rfl
    subst hc0
    have hm : m = 0 := by omega
    subst hm
    have hy : ys = [] := List.eq_nil_of_length_eq_zero hl
    subst hy
    exact wpList_append_own_none hgd s x 22 ho base 5 i0 1 Tryd.underlying22 hi v n (U8 xs) hs hown hx
      (h v w (by simpa using hown) (World.grownBy.refl _ _) (by simp))
  | some ad =>
    refine wpList_append_own w hgd s x 22 ho base 5 i0 (.int .u8 0) 1 1 Tryd.underlying22 hi hz0 hz1 hz2 rfl (by decide) v n (U8 xs) hs hown ad m c (U8 ys) hx (by simp [hl]) ?_ (ints_oneCell _ _)
      (by unfold maxLen; omega) (by omega) hbase ?_
    · rcases hb with hb | ⟨b, off, ha, _, hcell⟩
      · intro j u hj
        have hy : ys = [] := List.eq_nil_of_length_eq_zero (by omega)
        subst hy
        simp at hj
      · obtain rfl := Option.some.inj ha
        intro j u hj
        have hjl : j < m := by
          have := (List.getElem?_eq_some_iff.1 hj).1
          simpa [hl] using this
        rw [Addr.add_lit, hcell j hjl]
        have e : (U8 ys)[j]? = some (.int .u8 (ys.getD j 0)) := by simp [show j < ys.length by omega]
        rw [e] at hj
        exact hj
    · intro v' w' h1 h2 h3
      exact h v' w' (by simpa using h1) h2 h3

theorem below_app {B n : Nat} {w wr w' : World} {v : Value} {xs : List Value} {o : Obj} (hb : Below B w wr) (hB : B ≤ wr.heap.size) (hown : wr.ownsRow B 5 1 v n xs) (hg : (wr.alloc o).grownBy w' v.ownBlock) : Below B w w' :=
  (hb.alloc hB o).grown hg (by simp; omega) (fun k hk => (hown.lt k hk).1)

theorem below_app0 {B n : Nat} {w wr w' : World} {v : Value} {xs : List Value} (hb : Below B w wr) (hB : B ≤ wr.heap.size) (hown : wr.ownsRow B 5 1 v n xs) (hg : wr.grownBy w' v.ownBlock) : Below B w w' :=
  hb.grown hg hB (fun k hk => (hown.lt k hk).1)

/-- One new cell, as a slice of one byte. -/
theorem Bs.one (w : World) (x : Int) (h0 : 0 ≤ x) (h1 : x < 256) : Bs (w.alloc (.cells #[.int .u8 x] 5)) (some ⟨w.heap.size, 0, none⟩) 1 1 [x] := by
  refine ⟨(fun h => by cases h), rfl, Nat.le_refl _, ?_, .inr ⟨w.heap.size, 0, rfl, by simp, ?_⟩⟩
  · intro y hy; simp at hy; omega
  · intro j hj
    have : j = 0 := by omega
    subst this
    rw [World.cell?_alloc_at _ _ _ _ rfl]; rfl

end Go.Proofs.YtofflhhlacdgfaaDoor
namespace Go.Proofs.YtofflhhlacdgfaaDoor
open Go.RowKit

/-- The four bytes of a word, the greatest first. -/
def b4 (x : Int) : List Int := [x / 16777216 % 256, x / 65536 % 256, x / 256 % 256, x % 256]
def sumB (l : List Int) : List Int := l.flatMap b4
theorem sumB_len (l : List Int) : (sumB l).length = 4 * l.length := by
  induction l with
  | nil => rfl
  | cons x l ih => simp only [sumB, List.flatMap_cons, List.length_append, List.length_cons] at ih ⊢; rw [ih]; simp [b4]; omega
theorem b4_byte (x : Int) : ∀ y ∈ b4 x, 0 ≤ y ∧ y < 256 := by
  intro y hy
  simp only [b4, List.mem_cons, List.not_mem_nil, or_false] at hy
  rcases hy with rfl | rfl | rfl | rfl <;> omega
theorem sumB_byte (l : List Int) : ∀ y ∈ sumB l, 0 ≤ y ∧ y < 256 := by
  intro y hy
  obtain ⟨x, _, h⟩ := List.mem_flatMap.1 hy
  exact b4_byte x y h
theorem sumB_snoc {l : List Int} {k : Nat} {x : Int} (h : l.take (k + 1) = l.take k ++ [x]) : sumB (l.take (k + 1)) = sumB (l.take k) ++ b4 x := by
  rw [h]; simp [sumB]

/-- Four new cells, as a slice of bytes. -/
theorem Bs.four (w : World) (x y z t : Int) (h : ∀ u ∈ [x, y, z, t], 0 ≤ u ∧ u < 256) : Bs (w.alloc (.cells #[.int .u8 x, .int .u8 y, .int .u8 z, .int .u8 t] 5)) (some ⟨w.heap.size, 0, none⟩) 4 4 [x, y, z, t] := by
  refine ⟨(fun h => by cases h), rfl, Nat.le_refl _, h, .inr ⟨w.heap.size, 0, rfl, by simp, ?_⟩⟩
  intro j hj
  rw [World.cell?_alloc_at _ _ _ _ rfl]
  match j, hj with
  | 0, _ => rfl
  | 1, _ => rfl
  | 2, _ => rfl
  | 3, _ => rfl

end Go.Proofs.YtofflhhlacdgfaaDoor
namespace Go.Proofs.YtofflhhlacdgfaaDoor
open Go.RowKit

/-- The k-th byte of the length in bits, the greatest first. -/
def lenAt (N : Int) (k : Nat) : Int := 8 * N / 2 ^ (56 - 8 * k) % 256
def lenB (N : Int) (k : Nat) : List Int := (List.range k).map (lenAt N)
theorem lenB_succ (N : Int) (k : Nat) : lenB N (k + 1) = lenB N k ++ [lenAt N k] := by simp [lenB, List.range_succ]
theorem lenAt_byte (N : Int) (k : Nat) : 0 ≤ lenAt N k ∧ lenAt N k < 256 := by unfold lenAt; omega
end Go.Proofs.YtofflhhlacdgfaaDoor
namespace Go.Proofs.YtofflhhlacdgfaaDoor
open Go.RowKit

/-- How many zeros follow the mark. -/
def zn (N : Int) : Nat := (119 - (N % 64).toNat) % 64
def padB (N : Int) : List Int := 128 :: (List.replicate (zn N) 0 ++ lenB N 8)
theorem padB_len (N : Int) : (padB N).length = zn N + 9 := by simp [padB, lenB]
theorem padB_byte (N : Int) : ∀ x ∈ padB N, 0 ≤ x ∧ x < 256 := by
  intro x hx
  simp only [padB, lenB, List.mem_cons, List.mem_append, List.mem_replicate, List.mem_map] at hx
  rcases hx with rfl | ⟨_, rfl⟩ | ⟨k, _, rfl⟩
  · omega
  · omega
  · exact lenAt_byte N k
theorem zn_lt (N : Int) : zn N < 64 := Nat.mod_lt _ (by omega)

end Go.Proofs.YtofflhhlacdgfaaDoor
namespace Go.Proofs.YtofflhhlacdgfaaDoor
open Go.RowKit

theorem set_takeI (xs : List Int) (n k : Nat) (h : k < xs.length) (hn : xs.length = n) :
    (I64 (xs.take k ++ List.replicate (n - k) 0)).set k (.int .i64 (xs.getD k 0)) = I64 (xs.take (k + 1) ++ List.replicate (n - (k + 1)) 0) := by
  have e : n - k = (n - (k + 1)) + 1 := by omega
  rw [take_snoc xs k h, e, List.replicate_succ]
  have hl : (xs.take k).length = k := by simp; omega
  simp only [I64, List.map_append, List.map_cons]
  rw [List.set_append_right _ _ (by simp; omega)]
  simp [Nat.min_eq_left (show k ≤ xs.length by omega)]

end Go.Proofs.YtofflhhlacdgfaaDoor
namespace Go.Proofs.YtofflhhlacdgfaaDoor
open Go.RowKit

end Go.Proofs.YtofflhhlacdgfaaDoor
namespace Go.Proofs.YtofflhhlacdgfaaDoor
open Go.RowKit

abbrev U32 (xs : List Int) : List Value := xs.map (Value.int .u32)

/-- Block g holds just these cells; none is frozen. -/
def Arr (w : World) (g : Nat) (t : TypeId) (cs : List Value) : Prop := w.heap[g]? = some (.cells cs.toArray t (0, 0))

section
variable {w w' : World} {g : Nat} {t : TypeId} {cs : List Value}

theorem Arr.lt (h : Arr w g t cs) : g < w.heap.size := (Array.getElem?_eq_some_iff.1 h).1
theorem Arr.cell (h : Arr w g t cs) (j : Nat) : w.cell? ⟨g, j, none⟩ = cs[j]? := by
  rw [cell_of_row w g j _ t _ h]; simp
theorem Arr.u32 {xs : List Int} (h : Arr w g t (U32 xs)) (j : Nat) (hj : j < xs.length) : w.cell? ⟨g, j, none⟩ = some (.int .u32 (xs.getD j 0)) := by
  rw [h.cell j]; simp [hj]
theorem Arr.i64 {xs : List Int} (h : Arr w g t (I64 xs)) (j : Nat) (hj : j < xs.length) : w.cell? ⟨g, j, none⟩ = some (.int .i64 (xs.getD j 0)) := by
  rw [h.cell j]; simp [hj]
theorem Arr.frozen (h : Arr w g t cs) (j : Nat) : w.frozen? ⟨g, j, none⟩ = false := frozen_of_row w g j _ t h
theorem Arr.set (h : Arr w g t cs) (j : Nat) (v : Value) : Arr (w.setCell ⟨g, j, none⟩ v) g t (cs.set j v) := by
  have := heap_setCell_same w g j _ t v h
  unfold Arr
  rw [this]; simp
theorem Arr.other (h : Arr w g t cs) (p : Addr) (v : Value) (hne : g ≠ p.block) : Arr (w.setCell p v) g t cs := by
  unfold Arr
  rw [heap_setCell_other w p g v hne]; exact h
theorem Arr.row (h : Arr w g t cs) (ds : List Value) : Arr (w.setRow g ds.toArray) g t ds := setRow_heap w g _ _ t _ h
theorem Arr.rowOther (h : Arr w g t cs) (k : Nat) (ds : Array Value) (hne : g ≠ k) : Arr (w.setRow k ds) g t cs := (setRow_other w k g ds hne).trans h
theorem Arr.below {B : Nat} (h : Arr w g t cs) (hb : Below B w w') (hB : g < B) : Arr w' g t cs := by
  unfold Arr; rw [hb.block g hB]; exact h
theorem Arr.kept (h : Arr w g t cs) (hb : Below w.heap.size w w') : Arr w' g t cs := h.below hb h.lt
theorem Arr.new (w : World) (cs : List Value) (t : TypeId) : Arr (w.alloc (.cells cs.toArray t)) w.heap.size t cs := heap_alloc_new w _
theorem Arr.alloc (h : Arr w g t cs) (o : Obj) : Arr (w.alloc o) g t cs := (heap_alloc_old w o h.lt).trans h
theorem Arr.drew (h : Arr w g t cs) : Arr w.drew g t cs := h
theorem Arr.drewN (h : Arr w g t cs) (q : Nat) : Arr (w.drewN q) g t cs := h
end

theorem Arr.set8 {w : World} {g : Nat} {t : TypeId} {a0 a1 a2 a3 a4 a5 a6 a7 : Int} (h : Arr w g t (U32 [a0, a1, a2, a3, a4, a5, a6, a7])) (l0 l1 l2 l3 l4 l5 l6 l7 : Int) :
    Arr ((((((((w.setCell ⟨g, 0, none⟩ (.int .u32 l0)).setCell ⟨g, 1, none⟩ (.int .u32 l1)).setCell ⟨g, 2, none⟩ (.int .u32 l2)).setCell ⟨g, 3, none⟩ (.int .u32 l3)).setCell ⟨g, 4, none⟩ (.int .u32 l4)).setCell ⟨g, 5, none⟩ (.int .u32 l5)).setCell ⟨g, 6, none⟩ (.int .u32 l6)).setCell ⟨g, 7, none⟩ (.int .u32 l7))
      g t (U32 [l0, l1, l2, l3, l4, l5, l6, l7]) :=
  (((((((h.set 0 (.int .u32 l0)).set 1 (.int .u32 l1)).set 2 (.int .u32 l2)).set 3 (.int .u32 l3)).set 4 (.int .u32 l4)).set 5 (.int .u32 l5)).set 6 (.int .u32 l6)).set 7 (.int .u32 l7)

theorem set8_below {w0 w : World} {B g : Nat} (h : Below B w0 w) (hg : B ≤ g) (l0 l1 l2 l3 l4 l5 l6 l7 : Value) :
    Below B w0 ((((((((w.setCell ⟨g, 0, none⟩ l0).setCell ⟨g, 1, none⟩ l1).setCell ⟨g, 2, none⟩ l2).setCell ⟨g, 3, none⟩ l3).setCell ⟨g, 4, none⟩ l4).setCell ⟨g, 5, none⟩ l5).setCell ⟨g, 6, none⟩ l6).setCell ⟨g, 7, none⟩ l7) :=
  (((((((h.setCell hg l0).setCell hg l1).setCell hg l2).setCell hg l3).setCell hg l4).setCell hg l5).setCell hg l6).setCell hg l7

theorem setRow_below {B : Nat} {w w' : World} (hb : Below B w w') (g : Nat) (cs : Array Value) (hg : B ≤ g) : Below B w (w'.setRow g cs) :=
  ⟨hb.os, hb.tape, hb.output, by simpa using hb.size, fun i hi => (setRow_other w' g i cs (by omega)).trans (hb.block i hi)⟩

theorem bel_dN {B : Nat} {w w' : World} (hb : Below B w w') (q : Nat) : Below B w (w'.drewN q) := ⟨hb.os, hb.tape, hb.output, hb.size, hb.block⟩

theorem results_row_tmp {P : Program} {fn : Func} {p u : Tmp} {ty : TypeId} {w : World} {g : Nat} {t : TypeId} {cs : List Value} {d : TypeDesc} {v : Value} {tmps : Array Value} (h : fn.results = #[.cell p ty, .tmp u])
    (hp : tmps.getD p undef = .pointer (some ⟨g, 0, none⟩)) (hv : tmps.getD u undef = v) (hg : Arr w g t cs) (hu : P.underlying ty = some d) (hd : (match d with | .struct _ | .array _ _ => true | _ => false) = true) (hi : (P.info? ty).map (·.size) = some cs.length) :
    (results fn tmps).run P w = .ok (.tuple #[.agg cs.toArray, v]) w := by
  have hl := run_loadVar_row (P := P) w g t ty cs.toArray (0, 0) d hg hu hd (by simpa using hi)
  rw [results_cell_tmp h, hp, hv]
  simp [asAddr, Result.andThen, hl]

theorem list8 {l : List Int} (h : l.length = 8) : ∃ a b c d e f g i, l = [a, b, c, d, e, f, g, i] := by
  match l, h with
  | [a, b, c, d, e, f, g, i], _ => exact ⟨a, b, c, d, e, f, g, i, rfl⟩

theorem set_fill (xs : List Int) (n k : Nat) (x : Int) (h : k < xs.length) (hn : xs.length = n) (hx : x = xs.getD k 0) :
    (U32 (xs.take k ++ List.replicate (n - k) 0)).set k (.int .u32 x) = U32 (xs.take (k + 1) ++ List.replicate (n - (k + 1)) 0) := by
  subst hx
  have e : n - k = (n - (k + 1)) + 1 := by omega
  rw [take_snoc xs k h, e, List.replicate_succ]
  have hl : (xs.take k).length = k := by simp; omega
  simp only [U32, List.map_append, List.map_cons]
  rw [List.set_append_right _ _ (by simp; omega)]
  simp [Nat.min_eq_left (show k ≤ xs.length by omega)]

end Go.Proofs.YtofflhhlacdgfaaDoor
