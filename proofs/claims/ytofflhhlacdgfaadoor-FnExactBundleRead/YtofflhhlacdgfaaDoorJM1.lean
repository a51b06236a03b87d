/-
  What is proved here: plain facts on rows of bytes in memory (a row that a call owns stays as it is while newer memory is made or another row is written); no program is spoken of, no condition; plain facts on rows of ints in memory (a row that a call owns stays as it is while newer memory is made or another row is written); no program is spoken of, no condition; what the program's table says of bytes and of ints, and plain facts on memory; no condition; a law for the walk on 'append' where the first slice is a row of bytes that the call itself owns and the second is any slice of bytes; the two together hold at most 2^40 bytes; contracts of the specification's and of the program's Hex, for every slice of at most 2^20 bytes; contracts of the specification's l1nibble and of the program's digitValue, at every byte; contracts of the specification's and of the program's HexRead, for every slice of at most 2^20 bytes; bytes made of a string; what the specification's l8pub answers: some bytes.
-/
import Derived.WalkKit
import Derived.Test.YtofflhhlacdgfaaDoorProg
import Derived.Deep.QuietTactic
import Derived.BigQuiet
import Derived.Laws.AppendOwnNone
import Derived.Laws.BitsLemmas
import Derived.Deep.RegionHeld3
import Derived.Deep.AppendLies
import Derived.Laws.RangeString
import Derived.Lib.ConvBytes
namespace Go.Proofs.YtofflhhlacdgfaaDoor
open Go.RowKit

abbrev U8 (xs : List Int) : List Value := xs.map (Value.int .u8)

theorem own_below {w w' : World} {b e s n : Nat} {v : Value} {xs : List Value} (h : w.ownsRow b e s v n xs) (hb : Below w.heap.size w w') : w'.ownsRow b e s v n xs := by
  refine ⟨h.1, ?_⟩
  rcases h.2 with hn | ⟨g, cap, cur, rfl, hg, hgg, rest⟩
  · exact .inl hn
  · refine .inr ⟨g, cap, cur, rfl, hg, ?_, rest⟩
    rw [hb.block g (Array.getElem?_eq_some_iff.1 hgg).1]
    exact hgg

theorem own_base {w : World} {b b' e s n : Nat} {v : Value} {xs : List Value} (h : w.ownsRow b e s v n xs) (hb : b' ≤ b) : w.ownsRow b' e s v n xs := by
  refine ⟨h.1, ?_⟩
  rcases h.2 with hn | ⟨g, cap, cur, rfl, hg, rest⟩
  · exact .inl hn
  · exact .inr ⟨g, cap, cur, rfl, Nat.le_trans hb hg, rest⟩

/-- What a slice of bytes reads as. -/
def Bs (w : World) (a : Option Addr) (n cap : Nat) (xs : List Int) : Prop :=
  (a = none → cap = 0) ∧ xs.length = n ∧ n ≤ cap ∧ (∀ x ∈ xs, 0 ≤ x ∧ x < 256) ∧ (n = 0 ∨ ∃ b o, a = some ⟨b, o, none⟩ ∧ b < w.heap.size ∧ ∀ j, j < n → w.cell? ⟨b, o + j, none⟩ = some (.int .u8 (xs.getD j 0)))

theorem Bs.below {w w' : World} {a : Option Addr} {n cap : Nat} {xs : List Int} (h : Bs w a n cap xs) (hb : Below w.heap.size w w') : Bs w' a n cap xs := by
  obtain ⟨h0, h1, h2, h3, h4⟩ := h
  refine ⟨h0, h1, h2, h3, ?_⟩
  rcases h4 with h4 | ⟨b, o, ha, hlt, hc⟩
  · exact .inl h4
  · exact .inr ⟨b, o, ha, Nat.lt_of_lt_of_le hlt hb.size, fun j hj => (hb.cell (p := ⟨b, o + j, none⟩) hlt).trans (hc j hj)⟩

/-- A row that a call owns, opened. -/
theorem own_shape {w : World} {base n : Nat} {v : Value} {xs : List Int} (h : w.ownsRow base 5 1 v n (U8 xs)) :
    xs.length = n ∧ ((v = .slice none 0 0 ∧ n = 0) ∨ ∃ g cap, v = .slice (some ⟨g, 0, none⟩) n cap ∧ base ≤ g ∧ g < w.heap.size ∧ n ≤ cap ∧ cap ≤ maxLen ∧
      (∀ j, j < n → w.cell? ⟨g, j, none⟩ = some (.int .u8 (xs.getD j 0))) ∧ ∀ j, w.frozen? ⟨g, j, none⟩ = false) := by
  have hl : xs.length = n := by have := h.1; simpa using this
  refine ⟨hl, ?_⟩
  rcases h.2 with hn | ⟨g, cap, cur, rfl, hg, hgg, h1, h2, h3, h4⟩
  · exact .inl hn
  · refine .inr ⟨g, cap, rfl, hg, (Array.getElem?_eq_some_iff.1 hgg).1, h1, h2, fun j hj => ?_, fun j => h.frozenAt j⟩
    rw [h.cellAt j (by omega)]
    have hx : j < xs.length := by omega
    simp [hx]

theorem Bs.own {w : World} {base n : Nat} {v : Value} {xs : List Int} (h : w.ownsRow base 5 1 v n (U8 xs)) (hx : ∀ x ∈ xs, 0 ≤ x ∧ x < 256) :
    ∃ a cap, v = .slice a n cap ∧ cap ≤ maxLen ∧ Bs w a n cap xs := by
  obtain ⟨hl, h⟩ := own_shape h
  rcases h with ⟨rfl, rfl⟩ | ⟨g, cap, rfl, hg, hgs, h1, h2, hc, _⟩
  · exact ⟨none, 0, rfl, by unfold maxLen; omega, fun _ => rfl, hl, Nat.le_refl _, hx, .inl rfl⟩
  · exact ⟨_, cap, rfl, h2, (fun h => by cases h), hl, h1, hx, .inr ⟨g, 0, rfl, hgs, fun j hj => by simpa using hc j hj⟩⟩

theorem get_byte {xs : List Int} (h : ∀ x ∈ xs, 0 ≤ x ∧ x < 256) {i : Nat} (hi : i < xs.length) : 0 ≤ xs.getD i 0 ∧ xs.getD i 0 < 256 := by
  have e : xs.getD i 0 = xs[i] := by simp [hi]
  rw [e]; exact h _ (List.getElem_mem hi)

theorem byte_wf {n : Int} (h : (Lit.int .u8 n).wf = true) : 0 ≤ n ∧ n < 256 := by
  have h1 : IntKind.u8.min ≤ n ∧ n ≤ IntKind.u8.max := by simpa [Lit.wf] using h
  simp [IntKind.min, IntKind.max, IntKind.signed, IntKind.bits] at h1
  omega

theorem bs_of_arg {w : World} {x : Addr} {len cap : Nat} {zs : List Int} (hl : len ≤ cap) (hz : zs.length = cap) (hc : ∀ i, i < zs.length → w.cell? (x.add i) = some (.int .u8 (zs.getD i 0))) (hwf : ∀ n ∈ zs, (Lit.int .u8 n).wf = true) :
    Bs w (some x) len cap (zs.take len) := by
  refine ⟨(fun h => by cases h), by simp; omega, hl, fun n hn => byte_wf (hwf n (List.mem_of_mem_take hn)), ?_⟩
  by_cases h0 : len = 0
  · exact .inl h0
  · obtain ⟨b, off, spot⟩ := x
    have h1 := hc 0 (by omega)
    have hspot : spot = none := by simpa [Addr.add] using World.cell?_spot h1
    subst hspot
    refine .inr ⟨b, off, rfl, World.block_lt_of_cell? w _ h1, fun j hj => ?_⟩
    have h2 := hc j (by omega)
    rw [Addr.add_lit] at h2
    rw [h2]
    simp [hj]

theorem take_snoc (xs : List Int) (k : Nat) (h : k < xs.length) : xs.take (k + 1) = xs.take k ++ [xs.getD k 0] := by
  rw [List.take_succ_eq_append_getElem h]; simp [h]

end Go.Proofs.YtofflhhlacdgfaaDoor
namespace Go.Proofs.YtofflhhlacdgfaaDoor
open Go.RowKit

abbrev I64 (xs : List Int) : List Value := xs.map (Value.int .i64)





/-- What a slice of ints reads as. -/
def Is (w : World) (a : Option Addr) (n cap : Nat) (xs : List Int) : Prop :=
  (a = none → cap = 0) ∧ xs.length = n ∧ n ≤ cap ∧ (∀ x ∈ xs, -9223372036854775808 ≤ x ∧ x ≤ 9223372036854775807) ∧ (n = 0 ∨ ∃ b o, a = some ⟨b, o, none⟩ ∧ b < w.heap.size ∧ ∀ j, j < n → w.cell? ⟨b, o + j, none⟩ = some (.int .i64 (xs.getD j 0)))

theorem Is.below {w w' : World} {a : Option Addr} {n cap : Nat} {xs : List Int} (h : Is w a n cap xs) (hb : Below w.heap.size w w') : Is w' a n cap xs := by
  obtain ⟨h0, h1, h2, h3, h4⟩ := h
  refine ⟨h0, h1, h2, h3, ?_⟩
  rcases h4 with h4 | ⟨b, o, ha, hlt, hc⟩
  · exact .inl h4
  · exact .inr ⟨b, o, ha, Nat.lt_of_lt_of_le hlt hb.size, fun j hj => (hb.cell (p := ⟨b, o + j, none⟩) hlt).trans (hc j hj)⟩

/-- A row that a call owns, opened. -/
theorem own_shapeI {w : World} {base n e : Nat} {v : Value} {xs : List Int} (h : w.ownsRow base e 1 v n (I64 xs)) :
    xs.length = n ∧ ((v = .slice none 0 0 ∧ n = 0) ∨ ∃ g cap, v = .slice (some ⟨g, 0, none⟩) n cap ∧ base ≤ g ∧ g < w.heap.size ∧ n ≤ cap ∧ cap ≤ maxLen ∧
      (∀ j, j < n → w.cell? ⟨g, j, none⟩ = some (.int .i64 (xs.getD j 0))) ∧ ∀ j, w.frozen? ⟨g, j, none⟩ = false) := by
  have hl : xs.length = n := by have := h.1; simpa using this
  refine ⟨hl, ?_⟩
  rcases h.2 with hn | ⟨g, cap, cur, rfl, hg, hgg, h1, h2, h3, h4⟩
  · exact .inl hn
  · refine .inr ⟨g, cap, rfl, hg, (Array.getElem?_eq_some_iff.1 hgg).1, h1, h2, fun j hj => ?_, fun j => h.frozenAt j⟩
    rw [h.cellAt j (by omega)]
    have hx : j < xs.length := by omega
    simp [hx]

theorem Is.own {w : World} {base n e : Nat} {v : Value} {xs : List Int} (h : w.ownsRow base e 1 v n (I64 xs)) (hx : ∀ x ∈ xs, -9223372036854775808 ≤ x ∧ x ≤ 9223372036854775807) :
    ∃ a cap, v = .slice a n cap ∧ cap ≤ maxLen ∧ Is w a n cap xs := by
  obtain ⟨hl, h⟩ := own_shapeI h
  rcases h with ⟨rfl, rfl⟩ | ⟨g, cap, rfl, hg, hgs, h1, h2, hc, _⟩
  · exact ⟨none, 0, rfl, by unfold maxLen; omega, fun _ => rfl, hl, Nat.le_refl _, hx, .inl rfl⟩
  · exact ⟨_, cap, rfl, h2, (fun h => by cases h), hl, h1, hx, .inr ⟨g, 0, rfl, hgs, fun j hj => by simpa using hc j hj⟩⟩

theorem get_int {xs : List Int} (h : ∀ x ∈ xs, -9223372036854775808 ≤ x ∧ x ≤ 9223372036854775807) {i : Nat} (hi : i < xs.length) : -9223372036854775808 ≤ xs.getD i 0 ∧ xs.getD i 0 ≤ 9223372036854775807 := by
  have e : xs.getD i 0 = xs[i] := by simp [hi]
  rw [e]; exact h _ (List.getElem_mem hi)

theorem int_wf {n : Int} (h : (Lit.int .i64 n).wf = true) : -9223372036854775808 ≤ n ∧ n ≤ 9223372036854775807 := by
  have h1 : IntKind.i64.min ≤ n ∧ n ≤ IntKind.i64.max := by simpa [Lit.wf] using h
  simp [IntKind.min, IntKind.max, IntKind.signed, IntKind.bits] at h1
  omega

theorem is_of_arg {w : World} {x : Addr} {len cap : Nat} {zs : List Int} (hl : len ≤ cap) (hz : zs.length = cap) (hc : ∀ i, i < zs.length → w.cell? (x.add i) = some (.int .i64 (zs.getD i 0))) (hwf : ∀ n ∈ zs, (Lit.int .i64 n).wf = true) :
    Is w (some x) len cap (zs.take len) := by
  refine ⟨(fun h => by cases h), by simp; omega, hl, fun n hn => int_wf (hwf n (List.mem_of_mem_take hn)), ?_⟩
  by_cases h0 : len = 0
  · exact .inl h0
  · obtain ⟨b, off, spot⟩ := x
    have h1 := hc 0 (by omega)
    have hspot : spot = none := by simpa [Addr.add] using World.cell?_spot h1
    subst hspot
    refine .inr ⟨b, off, rfl, World.block_lt_of_cell? w _ h1, fun j hj => ?_⟩
    have h2 := hc j (by omega)
    rw [Addr.add_lit] at h2
    rw [h2]
    simp [hj]



end Go.Proofs.YtofflhhlacdgfaaDoor
namespace Go.Proofs.YtofflhhlacdgfaaDoor
open Go.RowKit

theorem Tryd.info5 : (Tryd.prog.info? 5).map (fun i => (i.zero, i.size, i.bytes)) = some (some (.int .u8 0), 1, 1) := by kernel_rfl
theorem Tryd.info3 : (Tryd.prog.info? 3).map (fun i => (i.zero, i.size, i.bytes)) = some (some (.int .i64 0), 1, 8) := by kernel_rfl
theorem bel_drewN (w : World) (q : Nat) : Below w.heap.size w (w.drewN q) := ⟨rfl, rfl, rfl, Nat.le_refl _, fun _ _ => rfl⟩
theorem grown_trans {a b c : World} {row : Option Nat} (h : a.grownBy b row) (k : b.grownBy c row) : a.grownBy c row :=
  ⟨k.os.trans h.os, k.tape.trans h.tape, k.output.trans h.output, Nat.le_trans h.size k.size, fun i hi hne => (k.block i (Nat.lt_of_lt_of_le hi h.size) hne).trans (h.block i hi hne)⟩
end Go.Proofs.YtofflhhlacdgfaaDoor
namespace Go.Proofs.YtofflhhlacdgfaaDoor
open Go.RowKit

theorem wpl_append_bs {w : World} {ops : Array Oper} {rest : List Oper} {o : Oper} {a : Act} {Q : Exit → Act → World → Prop} (hgd : o.guard = none) (s x : Operand)
    (ho : o.op = .call { callee := .builtin .append, args := #[s, x], argTypes := #[22, 22] })
    (base : Nat) (v : Value) (n : Nat) (xs : List Int) (hs : a.eval s = v) (ao : Option Addr) (m c : Nat) (ys : List Int) (hx : a.eval x = .slice ao m c)
    (hown : w.ownsRow base 5 1 v n (U8 xs)) (hb : Bs w ao m c ys) (hlen : n + m ≤ 1099511627776) (hbase : base ≤ w.heap.size)
    (h : ∀ v' w', w'.ownsRow base 5 1 v' (n + m) (U8 (xs ++ ys)) → w.grownBy w' v.ownBlock → (v' = .slice none 0 0 ↔ v = .slice none 0 0 ∧ m = 0) → wpList Tryd.prog ops Q rest (a.put o.dst v') w') :
    wpList Tryd.prog ops Q (o :: rest) a w := by
  obtain ⟨i0, hi, hz0, hz1, hz2⟩ := info_parts Tryd.info5
  obtain ⟨hcap, hl, hc, _, hb⟩ := hb
  cases ao with
  | none =>
    have hc0 := hcap rfl
    subst hc0
    have hm : m = 0 := by omega
    subst hm
    have hy : ys = [] := List.eq_nil_of_length_eq_zero hl
    subst hy
    exact wpList_append_own_none hgd s x 22 ho base 5 i0 1 Tryd.underlying22 hi v n (U8 xs) hs hown hx
      (h v w (by simpa using hown) (World.grownBy.refl _ _) (by simp))
  | some ad =>
    refine wpList_append_own w hgd s x 22 ho base 5 i0 (.int .u8 0) 1 1 Tryd.underlying22 hi hz0 hz1 hz2 rfl (by decide) v n (U8 xs) hs hown ad m c (U8 ys) hx (by simp [hl]) ?_ (ints_oneCell _ _)
      (by unfold maxLen; omega) (by omega) hbase ?_
    · rcases hb with hb | ⟨b, off, ha, _, hcell⟩
      · intro j u hj
        have hy : ys = [] := List.eq_nil_of_length_eq_zero (by omega)
        subst hy
        simp at hj
      · obtain rfl := Option.some.inj ha
        intro j u hj
        have hjl : j < m := by
          have := (List.getElem?_eq_some_iff.1 hj).1
          simpa [hl] using this
        rw [Addr.add_lit, hcell j hjl]
        have e : (U8 ys)[j]? = some (.int .u8 (ys.getD j 0)) := by simp [show j < ys.length by omega]
        rw [e] at hj
        exact hj
    · intro v' w' h1 h2 h3
      exact h v' w' (by simpa using h1) h2 h3

theorem below_app {B n : Nat} {w wr w' : World} {v : Value} {xs : List Value} {o : Obj} (hb : Below B w wr) (hB : B ≤ wr.heap.size) (hown : wr.ownsRow B 5 1 v n xs) (hg : (wr.alloc o).grownBy w' v.ownBlock) : Below B w w' :=
  (hb.alloc hB o).grown hg (by simp; omega) (fun k hk => (hown.lt k hk).1)

theorem below_app0 {B n : Nat} {w wr w' : World} {v : Value} {xs : List Value} (hb : Below B w wr) (hB : B ≤ wr.heap.size) (hown : wr.ownsRow B 5 1 v n xs) (hg : wr.grownBy w' v.ownBlock) : Below B w w' :=
  hb.grown hg hB (fun k hk => (hown.lt k hk).1)

/-- One new cell, as a slice of one byte. -/
theorem Bs.one (w : World) (x : Int) (h0 : 0 ≤ x) (h1 : x < 256) : Bs (w.alloc (.cells #[.int .u8 x] 5)) (some ⟨w.heap.size, 0, none⟩) 1 1 [x] := by
  refine ⟨(fun h => by cases h), rfl, Nat.le_refl _, ?_, .inr ⟨w.heap.size, 0, rfl, by simp, ?_⟩⟩
  · intro y hy; simp at hy; omega
  · intro j hj
    have : j = 0 := by omega
    subst this
    rw [World.cell?_alloc_at _ _ _ _ rfl]; rfl

end Go.Proofs.YtofflhhlacdgfaaDoor
namespace Go.Proofs.YtofflhhlacdgfaaDoor
open Go.RowKit
set_option maxRecDepth 100000

/-- A digit's byte. -/
def hexd (k : Int) : Int := if k < 10 then 48 + k else 87 + k
def hexL (xs : List Int) : List Int := xs.flatMap (fun x => [hexd (x / 16), hexd (x % 16)])
/-- The digits, where there are not too many. -/
def hexOf (xs : List Int) : List Int := if 4096 < xs.length then [] else hexL xs

theorem hexL_len (xs : List Int) : (hexL xs).length = 2 * xs.length := by
  induction xs with
  | nil => rfl
  | cons x xs ih => simp only [hexL, List.flatMap_cons, List.length_append, List.length_cons, List.length_nil] at ih ⊢; omega
theorem hexL_snoc (xs : List Int) (k : Nat) (h : k < xs.length) : hexL (xs.take (k + 1)) = hexL (xs.take k) ++ [hexd (xs.getD k 0 / 16), hexd (xs.getD k 0 % 16)] := by
  rw [take_snoc xs k h]; simp [hexL]
theorem hexd_byte (k : Int) (h0 : 0 ≤ k) (h1 : k < 16) : 0 ≤ hexd k ∧ hexd k < 256 := by unfold hexd; split <;> omega
theorem hexL_byte (xs : List Int) (h : ∀ x ∈ xs, 0 ≤ x ∧ x < 256) : ∀ y ∈ hexL xs, 0 ≤ y ∧ y < 256 := by
  intro y hy
  simp only [hexL, List.mem_flatMap, List.mem_cons, List.not_mem_nil, or_false] at hy
  obtain ⟨x, hx, hy⟩ := hy
  have := h x hx
  rcases hy with rfl | rfl
  · exact hexd_byte _ (by omega) (by omega)
  · exact hexd_byte _ (by omega) (by omega)

theorem index_hex (w : World) (k : Int) (h0 : 0 ≤ k) (h1 : k < 16) :
    (Instr.index 9 (.string ⟨#[48, 49, 50, 51, 52, 53, 54, 55, 56, 57, 97, 98, 99, 100, 101, 102]⟩) (.int .u8 k)).run Tryd.prog w = .ok (.int .u8 (hexd k)) w := by
  have hk : k = 0 ∨ k = 1 ∨ k = 2 ∨ k = 3 ∨ k = 4 ∨ k = 5 ∨ k = 6 ∨ k = 7 ∨ k = 8 ∨ k = 9 ∨ k = 10 ∨ k = 11 ∨ k = 12 ∨ k = 13 ∨ k = 14 ∨ k = 15 := by omega
  rcases hk with rfl | rfl | rfl | rfl | rfl | rfl | rfl | rfl | rfl | rfl | rfl | rfl | rfl | rfl | rfl | rfl
  all_goals (show _ = _; kernel_rfl)

set_option maxHeartbeats 1000000 in
theorem implHex (a : Option Addr) (n c : Nat) (xs : List Int) (w : World) (h : Bs w a n c xs) (hn : n ≤ 1048576) :
    Calls Tryd.prog 75 #[.slice a n c] w fun e w' => ∃ v, e = .returned v ∧ w'.ownsRow w.heap.size 5 1 v (hexOf xs).length (U8 (hexOf xs)) ∧ Below w.heap.size w w' := by
  obtain ⟨i0, hi, hz0, hz1, hz2⟩ := info_parts Tryd.info5
  obtain ⟨_, hl, hc, hby, h⟩ := h
  by_cases hbig : (4096 : Int) < (n : Int)
  · have e : hexOf xs = [] := by unfold hexOf; rw [if_pos (by omega)]
    rw [e]
    go_enter Tryd.func75, Tryd.ntmps75
    go_wp2
    go_ret
    exact ⟨_, rfl, World.ownsRow_nil _ _ _ _, Below.refl _ _⟩
  have e : hexOf xs = hexL xs := by unfold hexOf; rw [if_neg (by omega)]
  rw [e, hexL_len, hl]
  clear e
  go_enter Tryd.func75, Tryd.ntmps75
  go_wp2_with (at_make; refine wpList_make_own _ rfl _ _ 22 rfl w.heap.size 5 i0 (.int .u8 0) 1 Tryd.underlying22 hi hz0 hz1 .i64 .i64 (2 * (n : Int)) (2 * n) rfl rfl (by omega) (by rw [hz2]; omega) (by unfold maxLen; omega) (Nat.le_refl _) ?_; intro w1 hown1 hgrow1)
  have hbel1 : Below w.heap.size w w1 := (Below.refl _ _).grown hgrow1 (Nat.le_refl _) (by intro k hk; cases hk)
  clear hgrow1
  go_loopw [3, 15] (fun v i wr => ∃ k : Nat, k ≤ n ∧ i = .int .i64 k ∧ wr.ownsRow w.heap.size 5 1 v (2 * k) (U8 (hexL (xs.take k))) ∧ Below w.heap.size w wr) (fun _ i _ => n - (intOf i).toNat)
  case atStart => exact ⟨0, Nat.zero_le _, rfl, by simpa [hexL] using hown1, hbel1⟩
  case round =>
    obtain ⟨k, hk, rfl, hown, hb⟩ := hrel
    clear hown1 hbel1
    by_cases hlt : k < n
    · rcases h with h | ⟨b, o, rfl, hbs, hcell⟩
      · omega
      obtain ⟨x, hx⟩ : ∃ x, x = xs.getD k 0 := ⟨_, rfl⟩
      have hck : wr.cell? ⟨b, o + k, none⟩ = some (.int .u8 x) := by rw [hx]; exact (hb.cell (p := ⟨b, o + k, none⟩) hbs).trans (hcell k hlt)
      have hxb : 0 ≤ x ∧ x < 256 := by rw [hx]; exact get_byte hby (by omega)
      obtain ⟨hx0, hx1⟩ := hxb
      have HX : Hid (x = xs.getD k 0) := hx
      have hnx := hexL_snoc xs k (by omega)
      rw [← hx] at hnx
      have HN : Hid _ := hnx
      clear hcell hx hby hnx
      have hand : bits BinOp.and IntKind.u8 x 15 = x % 16 := u8_and15 x hx0 hx1
      have ix1 := fun w => index_hex w (x / 16) (by omega) (by omega)
      have ix2 := fun w => index_hex w (x % 16) (by omega) (by omega)
      have hsz := hb.size
      go_wp2
      go_region_held3 (fun _ => True) (trivial)
        ((refine step_append_lies _ (by rfl) _ _ _ (by rfl) w.heap.size 5 i0 _ 1 1 Tryd.underlying22 hi hz0 hz1 hz2 rfl (by omega) u3 (2 * k) (U8 (hexL (xs.take k))) (by rfl) ((hown.alloc _).drew)
            ⟨wr.heap.size, 0, none⟩ 2 2 (U8 [hexd (x / 16), hexd (x % 16)]) (by rfl) (by rfl) (World.news_of_block (cs := #[.int .u8 (hexd (x / 16)), .int .u8 (hexd (x % 16))]) (t := 5) (fr := (0, 0)) (heap_alloc_new wr _)) (by simp [Value.oneCell'])
            (by omega) (by unfold maxLen; omega) (by omega) (by simp; omega) (wr.heap.size + 1) (by simp) ?_; intro gg cap w1 hown1 hgrow hat hlt))
      all_goals
        have hb2 : Below w.heap.size w w1 := ((hb.alloc (by omega) _).drew).grown hgrow (by simp; omega) (fun j hj => (hown.lt j hj).1)
        have HR : Hid (w1.ownsRow w.heap.size 5 1 (.slice (some ⟨gg, 0, none⟩) (2 * k + 2) cap) (2 * (k + 1)) (U8 (hexL (xs.take (k + 1))))) := by
          unfold Hid
          rw [HN.out]
          have e2 : 2 * (k + 1) = 2 * k + 2 := by omega
          rw [e2]
          simpa using hown1
        clear hown1 hgrow hown hb hat hlt ix1 ix2 hand
        go_wp2
        exact ⟨⟨k + 1, by omega, by go_num, HR.out, hb2⟩, by simp [intOf]; omega⟩
    · have hkn : k = n := by omega
      subst hkn
      go_wp2
      go_ret
      refine ⟨_, rfl, ?_, hb⟩
      simpa [List.take_of_length_le (show xs.length ≤ k by omega)] using hown

end Go.Proofs.YtofflhhlacdgfaaDoor
namespace Go.Proofs.YtofflhhlacdgfaaDoor
open Go.RowKit
set_option maxRecDepth 100000

/-- A digit's value; -1 where it is none. -/
def nib (c : Int) : Int := if 48 ≤ c ∧ c ≤ 57 then c - 48 else if 97 ≤ c ∧ c ≤ 102 then c - 87 else -1

theorem nib_hexd (k : Int) (h0 : 0 ≤ k) (h1 : k < 16) : nib (hexd k) = k := by unfold nib hexd; split <;> split <;> (try split) <;> omega
theorem nib_none (c : Int) (h : ∀ j : Nat, j < 16 → hexd (j : Int) ≠ c) : nib c = -1 := by
  have h' : ∀ k : Int, 0 ≤ k → k < 16 → hexd k ≠ c := fun k h0 h1 => by
    obtain ⟨j, rfl⟩ := Int.eq_ofNat_of_zero_le h0
    exact h j (by omega)
  unfold nib
  split
  · exact absurd (show hexd (c - 48) = c by unfold hexd; split <;> omega) (h' _ (by omega) (by omega))
  · split
    · exact absurd (show hexd (c - 87) = c by unfold hexd; split <;> omega) (h' _ (by omega) (by omega))
    · rfl
theorem nib_lt (c : Int) : nib c < 16 ∧ -1 ≤ nib c := by 
  unfold nib
  repeat' split
  all_goals omega

theorem ret_int {k : IntKind} {a b : Int} (h : a = b) : Ending.returned (.int k a) = .returned (.int k b) := by rw [h]

abbrev HD : ByteArray := ⟨#[48, 49, 50, 51, 52, 53, 54, 55, 56, 57, 97, 98, 99, 100, 101, 102]⟩

theorem next_hex (w : World) (p : Nat) (ty : TypeId) (h : p < 16) :
    (Instr.next (.pointer (some ⟨w.heap.size, 0, none⟩)) true ty).run Tryd.prog (w.iter HD p) = .ok (.tuple #[.bool true, .int .i64 p, .int .i32 (hexd p)]) (w.iter HD (p + 1)) := by
  have hs : p < HD.size := h
  have key : ∀ q : Fin 16, (HD[q.val]'q.isLt).toNat < 128 ∧ ((HD[q.val]'q.isLt).toNat : Int) = hexd (q.val : Int) := by decide
  have hv : (HD[p]'hs).toNat < 128 ∧ ((HD[p]'hs).toNat : Int) = hexd p := key ⟨p, h⟩
  rw [run_next_ascii w HD p ty hs hv.1, hv.2]

theorem next_done (w : World) (ty : TypeId) :
    (Instr.next (.pointer (some ⟨w.heap.size, 0, none⟩)) true ty).run Tryd.prog (w.iter HD 16) = .ok (.tuple #[.bool false]) (w.iter HD 16) := run_next_end w HD 16 ty (by decide)

theorem bel_iter (w : World) (p : Nat) : Below w.heap.size w (w.iter HD p) := (Below.refl _ _).alloc (Nat.le_refl _) _

set_option maxHeartbeats 1000000 in
theorem nibVal (c : Int) (w : World) (h0 : 0 ≤ c) (h1 : c < 256) : Calls Tryd.prog 155 #[.int .u8 c] w fun e w' => e = .returned (.int .i64 (nib c)) ∧ w' = w := by
  by_cases c1 : 48 ≤ c
  · by_cases c2 : c ≤ 57
    · have HV : Hid (nib c = c - 48) := by unfold Hid nib; rw [if_pos ⟨c1, c2⟩]
      go_enter Tryd.func155, Tryd.ntmps155
      go_wp2
      go_ret
      exact ⟨ret_int HV.out.symm, rfl⟩
    · by_cases c3 : 97 ≤ c
      · by_cases c4 : c ≤ 102
        · have HV : Hid (nib c = c - 97 + 10) := by unfold Hid nib; rw [if_neg (by omega), if_pos ⟨c3, c4⟩]; omega
          go_enter Tryd.func155, Tryd.ntmps155
          go_wp2
          go_ret
          exact ⟨ret_int HV.out.symm, rfl⟩
        · have HV : Hid (nib c = -1) := by unfold Hid nib; rw [if_neg (by omega), if_neg (by omega)]
          go_enter Tryd.func155, Tryd.ntmps155
          go_wp2
          go_ret
          exact ⟨ret_int HV.out.symm, rfl⟩
      · have HV : Hid (nib c = -1) := by unfold Hid nib; rw [if_neg (by omega), if_neg (by omega)]
        go_enter Tryd.func155, Tryd.ntmps155
        go_wp2
        go_ret
        exact ⟨ret_int HV.out.symm, rfl⟩
  · have c3 : ¬ 97 ≤ c := by omega
    have HV : Hid (nib c = -1) := by unfold Hid nib; rw [if_neg (by omega), if_neg (by omega)]
    go_enter Tryd.func155, Tryd.ntmps155
    go_wp2
    go_ret
    exact ⟨ret_int HV.out.symm, rfl⟩
end Go.Proofs.YtofflhhlacdgfaaDoor
namespace Go.Proofs.YtofflhhlacdgfaaDoor
open Go.RowKit
set_option maxRecDepth 100000

def pairV (xs : List Int) (k : Nat) : Int := 16 * nib (xs.getD (2 * k) 0) + nib (xs.getD (2 * k + 1) 0)
def decL (xs : List Int) (k : Nat) : List Int := (List.range k).map (pairV xs)
abbrev goodAt (xs : List Int) (j : Nat) : Prop := 0 ≤ nib (xs.getD (2 * j) 0) ∧ 0 ≤ nib (xs.getD (2 * j + 1) 0)
abbrev allOk (xs : List Int) (k : Nat) : Prop := ∀ j, j < k → goodAt xs j
def hexRd (xs : List Int) : List Int × Bool :=
  if xs.length % 2 = 0 ∧ xs.length ≤ 8192 ∧ allOk xs (xs.length / 2) then (decL xs (xs.length / 2), true) else ([], false)

theorem decL_len (xs : List Int) (k : Nat) : (decL xs k).length = k := by simp [decL]
theorem decL_succ (xs : List Int) (k : Nat) : decL xs (k + 1) = decL xs k ++ [pairV xs k] := by simp [decL, List.range_succ]
theorem pairV_byte (xs : List Int) (k : Nat) (h : goodAt xs k) : 0 ≤ pairV xs k ∧ pairV xs k < 256 := by
  unfold pairV
  have h1 := nib_lt (xs.getD (2 * k) 0)
  have h2 := nib_lt (xs.getD (2 * k + 1) 0)
  obtain ⟨h3, h4⟩ := h
  omega
theorem hexRd_no (xs : List Int) (h : ¬ (xs.length % 2 = 0 ∧ xs.length ≤ 8192 ∧ allOk xs (xs.length / 2))) : hexRd xs = ([], false) := by unfold hexRd; rw [if_neg h]
theorem hexRd_yes (xs : List Int) (h : xs.length % 2 = 0 ∧ xs.length ≤ 8192 ∧ allOk xs (xs.length / 2)) : hexRd xs = (decL xs (xs.length / 2), true) := by unfold hexRd; rw [if_pos h]
theorem hexRd_len (xs : List Int) : (hexRd xs).1.length ≤ 4096 := by
  unfold hexRd
  split
  · rw [decL_len]; omega
  · simp
theorem hexRd_byte (xs : List Int) : ∀ x ∈ (hexRd xs).1, 0 ≤ x ∧ x < 256 := by
  unfold hexRd
  split
  · rename_i h
    intro x hx
    simp only [decL, List.mem_map, List.mem_range] at hx
    obtain ⟨j, hj, rfl⟩ := hx
    exact pairV_byte xs j (h.2.2 j hj)
  · simp

theorem tup_bool {v : Value} {a b : Bool} (h : a = b) : Ending.returned (.tuple #[v, .bool a]) = .returned (.tuple #[v, .bool b]) := by rw [h]

theorem wraps64 (n : Int) (h₀ : 0 ≤ n) (h₁ : n < 2 ^ 62) : IntKind.i64.wrap n = n := by rw [IntKind.wrap_i64]; omega

structure Carry (w W : World) (b o1 o2 : Nat) (x y : Int) (v : Value) (k : Nat) (l : List Int) : Prop where
  fr : Below w.heap.size w W
  lt : b < W.heap.size
  own : W.ownsRow w.heap.size 5 1 v k (U8 l)
  c1 : W.cell? ⟨b, o1, none⟩ = some (.int .u8 x)
  c2 : W.cell? ⟨b, o2, none⟩ = some (.int .u8 y)

theorem Carry.go {w W W' : World} {b o1 o2 : Nat} {x y : Int} {v : Value} {k : Nat} {l : List Int} (h : Carry w W b o1 o2 x y v k l) (hb : Below W.heap.size W W') : Carry w W' b o1 o2 x y v k l :=
  ⟨h.fr.trans (hb.mono h.fr.size), Nat.lt_of_lt_of_le h.lt hb.size, own_below h.own hb, (hb.cell (p := ⟨b, o1, none⟩) h.lt).trans h.c1, (hb.cell (p := ⟨b, o2, none⟩) h.lt).trans h.c2⟩

theorem Carry.drew {w W : World} {b o1 o2 : Nat} {x y : Int} {v : Value} {k : Nat} {l : List Int} (h : Carry w W b o1 o2 x y v k l) : Carry w W.drew b o1 o2 x y v k l :=
  h.go ⟨rfl, rfl, rfl, Nat.le_refl _, fun _ _ => rfl⟩

set_option maxHeartbeats 2000000 in
theorem specHexR (a : Option Addr) (n c : Nat) (xs : List Int) (w : World) (h : Bs w a n c xs) (hn : n ≤ 1048576) :
    Calls Tryd.prog 144 #[.slice a n c] w fun e w' => ∃ v, e = .returned (.tuple #[v, .bool (hexRd xs).2]) ∧ w'.ownsRow w.heap.size 5 1 v (hexRd xs).1.length (U8 (hexRd xs).1) ∧ Below w.heap.size w w' := by
  obtain ⟨_, hl, hc, hby, h⟩ := h
  by_cases hodd : (n : Int) % 2 = 0
  rotate_left
  · rw [hexRd_no xs (by omega)]
    have hne : ((n : Int) % 2 != 0) = true := by simp [hodd]
    clear hodd
    go_enter Tryd.func144, Tryd.ntmps144
    go_wp2
    go_ret2
    exact ⟨_, rfl, World.ownsRow_nil _ _ _ _, Below.refl _ _⟩
  have hne : ((n : Int) % 2 != 0) = false := by simp [hodd]
  have HO : Hid ((n : Int) % 2 = 0) := hodd
  clear hodd
  by_cases hbig : (8192 : Int) < (n : Int)
  · rw [hexRd_no xs (by omega)]
    go_enter Tryd.func144, Tryd.ntmps144
    go_wp2
    go_ret2
    exact ⟨_, rfl, World.ownsRow_nil _ _ _ _, Below.refl _ _⟩
  go_enter Tryd.func144, Tryd.ntmps144
  go_wp2
  go_loopw [4, 5] (fun v i wr => ∃ k : Nat, 2 * k ≤ n ∧ i = .int .i64 (2 * (k : Int)) ∧ Hid (allOk xs k) ∧ wr.ownsRow w.heap.size 5 1 v k (U8 (decL xs k)) ∧ Below w.heap.size w wr) (fun _ i _ => n - (intOf i).toNat)
  case atStart => exact ⟨0, by omega, rfl, (fun j hj => absurd hj (Nat.not_lt_zero _)), World.ownsRow_nil _ _ _ _, Below.refl _ _⟩
  case round =>
    obtain ⟨k, hk, rfl, HK, hown, hb⟩ := hrel
    by_cases hlt : 2 * k < n
    · have hlt2 : 2 * k + 1 < n := by have := HO.out; omega
      rcases h with h | ⟨b, o, rfl, hbs, hcell⟩
      · omega
      obtain ⟨x, hx⟩ : ∃ x, x = xs.getD (2 * k) 0 := ⟨_, rfl⟩
      obtain ⟨y, hy⟩ : ∃ y, y = xs.getD (2 * k + 1) 0 := ⟨_, rfl⟩
      have hck : wr.cell? ⟨b, o + 2 * k, none⟩ = some (.int .u8 x) := by rw [hx]; exact (hb.cell (p := ⟨b, o + 2 * k, none⟩) hbs).trans (hcell (2 * k) hlt)
      have hck' : wr.cell? ⟨b, o + (2 * k + 1), none⟩ = some (.int .u8 y) := by rw [hy]; exact (hb.cell (p := ⟨b, o + (2 * k + 1), none⟩) hbs).trans (hcell (2 * k + 1) hlt2)
      have hxb : 0 ≤ x ∧ x < 256 := by rw [hx]; exact get_byte hby (by omega)
      have hyb : 0 ≤ y ∧ y < 256 := by rw [hy]; exact get_byte hby (by omega)
      obtain ⟨hx0, hx1⟩ := hxb
      obtain ⟨hy0, hy1⟩ := hyb
      have HX : Hid (x = xs.getD (2 * k) 0) := hx
      have HY : Hid (y = xs.getD (2 * k + 1) 0) := hy
      clear hcell hx hy hby
      have hi1 : (2 * (k : Int)) < (n : Int) := by omega
      have hi2 : (2 * (k : Int)) + 1 < (n : Int) := by omega
      go_wp2
      go_quiet ((go_at_call 155; exact Calls.quiet_of_same (nibVal _ _ (by omega) (by omega))))
      have hp1 := nib_lt x
      have hq1 := nib_lt y
      have HP : Hid (nib x = nib (xs.getD (2 * k) 0)) := by unfold Hid; rw [HX.out]
      have HQ : Hid (nib y = nib (xs.getD (2 * k + 1) 0)) := by unfold Hid; rw [HY.out]
      generalize nib x = p at hp1 HP ⊢
      generalize nib y = q at hq1 HQ ⊢
      obtain ⟨hp1, hp2⟩ := hp1
      obtain ⟨hq1, hq2⟩ := hq1
      have hsz := hb.size
      have hb1 := hb.trans ((bel_drewN wr nq).mono hsz)
      have hown1 := own_below hown (bel_drewN wr nq)
      clear hck hck' hown hb
      by_cases hp : p < 0
      · have hno := hexRd_no xs (fun hh => by have := (hh.2.2 k (by omega)).1; rw [← HP.out] at this; omega)
        have HN : Hid _ := hno
        clear hno
        go_wp2
        go_ret2
        exact ⟨.slice none 0 0, tup_bool (by rw [HN.out]), by rw [HN.out]; exact World.ownsRow_nil _ _ _ _, hb1⟩
      by_cases hq : q < 0
      · have hno := hexRd_no xs (fun hh => by have := (hh.2.2 k (by omega)).2; rw [← HQ.out] at this; omega)
        have HN : Hid _ := hno
        clear hno
        go_wp2
        go_ret2
        exact ⟨.slice none 0 0, tup_bool (by rw [HN.out]), by rw [HN.out]; exact World.ownsRow_nil _ _ _ _, hb1⟩
      have hcv : IntKind.u8.wrap (16 * p + q) = 16 * p + q := by simp [IntKind.wrap, IntKind.signed, IntKind.bits]; omega
      have HS : Hid (decL xs (k + 1) = decL xs k ++ [16 * p + q]) := by unfold Hid; rw [decL_succ, HP.out, HQ.out]; rfl
      have HK2 : Hid (allOk xs (k + 1)) := fun j hj => by
        by_cases e : j = k
        · rw [e]; exact ⟨by rw [← HP.out]; omega, by rw [← HQ.out]; omega⟩
        · exact HK.out j (by omega)
      have hone := Bs.one (wr.drewN nq) (16 * p + q) (by omega) (by omega)
      go_wp2_with (at_builtin; refine wpl_append_bs rfl _ _ rfl w.heap.size _ k (decL xs k) rfl (some ⟨wr.heap.size, 0, none⟩) 1 1 [16 * p + q] rfl (hown1.alloc _) hone ?_ ?_ ?_)
      · omega
      · first | omega | (simp; omega)
      intro v' w' h1 h2 _
      have hb2 := below_app hb1 (by show w.heap.size ≤ (wr.drewN nq).heap.size; exact hsz) hown1 h2
      have HR : Hid (w'.ownsRow w.heap.size 5 1 v' (k + 1) (U8 (decL xs (k + 1)))) := by unfold Hid; rw [HS.out]; simpa using h1
      clear h1 h2 hown1 hb1 hone
      go_wp2
      go_roundw
      case rel => exact ⟨k + 1, by omega, by go_num, HK2, HR.out, hb2⟩
      case measure => simp [intOf]; omega
    · have hkn : 2 * k = n := by omega
      have hyes := hexRd_yes xs ⟨by omega, by omega, by rw [hl, show n / 2 = k by omega]; exact HK.out⟩
      rw [hl, show n / 2 = k by omega] at hyes
      have HN : Hid _ := hyes
      clear hyes hkn
      go_wp2
      go_ret2
      exact ⟨_, tup_bool (by rw [HN.out]), by rw [HN.out]; simpa [decL_len] using hown, hb⟩

end Go.Proofs.YtofflhhlacdgfaaDoor
namespace Go.Proofs.YtofflhhlacdgfaaDoor
open Go.RowKit
set_option maxRecDepth 100000
set_option maxHeartbeats 4000000
set_option linter.unusedVariables false

theorem bs_str (W : World) (s : ByteArray) : Bs (Lib.bytesWorld W 5 s) (some ⟨W.heap.size, 0, none⟩) s.size (grownCap W s.size 0 5) (s.data.toList.map fun b => (b.toNat : Int)) := by
  refine ⟨(fun h => by cases h), by simp, grownCap_ge _ _ _ _, fun x hx => ?_, .inr ⟨W.heap.size, 0, rfl, by rw [Lib.bytesWorld_size]; omega, fun j hj => ?_⟩⟩
  · rw [List.mem_map] at hx
    obtain ⟨b, _, rfl⟩ := hx
    have := b.toNat_lt
    omega
  · rw [Nat.zero_add, Lib.bytesWorld_cell W 5 s j hj]
    have hj' : j < s.data.toList.length := by simpa using hj
    congr 2
    simp [List.getD_eq_getElem?_getD, List.getElem?_eq_getElem hj']
theorem bel_str (W : World) (s : ByteArray) : Below W.heap.size W (Lib.bytesWorld W 5 s) :=
  ⟨rfl, rfl, rfl, by rw [Lib.bytesWorld_size]; omega, fun j hj => Lib.bytesWorld_at_old W 5 s j hj⟩
theorem hexStr (W : World) (s : ByteArray) (g n c : Nat) (hg : g = W.heap.size) (hn : n = s.size) (hc : c = grownCap W n 0 5) (h : n ≤ 8192) (h32 : (hexRd (s.data.toList.map fun b => (b.toNat : Int))).1.length = 32) :
    Calls Tryd.prog 144 #[.slice (some ⟨g, 0, none⟩) n c] (Lib.bytesWorld W 5 s) fun e w' => ∃ (v : Value) (xs : List Int) (b : Bool), e = .returned (.tuple #[v, .bool b]) ∧ w'.ownsRow W.heap.size 5 1 v xs.length (U8 xs) ∧ (∀ x ∈ xs, 0 ≤ x ∧ x < 256) ∧ xs.length = 32 ∧ Below W.heap.size W w' := by
  subst hg hn hc
  refine (specHexR _ _ _ _ _ (bs_str W s) (by omega)).mono ?_
  rintro e w2 ⟨v, rfl, o, hb⟩
  exact ⟨v, _, _, rfl, own_base o (bel_str W s).size, hexRd_byte _, h32, (bel_str W s).trans (hb.mono (bel_str W s).size)⟩
theorem specL8pub (i : Nat) (hi : i < 4) (w : World) :
    Calls Tryd.prog 135 #[.int .i64 (i : Int)] w fun e w' => ∃ (v : Value) (xs : List Int), e = .returned v ∧ w'.ownsRow w.heap.size 5 1 v xs.length (U8 xs) ∧ (∀ x ∈ xs, 0 ≤ x ∧ x < 256) ∧ xs.length = 32 ∧ Below w.heap.size w w' := by
  have hcv := fun (W : World) (s : ByteArray) => Lib.run_convert_string_bytes (P := Tryd.prog) W 9 22 5 s Tryd.underlying9 Tryd.underlying22 Tryd.underlying5
  have HB : Hid (∀ (o : Obj) w', Below (w.alloc o).heap.size (w.alloc o) w' → Below w.heap.size w w') := fun o w' h => ((Below.refl w.heap.size w).alloc (Nat.le_refl _) _).trans (h.mono (by simp))
  have hi2 : i = 0 ∨ i = 1 ∨ i = 2 ∨ i = 3 := by omega
  rcases hi2 with rfl | rfl | rfl | rfl
  all_goals
    go_enter Tryd.func135, Tryd.ntmps135
    go_wp2_with fail
    refine (hexStr _ _ _ _ _ (by simp) (by kernel_rfl) rfl (by omega) (by kernel_rfl)).mono ?_
    rintro e w2 ⟨v, xs, b, rfl, o, hy, hl, hb⟩
    have hb2 := HB.out _ _ hb
    have ho := own_base o (show w.heap.size ≤ _ by simp)
    have HO : Hid (w2.ownsRow w.heap.size 5 1 v xs.length (U8 xs)) := ho
    have HBB : Hid (Below w.heap.size w w2) := hb2
    clear hcv HB o hb hb2 ho
    go_wp2
    go_ret
    exact ⟨_, _, rfl, HO.out, hy, hl, HBB.out⟩
end Go.Proofs.YtofflhhlacdgfaaDoor
