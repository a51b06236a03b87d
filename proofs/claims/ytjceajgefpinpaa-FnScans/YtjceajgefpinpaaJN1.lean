/-
  What is proved here: plain facts on rows of bytes in memory (a row that a call owns stays as it is while newer memory is made or another row is written); no program is spoken of, no condition; plain facts on rows of ints in memory (a row that a call owns stays as it is while newer memory is made or another row is written); no program is spoken of, no condition; what the program's table says of bytes and of ints, and plain facts on memory; no condition; a law for the walk on 'append' where the first slice is a row of bytes that the call itself owns and the second is any slice of bytes; the two together hold at most 2^40 bytes; contracts of the cursor of a draw (l1New, l1Byte): a new cursor over the code; a byte that is drawn is in 0 .. 255, and nothing but the cursor turns; for every code; plain facts on rows that a call owns: how they lie apart, and how they stay while another is written; no program is spoken of, no condition.
-/
import Derived.WalkKit
import Derived.Test.YtjceajgefpinpaaProg
import Derived.Deep.QuietTactic
import Derived.BigQuiet
import Derived.Laws.AppendOwnNone
import Derived.Laws.BitsLemmas
import Derived.Laws.Rows
namespace Go.Proofs.Ytjceajgefpinpaa
open Go.RowKit

abbrev U8 (xs : List Int) : List Value := xs.map (Value.int .u8)

theorem own_below {w w' : World} {b e s n : Nat} {v : Value} {xs : List Value} (h : w.ownsRow b e s v n xs) (hb : Below w.heap.size w w') : w'.ownsRow b e s v n xs := by
  refine ⟨h.1, ?_⟩
  rcases h.2 with hn | ⟨g, cap, cur, rfl, hg, hgg, rest⟩
  · exact .inl hn
  · refine .inr ⟨g, cap, cur, rfl, hg, ?_, rest⟩
    rw [hb.block g (Array.getElem?_eq_some_iff.1 hgg).1]
    exact hgg

theorem own_base {w : World} {b b' e s n : Nat} {v : Value} {xs : List Value} (h : w.ownsRow b e s v n xs) (hb : b' ≤ b) : w.ownsRow b' e s v n xs := by
  refine ⟨h.1, ?_⟩
  rcases h.2 with hn | ⟨g, cap, cur, rfl, hg, rest⟩
  · exact .inl hn
  · exact .inr ⟨g, cap, cur, rfl, Nat.le_trans hb hg, rest⟩

/-- What a slice of bytes reads as. -/
def Bs (w : World) (a : Option Addr) (n cap : Nat) (xs : List Int) : Prop :=
  (a = none → cap = 0) ∧ xs.length = n ∧ n ≤ cap ∧ (∀ x ∈ xs, 0 ≤ x ∧ x < 256) ∧ (n = 0 ∨ ∃ b o, a = some ⟨b, o, none⟩ ∧ b < w.heap.size ∧ ∀ j, j < n → w.cell? ⟨b, o + j, none⟩ = some (.int .u8 (xs.getD j 0)))

theorem Bs.below {w w' : World} {a : Option Addr} {n cap : Nat} {xs : List Int} (h : Bs w a n cap xs) (hb : Below w.heap.size w w') : Bs w' a n cap xs := by
  obtain ⟨h0, h1, h2, h3, h4⟩ := h
  refine ⟨h0, h1, h2, h3, ?_⟩
  rcases h4 with h4 | ⟨b, o, ha, hlt, hc⟩
  · exact .inl h4
  · exact .inr ⟨b, o, ha, Nat.lt_of_lt_of_le hlt hb.size, fun j hj => (hb.cell (p := ⟨b, o + j, none⟩) hlt).trans (hc j hj)⟩

/-- A row that a call owns, opened. -/
theorem own_shape {w : World} {base n : Nat} {v : Value} {xs : List Int} (h : w.ownsRow base 5 1 v n (U8 xs)) :
    xs.length = n ∧ ((v = .slice none 0 0 ∧ n = 0) ∨ ∃ g cap, v = .slice (some ⟨g, 0, none⟩) n cap ∧ base ≤ g ∧ g < w.heap.size ∧ n ≤ cap ∧ cap ≤ maxLen ∧
      (∀ j, j < n → w.cell? ⟨g, j, none⟩ = some (.int .u8 (xs.getD j 0))) ∧ ∀ j, w.frozen? ⟨g, j, none⟩ = false) := by
  have hl : xs.length = n := by have := h.1; simpa using this
  refine ⟨hl, ?_⟩
  rcases h.2 with hn | ⟨g, cap, cur, rfl, hg, hgg, h1, h2, h3, h4⟩
  · exact .inl hn
  · refine .inr ⟨g, cap, rfl, hg, (Array.getElem?_eq_some_iff.1 hgg).1, h1, h2, fun j hj => ?_, fun j => h.frozenAt j⟩
    rw [h.cellAt j (by omega)]
    have hx : j < xs.length := by omega
    simp [hx]

theorem Bs.own {w : World} {base n : Nat} {v : Value} {xs : List Int} (h : w.ownsRow base 5 1 v n (U8 xs)) (hx : ∀ x ∈ xs, 0 ≤ x ∧ x < 256) :
    ∃ a cap, v = .slice a n cap ∧ cap ≤ maxLen ∧ Bs w a n cap xs := by
  obtain ⟨hl, h⟩ := own_shape h
  rcases h with ⟨rfl, rfl⟩ | ⟨g, cap, rfl, hg, hgs, h1, h2, hc, _⟩
  · exact ⟨none, 0, rfl, by unfold maxLen; omega, fun _ => rfl, hl, Nat.le_refl _, hx, .inl rfl⟩
  · exact ⟨_, cap, rfl, h2, (fun h => by cases h), hl, h1, hx, .inr ⟨g, 0, rfl, hgs, fun j hj => by simpa using hc j hj⟩⟩

theorem get_byte {xs : List Int} (h : ∀ x ∈ xs, 0 ≤ x ∧ x < 256) {i : Nat} (hi : i < xs.length) : 0 ≤ xs.getD i 0 ∧ xs.getD i 0 < 256 := by
  have e : xs.getD i 0 = xs[i] := by simp [hi]
  rw [e]; exact h _ (List.getElem_mem hi)

theorem byte_wf {n : Int} (h : (Lit.int .u8 n).wf = true) : 0 ≤ n ∧ n < 256 := by
  have h1 : IntKind.u8.min ≤ n ∧ n ≤ IntKind.u8.max := by simpa [Lit.wf] using h
  simp [IntKind.min, IntKind.max, IntKind.signed, IntKind.bits] at h1
  omega

theorem bs_of_arg {w : World} {x : Addr} {len cap : Nat} {zs : List Int} (hl : len ≤ cap) (hz : zs.length = cap) (hc : ∀ i, i < zs.length → w.cell? (x.add i) = some (.int .u8 (zs.getD i 0))) (hwf : ∀ n ∈ zs, (Lit.int .u8 n).wf = true) :
    Bs w (some x) len cap (zs.take len) := by
  refine ⟨(fun h => by cases h), by simp; omega, hl, fun n hn => byte_wf (hwf n (List.mem_of_mem_take hn)), ?_⟩
  by_cases h0 : len = 0
  · exact .inl h0
  · obtain ⟨b, off, spot⟩ := x
    have h1 := hc 0 (by omega)
    have hspot : spot = none := by simpa [Addr.add] using World.cell?_spot h1
    subst hspot
    refine .inr ⟨b, off, rfl, World.block_lt_of_cell? w _ h1, fun j hj => ?_⟩
    have h2 := hc j (by omega)
    rw [Addr.add_lit] at h2
    rw [h2]
    simp [hj]

theorem take_snoc (xs : List Int) (k : Nat) (h : k < xs.length) : xs.take (k + 1) = xs.take k ++ [xs.getD k 0] := by
  rw [List.take_succ_eq_append_getElem h]; simp [h]

end Go.Proofs.Ytjceajgefpinpaa
namespace Go.Proofs.Ytjceajgefpinpaa
open Go.RowKit

abbrev I64 (xs : List Int) : List Value := xs.map (Value.int .i64)





/-- What a slice of ints reads as. -/
def Is (w : World) (a : Option Addr) (n cap : Nat) (xs : List Int) : Prop :=
  (a = none → cap = 0) ∧ xs.length = n ∧ n ≤ cap ∧ (∀ x ∈ xs, -9223372036854775808 ≤ x ∧ x ≤ 9223372036854775807) ∧ (n = 0 ∨ ∃ b o, a = some ⟨b, o, none⟩ ∧ b < w.heap.size ∧ ∀ j, j < n → w.cell? ⟨b, o + j, none⟩ = some (.int .i64 (xs.getD j 0)))

theorem Is.below {w w' : World} {a : Option Addr} {n cap : Nat} {xs : List Int} (h : Is w a n cap xs) (hb : Below w.heap.size w w') : Is w' a n cap xs := by
  obtain ⟨h0, h1, h2, h3, h4⟩ := h
  refine ⟨h0, h1, h2, h3, ?_⟩
  rcases h4 with h4 | ⟨b, o, ha, hlt, hc⟩
  · exact .inl h4
  · exact .inr ⟨b, o, ha, Nat.lt_of_lt_of_le hlt hb.size, fun j hj => (hb.cell (p := ⟨b, o + j, none⟩) hlt).trans (hc j hj)⟩

/-- A row that a call owns, opened. -/
theorem own_shapeI {w : World} {base n e : Nat} {v : Value} {xs : List Int} (h : w.ownsRow base e 1 v n (I64 xs)) :
    xs.length = n ∧ ((v = .slice none 0 0 ∧ n = 0) ∨ ∃ g cap, v = .slice (some ⟨g, 0, none⟩) n cap ∧ base ≤ g ∧ g < w.heap.size ∧ n ≤ cap ∧ cap ≤ maxLen ∧
      (∀ j, j < n → w.cell? ⟨g, j, none⟩ = some (.int .i64 (xs.getD j 0))) ∧ ∀ j, w.frozen? ⟨g, j, none⟩ = false) := by
  have hl : xs.length = n := by have := h.1; simpa using this
  refine ⟨hl, ?_⟩
  rcases h.2 with hn | ⟨g, cap, cur, rfl, hg, hgg, h1, h2, h3, h4⟩
  · exact .inl hn
  · refine .inr ⟨g, cap, rfl, hg, (Array.getElem?_eq_some_iff.1 hgg).1, h1, h2, fun j hj => ?_, fun j => h.frozenAt j⟩
    rw [h.cellAt j (by omega)]
    have hx : j < xs.length := by omega
    simp [hx]

theorem Is.own {w : World} {base n e : Nat} {v : Value} {xs : List Int} (h : w.ownsRow base e 1 v n (I64 xs)) (hx : ∀ x ∈ xs, -9223372036854775808 ≤ x ∧ x ≤ 9223372036854775807) :
    ∃ a cap, v = .slice a n cap ∧ cap ≤ maxLen ∧ Is w a n cap xs := by
  obtain ⟨hl, h⟩ := own_shapeI h
  rcases h with ⟨rfl, rfl⟩ | ⟨g, cap, rfl, hg, hgs, h1, h2, hc, _⟩
  · exact ⟨none, 0, rfl, by unfold maxLen; omega, fun _ => rfl, hl, Nat.le_refl _, hx, .inl rfl⟩
  · exact ⟨_, cap, rfl, h2, (fun h => by cases h), hl, h1, hx, .inr ⟨g, 0, rfl, hgs, fun j hj => by simpa using hc j hj⟩⟩

theorem get_int {xs : List Int} (h : ∀ x ∈ xs, -9223372036854775808 ≤ x ∧ x ≤ 9223372036854775807) {i : Nat} (hi : i < xs.length) : -9223372036854775808 ≤ xs.getD i 0 ∧ xs.getD i 0 ≤ 9223372036854775807 := by
  have e : xs.getD i 0 = xs[i] := by simp [hi]
  rw [e]; exact h _ (List.getElem_mem hi)

theorem int_wf {n : Int} (h : (Lit.int .i64 n).wf = true) : -9223372036854775808 ≤ n ∧ n ≤ 9223372036854775807 := by
  have h1 : IntKind.i64.min ≤ n ∧ n ≤ IntKind.i64.max := by simpa [Lit.wf] using h
  simp [IntKind.min, IntKind.max, IntKind.signed, IntKind.bits] at h1
  omega

theorem is_of_arg {w : World} {x : Addr} {len cap : Nat} {zs : List Int} (hl : len ≤ cap) (hz : zs.length = cap) (hc : ∀ i, i < zs.length → w.cell? (x.add i) = some (.int .i64 (zs.getD i 0))) (hwf : ∀ n ∈ zs, (Lit.int .i64 n).wf = true) :
    Is w (some x) len cap (zs.take len) := by
  refine ⟨(fun h => by cases h), by simp; omega, hl, fun n hn => int_wf (hwf n (List.mem_of_mem_take hn)), ?_⟩
  by_cases h0 : len = 0
  · exact .inl h0
  · obtain ⟨b, off, spot⟩ := x
    have h1 := hc 0 (by omega)
    have hspot : spot = none := by simpa [Addr.add] using World.cell?_spot h1
    subst hspot
    refine .inr ⟨b, off, rfl, World.block_lt_of_cell? w _ h1, fun j hj => ?_⟩
    have h2 := hc j (by omega)
    rw [Addr.add_lit] at h2
    rw [h2]
    simp [hj]



end Go.Proofs.Ytjceajgefpinpaa
namespace Go.Proofs.Ytjceajgefpinpaa
open Go.RowKit

theorem Try.info5 : (Try.prog.info? 5).map (fun i => (i.zero, i.size, i.bytes)) = some (some (.int .u8 0), 1, 1) := by kernel_rfl
theorem Try.info3 : (Try.prog.info? 3).map (fun i => (i.zero, i.size, i.bytes)) = some (some (.int .i64 0), 1, 8) := by kernel_rfl
theorem bel_drewN (w : World) (q : Nat) : Below w.heap.size w (w.drewN q) := ⟨rfl, rfl, rfl, Nat.le_refl _, fun _ _ => rfl⟩
theorem grown_trans {a b c : World} {row : Option Nat} (h : a.grownBy b row) (k : b.grownBy c row) : a.grownBy c row :=
  ⟨k.os.trans h.os, k.tape.trans h.tape, k.output.trans h.output, Nat.le_trans h.size k.size, fun i hi hne => (k.block i (Nat.lt_of_lt_of_le hi h.size) hne).trans (h.block i hi hne)⟩
end Go.Proofs.Ytjceajgefpinpaa
namespace Go.Proofs.Ytjceajgefpinpaa
open Go.RowKit

theorem wpl_append_bs {w : World} {ops : Array Oper} {rest : List Oper} {o : Oper} {a : Act} {Q : Exit → Act → World → Prop} (hgd : o.guard = none) (s x : Operand)
    (ho : o.op = .call { callee := .builtin .append, args := #[s, x], argTypes := #[22, 22] })
    (base : Nat) (v : Value) (n : Nat) (xs : List Int) (hs : a.eval s = v) (ao : Option Addr) (m c : Nat) (ys : List Int) (hx : a.eval x = .slice ao m c)
    (hown : w.ownsRow base 5 1 v n (U8 xs)) (hb : Bs w ao m c ys) (hlen : n + m ≤ 1099511627776) (hbase : base ≤ w.heap.size)
    (h : ∀ v' w', w'.ownsRow base 5 1 v' (n + m) (U8 (xs ++ ys)) → w.grownBy w' v.ownBlock → (v' = .slice none 0 0 ↔ v = .slice none 0 0 ∧ m = 0) → wpList Try.prog ops Q rest (a.put o.dst v') w') :
    wpList Try.prog ops Q (o :: rest) a w := by
  obtain ⟨i0, hi, hz0, hz1, hz2⟩ := info_parts Try.info5
  obtain ⟨hcap, hl, hc, _, hb⟩ := hb
  cases ao with
  | none =>
    have hc0 := hcap rfl
    subst hc0
    have hm : m = 0 := by omega
    subst hm
    have hy : ys = [] := List.eq_nil_of_length_eq_zero hl
    subst hy
    exact wpList_append_own_none hgd s x 22 ho base 5 i0 1 Try.underlying22 hi v n (U8 xs) hs hown hx
      (h v w (by simpa using hown) (World.grownBy.refl _ _) (by simp))
  | some ad =>
    refine wpList_append_own w hgd s x 22 ho base 5 i0 (.int .u8 0) 1 1 Try.underlying22 hi hz0 hz1 hz2 rfl (by decide) v n (U8 xs) hs hown ad m c (U8 ys) hx (by simp [hl]) ?_ (ints_oneCell _ _)
      (by unfold maxLen; omega) (by omega) hbase ?_
    · rcases hb with hb | ⟨b, off, ha, _, hcell⟩
      · intro j u hj
        have hy : ys = [] := List.eq_nil_of_length_eq_zero (by omega)
        subst hy
        simp at hj
      · obtain rfl := Option.some.inj ha
        intro j u hj
        have hjl : j < m := by
          have := (List.getElem?_eq_some_iff.1 hj).1
          simpa [hl] using this
        rw [Addr.add_lit, hcell j hjl]
        have e : (U8 ys)[j]? = some (.int .u8 (ys.getD j 0)) := by simp [show j < ys.length by omega]
        rw [e] at hj
        exact hj
    · intro v' w' h1 h2 h3
      exact h v' w' (by simpa using h1) h2 h3

theorem below_app {B n : Nat} {w wr w' : World} {v : Value} {xs : List Value} {o : Obj} (hb : Below B w wr) (hB : B ≤ wr.heap.size) (hown : wr.ownsRow B 5 1 v n xs) (hg : (wr.alloc o).grownBy w' v.ownBlock) : Below B w w' :=
  (hb.alloc hB o).grown hg (by simp; omega) (fun k hk => (hown.lt k hk).1)

theorem below_app0 {B n : Nat} {w wr w' : World} {v : Value} {xs : List Value} (hb : Below B w wr) (hB : B ≤ wr.heap.size) (hown : wr.ownsRow B 5 1 v n xs) (hg : wr.grownBy w' v.ownBlock) : Below B w w' :=
  hb.grown hg hB (fun k hk => (hown.lt k hk).1)

/-- One new cell, as a slice of one byte. -/
theorem Bs.one (w : World) (x : Int) (h0 : 0 ≤ x) (h1 : x < 256) : Bs (w.alloc (.cells #[.int .u8 x] 5)) (some ⟨w.heap.size, 0, none⟩) 1 1 [x] := by
  refine ⟨(fun h => by cases h), rfl, Nat.le_refl _, ?_, .inr ⟨w.heap.size, 0, rfl, by simp, ?_⟩⟩
  · intro y hy; simp at hy; omega
  · intro j hj
    have : j = 0 := by omega
    subst this
    rw [World.cell?_alloc_at _ _ _ _ rfl]; rfl

end Go.Proofs.Ytjceajgefpinpaa
namespace Go.Proofs.Ytjceajgefpinpaa
open Go.RowKit

/-- The cursor's block. -/
def Cur (W : World) (p : Nat) (a : Option Addr) (n c : Nat) : Prop :=
  ∃ (i : Nat) (h : Int), i ≤ n ∧ W.heap[p]? = some (.cells #[.slice a n c, .int .i64 i, .int .i64 h] 86 (0, 0))

/-- The code, apart from the cursor. -/
def Coded (W : World) (p : Nat) (a : Option Addr) (n c : Nat) (xs : List Int) : Prop := Bs W a n c xs ∧ n ≤ 9223372036854775807 ∧ ∀ b o s, a = some ⟨b, o, s⟩ → n ≠ 0 → b ≠ p

theorem grown_into {W Wr W' : World} {p : Nat} {row : Option Nat} (h : W.grownBy Wr (some p)) (hg : Wr.grownBy W' row) (hr : ∀ k, row = some k → W.heap.size ≤ k ∨ k = p) : W.grownBy W' (some p) :=
  ⟨hg.os.trans h.os, hg.tape.trans h.tape, hg.output.trans h.output, Nat.le_trans h.size hg.size, fun i hi hne => by
    rw [hg.block i (Nat.lt_of_lt_of_le hi h.size) (fun e => ?_)]
    · exact h.block i hi hne
    · rcases hr i e.symm with h1 | h1
      · omega
      · exact hne (by rw [h1])⟩

theorem Coded.grown {W W' : World} {p : Nat} {a : Option Addr} {n c : Nat} {xs : List Int} (h : Coded W p a n c xs) (hg : W.grownBy W' (some p)) : Coded W' p a n c xs := by
  obtain ⟨⟨h0, hl, hc, hby, h⟩, hm, hne⟩ := h
  refine ⟨⟨h0, hl, hc, hby, ?_⟩, hm, hne⟩
  rcases h with h | ⟨b, o, ha, hb, hcell⟩
  · exact .inl h
  · by_cases hn : n = 0
    · exact .inl hn
    · refine .inr ⟨b, o, ha, Nat.lt_of_lt_of_le hb hg.size, fun j hj => ?_⟩
      exact hg.cell (hcell j hj) (fun e => hne b o none ha hn (by simpa using e))

theorem and255 (z : Int) : 0 ≤ bits BinOp.and IntKind.i64 z 255 ∧ bits BinOp.and IntKind.i64 z 255 ≤ 255 := by
  have h : ((BitVec.ofInt 64 z &&& BitVec.ofInt 64 255).toNat) ≤ 255 := by
    rw [BitVec.toNat_and]
    exact Nat.le_trans Nat.and_le_right (by decide)
  have e : bits BinOp.and IntKind.i64 z 255 = IntKind.i64.wrap ((BitVec.ofInt 64 z &&& BitVec.ofInt 64 255).toNat : Int) := rfl
  rw [e, IntKind.wrap_i64]
  omega

set_option maxHeartbeats 1000000 in
theorem curNew (a : Option Addr) (n c : Nat) (xs : List Int) (w : World) (h : Bs w a n c xs) (hm : n ≤ 9223372036854775807) :
    Calls Try.prog 45 #[.slice a n c] w fun e w' => e = .returned (.pointer (some ⟨w.heap.size, 0, none⟩)) ∧ Cur w' w.heap.size a n c ∧ Coded w' w.heap.size a n c xs ∧ w'.heap.size = w.heap.size + 1 ∧ Below w.heap.size w w' := by
  have h' := h
  obtain ⟨_, hl, hc, hby, h⟩ := h
  go_enter Try.func45, Try.ntmps45
  go_wp2
  go_loop [3, 4] (fun hh i => ∃ (k : Nat) (H : Int), k ≤ n ∧ k ≤ 4000 ∧ i = .int .i64 k ∧ hh = .int .i64 H) (fun _ i => 4000 - (intOf i).toNat)
  case atStart => exact ⟨0, _, by omega, by omega, rfl, rfl⟩
  case round =>
    obtain ⟨k, H, hk, hk2, rfl, rfl⟩ := hrel
    by_cases hlt : (k : Int) < (n : Int)
    · by_cases hlt2 : (k : Int) < 4000
      · rcases h with h | ⟨b, o, rfl, hbs, hcell⟩
        · omega
        obtain ⟨x, hx⟩ : ∃ x, x = xs.getD k 0 := ⟨_, rfl⟩
        have hck : w.cell? ⟨b, o + k, none⟩ = some (.int .u8 x) := by rw [hx]; exact hcell k (by omega)
        clear hcell hx hby h'
        go_wp2
        go_round
        case rel => exact ⟨k + 1, _, by omega, by omega, by go_num, rfl⟩
        case measure => simp [intOf]; omega
      · go_wp2
        go_ret
        refine ⟨rfl, ⟨0, H, by omega, heap_alloc_new w _⟩, ⟨h'.below ((Below.refl _ _).alloc (Nat.le_refl _) _), hm, ?_⟩, by simp, (Below.refl _ _).alloc (Nat.le_refl _) _⟩
        intro b o s ha hn0
        rcases h with h | ⟨b', o', ha', hbs, _⟩
        · omega
        · rw [ha'] at ha
          simp only [Option.some.injEq, Addr.mk.injEq] at ha
          omega
    · go_wp2
      go_ret
      refine ⟨rfl, ⟨0, H, by omega, heap_alloc_new w _⟩, ⟨h'.below ((Below.refl _ _).alloc (Nat.le_refl _) _), hm, ?_⟩, by simp, (Below.refl _ _).alloc (Nat.le_refl _) _⟩
      intro b o s ha hn0
      rcases h with h | ⟨b', o', ha', hbs, _⟩
      · omega
      · rw [ha'] at ha
        simp only [Option.some.injEq, Addr.mk.injEq] at ha
        omega

theorem grown_drewN {w w1 : World} {r : Option Nat} (h : w.grownBy w1 r) (q : Nat) : w.grownBy (w1.drewN q) r := ⟨h.os, h.tape, h.output, h.size, h.block⟩

theorem cur_set2 {w : World} {p n c i : Nat} {a : Option Addr} {h : Int} (hp : w.heap[p]? = some (.cells #[.slice a n c, .int .i64 i, .int .i64 h] 86 (0, 0))) (H : Int) :
    (w.setCell ⟨p, 2, none⟩ (.int .i64 H)).heap[p]? = some (.cells #[.slice a n c, .int .i64 i, .int .i64 H] 86 (0, 0)) := by
  rw [heap_setCell_same w p 2 _ 86 (.int .i64 H) hp]; rfl
theorem cur_set1 {w : World} {p n c i : Nat} {a : Option Addr} {h : Int} (hp : w.heap[p]? = some (.cells #[.slice a n c, .int .i64 i, .int .i64 h] 86 (0, 0))) (I : Int) :
    (w.setCell ⟨p, 1, none⟩ (.int .i64 I)).heap[p]? = some (.cells #[.slice a n c, .int .i64 I, .int .i64 h] 86 (0, 0)) := by
  rw [heap_setCell_same w p 1 _ 86 (.int .i64 I) hp]; rfl
theorem cur_grown2 (w : World) (p : Nat) (u : Value) (j : Nat) : w.grownBy (w.setCell ⟨p, j, none⟩ u) (some p) :=
  ⟨rfl, rfl, rfl, by simp, fun k _ hk => heap_setCell_other w ⟨p, j, none⟩ k u (fun e => hk (by simp [e]))⟩

set_option maxHeartbeats 1000000 in
theorem curByte (p : Nat) (a : Option Addr) (n c : Nat) (xs : List Int) (w : World) (hcur : Cur w p a n c) (hcode : Coded w p a n c xs) :
    Calls Try.prog 48 #[.pointer (some ⟨p, 0, none⟩)] w fun e w' => ∃ x : Int, e = .returned (.int .i64 x) ∧ 0 ≤ x ∧ x ≤ 255 ∧ Cur w' p a n c ∧ w.grownBy w' (some p) := by
  obtain ⟨i, h, hin, hp⟩ := hcur
  obtain ⟨⟨h0, hl, hc, hby, hb⟩, hm, hne⟩ := hcode
  have c0 : w.cell? ⟨p, 0, none⟩ = some (.slice a n c) := by simp [World.cell?, hp]
  have c1 : w.cell? ⟨p, 1, none⟩ = some (.int .i64 i) := by simp [World.cell?, hp]
  have c2 : w.cell? ⟨p, 2, none⟩ = some (.int .i64 h) := by simp [World.cell?, hp]
  have f1 : w.frozen? ⟨p, 1, none⟩ = false := by simp [World.frozen?, hp]
  have f2 : w.frozen? ⟨p, 2, none⟩ = false := by simp [World.frozen?, hp]
  go_enter Try.func48, Try.ntmps48
  go_wp2
  clear c2
  generalize wrap64 (wrap64 (h * 6364136223846793005) + 1442695040888963407) = H
  have hp1 := cur_set2 hp H
  have hg1 := cur_grown2 w p (.int .i64 H) 2
  have e0 := World.cell?_setCell_other w ⟨p, 2, none⟩ ⟨p, 0, none⟩ (.int .i64 H) (by simp)
  generalize w.setCell ⟨p, 2, none⟩ (.int .i64 H) = w1 at hp1 hg1 e0 ⊢
  clear c0 c1 f1 f2 hp e0
  have c0 : w1.cell? ⟨p, 0, none⟩ = some (.slice a n c) := by simp [World.cell?, hp1]
  have c1 : w1.cell? ⟨p, 1, none⟩ = some (.int .i64 i) := by simp [World.cell?, hp1]
  have c2 : w1.cell? ⟨p, 2, none⟩ = some (.int .i64 H) := by simp [World.cell?, hp1]
  have f1 : w1.frozen? ⟨p, 1, none⟩ = false := by simp [World.frozen?, hp1]
  go_quiet (fail)
  go_wp2
  have hX := and255 (bits BinOp.xor IntKind.i64 (H / 8589934592) (H / 35184372088832))
  generalize bits BinOp.and IntKind.i64 (bits BinOp.xor IntKind.i64 (H / 8589934592) (H / 35184372088832)) 255 = X at hX ⊢
  obtain ⟨hX0, hX1⟩ := hX
  by_cases hin2 : (i : Int) < (n : Int)
  · rcases hb with hb | ⟨b, o, rfl, hbs, hcell⟩
    · omega
    have hbp : b ≠ p := hne b o none rfl (by omega)
    obtain ⟨y, hy⟩ : ∃ y, y = xs.getD i 0 := ⟨_, rfl⟩
    have hck : w1.cell? ⟨b, o + i, none⟩ = some (.int .u8 y) := by rw [hy]; exact hg1.cell (hcell i (by omega)) (by simpa using hbp)
    have hyb : 0 ≤ y ∧ y < 256 := by rw [hy]; exact get_byte hby (by omega)
    obtain ⟨hy0, hy1⟩ := hyb
    have hi0 : (0 : Int) ≤ (i : Int) := by omega
    clear hcell hy hby
    go_quiet (fail)
    go_wp2
    go_quiet (fail)
    go_wp2
    have hZ := and255 (X + y)
    generalize bits BinOp.and IntKind.i64 (X + y) 255 = Z at hZ ⊢
    go_ret
    refine ⟨Z, rfl, hZ.1, hZ.2, ⟨i + 1, H, by omega, ?_⟩, ?_⟩
    · rw [show (((i + 1 : Nat) : Int)) = (i : Int) + 1 by omega]
      exact cur_set1 (w := w1.drewN _) hp1 ((i : Int) + 1)
    · exact grown_trans (grown_drewN hg1 _) (cur_grown2 _ _ _ _)
  · have hd : decide (i < n) = false := by simp; omega
    go_quiet (fail)
    go_wp2
    go_ret
    exact ⟨X, rfl, hX0, hX1, ⟨i, H, hin, hp1⟩, grown_drewN hg1 _⟩

set_option maxHeartbeats 1000000 in
theorem curBelow (p : Nat) (a : Option Addr) (n c : Nat) (xs : List Int) (N : Int) (w : World) (hcur : Cur w p a n c) (hcode : Coded w p a n c xs) (hN : N ≤ 9223372036854775807) :
    Calls Try.prog 49 #[.pointer (some ⟨p, 0, none⟩), .int .i64 N] w fun e w' => ∃ x : Int, e = .returned (.int .i64 x) ∧ 0 ≤ x ∧ (0 < N → x < N) ∧ (N ≤ 0 → x = 0) ∧ Cur w' p a n c ∧ w.grownBy w' (some p) := by
  by_cases h0 : N ≤ 0
  · go_enter Try.func49, Try.ntmps49
    go_wp2
    go_ret
    exact ⟨0, rfl, by omega, by omega, fun _ => rfl, hcur, World.grownBy.refl _ _⟩
  by_cases h1 : N ≤ 256
  · go_enter Try.func49, Try.ntmps49
    go_wp2_with fail
    refine (curByte p a n c xs _ hcur hcode).mono ?_
    rintro e w1 ⟨x, rfl, hx0, hx1, hc1, hg1⟩
    have hz : (N == 0) = false := by simp; omega
    go_wp2
    go_ret
    exact ⟨x % N, rfl, Int.emod_nonneg _ (by omega), fun h => Int.emod_lt_of_pos _ h, by omega, hc1, hg1⟩
  · go_enter Try.func49, Try.ntmps49
    go_wp2_with fail
    refine (curByte p a n c xs _ hcur hcode).mono ?_
    rintro e w1 ⟨x, rfl, hx0, hx1, hc1, hg1⟩
    have hd1 := hcode.grown hg1
    clear hcur hcode
    go_wp2_with fail
    refine (curByte p a n c xs _ hc1 hd1).mono ?_
    rintro e w2 ⟨y, rfl, hy0, hy1, hc2, hg2⟩
    have hd2 := hd1.grown hg2
    have k2 := grown_trans hg1 hg2
    clear hc1 hd1 hg1 hg2
    go_wp2_with fail
    refine (curByte p a n c xs _ hc2 hd2).mono ?_
    rintro e w3 ⟨z, rfl, hz0, hz1, hc3, hg3⟩
    have hd3 := hd2.grown hg3
    have k3 := grown_trans k2 hg3
    clear hc2 hd2 k2 hg3
    go_wp2_with fail
    refine (curByte p a n c xs _ hc3 hd3).mono ?_
    rintro e w4 ⟨u, rfl, hu0, hu1, hc4, hg4⟩
    have k4 := grown_trans k3 hg4
    clear hc3 hd3 k3 hg4
    have hz : (N == 0) = false := by simp; omega
    go_wp2
    go_ret
    exact ⟨_, rfl, Int.emod_nonneg _ (by omega), fun h => Int.emod_lt_of_pos _ h, by omega, hc4, k4⟩

set_option maxHeartbeats 1000000 in
theorem curOnce (p : Nat) (a : Option Addr) (n c : Nat) (xs : List Int) (N : Int) (w : World) (hcur : Cur w p a n c) (hcode : Coded w p a n c xs) (hN : N ≤ 9223372036854775807) :
    Calls Try.prog 47 #[.pointer (some ⟨p, 0, none⟩), .int .i64 N] w fun e w' => ∃ x : Bool, e = .returned (.bool x) ∧ Cur w' p a n c ∧ w.grownBy w' (some p) := by
  go_enter Try.func47, Try.ntmps47
  go_wp2_with fail
  refine (curBelow p a n c xs N _ hcur hcode hN).mono ?_
  rintro e w1 ⟨x, rfl, _, _, _, hc1, hg1⟩
  go_wp2
  go_ret
  exact ⟨_, rfl, hc1, hg1⟩
end Go.Proofs.Ytjceajgefpinpaa
namespace Go.Proofs.Ytjceajgefpinpaa
open Go.RowKit

def Apart (u v : Value) : Prop := ∀ k, u.ownBlock = some k → v.ownBlock ≠ some k
theorem Apart.symm {u v : Value} (h : Apart u v) : Apart v u := fun k hk he => h k he hk
theorem apart_of {wA wB : World} {B1 B2 n1 n2 e1 e2 s1 s2 : Nat} {v1 v2 : Value} {l1 l2 : List Value} (h1 : wA.ownsRow B1 e1 s1 v1 n1 l1) (h2 : wB.ownsRow B2 e2 s2 v2 n2 l2) (hs : wA.heap.size ≤ B2) : Apart v1 v2 := by
  intro k hk he
  have e1 := (h1.lt k hk).2
  have e2 := (h2.lt k he).1
  omega

theorem own_other {w : World} {b e s n : Nat} {v : Value} {xs : List Value} (h : w.ownsRow b e s v n xs) (p : Addr) (u : Value) (hp : p.block < b) : (w.setCell p u).ownsRow b e s v n xs := by
  refine ⟨h.1, ?_⟩
  rcases h.2 with hn | ⟨g, cap, cur, rfl, hg, hgg, rest⟩
  · exact .inl hn
  · refine .inr ⟨g, cap, cur, rfl, hg, ?_, rest⟩
    rw [heap_setCell_other w p g u (by omega)]
    exact hgg

theorem is_of_own {W : World} {B n c e : Nat} {a : Option Addr} {l : List Int} (h : W.ownsRow B e 1 (.slice a n c) n (I64 l)) (hby : ∀ x ∈ l, -9223372036854775808 ≤ x ∧ x ≤ 9223372036854775807) : Is W a n c l := by
  obtain ⟨a', c', e, _, hb⟩ := Is.own h hby
  simp only [Value.slice.injEq, true_and] at e
  obtain ⟨rfl, rfl⟩ := e
  exact hb
theorem bs_of_own {W : World} {B n c : Nat} {a : Option Addr} {l : List Int} (h : W.ownsRow B 5 1 (.slice a n c) n (U8 l)) (hby : ∀ x ∈ l, 0 ≤ x ∧ x < 256) : Bs W a n c l := by
  obtain ⟨a', c', e, _, hb⟩ := Bs.own h hby
  simp only [Value.slice.injEq, true_and] at e
  obtain ⟨rfl, rfl⟩ := e
  exact hb

theorem own_kept {W W' : World} {B n e s : Nat} {u v : Value} {l : List Value} (h : W.ownsRow B e s v n l) (hg : W.grownBy W' u.ownBlock) (ha : Apart u v) : W'.ownsRow B e s v n l := by
  refine h.kept hg ?_
  cases hv : v.ownBlock with
  | none => exact .inl rfl
  | some k => exact .inr (fun e => ha k e.symm hv)

theorem below_mark {n e s : Nat} {w wr w' : World} {v : Value} {xs : List Value} (hb : Below w.heap.size w wr) (hown : wr.ownsRow w.heap.size e s v n xs) (hg : wr.grownBy w' v.ownBlock) : Below w.heap.size w w' :=
  hb.grown hg hb.size (fun k hk => (hown.lt k hk).1)

/-- Where a row's block lies. -/
def In (v : Value) (lo hi : Nat) : Prop := ∀ k, v.ownBlock = some k → lo ≤ k ∧ k < hi
theorem In.of {W : World} {B e s n : Nat} {v : Value} {l : List Value} (h : W.ownsRow B e s v n l) : In v B W.heap.size := fun k hk => h.lt k hk
theorem In.apart {u v : Value} {a b c d : Nat} (h : In u a b) (h' : In v c d) (hl : b ≤ c ∨ d ≤ a) : Apart u v := fun k hk he => by
  have := h k hk
  have := h' k he
  omega
theorem In.ne {u : Value} {a b g : Nat} (h : In u a b) (hg : g < a ∨ b ≤ g) : u.ownBlock ≠ some g := fun he => by
  have := h g he
  omega
end Go.Proofs.Ytjceajgefpinpaa
