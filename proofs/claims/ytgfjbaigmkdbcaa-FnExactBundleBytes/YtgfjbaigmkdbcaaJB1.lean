/-
  What is proved here: plain facts on rows of bytes in memory (a row that a call owns stays as it is while newer memory is made or another row is written); no program is spoken of, no condition; plain facts on rows of ints in memory (a row that a call owns stays as it is while newer memory is made or another row is written); no program is spoken of, no condition; what the program's table says of bytes and of ints, and plain facts on memory; no condition; a law for the walk on 'append' where the first slice is a row of bytes that the call itself owns and the second is any slice of bytes; the two together hold at most 2^40 bytes; plain facts on lists of integers about the number code of chapter 1 (a number's one to five bytes); no program is spoken of, no condition; contracts of the specification's PutNum and NumLen and of the program's splitNum and NumLen, for every number, and every slice of at most 2^21 bytes.
-/
import Derived.WalkKit
import Derived.Test.YtgfjbaigmkdbcaaProg
import Derived.Deep.QuietTactic
import Derived.BigQuiet
import Derived.Laws.AppendOwnNone
namespace Go.Proofs.Ytgfjbaigmkdbcaa
open Go.RowKit

abbrev U8 (xs : List Int) : List Value := xs.map (Value.int .u8)

theorem own_below {w w' : World} {b e s n : Nat} {v : Value} {xs : List Value} (h : w.ownsRow b e s v n xs) (hb : Below w.heap.size w w') : w'.ownsRow b e s v n xs := by
  refine ⟨h.1, ?_⟩
  rcases h.2 with hn | ⟨g, cap, cur, rfl, hg, hgg, rest⟩
  · exact .inl hn
  · refine .inr ⟨g, cap, cur, rfl, hg, ?_, rest⟩
    rw [hb.block g (Array.getElem?_eq_some_iff.1 hgg).1]
    exact hgg

theorem own_base {w : World} {b b' e s n : Nat} {v : Value} {xs : List Value} (h : w.ownsRow b e s v n xs) (hb : b' ≤ b) : w.ownsRow b' e s v n xs := by
  refine ⟨h.1, ?_⟩
  rcases h.2 with hn | ⟨g, cap, cur, rfl, hg, rest⟩
  · exact .inl hn
  · exact .inr ⟨g, cap, cur, rfl, Nat.le_trans hb hg, rest⟩

/-- What a slice of bytes reads as. -/
def Bs (w : World) (a : Option Addr) (n cap : Nat) (xs : List Int) : Prop :=
  (a = none → cap = 0) ∧ xs.length = n ∧ n ≤ cap ∧ (∀ x ∈ xs, 0 ≤ x ∧ x < 256) ∧ (n = 0 ∨ ∃ b o, a = some ⟨b, o, none⟩ ∧ b < w.heap.size ∧ ∀ j, j < n → w.cell? ⟨b, o + j, none⟩ = some (.int .u8 (xs.getD j 0)))

theorem Bs.below {w w' : World} {a : Option Addr} {n cap : Nat} {xs : List Int} (h : Bs w a n cap xs) (hb : Below w.heap.size w w') : Bs w' a n cap xs := by
  obtain ⟨h0, h1, h2, h3, h4⟩ := h
  refine ⟨h0, h1, h2, h3, ?_⟩
  rcases h4 with h4 | ⟨b, o, ha, hlt, hc⟩
  · exact .inl h4
  · exact .inr ⟨b, o, ha, Nat.lt_of_lt_of_le hlt hb.size, fun j hj => (hb.cell (p := ⟨b, o + j, none⟩) hlt).trans (hc j hj)⟩

/-- A row that a call owns, opened. -/
theorem own_shape {w : World} {base n : Nat} {v : Value} {xs : List Int} (h : w.ownsRow base 5 1 v n (U8 xs)) :
    xs.length = n ∧ ((v = .slice none 0 0 ∧ n = 0) ∨ ∃ g cap, v = .slice (some ⟨g, 0, none⟩) n cap ∧ base ≤ g ∧ g < w.heap.size ∧ n ≤ cap ∧ cap ≤ maxLen ∧
      (∀ j, j < n → w.cell? ⟨g, j, none⟩ = some (.int .u8 (xs.getD j 0))) ∧ ∀ j, w.frozen? ⟨g, j, none⟩ = false) := by
  have hl : xs.length = n := by have := h.1; simpa using this
  refine ⟨hl, ?_⟩
  rcases h.2 with hn | ⟨g, cap, cur, rfl, hg, hgg, h1, h2, h3, h4⟩
  · exact .inl hn
  · refine .inr ⟨g, cap, rfl, hg, (Array.getElem?_eq_some_iff.1 hgg).1, h1, h2, fun j hj => ?_, fun j => h.frozenAt j⟩
    rw [h.cellAt j (by omega)]
    have hx : j < xs.length := by omega
    simp [hx]

theorem Bs.own {w : World} {base n : Nat} {v : Value} {xs : List Int} (h : w.ownsRow base 5 1 v n (U8 xs)) (hx : ∀ x ∈ xs, 0 ≤ x ∧ x < 256) :
    ∃ a cap, v = .slice a n cap ∧ cap ≤ maxLen ∧ Bs w a n cap xs := by
  obtain ⟨hl, h⟩ := own_shape h
  rcases h with ⟨rfl, rfl⟩ | ⟨g, cap, rfl, hg, hgs, h1, h2, hc, _⟩
  · exact ⟨none, 0, rfl, by unfold maxLen; omega, fun _ => rfl, hl, Nat.le_refl _, hx, .inl rfl⟩
  · exact ⟨_, cap, rfl, h2, (fun h => by cases h), hl, h1, hx, .inr ⟨g, 0, rfl, hgs, fun j hj => by simpa using hc j hj⟩⟩

theorem get_byte {xs : List Int} (h : ∀ x ∈ xs, 0 ≤ x ∧ x < 256) {i : Nat} (hi : i < xs.length) : 0 ≤ xs.getD i 0 ∧ xs.getD i 0 < 256 := by
  have e : xs.getD i 0 = xs[i] := by simp [hi]
  rw [e]; exact h _ (List.getElem_mem hi)

theorem byte_wf {n : Int} (h : (Lit.int .u8 n).wf = true) : 0 ≤ n ∧ n < 256 := by
  have h1 : IntKind.u8.min ≤ n ∧ n ≤ IntKind.u8.max := by simpa [Lit.wf] using h
  simp [IntKind.min, IntKind.max, IntKind.signed, IntKind.bits] at h1
  omega

theorem bs_of_arg {w : World} {x : Addr} {len cap : Nat} {zs : List Int} (hl : len ≤ cap) (hz : zs.length = cap) (hc : ∀ i, i < zs.length → w.cell? (x.add i) = some (.int .u8 (zs.getD i 0))) (hwf : ∀ n ∈ zs, (Lit.int .u8 n).wf = true) :
    Bs w (some x) len cap (zs.take len) := by
  refine ⟨(fun h => by cases h), by simp; omega, hl, fun n hn => byte_wf (hwf n (List.mem_of_mem_take hn)), ?_⟩
  by_cases h0 : len = 0
  · exact .inl h0
  · obtain ⟨b, off, spot⟩ := x
    have h1 := hc 0 (by omega)
    have hspot : spot = none := by simpa [Addr.add] using World.cell?_spot h1
    subst hspot
    refine .inr ⟨b, off, rfl, World.block_lt_of_cell? w _ h1, fun j hj => ?_⟩
    have h2 := hc j (by omega)
    rw [Addr.add_lit] at h2
    rw [h2]
    simp [hj]

theorem take_snoc (xs : List Int) (k : Nat) (h : k < xs.length) : xs.take (k + 1) = xs.take k ++ [xs.getD k 0] := by
  rw [List.take_succ_eq_append_getElem h]; simp [h]

end Go.Proofs.Ytgfjbaigmkdbcaa
namespace Go.Proofs.Ytgfjbaigmkdbcaa
open Go.RowKit

abbrev I64 (xs : List Int) : List Value := xs.map (Value.int .i64)





/-- What a slice of ints reads as. -/
def Is (w : World) (a : Option Addr) (n cap : Nat) (xs : List Int) : Prop :=
  (a = none → cap = 0) ∧ xs.length = n ∧ n ≤ cap ∧ (∀ x ∈ xs, -9223372036854775808 ≤ x ∧ x ≤ 9223372036854775807) ∧ (n = 0 ∨ ∃ b o, a = some ⟨b, o, none⟩ ∧ b < w.heap.size ∧ ∀ j, j < n → w.cell? ⟨b, o + j, none⟩ = some (.int .i64 (xs.getD j 0)))

theorem Is.below {w w' : World} {a : Option Addr} {n cap : Nat} {xs : List Int} (h : Is w a n cap xs) (hb : Below w.heap.size w w') : Is w' a n cap xs := by
  obtain ⟨h0, h1, h2, h3, h4⟩ := h
  refine ⟨h0, h1, h2, h3, ?_⟩
  rcases h4 with h4 | ⟨b, o, ha, hlt, hc⟩
  · exact .inl h4
  · exact .inr ⟨b, o, ha, Nat.lt_of_lt_of_le hlt hb.size, fun j hj => (hb.cell (p := ⟨b, o + j, none⟩) hlt).trans (hc j hj)⟩

/-- A row that a call owns, opened. -/
theorem own_shapeI {w : World} {base n e : Nat} {v : Value} {xs : List Int} (h : w.ownsRow base e 1 v n (I64 xs)) :
    xs.length = n ∧ ((v = .slice none 0 0 ∧ n = 0) ∨ ∃ g cap, v = .slice (some ⟨g, 0, none⟩) n cap ∧ base ≤ g ∧ g < w.heap.size ∧ n ≤ cap ∧ cap ≤ maxLen ∧
      (∀ j, j < n → w.cell? ⟨g, j, none⟩ = some (.int .i64 (xs.getD j 0))) ∧ ∀ j, w.frozen? ⟨g, j, none⟩ = false) := by
  have hl : xs.length = n := by have := h.1; simpa using this
  refine ⟨hl, ?_⟩
  rcases h.2 with hn | ⟨g, cap, cur, rfl, hg, hgg, h1, h2, h3, h4⟩
  · exact .inl hn
  · refine .inr ⟨g, cap, rfl, hg, (Array.getElem?_eq_some_iff.1 hgg).1, h1, h2, fun j hj => ?_, fun j => h.frozenAt j⟩
    rw [h.cellAt j (by omega)]
    have hx : j < xs.length := by omega
    simp [hx]

theorem Is.own {w : World} {base n e : Nat} {v : Value} {xs : List Int} (h : w.ownsRow base e 1 v n (I64 xs)) (hx : ∀ x ∈ xs, -9223372036854775808 ≤ x ∧ x ≤ 9223372036854775807) :
    ∃ a cap, v = .slice a n cap ∧ cap ≤ maxLen ∧ Is w a n cap xs := by
  obtain ⟨hl, h⟩ := own_shapeI h
  rcases h with ⟨rfl, rfl⟩ | ⟨g, cap, rfl, hg, hgs, h1, h2, hc, _⟩
  · exact ⟨none, 0, rfl, by unfold maxLen; omega, fun _ => rfl, hl, Nat.le_refl _, hx, .inl rfl⟩
  · exact ⟨_, cap, rfl, h2, (fun h => by cases h), hl, h1, hx, .inr ⟨g, 0, rfl, hgs, fun j hj => by simpa using hc j hj⟩⟩

theorem get_int {xs : List Int} (h : ∀ x ∈ xs, -9223372036854775808 ≤ x ∧ x ≤ 9223372036854775807) {i : Nat} (hi : i < xs.length) : -9223372036854775808 ≤ xs.getD i 0 ∧ xs.getD i 0 ≤ 9223372036854775807 := by
  have e : xs.getD i 0 = xs[i] := by simp [hi]
  rw [e]; exact h _ (List.getElem_mem hi)

theorem int_wf {n : Int} (h : (Lit.int .i64 n).wf = true) : -9223372036854775808 ≤ n ∧ n ≤ 9223372036854775807 := by
  have h1 : IntKind.i64.min ≤ n ∧ n ≤ IntKind.i64.max := by simpa [Lit.wf] using h
  simp [IntKind.min, IntKind.max, IntKind.signed, IntKind.bits] at h1
  omega

theorem is_of_arg {w : World} {x : Addr} {len cap : Nat} {zs : List Int} (hl : len ≤ cap) (hz : zs.length = cap) (hc : ∀ i, i < zs.length → w.cell? (x.add i) = some (.int .i64 (zs.getD i 0))) (hwf : ∀ n ∈ zs, (Lit.int .i64 n).wf = true) :
    Is w (some x) len cap (zs.take len) := by
  refine ⟨(fun h => by cases h), by simp; omega, hl, fun n hn => int_wf (hwf n (List.mem_of_mem_take hn)), ?_⟩
  by_cases h0 : len = 0
  · exact .inl h0
  · obtain ⟨b, off, spot⟩ := x
    have h1 := hc 0 (by omega)
    have hspot : spot = none := by simpa [Addr.add] using World.cell?_spot h1
    subst hspot
    refine .inr ⟨b, off, rfl, World.block_lt_of_cell? w _ h1, fun j hj => ?_⟩
    have h2 := hc j (by omega)
    rw [Addr.add_lit] at h2
    rw [h2]
    simp [hj]



end Go.Proofs.Ytgfjbaigmkdbcaa
namespace Go.Proofs.Ytgfjbaigmkdbcaa
open Go.RowKit

theorem Try.info5 : (Try.prog.info? 5).map (fun i => (i.zero, i.size, i.bytes)) = some (some (.int .u8 0), 1, 1) := by kernel_rfl
theorem Try.info3 : (Try.prog.info? 3).map (fun i => (i.zero, i.size, i.bytes)) = some (some (.int .i64 0), 1, 8) := by kernel_rfl
theorem bel_drewN (w : World) (q : Nat) : Below w.heap.size w (w.drewN q) := ⟨rfl, rfl, rfl, Nat.le_refl _, fun _ _ => rfl⟩
theorem grown_trans {a b c : World} {row : Option Nat} (h : a.grownBy b row) (k : b.grownBy c row) : a.grownBy c row :=
  ⟨k.os.trans h.os, k.tape.trans h.tape, k.output.trans h.output, Nat.le_trans h.size k.size, fun i hi hne => (k.block i (Nat.lt_of_lt_of_le hi h.size) hne).trans (h.block i hi hne)⟩
end Go.Proofs.Ytgfjbaigmkdbcaa
namespace Go.Proofs.Ytgfjbaigmkdbcaa
open Go.RowKit

theorem wpl_append_bs {w : World} {ops : Array Oper} {rest : List Oper} {o : Oper} {a : Act} {Q : Exit → Act → World → Prop} (hgd : o.guard = none) (s x : Operand)
    (ho : o.op = .call { callee := .builtin .append, args := #[s, x], argTypes := #[35, 35] })
    (base : Nat) (v : Value) (n : Nat) (xs : List Int) (hs : a.eval s = v) (ao : Option Addr) (m c : Nat) (ys : List Int) (hx : a.eval x = .slice ao m c)
    (hown : w.ownsRow base 5 1 v n (U8 xs)) (hb : Bs w ao m c ys) (hlen : n + m ≤ 1099511627776) (hbase : base ≤ w.heap.size)
    (h : ∀ v' w', w'.ownsRow base 5 1 v' (n + m) (U8 (xs ++ ys)) → w.grownBy w' v.ownBlock → (v' = .slice none 0 0 ↔ v = .slice none 0 0 ∧ m = 0) → wpList Try.prog ops Q rest (a.put o.dst v') w') :
    wpList Try.prog ops Q (o :: rest) a w := by
  obtain ⟨i0, hi, hz0, hz1, hz2⟩ := info_parts Try.info5
  obtain ⟨hcap, hl, hc, _, hb⟩ := hb
  cases ao with
  | none =>
    have hc0 := hcap rfl
    subst hc0
    have hm : m = 0 := by omega
    subst hm
    have hy : ys = [] := List.eq_nil_of_length_eq_zero hl
    subst hy
    exact wpList_append_own_none hgd s x 35 ho base 5 i0 1 Try.underlying35 hi v n (U8 xs) hs hown hx
      (h v w (by simpa using hown) (World.grownBy.refl _ _) (by simp))
  | some ad =>
    refine wpList_append_own w hgd s x 35 ho base 5 i0 (.int .u8 0) 1 1 Try.underlying35 hi hz0 hz1 hz2 rfl (by decide) v n (U8 xs) hs hown ad m c (U8 ys) hx (by simp [hl]) ?_ (ints_oneCell _ _)
      (by unfold maxLen; omega) (by omega) hbase ?_
    · rcases hb with hb | ⟨b, off, ha, _, hcell⟩
      · intro j u hj
        have hy : ys = [] := List.eq_nil_of_length_eq_zero (by omega)
        subst hy
        simp at hj
      · obtain rfl := Option.some.inj ha
        intro j u hj
        have hjl : j < m := by
          have := (List.getElem?_eq_some_iff.1 hj).1
          simpa [hl] using this
        rw [Addr.add_lit, hcell j hjl]
        have e : (U8 ys)[j]? = some (.int .u8 (ys.getD j 0)) := by simp [show j < ys.length by omega]
        rw [e] at hj
        exact hj
    · intro v' w' h1 h2 h3
      exact h v' w' (by simpa using h1) h2 h3

theorem below_app {B n : Nat} {w wr w' : World} {v : Value} {xs : List Value} {o : Obj} (hb : Below B w wr) (hB : B ≤ wr.heap.size) (hown : wr.ownsRow B 5 1 v n xs) (hg : (wr.alloc o).grownBy w' v.ownBlock) : Below B w w' :=
  (hb.alloc hB o).grown hg (by simp; omega) (fun k hk => (hown.lt k hk).1)

theorem below_app0 {B n : Nat} {w wr w' : World} {v : Value} {xs : List Value} (hb : Below B w wr) (hB : B ≤ wr.heap.size) (hown : wr.ownsRow B 5 1 v n xs) (hg : wr.grownBy w' v.ownBlock) : Below B w w' :=
  hb.grown hg hB (fun k hk => (hown.lt k hk).1)

/-- One new cell, as a slice of one byte. -/
theorem Bs.one (w : World) (x : Int) (h0 : 0 ≤ x) (h1 : x < 256) : Bs (w.alloc (.cells #[.int .u8 x] 5)) (some ⟨w.heap.size, 0, none⟩) 1 1 [x] := by
  refine ⟨(fun h => by cases h), rfl, Nat.le_refl _, ?_, .inr ⟨w.heap.size, 0, rfl, by simp, ?_⟩⟩
  · intro y hy; simp at hy; omega
  · intro j hj
    have : j = 0 := by omega
    subst this
    rw [World.cell?_alloc_at _ _ _ _ rfl]; rfl

end Go.Proofs.Ytgfjbaigmkdbcaa
namespace Go.Proofs.Ytgfjbaigmkdbcaa.Ma

/-- The bytes of a number. -/
def numB (n : Int) : List Int :=
  if n < 0 ∨ 2147483647 < n then []
  else if n < 128 then [n]
  else if n < 16384 then [n % 128 + 128, n / 128]
  else if n < 2097152 then [n % 128 + 128, n / 128 % 128 + 128, n / 16384]
  else if n < 268435456 then [n % 128 + 128, n / 128 % 128 + 128, n / 16384 % 128 + 128, n / 2097152]
  else [n % 128 + 128, n / 128 % 128 + 128, n / 16384 % 128 + 128, n / 2097152 % 128 + 128, n / 268435456]

theorem numB_no (n : Int) (h : n < 0 ∨ 2147483647 < n) : numB n = [] := by unfold numB; rw [if_pos h]

theorem numB_one (n : Int) (h0 : 0 ≤ n) (h : n < 128) : numB n = [n] := by
  unfold numB; rw [if_neg (by omega), if_pos h]

theorem numB_step (n : Int) (h0 : 128 ≤ n) (h : n ≤ 2147483647) : numB n = (n % 128 + 128) :: numB (n / 128) := by
  have e1 : n / 128 / 128 = n / 16384 := by omega
  have e2 : n / 128 / 16384 = n / 2097152 := by omega
  have e3 : n / 128 / 2097152 = n / 268435456 := by omega
  unfold numB
  rw [if_neg (by omega), if_neg (by omega), if_neg (show ¬ (n / 128 < 0 ∨ 2147483647 < n / 128) by omega)]
  by_cases a1 : n < 16384
  · rw [if_pos a1, if_pos (show n / 128 < 128 by omega)]
  · rw [if_neg a1, if_neg (show ¬ n / 128 < 128 by omega)]
    by_cases a2 : n < 2097152
    · rw [if_pos a2, if_pos (show n / 128 < 16384 by omega), e1]
    · rw [if_neg a2, if_neg (show ¬ n / 128 < 16384 by omega)]
      by_cases a3 : n < 268435456
      · rw [if_pos a3, if_pos (show n / 128 < 2097152 by omega), e1, e2]
      · rw [if_neg a3, if_neg (show ¬ n / 128 < 2097152 by omega), if_pos (show n / 128 < 268435456 by omega), e1, e2, e3]

theorem numB_len (n : Int) : (numB n).length ≤ 5 := by
  unfold numB; repeat' split
  all_goals simp

theorem numB_byte (n : Int) : ∀ x ∈ numB n, 0 ≤ x ∧ x < 256 := by
  unfold numB
  intro x hx
  split at hx
  · cases hx
  · repeat' split at hx
    all_goals simp only [List.mem_cons, List.not_mem_nil, or_false] at hx
    all_goals omega

theorem numB_pos (n : Int) (h0 : 0 ≤ n) (h : n ≤ 2147483647) : 0 < (numB n).length := by
  unfold numB; rw [if_neg (by omega)]; repeat' split
  all_goals simp

end Go.Proofs.Ytgfjbaigmkdbcaa.Ma
namespace Go.Proofs.Ytgfjbaigmkdbcaa
open Go.RowKit
set_option maxRecDepth 100000
open Ma

set_option maxHeartbeats 400000 in
theorem specPut (a : Option Addr) (n cap : Nat) (xs : List Int) (N : Int) (w : World) (h : Bs w a n cap xs) (hn : n ≤ 2097152) :
    Calls Try.prog 133 #[.slice a n cap, .int .i64 N] w fun e w' => ∃ v, e = .returned v ∧ w'.ownsRow w.heap.size 5 1 v (n + (numB N).length) (U8 (xs ++ numB N)) ∧ Below w.heap.size w w' := by
  obtain ⟨i0, hi, hz0, hz1, hz2⟩ := info_parts Try.info5
  go_enter Try.func133, Try.ntmps133
  have hB : Bs (w.alloc (Obj.cells #[] 5)) a n cap xs := h.below ((Below.refl _ _).alloc (Nat.le_refl _) _)
  have hl : xs.length = n := h.2.1
  clear h
  go_wp2_with (at_builtin; refine wpl_append_bs rfl _ _ rfl w.heap.size _ 0 [] rfl a n cap xs rfl ?_ ?_ ?_ ?_ ?_)
  · exact World.ownsRow_made w #[] 0 (Nat.le_refl _) (by unfold maxLen; omega) rfl
  · exact hB
  · omega
  · simp
  intro v1 w1 hown1 hgrow1 _
  have hbel1 : Below w.heap.size w w1 := ((Below.refl _ _).alloc (Nat.le_refl _) _).grown hgrow1 (by simp) (by intro k hk; simp [Value.ownBlock] at hk; omega)
  clear hgrow1 hB
  by_cases c1 : N < 0
  · go_wp2
    go_ret
    exact ⟨_, rfl, by simpa [numB_no N (.inl c1)] using hown1, hbel1⟩
  by_cases c2 : 2147483647 < N
  · go_wp2
    go_ret
    exact ⟨_, rfl, by simpa [numB_no N (.inr c2)] using hown1, hbel1⟩
  go_wp2
  go_loopw [1, 5] (fun m v wr => ∃ (M : Int) (acc : List Int), m = .int .i64 M ∧ 0 ≤ M ∧ M ≤ 2147483647 ∧ acc ++ numB M = numB N ∧ wr.ownsRow w.heap.size 5 1 v (n + acc.length) (U8 (xs ++ acc)) ∧ Below w.heap.size w wr) (fun m _ _ => (intOf m).toNat)
  case atStart => exact ⟨N, [], rfl, by omega, by omega, rfl, by simpa using hown1, hbel1⟩
  case round =>
    obtain ⟨M, acc, rfl, hM0, hM1, hacc, hown, hb⟩ := hrel
    clear hown1 hbel1
    have hal : acc.length ≤ 5 := by
      have h1 := numB_len N
      rw [← hacc] at h1
      simp at h1
      omega
    have HA : Hid (acc ++ numB M = numB N) := hacc
    clear hacc
    have hsz := hb.size
    by_cases hlt : 127 < M
    · have hcv : IntKind.u8.wrap (M % 128 + 128) = M % 128 + 128 := by simp [IntKind.wrap, IntKind.signed, IntKind.bits]; omega
      go_wp2_with (at_builtin; refine wpl_append_bs rfl _ _ rfl w.heap.size _ (n + acc.length) (xs ++ acc) rfl (some ⟨wr.heap.size, 0, none⟩) 1 1 [M % 128 + 128] rfl (hown.alloc _) ?_ ?_ ?_ ?_)
      · exact Bs.one _ _ (by omega) (by omega)
      · omega
      · first | omega | (simp; omega)
      intro v' w' h1 h2 _
      have hb2 := below_app hb (by omega) hown h2
      have HR : Hid (w'.ownsRow w.heap.size 5 1 v' (n + (acc ++ [M % 128 + 128]).length) (U8 (xs ++ (acc ++ [M % 128 + 128])))) := by
        unfold Hid
        have e : n + (acc ++ [M % 128 + 128]).length = n + acc.length + 1 := by simp; omega
        rw [e]; simpa using h1
      clear h1 h2 hown hb
      go_wp2
      go_roundw
      case rel => exact ⟨M / 128, acc ++ [M % 128 + 128], rfl, by omega, by omega, by rw [List.append_assoc, List.singleton_append, ← numB_step M (by omega) hM1]; exact HA.out, HR.out, hb2⟩
      case measure => simp [intOf]; omega
    · have hcv : IntKind.u8.wrap M = M := by simp [IntKind.wrap, IntKind.signed, IntKind.bits]; omega
      go_wp2_with (at_builtin; refine wpl_append_bs rfl _ _ rfl w.heap.size _ (n + acc.length) (xs ++ acc) rfl (some ⟨wr.heap.size, 0, none⟩) 1 1 [M] rfl (hown.alloc _) ?_ ?_ ?_ ?_)
      · exact Bs.one _ _ (by omega) (by omega)
      · omega
      · first | omega | (simp; omega)
      intro v' w' h1 h2 _
      have hb2 := below_app hb (by omega) hown h2
      have HR : Hid (w'.ownsRow w.heap.size 5 1 v' (n + (numB N).length) (U8 (xs ++ numB N))) := by
        unfold Hid
        have e : acc ++ [M] = numB N := by rw [← numB_one M hM0 (by omega)]; exact HA.out
        have e2 : n + (numB N).length = n + acc.length + 1 := by rw [← e]; simp; omega
        rw [e2, ← e]; simpa using h1
      clear h1 h2 hown hb
      go_wp2
      go_ret
      exact ⟨_, rfl, HR.out, hb2⟩

/-- The five cells of the array. -/
def pad (N : Int) : List Int := numB N ++ List.replicate (5 - (numB N).length) 0

theorem below2 (w : World) (o o' : Obj) : Below w.heap.size w ((w.alloc o).alloc o') := ((Below.refl _ _).alloc (Nat.le_refl _) o).alloc (by simp) o'

theorem split_no (N : Int) (w : World) (h : N < 0 ∨ 2147483647 < N) :
    Calls Try.prog 153 #[.int .i64 N] w fun e w' => e = .returned (.tuple #[.agg (U8 (pad N)).toArray, .int .i64 (numB N).length]) ∧ Below w.heap.size w w' := by
  have hp : (U8 (pad N)).toArray = #[.int .u8 0, .int .u8 0, .int .u8 0, .int .u8 0, .int .u8 0] := by simp [pad, numB_no N h, List.replicate]
  have hq : (((numB N).length : Nat) : Int) = 0 := by simp [numB_no N h]
  rw [hp, hq]
  clear hp hq
  rcases h with h | h
  · go_enter Try.func153, Try.ntmps153
    go_wp2
    refine bodyPost_ret (v := .tuple #[.agg #[.int .u8 0, .int .u8 0, .int .u8 0, .int .u8 0, .int .u8 0], .int .i64 0]) (by simp [results, Try.results153, go_sem]) rfl ⟨rfl, ?_⟩
    exact below2 _ _ _
  · have h' : ¬ N < 0 := by omega
    go_enter Try.func153, Try.ntmps153
    go_wp2
    refine bodyPost_ret (v := .tuple #[.agg #[.int .u8 0, .int .u8 0, .int .u8 0, .int .u8 0, .int .u8 0], .int .i64 0]) (by simp [results, Try.results153, go_sem]) rfl ⟨rfl, ?_⟩
    exact below2 _ _ _

set_option maxHeartbeats 400000 in
theorem split_1 (N : Int) (w : World) (h0 : 0 ≤ N) (h1 : N < 128) :
    Calls Try.prog 153 #[.int .i64 N] w fun e w' => e = .returned (.tuple #[.agg #[.int .u8 (N), .int .u8 0, .int .u8 0, .int .u8 0, .int .u8 0], .int .i64 1]) ∧ Below w.heap.size w w' := by
  have hcv0 : IntKind.u8.wrap (N) = N := by simp [IntKind.wrap, IntKind.signed, IntKind.bits]; omega
  go_enter Try.func153, Try.ntmps153
  go_wp2
  refine wp_loop_rounds 1 ?_
  rw [rounds_succ]
  go_wp2
  refine bodyPost_ret (v := .tuple #[.agg #[.int .u8 (N), .int .u8 0, .int .u8 0, .int .u8 0, .int .u8 0], .int .i64 1]) (by simp [results, Try.results153, go_sem]) rfl ⟨rfl, ?_⟩
  exact below2 _ _ _

set_option maxHeartbeats 400000 in
theorem split_2 (N : Int) (w : World) (h0 : 128 ≤ N) (h1 : N < 16384) :
    Calls Try.prog 153 #[.int .i64 N] w fun e w' => e = .returned (.tuple #[.agg #[.int .u8 ((N) % 128 + 128), .int .u8 (N / 128), .int .u8 0, .int .u8 0, .int .u8 0], .int .i64 2]) ∧ Below w.heap.size w w' := by
  have hcv0 : IntKind.u8.wrap ((N) % 128 + 128) = (N) % 128 + 128 := by simp [IntKind.wrap, IntKind.signed, IntKind.bits]; omega
  have hcv1 : IntKind.u8.wrap (N / 128) = N / 128 := by simp [IntKind.wrap, IntKind.signed, IntKind.bits]; omega
  go_enter Try.func153, Try.ntmps153
  go_wp2
  refine wp_loop_rounds 2 ?_
  rw [rounds_succ]
  go_wp2
  rw [rounds_succ]
  go_wp2
  refine bodyPost_ret (v := .tuple #[.agg #[.int .u8 ((N) % 128 + 128), .int .u8 (N / 128), .int .u8 0, .int .u8 0, .int .u8 0], .int .i64 2]) (by simp [results, Try.results153, go_sem]) rfl ⟨rfl, ?_⟩
  exact below2 _ _ _

set_option maxHeartbeats 400000 in
theorem split_3 (N : Int) (w : World) (h0 : 16384 ≤ N) (h1 : N < 2097152) :
    Calls Try.prog 153 #[.int .i64 N] w fun e w' => e = .returned (.tuple #[.agg #[.int .u8 ((N) % 128 + 128), .int .u8 ((N / 128) % 128 + 128), .int .u8 (N / 128 / 128), .int .u8 0, .int .u8 0], .int .i64 3]) ∧ Below w.heap.size w w' := by
  have hcv0 : IntKind.u8.wrap ((N) % 128 + 128) = (N) % 128 + 128 := by simp [IntKind.wrap, IntKind.signed, IntKind.bits]; omega
  have hcv1 : IntKind.u8.wrap ((N / 128) % 128 + 128) = (N / 128) % 128 + 128 := by simp [IntKind.wrap, IntKind.signed, IntKind.bits]; omega
  have hcv2 : IntKind.u8.wrap (N / 128 / 128) = N / 128 / 128 := by simp [IntKind.wrap, IntKind.signed, IntKind.bits]; omega
  go_enter Try.func153, Try.ntmps153
  go_wp2
  refine wp_loop_rounds 3 ?_
  rw [rounds_succ]
  go_wp2
  rw [rounds_succ]
  go_wp2
  rw [rounds_succ]
  go_wp2
  refine bodyPost_ret (v := .tuple #[.agg #[.int .u8 ((N) % 128 + 128), .int .u8 ((N / 128) % 128 + 128), .int .u8 (N / 128 / 128), .int .u8 0, .int .u8 0], .int .i64 3]) (by simp [results, Try.results153, go_sem]) rfl ⟨rfl, ?_⟩
  exact below2 _ _ _

set_option maxHeartbeats 400000 in
theorem split_4 (N : Int) (w : World) (h0 : 2097152 ≤ N) (h1 : N < 268435456) :
    Calls Try.prog 153 #[.int .i64 N] w fun e w' => e = .returned (.tuple #[.agg #[.int .u8 ((N) % 128 + 128), .int .u8 ((N / 128) % 128 + 128), .int .u8 ((N / 128 / 128) % 128 + 128), .int .u8 (N / 128 / 128 / 128), .int .u8 0], .int .i64 4]) ∧ Below w.heap.size w w' := by
  have hcv0 : IntKind.u8.wrap ((N) % 128 + 128) = (N) % 128 + 128 := by simp [IntKind.wrap, IntKind.signed, IntKind.bits]; omega
  have hcv1 : IntKind.u8.wrap ((N / 128) % 128 + 128) = (N / 128) % 128 + 128 := by simp [IntKind.wrap, IntKind.signed, IntKind.bits]; omega
  have hcv2 : IntKind.u8.wrap ((N / 128 / 128) % 128 + 128) = (N / 128 / 128) % 128 + 128 := by simp [IntKind.wrap, IntKind.signed, IntKind.bits]; omega
  have hcv3 : IntKind.u8.wrap (N / 128 / 128 / 128) = N / 128 / 128 / 128 := by simp [IntKind.wrap, IntKind.signed, IntKind.bits]; omega
  go_enter Try.func153, Try.ntmps153
  go_wp2
  refine wp_loop_rounds 4 ?_
  rw [rounds_succ]
  go_wp2
  rw [rounds_succ]
  go_wp2
  rw [rounds_succ]
  go_wp2
  rw [rounds_succ]
  go_wp2
  refine bodyPost_ret (v := .tuple #[.agg #[.int .u8 ((N) % 128 + 128), .int .u8 ((N / 128) % 128 + 128), .int .u8 ((N / 128 / 128) % 128 + 128), .int .u8 (N / 128 / 128 / 128), .int .u8 0], .int .i64 4]) (by simp [results, Try.results153, go_sem]) rfl ⟨rfl, ?_⟩
  exact below2 _ _ _

set_option maxHeartbeats 400000 in
theorem split_5 (N : Int) (w : World) (h0 : 268435456 ≤ N) (h1 : N < 2147483648) :
    Calls Try.prog 153 #[.int .i64 N] w fun e w' => e = .returned (.tuple #[.agg #[.int .u8 ((N) % 128 + 128), .int .u8 ((N / 128) % 128 + 128), .int .u8 ((N / 128 / 128) % 128 + 128), .int .u8 ((N / 128 / 128 / 128) % 128 + 128), .int .u8 (N / 128 / 128 / 128 / 128)], .int .i64 5]) ∧ Below w.heap.size w w' := by
  have hcv0 : IntKind.u8.wrap ((N) % 128 + 128) = (N) % 128 + 128 := by simp [IntKind.wrap, IntKind.signed, IntKind.bits]; omega
  have hcv1 : IntKind.u8.wrap ((N / 128) % 128 + 128) = (N / 128) % 128 + 128 := by simp [IntKind.wrap, IntKind.signed, IntKind.bits]; omega
  have hcv2 : IntKind.u8.wrap ((N / 128 / 128) % 128 + 128) = (N / 128 / 128) % 128 + 128 := by simp [IntKind.wrap, IntKind.signed, IntKind.bits]; omega
  have hcv3 : IntKind.u8.wrap ((N / 128 / 128 / 128) % 128 + 128) = (N / 128 / 128 / 128) % 128 + 128 := by simp [IntKind.wrap, IntKind.signed, IntKind.bits]; omega
  have hcv4 : IntKind.u8.wrap (N / 128 / 128 / 128 / 128) = N / 128 / 128 / 128 / 128 := by simp [IntKind.wrap, IntKind.signed, IntKind.bits]; omega
  go_enter Try.func153, Try.ntmps153
  go_wp2
  refine wp_loop_rounds 5 ?_
  rw [rounds_succ]
  go_wp2
  rw [rounds_succ]
  go_wp2
  rw [rounds_succ]
  go_wp2
  rw [rounds_succ]
  go_wp2
  rw [rounds_succ]
  go_wp2
  refine bodyPost_ret (v := .tuple #[.agg #[.int .u8 ((N) % 128 + 128), .int .u8 ((N / 128) % 128 + 128), .int .u8 ((N / 128 / 128) % 128 + 128), .int .u8 ((N / 128 / 128 / 128) % 128 + 128), .int .u8 (N / 128 / 128 / 128 / 128)], .int .i64 5]) (by simp [results, Try.results153, go_sem]) rfl ⟨rfl, ?_⟩
  exact below2 _ _ _

theorem split_all (N : Int) (w : World) :
    Calls Try.prog 153 #[.int .i64 N] w fun e w' => e = .returned (.tuple #[.agg (U8 (pad N)).toArray, .int .i64 (numB N).length]) ∧ Below w.heap.size w w' := by
  by_cases h : N < 0 ∨ 2147483647 < N
  · exact split_no N w h
  have e2 : N / 128 / 128 = N / 16384 := by omega
  by_cases a1 : N < 128
  · have e : numB N = [N] := by unfold numB; rw [if_neg h, if_pos a1]
    refine (split_1 N w (by omega) a1).mono ?_
    rintro e' w' ⟨rfl, hb⟩
    exact ⟨by simp [pad, e, List.replicate], hb⟩
  by_cases a2 : N < 16384
  · have e : numB N = [N % 128 + 128, N / 128] := by unfold numB; rw [if_neg h, if_neg a1, if_pos a2]
    refine (split_2 N w (by omega) a2).mono ?_
    rintro e' w' ⟨rfl, hb⟩
    exact ⟨by simp [pad, e, List.replicate], hb⟩
  by_cases a3 : N < 2097152
  · have e : numB N = [N % 128 + 128, N / 128 % 128 + 128, N / 16384] := by unfold numB; rw [if_neg h, if_neg a1, if_neg a2, if_pos a3]
    refine (split_3 N w (by omega) a3).mono ?_
    rintro e' w' ⟨rfl, hb⟩
    exact ⟨by simp [pad, e, List.replicate, e2], hb⟩
  by_cases a4 : N < 268435456
  · have e : numB N = [N % 128 + 128, N / 128 % 128 + 128, N / 16384 % 128 + 128, N / 2097152] := by unfold numB; rw [if_neg h, if_neg a1, if_neg a2, if_neg a3, if_pos a4]
    refine (split_4 N w (by omega) a4).mono ?_
    rintro e' w' ⟨rfl, hb⟩
    exact ⟨by simp [pad, e]; omega, hb⟩
  · have e : numB N = [N % 128 + 128, N / 128 % 128 + 128, N / 16384 % 128 + 128, N / 2097152 % 128 + 128, N / 268435456] := by unfold numB; rw [if_neg h, if_neg a1, if_neg a2, if_neg a3, if_neg a4]
    refine (split_5 N w (by omega) (by omega)).mono ?_
    rintro e' w' ⟨rfl, hb⟩
    exact ⟨by simp [pad, e]; omega, hb⟩

theorem pad_len (N : Int) : (pad N).length = 5 := by have := numB_len N; simp [pad]; omega

theorem five (l : List Int) (h : l.length = 5) : ∃ x0 x1 x2 x3 x4, l = [x0, x1, x2, x3, x4] := by
  match l, h with
  | [x0, x1, x2, x3, x4], _ => exact ⟨x0, x1, x2, x3, x4, rfl⟩

end Go.Proofs.Ytgfjbaigmkdbcaa
