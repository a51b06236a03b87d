/-
  What is proved here: plain facts on rows of bytes in memory (a row that a call owns stays as it is while newer memory is made or another row is written); no program is spoken of, no condition; plain facts on rows of ints in memory (a row that a call owns stays as it is while newer memory is made or another row is written); no program is spoken of, no condition; plain facts on rows that a call owns: how they lie apart, and how they stay while another is written; no program is spoken of, no condition; plain facts on a block of memory that holds just given cells (an array), and how it stays; no program is spoken of, no condition; plain facts on worlds of which one block may have turned, and on reading a part of an array value; no program is spoken of, no condition; plain facts on a variable's block; no condition; what an answer in parts in a row of a given type is; what the program's table says of bytes and of ints, and plain facts on memory; no condition; the contract of a helper of the exact laws (hold two slices of ints against each other), for every slice of at most 2^21 ints.
-/
import Derived.WalkKit
import Derived.Laws.Rows
import Derived.Laws.ResultCell
import Derived.Deep.QuietTactic
import Derived.BigQuiet
import Derived.Deep.RegionHeld3
import Derived.BigRegion
import Derived.Test.YtoblilngppjmhaaDoorProg
namespace Go.Proofs.YtoblilngppjmhaaDoor
open Go.RowKit

abbrev U8 (xs : List Int) : List Value := xs.map (Value.int .u8)

theorem own_below {w w' : World} {b e s n : Nat} {v : Value} {xs : List Value} (h : w.ownsRow b e s v n xs) (hb : Below w.heap.size w w') : w'.ownsRow b e s v n xs := by
  refine ⟨h.1, ?_⟩
  rcases h.2 with hn | ⟨g, cap, cur, rfl, hg, hgg, rest⟩
  · exact .inl hn
  · refine .inr ⟨g, cap, cur, rfl, hg, ?_, rest⟩
    rw [hb.block g (Array.getElem?_eq_some_iff.1 hgg).1]
    exact hgg

theorem own_base {w : World} {b b' e s n : Nat} {v : Value} {xs : List Value} (h : w.ownsRow b e s v n xs) (hb : b' ≤ b) : w.ownsRow b' e s v n xs := by
  refine ⟨h.1, ?_⟩
  rcases h.2 with hn | ⟨g, cap, cur, rfl, hg, rest⟩
  · exact .inl hn
  · exact .inr ⟨g, cap, cur, rfl, Nat.le_trans hb hg, rest⟩

/-- What a slice of bytes reads as. -/
def Bs (w : World) (a : Option Addr) (n cap : Nat) (xs : List Int) : Prop :=
  (a = none → cap = 0) ∧ xs.length = n ∧ n ≤ cap ∧ (∀ x ∈ xs, 0 ≤ x ∧ x < 256) ∧ (n = 0 ∨ ∃ b o, a = some ⟨b, o, none⟩ ∧ b < w.heap.size ∧ ∀ j, j < n → w.cell? ⟨b, o + j, none⟩ = some (.int .u8 (xs.getD j 0)))

theorem Bs.below {w w' : World} {a : Option Addr} {n cap : Nat} {xs : List Int} (h : Bs w a n cap xs) (hb : Below w.heap.size w w') : Bs w' a n cap xs := by
  obtain ⟨h0, h1, h2, h3, h4⟩ := h
  refine ⟨h0, h1, h2, h3, ?_⟩
  rcases h4 with h4 | ⟨b, o, ha, hlt, hc⟩
  · exact .inl h4
  · exact .inr ⟨b, o, ha, Nat.lt_of_lt_of_le hlt hb.size, fun j hj => (hb.cell (p := ⟨b, o + j, none⟩) hlt).trans (hc j hj)⟩

/-- A row that a call owns, opened. -/
theorem own_shape {w : World} {base n : Nat} {v : Value} {xs : List Int} (h : w.ownsRow base 5 1 v n (U8 xs)) :
    xs.length = n ∧ ((v = .slice none 0 0 ∧ n = 0) ∨ ∃ g cap, v = .slice (some ⟨g, 0, none⟩) n cap ∧ base ≤ g ∧ g < w.heap.size ∧ n ≤ cap ∧ cap ≤ maxLen ∧
      (∀ j, j < n → w.cell? ⟨g, j, none⟩ = some (.int .u8 (xs.getD j 0))) ∧ ∀ j, w.frozen? ⟨g, j, none⟩ = false) := by
  have hl : xs.length = n := by have := h.1; simpa using this
  refine ⟨hl, ?_⟩
  rcases h.2 with hn | ⟨g, cap, cur, rfl, hg, hgg, h1, h2, h3, h4⟩
  · exact .inl hn
  · refine .inr ⟨g, cap, rfl, hg, (Array.getElem?_eq_some_iff.1 hgg).1, h1, h2, fun j hj => ?_, fun j => h.frozenAt j⟩
    rw [h.cellAt j (by omega)]
    have hx : j < xs.length := by omega
    simp [hx]

theorem Bs.own {w : World} {base n : Nat} {v : Value} {xs : List Int} (h : w.ownsRow base 5 1 v n (U8 xs)) (hx : ∀ x ∈ xs, 0 ≤ x ∧ x < 256) :
    ∃ a cap, v = .slice a n cap ∧ cap ≤ maxLen ∧ Bs w a n cap xs := by
  obtain ⟨hl, h⟩ := own_shape h
  rcases h with ⟨rfl, rfl⟩ | ⟨g, cap, rfl, hg, hgs, h1, h2, hc, _⟩
  · exact ⟨none, 0, rfl, by unfold maxLen; omega, fun _ => rfl, hl, Nat.le_refl _, hx, .inl rfl⟩
  · exact ⟨_, cap, rfl, h2, (fun h => by cases h), hl, h1, hx, .inr ⟨g, 0, rfl, hgs, fun j hj => by simpa using hc j hj⟩⟩

theorem get_byte {xs : List Int} (h : ∀ x ∈ xs, 0 ≤ x ∧ x < 256) {i : Nat} (hi : i < xs.length) : 0 ≤ xs.getD i 0 ∧ xs.getD i 0 < 256 := by
  have e : xs.getD i 0 = xs[i] := by simp [hi]
  rw [e]; exact h _ (List.getElem_mem hi)

theorem byte_wf {n : Int} (h : (Lit.int .u8 n).wf = true) : 0 ≤ n ∧ n < 256 := by
  have h1 : IntKind.u8.min ≤ n ∧ n ≤ IntKind.u8.max := by simpa [Lit.wf] using h
  simp [IntKind.min, IntKind.max, IntKind.signed, IntKind.bits] at h1
  omega

theorem bs_of_arg {w : World} {x : Addr} {len cap : Nat} {zs : List Int} (hl : len ≤ cap) (hz : zs.length = cap) (hc : ∀ i, i < zs.length → w.cell? (x.add i) = some (.int .u8 (zs.getD i 0))) (hwf : ∀ n ∈ zs, (Lit.int .u8 n).wf = true) :
    Bs w (some x) len cap (zs.take len) := by
  refine ⟨(fun h => by cases h), by simp; omega, hl, fun n hn => byte_wf (hwf n (List.mem_of_mem_take hn)), ?_⟩
  by_cases h0 : len = 0
  · exact .inl h0
  · obtain ⟨b, off, spot⟩ := x
    have h1 := hc 0 (by omega)
    have hspot : spot = none := by simpa [Addr.add] using World.cell?_spot h1
    subst hspot
    refine .inr ⟨b, off, rfl, World.block_lt_of_cell? w _ h1, fun j hj => ?_⟩
    have h2 := hc j (by omega)
    rw [Addr.add_lit] at h2
    rw [h2]
    simp [hj]

theorem take_snoc (xs : List Int) (k : Nat) (h : k < xs.length) : xs.take (k + 1) = xs.take k ++ [xs.getD k 0] := by
  rw [List.take_succ_eq_append_getElem h]; simp [h]

end Go.Proofs.YtoblilngppjmhaaDoor
namespace Go.Proofs.YtoblilngppjmhaaDoor
open Go.RowKit

abbrev I64 (xs : List Int) : List Value := xs.map (Value.int .i64)





/-- What a slice of ints reads as. -/
def Is (w : World) (a : Option Addr) (n cap : Nat) (xs : List Int) : Prop :=
  (a = none → cap = 0) ∧ xs.length = n ∧ n ≤ cap ∧ (∀ x ∈ xs, -9223372036854775808 ≤ x ∧ x ≤ 9223372036854775807) ∧ (n = 0 ∨ ∃ b o, a = some ⟨b, o, none⟩ ∧ b < w.heap.size ∧ ∀ j, j < n → w.cell? ⟨b, o + j, none⟩ = some (.int .i64 (xs.getD j 0)))

theorem Is.below {w w' : World} {a : Option Addr} {n cap : Nat} {xs : List Int} (h : Is w a n cap xs) (hb : Below w.heap.size w w') : Is w' a n cap xs := by
  obtain ⟨h0, h1, h2, h3, h4⟩ := h
  refine ⟨h0, h1, h2, h3, ?_⟩
  rcases h4 with h4 | ⟨b, o, ha, hlt, hc⟩
  · exact .inl h4
  · exact .inr ⟨b, o, ha, Nat.lt_of_lt_of_le hlt hb.size, fun j hj => (hb.cell (p := ⟨b, o + j, none⟩) hlt).trans (hc j hj)⟩

/-- A row that a call owns, opened. -/
theorem own_shapeI {w : World} {base n e : Nat} {v : Value} {xs : List Int} (h : w.ownsRow base e 1 v n (I64 xs)) :
    xs.length = n ∧ ((v = .slice none 0 0 ∧ n = 0) ∨ ∃ g cap, v = .slice (some ⟨g, 0, none⟩) n cap ∧ base ≤ g ∧ g < w.heap.size ∧ n ≤ cap ∧ cap ≤ maxLen ∧
      (∀ j, j < n → w.cell? ⟨g, j, none⟩ = some (.int .i64 (xs.getD j 0))) ∧ ∀ j, w.frozen? ⟨g, j, none⟩ = false) := by
  have hl : xs.length = n := by have := h.1; simpa using this
  refine ⟨hl, ?_⟩
  rcases h.2 with hn | ⟨g, cap, cur, rfl, hg, hgg, h1, h2, h3, h4⟩
  · exact .inl hn
  · refine .inr ⟨g, cap, rfl, hg, (Array.getElem?_eq_some_iff.1 hgg).1, h1, h2, fun j hj => ?_, fun j => h.frozenAt j⟩
    rw [h.cellAt j (by omega)]
    have hx : j < xs.length := by omega
    simp [hx]

theorem Is.own {w : World} {base n e : Nat} {v : Value} {xs : List Int} (h : w.ownsRow base e 1 v n (I64 xs)) (hx : ∀ x ∈ xs, -9223372036854775808 ≤ x ∧ x ≤ 9223372036854775807) :
    ∃ a cap, v = .slice a n cap ∧ cap ≤ maxLen ∧ Is w a n cap xs := by
  obtain ⟨hl, h⟩ := own_shapeI h
  rcases h with ⟨rfl, rfl⟩ | ⟨g, cap, rfl, hg, hgs, h1, h2, hc, _⟩
  · exact ⟨none, 0, rfl, by unfold maxLen; omega, fun _ => rfl, hl, Nat.le_refl _, hx, .inl rfl⟩
  · exact ⟨_, cap, rfl, h2, (fun h => by cases h), hl, h1, hx, .inr ⟨g, 0, rfl, hgs, fun j hj => by simpa using hc j hj⟩⟩

theorem int_wf {n : Int} (h : (Lit.int .i64 n).wf = true) : -9223372036854775808 ≤ n ∧ n ≤ 9223372036854775807 := by
  have h1 : IntKind.i64.min ≤ n ∧ n ≤ IntKind.i64.max := by simpa [Lit.wf] using h
  simp [IntKind.min, IntKind.max, IntKind.signed, IntKind.bits] at h1
  omega

theorem is_of_arg {w : World} {x : Addr} {len cap : Nat} {zs : List Int} (hl : len ≤ cap) (hz : zs.length = cap) (hc : ∀ i, i < zs.length → w.cell? (x.add i) = some (.int .i64 (zs.getD i 0))) (hwf : ∀ n ∈ zs, (Lit.int .i64 n).wf = true) :
    Is w (some x) len cap (zs.take len) := by
  refine ⟨(fun h => by cases h), by simp; omega, hl, fun n hn => int_wf (hwf n (List.mem_of_mem_take hn)), ?_⟩
  by_cases h0 : len = 0
  · exact .inl h0
  · obtain ⟨b, off, spot⟩ := x
    have h1 := hc 0 (by omega)
    have hspot : spot = none := by simpa [Addr.add] using World.cell?_spot h1
    subst hspot
    refine .inr ⟨b, off, rfl, World.block_lt_of_cell? w _ h1, fun j hj => ?_⟩
    have h2 := hc j (by omega)
    rw [Addr.add_lit] at h2
    rw [h2]
    simp [hj]



end Go.Proofs.YtoblilngppjmhaaDoor
namespace Go.Proofs.YtoblilngppjmhaaDoor
open Go.RowKit

def Apart (u v : Value) : Prop := ∀ k, u.ownBlock = some k → v.ownBlock ≠ some k
theorem Apart.symm {u v : Value} (h : Apart u v) : Apart v u := fun k hk he => h k he hk
theorem is_of_own {W : World} {B n c e : Nat} {a : Option Addr} {l : List Int} (h : W.ownsRow B e 1 (.slice a n c) n (I64 l)) (hby : ∀ x ∈ l, -9223372036854775808 ≤ x ∧ x ≤ 9223372036854775807) : Is W a n c l := by
  obtain ⟨a', c', e, _, hb⟩ := Is.own h hby
  simp only [Value.slice.injEq, true_and] at e
  obtain ⟨rfl, rfl⟩ := e
  exact hb
theorem bs_of_own {W : World} {B n c : Nat} {a : Option Addr} {l : List Int} (h : W.ownsRow B 5 1 (.slice a n c) n (U8 l)) (hby : ∀ x ∈ l, 0 ≤ x ∧ x < 256) : Bs W a n c l := by
  obtain ⟨a', c', e, _, hb⟩ := Bs.own h hby
  simp only [Value.slice.injEq, true_and] at e
  obtain ⟨rfl, rfl⟩ := e
  exact hb

theorem own_kept {W W' : World} {B n e s : Nat} {u v : Value} {l : List Value} (h : W.ownsRow B e s v n l) (hg : W.grownBy W' u.ownBlock) (ha : Apart u v) : W'.ownsRow B e s v n l := by
  refine h.kept hg ?_
  cases hv : v.ownBlock with
  | none => exact .inl rfl
  | some k => exact .inr (fun e => ha k e.symm hv)

/-- Where a row's block lies. -/
def In (v : Value) (lo hi : Nat) : Prop := ∀ k, v.ownBlock = some k → lo ≤ k ∧ k < hi
theorem In.of {W : World} {B e s n : Nat} {v : Value} {l : List Value} (h : W.ownsRow B e s v n l) : In v B W.heap.size := fun k hk => h.lt k hk
theorem In.apart {u v : Value} {a b c d : Nat} (h : In u a b) (h' : In v c d) (hl : b ≤ c ∨ d ≤ a) : Apart u v := fun k hk he => by
  have := h k hk
  have := h' k he
  omega
theorem In.ne {u : Value} {a b g : Nat} (h : In u a b) (hg : g < a ∨ b ≤ g) : u.ownBlock ≠ some g := fun he => by
  have := h g he
  omega
end Go.Proofs.YtoblilngppjmhaaDoor
namespace Go.Proofs.YtoblilngppjmhaaDoor
open Go.RowKit

/-- Block g holds just these cells; none is frozen. -/
def Arr (w : World) (g : Nat) (t : TypeId) (cs : List Value) : Prop := w.heap[g]? = some (.cells cs.toArray t (0, 0))

section
variable {w w' : World} {g : Nat} {t : TypeId} {cs : List Value}

theorem Arr.lt (h : Arr w g t cs) : g < w.heap.size := (Array.getElem?_eq_some_iff.1 h).1
theorem Arr.cell (h : Arr w g t cs) (j : Nat) : w.cell? ⟨g, j, none⟩ = cs[j]? := by
  rw [cell_of_row w g j _ t _ h]; simp
theorem Arr.i64 {xs : List Int} (h : Arr w g t (I64 xs)) (j : Nat) (hj : j < xs.length) : w.cell? ⟨g, j, none⟩ = some (.int .i64 (xs.getD j 0)) := by
  rw [h.cell j]; simp [hj]
theorem Arr.frozen (h : Arr w g t cs) (j : Nat) : w.frozen? ⟨g, j, none⟩ = false := frozen_of_row w g j _ t h
theorem Arr.set (h : Arr w g t cs) (j : Nat) (v : Value) : Arr (w.setCell ⟨g, j, none⟩ v) g t (cs.set j v) := by
  have := heap_setCell_same w g j _ t v h
  unfold Arr
  rw [this]; simp
theorem Arr.other (h : Arr w g t cs) (p : Addr) (v : Value) (hne : g ≠ p.block) : Arr (w.setCell p v) g t cs := by
  unfold Arr
  rw [heap_setCell_other w p g v hne]; exact h
theorem Arr.row (h : Arr w g t cs) (ds : List Value) : Arr (w.setRow g ds.toArray) g t ds := setRow_heap w g _ _ t _ h
theorem Arr.rowOther (h : Arr w g t cs) (k : Nat) (ds : Array Value) (hne : g ≠ k) : Arr (w.setRow k ds) g t cs := (setRow_other w k g ds hne).trans h
theorem Arr.below {B : Nat} (h : Arr w g t cs) (hb : Below B w w') (hB : g < B) : Arr w' g t cs := by
  unfold Arr; rw [hb.block g hB]; exact h
theorem Arr.kept (h : Arr w g t cs) (hb : Below w.heap.size w w') : Arr w' g t cs := h.below hb h.lt
theorem Arr.new (w : World) (cs : List Value) (t : TypeId) : Arr (w.alloc (.cells cs.toArray t)) w.heap.size t cs := heap_alloc_new w _
theorem Arr.alloc (h : Arr w g t cs) (o : Obj) : Arr (w.alloc o) g t cs := (heap_alloc_old w o h.lt).trans h
theorem Arr.drew (h : Arr w g t cs) : Arr w.drew g t cs := h
theorem Arr.drewN (h : Arr w g t cs) (q : Nat) : Arr (w.drewN q) g t cs := h
end

theorem setRow_below {B : Nat} {w w' : World} (hb : Below B w w') (g : Nat) (cs : Array Value) (hg : B ≤ g) : Below B w (w'.setRow g cs) :=
  ⟨hb.os, hb.tape, hb.output, by simpa using hb.size, fun i hi => (setRow_other w' g i cs (by omega)).trans (hb.block i hi)⟩

theorem bel_dN {B : Nat} {w w' : World} (hb : Below B w w') (q : Nat) : Below B w (w'.drewN q) := ⟨hb.os, hb.tape, hb.output, hb.size, hb.block⟩

theorem results_row_tmp {P : Program} {fn : Func} {p u : Tmp} {ty : TypeId} {w : World} {g : Nat} {t : TypeId} {cs : List Value} {d : TypeDesc} {v : Value} {tmps : Array Value} (h : fn.results = #[.cell p ty, .tmp u])
    (hp : tmps.getD p undef = .pointer (some ⟨g, 0, none⟩)) (hv : tmps.getD u undef = v) (hg : Arr w g t cs) (hu : P.underlying ty = some d) (hd : (match d with | .struct _ | .array _ _ => true | _ => false) = true) (hi : (P.info? ty).map (·.size) = some cs.length) :
    (results fn tmps).run P w = .ok (.tuple #[.agg cs.toArray, v]) w := by
  have hl := run_loadVar_row (P := P) w g t ty cs.toArray (0, 0) d hg hu hd (by simpa using hi)
  rw [results_cell_tmp h, hp, hv]
  simp [asAddr, Result.andThen, hl]

end Go.Proofs.YtoblilngppjmhaaDoor
namespace Go.Proofs.YtoblilngppjmhaaDoor
open Go.RowKit
set_option linter.unusedSimpArgs false

theorem index_arr {P : Program} {t e : TypeId} {n : Nat} {K : IntKind} (hu : P.underlying t = some (.array n e)) (he : P.underlying e = some (.int K)) (hs : (P.info? e).map (·.size) = some 1) (xs : List Int) (hl : xs.length = n) (k : Nat) (hk : k < n) (w : World) :
    (Instr.index t (.agg (xs.map (Value.int K)).toArray) (.int .i64 (k : Int))).run P w = .ok (.int K (xs.getD k 0)) w := by
  cases hq : P.info? e with
  | none => simp [hq] at hs
  | some i =>
    have hz : i.size = 1 := by simpa [hq] using hs
    have hk' : (k : Int) < (n : Int) := by omega
    have hkx : k < xs.length := by omega
    simp [Instr.index, run_underlying hu, run_underlying he, asIntOf, part, isAgg, sizeOf, typeInfo, hq, hz, hk', hkx, go_sem]
    intro h
    omega

end Go.Proofs.YtoblilngppjmhaaDoor
namespace Go.Proofs.YtoblilngppjmhaaDoor
open Go.RowKit

/-- A variable's block holds these cells. -/
def Vr (w : World) (g : Nat) (cs : List Value) : Prop := ∃ t z, w.heap[g]? = some (.cells cs.toArray t z)
theorem Vr.lt {w : World} {g : Nat} {cs : List Value} (h : Vr w g cs) : g < w.heap.size := by
  obtain ⟨t, z, h⟩ := h
  exact (Array.getElem?_eq_some_iff.1 h).1
theorem Vr.below {w w' : World} {B g : Nat} {cs : List Value} (h : Vr w g cs) (hb : Below B w w') (hg : g < B) : Vr w' g cs := by
  obtain ⟨t, z, h⟩ := h
  exact ⟨t, z, (hb.block g hg).trans h⟩
theorem Vr.kept {w w' : World} {g : Nat} {cs : List Value} (h : Vr w g cs) (hb : Below w.heap.size w w') : Vr w' g cs := h.below hb h.lt
theorem Vr.cell {w : World} {g : Nat} {cs : List Value} (h : Vr w g cs) (j : Nat) : w.cell? ⟨g, j, none⟩ = cs[j]? := by
  obtain ⟨t, z, h⟩ := h
  rw [cell_of_row w g j _ t _ h]; simp
theorem Vr.int {w : World} {g : Nat} {K : IntKind} {xs : List Int} (h : Vr w g (xs.map (Value.int K))) (j : Nat) (hj : j < xs.length) : w.cell? ⟨g, j, none⟩ = some (.int K (xs.getD j 0)) := by
  rw [h.cell j]; simp [hj]

end Go.Proofs.YtoblilngppjmhaaDoor
namespace Go.Proofs.YtoblilngppjmhaaDoor
open Go.RowKit

/-- An answer that is a number of the field, in memory of its own, in a row of type ty. -/
def FeT (ty : TypeId) (w w' : World) (v : Value) (l : List Int) : Prop := ∃ a c, v = .agg #[.slice a l.length c] ∧ w'.ownsRow w.heap.size ty 1 (.slice a l.length c) l.length (I64 l)
theorem feT_nil (ty : TypeId) (w w' : World) : FeT ty w w' (.agg #[.slice none 0 0]) [] := ⟨none, 0, rfl, World.ownsRow_nil _ _ _ _⟩
theorem feT_16 {ty : TypeId} {w w' : World} {a : Option Addr} {c : Nat} {l : List Int} (hl : l.length = 16) (h : w'.ownsRow w.heap.size ty 1 (.slice a 16 c) 16 (I64 l)) : FeT ty w w' (.agg #[.slice a 16 c]) l := ⟨a, c, by rw [hl], by rw [hl]; exact h⟩
end Go.Proofs.YtoblilngppjmhaaDoor
namespace Go.Proofs.YtoblilngppjmhaaDoor
open Go.RowKit

theorem Tryd.info5 : (Tryd.prog.info? 5).map (fun i => (i.zero, i.size, i.bytes)) = some (some (.int .u8 0), 1, 1) := by kernel_rfl
theorem Tryd.info3 : (Tryd.prog.info? 3).map (fun i => (i.zero, i.size, i.bytes)) = some (some (.int .i64 0), 1, 8) := by kernel_rfl
theorem bel_drewN (w : World) (q : Nat) : Below w.heap.size w (w.drewN q) := ⟨rfl, rfl, rfl, Nat.le_refl _, fun _ _ => rfl⟩
theorem grown_trans {a b c : World} {row : Option Nat} (h : a.grownBy b row) (k : b.grownBy c row) : a.grownBy c row :=
  ⟨k.os.trans h.os, k.tape.trans h.tape, k.output.trans h.output, Nat.le_trans h.size k.size, fun i hi hne => (k.block i (Nat.lt_of_lt_of_le hi h.size) hne).trans (h.block i hi hne)⟩
end Go.Proofs.YtoblilngppjmhaaDoor
namespace Go.Proofs.YtoblilngppjmhaaDoor
open Go.RowKit

theorem set_takeI (xs : List Int) (n k : Nat) (h : k < xs.length) (hn : xs.length = n) :
    (I64 (xs.take k ++ List.replicate (n - k) 0)).set k (.int .i64 (xs.getD k 0)) = I64 (xs.take (k + 1) ++ List.replicate (n - (k + 1)) 0) := by
  have e : n - k = (n - (k + 1)) + 1 := by omega
  rw [take_snoc xs k h, e, List.replicate_succ]
  have hl : (xs.take k).length = k := by simp; omega
  simp only [I64, List.map_append, List.map_cons]
  rw [List.set_append_right _ _ (by simp; omega)]
  simp [Nat.min_eq_left (show k ≤ xs.length by omega)]

set_option maxHeartbeats 400000 in
theorem eqI (a a' : Option Addr) (n cap cap' : Nat) (xs : List Int) (w : World) (h : Is w a n cap xs) (h' : Is w a' n cap' xs) (hn : n ≤ 2097152) :
    Calls Tryd.prog 97 #[.slice a n cap, .slice a' n cap'] w fun e w' => ∃ q, e = .returned (.bool true) ∧ w' = w.drewN q := by
  obtain ⟨_, hl, hc, hby, h⟩ := h
  obtain ⟨_, _, hc', _, h'⟩ := h'
  have hne : ((n : Int) != (n : Int)) = false := by simp
  go_enter Tryd.func97, Tryd.ntmps97
  go_wp2
  go_loopw [5] (fun i wr => ∃ k q : Nat, k ≤ n ∧ i = .int .i64 k ∧ wr = w.drewN q) (fun i _ => n - (intOf i).toNat)
  case atStart => exact ⟨0, 0, Nat.zero_le _, rfl, rfl⟩
  case round =>
    obtain ⟨k, q, hk, rfl, rfl⟩ := hrel
    by_cases hlt : k < n
    · rcases h with h | ⟨b, o, rfl, hbs, hcell⟩
      · omega
      · rcases h' with h' | ⟨b', o', rfl, hbs', hcell'⟩
        · omega
        · obtain ⟨x, hx⟩ : ∃ x, x = xs.getD k 0 := ⟨_, rfl⟩
          have hck : w.cell? ⟨b, o + k, none⟩ = some (.int .i64 x) := by rw [hx]; exact hcell k hlt
          have hck' : w.cell? ⟨b', o' + k, none⟩ = some (.int .i64 x) := by rw [hx]; exact hcell' k hlt
          have hxx : (x != x) = false := by simp
          have hlt' : (k : Int) < (n : Int) := by omega
          clear hcell hcell' hx
          go_wp2
          go_quiet (fail)
          go_wp2
          go_roundw
          case rel => exact ⟨k + 1, _, by omega, by go_num, rfl⟩
          case measure => simp [intOf]; omega
    · go_wp2
      go_ret
      exact ⟨q, rfl, rfl⟩

end Go.Proofs.YtoblilngppjmhaaDoor
