/-
  What is proved here: plain facts on a block of memory that holds just given cells (an array), and how it stays; no program is spoken of, no condition; contracts of the specification's l8version, l8part, l8need, l8ahead: what a part, a need and their order are as plain facts; plain facts on rows that a call owns: how they lie apart, and how they stay while another is written; no program is spoken of, no condition; how bundles lie in memory (parts and needs are rows of four cells, a part's sum a row of bytes); the contract of the specification's l8find.
-/
import Derived.Test.YtofflhhlacdgfaaDoorJM1
import Derived.Laws.Rows
import Derived.Laws.ResultCell
import Derived.Deep.QuietTactic
import Derived.BigQuiet
import Derived.Deep.CutRange
namespace Go.Proofs.YtofflhhlacdgfaaDoor
open Go.RowKit

abbrev U32 (xs : List Int) : List Value := xs.map (Value.int .u32)

/-- Block g holds just these cells; none is frozen. -/
def Arr (w : World) (g : Nat) (t : TypeId) (cs : List Value) : Prop := w.heap[g]? = some (.cells cs.toArray t (0, 0))

section
variable {w w' : World} {g : Nat} {t : TypeId} {cs : List Value}

theorem Arr.lt (h : Arr w g t cs) : g < w.heap.size := (Array.getElem?_eq_some_iff.1 h).1
theorem Arr.cell (h : Arr w g t cs) (j : Nat) : w.cell? ⟨g, j, none⟩ = cs[j]? := by
  rw [cell_of_row w g j _ t _ h]; simp
theorem Arr.u32 {xs : List Int} (h : Arr w g t (U32 xs)) (j : Nat) (hj : j < xs.length) : w.cell? ⟨g, j, none⟩ = some (.int .u32 (xs.getD j 0)) := by
  rw [h.cell j]; simp [hj]
theorem Arr.i64 {xs : List Int} (h : Arr w g t (I64 xs)) (j : Nat) (hj : j < xs.length) : w.cell? ⟨g, j, none⟩ = some (.int .i64 (xs.getD j 0)) := by
  rw [h.cell j]; simp [hj]
theorem Arr.frozen (h : Arr w g t cs) (j : Nat) : w.frozen? ⟨g, j, none⟩ = false := frozen_of_row w g j _ t h
theorem Arr.set (h : Arr w g t cs) (j : Nat) (v : Value) : Arr (w.setCell ⟨g, j, none⟩ v) g t (cs.set j v) := by
  have := heap_setCell_same w g j _ t v h
  unfold Arr
  rw [this]; simp
theorem Arr.other (h : Arr w g t cs) (p : Addr) (v : Value) (hne : g ≠ p.block) : Arr (w.setCell p v) g t cs := by
  unfold Arr
  rw [heap_setCell_other w p g v hne]; exact h
theorem Arr.row (h : Arr w g t cs) (ds : List Value) : Arr (w.setRow g ds.toArray) g t ds := setRow_heap w g _ _ t _ h
theorem Arr.rowOther (h : Arr w g t cs) (k : Nat) (ds : Array Value) (hne : g ≠ k) : Arr (w.setRow k ds) g t cs := (setRow_other w k g ds hne).trans h
theorem Arr.below {B : Nat} (h : Arr w g t cs) (hb : Below B w w') (hB : g < B) : Arr w' g t cs := by
  unfold Arr; rw [hb.block g hB]; exact h
theorem Arr.kept (h : Arr w g t cs) (hb : Below w.heap.size w w') : Arr w' g t cs := h.below hb h.lt
theorem Arr.new (w : World) (cs : List Value) (t : TypeId) : Arr (w.alloc (.cells cs.toArray t)) w.heap.size t cs := heap_alloc_new w _
theorem Arr.alloc (h : Arr w g t cs) (o : Obj) : Arr (w.alloc o) g t cs := (heap_alloc_old w o h.lt).trans h
theorem Arr.drew (h : Arr w g t cs) : Arr w.drew g t cs := h
theorem Arr.drewN (h : Arr w g t cs) (q : Nat) : Arr (w.drewN q) g t cs := h
end

theorem Arr.set8 {w : World} {g : Nat} {t : TypeId} {a0 a1 a2 a3 a4 a5 a6 a7 : Int} (h : Arr w g t (U32 [a0, a1, a2, a3, a4, a5, a6, a7])) (l0 l1 l2 l3 l4 l5 l6 l7 : Int) :
    Arr ((((((((w.setCell ⟨g, 0, none⟩ (.int .u32 l0)).setCell ⟨g, 1, none⟩ (.int .u32 l1)).setCell ⟨g, 2, none⟩ (.int .u32 l2)).setCell ⟨g, 3, none⟩ (.int .u32 l3)).setCell ⟨g, 4, none⟩ (.int .u32 l4)).setCell ⟨g, 5, none⟩ (.int .u32 l5)).setCell ⟨g, 6, none⟩ (.int .u32 l6)).setCell ⟨g, 7, none⟩ (.int .u32 l7))
      g t (U32 [l0, l1, l2, l3, l4, l5, l6, l7]) :=
  (((((((h.set 0 (.int .u32 l0)).set 1 (.int .u32 l1)).set 2 (.int .u32 l2)).set 3 (.int .u32 l3)).set 4 (.int .u32 l4)).set 5 (.int .u32 l5)).set 6 (.int .u32 l6)).set 7 (.int .u32 l7)

theorem set8_below {w0 w : World} {B g : Nat} (h : Below B w0 w) (hg : B ≤ g) (l0 l1 l2 l3 l4 l5 l6 l7 : Value) :
    Below B w0 ((((((((w.setCell ⟨g, 0, none⟩ l0).setCell ⟨g, 1, none⟩ l1).setCell ⟨g, 2, none⟩ l2).setCell ⟨g, 3, none⟩ l3).setCell ⟨g, 4, none⟩ l4).setCell ⟨g, 5, none⟩ l5).setCell ⟨g, 6, none⟩ l6).setCell ⟨g, 7, none⟩ l7) :=
  (((((((h.setCell hg l0).setCell hg l1).setCell hg l2).setCell hg l3).setCell hg l4).setCell hg l5).setCell hg l6).setCell hg l7

theorem setRow_below {B : Nat} {w w' : World} (hb : Below B w w') (g : Nat) (cs : Array Value) (hg : B ≤ g) : Below B w (w'.setRow g cs) :=
  ⟨hb.os, hb.tape, hb.output, by simpa using hb.size, fun i hi => (setRow_other w' g i cs (by omega)).trans (hb.block i hi)⟩

theorem bel_dN {B : Nat} {w w' : World} (hb : Below B w w') (q : Nat) : Below B w (w'.drewN q) := ⟨hb.os, hb.tape, hb.output, hb.size, hb.block⟩

theorem results_row_tmp {P : Program} {fn : Func} {p u : Tmp} {ty : TypeId} {w : World} {g : Nat} {t : TypeId} {cs : List Value} {d : TypeDesc} {v : Value} {tmps : Array Value} (h : fn.results = #[.cell p ty, .tmp u])
    (hp : tmps.getD p undef = .pointer (some ⟨g, 0, none⟩)) (hv : tmps.getD u undef = v) (hg : Arr w g t cs) (hu : P.underlying ty = some d) (hd : (match d with | .struct _ | .array _ _ => true | _ => false) = true) (hi : (P.info? ty).map (·.size) = some cs.length) :
    (results fn tmps).run P w = .ok (.tuple #[.agg cs.toArray, v]) w := by
  have hl := run_loadVar_row (P := P) w g t ty cs.toArray (0, 0) d hg hu hd (by simpa using hi)
  rw [results_cell_tmp h, hp, hv]
  simp [asAddr, Result.andThen, hl]

theorem list8 {l : List Int} (h : l.length = 8) : ∃ a b c d e f g i, l = [a, b, c, d, e, f, g, i] := by
  match l, h with
  | [a, b, c, d, e, f, g, i], _ => exact ⟨a, b, c, d, e, f, g, i, rfl⟩

theorem set_fill (xs : List Int) (n k : Nat) (x : Int) (h : k < xs.length) (hn : xs.length = n) (hx : x = xs.getD k 0) :
    (U32 (xs.take k ++ List.replicate (n - k) 0)).set k (.int .u32 x) = U32 (xs.take (k + 1) ++ List.replicate (n - (k + 1)) 0) := by
  subst hx
  have e : n - k = (n - (k + 1)) + 1 := by omega
  rw [take_snoc xs k h, e, List.replicate_succ]
  have hl : (xs.take k).length = k := by simp; omega
  simp only [U32, List.map_append, List.map_cons]
  rw [List.set_append_right _ _ (by simp; omega)]
  simp [Nat.min_eq_left (show k ≤ xs.length by omega)]

end Go.Proofs.YtofflhhlacdgfaaDoor
namespace Go.Proofs.YtofflhhlacdgfaaDoor
open Go.RowKit
set_option maxRecDepth 100000
set_option maxHeartbeats 1000000

abbrev verOk (n : Int) : Prop := 0 ≤ n ∧ n ≤ 1000
abbrev partOk (k v s : Int) (n : Nat) : Prop := (0 ≤ k ∧ k < 4) ∧ verOk v ∧ (1 ≤ s ∧ s ≤ 192) ∧ n = 32
abbrev needOk (o f t k : Int) : Prop := (0 ≤ k ∧ k < 4) ∧ (0 ≤ o ∧ o < 4) ∧ o ≠ k ∧ verOk f ∧ verOk t ∧ f ≤ t
abbrev needLt (o f t k o' f' t' k' : Int) : Prop := o < o' ∨ o = o' ∧ (k < k' ∨ k = k' ∧ (f < f' ∨ f = f' ∧ t < t'))
/-- A Bool by what it says. -/
theorem by_dec (P : Prop) [Decidable P] : ∃ R : Bool, decide P = R ∧ Hid (P → R = true) ∧ Hid (¬ P → R = false) := ⟨_, rfl, decide_eq_true, decide_eq_false⟩
theorem spec8version (n : Int) (w : World) : Calls Tryd.prog 50 #[.int .i64 n] w fun e w' => e = .returned (.bool (decide (verOk n))) ∧ w' = w := by
  obtain ⟨R, hR, HT, HF⟩ := by_dec (verOk n)
  rw [hR]
  clear hR
  by_cases h1 : 0 ≤ n
  · by_cases h2 : n ≤ 1000
    all_goals
      go_enter Tryd.func50, Tryd.ntmps50
      go_wp2
      go_ret
      exact ⟨by first | (rw [HF.out (by omega)]; rfl) | (rw [HT.out (by omega)]; rfl), rfl⟩
  · go_enter Tryd.func50, Tryd.ntmps50
    go_wp2
    go_ret
    exact ⟨by first | (rw [HF.out (by omega)]; rfl) | (rw [HT.out (by omega)]; rfl), rfl⟩
theorem spec8part (k v s : Int) (a : Option Addr) (n c : Nat) (w : World) : Calls Tryd.prog 51 #[.agg #[.int .i64 k, .int .i64 v, .int .i64 s, .slice a n c]] w fun e w' => e = .returned (.bool (decide (partOk k v s n))) ∧ Below w.heap.size w w' := by
  obtain ⟨R, hR, HT, HF⟩ := by_dec (partOk k v s n)
  rw [hR]
  clear hR
  have B : Below w.heap.size w (w.alloc (.cells #[.int .i64 k, .int .i64 v, .int .i64 s, .slice a n c] 45)) := (Below.refl _ _).alloc (Nat.le_refl _) _
  obtain ⟨W, hW⟩ : ∃ W, W = w.alloc (.cells #[.int .i64 k, .int .i64 v, .int .i64 s, .slice a n c] 45) := ⟨_, rfl⟩
  have A : Arr W w.heap.size 45 [.int .i64 k, .int .i64 v, .int .i64 s, .slice a n c] := by rw [hW]; exact Arr.new _ _ _
  rw [← hW] at B
  have c0 := A.cell 0
  have c1 := A.cell 1
  have c2 := A.cell 2
  have c3 := A.cell 3
  simp at c0 c1 c2 c3
  clear A
  go_enter Tryd.func51, Tryd.ntmps51
  go_upto_region 1 with fail
  rw [← hW]
  clear hW
  by_cases h1 : 0 ≤ k
  · by_cases h2 : k < 4
    · by_cases hv : verOk v
      · by_cases h3 : 1 ≤ s
        · by_cases h4 : s ≤ 192
          · obtain ⟨q, hq, hq'⟩ : ∃ q, ((n : Int) == 32) = q ∧ Hid (q = decide (n = 32)) := ⟨_, rfl, by unfold Hid; by_cases h : n = 32 <;> simp [h]; omega⟩
            have HQ : Hid (R = q) := by
              unfold Hid; rw [hq'.out]
              by_cases h : n = 32
              · rw [HT.out (by omega), decide_eq_true h]
              · rw [HF.out (by omega), decide_eq_false h]
            go_wp2_with fail
            refine (spec8version v _).mono ?_
            rintro e w1 ⟨rfl, hw⟩
            rw [hw, decide_eq_true hv]
            go_wp2
            go_ret
            exact ⟨by rw [HQ.out]; rfl, B⟩
          · go_wp2_with fail
            refine (spec8version v _).mono ?_
            rintro e w1 ⟨rfl, hw⟩
            rw [hw, decide_eq_true hv]
            go_wp2
            go_ret
            exact ⟨by first | (rw [HF.out (by omega)]; rfl) | (rw [HT.out (by omega)]; rfl), B⟩
        · go_wp2_with fail
          refine (spec8version v _).mono ?_
          rintro e w1 ⟨rfl, hw⟩
          rw [hw, decide_eq_true hv]
          go_wp2
          go_ret
          exact ⟨by first | (rw [HF.out (by omega)]; rfl) | (rw [HT.out (by omega)]; rfl), B⟩
      · go_wp2_with fail
        refine (spec8version v _).mono ?_
        rintro e w1 ⟨rfl, hw⟩
        rw [hw, decide_eq_false hv]
        go_wp2
        go_ret
        exact ⟨by first | (rw [HF.out (by omega)]; rfl) | (rw [HT.out (by omega)]; rfl), B⟩
    · go_wp2
      go_ret
      exact ⟨by first | (rw [HF.out (by omega)]; rfl) | (rw [HT.out (by omega)]; rfl), B⟩
  · go_wp2
    go_ret
    exact ⟨by first | (rw [HF.out (by omega)]; rfl) | (rw [HT.out (by omega)]; rfl), B⟩
theorem spec8need (o f t k : Int) (w : World) : Calls Tryd.prog 52 #[.agg #[.int .i64 o, .int .i64 f, .int .i64 t, .int .i64 k]] w fun e w' => e = .returned (.bool (decide (needOk o f t k))) ∧ Below w.heap.size w w' := by
  obtain ⟨R, hR, HT, HF⟩ := by_dec (needOk o f t k)
  rw [hR]
  clear hR
  have B : Below w.heap.size w (w.alloc (.cells #[.int .i64 o, .int .i64 f, .int .i64 t, .int .i64 k] 41)) := (Below.refl _ _).alloc (Nat.le_refl _) _
  obtain ⟨W, hW⟩ : ∃ W, W = w.alloc (.cells #[.int .i64 o, .int .i64 f, .int .i64 t, .int .i64 k] 41) := ⟨_, rfl⟩
  have A : Arr W w.heap.size 41 [.int .i64 o, .int .i64 f, .int .i64 t, .int .i64 k] := by rw [hW]; exact Arr.new _ _ _
  rw [← hW] at B
  have c0 := A.cell 0
  have c1 := A.cell 1
  have c2 := A.cell 2
  have c3 := A.cell 3
  simp at c0 c1 c2 c3
  clear A
  go_enter Tryd.func52, Tryd.ntmps52
  go_upto_region 1 with fail
  rw [← hW]
  clear hW
  by_cases h1 : 0 ≤ k
  case neg => go_wp2; go_ret; exact ⟨by rw [HF.out (by omega)]; rfl, B⟩
  by_cases h2 : k < 4
  case neg => go_wp2; go_ret; exact ⟨by rw [HF.out (by omega)]; rfl, B⟩
  by_cases h3 : 0 ≤ o
  case neg => go_wp2; go_ret; exact ⟨by rw [HF.out (by omega)]; rfl, B⟩
  by_cases h4 : o < 4
  case neg => go_wp2; go_ret; exact ⟨by rw [HF.out (by omega)]; rfl, B⟩
  by_cases h5 : o = k
  case pos => go_wp2; go_ret; exact ⟨by rw [HF.out (by omega)]; rfl, B⟩
  have h5' : (o != k) = true := by simpa using h5
  by_cases hf : verOk f
  case neg =>
    go_wp2_with fail
    refine (spec8version f _).mono ?_
    rintro e w1 ⟨rfl, hw⟩
    rw [hw, decide_eq_false hf]
    go_wp2
    go_ret
    exact ⟨by rw [HF.out (by omega)]; rfl, B⟩
  by_cases ht : verOk t
  case neg =>
    go_wp2_with fail
    refine (spec8version f _).mono ?_
    rintro e w1 ⟨rfl, hw⟩
    rw [hw, decide_eq_true hf]
    go_wp2_with fail
    refine (spec8version t _).mono ?_
    rintro e w1 ⟨rfl, hw⟩
    rw [hw, decide_eq_false ht]
    go_wp2
    go_ret
    exact ⟨by rw [HF.out (by omega)]; rfl, B⟩
  obtain ⟨q, hq, hq'⟩ : ∃ q, decide (f ≤ t) = q ∧ Hid (R = q) := ⟨_, rfl, by
    unfold Hid
    by_cases h : f ≤ t
    · rw [HT.out (by omega), decide_eq_true h]
    · rw [HF.out (by omega), decide_eq_false h]⟩
  go_wp2_with fail
  refine (spec8version f _).mono ?_
  rintro e w1 ⟨rfl, hw⟩
  rw [hw, decide_eq_true hf]
  go_wp2_with fail
  refine (spec8version t _).mono ?_
  rintro e w1 ⟨rfl, hw⟩
  rw [hw, decide_eq_true ht]
  go_wp2
  go_ret
  exact ⟨by rw [hq'.out]; rfl, B⟩
end Go.Proofs.YtofflhhlacdgfaaDoor
namespace Go.Proofs.YtofflhhlacdgfaaDoor
open Go.RowKit

def Apart (u v : Value) : Prop := ∀ k, u.ownBlock = some k → v.ownBlock ≠ some k
theorem Apart.symm {u v : Value} (h : Apart u v) : Apart v u := fun k hk he => h k he hk
theorem apart_of {wA wB : World} {B1 B2 n1 n2 e1 e2 s1 s2 : Nat} {v1 v2 : Value} {l1 l2 : List Value} (h1 : wA.ownsRow B1 e1 s1 v1 n1 l1) (h2 : wB.ownsRow B2 e2 s2 v2 n2 l2) (hs : wA.heap.size ≤ B2) : Apart v1 v2 := by
  intro k hk he
  have e1 := (h1.lt k hk).2
  have e2 := (h2.lt k he).1
  omega

theorem own_other {w : World} {b e s n : Nat} {v : Value} {xs : List Value} (h : w.ownsRow b e s v n xs) (p : Addr) (u : Value) (hp : p.block < b) : (w.setCell p u).ownsRow b e s v n xs := by
  refine ⟨h.1, ?_⟩
  rcases h.2 with hn | ⟨g, cap, cur, rfl, hg, hgg, rest⟩
  · exact .inl hn
  · refine .inr ⟨g, cap, cur, rfl, hg, ?_, rest⟩
    rw [heap_setCell_other w p g u (by omega)]
    exact hgg

theorem is_of_own {W : World} {B n c e : Nat} {a : Option Addr} {l : List Int} (h : W.ownsRow B e 1 (.slice a n c) n (I64 l)) (hby : ∀ x ∈ l, -9223372036854775808 ≤ x ∧ x ≤ 9223372036854775807) : Is W a n c l := by
  obtain ⟨a', c', e, _, hb⟩ := Is.own h hby
  simp only [Value.slice.injEq, true_and] at e
  obtain ⟨rfl, rfl⟩ := e
  exact hb
theorem bs_of_own {W : World} {B n c : Nat} {a : Option Addr} {l : List Int} (h : W.ownsRow B 5 1 (.slice a n c) n (U8 l)) (hby : ∀ x ∈ l, 0 ≤ x ∧ x < 256) : Bs W a n c l := by
  obtain ⟨a', c', e, _, hb⟩ := Bs.own h hby
  simp only [Value.slice.injEq, true_and] at e
  obtain ⟨rfl, rfl⟩ := e
  exact hb

theorem own_kept {W W' : World} {B n e s : Nat} {u v : Value} {l : List Value} (h : W.ownsRow B e s v n l) (hg : W.grownBy W' u.ownBlock) (ha : Apart u v) : W'.ownsRow B e s v n l := by
  refine h.kept hg ?_
  cases hv : v.ownBlock with
  | none => exact .inl rfl
  | some k => exact .inr (fun e => ha k e.symm hv)

theorem below_mark {n e s : Nat} {w wr w' : World} {v : Value} {xs : List Value} (hb : Below w.heap.size w wr) (hown : wr.ownsRow w.heap.size e s v n xs) (hg : wr.grownBy w' v.ownBlock) : Below w.heap.size w w' :=
  hb.grown hg hb.size (fun k hk => (hown.lt k hk).1)

/-- Where a row's block lies. -/
def In (v : Value) (lo hi : Nat) : Prop := ∀ k, v.ownBlock = some k → lo ≤ k ∧ k < hi
theorem In.of {W : World} {B e s n : Nat} {v : Value} {l : List Value} (h : W.ownsRow B e s v n l) : In v B W.heap.size := fun k hk => h.lt k hk
theorem In.apart {u v : Value} {a b c d : Nat} (h : In u a b) (h' : In v c d) (hl : b ≤ c ∨ d ≤ a) : Apart u v := fun k hk he => by
  have := h k hk
  have := h' k he
  omega
theorem In.ne {u : Value} {a b g : Nat} (h : In u a b) (hg : g < a ∨ b ≤ g) : u.ownBlock ≠ some g := fun he => by
  have := h g he
  omega
end Go.Proofs.YtofflhhlacdgfaaDoor
namespace Go.Proofs.YtofflhhlacdgfaaDoor
open Go.RowKit
set_option maxRecDepth 100000
set_option maxHeartbeats 1000000

structure PartM where
  k : Int
  v : Int
  s : Int
  h : List Int
structure NeedM where
  o : Int
  f : Int
  t : Int
  k : Int
structure BunM where
  d : Int
  n : Int
  f : Int
  ps : List PartM
  ns : List NeedM
def pz : PartM := ⟨0, 0, 0, []⟩
def nz : NeedM := ⟨0, 0, 0, 0⟩
/-- The cells of the part at the place of a row. -/
structure PartAt (W : World) (b o : Nat) (p : PartM) (ha : Option Addr) (hc : Nat) : Prop where
  k : W.cell? ⟨b, o, none⟩ = some (.int .i64 p.k)
  v : W.cell? ⟨b, o + 1, none⟩ = some (.int .i64 p.v)
  s : W.cell? ⟨b, o + 2, none⟩ = some (.int .i64 p.s)
  h : W.cell? ⟨b, o + 3, none⟩ = some (.slice ha p.h.length hc)
  by_ : Bs W ha p.h.length hc p.h
structure NeedAt (W : World) (b q : Nat) (p : NeedM) : Prop where
  o : W.cell? ⟨b, q, none⟩ = some (.int .i64 p.o)
  f : W.cell? ⟨b, q + 1, none⟩ = some (.int .i64 p.f)
  t : W.cell? ⟨b, q + 2, none⟩ = some (.int .i64 p.t)
  k : W.cell? ⟨b, q + 3, none⟩ = some (.int .i64 p.k)
/-- What a slice of parts reads as. -/
def Ps (W : World) (a : Option Addr) (n c : Nat) (ps : List PartM) : Prop :=
  (a = none → c = 0) ∧ ps.length = n ∧ n ≤ c ∧ (n = 0 ∨ ∃ b o, a = some ⟨b, o, none⟩ ∧ b < W.heap.size ∧ ∀ i, i < n → ∃ ha hc, PartAt W b (o + i * 4) (ps.getD i pz) ha hc)
def Ns (W : World) (a : Option Addr) (n c : Nat) (ns : List NeedM) : Prop :=
  (a = none → c = 0) ∧ ns.length = n ∧ n ≤ c ∧ (n = 0 ∨ ∃ b o, a = some ⟨b, o, none⟩ ∧ b < W.heap.size ∧ ∀ i, i < n → NeedAt W b (o + i * 4) (ns.getD i nz))
section
variable {W W' : World} {a : Option Addr} {n c : Nat}
theorem PartAt.below {b o : Nat} {p : PartM} {ha : Option Addr} {hc : Nat} (h : PartAt W b o p ha hc) (l : b < W.heap.size) (hb : Below W.heap.size W W') : PartAt W' b o p ha hc :=
  ⟨(hb.cell (p := ⟨b, _, none⟩) l).trans h.k, (hb.cell (p := ⟨b, _, none⟩) l).trans h.v, (hb.cell (p := ⟨b, _, none⟩) l).trans h.s, (hb.cell (p := ⟨b, _, none⟩) l).trans h.h, h.by_.below hb⟩
theorem NeedAt.below {b o : Nat} {p : NeedM} (h : NeedAt W b o p) (l : b < W.heap.size) (hb : Below W.heap.size W W') : NeedAt W' b o p :=
  ⟨(hb.cell (p := ⟨b, _, none⟩) l).trans h.o, (hb.cell (p := ⟨b, _, none⟩) l).trans h.f, (hb.cell (p := ⟨b, _, none⟩) l).trans h.t, (hb.cell (p := ⟨b, _, none⟩) l).trans h.k⟩
theorem Ps.below {ps : List PartM} (h : Ps W a n c ps) (hb : Below W.heap.size W W') : Ps W' a n c ps := by
  obtain ⟨h0, h1, h2, h⟩ := h
  refine ⟨h0, h1, h2, ?_⟩
  rcases h with h | ⟨b, o, e, l, h⟩
  · exact .inl h
  · refine .inr ⟨b, o, e, Nat.lt_of_lt_of_le l hb.size, fun i hi => ?_⟩
    obtain ⟨ha, hc, k⟩ := h i hi
    exact ⟨ha, hc, k.below l hb⟩
theorem Ns.below {ns : List NeedM} (h : Ns W a n c ns) (hb : Below W.heap.size W W') : Ns W' a n c ns := by
  obtain ⟨h0, h1, h2, h⟩ := h
  refine ⟨h0, h1, h2, ?_⟩
  rcases h with h | ⟨b, o, e, l, h⟩
  · exact .inl h
  · exact .inr ⟨b, o, e, Nat.lt_of_lt_of_le l hb.size, fun i hi => (h i hi).below l hb⟩
end
/-- The place of a kind among parts. -/
def fnd (ps : List PartM) (kind : Int) : Int := match ps.findIdx? (fun p => p.k == kind) with | some i => (i : Int) | none => -1
theorem fnd_at {ps : List PartM} {kind : Int} {i : Nat} (hi : i < ps.length) (h : (ps.getD i pz).k = kind) (hn : ∀ j, j < i → (ps.getD j pz).k ≠ kind) : fnd ps kind = i := by
  have : ps.findIdx? (fun p => p.k == kind) = some i := by
    rw [List.findIdx?_eq_some_iff_getElem]
    refine ⟨hi, by simpa [List.getD, List.getElem?_eq_getElem hi] using h, fun j hj => ?_⟩
    have := hn j hj
    simpa [List.getD, List.getElem?_eq_getElem (Nat.lt_trans hj hi)] using this
  unfold fnd
  rw [this]
theorem fnd_no {ps : List PartM} {kind : Int} (hn : ∀ j, j < ps.length → (ps.getD j pz).k ≠ kind) : fnd ps kind = -1 := by
  have : ps.findIdx? (fun p => p.k == kind) = none := by
    rw [List.findIdx?_eq_none_iff]
    intro p hp
    obtain ⟨j, hj, rfl⟩ := List.mem_iff_getElem.1 hp
    have := hn j hj
    simpa [List.getD, List.getElem?_eq_getElem hj] using this
  unfold fnd
  rw [this]
end Go.Proofs.YtofflhhlacdgfaaDoor
