/-
  What is proved here: rows of four cells an element, in memory of their own; no program is spoken of.
-/
import Derived.Test.YtgfjbaigmkdbcaaC0g
import Derived.Test.YtgfjbaigmkdbcaaBas
import Derived.Test.YtgfjbaigmkdbcaaW64
import Derived.Test.YtgfjbaigmkdbcaaApp
namespace Go.Proofs.Ytgfjbaigmkdbcaa
open Go.RowKit
set_option maxRecDepth 100000
set_option linter.unusedVariables false

structure L4 where
  a : Value
  b : Value
  c : Value
  d : Value
structure Cell4 (W : World) (b o : Nat) (x : L4) : Prop where
  h0 : W.cell? ⟨b, o, none⟩ = some x.a
  h1 : W.cell? ⟨b, o + 1, none⟩ = some x.b
  h2 : W.cell? ⟨b, o + 2, none⟩ = some x.c
  h3 : W.cell? ⟨b, o + 3, none⟩ = some x.d
theorem Cell4.below {W W' : World} {b o : Nat} {x : L4} (h : Cell4 W b o x) (l : b < W.heap.size) (hb : Below W.heap.size W W') : Cell4 W' b o x :=
  ⟨(hb.cell (p := ⟨b, _, none⟩) l).trans h.h0, (hb.cell (p := ⟨b, _, none⟩) l).trans h.h1, (hb.cell (p := ⟨b, _, none⟩) l).trans h.h2, (hb.cell (p := ⟨b, _, none⟩) l).trans h.h3⟩
def Rw4 (W : World) (a : Option Addr) (n : Nat) (v : Nat → L4) : Prop := n = 0 ∨ ∃ b o, a = some ⟨b, o, none⟩ ∧ b < W.heap.size ∧ ∀ i, i < n → Cell4 W b (o + i * 4) (v i)
theorem Rw4.below {W W' : World} {a : Option Addr} {n : Nat} {v : Nat → L4} (h : Rw4 W a n v) (hb : Below W.heap.size W W') : Rw4 W' a n v := by
  rcases h with h | ⟨b, o, e, l, h⟩
  · exact .inl h
  · exact .inr ⟨b, o, e, Nat.lt_of_lt_of_le l hb.size, fun i hi => (h i hi).below l hb⟩
def lz : L4 := ⟨.int .i64 0, .int .i64 0, .int .i64 0, .int .i64 0⟩
def lg (xs : List L4) (i : Nat) : L4 := xs.getD i lz
/-- The cells of a row. -/
def QL : List L4 → List Value
  | [] => []
  | r :: t => r.a :: r.b :: r.c :: r.d :: QL t
theorem QL_len : ∀ xs : List L4, (QL xs).length = xs.length * 4
  | [] => rfl
  | _ :: t => by simp [QL, QL_len t]; omega
theorem QL_get : ∀ (xs : List L4) (i : Nat), i < xs.length → (QL xs)[i * 4]? = some (lg xs i).a ∧ (QL xs)[i * 4 + 1]? = some (lg xs i).b ∧ (QL xs)[i * 4 + 2]? = some (lg xs i).c ∧ (QL xs)[i * 4 + 3]? = some (lg xs i).d
  | [], i, h => by simp at h
  | r :: t, 0, _ => ⟨rfl, rfl, rfl, rfl⟩
  | r :: t, i + 1, h => by
    have e : (i + 1) * 4 = i * 4 + 4 := by omega
    rw [e]
    exact QL_get t i (by simpa using h)
theorem QL_set : ∀ (xs : List L4) (i : Nat) (r : L4), i < xs.length → QL (xs.set i r) = ((((QL xs).set (i * 4) r.a).set (i * 4 + 1) r.b).set (i * 4 + 2) r.c).set (i * 4 + 3) r.d
  | [], i, r, h => by simp at h
  | x :: t, 0, r, _ => rfl
  | x :: t, i + 1, r, h => by
    have e : (i + 1) * 4 = i * 4 + 4 := by omega
    rw [e]
    show _ :: _ :: _ :: _ :: QL (t.set i r) = _ :: _ :: _ :: _ :: _
    rw [QL_set t i r (by simpa using h)]
theorem QL_app : ∀ xs ys : List L4, QL (xs ++ ys) = QL xs ++ QL ys
  | [], _ => rfl
  | x :: t, ys => by show _ :: _ :: _ :: _ :: QL (t ++ ys) = _; rw [QL_app t ys]; rfl
theorem lg_set (xs : List L4) (i j : Nat) (r : L4) (h : i < xs.length) : lg (xs.set i r) j = if j = i then r else lg xs j := by
  unfold lg
  by_cases e : j = i
  · subst e; simp [h]
  · have e' : ¬ i = j := fun h => e h.symm
    simp [e, e']
theorem lg_rep (n i : Nat) (z : L4) (h : i < n) : lg (List.replicate n z) i = z := by unfold lg; simp [h]
theorem QL_rep (n : Nat) (z : L4) : (madeCells #[z.a, z.b, z.c, z.d] (n * 4)).toList = QL (List.replicate n z) := by
  apply List.ext_getElem?
  intro i
  by_cases hi : i < n * 4
  · obtain ⟨a, b, c, d⟩ := QL_get (List.replicate n z) (i / 4) (by simp; omega)
    rw [lg_rep n _ z (by omega)] at a b c d
    have hm : i % 4 = 0 ∨ i % 4 = 1 ∨ i % 4 = 2 ∨ i % 4 = 3 := by omega
    rcases hm with h | h | h | h
    · rw [show i = i / 4 * 4 by omega, a]; unfold madeCells; simp [show i / 4 * 4 < n * 4 by omega]
    · rw [show i = i / 4 * 4 + 1 by omega, b]; unfold madeCells; simp [show i / 4 * 4 + 1 < n * 4 by omega, show (i / 4 * 4 + 1) % 4 = 1 by omega]
    · rw [show i = i / 4 * 4 + 2 by omega, c]; unfold madeCells; simp [show i / 4 * 4 + 2 < n * 4 by omega, show (i / 4 * 4 + 2) % 4 = 2 by omega]
    · rw [show i = i / 4 * 4 + 3 by omega, d]; unfold madeCells; simp [show i / 4 * 4 + 3 < n * 4 by omega, show (i / 4 * 4 + 3) % 4 = 3 by omega]
  · rw [List.getElem?_eq_none (by rw [Array.length_toList, size_madeCells]; omega), List.getElem?_eq_none (by rw [QL_len]; simp; omega)]
section
variable {w : World} {lo t n cap g : Nat} {xs : List L4}
theorem q4_len {v : Value} (h : w.ownsRow lo t 4 v n (QL xs)) : xs.length = n := by have := h.1; rw [QL_len] at this; omega
theorem q4_at (h : w.ownsRow lo t 4 (.slice (some ⟨g, 0, none⟩) n cap) n (QL xs)) (i : Nat) (hi : i < n) : Cell4 w g (i * 4) (lg xs i) := by
  have hl := q4_len h
  obtain ⟨a, b, c, d⟩ := QL_get xs i (by omega)
  exact ⟨(h.cellAt _ (by omega)).trans a, (h.cellAt _ (by omega)).trans b, (h.cellAt _ (by omega)).trans c, (h.cellAt _ (by omega)).trans d⟩
theorem q4_set (h : w.ownsRow lo t 4 (.slice (some ⟨g, 0, none⟩) n cap) n (QL xs)) (i : Nat) (hi : i < n) (r : L4) :
    ((((w.setCell ⟨g, i * 4, none⟩ r.a).setCell ⟨g, i * 4 + 1, none⟩ r.b).setCell ⟨g, i * 4 + 2, none⟩ r.c).setCell ⟨g, i * 4 + 3, none⟩ r.d).ownsRow lo t 4 (.slice (some ⟨g, 0, none⟩) n cap) n (QL (xs.set i r)) := by
  rw [QL_set xs i r (by rw [q4_len h]; exact hi)]
  exact ((((h.stored (i * 4) r.a).1.stored (i * 4 + 1) r.b).1.stored (i * 4 + 2) r.c).1.stored (i * 4 + 3) r.d).1
end
theorem bel_r4 {w W : World} {B g : Nat} (h : Below B w W) (hg : B ≤ g) (m : Nat) (a b c d : Value) : Below B w ((((W.setCell ⟨g, m, none⟩ a).setCell ⟨g, m + 1, none⟩ b).setCell ⟨g, m + 2, none⟩ c).setCell ⟨g, m + 3, none⟩ d) :=
  (((h.setCell hg _).setCell hg _).setCell hg _).setCell hg _
theorem own_r4 {W : World} {b e s n : Nat} {v : Value} {xs : List Value} (h : W.ownsRow b e s v n xs) {g : Nat} (hg : g < b) (m : Nat) (p q r u : Value) :
    ((((W.setCell ⟨g, m, none⟩ p).setCell ⟨g, m + 1, none⟩ q).setCell ⟨g, m + 2, none⟩ r).setCell ⟨g, m + 3, none⟩ u).ownsRow b e s v n xs :=
  own_other (own_other (own_other (own_other h _ _ hg) _ _ hg) _ _ hg) _ _ hg
end Go.Proofs.Ytgfjbaigmkdbcaa
