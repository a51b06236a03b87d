/-
  What is proved here: plain facts on rows and cells beside a row that is marked, for the walks of the exact laws; no condition; the contract of the specification's l6out: a point in the long form as two lists of its own; the lists of an answer that is a point; plain facts on memory; plain facts on a row that a call owns, as one block of memory; no program is spoken of, no condition; an owned row into which one cell is stored; no program is spoken of, no condition.
-/
import Derived.Test.YtihoaakbkffejaaDoorZYh
import Derived.Test.YtihoaakbkffejaaDoorZFw
import Derived.Test.YtihoaakbkffejaaDoorZArr
import Derived.Deep.MidRow
import Derived.Deep.RegionHeld3
import Derived.Deep.CutRange
namespace Go.Proofs.YtihoaakbkffejaaDoor
open Go.RowKit
set_option maxRecDepth 100000

theorem heap_setCells_other {g k : Nat} (hne : k ≠ g) : ∀ (vs : List Value) {w : World} (j : Nat), (w.setCells g j vs).heap[k]? = w.heap[k]?
  | [], _, _ => rfl
  | v :: vs, w, j => (heap_setCells_other hne vs (j + 1)).trans (heap_setCell_other w ⟨g, j, none⟩ k v hne)
theorem own_setCells {W : World} {lo e s n hi E : Nat} {v : Value} {xs : List Value} (h : W.ownsRow lo e s v n xs) (i : In v lo hi) (hE : E < lo ∨ hi ≤ E) (cs : List Value) : (W.setCells E 0 cs).ownsRow lo e s v n xs := by
  refine ⟨h.1, ?_⟩
  rcases h.2 with hn | ⟨g, cap, cur, rfl, hg, hgg, rest⟩
  · exact .inl hn
  · have h1 := i g rfl
    exact .inr ⟨g, cap, cur, rfl, hg, (heap_setCells_other (by omega) cs 0).trans hgg, rest⟩
end Go.Proofs.YtihoaakbkffejaaDoor
namespace Go.Proofs.YtihoaakbkffejaaDoor
open Go.RowKit
set_option maxRecDepth 100000

/-- A point that a call answers: two lists, each in new memory, apart. -/
def PtT (ty : TypeId) (w w' : World) (v : Value) (xs ys : List Int) : Prop := ∃ a c b d, v = .agg #[.slice a xs.length c, .slice b ys.length d] ∧ w'.ownsRow w.heap.size ty 1 (.slice a xs.length c) xs.length (I64 xs) ∧ w'.ownsRow w.heap.size ty 1 (.slice b ys.length d) ys.length (I64 ys) ∧ Apart (.slice a xs.length c) (.slice b ys.length d)
theorem ptT_nil (ty : TypeId) (w w' : World) : PtT ty w w' (.agg #[.slice none 0 0, .slice none 0 0]) [] [] := ⟨none, 0, none, 0, rfl, World.ownsRow_nil _ _ _ _, World.ownsRow_nil _ _ _ _, fun k hk => by cases hk⟩
theorem ptT_16 {ty : TypeId} {w w' : World} {a b : Option Addr} {c d : Nat} {xs ys : List Int} (hx : xs.length = 16) (hy : ys.length = 16) (h : w'.ownsRow w.heap.size ty 1 (.slice a 16 c) 16 (I64 xs)) (h' : w'.ownsRow w.heap.size ty 1 (.slice b 16 d) 16 (I64 ys)) (hA : Apart (.slice a 16 c) (.slice b 16 d)) : PtT ty w w' (.agg #[.slice a 16 c, .slice b 16 d]) xs ys := ⟨a, c, b, d, by rw [hx, hy], by rw [hx]; exact h, by rw [hy]; exact h', by rw [hx, hy]; exact hA⟩
theorem build_pt (u v : Value) (w : World) : (Instr.build 60 #[(0, .agg #[u]), (1, .agg #[v])]).run Tryd.prog w = .ok (.agg #[u, v]) w := by kernel_rfl
theorem yieldsIf_pt {ops : Array Oper} {S : World → Prop} {op : Oper} {act : Act} (hw : Region.wanted op (yielded ops act.tmps) = true) (x y : Operand) (ho : op.op = .build 60 #[(0, x), (1, y)]) (u v : Value) (hx : act.eval x = .agg #[u]) (hy : act.eval y = .agg #[v]) : YieldsIf Tryd.prog ops S op (.agg #[u, v]) act :=
  .inl ⟨hw, fun w _ => by
    unfold execOp
    simp only [ho, hx, hy, Sem.run_bind, List.map_toArray, List.map_cons, List.map_nil, build_pt u v w, Sem.run_pure, Result.andThen_ok]⟩
/-- Two numbers are laid into new cells. -/
theorem laid_e2 (w1 : World) (L M : List Int) :
    Below w1.heap.size w1 ((((w1.alloc (.cells #[.int .i64 0, .int .i64 0, .int .i64 0, .int .i64 0, .int .i64 0, .int .i64 0, .int .i64 0, .int .i64 0, .int .i64 0, .int .i64 0, .int .i64 0, .int .i64 0, .int .i64 0, .int .i64 0, .int .i64 0, .int .i64 0] 31)).alloc (.cells #[.int .i64 0, .int .i64 0, .int .i64 0, .int .i64 0, .int .i64 0, .int .i64 0, .int .i64 0, .int .i64 0, .int .i64 0, .int .i64 0, .int .i64 0, .int .i64 0, .int .i64 0, .int .i64 0, .int .i64 0, .int .i64 0] 31)).setRow w1.heap.size (I64 L).toArray).setRow (w1.heap.size + 1) (I64 M).toArray) ∧
    Arr ((((w1.alloc (.cells #[.int .i64 0, .int .i64 0, .int .i64 0, .int .i64 0, .int .i64 0, .int .i64 0, .int .i64 0, .int .i64 0, .int .i64 0, .int .i64 0, .int .i64 0, .int .i64 0, .int .i64 0, .int .i64 0, .int .i64 0, .int .i64 0] 31)).alloc (.cells #[.int .i64 0, .int .i64 0, .int .i64 0, .int .i64 0, .int .i64 0, .int .i64 0, .int .i64 0, .int .i64 0, .int .i64 0, .int .i64 0, .int .i64 0, .int .i64 0, .int .i64 0, .int .i64 0, .int .i64 0, .int .i64 0] 31)).setRow w1.heap.size (I64 L).toArray).setRow (w1.heap.size + 1) (I64 M).toArray) w1.heap.size 31 (I64 L) ∧
    Arr ((((w1.alloc (.cells #[.int .i64 0, .int .i64 0, .int .i64 0, .int .i64 0, .int .i64 0, .int .i64 0, .int .i64 0, .int .i64 0, .int .i64 0, .int .i64 0, .int .i64 0, .int .i64 0, .int .i64 0, .int .i64 0, .int .i64 0, .int .i64 0] 31)).alloc (.cells #[.int .i64 0, .int .i64 0, .int .i64 0, .int .i64 0, .int .i64 0, .int .i64 0, .int .i64 0, .int .i64 0, .int .i64 0, .int .i64 0, .int .i64 0, .int .i64 0, .int .i64 0, .int .i64 0, .int .i64 0, .int .i64 0] 31)).setRow w1.heap.size (I64 L).toArray).setRow (w1.heap.size + 1) (I64 M).toArray) (w1.heap.size + 1) 31 (I64 M) ∧
    Arr ((w1.alloc (.cells #[.int .i64 0, .int .i64 0, .int .i64 0, .int .i64 0, .int .i64 0, .int .i64 0, .int .i64 0, .int .i64 0, .int .i64 0, .int .i64 0, .int .i64 0, .int .i64 0, .int .i64 0, .int .i64 0, .int .i64 0, .int .i64 0] 31)).alloc (.cells #[.int .i64 0, .int .i64 0, .int .i64 0, .int .i64 0, .int .i64 0, .int .i64 0, .int .i64 0, .int .i64 0, .int .i64 0, .int .i64 0, .int .i64 0, .int .i64 0, .int .i64 0, .int .i64 0, .int .i64 0, .int .i64 0] 31)) w1.heap.size 31 (I64 Z16) ∧
    Arr (((w1.alloc (.cells #[.int .i64 0, .int .i64 0, .int .i64 0, .int .i64 0, .int .i64 0, .int .i64 0, .int .i64 0, .int .i64 0, .int .i64 0, .int .i64 0, .int .i64 0, .int .i64 0, .int .i64 0, .int .i64 0, .int .i64 0, .int .i64 0] 31)).alloc (.cells #[.int .i64 0, .int .i64 0, .int .i64 0, .int .i64 0, .int .i64 0, .int .i64 0, .int .i64 0, .int .i64 0, .int .i64 0, .int .i64 0, .int .i64 0, .int .i64 0, .int .i64 0, .int .i64 0, .int .i64 0, .int .i64 0] 31)).setRow w1.heap.size (I64 L).toArray) (w1.heap.size + 1) 31 (I64 Z16) := by
  have q1 : Arr ((w1.alloc (.cells #[.int .i64 0, .int .i64 0, .int .i64 0, .int .i64 0, .int .i64 0, .int .i64 0, .int .i64 0, .int .i64 0, .int .i64 0, .int .i64 0, .int .i64 0, .int .i64 0, .int .i64 0, .int .i64 0, .int .i64 0, .int .i64 0] 31)).alloc (.cells #[.int .i64 0, .int .i64 0, .int .i64 0, .int .i64 0, .int .i64 0, .int .i64 0, .int .i64 0, .int .i64 0, .int .i64 0, .int .i64 0, .int .i64 0, .int .i64 0, .int .i64 0, .int .i64 0, .int .i64 0, .int .i64 0] 31)) w1.heap.size 31 (I64 Z16) := (Arr.new w1 (I64 Z16) _).alloc _
  have q2 : Arr ((w1.alloc (.cells #[.int .i64 0, .int .i64 0, .int .i64 0, .int .i64 0, .int .i64 0, .int .i64 0, .int .i64 0, .int .i64 0, .int .i64 0, .int .i64 0, .int .i64 0, .int .i64 0, .int .i64 0, .int .i64 0, .int .i64 0, .int .i64 0] 31)).alloc (.cells #[.int .i64 0, .int .i64 0, .int .i64 0, .int .i64 0, .int .i64 0, .int .i64 0, .int .i64 0, .int .i64 0, .int .i64 0, .int .i64 0, .int .i64 0, .int .i64 0, .int .i64 0, .int .i64 0, .int .i64 0, .int .i64 0] 31)) (w1.heap.size + 1) 31 (I64 Z16) := by
    have := Arr.new (w1.alloc (.cells (I64 Z16).toArray 31)) (I64 Z16) 31
    rw [World.size_alloc] at this
    exact this
  have hb : Below w1.heap.size w1 ((w1.alloc (.cells #[.int .i64 0, .int .i64 0, .int .i64 0, .int .i64 0, .int .i64 0, .int .i64 0, .int .i64 0, .int .i64 0, .int .i64 0, .int .i64 0, .int .i64 0, .int .i64 0, .int .i64 0, .int .i64 0, .int .i64 0, .int .i64 0] 31)).alloc (.cells #[.int .i64 0, .int .i64 0, .int .i64 0, .int .i64 0, .int .i64 0, .int .i64 0, .int .i64 0, .int .i64 0, .int .i64 0, .int .i64 0, .int .i64 0, .int .i64 0, .int .i64 0, .int .i64 0, .int .i64 0, .int .i64 0] 31)) := ((Below.refl _ _).alloc (Nat.le_refl _) _).alloc (by simp) _
  exact ⟨setRow_below (setRow_below hb _ _ (Nat.le_refl _)) _ _ (by omega), (q1.row _).rowOther _ _ (by omega), (q2.rowOther _ _ (by omega)).row _, q1, q2.rowOther _ _ (by omega)⟩

end Go.Proofs.YtihoaakbkffejaaDoor
namespace Go.Proofs.YtihoaakbkffejaaDoor
open Go.RowKit
set_option maxRecDepth 100000

/-- The lists of an answer, where there is one. -/
def ptx (ok : Bool) (R : E4) : List Int := if ok = true then flx R else []
def pty (ok : Bool) (R : E4) : List Int := if ok = true then fly R else []
theorem own_rowM {W : World} {lo e s n hi E : Nat} {v : Value} {xs : List Value} (h : W.ownsRow lo e s v n xs) (i : In v lo hi) (hE : E < lo ∨ hi ≤ E) (cs : Array Value) : (W.setRow E cs).ownsRow lo e s v n xs := by
  refine ⟨h.1, ?_⟩
  rcases h.2 with hn | ⟨g, cap, cur, rfl, hg, hgg, rest⟩
  · exact .inl hn
  · have := i g rfl
    exact .inr ⟨g, cap, cur, rfl, hg, (setRow_other W E g cs (by omega)).trans hgg, rest⟩
end Go.Proofs.YtihoaakbkffejaaDoor
namespace Go.Proofs.YtihoaakbkffejaaDoor
open Go.RowKit

theorem own_same {A B : World} {b e s m : Nat} {g cap : Nat} {xs : List Value} (h : A.ownsRow b e s (.slice (some ⟨g, 0, none⟩) m cap) m xs) (hs : B.heap[g]? = A.heap[g]?) : B.ownsRow b e s (.slice (some ⟨g, 0, none⟩) m cap) m xs := by
  refine ⟨h.1, ?_⟩
  rcases h.2 with ⟨hn, _⟩ | ⟨g', cap', cur, he, hb, hg, rest⟩
  · cases hn
  · cases he
    exact .inr ⟨g, cap, cur, rfl, hb, hs.trans hg, rest⟩
theorem own_cell {A : World} {b e m : Nat} {g cap : Nat} {K : IntKind} {l : List Int} (h : A.ownsRow b e 1 (.slice (some ⟨g, 0, none⟩) m cap) m (l.map (Value.int K))) (j : Nat) (hj : j < l.length) : A.cell? ⟨g, j, none⟩ = some (.int K (l.getD j 0)) := by
  have hl : l.length = m := by simpa using h.1
  rcases h.2 with ⟨hn, _⟩ | ⟨g', cap', cur, he, hb, hg, h1, h2, h3, h4⟩
  · cases hn
  · cases he
    rw [cell_of_row A g j _ e _ hg]
    have e1 : cur.toList[j]? = (l.map (Value.int K))[j]? := by
      rw [← h4, List.getElem?_take]
      simp [show j < m by omega]
    rw [← Array.getElem?_toList, e1]
    simp [hj]
theorem own_cap {A : World} {b e s m : Nat} {g cap : Nat} {xs : List Value} (h : A.ownsRow b e s (.slice (some ⟨g, 0, none⟩) m cap) m xs) : m ≤ cap ∧ cap ≤ maxLen ∧ b ≤ g ∧ g < A.heap.size := by
  have hlt := h.lt g rfl
  rcases h.2 with ⟨hn, _⟩ | ⟨g', cap', cur, he, hb, hg, h1, h2, _⟩
  · cases hn
  · cases he
    exact ⟨h1, h2, hlt⟩
theorem own_of_arr {A : World} {b e g m : Nat} {xs : List Value} (h : Arr A g e xs) (hl : xs.length = m) (hb : b ≤ g) (hm : m ≤ maxLen) : A.ownsRow b e 1 (.slice (some ⟨g, 0, none⟩) m m) m xs := by
  subst hl
  exact ⟨by simp, .inr ⟨g, _, _, rfl, hb, h, Nat.le_refl _, hm, by simp, by simp⟩⟩
theorem grown_below {A B : World} (hb : Below A.heap.size A B) (r : Option Nat) : A.grownBy B r := ⟨hb.os, hb.tape, hb.output, hb.size, fun i hi _ => hb.block i hi⟩
theorem app_J {J : Nat → Nat → World → Prop} (hJ : ∀ k g g' A B, J k g A → A.grownBy B (some g) → (g' = g ∨ A.heap.size ≤ g') → J k g' B) {k g gg : Nat} {A B : World} {o : Obj} (h : J k g A) (hg : (A.alloc o).grownBy B (some g)) (hat : some g = some gg ∨ gg = A.heap.size + 1) : J k gg B := by
  refine hJ k g gg (A.alloc o) B (hJ k g g A _ h (grown_below ((Below.refl _ _).alloc (Nat.le_refl _) _) _) (.inl rfl)) hg ?_
  rcases hat with e | e
  · left; cases e; rfl
  · right; simp [e]
end Go.Proofs.YtihoaakbkffejaaDoor
namespace Go.Proofs.YtihoaakbkffejaaDoor
open Go.RowKit

theorem own_at {W : World} {b e g n cap : Nat} {xs : List Value} (h : W.ownsRow b e 1 (.slice (some ⟨g, 0, none⟩) n cap) n xs) (j : Nat) (u : Value) : (W.setCell ⟨g, j, none⟩ u).ownsRow b e 1 (.slice (some ⟨g, 0, none⟩) n cap) n (xs.set j u) := by
  refine ⟨by simpa using h.1, ?_⟩
  rcases h.2 with ⟨hn, _⟩ | ⟨g', cap', cur, he, hg, hgg, h1, h2, h3, h4⟩
  · cases hn
  · cases he
    exact .inr ⟨g, cap, cur.setIfInBounds j u, rfl, hg, heap_setCell_same W g j cur e u hgg, h1, h2, by simpa using h3, by rw [Array.toList_setIfInBounds, List.take_set, h4]⟩
end Go.Proofs.YtihoaakbkffejaaDoor
