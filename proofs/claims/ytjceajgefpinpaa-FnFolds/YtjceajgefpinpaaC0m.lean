/-
  What is proved here: rows of records in memory, four cells each; no program is spoken of.
-/
import Derived.Test.YtjceajgefpinpaaC0b
import Derived.Test.YtjceajgefpinpaaC0g
namespace Go.Proofs.Ytjceajgefpinpaa
open Go.RowKit
set_option maxRecDepth 100000

abbrev rz : Rc := ⟨0, 0, 0, 0⟩
def rg (xs : List Rc) (i : Nat) : Rc := xs.getD i rz
/-- The cells of records in a row. -/
def FL : List Rc → List Value
  | [] => []
  | r :: t => .int .i64 r.k :: .int .i64 r.b :: .int .i64 r.n :: .int .i64 r.f :: FL t
theorem FL_len : ∀ xs : List Rc, (FL xs).length = xs.length * 4
  | [] => rfl
  | _ :: t => by simp [FL, FL_len t]; omega
theorem FL_get : ∀ (xs : List Rc) (i : Nat), i < xs.length → (FL xs)[i * 4]? = some (.int .i64 (rg xs i).k) ∧ (FL xs)[i * 4 + 1]? = some (.int .i64 (rg xs i).b) ∧ (FL xs)[i * 4 + 2]? = some (.int .i64 (rg xs i).n) ∧ (FL xs)[i * 4 + 3]? = some (.int .i64 (rg xs i).f)
  | [], i, h => by simp at h
  | r :: t, 0, _ => ⟨rfl, rfl, rfl, rfl⟩
  | r :: t, i + 1, h => by
    have e : (i + 1) * 4 = i * 4 + 4 := by omega
    rw [e]
    exact FL_get t i (by simpa using h)
theorem FL_set : ∀ (xs : List Rc) (i : Nat) (r : Rc), i < xs.length → FL (xs.set i r) = ((((FL xs).set (i * 4) (.int .i64 r.k)).set (i * 4 + 1) (.int .i64 r.b)).set (i * 4 + 2) (.int .i64 r.n)).set (i * 4 + 3) (.int .i64 r.f)
  | [], i, r, h => by simp at h
  | x :: t, 0, r, _ => rfl
  | x :: t, i + 1, r, h => by
    have e : (i + 1) * 4 = i * 4 + 4 := by omega
    rw [e]
    show _ :: _ :: _ :: _ :: FL (t.set i r) = _ :: _ :: _ :: _ :: _
    rw [FL_set t i r (by simpa using h)]
theorem FL_app : ∀ xs ys : List Rc, FL (xs ++ ys) = FL xs ++ FL ys
  | [], _ => rfl
  | x :: t, ys => by show _ :: _ :: _ :: _ :: FL (t ++ ys) = _; rw [FL_app t ys]; rfl
theorem FL_rep (n : Nat) : (madeCells #[Value.int .i64 0, .int .i64 0, .int .i64 0, .int .i64 0] (n * 4)).toList = FL (List.replicate n rz) := by
  apply List.ext_getElem?
  intro i
  by_cases hi : i < n * 4
  · have h1 : (madeCells #[Value.int .i64 0, .int .i64 0, .int .i64 0, .int .i64 0] (n * 4)).toList[i]? = some (.int .i64 0) := by
      unfold madeCells
      have : i % 4 = 0 ∨ i % 4 = 1 ∨ i % 4 = 2 ∨ i % 4 = 3 := by omega
      simp [hi]
      rcases this with h | h | h | h <;> simp [h]
    rw [h1]
    obtain ⟨a, b, c, d⟩ := FL_get (List.replicate n rz) (i / 4) (by simp; omega)
    have e : rg (List.replicate n rz) (i / 4) = rz := by unfold rg; simp only [List.getD_eq_getElem?_getD, List.getElem?_replicate]; split <;> rfl
    rw [e] at a b c d
    have : i = i / 4 * 4 ∨ i = i / 4 * 4 + 1 ∨ i = i / 4 * 4 + 2 ∨ i = i / 4 * 4 + 3 := by omega
    rcases this with h | h | h | h <;> rw [h]
    · exact a.symm
    · exact b.symm
    · exact c.symm
    · exact d.symm
  · rw [List.getElem?_eq_none (by rw [Array.length_toList, size_madeCells]; omega), List.getElem?_eq_none (by rw [FL_len]; simp; omega)]
theorem rg_set (xs : List Rc) (i j : Nat) (r : Rc) (h : i < xs.length) : rg (xs.set i r) j = if j = i then r else rg xs j := by
  unfold rg
  by_cases e : j = i
  · subst e; simp [h]
  · have e' : ¬ i = j := fun h => e h.symm
    simp [e, e']
theorem rg_ext {xs ys : List Rc} (h : xs.length = ys.length) (hg : ∀ i, i < xs.length → rg xs i = rg ys i) : xs = ys := by
  apply List.ext_getElem h
  intro i h1 h2
  have := hg i h1
  unfold rg at this
  simpa [h1, h2] using this
theorem rg_take (xs : List Rc) (k i : Nat) (h : i < k) : rg (xs.take k) i = rg xs i := by
  unfold rg
  simp [List.getD_eq_getElem?_getD, h]
theorem rc_snoc (xs : List Rc) (k : Nat) (h : k < xs.length) : xs.take (k + 1) = xs.take k ++ [rg xs k] := by
  rw [List.take_succ_eq_append_getElem h]; simp [rg, h]
structure Rat (W : World) (b o : Nat) (r : Rc) : Prop where
  h0 : W.cell? ⟨b, o, none⟩ = some (.int .i64 r.k)
  h1 : W.cell? ⟨b, o + 1, none⟩ = some (.int .i64 r.b)
  h2 : W.cell? ⟨b, o + 2, none⟩ = some (.int .i64 r.n)
  h3 : W.cell? ⟨b, o + 3, none⟩ = some (.int .i64 r.f)
theorem Rat.below {W W' : World} {b o : Nat} {x : Rc} (h : Rat W b o x) (l : b < W.heap.size) (hb : Below W.heap.size W W') : Rat W' b o x :=
  ⟨(hb.cell (p := ⟨b, _, none⟩) l).trans h.h0, (hb.cell (p := ⟨b, _, none⟩) l).trans h.h1, (hb.cell (p := ⟨b, _, none⟩) l).trans h.h2, (hb.cell (p := ⟨b, _, none⟩) l).trans h.h3⟩
/-- What a slice of records reads as. -/
def Rs (w : World) (a : Option Addr) (n cap : Nat) (xs : List Rc) : Prop :=
  (a = none → cap = 0) ∧ xs.length = n ∧ n ≤ cap ∧ (n = 0 ∨ ∃ b o, a = some ⟨b, o, none⟩ ∧ b < w.heap.size ∧ ∀ i, i < n → Rat w b (o + i * 4) (rg xs i))
theorem Rs.below {w w' : World} {a : Option Addr} {n cap : Nat} {xs : List Rc} (h : Rs w a n cap xs) (hb : Below w.heap.size w w') : Rs w' a n cap xs := by
  obtain ⟨h0, h1, h2, h4⟩ := h
  refine ⟨h0, h1, h2, ?_⟩
  rcases h4 with h4 | ⟨b, o, ha, hlt, hc⟩
  · exact .inl h4
  · exact .inr ⟨b, o, ha, Nat.lt_of_lt_of_le hlt hb.size, fun j hj => (hc j hj).below hlt hb⟩
theorem Rs.opened {w : World} {a : Option Addr} {n cap : Nat} {xs : List Rc} (h : Rs w a n cap xs) (hn : 0 < n) : ∃ b o, a = some ⟨b, o, none⟩ ∧ b < w.heap.size ∧ ∀ i, i < n → Rat w b (o + i * 4) (rg xs i) := by
  rcases h.2.2.2 with h | h
  · omega
  · exact h
section
variable {w : World} {lo t n cap g : Nat} {xs : List Rc}
theorem rq_len {v : Value} (h : w.ownsRow lo t 4 v n (FL xs)) : xs.length = n := by have := h.1; rw [FL_len] at this; omega
theorem rq_at (h : w.ownsRow lo t 4 (.slice (some ⟨g, 0, none⟩) n cap) n (FL xs)) (i : Nat) (hi : i < n) : Rat w g (i * 4) (rg xs i) := by
  have hl := rq_len h
  obtain ⟨a, b, c, d⟩ := FL_get xs i (by omega)
  exact ⟨(h.cellAt _ (by omega)).trans a, (h.cellAt _ (by omega)).trans b, (h.cellAt _ (by omega)).trans c, (h.cellAt _ (by omega)).trans d⟩
theorem rq_set (h : w.ownsRow lo t 4 (.slice (some ⟨g, 0, none⟩) n cap) n (FL xs)) (i : Nat) (hi : i < n) (r : Rc) :
    ((((w.setCell ⟨g, i * 4, none⟩ (.int .i64 r.k)).setCell ⟨g, i * 4 + 1, none⟩ (.int .i64 r.b)).setCell ⟨g, i * 4 + 2, none⟩ (.int .i64 r.n)).setCell ⟨g, i * 4 + 3, none⟩ (.int .i64 r.f)).ownsRow lo t 4 (.slice (some ⟨g, 0, none⟩) n cap) n (FL (xs.set i r)) := by
  rw [FL_set xs i r (by rw [rq_len h]; exact hi)]
  exact ((((h.stored (i * 4) (.int .i64 r.k)).1.stored (i * 4 + 1) (.int .i64 r.b)).1.stored (i * 4 + 2) (.int .i64 r.n)).1.stored (i * 4 + 3) (.int .i64 r.f)).1
theorem Rs.own {v : Value} (h : w.ownsRow lo t 4 v n (FL xs)) : ∃ a cap, v = .slice a n cap ∧ cap ≤ maxLen ∧ Rs w a n cap xs := by
  have hl := rq_len h
  rcases h.2 with ⟨rfl, rfl⟩ | ⟨g, cap, cur, rfl, hg, hgg, h1, h2, h3, h4⟩
  · exact ⟨none, 0, rfl, by unfold maxLen; omega, fun _ => rfl, hl, Nat.le_refl _, .inl rfl⟩
  · exact ⟨_, cap, rfl, h2, (fun h => by cases h), hl, h1, .inr ⟨g, 0, rfl, (Array.getElem?_eq_some_iff.1 hgg).1, fun i hi => by simpa using rq_at h i hi⟩⟩
theorem rs_of_own {a : Option Addr} {c : Nat} (h : w.ownsRow lo t 4 (.slice a n c) n (FL xs)) : Rs w a n c xs := by
  obtain ⟨a', c', e, _, hb⟩ := Rs.own h
  simp only [Value.slice.injEq, true_and] at e
  obtain ⟨rfl, rfl⟩ := e
  exact hb
end
/-- A row of records within [lo, hi). -/
structure Rq (W : World) (lo hi e : Nat) (v : Value) (n : Nat) (l : List Rc) : Prop where
  o : W.ownsRow lo e 4 v n (FL l)
  i : In v lo hi
  z : hi ≤ W.heap.size
section
variable {W W' : World} {lo hi e n : Nat} {v : Value} {l : List Rc}
theorem Rq.new (o : W.ownsRow lo e 4 v n (FL l)) : Rq W lo W.heap.size e v n l := ⟨o, In.of o, Nat.le_refl _⟩
theorem Rq.chg (h : Rq W lo hi e v n l) {a b : Nat} (hc : Chg W W' a b) (hl : hi ≤ a ∨ b ≤ lo ∨ b ≤ a) : Rq W' lo hi e v n l := by
  by_cases hab : b ≤ a
  · have hc' : Chg W W' hi hi := ⟨hc.os, hc.tape, hc.output, hc.size, fun i hi _ => hc.block i hi (by omega)⟩
    exact ⟨own_chg h.o h.i hc' (by omega), h.i, Nat.le_trans h.z hc.size⟩
  · exact ⟨own_chg h.o h.i hc (by omega), h.i, Nat.le_trans h.z hc.size⟩
theorem Rq.marked (h : Rq W lo hi e v n l) {l' : List Rc} (hg : W.grownBy W' v.ownBlock) (o : W'.ownsRow lo e 4 v n (FL l')) : Rq W' lo hi e v n l' := ⟨o, h.i, Nat.le_trans h.z hg.size⟩
theorem Rq.gr (h : Rq W lo hi e v n l) (hg : W.grownBy W' v.ownBlock) : Chg W W' lo hi := .of_grown hg h.i
end
end Go.Proofs.Ytjceajgefpinpaa
