/-
  What is proved here: append onto a row of records that the call owns; the records of a summary as plain data; what the specification's Summary answers.
-/
import Derived.Test.YtgfjbaigmkdbcaaC0n
import Derived.Test.YtgfjbaigmkdbcaaC0l
import Derived.Test.YtgfjbaigmkdbcaaApp
import Derived.Laws.AppendOwnNone
namespace Go.Proofs.Ytgfjbaigmkdbcaa
open Go.RowKit
set_option maxRecDepth 100000
set_option maxHeartbeats 4000000
set_option linter.unusedVariables false

theorem FL_one : ∀ (xs : List Rc), ∀ u ∈ FL xs, u.oneCell' = true
  | [], u, h => by cases h
  | r :: t, u, h => by
    simp only [FL, List.mem_cons] at h
    rcases h with rfl | rfl | rfl | rfl | h
    · rfl
    · rfl
    · rfl
    · rfl
    · exact FL_one t u h
theorem rs_cells {w : World} {b o n : Nat} {ys : List Rc} (hl : ys.length = n) (h : ∀ i, i < n → Rat w b (o + i * 4) (rg ys i)) (j : Nat) (u : Value) (hj : (FL ys)[j]? = some u) : w.cell? ⟨b, o + j, none⟩ = some u := by
  have hjl : j < ys.length * 4 := by rw [← FL_len]; exact (List.getElem?_eq_some_iff.1 hj).1
  have hi : j / 4 < n := by omega
  obtain ⟨a0, a1, a2, a3⟩ := FL_get ys (j / 4) (by omega)
  obtain ⟨c0, c1, c2, c3⟩ := h (j / 4) hi
  have : j = j / 4 * 4 ∨ j = j / 4 * 4 + 1 ∨ j = j / 4 * 4 + 2 ∨ j = j / 4 * 4 + 3 := by omega
  rcases this with e | e | e | e
  · rw [e] at hj ⊢; rw [a0] at hj; rw [c0]; exact hj
  · rw [e] at hj ⊢; rw [a1] at hj; rw [show o + (j / 4 * 4 + 1) = o + j / 4 * 4 + 1 by omega, c1]; exact hj
  · rw [e] at hj ⊢; rw [a2] at hj; rw [show o + (j / 4 * 4 + 2) = o + j / 4 * 4 + 2 by omega, c2]; exact hj
  · rw [e] at hj ⊢; rw [a3] at hj; rw [show o + (j / 4 * 4 + 3) = o + j / 4 * 4 + 3 by omega, c3]; exact hj
theorem wpl_append_rs {w : World} {ops : Array Oper} {rest : List Oper} {o : Oper} {a : Act} {Q : Exit → Act → World → Prop} (hgd : o.guard = none) (s x : Operand)
    (ho : o.op = .call { callee := .builtin .append, args := #[s, x], argTypes := #[54, 54] })
    (base : Nat) (v : Value) (n : Nat) (xs : List Rc) (hs : a.eval s = v) (ao : Option Addr) (m c : Nat) (ys : List Rc) (hx : a.eval x = .slice ao m c)
    (hown : w.ownsRow base 144 4 v n (FL xs)) (hb : Rs w ao m c ys) (hlen : n + m ≤ 1048576) (hbase : base ≤ w.heap.size)
    (h : ∀ v' w', w'.ownsRow base 144 4 v' (n + m) (FL (xs ++ ys)) → w.grownBy w' v.ownBlock → wpList Try.prog ops Q rest (a.put o.dst v') w') :
    wpList Try.prog ops Q (o :: rest) a w := by
  obtain ⟨i0, hi, hz0, hz1, hz2⟩ := info_parts (show (Try.prog.info? 144).map (fun i => (i.zero, i.size, i.bytes)) = some (some (rcV 0 0 0 0), 4, 32) by kernel_rfl)
  obtain ⟨hcap, hl, hc, hb⟩ := hb
  cases ao with
  | none =>
    have hc0 := hcap rfl
    subst hc0
    have hm : m = 0 := by omega
    subst hm
    have hy : ys = [] := List.eq_nil_of_length_eq_zero hl
    subst hy
    exact wpList_append_own_none hgd s x 54 ho base 144 i0 4 Try.underlying54 hi v n (FL xs) hs hown hx
      (h v w (by simpa using hown) (World.grownBy.refl _ _))
  | some ad =>
    refine wpList_append_own w hgd s x 54 ho base 144 i0 (rcV 0 0 0 0) 4 32 Try.underlying54 hi hz0 hz1 hz2 rfl (by decide) v n (FL xs) hs hown ad m c (FL ys) hx (by rw [FL_len, hl]) ?_ (FL_one _)
      (by unfold maxLen; omega) (by omega) hbase ?_
    · rcases hb with hb | ⟨b, off, ha, _, hcell⟩
      · intro j u hj
        have hy : ys = [] := List.eq_nil_of_length_eq_zero (by omega)
        subst hy
        simp [FL] at hj
      · obtain rfl := Option.some.inj ha
        intro j u hj
        rw [Addr.add_lit]
        exact rs_cells hl hcell j u hj
    · intro v' w' h1 h2 _
      exact h v' w' (by rw [FL_app]; exact h1) h2
/-- One new record, as a slice. -/
theorem Rs.one (w : World) (r : Rc) : Rs (w.alloc (.cells (rcC r).toArray 144)) (some ⟨w.heap.size, 0, none⟩) 1 1 [r] := by
  have A := Arr.new w (rcC r) 144
  refine ⟨(fun h => by cases h), rfl, Nat.le_refl _, .inr ⟨w.heap.size, 0, rfl, by simp, ?_⟩⟩
  intro j hj
  have : j = 0 := by omega
  subst this
  exact ⟨A.cell 0, A.cell 1, A.cell 2, A.cell 3⟩

abbrev rTry : Rc := ⟨4, 0, 0, 0⟩
/-- The records of a summary. -/
def smR (b n f : Int) (t : Bool) (i o : Int) : List Rc := if t = false then [⟨2, b, n, f⟩] else [⟨2, 1 - b, o, f⟩, ⟨3, b, n, 0⟩] ++ List.replicate i.toNat rTry
def smL (b n f : Int) (t : Bool) (i o : Int) : List Rc := if btOk b n f t i o then smR b n f t i o else []

end Go.Proofs.Ytgfjbaigmkdbcaa
