/-
  What is proved here: what the laws' toKey, eqKey, szKey answer.
-/
import Derived.Test.YtgfjbaigmkdbcaaBg
import Derived.Test.YtgfjbaigmkdbcaaQ4
import Derived.Test.YtgfjbaigmkdbcaaSmA
import Derived.Test.YtgfjbaigmkdbcaaSmB
import Derived.Test.YtgfjbaigmkdbcaaSzB
namespace Go.Proofs.Ytgfjbaigmkdbcaa
open Go.RowKit
set_option maxRecDepth 100000
set_option maxHeartbeats 4000000
set_option linter.unusedVariables false

abbrev keyV (x0 x1 : Int) (x2 : Bool) (a : Option Addr) (n c : Nat) : Value := .agg #[.int .i64 x0, .int .i64 x1, .bool x2, .slice a n c]
abbrev key4 (x : KeyM) (a : Option Addr) (c : Nat) : L4 := ⟨.int .i64 x.i, .int .i64 x.r, .bool x.v, .slice a x.p.length c⟩
theorem szKeyC (x0 x1 : Int) (x2 : Bool) (a : Option Addr) (n c : Nat) (l : Int) (w : World) (h0 : 0 ≤ l) (hl : l ≤ 1048576) (hn : n ≤ 9223372036854775807) :
    Calls Try.prog 96 #[keyV x0 x1 x2 a n c, .int .i64 l] w fun e w' => ∃ r : Int, e = .returned (.int .i64 r) ∧ (r = -1 ∨ 0 ≤ r ∧ r ≤ l ∧ (n : Int) ≤ 1048576) ∧ Below w.heap.size w w' := by
  have HB : Hid (Below w.heap.size w (w.alloc (.cells #[.int .i64 x0, .int .i64 x1, .bool x2, .slice a n c] 130))) := (Below.refl _ _).alloc (Nat.le_refl _) _
  go_enter Try.func96, Try.ntmps96
  go_wp2_with fail
  refine (szB a n c l _ (by omega) (by omega) hn).mono ?_
  rintro e w' ⟨rfl, rfl⟩
  by_cases h1 : l - (n : Int) < 0
  · rw [if_pos h1]
    go_wp2
    go_ret
    exact ⟨-1, rfl, .inl rfl, HB.out⟩
  rw [if_neg h1]
  obtain ⟨l1, hl1⟩ : ∃ l1 : Int, l1 = l - (n : Int) := ⟨_, rfl⟩
  rw [← hl1]
  rw [← hl1] at h1
  have HL1 : Hid _ := hl1
  clear hl1
  go_wp2
  go_ret
  have hl1 := HL1.out
  exact ⟨l1, rfl, .inr ⟨by omega, by omega, by omega⟩, HB.out⟩
theorem eqKeyC (x0 x1 : Int) (x2 : Bool) (a : Option Addr) (n c : Nat) (a' : Option Addr) (c' : Nat) (p : List Int) (w : World) (hB : Bs w a n c p) (hB' : Bs w a' n c' p) (hn : n ≤ 2097152) :
    Calls Try.prog 101 #[keyV x0 x1 x2 a n c, keyV x0 x1 x2 a' n c'] w fun e w' => e = .returned (.bool true) ∧ Below w.heap.size w w' := by
  have h0 : (x0 != x0) = false := by simp
  have h1 : (x1 != x1) = false := by simp
  have h2 : (x2 != x2) = false := by simp
  have hL : Below w.heap.size w ((w.alloc (.cells #[.int .i64 x0, .int .i64 x1, .bool x2, .slice a n c] 131)).alloc (.cells #[.int .i64 x0, .int .i64 x1, .bool x2, .slice a' n c'] 131)) := ((Below.refl _ _).alloc (Nat.le_refl _) _).alloc (by simp) _
  have HB : Hid _ := hL
  clear hL
  go_enter Try.func101, Try.ntmps101
  go_wp2_with fail
  refine (eqB a a' n c c' p _ (hB.below HB.out) (hB'.below HB.out) hn).mono ?_
  rintro e w1 ⟨q1, rfl, rfl⟩
  go_wp2
  go_ret
  exact ⟨rfl, bel_dN HB.out q1⟩
theorem toKeyC (x0 x1 : Int) (x2 : Bool) (a : Option Addr) (n c : Nat) (p : List Int) (w : World) (hB : Bs w a n c p) (hn : n ≤ 2097152) :
    Calls Try.prog 97 #[keyV x0 x1 x2 a n c] w fun e w' => ∃ a' c', e = .returned (keyV x0 x1 x2 a' n c') ∧ w'.ownsRow w.heap.size 5 1 (.slice a' n c') n (U8 p) ∧ Below w.heap.size w w' := by
  have hbb := hB.2.2.2.1
  obtain ⟨V, hV⟩ : ∃ V, V = (((w.alloc (.cells #[.int .i64 x0, .int .i64 x1, .bool x2, .slice a n c] 130)).alloc (.cells #[.int .i64 0, .int .i64 0, .bool false, .slice none 0 0] 131)).alloc (.cells #[.int .i64 x0, .int .i64 x1, .bool x2, .slice none 0 0] 131)) := ⟨_, rfl⟩
  have hL : Below w.heap.size w V := by rw [hV]; exact ((((Below.refl _ _).alloc (Nat.le_refl _) _).alloc (by simp) _).alloc (by simp; omega) _)
  have hA1 : Arr V (w.heap.size + 1) 131 [.int .i64 0, .int .i64 0, .bool false, .slice none 0 0] := by
    rw [hV]
    have := (Arr.new (w.alloc (.cells #[.int .i64 x0, .int .i64 x1, .bool x2, .slice a n c] 130)) [.int .i64 0, .int .i64 0, .bool false, .slice none 0 0] 131).alloc (.cells #[.int .i64 x0, .int .i64 x1, .bool x2, .slice none 0 0] 131)
    simpa using this
  have hA2 : Arr V (w.heap.size + 1 + 1) 131 [.int .i64 x0, .int .i64 x1, .bool x2, .slice none 0 0] := by
    rw [hV]
    have := Arr.new ((w.alloc (.cells #[.int .i64 x0, .int .i64 x1, .bool x2, .slice a n c] 130)).alloc (.cells #[.int .i64 0, .int .i64 0, .bool false, .slice none 0 0] 131)) [.int .i64 x0, .int .i64 x1, .bool x2, .slice none 0 0] 131
    simpa using this
  have zV : w.heap.size + 3 ≤ V.heap.size := by rw [hV]; simp
  go_enter Try.func97, Try.ntmps97
  go_wp2_with fail
  rw [← hV]
  refine (toS a n c p _ (hB.below hL) hn).mono ?_
  rintro e w1 ⟨a1, c1, rfl, ho1, _, hb1⟩
  clear hV
  have hb1' := hL.trans (hb1.mono hL.size)
  have k1 := hA1.kept hb1
  have k2 := hA2.kept hb1
  clear hA1 hA2
  have d0 := k2.cell 0
  have d1 := k2.cell 1
  have d2 := k2.cell 2
  have d3 := k2.cell 3
  have f := k2.frozen
  have f1 := k1.frozen
  have e0 := k1.cell 0
  have e1 := k1.cell 1
  have e2 := k1.cell 2
  have e3 := k1.cell 3
  simp at d0 d1 d2 d3 e0 e1 e2 e3
  have hlt := k2.lt
  have hlt1 := k1.lt
  have HO : Hid (∀ q u, q.block < V.heap.size → ∀ q0 u0, q0.block < V.heap.size → ∀ q1 u1, q1.block < V.heap.size → ∀ q2 u2, q2.block < V.heap.size → ∀ q3 u3, q3.block < V.heap.size → (((((w1.setCell q u).setCell q0 u0).setCell q1 u1).setCell q2 u2).setCell q3 u3).ownsRow w.heap.size 5 1 (.slice a1 n c1) n (U8 p)) := by
    intro q u h q0 u0 h0 q1 u1 h1 q2 u2 h2 q3 u3 h3
    exact own_base (own_other (own_other (own_other (own_other (own_other ho1 q u h) q0 u0 h0) q1 u1 h1) q2 u2 h2) q3 u3 h3) hL.size
  have HF : Hid (∀ u u0 u1 u2 u3, Below w.heap.size w (((((w1.setCell ⟨w.heap.size + 1 + 1, 3, none⟩ u).setCell ⟨w.heap.size + 1, 0, none⟩ u0).setCell ⟨w.heap.size + 1, 1, none⟩ u1).setCell ⟨w.heap.size + 1, 2, none⟩ u2).setCell ⟨w.heap.size + 1, 3, none⟩ u3)) := fun u u0 u1 u2 u3 =>
    ((((hb1'.setCell (by simp; omega) _).setCell (by simp) _).setCell (by simp) _).setCell (by simp) _).setCell (by simp) _
  have K1 : Hid (Arr w1 (w.heap.size + 1) 131 [.int .i64 0, .int .i64 0, .bool false, .slice none 0 0]) := k1
  clear hb1 hb1' ho1 hL hB hbb k1 k2
  go_wp2
  have K2 : Arr w1 (w.heap.size + 1) 131 [.int .i64 0, .int .i64 0, .bool false, .slice none 0 0] := K1.out
  have n3 := ((((K2.other ⟨w.heap.size + 1 + 1, 3, none⟩ (.slice a1 n c1) (by simp)).set 0 (.int .i64 x0)).set 1 (.int .i64 x1)).set 2 (.bool x2)).set 3 (.slice a1 n c1)
  exact bodyPost_ret (results_cell_row rfl _ _ (w.heap.size + 1) 131 _ (0, 0) _ rfl n3 Try.underlying131 rfl (by kernel_rfl)) rfl ⟨a1, c1, rfl, HO.out _ _ (by simp; omega) _ _ (by simp; omega) _ _ (by simp; omega) _ _ (by simp; omega) _ _ (by simp; omega), HF.out _ _ _ _ _⟩
end Go.Proofs.Ytgfjbaigmkdbcaa
