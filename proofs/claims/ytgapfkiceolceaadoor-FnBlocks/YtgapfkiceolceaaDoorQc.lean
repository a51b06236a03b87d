/-
  What is proved here: the contract of the program's method round at words of 32 bits: one round of the standard on the eight words behind a pointer, the table of turns as an argument; nothing else that was there turns; the contract of the program's method round at words of 64 bits: one round of the standard on the eight words behind a pointer, the table of turns as an argument; nothing else that was there turns.
-/
import Derived.Test.YtgapfkiceolceaaDoorQb
import Derived.Test.YtgapfkiceolceaaDoorQ2
namespace Go.Proofs.YtgapfkiceolceaaDoor
open Go.RowKit
set_option maxRecDepth 100000

set_option maxHeartbeats 2000000 in
theorem roundCn (g : Nat) (a b c d e f i h kw : Int) (w : World) (hA : Arr w g 65 (U32 [a, b, c, d, e, f, i, h])) :
    Calls Tryd.prog 92 #[.pointer (some ⟨g, 0, none⟩), .int .u32 kw, .agg #[.int .i64 2, .int .i64 13, .int .i64 22, .int .i64 6, .int .i64 11, .int .i64 25, .int .i64 7, .int .i64 18, .int .i64 3, .int .i64 17, .int .i64 19, .int .i64 10]] w fun en w' => en = .returned (.tuple #[]) ∧ Arr w' g 65 (U32 (stp8 a b c d e f i h kw)) ∧ w.grownBy w' (some g) := by
  obtain ⟨W, hW⟩ : ∃ W, W = w.alloc (.cells #[.int .i64 2, .int .i64 13, .int .i64 22, .int .i64 6, .int .i64 11, .int .i64 25, .int .i64 7, .int .i64 18, .int .i64 3, .int .i64 17, .int .i64 19, .int .i64 10] 71) := ⟨_, rfl⟩
  have hB : Below w.heap.size w W := by rw [hW]; exact (Below.refl _ _).alloc (Nat.le_refl _) _
  have hT : Arr W w.heap.size 71 (I64 [2, 13, 22, 6, 11, 25, 7, 18, 3, 17, 19, 10]) := by rw [hW]; exact Arr.new w (I64 [2, 13, 22, 6, 11, 25, 7, 18, 3, 17, 19, 10]) _
  replace hA := hA.kept hB
  have c0 := hA.u32 0 (by simp)
  have c1 := hA.u32 1 (by simp)
  have c2 := hA.u32 2 (by simp)
  have c3 := hA.u32 3 (by simp)
  have c4 := hA.u32 4 (by simp)
  have c5 := hA.u32 5 (by simp)
  have c6 := hA.u32 6 (by simp)
  have c7 := hA.u32 7 (by simp)
  simp at c0 c1 c2 c3 c4 c5 c6 c7
  have hsg : IntKind.u32.signed = false := rfl
  have u3 := hT.i64 3 (by simp)
  have u4 := hT.i64 4 (by simp)
  have u5 := hT.i64 5 (by simp)
  simp at u3 u4 u5
  go_enter Tryd.func92, Tryd.ntmps92
  go_wp2
  rw [← hW]
  clear hW
  go_quiet (fail)
  go_wp2
  go_quiet (fail)
  go_wp2_with fail
  refine (turnG1n e _).mono ?_
  rintro en w1 ⟨rfl, hb1⟩
  have B1 : Below W.heap.size W w1 := (bel_dN (Below.refl _ W) _).trans hb1
  clear hb1 c0 c1 c2 c3 c4 c5 c6 c7 u3 u4 u5
  have hT1 := hT.kept B1
  have u3 := hT1.i64 0 (by simp)
  have u4 := hT1.i64 1 (by simp)
  have u5 := hT1.i64 2 (by simp)
  simp at u3 u4 u5
  go_wp2_with fail
  refine (turnG0n a _).mono ?_
  rintro en w2 ⟨rfl, hb2⟩
  have B2 := B1.trans (hb2.mono B1.size)
  have A2 := hA.kept B2
  have c0 := A2.u32 0 (by simp)
  have c1 := A2.u32 1 (by simp)
  have c2 := A2.u32 2 (by simp)
  have c3 := A2.u32 3 (by simp)
  have c4 := A2.u32 4 (by simp)
  have c5 := A2.u32 5 (by simp)
  have c6 := A2.u32 6 (by simp)
  have c7 := A2.u32 7 (by simp)
  have f0 := A2.frozen
  simp at c0 c1 c2 c3 c4 c5 c6 c7
  have G2 := grown_of_below (hB.trans (B2.mono hB.size)) (some g)
  clear hA B1 hb2 B2 hB hT hT1 u3 u4 u5
  go_wp2
  go_end0
  refine ⟨rfl, ?_, grown_set8 G2 _ _ _ _ _ _ _ _⟩
  exact A2.set8 _ _ _ _ _ _ _ _
end Go.Proofs.YtgapfkiceolceaaDoor
namespace Go.Proofs.YtgapfkiceolceaaDoor
open Go.RowKit
set_option maxRecDepth 100000

set_option maxHeartbeats 2000000 in
theorem roundCw (g : Nat) (a b c d e f i h kw : Int) (w : World) (hA : Arr w g 95 (U64 [a, b, c, d, e, f, i, h])) :
    Calls Tryd.prog 114 #[.pointer (some ⟨g, 0, none⟩), .int .u64 kw, .agg #[.int .i64 28, .int .i64 34, .int .i64 39, .int .i64 14, .int .i64 18, .int .i64 41, .int .i64 1, .int .i64 8, .int .i64 7, .int .i64 19, .int .i64 61, .int .i64 6]] w fun en w' => en = .returned (.tuple #[]) ∧ Arr w' g 95 (U64 (stpw8 a b c d e f i h kw)) ∧ w.grownBy w' (some g) := by
  obtain ⟨W, hW⟩ : ∃ W, W = w.alloc (.cells #[.int .i64 28, .int .i64 34, .int .i64 39, .int .i64 14, .int .i64 18, .int .i64 41, .int .i64 1, .int .i64 8, .int .i64 7, .int .i64 19, .int .i64 61, .int .i64 6] 71) := ⟨_, rfl⟩
  have hB : Below w.heap.size w W := by rw [hW]; exact (Below.refl _ _).alloc (Nat.le_refl _) _
  have hT : Arr W w.heap.size 71 (I64 [28, 34, 39, 14, 18, 41, 1, 8, 7, 19, 61, 6]) := by rw [hW]; exact Arr.new w (I64 [28, 34, 39, 14, 18, 41, 1, 8, 7, 19, 61, 6]) _
  replace hA := hA.kept hB
  have c0 := hA.u64 0 (by simp)
  have c1 := hA.u64 1 (by simp)
  have c2 := hA.u64 2 (by simp)
  have c3 := hA.u64 3 (by simp)
  have c4 := hA.u64 4 (by simp)
  have c5 := hA.u64 5 (by simp)
  have c6 := hA.u64 6 (by simp)
  have c7 := hA.u64 7 (by simp)
  simp at c0 c1 c2 c3 c4 c5 c6 c7
  have hsg : IntKind.u64.signed = false := rfl
  have u3 := hT.i64 3 (by simp)
  have u4 := hT.i64 4 (by simp)
  have u5 := hT.i64 5 (by simp)
  simp at u3 u4 u5
  go_enter Tryd.func114, Tryd.ntmps114
  go_wp2
  rw [← hW]
  clear hW
  go_quiet (fail)
  go_wp2
  go_quiet (fail)
  go_wp2_with fail
  refine (turnG1w e _).mono ?_
  rintro en w1 ⟨rfl, hb1⟩
  have B1 : Below W.heap.size W w1 := (bel_dN (Below.refl _ W) _).trans hb1
  clear hb1 c0 c1 c2 c3 c4 c5 c6 c7 u3 u4 u5
  have hT1 := hT.kept B1
  have u3 := hT1.i64 0 (by simp)
  have u4 := hT1.i64 1 (by simp)
  have u5 := hT1.i64 2 (by simp)
  simp at u3 u4 u5
  go_wp2_with fail
  refine (turnG0w a _).mono ?_
  rintro en w2 ⟨rfl, hb2⟩
  have B2 := B1.trans (hb2.mono B1.size)
  have A2 := hA.kept B2
  have c0 := A2.u64 0 (by simp)
  have c1 := A2.u64 1 (by simp)
  have c2 := A2.u64 2 (by simp)
  have c3 := A2.u64 3 (by simp)
  have c4 := A2.u64 4 (by simp)
  have c5 := A2.u64 5 (by simp)
  have c6 := A2.u64 6 (by simp)
  have c7 := A2.u64 7 (by simp)
  have f0 := A2.frozen
  simp at c0 c1 c2 c3 c4 c5 c6 c7
  have G2 := grown_of_below (hB.trans (B2.mono hB.size)) (some g)
  clear hA B1 hb2 B2 hB hT hT1 u3 u4 u5
  go_wp2
  go_end0
  refine ⟨rfl, ?_, grown_set8 G2 _ _ _ _ _ _ _ _⟩
  have A3 := A2.setW (IntKind.u64.wrap (IntKind.u64.wrap (IntKind.u64.wrap (IntKind.u64.wrap (h + cS1 e) + chow e f i) + kw) + IntKind.u64.wrap (cS0 a + majw a b c))) a b c (IntKind.u64.wrap (d + IntKind.u64.wrap (IntKind.u64.wrap (IntKind.u64.wrap (h + cS1 e) + chow e f i) + kw))) e f i
  have e1 : IntKind.u64.wrap (IntKind.u64.wrap (IntKind.u64.wrap (IntKind.u64.wrap (h + cS1 e) + chow e f i) + kw) + IntKind.u64.wrap (cS0 a + majw a b c)) = (h + cS1 e + chow e f i + kw + (cS0 a + majw a b c)) % 18446744073709551616 := by simp only [wrap_u64]; omega
  have e2 : IntKind.u64.wrap (d + IntKind.u64.wrap (IntKind.u64.wrap (IntKind.u64.wrap (h + cS1 e) + chow e f i) + kw)) = (d + (h + cS1 e + chow e f i + kw)) % 18446744073709551616 := by simp only [wrap_u64]; omega
  unfold stpw8
  rw [← e1, ← e2]
  exact A3
end Go.Proofs.YtgapfkiceolceaaDoor
