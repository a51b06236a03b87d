/-
  What is proved here: the exact law of PartOf returns true at every argument, and writes into nothing that was there.
-/
import Derived.Test.YtofflhhlacdgfaaDoorJP19
import Derived.Test.YtofflhhlacdgfaaDoorPf1
import Derived.Test.YtofflhhlacdgfaaDoorJP18
namespace Go.Proofs.YtofflhhlacdgfaaDoor
open Go.RowKit
set_option maxRecDepth 100000
set_option linter.unusedVariables false

set_option maxHeartbeats 8000000 in
theorem walk_fnExactPartOf (w : World) (k v : Int) (a : Option Addr) (n c : Nat) (xs : List Int) (hB : Bs w a n c xs) (hT : Tabs w ∧ TabF w) :
    Calls Tryd.prog 8 #[.int .i64 k, .int .i64 v, .slice a n c] w fun e w' => e = .returned (.bool true) ∧ Below w.heap.size w w' := by
  obtain ⟨ht, hf⟩ := hT
  by_cases hn : n ≤ 1048576
  case neg =>
    have hn' : (1048576 : Int) < (n : Int) := by omega
    go_enter Tryd.func8, Tryd.ntmps8
    go_wp2
    go_ret
    exact ⟨rfl, Below.refl _ _⟩
  have hn' : ¬ ((1048576 : Int) < (n : Int)) := by omega
  have hby := hB.2.2.2.1
  have HX : Hid (byteP xs) := hby
  have HB : Hid (∀ Z, Below w.heap.size w Z → Bs Z a n c xs) := fun Z hZ => hB.below hZ
  have hpl : (pfT k v xs).1.h.length ≤ 32 := by unfold pfT; split <;> simp [sumOf_len]
  have hpb : byteP (pfT k v xs).1.h := by
    unfold pfT
    split
    · exact sumOf_byte xs
    · intro y hy; cases hy
  have HS : Hid (∀ (a' : Option Addr) (c' : Nat) Z, Bs Z a' n c' xs → Calls Tryd.prog 39 #[.int .i64 k, .int .i64 v, .slice a' n c'] Z (PfAns k v xs Z)) := fun a' c' Z hZ => specPartOf k v a' n c' xs Z hZ
  have HI : Hid (∀ (a' : Option Addr) (c' : Nat) Z, Below w.heap.size w Z → Bs Z a' n c' xs → Calls Tryd.prog 24 #[.int .i64 k, .int .i64 v, .slice a' n c'] Z (PfAns k v xs Z)) := fun a' c' Z hb hZ => implPartOf k v a' n c' xs Z hZ (ht.below hb) (hf.below hb)
  unfold PfAns at HS HI
  obtain ⟨P, hP⟩ : ∃ P, P = pfT k v xs := ⟨_, rfl⟩
  rw [← hP] at HS HI hpl hpb
  clear hP ht hf hB hby
  obtain ⟨⟨pk, pv, ps, hs⟩, ok⟩ := P
  dsimp only at HS HI hpl hpb
  obtain ⟨m, hm⟩ : ∃ m, m = hs.length := ⟨_, rfl⟩
  rw [← hm] at HS HI hpl
  have HY : Hid (byteP hs) := hpb
  clear hm hpb
  have hRR : (ok != ok) = false := by simp
  have hk1 : ¬ (1 + (n : Int) < 0) := by omega
  have hk2 : ¬ (1 + (m : Int) < 0) := by omega
  have HMK : Hid (byteP (marks 1 m)) := marks_byte 1 m
  have B : Below w.heap.size w w := Below.refl _ _
  go_enter Tryd.func8, Tryd.ntmps8
  go_wp2_with fail
  refine Calls.mono (toS a n c xs _ (HB.out _ B) (by omega)) ?_
  rintro e w1 ⟨sA, sC, rfl, os, _, hb⟩
  have hc : Chg w w1 0 0 := .of_below hb 0
  replace B := hc.bel B (by omega)
  have z1 := hc.size
  clear hc
  clear hb
  have rs := Ro.new os
  clear os
  go_wp2_with fail
  refine Calls.mono (HS.out _ _ _ (bs_of_own rs.o HX.out)) ?_
  rintro e w2 ⟨v0, rfl, o0, hb⟩
  obtain ⟨v0A, v0C, rfl, _, _⟩ := Bs.own o0 HY.out
  have hc : Chg w1 w2 0 0 := .of_below hb 0
  replace rs := rs.chg hc (by omega)
  replace B := hc.bel B (by omega)
  have z2 := hc.size
  clear hc
  clear hb
  have R0 := Ro.new o0
  clear o0
  obtain ⟨X0, hX0⟩ : ∃ X0, X0 = w2.alloc (.cells #[.int .i64 pk, .int .i64 pv, .int .i64 ps, .slice v0A m v0C] 45) := ⟨_, rfl⟩
  have T0 : Arr X0 w2.heap.size 45 [.int .i64 pk, .int .i64 pv, .int .i64 ps, .slice v0A m v0C] := by rw [hX0]; exact Arr.new _ _ _
  have p0 : w2.heap.size < X0.heap.size := by rw [hX0]; simp
  have hc : Chg w2 X0 0 0 := by rw [hX0]; exact Chg.alloc _ _ 0
  replace rs := rs.chg hc (by omega)
  replace R0 := R0.chg hc (by omega)
  replace B := hc.bel B (by omega)
  have z3 := hc.size
  clear hc
  go_upto_region 4 with fail
  rw [← hX0]
  clear hX0
  clear rs
  go_wp2_with fail
  refine Calls.mono (toS a n c xs _ (HB.out _ B) (by omega)) ?_
  rintro e w3 ⟨xA, xC, rfl, ox, _, hb⟩
  have hc : Chg X0 w3 0 0 := .of_below hb 0
  replace R0 := R0.chg hc (by omega)
  replace T0 := T0.chg hc (by omega)
  replace B := hc.bel B (by omega)
  have z4 := hc.size
  clear hc
  clear hb
  have rx := Ro.new ox
  clear ox
  go_wp2_with fail
  refine Calls.mono (HI.out _ _ _ B (bs_of_own rx.o HX.out)) ?_
  rintro e w4 ⟨v1, rfl, o1, hb⟩
  obtain ⟨v1A, v1C, rfl, _, _⟩ := Bs.own o1 HY.out
  have hc : Chg w3 w4 0 0 := .of_below hb 0
  replace R0 := R0.chg hc (by omega)
  replace T0 := T0.chg hc (by omega)
  replace rx := rx.chg hc (by omega)
  replace B := hc.bel B (by omega)
  have z5 := hc.size
  clear hc
  clear hb
  have R1 := Ro.new o1
  clear o1
  obtain ⟨X1, hX1⟩ : ∃ X1, X1 = w4.alloc (.cells #[.int .i64 pk, .int .i64 pv, .int .i64 ps, .slice v1A m v1C] 45) := ⟨_, rfl⟩
  have T1 : Arr X1 w4.heap.size 45 [.int .i64 pk, .int .i64 pv, .int .i64 ps, .slice v1A m v1C] := by rw [hX1]; exact Arr.new _ _ _
  have p1 : w4.heap.size < X1.heap.size := by rw [hX1]; simp
  have hc : Chg w4 X1 0 0 := by rw [hX1]; exact Chg.alloc _ _ 0
  replace R0 := R0.chg hc (by omega)
  replace T0 := T0.chg hc (by omega)
  replace rx := rx.chg hc (by omega)
  replace R1 := R1.chg hc (by omega)
  replace B := hc.bel B (by omega)
  have z6 := hc.size
  clear hc
  go_upto_region 6 with fail
  rw [← hX1]
  clear hX1
  have c0 := T1.cell 0
  have c1 := T1.cell 1
  have c2 := T1.cell 2
  have c3 := T1.cell 3
  simp at c0 c1 c2 c3
  have d0 := T0.cell 0
  have d1 := T0.cell 1
  have d2 := T0.cell 2
  have d3 := T0.cell 3
  simp at d0 d1 d2 d3
  go_wp2_with fail
  refine Calls.mono (eqPartC pk pv ps v1A m v1C v0A v0C hs _ (bs_of_own R1.o HY.out) (bs_of_own R0.o HY.out) (by omega)) ?_
  rintro e w5 ⟨rfl, hb⟩
  have hc : Chg X1 w5 0 0 := .of_below hb 0
  replace R0 := R0.chg hc (by omega)
  replace T0 := T0.chg hc (by omega)
  replace rx := rx.chg hc (by omega)
  replace R1 := R1.chg hc (by omega)
  replace T1 := T1.chg hc (by omega)
  replace B := hc.bel B (by omega)
  have z7 := hc.size
  clear hc
  clear hb
  clear c0 c1 c2 c3
  clear d0 d1 d2 d3
  go_wp2_with fail
  refine Calls.mono (toS a n c xs _ (HB.out _ B) (by omega)) ?_
  rintro e w6 ⟨yA, yC, rfl, oy, _, hb⟩
  have hc : Chg w5 w6 0 0 := .of_below hb 0
  replace R0 := R0.chg hc (by omega)
  replace T0 := T0.chg hc (by omega)
  replace rx := rx.chg hc (by omega)
  replace R1 := R1.chg hc (by omega)
  replace T1 := T1.chg hc (by omega)
  replace B := hc.bel B (by omega)
  have z8 := hc.size
  clear hc
  clear hb
  have ry := Ro.new oy
  clear oy
  go_wp2_with fail
  refine Calls.mono (eqB xA yA n xC yC xs _ (bs_of_own rx.o HX.out) (bs_of_own ry.o HX.out) (by omega)) ?_
  rintro e w7 ⟨q, rfl, hw⟩
  have hb : Below w6.heap.size w6 w7 := by rw [hw]; exact bel_dN (Below.refl _ _) q
  clear hw
  have hc : Chg w6 w7 0 0 := .of_below hb 0
  replace R0 := R0.chg hc (by omega)
  replace T0 := T0.chg hc (by omega)
  replace rx := rx.chg hc (by omega)
  replace R1 := R1.chg hc (by omega)
  replace T1 := T1.chg hc (by omega)
  replace ry := ry.chg hc (by omega)
  replace B := hc.bel B (by omega)
  have z9 := hc.size
  clear hc
  clear hb
  clear ry
  go_wp2_with fail
  refine Calls.mono (markB _ n _ 1 xs _ rx.o (by omega) (by omega) (by omega)) ?_
  rintro e w8 ⟨rfl, o, g⟩
  have hc : Chg w7 w8 _ _ := rx.gr g
  replace R0 := R0.chg hc (by omega)
  replace T0 := T0.chg hc (by omega)
  replace R1 := R1.chg hc (by omega)
  replace T1 := T1.chg hc (by omega)
  replace B := hc.bel B (by omega)
  have z10 := hc.size
  clear hc
  clear rx o g
  have c0 := T1.cell 0
  have c1 := T1.cell 1
  have c2 := T1.cell 2
  have c3 := T1.cell 3
  simp at c0 c1 c2 c3
  have d0 := T0.cell 0
  have d1 := T0.cell 1
  have d2 := T0.cell 2
  have d3 := T0.cell 3
  simp at d0 d1 d2 d3
  go_wp2_with fail
  refine Calls.mono (eqPartC pk pv ps v1A m v1C v0A v0C hs _ (bs_of_own R1.o HY.out) (bs_of_own R0.o HY.out) (by omega)) ?_
  rintro e w9 ⟨rfl, hb⟩
  have hc : Chg w8 w9 0 0 := .of_below hb 0
  replace R0 := R0.chg hc (by omega)
  replace T0 := T0.chg hc (by omega)
  replace R1 := R1.chg hc (by omega)
  replace T1 := T1.chg hc (by omega)
  replace B := hc.bel B (by omega)
  have z11 := hc.size
  clear hc
  clear hb
  clear c0 c1 c2 c3
  clear d0 d1 d2 d3
  have c0 := T1.cell 0
  have c1 := T1.cell 1
  have c2 := T1.cell 2
  have c3 := T1.cell 3
  simp at c0 c1 c2 c3
  go_wp2_with fail
  refine Calls.mono (markPartC _ m pk pv ps v1A v1C 1 hs _ R1.o (by omega) (by omega) (by omega)) ?_
  rintro e w10 ⟨rfl, o, g⟩
  have hc : Chg w9 w10 _ _ := R1.gr g
  replace R0 := R0.chg hc (by omega)
  replace T0 := T0.chg hc (by omega)
  replace T1 := T1.chg hc (by omega)
  replace B := hc.bel B (by omega)
  have z12 := hc.size
  clear hc
  replace R1 := R1.marked g o
  clear o g
  clear c0 c1 c2 c3
  have c0 := T1.cell 0
  have c1 := T1.cell 1
  have c2 := T1.cell 2
  have c3 := T1.cell 3
  simp at c0 c1 c2 c3
  go_wp2_with fail
  refine Calls.mono (heldPartC m pk pv ps v1A v1C 1 _ (bs_of_own R1.o HMK.out) (by omega) (by omega) (by omega)) ?_
  rintro e w11 ⟨rfl, hb⟩
  have hc : Chg w10 w11 0 0 := .of_below hb 0
  replace R0 := R0.chg hc (by omega)
  replace T0 := T0.chg hc (by omega)
  replace T1 := T1.chg hc (by omega)
  replace R1 := R1.chg hc (by omega)
  replace B := hc.bel B (by omega)
  have z13 := hc.size
  clear hc
  clear hb
  clear c0 c1 c2 c3
  go_wp2_with fail
  refine Calls.mono (toS a n c xs _ (HB.out _ B) (by omega)) ?_
  rintro e w12 ⟨uA, uC, rfl, ou, _, hb⟩
  have hc : Chg w11 w12 0 0 := .of_below hb 0
  replace R0 := R0.chg hc (by omega)
  replace T0 := T0.chg hc (by omega)
  replace T1 := T1.chg hc (by omega)
  replace R1 := R1.chg hc (by omega)
  replace B := hc.bel B (by omega)
  have z14 := hc.size
  clear hc
  clear hb
  have ru := Ro.new ou
  clear ou
  go_wp2_with fail
  refine Calls.mono (HI.out _ _ _ B (bs_of_own ru.o HX.out)) ?_
  rintro e w13 ⟨v2, rfl, o2, hb⟩
  obtain ⟨v2A, v2C, rfl, _, _⟩ := Bs.own o2 HY.out
  have hc : Chg w12 w13 0 0 := .of_below hb 0
  replace R0 := R0.chg hc (by omega)
  replace T0 := T0.chg hc (by omega)
  replace T1 := T1.chg hc (by omega)
  replace R1 := R1.chg hc (by omega)
  replace ru := ru.chg hc (by omega)
  replace B := hc.bel B (by omega)
  have z15 := hc.size
  clear hc
  clear hb
  have R2 := Ro.new o2
  clear o2
  obtain ⟨X2, hX2⟩ : ∃ X2, X2 = w13.alloc (.cells #[.int .i64 pk, .int .i64 pv, .int .i64 ps, .slice v2A m v2C] 45) := ⟨_, rfl⟩
  have T2 : Arr X2 w13.heap.size 45 [.int .i64 pk, .int .i64 pv, .int .i64 ps, .slice v2A m v2C] := by rw [hX2]; exact Arr.new _ _ _
  have p2 : w13.heap.size < X2.heap.size := by rw [hX2]; simp
  have hc : Chg w13 X2 0 0 := by rw [hX2]; exact Chg.alloc _ _ 0
  replace R0 := R0.chg hc (by omega)
  replace T0 := T0.chg hc (by omega)
  replace T1 := T1.chg hc (by omega)
  replace R1 := R1.chg hc (by omega)
  replace ru := ru.chg hc (by omega)
  replace R2 := R2.chg hc (by omega)
  replace B := hc.bel B (by omega)
  have z16 := hc.size
  clear hc
  go_upto_region 23 with fail
  rw [← hX2]
  clear hX2
  clear ru
  have c0 := T2.cell 0
  have c1 := T2.cell 1
  have c2 := T2.cell 2
  have c3 := T2.cell 3
  simp at c0 c1 c2 c3
  have d0 := T0.cell 0
  have d1 := T0.cell 1
  have d2 := T0.cell 2
  have d3 := T0.cell 3
  simp at d0 d1 d2 d3
  go_wp2_with fail
  refine Calls.mono (eqPartC pk pv ps v2A m v2C v0A v0C hs _ (bs_of_own R2.o HY.out) (bs_of_own R0.o HY.out) (by omega)) ?_
  rintro e w14 ⟨rfl, hb⟩
  have hc : Chg X2 w14 0 0 := .of_below hb 0
  replace R0 := R0.chg hc (by omega)
  replace T0 := T0.chg hc (by omega)
  replace T1 := T1.chg hc (by omega)
  replace R1 := R1.chg hc (by omega)
  replace R2 := R2.chg hc (by omega)
  replace T2 := T2.chg hc (by omega)
  replace B := hc.bel B (by omega)
  have z17 := hc.size
  clear hc
  clear hb
  clear c0 c1 c2 c3
  clear d0 d1 d2 d3
  have c0 := T1.cell 0
  have c1 := T1.cell 1
  have c2 := T1.cell 2
  have c3 := T1.cell 3
  simp at c0 c1 c2 c3
  go_wp2_with fail
  refine Calls.mono (heldPartC m pk pv ps v1A v1C 1 _ (bs_of_own R1.o HMK.out) (by omega) (by omega) (by omega)) ?_
  rintro e w15 ⟨rfl, hb⟩
  have hc : Chg w14 w15 0 0 := .of_below hb 0
  replace R0 := R0.chg hc (by omega)
  replace T0 := T0.chg hc (by omega)
  replace T1 := T1.chg hc (by omega)
  replace R1 := R1.chg hc (by omega)
  replace R2 := R2.chg hc (by omega)
  replace T2 := T2.chg hc (by omega)
  replace B := hc.bel B (by omega)
  have z18 := hc.size
  clear hc
  clear hb
  clear c0 c1 c2 c3
  go_wp2
  go_ret
  exact ⟨rfl, B⟩
end Go.Proofs.YtofflhhlacdgfaaDoor
