/-
  What is proved here: the exact law of Fold returns true at every argument, and writes into nothing that was there.
-/
import Derived.Test.YtaelclamlfhimaaC0g
import Derived.Test.YtaelclamlfhimaaSmA
import Derived.Test.YtaelclamlfhimaaSmB
import Derived.Test.YtaelclamlfhimaaLarg10
import Derived.Test.YtaelclamlfhimaaC1c
import Derived.Test.YtaelclamlfhimaaLarg1r
namespace Go.Proofs.Ytaelclamlfhimaa
set_option maxRecDepth 100000
open Go.RowKit
set_option linter.unusedVariables false

set_option maxHeartbeats 4000000 in
theorem walk_fnExactFold (w : World) (ab0 : Option Addr) (nb0 cb0 : Nat) (xs0 : List Rc) (hb0 : Rs w ab0 nb0 cb0 xs0) (hl0 : nb0 ≤ 9223372036854775807) :
    Calls Try.prog 11 #[.slice ab0 nb0 cb0] w fun e w' => e = .returned (.bool true) ∧ Below w.heap.size w w' := by
  have B : Below w.heap.size w w := Below.refl _ _
  have HS0 := fun p0 q0 u0 w h0a h0b => specFold p0 q0 u0 xs0 w h0a h0b
  have HI0 := fun p0 q0 u0 w h0a h0b => implFold p0 q0 u0 xs0 w h0a h0b
  obtain ⟨⟨⟨gAb, gAn, gAf, gAt, gAi, gAo⟩, R⟩, hS0⟩ : ∃ S, foT xs0 = S := ⟨_, rfl⟩
  rw [hS0] at HS0 HI0
  clear hS0
  try dsimp only at HS0 HI0
  have hRR : (R != R) = false := by simp
  have HS : Hid _ := HS0
  have HI : Hid _ := HI0
  clear HS0 HI0
  go_enter Try.func11, Try.ntmps11
  go_wp2_with fail
  refine (szRecSC ab0 nb0 cb0 1048576 _ (by omega) (by omega) hl0).mono ?_
  rintro e w1 ⟨l0, rfl, hr, hb⟩
  have hc : Chg w w1 0 0 := .of_below hb 0
  replace B := hc.bel B (by omega)
  have z2 := hc.size
  clear hc
  clear hb
  rcases hr with rfl | ⟨hr0, hr0a, hr0b⟩
  · go_wp2
    go_ret
    exact ⟨rfl, B⟩
  go_wp2_with fail
  refine (toRecSC ab0 nb0 cb0 xs0 _ (hb0.below B) (by omega)).mono ?_
  rintro e w3 ⟨t0A, t0C, rfl, ot0, hb⟩
  have hc : Chg w1 w3 0 0 := .of_below hb 0
  replace B := hc.bel B (by omega)
  have z4 := hc.size
  clear hc
  clear hb
  have rt0 := Rq.new ot0
  clear ot0
  go_wp2_with fail
  refine (HS.out t0A nb0 t0C _ (rs_of_own rt0.o) (by omega)).mono ?_
  rintro e w5 ⟨rfl, hb⟩
  have hc : Chg w3 w5 0 0 := .of_below hb 0
  replace rt0 := rt0.chg hc (by omega)
  replace B := hc.bel B (by omega)
  have z6 := hc.size
  clear hc
  clear hb
  have Sw : Arr (w5.alloc (.cells #[.int .i64 gAb, .int .i64 gAn, .int .i64 gAf, .bool gAt, .int .i64 gAi, .int .i64 gAo] 35)) w5.heap.size 35 [.int .i64 gAb, .int .i64 gAn, .int .i64 gAf, .bool gAt, .int .i64 gAi, .int .i64 gAo] := Arr.new _ _ _
  obtain ⟨W7, hW7⟩ : ∃ W7, W7 = w5.alloc (.cells #[.int .i64 gAb, .int .i64 gAn, .int .i64 gAf, .bool gAt, .int .i64 gAi, .int .i64 gAo] 35) := ⟨_, rfl⟩
  rw [← hW7] at Sw
  have p7 : w5.heap.size < W7.heap.size := by rw [hW7]; simp
  have hc : Chg w5 W7 0 0 := by rw [hW7]; exact Chg.alloc _ _ 0
  replace rt0 := rt0.chg hc (by omega)
  replace B := hc.bel B (by omega)
  have z8 := hc.size
  clear hc
  clear rt0
  clear HS
  go_wp2_with fail
  rw [← hW7]
  clear hW7
  refine (toRecSC ab0 nb0 cb0 xs0 _ (hb0.below B) (by omega)).mono ?_
  rintro e w9 ⟨y0A, y0C, rfl, oy0, hb⟩
  have hc : Chg W7 w9 0 0 := .of_below hb 0
  replace Sw := Sw.chg hc (by omega)
  replace B := hc.bel B (by omega)
  have z10 := hc.size
  clear hc
  clear hb
  have ry0 := Rq.new oy0
  clear oy0
  go_wp2_with fail
  refine (HI.out y0A nb0 y0C _ (rs_of_own ry0.o) (by omega)).mono ?_
  rintro e w11 ⟨rfl, hb⟩
  have hc : Chg w9 w11 0 0 := .of_below hb 0
  replace Sw := Sw.chg hc (by omega)
  replace ry0 := ry0.chg hc (by omega)
  replace B := hc.bel B (by omega)
  have z12 := hc.size
  clear hc
  clear hb
  have Sg : Arr (w11.alloc (.cells #[.int .i64 gAb, .int .i64 gAn, .int .i64 gAf, .bool gAt, .int .i64 gAi, .int .i64 gAo] 35)) w11.heap.size 35 [.int .i64 gAb, .int .i64 gAn, .int .i64 gAf, .bool gAt, .int .i64 gAi, .int .i64 gAo] := Arr.new _ _ _
  obtain ⟨W13, hW13⟩ : ∃ W13, W13 = w11.alloc (.cells #[.int .i64 gAb, .int .i64 gAn, .int .i64 gAf, .bool gAt, .int .i64 gAi, .int .i64 gAo] 35) := ⟨_, rfl⟩
  rw [← hW13] at Sg
  have p13 : w11.heap.size < W13.heap.size := by rw [hW13]; simp
  have hc : Chg w11 W13 0 0 := by rw [hW13]; exact Chg.alloc _ _ 0
  replace Sw := Sw.chg hc (by omega)
  replace ry0 := ry0.chg hc (by omega)
  replace B := hc.bel B (by omega)
  have z14 := hc.size
  clear hc
  have c15_0 := Sg.cell 0
  have c15_1 := Sg.cell 1
  have c15_2 := Sg.cell 2
  have c15_3 := Sg.cell 3
  have c15_4 := Sg.cell 4
  have c15_5 := Sg.cell 5
  simp at c15_0 c15_1 c15_2 c15_3 c15_4 c15_5
  rw [hW13] at c15_0 c15_1 c15_2 c15_3 c15_4 c15_5
  have c16_0 := Sw.cell 0
  have c16_1 := Sw.cell 1
  have c16_2 := Sw.cell 2
  have c16_3 := Sw.cell 3
  have c16_4 := Sw.cell 4
  have c16_5 := Sw.cell 5
  simp at c16_0 c16_1 c16_2 c16_3 c16_4 c16_5
  rw [hW13] at c16_0 c16_1 c16_2 c16_3 c16_4 c16_5
  go_wp2_with fail
  rw [← hW13]
  clear hW13
  clear c15_0 c15_1 c15_2 c15_3 c15_4 c15_5 c16_0 c16_1 c16_2 c16_3 c16_4 c16_5
  refine (eqBootC gAb gAn gAf gAt gAi gAo _).mono ?_
  rintro e w17 ⟨rfl, hb⟩
  have hc : Chg W13 w17 0 0 := .of_below hb 0
  replace Sw := Sw.chg hc (by omega)
  replace ry0 := ry0.chg hc (by omega)
  replace Sg := Sg.chg hc (by omega)
  replace B := hc.bel B (by omega)
  have z18 := hc.size
  clear hc
  clear hb
  go_wp2_with fail
  refine (toRecSC ab0 nb0 cb0 xs0 _ (hb0.below B) (by omega)).mono ?_
  rintro e w19 ⟨u0A, u0C, rfl, ou0, hb⟩
  have hc : Chg w17 w19 0 0 := .of_below hb 0
  replace Sw := Sw.chg hc (by omega)
  replace ry0 := ry0.chg hc (by omega)
  replace Sg := Sg.chg hc (by omega)
  replace B := hc.bel B (by omega)
  have z20 := hc.size
  clear hc
  clear hb
  have ru0 := Rq.new ou0
  clear ou0
  go_wp2_with fail
  refine (eqRecSC y0A u0A nb0 y0C u0C xs0 _ (rs_of_own ry0.o) (rs_of_own ru0.o) (by omega)).mono ?_
  rintro e w21 ⟨rfl, hb⟩
  have hc : Chg w19 w21 0 0 := .of_below hb 0
  replace Sw := Sw.chg hc (by omega)
  replace ry0 := ry0.chg hc (by omega)
  replace Sg := Sg.chg hc (by omega)
  replace ru0 := ru0.chg hc (by omega)
  replace B := hc.bel B (by omega)
  have z22 := hc.size
  clear hc
  clear hb
  clear ru0
  have c23_0 := Sw.cell 0
  have c23_1 := Sw.cell 1
  have c23_2 := Sw.cell 2
  have c23_3 := Sw.cell 3
  have c23_4 := Sw.cell 4
  have c23_5 := Sw.cell 5
  simp at c23_0 c23_1 c23_2 c23_3 c23_4 c23_5
  have c24_0 := Sg.cell 0
  have c24_1 := Sg.cell 1
  have c24_2 := Sg.cell 2
  have c24_3 := Sg.cell 3
  have c24_4 := Sg.cell 4
  have c24_5 := Sg.cell 5
  simp at c24_0 c24_1 c24_2 c24_3 c24_4 c24_5
  go_wp2
  go_ret
  exact ⟨rfl, B⟩
end Go.Proofs.Ytaelclamlfhimaa
