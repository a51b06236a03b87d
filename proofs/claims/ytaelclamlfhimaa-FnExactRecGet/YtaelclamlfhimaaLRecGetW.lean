/-
  What is proved here: the exact law of RecGet returns true at every argument, and writes into nothing that was there.
-/
import Derived.Test.YtaelclamlfhimaaC0g
import Derived.Test.YtaelclamlfhimaaSmA
import Derived.Test.YtaelclamlfhimaaSmB
import Derived.Test.YtaelclamlfhimaaLarg10
import Derived.Test.YtaelclamlfhimaaC0h
namespace Go.Proofs.Ytaelclamlfhimaa
set_option maxRecDepth 100000
open Go.RowKit
set_option linter.unusedVariables false

set_option maxHeartbeats 4000000 in
theorem walk_fnExactRecGet (w : World) (ab0 : Option Addr) (nb0 cb0 : Nat) (xs0 : List Int) (hb0 : Bs w ab0 nb0 cb0 xs0) :
    Calls Try.prog 7 #[.slice ab0 nb0 cb0] w fun e w' => e = .returned (.bool true) ∧ Below w.heap.size w w' := by
  have hxb0 := hb0.2.2.2.1
  have B : Below w.heap.size w w := Below.refl _ _
  by_cases g0 : 1048576 < (nb0 : Int)
  · go_enter Try.func7, Try.ntmps7
    go_wp2
    go_ret
    exact ⟨rfl, B⟩
  have HS0 := fun p0 q0 u0 w h0a h0b => specRecGet p0 q0 u0 xs0 w h0a h0b
  have HI0 := fun p0 q0 u0 w h0a h0b => implRecGet p0 q0 u0 xs0 w h0a h0b
  unfold goV at HS0 HI0
  generalize hq_gAk : goK xs0 = gAk at HS0 HI0
  clear hq_gAk
  generalize hq_gAb : goB xs0 = gAb at HS0 HI0
  clear hq_gAb
  generalize hq_gAn : goN xs0 = gAn at HS0 HI0
  clear hq_gAn
  generalize hq_gAf : goF xs0 = gAf at HS0 HI0
  clear hq_gAf
  generalize hRR0 : gOkB xs0 = R at HS0 HI0
  clear hRR0
  have hRR : (R != R) = false := by simp
  have HS : Hid _ := HS0
  have HI : Hid _ := HI0
  clear HS0 HI0
  have HXB0 : Hid _ := hxb0
  clear hxb0
  go_enter Try.func7, Try.ntmps7
  go_wp2_with fail
  refine (toS ab0 nb0 cb0 xs0 _ (hb0.below B) (by omega)).mono ?_
  rintro e w1 ⟨t0A, t0C, rfl, ot0, _, hb⟩
  have hc : Chg w w1 0 0 := .of_below hb 0
  replace B := hc.bel B (by omega)
  have z2 := hc.size
  clear hc
  clear hb
  have rt0 := Ro.new ot0
  clear ot0
  go_wp2_with fail
  refine (HS.out t0A nb0 t0C _ (bs_of_own rt0.o HXB0.out) (by omega)).mono ?_
  rintro e w3 ⟨rfl, hb⟩
  have hc : Chg w1 w3 0 0 := .of_below hb 0
  replace rt0 := rt0.chg hc (by omega)
  replace B := hc.bel B (by omega)
  have z4 := hc.size
  clear hc
  clear hb
  have Sw : Arr (w3.alloc (.cells #[.int .i64 gAk, .int .i64 gAb, .int .i64 gAn, .int .i64 gAf] 29)) w3.heap.size 29 [.int .i64 gAk, .int .i64 gAb, .int .i64 gAn, .int .i64 gAf] := Arr.new _ _ _
  obtain ⟨W5, hW5⟩ : ∃ W5, W5 = w3.alloc (.cells #[.int .i64 gAk, .int .i64 gAb, .int .i64 gAn, .int .i64 gAf] 29) := ⟨_, rfl⟩
  rw [← hW5] at Sw
  have p5 : w3.heap.size < W5.heap.size := by rw [hW5]; simp
  have hc : Chg w3 W5 0 0 := by rw [hW5]; exact Chg.alloc _ _ 0
  replace rt0 := rt0.chg hc (by omega)
  replace B := hc.bel B (by omega)
  have z6 := hc.size
  clear hc
  clear rt0
  clear HS
  go_wp2_with fail
  rw [← hW5]
  clear hW5
  refine (toS ab0 nb0 cb0 xs0 _ (hb0.below B) (by omega)).mono ?_
  rintro e w7 ⟨y0A, y0C, rfl, oy0, _, hb⟩
  have hc : Chg W5 w7 0 0 := .of_below hb 0
  replace Sw := Sw.chg hc (by omega)
  replace B := hc.bel B (by omega)
  have z8 := hc.size
  clear hc
  clear hb
  have ry0 := Ro.new oy0
  clear oy0
  go_wp2_with fail
  refine (HI.out y0A nb0 y0C _ (bs_of_own ry0.o HXB0.out) (by omega)).mono ?_
  rintro e w9 ⟨rfl, hb⟩
  have hc : Chg w7 w9 0 0 := .of_below hb 0
  replace Sw := Sw.chg hc (by omega)
  replace ry0 := ry0.chg hc (by omega)
  replace B := hc.bel B (by omega)
  have z10 := hc.size
  clear hc
  clear hb
  have Sg : Arr (w9.alloc (.cells #[.int .i64 gAk, .int .i64 gAb, .int .i64 gAn, .int .i64 gAf] 29)) w9.heap.size 29 [.int .i64 gAk, .int .i64 gAb, .int .i64 gAn, .int .i64 gAf] := Arr.new _ _ _
  obtain ⟨W11, hW11⟩ : ∃ W11, W11 = w9.alloc (.cells #[.int .i64 gAk, .int .i64 gAb, .int .i64 gAn, .int .i64 gAf] 29) := ⟨_, rfl⟩
  rw [← hW11] at Sg
  have p11 : w9.heap.size < W11.heap.size := by rw [hW11]; simp
  have hc : Chg w9 W11 0 0 := by rw [hW11]; exact Chg.alloc _ _ 0
  replace Sw := Sw.chg hc (by omega)
  replace ry0 := ry0.chg hc (by omega)
  replace B := hc.bel B (by omega)
  have z12 := hc.size
  clear hc
  have c13_0 := Sg.cell 0
  have c13_1 := Sg.cell 1
  have c13_2 := Sg.cell 2
  have c13_3 := Sg.cell 3
  simp at c13_0 c13_1 c13_2 c13_3
  rw [hW11] at c13_0 c13_1 c13_2 c13_3
  have c14_0 := Sw.cell 0
  have c14_1 := Sw.cell 1
  have c14_2 := Sw.cell 2
  have c14_3 := Sw.cell 3
  simp at c14_0 c14_1 c14_2 c14_3
  rw [hW11] at c14_0 c14_1 c14_2 c14_3
  go_wp2_with fail
  rw [← hW11]
  clear hW11
  clear c13_0 c13_1 c13_2 c13_3 c14_0 c14_1 c14_2 c14_3
  refine (eqRecC gAk gAb gAn gAf _).mono ?_
  rintro e w15 ⟨rfl, hb⟩
  have hc : Chg W11 w15 0 0 := .of_below hb 0
  replace Sw := Sw.chg hc (by omega)
  replace ry0 := ry0.chg hc (by omega)
  replace Sg := Sg.chg hc (by omega)
  replace B := hc.bel B (by omega)
  have z16 := hc.size
  clear hc
  clear hb
  go_wp2_with fail
  refine (toS ab0 nb0 cb0 xs0 _ (hb0.below B) (by omega)).mono ?_
  rintro e w17 ⟨u0A, u0C, rfl, ou0, _, hb⟩
  have hc : Chg w15 w17 0 0 := .of_below hb 0
  replace Sw := Sw.chg hc (by omega)
  replace ry0 := ry0.chg hc (by omega)
  replace Sg := Sg.chg hc (by omega)
  replace B := hc.bel B (by omega)
  have z18 := hc.size
  clear hc
  clear hb
  have ru0 := Ro.new ou0
  clear ou0
  go_wp2_with fail
  refine (eqB y0A u0A nb0 y0C u0C xs0 _ (bs_of_own ry0.o HXB0.out) (bs_of_own ru0.o HXB0.out) (by omega)).mono ?_
  rintro e w19 ⟨q, rfl, hw⟩
  have hb : Below w17.heap.size w17 w19 := by rw [hw]; exact bel_drewN _ _
  clear hw
  have hc : Chg w17 w19 0 0 := .of_below hb 0
  replace Sw := Sw.chg hc (by omega)
  replace ry0 := ry0.chg hc (by omega)
  replace Sg := Sg.chg hc (by omega)
  replace ru0 := ru0.chg hc (by omega)
  replace B := hc.bel B (by omega)
  have z20 := hc.size
  clear hc
  clear hb
  clear ru0
  have c21_0 := Sw.cell 0
  have c21_1 := Sw.cell 1
  have c21_2 := Sw.cell 2
  have c21_3 := Sw.cell 3
  simp at c21_0 c21_1 c21_2 c21_3
  have c22_0 := Sg.cell 0
  have c22_1 := Sg.cell 1
  have c22_2 := Sg.cell 2
  have c22_3 := Sg.cell 3
  simp at c22_0 c22_1 c22_2 c22_3
  go_wp2
  go_ret
  exact ⟨rfl, B⟩
end Go.Proofs.Ytaelclamlfhimaa
