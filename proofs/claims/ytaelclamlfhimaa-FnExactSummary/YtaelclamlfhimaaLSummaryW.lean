/-
  What is proved here: the exact law of Summary returns true at every argument, and writes into nothing that was there.
-/
import Derived.Test.YtaelclamlfhimaaC0g
import Derived.Test.YtaelclamlfhimaaSmA
import Derived.Test.YtaelclamlfhimaaSmB
import Derived.Test.YtaelclamlfhimaaLarg10
import Derived.Test.YtaelclamlfhimaaC1f
import Derived.Test.YtaelclamlfhimaaC1g
namespace Go.Proofs.Ytaelclamlfhimaa
set_option maxRecDepth 100000
open Go.RowKit
set_option linter.unusedVariables false

set_option maxHeartbeats 4000000 in
theorem walk_fnExactSummary (w : World) (b0 n0 f0 : Int) (t0 : Bool) (i0 o0 : Int) (hb0 : I64R b0) (hn0 : I64R n0) (hf0 : I64R f0) (hi0 : I64R i0) (ho0 : I64R o0) :
    Calls Try.prog 12 #[btV b0 n0 f0 t0 i0 o0] w fun e w' => e = .returned (.bool true) ∧ Below w.heap.size w w' := by
  obtain ⟨V, hV⟩ : ∃ V, V = (w.alloc (.cells #[.int .i64 b0, .int .i64 n0, .int .i64 f0, .bool t0, .int .i64 i0, .int .i64 o0] 50)) := ⟨_, rfl⟩
  have B : Below w.heap.size w V := by rw [hV]; exact ((Below.refl _ _).alloc (by first | exact Nat.le_refl _ | simp) _)
  have A0 : Arr V w.heap.size 50 [.int .i64 b0, .int .i64 n0, .int .i64 f0, .bool t0, .int .i64 i0, .int .i64 o0] := by rw [hV]; have := (Arr.new w [.int .i64 b0, .int .i64 n0, .int .i64 f0, .bool t0, .int .i64 i0, .int .i64 o0] 50); simpa using this
  have z0 : w.heap.size + 1 ≤ V.heap.size := by rw [hV]; simp
  have HS0 := fun  w  => specSummary b0 n0 f0 t0 i0 o0 w 
  have HI0 := fun  w  => implSummary b0 n0 f0 t0 i0 o0 w 
  have lb1 : (smL b0 n0 f0 t0 i0 o0).length ≤ 5 := smL_len b0 n0 f0 t0 i0 o0
  have lb2 := True.intro
  generalize hLB : smL b0 n0 f0 t0 i0 o0 = LB at HS0 HI0 lb1
  clear hLB
  obtain ⟨mB, emB⟩ : ∃ m, m = LB.length := ⟨_, rfl⟩
  rw [← emB] at lb1 HS0 HI0
  have HmB : Hid _ := emB
  have HLB : Hid _ := lb2
  clear emB lb2
  have HS : Hid _ := HS0
  have HI : Hid _ := HI0
  clear HS0 HI0
  go_enter Try.func12, Try.ntmps12
  go_upto_region 1 with fail
  rw [← hV]
  clear hV
  have c1_0 := A0.cell 0
  have c1_1 := A0.cell 1
  have c1_2 := A0.cell 2
  have c1_3 := A0.cell 3
  have c1_4 := A0.cell 4
  have c1_5 := A0.cell 5
  simp at c1_0 c1_1 c1_2 c1_3 c1_4 c1_5
  go_wp2_with fail
  clear c1_0 c1_1 c1_2 c1_3 c1_4 c1_5
  refine (toBootC b0 n0 f0 t0 i0 o0 _).mono ?_
  rintro e w2 ⟨rfl, hb⟩
  have hc : Chg V w2 0 0 := .of_below hb 0
  replace A0 := A0.chg hc (by omega)
  replace B := hc.bel B (by omega)
  have z3 := hc.size
  clear hc
  clear hb
  go_wp2_with fail
  refine (HS.out  _ ).mono ?_
  rintro e w4 ⟨vw, rfl, ow, hb⟩
  obtain ⟨wA, wC, rfl, _, _⟩ := Rs.own ow
  have hc : Chg w2 w4 0 0 := .of_below hb 0
  replace A0 := A0.chg hc (by omega)
  replace B := hc.bel B (by omega)
  have z5 := hc.size
  clear hc
  clear hb
  have Rw := Rq.new ow
  clear ow
  clear HS
  have c6_0 := A0.cell 0
  have c6_1 := A0.cell 1
  have c6_2 := A0.cell 2
  have c6_3 := A0.cell 3
  have c6_4 := A0.cell 4
  have c6_5 := A0.cell 5
  simp at c6_0 c6_1 c6_2 c6_3 c6_4 c6_5
  go_wp2_with fail
  clear c6_0 c6_1 c6_2 c6_3 c6_4 c6_5
  refine (toBootC b0 n0 f0 t0 i0 o0 _).mono ?_
  rintro e w7 ⟨rfl, hb⟩
  have hc : Chg w4 w7 0 0 := .of_below hb 0
  replace A0 := A0.chg hc (by omega)
  replace Rw := Rw.chg hc (by omega)
  replace B := hc.bel B (by omega)
  have z8 := hc.size
  clear hc
  clear hb
  go_wp2_with fail
  refine (HI.out  _ ).mono ?_
  rintro e w9 ⟨vg, rfl, og, hb⟩
  obtain ⟨gA, gC, rfl, _, _⟩ := Rs.own og
  have hc : Chg w7 w9 0 0 := .of_below hb 0
  replace A0 := A0.chg hc (by omega)
  replace Rw := Rw.chg hc (by omega)
  replace B := hc.bel B (by omega)
  have z10 := hc.size
  clear hc
  clear hb
  have Rg := Rq.new og
  clear og
  go_wp2_with fail
  refine (eqRecSC gA wA mB gC wC LB _ (rs_of_own Rg.o) (rs_of_own Rw.o) (by omega)).mono ?_
  rintro e w11 ⟨rfl, hb⟩
  have hc : Chg w9 w11 0 0 := .of_below hb 0
  replace A0 := A0.chg hc (by omega)
  replace Rw := Rw.chg hc (by omega)
  replace Rg := Rg.chg hc (by omega)
  replace B := hc.bel B (by omega)
  have z12 := hc.size
  clear hc
  clear hb
  go_wp2_with fail
  refine (markRecSC _ mB _ 1 LB _ Rg.o (by omega) (by omega) (by omega)).mono ?_
  rintro e w13 ⟨rfl, og, g⟩
  have Rg2 := Rg.marked g og
  have hc : Chg w11 w13 _ _ := Rg.gr g
  replace A0 := A0.chg hc (by omega)
  replace Rw := Rw.chg hc (by omega)
  replace B := hc.bel B (by omega)
  have z14 := hc.size
  clear hc
  clear Rg g og
  have HM1 : Hid _ := True.intro
  have hm0 : ¬ ((1 : Int) + 4 * (mB : Int) < 0) := by omega
  have hmm : ((1 : Int) + 4 * (mB : Int) != (1 : Int) + 4 * (mB : Int)) = false := by simp
  go_wp2_with fail
  refine (heldRecSC gA mB gC 1 _ (rs_of_own Rg2.o) (by omega) (by omega) (by omega)).mono ?_
  rintro e w15 ⟨rfl, hw⟩
  have hb : Below w13.heap.size w13 w15 := by rw [hw]; exact Below.refl _ _
  clear hw
  have hc : Chg w13 w15 0 0 := .of_below hb 0
  replace A0 := A0.chg hc (by omega)
  replace Rw := Rw.chg hc (by omega)
  replace Rg2 := Rg2.chg hc (by omega)
  replace B := hc.bel B (by omega)
  have z16 := hc.size
  clear hc
  clear hb
  have c17_0 := A0.cell 0
  have c17_1 := A0.cell 1
  have c17_2 := A0.cell 2
  have c17_3 := A0.cell 3
  have c17_4 := A0.cell 4
  have c17_5 := A0.cell 5
  simp at c17_0 c17_1 c17_2 c17_3 c17_4 c17_5
  go_wp2_with fail
  clear c17_0 c17_1 c17_2 c17_3 c17_4 c17_5
  refine (toBootC b0 n0 f0 t0 i0 o0 _).mono ?_
  rintro e w18 ⟨rfl, hb⟩
  have hc : Chg w15 w18 0 0 := .of_below hb 0
  replace A0 := A0.chg hc (by omega)
  replace Rw := Rw.chg hc (by omega)
  replace Rg2 := Rg2.chg hc (by omega)
  replace B := hc.bel B (by omega)
  have z19 := hc.size
  clear hc
  clear hb
  go_wp2_with fail
  refine (HI.out  _ ).mono ?_
  rintro e w20 ⟨vh, rfl, oh, hb⟩
  obtain ⟨hA, hC, rfl, _, _⟩ := Rs.own oh
  have hc : Chg w18 w20 0 0 := .of_below hb 0
  replace A0 := A0.chg hc (by omega)
  replace Rw := Rw.chg hc (by omega)
  replace Rg2 := Rg2.chg hc (by omega)
  replace B := hc.bel B (by omega)
  have z21 := hc.size
  clear hc
  clear hb
  have Rh := Rq.new oh
  clear oh
  go_wp2_with fail
  refine (eqRecSC hA wA mB hC wC LB _ (rs_of_own Rh.o) (rs_of_own Rw.o) (by omega)).mono ?_
  rintro e w22 ⟨rfl, hb⟩
  have hc : Chg w20 w22 0 0 := .of_below hb 0
  replace A0 := A0.chg hc (by omega)
  replace Rw := Rw.chg hc (by omega)
  replace Rg2 := Rg2.chg hc (by omega)
  replace Rh := Rh.chg hc (by omega)
  replace B := hc.bel B (by omega)
  have z23 := hc.size
  clear hc
  clear hb
  go_wp2_with fail
  refine (heldRecSC gA mB gC 1 _ (rs_of_own Rg2.o) (by omega) (by omega) (by omega)).mono ?_
  rintro e w24 ⟨rfl, hw⟩
  have hb : Below w22.heap.size w22 w24 := by rw [hw]; exact Below.refl _ _
  clear hw
  have hc : Chg w22 w24 0 0 := .of_below hb 0
  replace A0 := A0.chg hc (by omega)
  replace Rw := Rw.chg hc (by omega)
  replace Rg2 := Rg2.chg hc (by omega)
  replace Rh := Rh.chg hc (by omega)
  replace B := hc.bel B (by omega)
  have z25 := hc.size
  clear hc
  clear hb
  go_wp2
  go_ret
  exact ⟨rfl, B⟩
end Go.Proofs.Ytaelclamlfhimaa
