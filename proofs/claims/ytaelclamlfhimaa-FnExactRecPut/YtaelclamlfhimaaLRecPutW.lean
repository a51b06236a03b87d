/-
  What is proved here: the exact law of RecPut returns true at every argument, and writes into nothing that was there.
-/
import Derived.Test.YtaelclamlfhimaaC0g
import Derived.Test.YtaelclamlfhimaaSmA
import Derived.Test.YtaelclamlfhimaaSmB
import Derived.Test.YtaelclamlfhimaaLarg10
import Derived.Test.YtaelclamlfhimaaC0q
import Derived.Test.YtaelclamlfhimaaC0r
namespace Go.Proofs.Ytaelclamlfhimaa
set_option maxRecDepth 100000
open Go.RowKit
set_option linter.unusedVariables false

set_option maxHeartbeats 4000000 in
theorem walk_fnExactRecPut (w : World) (k0 b0 n0 f0 : Int) (hk0 : I64R k0) (hb0 : I64R b0) (hn0 : I64R n0) (hf0 : I64R f0) :
    Calls Try.prog 6 #[rcV k0 b0 n0 f0] w fun e w' => e = .returned (.bool true) ∧ Below w.heap.size w w' := by
  obtain ⟨V, hV⟩ : ∃ V, V = (w.alloc (.cells #[.int .i64 k0, .int .i64 b0, .int .i64 n0, .int .i64 f0] 41)) := ⟨_, rfl⟩
  have B : Below w.heap.size w V := by rw [hV]; exact ((Below.refl _ _).alloc (by first | exact Nat.le_refl _ | simp) _)
  have A0 : Arr V w.heap.size 41 [.int .i64 k0, .int .i64 b0, .int .i64 n0, .int .i64 f0] := by rw [hV]; have := (Arr.new w [.int .i64 k0, .int .i64 b0, .int .i64 n0, .int .i64 f0] 41); simpa using this
  have z0 : w.heap.size + 1 ≤ V.heap.size := by rw [hV]; simp
  have HS0 := fun  w  => specRecPut k0 b0 n0 f0 w 
  have HI0 := fun  w  => implRecPut k0 b0 n0 f0 w 
  have lb1 : ((if rcOk k0 b0 n0 f0 then rcB k0 b0 n0 f0 else [])).length ≤ 8 := ifB_len k0 b0 n0 f0
  have lb2 := ifB_byte k0 b0 n0 f0
  have lb3 : (if rcOk k0 b0 n0 f0 then 8 else 0) = ((if rcOk k0 b0 n0 f0 then rcB k0 b0 n0 f0 else [])).length := ifB_eq _ _ _ _
  rw [lb3] at HS0 HI0
  clear lb3
  generalize hLB : (if rcOk k0 b0 n0 f0 then rcB k0 b0 n0 f0 else []) = LB at HS0 HI0 lb1 lb2
  clear hLB
  obtain ⟨mB, emB⟩ : ∃ m, m = LB.length := ⟨_, rfl⟩
  rw [← emB] at lb1 HS0 HI0
  have HmB : Hid _ := emB
  have HLB : Hid _ := lb2
  clear emB lb2
  have HS : Hid _ := HS0
  have HI : Hid _ := HI0
  clear HS0 HI0
  go_enter Try.func6, Try.ntmps6
  go_upto_region 1 with fail
  rw [← hV]
  clear hV
  have c1_0 := A0.cell 0
  have c1_1 := A0.cell 1
  have c1_2 := A0.cell 2
  have c1_3 := A0.cell 3
  simp at c1_0 c1_1 c1_2 c1_3
  go_wp2_with fail
  clear c1_0 c1_1 c1_2 c1_3
  refine (toRecC k0 b0 n0 f0 _).mono ?_
  rintro e w2 ⟨rfl, hb⟩
  have hc : Chg V w2 0 0 := .of_below hb 0
  replace A0 := A0.chg hc (by omega)
  replace B := hc.bel B (by omega)
  have z3 := hc.size
  clear hc
  clear hb
  go_wp2_with fail
  refine (HS.out  _ ).mono ?_
  rintro e w4 ⟨vw, rfl, ow, hb⟩
  obtain ⟨wA, wC, rfl, _, _⟩ := Bs.own ow HLB.out
  have hc : Chg w2 w4 0 0 := .of_below hb 0
  replace A0 := A0.chg hc (by omega)
  replace B := hc.bel B (by omega)
  have z5 := hc.size
  clear hc
  clear hb
  have Rw := Ro.new ow
  clear ow
  clear HS
  have c6_0 := A0.cell 0
  have c6_1 := A0.cell 1
  have c6_2 := A0.cell 2
  have c6_3 := A0.cell 3
  simp at c6_0 c6_1 c6_2 c6_3
  go_wp2_with fail
  clear c6_0 c6_1 c6_2 c6_3
  refine (toRecC k0 b0 n0 f0 _).mono ?_
  rintro e w7 ⟨rfl, hb⟩
  have hc : Chg w4 w7 0 0 := .of_below hb 0
  replace A0 := A0.chg hc (by omega)
  replace Rw := Rw.chg hc (by omega)
  replace B := hc.bel B (by omega)
  have z8 := hc.size
  clear hc
  clear hb
  go_wp2_with fail
  refine (HI.out  _ ).mono ?_
  rintro e w9 ⟨vg, rfl, og, hb⟩
  obtain ⟨gA, gC, rfl, _, _⟩ := Bs.own og HLB.out
  have hc : Chg w7 w9 0 0 := .of_below hb 0
  replace A0 := A0.chg hc (by omega)
  replace Rw := Rw.chg hc (by omega)
  replace B := hc.bel B (by omega)
  have z10 := hc.size
  clear hc
  clear hb
  have Rg := Ro.new og
  clear og
  go_wp2_with fail
  refine (eqB gA wA mB gC wC LB _ (bs_of_own Rg.o HLB.out) (bs_of_own Rw.o HLB.out) (by omega)).mono ?_
  rintro e w11 ⟨q, rfl, hw⟩
  have hb : Below w9.heap.size w9 w11 := by rw [hw]; exact bel_drewN _ _
  clear hw
  have hc : Chg w9 w11 0 0 := .of_below hb 0
  replace A0 := A0.chg hc (by omega)
  replace Rw := Rw.chg hc (by omega)
  replace Rg := Rg.chg hc (by omega)
  replace B := hc.bel B (by omega)
  have z12 := hc.size
  clear hc
  clear hb
  go_wp2_with fail
  refine (markB _ mB _ 1 LB _ Rg.o (by omega) (by omega) (by omega)).mono ?_
  rintro e w13 ⟨rfl, og, g⟩
  have Rg2 := Rg.marked g og
  have hc : Chg w11 w13 _ _ := Rg.gr g
  replace A0 := A0.chg hc (by omega)
  replace Rw := Rw.chg hc (by omega)
  replace B := hc.bel B (by omega)
  have z14 := hc.size
  clear hc
  clear Rg g og
  have HM1 : Hid _ := marks_byte 1 mB
  have hm0 : ¬ ((1 : Int) + (mB : Int) < 0) := by omega
  have hmm : ((1 : Int) + (mB : Int) != (1 : Int) + (mB : Int)) = false := by simp
  go_wp2_with fail
  refine (heldB gA mB gC 1 _ (bs_of_own Rg2.o HM1.out) (by omega) (by omega) (by omega)).mono ?_
  rintro e w15 ⟨rfl, hw⟩
  have hb : Below w13.heap.size w13 w15 := by rw [hw]; exact Below.refl _ _
  clear hw
  have hc : Chg w13 w15 0 0 := .of_below hb 0
  replace A0 := A0.chg hc (by omega)
  replace Rw := Rw.chg hc (by omega)
  replace Rg2 := Rg2.chg hc (by omega)
  replace B := hc.bel B (by omega)
  have z16 := hc.size
  clear hc
  clear hb
  have c17_0 := A0.cell 0
  have c17_1 := A0.cell 1
  have c17_2 := A0.cell 2
  have c17_3 := A0.cell 3
  simp at c17_0 c17_1 c17_2 c17_3
  go_wp2_with fail
  clear c17_0 c17_1 c17_2 c17_3
  refine (toRecC k0 b0 n0 f0 _).mono ?_
  rintro e w18 ⟨rfl, hb⟩
  have hc : Chg w15 w18 0 0 := .of_below hb 0
  replace A0 := A0.chg hc (by omega)
  replace Rw := Rw.chg hc (by omega)
  replace Rg2 := Rg2.chg hc (by omega)
  replace B := hc.bel B (by omega)
  have z19 := hc.size
  clear hc
  clear hb
  go_wp2_with fail
  refine (HI.out  _ ).mono ?_
  rintro e w20 ⟨vh, rfl, oh, hb⟩
  obtain ⟨hA, hC, rfl, _, _⟩ := Bs.own oh HLB.out
  have hc : Chg w18 w20 0 0 := .of_below hb 0
  replace A0 := A0.chg hc (by omega)
  replace Rw := Rw.chg hc (by omega)
  replace Rg2 := Rg2.chg hc (by omega)
  replace B := hc.bel B (by omega)
  have z21 := hc.size
  clear hc
  clear hb
  have Rh := Ro.new oh
  clear oh
  go_wp2_with fail
  refine (eqB hA wA mB hC wC LB _ (bs_of_own Rh.o HLB.out) (bs_of_own Rw.o HLB.out) (by omega)).mono ?_
  rintro e w22 ⟨q, rfl, hw⟩
  have hb : Below w20.heap.size w20 w22 := by rw [hw]; exact bel_drewN _ _
  clear hw
  have hc : Chg w20 w22 0 0 := .of_below hb 0
  replace A0 := A0.chg hc (by omega)
  replace Rw := Rw.chg hc (by omega)
  replace Rg2 := Rg2.chg hc (by omega)
  replace Rh := Rh.chg hc (by omega)
  replace B := hc.bel B (by omega)
  have z23 := hc.size
  clear hc
  clear hb
  go_wp2_with fail
  refine (heldB gA mB gC 1 _ (bs_of_own Rg2.o HM1.out) (by omega) (by omega) (by omega)).mono ?_
  rintro e w24 ⟨rfl, hw⟩
  have hb : Below w22.heap.size w22 w24 := by rw [hw]; exact Below.refl _ _
  clear hw
  have hc : Chg w22 w24 0 0 := .of_below hb 0
  replace A0 := A0.chg hc (by omega)
  replace Rw := Rw.chg hc (by omega)
  replace Rg2 := Rg2.chg hc (by omega)
  replace Rh := Rh.chg hc (by omega)
  replace B := hc.bel B (by omega)
  have z25 := hc.size
  clear hc
  clear hb
  go_wp2
  go_ret
  exact ⟨rfl, B⟩
end Go.Proofs.Ytaelclamlfhimaa
