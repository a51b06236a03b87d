/-
  What is proved here: the exact law of Handed returns true at every argument, and writes into nothing that was there.
-/
import Derived.Test.YtgfjbaigmkdbcaaR2
import Derived.Test.YtgfjbaigmkdbcaaSmBI
import Derived.Test.YtgfjbaigmkdbcaaEqI
namespace Go.Proofs.Ytgfjbaigmkdbcaa
set_option maxRecDepth 100000
open Go.RowKit
set_option linter.unusedVariables false

set_option maxHeartbeats 4000000 in
theorem walk_fnExactHanded (w : World) (a : Option Addr) (n c : Nat) (xs : List Rc) (h : Rs w a n c xs) (hn : n ≤ 9223372036854775807) (hI : rgI n xs) :
    Calls Try.prog 14 #[.slice a n c] w fun e w' => e = .returned (.bool true) ∧ Below w.heap.size w w' := by
  have hl := h.2.1
  have HS0 := fun p q u w' h1 => specHanded p q u xs w' h1
  have HI0 := fun p q u w' h1 => implHanded p q u xs w' h1
  have lb1 := hdL_len xs
  have lb2 := hdL_int (xs := xs) (by rw [hl]; exact hI)
  generalize hLB : hdL xs = LB at HS0 HI0 lb1 lb2
  clear hLB
  obtain ⟨m, em⟩ : ∃ m, m = LB.length := ⟨_, rfl⟩
  rw [← em] at lb1 HS0 HI0
  have HLB : Hid _ := lb2
  have HS : Hid _ := HS0
  have HI : Hid _ := HI0
  have HII : Hid _ := hI
  have Hem : Hid _ := em
  have HH : Hid (Rs w a n c xs) := h
  clear HS0 HI0 lb2 hI em h hl
  have B : Below w.heap.size w w := Below.refl _ _
  go_enter Try.func14, Try.ntmps14
  go_wp2_with fail
  refine (szReplySC a n c 1048576 _ (by omega) (by omega) hn).mono ?_
  rintro e w1 ⟨x, rfl, hx, hb⟩
  have hc : Chg w w1 0 0 := .of_below hb 0
  replace B := hc.bel B (by omega)
  have z1 := hc.size
  clear hc hb
  rcases hx with rfl | ⟨x0, x1, x2⟩
  · go_wp2
    go_ret
    exact ⟨rfl, B⟩
  have hx' : ¬ x < 0 := by omega
  go_wp2_with fail
  refine (toReplySC a n c xs _ (HH.out.below B) (by omega)).mono ?_
  rintro e w2 ⟨tA, tC, rfl, ot, hb⟩
  have hc : Chg w1 w2 0 0 := .of_below hb 0
  replace B := hc.bel B (by omega)
  have z2 := hc.size
  clear hc hb
  go_wp2_with fail
  refine (HS.out tA n tC _ (rs_of_own ot) (by omega) HII.out).mono ?_
  rintro e w3 ⟨vw, rfl, ow, hb⟩
  obtain ⟨wA, wC, rfl, _, _⟩ := Is.own ow HLB.out
  have hc : Chg w2 w3 0 0 := .of_below hb 0
  replace B := hc.bel B (by omega)
  have z3 := hc.size
  clear hc hb ot HS
  have Rw := Ro.new ow
  clear ow
  go_wp2_with fail
  refine (toReplySC a n c xs _ (HH.out.below B) (by omega)).mono ?_
  rintro e w4 ⟨yA, yC, rfl, oy, hb⟩
  have hc : Chg w3 w4 0 0 := .of_below hb 0
  replace Rw := Rw.chg hc (by omega)
  replace B := hc.bel B (by omega)
  have z4 := hc.size
  clear hc hb
  have ry := Rq.new oy
  clear oy
  go_wp2_with fail
  refine (HI.out yA n yC _ (rs_of_own ry.o) (by omega) HII.out).mono ?_
  rintro e w5 ⟨vg, rfl, og, hb⟩
  obtain ⟨gA, gC, rfl, _, _⟩ := Is.own og HLB.out
  have hc : Chg w4 w5 0 0 := .of_below hb 0
  replace Rw := Rw.chg hc (by omega)
  replace ry := ry.chg hc (by omega)
  replace B := hc.bel B (by omega)
  have z5 := hc.size
  clear hc hb
  have Rg := Ro.new og
  clear og
  go_wp2_with fail
  refine (eqI gA wA m gC wC LB _ (is_of_own Rg.o HLB.out) (is_of_own Rw.o HLB.out) (by omega)).mono ?_
  rintro e w6 ⟨q, rfl, hw⟩
  have hb : Below w5.heap.size w5 w6 := by rw [hw]; exact bel_drewN _ _
  clear hw
  have hc : Chg w5 w6 0 0 := .of_below hb 0
  replace Rw := Rw.chg hc (by omega)
  replace ry := ry.chg hc (by omega)
  replace Rg := Rg.chg hc (by omega)
  replace B := hc.bel B (by omega)
  have z6 := hc.size
  clear hc hb
  go_wp2_with fail
  refine (toReplySC a n c xs _ (HH.out.below B) (by omega)).mono ?_
  rintro e w7 ⟨uA, uC, rfl, ou, hb⟩
  have hc : Chg w6 w7 0 0 := .of_below hb 0
  replace Rw := Rw.chg hc (by omega)
  replace ry := ry.chg hc (by omega)
  replace Rg := Rg.chg hc (by omega)
  replace B := hc.bel B (by omega)
  have z7 := hc.size
  clear hc hb
  go_wp2_with fail
  refine (eqReplySC yA uA n yC uC xs _ (rs_of_own ry.o) (rs_of_own ou) (by omega)).mono ?_
  rintro e w8 ⟨rfl, hb⟩
  have hc : Chg w7 w8 0 0 := .of_below hb 0
  replace Rw := Rw.chg hc (by omega)
  replace ry := ry.chg hc (by omega)
  replace Rg := Rg.chg hc (by omega)
  replace B := hc.bel B (by omega)
  have z8 := hc.size
  clear hc hb ou
  go_wp2_with fail
  refine (markReplySC _ n _ 1 xs _ ry.o (by omega) (by omega) (by omega)).mono ?_
  rintro e w9 ⟨rfl, _, g⟩
  have hc : Chg w8 w9 _ _ := ry.gr g
  replace Rw := Rw.chg hc (by omega)
  replace Rg := Rg.chg hc (by omega)
  replace B := hc.bel B (by omega)
  have z9 := hc.size
  clear hc g ry
  have hk0 : ¬ ((1 : Int) + 4 * (n : Int) < 0) := by omega
  go_wp2_with fail
  refine (eqI gA wA m gC wC LB _ (is_of_own Rg.o HLB.out) (is_of_own Rw.o HLB.out) (by omega)).mono ?_
  rintro e w10 ⟨q, rfl, hw⟩
  have hb : Below w9.heap.size w9 w10 := by rw [hw]; exact bel_drewN _ _
  clear hw
  have hc : Chg w9 w10 0 0 := .of_below hb 0
  replace Rw := Rw.chg hc (by omega)
  replace Rg := Rg.chg hc (by omega)
  replace B := hc.bel B (by omega)
  have z10 := hc.size
  clear hc hb
  go_wp2_with fail
  refine (markI _ m _ 1 LB _ Rg.o (by omega) (by omega) (by omega)).mono ?_
  rintro e w11 ⟨rfl, og, g⟩
  have Rg2 := Rg.marked g og
  have hc : Chg w10 w11 _ _ := Rg.gr g
  replace Rw := Rw.chg hc (by omega)
  replace B := hc.bel B (by omega)
  have z11 := hc.size
  clear hc g og Rg
  have HM1 : Hid _ := marksI_int 1 m (by omega) (by omega) (by omega)
  have hm0 : ¬ ((1 : Int) + (m : Int) < 0) := by omega
  have hmm : ((1 : Int) + (m : Int) != (1 : Int) + (m : Int)) = false := by simp
  go_wp2_with fail
  refine (heldI gA m gC 1 _ (is_of_own Rg2.o HM1.out) (by omega) (by omega) (by omega)).mono ?_
  rintro e w12 ⟨rfl, hw⟩
  have hb : Below w11.heap.size w11 w12 := by rw [hw]; exact Below.refl _ _
  clear hw
  have hc : Chg w11 w12 0 0 := .of_below hb 0
  replace Rw := Rw.chg hc (by omega)
  replace Rg2 := Rg2.chg hc (by omega)
  replace B := hc.bel B (by omega)
  have z12 := hc.size
  clear hc hb
  go_wp2_with fail
  refine (toReplySC a n c xs _ (HH.out.below B) (by omega)).mono ?_
  rintro e w13 ⟨jA, jC, rfl, oj, hb⟩
  have hc : Chg w12 w13 0 0 := .of_below hb 0
  replace Rw := Rw.chg hc (by omega)
  replace Rg2 := Rg2.chg hc (by omega)
  replace B := hc.bel B (by omega)
  have z13 := hc.size
  clear hc hb
  go_wp2_with fail
  refine (HI.out jA n jC _ (rs_of_own oj) (by omega) HII.out).mono ?_
  rintro e w14 ⟨vh, rfl, oh, hb⟩
  obtain ⟨hA, hC, rfl, _, _⟩ := Is.own oh HLB.out
  have hc : Chg w13 w14 0 0 := .of_below hb 0
  replace Rw := Rw.chg hc (by omega)
  replace Rg2 := Rg2.chg hc (by omega)
  replace B := hc.bel B (by omega)
  have z14 := hc.size
  clear hc hb oj
  have Rh := Ro.new oh
  clear oh
  go_wp2_with fail
  refine (eqI hA wA m hC wC LB _ (is_of_own Rh.o HLB.out) (is_of_own Rw.o HLB.out) (by omega)).mono ?_
  rintro e w15 ⟨q, rfl, hw⟩
  have hb : Below w14.heap.size w14 w15 := by rw [hw]; exact bel_drewN _ _
  clear hw
  have hc : Chg w14 w15 0 0 := .of_below hb 0
  replace Rg2 := Rg2.chg hc (by omega)
  replace B := hc.bel B (by omega)
  have z15 := hc.size
  clear hc hb
  go_wp2_with fail
  refine (heldI gA m gC 1 _ (is_of_own Rg2.o HM1.out) (by omega) (by omega) (by omega)).mono ?_
  rintro e w16 ⟨rfl, hw⟩
  have hb : Below w15.heap.size w15 w16 := by rw [hw]; exact Below.refl _ _
  clear hw
  have hc : Chg w15 w16 0 0 := .of_below hb 0
  replace B := hc.bel B (by omega)
  clear hc hb
  go_wp2
  go_ret
  exact ⟨rfl, B⟩
end Go.Proofs.Ytgfjbaigmkdbcaa
