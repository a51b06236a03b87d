/-
  What is proved here: the exact law of Scan returns true at every argument, and writes into nothing that was there.
-/
import Derived.Test.YtgfjbaigmkdbcaaC0g
import Derived.Test.YtgfjbaigmkdbcaaSmA
import Derived.Test.YtgfjbaigmkdbcaaSmB
import Derived.Test.YtgfjbaigmkdbcaaC1m
import Derived.Test.YtgfjbaigmkdbcaaC0n
import Derived.Test.YtgfjbaigmkdbcaaS0
namespace Go.Proofs.Ytgfjbaigmkdbcaa
set_option maxRecDepth 100000
open Go.RowKit
set_option linter.unusedVariables false

set_option maxHeartbeats 4000000 in
theorem walk_fnExactScan (w : World) (ab0 : Option Addr) (nb0 cb0 : Nat) (xs0 : List Int) (hb0 : Bs w ab0 nb0 cb0 xs0) :
    Calls Try.prog 9 #[.slice ab0 nb0 cb0] w fun e w' => e = .returned (.bool true) ∧ Below w.heap.size w w' := by
  have hxb0 := hb0.2.2.2.1
  have B : Below w.heap.size w w := Below.refl _ _
  by_cases g0 : 1048576 < (nb0 : Int)
  · go_enter Try.func9, Try.ntmps9
    go_wp2
    go_ret
    exact ⟨rfl, B⟩
  have HS0 := fun p0 q0 u0 w h0a h0b => specScan p0 q0 u0 xs0 w h0a h0b
  have HI0 := fun p0 q0 u0 w h0a h0b => implScan p0 q0 u0 xs0 w h0a h0b
  have lb1 : (scL xs0).length ≤ 32 := scL_len xs0
  have lb2 := True.intro
  generalize hLB : scL xs0 = LB at HS0 HI0 lb1
  clear hLB
  obtain ⟨mB, emB⟩ : ∃ m, m = LB.length := ⟨_, rfl⟩
  rw [← emB] at lb1 HS0 HI0
  have HmB : Hid _ := emB
  have HLB : Hid _ := lb2
  clear emB lb2
  generalize hRR0 : ((scN xs0 : Nat) : Int) = R at HS0 HI0
  clear hRR0
  have hRR : (R != R) = false := by simp
  have HS : Hid _ := HS0
  have HI : Hid _ := HI0
  clear HS0 HI0
  have HXB0 : Hid _ := hxb0
  clear hxb0
  go_enter Try.func9, Try.ntmps9
  go_wp2_with fail
  refine (toS ab0 nb0 cb0 xs0 _ (hb0.below B) (by omega)).mono ?_
  rintro e w1 ⟨t0A, t0C, rfl, ot0, _, hb⟩
  have hc : Chg w w1 0 0 := .of_below hb 0
  replace B := hc.bel B (by omega)
  have z2 := hc.size
  clear hc
  clear hb
  have rt0 := Ro.new ot0
  clear ot0
  go_wp2_with fail
  refine (HS.out t0A nb0 t0C _ (bs_of_own rt0.o HXB0.out) (by omega)).mono ?_
  rintro e w3 ⟨vw, rfl, ow, hb⟩
  obtain ⟨wA, wC, rfl, _, _⟩ := Rs.own ow
  have hc : Chg w1 w3 0 0 := .of_below hb 0
  replace rt0 := rt0.chg hc (by omega)
  replace B := hc.bel B (by omega)
  have z4 := hc.size
  clear hc
  clear hb
  have Rw := Rq.new ow
  clear ow
  clear rt0
  clear HS
  go_wp2_with fail
  refine (toS ab0 nb0 cb0 xs0 _ (hb0.below B) (by omega)).mono ?_
  rintro e w5 ⟨y0A, y0C, rfl, oy0, _, hb⟩
  have hc : Chg w3 w5 0 0 := .of_below hb 0
  replace Rw := Rw.chg hc (by omega)
  replace B := hc.bel B (by omega)
  have z6 := hc.size
  clear hc
  clear hb
  have ry0 := Ro.new oy0
  clear oy0
  go_wp2_with fail
  refine (HI.out y0A nb0 y0C _ (bs_of_own ry0.o HXB0.out) (by omega)).mono ?_
  rintro e w7 ⟨vg, rfl, og, hb⟩
  obtain ⟨gA, gC, rfl, _, _⟩ := Rs.own og
  have hc : Chg w5 w7 0 0 := .of_below hb 0
  replace Rw := Rw.chg hc (by omega)
  replace ry0 := ry0.chg hc (by omega)
  replace B := hc.bel B (by omega)
  have z8 := hc.size
  clear hc
  clear hb
  have Rg := Rq.new og
  clear og
  go_wp2_with fail
  refine (eqRecSC gA wA mB gC wC LB _ (rs_of_own Rg.o) (rs_of_own Rw.o) (by omega)).mono ?_
  rintro e w9 ⟨rfl, hb⟩
  have hc : Chg w7 w9 0 0 := .of_below hb 0
  replace Rw := Rw.chg hc (by omega)
  replace ry0 := ry0.chg hc (by omega)
  replace Rg := Rg.chg hc (by omega)
  replace B := hc.bel B (by omega)
  have z10 := hc.size
  clear hc
  clear hb
  go_wp2_with fail
  refine (toS ab0 nb0 cb0 xs0 _ (hb0.below B) (by omega)).mono ?_
  rintro e w11 ⟨u0A, u0C, rfl, ou0, _, hb⟩
  have hc : Chg w9 w11 0 0 := .of_below hb 0
  replace Rw := Rw.chg hc (by omega)
  replace ry0 := ry0.chg hc (by omega)
  replace Rg := Rg.chg hc (by omega)
  replace B := hc.bel B (by omega)
  have z12 := hc.size
  clear hc
  clear hb
  have ru0 := Ro.new ou0
  clear ou0
  go_wp2_with fail
  refine (eqB y0A u0A nb0 y0C u0C xs0 _ (bs_of_own ry0.o HXB0.out) (bs_of_own ru0.o HXB0.out) (by omega)).mono ?_
  rintro e w13 ⟨q, rfl, hw⟩
  have hb : Below w11.heap.size w11 w13 := by rw [hw]; exact bel_drewN _ _
  clear hw
  have hc : Chg w11 w13 0 0 := .of_below hb 0
  replace Rw := Rw.chg hc (by omega)
  replace ry0 := ry0.chg hc (by omega)
  replace Rg := Rg.chg hc (by omega)
  replace ru0 := ru0.chg hc (by omega)
  replace B := hc.bel B (by omega)
  have z14 := hc.size
  clear hc
  clear hb
  clear ru0
  go_wp2_with fail
  refine (markB _ nb0 _ 1 xs0 _ ry0.o (by omega) (by omega) (by omega)).mono ?_
  rintro e w15 ⟨rfl, _, g⟩
  have hc : Chg w13 w15 _ _ := ry0.gr g
  replace Rw := Rw.chg hc (by omega)
  replace Rg := Rg.chg hc (by omega)
  replace B := hc.bel B (by omega)
  have z16 := hc.size
  clear hc
  clear g ry0
  have hk0 : ¬ (((1 : Int) + (nb0 : Int)) < 0) := by omega
  go_wp2_with fail
  refine (eqRecSC gA wA mB gC wC LB _ (rs_of_own Rg.o) (rs_of_own Rw.o) (by omega)).mono ?_
  rintro e w17 ⟨rfl, hb⟩
  have hc : Chg w15 w17 0 0 := .of_below hb 0
  replace Rw := Rw.chg hc (by omega)
  replace Rg := Rg.chg hc (by omega)
  replace B := hc.bel B (by omega)
  have z18 := hc.size
  clear hc
  clear hb
  go_wp2_with fail
  refine (markRecSC _ mB _ 1 LB _ Rg.o (by omega) (by omega) (by omega)).mono ?_
  rintro e w19 ⟨rfl, og, g⟩
  have Rg2 := Rg.marked g og
  have hc : Chg w17 w19 _ _ := Rg.gr g
  replace Rw := Rw.chg hc (by omega)
  replace B := hc.bel B (by omega)
  have z20 := hc.size
  clear hc
  clear Rg g og
  have HM1 : Hid _ := True.intro
  have hm0 : ¬ ((1 : Int) + 4 * (mB : Int) < 0) := by omega
  have hmm : ((1 : Int) + 4 * (mB : Int) != (1 : Int) + 4 * (mB : Int)) = false := by simp
  go_wp2_with fail
  refine (heldRecSC gA mB gC 1 _ (rs_of_own Rg2.o) (by omega) (by omega) (by omega)).mono ?_
  rintro e w21 ⟨rfl, hw⟩
  have hb : Below w19.heap.size w19 w21 := by rw [hw]; exact Below.refl _ _
  clear hw
  have hc : Chg w19 w21 0 0 := .of_below hb 0
  replace Rw := Rw.chg hc (by omega)
  replace Rg2 := Rg2.chg hc (by omega)
  replace B := hc.bel B (by omega)
  have z22 := hc.size
  clear hc
  clear hb
  go_wp2_with fail
  refine (toS ab0 nb0 cb0 xs0 _ (hb0.below B) (by omega)).mono ?_
  rintro e w23 ⟨j0A, j0C, rfl, oj0, _, hb⟩
  have hc : Chg w21 w23 0 0 := .of_below hb 0
  replace Rw := Rw.chg hc (by omega)
  replace Rg2 := Rg2.chg hc (by omega)
  replace B := hc.bel B (by omega)
  have z24 := hc.size
  clear hc
  clear hb
  have rj0 := Ro.new oj0
  clear oj0
  go_wp2_with fail
  refine (HI.out j0A nb0 j0C _ (bs_of_own rj0.o HXB0.out) (by omega)).mono ?_
  rintro e w25 ⟨vh, rfl, oh, hb⟩
  obtain ⟨hA, hC, rfl, _, _⟩ := Rs.own oh
  have hc : Chg w23 w25 0 0 := .of_below hb 0
  replace Rw := Rw.chg hc (by omega)
  replace Rg2 := Rg2.chg hc (by omega)
  replace rj0 := rj0.chg hc (by omega)
  replace B := hc.bel B (by omega)
  have z26 := hc.size
  clear hc
  clear hb
  have Rh := Rq.new oh
  clear oh
  clear rj0
  go_wp2_with fail
  refine (eqRecSC hA wA mB hC wC LB _ (rs_of_own Rh.o) (rs_of_own Rw.o) (by omega)).mono ?_
  rintro e w27 ⟨rfl, hb⟩
  have hc : Chg w25 w27 0 0 := .of_below hb 0
  replace Rw := Rw.chg hc (by omega)
  replace Rg2 := Rg2.chg hc (by omega)
  replace Rh := Rh.chg hc (by omega)
  replace B := hc.bel B (by omega)
  have z28 := hc.size
  clear hc
  clear hb
  go_wp2_with fail
  refine (heldRecSC gA mB gC 1 _ (rs_of_own Rg2.o) (by omega) (by omega) (by omega)).mono ?_
  rintro e w29 ⟨rfl, hw⟩
  have hb : Below w27.heap.size w27 w29 := by rw [hw]; exact Below.refl _ _
  clear hw
  have hc : Chg w27 w29 0 0 := .of_below hb 0
  replace Rw := Rw.chg hc (by omega)
  replace Rg2 := Rg2.chg hc (by omega)
  replace Rh := Rh.chg hc (by omega)
  replace B := hc.bel B (by omega)
  have z30 := hc.size
  clear hc
  clear hb
  go_wp2
  go_ret
  exact ⟨rfl, B⟩
end Go.Proofs.Ytgfjbaigmkdbcaa
