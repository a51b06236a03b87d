/-
  What is proved here: the exact law of KeyFor returns true at every argument, and writes into nothing that was there.
-/
import Derived.Test.YtgfjbaigmkdbcaaK2
import Derived.Test.YtgfjbaigmkdbcaaK0m
namespace Go.Proofs.Ytgfjbaigmkdbcaa
set_option maxRecDepth 100000
open Go.RowKit
set_option linter.unusedVariables false

set_option maxHeartbeats 4000000 in
theorem walk_fnExactKeyFor (w : World) (a : Option Addr) (n c : Nat) (ks : List KeyM) (id : Int) (h : Ks w a n c ks) (hn : n ≤ 9223372036854775807) (hq : ∀ q, q < n → (ks.getD q kz).p.length ≤ 9223372036854775807) (hl : -9223372036854775808 ≤ id) (hu : id ≤ 9223372036854775807) :
    Calls Try.prog 7 #[.slice a n c, .int .i64 id] w fun e w' => e = .returned (.bool true) ∧ Below w.heap.size w w' := by
  have hy := h.by_
  have HS0 : Hid (∀ a' c' Z, Ks Z a' n c' ks → Calls Try.prog 33 #[.slice a' n c', .int .i64 id] Z fun e w' => ∃ v, e = .returned (.tuple #[v, .bool (kfB ks id)]) ∧ w'.ownsRow Z.heap.size 5 1 v (kfL ks id).length (U8 (kfL ks id)) ∧ Below Z.heap.size Z w') := fun a' c' Z hZ => specKeyFor a' n c' ks id Z hZ
  have HI0 : Hid (∀ a' c' Z, Ks Z a' n c' ks → Calls Try.prog 34 #[.slice a' n c', .int .i64 id] Z fun e w' => ∃ v, e = .returned (.tuple #[v, .bool (kfB ks id)]) ∧ w'.ownsRow Z.heap.size 5 1 v (kfL ks id).length (U8 (kfL ks id)) ∧ Below Z.heap.size Z w') := fun a' c' Z hZ => implKeyFor a' n c' ks id Z hZ
  have lb1 := kfL_len ks id
  have lb2 := kfL_byte hy id
  generalize hLB : kfL ks id = LB at HS0 HI0 lb1 lb2
  clear hLB
  obtain ⟨m, em⟩ : ∃ m, m = LB.length := ⟨_, rfl⟩
  rw [← em] at lb1 HS0 HI0
  have Hem : Hid _ := em
  have HLB : Hid (∀ x ∈ LB, 0 ≤ x ∧ x < 256) := lb2
  generalize hRB : kfB ks id = R at HS0 HI0
  clear hRB em lb2
  have hRR : (R != R) = false := by simp
  have HH : Hid (Ks w a n c ks) := h
  have HQ : Hid (∀ q, q < n → (ks.getD q kz).p.length ≤ 9223372036854775807) := hq
  clear h hq
  have B : Below w.heap.size w w := Below.refl _ _
  go_enter Try.func7, Try.ntmps7
  go_wp2_with fail
  refine Calls.mono (szKeySC a n c ks 1048576 _ HH.out (by omega) (by omega) hn HQ.out) ?_
  rintro e w1 ⟨x, rfl, hx, hb⟩
  have hc : Chg w w1 0 0 := .of_below hb 0
  replace B := hc.bel B (by omega)
  have z1 := hc.size
  clear hc
  clear hb
  rcases hx with rfl | ⟨x0, x1, hs⟩
  · go_wp2
    go_ret
    exact ⟨rfl, B⟩
  have hx' : ¬ x < 0 := by omega
  have HM : Hid (KqSm n ks) := hs
  have hn1 := hs.1
  clear hs HQ
  go_wp2_with fail
  refine Calls.mono (toKeySC a n c ks _ (HH.out.below B) HM.out) ?_
  rintro e w2 ⟨tA, tC, rfl, ot, hb⟩
  have hc : Chg w1 w2 0 0 := .of_below hb 0
  replace B := hc.bel B (by omega)
  have z2 := hc.size
  clear hc
  clear hb
  go_wp2_with fail
  refine Calls.mono (HS0.out tA tC _ (ot.rd hy)) ?_
  rintro e w3 ⟨vw, rfl, ow, hb⟩
  obtain ⟨wA, wC, rfl, _, _⟩ := Bs.own ow HLB.out
  have hc : Chg w2 w3 0 0 := .of_below hb 0
  replace B := hc.bel B (by omega)
  have z3 := hc.size
  clear hc
  clear hb ot HS0
  have Rw := Ro.new ow
  clear ow
  go_wp2_with fail
  refine Calls.mono (toKeySC a n c ks _ (HH.out.below B) HM.out) ?_
  rintro e w4 ⟨yA, yC, rfl, oy, hb⟩
  have hc : Chg w3 w4 0 0 := .of_below hb 0
  replace Rw := Rw.chg hc (by omega)
  replace B := hc.bel B (by omega)
  have z4 := hc.size
  clear hc
  clear hb
  have Ky := Kqh.of oy
  clear oy
  go_wp2_with fail
  refine Calls.mono (HI0.out yA yC _ (Ky.q.rd hy)) ?_
  rintro e w5 ⟨vg, rfl, og, hb⟩
  obtain ⟨gA, gC, rfl, _, _⟩ := Bs.own og HLB.out
  have hc : Chg w4 w5 0 0 := .of_below hb 0
  replace Rw := Rw.chg hc (by omega)
  replace Ky := Ky.chg hc (by omega)
  replace B := hc.bel B (by omega)
  have z5 := hc.size
  clear hc
  clear hb
  have Rg := Ro.new og
  clear og
  go_wp2_with fail
  refine Calls.mono (eqBC gA wA m gC wC LB _ (bs_of_own Rg.o HLB.out) (bs_of_own Rw.o HLB.out) (by omega)) ?_
  rintro e w6 ⟨rfl, hb⟩
  have hc : Chg w5 w6 0 0 := .of_below hb 0
  replace Rw := Rw.chg hc (by omega)
  replace Ky := Ky.chg hc (by omega)
  replace Rg := Rg.chg hc (by omega)
  replace B := hc.bel B (by omega)
  have z6 := hc.size
  clear hc
  clear hb
  go_wp2_with fail
  refine Calls.mono (toKeySC a n c ks _ (HH.out.below B) HM.out) ?_
  rintro e w7 ⟨uA, uC, rfl, ou, hb⟩
  have hc : Chg w6 w7 0 0 := .of_below hb 0
  replace Rw := Rw.chg hc (by omega)
  replace Ky := Ky.chg hc (by omega)
  replace Rg := Rg.chg hc (by omega)
  replace B := hc.bel B (by omega)
  have z7 := hc.size
  clear hc
  clear hb
  go_wp2_with fail
  refine Calls.mono (eqKeySC yA uA n yC uC ks _ (Ky.q.rd hy) (ou.rd hy) HM.out) ?_
  rintro e w8 ⟨rfl, hb⟩
  have hc : Chg w7 w8 0 0 := .of_below hb 0
  replace Rw := Rw.chg hc (by omega)
  replace Ky := Ky.chg hc (by omega)
  replace Rg := Rg.chg hc (by omega)
  replace B := hc.bel B (by omega)
  have z8 := hc.size
  clear hc
  clear hb ou
  go_wp2_with fail
  refine Calls.mono (markKeySC _ _ yA n yC ks 1 _ Ky HM.out (by omega) (by omega)) ?_
  rintro e w9 ⟨kx, rfl, hk, hc0⟩
  have hc : Chg w8 w9 _ _ := hc0
  replace Rw := Rw.chg hc (by omega)
  replace Rg := Rg.chg hc (by omega)
  replace B := hc.bel B (by omega)
  have z9 := hc.size
  clear hc
  clear hc0 Ky
  have hk0 : ¬ kx < 0 := by omega
  go_wp2_with fail
  refine Calls.mono (eqBC gA wA m gC wC LB _ (bs_of_own Rg.o HLB.out) (bs_of_own Rw.o HLB.out) (by omega)) ?_
  rintro e w10 ⟨rfl, hb⟩
  have hc : Chg w9 w10 0 0 := .of_below hb 0
  replace Rw := Rw.chg hc (by omega)
  replace Rg := Rg.chg hc (by omega)
  replace B := hc.bel B (by omega)
  have z10 := hc.size
  clear hc
  clear hb
  go_wp2_with fail
  refine Calls.mono (markB _ m _ 1 LB _ Rg.o (by omega) (by omega) (by omega)) ?_
  rintro e w11 ⟨rfl, og, g⟩
  have Rg2 := Rg.marked g og
  have hc : Chg w10 w11 _ _ := Rg.gr g
  replace Rw := Rw.chg hc (by omega)
  replace B := hc.bel B (by omega)
  have z11 := hc.size
  clear hc
  clear g og Rg
  have HM1 : Hid (∀ x ∈ marks 1 m, 0 ≤ x ∧ x < 256) := marks_byte 1 m
  have hm0 : ¬ ((1 : Int) + (m : Int) < 0) := by omega
  have hmm : ((1 : Int) + (m : Int) != (1 : Int) + (m : Int)) = false := by simp
  go_wp2_with fail
  refine Calls.mono (heldB gA m gC 1 _ (bs_of_own Rg2.o HM1.out) (by omega) (by omega) (by omega)) ?_
  rintro e w12 ⟨rfl, hw⟩
  have hb : Below w11.heap.size w11 w12 := by rw [hw]; exact Below.refl _ _
  clear hw
  have hc : Chg w11 w12 0 0 := .of_below hb 0
  replace Rw := Rw.chg hc (by omega)
  replace Rg2 := Rg2.chg hc (by omega)
  replace B := hc.bel B (by omega)
  have z12 := hc.size
  clear hc
  clear hb
  go_wp2_with fail
  refine Calls.mono (toKeySC a n c ks _ (HH.out.below B) HM.out) ?_
  rintro e w13 ⟨jA, jC, rfl, oj, hb⟩
  have hc : Chg w12 w13 0 0 := .of_below hb 0
  replace Rw := Rw.chg hc (by omega)
  replace Rg2 := Rg2.chg hc (by omega)
  replace B := hc.bel B (by omega)
  have z13 := hc.size
  clear hc
  clear hb
  go_wp2_with fail
  refine Calls.mono (HI0.out jA jC _ (oj.rd hy)) ?_
  rintro e w14 ⟨vh, rfl, oh, hb⟩
  obtain ⟨hA, hC, rfl, _, _⟩ := Bs.own oh HLB.out
  have hc : Chg w13 w14 0 0 := .of_below hb 0
  replace Rw := Rw.chg hc (by omega)
  replace Rg2 := Rg2.chg hc (by omega)
  replace B := hc.bel B (by omega)
  have z14 := hc.size
  clear hc
  clear hb oj
  have Rh := Ro.new oh
  clear oh
  go_wp2_with fail
  refine Calls.mono (eqBC hA wA m hC wC LB _ (bs_of_own Rh.o HLB.out) (bs_of_own Rw.o HLB.out) (by omega)) ?_
  rintro e w15 ⟨rfl, hb⟩
  have hc : Chg w14 w15 0 0 := .of_below hb 0
  replace Rw := Rw.chg hc (by omega)
  replace Rg2 := Rg2.chg hc (by omega)
  replace Rh := Rh.chg hc (by omega)
  replace B := hc.bel B (by omega)
  have z15 := hc.size
  clear hc
  clear hb
  go_wp2_with fail
  refine Calls.mono (heldB gA m gC 1 _ (bs_of_own Rg2.o HM1.out) (by omega) (by omega) (by omega)) ?_
  rintro e w16 ⟨rfl, hw⟩
  have hb : Below w15.heap.size w15 w16 := by rw [hw]; exact Below.refl _ _
  clear hw
  have hc : Chg w15 w16 0 0 := .of_below hb 0
  replace Rw := Rw.chg hc (by omega)
  replace Rg2 := Rg2.chg hc (by omega)
  replace Rh := Rh.chg hc (by omega)
  replace B := hc.bel B (by omega)
  have z16 := hc.size
  clear hc
  clear hb
  go_wp2
  go_ret
  exact ⟨rfl, B⟩
end Go.Proofs.Ytgfjbaigmkdbcaa
