/-
  What is proved here: the exact law of WearMost returns true at every argument, and writes into nothing that was there.
-/
import Derived.Test.YtcnlpdpbkkjkoaaF9g
import Derived.Test.YtcnlpdpbkkjkoaaF9w
namespace Go.Proofs.Ytcnlpdpbkkjkoaa
set_option maxRecDepth 100000
open Go.RowKit
set_option linter.unusedVariables false

set_option maxHeartbeats 4000000 in
theorem walk_fnExactWearMost (w : World) (aB0 : Option Addr) (nB0 cB0 : Nat) (aW0 : Option Addr) (nW0 cW0 : Nat) (bs0 ws0 : List Int) (hB0 : Bs w aB0 nB0 cB0 bs0) (hW0 : Is w aW0 nW0 cW0 ws0) (hn0 : nB0 ≤ 9223372036854775807) (hm0 : nW0 ≤ 9223372036854775807) :
    Calls Try.prog 13 #[flV aB0 nB0 cB0 aW0 nW0 cW0] w fun e w' => e = .returned (.bool true) ∧ Below w.heap.size w w' := by
  have hbb0 := hB0.2.2.2.1
  have hwb0 := hW0.2.2.2.1
  obtain ⟨V, hV⟩ : ∃ V, V = (w.alloc (.cells #[.slice aB0 nB0 cB0, .slice aW0 nW0 cW0] 45)) := ⟨_, rfl⟩
  have B : Below w.heap.size w V := by rw [hV]; exact ((Below.refl _ _).alloc (by first | exact Nat.le_refl _ | simp) _)
  have A0 : Arr V w.heap.size 45 [.slice aB0 nB0 cB0, .slice aW0 nW0 cW0] := by rw [hV]; have := (Arr.new w [.slice aB0 nB0 cB0, .slice aW0 nW0 cW0] 45); simpa using this
  have z0 : w.heap.size + 1 ≤ V.heap.size := by rw [hV]; simp
  have HS0 := fun b0 n0 c0 x0 m0 d0 w h0a h0b h0c h0d => wear_s b0 n0 c0 x0 m0 d0 bs0 ws0 w h0a h0b h0c h0d
  have HI0 := fun b0 n0 c0 x0 m0 d0 w h0a h0b h0c h0d => wear_i b0 n0 c0 x0 m0 d0 bs0 ws0 w h0a h0b h0c h0d
  generalize hRR0 : wmost bs0 ws0 = R at HS0 HI0
  clear hRR0
  have hRR : (R != R) = false := by simp
  have HS : Hid _ := HS0
  have HI : Hid _ := HI0
  clear HS0 HI0
  have HBB0 : Hid _ := hbb0
  have HWB0 : Hid _ := hwb0
  clear hbb0 hwb0
  go_enter Try.func13, Try.ntmps13
  have c1 := arr2 A0
  rw [hV] at c1
  go_wp2_with fail
  rw [← hV]
  clear hV
  clear c1
  refine (szFlashC aB0 nB0 cB0 aW0 nW0 cW0 1048576 _ (by omega) (by omega) hn0 hm0).mono ?_
  rintro e w2 ⟨l0, rfl, hr, hb⟩
  have hc : Chg V w2 0 0 := .of_below hb 0
  replace A0 := A0.chg hc (by omega)
  replace B := hc.bel B (by omega)
  have z3 := hc.size
  clear hc
  clear hb
  rcases hr with rfl | ⟨hr0, hr0a, hr0b, hr0c⟩
  · go_wp2
    go_ret
    exact ⟨rfl, B⟩
  have c4 := arr2 A0
  go_wp2_with fail
  clear c4
  refine (toFlashC aB0 nB0 cB0 aW0 nW0 cW0 bs0 ws0 _ (hB0.below B) (hW0.below B) (by omega) (by omega)).mono ?_
  rintro e w5 ⟨t0B, t0C, t0X, t0D, rfl, ot0, hb⟩
  have hc : Chg w2 w5 0 0 := .of_below hb 0
  replace A0 := A0.chg hc (by omega)
  replace B := hc.bel B (by omega)
  have z6 := hc.size
  clear hc
  clear hb
  have st0 : w2.heap.size ≤ w5.heap.size := by omega
  have qt0b := Ro.new ot0.ob
  have qt0w := Ro.new ot0.ow
  clear ot0
  go_wp2_with fail
  refine (HS.out t0B nB0 t0C t0X nW0 t0D _ (bs_of_own qt0b.o HBB0.out) (is_of_own qt0w.o HWB0.out) (by omega) (by omega)).mono ?_
  rintro e w7 ⟨rfl, hb⟩
  have hc : Chg w5 w7 0 0 := .of_below hb 0
  replace A0 := A0.chg hc (by omega)
  replace qt0b := qt0b.chg hc (by omega)
  replace qt0w := qt0w.chg hc (by omega)
  replace B := hc.bel B (by omega)
  have z8 := hc.size
  clear hc
  clear hb
  clear qt0b
  clear qt0w
  clear HS
  have c9 := arr2 A0
  go_wp2_with fail
  clear c9
  refine (toFlashC aB0 nB0 cB0 aW0 nW0 cW0 bs0 ws0 _ (hB0.below B) (hW0.below B) (by omega) (by omega)).mono ?_
  rintro e w10 ⟨x0B, x0C, x0X, x0D, rfl, ox0, hb⟩
  have hc : Chg w7 w10 0 0 := .of_below hb 0
  replace A0 := A0.chg hc (by omega)
  replace B := hc.bel B (by omega)
  have z11 := hc.size
  clear hc
  clear hb
  have sx0 : w7.heap.size ≤ w10.heap.size := by omega
  have Sx0 : Fa (w10.alloc (.cells #[.slice x0B nB0 x0C, .slice x0X nW0 x0D] 25)) w7.heap.size w10.heap.size x0B nB0 x0C x0X nW0 x0D bs0 ws0 := Fa.new ox0 (by omega)
  obtain ⟨W12, hW12⟩ : ∃ W12, W12 = w10.alloc (.cells #[.slice x0B nB0 x0C, .slice x0X nW0 x0D] 25) := ⟨_, rfl⟩
  rw [← hW12] at Sx0
  have p12 : w10.heap.size < W12.heap.size := by rw [hW12]; simp
  have hc : Chg w10 W12 0 0 := by rw [hW12]; exact Chg.alloc _ _ 0
  replace A0 := A0.chg hc (by omega)
  replace B := hc.bel B (by omega)
  have z13 := hc.size
  clear hc
  clear ox0
  have c14 := Sx0.cells
  rw [hW12] at c14
  go_wp2_with fail
  rw [← hW12]
  clear hW12
  clear c14
  refine (HI.out x0B nB0 x0C x0X nW0 x0D _ (bs_of_own Sx0.o.ob HBB0.out) (is_of_own Sx0.o.ow HWB0.out) (by omega) (by omega)).mono ?_
  rintro e w15 ⟨rfl, hb⟩
  have hc : Chg W12 w15 0 0 := .of_below hb 0
  replace A0 := A0.chg hc (by omega)
  replace Sx0 := Sx0.chg hc (by omega)
  replace B := hc.bel B (by omega)
  have z16 := hc.size
  clear hc
  clear hb
  have AD := A0
  have XD := Sx0.p
  have BD := B.drew
  replace AD := AD.drew
  replace XD := XD.drew
  have IB := (bs_of_own Sx0.o.ob HBB0.out).below (Below.refl _ _).drew
  have IW := (is_of_own Sx0.o.ow HWB0.out).below (Below.refl _ _).drew
  have c17 := arr2 A0
  have c18 := Sx0.cells
  go_wp2
  clear c17 c18
  go_region_held3 (fun W => W.cell? ⟨w.heap.size, 0, none⟩ = some (.slice aB0 nB0 cB0) ∧ W.cell? ⟨w.heap.size, 1, none⟩ = some (.slice aW0 nW0 cW0) ∧ W.cell? ⟨w10.heap.size, 0, none⟩ = some (.slice x0B nB0 x0C) ∧ W.cell? ⟨w10.heap.size, 1, none⟩ = some (.slice x0X nW0 x0D))
    (first | exact c22_of AD XD | exact c22_of AE XE | exact c22_of (AE.kept hbE) (XE.kept hbE))
    ((first
      | (go_at_call 32; refine (toFlashC aB0 nB0 cB0 aW0 nW0 cW0 bs0 ws0 _ (hB0.below BD) (hW0.below BD) (by omega) (by omega)).mono ?_; rintro e w19 ⟨yB, yC, yX, yD, rfl, oE, hbD⟩; have AE := AD.kept hbD; have XE := XD.kept hbD)
      | (go_at_call 34; refine (eqFlashC x0B nB0 x0C x0X nW0 x0D yB yC yX yD bs0 ws0 _ (IB.below hbD) (IW.below hbD) (bs_of_own oE.ob HBB0.out) (is_of_own oE.ow HWB0.out) (by omega) (by omega)).mono ?_; rintro e w20 ⟨rfl, hbE⟩)))
  have hb : Below w15.heap.size w15 w20 := ((Below.refl _ _).drew.trans hbD).trans (hbE.mono hbD.size)
  clear hbD hbE AE XE AD XD BD IB IW oE
  have hc : Chg w15 w20 0 0 := .of_below hb 0
  replace A0 := A0.chg hc (by omega)
  replace Sx0 := Sx0.chg hc (by omega)
  replace B := hc.bel B (by omega)
  have z21 := hc.size
  clear hc
  clear hb
  have c22 := arr2 A0
  go_wp2
  go_ret
  exact ⟨rfl, B⟩
end Go.Proofs.Ytcnlpdpbkkjkoaa
