/-
  What is proved here: the exact law of TornErase returns true at every argument, and writes into nothing that was there.
-/
import Derived.Test.YtcnlpdpbkkjkoaaF9g
import Derived.Test.YtcnlpdpbkkjkoaaF9x
namespace Go.Proofs.Ytcnlpdpbkkjkoaa
set_option maxRecDepth 100000
open Go.RowKit
set_option linter.unusedVariables false

set_option maxHeartbeats 4000000 in
theorem walk_fnExactTornErase (w : World) (aB0 : Option Addr) (nB0 cB0 : Nat) (aW0 : Option Addr) (nW0 cW0 : Nat) (bs0 ws0 : List Int) (i1 : Int) (ab2 : Option Addr) (nb2 cb2 : Nat) (xs2 : List Int) (hB0 : Bs w aB0 nB0 cB0 bs0) (hW0 : Is w aW0 nW0 cW0 ws0) (hn0 : nB0 ≤ 9223372036854775807) (hm0 : nW0 ≤ 9223372036854775807) (hl1 : -9223372036854775808 ≤ i1) (hu1 : i1 ≤ 9223372036854775807) (hb2 : Bs w ab2 nb2 cb2 xs2) :
    Calls Try.prog 12 #[flV aB0 nB0 cB0 aW0 nW0 cW0, .int .i64 i1, .slice ab2 nb2 cb2] w fun e w' => e = .returned (.bool true) ∧ Below w.heap.size w w' := by
  have hbb0 := hB0.2.2.2.1
  have hwb0 := hW0.2.2.2.1
  have hxb2 := hb2.2.2.2.1
  obtain ⟨V, hV⟩ : ∃ V, V = (w.alloc (.cells #[.slice aB0 nB0 cB0, .slice aW0 nW0 cW0] 45)) := ⟨_, rfl⟩
  have B : Below w.heap.size w V := by rw [hV]; exact ((Below.refl _ _).alloc (by first | exact Nat.le_refl _ | simp) _)
  have A0 : Arr V w.heap.size 45 [.slice aB0 nB0 cB0, .slice aW0 nW0 cW0] := by rw [hV]; have := (Arr.new w [.slice aB0 nB0 cB0, .slice aW0 nW0 cW0] 45); simpa using this
  have z0 : w.heap.size + 1 ≤ V.heap.size := by rw [hV]; simp
  by_cases g2 : 1048576 < (nb2 : Int)
  · go_enter Try.func12, Try.ntmps12
    go_wp2
    go_ret
    exact ⟨rfl, by rw [hV] at B; exact B⟩
  have HS0 := fun b0 n0 c0 x0 m0 d0 b2 n2 c2 w h0a h0b h0c h0d h1a h1b h2a h2b => tornErase_s b0 n0 c0 x0 m0 d0 bs0 ws0 i1 b2 n2 c2 xs2 w h0a h0b h0c h0d h1a h1b h2a h2b
  have HI0 := fun b0 n0 c0 x0 m0 d0 b2 n2 c2 w h0a h0b h0c h0d h1a h1b h2a h2b => tornErase_i b0 n0 c0 x0 m0 d0 bs0 ws0 i1 b2 n2 c2 xs2 w h0a h0b h0c h0d h1a h1b h2a h2b
  have lb1 := teB_len bs0 ws0 i1 xs2
  have lb2 : ∀ x ∈ teB bs0 ws0 i1 xs2, 0 ≤ x ∧ x < 256 := teB_byte hbb0 ws0 i1 xs2
  generalize hLB : teB bs0 ws0 i1 xs2 = LB at HS0 HI0 lb1 lb2
  have lw1 : (teW bs0 ws0 i1 xs2).length ≤ 48 := teW_len bs0 ws0 i1 xs2
  have lw2 : ∀ x ∈ teW bs0 ws0 i1 xs2, -9223372036854775808 ≤ x ∧ x ≤ 9223372036854775807 := teW_int bs0 hwb0 i1 xs2
  generalize hLW : teW bs0 ws0 i1 xs2 = LW at HS0 HI0 lw1 lw2
  generalize hRR0 : teC bs0 ws0 i1 xs2 = R at HS0 HI0
  clear hRR0
  have hRR : (R != R) = false := by simp
  clear hLB
  obtain ⟨mB, emB⟩ : ∃ m, m = LB.length := ⟨_, rfl⟩
  rw [← emB] at lb1
  have HmB : Hid _ := emB
  have HLB : Hid _ := lb2
  clear emB lb2
  clear hLW
  obtain ⟨mW, emW⟩ : ∃ m, m = LW.length := ⟨_, rfl⟩
  rw [← emW] at lw1
  have HmW : Hid _ := emW
  have HLW : Hid _ := lw2
  clear emW lw2
  have HS : Hid _ := HS0
  have HI : Hid _ := HI0
  clear HS0 HI0
  have HBB0 : Hid _ := hbb0
  have HWB0 : Hid _ := hwb0
  clear hbb0 hwb0
  have HXB2 : Hid _ := hxb2
  clear hxb2
  go_enter Try.func12, Try.ntmps12
  have c1 := arr2 A0
  rw [hV] at c1
  go_wp2_with fail
  rw [← hV]
  clear hV
  clear c1
  refine (szFlashC aB0 nB0 cB0 aW0 nW0 cW0 1048576 _ (by omega) (by omega) hn0 hm0).mono ?_
  rintro e w2 ⟨l0, rfl, hr, hb⟩
  have hc : Chg V w2 0 0 := .of_below hb 0
  replace A0 := A0.chg hc (by omega)
  replace B := hc.bel B (by omega)
  have z3 := hc.size
  clear hc
  clear hb
  rcases hr with rfl | ⟨hr0, hr0a, hr0b, hr0c⟩
  · go_wp2
    go_ret
    exact ⟨rfl, B⟩
  have c4 := arr2 A0
  go_wp2_with fail
  clear c4
  refine (toFlashC aB0 nB0 cB0 aW0 nW0 cW0 bs0 ws0 _ (hB0.below B) (hW0.below B) (by omega) (by omega)).mono ?_
  rintro e w5 ⟨t0B, t0C, t0X, t0D, rfl, ot0, hb⟩
  have hc : Chg w2 w5 0 0 := .of_below hb 0
  replace A0 := A0.chg hc (by omega)
  replace B := hc.bel B (by omega)
  have z6 := hc.size
  clear hc
  clear hb
  have st0 : w2.heap.size ≤ w5.heap.size := by omega
  have qt0b := Ro.new ot0.ob
  have qt0w := Ro.new ot0.ow
  clear ot0
  go_wp2_with fail
  refine (toS ab2 nb2 cb2 xs2 _ (hb2.below B) (by omega)).mono ?_
  rintro e w7 ⟨t2A, t2C, rfl, ot2, _, hb⟩
  have hc : Chg w5 w7 0 0 := .of_below hb 0
  replace A0 := A0.chg hc (by omega)
  replace qt0b := qt0b.chg hc (by omega)
  replace qt0w := qt0w.chg hc (by omega)
  replace B := hc.bel B (by omega)
  have z8 := hc.size
  clear hc
  clear hb
  have rt2 := Ro.new ot2
  clear ot2
  go_wp2_with fail
  refine (HS.out t0B nB0 t0C t0X nW0 t0D t2A nb2 t2C _ (bs_of_own qt0b.o HBB0.out) (is_of_own qt0w.o HWB0.out) (by omega) (by omega) hl1 hu1 (bs_of_own rt2.o HXB2.out) (by omega)).mono ?_
  rintro e w9 ⟨vw, rfl, fw, hb⟩
  obtain ⟨wB, wC, wX, wD, rfl, ow⟩ := fw
  rw [← HmB.out, ← HmW.out] at ow ⊢
  have hc : Chg w7 w9 0 0 := .of_below hb 0
  replace A0 := A0.chg hc (by omega)
  replace qt0b := qt0b.chg hc (by omega)
  replace qt0w := qt0w.chg hc (by omega)
  replace rt2 := rt2.chg hc (by omega)
  replace B := hc.bel B (by omega)
  have z10 := hc.size
  clear hc
  clear hb
  have sw : w7.heap.size ≤ w9.heap.size := by omega
  clear qt0b
  clear qt0w
  clear rt2
  have Sw : Fa (w9.alloc (.cells #[.slice wB mB wC, .slice wX mW wD] 25)) w7.heap.size w9.heap.size wB mB wC wX mW wD LB LW := Fa.new ow (by omega)
  obtain ⟨W11, hW11⟩ : ∃ W11, W11 = w9.alloc (.cells #[.slice wB mB wC, .slice wX mW wD] 25) := ⟨_, rfl⟩
  rw [← hW11] at Sw
  have p11 : w9.heap.size < W11.heap.size := by rw [hW11]; simp
  have hc : Chg w9 W11 0 0 := by rw [hW11]; exact Chg.alloc _ _ 0
  replace A0 := A0.chg hc (by omega)
  replace B := hc.bel B (by omega)
  have z12 := hc.size
  clear hc
  clear ow
  clear HS
  have c13 := arr2 A0
  rw [hW11] at c13
  go_wp2_with fail
  rw [← hW11]
  clear hW11
  clear c13
  refine (toFlashC aB0 nB0 cB0 aW0 nW0 cW0 bs0 ws0 _ (hB0.below B) (hW0.below B) (by omega) (by omega)).mono ?_
  rintro e w14 ⟨x0B, x0C, x0X, x0D, rfl, ox0, hb⟩
  have hc : Chg W11 w14 0 0 := .of_below hb 0
  replace A0 := A0.chg hc (by omega)
  replace Sw := Sw.chg hc (by omega)
  replace B := hc.bel B (by omega)
  have z15 := hc.size
  clear hc
  clear hb
  have sx0 : W11.heap.size ≤ w14.heap.size := by omega
  have Sx0 : Fa (w14.alloc (.cells #[.slice x0B nB0 x0C, .slice x0X nW0 x0D] 25)) W11.heap.size w14.heap.size x0B nB0 x0C x0X nW0 x0D bs0 ws0 := Fa.new ox0 (by omega)
  obtain ⟨W16, hW16⟩ : ∃ W16, W16 = w14.alloc (.cells #[.slice x0B nB0 x0C, .slice x0X nW0 x0D] 25) := ⟨_, rfl⟩
  rw [← hW16] at Sx0
  have p16 : w14.heap.size < W16.heap.size := by rw [hW16]; simp
  have hc : Chg w14 W16 0 0 := by rw [hW16]; exact Chg.alloc _ _ 0
  replace A0 := A0.chg hc (by omega)
  replace Sw := Sw.chg hc (by omega)
  replace B := hc.bel B (by omega)
  have z17 := hc.size
  clear hc
  clear ox0
  go_wp2_with fail
  rw [← hW16]
  clear hW16
  refine (toS ab2 nb2 cb2 xs2 _ (hb2.below B) (by omega)).mono ?_
  rintro e w18 ⟨y2A, y2C, rfl, oy2, _, hb⟩
  have hc : Chg W16 w18 0 0 := .of_below hb 0
  replace A0 := A0.chg hc (by omega)
  replace Sw := Sw.chg hc (by omega)
  replace Sx0 := Sx0.chg hc (by omega)
  replace B := hc.bel B (by omega)
  have z19 := hc.size
  clear hc
  clear hb
  have ry2 := Ro.new oy2
  clear oy2
  have c20 := Sx0.cells
  go_wp2_with fail
  clear c20
  refine (HI.out x0B nB0 x0C x0X nW0 x0D y2A nb2 y2C _ (bs_of_own Sx0.o.ob HBB0.out) (is_of_own Sx0.o.ow HWB0.out) (by omega) (by omega) hl1 hu1 (bs_of_own ry2.o HXB2.out) (by omega)).mono ?_
  rintro e w21 ⟨vg, rfl, fg, hb⟩
  obtain ⟨gB, gC, gX, gD, rfl, og⟩ := fg
  rw [← HmB.out, ← HmW.out] at og ⊢
  have hc : Chg w18 w21 0 0 := .of_below hb 0
  replace A0 := A0.chg hc (by omega)
  replace Sw := Sw.chg hc (by omega)
  replace Sx0 := Sx0.chg hc (by omega)
  replace ry2 := ry2.chg hc (by omega)
  replace B := hc.bel B (by omega)
  have z22 := hc.size
  clear hc
  clear hb
  have sg : w18.heap.size ≤ w21.heap.size := by omega
  have Sg : Fa (w21.alloc (.cells #[.slice gB mB gC, .slice gX mW gD] 25)) w18.heap.size w21.heap.size gB mB gC gX mW gD LB LW := Fa.new og (by omega)
  obtain ⟨W23, hW23⟩ : ∃ W23, W23 = w21.alloc (.cells #[.slice gB mB gC, .slice gX mW gD] 25) := ⟨_, rfl⟩
  rw [← hW23] at Sg
  have p23 : w21.heap.size < W23.heap.size := by rw [hW23]; simp
  have hc : Chg w21 W23 0 0 := by rw [hW23]; exact Chg.alloc _ _ 0
  replace A0 := A0.chg hc (by omega)
  replace Sw := Sw.chg hc (by omega)
  replace Sx0 := Sx0.chg hc (by omega)
  replace ry2 := ry2.chg hc (by omega)
  replace B := hc.bel B (by omega)
  have z24 := hc.size
  clear hc
  clear og
  have c25 := Sg.cells
  rw [hW23] at c25
  have c26 := Sw.cells
  rw [hW23] at c26
  go_wp2_with fail
  rw [← hW23]
  clear hW23
  clear c25 c26
  refine (eqFlashC gB mB gC gX mW gD wB wC wX wD LB LW _ (bs_of_own Sg.o.ob HLB.out) (is_of_own Sg.o.ow HLW.out) (bs_of_own Sw.o.ob HLB.out) (is_of_own Sw.o.ow HLW.out) (by omega) (by omega)).mono ?_
  rintro e w27 ⟨rfl, hb⟩
  have hc : Chg W23 w27 0 0 := .of_below hb 0
  replace A0 := A0.chg hc (by omega)
  replace Sw := Sw.chg hc (by omega)
  replace Sx0 := Sx0.chg hc (by omega)
  replace ry2 := ry2.chg hc (by omega)
  replace Sg := Sg.chg hc (by omega)
  replace B := hc.bel B (by omega)
  have z28 := hc.size
  clear hc
  clear hb
  have AD := A0
  have XD := Sx0.p
  have BD := B.drew
  replace AD := AD.drew
  replace XD := XD.drew
  have IB := (bs_of_own Sx0.o.ob HBB0.out).below (Below.refl _ _).drew
  have IW := (is_of_own Sx0.o.ow HWB0.out).below (Below.refl _ _).drew
  have c29 := arr2 A0
  have c30 := Sx0.cells
  go_wp2
  clear c29 c30
  go_region_held3 (fun W => W.cell? ⟨w.heap.size, 0, none⟩ = some (.slice aB0 nB0 cB0) ∧ W.cell? ⟨w.heap.size, 1, none⟩ = some (.slice aW0 nW0 cW0) ∧ W.cell? ⟨w14.heap.size, 0, none⟩ = some (.slice x0B nB0 x0C) ∧ W.cell? ⟨w14.heap.size, 1, none⟩ = some (.slice x0X nW0 x0D))
    (first | exact c22_of AD XD | exact c22_of AE XE | exact c22_of (AE.kept hbE) (XE.kept hbE))
    ((first
      | (go_at_call 32; refine (toFlashC aB0 nB0 cB0 aW0 nW0 cW0 bs0 ws0 _ (hB0.below BD) (hW0.below BD) (by omega) (by omega)).mono ?_; rintro e w31 ⟨yB, yC, yX, yD, rfl, oE, hbD⟩; have AE := AD.kept hbD; have XE := XD.kept hbD)
      | (go_at_call 34; refine (eqFlashC x0B nB0 x0C x0X nW0 x0D yB yC yX yD bs0 ws0 _ (IB.below hbD) (IW.below hbD) (bs_of_own oE.ob HBB0.out) (is_of_own oE.ow HWB0.out) (by omega) (by omega)).mono ?_; rintro e w32 ⟨rfl, hbE⟩)))
  have hb : Below w27.heap.size w27 w32 := ((Below.refl _ _).drew.trans hbD).trans (hbE.mono hbD.size)
  clear hbD hbE AE XE AD XD BD IB IW oE
  have hc : Chg w27 w32 0 0 := .of_below hb 0
  replace A0 := A0.chg hc (by omega)
  replace Sw := Sw.chg hc (by omega)
  replace Sx0 := Sx0.chg hc (by omega)
  replace ry2 := ry2.chg hc (by omega)
  replace Sg := Sg.chg hc (by omega)
  replace B := hc.bel B (by omega)
  have z33 := hc.size
  clear hc
  clear hb
  go_wp2_with fail
  refine (toS ab2 nb2 cb2 xs2 _ (hb2.below B) (by omega)).mono ?_
  rintro e w34 ⟨u2A, u2C, rfl, ou2, _, hb⟩
  have hc : Chg w32 w34 0 0 := .of_below hb 0
  replace A0 := A0.chg hc (by omega)
  replace Sw := Sw.chg hc (by omega)
  replace Sx0 := Sx0.chg hc (by omega)
  replace ry2 := ry2.chg hc (by omega)
  replace Sg := Sg.chg hc (by omega)
  replace B := hc.bel B (by omega)
  have z35 := hc.size
  clear hc
  clear hb
  have ru2 := Ro.new ou2
  clear ou2
  go_wp2_with fail
  refine (eqB y2A u2A nb2 y2C u2C xs2 _ (bs_of_own ry2.o HXB2.out) (bs_of_own ru2.o HXB2.out) (by omega)).mono ?_
  rintro e w36 ⟨q, rfl, hw⟩
  have hb : Below w34.heap.size w34 w36 := by rw [hw]; exact bel_drewN _ _
  clear hw
  have hc : Chg w34 w36 0 0 := .of_below hb 0
  replace A0 := A0.chg hc (by omega)
  replace Sw := Sw.chg hc (by omega)
  replace Sx0 := Sx0.chg hc (by omega)
  replace ry2 := ry2.chg hc (by omega)
  replace Sg := Sg.chg hc (by omega)
  replace ru2 := ru2.chg hc (by omega)
  replace B := hc.bel B (by omega)
  have z37 := hc.size
  clear hc
  clear hb
  clear ru2
  have c38 := Sx0.cells
  go_wp2_with fail
  clear c38
  refine (markFlashC _ x0B nB0 x0C x0X nW0 x0D bs0 ws0 (1) _ Sx0.o (by omega) (by omega) (by omega) (by omega)).mono ?_
  rintro e w39 ⟨rfl, _, g⟩
  have hc : Chg w36 w39 _ _ := Sx0.gr g
  replace A0 := A0.chg hc (by omega)
  replace Sw := Sw.chg hc (by omega)
  replace ry2 := ry2.chg hc (by omega)
  replace Sg := Sg.chg hc (by omega)
  replace B := hc.bel B (by omega)
  have z40 := hc.size
  clear hc
  clear g Sx0
  go_wp2_with fail
  refine (markB _ nb2 _ (1 + (nB0 : Int) + (nW0 : Int)) xs2 _ ry2.o (by omega) (by omega) (by omega)).mono ?_
  rintro e w41 ⟨rfl, _, g⟩
  have hc : Chg w39 w41 _ _ := ry2.gr g
  replace A0 := A0.chg hc (by omega)
  replace Sw := Sw.chg hc (by omega)
  replace Sg := Sg.chg hc (by omega)
  replace B := hc.bel B (by omega)
  have z42 := hc.size
  clear hc
  clear g ry2
  have hk0 : ¬ ((1 + (nB0 : Int) + (nW0 : Int) + (nb2 : Int) : Int) < 0) := by omega
  have c43 := Sg.cells
  have c44 := Sw.cells
  go_wp2_with fail
  clear c43 c44
  refine (eqFlashC gB mB gC gX mW gD wB wC wX wD LB LW _ (bs_of_own Sg.o.ob HLB.out) (is_of_own Sg.o.ow HLW.out) (bs_of_own Sw.o.ob HLB.out) (is_of_own Sw.o.ow HLW.out) (by omega) (by omega)).mono ?_
  rintro e w45 ⟨rfl, hb⟩
  have hc : Chg w41 w45 0 0 := .of_below hb 0
  replace A0 := A0.chg hc (by omega)
  replace Sw := Sw.chg hc (by omega)
  replace Sg := Sg.chg hc (by omega)
  replace B := hc.bel B (by omega)
  have z46 := hc.size
  clear hc
  clear hb
  have c47 := Sg.cells
  go_wp2_with fail
  clear c47
  refine (markFlashC _ gB mB gC gX mW gD LB LW 1 _ Sg.o (by omega) (by omega) (by omega) (by omega)).mono ?_
  rintro e w48 ⟨rfl, og, g⟩
  have Sg2 := Sg.marked g og
  have hc : Chg w45 w48 _ _ := Sg.gr g
  replace A0 := A0.chg hc (by omega)
  replace Sw := Sw.chg hc (by omega)
  replace B := hc.bel B (by omega)
  have z49 := hc.size
  clear hc
  clear Sg g og
  have HM1 : Hid _ := marks_byte 1 mB
  have HM2 : Hid _ := marksI_int (1 + (mB : Int)) mW (by omega) (by omega) (by omega)
  have hm0 : ¬ ((1 : Int) + (mB : Int) + (mW : Int) < 0) := by omega
  have hmm : ((1 : Int) + (mB : Int) + (mW : Int) != 1 + (mB : Int) + (mW : Int)) = false := by simp
  have c50 := Sg2.cells
  go_wp2_with fail
  clear c50
  refine (heldFlashC gB mB gC gX mW gD 1 _ (bs_of_own Sg2.o.ob HM1.out) (is_of_own Sg2.o.ow HM2.out) (by omega) (by omega) (by omega) (by omega)).mono ?_
  rintro e w51 ⟨rfl, hb⟩
  have hc : Chg w48 w51 0 0 := .of_below hb 0
  replace A0 := A0.chg hc (by omega)
  replace Sw := Sw.chg hc (by omega)
  replace Sg2 := Sg2.chg hc (by omega)
  replace B := hc.bel B (by omega)
  have z52 := hc.size
  clear hc
  clear hb
  have c53 := arr2 A0
  go_wp2_with fail
  clear c53
  refine (toFlashC aB0 nB0 cB0 aW0 nW0 cW0 bs0 ws0 _ (hB0.below B) (hW0.below B) (by omega) (by omega)).mono ?_
  rintro e w54 ⟨j0B, j0C, j0X, j0D, rfl, oj0, hb⟩
  have hc : Chg w51 w54 0 0 := .of_below hb 0
  replace A0 := A0.chg hc (by omega)
  replace Sw := Sw.chg hc (by omega)
  replace Sg2 := Sg2.chg hc (by omega)
  replace B := hc.bel B (by omega)
  have z55 := hc.size
  clear hc
  clear hb
  have sj0 : w51.heap.size ≤ w54.heap.size := by omega
  have qj0b := Ro.new oj0.ob
  have qj0w := Ro.new oj0.ow
  clear oj0
  go_wp2_with fail
  refine (toS ab2 nb2 cb2 xs2 _ (hb2.below B) (by omega)).mono ?_
  rintro e w56 ⟨j2A, j2C, rfl, oj2, _, hb⟩
  have hc : Chg w54 w56 0 0 := .of_below hb 0
  replace A0 := A0.chg hc (by omega)
  replace Sw := Sw.chg hc (by omega)
  replace Sg2 := Sg2.chg hc (by omega)
  replace qj0b := qj0b.chg hc (by omega)
  replace qj0w := qj0w.chg hc (by omega)
  replace B := hc.bel B (by omega)
  have z57 := hc.size
  clear hc
  clear hb
  have rj2 := Ro.new oj2
  clear oj2
  go_wp2_with fail
  refine (HI.out j0B nB0 j0C j0X nW0 j0D j2A nb2 j2C _ (bs_of_own qj0b.o HBB0.out) (is_of_own qj0w.o HWB0.out) (by omega) (by omega) hl1 hu1 (bs_of_own rj2.o HXB2.out) (by omega)).mono ?_
  rintro e w58 ⟨vh, rfl, fh, hb⟩
  obtain ⟨hB, hC, hX, hD, rfl, oh⟩ := fh
  rw [← HmB.out, ← HmW.out] at oh ⊢
  have hc : Chg w56 w58 0 0 := .of_below hb 0
  replace A0 := A0.chg hc (by omega)
  replace Sw := Sw.chg hc (by omega)
  replace Sg2 := Sg2.chg hc (by omega)
  replace qj0b := qj0b.chg hc (by omega)
  replace qj0w := qj0w.chg hc (by omega)
  replace rj2 := rj2.chg hc (by omega)
  replace B := hc.bel B (by omega)
  have z59 := hc.size
  clear hc
  clear hb
  have sh : w56.heap.size ≤ w58.heap.size := by omega
  clear qj0b
  clear qj0w
  clear rj2
  have Sh9 : Fa (w58.alloc (.cells #[.slice hB mB hC, .slice hX mW hD] 25)) w56.heap.size w58.heap.size hB mB hC hX mW hD LB LW := Fa.new oh (by omega)
  obtain ⟨W60, hW60⟩ : ∃ W60, W60 = w58.alloc (.cells #[.slice hB mB hC, .slice hX mW hD] 25) := ⟨_, rfl⟩
  rw [← hW60] at Sh9
  have p60 : w58.heap.size < W60.heap.size := by rw [hW60]; simp
  have hc : Chg w58 W60 0 0 := by rw [hW60]; exact Chg.alloc _ _ 0
  replace A0 := A0.chg hc (by omega)
  replace Sw := Sw.chg hc (by omega)
  replace Sg2 := Sg2.chg hc (by omega)
  replace B := hc.bel B (by omega)
  have z61 := hc.size
  clear hc
  clear oh
  have c62 := Sh9.cells
  rw [hW60] at c62
  have c63 := Sw.cells
  rw [hW60] at c63
  go_wp2_with fail
  rw [← hW60]
  clear hW60
  clear c62 c63
  refine (eqFlashC hB mB hC hX mW hD wB wC wX wD LB LW _ (bs_of_own Sh9.o.ob HLB.out) (is_of_own Sh9.o.ow HLW.out) (bs_of_own Sw.o.ob HLB.out) (is_of_own Sw.o.ow HLW.out) (by omega) (by omega)).mono ?_
  rintro e w64 ⟨rfl, hb⟩
  have hc : Chg W60 w64 0 0 := .of_below hb 0
  replace A0 := A0.chg hc (by omega)
  replace Sw := Sw.chg hc (by omega)
  replace Sg2 := Sg2.chg hc (by omega)
  replace Sh9 := Sh9.chg hc (by omega)
  replace B := hc.bel B (by omega)
  have z65 := hc.size
  clear hc
  clear hb
  have c66 := Sg2.cells
  go_wp2_with fail
  clear c66
  refine (heldFlashC gB mB gC gX mW gD 1 _ (bs_of_own Sg2.o.ob HM1.out) (is_of_own Sg2.o.ow HM2.out) (by omega) (by omega) (by omega) (by omega)).mono ?_
  rintro e w67 ⟨rfl, hb⟩
  have hc : Chg w64 w67 0 0 := .of_below hb 0
  replace A0 := A0.chg hc (by omega)
  replace Sw := Sw.chg hc (by omega)
  replace Sg2 := Sg2.chg hc (by omega)
  replace Sh9 := Sh9.chg hc (by omega)
  replace B := hc.bel B (by omega)
  have z68 := hc.size
  clear hc
  clear hb
  go_wp2
  go_ret
  exact ⟨rfl, B⟩
end Go.Proofs.Ytcnlpdpbkkjkoaa
