/-
  What is proved here: the exact law of TornProgram returns true at every argument, and writes into nothing that was there.
-/
import Derived.Test.YtcnlpdpbkkjkoaaF9g
import Derived.Test.YtcnlpdpbkkjkoaaF9q
namespace Go.Proofs.Ytcnlpdpbkkjkoaa
set_option maxRecDepth 100000
open Go.RowKit
set_option linter.unusedVariables false

set_option maxHeartbeats 4000000 in
theorem walk_fnExactTornProgram (w : World) (aB0 : Option Addr) (nB0 cB0 : Nat) (aW0 : Option Addr) (nW0 cW0 : Nat) (bs0 ws0 : List Int) (i1 : Int) (ab2 : Option Addr) (nb2 cb2 : Nat) (xs2 : List Int) (ab3 : Option Addr) (nb3 cb3 : Nat) (xs3 : List Int) (hB0 : Bs w aB0 nB0 cB0 bs0) (hW0 : Is w aW0 nW0 cW0 ws0) (hn0 : nB0 ≤ 9223372036854775807) (hm0 : nW0 ≤ 9223372036854775807) (hl1 : -9223372036854775808 ≤ i1) (hu1 : i1 ≤ 9223372036854775807) (hb2 : Bs w ab2 nb2 cb2 xs2) (hb3 : Bs w ab3 nb3 cb3 xs3) :
    Calls Try.prog 11 #[flV aB0 nB0 cB0 aW0 nW0 cW0, .int .i64 i1, .slice ab2 nb2 cb2, .slice ab3 nb3 cb3] w fun e w' => e = .returned (.bool true) ∧ Below w.heap.size w w' := by
  have hbb0 := hB0.2.2.2.1
  have hwb0 := hW0.2.2.2.1
  have hxb2 := hb2.2.2.2.1
  have hxb3 := hb3.2.2.2.1
  obtain ⟨V, hV⟩ : ∃ V, V = (w.alloc (.cells #[.slice aB0 nB0 cB0, .slice aW0 nW0 cW0] 45)) := ⟨_, rfl⟩
  have B : Below w.heap.size w V := by rw [hV]; exact ((Below.refl _ _).alloc (by first | exact Nat.le_refl _ | simp) _)
  have A0 : Arr V w.heap.size 45 [.slice aB0 nB0 cB0, .slice aW0 nW0 cW0] := by rw [hV]; have := (Arr.new w [.slice aB0 nB0 cB0, .slice aW0 nW0 cW0] 45); simpa using this
  have z0 : w.heap.size + 1 ≤ V.heap.size := by rw [hV]; simp
  by_cases g2 : 1048576 < (nb2 : Int)
  · go_enter Try.func11, Try.ntmps11
    go_wp2
    go_ret
    exact ⟨rfl, by rw [hV] at B; exact B⟩
  by_cases g3 : 1048576 < (nb3 : Int)
  · go_enter Try.func11, Try.ntmps11
    go_wp2
    go_ret
    exact ⟨rfl, by rw [hV] at B; exact B⟩
  have HS0 := fun b0 n0 c0 x0 m0 d0 b2 n2 c2 b3 n3 c3 w h0a h0b h0c h0d h1a h1b h2a h2b h3a h3b => tornProgram_s b0 n0 c0 x0 m0 d0 bs0 ws0 i1 b2 n2 c2 xs2 b3 n3 c3 xs3 w h0a h0b h0c h0d h1a h1b h2a h2b h3a h3b
  have HI0 := fun b0 n0 c0 x0 m0 d0 b2 n2 c2 b3 n3 c3 w h0a h0b h0c h0d h1a h1b h2a h2b h3a h3b => tornProgram_i b0 n0 c0 x0 m0 d0 bs0 ws0 i1 b2 n2 c2 xs2 b3 n3 c3 xs3 w h0a h0b h0c h0d h1a h1b h2a h2b h3a h3b
  have lb1 := tpB_len bs0 ws0 i1 xs2 xs3
  have lb2 : ∀ x ∈ tpB bs0 ws0 i1 xs2 xs3, 0 ≤ x ∧ x < 256 := tpB_byte hbb0 ws0 i1 xs2 xs3
  generalize hLB : tpB bs0 ws0 i1 xs2 xs3 = LB at HS0 HI0 lb1 lb2
  have lw1 : (tpW bs0 ws0 xs3).length ≤ 48 := tpW_len bs0 ws0 xs3
  have lw2 : ∀ x ∈ tpW bs0 ws0 xs3, -9223372036854775808 ≤ x ∧ x ≤ 9223372036854775807 := tpW_int bs0 hwb0 xs3
  generalize hLW : tpW bs0 ws0 xs3 = LW at HS0 HI0 lw1 lw2
  generalize hRR0 : tpC bs0 ws0 i1 xs2 xs3 = R at HS0 HI0
  clear hRR0
  have hRR : (R != R) = false := by simp
  clear hLB
  obtain ⟨mB, emB⟩ : ∃ m, m = LB.length := ⟨_, rfl⟩
  rw [← emB] at lb1
  have HmB : Hid _ := emB
  have HLB : Hid _ := lb2
  clear emB lb2
  clear hLW
  obtain ⟨mW, emW⟩ : ∃ m, m = LW.length := ⟨_, rfl⟩
  rw [← emW] at lw1
  have HmW : Hid _ := emW
  have HLW : Hid _ := lw2
  clear emW lw2
  have HS : Hid _ := HS0
  have HI : Hid _ := HI0
  clear HS0 HI0
  have HBB0 : Hid _ := hbb0
  have HWB0 : Hid _ := hwb0
  clear hbb0 hwb0
  have HXB2 : Hid _ := hxb2
  clear hxb2
  have HXB3 : Hid _ := hxb3
  clear hxb3
  go_enter Try.func11, Try.ntmps11
  have c1 := arr2 A0
  rw [hV] at c1
  go_wp2_with fail
  rw [← hV]
  clear hV
  clear c1
  refine (szFlashC aB0 nB0 cB0 aW0 nW0 cW0 1048576 _ (by omega) (by omega) hn0 hm0).mono ?_
  rintro e w2 ⟨l0, rfl, hr, hb⟩
  have hc : Chg V w2 0 0 := .of_below hb 0
  replace A0 := A0.chg hc (by omega)
  replace B := hc.bel B (by omega)
  have z3 := hc.size
  clear hc
  clear hb
  rcases hr with rfl | ⟨hr0, hr0a, hr0b, hr0c⟩
  · go_wp2
    go_ret
    exact ⟨rfl, B⟩
  have c4 := arr2 A0
  go_wp2_with fail
  clear c4
  refine (toFlashC aB0 nB0 cB0 aW0 nW0 cW0 bs0 ws0 _ (hB0.below B) (hW0.below B) (by omega) (by omega)).mono ?_
  rintro e w5 ⟨t0B, t0C, t0X, t0D, rfl, ot0, hb⟩
  have hc : Chg w2 w5 0 0 := .of_below hb 0
  replace A0 := A0.chg hc (by omega)
  replace B := hc.bel B (by omega)
  have z6 := hc.size
  clear hc
  clear hb
  have st0 : w2.heap.size ≤ w5.heap.size := by omega
  have qt0b := Ro.new ot0.ob
  have qt0w := Ro.new ot0.ow
  clear ot0
  go_wp2_with fail
  refine (toS ab2 nb2 cb2 xs2 _ (hb2.below B) (by omega)).mono ?_
  rintro e w7 ⟨t2A, t2C, rfl, ot2, _, hb⟩
  have hc : Chg w5 w7 0 0 := .of_below hb 0
  replace A0 := A0.chg hc (by omega)
  replace qt0b := qt0b.chg hc (by omega)
  replace qt0w := qt0w.chg hc (by omega)
  replace B := hc.bel B (by omega)
  have z8 := hc.size
  clear hc
  clear hb
  have rt2 := Ro.new ot2
  clear ot2
  go_wp2_with fail
  refine (toS ab3 nb3 cb3 xs3 _ (hb3.below B) (by omega)).mono ?_
  rintro e w9 ⟨t3A, t3C, rfl, ot3, _, hb⟩
  have hc : Chg w7 w9 0 0 := .of_below hb 0
  replace A0 := A0.chg hc (by omega)
  replace qt0b := qt0b.chg hc (by omega)
  replace qt0w := qt0w.chg hc (by omega)
  replace rt2 := rt2.chg hc (by omega)
  replace B := hc.bel B (by omega)
  have z10 := hc.size
  clear hc
  clear hb
  have rt3 := Ro.new ot3
  clear ot3
  go_wp2_with fail
  refine (HS.out t0B nB0 t0C t0X nW0 t0D t2A nb2 t2C t3A nb3 t3C _ (bs_of_own qt0b.o HBB0.out) (is_of_own qt0w.o HWB0.out) (by omega) (by omega) hl1 hu1 (bs_of_own rt2.o HXB2.out) (by omega) (bs_of_own rt3.o HXB3.out) (by omega)).mono ?_
  rintro e w11 ⟨vw, rfl, fw, hb⟩
  obtain ⟨wB, wC, wX, wD, rfl, ow⟩ := fw
  rw [← HmB.out, ← HmW.out] at ow ⊢
  have hc : Chg w9 w11 0 0 := .of_below hb 0
  replace A0 := A0.chg hc (by omega)
  replace qt0b := qt0b.chg hc (by omega)
  replace qt0w := qt0w.chg hc (by omega)
  replace rt2 := rt2.chg hc (by omega)
  replace rt3 := rt3.chg hc (by omega)
  replace B := hc.bel B (by omega)
  have z12 := hc.size
  clear hc
  clear hb
  have sw : w9.heap.size ≤ w11.heap.size := by omega
  clear qt0b
  clear qt0w
  clear rt2
  clear rt3
  have Sw : Fa (w11.alloc (.cells #[.slice wB mB wC, .slice wX mW wD] 25)) w9.heap.size w11.heap.size wB mB wC wX mW wD LB LW := Fa.new ow (by omega)
  obtain ⟨W13, hW13⟩ : ∃ W13, W13 = w11.alloc (.cells #[.slice wB mB wC, .slice wX mW wD] 25) := ⟨_, rfl⟩
  rw [← hW13] at Sw
  have p13 : w11.heap.size < W13.heap.size := by rw [hW13]; simp
  have hc : Chg w11 W13 0 0 := by rw [hW13]; exact Chg.alloc _ _ 0
  replace A0 := A0.chg hc (by omega)
  replace B := hc.bel B (by omega)
  have z14 := hc.size
  clear hc
  clear ow
  clear HS
  have c15 := arr2 A0
  rw [hW13] at c15
  go_wp2_with fail
  rw [← hW13]
  clear hW13
  clear c15
  refine (toFlashC aB0 nB0 cB0 aW0 nW0 cW0 bs0 ws0 _ (hB0.below B) (hW0.below B) (by omega) (by omega)).mono ?_
  rintro e w16 ⟨x0B, x0C, x0X, x0D, rfl, ox0, hb⟩
  have hc : Chg W13 w16 0 0 := .of_below hb 0
  replace A0 := A0.chg hc (by omega)
  replace Sw := Sw.chg hc (by omega)
  replace B := hc.bel B (by omega)
  have z17 := hc.size
  clear hc
  clear hb
  have sx0 : W13.heap.size ≤ w16.heap.size := by omega
  have Sx0 : Fa (w16.alloc (.cells #[.slice x0B nB0 x0C, .slice x0X nW0 x0D] 25)) W13.heap.size w16.heap.size x0B nB0 x0C x0X nW0 x0D bs0 ws0 := Fa.new ox0 (by omega)
  obtain ⟨W18, hW18⟩ : ∃ W18, W18 = w16.alloc (.cells #[.slice x0B nB0 x0C, .slice x0X nW0 x0D] 25) := ⟨_, rfl⟩
  rw [← hW18] at Sx0
  have p18 : w16.heap.size < W18.heap.size := by rw [hW18]; simp
  have hc : Chg w16 W18 0 0 := by rw [hW18]; exact Chg.alloc _ _ 0
  replace A0 := A0.chg hc (by omega)
  replace Sw := Sw.chg hc (by omega)
  replace B := hc.bel B (by omega)
  have z19 := hc.size
  clear hc
  clear ox0
  go_wp2_with fail
  rw [← hW18]
  clear hW18
  refine (toS ab2 nb2 cb2 xs2 _ (hb2.below B) (by omega)).mono ?_
  rintro e w20 ⟨y2A, y2C, rfl, oy2, _, hb⟩
  have hc : Chg W18 w20 0 0 := .of_below hb 0
  replace A0 := A0.chg hc (by omega)
  replace Sw := Sw.chg hc (by omega)
  replace Sx0 := Sx0.chg hc (by omega)
  replace B := hc.bel B (by omega)
  have z21 := hc.size
  clear hc
  clear hb
  have ry2 := Ro.new oy2
  clear oy2
  go_wp2_with fail
  refine (toS ab3 nb3 cb3 xs3 _ (hb3.below B) (by omega)).mono ?_
  rintro e w22 ⟨y3A, y3C, rfl, oy3, _, hb⟩
  have hc : Chg w20 w22 0 0 := .of_below hb 0
  replace A0 := A0.chg hc (by omega)
  replace Sw := Sw.chg hc (by omega)
  replace Sx0 := Sx0.chg hc (by omega)
  replace ry2 := ry2.chg hc (by omega)
  replace B := hc.bel B (by omega)
  have z23 := hc.size
  clear hc
  clear hb
  have ry3 := Ro.new oy3
  clear oy3
  have c24 := Sx0.cells
  go_wp2_with fail
  clear c24
  refine (HI.out x0B nB0 x0C x0X nW0 x0D y2A nb2 y2C y3A nb3 y3C _ (bs_of_own Sx0.o.ob HBB0.out) (is_of_own Sx0.o.ow HWB0.out) (by omega) (by omega) hl1 hu1 (bs_of_own ry2.o HXB2.out) (by omega) (bs_of_own ry3.o HXB3.out) (by omega)).mono ?_
  rintro e w25 ⟨vg, rfl, fg, hb⟩
  obtain ⟨gB, gC, gX, gD, rfl, og⟩ := fg
  rw [← HmB.out, ← HmW.out] at og ⊢
  have hc : Chg w22 w25 0 0 := .of_below hb 0
  replace A0 := A0.chg hc (by omega)
  replace Sw := Sw.chg hc (by omega)
  replace Sx0 := Sx0.chg hc (by omega)
  replace ry2 := ry2.chg hc (by omega)
  replace ry3 := ry3.chg hc (by omega)
  replace B := hc.bel B (by omega)
  have z26 := hc.size
  clear hc
  clear hb
  have sg : w22.heap.size ≤ w25.heap.size := by omega
  have Sg : Fa (w25.alloc (.cells #[.slice gB mB gC, .slice gX mW gD] 25)) w22.heap.size w25.heap.size gB mB gC gX mW gD LB LW := Fa.new og (by omega)
  obtain ⟨W27, hW27⟩ : ∃ W27, W27 = w25.alloc (.cells #[.slice gB mB gC, .slice gX mW gD] 25) := ⟨_, rfl⟩
  rw [← hW27] at Sg
  have p27 : w25.heap.size < W27.heap.size := by rw [hW27]; simp
  have hc : Chg w25 W27 0 0 := by rw [hW27]; exact Chg.alloc _ _ 0
  replace A0 := A0.chg hc (by omega)
  replace Sw := Sw.chg hc (by omega)
  replace Sx0 := Sx0.chg hc (by omega)
  replace ry2 := ry2.chg hc (by omega)
  replace ry3 := ry3.chg hc (by omega)
  replace B := hc.bel B (by omega)
  have z28 := hc.size
  clear hc
  clear og
  have c29 := Sg.cells
  rw [hW27] at c29
  have c30 := Sw.cells
  rw [hW27] at c30
  go_wp2_with fail
  rw [← hW27]
  clear hW27
  clear c29 c30
  refine (eqFlashC gB mB gC gX mW gD wB wC wX wD LB LW _ (bs_of_own Sg.o.ob HLB.out) (is_of_own Sg.o.ow HLW.out) (bs_of_own Sw.o.ob HLB.out) (is_of_own Sw.o.ow HLW.out) (by omega) (by omega)).mono ?_
  rintro e w31 ⟨rfl, hb⟩
  have hc : Chg W27 w31 0 0 := .of_below hb 0
  replace A0 := A0.chg hc (by omega)
  replace Sw := Sw.chg hc (by omega)
  replace Sx0 := Sx0.chg hc (by omega)
  replace ry2 := ry2.chg hc (by omega)
  replace ry3 := ry3.chg hc (by omega)
  replace Sg := Sg.chg hc (by omega)
  replace B := hc.bel B (by omega)
  have z32 := hc.size
  clear hc
  clear hb
  have AD := A0
  have XD := Sx0.p
  have BD := B.drew
  replace AD := AD.drew
  replace XD := XD.drew
  have IB := (bs_of_own Sx0.o.ob HBB0.out).below (Below.refl _ _).drew
  have IW := (is_of_own Sx0.o.ow HWB0.out).below (Below.refl _ _).drew
  have c33 := arr2 A0
  have c34 := Sx0.cells
  go_wp2
  clear c33 c34
  go_region_held3 (fun W => W.cell? ⟨w.heap.size, 0, none⟩ = some (.slice aB0 nB0 cB0) ∧ W.cell? ⟨w.heap.size, 1, none⟩ = some (.slice aW0 nW0 cW0) ∧ W.cell? ⟨w16.heap.size, 0, none⟩ = some (.slice x0B nB0 x0C) ∧ W.cell? ⟨w16.heap.size, 1, none⟩ = some (.slice x0X nW0 x0D))
    (first | exact c22_of AD XD | exact c22_of AE XE | exact c22_of (AE.kept hbE) (XE.kept hbE))
    ((first
      | (go_at_call 32; refine (toFlashC aB0 nB0 cB0 aW0 nW0 cW0 bs0 ws0 _ (hB0.below BD) (hW0.below BD) (by omega) (by omega)).mono ?_; rintro e w35 ⟨yB, yC, yX, yD, rfl, oE, hbD⟩; have AE := AD.kept hbD; have XE := XD.kept hbD)
      | (go_at_call 34; refine (eqFlashC x0B nB0 x0C x0X nW0 x0D yB yC yX yD bs0 ws0 _ (IB.below hbD) (IW.below hbD) (bs_of_own oE.ob HBB0.out) (is_of_own oE.ow HWB0.out) (by omega) (by omega)).mono ?_; rintro e w36 ⟨rfl, hbE⟩)))
  have hb : Below w31.heap.size w31 w36 := ((Below.refl _ _).drew.trans hbD).trans (hbE.mono hbD.size)
  clear hbD hbE AE XE AD XD BD IB IW oE
  have hc : Chg w31 w36 0 0 := .of_below hb 0
  replace A0 := A0.chg hc (by omega)
  replace Sw := Sw.chg hc (by omega)
  replace Sx0 := Sx0.chg hc (by omega)
  replace ry2 := ry2.chg hc (by omega)
  replace ry3 := ry3.chg hc (by omega)
  replace Sg := Sg.chg hc (by omega)
  replace B := hc.bel B (by omega)
  have z37 := hc.size
  clear hc
  clear hb
  go_wp2_with fail
  refine (toS ab2 nb2 cb2 xs2 _ (hb2.below B) (by omega)).mono ?_
  rintro e w38 ⟨u2A, u2C, rfl, ou2, _, hb⟩
  have hc : Chg w36 w38 0 0 := .of_below hb 0
  replace A0 := A0.chg hc (by omega)
  replace Sw := Sw.chg hc (by omega)
  replace Sx0 := Sx0.chg hc (by omega)
  replace ry2 := ry2.chg hc (by omega)
  replace ry3 := ry3.chg hc (by omega)
  replace Sg := Sg.chg hc (by omega)
  replace B := hc.bel B (by omega)
  have z39 := hc.size
  clear hc
  clear hb
  have ru2 := Ro.new ou2
  clear ou2
  go_wp2_with fail
  refine (eqB y2A u2A nb2 y2C u2C xs2 _ (bs_of_own ry2.o HXB2.out) (bs_of_own ru2.o HXB2.out) (by omega)).mono ?_
  rintro e w40 ⟨q, rfl, hw⟩
  have hb : Below w38.heap.size w38 w40 := by rw [hw]; exact bel_drewN _ _
  clear hw
  have hc : Chg w38 w40 0 0 := .of_below hb 0
  replace A0 := A0.chg hc (by omega)
  replace Sw := Sw.chg hc (by omega)
  replace Sx0 := Sx0.chg hc (by omega)
  replace ry2 := ry2.chg hc (by omega)
  replace ry3 := ry3.chg hc (by omega)
  replace Sg := Sg.chg hc (by omega)
  replace ru2 := ru2.chg hc (by omega)
  replace B := hc.bel B (by omega)
  have z41 := hc.size
  clear hc
  clear hb
  clear ru2
  go_wp2_with fail
  refine (toS ab3 nb3 cb3 xs3 _ (hb3.below B) (by omega)).mono ?_
  rintro e w42 ⟨u3A, u3C, rfl, ou3, _, hb⟩
  have hc : Chg w40 w42 0 0 := .of_below hb 0
  replace A0 := A0.chg hc (by omega)
  replace Sw := Sw.chg hc (by omega)
  replace Sx0 := Sx0.chg hc (by omega)
  replace ry2 := ry2.chg hc (by omega)
  replace ry3 := ry3.chg hc (by omega)
  replace Sg := Sg.chg hc (by omega)
  replace B := hc.bel B (by omega)
  have z43 := hc.size
  clear hc
  clear hb
  have ru3 := Ro.new ou3
  clear ou3
  go_wp2_with fail
  refine (eqB y3A u3A nb3 y3C u3C xs3 _ (bs_of_own ry3.o HXB3.out) (bs_of_own ru3.o HXB3.out) (by omega)).mono ?_
  rintro e w44 ⟨q, rfl, hw⟩
  have hb : Below w42.heap.size w42 w44 := by rw [hw]; exact bel_drewN _ _
  clear hw
  have hc : Chg w42 w44 0 0 := .of_below hb 0
  replace A0 := A0.chg hc (by omega)
  replace Sw := Sw.chg hc (by omega)
  replace Sx0 := Sx0.chg hc (by omega)
  replace ry2 := ry2.chg hc (by omega)
  replace ry3 := ry3.chg hc (by omega)
  replace Sg := Sg.chg hc (by omega)
  replace ru3 := ru3.chg hc (by omega)
  replace B := hc.bel B (by omega)
  have z45 := hc.size
  clear hc
  clear hb
  clear ru3
  have c46 := Sx0.cells
  go_wp2_with fail
  clear c46
  refine (markFlashC _ x0B nB0 x0C x0X nW0 x0D bs0 ws0 (1) _ Sx0.o (by omega) (by omega) (by omega) (by omega)).mono ?_
  rintro e w47 ⟨rfl, _, g⟩
  have hc : Chg w44 w47 _ _ := Sx0.gr g
  replace A0 := A0.chg hc (by omega)
  replace Sw := Sw.chg hc (by omega)
  replace ry2 := ry2.chg hc (by omega)
  replace ry3 := ry3.chg hc (by omega)
  replace Sg := Sg.chg hc (by omega)
  replace B := hc.bel B (by omega)
  have z48 := hc.size
  clear hc
  clear g Sx0
  go_wp2_with fail
  refine (markB _ nb2 _ (1 + (nB0 : Int) + (nW0 : Int)) xs2 _ ry2.o (by omega) (by omega) (by omega)).mono ?_
  rintro e w49 ⟨rfl, _, g⟩
  have hc : Chg w47 w49 _ _ := ry2.gr g
  replace A0 := A0.chg hc (by omega)
  replace Sw := Sw.chg hc (by omega)
  replace ry3 := ry3.chg hc (by omega)
  replace Sg := Sg.chg hc (by omega)
  replace B := hc.bel B (by omega)
  have z50 := hc.size
  clear hc
  clear g ry2
  go_wp2_with fail
  refine (markB _ nb3 _ (1 + (nB0 : Int) + (nW0 : Int) + (nb2 : Int)) xs3 _ ry3.o (by omega) (by omega) (by omega)).mono ?_
  rintro e w51 ⟨rfl, _, g⟩
  have hc : Chg w49 w51 _ _ := ry3.gr g
  replace A0 := A0.chg hc (by omega)
  replace Sw := Sw.chg hc (by omega)
  replace Sg := Sg.chg hc (by omega)
  replace B := hc.bel B (by omega)
  have z52 := hc.size
  clear hc
  clear g ry3
  have hk0 : ¬ ((1 + (nB0 : Int) + (nW0 : Int) + (nb2 : Int) + (nb3 : Int) : Int) < 0) := by omega
  have c53 := Sg.cells
  have c54 := Sw.cells
  go_wp2_with fail
  clear c53 c54
  refine (eqFlashC gB mB gC gX mW gD wB wC wX wD LB LW _ (bs_of_own Sg.o.ob HLB.out) (is_of_own Sg.o.ow HLW.out) (bs_of_own Sw.o.ob HLB.out) (is_of_own Sw.o.ow HLW.out) (by omega) (by omega)).mono ?_
  rintro e w55 ⟨rfl, hb⟩
  have hc : Chg w51 w55 0 0 := .of_below hb 0
  replace A0 := A0.chg hc (by omega)
  replace Sw := Sw.chg hc (by omega)
  replace Sg := Sg.chg hc (by omega)
  replace B := hc.bel B (by omega)
  have z56 := hc.size
  clear hc
  clear hb
  have c57 := Sg.cells
  go_wp2_with fail
  clear c57
  refine (markFlashC _ gB mB gC gX mW gD LB LW 1 _ Sg.o (by omega) (by omega) (by omega) (by omega)).mono ?_
  rintro e w58 ⟨rfl, og, g⟩
  have Sg2 := Sg.marked g og
  have hc : Chg w55 w58 _ _ := Sg.gr g
  replace A0 := A0.chg hc (by omega)
  replace Sw := Sw.chg hc (by omega)
  replace B := hc.bel B (by omega)
  have z59 := hc.size
  clear hc
  clear Sg g og
  have HM1 : Hid _ := marks_byte 1 mB
  have HM2 : Hid _ := marksI_int (1 + (mB : Int)) mW (by omega) (by omega) (by omega)
  have hm0 : ¬ ((1 : Int) + (mB : Int) + (mW : Int) < 0) := by omega
  have hmm : ((1 : Int) + (mB : Int) + (mW : Int) != 1 + (mB : Int) + (mW : Int)) = false := by simp
  have c60 := Sg2.cells
  go_wp2_with fail
  clear c60
  refine (heldFlashC gB mB gC gX mW gD 1 _ (bs_of_own Sg2.o.ob HM1.out) (is_of_own Sg2.o.ow HM2.out) (by omega) (by omega) (by omega) (by omega)).mono ?_
  rintro e w61 ⟨rfl, hb⟩
  have hc : Chg w58 w61 0 0 := .of_below hb 0
  replace A0 := A0.chg hc (by omega)
  replace Sw := Sw.chg hc (by omega)
  replace Sg2 := Sg2.chg hc (by omega)
  replace B := hc.bel B (by omega)
  have z62 := hc.size
  clear hc
  clear hb
  have c63 := arr2 A0
  go_wp2_with fail
  clear c63
  refine (toFlashC aB0 nB0 cB0 aW0 nW0 cW0 bs0 ws0 _ (hB0.below B) (hW0.below B) (by omega) (by omega)).mono ?_
  rintro e w64 ⟨j0B, j0C, j0X, j0D, rfl, oj0, hb⟩
  have hc : Chg w61 w64 0 0 := .of_below hb 0
  replace A0 := A0.chg hc (by omega)
  replace Sw := Sw.chg hc (by omega)
  replace Sg2 := Sg2.chg hc (by omega)
  replace B := hc.bel B (by omega)
  have z65 := hc.size
  clear hc
  clear hb
  have sj0 : w61.heap.size ≤ w64.heap.size := by omega
  have qj0b := Ro.new oj0.ob
  have qj0w := Ro.new oj0.ow
  clear oj0
  go_wp2_with fail
  refine (toS ab2 nb2 cb2 xs2 _ (hb2.below B) (by omega)).mono ?_
  rintro e w66 ⟨j2A, j2C, rfl, oj2, _, hb⟩
  have hc : Chg w64 w66 0 0 := .of_below hb 0
  replace A0 := A0.chg hc (by omega)
  replace Sw := Sw.chg hc (by omega)
  replace Sg2 := Sg2.chg hc (by omega)
  replace qj0b := qj0b.chg hc (by omega)
  replace qj0w := qj0w.chg hc (by omega)
  replace B := hc.bel B (by omega)
  have z67 := hc.size
  clear hc
  clear hb
  have rj2 := Ro.new oj2
  clear oj2
  go_wp2_with fail
  refine (toS ab3 nb3 cb3 xs3 _ (hb3.below B) (by omega)).mono ?_
  rintro e w68 ⟨j3A, j3C, rfl, oj3, _, hb⟩
  have hc : Chg w66 w68 0 0 := .of_below hb 0
  replace A0 := A0.chg hc (by omega)
  replace Sw := Sw.chg hc (by omega)
  replace Sg2 := Sg2.chg hc (by omega)
  replace qj0b := qj0b.chg hc (by omega)
  replace qj0w := qj0w.chg hc (by omega)
  replace rj2 := rj2.chg hc (by omega)
  replace B := hc.bel B (by omega)
  have z69 := hc.size
  clear hc
  clear hb
  have rj3 := Ro.new oj3
  clear oj3
  go_wp2_with fail
  refine (HI.out j0B nB0 j0C j0X nW0 j0D j2A nb2 j2C j3A nb3 j3C _ (bs_of_own qj0b.o HBB0.out) (is_of_own qj0w.o HWB0.out) (by omega) (by omega) hl1 hu1 (bs_of_own rj2.o HXB2.out) (by omega) (bs_of_own rj3.o HXB3.out) (by omega)).mono ?_
  rintro e w70 ⟨vh, rfl, fh, hb⟩
  obtain ⟨hB, hC, hX, hD, rfl, oh⟩ := fh
  rw [← HmB.out, ← HmW.out] at oh ⊢
  have hc : Chg w68 w70 0 0 := .of_below hb 0
  replace A0 := A0.chg hc (by omega)
  replace Sw := Sw.chg hc (by omega)
  replace Sg2 := Sg2.chg hc (by omega)
  replace qj0b := qj0b.chg hc (by omega)
  replace qj0w := qj0w.chg hc (by omega)
  replace rj2 := rj2.chg hc (by omega)
  replace rj3 := rj3.chg hc (by omega)
  replace B := hc.bel B (by omega)
  have z71 := hc.size
  clear hc
  clear hb
  have sh : w68.heap.size ≤ w70.heap.size := by omega
  clear qj0b
  clear qj0w
  clear rj2
  clear rj3
  have Sh9 : Fa (w70.alloc (.cells #[.slice hB mB hC, .slice hX mW hD] 25)) w68.heap.size w70.heap.size hB mB hC hX mW hD LB LW := Fa.new oh (by omega)
  obtain ⟨W72, hW72⟩ : ∃ W72, W72 = w70.alloc (.cells #[.slice hB mB hC, .slice hX mW hD] 25) := ⟨_, rfl⟩
  rw [← hW72] at Sh9
  have p72 : w70.heap.size < W72.heap.size := by rw [hW72]; simp
  have hc : Chg w70 W72 0 0 := by rw [hW72]; exact Chg.alloc _ _ 0
  replace A0 := A0.chg hc (by omega)
  replace Sw := Sw.chg hc (by omega)
  replace Sg2 := Sg2.chg hc (by omega)
  replace B := hc.bel B (by omega)
  have z73 := hc.size
  clear hc
  clear oh
  have c74 := Sh9.cells
  rw [hW72] at c74
  have c75 := Sw.cells
  rw [hW72] at c75
  go_wp2_with fail
  rw [← hW72]
  clear hW72
  clear c74 c75
  refine (eqFlashC hB mB hC hX mW hD wB wC wX wD LB LW _ (bs_of_own Sh9.o.ob HLB.out) (is_of_own Sh9.o.ow HLW.out) (bs_of_own Sw.o.ob HLB.out) (is_of_own Sw.o.ow HLW.out) (by omega) (by omega)).mono ?_
  rintro e w76 ⟨rfl, hb⟩
  have hc : Chg W72 w76 0 0 := .of_below hb 0
  replace A0 := A0.chg hc (by omega)
  replace Sw := Sw.chg hc (by omega)
  replace Sg2 := Sg2.chg hc (by omega)
  replace Sh9 := Sh9.chg hc (by omega)
  replace B := hc.bel B (by omega)
  have z77 := hc.size
  clear hc
  clear hb
  have c78 := Sg2.cells
  go_wp2_with fail
  clear c78
  refine (heldFlashC gB mB gC gX mW gD 1 _ (bs_of_own Sg2.o.ob HM1.out) (is_of_own Sg2.o.ow HM2.out) (by omega) (by omega) (by omega) (by omega)).mono ?_
  rintro e w79 ⟨rfl, hb⟩
  have hc : Chg w76 w79 0 0 := .of_below hb 0
  replace A0 := A0.chg hc (by omega)
  replace Sw := Sw.chg hc (by omega)
  replace Sg2 := Sg2.chg hc (by omega)
  replace Sh9 := Sh9.chg hc (by omega)
  replace B := hc.bel B (by omega)
  have z80 := hc.size
  clear hc
  clear hb
  go_wp2
  go_ret
  exact ⟨rfl, B⟩
end Go.Proofs.Ytcnlpdpbkkjkoaa
