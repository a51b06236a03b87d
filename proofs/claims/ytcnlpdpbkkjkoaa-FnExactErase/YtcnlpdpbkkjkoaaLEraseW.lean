/-
  What is proved here: the exact law of Erase returns true at every argument, and writes into nothing that was there.
-/
import Derived.Test.YtcnlpdpbkkjkoaaF9g
import Derived.Test.YtcnlpdpbkkjkoaaF9x
namespace Go.Proofs.Ytcnlpdpbkkjkoaa
set_option maxRecDepth 100000
open Go.RowKit
set_option linter.unusedVariables false

set_option maxHeartbeats 4000000 in
theorem walk_fnExactErase (w : World) (aB0 : Option Addr) (nB0 cB0 : Nat) (aW0 : Option Addr) (nW0 cW0 : Nat) (bs0 ws0 : List Int) (i1 : Int) (hB0 : Bs w aB0 nB0 cB0 bs0) (hW0 : Is w aW0 nW0 cW0 ws0) (hn0 : nB0 ≤ 9223372036854775807) (hm0 : nW0 ≤ 9223372036854775807) (hl1 : -9223372036854775808 ≤ i1) (hu1 : i1 ≤ 9223372036854775807) :
    Calls Try.prog 10 #[flV aB0 nB0 cB0 aW0 nW0 cW0, .int .i64 i1] w fun e w' => e = .returned (.bool true) ∧ Below w.heap.size w w' := by
  have hbb0 := hB0.2.2.2.1
  have hwb0 := hW0.2.2.2.1
  obtain ⟨V, hV⟩ : ∃ V, V = (w.alloc (.cells #[.slice aB0 nB0 cB0, .slice aW0 nW0 cW0] 45)) := ⟨_, rfl⟩
  have B : Below w.heap.size w V := by rw [hV]; exact ((Below.refl _ _).alloc (by first | exact Nat.le_refl _ | simp) _)
  have A0 : Arr V w.heap.size 45 [.slice aB0 nB0 cB0, .slice aW0 nW0 cW0] := by rw [hV]; have := (Arr.new w [.slice aB0 nB0 cB0, .slice aW0 nW0 cW0] 45); simpa using this
  have z0 : w.heap.size + 1 ≤ V.heap.size := by rw [hV]; simp
  have HS0 := fun b0 n0 c0 x0 m0 d0 w h0a h0b h0c h0d h1a h1b => erase_s b0 n0 c0 x0 m0 d0 bs0 ws0 i1 w h0a h0b h0c h0d h1a h1b
  have HI0 := fun b0 n0 c0 x0 m0 d0 w h0a h0b h0c h0d h1a h1b => erase_i b0 n0 c0 x0 m0 d0 bs0 ws0 i1 w h0a h0b h0c h0d h1a h1b
  have lb1 := teB_len bs0 ws0 i1 [255]
  have lb2 : ∀ x ∈ teB bs0 ws0 i1 [255], 0 ≤ x ∧ x < 256 := teB_byte hbb0 ws0 i1 [255]
  generalize hLB : teB bs0 ws0 i1 [255] = LB at HS0 HI0 lb1 lb2
  have lw1 : (teW bs0 ws0 i1 [255]).length ≤ 48 := teW_len bs0 ws0 i1 [255]
  have lw2 : ∀ x ∈ teW bs0 ws0 i1 [255], -9223372036854775808 ≤ x ∧ x ≤ 9223372036854775807 := teW_int bs0 hwb0 i1 [255]
  generalize hLW : teW bs0 ws0 i1 [255] = LW at HS0 HI0 lw1 lw2
  generalize hRR0 : teC bs0 ws0 i1 [255] = R at HS0 HI0
  clear hRR0
  have hRR : (R != R) = false := by simp
  clear hLB
  obtain ⟨mB, emB⟩ : ∃ m, m = LB.length := ⟨_, rfl⟩
  rw [← emB] at lb1
  have HmB : Hid _ := emB
  have HLB : Hid _ := lb2
  clear emB lb2
  clear hLW
  obtain ⟨mW, emW⟩ : ∃ m, m = LW.length := ⟨_, rfl⟩
  rw [← emW] at lw1
  have HmW : Hid _ := emW
  have HLW : Hid _ := lw2
  clear emW lw2
  have HS : Hid _ := HS0
  have HI : Hid _ := HI0
  clear HS0 HI0
  have HBB0 : Hid _ := hbb0
  have HWB0 : Hid _ := hwb0
  clear hbb0 hwb0
  go_enter Try.func10, Try.ntmps10
  have c1 := arr2 A0
  rw [hV] at c1
  go_wp2_with fail
  rw [← hV]
  clear hV
  clear c1
  refine (szFlashC aB0 nB0 cB0 aW0 nW0 cW0 1048576 _ (by omega) (by omega) hn0 hm0).mono ?_
  rintro e w2 ⟨l0, rfl, hr, hb⟩
  have hc : Chg V w2 0 0 := .of_below hb 0
  replace A0 := A0.chg hc (by omega)
  replace B := hc.bel B (by omega)
  have z3 := hc.size
  clear hc
  clear hb
  rcases hr with rfl | ⟨hr0, hr0a, hr0b, hr0c⟩
  · go_wp2
    go_ret
    exact ⟨rfl, B⟩
  have c4 := arr2 A0
  go_wp2_with fail
  clear c4
  refine (toFlashC aB0 nB0 cB0 aW0 nW0 cW0 bs0 ws0 _ (hB0.below B) (hW0.below B) (by omega) (by omega)).mono ?_
  rintro e w5 ⟨t0B, t0C, t0X, t0D, rfl, ot0, hb⟩
  have hc : Chg w2 w5 0 0 := .of_below hb 0
  replace A0 := A0.chg hc (by omega)
  replace B := hc.bel B (by omega)
  have z6 := hc.size
  clear hc
  clear hb
  have st0 : w2.heap.size ≤ w5.heap.size := by omega
  have qt0b := Ro.new ot0.ob
  have qt0w := Ro.new ot0.ow
  clear ot0
  go_wp2_with fail
  refine (HS.out t0B nB0 t0C t0X nW0 t0D _ (bs_of_own qt0b.o HBB0.out) (is_of_own qt0w.o HWB0.out) (by omega) (by omega) hl1 hu1).mono ?_
  rintro e w7 ⟨vw, rfl, fw, hb⟩
  obtain ⟨wB, wC, wX, wD, rfl, ow⟩ := fw
  rw [← HmB.out, ← HmW.out] at ow ⊢
  have hc : Chg w5 w7 0 0 := .of_below hb 0
  replace A0 := A0.chg hc (by omega)
  replace qt0b := qt0b.chg hc (by omega)
  replace qt0w := qt0w.chg hc (by omega)
  replace B := hc.bel B (by omega)
  have z8 := hc.size
  clear hc
  clear hb
  have sw : w5.heap.size ≤ w7.heap.size := by omega
  clear qt0b
  clear qt0w
  have Sw : Fa (w7.alloc (.cells #[.slice wB mB wC, .slice wX mW wD] 25)) w5.heap.size w7.heap.size wB mB wC wX mW wD LB LW := Fa.new ow (by omega)
  obtain ⟨W9, hW9⟩ : ∃ W9, W9 = w7.alloc (.cells #[.slice wB mB wC, .slice wX mW wD] 25) := ⟨_, rfl⟩
  rw [← hW9] at Sw
  have p9 : w7.heap.size < W9.heap.size := by rw [hW9]; simp
  have hc : Chg w7 W9 0 0 := by rw [hW9]; exact Chg.alloc _ _ 0
  replace A0 := A0.chg hc (by omega)
  replace B := hc.bel B (by omega)
  have z10 := hc.size
  clear hc
  clear ow
  clear HS
  have c11 := arr2 A0
  rw [hW9] at c11
  go_wp2_with fail
  rw [← hW9]
  clear hW9
  clear c11
  refine (toFlashC aB0 nB0 cB0 aW0 nW0 cW0 bs0 ws0 _ (hB0.below B) (hW0.below B) (by omega) (by omega)).mono ?_
  rintro e w12 ⟨x0B, x0C, x0X, x0D, rfl, ox0, hb⟩
  have hc : Chg W9 w12 0 0 := .of_below hb 0
  replace A0 := A0.chg hc (by omega)
  replace Sw := Sw.chg hc (by omega)
  replace B := hc.bel B (by omega)
  have z13 := hc.size
  clear hc
  clear hb
  have sx0 : W9.heap.size ≤ w12.heap.size := by omega
  have Sx0 : Fa (w12.alloc (.cells #[.slice x0B nB0 x0C, .slice x0X nW0 x0D] 25)) W9.heap.size w12.heap.size x0B nB0 x0C x0X nW0 x0D bs0 ws0 := Fa.new ox0 (by omega)
  obtain ⟨W14, hW14⟩ : ∃ W14, W14 = w12.alloc (.cells #[.slice x0B nB0 x0C, .slice x0X nW0 x0D] 25) := ⟨_, rfl⟩
  rw [← hW14] at Sx0
  have p14 : w12.heap.size < W14.heap.size := by rw [hW14]; simp
  have hc : Chg w12 W14 0 0 := by rw [hW14]; exact Chg.alloc _ _ 0
  replace A0 := A0.chg hc (by omega)
  replace Sw := Sw.chg hc (by omega)
  replace B := hc.bel B (by omega)
  have z15 := hc.size
  clear hc
  clear ox0
  have c16 := Sx0.cells
  rw [hW14] at c16
  go_wp2_with fail
  rw [← hW14]
  clear hW14
  clear c16
  refine (HI.out x0B nB0 x0C x0X nW0 x0D _ (bs_of_own Sx0.o.ob HBB0.out) (is_of_own Sx0.o.ow HWB0.out) (by omega) (by omega) hl1 hu1).mono ?_
  rintro e w17 ⟨vg, rfl, fg, hb⟩
  obtain ⟨gB, gC, gX, gD, rfl, og⟩ := fg
  rw [← HmB.out, ← HmW.out] at og ⊢
  have hc : Chg W14 w17 0 0 := .of_below hb 0
  replace A0 := A0.chg hc (by omega)
  replace Sw := Sw.chg hc (by omega)
  replace Sx0 := Sx0.chg hc (by omega)
  replace B := hc.bel B (by omega)
  have z18 := hc.size
  clear hc
  clear hb
  have sg : W14.heap.size ≤ w17.heap.size := by omega
  have Sg : Fa (w17.alloc (.cells #[.slice gB mB gC, .slice gX mW gD] 25)) W14.heap.size w17.heap.size gB mB gC gX mW gD LB LW := Fa.new og (by omega)
  obtain ⟨W19, hW19⟩ : ∃ W19, W19 = w17.alloc (.cells #[.slice gB mB gC, .slice gX mW gD] 25) := ⟨_, rfl⟩
  rw [← hW19] at Sg
  have p19 : w17.heap.size < W19.heap.size := by rw [hW19]; simp
  have hc : Chg w17 W19 0 0 := by rw [hW19]; exact Chg.alloc _ _ 0
  replace A0 := A0.chg hc (by omega)
  replace Sw := Sw.chg hc (by omega)
  replace Sx0 := Sx0.chg hc (by omega)
  replace B := hc.bel B (by omega)
  have z20 := hc.size
  clear hc
  clear og
  have c21 := Sg.cells
  rw [hW19] at c21
  have c22 := Sw.cells
  rw [hW19] at c22
  go_wp2_with fail
  rw [← hW19]
  clear hW19
  clear c21 c22
  refine (eqFlashC gB mB gC gX mW gD wB wC wX wD LB LW _ (bs_of_own Sg.o.ob HLB.out) (is_of_own Sg.o.ow HLW.out) (bs_of_own Sw.o.ob HLB.out) (is_of_own Sw.o.ow HLW.out) (by omega) (by omega)).mono ?_
  rintro e w23 ⟨rfl, hb⟩
  have hc : Chg W19 w23 0 0 := .of_below hb 0
  replace A0 := A0.chg hc (by omega)
  replace Sw := Sw.chg hc (by omega)
  replace Sx0 := Sx0.chg hc (by omega)
  replace Sg := Sg.chg hc (by omega)
  replace B := hc.bel B (by omega)
  have z24 := hc.size
  clear hc
  clear hb
  have AD := A0
  have XD := Sx0.p
  have BD := B.drew
  replace AD := AD.drew
  replace XD := XD.drew
  have IB := (bs_of_own Sx0.o.ob HBB0.out).below (Below.refl _ _).drew
  have IW := (is_of_own Sx0.o.ow HWB0.out).below (Below.refl _ _).drew
  have c25 := arr2 A0
  have c26 := Sx0.cells
  go_wp2
  clear c25 c26
  go_region_held3 (fun W => W.cell? ⟨w.heap.size, 0, none⟩ = some (.slice aB0 nB0 cB0) ∧ W.cell? ⟨w.heap.size, 1, none⟩ = some (.slice aW0 nW0 cW0) ∧ W.cell? ⟨w12.heap.size, 0, none⟩ = some (.slice x0B nB0 x0C) ∧ W.cell? ⟨w12.heap.size, 1, none⟩ = some (.slice x0X nW0 x0D))
    (first | exact c22_of AD XD | exact c22_of AE XE | exact c22_of (AE.kept hbE) (XE.kept hbE))
    ((first
      | (go_at_call 32; refine (toFlashC aB0 nB0 cB0 aW0 nW0 cW0 bs0 ws0 _ (hB0.below BD) (hW0.below BD) (by omega) (by omega)).mono ?_; rintro e w27 ⟨yB, yC, yX, yD, rfl, oE, hbD⟩; have AE := AD.kept hbD; have XE := XD.kept hbD)
      | (go_at_call 34; refine (eqFlashC x0B nB0 x0C x0X nW0 x0D yB yC yX yD bs0 ws0 _ (IB.below hbD) (IW.below hbD) (bs_of_own oE.ob HBB0.out) (is_of_own oE.ow HWB0.out) (by omega) (by omega)).mono ?_; rintro e w28 ⟨rfl, hbE⟩)))
  have hb : Below w23.heap.size w23 w28 := ((Below.refl _ _).drew.trans hbD).trans (hbE.mono hbD.size)
  clear hbD hbE AE XE AD XD BD IB IW oE
  have hc : Chg w23 w28 0 0 := .of_below hb 0
  replace A0 := A0.chg hc (by omega)
  replace Sw := Sw.chg hc (by omega)
  replace Sx0 := Sx0.chg hc (by omega)
  replace Sg := Sg.chg hc (by omega)
  replace B := hc.bel B (by omega)
  have z29 := hc.size
  clear hc
  clear hb
  have c30 := Sx0.cells
  go_wp2_with fail
  clear c30
  refine (markFlashC _ x0B nB0 x0C x0X nW0 x0D bs0 ws0 (1) _ Sx0.o (by omega) (by omega) (by omega) (by omega)).mono ?_
  rintro e w31 ⟨rfl, _, g⟩
  have hc : Chg w28 w31 _ _ := Sx0.gr g
  replace A0 := A0.chg hc (by omega)
  replace Sw := Sw.chg hc (by omega)
  replace Sg := Sg.chg hc (by omega)
  replace B := hc.bel B (by omega)
  have z32 := hc.size
  clear hc
  clear g Sx0
  have hk0 : ¬ ((1 + (nB0 : Int) + (nW0 : Int) : Int) < 0) := by omega
  have c33 := Sg.cells
  have c34 := Sw.cells
  go_wp2_with fail
  clear c33 c34
  refine (eqFlashC gB mB gC gX mW gD wB wC wX wD LB LW _ (bs_of_own Sg.o.ob HLB.out) (is_of_own Sg.o.ow HLW.out) (bs_of_own Sw.o.ob HLB.out) (is_of_own Sw.o.ow HLW.out) (by omega) (by omega)).mono ?_
  rintro e w35 ⟨rfl, hb⟩
  have hc : Chg w31 w35 0 0 := .of_below hb 0
  replace A0 := A0.chg hc (by omega)
  replace Sw := Sw.chg hc (by omega)
  replace Sg := Sg.chg hc (by omega)
  replace B := hc.bel B (by omega)
  have z36 := hc.size
  clear hc
  clear hb
  have c37 := Sg.cells
  go_wp2_with fail
  clear c37
  refine (markFlashC _ gB mB gC gX mW gD LB LW 1 _ Sg.o (by omega) (by omega) (by omega) (by omega)).mono ?_
  rintro e w38 ⟨rfl, og, g⟩
  have Sg2 := Sg.marked g og
  have hc : Chg w35 w38 _ _ := Sg.gr g
  replace A0 := A0.chg hc (by omega)
  replace Sw := Sw.chg hc (by omega)
  replace B := hc.bel B (by omega)
  have z39 := hc.size
  clear hc
  clear Sg g og
  have HM1 : Hid _ := marks_byte 1 mB
  have HM2 : Hid _ := marksI_int (1 + (mB : Int)) mW (by omega) (by omega) (by omega)
  have hm0 : ¬ ((1 : Int) + (mB : Int) + (mW : Int) < 0) := by omega
  have hmm : ((1 : Int) + (mB : Int) + (mW : Int) != 1 + (mB : Int) + (mW : Int)) = false := by simp
  have c40 := Sg2.cells
  go_wp2_with fail
  clear c40
  refine (heldFlashC gB mB gC gX mW gD 1 _ (bs_of_own Sg2.o.ob HM1.out) (is_of_own Sg2.o.ow HM2.out) (by omega) (by omega) (by omega) (by omega)).mono ?_
  rintro e w41 ⟨rfl, hb⟩
  have hc : Chg w38 w41 0 0 := .of_below hb 0
  replace A0 := A0.chg hc (by omega)
  replace Sw := Sw.chg hc (by omega)
  replace Sg2 := Sg2.chg hc (by omega)
  replace B := hc.bel B (by omega)
  have z42 := hc.size
  clear hc
  clear hb
  have c43 := arr2 A0
  go_wp2_with fail
  clear c43
  refine (toFlashC aB0 nB0 cB0 aW0 nW0 cW0 bs0 ws0 _ (hB0.below B) (hW0.below B) (by omega) (by omega)).mono ?_
  rintro e w44 ⟨j0B, j0C, j0X, j0D, rfl, oj0, hb⟩
  have hc : Chg w41 w44 0 0 := .of_below hb 0
  replace A0 := A0.chg hc (by omega)
  replace Sw := Sw.chg hc (by omega)
  replace Sg2 := Sg2.chg hc (by omega)
  replace B := hc.bel B (by omega)
  have z45 := hc.size
  clear hc
  clear hb
  have sj0 : w41.heap.size ≤ w44.heap.size := by omega
  have qj0b := Ro.new oj0.ob
  have qj0w := Ro.new oj0.ow
  clear oj0
  go_wp2_with fail
  refine (HI.out j0B nB0 j0C j0X nW0 j0D _ (bs_of_own qj0b.o HBB0.out) (is_of_own qj0w.o HWB0.out) (by omega) (by omega) hl1 hu1).mono ?_
  rintro e w46 ⟨vh, rfl, fh, hb⟩
  obtain ⟨hB, hC, hX, hD, rfl, oh⟩ := fh
  rw [← HmB.out, ← HmW.out] at oh ⊢
  have hc : Chg w44 w46 0 0 := .of_below hb 0
  replace A0 := A0.chg hc (by omega)
  replace Sw := Sw.chg hc (by omega)
  replace Sg2 := Sg2.chg hc (by omega)
  replace qj0b := qj0b.chg hc (by omega)
  replace qj0w := qj0w.chg hc (by omega)
  replace B := hc.bel B (by omega)
  have z47 := hc.size
  clear hc
  clear hb
  have sh : w44.heap.size ≤ w46.heap.size := by omega
  clear qj0b
  clear qj0w
  have Sh9 : Fa (w46.alloc (.cells #[.slice hB mB hC, .slice hX mW hD] 25)) w44.heap.size w46.heap.size hB mB hC hX mW hD LB LW := Fa.new oh (by omega)
  obtain ⟨W48, hW48⟩ : ∃ W48, W48 = w46.alloc (.cells #[.slice hB mB hC, .slice hX mW hD] 25) := ⟨_, rfl⟩
  rw [← hW48] at Sh9
  have p48 : w46.heap.size < W48.heap.size := by rw [hW48]; simp
  have hc : Chg w46 W48 0 0 := by rw [hW48]; exact Chg.alloc _ _ 0
  replace A0 := A0.chg hc (by omega)
  replace Sw := Sw.chg hc (by omega)
  replace Sg2 := Sg2.chg hc (by omega)
  replace B := hc.bel B (by omega)
  have z49 := hc.size
  clear hc
  clear oh
  have c50 := Sh9.cells
  rw [hW48] at c50
  have c51 := Sw.cells
  rw [hW48] at c51
  go_wp2_with fail
  rw [← hW48]
  clear hW48
  clear c50 c51
  refine (eqFlashC hB mB hC hX mW hD wB wC wX wD LB LW _ (bs_of_own Sh9.o.ob HLB.out) (is_of_own Sh9.o.ow HLW.out) (bs_of_own Sw.o.ob HLB.out) (is_of_own Sw.o.ow HLW.out) (by omega) (by omega)).mono ?_
  rintro e w52 ⟨rfl, hb⟩
  have hc : Chg W48 w52 0 0 := .of_below hb 0
  replace A0 := A0.chg hc (by omega)
  replace Sw := Sw.chg hc (by omega)
  replace Sg2 := Sg2.chg hc (by omega)
  replace Sh9 := Sh9.chg hc (by omega)
  replace B := hc.bel B (by omega)
  have z53 := hc.size
  clear hc
  clear hb
  have c54 := Sg2.cells
  go_wp2_with fail
  clear c54
  refine (heldFlashC gB mB gC gX mW gD 1 _ (bs_of_own Sg2.o.ob HM1.out) (is_of_own Sg2.o.ow HM2.out) (by omega) (by omega) (by omega) (by omega)).mono ?_
  rintro e w55 ⟨rfl, hb⟩
  have hc : Chg w52 w55 0 0 := .of_below hb 0
  replace A0 := A0.chg hc (by omega)
  replace Sw := Sw.chg hc (by omega)
  replace Sg2 := Sg2.chg hc (by omega)
  replace Sh9 := Sh9.chg hc (by omega)
  replace B := hc.bel B (by omega)
  have z56 := hc.size
  clear hc
  clear hb
  go_wp2
  go_ret
  exact ⟨rfl, B⟩
end Go.Proofs.Ytcnlpdpbkkjkoaa
