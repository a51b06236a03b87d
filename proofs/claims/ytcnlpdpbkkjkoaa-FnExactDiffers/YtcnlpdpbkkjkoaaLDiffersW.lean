/-
  What is proved here: the exact law of Differs returns true at every argument, and writes into nothing that was there.
-/
import Derived.Test.YtcnlpdpbkkjkoaaF9g
import Derived.Test.YtcnlpdpbkkjkoaaF9u
namespace Go.Proofs.Ytcnlpdpbkkjkoaa
set_option maxRecDepth 100000
open Go.RowKit
set_option linter.unusedVariables false

set_option maxHeartbeats 4000000 in
theorem walk_fnExactDiffers (w : World) (aB0 : Option Addr) (nB0 cB0 : Nat) (aW0 : Option Addr) (nW0 cW0 : Nat) (bs0 ws0 : List Int) (aB1 : Option Addr) (nB1 cB1 : Nat) (aW1 : Option Addr) (nW1 cW1 : Nat) (bs1 ws1 : List Int) (hB0 : Bs w aB0 nB0 cB0 bs0) (hW0 : Is w aW0 nW0 cW0 ws0) (hn0 : nB0 ≤ 9223372036854775807) (hm0 : nW0 ≤ 9223372036854775807) (hB1 : Bs w aB1 nB1 cB1 bs1) (hW1 : Is w aW1 nW1 cW1 ws1) (hn1 : nB1 ≤ 9223372036854775807) (hm1 : nW1 ≤ 9223372036854775807) :
    Calls Try.prog 14 #[flV aB0 nB0 cB0 aW0 nW0 cW0, flV aB1 nB1 cB1 aW1 nW1 cW1] w fun e w' => e = .returned (.bool true) ∧ Below w.heap.size w w' := by
  have hbb0 := hB0.2.2.2.1
  have hwb0 := hW0.2.2.2.1
  have hbb1 := hB1.2.2.2.1
  have hwb1 := hW1.2.2.2.1
  obtain ⟨V, hV⟩ : ∃ V, V = ((w.alloc (.cells #[.slice aB0 nB0 cB0, .slice aW0 nW0 cW0] 45)).alloc (.cells #[.slice aB1 nB1 cB1, .slice aW1 nW1 cW1] 45)) := ⟨_, rfl⟩
  have B : Below w.heap.size w V := by rw [hV]; exact (((Below.refl _ _).alloc (by first | exact Nat.le_refl _ | simp) _).alloc (by first | exact Nat.le_refl _ | simp) _)
  have A0 : Arr V w.heap.size 45 [.slice aB0 nB0 cB0, .slice aW0 nW0 cW0] := by rw [hV]; have := (Arr.new w [.slice aB0 nB0 cB0, .slice aW0 nW0 cW0] 45).alloc (.cells #[.slice aB1 nB1 cB1, .slice aW1 nW1 cW1] 45); simpa using this
  have A1 : Arr V (w.heap.size + 1) 45 [.slice aB1 nB1 cB1, .slice aW1 nW1 cW1] := by rw [hV]; have := (Arr.new (w.alloc (.cells #[.slice aB0 nB0 cB0, .slice aW0 nW0 cW0] 45)) [.slice aB1 nB1 cB1, .slice aW1 nW1 cW1] 45); simpa using this
  have z0 : w.heap.size + 2 ≤ V.heap.size := by rw [hV]; simp
  have HS0 := fun b0 n0 c0 x0 m0 d0 b1 n1 c1 x1 m1 d1 w h0a h0b h0c h0d h1a h1b h1c h1d => differs_s b0 n0 c0 x0 m0 d0 bs0 ws0 b1 n1 c1 x1 m1 d1 bs1 ws1 w h0a h0b h0c h0d h1a h1b h1c h1d
  have HI0 := fun b0 n0 c0 x0 m0 d0 b1 n1 c1 x1 m1 d1 w h0a h0b h0c h0d h1a h1b h1c h1d => differs_i b0 n0 c0 x0 m0 d0 bs0 ws0 b1 n1 c1 x1 m1 d1 bs1 ws1 w h0a h0b h0c h0d h1a h1b h1c h1d
  have lb1 := difL_len bs0 ws0 bs1 ws1
  have lb2 : ∀ x ∈ difL bs0 ws0 bs1 ws1, -9223372036854775808 ≤ x ∧ x ≤ 9223372036854775807 := difL_int bs0 ws0 bs1 ws1
  generalize hLB : difL bs0 ws0 bs1 ws1 = LB at HS0 HI0 lb1 lb2
  clear hLB
  obtain ⟨mB, emB⟩ : ∃ m, m = LB.length := ⟨_, rfl⟩
  rw [← emB] at lb1
  have HmB : Hid _ := emB
  have HLB : Hid _ := lb2
  clear emB lb2
  have HS : Hid _ := HS0
  have HI : Hid _ := HI0
  clear HS0 HI0
  have HBB0 : Hid _ := hbb0
  have HWB0 : Hid _ := hwb0
  clear hbb0 hwb0
  have HBB1 : Hid _ := hbb1
  have HWB1 : Hid _ := hwb1
  clear hbb1 hwb1
  go_enter Try.func14, Try.ntmps14
  have c1 := arr2 A0
  rw [hV] at c1
  go_wp2_with fail
  rw [← hV]
  clear hV
  clear c1
  refine (szFlashC aB0 nB0 cB0 aW0 nW0 cW0 1048576 _ (by omega) (by omega) hn0 hm0).mono ?_
  rintro e w2 ⟨l0, rfl, hr, hb⟩
  have hc : Chg V w2 0 0 := .of_below hb 0
  replace A0 := A0.chg hc (by omega)
  replace A1 := A1.chg hc (by omega)
  replace B := hc.bel B (by omega)
  have z3 := hc.size
  clear hc
  clear hb
  rcases hr with rfl | ⟨hr0, hr0a, hr0b, hr0c⟩
  · go_wp2
    go_ret
    exact ⟨rfl, B⟩
  have c4 := arr2 A1
  go_wp2_with fail
  clear c4
  refine (szFlashC aB1 nB1 cB1 aW1 nW1 cW1 l0 _ (by omega) (by omega) hn1 hm1).mono ?_
  rintro e w5 ⟨l1, rfl, hr, hb⟩
  have hc : Chg w2 w5 0 0 := .of_below hb 0
  replace A0 := A0.chg hc (by omega)
  replace A1 := A1.chg hc (by omega)
  replace B := hc.bel B (by omega)
  have z6 := hc.size
  clear hc
  clear hb
  rcases hr with rfl | ⟨hr1, hr1a, hr1b, hr1c⟩
  · go_wp2
    go_ret
    exact ⟨rfl, B⟩
  have c7 := arr2 A0
  have c8 := arr2 A1
  go_wp2
  try simp only [Act.put]
  refine tame [kc 24 (flV aB0 nB0 cB0 aW0 nW0 cW0), kv 25 (Fn9 nB0 nW0 bs0 ws0), kc 26 (flV aB1 nB1 cB1 aW1 nW1 cW1), kv 27 (Fn9 nB1 nW1 bs1 ws1)] 4 (by kernel_rfl) (by kernel_rfl) (by kernel_rfl) (by repeat' first | exact trivial | apply kc_keeps | apply fn9_keeps | constructor) 2 (by kernel_rfl) (fun vv ll hh yW bW => ?_) (fun vvt llt hht yW bW F ivh aph => ?_)
  · have x0 := (bW.cell (p := ⟨w.heap.size, 0, none⟩) A0.lt).trans c7.1
    have x1 := (bW.cell (p := ⟨w.heap.size, 1, none⟩) A0.lt).trans c7.2
    have x2 := (bW.cell (p := ⟨w.heap.size + 1, 0, none⟩) A1.lt).trans c8.1
    have x3 := (bW.cell (p := ⟨w.heap.size + 1, 1, none⟩) A1.lt).trans c8.2
    have By := B.trans (bW.mono B.size)
    refine ⟨tp ?_, tfl (toFlashC aB0 nB0 cB0 aW0 nW0 cW0 bs0 ws0 yW (hB0.below By) (hW0.below By) (by omega) (by omega)) (by kernel_rfl), tp ?_, tfl (toFlashC aB1 nB1 cB1 aW1 nW1 cW1 bs1 ws1 yW (hB1.below By) (hW1.below By) (by omega) (by omega)) (by kernel_rfl), trivial⟩
    all_goals
      simp only [fillK, putT, List.setIfInBounds_toArray, List.set_cons_zero, List.set_cons_succ]
      unfold execOp
      go_simp
  have f1 : Fn9 nB0 nW0 bs0 ws0 (llt 1) (hht 1) yW (vvt 1) := F.2.1
  have f3 : Fn9 nB1 nW1 bs1 ws1 (llt 3) (hht 3) yW (vvt 3) := F.2.2.2.1
  clear F ivh aph
  clear c7 c8
  obtain ⟨y9, hy⟩ : ∃ z, z = yW := ⟨_, rfl⟩
  rw [← hy] at bW f1 f3 ⊢
  clear hy
  obtain ⟨v1, hv1⟩ : ∃ v, v = vvt 1 := ⟨_, rfl⟩
  obtain ⟨v3, hv3⟩ : ∃ v, v = vvt 3 := ⟨_, rfl⟩
  rw [← hv1] at f1
  rw [← hv3] at f3
  obtain ⟨p1, c1, q1, d1, e1, O1, _, _⟩ := f1
  obtain ⟨p3, c3, q3, d3, e3, O3, _, _⟩ := f3
  have hc : Chg w5 y9 0 0 := .of_below bW 0
  replace A0 := A0.chg hc (by omega)
  replace A1 := A1.chg hc (by omega)
  replace B := hc.bel B (by omega)
  have z10 := hc.size
  clear hc
  clear bW
  refine st_call (i := 4) (by kernel_rfl) rfl rfl (f := 50) (args := #[v1, v3]) ?_ ?_
  · rw [hv1, hv3]
    kernel_rfl
  rw [e1, e3]
  refine Calls.mono (HS.out p1 nB0 c1 q1 nW0 d1 p3 nB1 c3 q3 nW1 d3 _ (bs_of_own O1.ob HBB0.out) (is_of_own O1.ow HWB0.out) (by omega) (by omega) (bs_of_own O3.ob HBB1.out) (is_of_own O3.ow HWB1.out) (by omega) (by omega)) ?_
  rintro e w11 ⟨v9, rfl, ow, hb⟩
  refine ⟨_, rfl, ?_⟩
  clear O1 O3
  refine st_val (i := 5) (o := { dst := some 6, op := Op.assign (Operand.tmp 28), type := 23, pos := "exact.go:4088", after := #[{ on := 4, ground := Ground.data }, { on := 4, ground := Ground.chain }, { on := 0, ground := Ground.phase }, { on := 1, ground := Ground.phase }, { on := 2, ground := Ground.phase }, { on := 3, ground := Ground.phase }, { on := 4, ground := Ground.phase }], guard := none }) (by kernel_rfl) rfl rfl (v := v9) (w' := w11) (by kernel_rfl) ?_
  refine wpAny_done (by kernel_rfl) ?_ _
  obtain ⟨wA, wC, rfl, _, _⟩ := Is.own ow HLB.out
  rw [← HmB.out] at ow ⊢
  have hc : Chg y9 w11 0 0 := .of_below hb 0
  replace A0 := A0.chg hc (by omega)
  replace A1 := A1.chg hc (by omega)
  replace B := hc.bel B (by omega)
  have z12 := hc.size
  clear hc
  clear hb
  have Rw := Ro.new ow
  clear ow hv1 hv3 e1 e3
  try simp only [Act.put]
  simp only [fillK, putT, List.setIfInBounds_toArray, List.set_cons_zero, List.set_cons_succ]
  clear HS
  have c13 := arr2 A0
  go_wp2_with fail
  clear c13
  refine (toFlashC aB0 nB0 cB0 aW0 nW0 cW0 bs0 ws0 _ (hB0.below B) (hW0.below B) (by omega) (by omega)).mono ?_
  rintro e w14 ⟨x0B, x0C, x0X, x0D, rfl, ox0, hb⟩
  have hc : Chg w11 w14 0 0 := .of_below hb 0
  replace A0 := A0.chg hc (by omega)
  replace A1 := A1.chg hc (by omega)
  replace Rw := Rw.chg hc (by omega)
  replace B := hc.bel B (by omega)
  have z15 := hc.size
  clear hc
  clear hb
  have sx0 : w11.heap.size ≤ w14.heap.size := by omega
  have Sx0 : Fa (w14.alloc (.cells #[.slice x0B nB0 x0C, .slice x0X nW0 x0D] 25)) w11.heap.size w14.heap.size x0B nB0 x0C x0X nW0 x0D bs0 ws0 := Fa.new ox0 (by omega)
  obtain ⟨W16, hW16⟩ : ∃ W16, W16 = w14.alloc (.cells #[.slice x0B nB0 x0C, .slice x0X nW0 x0D] 25) := ⟨_, rfl⟩
  rw [← hW16] at Sx0
  have p16 : w14.heap.size < W16.heap.size := by rw [hW16]; simp
  have hc : Chg w14 W16 0 0 := by rw [hW16]; exact Chg.alloc _ _ 0
  replace A0 := A0.chg hc (by omega)
  replace A1 := A1.chg hc (by omega)
  replace Rw := Rw.chg hc (by omega)
  replace B := hc.bel B (by omega)
  have z17 := hc.size
  clear hc
  clear ox0
  have c18 := arr2 A1
  rw [hW16] at c18
  go_wp2_with fail
  rw [← hW16]
  clear hW16
  clear c18
  refine (toFlashC aB1 nB1 cB1 aW1 nW1 cW1 bs1 ws1 _ (hB1.below B) (hW1.below B) (by omega) (by omega)).mono ?_
  rintro e w19 ⟨x1B, x1C, x1X, x1D, rfl, ox1, hb⟩
  have hc : Chg W16 w19 0 0 := .of_below hb 0
  replace A0 := A0.chg hc (by omega)
  replace A1 := A1.chg hc (by omega)
  replace Rw := Rw.chg hc (by omega)
  replace Sx0 := Sx0.chg hc (by omega)
  replace B := hc.bel B (by omega)
  have z20 := hc.size
  clear hc
  clear hb
  have sx1 : W16.heap.size ≤ w19.heap.size := by omega
  have Sx1 : Fa (w19.alloc (.cells #[.slice x1B nB1 x1C, .slice x1X nW1 x1D] 25)) W16.heap.size w19.heap.size x1B nB1 x1C x1X nW1 x1D bs1 ws1 := Fa.new ox1 (by omega)
  obtain ⟨W21, hW21⟩ : ∃ W21, W21 = w19.alloc (.cells #[.slice x1B nB1 x1C, .slice x1X nW1 x1D] 25) := ⟨_, rfl⟩
  rw [← hW21] at Sx1
  have p21 : w19.heap.size < W21.heap.size := by rw [hW21]; simp
  have hc : Chg w19 W21 0 0 := by rw [hW21]; exact Chg.alloc _ _ 0
  replace A0 := A0.chg hc (by omega)
  replace A1 := A1.chg hc (by omega)
  replace Rw := Rw.chg hc (by omega)
  replace Sx0 := Sx0.chg hc (by omega)
  replace B := hc.bel B (by omega)
  have z22 := hc.size
  clear hc
  clear ox1
  have c23 := Sx0.cells
  rw [hW21] at c23
  have c24 := Sx1.cells
  rw [hW21] at c24
  go_wp2_with fail
  rw [← hW21]
  clear hW21
  clear c23 c24
  refine (HI.out x0B nB0 x0C x0X nW0 x0D x1B nB1 x1C x1X nW1 x1D _ (bs_of_own Sx0.o.ob HBB0.out) (is_of_own Sx0.o.ow HWB0.out) (by omega) (by omega) (bs_of_own Sx1.o.ob HBB1.out) (is_of_own Sx1.o.ow HWB1.out) (by omega) (by omega)).mono ?_
  rintro e w25 ⟨vg, rfl, og, hb⟩
  obtain ⟨gA, gC, rfl, _, _⟩ := Is.own og HLB.out
  rw [← HmB.out] at og ⊢
  have hc : Chg W21 w25 0 0 := .of_below hb 0
  replace A0 := A0.chg hc (by omega)
  replace A1 := A1.chg hc (by omega)
  replace Rw := Rw.chg hc (by omega)
  replace Sx0 := Sx0.chg hc (by omega)
  replace Sx1 := Sx1.chg hc (by omega)
  replace B := hc.bel B (by omega)
  have z26 := hc.size
  clear hc
  clear hb
  have Rg := Ro.new og
  clear og
  go_wp2_with fail
  refine (eqI gA wA mB gC wC LB _ (is_of_own Rg.o HLB.out) (is_of_own Rw.o HLB.out) (by omega)).mono ?_
  rintro e w27 ⟨q, rfl, hw⟩
  have hb : Below w25.heap.size w25 w27 := by rw [hw]; exact bel_drewN _ _
  clear hw
  have hc : Chg w25 w27 0 0 := .of_below hb 0
  replace A0 := A0.chg hc (by omega)
  replace A1 := A1.chg hc (by omega)
  replace Rw := Rw.chg hc (by omega)
  replace Sx0 := Sx0.chg hc (by omega)
  replace Sx1 := Sx1.chg hc (by omega)
  replace Rg := Rg.chg hc (by omega)
  replace B := hc.bel B (by omega)
  have z28 := hc.size
  clear hc
  clear hb
  have AD := A0
  have XD := Sx0.p
  have BD := B.drew
  replace AD := AD.drew
  replace XD := XD.drew
  have IB := (bs_of_own Sx0.o.ob HBB0.out).below (Below.refl _ _).drew
  have IW := (is_of_own Sx0.o.ow HWB0.out).below (Below.refl _ _).drew
  have c29 := arr2 A0
  have c30 := Sx0.cells
  go_wp2
  clear c29 c30
  go_region_held3 (fun W => W.cell? ⟨w.heap.size, 0, none⟩ = some (.slice aB0 nB0 cB0) ∧ W.cell? ⟨w.heap.size, 1, none⟩ = some (.slice aW0 nW0 cW0) ∧ W.cell? ⟨w14.heap.size, 0, none⟩ = some (.slice x0B nB0 x0C) ∧ W.cell? ⟨w14.heap.size, 1, none⟩ = some (.slice x0X nW0 x0D))
    (first | exact c22_of AD XD | exact c22_of AE XE | exact c22_of (AE.kept hbE) (XE.kept hbE))
    ((first
      | (go_at_call 32; refine (toFlashC aB0 nB0 cB0 aW0 nW0 cW0 bs0 ws0 _ (hB0.below BD) (hW0.below BD) (by omega) (by omega)).mono ?_; rintro e w31 ⟨yB, yC, yX, yD, rfl, oE, hbD⟩; have AE := AD.kept hbD; have XE := XD.kept hbD)
      | (go_at_call 34; refine (eqFlashC x0B nB0 x0C x0X nW0 x0D yB yC yX yD bs0 ws0 _ (IB.below hbD) (IW.below hbD) (bs_of_own oE.ob HBB0.out) (is_of_own oE.ow HWB0.out) (by omega) (by omega)).mono ?_; rintro e w32 ⟨rfl, hbE⟩)))
  have hb : Below w27.heap.size w27 w32 := ((Below.refl _ _).drew.trans hbD).trans (hbE.mono hbD.size)
  clear hbD hbE AE XE AD XD BD IB IW oE
  have hc : Chg w27 w32 0 0 := .of_below hb 0
  replace A0 := A0.chg hc (by omega)
  replace A1 := A1.chg hc (by omega)
  replace Rw := Rw.chg hc (by omega)
  replace Sx0 := Sx0.chg hc (by omega)
  replace Sx1 := Sx1.chg hc (by omega)
  replace Rg := Rg.chg hc (by omega)
  replace B := hc.bel B (by omega)
  have z33 := hc.size
  clear hc
  clear hb
  have AD := A1
  have XD := Sx1.p
  have BD := B.drew
  replace AD := AD.drew
  replace XD := XD.drew
  have IB := (bs_of_own Sx1.o.ob HBB1.out).below (Below.refl _ _).drew
  have IW := (is_of_own Sx1.o.ow HWB1.out).below (Below.refl _ _).drew
  have c34 := arr2 A1
  have c35 := Sx1.cells
  go_wp2
  clear c34 c35
  go_region_held3 (fun W => W.cell? ⟨w.heap.size + 1, 0, none⟩ = some (.slice aB1 nB1 cB1) ∧ W.cell? ⟨w.heap.size + 1, 1, none⟩ = some (.slice aW1 nW1 cW1) ∧ W.cell? ⟨w19.heap.size, 0, none⟩ = some (.slice x1B nB1 x1C) ∧ W.cell? ⟨w19.heap.size, 1, none⟩ = some (.slice x1X nW1 x1D))
    (first | exact c22_of AD XD | exact c22_of AE XE | exact c22_of (AE.kept hbE) (XE.kept hbE))
    ((first
      | (go_at_call 32; refine (toFlashC aB1 nB1 cB1 aW1 nW1 cW1 bs1 ws1 _ (hB1.below BD) (hW1.below BD) (by omega) (by omega)).mono ?_; rintro e w36 ⟨yB, yC, yX, yD, rfl, oE, hbD⟩; have AE := AD.kept hbD; have XE := XD.kept hbD)
      | (go_at_call 34; refine (eqFlashC x1B nB1 x1C x1X nW1 x1D yB yC yX yD bs1 ws1 _ (IB.below hbD) (IW.below hbD) (bs_of_own oE.ob HBB1.out) (is_of_own oE.ow HWB1.out) (by omega) (by omega)).mono ?_; rintro e w37 ⟨rfl, hbE⟩)))
  have hb : Below w32.heap.size w32 w37 := ((Below.refl _ _).drew.trans hbD).trans (hbE.mono hbD.size)
  clear hbD hbE AE XE AD XD BD IB IW oE
  have hc : Chg w32 w37 0 0 := .of_below hb 0
  replace A0 := A0.chg hc (by omega)
  replace A1 := A1.chg hc (by omega)
  replace Rw := Rw.chg hc (by omega)
  replace Sx0 := Sx0.chg hc (by omega)
  replace Sx1 := Sx1.chg hc (by omega)
  replace Rg := Rg.chg hc (by omega)
  replace B := hc.bel B (by omega)
  have z38 := hc.size
  clear hc
  clear hb
  have c39 := Sx0.cells
  go_wp2_with fail
  clear c39
  refine (markFlashC _ x0B nB0 x0C x0X nW0 x0D bs0 ws0 (1) _ Sx0.o (by omega) (by omega) (by omega) (by omega)).mono ?_
  rintro e w40 ⟨rfl, _, g⟩
  have hc : Chg w37 w40 _ _ := Sx0.gr g
  replace A0 := A0.chg hc (by omega)
  replace A1 := A1.chg hc (by omega)
  replace Rw := Rw.chg hc (by omega)
  replace Sx1 := Sx1.chg hc (by omega)
  replace Rg := Rg.chg hc (by omega)
  replace B := hc.bel B (by omega)
  have z41 := hc.size
  clear hc
  clear g Sx0
  have c42 := Sx1.cells
  go_wp2_with fail
  clear c42
  refine (markFlashC _ x1B nB1 x1C x1X nW1 x1D bs1 ws1 (1 + (nB0 : Int) + (nW0 : Int)) _ Sx1.o (by omega) (by omega) (by omega) (by omega)).mono ?_
  rintro e w43 ⟨rfl, _, g⟩
  have hc : Chg w40 w43 _ _ := Sx1.gr g
  replace A0 := A0.chg hc (by omega)
  replace A1 := A1.chg hc (by omega)
  replace Rw := Rw.chg hc (by omega)
  replace Rg := Rg.chg hc (by omega)
  replace B := hc.bel B (by omega)
  have z44 := hc.size
  clear hc
  clear g Sx1
  have hk0 : ¬ ((1 + (nB0 : Int) + (nW0 : Int) + (nB1 : Int) + (nW1 : Int) : Int) < 0) := by omega
  go_wp2_with fail
  refine (eqI gA wA mB gC wC LB _ (is_of_own Rg.o HLB.out) (is_of_own Rw.o HLB.out) (by omega)).mono ?_
  rintro e w45 ⟨q, rfl, hw⟩
  have hb : Below w43.heap.size w43 w45 := by rw [hw]; exact bel_drewN _ _
  clear hw
  have hc : Chg w43 w45 0 0 := .of_below hb 0
  replace A0 := A0.chg hc (by omega)
  replace A1 := A1.chg hc (by omega)
  replace Rw := Rw.chg hc (by omega)
  replace Rg := Rg.chg hc (by omega)
  replace B := hc.bel B (by omega)
  have z46 := hc.size
  clear hc
  clear hb
  go_wp2_with fail
  refine (markI _ mB _ 1 LB _ Rg.o (by omega) (by omega) (by omega)).mono ?_
  rintro e w47 ⟨rfl, og, g⟩
  have Rg2 := Rg.marked g og
  have hc : Chg w45 w47 _ _ := Rg.gr g
  replace A0 := A0.chg hc (by omega)
  replace A1 := A1.chg hc (by omega)
  replace Rw := Rw.chg hc (by omega)
  replace B := hc.bel B (by omega)
  have z48 := hc.size
  clear hc
  clear Rg g og
  have HM1 : Hid _ := marksI_int 1 mB (by omega) (by omega) (by omega)
  have hm0 : ¬ ((1 : Int) + (mB : Int) < 0) := by omega
  have hmm : ((1 : Int) + (mB : Int) != 1 + (mB : Int)) = false := by simp
  go_wp2_with fail
  refine (heldI gA mB gC 1 _ (is_of_own Rg2.o HM1.out) (by omega) (by omega) (by omega)).mono ?_
  rintro e w49 ⟨rfl, hw⟩
  have hb : Below w47.heap.size w47 w49 := by rw [hw]; exact Below.refl _ _
  clear hw
  have hc : Chg w47 w49 0 0 := .of_below hb 0
  replace A0 := A0.chg hc (by omega)
  replace A1 := A1.chg hc (by omega)
  replace Rw := Rw.chg hc (by omega)
  replace Rg2 := Rg2.chg hc (by omega)
  replace B := hc.bel B (by omega)
  have z50 := hc.size
  clear hc
  clear hb
  have c51 := arr2 A0
  have c52 := arr2 A1
  go_wp2
  try simp only [Act.put]
  refine tame [kc 75 (flV aB0 nB0 cB0 aW0 nW0 cW0), kv 76 (Fn9 nB0 nW0 bs0 ws0), kc 77 (flV aB1 nB1 cB1 aW1 nW1 cW1), kv 78 (Fn9 nB1 nW1 bs1 ws1)] 4 (by kernel_rfl) (by kernel_rfl) (by kernel_rfl) (by repeat' first | exact trivial | apply kc_keeps | apply fn9_keeps | constructor) 2 (by kernel_rfl) (fun vv ll hh yW bW => ?_) (fun vvj llj hhj yW bW F ivh aph => ?_)
  · have x0 := (bW.cell (p := ⟨w.heap.size, 0, none⟩) A0.lt).trans c51.1
    have x1 := (bW.cell (p := ⟨w.heap.size, 1, none⟩) A0.lt).trans c51.2
    have x2 := (bW.cell (p := ⟨w.heap.size + 1, 0, none⟩) A1.lt).trans c52.1
    have x3 := (bW.cell (p := ⟨w.heap.size + 1, 1, none⟩) A1.lt).trans c52.2
    have By := B.trans (bW.mono B.size)
    refine ⟨tp ?_, tfl (toFlashC aB0 nB0 cB0 aW0 nW0 cW0 bs0 ws0 yW (hB0.below By) (hW0.below By) (by omega) (by omega)) (by kernel_rfl), tp ?_, tfl (toFlashC aB1 nB1 cB1 aW1 nW1 cW1 bs1 ws1 yW (hB1.below By) (hW1.below By) (by omega) (by omega)) (by kernel_rfl), trivial⟩
    all_goals
      simp only [fillK, putT, List.setIfInBounds_toArray, List.set_cons_zero, List.set_cons_succ]
      unfold execOp
      go_simp
  have f1 : Fn9 nB0 nW0 bs0 ws0 (llj 1) (hhj 1) yW (vvj 1) := F.2.1
  have f3 : Fn9 nB1 nW1 bs1 ws1 (llj 3) (hhj 3) yW (vvj 3) := F.2.2.2.1
  clear F ivh aph
  clear c51 c52
  obtain ⟨y53, hy⟩ : ∃ z, z = yW := ⟨_, rfl⟩
  rw [← hy] at bW f1 f3 ⊢
  clear hy
  obtain ⟨v1, hv1⟩ : ∃ v, v = vvj 1 := ⟨_, rfl⟩
  obtain ⟨v3, hv3⟩ : ∃ v, v = vvj 3 := ⟨_, rfl⟩
  rw [← hv1] at f1
  rw [← hv3] at f3
  obtain ⟨p1, c1, q1, d1, e1, O1, _, _⟩ := f1
  obtain ⟨p3, c3, q3, d3, e3, O3, _, _⟩ := f3
  have hc : Chg w49 y53 0 0 := .of_below bW 0
  replace A0 := A0.chg hc (by omega)
  replace A1 := A1.chg hc (by omega)
  replace Rw := Rw.chg hc (by omega)
  replace Rg2 := Rg2.chg hc (by omega)
  replace B := hc.bel B (by omega)
  have z54 := hc.size
  clear hc
  clear bW
  refine st_call (i := 4) (by kernel_rfl) rfl rfl (f := 22) (args := #[v1, v3]) ?_ ?_
  · rw [hv1, hv3]
    kernel_rfl
  rw [e1, e3]
  refine Calls.mono (HI.out p1 nB0 c1 q1 nW0 d1 p3 nB1 c3 q3 nW1 d3 _ (bs_of_own O1.ob HBB0.out) (is_of_own O1.ow HWB0.out) (by omega) (by omega) (bs_of_own O3.ob HBB1.out) (is_of_own O3.ow HWB1.out) (by omega) (by omega)) ?_
  rintro e w55 ⟨v9, rfl, oh, hb⟩
  refine ⟨_, rfl, ?_⟩
  clear O1 O3
  refine st_val (i := 5) (o := { dst := some 13, op := Op.assign (Operand.tmp 79), type := 23, pos := "exact.go:4117", after := #[{ on := 4, ground := Ground.data }, { on := 4, ground := Ground.chain }, { on := 0, ground := Ground.phase }, { on := 1, ground := Ground.phase }, { on := 2, ground := Ground.phase }, { on := 3, ground := Ground.phase }, { on := 4, ground := Ground.phase }], guard := none }) (by kernel_rfl) rfl rfl (v := v9) (w' := w55) (by kernel_rfl) ?_
  refine wpAny_done (by kernel_rfl) ?_ _
  obtain ⟨hA, hC, rfl, _, _⟩ := Is.own oh HLB.out
  rw [← HmB.out] at oh ⊢
  have hc : Chg y53 w55 0 0 := .of_below hb 0
  replace A0 := A0.chg hc (by omega)
  replace A1 := A1.chg hc (by omega)
  replace Rw := Rw.chg hc (by omega)
  replace Rg2 := Rg2.chg hc (by omega)
  replace B := hc.bel B (by omega)
  have z56 := hc.size
  clear hc
  clear hb
  have Rh := Ro.new oh
  clear oh hv1 hv3 e1 e3
  try simp only [Act.put]
  simp only [fillK, putT, List.setIfInBounds_toArray, List.set_cons_zero, List.set_cons_succ]
  go_wp2_with fail
  refine (eqI hA wA mB hC wC LB _ (is_of_own Rh.o HLB.out) (is_of_own Rw.o HLB.out) (by omega)).mono ?_
  rintro e w57 ⟨q, rfl, hw⟩
  have hb : Below w55.heap.size w55 w57 := by rw [hw]; exact bel_drewN _ _
  clear hw
  have hc : Chg w55 w57 0 0 := .of_below hb 0
  replace A0 := A0.chg hc (by omega)
  replace A1 := A1.chg hc (by omega)
  replace Rw := Rw.chg hc (by omega)
  replace Rg2 := Rg2.chg hc (by omega)
  replace Rh := Rh.chg hc (by omega)
  replace B := hc.bel B (by omega)
  have z58 := hc.size
  clear hc
  clear hb
  go_wp2_with fail
  refine (heldI gA mB gC 1 _ (is_of_own Rg2.o HM1.out) (by omega) (by omega) (by omega)).mono ?_
  rintro e w59 ⟨rfl, hw⟩
  have hb : Below w57.heap.size w57 w59 := by rw [hw]; exact Below.refl _ _
  clear hw
  have hc : Chg w57 w59 0 0 := .of_below hb 0
  replace A0 := A0.chg hc (by omega)
  replace A1 := A1.chg hc (by omega)
  replace Rw := Rw.chg hc (by omega)
  replace Rg2 := Rg2.chg hc (by omega)
  replace Rh := Rh.chg hc (by omega)
  replace B := hc.bel B (by omega)
  have z60 := hc.size
  clear hc
  clear hb
  go_wp2
  go_ret
  exact ⟨rfl, B⟩
end Go.Proofs.Ytcnlpdpbkkjkoaa
