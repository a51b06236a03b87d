/-
  What is proved here: the exact law of BundleText returns true at every argument, and writes into nothing that was there.
-/
import Derived.Test.YtgfjbaigmkdbcaaDoorJB19
import Derived.Test.YtgfjbaigmkdbcaaDoorJB20
import Derived.Test.YtgfjbaigmkdbcaaDoorJB21
namespace Go.Proofs.YtgfjbaigmkdbcaaDoor
set_option maxRecDepth 100000
open Go.RowKit
set_option linter.unusedVariables false

set_option maxHeartbeats 4000000 in
theorem walk_fnExactBundleText (w : World) (pa : Option Addr) (pn pc : Nat) (na : Option Addr) (nn nc : Nat) (B : BunM) (hP : Ps w pa pn pc B.ps) (hN : Ns w na nn nc B.ns) (hp : pn ≤ 9223372036854775807) (hq : ∀ q, q < pn → (B.ps.getD q pz).h.length ≤ 9223372036854775807) (hn : nn ≤ 9223372036854775807) (ht : Pow w) :
    Calls Tryd.prog 3 #[bunV B.d B.n B.f pa pn pc na nn nc] w fun e w' => e = .returned (.bool true) ∧ Below w.heap.size w w' := by
  obtain ⟨V, hV⟩ : ∃ V, V = w.alloc (.cells #[.int .i64 B.d, .int .i64 B.n, .int .i64 B.f, .slice pa pn pc, .slice na nn nc] 25) := ⟨_, rfl⟩
  have B0 : Below w.heap.size w V := by rw [hV]; exact (Below.refl _ _).alloc (Nat.le_refl _) _
  have A : Arr V w.heap.size 25 [.int .i64 B.d, .int .i64 B.n, .int .i64 B.f, .slice pa pn pc, .slice na nn nc] := by rw [hV]; exact Arr.new _ _ _
  have hy0 := hP.by_
  have HS : Hid (∀ pa' pc' na' nc' Z, Ps Z pa' pn pc' B.ps → Ns Z na' nn nc' B.ns → Calls Tryd.prog 8 #[bunV B.d B.n B.f pa' pn pc' na' nn nc'] Z fun e w' => ∃ v, e = .returned v ∧ w'.ownsRow Z.heap.size 5 1 v (txB B).length (U8 (txB B)) ∧ Below Z.heap.size Z w') :=
    fun pa' pc' na' nc' Z h1 h2 => specBundleText pa' pn pc' na' nn nc' B Z h1 h2
  have HT : Hid (∀ Z, Below w.heap.size w Z → Pow Z) := fun Z hZ => pow_below ht hZ
  have HI : Hid (∀ pa' pc' na' nc' Z, Pow Z → Ps Z pa' pn pc' B.ps → Ns Z na' nn nc' B.ns → Calls Tryd.prog 10 #[bunV B.d B.n B.f pa' pn pc' na' nn nc'] Z fun e w' => ∃ v, e = .returned v ∧ ownM w' Z.heap.size v (txB B).length (txB B) ∧ Below Z.heap.size Z w') :=
    fun pa' pc' na' nc' Z hz h1 h2 => implBundleText pa' pn pc' na' nn nc' B Z h1 h2 hz
  clear ht
  have lb1 := txB_len B
  have lb2 := txB_byte B
  generalize hLB : txB B = LB at HS HI lb1 lb2
  clear hLB
  obtain ⟨m, em⟩ : ∃ m, m = LB.length := ⟨_, rfl⟩
  rw [← em] at lb1 HS HI
  have HLB : Hid (∀ x ∈ LB, 0 ≤ x ∧ x < 256) := lb2
  clear em lb2
  have HP : Hid (Ps w pa pn pc B.ps) := hP
  have HN : Hid (Ns w na nn nc B.ns) := hN
  have HQ : Hid (∀ q, q < pn → (B.ps.getD q pz).h.length ≤ 9223372036854775807) := hq
  clear hP hN hq
  obtain ⟨d, n, f, ps, ns⟩ := B
  simp only [] at *
  obtain ⟨x, hx⟩ : ∃ x, x = w.heap.size := ⟨_, rfl⟩
  have HX : Hid (x = w.heap.size) := hx
  have z0 : x < V.heap.size := by rw [hx]; exact A.lt
  rw [← hx] at A
  have B : Below w.heap.size w V := B0
  clear B0
  have c0 := A.cell 0
  have c1 := A.cell 1
  have c2 := A.cell 2
  have c3 := A.cell 3
  have c4 := A.cell 4
  simp at c0 c1 c2 c3 c4
  clear hx
  go_enter Tryd.func3, Tryd.ntmps3
  go_upto_region 1 with fail
  rw [← hV]
  rw [← HX.out]
  clear hV
  go_wp2_with fail
  refine Calls.mono (szBundleC d n f pa pn pc na nn nc ps 1048576 _ (HP.out.below B) (by omega) (by omega) hp HQ.out hn) ?_
  rintro e w1 ⟨q, rfl, hx, hb⟩
  clear c0 c1 c2 c3 c4
  have hc : Chg V w1 0 0 := .of_below hb 0
  replace A := A.chg hc (by have := HX.out; omega)
  replace B := hc.bel B (by have := HX.out; omega)
  have z1 := hc.size
  clear hc
  clear hb
  rcases hx with rfl | ⟨x0, x1, x2⟩
  · go_wp2
    go_ret
    exact ⟨rfl, B⟩
  have hx' : ¬ q < 0 := by omega
  have X1 : Hid (PqSm pn ps) := x1
  have hn2 : Hid (nn ≤ 1048576) := x2
  clear x1 x2 HQ
  have c0 := A.cell 0
  have c1 := A.cell 1
  have c2 := A.cell 2
  have c3 := A.cell 3
  have c4 := A.cell 4
  simp at c0 c1 c2 c3 c4
  go_wp2_with fail
  refine Calls.mono (toBundleC2 d n f pa pn pc na nn nc ps ns _ (HP.out.below B) (HN.out.below B) X1.out hn2.out) ?_
  rintro e w2 ⟨pa2, pc2, na2, nc2, mid2, rfl, oP, oN, mA2, mB2, hb⟩
  clear c0 c1 c2 c3 c4
  have hc : Chg w1 w2 0 0 := .of_below hb 0
  replace A := A.chg hc (by have := HX.out; omega)
  replace B := hc.bel B (by have := HX.out; omega)
  have z2 := hc.size
  clear hc
  clear hb
  go_wp2_with fail
  refine Calls.mono (HS.out pa2 pc2 na2 nc2 _ (oP.q.rd hy0) (rs_of_own oN.o).ns) ?_
  rintro e w3 ⟨vw, rfl, ow, hb⟩
  obtain ⟨wA, wC, rfl, _, _⟩ := Bs.own ow HLB.out
  have hc : Chg w2 w3 0 0 := .of_below hb 0
  replace A := A.chg hc (by have := HX.out; omega)
  replace B := hc.bel B (by have := HX.out; omega)
  have z3 := hc.size
  clear hc
  clear hb oP oN HS mA2 mB2
  have Rw := Ro.new ow
  clear ow
  have c0 := A.cell 0
  have c1 := A.cell 1
  have c2 := A.cell 2
  have c3 := A.cell 3
  have c4 := A.cell 4
  simp at c0 c1 c2 c3 c4
  go_wp2_with fail
  refine Calls.mono (toBundleC2 d n f pa pn pc na nn nc ps ns _ (HP.out.below B) (HN.out.below B) X1.out hn2.out) ?_
  rintro e w4 ⟨pa4, pc4, na4, nc4, mid4, rfl, oP, oN, mA4, mB4, hb⟩
  clear c0 c1 c2 c3 c4
  have hc : Chg w3 w4 0 0 := .of_below hb 0
  replace A := A.chg hc (by have := HX.out; omega)
  replace Rw := Rw.chg hc (by have := HX.out; omega)
  replace B := hc.bel B (by have := HX.out; omega)
  have z4 := hc.size
  clear hc
  clear hb
  have Kp := oP
  have Kn := oN
  clear oP oN
  obtain ⟨W, hW⟩ : ∃ W, W = w4.alloc (.cells #[.int .i64 d, .int .i64 n, .int .i64 f, .slice pa4 pn pc4, .slice na4 nn nc4] 32) := ⟨_, rfl⟩
  have hb : Below w4.heap.size w4 W := by rw [hW]; exact (Below.refl _ _).alloc (Nat.le_refl _) _
  have D : Arr W w4.heap.size 32 [.int .i64 d, .int .i64 n, .int .i64 f, .slice pa4 pn pc4, .slice na4 nn nc4] := by rw [hW]; exact Arr.new _ _ _
  have hc : Chg w4 W 0 0 := .of_below hb 0
  replace A := A.chg hc (by have := HX.out; omega)
  replace Rw := Rw.chg hc (by have := HX.out; omega)
  replace Kp := Kp.chg hc (by have := HX.out; omega)
  replace Kn := Kn.chg hc (by have := HX.out; omega)
  replace B := hc.bel B (by have := HX.out; omega)
  have z5 := hc.size
  clear hc
  clear hb
  have d0 := D.cell 0
  have d1 := D.cell 1
  have d2 := D.cell 2
  have d3 := D.cell 3
  have d4 := D.cell 4
  simp at d0 d1 d2 d3 d4
  rw [hW] at d0 d1 d2 d3 d4
  go_wp2_with fail
  rw [← hW]
  clear hW
  clear d0 d1 d2 d3 d4
  refine Calls.mono (HI.out pa4 pc4 na4 nc4 _ (HT.out _ B) (Kp.q.rd hy0) (rs_of_own Kn.o).ns) ?_
  rintro e w6 ⟨vg, rfl, og, hb⟩
  obtain ⟨gA, gC, rfl, _⟩ := og.bs HLB.out
  have hc : Chg W w6 0 0 := .of_below hb 0
  replace A := A.chg hc (by have := HX.out; omega)
  replace Rw := Rw.chg hc (by have := HX.out; omega)
  replace Kp := Kp.chg hc (by have := HX.out; omega)
  replace Kn := Kn.chg hc (by have := HX.out; omega)
  replace D := D.chg hc (by have := HX.out; omega)
  replace B := hc.bel B (by have := HX.out; omega)
  have z6 := hc.size
  clear hc
  clear hb
  have Rg := RoM.new og
  clear og
  go_wp2_with fail
  refine Calls.mono (eqBC gA wA m gC wC LB _ (Rg.bs HLB.out) (bs_of_own Rw.o HLB.out) (by omega)) ?_
  rintro e w7 ⟨rfl, hb⟩
  have hc : Chg w6 w7 0 0 := .of_below hb 0
  replace A := A.chg hc (by have := HX.out; omega)
  replace Rw := Rw.chg hc (by have := HX.out; omega)
  replace Kp := Kp.chg hc (by have := HX.out; omega)
  replace Kn := Kn.chg hc (by have := HX.out; omega)
  replace D := D.chg hc (by have := HX.out; omega)
  replace Rg := Rg.chg hc (by have := HX.out; omega)
  replace B := hc.bel B (by have := HX.out; omega)
  have z7 := hc.size
  clear hc
  clear hb
  have c0 := A.cell 0
  have c1 := A.cell 1
  have c2 := A.cell 2
  have c3 := A.cell 3
  have c4 := A.cell 4
  simp at c0 c1 c2 c3 c4
  have d0 := D.cell 0
  have d1 := D.cell 1
  have d2 := D.cell 2
  have d3 := D.cell 3
  have d4 := D.cell 4
  simp at d0 d1 d2 d3 d4
  have lA := A.lt
  have lD := D.lt
  go_wp2
  try simp only [Act.put]
  refine tame [kc 27 (bunV d n f pa4 pn pc4 na4 nn nc4), kc 28 (bunV d n f pa pn pc na nn nc), kv 29 (Fu w7.heap.size d n f pn nn ps ns)] 3 (by kernel_rfl) (by kernel_rfl) (by kernel_rfl) (by repeat' first | exact trivial | apply kc_keeps | apply fu_keeps | constructor) 2 (by kernel_rfl) (fun vv ll hh yW bW => ?_) (fun vv ll hh yW bW F ivh aph => ?_)
  · have x0 := (bW.cell (p := ⟨x, _, none⟩) lA).trans c0
    have x1 := (bW.cell (p := ⟨x, _, none⟩) lA).trans c1
    have x2 := (bW.cell (p := ⟨x, _, none⟩) lA).trans c2
    have x3 := (bW.cell (p := ⟨x, _, none⟩) lA).trans c3
    have x4 := (bW.cell (p := ⟨x, _, none⟩) lA).trans c4
    have y0 := (bW.cell (p := ⟨w4.heap.size, _, none⟩) lD).trans d0
    have y1 := (bW.cell (p := ⟨w4.heap.size, _, none⟩) lD).trans d1
    have y2 := (bW.cell (p := ⟨w4.heap.size, _, none⟩) lD).trans d2
    have y3 := (bW.cell (p := ⟨w4.heap.size, _, none⟩) lD).trans d3
    have y4 := (bW.cell (p := ⟨w4.heap.size, _, none⟩) lD).trans d4
    have By := B.trans (bW.mono B.size)
    refine ⟨tp ?_, tp ?_, tfu bW.size (toBundleC d n f pa pn pc na nn nc ps ns _ (HP.out.below By) (HN.out.below By) X1.out hn2.out) (by kernel_rfl), trivial⟩
    all_goals
      simp only [fillK, putT, List.setIfInBounds_toArray, List.set_cons_zero, List.set_cons_succ]
      unfold execOp
      go_simp
      try rfl
  have F2 : Fu w7.heap.size d n f pn nn ps ns (ll 2) (hh 2) yW (vv 2) := F.2.2.1
  clear F ivh aph c0 c1 c2 c3 c4 d0 d1 d2 d3 d4 lA lD
  obtain ⟨y, hy⟩ : ∃ z, z = yW := ⟨_, rfl⟩
  rw [← hy] at bW F2 ⊢
  clear hy
  obtain ⟨pa6, pc6, na6, nc6, e6, qP, qN⟩ := F2
  have hc : Chg w7 y 0 0 := .of_below bW 0
  replace A := A.chg hc (by have := HX.out; omega)
  replace Rw := Rw.chg hc (by have := HX.out; omega)
  replace Kp := Kp.chg hc (by have := HX.out; omega)
  replace Kn := Kn.chg hc (by have := HX.out; omega)
  replace D := D.chg hc (by have := HX.out; omega)
  replace Rg := Rg.chg hc (by have := HX.out; omega)
  replace B := hc.bel B (by have := HX.out; omega)
  have z8 := hc.size
  clear hc
  clear bW
  refine st_call (i := 3) (o := { dst := some 30, op := Op.call { callee := Callee.value (Operand.func 12), args := #[Operand.tmp 27, Operand.tmp 29], argTypes := #[32, 32] }, type := 4, pos := "exact.go:3647", after := #[{ on := 0, ground := Ground.data }, { on := 2, ground := Ground.data }, { on := 2, ground := Ground.chain }], guard := none }) (by kernel_rfl) rfl rfl (f := 12) (args := #[bunV d n f pa4 pn pc4 na4 nn nc4, bunV d n f pa6 pn pc6 na6 nn nc6]) ?_ ?_
  · rw [← e6]
    kernel_rfl
  refine Calls.mono (eqBundleC d n f pa4 pn pc4 na4 nn nc4 pa6 pc6 na6 nc6 ps ns y (Kp.q.rd hy0) (rs_of_own Kn.o).ns (qP.rd hy0) (rs_of_own qN).ns X1.out hn2.out) ?_
  rintro e w9 ⟨rfl, hb⟩
  refine ⟨_, rfl, ?_⟩
  have hc : Chg y w9 0 0 := .of_below hb 0
  replace A := A.chg hc (by have := HX.out; omega)
  replace Rw := Rw.chg hc (by have := HX.out; omega)
  replace Kp := Kp.chg hc (by have := HX.out; omega)
  replace Kn := Kn.chg hc (by have := HX.out; omega)
  replace D := D.chg hc (by have := HX.out; omega)
  replace Rg := Rg.chg hc (by have := HX.out; omega)
  replace B := hc.bel B (by have := HX.out; omega)
  have z9 := hc.size
  clear hc
  clear hb qP qN e6
  refine st_val (i := 4) (o := { dst := some 31, op := Op.unOp UnOp.not 4 (Operand.tmp 30), type := 4, pos := "exact.go:3647", after := #[{ on := 3, ground := Ground.data }], guard := none }) (by kernel_rfl) rfl rfl (v := .bool false) (w' := w9) (by kernel_rfl) ?_
  refine wpAny_done (by kernel_rfl) ?_ _
  try simp only [Act.put]
  simp only [fillK, putT, List.setIfInBounds_toArray, List.set_cons_zero, List.set_cons_succ]
  have d0 := D.cell 0
  have d1 := D.cell 1
  have d2 := D.cell 2
  have d3 := D.cell 3
  have d4 := D.cell 4
  simp at d0 d1 d2 d3 d4
  go_wp2_with fail
  refine Calls.mono (markBundleC _ mid4 _ d n f pa4 pn pc4 na4 nn nc4 ps (ns.map nrc) 1 _ Kp Kn mA4 mB4 X1.out hn2.out (by omega) (by omega)) ?_
  rintro e w10 ⟨kx, rfl, hk, hc0⟩
  clear d0 d1 d2 d3 d4
  have hc : Chg w9 w10 _ _ := hc0
  replace A := A.chg hc (by have := HX.out; omega)
  replace Rw := Rw.chg hc (by have := HX.out; omega)
  replace D := D.chg hc (by have := HX.out; omega)
  replace Rg := Rg.chg hc (by have := HX.out; omega)
  replace B := hc.bel B (by have := HX.out; omega)
  have z10 := hc.size
  clear hc
  clear hc0 Kp Kn D
  have hk0 : ¬ kx < 0 := by omega
  go_wp2_with fail
  refine Calls.mono (eqBC gA wA m gC wC LB _ (Rg.bs HLB.out) (bs_of_own Rw.o HLB.out) (by omega)) ?_
  rintro e w11 ⟨rfl, hb⟩
  have hc : Chg w10 w11 0 0 := .of_below hb 0
  replace A := A.chg hc (by have := HX.out; omega)
  replace Rw := Rw.chg hc (by have := HX.out; omega)
  replace Rg := Rg.chg hc (by have := HX.out; omega)
  replace B := hc.bel B (by have := HX.out; omega)
  have z11 := hc.size
  clear hc
  clear hb
  go_wp2_with fail
  refine Calls.mono (markBM _ m _ 1 LB _ Rg.o (by omega) (by omega) (by omega)) ?_
  rintro e w12 ⟨rfl, og, g⟩
  have Rg2 := Rg.marked g og
  have hc : Chg w11 w12 _ _ := Rg.gr g
  replace A := A.chg hc (by have := HX.out; omega)
  replace Rw := Rw.chg hc (by have := HX.out; omega)
  replace B := hc.bel B (by have := HX.out; omega)
  have z12 := hc.size
  clear hc
  clear g og Rg
  have HM1 : Hid (∀ x ∈ marks 1 m, 0 ≤ x ∧ x < 256) := marks_byte 1 m
  have hm0 : ¬ ((1 : Int) + (m : Int) < 0) := by omega
  have hmm : ((1 : Int) + (m : Int) != (1 : Int) + (m : Int)) = false := by simp
  go_wp2_with fail
  refine Calls.mono (heldB gA m gC 1 _ (Rg2.bs HM1.out) (by omega) (by omega) (by omega)) ?_
  rintro e w13 ⟨rfl, hw⟩
  have hb : Below w12.heap.size w12 w13 := by rw [hw]; exact Below.refl _ _
  clear hw
  have hc : Chg w12 w13 0 0 := .of_below hb 0
  replace A := A.chg hc (by have := HX.out; omega)
  replace Rw := Rw.chg hc (by have := HX.out; omega)
  replace Rg2 := Rg2.chg hc (by have := HX.out; omega)
  replace B := hc.bel B (by have := HX.out; omega)
  have z13 := hc.size
  clear hc
  clear hb
  have c0 := A.cell 0
  have c1 := A.cell 1
  have c2 := A.cell 2
  have c3 := A.cell 3
  have c4 := A.cell 4
  simp at c0 c1 c2 c3 c4
  go_wp2_with fail
  refine Calls.mono (toBundleC2 d n f pa pn pc na nn nc ps ns _ (HP.out.below B) (HN.out.below B) X1.out hn2.out) ?_
  rintro e w14 ⟨pa8, pc8, na8, nc8, mid8, rfl, oP, oN, mA8, mB8, hb⟩
  clear c0 c1 c2 c3 c4
  have hc : Chg w13 w14 0 0 := .of_below hb 0
  replace A := A.chg hc (by have := HX.out; omega)
  replace Rw := Rw.chg hc (by have := HX.out; omega)
  replace Rg2 := Rg2.chg hc (by have := HX.out; omega)
  replace B := hc.bel B (by have := HX.out; omega)
  have z14 := hc.size
  clear hc
  clear hb
  go_wp2_with fail
  refine Calls.mono (HI.out pa8 pc8 na8 nc8 _ (HT.out _ B) (oP.q.rd hy0) (rs_of_own oN.o).ns) ?_
  rintro e w15 ⟨vh, rfl, oh, hb⟩
  obtain ⟨hA, hC, rfl, _⟩ := oh.bs HLB.out
  have hc : Chg w14 w15 0 0 := .of_below hb 0
  replace A := A.chg hc (by have := HX.out; omega)
  replace Rw := Rw.chg hc (by have := HX.out; omega)
  replace Rg2 := Rg2.chg hc (by have := HX.out; omega)
  replace B := hc.bel B (by have := HX.out; omega)
  have z15 := hc.size
  clear hc
  clear hb oP oN mA8 mB8
  have Rh := RoM.new oh
  clear oh
  go_wp2_with fail
  refine Calls.mono (eqBC hA wA m hC wC LB _ (Rh.bs HLB.out) (bs_of_own Rw.o HLB.out) (by omega)) ?_
  rintro e w16 ⟨rfl, hb⟩
  have hc : Chg w15 w16 0 0 := .of_below hb 0
  replace A := A.chg hc (by have := HX.out; omega)
  replace Rw := Rw.chg hc (by have := HX.out; omega)
  replace Rg2 := Rg2.chg hc (by have := HX.out; omega)
  replace Rh := Rh.chg hc (by have := HX.out; omega)
  replace B := hc.bel B (by have := HX.out; omega)
  have z16 := hc.size
  clear hc
  clear hb
  go_wp2_with fail
  refine Calls.mono (heldB gA m gC 1 _ (Rg2.bs HM1.out) (by omega) (by omega) (by omega)) ?_
  rintro e w17 ⟨rfl, hw⟩
  have hb : Below w16.heap.size w16 w17 := by rw [hw]; exact Below.refl _ _
  clear hw
  have hc : Chg w16 w17 0 0 := .of_below hb 0
  replace A := A.chg hc (by have := HX.out; omega)
  replace Rw := Rw.chg hc (by have := HX.out; omega)
  replace Rg2 := Rg2.chg hc (by have := HX.out; omega)
  replace Rh := Rh.chg hc (by have := HX.out; omega)
  replace B := hc.bel B (by have := HX.out; omega)
  have z17 := hc.size
  clear hc
  clear hb
  go_wp2
  go_ret
  exact ⟨rfl, B⟩
end Go.Proofs.YtgfjbaigmkdbcaaDoor
