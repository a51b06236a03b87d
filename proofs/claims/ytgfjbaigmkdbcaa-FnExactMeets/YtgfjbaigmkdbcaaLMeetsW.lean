/-
  What is proved here: the exact law of Meets returns true at every argument, and writes into nothing that was there.
-/
import Derived.Test.YtgfjbaigmkdbcaaJM7
import Derived.Test.YtgfjbaigmkdbcaaJM18
import Derived.Test.YtgfjbaigmkdbcaaJM9
namespace Go.Proofs.Ytgfjbaigmkdbcaa
set_option maxRecDepth 100000
open Go.RowKit
set_option linter.unusedVariables false

set_option maxHeartbeats 4000000 in
theorem walk_fnExactMeets (w : World) (pa : Option Addr) (pn pc : Nat) (na : Option Addr) (nn nc : Nat) (B : BunM) (hP : Ps w pa pn pc B.ps) (hN : Ns w na nn nc B.ns) (hp : pn ≤ 9223372036854775807) (hq : ∀ q, q < pn → (B.ps.getD q pz).h.length ≤ 9223372036854775807) (hn : nn ≤ 9223372036854775807) :
    Calls Try.prog 5 #[bunV B.d B.n B.f pa pn pc na nn nc] w fun e w' => e = .returned (.bool true) ∧ Below w.heap.size w w' := by
  obtain ⟨V, hV⟩ : ∃ V, V = w.alloc (.cells #[.int .i64 B.d, .int .i64 B.n, .int .i64 B.f, .slice pa pn pc, .slice na nn nc] 25) := ⟨_, rfl⟩
  have Bl : Below w.heap.size w V := by rw [hV]; exact (Below.refl _ _).alloc (Nat.le_refl _) _
  have A : Arr V w.heap.size 25 [.int .i64 B.d, .int .i64 B.n, .int .i64 B.f, .slice pa pn pc, .slice na nn nc] := by rw [hV]; exact Arr.new _ _ _
  obtain ⟨R, hR⟩ : ∃ R, mtB B = R := ⟨_, rfl⟩
  have hRR : (R != R) = false := by simp
  have HS : Hid (∀ pa' pc' na' nc' Z, Ps Z pa' pn pc' B.ps → Ns Z na' nn nc' B.ns → Calls Try.prog 26 #[bunV B.d B.n B.f pa' pn pc' na' nn nc'] Z fun e w' => e = .returned (.bool R) ∧ Below Z.heap.size Z w') := by
    unfold Hid; intro pa' pc' na' nc' Z h1 h2; rw [← hR]; exact spec8Meets pa' pn pc' na' nn nc' B Z h1 h2
  have HI : Hid (∀ pa' pc' na' nc' Z, Ps Z pa' pn pc' B.ps → Ns Z na' nn nc' B.ns → Calls Try.prog 27 #[bunV B.d B.n B.f pa' pn pc' na' nn nc'] Z fun e w' => e = .returned (.bool R) ∧ Below Z.heap.size Z w') := by
    unfold Hid; intro pa' pc' na' nc' Z h1 h2; rw [← hR]; exact implMeets pa' pn pc' na' nn nc' B Z h1 h2
  have hy0 := hP.by_
  have HP : Hid (Ps w pa pn pc B.ps) := hP
  have HN : Hid (Ns w na nn nc B.ns) := hN
  have HQ : Hid (∀ q, q < pn → (B.ps.getD q pz).h.length ≤ 9223372036854775807) := hq
  clear hR hP hN hq
  obtain ⟨d, n, f, ps, ns⟩ := B
  simp only [] at *
  have c0 := A.cell 0
  have c1 := A.cell 1
  have c2 := A.cell 2
  have c3 := A.cell 3
  have c4 := A.cell 4
  simp at c0 c1 c2 c3 c4
  go_enter Try.func5, Try.ntmps5
  go_upto_region 1 with fail
  rw [← hV]
  clear hV
  go_wp2_with fail
  refine (szBundleC d n f pa pn pc na nn nc ps 1048576 _ (HP.out.below Bl) (by omega) (by omega) hp HQ.out hn).mono ?_
  rintro e w1 ⟨x, rfl, hx, hb⟩
  replace A := A.kept hb
  replace Bl := Bl.trans (hb.mono Bl.size)
  clear hb c0 c1 c2 c3 c4
  rcases hx with rfl | ⟨x0, x1, x2⟩
  · go_wp2
    go_ret
    exact ⟨rfl, Bl⟩
  have hx' : ¬ x < 0 := by omega
  have X1 : Hid (PqSm pn ps) := x1
  have hx2 : Hid (nn ≤ 1048576) := x2
  clear x1 x2 HQ
  have c0 := A.cell 0
  have c1 := A.cell 1
  have c2 := A.cell 2
  have c3 := A.cell 3
  have c4 := A.cell 4
  simp at c0 c1 c2 c3 c4
  go_wp2_with fail
  refine (toBundleC d n f pa pn pc na nn nc ps ns _ (HP.out.below Bl) (HN.out.below Bl) X1.out hx2.out).mono ?_
  rintro e w2 ⟨pa2, pc2, na2, nc2, rfl, oP, oN, hb⟩
  replace A := A.kept hb
  replace Bl := Bl.trans (hb.mono Bl.size)
  clear hb c0 c1 c2 c3 c4
  go_wp2_with fail
  refine Calls.mono (HS.out pa2 pc2 na2 nc2 _ (oP.rd hy0) (rs_of_own oN).ns) ?_
  rintro e w3 ⟨rfl, hb⟩
  replace A := A.kept hb
  replace Bl := Bl.trans (hb.mono Bl.size)
  clear hb oP oN HS
  have c0 := A.cell 0
  have c1 := A.cell 1
  have c2 := A.cell 2
  have c3 := A.cell 3
  have c4 := A.cell 4
  simp at c0 c1 c2 c3 c4
  go_wp2_with fail
  refine (toBundleC d n f pa pn pc na nn nc ps ns _ (HP.out.below Bl) (HN.out.below Bl) X1.out hx2.out).mono ?_
  rintro e w4 ⟨pa4, pc4, na4, nc4, rfl, oP, oN, hb⟩
  replace A := A.kept hb
  replace Bl := Bl.trans (hb.mono Bl.size)
  clear hb c0 c1 c2 c3 c4
  obtain ⟨W, hW⟩ : ∃ W, W = w4.alloc (.cells #[.int .i64 d, .int .i64 n, .int .i64 f, .slice pa4 pn pc4, .slice na4 nn nc4] 31) := ⟨_, rfl⟩
  have hb : Below w4.heap.size w4 W := by rw [hW]; exact (Below.refl _ _).alloc (Nat.le_refl _) _
  have D : Arr W w4.heap.size 31 [.int .i64 d, .int .i64 n, .int .i64 f, .slice pa4 pn pc4, .slice na4 nn nc4] := by rw [hW]; exact Arr.new _ _ _
  replace A := A.kept hb
  replace Bl := Bl.trans (hb.mono Bl.size)
  replace oP := oP.below hb
  replace oN := own_below oN hb
  clear hb
  have d0 := D.cell 0
  have d1 := D.cell 1
  have d2 := D.cell 2
  have d3 := D.cell 3
  have d4 := D.cell 4
  simp at d0 d1 d2 d3 d4
  rw [hW] at d0 d1 d2 d3 d4
  go_wp2_with fail
  rw [← hW]
  clear hW d0 d1 d2 d3 d4
  refine Calls.mono (HI.out pa4 pc4 na4 nc4 _ (oP.rd hy0) (rs_of_own oN).ns) ?_
  rintro e w5 ⟨rfl, hb⟩
  replace A := A.kept hb
  replace D := D.kept hb
  replace Bl := Bl.trans (hb.mono Bl.size)
  replace oP := oP.below hb
  replace oN := own_below oN hb
  clear hb HI
  have c0 := A.cell 0
  have c1 := A.cell 1
  have c2 := A.cell 2
  have c3 := A.cell 3
  have c4 := A.cell 4
  simp at c0 c1 c2 c3 c4
  have d0 := D.cell 0
  have d1 := D.cell 1
  have d2 := D.cell 2
  have d3 := D.cell 3
  have d4 := D.cell 4
  simp at d0 d1 d2 d3 d4
  obtain ⟨x, hx⟩ : ∃ x, x = w.heap.size := ⟨_, rfl⟩
  have HB : Hid (Below w.heap.size w w5) := Bl
  have HX : Hid _ := hx
  rw [← hx] at A
  clear Bl hx c0 c1 c2 c3 c4
  have c0 := A.cell 0
  have c1 := A.cell 1
  have c2 := A.cell 2
  have c3 := A.cell 3
  have c4 := A.cell 4
  simp at c0 c1 c2 c3 c4
  have lA := A.lt
  have lD := D.lt
  go_wp2
  rw [← HX.out]
  try simp only [Act.put]
  refine tame [kc 22 (bunV d n f pa4 pn pc4 na4 nn nc4), kc 23 (bunV d n f pa pn pc na nn nc), kv 24 (Fu w5.heap.size d n f pn nn ps ns)] 3 (by kernel_rfl) (by kernel_rfl) (by kernel_rfl) (by repeat' first | exact trivial | apply kc_keeps | apply fu_keeps | constructor) 2 (by kernel_rfl) (fun vv ll hh yW bW => ?_) (fun vv ll hh yW bW F ivh aph => ?_)
  · have x0 := (bW.cell (p := ⟨x, _, none⟩) lA).trans c0
    have x1 := (bW.cell (p := ⟨x, _, none⟩) lA).trans c1
    have x2 := (bW.cell (p := ⟨x, _, none⟩) lA).trans c2
    have x3 := (bW.cell (p := ⟨x, _, none⟩) lA).trans c3
    have x4 := (bW.cell (p := ⟨x, _, none⟩) lA).trans c4
    have y0 := (bW.cell (p := ⟨w4.heap.size, _, none⟩) lD).trans d0
    have y1 := (bW.cell (p := ⟨w4.heap.size, _, none⟩) lD).trans d1
    have y2 := (bW.cell (p := ⟨w4.heap.size, _, none⟩) lD).trans d2
    have y3 := (bW.cell (p := ⟨w4.heap.size, _, none⟩) lD).trans d3
    have y4 := (bW.cell (p := ⟨w4.heap.size, _, none⟩) lD).trans d4
    have By := HB.out.trans (bW.mono HB.out.size)
    refine ⟨tp ?_, tp ?_, tfu bW.size (toBundleC d n f pa pn pc na nn nc ps ns _ (HP.out.below By) (HN.out.below By) X1.out hx2.out) (by kernel_rfl), trivial⟩
    all_goals
      simp only [fillK, putT, List.setIfInBounds_toArray, List.set_cons_zero, List.set_cons_succ]
      unfold execOp
      go_simp
      try rfl
  have F2 : Fu w5.heap.size d n f pn nn ps ns (ll 2) (hh 2) yW (vv 2) := F.2.2.1
  clear F ivh aph c0 c1 c2 c3 c4 d0 d1 d2 d3 d4 A D lA lD
  obtain ⟨y, hy⟩ : ∃ z, z = yW := ⟨_, rfl⟩
  rw [← hy] at bW F2 ⊢
  clear hy
  obtain ⟨pa6, pc6, na6, nc6, e6, qP, qN⟩ := F2
  refine st_call (i := 3) (o := { dst := some 25, op := Op.call { callee := Callee.value (Operand.func 19), args := #[Operand.tmp 22, Operand.tmp 24], argTypes := #[31, 31] }, type := 4, pos := "exact.go:3385", after := #[{ on := 0, ground := Ground.data }, { on := 2, ground := Ground.data }, { on := 2, ground := Ground.chain }], guard := none }) (by kernel_rfl) rfl rfl (f := 19) (args := #[bunV d n f pa4 pn pc4 na4 nn nc4, bunV d n f pa6 pn pc6 na6 nn nc6]) ?_ ?_
  · rw [← e6]
    kernel_rfl
  refine Calls.mono (eqBundleC d n f pa4 pn pc4 na4 nn nc4 pa6 pc6 na6 nc6 ps ns y (oP.below bW |>.rd hy0) (rs_of_own (own_below oN bW)).ns (qP.rd hy0) (rs_of_own qN).ns X1.out hx2.out) ?_
  rintro e w7 ⟨rfl, hb⟩
  refine ⟨_, rfl, ?_⟩
  have Bl := (HB.out.trans (bW.mono HB.out.size)).trans (hb.mono (HB.out.trans (bW.mono HB.out.size)).size)
  clear hb oP oN qP qN e6
  refine st_val (i := 4) (o := { dst := some 26, op := Op.unOp UnOp.not 4 (Operand.tmp 25), type := 4, pos := "exact.go:3385", after := #[{ on := 3, ground := Ground.data }], guard := none }) (by kernel_rfl) rfl rfl (v := .bool false) (w' := w7) (by kernel_rfl) ?_
  refine wpAny_done (by kernel_rfl) ?_ _
  try simp only [Act.put]
  simp only [fillK, putT, List.setIfInBounds_toArray, List.set_cons_zero, List.set_cons_succ]
  go_wp2
  go_ret
  exact ⟨rfl, Bl⟩
end Go.Proofs.Ytgfjbaigmkdbcaa
