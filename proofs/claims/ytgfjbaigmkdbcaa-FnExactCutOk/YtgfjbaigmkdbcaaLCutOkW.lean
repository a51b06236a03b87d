/-
  What is proved here: the exact law of CutOk returns true at every argument, and writes into nothing that was there.
-/
import Derived.Test.YtgfjbaigmkdbcaaGc1
import Derived.Test.YtgfjbaigmkdbcaaC0s
import Derived.Deep.CutRange
namespace Go.Proofs.Ytgfjbaigmkdbcaa
set_option maxRecDepth 100000
open Go.RowKit
set_option linter.unusedVariables false

def FCut (lo : Nat) (m : CutM) (_ _ : Nat) (w : World) (v : Value) : Prop := ∃ p, v = cutV m p ∧ CutOw lo w p m
theorem fCut_keeps (q lo : Nat) (m : CutM) : Kd.keeps (kv q (FCut lo m)) := fun _ _ _ _ _ h _ b => by
  obtain ⟨p, e, o⟩ := h
  exact ⟨p, e, o.below b⟩
theorem tfCut {P : Program} {ev : Operand → Value} {o : Oper} {q lo : Nat} {w : World} {X : Prop} {m : CutM} {g : FuncId} {args : Array Value} (hlo : lo ≤ w.heap.size)
    (hc : Calls P g args w fun e w' => ∃ p, e = .returned (cutV m p) ∧ CutOw w.heap.size w' p m ∧ Below w.heap.size w w') (h : (execOp ev o).run P w = .ok (.enter g args) w) : Dty X (TOb P ev o (kv q (FCut lo m)) w) :=
  tr (fun _ => hc.mono (by rintro e' w' ⟨p, rfl, o, hb⟩; exact ⟨_, rfl, _, rfl, hb, p, rfl, o.base hlo⟩)) h
set_option maxHeartbeats 4000000 in
theorem walk_fnExactCutOk (w : World) (m : CutM) (p : CutA) (hR : CutRd w p m) (hL : CutLn m) :
    Calls Try.prog 11 #[cutV m p] w fun e w' => e = .returned (.bool true) ∧ Below w.heap.size w w' := by
  obtain ⟨V, hV⟩ : ∃ V, V = w.alloc (.cells #[.int .i64 m.o, .slice p.m.a m.m.length p.m.c] 75) := ⟨_, rfl⟩
  have B : Below w.heap.size w V := by rw [hV]; exact (Below.refl _ _).alloc (Nat.le_refl _) _
  have A : Arr V w.heap.size 75 [.int .i64 m.o, .slice p.m.a m.m.length p.m.c] := by rw [hV]; exact Arr.new _ _ _
  obtain ⟨R, hV2⟩ : ∃ R, ctOk m = R := ⟨_, rfl⟩
  have hRR : (R != R) = false := by simp
  have HS : Hid (∀ p' Z, CutRd Z p' m → Calls Try.prog 53 #[cutV m p'] Z fun e w' => e = .returned (.bool R) ∧ Below Z.heap.size Z w') := by
    unfold Hid; intro p' Z h1; rw [← hV2]; exact specCutOk m p' Z h1
  have HI : Hid (∀ p' Z, CutRd Z p' m → Calls Try.prog 55 #[cutV m p'] Z fun e w' => e = .returned (.bool R) ∧ Below Z.heap.size Z w') := by
    unfold Hid; intro p' Z h1; rw [← hV2]; exact implCutOk m p' Z h1
  have hy := hR.by_
  have HR : Hid (CutRd w p m) := hR
  have HL : Hid (CutLn m) := hL
  clear hV2 hR hL
  have c0 := A.cell 0
  have c1 := A.cell 1
  simp at c0 c1
  go_enter Try.func11, Try.ntmps11
  go_upto_region 1 with fail
  rw [← hV]
  clear hV
  go_wp2_with fail
  refine (szCutC m p 1048576 _ (HR.out.below B) (by omega) (by omega) HL.out).mono ?_
  rintro e w1 ⟨x, rfl, hx, hb⟩
  replace A := A.kept hb
  replace B := B.trans (hb.mono B.size)
  clear hb c0 c1
  rcases hx with rfl | ⟨x0, _, s⟩
  · go_wp2
    go_ret
    exact ⟨rfl, B⟩
  have hx' : ¬ x < 0 := by omega
  have HM : Hid (CutSm m) := s
  clear s
  have c0 := A.cell 0
  have c1 := A.cell 1
  simp at c0 c1
  go_wp2_with fail
  refine (toCutC m p _ (HR.out.below B) HM.out).mono ?_
  rintro e w2 ⟨p2, rfl, o2, hb⟩
  replace A := A.kept hb
  replace B := B.trans (hb.mono B.size)
  clear hb c0 c1
  go_wp2_with fail
  refine Calls.mono (HS.out p2 _ (o2.rd hy)) ?_
  rintro e w3 ⟨rfl, hb⟩
  replace A := A.kept hb
  replace B := B.trans (hb.mono B.size)
  clear hb o2 HS
  have c0 := A.cell 0
  have c1 := A.cell 1
  simp at c0 c1
  go_wp2_with fail
  refine (toCutC m p _ (HR.out.below B) HM.out).mono ?_
  rintro e w4 ⟨p4, rfl, o4, hb⟩
  replace A := A.kept hb
  replace B := B.trans (hb.mono B.size)
  clear hb c0 c1
  obtain ⟨W, hW⟩ : ∃ W, W = w4.alloc (.cells #[.int .i64 m.o, .slice p4.m.a m.m.length p4.m.c] 78) := ⟨_, rfl⟩
  have hb : Below w4.heap.size w4 W := by rw [hW]; exact (Below.refl _ _).alloc (Nat.le_refl _) _
  have D : Arr W w4.heap.size 78 [.int .i64 m.o, .slice p4.m.a m.m.length p4.m.c] := by rw [hW]; exact Arr.new _ _ _
  replace A := A.kept hb
  replace B := B.trans (hb.mono B.size)
  replace o4 := o4.below hb
  clear hb
  have d0 := D.cell 0
  have d1 := D.cell 1
  simp at d0 d1
  rw [hW] at d0 d1
  go_wp2_with fail
  rw [← hW]
  clear hW d0 d1
  refine Calls.mono (HI.out p4 _ (o4.rd hy)) ?_
  rintro e w5 ⟨rfl, hb⟩
  replace A := A.kept hb
  replace D := D.kept hb
  replace B := B.trans (hb.mono B.size)
  replace o4 := o4.below hb
  clear hb HI
  have d0 := D.cell 0
  have d1 := D.cell 1
  simp at d0 d1
  obtain ⟨x, hx⟩ : ∃ x, x = w.heap.size := ⟨_, rfl⟩
  have HB : Hid (Below w.heap.size w w5) := B
  have HX : Hid _ := hx
  rw [← hx] at A
  clear B hx
  have c0 := A.cell 0
  have c1 := A.cell 1
  simp at c0 c1
  have lA := A.lt
  have lD := D.lt
  go_wp2
  rw [← HX.out]
  try simp only [Act.put]
  refine tame [kc 22 (cutV m p4), kc 23 (cutV m p), kv 24 (FCut w5.heap.size m)] 3 (by kernel_rfl) (by kernel_rfl) (by kernel_rfl) (by repeat' first | exact trivial | apply kc_keeps | apply fCut_keeps | constructor) 2 (by kernel_rfl) (fun vv ll hh yW bW => ?_) (fun vv ll hh yW bW F ivh aph => ?_)
  · have x0 := (bW.cell (p := ⟨x, _, none⟩) lA).trans c0
    have x1 := (bW.cell (p := ⟨x, _, none⟩) lA).trans c1
    have y0 := (bW.cell (p := ⟨w4.heap.size, _, none⟩) lD).trans d0
    have y1 := (bW.cell (p := ⟨w4.heap.size, _, none⟩) lD).trans d1
    have By := HB.out.trans (bW.mono HB.out.size)
    refine ⟨tp ?_, tp ?_, tfCut bW.size (toCutC m p _ (HR.out.below By) HM.out) (by kernel_rfl), trivial⟩
    all_goals
      simp only [fillK, putT, List.setIfInBounds_toArray, List.set_cons_zero, List.set_cons_succ]
      unfold execOp
      go_simp
      try rfl
  have F2 : FCut w5.heap.size m (ll 2) (hh 2) yW (vv 2) := F.2.2.1
  clear F ivh aph c0 c1 d0 d1 A D lA lD
  obtain ⟨y, hy0⟩ : ∃ z, z = yW := ⟨_, rfl⟩
  rw [← hy0] at bW F2 ⊢
  clear hy0
  obtain ⟨p6, e6, q6⟩ := F2
  refine st_call (i := 3) (o := { dst := some 25, op := Op.call { callee := Callee.value (Operand.func 56), args := #[Operand.tmp 22, Operand.tmp 24], argTypes := #[78, 78] }, type := 4, pos := "exact.go:4402", after := #[{ on := 0, ground := Ground.data }, { on := 2, ground := Ground.data }, { on := 2, ground := Ground.chain }], guard := none }) (by kernel_rfl) rfl rfl (f := 56) (args := #[cutV m p4, cutV m p6]) ?_ ?_
  · rw [← e6]
    kernel_rfl
  refine Calls.mono (eqCutC m p4 p6 y ((o4.below bW).rd hy) (q6.rd hy) HM.out) ?_
  rintro e w7 ⟨rfl, hb⟩
  refine ⟨_, rfl, ?_⟩
  have B := (HB.out.trans (bW.mono HB.out.size)).trans (hb.mono (HB.out.trans (bW.mono HB.out.size)).size)
  clear hb o4 q6 e6
  refine st_val (i := 4) (o := { dst := some 26, op := Op.unOp UnOp.not 4 (Operand.tmp 25), type := 4, pos := "exact.go:4402", after := #[{ on := 3, ground := Ground.data }], guard := none }) (by kernel_rfl) rfl rfl (v := .bool false) (w' := w7) (by kernel_rfl) ?_
  refine wpAny_done (by kernel_rfl) ?_ _
  try simp only [Act.put]
  simp only [fillK, putT, List.setIfInBounds_toArray, List.set_cons_zero, List.set_cons_succ]
  go_wp2
  go_ret
  exact ⟨rfl, B⟩
end Go.Proofs.Ytgfjbaigmkdbcaa
