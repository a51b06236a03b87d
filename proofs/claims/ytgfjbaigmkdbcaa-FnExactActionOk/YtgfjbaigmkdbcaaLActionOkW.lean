/-
  What is proved here: the exact law of ActionOk returns true at every argument, and writes into nothing that was there.
-/
import Derived.Test.YtgfjbaigmkdbcaaGa1
import Derived.Test.YtgfjbaigmkdbcaaC0s
import Derived.Deep.CutRange
namespace Go.Proofs.Ytgfjbaigmkdbcaa
set_option maxRecDepth 100000
open Go.RowKit
set_option linter.unusedVariables false

def FAction (lo : Nat) (m : ActionM) (_ _ : Nat) (w : World) (v : Value) : Prop := ∃ p, v = actV m p ∧ ActionOw lo w p m
theorem fAction_keeps (q lo : Nat) (m : ActionM) : Kd.keeps (kv q (FAction lo m)) := fun _ _ _ _ _ h _ b => by
  obtain ⟨p, e, o⟩ := h
  exact ⟨p, e, o.below b⟩
theorem tfAction {P : Program} {ev : Operand → Value} {o : Oper} {q lo : Nat} {w : World} {X : Prop} {m : ActionM} {g : FuncId} {args : Array Value} (hlo : lo ≤ w.heap.size)
    (hc : Calls P g args w fun e w' => ∃ p, e = .returned (actV m p) ∧ ActionOw w.heap.size w' p m ∧ Below w.heap.size w w') (h : (execOp ev o).run P w = .ok (.enter g args) w) : Dty X (TOb P ev o (kv q (FAction lo m)) w) :=
  tr (fun _ => hc.mono (by rintro e' w' ⟨p, rfl, o, hb⟩; exact ⟨_, rfl, _, rfl, hb, p, rfl, o.base hlo⟩)) h
set_option maxHeartbeats 4000000 in
theorem walk_fnExactActionOk (w : World) (m : ActionM) (p : ActionA) (hR : ActionRd w p m) (hL : ActionLn m) :
    Calls Try.prog 13 #[actV m p] w fun e w' => e = .returned (.bool true) ∧ Below w.heap.size w w' := by
  obtain ⟨V, hV⟩ : ∃ V, V = w.alloc (.cells #[.int .i64 m.k, .slice p.e.a m.e.length p.e.c, .slice p.d.a m.d.length p.d.c, .int .i64 m.c.o, .slice p.c.m.a m.c.m.length p.c.m.c] 89) := ⟨_, rfl⟩
  have B : Below w.heap.size w V := by rw [hV]; exact (Below.refl _ _).alloc (Nat.le_refl _) _
  have A : Arr V w.heap.size 89 [.int .i64 m.k, .slice p.e.a m.e.length p.e.c, .slice p.d.a m.d.length p.d.c, .int .i64 m.c.o, .slice p.c.m.a m.c.m.length p.c.m.c] := by rw [hV]; exact Arr.new _ _ _
  obtain ⟨R, hV2⟩ : ∃ R, acOk m = R := ⟨_, rfl⟩
  have hRR : (R != R) = false := by simp
  have HS : Hid (∀ p' Z, ActionRd Z p' m → Calls Try.prog 61 #[actV m p'] Z fun e w' => e = .returned (.bool R) ∧ Below Z.heap.size Z w') := by
    unfold Hid; intro p' Z h1; rw [← hV2]; exact specActionOk m p' Z h1
  have HI : Hid (∀ p' Z, ActionRd Z p' m → Calls Try.prog 63 #[actV m p'] Z fun e w' => e = .returned (.bool R) ∧ Below Z.heap.size Z w') := by
    unfold Hid; intro p' Z h1; rw [← hV2]; exact implActionOk m p' Z h1
  have hy := hR.by_
  have HR : Hid (ActionRd w p m) := hR
  have HL : Hid (ActionLn m) := hL
  clear hV2 hR hL
  have c0 := A.cell 0
  have c1 := A.cell 1
  have c2 := A.cell 2
  have c3 := A.cell 3
  have c4 := A.cell 4
  simp at c0 c1 c2 c3 c4
  go_enter Try.func13, Try.ntmps13
  go_upto_region 1 with fail
  rw [← hV]
  clear hV
  go_wp2_with fail
  refine (szActionC m p 1048576 _ (HR.out.below B) (by omega) (by omega) HL.out).mono ?_
  rintro e w1 ⟨x, rfl, hx, hb⟩
  replace A := A.kept hb
  replace B := B.trans (hb.mono B.size)
  clear hb c0 c1 c2 c3 c4
  rcases hx with rfl | ⟨x0, _, s⟩
  · go_wp2
    go_ret
    exact ⟨rfl, B⟩
  have hx' : ¬ x < 0 := by omega
  have HM : Hid (ActionSm m) := s
  clear s
  have c0 := A.cell 0
  have c1 := A.cell 1
  have c2 := A.cell 2
  have c3 := A.cell 3
  have c4 := A.cell 4
  simp at c0 c1 c2 c3 c4
  go_wp2_with fail
  refine (toActionC m p _ (HR.out.below B) HM.out).mono ?_
  rintro e w2 ⟨p2, rfl, o2, hb⟩
  replace A := A.kept hb
  replace B := B.trans (hb.mono B.size)
  clear hb c0 c1 c2 c3 c4
  go_wp2_with fail
  refine Calls.mono (HS.out p2 _ (o2.rd hy)) ?_
  rintro e w3 ⟨rfl, hb⟩
  replace A := A.kept hb
  replace B := B.trans (hb.mono B.size)
  clear hb o2 HS
  have c0 := A.cell 0
  have c1 := A.cell 1
  have c2 := A.cell 2
  have c3 := A.cell 3
  have c4 := A.cell 4
  simp at c0 c1 c2 c3 c4
  go_wp2_with fail
  refine (toActionC m p _ (HR.out.below B) HM.out).mono ?_
  rintro e w4 ⟨p4, rfl, o4, hb⟩
  replace A := A.kept hb
  replace B := B.trans (hb.mono B.size)
  clear hb c0 c1 c2 c3 c4
  obtain ⟨W, hW⟩ : ∃ W, W = w4.alloc (.cells #[.int .i64 m.k, .slice p4.e.a m.e.length p4.e.c, .slice p4.d.a m.d.length p4.d.c, .int .i64 m.c.o, .slice p4.c.m.a m.c.m.length p4.c.m.c] 93) := ⟨_, rfl⟩
  have hb : Below w4.heap.size w4 W := by rw [hW]; exact (Below.refl _ _).alloc (Nat.le_refl _) _
  have D : Arr W w4.heap.size 93 [.int .i64 m.k, .slice p4.e.a m.e.length p4.e.c, .slice p4.d.a m.d.length p4.d.c, .int .i64 m.c.o, .slice p4.c.m.a m.c.m.length p4.c.m.c] := by rw [hW]; exact Arr.new _ _ _
  replace A := A.kept hb
  replace B := B.trans (hb.mono B.size)
  replace o4 := o4.below hb
  clear hb
  have d0 := D.cell 0
  have d1 := D.cell 1
  have d2 := D.cell 2
  have d3 := D.cell 3
  have d4 := D.cell 4
  simp at d0 d1 d2 d3 d4
  rw [hW] at d0 d1 d2 d3 d4
  go_wp2_with fail
  rw [← hW]
  clear hW d0 d1 d2 d3 d4
  refine Calls.mono (HI.out p4 _ (o4.rd hy)) ?_
  rintro e w5 ⟨rfl, hb⟩
  replace A := A.kept hb
  replace D := D.kept hb
  replace B := B.trans (hb.mono B.size)
  replace o4 := o4.below hb
  clear hb HI
  have d0 := D.cell 0
  have d1 := D.cell 1
  have d2 := D.cell 2
  have d3 := D.cell 3
  have d4 := D.cell 4
  simp at d0 d1 d2 d3 d4
  obtain ⟨x, hx⟩ : ∃ x, x = w.heap.size := ⟨_, rfl⟩
  have HB : Hid (Below w.heap.size w w5) := B
  have HX : Hid _ := hx
  rw [← hx] at A
  clear B hx
  have c0 := A.cell 0
  have c1 := A.cell 1
  have c2 := A.cell 2
  have c3 := A.cell 3
  have c4 := A.cell 4
  simp at c0 c1 c2 c3 c4
  have lA := A.lt
  have lD := D.lt
  go_wp2
  rw [← HX.out]
  try simp only [Act.put]
  refine tame [kc 22 (actV m p4), kc 23 (actV m p), kv 24 (FAction w5.heap.size m)] 3 (by kernel_rfl) (by kernel_rfl) (by kernel_rfl) (by repeat' first | exact trivial | apply kc_keeps | apply fAction_keeps | constructor) 2 (by kernel_rfl) (fun vv ll hh yW bW => ?_) (fun vv ll hh yW bW F ivh aph => ?_)
  · have x0 := (bW.cell (p := ⟨x, _, none⟩) lA).trans c0
    have x1 := (bW.cell (p := ⟨x, _, none⟩) lA).trans c1
    have x2 := (bW.cell (p := ⟨x, _, none⟩) lA).trans c2
    have x3 := (bW.cell (p := ⟨x, _, none⟩) lA).trans c3
    have x4 := (bW.cell (p := ⟨x, _, none⟩) lA).trans c4
    have y0 := (bW.cell (p := ⟨w4.heap.size, _, none⟩) lD).trans d0
    have y1 := (bW.cell (p := ⟨w4.heap.size, _, none⟩) lD).trans d1
    have y2 := (bW.cell (p := ⟨w4.heap.size, _, none⟩) lD).trans d2
    have y3 := (bW.cell (p := ⟨w4.heap.size, _, none⟩) lD).trans d3
    have y4 := (bW.cell (p := ⟨w4.heap.size, _, none⟩) lD).trans d4
    have By := HB.out.trans (bW.mono HB.out.size)
    refine ⟨tp ?_, tp ?_, tfAction bW.size (toActionC m p _ (HR.out.below By) HM.out) (by kernel_rfl), trivial⟩
    all_goals
      simp only [fillK, putT, List.setIfInBounds_toArray, List.set_cons_zero, List.set_cons_succ]
      unfold execOp
      go_simp
      try rfl
  have F2 : FAction w5.heap.size m (ll 2) (hh 2) yW (vv 2) := F.2.2.1
  clear F ivh aph c0 c1 c2 c3 c4 d0 d1 d2 d3 d4 A D lA lD
  obtain ⟨y, hy0⟩ : ∃ z, z = yW := ⟨_, rfl⟩
  rw [← hy0] at bW F2 ⊢
  clear hy0
  obtain ⟨p6, e6, q6⟩ := F2
  refine st_call (i := 3) (o := { dst := some 25, op := Op.call { callee := Callee.value (Operand.func 64), args := #[Operand.tmp 22, Operand.tmp 24], argTypes := #[93, 93] }, type := 4, pos := "exact.go:4786", after := #[{ on := 0, ground := Ground.data }, { on := 2, ground := Ground.data }, { on := 2, ground := Ground.chain }], guard := none }) (by kernel_rfl) rfl rfl (f := 64) (args := #[actV m p4, actV m p6]) ?_ ?_
  · rw [← e6]
    kernel_rfl
  refine Calls.mono (eqActionC m p4 p6 y ((o4.below bW).rd hy) (q6.rd hy) HM.out) ?_
  rintro e w7 ⟨rfl, hb⟩
  refine ⟨_, rfl, ?_⟩
  have B := (HB.out.trans (bW.mono HB.out.size)).trans (hb.mono (HB.out.trans (bW.mono HB.out.size)).size)
  clear hb o4 q6 e6
  refine st_val (i := 4) (o := { dst := some 26, op := Op.unOp UnOp.not 4 (Operand.tmp 25), type := 4, pos := "exact.go:4786", after := #[{ on := 3, ground := Ground.data }], guard := none }) (by kernel_rfl) rfl rfl (v := .bool false) (w' := w7) (by kernel_rfl) ?_
  refine wpAny_done (by kernel_rfl) ?_ _
  try simp only [Act.put]
  simp only [fillK, putT, List.setIfInBounds_toArray, List.set_cons_zero, List.set_cons_succ]
  go_wp2
  go_ret
  exact ⟨rfl, B⟩
end Go.Proofs.Ytgfjbaigmkdbcaa
