/-
  What is proved here: the exact law of StateOf returns true at every argument, and writes into nothing that was there.
-/
import Derived.Test.YtgfjbaigmkdbcaaJS26
import Derived.Test.YtgfjbaigmkdbcaaJS1
import Derived.Test.YtgfjbaigmkdbcaaJS4
import Derived.Deep.CutRange
namespace Go.Proofs.Ytgfjbaigmkdbcaa
set_option maxRecDepth 100000
open Go.RowKit
set_option linter.unusedVariables false

def FDevice (lo : Nat) (m : DeviceM) (_ _ : Nat) (w : World) (v : Value) : Prop := ∃ p, v = devV m p ∧ DeviceOw lo w p m
theorem fDevice_keeps (q lo : Nat) (m : DeviceM) : Kd.keeps (kv q (FDevice lo m)) := fun _ _ _ _ _ h _ b => by
  obtain ⟨p, e, o⟩ := h
  exact ⟨p, e, o.below b⟩
theorem tfDevice {P : Program} {ev : Operand → Value} {o : Oper} {q lo : Nat} {w : World} {X : Prop} {m : DeviceM} {g : FuncId} {args : Array Value} (hlo : lo ≤ w.heap.size)
    (hc : Calls P g args w fun e w' => ∃ p, e = .returned (devV m p) ∧ DeviceOw w.heap.size w' p m ∧ Below w.heap.size w w') (h : (execOp ev o).run P w = .ok (.enter g args) w) : Dty X (TOb P ev o (kv q (FDevice lo m)) w) :=
  tr (fun _ => hc.mono (by rintro e' w' ⟨p, rfl, o, hb⟩; exact ⟨_, rfl, _, rfl, hb, p, rfl, o.base hlo⟩)) h
set_option maxHeartbeats 8000000 in
theorem walk_fnExactStateOf (w : World) (m : DeviceM) (p : DeviceA) (hR : DeviceRd w p m) (hL : DeviceLn m) :
    Calls Try.prog 12 #[devV m p] w fun e w' => e = .returned (.bool true) ∧ Below w.heap.size w w' := by
  obtain ⟨V, hV⟩ : ∃ V, V = w.alloc (.cells #[.int .i64 m.i, .slice p.k.a m.k.length p.k.c, .slice p.f.b.a m.f.b.length p.f.b.c, .slice p.f.w.a m.f.w.length p.f.w.c] 65) := ⟨_, rfl⟩
  have B : Below w.heap.size w V := by rw [hV]; exact (Below.refl _ _).alloc (Nat.le_refl _) _
  have A : Arr V w.heap.size 65 [.int .i64 m.i, .slice p.k.a m.k.length p.k.c, .slice p.f.b.a m.f.b.length p.f.b.c, .slice p.f.w.a m.f.w.length p.f.w.c] := by rw [hV]; exact Arr.new _ _ _
  obtain ⟨R, hV2⟩ : ∃ R, soT m = R := ⟨_, rfl⟩
  obtain ⟨⟨sb, sn, sf, st, si, so⟩, ok⟩ := R
  have hRR : (ok != ok) = false := by simp
  have HS : Hid (DeviceSm m → ∀ p' Z, DeviceRd Z p' m → Calls Try.prog 57 #[devV m p'] Z fun e w' => e = .returned (.tuple #[btV sb sn sf st si so, .bool ok]) ∧ Below Z.heap.size Z w') := by
    unfold Hid; intro s p' Z h1; have := specStateOf m p' Z h1 s; rw [hV2] at this; exact this
  have HI : Hid (DeviceSm m → ∀ p' Z, DeviceRd Z p' m → Calls Try.prog 58 #[devV m p'] Z fun e w' => e = .returned (.tuple #[btV sb sn sf st si so, .bool ok]) ∧ Below Z.heap.size Z w') := by
    unfold Hid; intro s p' Z h1; have := implStateOf m p' Z h1 s; rw [hV2] at this; exact this
  have hy := hR.by_
  have HR : Hid (DeviceRd w p m) := hR
  have HL : Hid (DeviceLn m) := hL
  clear hV2 hR hL
  obtain ⟨F, hF⟩ : ∃ F, F = w.heap.size := ⟨_, rfl⟩
  rw [← hF] at A
  have c0 := A.cell 0
  have c1 := A.cell 1
  have c2 := A.cell 2
  have c3 := A.cell 3
  simp at c0 c1 c2 c3
  go_enter Try.func12, Try.ntmps12
  go_upto_region 1 with fail
  rw [← hV]
  rw [← hF]
  clear hV hF
  go_wp2_with fail
  refine (szDeviceC m p 1048576 _ (HR.out.below B) (by omega) (by omega) HL.out).mono ?_
  rintro e w1 ⟨x, rfl, hx, hb⟩
  replace A := A.kept hb
  replace B := B.trans (hb.mono B.size)
  clear hb c0 c1 c2 c3
  rcases hx with rfl | ⟨x0, _, s⟩
  · go_wp2
    go_ret
    exact ⟨rfl, B⟩
  have hx' : ¬ x < 0 := by omega
  have HM : Hid (DeviceSm m) := s
  clear s
  have c0 := A.cell 0
  have c1 := A.cell 1
  have c2 := A.cell 2
  have c3 := A.cell 3
  simp at c0 c1 c2 c3
  go_wp2_with fail
  refine (toDeviceC m p _ (HR.out.below B) HM.out).mono ?_
  rintro e w2 ⟨p2, rfl, o2, hb⟩
  replace A := A.kept hb
  replace B := B.trans (hb.mono B.size)
  clear hb c0 c1 c2 c3
  go_wp2_with fail
  refine Calls.mono (HS.out HM.out p2 _ (o2.rd hy)) ?_
  rintro e w3 ⟨rfl, hb⟩
  replace A := A.kept hb
  replace B := B.trans (hb.mono B.size)
  clear hb o2 HS
  obtain ⟨X, hX⟩ : ∃ X, X = w3.alloc (.cells #[.int .i64 sb, .int .i64 sn, .int .i64 sf, .bool st, .int .i64 si, .int .i64 so] 83) := ⟨_, rfl⟩
  have S : Arr X w3.heap.size 83 [.int .i64 sb, .int .i64 sn, .int .i64 sf, .bool st, .int .i64 si, .int .i64 so] := by rw [hX]; exact Arr.new _ _ _
  have hb : Below w3.heap.size w3 X := by rw [hX]; exact (Below.refl _ _).alloc (Nat.le_refl _) _
  replace A := A.kept hb
  replace B := B.trans (hb.mono B.size)
  clear hb
  obtain ⟨G, hG⟩ : ∃ G, G = w3.heap.size := ⟨_, rfl⟩
  rw [← hG] at S
  go_upto_region 6 with fail
  rw [← hX]
  rw [← hG]
  clear hX hG
  have c0 := A.cell 0
  have c1 := A.cell 1
  have c2 := A.cell 2
  have c3 := A.cell 3
  simp at c0 c1 c2 c3
  go_wp2_with fail
  refine (toDeviceC m p _ (HR.out.below B) HM.out).mono ?_
  rintro e w4 ⟨p4, rfl, o4, hb⟩
  replace A := A.kept hb
  replace S := S.kept hb
  replace B := B.trans (hb.mono B.size)
  clear hb c0 c1 c2 c3
  obtain ⟨W, hW⟩ : ∃ W, W = w4.alloc (.cells #[.int .i64 m.i, .slice p4.k.a m.k.length p4.k.c, .slice p4.f.b.a m.f.b.length p4.f.b.c, .slice p4.f.w.a m.f.w.length p4.f.w.c] 70) := ⟨_, rfl⟩
  have D : Arr W w4.heap.size 70 [.int .i64 m.i, .slice p4.k.a m.k.length p4.k.c, .slice p4.f.b.a m.f.b.length p4.f.b.c, .slice p4.f.w.a m.f.w.length p4.f.w.c] := by rw [hW]; exact Arr.new _ _ _
  have hb : Below w4.heap.size w4 W := by rw [hW]; exact (Below.refl _ _).alloc (Nat.le_refl _) _
  replace A := A.kept hb
  replace S := S.kept hb
  replace B := B.trans (hb.mono B.size)
  replace o4 := o4.below hb
  clear hb
  obtain ⟨H, hH⟩ : ∃ H, H = w4.heap.size := ⟨_, rfl⟩
  rw [← hH] at D
  go_upto_region 7 with fail
  rw [← hW]
  rw [← hH]
  clear hW hH
  have d0 := D.cell 0
  have d1 := D.cell 1
  have d2 := D.cell 2
  have d3 := D.cell 3
  simp at d0 d1 d2 d3
  go_wp2_with fail
  refine Calls.mono (HI.out HM.out p4 _ (o4.rd hy)) ?_
  rintro e w5 ⟨rfl, hb⟩
  replace A := A.kept hb
  replace S := S.kept hb
  replace D := D.kept hb
  replace B := B.trans (hb.mono B.size)
  replace o4 := o4.below hb
  clear hb HI d0 d1 d2 d3
  obtain ⟨Y, hY⟩ : ∃ Y, Y = w5.alloc (.cells #[.int .i64 sb, .int .i64 sn, .int .i64 sf, .bool st, .int .i64 si, .int .i64 so] 83) := ⟨_, rfl⟩
  have J : Arr Y w5.heap.size 83 [.int .i64 sb, .int .i64 sn, .int .i64 sf, .bool st, .int .i64 si, .int .i64 so] := by rw [hY]; exact Arr.new _ _ _
  have hb : Below w5.heap.size w5 Y := by rw [hY]; exact (Below.refl _ _).alloc (Nat.le_refl _) _
  replace A := A.kept hb
  replace S := S.kept hb
  replace D := D.kept hb
  replace B := B.trans (hb.mono B.size)
  replace o4 := o4.below hb
  clear hb
  obtain ⟨K, hK⟩ : ∃ K, K = w5.heap.size := ⟨_, rfl⟩
  rw [← hK] at J
  go_upto_region 8 with fail
  rw [← hY]
  rw [← hK]
  clear hY hK
  have s0 := S.cell 0
  have s1 := S.cell 1
  have s2 := S.cell 2
  have s3 := S.cell 3
  have s4 := S.cell 4
  have s5 := S.cell 5
  simp at s0 s1 s2 s3 s4 s5
  have j0 := J.cell 0
  have j1 := J.cell 1
  have j2 := J.cell 2
  have j3 := J.cell 3
  have j4 := J.cell 4
  have j5 := J.cell 5
  simp at j0 j1 j2 j3 j4 j5
  go_wp2_with fail
  refine (eqBootC sb sn sf st si so _).mono ?_
  rintro e w6 ⟨rfl, hb⟩
  replace A := A.kept hb
  replace D := D.kept hb
  replace B := B.trans (hb.mono B.size)
  replace o4 := o4.below hb
  clear hb S J s0 s1 s2 s3 s4 s5 j0 j1 j2 j3 j4 j5
  have HB : Hid (Below w.heap.size w w6) := B
  clear B
  have c0 := A.cell 0
  have c1 := A.cell 1
  have c2 := A.cell 2
  have c3 := A.cell 3
  simp at c0 c1 c2 c3
  have d0 := D.cell 0
  have d1 := D.cell 1
  have d2 := D.cell 2
  have d3 := D.cell 3
  simp at d0 d1 d2 d3
  have lA := A.lt
  have lD := D.lt
  go_wp2
  try simp only [Act.put]
  refine tame [kc 36 (devV m p4), kc 37 (devV m p), kv 38 (FDevice w6.heap.size m)] 3 (by kernel_rfl) (by kernel_rfl) (by kernel_rfl) (by repeat' first | exact trivial | apply kc_keeps | apply fDevice_keeps | constructor) 2 (by kernel_rfl) (fun vv ll hh yW bW => ?_) (fun vv ll hh yW bW F0 ivh aph => ?_)
  · have x0 := (bW.cell (p := ⟨F, _, none⟩) lA).trans c0
    have x1 := (bW.cell (p := ⟨F, _, none⟩) lA).trans c1
    have x2 := (bW.cell (p := ⟨F, _, none⟩) lA).trans c2
    have x3 := (bW.cell (p := ⟨F, _, none⟩) lA).trans c3
    have y0 := (bW.cell (p := ⟨H, _, none⟩) lD).trans d0
    have y1 := (bW.cell (p := ⟨H, _, none⟩) lD).trans d1
    have y2 := (bW.cell (p := ⟨H, _, none⟩) lD).trans d2
    have y3 := (bW.cell (p := ⟨H, _, none⟩) lD).trans d3
    have By := HB.out.trans (bW.mono HB.out.size)
    refine ⟨tp ?_, tp ?_, tfDevice bW.size (toDeviceC m p _ (HR.out.below By) HM.out) (by kernel_rfl), trivial⟩
    all_goals
      simp only [fillK, putT, List.setIfInBounds_toArray, List.set_cons_zero, List.set_cons_succ]
      unfold execOp
      go_simp
      try rfl
  have F2 : FDevice w6.heap.size m (ll 2) (hh 2) yW (vv 2) := F0.2.2.1
  clear F0 ivh aph c0 c1 c2 c3 d0 d1 d2 d3 A D lA lD
  obtain ⟨y, hy0⟩ : ∃ z, z = yW := ⟨_, rfl⟩
  rw [← hy0] at bW F2 ⊢
  clear hy0
  obtain ⟨p6, e6, q6⟩ := F2
  refine st_call (i := 3) (o := { dst := some 39, op := Op.call { callee := Callee.value (Operand.func 51), args := #[Operand.tmp 36, Operand.tmp 38], argTypes := #[70, 70] }, type := 4, pos := "exact.go:4484", after := #[{ on := 0, ground := Ground.data }, { on := 2, ground := Ground.data }, { on := 2, ground := Ground.chain }], guard := none }) (by kernel_rfl) rfl rfl (f := 51) (args := #[devV m p4, devV m p6]) ?_ ?_
  · rw [← e6]
    kernel_rfl
  refine Calls.mono (eqDeviceC m p4 p6 y ((o4.below bW).rd hy) (q6.rd hy) HM.out) ?_
  rintro e w7 ⟨rfl, hb⟩
  refine ⟨_, rfl, ?_⟩
  have B := (HB.out.trans (bW.mono HB.out.size)).trans (hb.mono (HB.out.trans (bW.mono HB.out.size)).size)
  clear hb o4 q6 e6
  refine st_val (i := 4) (o := { dst := some 40, op := Op.unOp UnOp.not 4 (Operand.tmp 39), type := 4, pos := "exact.go:4484", after := #[{ on := 3, ground := Ground.data }], guard := none }) (by kernel_rfl) rfl rfl (v := .bool false) (w' := w7) (by kernel_rfl) ?_
  refine wpAny_done (by kernel_rfl) ?_ _
  try simp only [Act.put]
  simp only [fillK, putT, List.setIfInBounds_toArray, List.set_cons_zero, List.set_cons_succ]
  go_wp2
  go_ret
  exact ⟨rfl, B⟩
end Go.Proofs.Ytgfjbaigmkdbcaa
