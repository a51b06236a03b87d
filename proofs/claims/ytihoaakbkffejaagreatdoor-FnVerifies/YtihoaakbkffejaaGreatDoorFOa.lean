/-
  What is proved here: a point in the program's long form as it lies in memory: how it is built; contracts of the program's fieldOpposite, longPointAt and longPointOf.
-/
import Derived.Test.YtihoaakbkffejaaGreatDoorFUff
import Derived.Test.YtihoaakbkffejaaGreatDoorFJn
import Derived.Test.YtihoaakbkffejaaGreatDoorFJd
import Derived.Deep.CutRange
namespace Go.Proofs.YtihoaakbkffejaaGreatDoor
open Go.RowKit
set_option maxRecDepth 100000
set_option maxHeartbeats 4000000

theorem infoLp : (Tryz.prog.info? 67).map (·.size) = some 64 := by kernel_rfl
theorem build_lp {a b c t : List Int} (ha : a.length = 16) (hb : b.length = 16) (hc : c.length = 16) (ht : t.length = 16) (w : World) : (Instr.build 67 #[(0, .agg (I64 a).toArray), (1, .agg (I64 b).toArray), (2, .agg (I64 c).toArray), (3, .agg (I64 t).toArray)]).run Tryz.prog w = .ok (.agg (I64 (a ++ b ++ c ++ t)).toArray) w := by
 obtain ⟨a0, a1, a2, a3, a4, a5, a6, a7, a8, a9, a10, a11, a12, a13, a14, a15, rfl⟩ := list16 ha
 obtain ⟨b0, b1, b2, b3, b4, b5, b6, b7, b8, b9, b10, b11, b12, b13, b14, b15, rfl⟩ := list16 hb
 obtain ⟨c0, c1, c2, c3, c4, c5, c6, c7, c8, c9, c10, c11, c12, c13, c14, c15, rfl⟩ := list16 hc
 obtain ⟨t0, t1, t2, t3, t4, t5, t6, t7, t8, t9, t10, t11, t12, t13, t14, t15, rfl⟩ := list16 ht
 kernel_rfl
theorem yieldsIf_lp {ops : Array Oper} {S : World → Prop} {op : Oper} {act : Act} (hw : Region.wanted op (yielded ops act.tmps) = true) (x y z u : Operand) (ho : op.op = .build 67 #[(0, x), (1, y), (2, z), (3, u)]) (P : E4) (hP : P.Ok)
  (hx : act.eval x = .agg (I64 P.a).toArray) (hy : act.eval y = .agg (I64 P.b).toArray) (hz : act.eval z = .agg (I64 P.c).toArray) (hu : act.eval u = .agg (I64 P.t).toArray) : YieldsIf Tryz.prog ops S op (.agg (I64 P.cells).toArray) act :=
 .inl ⟨hw, fun w _ => by
  unfold execOp
  simp only [ho, hx, hy, hz, hu, Sem.run_bind, List.map_toArray, List.map_cons, List.map_nil, build_lp (feOk_len hP.a) (feOk_len hP.b) (feOk_len hP.c) (feOk_len hP.t) w, Sem.run_pure, Result.andThen_ok]
  rfl⟩
theorem infoL' {l : List Int} (h : feOk l = true) : (Tryz.prog.info? 65).map (·.size) = some (I64 l).toArray.size := by simpa [feOk_len h] using infoL
theorem infoLl {l : List Int} (h : feOk l = true) : (Tryz.prog.info? 65).map (·.size) = some (I64 l).length := by simpa [feOk_len h] using infoL
theorem infoLp' {P : E4} (h : P.Ok) : (Tryz.prog.info? 67).map (·.size) = some (I64 P.cells).toArray.size := by simpa [E4.len h] using infoLp
theorem infoLpl {P : E4} (h : P.Ok) : (Tryz.prog.info? 67).map (·.size) = some (I64 P.cells).length := by simpa [E4.len h] using infoLp
theorem laid_lm (w1 : World) (L : List Int) : Below w1.heap.size w1 ((w1.alloc (.cells zV 65)).setRow w1.heap.size (I64 L).toArray) ∧ Arr ((w1.alloc (.cells zV 65)).setRow w1.heap.size (I64 L).toArray) w1.heap.size 65 (I64 L) ∧ Arr (w1.alloc (.cells zV 65)) w1.heap.size 65 (I64 Z16) := by
 have q : Arr (w1.alloc (.cells zV 65)) w1.heap.size 65 (I64 Z16) := Arr.new w1 (I64 Z16) _
 exact ⟨setRow_below ((Below.refl _ _).alloc (Nat.le_refl _) _) _ _ (Nat.le_refl _), q.row _, q⟩
theorem laid_lp (w1 : World) (L : List Int) : Below w1.heap.size w1 ((w1.alloc (.cells #[.int .i64 0, .int .i64 0, .int .i64 0, .int .i64 0, .int .i64 0, .int .i64 0, .int .i64 0, .int .i64 0, .int .i64 0, .int .i64 0, .int .i64 0, .int .i64 0, .int .i64 0, .int .i64 0, .int .i64 0, .int .i64 0, .int .i64 0, .int .i64 0, .int .i64 0, .int .i64 0, .int .i64 0, .int .i64 0, .int .i64 0, .int .i64 0, .int .i64 0, .int .i64 0, .int .i64 0, .int .i64 0, .int .i64 0, .int .i64 0, .int .i64 0, .int .i64 0, .int .i64 0, .int .i64 0, .int .i64 0, .int .i64 0, .int .i64 0, .int .i64 0, .int .i64 0, .int .i64 0, .int .i64 0, .int .i64 0, .int .i64 0, .int .i64 0, .int .i64 0, .int .i64 0, .int .i64 0, .int .i64 0, .int .i64 0, .int .i64 0, .int .i64 0, .int .i64 0, .int .i64 0, .int .i64 0, .int .i64 0, .int .i64 0, .int .i64 0, .int .i64 0, .int .i64 0, .int .i64 0, .int .i64 0, .int .i64 0, .int .i64 0, .int .i64 0] 67)).setRow w1.heap.size (I64 L).toArray) ∧ Arr ((w1.alloc (.cells #[.int .i64 0, .int .i64 0, .int .i64 0, .int .i64 0, .int .i64 0, .int .i64 0, .int .i64 0, .int .i64 0, .int .i64 0, .int .i64 0, .int .i64 0, .int .i64 0, .int .i64 0, .int .i64 0, .int .i64 0, .int .i64 0, .int .i64 0, .int .i64 0, .int .i64 0, .int .i64 0, .int .i64 0, .int .i64 0, .int .i64 0, .int .i64 0, .int .i64 0, .int .i64 0, .int .i64 0, .int .i64 0, .int .i64 0, .int .i64 0, .int .i64 0, .int .i64 0, .int .i64 0, .int .i64 0, .int .i64 0, .int .i64 0, .int .i64 0, .int .i64 0, .int .i64 0, .int .i64 0, .int .i64 0, .int .i64 0, .int .i64 0, .int .i64 0, .int .i64 0, .int .i64 0, .int .i64 0, .int .i64 0, .int .i64 0, .int .i64 0, .int .i64 0, .int .i64 0, .int .i64 0, .int .i64 0, .int .i64 0, .int .i64 0, .int .i64 0, .int .i64 0, .int .i64 0, .int .i64 0, .int .i64 0, .int .i64 0, .int .i64 0, .int .i64 0] 67)).setRow w1.heap.size (I64 L).toArray) w1.heap.size 67 (I64 L) ∧ Arr (w1.alloc (.cells #[.int .i64 0, .int .i64 0, .int .i64 0, .int .i64 0, .int .i64 0, .int .i64 0, .int .i64 0, .int .i64 0, .int .i64 0, .int .i64 0, .int .i64 0, .int .i64 0, .int .i64 0, .int .i64 0, .int .i64 0, .int .i64 0, .int .i64 0, .int .i64 0, .int .i64 0, .int .i64 0, .int .i64 0, .int .i64 0, .int .i64 0, .int .i64 0, .int .i64 0, .int .i64 0, .int .i64 0, .int .i64 0, .int .i64 0, .int .i64 0, .int .i64 0, .int .i64 0, .int .i64 0, .int .i64 0, .int .i64 0, .int .i64 0, .int .i64 0, .int .i64 0, .int .i64 0, .int .i64 0, .int .i64 0, .int .i64 0, .int .i64 0, .int .i64 0, .int .i64 0, .int .i64 0, .int .i64 0, .int .i64 0, .int .i64 0, .int .i64 0, .int .i64 0, .int .i64 0, .int .i64 0, .int .i64 0, .int .i64 0, .int .i64 0, .int .i64 0, .int .i64 0, .int .i64 0, .int .i64 0, .int .i64 0, .int .i64 0, .int .i64 0, .int .i64 0] 67)) w1.heap.size 67 (I64 Z64) := by
 have q : Arr (w1.alloc (.cells #[.int .i64 0, .int .i64 0, .int .i64 0, .int .i64 0, .int .i64 0, .int .i64 0, .int .i64 0, .int .i64 0, .int .i64 0, .int .i64 0, .int .i64 0, .int .i64 0, .int .i64 0, .int .i64 0, .int .i64 0, .int .i64 0, .int .i64 0, .int .i64 0, .int .i64 0, .int .i64 0, .int .i64 0, .int .i64 0, .int .i64 0, .int .i64 0, .int .i64 0, .int .i64 0, .int .i64 0, .int .i64 0, .int .i64 0, .int .i64 0, .int .i64 0, .int .i64 0, .int .i64 0, .int .i64 0, .int .i64 0, .int .i64 0, .int .i64 0, .int .i64 0, .int .i64 0, .int .i64 0, .int .i64 0, .int .i64 0, .int .i64 0, .int .i64 0, .int .i64 0, .int .i64 0, .int .i64 0, .int .i64 0, .int .i64 0, .int .i64 0, .int .i64 0, .int .i64 0, .int .i64 0, .int .i64 0, .int .i64 0, .int .i64 0, .int .i64 0, .int .i64 0, .int .i64 0, .int .i64 0, .int .i64 0, .int .i64 0, .int .i64 0, .int .i64 0] 67)) w1.heap.size 67 (I64 Z64) := Arr.new w1 (I64 Z64) _
 exact ⟨setRow_below ((Below.refl _ _).alloc (Nat.le_refl _) _) _ _ (Nat.le_refl _), q.row _, q⟩
theorem one_lim : lim 16 1 = [1, 0, 0, 0, 0, 0, 0, 0, 0, 0, 0, 0, 0, 0, 0, 0] := by decide
theorem zero_lim : lim 16 0 = Z16 := by decide
theorem assert_lp (v : Value) (w : World) : (Instr.typeAssert (.iface 67 v) 111 67 false).run Tryz.prog w = .ok v w := by kernel_rfl
theorem sumI {x y : List Int} (hx : feOk x = true) (hy : feOk y = true) (Z : World) (hV : Vr Z 4 (I64 PL)) : Calls Tryz.prog 100 #[.agg (I64 x).toArray, .agg (I64 y).toArray] Z fun e w' => e = .returned (.agg (I64 (red (val x + val y))).toArray) ∧ Below Z.heap.size Z w' := implSum x y Z hx hy hV
theorem subI {x y : List Int} (hx : feOk x = true) (hy : feOk y = true) (Z : World) (hV : Vr Z 4 (I64 PL)) : Calls Tryz.prog 99 #[.agg (I64 x).toArray, .agg (I64 y).toArray] Z fun e w' => e = .returned (.agg (I64 (red (val x - val y))).toArray) ∧ Below Z.heap.size Z w' := implDiff x y Z hx hy hV
theorem mulI {x y : List Int} (hx : feOk x = true) (hy : feOk y = true) (Z : World) (hV : Vr Z 4 (I64 PL)) : Calls Tryz.prog 98 #[.agg (I64 x).toArray, .agg (I64 y).toArray] Z fun e w' => e = .returned (.agg (I64 (red (val x * val y))).toArray) ∧ Below Z.heap.size Z w' := implProduct x y Z (feOk_len hx) (feOk_len hy) (feOk_lm' hx) (feOk_lm' hy) hV
set_option maxHeartbeats 2000000 in
theorem implOpposite (x : List Int) (w : World) (hx : feOk x = true) (hV : Vr w 4 (I64 PL)) :
  Calls Tryz.prog 103 #[.agg (I64 x).toArray] w fun e w' => e = .returned (.agg (I64 (red (val (lim 16 0) - val x))).toArray) ∧ Below w.heap.size w w' := by
 obtain ⟨r, er⟩ : ∃ x_, x_ = red (val (lim 16 0) - val x) := ⟨_, rfl⟩
 have kr : feOk r = true := by rw [er]; exact ok_red _
 have Hr : Hid (∀ Z, Vr Z 4 (I64 PL) → Calls Tryz.prog 99 #[.agg zV, .agg (I64 x).toArray] Z fun e w' => e = .returned (.agg (I64 r).toArray) ∧ Below Z.heap.size Z w') := by
  unfold Hid; intro Z hZ; have := subI zero_ok hx Z hZ; rw [← er, zero_lim] at this; exact this
 have jx := infoL' hx
 have iix := infoLl hx
 have nx := feOk_len hx
 have ux := one_lm x
 have jr := infoL' kr
 have iir := infoLl kr
 have nr := feOk_len kr
 have ur := one_lm r
 rw [← er]
 obtain ⟨A0, hA0⟩ : ∃ A, A = (I64 x).toArray := ⟨_, rfl⟩
 obtain ⟨W, hW⟩ : ∃ W, W = (w.alloc (.cells A0 65)).alloc (.cells zV 65) := ⟨_, rfl⟩
 have fr : Below w.heap.size w W := by rw [hW]; exact (((Below.refl _ _).alloc (Nat.le_refl _) _).alloc (by simp) _)
 have pa : Arr W w.heap.size 65 (I64 x) := by
  rw [hW, hA0]
  have := (Arr.new (w) (I64 x) 65).alloc (.cells zV 65)
  exact this
 have pr : Arr W (w.heap.size + 1) 65 (I64 Z16) := by
  rw [hW, hA0]
  have := Arr.new (w.alloc (.cells (I64 x).toArray 65)) (I64 Z16) 65
  rw [World.size_alloc] at this
  exact this
 have h0P := hV.lt
 have vP := hV.kept fr
 rw [← hA0]
 clear hA0
 clear hV
 clear er kr hx
 go_enter Tryz.func103, Tryz.ntmps103
 go_upto_region 1 with fail
 rw [← hW]
 clear hW
 go_wp2_with (refine wpList_load_row rfl 65 _ rfl w.heap.size rfl 65 (I64 x).toArray (0, 0) _ pa Tryz.underlying65 rfl jx ?_)
 refine (Hr.out _ vP).mono ?_
 rintro e y1 ⟨rfl, hb1⟩
 replace fr := fr.trans (hb1.mono fr.size)
 replace pa := pa.kept hb1
 replace pr := pr.kept hb1
 replace vP := vP.kept hb1
 clear hb1
 have h2 := pr.row (I64 r)
 have HB : Hid _ := setRow_below fr (w.heap.size + 1) (I64 r).toArray (by omega)
 go_wp2_with (refine wpList_store_row rfl 65 _ _ rfl (w.heap.size + 1) (I64 r).toArray rfl rfl 65 _ pr jr (by simp [nr]) (by simp [Value.oneCell']) ?_)
 exact bodyPost_ret (results_cell_row rfl _ _ (w.heap.size + 1) 65 (I64 r).toArray (0, 0) _ rfl h2 Tryz.underlying65 rfl jr) rfl ⟨rfl, HB.out⟩

set_option maxHeartbeats 4000000 in
theorem implLongAt (x y : List Int) (w : World) (hx : feOk x = true) (hy : feOk y = true) (hV : Vr w 4 (I64 PL)) :
  Calls Tryz.prog 67 #[.agg (I64 x).toArray, .agg (I64 y).toArray] w fun e w' => e = .returned (.agg (I64 (mk6 x y).cells).toArray) ∧ Below w.heap.size w w' := by
 have hP := mk6_ok hx hy
 obtain ⟨P, hPe⟩ : ∃ P, P = mk6 x y := ⟨_, rfl⟩
 have p1 : P.a = x := by rw [hPe]; rfl
 have p2 : P.b = y := by rw [hPe]; rfl
 have p3 : P.c = [1, 0, 0, 0, 0, 0, 0, 0, 0, 0, 0, 0, 0, 0, 0, 0] := by rw [hPe, ← one_lim]; rfl
 have p4 : red (val x * val y) = P.t := by rw [hPe]; rfl
 have HM : Hid (∀ Z, Vr Z 4 (I64 PL) → Calls Tryz.prog 98 #[.agg (I64 x).toArray, .agg (I64 y).toArray] Z fun e w' => e = .returned (.agg (I64 P.t).toArray) ∧ Below Z.heap.size Z w') := by
  unfold Hid; intro Z hZ; rw [← p4]; exact mulI hx hy Z hZ
 rw [← hPe] at hP ⊢
 have jx := infoL' hx
 have iix := infoLl hx
 have nx := feOk_len hx
 have ux := one_lm x
 have jy := infoL' hy
 have iiy := infoLl hy
 have ny := feOk_len hy
 have uy := one_lm y
 have hip := infoLp' hP
 have hPl := E4.len hP
 have hone := one_lm P.cells
 have hu : Tryz.prog.underlying 65 = some (.array 16 3) := Tryz.underlying65
 obtain ⟨A0, hA0⟩ : ∃ A, A = (I64 x).toArray := ⟨_, rfl⟩
 obtain ⟨A1, hA1⟩ : ∃ A, A = (I64 y).toArray := ⟨_, rfl⟩
 obtain ⟨W, hW⟩ : ∃ W, W = ((w.alloc (.cells A0 65)).alloc (.cells A1 65)).alloc (.cells #[.int .i64 0, .int .i64 0, .int .i64 0, .int .i64 0, .int .i64 0, .int .i64 0, .int .i64 0, .int .i64 0, .int .i64 0, .int .i64 0, .int .i64 0, .int .i64 0, .int .i64 0, .int .i64 0, .int .i64 0, .int .i64 0, .int .i64 0, .int .i64 0, .int .i64 0, .int .i64 0, .int .i64 0, .int .i64 0, .int .i64 0, .int .i64 0, .int .i64 0, .int .i64 0, .int .i64 0, .int .i64 0, .int .i64 0, .int .i64 0, .int .i64 0, .int .i64 0, .int .i64 0, .int .i64 0, .int .i64 0, .int .i64 0, .int .i64 0, .int .i64 0, .int .i64 0, .int .i64 0, .int .i64 0, .int .i64 0, .int .i64 0, .int .i64 0, .int .i64 0, .int .i64 0, .int .i64 0, .int .i64 0, .int .i64 0, .int .i64 0, .int .i64 0, .int .i64 0, .int .i64 0, .int .i64 0, .int .i64 0, .int .i64 0, .int .i64 0, .int .i64 0, .int .i64 0, .int .i64 0, .int .i64 0, .int .i64 0, .int .i64 0, .int .i64 0] 67) := ⟨_, rfl⟩
 have fr : Below w.heap.size w W := by rw [hW]; exact ((((Below.refl _ _).alloc (Nat.le_refl _) _).alloc (by simp) _).alloc (by simp; omega) _)
 have pa : Arr W w.heap.size 65 (I64 x) := by
  rw [hW, hA0, hA1]
  have := ((Arr.new (w) (I64 x) 65).alloc (.cells (I64 y).toArray 65)).alloc (.cells #[.int .i64 0, .int .i64 0, .int .i64 0, .int .i64 0, .int .i64 0, .int .i64 0, .int .i64 0, .int .i64 0, .int .i64 0, .int .i64 0, .int .i64 0, .int .i64 0, .int .i64 0, .int .i64 0, .int .i64 0, .int .i64 0, .int .i64 0, .int .i64 0, .int .i64 0, .int .i64 0, .int .i64 0, .int .i64 0, .int .i64 0, .int .i64 0, .int .i64 0, .int .i64 0, .int .i64 0, .int .i64 0, .int .i64 0, .int .i64 0, .int .i64 0, .int .i64 0, .int .i64 0, .int .i64 0, .int .i64 0, .int .i64 0, .int .i64 0, .int .i64 0, .int .i64 0, .int .i64 0, .int .i64 0, .int .i64 0, .int .i64 0, .int .i64 0, .int .i64 0, .int .i64 0, .int .i64 0, .int .i64 0, .int .i64 0, .int .i64 0, .int .i64 0, .int .i64 0, .int .i64 0, .int .i64 0, .int .i64 0, .int .i64 0, .int .i64 0, .int .i64 0, .int .i64 0, .int .i64 0, .int .i64 0, .int .i64 0, .int .i64 0, .int .i64 0] 67)
  exact this
 have pb : Arr W (w.heap.size + 1) 65 (I64 y) := by
  rw [hW, hA0, hA1]
  have := (Arr.new (w.alloc (.cells (I64 x).toArray 65)) (I64 y) 65).alloc (.cells #[.int .i64 0, .int .i64 0, .int .i64 0, .int .i64 0, .int .i64 0, .int .i64 0, .int .i64 0, .int .i64 0, .int .i64 0, .int .i64 0, .int .i64 0, .int .i64 0, .int .i64 0, .int .i64 0, .int .i64 0, .int .i64 0, .int .i64 0, .int .i64 0, .int .i64 0, .int .i64 0, .int .i64 0, .int .i64 0, .int .i64 0, .int .i64 0, .int .i64 0, .int .i64 0, .int .i64 0, .int .i64 0, .int .i64 0, .int .i64 0, .int .i64 0, .int .i64 0, .int .i64 0, .int .i64 0, .int .i64 0, .int .i64 0, .int .i64 0, .int .i64 0, .int .i64 0, .int .i64 0, .int .i64 0, .int .i64 0, .int .i64 0, .int .i64 0, .int .i64 0, .int .i64 0, .int .i64 0, .int .i64 0, .int .i64 0, .int .i64 0, .int .i64 0, .int .i64 0, .int .i64 0, .int .i64 0, .int .i64 0, .int .i64 0, .int .i64 0, .int .i64 0, .int .i64 0, .int .i64 0, .int .i64 0, .int .i64 0, .int .i64 0, .int .i64 0] 67)
  rw [World.size_alloc] at this
  exact this
 have pr : Arr W (w.heap.size + 2) 67 (I64 Z64) := by
  rw [hW, hA0, hA1]
  have := Arr.new ((w.alloc (.cells (I64 x).toArray 65)).alloc (.cells (I64 y).toArray 65)) (I64 Z64) 67
  rw [World.size_alloc, World.size_alloc] at this
  exact this
 have h0P := hV.lt
 have vP := hV.kept fr
 rw [← hA0, ← hA1]
 clear hA0 hA1
 clear hV
 clear p4 hPe hx hy
 go_enter Tryz.func67, Tryz.ntmps67
 go_upto_region 1 with fail
 rw [← hW]
 clear hW
 try simp only [Act.put]
 have bD : Below W.heap.size W W.drew := (Below.refl _ _).drew
 replace fr := fr.trans (bD.mono fr.size)
 replace pa := pa.kept bD
 replace pb := pb.kept bD
 replace pr := pr.kept bD
 replace vP := vP.kept bD
 clear bD
 refine wp_region_held_drew (S := fun W => W.rangeAt w.heap.size 0 (I64 x) ∧ W.rangeAt (w.heap.size + 1) 0 (I64 y)) (by kernel_rfl) ⟨arr_range pa, arr_range pb⟩ (fun hHeld => ?_)
 obtain ⟨D1, hD⟩ : ∃ V, V = W.drew := ⟨_, rfl⟩
 rw [← hD] at hHeld fr pa pb pr vP ⊢
 clear hD
 refine wpAnyH_take (i := 0) (oi := { dst := some 5, op := Op.load 65 (Operand.tmp 2), type := 65, pos := "l06_point.go:150", after := #[], guard := none }) (v := _) rfl (by kernel_rfl) (by kernel_rfl) (by kernel_rfl) (fun _ _ _ h => h) (yieldsIf_load_mid (by rfl) _ _ rfl _ _ rfl (I64 x) _ (fun _ h => h.1) hu rfl iix) (by assumption) ?_
 simp only [aP]
 refine wpAnyH_take (i := 1) (oi := { dst := some 6, op := Op.load 65 (Operand.tmp 3), type := 65, pos := "l06_point.go:150", after := #[], guard := none }) (v := _) rfl (by kernel_rfl) (by kernel_rfl) (by kernel_rfl) (fun _ _ _ h => h) (yieldsIf_load_mid (by rfl) _ _ rfl _ _ rfl (I64 y) _ (fun _ h => h.2) hu rfl iiy) (by assumption) ?_
 simp only [aP]
 refine wpAnyH_take (i := 2) (oi := { dst := some 7, op := Op.build 65 #[(0, Operand.const (Value.int IntKind.i64 1))], type := 65, pos := "l06_point.go:150", after := #[], guard := none }) (v := .agg (I64 [1, 0, 0, 0, 0, 0, 0, 0, 0, 0, 0, 0, 0, 0, 0, 0]).toArray) rfl (by kernel_rfl) (by kernel_rfl) (by kernel_rfl) (fun _ _ _ h => h) (.inl ⟨by rfl, fun _ _ => by kernel_rfl⟩) (by assumption) ?_
 simp only [aP]
 refine wpAnyH_take (i := 3) (oi := { dst := some 8, op := Op.load 65 (Operand.tmp 2), type := 65, pos := "l06_point.go:150", after := #[], guard := none }) (v := _) rfl (by kernel_rfl) (by kernel_rfl) (by kernel_rfl) (fun _ _ _ h => h) (yieldsIf_load_mid (by rfl) _ _ rfl _ _ rfl (I64 x) _ (fun _ h => h.1) hu rfl iix) (by assumption) ?_
 simp only [aP]
 refine wpAnyH_take (i := 4) (oi := { dst := some 9, op := Op.load 65 (Operand.tmp 3), type := 65, pos := "l06_point.go:150", after := #[], guard := none }) (v := _) rfl (by kernel_rfl) (by kernel_rfl) (by kernel_rfl) (fun _ _ _ h => h) (yieldsIf_load_mid (by rfl) _ _ rfl _ _ rfl (I64 y) _ (fun _ h => h.2) hu rfl iiy) (by assumption) ?_
 simp only [aP]
 refine wpAnyH_ready (rs := [5]) (by kernel_rfl) (by simp) (AllReadyH.cons (o := { dst := some 10, op := Op.call { callee := Callee.value (Operand.func 98), args := #[Operand.tmp 8, Operand.tmp 9], argTypes := #[65, 65] }, type := 65, pos := "l06_point.go:150", after := #[{ on := 3, ground := Ground.data }, { on := 4, ground := Ground.data }], guard := none }) rfl (fun K hK => ?_) AllReadyH.nil)
 go_simp
 refine (HM.out _ vP).mono ?_
 rintro e y2 ⟨rfl, hb2⟩
 replace fr := fr.trans (hb2.mono fr.size)
 replace pa := pa.kept hb2
 replace pb := pb.kept hb2
 replace pr := pr.kept hb2
 replace vP := vP.kept hb2
 clear hb2
 go_wp2_with fail
 refine hK.out _ _ ⟨arr_range pa, arr_range pb⟩ (fun hHeld => ?_)
 clear hK K
 refine wpAnyH_take (i := 6) (oi := { dst := some 11, op := Op.build 67 #[(0, Operand.tmp 5), (1, Operand.tmp 6), (2, Operand.tmp 7), (3, Operand.tmp 10)], type := 67, pos := "l06_point.go:150", after := #[{ on := 0, ground := Ground.data }, { on := 1, ground := Ground.data }, { on := 2, ground := Ground.data }, { on := 5, ground := Ground.data }], guard := none }) (v := _) rfl (by kernel_rfl) (by kernel_rfl) (by kernel_rfl) (fun _ _ _ h => h) (yieldsIf_lp (by rfl) _ _ _ _ rfl P hP (by rw [p1]; rfl) (by rw [p2]; rfl) (by rw [p3]; rfl) rfl) (by assumption) ?_
 simp only [aP]
 refine wpAnyH_ready (rs := [7]) (by kernel_rfl) (by simp) (AllReadyH.cons (o := { dst := none, op := Op.store 67 (Operand.tmp 4) (Operand.tmp 11), type := 0, pos := "l06_point.go:150", after := #[{ on := 6, ground := Ground.data }, { on := 5, ground := Ground.chain }, { on := 0, ground := Ground.phase }, { on := 1, ground := Ground.phase }, { on := 2, ground := Ground.phase }, { on := 3, ground := Ground.phase }, { on := 4, ground := Ground.phase }, { on := 5, ground := Ground.phase }, { on := 6, ground := Ground.phase }], guard := none }) rfl (fun K hK => ?_) AllReadyH.nil)
 rw [if_pos (by rfl)]
 refine wp_store_mid _ _ _ rfl _ _ (I64 P.cells).toArray rfl rfl (by have := arr_there pr; simpa [hPl] using this) hip (all_oneCell_toArray hone) ?_
 simp only [Act.put]
 replace fr := bel_sc fr (w.heap.size + 2) (I64 P.cells) (by omega)
 replace pa := pa.sc (w.heap.size + 2) (I64 P.cells) (by omega)
 replace pb := pb.sc (w.heap.size + 2) (I64 P.cells) (by omega)
 replace pr := pr.sc0 (I64 P.cells) (by simp [hPl])
 replace vP := vP.sc (w.heap.size + 2) (I64 P.cells) (by omega)
 obtain ⟨V3, hVe⟩ : ∃ V, V = y2.setCells (w.heap.size + 2) 0 (I64 P.cells) := ⟨_, rfl⟩
 rw [← hVe] at fr pa pb pr vP ⊢
 clear hVe
 refine hK.out _ _ ⟨arr_range pa, arr_range pb⟩ (fun hHeld => ?_)
 clear hK K
 refine wpAnyH_done (by kernel_rfl) ?_ _
 go_wp2
 exact bodyPost_ret (results_cell_row rfl _ _ (w.heap.size + 2) 67 (I64 P.cells).toArray (0, 0) _ rfl pr Tryz.underlying67 rfl hip) rfl ⟨rfl, fr⟩

set_option maxHeartbeats 4000000 in
theorem implLongOf (f k h g : List Int) (w : World) (hf : feOk f = true) (hk : feOk k = true) (hh : feOk h = true) (hg : feOk g = true) (hV : Vr w 4 (I64 PL)) :
  Calls Tryz.prog 111 #[.agg (I64 f).toArray, .agg (I64 k).toArray, .agg (I64 h).toArray, .agg (I64 g).toArray] w fun e w' => e = .returned (.agg (I64 (long6 f k h g).cells).toArray) ∧ Below w.heap.size w w' := by
 have hP := long6_ok f k h g
 obtain ⟨P, hPe⟩ : ∃ P, P = long6 f k h g := ⟨_, rfl⟩
 have pa : P.a = red (val f * val g) := by rw [hPe]; rfl
 have Ha : Hid (∀ Z, Vr Z 4 (I64 PL) → Calls Tryz.prog 98 #[.agg (I64 f).toArray, .agg (I64 g).toArray] Z fun e w' => e = .returned (.agg (I64 P.a).toArray) ∧ Below Z.heap.size Z w') := by
  unfold Hid; intro Z hZ; rw [pa]; exact mulI hf hg Z hZ
 have pb : P.b = red (val k * val h) := by rw [hPe]; rfl
 have Hb : Hid (∀ Z, Vr Z 4 (I64 PL) → Calls Tryz.prog 98 #[.agg (I64 k).toArray, .agg (I64 h).toArray] Z fun e w' => e = .returned (.agg (I64 P.b).toArray) ∧ Below Z.heap.size Z w') := by
  unfold Hid; intro Z hZ; rw [pb]; exact mulI hk hh Z hZ
 have pc : P.c = red (val g * val h) := by rw [hPe]; rfl
 have Hc : Hid (∀ Z, Vr Z 4 (I64 PL) → Calls Tryz.prog 98 #[.agg (I64 g).toArray, .agg (I64 h).toArray] Z fun e w' => e = .returned (.agg (I64 P.c).toArray) ∧ Below Z.heap.size Z w') := by
  unfold Hid; intro Z hZ; rw [pc]; exact mulI hg hh Z hZ
 have pt : P.t = red (val f * val k) := by rw [hPe]; rfl
 have Ht : Hid (∀ Z, Vr Z 4 (I64 PL) → Calls Tryz.prog 98 #[.agg (I64 f).toArray, .agg (I64 k).toArray] Z fun e w' => e = .returned (.agg (I64 P.t).toArray) ∧ Below Z.heap.size Z w') := by
  unfold Hid; intro Z hZ; rw [pt]; exact mulI hf hk Z hZ
 rw [← hPe] at hP ⊢
 have jf := infoL' hf
 have iif := infoLl hf
 have nf := feOk_len hf
 have uf := one_lm f
 have jk := infoL' hk
 have iik := infoLl hk
 have nk := feOk_len hk
 have uk := one_lm k
 have jh := infoL' hh
 have iih := infoLl hh
 have nh := feOk_len hh
 have uh := one_lm h
 have jg := infoL' hg
 have iig := infoLl hg
 have ng := feOk_len hg
 have ug := one_lm g
 have hip := infoLp' hP
 have hPl := E4.len hP
 have hone := one_lm P.cells
 have hu : Tryz.prog.underlying 65 = some (.array 16 3) := Tryz.underlying65
 obtain ⟨A0, hA0⟩ : ∃ A, A = (I64 f).toArray := ⟨_, rfl⟩
 obtain ⟨A1, hA1⟩ : ∃ A, A = (I64 k).toArray := ⟨_, rfl⟩
 obtain ⟨A2, hA2⟩ : ∃ A, A = (I64 h).toArray := ⟨_, rfl⟩
 obtain ⟨A3, hA3⟩ : ∃ A, A = (I64 g).toArray := ⟨_, rfl⟩
 obtain ⟨W, hW⟩ : ∃ W, W = ((((w.alloc (.cells A0 65)).alloc (.cells A1 65)).alloc (.cells A2 65)).alloc (.cells A3 65)).alloc (.cells #[.int .i64 0, .int .i64 0, .int .i64 0, .int .i64 0, .int .i64 0, .int .i64 0, .int .i64 0, .int .i64 0, .int .i64 0, .int .i64 0, .int .i64 0, .int .i64 0, .int .i64 0, .int .i64 0, .int .i64 0, .int .i64 0, .int .i64 0, .int .i64 0, .int .i64 0, .int .i64 0, .int .i64 0, .int .i64 0, .int .i64 0, .int .i64 0, .int .i64 0, .int .i64 0, .int .i64 0, .int .i64 0, .int .i64 0, .int .i64 0, .int .i64 0, .int .i64 0, .int .i64 0, .int .i64 0, .int .i64 0, .int .i64 0, .int .i64 0, .int .i64 0, .int .i64 0, .int .i64 0, .int .i64 0, .int .i64 0, .int .i64 0, .int .i64 0, .int .i64 0, .int .i64 0, .int .i64 0, .int .i64 0, .int .i64 0, .int .i64 0, .int .i64 0, .int .i64 0, .int .i64 0, .int .i64 0, .int .i64 0, .int .i64 0, .int .i64 0, .int .i64 0, .int .i64 0, .int .i64 0, .int .i64 0, .int .i64 0, .int .i64 0, .int .i64 0] 67) := ⟨_, rfl⟩
 have fr : Below w.heap.size w W := by rw [hW]; exact ((((((Below.refl _ _).alloc (Nat.le_refl _) _).alloc (by simp) _).alloc (by simp; omega) _).alloc (by simp; omega) _).alloc (by simp; omega) _)
 have pf : Arr W w.heap.size 65 (I64 f) := by
  rw [hW, hA0, hA1, hA2, hA3]
  have := ((((Arr.new (w) (I64 f) 65).alloc (.cells (I64 k).toArray 65)).alloc (.cells (I64 h).toArray 65)).alloc (.cells (I64 g).toArray 65)).alloc (.cells #[.int .i64 0, .int .i64 0, .int .i64 0, .int .i64 0, .int .i64 0, .int .i64 0, .int .i64 0, .int .i64 0, .int .i64 0, .int .i64 0, .int .i64 0, .int .i64 0, .int .i64 0, .int .i64 0, .int .i64 0, .int .i64 0, .int .i64 0, .int .i64 0, .int .i64 0, .int .i64 0, .int .i64 0, .int .i64 0, .int .i64 0, .int .i64 0, .int .i64 0, .int .i64 0, .int .i64 0, .int .i64 0, .int .i64 0, .int .i64 0, .int .i64 0, .int .i64 0, .int .i64 0, .int .i64 0, .int .i64 0, .int .i64 0, .int .i64 0, .int .i64 0, .int .i64 0, .int .i64 0, .int .i64 0, .int .i64 0, .int .i64 0, .int .i64 0, .int .i64 0, .int .i64 0, .int .i64 0, .int .i64 0, .int .i64 0, .int .i64 0, .int .i64 0, .int .i64 0, .int .i64 0, .int .i64 0, .int .i64 0, .int .i64 0, .int .i64 0, .int .i64 0, .int .i64 0, .int .i64 0, .int .i64 0, .int .i64 0, .int .i64 0, .int .i64 0] 67)
  exact this
 have pk : Arr W (w.heap.size + 1) 65 (I64 k) := by
  rw [hW, hA0, hA1, hA2, hA3]
  have := (((Arr.new (w.alloc (.cells (I64 f).toArray 65)) (I64 k) 65).alloc (.cells (I64 h).toArray 65)).alloc (.cells (I64 g).toArray 65)).alloc (.cells #[.int .i64 0, .int .i64 0, .int .i64 0, .int .i64 0, .int .i64 0, .int .i64 0, .int .i64 0, .int .i64 0, .int .i64 0, .int .i64 0, .int .i64 0, .int .i64 0, .int .i64 0, .int .i64 0, .int .i64 0, .int .i64 0, .int .i64 0, .int .i64 0, .int .i64 0, .int .i64 0, .int .i64 0, .int .i64 0, .int .i64 0, .int .i64 0, .int .i64 0, .int .i64 0, .int .i64 0, .int .i64 0, .int .i64 0, .int .i64 0, .int .i64 0, .int .i64 0, .int .i64 0, .int .i64 0, .int .i64 0, .int .i64 0, .int .i64 0, .int .i64 0, .int .i64 0, .int .i64 0, .int .i64 0, .int .i64 0, .int .i64 0, .int .i64 0, .int .i64 0, .int .i64 0, .int .i64 0, .int .i64 0, .int .i64 0, .int .i64 0, .int .i64 0, .int .i64 0, .int .i64 0, .int .i64 0, .int .i64 0, .int .i64 0, .int .i64 0, .int .i64 0, .int .i64 0, .int .i64 0, .int .i64 0, .int .i64 0, .int .i64 0, .int .i64 0] 67)
  rw [World.size_alloc] at this
  exact this
 have ph : Arr W (w.heap.size + 2) 65 (I64 h) := by
  rw [hW, hA0, hA1, hA2, hA3]
  have := ((Arr.new ((w.alloc (.cells (I64 f).toArray 65)).alloc (.cells (I64 k).toArray 65)) (I64 h) 65).alloc (.cells (I64 g).toArray 65)).alloc (.cells #[.int .i64 0, .int .i64 0, .int .i64 0, .int .i64 0, .int .i64 0, .int .i64 0, .int .i64 0, .int .i64 0, .int .i64 0, .int .i64 0, .int .i64 0, .int .i64 0, .int .i64 0, .int .i64 0, .int .i64 0, .int .i64 0, .int .i64 0, .int .i64 0, .int .i64 0, .int .i64 0, .int .i64 0, .int .i64 0, .int .i64 0, .int .i64 0, .int .i64 0, .int .i64 0, .int .i64 0, .int .i64 0, .int .i64 0, .int .i64 0, .int .i64 0, .int .i64 0, .int .i64 0, .int .i64 0, .int .i64 0, .int .i64 0, .int .i64 0, .int .i64 0, .int .i64 0, .int .i64 0, .int .i64 0, .int .i64 0, .int .i64 0, .int .i64 0, .int .i64 0, .int .i64 0, .int .i64 0, .int .i64 0, .int .i64 0, .int .i64 0, .int .i64 0, .int .i64 0, .int .i64 0, .int .i64 0, .int .i64 0, .int .i64 0, .int .i64 0, .int .i64 0, .int .i64 0, .int .i64 0, .int .i64 0, .int .i64 0, .int .i64 0, .int .i64 0] 67)
  rw [World.size_alloc, World.size_alloc] at this
  exact this
 have pg : Arr W (w.heap.size + 3) 65 (I64 g) := by
  rw [hW, hA0, hA1, hA2, hA3]
  have := (Arr.new (((w.alloc (.cells (I64 f).toArray 65)).alloc (.cells (I64 k).toArray 65)).alloc (.cells (I64 h).toArray 65)) (I64 g) 65).alloc (.cells #[.int .i64 0, .int .i64 0, .int .i64 0, .int .i64 0, .int .i64 0, .int .i64 0, .int .i64 0, .int .i64 0, .int .i64 0, .int .i64 0, .int .i64 0, .int .i64 0, .int .i64 0, .int .i64 0, .int .i64 0, .int .i64 0, .int .i64 0, .int .i64 0, .int .i64 0, .int .i64 0, .int .i64 0, .int .i64 0, .int .i64 0, .int .i64 0, .int .i64 0, .int .i64 0, .int .i64 0, .int .i64 0, .int .i64 0, .int .i64 0, .int .i64 0, .int .i64 0, .int .i64 0, .int .i64 0, .int .i64 0, .int .i64 0, .int .i64 0, .int .i64 0, .int .i64 0, .int .i64 0, .int .i64 0, .int .i64 0, .int .i64 0, .int .i64 0, .int .i64 0, .int .i64 0, .int .i64 0, .int .i64 0, .int .i64 0, .int .i64 0, .int .i64 0, .int .i64 0, .int .i64 0, .int .i64 0, .int .i64 0, .int .i64 0, .int .i64 0, .int .i64 0, .int .i64 0, .int .i64 0, .int .i64 0, .int .i64 0, .int .i64 0, .int .i64 0] 67)
  rw [World.size_alloc, World.size_alloc, World.size_alloc] at this
  exact this
 have pr : Arr W (w.heap.size + 4) 67 (I64 Z64) := by
  rw [hW, hA0, hA1, hA2, hA3]
  have := Arr.new ((((w.alloc (.cells (I64 f).toArray 65)).alloc (.cells (I64 k).toArray 65)).alloc (.cells (I64 h).toArray 65)).alloc (.cells (I64 g).toArray 65)) (I64 Z64) 67
  rw [World.size_alloc, World.size_alloc, World.size_alloc, World.size_alloc] at this
  exact this
 have h0P := hV.lt
 have vP := hV.kept fr
 rw [← hA0, ← hA1, ← hA2, ← hA3]
 clear hA0 hA1 hA2 hA3
 clear hV
 clear pa pb pc pt hPe hf hk hh hg
 go_enter Tryz.func111, Tryz.ntmps111
 go_upto_region 1 with fail
 rw [← hW]
 clear hW
 try simp only [Act.put]
 have bD : Below W.heap.size W W.drew := (Below.refl _ _).drew
 replace fr := fr.trans (bD.mono fr.size)
 replace pf := pf.kept bD
 replace pk := pk.kept bD
 replace ph := ph.kept bD
 replace pg := pg.kept bD
 replace pr := pr.kept bD
 replace vP := vP.kept bD
 clear bD
 refine wp_region_held_drew (S := fun W => W.rangeAt w.heap.size 0 (I64 f) ∧ W.rangeAt (w.heap.size + 1) 0 (I64 k) ∧ W.rangeAt (w.heap.size + 2) 0 (I64 h) ∧ W.rangeAt (w.heap.size + 3) 0 (I64 g)) (by kernel_rfl) ⟨arr_range pf, arr_range pk, arr_range ph, arr_range pg⟩ (fun hHeld => ?_)
 obtain ⟨D1, hD⟩ : ∃ V, V = W.drew := ⟨_, rfl⟩
 rw [← hD] at hHeld fr pf pk ph pg pr vP ⊢
 clear hD
 refine wpAnyH_take (i := 0) (oi := { dst := some 9, op := Op.load 65 (Operand.tmp 4), type := 65, pos := "l06_point.go:155", after := #[], guard := none }) (v := _) rfl (by kernel_rfl) (by kernel_rfl) (by kernel_rfl) (fun _ _ _ h => h) (yieldsIf_load_mid (by rfl) _ _ rfl _ _ rfl (I64 f) _ (fun _ h => h.1) hu rfl iif) (by assumption) ?_
 simp only [aP]
 refine wpAnyH_take (i := 1) (oi := { dst := some 10, op := Op.load 65 (Operand.tmp 7), type := 65, pos := "l06_point.go:155", after := #[], guard := none }) (v := _) rfl (by kernel_rfl) (by kernel_rfl) (by kernel_rfl) (fun _ _ _ h => h) (yieldsIf_load_mid (by rfl) _ _ rfl _ _ rfl (I64 g) _ (fun _ h => h.2.2.2) hu rfl iig) (by assumption) ?_
 simp only [aP]
 refine wpAnyH_take (i := 3) (oi := { dst := some 12, op := Op.load 65 (Operand.tmp 5), type := 65, pos := "l06_point.go:155", after := #[], guard := none }) (v := _) rfl (by kernel_rfl) (by kernel_rfl) (by kernel_rfl) (fun _ _ _ h => h) (yieldsIf_load_mid (by rfl) _ _ rfl _ _ rfl (I64 k) _ (fun _ h => h.2.1) hu rfl iik) (by assumption) ?_
 simp only [aP]
 refine wpAnyH_take (i := 4) (oi := { dst := some 13, op := Op.load 65 (Operand.tmp 6), type := 65, pos := "l06_point.go:155", after := #[], guard := none }) (v := _) rfl (by kernel_rfl) (by kernel_rfl) (by kernel_rfl) (fun _ _ _ h => h) (yieldsIf_load_mid (by rfl) _ _ rfl _ _ rfl (I64 h) _ (fun _ h => h.2.2.1) hu rfl iih) (by assumption) ?_
 simp only [aP]
 refine wpAnyH_take (i := 6) (oi := { dst := some 15, op := Op.load 65 (Operand.tmp 7), type := 65, pos := "l06_point.go:155", after := #[], guard := none }) (v := _) rfl (by kernel_rfl) (by kernel_rfl) (by kernel_rfl) (fun _ _ _ h => h) (yieldsIf_load_mid (by rfl) _ _ rfl _ _ rfl (I64 g) _ (fun _ h => h.2.2.2) hu rfl iig) (by assumption) ?_
 simp only [aP]
 refine wpAnyH_take (i := 7) (oi := { dst := some 16, op := Op.load 65 (Operand.tmp 6), type := 65, pos := "l06_point.go:155", after := #[], guard := none }) (v := _) rfl (by kernel_rfl) (by kernel_rfl) (by kernel_rfl) (fun _ _ _ h => h) (yieldsIf_load_mid (by rfl) _ _ rfl _ _ rfl (I64 h) _ (fun _ h => h.2.2.1) hu rfl iih) (by assumption) ?_
 simp only [aP]
 refine wpAnyH_take (i := 9) (oi := { dst := some 18, op := Op.load 65 (Operand.tmp 4), type := 65, pos := "l06_point.go:155", after := #[], guard := none }) (v := _) rfl (by kernel_rfl) (by kernel_rfl) (by kernel_rfl) (fun _ _ _ h => h) (yieldsIf_load_mid (by rfl) _ _ rfl _ _ rfl (I64 f) _ (fun _ h => h.1) hu rfl iif) (by assumption) ?_
 simp only [aP]
 refine wpAnyH_take (i := 10) (oi := { dst := some 19, op := Op.load 65 (Operand.tmp 5), type := 65, pos := "l06_point.go:155", after := #[], guard := none }) (v := _) rfl (by kernel_rfl) (by kernel_rfl) (by kernel_rfl) (fun _ _ _ h => h) (yieldsIf_load_mid (by rfl) _ _ rfl _ _ rfl (I64 k) _ (fun _ h => h.2.1) hu rfl iik) (by assumption) ?_
 simp only [aP]
 refine wpAnyH_ready (rs := [2]) (by kernel_rfl) (by simp) (AllReadyH.cons (o := { dst := some 11, op := Op.call { callee := Callee.value (Operand.func 98), args := #[Operand.tmp 9, Operand.tmp 10], argTypes := #[65, 65] }, type := 65, pos := "l06_point.go:156", after := #[{ on := 0, ground := Ground.data }, { on := 1, ground := Ground.data }], guard := none }) rfl (fun K hK => ?_) AllReadyH.nil)
 go_simp
 refine (Ha.out _ vP).mono ?_
 rintro e y2 ⟨rfl, hb2⟩
 replace fr := fr.trans (hb2.mono fr.size)
 replace pf := pf.kept hb2
 replace pk := pk.kept hb2
 replace ph := ph.kept hb2
 replace pg := pg.kept hb2
 replace pr := pr.kept hb2
 replace vP := vP.kept hb2
 clear hb2
 go_wp2_with fail
 refine hK.out _ _ ⟨arr_range pf, arr_range pk, arr_range ph, arr_range pg⟩ (fun hHeld => ?_)
 clear hK K
 refine wpAnyH_ready (rs := [5]) (by kernel_rfl) (by simp) (AllReadyH.cons (o := { dst := some 14, op := Op.call { callee := Callee.value (Operand.func 98), args := #[Operand.tmp 12, Operand.tmp 13], argTypes := #[65, 65] }, type := 65, pos := "l06_point.go:157", after := #[{ on := 3, ground := Ground.data }, { on := 4, ground := Ground.data }, { on := 2, ground := Ground.chain }], guard := none }) rfl (fun K hK => ?_) AllReadyH.nil)
 go_simp
 refine (Hb.out _ vP).mono ?_
 rintro e y3 ⟨rfl, hb3⟩
 replace fr := fr.trans (hb3.mono fr.size)
 replace pf := pf.kept hb3
 replace pk := pk.kept hb3
 replace ph := ph.kept hb3
 replace pg := pg.kept hb3
 replace pr := pr.kept hb3
 replace vP := vP.kept hb3
 clear hb3
 go_wp2_with fail
 refine hK.out _ _ ⟨arr_range pf, arr_range pk, arr_range ph, arr_range pg⟩ (fun hHeld => ?_)
 clear hK K
 refine wpAnyH_ready (rs := [8]) (by kernel_rfl) (by simp) (AllReadyH.cons (o := { dst := some 17, op := Op.call { callee := Callee.value (Operand.func 98), args := #[Operand.tmp 15, Operand.tmp 16], argTypes := #[65, 65] }, type := 65, pos := "l06_point.go:158", after := #[{ on := 6, ground := Ground.data }, { on := 7, ground := Ground.data }, { on := 5, ground := Ground.chain }], guard := none }) rfl (fun K hK => ?_) AllReadyH.nil)
 go_simp
 refine (Hc.out _ vP).mono ?_
 rintro e y4 ⟨rfl, hb4⟩
 replace fr := fr.trans (hb4.mono fr.size)
 replace pf := pf.kept hb4
 replace pk := pk.kept hb4
 replace ph := ph.kept hb4
 replace pg := pg.kept hb4
 replace pr := pr.kept hb4
 replace vP := vP.kept hb4
 clear hb4
 go_wp2_with fail
 refine hK.out _ _ ⟨arr_range pf, arr_range pk, arr_range ph, arr_range pg⟩ (fun hHeld => ?_)
 clear hK K
 refine wpAnyH_ready (rs := [11]) (by kernel_rfl) (by simp) (AllReadyH.cons (o := { dst := some 20, op := Op.call { callee := Callee.value (Operand.func 98), args := #[Operand.tmp 18, Operand.tmp 19], argTypes := #[65, 65] }, type := 65, pos := "l06_point.go:159", after := #[{ on := 9, ground := Ground.data }, { on := 10, ground := Ground.data }, { on := 8, ground := Ground.chain }], guard := none }) rfl (fun K hK => ?_) AllReadyH.nil)
 go_simp
 refine (Ht.out _ vP).mono ?_
 rintro e y5 ⟨rfl, hb5⟩
 replace fr := fr.trans (hb5.mono fr.size)
 replace pf := pf.kept hb5
 replace pk := pk.kept hb5
 replace ph := ph.kept hb5
 replace pg := pg.kept hb5
 replace pr := pr.kept hb5
 replace vP := vP.kept hb5
 clear hb5
 go_wp2_with fail
 refine hK.out _ _ ⟨arr_range pf, arr_range pk, arr_range ph, arr_range pg⟩ (fun hHeld => ?_)
 clear hK K
 refine wpAnyH_take (i := 12) (oi := { dst := some 21, op := Op.build 67 #[(0, Operand.tmp 11), (1, Operand.tmp 14), (2, Operand.tmp 17), (3, Operand.tmp 20)], type := 67, pos := "l06_point.go:155", after := #[{ on := 2, ground := Ground.data }, { on := 5, ground := Ground.data }, { on := 8, ground := Ground.data }, { on := 11, ground := Ground.data }], guard := none }) (v := _) rfl (by kernel_rfl) (by kernel_rfl) (by kernel_rfl) (fun _ _ _ h => h) (yieldsIf_lp (by rfl) _ _ _ _ rfl P hP rfl rfl rfl rfl) (by assumption) ?_
 simp only [aP]
 refine wpAnyH_ready (rs := [13]) (by kernel_rfl) (by simp) (AllReadyH.cons (o := { dst := none, op := Op.store 67 (Operand.tmp 8) (Operand.tmp 21), type := 0, pos := "l06_point.go:155", after := #[{ on := 12, ground := Ground.data }, { on := 11, ground := Ground.chain }, { on := 0, ground := Ground.phase }, { on := 1, ground := Ground.phase }, { on := 2, ground := Ground.phase }, { on := 3, ground := Ground.phase }, { on := 4, ground := Ground.phase }, { on := 5, ground := Ground.phase }, { on := 6, ground := Ground.phase }, { on := 7, ground := Ground.phase }, { on := 8, ground := Ground.phase }, { on := 9, ground := Ground.phase }, { on := 10, ground := Ground.phase }, { on := 11, ground := Ground.phase }, { on := 12, ground := Ground.phase }], guard := none }) rfl (fun K hK => ?_) AllReadyH.nil)
 rw [if_pos (by rfl)]
 refine wp_store_mid _ _ _ rfl _ _ (I64 P.cells).toArray rfl rfl (by have := arr_there pr; simpa [hPl] using this) hip (all_oneCell_toArray hone) ?_
 simp only [Act.put]
 replace fr := bel_sc fr (w.heap.size + 4) (I64 P.cells) (by omega)
 replace pf := pf.sc (w.heap.size + 4) (I64 P.cells) (by omega)
 replace pk := pk.sc (w.heap.size + 4) (I64 P.cells) (by omega)
 replace ph := ph.sc (w.heap.size + 4) (I64 P.cells) (by omega)
 replace pg := pg.sc (w.heap.size + 4) (I64 P.cells) (by omega)
 replace pr := pr.sc0 (I64 P.cells) (by simp [hPl])
 replace vP := vP.sc (w.heap.size + 4) (I64 P.cells) (by omega)
 obtain ⟨V6, hVe⟩ : ∃ V, V = y5.setCells (w.heap.size + 4) 0 (I64 P.cells) := ⟨_, rfl⟩
 rw [← hVe] at fr pf pk ph pg pr vP ⊢
 clear hVe
 refine hK.out _ _ ⟨arr_range pf, arr_range pk, arr_range ph, arr_range pg⟩ (fun hHeld => ?_)
 clear hK K
 refine wpAnyH_done (by kernel_rfl) ?_ _
 go_wp2
 exact bodyPost_ret (results_cell_row rfl _ _ (w.heap.size + 4) 67 (I64 P.cells).toArray (0, 0) _ rfl pr Tryz.underlying67 rfl hip) rfl ⟨rfl, fr⟩

end Go.Proofs.YtihoaakbkffejaaGreatDoor
