/-
  What is proved here: the contract of the program's PtAdd; what the program's PtAdd answers where its arguments are points; the contract of the program's method doubled on a point in the long form; the contract of the program's sumOfMany: so many times a point, by; plain mathematics on multipliers as the program makes them: a column put.
-/
import Derived.Test.YtihoaakbkffejaaGreatDoorFJio
import Derived.Test.YtihoaakbkffejaaGreatDoorFOm0
import Derived.Test.YtihoaakbkffejaaGreatDoorFWy
import Derived.Test.YtihoaakbkffejaaGreatDoorFOa
import Derived.Test.YtihoaakbkffejaaGreatDoorFTm
import Derived.Test.YtihoaakbkffejaaGreatDoorFJg
import Derived.Test.YtihoaakbkffejaaGreatDoorFUc
import Derived.Test.YtihoaakbkffejaaGreatDoorFUff
import Derived.Test.YtihoaakbkffejaaGreatDoorFFm
namespace Go.Proofs.YtihoaakbkffejaaGreatDoor
open Go.RowKit
set_option maxRecDepth 100000

set_option maxHeartbeats 8000000 in
theorem implPtAdd (a1 : Option Addr) (n1 c1 : Nat) (xs1 : List Int) (b1 : Option Addr) (m1 d1 : Nat) (ys1 : List Int) (a2 : Option Addr) (n2 c2 : Nat) (xs2 : List Int) (b2 : Option Addr) (m2 d2 : Nat) (ys2 : List Int) (w : World) (hx1 : Is w a1 n1 c1 xs1) (hy1 : Is w b1 m1 d1 ys1) (hx2 : Is w a2 n2 c2 xs2) (hy2 : Is w b2 m2 d2 ys2) (hV : Vr w 4 (I64 PL)) (hD : Vr w 5 (I64 DL)) :
  Calls Tryz.prog 20 #[.agg #[.slice a1 n1 c1, .slice b1 m1 d1], .agg #[.slice a2 n2 c2, .slice b2 m2 d2]] w fun e w' => ∃ v, e = .returned (.tuple #[v, .bool (ptOk xs1 ys1 && ptOk xs2 ys2)]) ∧ PtT 65 w w' v (ptx (ptOk xs1 ys1 && ptOk xs2 ys2) (add6 (mk6 xs1 ys1) (mk6 xs2 ys2))) (pty (ptOk xs1 ys1 && ptOk xs2 ys2) (add6 (mk6 xs1 ys1) (mk6 xs2 ys2))) ∧ Below w.heap.size w w' := by
 obtain ⟨p, hp⟩ : ∃ p, p = ptOk xs1 ys1 := ⟨_, rfl⟩
 obtain ⟨L, hL⟩ : ∃ l, l = opL xs1 ys1 := ⟨_, rfl⟩
 obtain ⟨P, hP⟩ : ∃ P, P = mk6 xs1 ys1 := ⟨_, rfl⟩
 have HO1 : Hid (∀ Z, Below w.heap.size w Z → Vr Z 4 (I64 PL) → Vr Z 5 (I64 DL) → Calls Tryz.prog 41 #[.agg #[.slice a1 n1 c1, .slice b1 m1 d1]] Z fun e w' => e = .returned (.tuple #[.agg (I64 L).toArray, .bool p]) ∧ Below Z.heap.size Z w') := by
  unfold Hid; intro Z hZ h1 h2; rw [hL, hp]; exact implPtOpen a1 n1 c1 xs1 b1 m1 d1 ys1 Z (hx1.below hZ) (hy1.below hZ) h1 h2
 have nL : L.length = 64 := by rw [hL]; exact opL_len _ _
 have iL : (Tryz.prog.info? 67).map (·.size) = some (I64 L).toArray.size := by simpa [nL] using infoLp
 have HLL : Hid (p = true → L = P.cells ∧ P.Ok) := by
  unfold Hid; intro h; rw [hp] at h; obtain ⟨k1, k2, _⟩ := (ptOk_iff _ _).1 h; rw [hL, hP]; unfold opL; rw [if_pos h]; exact ⟨rfl, mk6_ok k1 k2⟩
 obtain ⟨q, hq⟩ : ∃ p, p = ptOk xs2 ys2 := ⟨_, rfl⟩
 obtain ⟨M, hM⟩ : ∃ l, l = opL xs2 ys2 := ⟨_, rfl⟩
 obtain ⟨Q, hQ⟩ : ∃ P, P = mk6 xs2 ys2 := ⟨_, rfl⟩
 have HO2 : Hid (∀ Z, Below w.heap.size w Z → Vr Z 4 (I64 PL) → Vr Z 5 (I64 DL) → Calls Tryz.prog 41 #[.agg #[.slice a2 n2 c2, .slice b2 m2 d2]] Z fun e w' => e = .returned (.tuple #[.agg (I64 M).toArray, .bool q]) ∧ Below Z.heap.size Z w') := by
  unfold Hid; intro Z hZ h1 h2; rw [hM, hq]; exact implPtOpen a2 n2 c2 xs2 b2 m2 d2 ys2 Z (hx2.below hZ) (hy2.below hZ) h1 h2
 have nM : M.length = 64 := by rw [hM]; exact opL_len _ _
 have iM : (Tryz.prog.info? 67).map (·.size) = some (I64 M).toArray.size := by simpa [nM] using infoLp
 have HLM : Hid (q = true → M = Q.cells ∧ Q.Ok) := by
  unfold Hid; intro h; rw [hq] at h; obtain ⟨k1, k2, _⟩ := (ptOk_iff _ _).1 h; rw [hM, hQ]; unfold opL; rw [if_pos h]; exact ⟨rfl, mk6_ok k1 k2⟩
 obtain ⟨x, hx⟩ : ∃ x, x = flx (add6 (mk6 xs1 ys1) (mk6 xs2 ys2)) := ⟨_, rfl⟩
 obtain ⟨y, hy⟩ : ∃ y, y = fly (add6 (mk6 xs1 ys1) (mk6 xs2 ys2)) := ⟨_, rfl⟩
 have nx : x.length = 16 := by rw [hx]; exact red_len _
 have ny : y.length = 16 := by rw [hy]; exact red_len _
 obtain ⟨Lx, hLx⟩ : ∃ l, l = ptx (ptOk xs1 ys1 && ptOk xs2 ys2) (add6 (mk6 xs1 ys1) (mk6 xs2 ys2)) := ⟨_, rfl⟩
 obtain ⟨Ly, hLy⟩ : ∃ l, l = pty (ptOk xs1 ys1 && ptOk xs2 ys2) (add6 (mk6 xs1 ys1) (mk6 xs2 ys2)) := ⟨_, rfl⟩
 have HN : Hid ((p && q) = false → ∀ {w' : World}, PtT 65 w w' (.agg #[.slice none 0 0, .slice none 0 0]) Lx Ly) := by
  unfold Hid; intro h w'; rw [hp, hq] at h; rw [hLx, hLy, h]; exact ptT_nil _ _ _
 have HY : Hid ((p && q) = true → ∀ (V V' : World) (v : Value), PtT 65 V V' v x y → PtT 65 V V' v Lx Ly) := by
  unfold Hid; intro h V V' v k; rw [hp, hq] at h; rw [hLx, hLy, h]; unfold ptx pty; rw [if_pos rfl, if_pos rfl, ← hx, ← hy]; exact k
 obtain ⟨R, hR⟩ : ∃ R, R = join6 P Q := ⟨_, rfl⟩
 have HX : Hid (p = true → q = true → x = flx R ∧ y = fly R) := by
  unfold Hid; intro h k; rw [hp] at h; rw [hq] at k; rw [hx, hy, hR, hP, hQ]; exact ⟨(add_lists h k).1.symm, (add_lists h k).2.symm⟩
 have HD2 : Hid (p = true → q = true → ∀ Z, Vr Z 4 (I64 PL) → Vr Z 5 (I64 DL) → Calls Tryz.prog 68 #[.agg (I64 P.cells).toArray, .iface 67 (.agg (I64 Q.cells).toArray)] Z fun e w' => e = .returned (.iface 67 (.agg (I64 R.cells).toArray)) ∧ Below Z.heap.size Z w') := by
  unfold Hid; intro h k Z hZ hZ2; rw [hR]; exact implJoined P Q Z (HLL.out h).2 (HLM.out k).2 hZ hZ2
 have HC : Hid (p = true → q = true → ∀ Z, Vr Z 4 (I64 PL) → Calls Tryz.prog 65 #[.iface 67 (.agg (I64 R.cells).toArray)] Z fun e w' => ∃ v, e = .returned v ∧ PtT 65 Z w' v x y ∧ Below Z.heap.size Z w') := by
  unfold Hid; intro h k Z hZ; have hRo : R.Ok := by rw [hR]; exact long6_ok _ _ _ _
  rw [(HX.out h k).1, (HX.out h k).2]; exact implClosed R Z hRo hZ
 rw [← hLx, ← hLy, ← hp, ← hq]
 obtain ⟨W, hW⟩ : ∃ W, W = ((w.alloc (.cells #[.slice a1 n1 c1, .slice b1 m1 d1] 33)).alloc (.cells #[.slice a2 n2 c2, .slice b2 m2 d2] 33)).alloc (.cells #[.slice none 0 0, .slice none 0 0] 33) := ⟨_, rfl⟩
 have fr : Below w.heap.size w W := by rw [hW]; exact ((((Below.refl _ _).alloc (Nat.le_refl _) _).alloc (by simp) _).alloc (by simp; omega) _)
 have pa1 : Arr W w.heap.size 33 ([.slice a1 n1 c1, .slice b1 m1 d1]) := by
  rw [hW]
  have := ((Arr.new (w) ([.slice a1 n1 c1, .slice b1 m1 d1]) 33).alloc (.cells #[.slice a2 n2 c2, .slice b2 m2 d2] 33)).alloc (.cells #[.slice none 0 0, .slice none 0 0] 33)
  exact this
 have pa2 : Arr W (w.heap.size + 1) 33 ([.slice a2 n2 c2, .slice b2 m2 d2]) := by
  rw [hW]
  have := (Arr.new (w.alloc (.cells #[.slice a1 n1 c1, .slice b1 m1 d1] 33)) ([.slice a2 n2 c2, .slice b2 m2 d2]) 33).alloc (.cells #[.slice none 0 0, .slice none 0 0] 33)
  rw [World.size_alloc] at this
  exact this
 have pr : Arr W (w.heap.size + 2) 33 ([.slice none 0 0, .slice none 0 0]) := by
  rw [hW]
  have := Arr.new ((w.alloc (.cells #[.slice a1 n1 c1, .slice b1 m1 d1] 33)).alloc (.cells #[.slice a2 n2 c2, .slice b2 m2 d2] 33)) ([.slice none 0 0, .slice none 0 0]) 33
  rw [World.size_alloc, World.size_alloc] at this
  exact this
 have h0P := hV.lt
 have vP := hV.kept fr
 have h0D := hD.lt
 have vD := hD.kept fr
 clear hV hD
 clear hx hy hLx hLy hp hL hP hx1 hy1 hq hM hQ hx2 hy2 hR HX
 go_enter Tryz.func20, Tryz.ntmps20
 go_upto_region 1 with fail
 rw [← hW]
 clear hW
 go_wp2_with (refine wpList_load_row rfl 33 _ rfl w.heap.size rfl 33 ([Value.slice a1 n1 c1,  Value.slice b1 m1 d1]).toArray (0, 0) _ pa1 Tryz.underlying33 rfl infoPt ?_)
 refine (HO1.out _ fr vP vD).mono ?_
 rintro e y1 ⟨rfl, hb1⟩
 replace fr := fr.trans (hb1.mono fr.size)
 replace pa1 := pa1.kept hb1
 replace pa2 := pa2.kept hb1
 replace pr := pr.kept hb1
 replace vP := vP.kept hb1
 replace vD := vD.kept hb1
 clear hb1
 have hXL : w.heap.size < y1.heap.size ∧ (w.heap.size + 1) < y1.heap.size ∧ (w.heap.size + 2) < y1.heap.size ∧ w.heap.size ≤ y1.heap.size := ⟨pa1.lt, pa2.lt, pr.lt, fr.size⟩
 obtain ⟨bV, AL, q1⟩ := laid_lp y1 L
 replace fr := fr.trans (bV.mono fr.size)
 replace pa1 := pa1.kept bV
 replace pa2 := pa2.kept bV
 replace pr := pr.kept bV
 replace vP := vP.kept bV
 replace vD := vD.kept bV
 go_upto_region 2 with (refine wpList_store_row rfl 67 _ _ rfl y1.heap.size (I64 L).toArray rfl rfl 67 _ q1 iL (by simp [nL]) (by simp [Value.oneCell']) ?_)
 obtain ⟨V2, hVV⟩ : ∃ V, V = (y1.alloc (.cells #[.int .i64 0, .int .i64 0, .int .i64 0, .int .i64 0, .int .i64 0, .int .i64 0, .int .i64 0, .int .i64 0, .int .i64 0, .int .i64 0, .int .i64 0, .int .i64 0, .int .i64 0, .int .i64 0, .int .i64 0, .int .i64 0, .int .i64 0, .int .i64 0, .int .i64 0, .int .i64 0, .int .i64 0, .int .i64 0, .int .i64 0, .int .i64 0, .int .i64 0, .int .i64 0, .int .i64 0, .int .i64 0, .int .i64 0, .int .i64 0, .int .i64 0, .int .i64 0, .int .i64 0, .int .i64 0, .int .i64 0, .int .i64 0, .int .i64 0, .int .i64 0, .int .i64 0, .int .i64 0, .int .i64 0, .int .i64 0, .int .i64 0, .int .i64 0, .int .i64 0, .int .i64 0, .int .i64 0, .int .i64 0, .int .i64 0, .int .i64 0, .int .i64 0, .int .i64 0, .int .i64 0, .int .i64 0, .int .i64 0, .int .i64 0, .int .i64 0, .int .i64 0, .int .i64 0, .int .i64 0, .int .i64 0, .int .i64 0, .int .i64 0, .int .i64 0] 67)).setRow y1.heap.size (I64 L).toArray := ⟨_, rfl⟩
 obtain ⟨XL, hE⟩ : ∃ E, E = y1.heap.size := ⟨_, rfl⟩
 rw [← hVV] at fr pa1 pa2 pr vP vD AL ⊢
 rw [← hE] at AL hXL ⊢
 clear hVV hE q1 bV
 go_wp2_with (refine wpList_load_row rfl 33 _ rfl (w.heap.size + 1) rfl 33 ([Value.slice a2 n2 c2,  Value.slice b2 m2 d2]).toArray (0, 0) _ pa2 Tryz.underlying33 rfl infoPt ?_)
 refine (HO2.out _ fr vP vD).mono ?_
 rintro e y3 ⟨rfl, hb3⟩
 replace fr := fr.trans (hb3.mono fr.size)
 replace pa1 := pa1.kept hb3
 replace pa2 := pa2.kept hb3
 replace pr := pr.kept hb3
 replace vP := vP.kept hb3
 replace vD := vD.kept hb3
 replace AL := AL.kept hb3
 clear hb3
 have hXM : w.heap.size < y3.heap.size ∧ (w.heap.size + 1) < y3.heap.size ∧ (w.heap.size + 2) < y3.heap.size ∧ XL < y3.heap.size ∧ w.heap.size ≤ y3.heap.size := ⟨pa1.lt, pa2.lt, pr.lt, AL.lt, fr.size⟩
 obtain ⟨bV, AM, q1⟩ := laid_lp y3 M
 replace fr := fr.trans (bV.mono fr.size)
 replace pa1 := pa1.kept bV
 replace pa2 := pa2.kept bV
 replace pr := pr.kept bV
 replace vP := vP.kept bV
 replace vD := vD.kept bV
 replace AL := AL.kept bV
 go_upto_region 3 with (refine wpList_store_row rfl 67 _ _ rfl y3.heap.size (I64 M).toArray rfl rfl 67 _ q1 iM (by simp [nM]) (by simp [Value.oneCell']) ?_)
 obtain ⟨V4, hVV⟩ : ∃ V, V = (y3.alloc (.cells #[.int .i64 0, .int .i64 0, .int .i64 0, .int .i64 0, .int .i64 0, .int .i64 0, .int .i64 0, .int .i64 0, .int .i64 0, .int .i64 0, .int .i64 0, .int .i64 0, .int .i64 0, .int .i64 0, .int .i64 0, .int .i64 0, .int .i64 0, .int .i64 0, .int .i64 0, .int .i64 0, .int .i64 0, .int .i64 0, .int .i64 0, .int .i64 0, .int .i64 0, .int .i64 0, .int .i64 0, .int .i64 0, .int .i64 0, .int .i64 0, .int .i64 0, .int .i64 0, .int .i64 0, .int .i64 0, .int .i64 0, .int .i64 0, .int .i64 0, .int .i64 0, .int .i64 0, .int .i64 0, .int .i64 0, .int .i64 0, .int .i64 0, .int .i64 0, .int .i64 0, .int .i64 0, .int .i64 0, .int .i64 0, .int .i64 0, .int .i64 0, .int .i64 0, .int .i64 0, .int .i64 0, .int .i64 0, .int .i64 0, .int .i64 0, .int .i64 0, .int .i64 0, .int .i64 0, .int .i64 0, .int .i64 0, .int .i64 0, .int .i64 0, .int .i64 0] 67)).setRow y3.heap.size (I64 M).toArray := ⟨_, rfl⟩
 obtain ⟨XM, hE⟩ : ∃ E, E = y3.heap.size := ⟨_, rfl⟩
 rw [← hVV] at fr pa1 pa2 pr vP vD AL AM ⊢
 rw [← hE] at AM hXM ⊢
 clear hVV hE q1 bV
 cases p with
 | false =>
  have h2 := pr.row ([.slice none 0 0, .slice none 0 0])
  have HB : Hid _ := setRow_below fr (w.heap.size + 2) ([.slice none 0 0, .slice none 0 0]).toArray (by omega)
  go_wp2_with (refine wpList_store_row rfl 33 _ _ rfl (w.heap.size + 2) ([Value.slice none 0 0,  Value.slice none 0 0]).toArray rfl rfl 33 _ pr infoPt rfl (by simp [Value.oneCell']) ?_)
  exact bodyPost_ret (results_row_tmp (v := .bool false) (cs := [.slice none 0 0, .slice none 0 0]) rfl rfl rfl h2 Tryz.underlying33 rfl infoPt) rfl ⟨_, rfl, HN.out (by simp), HB.out⟩
 | true =>
  cases q with
  | false =>
   have h2 := pr.row ([.slice none 0 0, .slice none 0 0])
   have HB : Hid _ := setRow_below fr (w.heap.size + 2) ([.slice none 0 0, .slice none 0 0]).toArray (by omega)
   go_wp2_with (refine wpList_store_row rfl 33 _ _ rfl (w.heap.size + 2) ([Value.slice none 0 0,  Value.slice none 0 0]).toArray rfl rfl 33 _ pr infoPt rfl (by simp [Value.oneCell']) ?_)
   exact bodyPost_ret (results_row_tmp (v := .bool false) (cs := [.slice none 0 0, .slice none 0 0]) rfl rfl rfl h2 Tryz.underlying33 rfl infoPt) rfl ⟨_, rfl, HN.out (by simp), HB.out⟩
  | true =>
   obtain ⟨eL, hPo⟩ := HLL.out (by simp)
   subst eL
   obtain ⟨eM, hQo⟩ := HLM.out (by simp)
   subst eM
   have hip := infoLp' hPo
   have hiq := infoLp' hQo
   go_wp2_with (first
     | (refine wpList_load_row rfl 67 _ rfl XL rfl 67 (I64 P.cells).toArray (0, 0) _ AL Tryz.underlying67 rfl hip ?_)
     | (refine wpList_load_row rfl 67 _ rfl XM rfl 67 (I64 Q.cells).toArray (0, 0) _ AM Tryz.underlying67 rfl hiq ?_))
   refine (HD2.out (by simp) (by simp) _ vP vD).mono ?_
   rintro e y5 ⟨rfl, hb5⟩
   replace fr := fr.trans (hb5.mono fr.size)
   replace pa1 := pa1.kept hb5
   replace pa2 := pa2.kept hb5
   replace pr := pr.kept hb5
   replace vP := vP.kept hb5
   replace vD := vD.kept hb5
   replace AL := AL.kept hb5
   replace AM := AM.kept hb5
   clear hb5
   go_wp2_with fail
   have hl : w.heap.size + 2 < y5.heap.size := pr.lt
   refine (HC.out (by simp) (by simp) _ vP).mono ?_
   rintro e y6 ⟨v, rfl, hpt, hb6⟩
   replace fr := fr.trans (hb6.mono fr.size)
   replace pa1 := pa1.kept hb6
   replace pa2 := pa2.kept hb6
   replace pr := pr.kept hb6
   replace vP := vP.kept hb6
   replace vD := vD.kept hb6
   replace AL := AL.kept hb6
   replace AM := AM.kept hb6
   clear hb6
   obtain ⟨aa, ca, ab, cb, rfl, oa, ob, hap⟩ := hpt
   rw [nx, ny] at hap ⊢
   rw [nx] at oa
   rw [ny] at ob
   have ia := In.of oa
   have ib := In.of ob
   have HB : Hid _ := setRow_below fr (w.heap.size + 2) ([.slice aa 16 ca, .slice ab 16 cb]).toArray (by omega)
   have h2 := pr.row ([.slice aa 16 ca, .slice ab 16 cb])
   have oa2 := own_rowM oa ia (.inl hl) ([.slice aa 16 ca, .slice ab 16 cb]).toArray
   have ob2 := own_rowM ob ib (.inl hl) ([.slice aa 16 ca, .slice ab 16 cb]).toArray
   go_wp2_with (refine wpList_store_row rfl 33 _ _ rfl (w.heap.size + 2) ([Value.slice aa 16 ca,  Value.slice ab 16 cb]).toArray rfl rfl 33 _ pr infoPt rfl (by simp [Value.oneCell']) ?_)
   exact bodyPost_ret (results_row_tmp (v := .bool true) (cs := [.slice aa 16 ca, .slice ab 16 cb]) rfl rfl rfl h2 Tryz.underlying33 rfl infoPt) rfl ⟨_, rfl, HY.out (by simp) _ _ _ (ptT_16 nx ny (own_base oa2 (by omega)) (own_base ob2 (by omega)) hap), HB.out⟩
set_option maxHeartbeats 4000000
set_option linter.unusedSectionVars false

section
variable [NeZero pN]
end
set_option maxHeartbeats 8000000 in
theorem implDoubled (P : E4) (w : World) (hP : P.Ok) (hV : Vr w 4 (I64 PL)) :
  Calls Tryz.prog 170 #[.agg (I64 P.cells).toArray] w fun e w' => e = .returned (.iface 67 (.agg (I64 (dbl6 P).cells).toArray)) ∧ Below w.heap.size w w' := by
 obtain ⟨xx, exx⟩ : ∃ x_, x_ = red (val P.a * val P.a) := ⟨_, rfl⟩
 have kxx : feOk xx = true := by rw [exx]; exact ok_red _
 obtain ⟨yy, eyy⟩ : ∃ x_, x_ = red (val P.b * val P.b) := ⟨_, rfl⟩
 have kyy : feOk yy = true := by rw [eyy]; exact ok_red _
 obtain ⟨oo, eoo⟩ : ∃ x_, x_ = red (val P.c * val P.c) := ⟨_, rfl⟩
 have koo : feOk oo = true := by rw [eoo]; exact ok_red _
 obtain ⟨xy, exy⟩ : ∃ x_, x_ = red (val P.a * val P.b) := ⟨_, rfl⟩
 have kxy : feOk xy = true := by rw [exy]; exact ok_red _
 obtain ⟨h, eh⟩ : ∃ x_, x_ = red (val yy - val xx) := ⟨_, rfl⟩
 have kh : feOk h = true := by rw [eh]; exact ok_red _
 obtain ⟨f, ef⟩ : ∃ x_, x_ = red (val xy + val xy) := ⟨_, rfl⟩
 have kf : feOk f = true := by rw [ef]; exact ok_red _
 obtain ⟨k, ek⟩ : ∃ x_, x_ = red (val xx + val yy) := ⟨_, rfl⟩
 have kk : feOk k = true := by rw [ek]; exact ok_red _
 obtain ⟨o2, eo2⟩ : ∃ x_, x_ = red (val oo + val oo) := ⟨_, rfl⟩
 have ko2 : feOk o2 = true := by rw [eo2]; exact ok_red _
 obtain ⟨g, eg⟩ : ∃ x_, x_ = red (val o2 - val h) := ⟨_, rfl⟩
 have kg : feOk g = true := by rw [eg]; exact ok_red _
 have Hxx : Hid (∀ Z, Vr Z 4 (I64 PL) → Calls Tryz.prog 98 #[.agg (I64 P.a).toArray, .agg (I64 P.a).toArray] Z fun e w' => e = .returned (.agg (I64 xx).toArray) ∧ Below Z.heap.size Z w') := by
  unfold Hid; intro Z hZ; rw [exx]; exact mulI hP.a hP.a Z hZ
 have Hyy : Hid (∀ Z, Vr Z 4 (I64 PL) → Calls Tryz.prog 98 #[.agg (I64 P.b).toArray, .agg (I64 P.b).toArray] Z fun e w' => e = .returned (.agg (I64 yy).toArray) ∧ Below Z.heap.size Z w') := by
  unfold Hid; intro Z hZ; rw [eyy]; exact mulI hP.b hP.b Z hZ
 have Hoo : Hid (∀ Z, Vr Z 4 (I64 PL) → Calls Tryz.prog 98 #[.agg (I64 P.c).toArray, .agg (I64 P.c).toArray] Z fun e w' => e = .returned (.agg (I64 oo).toArray) ∧ Below Z.heap.size Z w') := by
  unfold Hid; intro Z hZ; rw [eoo]; exact mulI hP.c hP.c Z hZ
 have Hxy : Hid (∀ Z, Vr Z 4 (I64 PL) → Calls Tryz.prog 98 #[.agg (I64 P.a).toArray, .agg (I64 P.b).toArray] Z fun e w' => e = .returned (.agg (I64 xy).toArray) ∧ Below Z.heap.size Z w') := by
  unfold Hid; intro Z hZ; rw [exy]; exact mulI hP.a hP.b Z hZ
 have Hh : Hid (∀ Z, Vr Z 4 (I64 PL) → Calls Tryz.prog 99 #[.agg (I64 yy).toArray, .agg (I64 xx).toArray] Z fun e w' => e = .returned (.agg (I64 h).toArray) ∧ Below Z.heap.size Z w') := by
  unfold Hid; intro Z hZ; rw [eh]; exact subI kyy kxx Z hZ
 have Hf : Hid (∀ Z, Vr Z 4 (I64 PL) → Calls Tryz.prog 100 #[.agg (I64 xy).toArray, .agg (I64 xy).toArray] Z fun e w' => e = .returned (.agg (I64 f).toArray) ∧ Below Z.heap.size Z w') := by
  unfold Hid; intro Z hZ; rw [ef]; exact sumI kxy kxy Z hZ
 have Hk : Hid (∀ Z, Vr Z 4 (I64 PL) → Calls Tryz.prog 100 #[.agg (I64 xx).toArray, .agg (I64 yy).toArray] Z fun e w' => e = .returned (.agg (I64 k).toArray) ∧ Below Z.heap.size Z w') := by
  unfold Hid; intro Z hZ; rw [ek]; exact sumI kxx kyy Z hZ
 have Ho2 : Hid (∀ Z, Vr Z 4 (I64 PL) → Calls Tryz.prog 100 #[.agg (I64 oo).toArray, .agg (I64 oo).toArray] Z fun e w' => e = .returned (.agg (I64 o2).toArray) ∧ Below Z.heap.size Z w') := by
  unfold Hid; intro Z hZ; rw [eo2]; exact sumI koo koo Z hZ
 have Hg : Hid (∀ Z, Vr Z 4 (I64 PL) → Calls Tryz.prog 99 #[.agg (I64 o2).toArray, .agg (I64 h).toArray] Z fun e w' => e = .returned (.agg (I64 g).toArray) ∧ Below Z.heap.size Z w') := by
  unfold Hid; intro Z hZ; rw [eg]; exact subI ko2 kh Z hZ
 obtain ⟨R, hR⟩ : ∃ R, R = dbl6 P := ⟨_, rfl⟩
 have hRo : R.Ok := by rw [hR]; exact long6_ok _ _ _ _
 have hRe : long6 f k h g = R := by rw [hR]; simp only [dbl6, exx, eyy, eoo, exy, eh, ef, ek, eo2, eg]
 have HR : Hid (∀ Z, Vr Z 4 (I64 PL) → Calls Tryz.prog 111 #[.agg (I64 f).toArray, .agg (I64 k).toArray, .agg (I64 h).toArray, .agg (I64 g).toArray] Z fun e w' => e = .returned (.agg (I64 R.cells).toArray) ∧ Below Z.heap.size Z w') := by
  unfold Hid; intro Z hZ; rw [← hRe]; exact implLongOf f k h g Z kf kk kh kg hZ
 rw [← hR]
 have jxx := infoL' kxx
 have iixx := infoLl kxx
 have nxx := feOk_len kxx
 have uxx := one_lm xx
 have jyy := infoL' kyy
 have iiyy := infoLl kyy
 have nyy := feOk_len kyy
 have uyy := one_lm yy
 have joo := infoL' koo
 have iioo := infoLl koo
 have noo := feOk_len koo
 have uoo := one_lm oo
 have jxy := infoL' kxy
 have iixy := infoLl kxy
 have nxy := feOk_len kxy
 have uxy := one_lm xy
 have jh := infoL' kh
 have iih := infoLl kh
 have nh := feOk_len kh
 have uh := one_lm h
 have iPa := infoLl hP.a
 have iPb := infoLl hP.b
 have iPc := infoLl hP.c
 have hu : Tryz.prog.underlying 65 = some (.array 16 3) := Tryz.underlying65
 obtain ⟨A0, hA0⟩ : ∃ A, A = (I64 P.cells).toArray := ⟨_, rfl⟩
 obtain ⟨W, hW⟩ : ∃ W, W = w.alloc (.cells A0 67) := ⟨_, rfl⟩
 have fr : Below w.heap.size w W := by rw [hW]; exact ((Below.refl _ _).alloc (Nat.le_refl _) _)
 have pa : Arr W w.heap.size 67 (I64 P.cells) := by
  rw [hW, hA0]
  have := Arr.new (w) (I64 P.cells) 67
  exact this
 have h0P := hV.lt
 have vP := hV.kept fr
 rw [← hA0]
 clear hA0
 clear hV
 clear hR hRe exx kxx eyy kyy eoo koo exy kxy eh kh ef kf ek kk eo2 ko2 eg kg
 go_enter Tryz.func170, Tryz.ntmps170
 go_upto_region 1 with fail
 rw [← hW]
 clear hW
 try simp only [Act.put]
 refine tame [kc 8 (.pointer (some ⟨w.heap.size, 0, none⟩)), kc 9 (.agg (I64 P.a).toArray), kc 10 (.pointer (some ⟨w.heap.size, 0, none⟩)), kc 11 (.agg (I64 P.a).toArray), kc 12 (.agg (I64 xx).toArray), kc 13 (.pointer (some ⟨w.heap.size, 16, none⟩)), kc 14 (.agg (I64 P.b).toArray), kc 15 (.pointer (some ⟨w.heap.size, 16, none⟩)), kc 16 (.agg (I64 P.b).toArray), kc 17 (.agg (I64 yy).toArray), kc 18 (.pointer (some ⟨w.heap.size, 32, none⟩)), kc 19 (.agg (I64 P.c).toArray), kc 20 (.pointer (some ⟨w.heap.size, 32, none⟩)), kc 21 (.agg (I64 P.c).toArray), kc 22 (.agg (I64 oo).toArray), kc 23 (.pointer (some ⟨w.heap.size, 0, none⟩)), kc 24 (.agg (I64 P.a).toArray), kc 25 (.pointer (some ⟨w.heap.size, 16, none⟩)), kc 26 (.agg (I64 P.b).toArray), kc 27 (.agg (I64 xy).toArray), ka 3 65 (I64 Z16), ka 4 65 (I64 Z16), ka 5 65 (I64 Z16), ka 6 65 (I64 Z16)] 24 (by kernel_rfl) (by kernel_rfl) (by kernel_rfl) (by repeat' first | exact trivial | apply kc_keeps | apply ka_keeps | constructor) 4 (by kernel_rfl) (fun vv1 ll1 hh1 y b => ?_) (fun vv1 ll1 hh1 y b F iv ap => ?_)
 ·skip
  replace fr := fr.trans (b.mono fr.size)
  replace pa := pa.kept b
  replace vP := vP.kept b
  exact ⟨tp (by kernel_rfl),
   tl (E4.ra pa) iPa hu (by kernel_rfl),
   tp (by kernel_rfl),
   tl (E4.ra pa) iPa hu (by kernel_rfl),
   tc (Hxx.out _ vP) (by kernel_rfl),
   tp (by kernel_rfl),
   tl (E4.rb hP pa) iPb hu (by kernel_rfl),
   tp (by kernel_rfl),
   tl (E4.rb hP pa) iPb hu (by kernel_rfl),
   tc (Hyy.out _ vP) (by kernel_rfl),
   tp (by kernel_rfl),
   tl (E4.rc hP pa) iPc hu (by kernel_rfl),
   tp (by kernel_rfl),
   tl (E4.rc hP pa) iPc hu (by kernel_rfl),
   tc (Hoo.out _ vP) (by kernel_rfl),
   tp (by kernel_rfl),
   tl (E4.ra pa) iPa hu (by kernel_rfl),
   tp (by kernel_rfl),
   tl (E4.rb hP pa) iPb hu (by kernel_rfl),
   tc (Hxy.out _ vP) (by kernel_rfl),
   ta (by kernel_rfl),
   ta (by kernel_rfl),
   ta (by kernel_rfl),
   ta (by kernel_rfl), trivial⟩
 obtain ⟨y1, hy⟩ : ∃ z, z = y := ⟨_, rfl⟩
 rw [← hy] at b F iv ⊢
 clear hy
 have oq : w.heap.size < W.heap.size ∧ w.heap.size ≤ W.heap.size := ⟨pa.lt, fr.size⟩
 replace fr := fr.trans (b.mono fr.size)
 replace pa := pa.kept b
 replace vP := vP.kept b
 obtain ⟨-, -, -, -, -, -, -, -, -, -, -, -, -, -, -, -, -, -, -, -, ⟨Axx, gXxx⟩, ⟨Ayy, gXyy⟩, ⟨Aoo, gXoo⟩, ⟨Axy, gXxy⟩, -⟩ := F
 have iXxx := iv 20 (by decide)
 have iXyy := iv 21 (by decide)
 have iXoo := iv 22 (by decide)
 have iXxy := iv 23 (by decide)
 have pXxxXyy := ap 20 21 (by decide) (by decide) (by decide)
 have pXxxXoo := ap 20 22 (by decide) (by decide) (by decide)
 have pXyyXoo := ap 21 22 (by decide) (by decide) (by decide)
 have pXxxXxy := ap 20 23 (by decide) (by decide) (by decide)
 have pXyyXxy := ap 21 23 (by decide) (by decide) (by decide)
 have pXooXxy := ap 22 23 (by decide) (by decide) (by decide)
 replace Axx : Arr y1 (ll1 20) 65 (I64 Z16) := Axx
 replace gXxx : ll1 20 < hh1 20 := gXxx
 have lXxx := Axx.lt
 replace Ayy : Arr y1 (ll1 21) 65 (I64 Z16) := Ayy
 replace gXyy : ll1 21 < hh1 21 := gXyy
 have lXyy := Ayy.lt
 replace Aoo : Arr y1 (ll1 22) 65 (I64 Z16) := Aoo
 replace gXoo : ll1 22 < hh1 22 := gXoo
 have lXoo := Aoo.lt
 replace Axy : Arr y1 (ll1 23) 65 (I64 Z16) := Axy
 replace gXxy : ll1 23 < hh1 23 := gXxy
 have lXxy := Axy.lt
 refine st_row (i := 24) (by kernel_rfl) rfl rfl rfl rfl Axx (by kernel_rfl) (by kernel_rfl) (by simp [nxx]) jxx uxx ?_
 replace fr := bel_sc fr (ll1 20) (I64 xx) (by omega)
 replace pa := pa.sc (ll1 20) (I64 xx) (by omega)
 replace vP := vP.sc (ll1 20) (I64 xx) (by omega)
 replace Axx := Axx.sc0 (I64 xx) (by simp [nxx])
 replace Ayy := Ayy.sc (ll1 20) (I64 xx) (by omega)
 replace Aoo := Aoo.sc (ll1 20) (I64 xx) (by omega)
 replace Axy := Axy.sc (ll1 20) (I64 xx) (by omega)
 obtain ⟨V2, hVe⟩ : ∃ V, V = y1.setCells (ll1 20) 0 (I64 xx) := ⟨_, rfl⟩
 rw [← hVe] at fr pa vP Axx Ayy Aoo Axy ⊢
 clear hVe
 refine st_row (i := 25) (by kernel_rfl) rfl rfl rfl rfl Ayy (by kernel_rfl) (by kernel_rfl) (by simp [nyy]) jyy uyy ?_
 replace fr := bel_sc fr (ll1 21) (I64 yy) (by omega)
 replace pa := pa.sc (ll1 21) (I64 yy) (by omega)
 replace vP := vP.sc (ll1 21) (I64 yy) (by omega)
 replace Axx := Axx.sc (ll1 21) (I64 yy) (by omega)
 replace Ayy := Ayy.sc0 (I64 yy) (by simp [nyy])
 replace Aoo := Aoo.sc (ll1 21) (I64 yy) (by omega)
 replace Axy := Axy.sc (ll1 21) (I64 yy) (by omega)
 obtain ⟨V3, hVe⟩ : ∃ V, V = V2.setCells (ll1 21) 0 (I64 yy) := ⟨_, rfl⟩
 rw [← hVe] at fr pa vP Axx Ayy Aoo Axy ⊢
 clear hVe
 refine st_row (i := 26) (by kernel_rfl) rfl rfl rfl rfl Aoo (by kernel_rfl) (by kernel_rfl) (by simp [noo]) joo uoo ?_
 replace fr := bel_sc fr (ll1 22) (I64 oo) (by omega)
 replace pa := pa.sc (ll1 22) (I64 oo) (by omega)
 replace vP := vP.sc (ll1 22) (I64 oo) (by omega)
 replace Axx := Axx.sc (ll1 22) (I64 oo) (by omega)
 replace Ayy := Ayy.sc (ll1 22) (I64 oo) (by omega)
 replace Aoo := Aoo.sc0 (I64 oo) (by simp [noo])
 replace Axy := Axy.sc (ll1 22) (I64 oo) (by omega)
 obtain ⟨V4, hVe⟩ : ∃ V, V = V3.setCells (ll1 22) 0 (I64 oo) := ⟨_, rfl⟩
 rw [← hVe] at fr pa vP Axx Ayy Aoo Axy ⊢
 clear hVe
 refine st_row (i := 27) (by kernel_rfl) rfl rfl rfl rfl Axy (by kernel_rfl) (by kernel_rfl) (by simp [nxy]) jxy uxy ?_
 replace fr := bel_sc fr (ll1 23) (I64 xy) (by omega)
 replace pa := pa.sc (ll1 23) (I64 xy) (by omega)
 replace vP := vP.sc (ll1 23) (I64 xy) (by omega)
 replace Axx := Axx.sc (ll1 23) (I64 xy) (by omega)
 replace Ayy := Ayy.sc (ll1 23) (I64 xy) (by omega)
 replace Aoo := Aoo.sc (ll1 23) (I64 xy) (by omega)
 replace Axy := Axy.sc0 (I64 xy) (by simp [nxy])
 obtain ⟨V5, hVe⟩ : ∃ V, V = V4.setCells (ll1 23) 0 (I64 xy) := ⟨_, rfl⟩
 rw [← hVe] at fr pa vP Axx Ayy Aoo Axy ⊢
 clear hVe
 refine wpAny_done (by kernel_rfl) ?_ _
 simp only [fillK, putT, List.setIfInBounds_toArray, List.set_cons_zero, List.set_cons_succ]
 generalize ll1 20 = Xxx at *
 generalize ll1 21 = Xyy at *
 generalize ll1 22 = Xoo at *
 generalize ll1 23 = Xxy at *
 clear iv ap b oq
 clear pa
 go_wp2_with (first
   | (refine wpList_load_row rfl 65 _ rfl Xyy rfl 65 (I64 yy).toArray (0, 0) _ Ayy Tryz.underlying65 rfl jyy ?_)
   | (refine wpList_load_row rfl 65 _ rfl Xxx rfl 65 (I64 xx).toArray (0, 0) _ Axx Tryz.underlying65 rfl jxx ?_))
 refine (Hh.out _ vP).mono ?_
 rintro e y6 ⟨rfl, hb6⟩
 replace fr := fr.trans (hb6.mono fr.size)
 replace vP := vP.kept hb6
 replace Axx := Axx.kept hb6
 replace Ayy := Ayy.kept hb6
 replace Aoo := Aoo.kept hb6
 replace Axy := Axy.kept hb6
 clear hb6
 have hXh : Xxx < y6.heap.size ∧ Xyy < y6.heap.size ∧ Xoo < y6.heap.size ∧ Xxy < y6.heap.size ∧ w.heap.size ≤ y6.heap.size := ⟨Axx.lt, Ayy.lt, Aoo.lt, Axy.lt, fr.size⟩
 obtain ⟨bV, Ah, q1⟩ := laid_lm y6 h
 replace fr := fr.trans (bV.mono fr.size)
 replace vP := vP.kept bV
 replace Axx := Axx.kept bV
 replace Ayy := Ayy.kept bV
 replace Aoo := Aoo.kept bV
 replace Axy := Axy.kept bV
 go_upto_region 3 with (refine wpList_store_row rfl 65 _ _ rfl y6.heap.size (I64 h).toArray rfl rfl 65 _ q1 jh (by simp [nh]) (by simp [Value.oneCell']) ?_)
 obtain ⟨V7, hVV⟩ : ∃ V, V = (y6.alloc (.cells zV 65)).setRow y6.heap.size (I64 h).toArray := ⟨_, rfl⟩
 obtain ⟨Xh, hE⟩ : ∃ E, E = y6.heap.size := ⟨_, rfl⟩
 rw [← hVV] at fr vP Axx Ayy Aoo Axy Ah ⊢
 rw [← hE] at Ah hXh ⊢
 clear hVV hE q1 bV
 try simp only [Act.put]
 refine tame [kc 31 (.agg (I64 xy).toArray), kc 32 (.agg (I64 xy).toArray), kc 33 (.agg (I64 f).toArray), kc 34 (.agg (I64 xx).toArray), kc 35 (.agg (I64 yy).toArray), kc 36 (.agg (I64 k).toArray), kc 37 (.agg (I64 h).toArray), kc 38 (.agg (I64 oo).toArray), kc 39 (.agg (I64 oo).toArray), kc 40 (.agg (I64 o2).toArray), kc 41 (.agg (I64 h).toArray), kc 42 (.agg (I64 g).toArray), kc 43 (.agg (I64 R.cells).toArray), kc 44 (.iface 67 (.agg (I64 R.cells).toArray)), kc 2 (.iface 67 (.agg (I64 R.cells).toArray))] 15 (by kernel_rfl) (by kernel_rfl) (by kernel_rfl) (by repeat' first | exact trivial | apply kc_keeps | apply ka_keeps | constructor) 0 (by kernel_rfl) (fun vv2 ll2 hh2 y b => ?_) (fun vv2 ll2 hh2 y b F iv ap => ?_)
 ·skip
  replace fr := fr.trans (b.mono fr.size)
  replace vP := vP.kept b
  replace Axx := Axx.kept b
  replace Ayy := Ayy.kept b
  replace Aoo := Aoo.kept b
  replace Axy := Axy.kept b
  replace Ah := Ah.kept b
  exact ⟨tl (arr_range Axy) iixy hu (by kernel_rfl),
   tl (arr_range Axy) iixy hu (by kernel_rfl),
   tc (Hf.out _ vP) (by kernel_rfl),
   tl (arr_range Axx) iixx hu (by kernel_rfl),
   tl (arr_range Ayy) iiyy hu (by kernel_rfl),
   tc (Hk.out _ vP) (by kernel_rfl),
   tl (arr_range Ah) iih hu (by kernel_rfl),
   tl (arr_range Aoo) iioo hu (by kernel_rfl),
   tl (arr_range Aoo) iioo hu (by kernel_rfl),
   tc (Ho2.out _ vP) (by kernel_rfl),
   tl (arr_range Ah) iih hu (by kernel_rfl),
   tc (Hg.out _ vP) (by kernel_rfl),
   tc (HR.out _ vP) (by kernel_rfl),
   tp (by kernel_rfl),
   tp (by kernel_rfl), trivial⟩
 obtain ⟨y8, hy⟩ : ∃ z, z = y := ⟨_, rfl⟩
 rw [← hy] at b F iv ⊢
 clear hy
 replace fr := fr.trans (b.mono fr.size)
 replace vP := vP.kept b
 replace Axx := Axx.kept b
 replace Ayy := Ayy.kept b
 replace Aoo := Aoo.kept b
 replace Axy := Axy.kept b
 replace Ah := Ah.kept b
 clear F
 refine wpAny_done (by kernel_rfl) ?_ _
 simp only [fillK, putT, List.setIfInBounds_toArray, List.set_cons_zero, List.set_cons_succ]
 clear iv ap b
 go_wp2
 go_ret
 exact ⟨rfl, fr⟩
structure SM (w W : World) (k : List Int) : Prop where
 fr : Below w.heap.size w W
 pk : Arr W w.heap.size 92 (I64 k)
 vP : Vr W 4 (I64 PL)
 vD : Vr W 5 (I64 DL)
theorem SM.go {w A B : World} {k : List Int} (h : SM w A k) (hb : Below A.heap.size A B) : SM w B k := ⟨h.fr.trans (hb.mono h.fr.size), h.pk.kept hb, h.vP.kept hb, h.vD.kept hb⟩
theorem jst_one {P : E4} {N n : Nat} (h : N / 2 ^ (252 - n) % 2 = 1) : jst P N (n + 1) = join6 (dbl6 (jst P N n)) P := by rw [jst, if_pos h]
theorem jst_nil {P : E4} {N n : Nat} (h : ¬ N / 2 ^ (252 - n) % 2 = 1) : jst P N (n + 1) = dbl6 (jst P N n) := by rw [jst, if_neg h]

set_option maxHeartbeats 8000000 in
theorem implMany (P : E4) (k : List Int) (w : World) (hP : P.Ok) (hk : k.length = 16) (hm : Lm k) (hV : Vr w 4 (I64 PL)) (hD : Vr w 5 (I64 DL)) :
  Calls Tryz.prog 66 #[.iface 67 (.agg (I64 (mk6 (lim 16 0) (lim 16 1)).cells).toArray), .iface 67 (.agg (I64 P.cells).toArray), .agg (I64 k).toArray] w fun e w' => e = .returned (.iface 67 (.agg (I64 (jul6 P (val k).toNat).cells).toArray)) ∧ Below w.heap.size w w' := by
 have hbit := fun j hj => bitO hk hm j hj
 obtain ⟨N, hN⟩ : ∃ N, N = (val k).toNat := ⟨_, rfl⟩
 rw [← hN] at hbit ⊢
 obtain ⟨S, hS⟩ : ∃ S : Nat → E4, ∀ n, S n = jst P N n := ⟨jst P N, fun _ => rfl⟩
 have HO : Hid (∀ n, (S n).Ok) := by unfold Hid; intro n; rw [hS]; exact jst_ok P N n
 have H1 : Hid (∀ n, N / 2 ^ (252 - n) % 2 = 1 → S (n + 1) = join6 (dbl6 (S n)) P) := by unfold Hid; intro n h; rw [hS, hS]; exact jst_one h
 have H0 : Hid (∀ n, ¬ N / 2 ^ (252 - n) % 2 = 1 → S (n + 1) = dbl6 (S n)) := by unfold Hid; intro n h; rw [hS, hS]; exact jst_nil h
 have hres : jul6 P N = S 253 := by rw [hS]; rfl
 have hS0 : S 0 = mk6 (lim 16 0) (lim 16 1) := by rw [hS]; rfl
 rw [hres, ← hS0]
 have HA : Hid (∀ (Q R : E4), Q.Ok → R.Ok → ∀ Z, Vr Z 4 (I64 PL) → Vr Z 5 (I64 DL) → Calls Tryz.prog 68 #[.agg (I64 Q.cells).toArray, .iface 67 (.agg (I64 R.cells).toArray)] Z fun e w' => e = .returned (.iface 67 (.agg (I64 (join6 Q R).cells).toArray)) ∧ Below Z.heap.size Z w') := by
  unfold Hid; intro Q R hQ hR Z h1 h2; exact implJoined Q R Z hQ hR h1 h2
 have HD2 : Hid (∀ (Q : E4), Q.Ok → ∀ Z, Vr Z 4 (I64 PL) → Calls Tryz.prog 170 #[.agg (I64 Q.cells).toArray] Z fun e w' => e = .returned (.iface 67 (.agg (I64 (dbl6 Q).cells).toArray)) ∧ Below Z.heap.size Z w') := by
  unfold Hid; intro Q hQ Z h1; exact implDoubled Q Z hQ h1
 have HB : Hid (∀ (j : Nat), j < 256 → ∀ Z, Calls Tryz.prog 42 #[.agg (I64 k).toArray, .int .i64 (j : Int)] Z fun e w' => e = .returned (.int .i64 ((N / 2 ^ j % 2 : Nat) : Int)) ∧ Below Z.heap.size Z w') := by
  unfold Hid; intro j hj Z; rw [← hbit j hj]; exact implBit k j Z hk hm hj
 have hik : (Tryz.prog.info? 65).map (·.size) = some (I64 k).length := by simpa [hk] using infoL
 have hu : Tryz.prog.underlying 65 = some (.array 16 3) := Tryz.underlying65
 obtain ⟨A, hA⟩ : ∃ A, A = (I64 k).toArray := ⟨_, rfl⟩
 have fr : Below w.heap.size w (w.alloc (.cells A 92)) := (Below.refl _ _).alloc (Nat.le_refl _) _
 have EE : SM w (w.alloc (.cells A 92)) k := ⟨fr, by rw [hA]; exact Arr.new w (I64 k) _, hV.kept fr, hD.kept fr⟩
 obtain ⟨W, hW⟩ : ∃ W, W = w.alloc (.cells A 92) := ⟨_, rfl⟩
 rw [← hA]
 rw [← hW] at EE
 clear hA hN hS hres hS0 hbit hm hV hD fr hk
 go_enter Tryz.func66, Tryz.ntmps66
 go_upto_region 2 with fail
 rw [← hW]
 clear hW
 go_wp2
 go_loopw [7, 8] (fun s i wr => ∃ (n : Nat) (z : Int), n ≤ 253 ∧ z = 252 - (n : Int) ∧ s = .iface 67 (.agg (I64 (S n).cells).toArray) ∧ i = .int .i64 z ∧ SM w wr k) (fun _ i _ => (intOf i + 1).toNat)
 case atStart => exact ⟨0, 252, by omega, by omega, rfl, rfl, EE⟩
 case round =>
  clear EE
  obtain ⟨n, z, hn, hz, rfl, rfl, EE⟩ := hrel
  obtain ⟨R, hR⟩ : ∃ R, R = S n := ⟨_, rfl⟩
  rw [← hR]
  have hRo : R.Ok := by rw [hR]; exact HO.out n
  have HR : Hid _ := hR
  clear hR
  by_cases hn6 : n = 253
  ·have hz0 : z < 0 := by omega
   have hz1 : ¬ (0 ≤ z) := by omega
   have HRR : Hid (R = S 253) := by unfold Hid; rw [HR.out, hn6]
   have hfr := EE.fr
   clear HR hz hn6 EE hn
   go_wp2
   go_ret
   exact ⟨by rw [HRR.out]; rfl, hfr⟩
  ·obtain ⟨j, hj⟩ : ∃ j, j = 252 - n := ⟨_, rfl⟩
   obtain rfl : z = (j : Int) := by omega
   have hj0 : (0 : Int) ≤ (j : Int) := by omega
   have hw1 : wrap64 ((j : Int) - 1) = (j : Int) - 1 := by unfold wrap64; omega
   have HJ : Hid (j = 252 - n) := hj
   have HJ2 : Hid (j < 256) := by unfold Hid; omega
   have HN : Hid (n < 253) := by unfold Hid; omega
   obtain ⟨D, hDe⟩ : ∃ D, D = dbl6 R := ⟨_, rfl⟩
   have hDo : D.Ok := by rw [hDe]; exact long6_ok _ _ _ _
   have HDD : Hid (∀ Z, Vr Z 4 (I64 PL) → Calls Tryz.prog 170 #[.agg (I64 R.cells).toArray] Z fun e w' => e = .returned (.iface 67 (.agg (I64 D.cells).toArray)) ∧ Below Z.heap.size Z w') := by unfold Hid; rw [hDe]; exact HD2.out R hRo
   have HDe : Hid _ := hDe
   obtain ⟨bt, hbt⟩ : ∃ bt, bt = N / 2 ^ j % 2 := ⟨_, rfl⟩
   have hbt1 : bt < 2 := by omega
   have HBt : Hid _ := hbt
   have HBB : Hid (∀ Z, Calls Tryz.prog 42 #[.agg (I64 k).toArray, .int .i64 (j : Int)] Z fun e w' => e = .returned (.int .i64 (bt : Int)) ∧ Below Z.heap.size Z w') := by unfold Hid; rw [hbt]; exact HB.out j (by omega)
   clear hz hn6 hj hDe hbt hn
   go_wp2_with fail
   refine (HDD.out _ EE.vP).mono ?_
   rintro e w1 ⟨rfl, hb1⟩
   replace EE := EE.go hb1
   clear hb1
   have hpk := arr_range EE.pk
   go_wp2_with (refine wpList_load_mid rfl 65 _ rfl w.heap.size 0 rfl (I64 k) _ hpk hu rfl hik ?_)
   clear hpk
   refine (HBB.out _).mono ?_
   rintro e w2 ⟨rfl, hb2⟩
   replace EE := EE.go hb2
   clear hb2
   by_cases hb1 : bt = 1
   ·subst hb1
    have HST : Hid (S (n + 1) = join6 D P) := by unfold Hid; rw [H1.out n (by rw [← HJ.out, ← HBt.out]), ← HR.out, ← HDe.out]
    obtain ⟨T, hT⟩ : ∃ T, T = join6 D P := ⟨_, rfl⟩
    rw [← hT] at HST
    have HA1 : Hid (∀ Z, Vr Z 4 (I64 PL) → Vr Z 5 (I64 DL) → Calls Tryz.prog 68 #[.agg (I64 D.cells).toArray, .iface 67 (.agg (I64 P.cells).toArray)] Z fun e w' => e = .returned (.iface 67 (.agg (I64 T.cells).toArray)) ∧ Below Z.heap.size Z w') := by unfold Hid; rw [hT]; exact HA.out D P hDo hP
    clear hT
    go_wp2_with fail
    refine (HA1.out _ EE.vP EE.vD).mono ?_
    rintro e w3 ⟨rfl, hb3⟩
    replace EE := EE.go hb3
    clear hb3
    go_wp2
    go_roundw
    case rel => exact ⟨n + 1, (j : Int) - 1, by have := HN.out; omega, by have := HJ.out; have := HN.out; omega, by rw [HST.out], by go_num, EE⟩
    case measure => simp [intOf]; omega
   ·have hb0 : bt = 0 := by omega
    subst hb0
    have HST : Hid (S (n + 1) = D) := by unfold Hid; rw [H0.out n (by rw [← HJ.out, ← HBt.out]; omega), ← HR.out, ← HDe.out]
    clear hb1
    go_wp2
    go_roundw
    case rel => exact ⟨n + 1, (j : Int) - 1, by have := HN.out; omega, by have := HJ.out; have := HN.out; omega, by rw [HST.out], by go_num, EE⟩
    case measure => simp [intOf]; omega
def mvd (c : Int) (n : List Int) : List Int := c :: (n.take 14 ++ [n.getD 14 0 + n.getD 15 0 * 65536])
theorem mvd_len {c : Int} {n : List Int} (h : n.length = 16) : (mvd c n).length = 16 := by simp [mvd, h]
theorem val_two {n : List Int} (h : n.length = 16) : val n = val (n.take 14) + 65536 ^ 14 * (n.getD 14 0 + 65536 * n.getD 15 0) := by
 have h2 : n = n.take 14 ++ [n.getD 14 0, n.getD 15 0] := by
  conv => lhs; rw [← List.take_append_drop 14 n, drop_one n 14 (by omega), drop_one n 15 (by omega), List.drop_eq_nil_of_le (by omega)]
 conv => lhs; rw [h2, val_append]
 have hl : (n.take 14).length = 14 := by simp [h]
 rw [hl]
 simp only [val]
 congr 2
 omega
theorem mvd_val {c : Int} {n : List Int} (h : n.length = 16) : val (mvd c n) = c + 65536 * val n := by
 have hl : (n.take 14).length = 14 := by simp [h]
 rw [val_two h]
 unfold mvd
 simp only [val, val_append, hl]
 omega
def ost (t : Int) (l : List Int) : List Int := List.zipWith (fun x y => x - t * y) l OL
theorem ost_len {t : Int} {l : List Int} (h : l.length = 16) : (ost t l).length = 16 := by simp [ost, h, OL_len]
theorem zipT_val (t : Int) : ∀ a b : List Int, a.length = b.length → val (List.zipWith (fun x y => x - t * y) a b) = val a - t * val b
 | [], [], _ => by simp [val]
 | x :: a, y :: b, h => by
  have := zipT_val t a b (by simpa using h)
  simp only [List.zipWith_cons_cons, val, this]
  rw [Int.mul_add, Int.mul_left_comm t 65536]
  omega
 | [], _ :: _, h => by simp at h
 | _ :: _, [], h => by simp at h
theorem ost_val {t : Int} {l : List Int} (h : l.length = 16) : val (ost t l) = val l - t * qO := by
 unfold ost
 rw [zipT_val t l OL (by rw [h, OL_len]), OL_val]
theorem crd_val {l : List Int} (hl : l.length = 16) : val (crd l) = val l := by
 rw [crd_eq hl, val_append, lim_len, val_lim]
 simp only [val]
 have := Int.emod_add_mul_ediv (val l) (65536 ^ 15)
 omega
theorem crd_last {l : List Int} (hl : l.length = 16) : (crd l).getD 15 0 = val l / 65536 ^ 15 := by
 rw [crd_eq hl]
 simp [List.getD, lim_len]
def tms (V : Int) : Int := V / 65536 ^ 15 / 4096 - 1
def Sq (V : Int) : Prop := 0 ≤ V ∧ V < 1897137590064188545819787018382342682267975428761855001222473056385648716020711424
theorem tms_bd {V : Int} (h : Sq V) : -1 ≤ tms V ∧ tms V < 262144 := by
 unfold tms Sq at *
 rw [p240]
 omega
theorem tms_val {V : Int} (h : Sq V) : 0 ≤ V - tms V * qO ∧ V - tms V * qO < 2 * qO := by
 have hb := tms_bd h
 unfold tms Sq at *
 rw [p240] at *
 unfold qO
 omega
theorem crd_bdS {l : List Int} (hl : l.length = 16) (h : Sq (val l)) : ∀ x ∈ crd l, 0 ≤ x ∧ x < 1073741824 := by
 rw [crd_eq hl, p240]
 intro x hx
 rcases List.mem_append.1 hx with hx | hx
 ·have := lim_lm 15 _ x hx; omega
 ·simp only [List.mem_singleton] at hx
  subst hx
  unfold Sq at h
  omega
theorem ost_bd {l : List Int} {t : Int} (h0 : -1 ≤ t) (h1 : t < 262144) (h : ∀ x ∈ l, 0 ≤ x ∧ x < 1073741824) : ∀ x ∈ ost t l, -4611686018427387904 ≤ x ∧ x < 4611686018427387904 := by
 intro z hz
 obtain ⟨i, hi⟩ := List.mem_iff_getElem?.1 hz
 unfold ost at hi
 rw [List.getElem?_zipWith] at hi
 split at hi
 ·rename_i p q h2 h3
  have h4 := h _ (List.mem_of_getElem? h2)
  have h5 := OL_lm _ (List.mem_of_getElem? h3)
  simp only [Option.some.injEq] at hi
  rw [← hi]
  have h6 : t * q ≤ 262144 * 65536 := by
   have a1 : t * q ≤ 262144 * q := Int.mul_le_mul_of_nonneg_right (by omega) h5.1
   omega
  have h7 : -1 * 65536 ≤ t * q := by
   have a1 : -1 * q ≤ t * q := Int.mul_le_mul_of_nonneg_right h0 h5.1
   omega
  omega
 ·cases hi
theorem settled {l : List Int} (hl : l.length = 16) (h : Sq (val l)) :
  crd (ost (tms (val l)) (crd l)) = lim 16 (val l - tms (val l) * qO) ∧ lim 16 (if val l - tms (val l) * qO < qO then val l - tms (val l) * qO else val l - tms (val l) * qO - qO) = redO (val l) := by
 have hc := crd_len hl
 have hv : val (ost (tms (val l)) (crd l)) = val l - tms (val l) * qO := by rw [ost_val hc, crd_val hl]
 have hb := tms_val h
 refine ⟨?_, ?_⟩
 ·rw [crd_lim (ost_len hc) (by rw [hv]; exact hb.1) (by rw [hv]; have := hb.2; unfold qO at this ⊢; omega), hv]
 ·have hr : redO (val l - tms (val l) * qO) = redO (val l) := by
   unfold redO
   rw [Int.sub_mul_emod_self_right]
  have hls := lessO hb.1 hb.2
  rw [← hr]
  split
  ·rename_i hlt; exact hls.1 hlt
  ·rename_i hlt; exact hls.2 hlt
def Cq (x : Int) : Prop := 0 ≤ x ∧ x < 2199023255552
theorem longer_sq {c : Int} {n : List Int} (hc : Cq c) (h : scOk n = true) : Sq (c + 65536 * val n) := by
 obtain ⟨h1, h2, h3⟩ := (scOk_iff n).1 h
 have h0 := val_nonneg (fun x hx => (h2 x hx).1)
 unfold Sq Cq at *
 unfold qO at h3
 omega
theorem sc_last {n : List Int} (h : scOk n = true) : 0 ≤ n.getD 15 0 ∧ n.getD 15 0 ≤ 4096 := by
 obtain ⟨h1, h2, h3⟩ := (scOk_iff n).1 h
 have h0 := val_nonneg (l := n.take 15) (fun x hx => (h2 x (List.mem_of_mem_take hx)).1)
 have hv := val_last h1
 have := getD_of (p := fun x => 0 ≤ x ∧ x < 65536) h2 (by omega) 15
 rw [hv, p240] at h3
 unfold qO at h3
 omega
theorem mvd_bd {c : Int} {n : List Int} (hc : Cq c) (h : scOk n = true) : ∀ x ∈ mvd c n, -4611686018427387904 ≤ x ∧ x < 4611686018427387904 := by
 obtain ⟨h1, h2, h3⟩ := (scOk_iff n).1 h
 have h15 := sc_last h
 have h14 := getD_of (p := fun x => 0 ≤ x ∧ x < 65536) h2 (by omega) 14
 intro x hx
 unfold mvd at hx
 unfold Cq at hc
 rcases List.mem_cons.1 hx with rfl | hx
 ·omega
 ·rcases List.mem_append.1 hx with hx | hx
  ·have := h2 x (List.mem_of_mem_take hx); omega
  ·simp only [List.mem_singleton] at hx
   omega
theorem longer_red (c v : Int) : redO (c + 65536 * val (redO v)) = redO (c + 65536 * v) := by
 rw [val_redO]
 unfold redO
 congr 1
 unfold qO
 omega
def clm (cs : List Int) (k : Nat) : List Int := redO (val (cs.drop k))
theorem clm_ok (cs : List Int) (k : Nat) : scOk (clm cs k) = true := redO_ok _
theorem clm_end (cs : List Int) : clm cs cs.length = Z16 := by unfold clm; rw [List.drop_length]; decide
theorem clm_step (cs : List Int) (k : Nat) (h : k < cs.length) : redO (cs.getD k 0 + 65536 * val (clm cs (k + 1))) = clm cs k := by
 unfold clm
 rw [longer_red, drop_one cs k h]
 rfl
theorem clm_zero (cs : List Int) : clm cs 0 = redO (val cs) := by unfold clm; rw [List.drop_zero]
theorem lm_cq {l : List Int} (h : Lm l) : ∀ x ∈ l, Cq x := by
 intro x hx
 have := h x hx
 unfold Cq
 omega
end Go.Proofs.YtihoaakbkffejaaGreatDoor
