/-
  What is proved here: the contract of the program's curveX: what stands beside y; where its variables hold the prime, d and a root of -1.
-/
import Derived.Test.YtihoaakbkffejaaGreatDoorFOa
import Derived.Test.YtihoaakbkffejaaGreatDoorFJh
import Derived.Test.YtihoaakbkffejaaGreatDoorFJg
import Derived.Test.YtihoaakbkffejaaGreatDoorFJn
import Derived.Test.YtihoaakbkffejaaGreatDoorFVk
import Derived.Test.YtihoaakbkffejaaGreatDoorFTm
namespace Go.Proofs.YtihoaakbkffejaaGreatDoor
open Go.RowKit
set_option maxRecDepth 100000
abbrev qOk0 : Oper := { dst := some 27, op := Op.move (Operand.tmp 32), type := 88, pos := "l06_point.go:141", after := #[{ on := 4, ground := Ground.data }], guard := none }
abbrev qOk1 : Oper := { dst := some 33, op := Op.extract (Operand.tmp 27) 0, type := 65, pos := "l06_point.go:141", after := #[{ on := 5, ground := Ground.data }], guard := none }
abbrev qOk2 : Oper := { dst := some 34, op := Op.extract (Operand.tmp 27) 1, type := 4, pos := "l06_point.go:141", after := #[{ on := 5, ground := Ground.data }, { on := 9, ground := Ground.gcOnly Departure.lateStores }], guard := none }
abbrev qOk3 : Oper := { dst := none, op := Op.store 65 (Operand.tmp 9) (Operand.tmp 33), type := 0, pos := "l06_point.go:141", after := #[{ on := 8, ground := Ground.data }, { on := 6, ground := Ground.data }, { on := 4, ground := Ground.chain }, { on := 0, ground := Ground.phase }, { on := 1, ground := Ground.phase }, { on := 2, ground := Ground.phase }, { on := 3, ground := Ground.phase }, { on := 4, ground := Ground.phase }, { on := 5, ground := Ground.phase }, { on := 6, ground := Ground.phase }, { on := 7, ground := Ground.textOnly Departure.lateStores }, { on := 8, ground := Ground.phase }], guard := none }
abbrev qOk4 : Oper := { dst := some 41, op := Op.load 65 (Operand.tmp 9), type := 65, pos := "l06_point.go:146", after := #[], guard := none }
abbrev qOk5 : Oper := { dst := some 42, op := Op.move (Operand.tmp 10), type := 4, pos := "l06_point.go:146", after := #[], guard := none }
abbrev qOk6 : Oper := { dst := some 43, op := Op.move (Operand.tmp 42), type := 4, pos := "l06_point.go:146", after := #[{ on := 1, ground := Ground.data }], guard := none }
abbrev qOk7 : Oper := { dst := some 44, op := Op.load 65 (Operand.tmp 9), type := 65, pos := "l06_point.go:146", after := #[{ on := 2, ground := Ground.guard }], guard := some (2, true) }
abbrev qOk8 : Oper := { dst := some 45, op := Op.call { callee := Callee.value (Operand.func 42), args := #[Operand.tmp 44, Operand.const (Value.int IntKind.i64 0)], argTypes := #[65, 3] }, type := 3, pos := "l06_point.go:146", after := #[{ on := 3, ground := Ground.data }, { on := 2, ground := Ground.chain }, { on := 2, ground := Ground.guard }], guard := some (2, true) }
abbrev qOk9 : Oper := { dst := some 46, op := Op.move (Operand.tmp 1), type := 3, pos := "l06_point.go:146", after := #[{ on := 2, ground := Ground.guard }, { on := 8, ground := Ground.gcOnly Departure.lateStores }], guard := some (2, true) }
abbrev qOk10 : Oper := { dst := some 47, op := Op.binOp BinOp.eql 3 (Operand.tmp 45) (Operand.tmp 46) 3, type := 4, pos := "l06_point.go:146", after := #[{ on := 4, ground := Ground.data }, { on := 5, ground := Ground.data }, { on := 2, ground := Ground.guard }, { on := 8, ground := Ground.gcOnly Departure.lateStores }], guard := some (2, true) }
abbrev qOk11 : Oper := { dst := some 48, op := Op.pick (Operand.tmp 43) (Operand.tmp 47) (Operand.const (Value.bool false)), type := 4, pos := "l06_point.go:146", after := #[{ on := 2, ground := Ground.data }, { on := 6, ground := Ground.data }, { on := 8, ground := Ground.gcOnly Departure.lateStores }], guard := none }
abbrev qOk12 : Oper := { dst := none, op := Op.store 65 (Operand.tmp 4) (Operand.tmp 41), type := 0, pos := "l06_point.go:146", after := #[{ on := 0, ground := Ground.data }, { on := 4, ground := Ground.chain }, { on := 0, ground := Ground.phase }, { on := 1, ground := Ground.textOnly Departure.lateStores }, { on := 2, ground := Ground.textOnly Departure.lateStores }, { on := 3, ground := Ground.textOnly Departure.lateStores }, { on := 4, ground := Ground.textOnly Departure.lateStoresUnsure }, { on := 5, ground := Ground.textOnly Departure.lateStores }, { on := 6, ground := Ground.textOnly Departure.lateStores }, { on := 7, ground := Ground.textOnly Departure.lateStores }], guard := none }

def cvZ (x : List Int) (o : Int) : List Int := if x.getD 0 0 % 2 = o then x else red (val (lim 16 0) - val x)
def cvL (y : List Int) (o : Int) : List Int := if val y < P25519 then cvZ (rtR (sqx y)) o else Z16
def cvB (y : List Int) (o : Int) : Bool := decide (val y < P25519) && (rtOk (sqx y) && decide ((cvZ (rtR (sqx y)) o).getD 0 0 % 2 = o))
theorem rtR_fe (a : List Int) : feOk (rtR a) = true := by
 unfold rtR
 split
 ·exact (rt3_fe a).1
 ·decide
theorem cvZ_ok {x : List Int} (h : feOk x = true) (o : Int) : feOk (cvZ x o) = true := by
 unfold cvZ
 split
 ·exact h
 ·exact ok_red _
theorem cvL_len (y : List Int) (o : Int) : (cvL y o).length = 16 := by
 unfold cvL
 split
 ·exact feOk_len (cvZ_ok (rtR_fe _) o)
 ·rfl
theorem cvB_ok {y : List Int} {o : Int} (ho : o = 0 ∨ o = 1) : cvB y o = (decide (val y < P25519) && okR y o) ∧ (cvB y o = true → cvL y o = xR y o) := by
 obtain ⟨h1, h2⟩ := rt3_fe (sqx y)
 have hl := low_val (feOk_len h1)
 have hz0 : val (lim 16 0) = 0 := by decide
 by_cases hp : val y < P25519
 rotate_left
 ·unfold cvB; simp [hp]
 by_cases hk : rtOk (sqx y) = true
 rotate_left
 ·have hk' : rtOk (sqx y) = false := by simpa using hk
  unfold cvB okR; simp [hk']
 have hR : rtR (sqx y) = rt3 (sqx y) := by unfold rtR; rw [if_pos hk]
 have hb : (rt3 (sqx y)).getD 0 0 % 2 = 0 := by omega
 rcases ho with rfl | rfl
 ·have e : cvZ (rt3 (sqx y)) 0 = rt3 (sqx y) := by unfold cvZ; rw [if_pos hb]
  refine ⟨?_, fun _ => ?_⟩
  ·unfold cvB okR; rw [hR, e, hb]; simp
  ·unfold cvL xR; rw [if_pos hp, hR, e, if_neg (by decide)]
 ·have e : cvZ (rt3 (sqx y)) 1 = red (val (lim 16 0) - val (rt3 (sqx y))) := by unfold cvZ; rw [if_neg (by omega)]
  by_cases hz : rt3 (sqx y) = Z16
  ·have e2 : (cvZ (rt3 (sqx y)) 1).getD 0 0 % 2 = 0 := by rw [e, hz]; decide
   refine ⟨?_, fun h => ?_⟩
   ·unfold cvB okR; rw [hR, e2, hz]; simp
   ·unfold cvB at h; rw [hR, e2] at h; simp at h
  ·have hok : okR y 1 = true := by unfold okR; rw [hk]; simp [hz]
   obtain ⟨k1, k2, k3⟩ := xR_ok hok
   rw [if_pos rfl] at k2
   have k4 := k3 (.inr rfl)
   have e3 : (cvZ (rt3 (sqx y)) 1).getD 0 0 % 2 = 1 := by rw [e, ← k2, ← low_val (feOk_len k1)]; exact k4
   refine ⟨?_, fun _ => ?_⟩
   ·unfold cvB; rw [hR, e3, hok, hk]; simp
   ·unfold cvL; rw [if_pos hp, hR, e, k2]

set_option maxHeartbeats 16000000 in
theorem implCurveX (y : List Int) (o : Int) (w : World) (ny : y.length = 16) (ly : Lm y) (hV : Vr w 4 (I64 PL)) (hD : Vr w 5 (I64 DL)) (hQ : Vr w 9 (I64 QL)) :
  Calls Tryz.prog 57 #[.agg (I64 y).toArray, .int .i64 o] w fun e w' => e = .returned (.tuple #[.agg (I64 (cvL y o)).toArray, .bool (cvB y o)]) ∧ Below w.heap.size w w' := by
 obtain ⟨p, hp⟩ : ∃ p, p = decide (val y < P25519) := ⟨_, rfl⟩
 have HBL : Hid (∀ Z, Calls Tryz.prog 97 #[.agg (I64 y).toArray, .agg (I64 PL).toArray] Z fun e w' => e = .returned (.bool p) ∧ Below Z.heap.size Z w') := by
  unfold Hid; intro Z; have := implBelow y PL Z ny PL_len ly PL_lm; rw [PL_val, ← hp] at this; exact this
 obtain ⟨yy, eyy⟩ : ∃ x_, x_ = red (val y * val y) := ⟨_, rfl⟩
 have kyy : feOk yy = true := by rw [eyy]; exact ok_red _
 obtain ⟨ov, eov⟩ : ∃ x_, x_ = ovr y := ⟨_, rfl⟩
 have kov : feOk ov = true := by rw [eov]; exact ok_red _
 obtain ⟨dy, edy⟩ : ∃ x_, x_ = red (val DL * val yy) := ⟨_, rfl⟩
 have kdy : feOk dy = true := by rw [edy]; exact ok_red _
 obtain ⟨un, eun⟩ : ∃ x_, x_ = und y := ⟨_, rfl⟩
 have kun : feOk un = true := by rw [eun]; exact ok_red _
 obtain ⟨iv, eiv⟩ : ∃ x_, x_ = invF un := ⟨_, rfl⟩
 have kiv : feOk iv = true := by rw [eiv]; exact inv_ok _
 obtain ⟨s, es⟩ : ∃ x_, x_ = sqx y := ⟨_, rfl⟩
 have ks : feOk s = true := by rw [es]; exact ok_red _
 have eov2 : ov = red (val yy - val (lim 16 1)) := by rw [eov, eyy]; rfl
 have eun2 : un = red (val dy + val (lim 16 1)) := by rw [eun, edy, eyy]; rfl
 have es2 : s = red (val ov * val iv) := by rw [es, eov, eiv, eun]; rfl
 obtain ⟨x, ex⟩ : ∃ x, x = rtR s := ⟨_, rfl⟩
 obtain ⟨ok, eok⟩ : ∃ b, b = rtOk s := ⟨_, rfl⟩
 have kx : feOk x = true := by rw [ex]; exact rtR_fe s
 obtain ⟨m, em⟩ : ∃ m, m = red (val (lim 16 0) - val x) := ⟨_, rfl⟩
 have km : feOk m = true := by rw [em]; exact ok_red _
 obtain ⟨R, hR⟩ : ∃ R, R = cvL y o := ⟨_, rfl⟩
 obtain ⟨rb, hrb⟩ : ∃ b, b = cvB y o := ⟨_, rfl⟩
 have HF : Hid (p = false → R = Z16 ∧ rb = false) := by
  unfold Hid; intro h; rw [hp] at h; have h1 := of_decide_eq_false h; rw [hR, hrb]; unfold cvL cvB; rw [if_neg h1, h]; exact ⟨rfl, rfl⟩
 have HT : Hid (p = true → R = (if x.getD 0 0 % 2 = o then x else m) ∧ rb = (ok && decide ((if x.getD 0 0 % 2 = o then x else m).getD 0 0 % 2 = o))) := by
  unfold Hid; intro h; rw [hp] at h; have h1 := of_decide_eq_true h; rw [hR, hrb, em, ex, eok, es]; unfold cvL cvB; rw [if_pos h1, h]; exact ⟨rfl, rfl⟩
 have HYY : Hid (p = true → feOk y = true) := by unfold Hid; intro h; rw [hp] at h; exact (feOk_iff _).2 ⟨ny, ly, of_decide_eq_true h⟩
 have Hyy : Hid (p = true → ∀ Z, Vr Z 4 (I64 PL) → Calls Tryz.prog 98 #[.agg (I64 y).toArray, .agg (I64 y).toArray] Z fun e w' => e = .returned (.agg (I64 yy).toArray) ∧ Below Z.heap.size Z w') := by
  unfold Hid; intro h Z hZ; rw [eyy]; exact mulI (HYY.out h) (HYY.out h) Z hZ
 have Hov : Hid (∀ Z, Vr Z 4 (I64 PL) → Calls Tryz.prog 99 #[.agg (I64 yy).toArray, .agg (I64 [1, 0, 0, 0, 0, 0, 0, 0, 0, 0, 0, 0, 0, 0, 0, 0]).toArray] Z fun e w' => e = .returned (.agg (I64 ov).toArray) ∧ Below Z.heap.size Z w') := by
  unfold Hid; intro Z hZ; rw [eov2, ← one_lim]; exact subI kyy one_ok Z hZ
 have Hun : Hid (∀ Z, Vr Z 4 (I64 PL) → Calls Tryz.prog 100 #[.agg (I64 dy).toArray, .agg (I64 [1, 0, 0, 0, 0, 0, 0, 0, 0, 0, 0, 0, 0, 0, 0, 0]).toArray] Z fun e w' => e = .returned (.agg (I64 un).toArray) ∧ Below Z.heap.size Z w') := by
  unfold Hid; intro Z hZ; rw [eun2, ← one_lim]; exact sumI kdy one_ok Z hZ
 have Hdy : Hid (∀ Z, Vr Z 4 (I64 PL) → Calls Tryz.prog 98 #[.agg (I64 DL).toArray, .agg (I64 yy).toArray] Z fun e w' => e = .returned (.agg (I64 dy).toArray) ∧ Below Z.heap.size Z w') := by
  unfold Hid; intro Z hZ; rw [edy]; exact mulI DL_ok kyy Z hZ
 have Hs : Hid (∀ Z, Vr Z 4 (I64 PL) → Calls Tryz.prog 98 #[.agg (I64 ov).toArray, .agg (I64 iv).toArray] Z fun e w' => e = .returned (.agg (I64 s).toArray) ∧ Below Z.heap.size Z w') := by
  unfold Hid; intro Z hZ; rw [es2]; exact mulI kov kiv Z hZ
 have Hiv : Hid (∀ Z, Vr Z 4 (I64 PL) → Calls Tryz.prog 101 #[.agg (I64 un).toArray] Z fun e w' => e = .returned (.agg (I64 iv).toArray) ∧ Below Z.heap.size Z w') := by unfold Hid; intro Z hZ; rw [eiv]; exact implInverse un Z kun hZ
 have Hrt : Hid (∀ Z, Vr Z 4 (I64 PL) → Vr Z 9 (I64 QL) → Calls Tryz.prog 102 #[.agg (I64 s).toArray] Z fun e w' => e = .returned (.tuple #[.agg (I64 x).toArray, .bool ok]) ∧ Below Z.heap.size Z w') := by unfold Hid; intro Z hZ hZ2; rw [ex, eok]; exact implRoot16 s Z ks hZ hZ2
 have Hop : Hid (∀ Z, Vr Z 4 (I64 PL) → Calls Tryz.prog 103 #[.agg (I64 x).toArray] Z fun e w' => e = .returned (.agg (I64 m).toArray) ∧ Below Z.heap.size Z w') := by unfold Hid; intro Z hZ; rw [em]; exact implOpposite x Z kx hZ
 obtain ⟨bx, ebx⟩ : ∃ b, b = x.getD 0 0 % 2 := ⟨_, rfl⟩
 have Hbx : Hid (∀ Z, Calls Tryz.prog 42 #[.agg (I64 x).toArray, .int .i64 0] Z fun e w' => e = .returned (.int .i64 bx) ∧ Below Z.heap.size Z w') := by
  unfold Hid; intro Z; have := implBit x 0 Z (feOk_len kx) (feOk_lm' kx) (by omega); simpa [ebx] using this
 obtain ⟨bm, ebm⟩ : ∃ b, b = m.getD 0 0 % 2 := ⟨_, rfl⟩
 have Hbm : Hid (∀ Z, Calls Tryz.prog 42 #[.agg (I64 m).toArray, .int .i64 0] Z fun e w' => e = .returned (.int .i64 bm) ∧ Below Z.heap.size Z w') := by
  unfold Hid; intro Z; have := implBit m 0 Z (feOk_len km) (feOk_lm' km) (by omega); simpa [ebm] using this
 rw [← ebx] at HT
 have HT1 : Hid (p = true → bx = o → R = x ∧ rb = ok) := by unfold Hid; intro h h2; obtain ⟨t1, t2⟩ := HT.out h; rw [if_pos h2] at t1 t2; rw [← ebx, h2] at t2; exact ⟨t1, by rw [t2]; simp⟩
 have HT2 : Hid (p = true → ¬ bx = o → R = m ∧ rb = (ok && decide (bm = o))) := by unfold Hid; intro h h2; obtain ⟨t1, t2⟩ := HT.out h; rw [if_neg h2] at t1 t2; rw [← ebm] at t2; exact ⟨t1, t2⟩
 rw [← hR, ← hrb]
 have jyy := infoL' kyy
 have iiyy := infoLl kyy
 have nyy := feOk_len kyy
 have uyy := one_lm yy
 have jov := infoL' kov
 have iiov := infoLl kov
 have nov := feOk_len kov
 have uov := one_lm ov
 have jun := infoL' kun
 have iiun := infoLl kun
 have nun := feOk_len kun
 have uun := one_lm un
 have jx := infoL' kx
 have iix := infoLl kx
 have nx := feOk_len kx
 have ux := one_lm x
 have jm := infoL' km
 have iim := infoLl km
 have nm := feOk_len km
 have um := one_lm m
 have jy : (Tryz.prog.info? 65).map (·.size) = some (I64 y).toArray.size := by simpa [ny] using infoL
 have iDL := infoLl DL_ok
 have hip : (Tryz.prog.info? 65).map (·.size) = some (I64 PL).toArray.size := infoL
 have hz : (Tryz.prog.info? 65).map (·.size) = some (I64 Z16).toArray.size := infoL
 have hu : Tryz.prog.underlying 65 = some (.array 16 3) := Tryz.underlying65
 obtain ⟨A0, hA0⟩ : ∃ A, A = (I64 y).toArray := ⟨_, rfl⟩
 obtain ⟨W, hW⟩ : ∃ W, W = (w.alloc (.cells A0 65)).alloc (.cells zV 65) := ⟨_, rfl⟩
 have fr : Below w.heap.size w W := by rw [hW]; exact (((Below.refl _ _).alloc (Nat.le_refl _) _).alloc (by simp) _)
 have pa : Arr W w.heap.size 65 (I64 y) := by
  rw [hW, hA0]
  have := (Arr.new (w) (I64 y) 65).alloc (.cells zV 65)
  exact this
 have pr : Arr W (w.heap.size + 1) 65 (I64 Z16) := by
  rw [hW, hA0]
  have := Arr.new (w.alloc (.cells (I64 y).toArray 65)) (I64 Z16) 65
  rw [World.size_alloc] at this
  exact this
 have h0P := hV.lt
 have vP := hV.kept fr
 have h0D := hD.lt
 have vD := hD.kept fr
 have h0Q := hQ.lt
 have vQ := hQ.kept fr
 rw [← hA0]
 clear hA0
 clear hV hD hQ
 clear hp hR hrb HT ex eok em ebx ebm kx km eov2 eun2 es2 eyy kyy eov kov edy kdy eun kun eiv kiv es ks
 go_enter Tryz.func57, Tryz.ntmps57
 go_upto_region 1 with fail
 rw [← hW]
 clear hW
 obtain ⟨gt, gz, hg⟩ := vP
 go_wp2_with (first
   | (refine wpList_load_row rfl 65 _ rfl w.heap.size rfl 65 (I64 y).toArray (0, 0) _ pa Tryz.underlying65 rfl jy ?_)
   | (refine wpList_load_row rfl 65 _ rfl 4 rfl gt (I64 PL).toArray gz _ hg Tryz.underlying65 rfl hip ?_))
 have vP : Vr W 4 (I64 PL) := ⟨gt, gz, hg⟩
 clear hg
 refine (HBL.out _).mono ?_
 rintro e y1 ⟨rfl, hb1⟩
 replace fr := fr.trans (hb1.mono fr.size)
 replace pa := pa.kept hb1
 replace pr := pr.kept hb1
 replace vP := vP.kept hb1
 replace vD := vD.kept hb1
 replace vQ := vQ.kept hb1
 clear hb1
 cases p with
 | false =>
  have h2 := pr.row (I64 Z16)
  have HB : Hid _ := setRow_below fr (w.heap.size + 1) (I64 Z16).toArray (by omega)
  have hF : Hid (R = Z16 ∧ rb = false) := HF.out (by simp)
  go_wp2_with (refine wpList_store_row rfl 65 _ _ rfl (w.heap.size + 1) (I64 Z16).toArray rfl rfl 65 _ pr hz (by simp []) (by simp [Value.oneCell']) ?_)
  exact bodyPost_ret (results_row_tmp (v := .bool false) (cs := I64 Z16) rfl rfl rfl h2 Tryz.underlying65 rfl hz) rfl ⟨by rw [hF.out.1, hF.out.2], HB.out⟩
 | true =>
  go_wp2_with (refine wpList_load_row rfl 65 _ rfl w.heap.size rfl 65 (I64 y).toArray (0, 0) _ pa Tryz.underlying65 rfl jy ?_)
  refine (Hyy.out (by simp) _ vP).mono ?_
  rintro e y2 ⟨rfl, hb2⟩
  replace fr := fr.trans (hb2.mono fr.size)
  replace pa := pa.kept hb2
  replace pr := pr.kept hb2
  replace vP := vP.kept hb2
  replace vD := vD.kept hb2
  replace vQ := vQ.kept hb2
  clear hb2
  have hXyy : w.heap.size < y2.heap.size ∧ (w.heap.size + 1) < y2.heap.size ∧ w.heap.size ≤ y2.heap.size := ⟨pa.lt, pr.lt, fr.size⟩
  obtain ⟨bV, Ayy, q1⟩ := laid_lm y2 yy
  replace fr := fr.trans (bV.mono fr.size)
  replace pa := pa.kept bV
  replace pr := pr.kept bV
  replace vP := vP.kept bV
  replace vD := vD.kept bV
  replace vQ := vQ.kept bV
  go_upto_region 4 with (refine wpList_store_row rfl 65 _ _ rfl y2.heap.size (I64 yy).toArray rfl rfl 65 _ q1 jyy (by simp [nyy]) (by simp [Value.oneCell']) ?_)
  obtain ⟨V3, hVV⟩ : ∃ V, V = (y2.alloc (.cells zV 65)).setRow y2.heap.size (I64 yy).toArray := ⟨_, rfl⟩
  obtain ⟨Xyy, hE⟩ : ∃ E, E = y2.heap.size := ⟨_, rfl⟩
  rw [← hVV] at fr pa pr vP vD vQ Ayy ⊢
  rw [← hE] at Ayy hXyy ⊢
  clear hVV hE q1 bV
  clear pa
  try simp only [Act.put]
  refine tame [kc 19 (.agg (I64 yy).toArray), kc 20 (.agg (I64 [1, 0, 0, 0, 0, 0, 0, 0, 0, 0, 0, 0, 0, 0, 0, 0]).toArray), kc 21 (.agg (I64 ov).toArray), kc 22 (.agg (I64 DL).toArray), kc 23 (.agg (I64 yy).toArray), kc 24 (.agg (I64 dy).toArray), kc 25 (.agg (I64 [1, 0, 0, 0, 0, 0, 0, 0, 0, 0, 0, 0, 0, 0, 0, 0]).toArray), kc 26 (.agg (I64 un).toArray), ka 7 65 (I64 Z16), ka 8 65 (I64 Z16)] 10 (by kernel_rfl) (by kernel_rfl) (by kernel_rfl) (by repeat' first | exact trivial | apply kc_keeps | apply ka_keeps | constructor) 2 (by kernel_rfl) (fun vv1 ll1 hh1 yW b => ?_) (fun vv1 ll1 hh1 yW b F ivh aph => ?_)
  ·skip
   replace fr := fr.trans (b.mono fr.size)
   replace pr := pr.kept b
   replace vP := vP.kept b
   replace vD := vD.kept b
   replace vQ := vQ.kept b
   replace Ayy := Ayy.kept b
   exact ⟨tl (arr_range Ayy) iiyy hu (by kernel_rfl),
    tp (by kernel_rfl),
    tc (Hov.out _ vP) (by kernel_rfl),
    tl (vr_range vD) iDL hu (by kernel_rfl),
    tl (arr_range Ayy) iiyy hu (by kernel_rfl),
    tc (Hdy.out _ vP) (by kernel_rfl),
    tp (by kernel_rfl),
    tc (Hun.out _ vP) (by kernel_rfl),
    ta (by kernel_rfl),
    ta (by kernel_rfl), trivial⟩
  obtain ⟨y4, hy⟩ : ∃ z, z = yW := ⟨_, rfl⟩
  rw [← hy] at b F ivh ⊢
  clear hy
  have oq : (w.heap.size + 1) < V3.heap.size ∧ Xyy < V3.heap.size ∧ w.heap.size ≤ V3.heap.size := ⟨pr.lt, Ayy.lt, fr.size⟩
  replace fr := fr.trans (b.mono fr.size)
  replace pr := pr.kept b
  replace vP := vP.kept b
  replace vD := vD.kept b
  replace vQ := vQ.kept b
  replace Ayy := Ayy.kept b
  obtain ⟨-, -, -, -, -, -, -, -, ⟨Aov, gXov⟩, ⟨Aun, gXun⟩, -⟩ := F
  have iXov := ivh 8 (by decide)
  have iXun := ivh 9 (by decide)
  have pXovXun := aph 8 9 (by decide) (by decide) (by decide)
  replace Aov : Arr y4 (ll1 8) 65 (I64 Z16) := Aov
  replace gXov : ll1 8 < hh1 8 := gXov
  have lXov := Aov.lt
  replace Aun : Arr y4 (ll1 9) 65 (I64 Z16) := Aun
  replace gXun : ll1 9 < hh1 9 := gXun
  have lXun := Aun.lt
  refine st_row (i := 10) (by kernel_rfl) rfl rfl rfl rfl Aov (by kernel_rfl) (by kernel_rfl) (by simp [nov]) jov uov ?_
  replace fr := bel_sc fr (ll1 8) (I64 ov) (by omega)
  replace pr := pr.sc (ll1 8) (I64 ov) (by omega)
  replace vP := vP.sc (ll1 8) (I64 ov) (by omega)
  replace vD := vD.sc (ll1 8) (I64 ov) (by omega)
  replace vQ := vQ.sc (ll1 8) (I64 ov) (by omega)
  replace Ayy := Ayy.sc (ll1 8) (I64 ov) (by omega)
  replace Aov := Aov.sc0 (I64 ov) (by simp [nov])
  replace Aun := Aun.sc (ll1 8) (I64 ov) (by omega)
  obtain ⟨V5, hVe⟩ : ∃ V, V = y4.setCells (ll1 8) 0 (I64 ov) := ⟨_, rfl⟩
  rw [← hVe] at fr pr vP vD vQ Ayy Aov Aun ⊢
  clear hVe
  refine st_row (i := 11) (by kernel_rfl) rfl rfl rfl rfl Aun (by kernel_rfl) (by kernel_rfl) (by simp [nun]) jun uun ?_
  replace fr := bel_sc fr (ll1 9) (I64 un) (by omega)
  replace pr := pr.sc (ll1 9) (I64 un) (by omega)
  replace vP := vP.sc (ll1 9) (I64 un) (by omega)
  replace vD := vD.sc (ll1 9) (I64 un) (by omega)
  replace vQ := vQ.sc (ll1 9) (I64 un) (by omega)
  replace Ayy := Ayy.sc (ll1 9) (I64 un) (by omega)
  replace Aov := Aov.sc (ll1 9) (I64 un) (by omega)
  replace Aun := Aun.sc0 (I64 un) (by simp [nun])
  obtain ⟨V6, hVe⟩ : ∃ V, V = V5.setCells (ll1 9) 0 (I64 un) := ⟨_, rfl⟩
  rw [← hVe] at fr pr vP vD vQ Ayy Aov Aun ⊢
  clear hVe
  refine wpAny_done (by kernel_rfl) ?_ _
  simp only [fillK, putT, List.setIfInBounds_toArray, List.set_cons_zero, List.set_cons_succ]
  have qXov : (w.heap.size + 1) < ll1 8 ∧ Xyy < ll1 8 ∧ w.heap.size ≤ ll1 8 := by omega
  have qXun : (w.heap.size + 1) < ll1 9 ∧ Xyy < ll1 9 ∧ w.heap.size ≤ ll1 9 ∧ ll1 8 ≠ ll1 9 := by omega
  clear iXov gXov lXov iXun gXun lXun pXovXun
  generalize ll1 8 = Xov at *
  generalize ll1 9 = Xun at *
  clear ivh aph b oq
  go_wp2
  clear Ayy
  try simp only [Act.put]
  go_cut [9, 10] from 11 (fun s9 s10 wc => ∃ (Xx : Nat), s9 = .pointer (some ⟨Xx, 0, none⟩) ∧ s10 = .bool ok ∧ Arr wc Xx 65 (I64 x) ∧ Below w.heap.size w wc ∧ Arr wc (w.heap.size + 1) 65 (I64 Z16) ∧ Vr wc 4 (I64 PL) ∧ Vr wc 5 (I64 DL) ∧ Vr wc 9 (I64 QL) ∧ Arr wc Xov 65 (I64 ov) ∧ Arr wc Xun 65 (I64 un) ∧ w.heap.size + 1 < Xx)
  case first =>
   have bD : Below V6.heap.size V6 V6.drew := (Below.refl _ _).drew
   replace fr := fr.trans (bD.mono fr.size)
   replace pr := pr.kept bD
   replace vP := vP.kept bD
   replace vD := vD.kept bD
   replace vQ := vQ.kept bD
   replace Aov := Aov.kept bD
   replace Aun := Aun.kept bD
   clear bD
   refine wp_region_held_drew (S := fun W => W.rangeAt Xov 0 (I64 ov) ∧ W.rangeAt Xun 0 (I64 un)) (by kernel_rfl) ⟨arr_range Aov, arr_range Aun⟩ (fun hHeld => ?_)
   obtain ⟨D7, hD⟩ : ∃ V, V = V6.drew := ⟨_, rfl⟩
   rw [← hD] at hHeld fr pr vP vD vQ Aov Aun ⊢
   clear hD
   refine wpAnyH_take (i := 0) (oi := { dst := some 28, op := Op.load 65 (Operand.tmp 7), type := 65, pos := "l06_point.go:141", after := #[], guard := none }) (v := _) rfl (by kernel_rfl) (by kernel_rfl) (by kernel_rfl) (fun _ _ _ h => h) (yieldsIf_load_mid (by rfl) _ _ rfl _ _ rfl (I64 ov) _ (fun _ h => h.1) hu rfl iiov) (by assumption) ?_
   simp only [aP]
   refine wpAnyH_take (i := 1) (oi := { dst := some 29, op := Op.load 65 (Operand.tmp 8), type := 65, pos := "l06_point.go:141", after := #[], guard := none }) (v := _) rfl (by kernel_rfl) (by kernel_rfl) (by kernel_rfl) (fun _ _ _ h => h) (yieldsIf_load_mid (by rfl) _ _ rfl _ _ rfl (I64 un) _ (fun _ h => h.2) hu rfl iiun) (by assumption) ?_
   simp only [aP]
   refine wpAnyH_ready (rs := [2, 8]) (by kernel_rfl) (by simp) (AllReadyH.cons (o := { dst := some 30, op := Op.call { callee := Callee.value (Operand.func 101), args := #[Operand.tmp 29], argTypes := #[65] }, type := 65, pos := "l06_point.go:141", after := #[{ on := 1, ground := Ground.data }], guard := none }) rfl (fun K hK => ?_) (AllReadyH.cons (o := { dst := some 9, op := Op.alloc 65, type := 0, pos := "l06_point.go:141", after := #[], guard := none }) rfl (fun K hK => ?_) AllReadyH.nil))
   ·skip
    go_simp
    refine (Hiv.out _ vP).mono ?_
    rintro e y8 ⟨rfl, hb8⟩
    replace fr := fr.trans (hb8.mono fr.size)
    replace pr := pr.kept hb8
    replace vP := vP.kept hb8
    replace vD := vD.kept hb8
    replace vQ := vQ.kept hb8
    replace Aov := Aov.kept hb8
    replace Aun := Aun.kept hb8
    clear hb8
    go_wp2_with fail
    refine hK.out _ _ ⟨arr_range Aov, arr_range Aun⟩ (fun hHeld => ?_)
    clear hK K
    refine wpAnyH_ready (rs := [3, 8]) (by kernel_rfl) (by simp) (AllReadyH.cons (o := { dst := some 31, op := Op.call { callee := Callee.value (Operand.func 98), args := #[Operand.tmp 28, Operand.tmp 30], argTypes := #[65, 65] }, type := 65, pos := "l06_point.go:141", after := #[{ on := 0, ground := Ground.data }, { on := 2, ground := Ground.data }, { on := 2, ground := Ground.chain }], guard := none }) rfl (fun K hK => ?_) (AllReadyH.cons (o := { dst := some 9, op := Op.alloc 65, type := 0, pos := "l06_point.go:141", after := #[], guard := none }) rfl (fun K hK => ?_) AllReadyH.nil))
    ·skip
     go_simp
     refine (Hs.out _ vP).mono ?_
     rintro e y9 ⟨rfl, hb9⟩
     replace fr := fr.trans (hb9.mono fr.size)
     replace pr := pr.kept hb9
     replace vP := vP.kept hb9
     replace vD := vD.kept hb9
     replace vQ := vQ.kept hb9
     replace Aov := Aov.kept hb9
     replace Aun := Aun.kept hb9
     clear hb9
     go_wp2_with fail
     refine hK.out _ _ ⟨arr_range Aov, arr_range Aun⟩ (fun hHeld => ?_)
     clear hK K
     refine wpAnyH_ready (rs := [4, 8]) (by kernel_rfl) (by simp) (AllReadyH.cons (o := { dst := some 32, op := Op.call { callee := Callee.value (Operand.func 102), args := #[Operand.tmp 31], argTypes := #[65] }, type := 88, pos := "l06_point.go:141", after := #[{ on := 3, ground := Ground.data }, { on := 3, ground := Ground.chain }], guard := none }) rfl (fun K hK => ?_) (AllReadyH.cons (o := { dst := some 9, op := Op.alloc 65, type := 0, pos := "l06_point.go:141", after := #[], guard := none }) rfl (fun K hK => ?_) AllReadyH.nil))
     ·skip
      go_simp
      refine (Hrt.out _ vP vQ).mono ?_
      rintro e y10 ⟨rfl, hb10⟩
      replace fr := fr.trans (hb10.mono fr.size)
      replace pr := pr.kept hb10
      replace vP := vP.kept hb10
      replace vD := vD.kept hb10
      replace vQ := vQ.kept hb10
      replace Aov := Aov.kept hb10
      replace Aun := Aun.kept hb10
      clear hb10
      go_wp2_with fail
      refine hK.out _ _ ⟨arr_range Aov, arr_range Aun⟩ (fun hHeld => ?_)
      clear hK K
      refine wpAnyH_take (i := 5) (oi := qOk0) (v := .tuple #[.agg (I64 x).toArray, .bool ok]) rfl (by kernel_rfl) (by kernel_rfl) (by kernel_rfl) (fun _ _ _ h => h) (.inl ⟨by rfl, fun _ _ => by rfl⟩) (by assumption) ?_
      simp only [aP]
      refine wpAnyH_take (i := 6) (oi := qOk1) (v := .agg (I64 x).toArray) rfl (by kernel_rfl) (by kernel_rfl) (by kernel_rfl) (fun _ _ _ h => h) (.inl ⟨by rfl, fun _ _ => by rfl⟩) (by assumption) ?_
      simp only [aP]
      refine wpAnyH_take (i := 7) (oi := qOk2) (v := .bool ok) rfl (by kernel_rfl) (by kernel_rfl) (by kernel_rfl) (fun _ _ _ h => h) (.inl ⟨by rfl, fun _ _ => by rfl⟩) (by assumption) ?_
      simp only [aP]
      refine wpAnyH_ready (rs := [8]) (by kernel_rfl) (by simp) (AllReadyH.cons (o := { dst := some 9, op := Op.alloc 65, type := 0, pos := "l06_point.go:141", after := #[], guard := none }) rfl (fun K hK => ?_) AllReadyH.nil)
      go_simp
      obtain ⟨V11, hVe⟩ : ∃ V, V = y10.alloc (.cells zV 65) := ⟨_, rfl⟩
      have bV : Below y10.heap.size y10 V11 := by rw [hVe]; exact (Below.refl _ _).alloc (Nat.le_refl _) _
      have Ax : Arr V11 y10.heap.size 65 (I64 Z16) := by rw [hVe]; exact Arr.new _ (I64 Z16) _
      have hXx : (w.heap.size + 1) < y10.heap.size ∧ Xov < y10.heap.size ∧ Xun < y10.heap.size ∧ True := ⟨pr.lt, Aov.lt, Aun.lt, trivial⟩
      obtain ⟨Xx, hXe⟩ : ∃ X, X = y10.heap.size := ⟨_, rfl⟩
      replace fr := fr.trans (bV.mono fr.size)
      replace pr := pr.kept bV
      replace vP := vP.kept bV
      replace vD := vD.kept bV
      replace vQ := vQ.kept bV
      replace Aov := Aov.kept bV
      replace Aun := Aun.kept bV
      rw [← hVe]
      rw [← hXe] at Ax hXx ⊢
      clear hVe hXe bV
      refine hK.out _ _ ⟨arr_range Aov, arr_range Aun⟩ (fun hHeld => ?_)
      clear hK K
      refine wpAnyH_ready (rs := [9]) (by kernel_rfl) (by simp) (AllReadyH.cons (o := qOk3) rfl (fun K hK => ?_) AllReadyH.nil)
      rw [if_pos (by rfl)]
      refine wp_store_mid _ _ _ rfl _ _ (I64 x).toArray rfl rfl (by have := arr_there Ax; simpa [nx] using this) jx (all_oneCell_toArray ux) ?_
      simp only [Act.put]
      replace fr := bel_sc fr Xx (I64 x) (by omega)
      replace pr := pr.sc Xx (I64 x) (by omega)
      replace vP := vP.sc Xx (I64 x) (by omega)
      replace vD := vD.sc Xx (I64 x) (by omega)
      replace vQ := vQ.sc Xx (I64 x) (by omega)
      replace Aov := Aov.sc Xx (I64 x) (by omega)
      replace Aun := Aun.sc Xx (I64 x) (by omega)
      replace Ax := Ax.sc0 (I64 x) (by simp [nx])
      obtain ⟨V12, hVe⟩ : ∃ V, V = V11.setCells Xx 0 (I64 x) := ⟨_, rfl⟩
      rw [← hVe] at fr pr vP vD vQ Aov Aun Ax ⊢
      clear hVe
      refine hK.out _ _ ⟨arr_range Aov, arr_range Aun⟩ (fun hHeld => ?_)
      clear hK K
      refine wpAnyH_ready (rs := [10]) (by kernel_rfl) (by simp) (AllReadyH.cons (o := { dst := some 10, op := Op.assign (Operand.tmp 34), type := 4, pos := "l06_point.go:141", after := #[{ on := 7, ground := Ground.data }, { on := 9, ground := Ground.chain }, { on := 0, ground := Ground.phase }, { on := 1, ground := Ground.phase }, { on := 2, ground := Ground.phase }, { on := 3, ground := Ground.phase }, { on := 4, ground := Ground.phase }, { on := 5, ground := Ground.phase }, { on := 6, ground := Ground.phase }, { on := 7, ground := Ground.phase }, { on := 8, ground := Ground.phase }, { on := 9, ground := Ground.phase }], guard := none }) rfl (fun K hK => ?_) AllReadyH.nil)
      go_simp
      refine hK.out _ _ ⟨arr_range Aov, arr_range Aun⟩ (fun hHeld => ?_)
      clear hK K
      refine wpAnyH_done (by kernel_rfl) ?_ _
      go_wp2
      go_meet
      case rel => exact ⟨Xx, rfl, rfl, Ax, fr, pr, vP, vD, vQ, Aov, Aun, (by omega)⟩
     ·skip
      go_simp
      obtain ⟨V13, hVe⟩ : ∃ V, V = y9.alloc (.cells zV 65) := ⟨_, rfl⟩
      have bV : Below y9.heap.size y9 V13 := by rw [hVe]; exact (Below.refl _ _).alloc (Nat.le_refl _) _
      have Ax : Arr V13 y9.heap.size 65 (I64 Z16) := by rw [hVe]; exact Arr.new _ (I64 Z16) _
      have hXx : (w.heap.size + 1) < y9.heap.size ∧ Xov < y9.heap.size ∧ Xun < y9.heap.size ∧ True := ⟨pr.lt, Aov.lt, Aun.lt, trivial⟩
      obtain ⟨Xx, hXe⟩ : ∃ X, X = y9.heap.size := ⟨_, rfl⟩
      replace fr := fr.trans (bV.mono fr.size)
      replace pr := pr.kept bV
      replace vP := vP.kept bV
      replace vD := vD.kept bV
      replace vQ := vQ.kept bV
      replace Aov := Aov.kept bV
      replace Aun := Aun.kept bV
      rw [← hVe]
      rw [← hXe] at Ax hXx ⊢
      clear hVe hXe bV
      refine hK.out _ _ ⟨arr_range Aov, arr_range Aun⟩ (fun hHeld => ?_)
      clear hK K
      refine wpAnyH_ready (rs := [4]) (by kernel_rfl) (by simp) (AllReadyH.cons (o := { dst := some 32, op := Op.call { callee := Callee.value (Operand.func 102), args := #[Operand.tmp 31], argTypes := #[65] }, type := 88, pos := "l06_point.go:141", after := #[{ on := 3, ground := Ground.data }, { on := 3, ground := Ground.chain }], guard := none }) rfl (fun K hK => ?_) AllReadyH.nil)
      go_simp
      refine (Hrt.out _ vP vQ).mono ?_
      rintro e y14 ⟨rfl, hb14⟩
      replace fr := fr.trans (hb14.mono fr.size)
      replace pr := pr.kept hb14
      replace vP := vP.kept hb14
      replace vD := vD.kept hb14
      replace vQ := vQ.kept hb14
      replace Aov := Aov.kept hb14
      replace Aun := Aun.kept hb14
      replace Ax := Ax.kept hb14
      clear hb14
      go_wp2_with fail
      refine hK.out _ _ ⟨arr_range Aov, arr_range Aun⟩ (fun hHeld => ?_)
      clear hK K
      refine wpAnyH_take (i := 5) (oi := qOk0) (v := .tuple #[.agg (I64 x).toArray, .bool ok]) rfl (by kernel_rfl) (by kernel_rfl) (by kernel_rfl) (fun _ _ _ h => h) (.inl ⟨by rfl, fun _ _ => by rfl⟩) (by assumption) ?_
      simp only [aP]
      refine wpAnyH_take (i := 6) (oi := qOk1) (v := .agg (I64 x).toArray) rfl (by kernel_rfl) (by kernel_rfl) (by kernel_rfl) (fun _ _ _ h => h) (.inl ⟨by rfl, fun _ _ => by rfl⟩) (by assumption) ?_
      simp only [aP]
      refine wpAnyH_take (i := 7) (oi := qOk2) (v := .bool ok) rfl (by kernel_rfl) (by kernel_rfl) (by kernel_rfl) (fun _ _ _ h => h) (.inl ⟨by rfl, fun _ _ => by rfl⟩) (by assumption) ?_
      simp only [aP]
      refine wpAnyH_ready (rs := [9]) (by kernel_rfl) (by simp) (AllReadyH.cons (o := qOk3) rfl (fun K hK => ?_) AllReadyH.nil)
      rw [if_pos (by rfl)]
      refine wp_store_mid _ _ _ rfl _ _ (I64 x).toArray rfl rfl (by have := arr_there Ax; simpa [nx] using this) jx (all_oneCell_toArray ux) ?_
      simp only [Act.put]
      replace fr := bel_sc fr Xx (I64 x) (by omega)
      replace pr := pr.sc Xx (I64 x) (by omega)
      replace vP := vP.sc Xx (I64 x) (by omega)
      replace vD := vD.sc Xx (I64 x) (by omega)
      replace vQ := vQ.sc Xx (I64 x) (by omega)
      replace Aov := Aov.sc Xx (I64 x) (by omega)
      replace Aun := Aun.sc Xx (I64 x) (by omega)
      replace Ax := Ax.sc0 (I64 x) (by simp [nx])
      obtain ⟨V15, hVe⟩ : ∃ V, V = y14.setCells Xx 0 (I64 x) := ⟨_, rfl⟩
      rw [← hVe] at fr pr vP vD vQ Aov Aun Ax ⊢
      clear hVe
      refine hK.out _ _ ⟨arr_range Aov, arr_range Aun⟩ (fun hHeld => ?_)
      clear hK K
      refine wpAnyH_ready (rs := [10]) (by kernel_rfl) (by simp) (AllReadyH.cons (o := { dst := some 10, op := Op.assign (Operand.tmp 34), type := 4, pos := "l06_point.go:141", after := #[{ on := 7, ground := Ground.data }, { on := 9, ground := Ground.chain }, { on := 0, ground := Ground.phase }, { on := 1, ground := Ground.phase }, { on := 2, ground := Ground.phase }, { on := 3, ground := Ground.phase }, { on := 4, ground := Ground.phase }, { on := 5, ground := Ground.phase }, { on := 6, ground := Ground.phase }, { on := 7, ground := Ground.phase }, { on := 8, ground := Ground.phase }, { on := 9, ground := Ground.phase }], guard := none }) rfl (fun K hK => ?_) AllReadyH.nil)
      go_simp
      refine hK.out _ _ ⟨arr_range Aov, arr_range Aun⟩ (fun hHeld => ?_)
      clear hK K
      refine wpAnyH_done (by kernel_rfl) ?_ _
      go_wp2
      go_meet
      case rel => exact ⟨Xx, rfl, rfl, Ax, fr, pr, vP, vD, vQ, Aov, Aun, (by omega)⟩
    ·skip
     go_simp
     obtain ⟨V16, hVe⟩ : ∃ V, V = y8.alloc (.cells zV 65) := ⟨_, rfl⟩
     have bV : Below y8.heap.size y8 V16 := by rw [hVe]; exact (Below.refl _ _).alloc (Nat.le_refl _) _
     have Ax : Arr V16 y8.heap.size 65 (I64 Z16) := by rw [hVe]; exact Arr.new _ (I64 Z16) _
     have hXx : (w.heap.size + 1) < y8.heap.size ∧ Xov < y8.heap.size ∧ Xun < y8.heap.size ∧ True := ⟨pr.lt, Aov.lt, Aun.lt, trivial⟩
     obtain ⟨Xx, hXe⟩ : ∃ X, X = y8.heap.size := ⟨_, rfl⟩
     replace fr := fr.trans (bV.mono fr.size)
     replace pr := pr.kept bV
     replace vP := vP.kept bV
     replace vD := vD.kept bV
     replace vQ := vQ.kept bV
     replace Aov := Aov.kept bV
     replace Aun := Aun.kept bV
     rw [← hVe]
     rw [← hXe] at Ax hXx ⊢
     clear hVe hXe bV
     refine hK.out _ _ ⟨arr_range Aov, arr_range Aun⟩ (fun hHeld => ?_)
     clear hK K
     refine wpAnyH_ready (rs := [3]) (by kernel_rfl) (by simp) (AllReadyH.cons (o := { dst := some 31, op := Op.call { callee := Callee.value (Operand.func 98), args := #[Operand.tmp 28, Operand.tmp 30], argTypes := #[65, 65] }, type := 65, pos := "l06_point.go:141", after := #[{ on := 0, ground := Ground.data }, { on := 2, ground := Ground.data }, { on := 2, ground := Ground.chain }], guard := none }) rfl (fun K hK => ?_) AllReadyH.nil)
     go_simp
     refine (Hs.out _ vP).mono ?_
     rintro e y17 ⟨rfl, hb17⟩
     replace fr := fr.trans (hb17.mono fr.size)
     replace pr := pr.kept hb17
     replace vP := vP.kept hb17
     replace vD := vD.kept hb17
     replace vQ := vQ.kept hb17
     replace Aov := Aov.kept hb17
     replace Aun := Aun.kept hb17
     replace Ax := Ax.kept hb17
     clear hb17
     go_wp2_with fail
     refine hK.out _ _ ⟨arr_range Aov, arr_range Aun⟩ (fun hHeld => ?_)
     clear hK K
     refine wpAnyH_ready (rs := [4]) (by kernel_rfl) (by simp) (AllReadyH.cons (o := { dst := some 32, op := Op.call { callee := Callee.value (Operand.func 102), args := #[Operand.tmp 31], argTypes := #[65] }, type := 88, pos := "l06_point.go:141", after := #[{ on := 3, ground := Ground.data }, { on := 3, ground := Ground.chain }], guard := none }) rfl (fun K hK => ?_) AllReadyH.nil)
     go_simp
     refine (Hrt.out _ vP vQ).mono ?_
     rintro e y18 ⟨rfl, hb18⟩
     replace fr := fr.trans (hb18.mono fr.size)
     replace pr := pr.kept hb18
     replace vP := vP.kept hb18
     replace vD := vD.kept hb18
     replace vQ := vQ.kept hb18
     replace Aov := Aov.kept hb18
     replace Aun := Aun.kept hb18
     replace Ax := Ax.kept hb18
     clear hb18
     go_wp2_with fail
     refine hK.out _ _ ⟨arr_range Aov, arr_range Aun⟩ (fun hHeld => ?_)
     clear hK K
     refine wpAnyH_take (i := 5) (oi := qOk0) (v := .tuple #[.agg (I64 x).toArray, .bool ok]) rfl (by kernel_rfl) (by kernel_rfl) (by kernel_rfl) (fun _ _ _ h => h) (.inl ⟨by rfl, fun _ _ => by rfl⟩) (by assumption) ?_
     simp only [aP]
     refine wpAnyH_take (i := 6) (oi := qOk1) (v := .agg (I64 x).toArray) rfl (by kernel_rfl) (by kernel_rfl) (by kernel_rfl) (fun _ _ _ h => h) (.inl ⟨by rfl, fun _ _ => by rfl⟩) (by assumption) ?_
     simp only [aP]
     refine wpAnyH_take (i := 7) (oi := qOk2) (v := .bool ok) rfl (by kernel_rfl) (by kernel_rfl) (by kernel_rfl) (fun _ _ _ h => h) (.inl ⟨by rfl, fun _ _ => by rfl⟩) (by assumption) ?_
     simp only [aP]
     refine wpAnyH_ready (rs := [9]) (by kernel_rfl) (by simp) (AllReadyH.cons (o := qOk3) rfl (fun K hK => ?_) AllReadyH.nil)
     rw [if_pos (by rfl)]
     refine wp_store_mid _ _ _ rfl _ _ (I64 x).toArray rfl rfl (by have := arr_there Ax; simpa [nx] using this) jx (all_oneCell_toArray ux) ?_
     simp only [Act.put]
     replace fr := bel_sc fr Xx (I64 x) (by omega)
     replace pr := pr.sc Xx (I64 x) (by omega)
     replace vP := vP.sc Xx (I64 x) (by omega)
     replace vD := vD.sc Xx (I64 x) (by omega)
     replace vQ := vQ.sc Xx (I64 x) (by omega)
     replace Aov := Aov.sc Xx (I64 x) (by omega)
     replace Aun := Aun.sc Xx (I64 x) (by omega)
     replace Ax := Ax.sc0 (I64 x) (by simp [nx])
     obtain ⟨V19, hVe⟩ : ∃ V, V = y18.setCells Xx 0 (I64 x) := ⟨_, rfl⟩
     rw [← hVe] at fr pr vP vD vQ Aov Aun Ax ⊢
     clear hVe
     refine hK.out _ _ ⟨arr_range Aov, arr_range Aun⟩ (fun hHeld => ?_)
     clear hK K
     refine wpAnyH_ready (rs := [10]) (by kernel_rfl) (by simp) (AllReadyH.cons (o := { dst := some 10, op := Op.assign (Operand.tmp 34), type := 4, pos := "l06_point.go:141", after := #[{ on := 7, ground := Ground.data }, { on := 9, ground := Ground.chain }, { on := 0, ground := Ground.phase }, { on := 1, ground := Ground.phase }, { on := 2, ground := Ground.phase }, { on := 3, ground := Ground.phase }, { on := 4, ground := Ground.phase }, { on := 5, ground := Ground.phase }, { on := 6, ground := Ground.phase }, { on := 7, ground := Ground.phase }, { on := 8, ground := Ground.phase }, { on := 9, ground := Ground.phase }], guard := none }) rfl (fun K hK => ?_) AllReadyH.nil)
     go_simp
     refine hK.out _ _ ⟨arr_range Aov, arr_range Aun⟩ (fun hHeld => ?_)
     clear hK K
     refine wpAnyH_done (by kernel_rfl) ?_ _
     go_wp2
     go_meet
     case rel => exact ⟨Xx, rfl, rfl, Ax, fr, pr, vP, vD, vQ, Aov, Aun, (by omega)⟩
   ·skip
    go_simp
    obtain ⟨V20, hVe⟩ : ∃ V, V = D7.alloc (.cells zV 65) := ⟨_, rfl⟩
    have bV : Below D7.heap.size D7 V20 := by rw [hVe]; exact (Below.refl _ _).alloc (Nat.le_refl _) _
    have Ax : Arr V20 D7.heap.size 65 (I64 Z16) := by rw [hVe]; exact Arr.new _ (I64 Z16) _
    have hXx : (w.heap.size + 1) < D7.heap.size ∧ Xov < D7.heap.size ∧ Xun < D7.heap.size ∧ True := ⟨pr.lt, Aov.lt, Aun.lt, trivial⟩
    obtain ⟨Xx, hXe⟩ : ∃ X, X = D7.heap.size := ⟨_, rfl⟩
    replace fr := fr.trans (bV.mono fr.size)
    replace pr := pr.kept bV
    replace vP := vP.kept bV
    replace vD := vD.kept bV
    replace vQ := vQ.kept bV
    replace Aov := Aov.kept bV
    replace Aun := Aun.kept bV
    rw [← hVe]
    rw [← hXe] at Ax hXx ⊢
    clear hVe hXe bV
    refine hK.out _ _ ⟨arr_range Aov, arr_range Aun⟩ (fun hHeld => ?_)
    clear hK K
    refine wpAnyH_ready (rs := [2]) (by kernel_rfl) (by simp) (AllReadyH.cons (o := { dst := some 30, op := Op.call { callee := Callee.value (Operand.func 101), args := #[Operand.tmp 29], argTypes := #[65] }, type := 65, pos := "l06_point.go:141", after := #[{ on := 1, ground := Ground.data }], guard := none }) rfl (fun K hK => ?_) AllReadyH.nil)
    go_simp
    refine (Hiv.out _ vP).mono ?_
    rintro e y21 ⟨rfl, hb21⟩
    replace fr := fr.trans (hb21.mono fr.size)
    replace pr := pr.kept hb21
    replace vP := vP.kept hb21
    replace vD := vD.kept hb21
    replace vQ := vQ.kept hb21
    replace Aov := Aov.kept hb21
    replace Aun := Aun.kept hb21
    replace Ax := Ax.kept hb21
    clear hb21
    go_wp2_with fail
    refine hK.out _ _ ⟨arr_range Aov, arr_range Aun⟩ (fun hHeld => ?_)
    clear hK K
    refine wpAnyH_ready (rs := [3]) (by kernel_rfl) (by simp) (AllReadyH.cons (o := { dst := some 31, op := Op.call { callee := Callee.value (Operand.func 98), args := #[Operand.tmp 28, Operand.tmp 30], argTypes := #[65, 65] }, type := 65, pos := "l06_point.go:141", after := #[{ on := 0, ground := Ground.data }, { on := 2, ground := Ground.data }, { on := 2, ground := Ground.chain }], guard := none }) rfl (fun K hK => ?_) AllReadyH.nil)
    go_simp
    refine (Hs.out _ vP).mono ?_
    rintro e y22 ⟨rfl, hb22⟩
    replace fr := fr.trans (hb22.mono fr.size)
    replace pr := pr.kept hb22
    replace vP := vP.kept hb22
    replace vD := vD.kept hb22
    replace vQ := vQ.kept hb22
    replace Aov := Aov.kept hb22
    replace Aun := Aun.kept hb22
    replace Ax := Ax.kept hb22
    clear hb22
    go_wp2_with fail
    refine hK.out _ _ ⟨arr_range Aov, arr_range Aun⟩ (fun hHeld => ?_)
    clear hK K
    refine wpAnyH_ready (rs := [4]) (by kernel_rfl) (by simp) (AllReadyH.cons (o := { dst := some 32, op := Op.call { callee := Callee.value (Operand.func 102), args := #[Operand.tmp 31], argTypes := #[65] }, type := 88, pos := "l06_point.go:141", after := #[{ on := 3, ground := Ground.data }, { on := 3, ground := Ground.chain }], guard := none }) rfl (fun K hK => ?_) AllReadyH.nil)
    go_simp
    refine (Hrt.out _ vP vQ).mono ?_
    rintro e y23 ⟨rfl, hb23⟩
    replace fr := fr.trans (hb23.mono fr.size)
    replace pr := pr.kept hb23
    replace vP := vP.kept hb23
    replace vD := vD.kept hb23
    replace vQ := vQ.kept hb23
    replace Aov := Aov.kept hb23
    replace Aun := Aun.kept hb23
    replace Ax := Ax.kept hb23
    clear hb23
    go_wp2_with fail
    refine hK.out _ _ ⟨arr_range Aov, arr_range Aun⟩ (fun hHeld => ?_)
    clear hK K
    refine wpAnyH_take (i := 5) (oi := qOk0) (v := .tuple #[.agg (I64 x).toArray, .bool ok]) rfl (by kernel_rfl) (by kernel_rfl) (by kernel_rfl) (fun _ _ _ h => h) (.inl ⟨by rfl, fun _ _ => by rfl⟩) (by assumption) ?_
    simp only [aP]
    refine wpAnyH_take (i := 6) (oi := qOk1) (v := .agg (I64 x).toArray) rfl (by kernel_rfl) (by kernel_rfl) (by kernel_rfl) (fun _ _ _ h => h) (.inl ⟨by rfl, fun _ _ => by rfl⟩) (by assumption) ?_
    simp only [aP]
    refine wpAnyH_take (i := 7) (oi := qOk2) (v := .bool ok) rfl (by kernel_rfl) (by kernel_rfl) (by kernel_rfl) (fun _ _ _ h => h) (.inl ⟨by rfl, fun _ _ => by rfl⟩) (by assumption) ?_
    simp only [aP]
    refine wpAnyH_ready (rs := [9]) (by kernel_rfl) (by simp) (AllReadyH.cons (o := qOk3) rfl (fun K hK => ?_) AllReadyH.nil)
    rw [if_pos (by rfl)]
    refine wp_store_mid _ _ _ rfl _ _ (I64 x).toArray rfl rfl (by have := arr_there Ax; simpa [nx] using this) jx (all_oneCell_toArray ux) ?_
    simp only [Act.put]
    replace fr := bel_sc fr Xx (I64 x) (by omega)
    replace pr := pr.sc Xx (I64 x) (by omega)
    replace vP := vP.sc Xx (I64 x) (by omega)
    replace vD := vD.sc Xx (I64 x) (by omega)
    replace vQ := vQ.sc Xx (I64 x) (by omega)
    replace Aov := Aov.sc Xx (I64 x) (by omega)
    replace Aun := Aun.sc Xx (I64 x) (by omega)
    replace Ax := Ax.sc0 (I64 x) (by simp [nx])
    obtain ⟨V24, hVe⟩ : ∃ V, V = y23.setCells Xx 0 (I64 x) := ⟨_, rfl⟩
    rw [← hVe] at fr pr vP vD vQ Aov Aun Ax ⊢
    clear hVe
    refine hK.out _ _ ⟨arr_range Aov, arr_range Aun⟩ (fun hHeld => ?_)
    clear hK K
    refine wpAnyH_ready (rs := [10]) (by kernel_rfl) (by simp) (AllReadyH.cons (o := { dst := some 10, op := Op.assign (Operand.tmp 34), type := 4, pos := "l06_point.go:141", after := #[{ on := 7, ground := Ground.data }, { on := 9, ground := Ground.chain }, { on := 0, ground := Ground.phase }, { on := 1, ground := Ground.phase }, { on := 2, ground := Ground.phase }, { on := 3, ground := Ground.phase }, { on := 4, ground := Ground.phase }, { on := 5, ground := Ground.phase }, { on := 6, ground := Ground.phase }, { on := 7, ground := Ground.phase }, { on := 8, ground := Ground.phase }, { on := 9, ground := Ground.phase }], guard := none }) rfl (fun K hK => ?_) AllReadyH.nil)
    go_simp
    refine hK.out _ _ ⟨arr_range Aov, arr_range Aun⟩ (fun hHeld => ?_)
    clear hK K
    refine wpAnyH_done (by kernel_rfl) ?_ _
    go_wp2
    go_meet
    case rel => exact ⟨Xx, rfl, rfl, Ax, fr, pr, vP, vD, vQ, Aov, Aun, (by omega)⟩
  case rest =>
   clear fr pr vP vD vQ Aov Aun
   obtain ⟨Xx, rfl, rfl, Ax, fr, pr, vP, vD, vQ, Aov, Aun, hq0⟩ := hcut
   obtain ⟨C25, hwc⟩ : ∃ V, V = wc := ⟨_, rfl⟩
   rw [← hwc] at fr pr vP vD vQ Aov Aun Ax ⊢
   clear hwc
   clear Aov
   clear Aun
   go_wp2_with (refine wpList_load_row rfl 65 _ rfl Xx rfl 65 (I64 x).toArray (0, 0) _ Ax Tryz.underlying65 rfl jx ?_)
   refine (Hbx.out _).mono ?_
   rintro e y26 ⟨rfl, hb26⟩
   replace fr := fr.trans (hb26.mono fr.size)
   replace pr := pr.kept hb26
   replace vP := vP.kept hb26
   replace vD := vD.kept hb26
   replace vQ := vQ.kept hb26
   replace Ax := Ax.kept hb26
   clear hb26
   by_cases hbo : bx = o
   ·skip
    have hF : Hid (R = x ∧ rb = ok) := HT1.out (by simp) hbo
    have hbo2 : (bx != o) = false := by simp [hbo]
    have hbo3 : (bx == o) = true := by simp [hbo]
    have HBO : Hid (bx = o) := hbo
    clear hbo
    go_upto_region 8 with fail
    cases ok with
    | false =>
     try simp only [Act.put]
     have bD : Below y26.heap.size y26 y26.drew := (Below.refl _ _).drew
     replace fr := fr.trans (bD.mono fr.size)
     replace pr := pr.kept bD
     replace vP := vP.kept bD
     replace vD := vD.kept bD
     replace vQ := vQ.kept bD
     replace Ax := Ax.kept bD
     clear bD
     refine wp_region_held_drew (S := fun W => W.rangeAt Xx 0 (I64 x)) (by kernel_rfl) (arr_range Ax) (fun hHeld => ?_)
     obtain ⟨D27, hD⟩ : ∃ V, V = y26.drew := ⟨_, rfl⟩
     rw [← hD] at hHeld fr pr vP vD vQ Ax ⊢
     clear hD
     refine wpAnyH_take (i := 0) (oi := qOk4) (v := _) rfl (by kernel_rfl) (by kernel_rfl) (by kernel_rfl) (fun _ _ _ h => h) (yieldsIf_load_mid (by rfl) _ _ rfl _ _ rfl (I64 x) _ (fun _ h => h) hu rfl iix) (by assumption) ?_
     simp only [aP]
     refine wpAnyH_take (i := 1) (oi := qOk5) (v := .bool false) rfl (by kernel_rfl) (by kernel_rfl) (by kernel_rfl) (fun _ _ _ h => h) (.inl ⟨by rfl, fun _ _ => by rfl⟩) (by assumption) ?_
     simp only [aP]
     refine wpAnyH_take (i := 2) (oi := qOk6) (v := .bool false) rfl (by kernel_rfl) (by kernel_rfl) (by kernel_rfl) (fun _ _ _ h => h) (.inl ⟨by rfl, fun _ _ => by rfl⟩) (by assumption) ?_
     simp only [aP]
     refine wpAnyH_take (i := 3) (oi := qOk7) (v := undef) rfl (by kernel_rfl) (by kernel_rfl) (by kernel_rfl) (fun _ _ _ h => h) (.inr ⟨by rfl, rfl⟩) (by assumption) ?_
     simp only [aP]
     refine wpAnyH_take (i := 4) (oi := qOk8) (v := undef) rfl (by kernel_rfl) (by kernel_rfl) (by kernel_rfl) (fun _ _ _ h => h) (.inr ⟨by rfl, rfl⟩) (by assumption) ?_
     simp only [aP]
     refine wpAnyH_take (i := 5) (oi := qOk9) (v := undef) rfl (by kernel_rfl) (by kernel_rfl) (by kernel_rfl) (fun _ _ _ h => h) (.inr ⟨by rfl, rfl⟩) (by assumption) ?_
     simp only [aP]
     refine wpAnyH_take (i := 6) (oi := qOk10) (v := undef) rfl (by kernel_rfl) (by kernel_rfl) (by kernel_rfl) (fun _ _ _ h => h) (.inr ⟨by rfl, rfl⟩) (by assumption) ?_
     simp only [aP]
     refine wpAnyH_take (i := 7) (oi := qOk11) (v := .bool false) rfl (by kernel_rfl) (by kernel_rfl) (by kernel_rfl) (fun _ _ _ h => h) (.inl ⟨by rfl, fun _ _ => by rfl⟩) (by assumption) ?_
     simp only [aP]
     refine wpAnyH_ready (rs := [8]) (by kernel_rfl) (by simp) (AllReadyH.cons (o := qOk12) rfl (fun K hK => ?_) AllReadyH.nil)
     rw [if_pos (by rfl)]
     refine wp_store_mid _ _ _ rfl _ _ (I64 x).toArray rfl rfl (by have := arr_there pr; simpa [nx] using this) jx (all_oneCell_toArray ux) ?_
     simp only [Act.put]
     replace fr := bel_sc fr (w.heap.size + 1) (I64 x) (by omega)
     replace pr := pr.sc0 (I64 x) (by simp [nx])
     replace vP := vP.sc (w.heap.size + 1) (I64 x) (by omega)
     replace vD := vD.sc (w.heap.size + 1) (I64 x) (by omega)
     replace vQ := vQ.sc (w.heap.size + 1) (I64 x) (by omega)
     replace Ax := Ax.sc (w.heap.size + 1) (I64 x) (by omega)
     obtain ⟨V28, hVe⟩ : ∃ V, V = D27.setCells (w.heap.size + 1) 0 (I64 x) := ⟨_, rfl⟩
     rw [← hVe] at fr pr vP vD vQ Ax ⊢
     clear hVe
     refine hK.out _ _ (arr_range Ax) (fun hHeld => ?_)
     clear hK K
     refine wpAnyH_ready (rs := [9]) (by kernel_rfl) (by simp) (AllReadyH.cons (o := { dst := some 5, op := Op.assign (Operand.tmp 48), type := 4, pos := "l06_point.go:146", after := #[{ on := 7, ground := Ground.data }, { on := 8, ground := Ground.chain }, { on := 0, ground := Ground.phase }, { on := 1, ground := Ground.phase }, { on := 2, ground := Ground.phase }, { on := 3, ground := Ground.phase }, { on := 4, ground := Ground.phase }, { on := 5, ground := Ground.phase }, { on := 6, ground := Ground.phase }, { on := 7, ground := Ground.phase }, { on := 8, ground := Ground.phase }], guard := none }) rfl (fun K hK => ?_) AllReadyH.nil)
     go_simp
     refine hK.out _ _ (arr_range Ax) (fun hHeld => ?_)
     clear hK K
     refine wpAnyH_done (by kernel_rfl) ?_ _
     go_wp2
     exact bodyPost_ret (results_row_tmp (v := .bool false) (cs := I64 x) rfl rfl rfl pr Tryz.underlying65 rfl jx) rfl ⟨by rw [hF.out.1, hF.out.2]; try rfl, fr⟩
    | true =>
     try simp only [Act.put]
     have bD : Below y26.heap.size y26 y26.drew := (Below.refl _ _).drew
     replace fr := fr.trans (bD.mono fr.size)
     replace pr := pr.kept bD
     replace vP := vP.kept bD
     replace vD := vD.kept bD
     replace vQ := vQ.kept bD
     replace Ax := Ax.kept bD
     clear bD
     refine wp_region_held_drew (S := fun W => W.rangeAt Xx 0 (I64 x)) (by kernel_rfl) (arr_range Ax) (fun hHeld => ?_)
     obtain ⟨D29, hD⟩ : ∃ V, V = y26.drew := ⟨_, rfl⟩
     rw [← hD] at hHeld fr pr vP vD vQ Ax ⊢
     clear hD
     refine wpAnyH_take (i := 0) (oi := qOk4) (v := _) rfl (by kernel_rfl) (by kernel_rfl) (by kernel_rfl) (fun _ _ _ h => h) (yieldsIf_load_mid (by rfl) _ _ rfl _ _ rfl (I64 x) _ (fun _ h => h) hu rfl iix) (by assumption) ?_
     simp only [aP]
     refine wpAnyH_take (i := 1) (oi := qOk5) (v := .bool true) rfl (by kernel_rfl) (by kernel_rfl) (by kernel_rfl) (fun _ _ _ h => h) (.inl ⟨by rfl, fun _ _ => by rfl⟩) (by assumption) ?_
     simp only [aP]
     refine wpAnyH_take (i := 2) (oi := qOk6) (v := .bool true) rfl (by kernel_rfl) (by kernel_rfl) (by kernel_rfl) (fun _ _ _ h => h) (.inl ⟨by rfl, fun _ _ => by rfl⟩) (by assumption) ?_
     simp only [aP]
     refine wpAnyH_take (i := 3) (oi := qOk7) (v := _) rfl (by kernel_rfl) (by kernel_rfl) (by kernel_rfl) (fun _ _ _ h => h) (yieldsIf_load_mid (by rfl) _ _ rfl _ _ rfl (I64 x) _ (fun _ h => h) hu rfl iix) (by assumption) ?_
     simp only [aP]
     refine wpAnyH_take (i := 5) (oi := qOk9) (v := .int .i64 o) rfl (by kernel_rfl) (by kernel_rfl) (by kernel_rfl) (fun _ _ _ h => h) (.inl ⟨by rfl, fun _ _ => by rfl⟩) (by assumption) ?_
     simp only [aP]
     refine wpAnyH_ready (rs := [4]) (by kernel_rfl) (by simp) (AllReadyH.cons (o := { dst := some 45, op := Op.call { callee := Callee.value (Operand.func 42), args := #[Operand.tmp 44, Operand.const (Value.int IntKind.i64 0)], argTypes := #[65, 3] }, type := 3, pos := "l06_point.go:146", after := #[{ on := 3, ground := Ground.data }, { on := 2, ground := Ground.chain }, { on := 2, ground := Ground.guard }], guard := some (2, true) }) rfl (fun K hK => ?_) AllReadyH.nil)
     go_simp
     refine (Hbx.out _).mono ?_
     rintro e y30 ⟨rfl, hb30⟩
     replace fr := fr.trans (hb30.mono fr.size)
     replace pr := pr.kept hb30
     replace vP := vP.kept hb30
     replace vD := vD.kept hb30
     replace vQ := vQ.kept hb30
     replace Ax := Ax.kept hb30
     clear hb30
     go_wp2_with fail
     refine hK.out _ _ (arr_range Ax) (fun hHeld => ?_)
     clear hK K
     refine wpAnyH_ready (rs := [6, 8]) (by kernel_rfl) (by simp) (AllReadyH.cons (o := { dst := some 47, op := Op.binOp BinOp.eql 3 (Operand.tmp 45) (Operand.tmp 46) 3, type := 4, pos := "l06_point.go:146", after := #[{ on := 4, ground := Ground.data }, { on := 5, ground := Ground.data }, { on := 2, ground := Ground.guard }, { on := 8, ground := Ground.gcOnly Departure.lateStores }], guard := some (2, true) }) rfl (fun K hK => ?_) (AllReadyH.cons (o := qOk12) rfl (fun K hK => ?_) AllReadyH.nil))
     ·skip
      go_simp
      refine hK.out _ _ (arr_range Ax) (fun hHeld => ?_)
      clear hK K
      refine wpAnyH_take (i := 7) (oi := qOk11) (v := .bool true) rfl (by kernel_rfl) (by kernel_rfl) (by kernel_rfl) (fun _ _ _ h => h) (.inl ⟨by rfl, fun _ _ => by rfl⟩) (by assumption) ?_
      simp only [aP]
      refine wpAnyH_ready (rs := [8]) (by kernel_rfl) (by simp) (AllReadyH.cons (o := qOk12) rfl (fun K hK => ?_) AllReadyH.nil)
      rw [if_pos (by rfl)]
      refine wp_store_mid _ _ _ rfl _ _ (I64 x).toArray rfl rfl (by have := arr_there pr; simpa [nx] using this) jx (all_oneCell_toArray ux) ?_
      simp only [Act.put]
      replace fr := bel_sc fr (w.heap.size + 1) (I64 x) (by omega)
      replace pr := pr.sc0 (I64 x) (by simp [nx])
      replace vP := vP.sc (w.heap.size + 1) (I64 x) (by omega)
      replace vD := vD.sc (w.heap.size + 1) (I64 x) (by omega)
      replace vQ := vQ.sc (w.heap.size + 1) (I64 x) (by omega)
      replace Ax := Ax.sc (w.heap.size + 1) (I64 x) (by omega)
      obtain ⟨V31, hVe⟩ : ∃ V, V = y30.setCells (w.heap.size + 1) 0 (I64 x) := ⟨_, rfl⟩
      rw [← hVe] at fr pr vP vD vQ Ax ⊢
      clear hVe
      refine hK.out _ _ (arr_range Ax) (fun hHeld => ?_)
      clear hK K
      refine wpAnyH_ready (rs := [9]) (by kernel_rfl) (by simp) (AllReadyH.cons (o := { dst := some 5, op := Op.assign (Operand.tmp 48), type := 4, pos := "l06_point.go:146", after := #[{ on := 7, ground := Ground.data }, { on := 8, ground := Ground.chain }, { on := 0, ground := Ground.phase }, { on := 1, ground := Ground.phase }, { on := 2, ground := Ground.phase }, { on := 3, ground := Ground.phase }, { on := 4, ground := Ground.phase }, { on := 5, ground := Ground.phase }, { on := 6, ground := Ground.phase }, { on := 7, ground := Ground.phase }, { on := 8, ground := Ground.phase }], guard := none }) rfl (fun K hK => ?_) AllReadyH.nil)
      go_simp
      refine hK.out _ _ (arr_range Ax) (fun hHeld => ?_)
      clear hK K
      refine wpAnyH_done (by kernel_rfl) ?_ _
      go_wp2
      exact bodyPost_ret (results_row_tmp (v := .bool true) (cs := I64 x) rfl rfl rfl pr Tryz.underlying65 rfl jx) rfl ⟨by rw [hF.out.1, hF.out.2]; try rfl, fr⟩
     ·skip
      rw [if_pos (by rfl)]
      refine wp_store_mid _ _ _ rfl _ _ (I64 x).toArray rfl rfl (by have := arr_there pr; simpa [nx] using this) jx (all_oneCell_toArray ux) ?_
      simp only [Act.put]
      replace fr := bel_sc fr (w.heap.size + 1) (I64 x) (by omega)
      replace pr := pr.sc0 (I64 x) (by simp [nx])
      replace vP := vP.sc (w.heap.size + 1) (I64 x) (by omega)
      replace vD := vD.sc (w.heap.size + 1) (I64 x) (by omega)
      replace vQ := vQ.sc (w.heap.size + 1) (I64 x) (by omega)
      replace Ax := Ax.sc (w.heap.size + 1) (I64 x) (by omega)
      obtain ⟨V32, hVe⟩ : ∃ V, V = y30.setCells (w.heap.size + 1) 0 (I64 x) := ⟨_, rfl⟩
      rw [← hVe] at fr pr vP vD vQ Ax ⊢
      clear hVe
      refine hK.out _ _ (arr_range Ax) (fun hHeld => ?_)
      clear hK K
      refine wpAnyH_ready (rs := [6]) (by kernel_rfl) (by simp) (AllReadyH.cons (o := { dst := some 47, op := Op.binOp BinOp.eql 3 (Operand.tmp 45) (Operand.tmp 46) 3, type := 4, pos := "l06_point.go:146", after := #[{ on := 4, ground := Ground.data }, { on := 5, ground := Ground.data }, { on := 2, ground := Ground.guard }, { on := 8, ground := Ground.gcOnly Departure.lateStores }], guard := some (2, true) }) rfl (fun K hK => ?_) AllReadyH.nil)
      go_simp
      refine hK.out _ _ (arr_range Ax) (fun hHeld => ?_)
      clear hK K
      refine wpAnyH_take (i := 7) (oi := qOk11) (v := .bool true) rfl (by kernel_rfl) (by kernel_rfl) (by kernel_rfl) (fun _ _ _ h => h) (.inl ⟨by rfl, fun _ _ => by rfl⟩) (by assumption) ?_
      simp only [aP]
      refine wpAnyH_ready (rs := [9]) (by kernel_rfl) (by simp) (AllReadyH.cons (o := { dst := some 5, op := Op.assign (Operand.tmp 48), type := 4, pos := "l06_point.go:146", after := #[{ on := 7, ground := Ground.data }, { on := 8, ground := Ground.chain }, { on := 0, ground := Ground.phase }, { on := 1, ground := Ground.phase }, { on := 2, ground := Ground.phase }, { on := 3, ground := Ground.phase }, { on := 4, ground := Ground.phase }, { on := 5, ground := Ground.phase }, { on := 6, ground := Ground.phase }, { on := 7, ground := Ground.phase }, { on := 8, ground := Ground.phase }], guard := none }) rfl (fun K hK => ?_) AllReadyH.nil)
      go_simp
      refine hK.out _ _ (arr_range Ax) (fun hHeld => ?_)
      clear hK K
      refine wpAnyH_done (by kernel_rfl) ?_ _
      go_wp2
      exact bodyPost_ret (results_row_tmp (v := .bool true) (cs := I64 x) rfl rfl rfl pr Tryz.underlying65 rfl jx) rfl ⟨by rw [hF.out.1, hF.out.2]; try rfl, fr⟩
   ·skip
    obtain ⟨dm, hdm⟩ : ∃ d, d = decide (bm = o) := ⟨_, rfl⟩
    have hdb : (bm == o) = dm := by rw [hdm]; rfl
    have hF : Hid (R = m ∧ rb = (ok && dm)) := by unfold Hid; rw [hdm]; exact HT2.out (by simp) hbo
    clear hdm
    have hbo2 : (bx != o) = true := by simp [hbo]
    go_wp2_with (refine wpList_load_row rfl 65 _ rfl Xx rfl 65 (I64 x).toArray (0, 0) _ Ax Tryz.underlying65 rfl jx ?_)
    refine (Hop.out _ vP).mono ?_
    rintro e y33 ⟨rfl, hb33⟩
    replace fr := fr.trans (hb33.mono fr.size)
    replace pr := pr.kept hb33
    replace vP := vP.kept hb33
    replace vD := vD.kept hb33
    replace vQ := vQ.kept hb33
    replace Ax := Ax.kept hb33
    clear hb33
    go_upto_region 8 with (refine wpList_store_row rfl 65 _ _ rfl Xx (I64 m).toArray rfl rfl 65 _ Ax jm (by simp [nx, nm]) (by simp [Value.oneCell']) ?_)
    obtain ⟨Vm, hVm⟩ : ∃ V, V = y33.setRow Xx (I64 m).toArray := ⟨_, rfl⟩
    rw [← hVm]
    replace fr : Below w.heap.size w Vm := by rw [hVm]; exact setRow_below fr _ _ (by omega)
    replace pr : Arr Vm (w.heap.size + 1) 65 (I64 Z16) := by rw [hVm]; exact pr.rowOther _ _ (by omega)
    replace vP : Vr Vm 4 (I64 PL) := by rw [hVm]; exact vP.rowOther _ (by omega)
    replace vD : Vr Vm 5 (I64 DL) := by rw [hVm]; exact vD.rowOther _ (by omega)
    replace vQ : Vr Vm 9 (I64 QL) := by rw [hVm]; exact vQ.rowOther _ (by omega)
    replace Ax : Arr Vm Xx 65 (I64 m) := by rw [hVm]; exact Ax.row _
    clear hVm
    cases ok with
    | false =>
     try simp only [Act.put]
     have bD : Below Vm.heap.size Vm Vm.drew := (Below.refl _ _).drew
     replace fr := fr.trans (bD.mono fr.size)
     replace pr := pr.kept bD
     replace vP := vP.kept bD
     replace vD := vD.kept bD
     replace vQ := vQ.kept bD
     replace Ax := Ax.kept bD
     clear bD
     refine wp_region_held_drew (S := fun W => W.rangeAt Xx 0 (I64 m)) (by kernel_rfl) (arr_range Ax) (fun hHeld => ?_)
     obtain ⟨D34, hD⟩ : ∃ V, V = Vm.drew := ⟨_, rfl⟩
     rw [← hD] at hHeld fr pr vP vD vQ Ax ⊢
     clear hD
     refine wpAnyH_take (i := 0) (oi := qOk4) (v := _) rfl (by kernel_rfl) (by kernel_rfl) (by kernel_rfl) (fun _ _ _ h => h) (yieldsIf_load_mid (by rfl) _ _ rfl _ _ rfl (I64 m) _ (fun _ h => h) hu rfl iim) (by assumption) ?_
     simp only [aP]
     refine wpAnyH_take (i := 1) (oi := qOk5) (v := .bool false) rfl (by kernel_rfl) (by kernel_rfl) (by kernel_rfl) (fun _ _ _ h => h) (.inl ⟨by rfl, fun _ _ => by rfl⟩) (by assumption) ?_
     simp only [aP]
     refine wpAnyH_take (i := 2) (oi := qOk6) (v := .bool false) rfl (by kernel_rfl) (by kernel_rfl) (by kernel_rfl) (fun _ _ _ h => h) (.inl ⟨by rfl, fun _ _ => by rfl⟩) (by assumption) ?_
     simp only [aP]
     refine wpAnyH_take (i := 3) (oi := qOk7) (v := undef) rfl (by kernel_rfl) (by kernel_rfl) (by kernel_rfl) (fun _ _ _ h => h) (.inr ⟨by rfl, rfl⟩) (by assumption) ?_
     simp only [aP]
     refine wpAnyH_take (i := 4) (oi := qOk8) (v := undef) rfl (by kernel_rfl) (by kernel_rfl) (by kernel_rfl) (fun _ _ _ h => h) (.inr ⟨by rfl, rfl⟩) (by assumption) ?_
     simp only [aP]
     refine wpAnyH_take (i := 5) (oi := qOk9) (v := undef) rfl (by kernel_rfl) (by kernel_rfl) (by kernel_rfl) (fun _ _ _ h => h) (.inr ⟨by rfl, rfl⟩) (by assumption) ?_
     simp only [aP]
     refine wpAnyH_take (i := 6) (oi := qOk10) (v := undef) rfl (by kernel_rfl) (by kernel_rfl) (by kernel_rfl) (fun _ _ _ h => h) (.inr ⟨by rfl, rfl⟩) (by assumption) ?_
     simp only [aP]
     refine wpAnyH_take (i := 7) (oi := qOk11) (v := .bool false) rfl (by kernel_rfl) (by kernel_rfl) (by kernel_rfl) (fun _ _ _ h => h) (.inl ⟨by rfl, fun _ _ => by rfl⟩) (by assumption) ?_
     simp only [aP]
     refine wpAnyH_ready (rs := [8]) (by kernel_rfl) (by simp) (AllReadyH.cons (o := qOk12) rfl (fun K hK => ?_) AllReadyH.nil)
     rw [if_pos (by rfl)]
     refine wp_store_mid _ _ _ rfl _ _ (I64 m).toArray rfl rfl (by have := arr_there pr; simpa [nm] using this) jm (all_oneCell_toArray um) ?_
     simp only [Act.put]
     replace fr := bel_sc fr (w.heap.size + 1) (I64 m) (by omega)
     replace pr := pr.sc0 (I64 m) (by simp [nm])
     replace vP := vP.sc (w.heap.size + 1) (I64 m) (by omega)
     replace vD := vD.sc (w.heap.size + 1) (I64 m) (by omega)
     replace vQ := vQ.sc (w.heap.size + 1) (I64 m) (by omega)
     replace Ax := Ax.sc (w.heap.size + 1) (I64 m) (by omega)
     obtain ⟨V35, hVe⟩ : ∃ V, V = D34.setCells (w.heap.size + 1) 0 (I64 m) := ⟨_, rfl⟩
     rw [← hVe] at fr pr vP vD vQ Ax ⊢
     clear hVe
     refine hK.out _ _ (arr_range Ax) (fun hHeld => ?_)
     clear hK K
     refine wpAnyH_ready (rs := [9]) (by kernel_rfl) (by simp) (AllReadyH.cons (o := { dst := some 5, op := Op.assign (Operand.tmp 48), type := 4, pos := "l06_point.go:146", after := #[{ on := 7, ground := Ground.data }, { on := 8, ground := Ground.chain }, { on := 0, ground := Ground.phase }, { on := 1, ground := Ground.phase }, { on := 2, ground := Ground.phase }, { on := 3, ground := Ground.phase }, { on := 4, ground := Ground.phase }, { on := 5, ground := Ground.phase }, { on := 6, ground := Ground.phase }, { on := 7, ground := Ground.phase }, { on := 8, ground := Ground.phase }], guard := none }) rfl (fun K hK => ?_) AllReadyH.nil)
     go_simp
     refine hK.out _ _ (arr_range Ax) (fun hHeld => ?_)
     clear hK K
     refine wpAnyH_done (by kernel_rfl) ?_ _
     go_wp2
     exact bodyPost_ret (results_row_tmp (v := .bool false) (cs := I64 m) rfl rfl rfl pr Tryz.underlying65 rfl jm) rfl ⟨by rw [hF.out.1, hF.out.2]; try rfl, fr⟩
    | true =>
     try simp only [Act.put]
     have bD : Below Vm.heap.size Vm Vm.drew := (Below.refl _ _).drew
     replace fr := fr.trans (bD.mono fr.size)
     replace pr := pr.kept bD
     replace vP := vP.kept bD
     replace vD := vD.kept bD
     replace vQ := vQ.kept bD
     replace Ax := Ax.kept bD
     clear bD
     refine wp_region_held_drew (S := fun W => W.rangeAt Xx 0 (I64 m)) (by kernel_rfl) (arr_range Ax) (fun hHeld => ?_)
     obtain ⟨D36, hD⟩ : ∃ V, V = Vm.drew := ⟨_, rfl⟩
     rw [← hD] at hHeld fr pr vP vD vQ Ax ⊢
     clear hD
     refine wpAnyH_take (i := 0) (oi := qOk4) (v := _) rfl (by kernel_rfl) (by kernel_rfl) (by kernel_rfl) (fun _ _ _ h => h) (yieldsIf_load_mid (by rfl) _ _ rfl _ _ rfl (I64 m) _ (fun _ h => h) hu rfl iim) (by assumption) ?_
     simp only [aP]
     refine wpAnyH_take (i := 1) (oi := qOk5) (v := .bool true) rfl (by kernel_rfl) (by kernel_rfl) (by kernel_rfl) (fun _ _ _ h => h) (.inl ⟨by rfl, fun _ _ => by rfl⟩) (by assumption) ?_
     simp only [aP]
     refine wpAnyH_take (i := 2) (oi := qOk6) (v := .bool true) rfl (by kernel_rfl) (by kernel_rfl) (by kernel_rfl) (fun _ _ _ h => h) (.inl ⟨by rfl, fun _ _ => by rfl⟩) (by assumption) ?_
     simp only [aP]
     refine wpAnyH_take (i := 3) (oi := qOk7) (v := _) rfl (by kernel_rfl) (by kernel_rfl) (by kernel_rfl) (fun _ _ _ h => h) (yieldsIf_load_mid (by rfl) _ _ rfl _ _ rfl (I64 m) _ (fun _ h => h) hu rfl iim) (by assumption) ?_
     simp only [aP]
     refine wpAnyH_take (i := 5) (oi := qOk9) (v := .int .i64 o) rfl (by kernel_rfl) (by kernel_rfl) (by kernel_rfl) (fun _ _ _ h => h) (.inl ⟨by rfl, fun _ _ => by rfl⟩) (by assumption) ?_
     simp only [aP]
     refine wpAnyH_ready (rs := [4]) (by kernel_rfl) (by simp) (AllReadyH.cons (o := { dst := some 45, op := Op.call { callee := Callee.value (Operand.func 42), args := #[Operand.tmp 44, Operand.const (Value.int IntKind.i64 0)], argTypes := #[65, 3] }, type := 3, pos := "l06_point.go:146", after := #[{ on := 3, ground := Ground.data }, { on := 2, ground := Ground.chain }, { on := 2, ground := Ground.guard }], guard := some (2, true) }) rfl (fun K hK => ?_) AllReadyH.nil)
     go_simp
     refine (Hbm.out _).mono ?_
     rintro e y37 ⟨rfl, hb37⟩
     replace fr := fr.trans (hb37.mono fr.size)
     replace pr := pr.kept hb37
     replace vP := vP.kept hb37
     replace vD := vD.kept hb37
     replace vQ := vQ.kept hb37
     replace Ax := Ax.kept hb37
     clear hb37
     go_wp2_with fail
     refine hK.out _ _ (arr_range Ax) (fun hHeld => ?_)
     clear hK K
     refine wpAnyH_ready (rs := [6, 8]) (by kernel_rfl) (by simp) (AllReadyH.cons (o := { dst := some 47, op := Op.binOp BinOp.eql 3 (Operand.tmp 45) (Operand.tmp 46) 3, type := 4, pos := "l06_point.go:146", after := #[{ on := 4, ground := Ground.data }, { on := 5, ground := Ground.data }, { on := 2, ground := Ground.guard }, { on := 8, ground := Ground.gcOnly Departure.lateStores }], guard := some (2, true) }) rfl (fun K hK => ?_) (AllReadyH.cons (o := qOk12) rfl (fun K hK => ?_) AllReadyH.nil))
     ·skip
      go_simp
      refine hK.out _ _ (arr_range Ax) (fun hHeld => ?_)
      clear hK K
      refine wpAnyH_take (i := 7) (oi := qOk11) (v := .bool dm) rfl (by kernel_rfl) (by kernel_rfl) (by kernel_rfl) (fun _ _ _ h => h) (.inl ⟨by rfl, fun _ _ => by rfl⟩) (by assumption) ?_
      simp only [aP]
      refine wpAnyH_ready (rs := [8]) (by kernel_rfl) (by simp) (AllReadyH.cons (o := qOk12) rfl (fun K hK => ?_) AllReadyH.nil)
      rw [if_pos (by rfl)]
      refine wp_store_mid _ _ _ rfl _ _ (I64 m).toArray rfl rfl (by have := arr_there pr; simpa [nm] using this) jm (all_oneCell_toArray um) ?_
      simp only [Act.put]
      replace fr := bel_sc fr (w.heap.size + 1) (I64 m) (by omega)
      replace pr := pr.sc0 (I64 m) (by simp [nm])
      replace vP := vP.sc (w.heap.size + 1) (I64 m) (by omega)
      replace vD := vD.sc (w.heap.size + 1) (I64 m) (by omega)
      replace vQ := vQ.sc (w.heap.size + 1) (I64 m) (by omega)
      replace Ax := Ax.sc (w.heap.size + 1) (I64 m) (by omega)
      obtain ⟨V38, hVe⟩ : ∃ V, V = y37.setCells (w.heap.size + 1) 0 (I64 m) := ⟨_, rfl⟩
      rw [← hVe] at fr pr vP vD vQ Ax ⊢
      clear hVe
      refine hK.out _ _ (arr_range Ax) (fun hHeld => ?_)
      clear hK K
      refine wpAnyH_ready (rs := [9]) (by kernel_rfl) (by simp) (AllReadyH.cons (o := { dst := some 5, op := Op.assign (Operand.tmp 48), type := 4, pos := "l06_point.go:146", after := #[{ on := 7, ground := Ground.data }, { on := 8, ground := Ground.chain }, { on := 0, ground := Ground.phase }, { on := 1, ground := Ground.phase }, { on := 2, ground := Ground.phase }, { on := 3, ground := Ground.phase }, { on := 4, ground := Ground.phase }, { on := 5, ground := Ground.phase }, { on := 6, ground := Ground.phase }, { on := 7, ground := Ground.phase }, { on := 8, ground := Ground.phase }], guard := none }) rfl (fun K hK => ?_) AllReadyH.nil)
      go_simp
      refine hK.out _ _ (arr_range Ax) (fun hHeld => ?_)
      clear hK K
      refine wpAnyH_done (by kernel_rfl) ?_ _
      go_wp2
      exact bodyPost_ret (results_row_tmp (v := .bool dm) (cs := I64 m) rfl rfl rfl pr Tryz.underlying65 rfl jm) rfl ⟨by rw [hF.out.1, hF.out.2]; try rfl, fr⟩
     ·skip
      rw [if_pos (by rfl)]
      refine wp_store_mid _ _ _ rfl _ _ (I64 m).toArray rfl rfl (by have := arr_there pr; simpa [nm] using this) jm (all_oneCell_toArray um) ?_
      simp only [Act.put]
      replace fr := bel_sc fr (w.heap.size + 1) (I64 m) (by omega)
      replace pr := pr.sc0 (I64 m) (by simp [nm])
      replace vP := vP.sc (w.heap.size + 1) (I64 m) (by omega)
      replace vD := vD.sc (w.heap.size + 1) (I64 m) (by omega)
      replace vQ := vQ.sc (w.heap.size + 1) (I64 m) (by omega)
      replace Ax := Ax.sc (w.heap.size + 1) (I64 m) (by omega)
      obtain ⟨V39, hVe⟩ : ∃ V, V = y37.setCells (w.heap.size + 1) 0 (I64 m) := ⟨_, rfl⟩
      rw [← hVe] at fr pr vP vD vQ Ax ⊢
      clear hVe
      refine hK.out _ _ (arr_range Ax) (fun hHeld => ?_)
      clear hK K
      refine wpAnyH_ready (rs := [6]) (by kernel_rfl) (by simp) (AllReadyH.cons (o := { dst := some 47, op := Op.binOp BinOp.eql 3 (Operand.tmp 45) (Operand.tmp 46) 3, type := 4, pos := "l06_point.go:146", after := #[{ on := 4, ground := Ground.data }, { on := 5, ground := Ground.data }, { on := 2, ground := Ground.guard }, { on := 8, ground := Ground.gcOnly Departure.lateStores }], guard := some (2, true) }) rfl (fun K hK => ?_) AllReadyH.nil)
      go_simp
      refine hK.out _ _ (arr_range Ax) (fun hHeld => ?_)
      clear hK K
      refine wpAnyH_take (i := 7) (oi := qOk11) (v := .bool dm) rfl (by kernel_rfl) (by kernel_rfl) (by kernel_rfl) (fun _ _ _ h => h) (.inl ⟨by rfl, fun _ _ => by rfl⟩) (by assumption) ?_
      simp only [aP]
      refine wpAnyH_ready (rs := [9]) (by kernel_rfl) (by simp) (AllReadyH.cons (o := { dst := some 5, op := Op.assign (Operand.tmp 48), type := 4, pos := "l06_point.go:146", after := #[{ on := 7, ground := Ground.data }, { on := 8, ground := Ground.chain }, { on := 0, ground := Ground.phase }, { on := 1, ground := Ground.phase }, { on := 2, ground := Ground.phase }, { on := 3, ground := Ground.phase }, { on := 4, ground := Ground.phase }, { on := 5, ground := Ground.phase }, { on := 6, ground := Ground.phase }, { on := 7, ground := Ground.phase }, { on := 8, ground := Ground.phase }], guard := none }) rfl (fun K hK => ?_) AllReadyH.nil)
      go_simp
      refine hK.out _ _ (arr_range Ax) (fun hHeld => ?_)
      clear hK K
      refine wpAnyH_done (by kernel_rfl) ?_ _
      go_wp2
      exact bodyPost_ret (results_row_tmp (v := .bool dm) (cs := I64 m) rfl rfl rfl pr Tryz.underlying65 rfl jm) rfl ⟨by rw [hF.out.1, hF.out.2]; try rfl, fr⟩

end Go.Proofs.YtihoaakbkffejaaGreatDoor
