/-
  What is proved here: the contract of the program's curveX: what stands beside y; where its variables hold the prime, d and a root of -1.
-/
import Derived.Test.YtoblilngppjmhaaDoorZOb
import Derived.Test.YtoblilngppjmhaaDoorZJh
import Derived.Test.YtoblilngppjmhaaDoorZJg
import Derived.Test.YtoblilngppjmhaaDoorZYe
import Derived.Test.YtoblilngppjmhaaDoorZHdm
namespace Go.Proofs.YtoblilngppjmhaaDoor
open Go.RowKit
set_option maxRecDepth 100000
abbrev qOk0 : Oper := { dst := none, op := Op.store 70 (Operand.tmp 7) (Operand.tmp 21), type := 0, pos := "l06_point.go:140", after := #[{ on := 8, ground := Ground.data }, { on := 2, ground := Ground.data }, { on := 7, ground := Ground.chain }, { on := 0, ground := Ground.phase }, { on := 1, ground := Ground.phase }, { on := 2, ground := Ground.phase }, { on := 3, ground := Ground.textOnly Departure.lateStores }, { on := 4, ground := Ground.textOnly Departure.lateStores }, { on := 5, ground := Ground.textOnly Departure.lateStoresUnsure }, { on := 6, ground := Ground.textOnly Departure.lateStores }, { on := 7, ground := Ground.textOnly Departure.lateStoresUnsure }, { on := 8, ground := Ground.phase }, { on := 9, ground := Ground.phase }], guard := none }
abbrev qOk1 : Oper := { dst := none, op := Op.store 70 (Operand.tmp 8) (Operand.tmp 26), type := 0, pos := "l06_point.go:140", after := #[{ on := 9, ground := Ground.data }, { on := 7, ground := Ground.data }, { on := 10, ground := Ground.chain }, { on := 0, ground := Ground.phase }, { on := 1, ground := Ground.phase }, { on := 2, ground := Ground.phase }, { on := 3, ground := Ground.phase }, { on := 4, ground := Ground.phase }, { on := 5, ground := Ground.phase }, { on := 6, ground := Ground.phase }, { on := 7, ground := Ground.phase }, { on := 8, ground := Ground.phase }, { on := 9, ground := Ground.phase }, { on := 10, ground := Ground.phase }], guard := none }
abbrev qOk2 : Oper := { dst := some 27, op := Op.move (Operand.tmp 32), type := 92, pos := "l06_point.go:141", after := #[{ on := 4, ground := Ground.data }], guard := none }
abbrev qOk3 : Oper := { dst := some 33, op := Op.extract (Operand.tmp 27) 0, type := 70, pos := "l06_point.go:141", after := #[{ on := 5, ground := Ground.data }], guard := none }
abbrev qOk4 : Oper := { dst := some 34, op := Op.extract (Operand.tmp 27) 1, type := 4, pos := "l06_point.go:141", after := #[{ on := 5, ground := Ground.data }, { on := 9, ground := Ground.gcOnly Departure.lateStores }], guard := none }
abbrev qOk5 : Oper := { dst := none, op := Op.store 70 (Operand.tmp 9) (Operand.tmp 33), type := 0, pos := "l06_point.go:141", after := #[{ on := 8, ground := Ground.data }, { on := 6, ground := Ground.data }, { on := 4, ground := Ground.chain }, { on := 0, ground := Ground.phase }, { on := 1, ground := Ground.phase }, { on := 2, ground := Ground.phase }, { on := 3, ground := Ground.phase }, { on := 4, ground := Ground.phase }, { on := 5, ground := Ground.phase }, { on := 6, ground := Ground.phase }, { on := 7, ground := Ground.textOnly Departure.lateStores }, { on := 8, ground := Ground.phase }], guard := none }
abbrev qOk6 : Oper := { dst := some 41, op := Op.load 70 (Operand.tmp 9), type := 70, pos := "l06_point.go:146", after := #[], guard := none }
abbrev qOk7 : Oper := { dst := some 42, op := Op.move (Operand.tmp 10), type := 4, pos := "l06_point.go:146", after := #[], guard := none }
abbrev qOk8 : Oper := { dst := some 43, op := Op.move (Operand.tmp 42), type := 4, pos := "l06_point.go:146", after := #[{ on := 1, ground := Ground.data }], guard := none }
abbrev qOk9 : Oper := { dst := some 44, op := Op.load 70 (Operand.tmp 9), type := 70, pos := "l06_point.go:146", after := #[{ on := 2, ground := Ground.guard }], guard := some (2, true) }
abbrev qOk10 : Oper := { dst := some 45, op := Op.call { callee := Callee.value (Operand.func 75), args := #[Operand.tmp 44, Operand.const (Value.int IntKind.i64 0)], argTypes := #[70, 3] }, type := 3, pos := "l06_point.go:146", after := #[{ on := 3, ground := Ground.data }, { on := 2, ground := Ground.chain }, { on := 2, ground := Ground.guard }], guard := some (2, true) }
abbrev qOk11 : Oper := { dst := some 46, op := Op.move (Operand.tmp 1), type := 3, pos := "l06_point.go:146", after := #[{ on := 2, ground := Ground.guard }, { on := 8, ground := Ground.gcOnly Departure.lateStores }], guard := some (2, true) }
abbrev qOk12 : Oper := { dst := some 47, op := Op.binOp BinOp.eql 3 (Operand.tmp 45) (Operand.tmp 46) 3, type := 4, pos := "l06_point.go:146", after := #[{ on := 4, ground := Ground.data }, { on := 5, ground := Ground.data }, { on := 2, ground := Ground.guard }, { on := 8, ground := Ground.gcOnly Departure.lateStores }], guard := some (2, true) }
abbrev qOk13 : Oper := { dst := some 48, op := Op.pick (Operand.tmp 43) (Operand.tmp 47) (Operand.const (Value.bool false)), type := 4, pos := "l06_point.go:146", after := #[{ on := 2, ground := Ground.data }, { on := 6, ground := Ground.data }, { on := 8, ground := Ground.gcOnly Departure.lateStores }], guard := none }
abbrev qOk14 : Oper := { dst := none, op := Op.store 70 (Operand.tmp 4) (Operand.tmp 41), type := 0, pos := "l06_point.go:146", after := #[{ on := 0, ground := Ground.data }, { on := 4, ground := Ground.chain }, { on := 0, ground := Ground.phase }, { on := 1, ground := Ground.textOnly Departure.lateStores }, { on := 2, ground := Ground.textOnly Departure.lateStores }, { on := 3, ground := Ground.textOnly Departure.lateStores }, { on := 4, ground := Ground.textOnly Departure.lateStoresUnsure }, { on := 5, ground := Ground.textOnly Departure.lateStores }, { on := 6, ground := Ground.textOnly Departure.lateStores }, { on := 7, ground := Ground.textOnly Departure.lateStores }], guard := none }

/-- What curveX hands back. -/
def cvZ (x : List Int) (o : Int) : List Int := if x.getD 0 0 % 2 = o then x else red (val (lim 16 0) - val x)
def cvL (y : List Int) (o : Int) : List Int := if val y < P25519 then cvZ (rtR (sqx y)) o else Z16
def cvB (y : List Int) (o : Int) : Bool := decide (val y < P25519) && (rtOk (sqx y) && decide ((cvZ (rtR (sqx y)) o).getD 0 0 % 2 = o))
theorem rtR_fe (a : List Int) : feOk (rtR a) = true := by
 unfold rtR
 split
 ·exact (rt3_fe a).1
 ·decide
theorem cvZ_ok {x : List Int} (h : feOk x = true) (o : Int) : feOk (cvZ x o) = true := by
 unfold cvZ
 split
 ·exact h
 ·exact ok_red _
theorem cvL_len (y : List Int) (o : Int) : (cvL y o).length = 16 := by
 unfold cvL
 split
 ·exact feOk_len (cvZ_ok (rtR_fe _) o)
 ·rfl
theorem cvB_ok {y : List Int} {o : Int} (ho : o = 0 ∨ o = 1) : cvB y o = (decide (val y < P25519) && okR y o) ∧ (cvB y o = true → cvL y o = xR y o) := by
 obtain ⟨h1, h2⟩ := rt3_fe (sqx y)
 have hl := low_val (feOk_len h1)
 have hz0 : val (lim 16 0) = 0 := by decide
 by_cases hp : val y < P25519
 rotate_left
 ·unfold cvB; simp [hp]
 by_cases hk : rtOk (sqx y) = true
 rotate_left
 ·have hk' : rtOk (sqx y) = false := by simpa using hk
  unfold cvB okR; simp [hk']
 have hR : rtR (sqx y) = rt3 (sqx y) := by unfold rtR; rw [if_pos hk]
 have hb : (rt3 (sqx y)).getD 0 0 % 2 = 0 := by omega
 rcases ho with rfl | rfl
 ·have e : cvZ (rt3 (sqx y)) 0 = rt3 (sqx y) := by unfold cvZ; rw [if_pos hb]
  refine ⟨?_, fun _ => ?_⟩
  ·unfold cvB okR; rw [hR, e, hb]; simp
  ·unfold cvL xR; rw [if_pos hp, hR, e, if_neg (by decide)]
 ·have e : cvZ (rt3 (sqx y)) 1 = red (val (lim 16 0) - val (rt3 (sqx y))) := by unfold cvZ; rw [if_neg (by omega)]
  by_cases hz : rt3 (sqx y) = Z16
  ·have e2 : (cvZ (rt3 (sqx y)) 1).getD 0 0 % 2 = 0 := by rw [e, hz]; decide
   refine ⟨?_, fun h => ?_⟩
   ·unfold cvB okR; rw [hR, e2, hz]; simp
   ·unfold cvB at h; rw [hR, e2] at h; simp at h
  ·have hok : okR y 1 = true := by unfold okR; rw [hk]; simp [hz]
   obtain ⟨k1, k2, k3⟩ := xR_ok hok
   rw [if_pos rfl] at k2
   have k4 := k3 (.inr rfl)
   have e3 : (cvZ (rt3 (sqx y)) 1).getD 0 0 % 2 = 1 := by rw [e, ← k2, ← low_val (feOk_len k1)]; exact k4
   refine ⟨?_, fun _ => ?_⟩
   ·unfold cvB; rw [hR, e3, hok, hk]; simp
   ·unfold cvL; rw [if_pos hp, hR, e, k2]

set_option maxHeartbeats 16000000 in
theorem implCurveX (y : List Int) (o : Int) (w : World) (ny : y.length = 16) (ly : Lm y) (hV : Vr w 4 (I64 PL)) (hD : Vr w 2 (I64 DL)) (hQ : Vr w 5 (I64 QL)) :
  Calls Tryd.prog 77 #[.agg (I64 y).toArray, .int .i64 o] w fun e w' => e = .returned (.tuple #[.agg (I64 (cvL y o)).toArray, .bool (cvB y o)]) ∧ Below w.heap.size w w' := by
 obtain ⟨p, hp⟩ : ∃ p, p = decide (val y < P25519) := ⟨_, rfl⟩
 have HBL : Hid (∀ Z, Calls Tryd.prog 118 #[.agg (I64 y).toArray, .agg (I64 PL).toArray] Z fun e w' => e = .returned (.bool p) ∧ Below Z.heap.size Z w') := by
  unfold Hid; intro Z; have := implBelow y PL Z ny PL_len ly PL_lm; rw [PL_val, ← hp] at this; exact this
 obtain ⟨yy, eyy⟩ : ∃ x_, x_ = red (val y * val y) := ⟨_, rfl⟩
 have kyy : feOk yy = true := by rw [eyy]; exact ok_red _
 obtain ⟨ov, eov⟩ : ∃ x_, x_ = ovr y := ⟨_, rfl⟩
 have kov : feOk ov = true := by rw [eov]; exact ok_red _
 obtain ⟨dy, edy⟩ : ∃ x_, x_ = red (val DL * val yy) := ⟨_, rfl⟩
 have kdy : feOk dy = true := by rw [edy]; exact ok_red _
 obtain ⟨un, eun⟩ : ∃ x_, x_ = und y := ⟨_, rfl⟩
 have kun : feOk un = true := by rw [eun]; exact ok_red _
 obtain ⟨iv, eiv⟩ : ∃ x_, x_ = invF un := ⟨_, rfl⟩
 have kiv : feOk iv = true := by rw [eiv]; exact inv_ok _
 obtain ⟨s, es⟩ : ∃ x_, x_ = sqx y := ⟨_, rfl⟩
 have ks : feOk s = true := by rw [es]; exact ok_red _
 have eov2 : ov = red (val yy - val (lim 16 1)) := by rw [eov, eyy]; rfl
 have eun2 : un = red (val dy + val (lim 16 1)) := by rw [eun, edy, eyy]; rfl
 have es2 : s = red (val ov * val iv) := by rw [es, eov, eiv, eun]; rfl
 obtain ⟨x, ex⟩ : ∃ x, x = rtR s := ⟨_, rfl⟩
 obtain ⟨ok, eok⟩ : ∃ b, b = rtOk s := ⟨_, rfl⟩
 have kx : feOk x = true := by rw [ex]; exact rtR_fe s
 obtain ⟨m, em⟩ : ∃ m, m = red (val (lim 16 0) - val x) := ⟨_, rfl⟩
 have km : feOk m = true := by rw [em]; exact ok_red _
 obtain ⟨R, hR⟩ : ∃ R, R = cvL y o := ⟨_, rfl⟩
 obtain ⟨rb, hrb⟩ : ∃ b, b = cvB y o := ⟨_, rfl⟩
 have HF : Hid (p = false → R = Z16 ∧ rb = false) := by
  unfold Hid; intro h; rw [hp] at h; have h1 := of_decide_eq_false h; rw [hR, hrb]; unfold cvL cvB; rw [if_neg h1, h]; exact ⟨rfl, rfl⟩
 have HT : Hid (p = true → R = (if x.getD 0 0 % 2 = o then x else m) ∧ rb = (ok && decide ((if x.getD 0 0 % 2 = o then x else m).getD 0 0 % 2 = o))) := by
  unfold Hid; intro h; rw [hp] at h; have h1 := of_decide_eq_true h; rw [hR, hrb, em, ex, eok, es]; unfold cvL cvB; rw [if_pos h1, h]; exact ⟨rfl, rfl⟩
 have HYY : Hid (p = true → feOk y = true) := by unfold Hid; intro h; rw [hp] at h; exact (feOk_iff _).2 ⟨ny, ly, of_decide_eq_true h⟩
 have Hyy : Hid (p = true → ∀ Z, Vr Z 4 (I64 PL) → Calls Tryd.prog 104 #[.agg (I64 y).toArray, .agg (I64 y).toArray] Z fun e w' => e = .returned (.agg (I64 yy).toArray) ∧ Below Z.heap.size Z w') := by
  unfold Hid; intro h Z hZ; rw [eyy]; exact mulI (HYY.out h) (HYY.out h) Z hZ
 have Hov : Hid (∀ Z, Vr Z 4 (I64 PL) → Calls Tryd.prog 107 #[.agg (I64 yy).toArray, .agg (I64 [1, 0, 0, 0, 0, 0, 0, 0, 0, 0, 0, 0, 0, 0, 0, 0]).toArray] Z fun e w' => e = .returned (.agg (I64 ov).toArray) ∧ Below Z.heap.size Z w') := by
  unfold Hid; intro Z hZ; rw [eov2, ← one_lim]; exact subI kyy one_ok Z hZ
 have Hun : Hid (∀ Z, Vr Z 4 (I64 PL) → Calls Tryd.prog 105 #[.agg (I64 dy).toArray, .agg (I64 [1, 0, 0, 0, 0, 0, 0, 0, 0, 0, 0, 0, 0, 0, 0, 0]).toArray] Z fun e w' => e = .returned (.agg (I64 un).toArray) ∧ Below Z.heap.size Z w') := by
  unfold Hid; intro Z hZ; rw [eun2, ← one_lim]; exact sumI kdy one_ok Z hZ
 have Hdy : Hid (∀ Z, Vr Z 4 (I64 PL) → Calls Tryd.prog 104 #[.agg (I64 DL).toArray, .agg (I64 yy).toArray] Z fun e w' => e = .returned (.agg (I64 dy).toArray) ∧ Below Z.heap.size Z w') := by
  unfold Hid; intro Z hZ; rw [edy]; exact mulI DL_ok kyy Z hZ
 have Hs : Hid (∀ Z, Vr Z 4 (I64 PL) → Calls Tryd.prog 104 #[.agg (I64 ov).toArray, .agg (I64 iv).toArray] Z fun e w' => e = .returned (.agg (I64 s).toArray) ∧ Below Z.heap.size Z w') := by
  unfold Hid; intro Z hZ; rw [es2]; exact mulI kov kiv Z hZ
 have Hiv : Hid (∀ Z, Vr Z 4 (I64 PL) → Calls Tryd.prog 103 #[.agg (I64 un).toArray] Z fun e w' => e = .returned (.agg (I64 iv).toArray) ∧ Below Z.heap.size Z w') := by unfold Hid; intro Z hZ; rw [eiv]; exact implInverse un Z kun hZ
 have Hrt : Hid (∀ Z, Vr Z 4 (I64 PL) → Vr Z 5 (I64 QL) → Calls Tryd.prog 122 #[.agg (I64 s).toArray] Z fun e w' => e = .returned (.tuple #[.agg (I64 x).toArray, .bool ok]) ∧ Below Z.heap.size Z w') := by unfold Hid; intro Z hZ hZ2; rw [ex, eok]; exact implRoot16 s Z ks hZ hZ2
 have Hop : Hid (∀ Z, Vr Z 4 (I64 PL) → Calls Tryd.prog 62 #[.agg (I64 x).toArray] Z fun e w' => e = .returned (.agg (I64 m).toArray) ∧ Below Z.heap.size Z w') := by unfold Hid; intro Z hZ; rw [em]; exact implOpposite x Z kx hZ
 obtain ⟨bx, ebx⟩ : ∃ b, b = x.getD 0 0 % 2 := ⟨_, rfl⟩
 have Hbx : Hid (∀ Z, Calls Tryd.prog 75 #[.agg (I64 x).toArray, .int .i64 0] Z fun e w' => e = .returned (.int .i64 bx) ∧ Below Z.heap.size Z w') := by
  unfold Hid; intro Z; have := implBit x 0 Z (feOk_len kx) (feOk_lm' kx) (by omega); simpa [ebx] using this
 obtain ⟨bm, ebm⟩ : ∃ b, b = m.getD 0 0 % 2 := ⟨_, rfl⟩
 have Hbm : Hid (∀ Z, Calls Tryd.prog 75 #[.agg (I64 m).toArray, .int .i64 0] Z fun e w' => e = .returned (.int .i64 bm) ∧ Below Z.heap.size Z w') := by
  unfold Hid; intro Z; have := implBit m 0 Z (feOk_len km) (feOk_lm' km) (by omega); simpa [ebm] using this
 rw [← ebx] at HT
 have HT1 : Hid (p = true → bx = o → R = x ∧ rb = ok) := by unfold Hid; intro h h2; obtain ⟨t1, t2⟩ := HT.out h; rw [if_pos h2] at t1 t2; rw [← ebx, h2] at t2; exact ⟨t1, by rw [t2]; simp⟩
 have HT2 : Hid (p = true → ¬ bx = o → R = m ∧ rb = (ok && decide (bm = o))) := by unfold Hid; intro h h2; obtain ⟨t1, t2⟩ := HT.out h; rw [if_neg h2] at t1 t2; rw [← ebm] at t2; exact ⟨t1, t2⟩
 rw [← hR, ← hrb]
 have jyy := infoL' kyy
 have iiyy := infoLl kyy
 have nyy := feOk_len kyy
 have uyy := one_lm yy
 have jov := infoL' kov
 have iiov := infoLl kov
 have nov := feOk_len kov
 have uov := one_lm ov
 have jun := infoL' kun
 have iiun := infoLl kun
 have nun := feOk_len kun
 have uun := one_lm un
 have jx := infoL' kx
 have iix := infoLl kx
 have nx := feOk_len kx
 have ux := one_lm x
 have jm := infoL' km
 have iim := infoLl km
 have nm := feOk_len km
 have um := one_lm m
 have jy : (Tryd.prog.info? 70).map (·.size) = some (I64 y).toArray.size := by simpa [ny] using infoL
 have iDL := infoLl DL_ok
 have hip : (Tryd.prog.info? 70).map (·.size) = some (I64 PL).toArray.size := infoL
 have hz : (Tryd.prog.info? 70).map (·.size) = some (I64 Z16).toArray.size := infoL
 have hu : Tryd.prog.underlying 70 = some (.array 16 3) := Tryd.underlying70
 obtain ⟨A0, hA0⟩ : ∃ A, A = (I64 y).toArray := ⟨_, rfl⟩
 obtain ⟨W, hW⟩ : ∃ W, W = (w.alloc (.cells A0 70)).alloc (.cells #[.int .i64 0, .int .i64 0, .int .i64 0, .int .i64 0, .int .i64 0, .int .i64 0, .int .i64 0, .int .i64 0, .int .i64 0, .int .i64 0, .int .i64 0, .int .i64 0, .int .i64 0, .int .i64 0, .int .i64 0, .int .i64 0] 70) := ⟨_, rfl⟩
 have fr : Below w.heap.size w W := by rw [hW]; exact (((Below.refl _ _).alloc (Nat.le_refl _) _).alloc (by simp) _)
 have pa : Arr W w.heap.size 70 (I64 y) := by
  rw [hW, hA0]
  have := (Arr.new (w) (I64 y) 70).alloc (.cells #[.int .i64 0, .int .i64 0, .int .i64 0, .int .i64 0, .int .i64 0, .int .i64 0, .int .i64 0, .int .i64 0, .int .i64 0, .int .i64 0, .int .i64 0, .int .i64 0, .int .i64 0, .int .i64 0, .int .i64 0, .int .i64 0] 70)
  exact this
 have pr : Arr W (w.heap.size + 1) 70 (I64 Z16) := by
  rw [hW, hA0]
  have := Arr.new (w.alloc (.cells (I64 y).toArray 70)) (I64 Z16) 70
  rw [World.size_alloc] at this
  exact this
 have h0P := hV.lt
 have vP := hV.kept fr
 have h0D := hD.lt
 have vD := hD.kept fr
 have h0Q := hQ.lt
 have vQ := hQ.kept fr
 rw [← hA0]
 clear hA0
 clear hV hD hQ
 clear hp hR hrb HT ex eok em ebx ebm kx km eov2 eun2 es2 eyy kyy eov kov edy kdy eun kun eiv kiv es ks
 go_enter Tryd.func77, Tryd.ntmps77
 go_upto_region 1 with fail
 rw [← hW]
 clear hW
 obtain ⟨gt, gz, hg⟩ := vP
 go_wp2_with (first
   | (refine wpList_load_row rfl 70 _ rfl w.heap.size rfl 70 (I64 y).toArray (0, 0) _ pa Tryd.underlying70 rfl jy ?_)
   | (refine wpList_load_row rfl 70 _ rfl 4 rfl gt (I64 PL).toArray gz _ hg Tryd.underlying70 rfl hip ?_))
 have vP : Vr W 4 (I64 PL) := ⟨gt, gz, hg⟩
 clear hg
 refine (HBL.out _).mono ?_
 rintro e y1 ⟨rfl, hb1⟩
 replace fr := fr.trans (hb1.mono fr.size)
 replace pa := pa.kept hb1
 replace pr := pr.kept hb1
 replace vP := vP.kept hb1
 replace vD := vD.kept hb1
 replace vQ := vQ.kept hb1
 clear hb1
 cases p with
 | false =>
  have h2 := pr.row (I64 Z16)
  have HB : Hid _ := setRow_below fr (w.heap.size + 1) (I64 Z16).toArray (by omega)
  have hF : Hid (R = Z16 ∧ rb = false) := HF.out (by simp)
  go_wp2_with (refine wpList_store_row rfl 70 _ _ rfl (w.heap.size + 1) (I64 Z16).toArray rfl rfl 70 _ pr hz (by simp []) (by simp [Value.oneCell']) ?_)
  exact bodyPost_ret (results_row_tmp (v := .bool false) (cs := I64 Z16) rfl rfl rfl h2 Tryd.underlying70 rfl hz) rfl ⟨by rw [hF.out.1, hF.out.2], HB.out⟩
 | true =>
  go_wp2_with (refine wpList_load_row rfl 70 _ rfl w.heap.size rfl 70 (I64 y).toArray (0, 0) _ pa Tryd.underlying70 rfl jy ?_)
  refine (Hyy.out (by simp) _ vP).mono ?_
  rintro e y2 ⟨rfl, hb2⟩
  replace fr := fr.trans (hb2.mono fr.size)
  replace pa := pa.kept hb2
  replace pr := pr.kept hb2
  replace vP := vP.kept hb2
  replace vD := vD.kept hb2
  replace vQ := vQ.kept hb2
  clear hb2
  have hXyy : w.heap.size < y2.heap.size ∧ (w.heap.size + 1) < y2.heap.size ∧ w.heap.size ≤ y2.heap.size := ⟨pa.lt, pr.lt, fr.size⟩
  obtain ⟨bV, Ayy, q1⟩ := laid_lm y2 yy
  replace fr := fr.trans (bV.mono fr.size)
  replace pa := pa.kept bV
  replace pr := pr.kept bV
  replace vP := vP.kept bV
  replace vD := vD.kept bV
  replace vQ := vQ.kept bV
  go_upto_region 4 with (refine wpList_store_row rfl 70 _ _ rfl y2.heap.size (I64 yy).toArray rfl rfl 70 _ q1 jyy (by simp [nyy]) (by simp [Value.oneCell']) ?_)
  obtain ⟨V3, hVV⟩ : ∃ V, V = (y2.alloc (.cells #[.int .i64 0, .int .i64 0, .int .i64 0, .int .i64 0, .int .i64 0, .int .i64 0, .int .i64 0, .int .i64 0, .int .i64 0, .int .i64 0, .int .i64 0, .int .i64 0, .int .i64 0, .int .i64 0, .int .i64 0, .int .i64 0] 70)).setRow y2.heap.size (I64 yy).toArray := ⟨_, rfl⟩
  obtain ⟨Xyy, hE⟩ : ∃ E, E = y2.heap.size := ⟨_, rfl⟩
  rw [← hVV] at fr pa pr vP vD vQ Ayy ⊢
  rw [← hE] at Ayy hXyy ⊢
  clear hVV hE q1 bV
  clear pa
  try simp only [Act.put]
  go_cut [7, 8] from 11 (fun s7 s8 wc => ∃ (Xov : Nat) (Xun : Nat), s7 = .pointer (some ⟨Xov, 0, none⟩) ∧ s8 = .pointer (some ⟨Xun, 0, none⟩) ∧ Arr wc Xov 70 (I64 ov) ∧ Arr wc Xun 70 (I64 un) ∧ Below w.heap.size w wc ∧ Arr wc (w.heap.size + 1) 70 (I64 Z16) ∧ Vr wc 4 (I64 PL) ∧ Vr wc 2 (I64 DL) ∧ Vr wc 5 (I64 QL) ∧ Arr wc Xyy 70 (I64 yy) ∧ w.heap.size + 1 < Xov ∧ w.heap.size + 1 < Xun)
  case first =>
   have bD : Below V3.heap.size V3 V3.drew := (Below.refl _ _).drew
   replace fr := fr.trans (bD.mono fr.size)
   replace pr := pr.kept bD
   replace vP := vP.kept bD
   replace vD := vD.kept bD
   replace vQ := vQ.kept bD
   replace Ayy := Ayy.kept bD
   clear bD
   refine wp_region_held_drew (S := fun W => W.rangeAt Xyy 0 (I64 yy) ∧ W.rangeAt 2 0 (I64 DL)) (by kernel_rfl) ⟨arr_range Ayy, vr_range vD⟩ (fun hHeld => ?_)
   obtain ⟨D4, hD⟩ : ∃ V, V = V3.drew := ⟨_, rfl⟩
   rw [← hD] at hHeld fr pr vP vD vQ Ayy ⊢
   clear hD
   refine wpAnyH_take (i := 0) (oi := { dst := some 19, op := Op.load 70 (Operand.tmp 6), type := 70, pos := "l06_point.go:140", after := #[], guard := none }) (v := _) rfl (by kernel_rfl) (by kernel_rfl) (by kernel_rfl) (fun _ _ _ h => h) (yieldsIf_load_mid (by rfl) _ _ rfl _ _ rfl (I64 yy) _ (fun _ h => h.1) hu rfl iiyy) (by assumption) ?_
   simp only [Act.put, List.setIfInBounds_toArray, List.set_cons_zero, List.set_cons_succ]
   refine wpAnyH_take (i := 1) (oi := { dst := some 20, op := Op.build 70 #[(0, Operand.const (Value.int IntKind.i64 1))], type := 70, pos := "l06_point.go:140", after := #[], guard := none }) (v := .agg (I64 [1, 0, 0, 0, 0, 0, 0, 0, 0, 0, 0, 0, 0, 0, 0, 0]).toArray) rfl (by kernel_rfl) (by kernel_rfl) (by kernel_rfl) (fun _ _ _ h => h) (.inl ⟨by rfl, fun _ _ => by kernel_rfl⟩) (by assumption) ?_
   simp only [Act.put, List.setIfInBounds_toArray, List.set_cons_zero, List.set_cons_succ]
   refine wpAnyH_take (i := 3) (oi := { dst := some 22, op := Op.load 70 (Operand.global 2), type := 70, pos := "l06_point.go:140", after := #[], guard := none }) (v := _) rfl (by kernel_rfl) (by kernel_rfl) (by kernel_rfl) (fun _ _ _ h => h) (yieldsIf_load_mid (by rfl) _ _ rfl _ _ rfl (I64 DL) _ (fun _ h => h.2) hu rfl iDL) (by assumption) ?_
   simp only [Act.put, List.setIfInBounds_toArray, List.set_cons_zero, List.set_cons_succ]
   refine wpAnyH_take (i := 4) (oi := { dst := some 23, op := Op.load 70 (Operand.tmp 6), type := 70, pos := "l06_point.go:140", after := #[], guard := none }) (v := _) rfl (by kernel_rfl) (by kernel_rfl) (by kernel_rfl) (fun _ _ _ h => h) (yieldsIf_load_mid (by rfl) _ _ rfl _ _ rfl (I64 yy) _ (fun _ h => h.1) hu rfl iiyy) (by assumption) ?_
   simp only [Act.put, List.setIfInBounds_toArray, List.set_cons_zero, List.set_cons_succ]
   refine wpAnyH_take (i := 6) (oi := { dst := some 25, op := Op.build 70 #[(0, Operand.const (Value.int IntKind.i64 1))], type := 70, pos := "l06_point.go:140", after := #[], guard := none }) (v := .agg (I64 [1, 0, 0, 0, 0, 0, 0, 0, 0, 0, 0, 0, 0, 0, 0, 0]).toArray) rfl (by kernel_rfl) (by kernel_rfl) (by kernel_rfl) (fun _ _ _ h => h) (.inl ⟨by rfl, fun _ _ => by kernel_rfl⟩) (by assumption) ?_
   simp only [Act.put, List.setIfInBounds_toArray, List.set_cons_zero, List.set_cons_succ]
   refine wpAnyH_ready (rs := [2, 8, 9]) (by kernel_rfl) (by simp) (AllReadyH.cons (o := { dst := some 21, op := Op.call { callee := Callee.value (Operand.func 107), args := #[Operand.tmp 19, Operand.tmp 20], argTypes := #[70, 70] }, type := 70, pos := "l06_point.go:140", after := #[{ on := 0, ground := Ground.data }, { on := 1, ground := Ground.data }], guard := none }) rfl (fun K hK => ?_) (AllReadyH.cons (o := { dst := some 7, op := Op.alloc 70, type := 0, pos := "l06_point.go:140", after := #[], guard := none }) rfl (fun K hK => ?_) (AllReadyH.cons (o := { dst := some 8, op := Op.alloc 70, type := 0, pos := "l06_point.go:140", after := #[], guard := none }) rfl (fun K hK => ?_) AllReadyH.nil)))
   ·skip
    go_simp
    refine (Hov.out _ vP).mono ?_
    rintro e y5 ⟨rfl, hb5⟩
    replace fr := fr.trans (hb5.mono fr.size)
    replace pr := pr.kept hb5
    replace vP := vP.kept hb5
    replace vD := vD.kept hb5
    replace vQ := vQ.kept hb5
    replace Ayy := Ayy.kept hb5
    clear hb5
    go_wp2_with fail
    refine hK.out _ _ ⟨arr_range Ayy, vr_range vD⟩ (fun hHeld => ?_)
    clear hK K
    refine wpAnyH_ready (rs := [5, 8, 9]) (by kernel_rfl) (by simp) (AllReadyH.cons (o := { dst := some 24, op := Op.call { callee := Callee.value (Operand.func 104), args := #[Operand.tmp 22, Operand.tmp 23], argTypes := #[70, 70] }, type := 70, pos := "l06_point.go:140", after := #[{ on := 3, ground := Ground.data }, { on := 4, ground := Ground.data }, { on := 2, ground := Ground.chain }], guard := none }) rfl (fun K hK => ?_) (AllReadyH.cons (o := { dst := some 7, op := Op.alloc 70, type := 0, pos := "l06_point.go:140", after := #[], guard := none }) rfl (fun K hK => ?_) (AllReadyH.cons (o := { dst := some 8, op := Op.alloc 70, type := 0, pos := "l06_point.go:140", after := #[], guard := none }) rfl (fun K hK => ?_) AllReadyH.nil)))
    ·skip
     go_simp
     refine (Hdy.out _ vP).mono ?_
     rintro e y6 ⟨rfl, hb6⟩
     replace fr := fr.trans (hb6.mono fr.size)
     replace pr := pr.kept hb6
     replace vP := vP.kept hb6
     replace vD := vD.kept hb6
     replace vQ := vQ.kept hb6
     replace Ayy := Ayy.kept hb6
     clear hb6
     go_wp2_with fail
     refine hK.out _ _ ⟨arr_range Ayy, vr_range vD⟩ (fun hHeld => ?_)
     clear hK K
     refine wpAnyH_ready (rs := [7, 8, 9]) (by kernel_rfl) (by simp) (AllReadyH.cons (o := { dst := some 26, op := Op.call { callee := Callee.value (Operand.func 105), args := #[Operand.tmp 24, Operand.tmp 25], argTypes := #[70, 70] }, type := 70, pos := "l06_point.go:140", after := #[{ on := 5, ground := Ground.data }, { on := 6, ground := Ground.data }, { on := 5, ground := Ground.chain }], guard := none }) rfl (fun K hK => ?_) (AllReadyH.cons (o := { dst := some 7, op := Op.alloc 70, type := 0, pos := "l06_point.go:140", after := #[], guard := none }) rfl (fun K hK => ?_) (AllReadyH.cons (o := { dst := some 8, op := Op.alloc 70, type := 0, pos := "l06_point.go:140", after := #[], guard := none }) rfl (fun K hK => ?_) AllReadyH.nil)))
     ·skip
      go_simp
      refine (Hun.out _ vP).mono ?_
      rintro e y7 ⟨rfl, hb7⟩
      replace fr := fr.trans (hb7.mono fr.size)
      replace pr := pr.kept hb7
      replace vP := vP.kept hb7
      replace vD := vD.kept hb7
      replace vQ := vQ.kept hb7
      replace Ayy := Ayy.kept hb7
      clear hb7
      go_wp2_with fail
      refine hK.out _ _ ⟨arr_range Ayy, vr_range vD⟩ (fun hHeld => ?_)
      clear hK K
      refine wpAnyH_ready (rs := [8, 9]) (by kernel_rfl) (by simp) (AllReadyH.cons (o := { dst := some 7, op := Op.alloc 70, type := 0, pos := "l06_point.go:140", after := #[], guard := none }) rfl (fun K hK => ?_) (AllReadyH.cons (o := { dst := some 8, op := Op.alloc 70, type := 0, pos := "l06_point.go:140", after := #[], guard := none }) rfl (fun K hK => ?_) AllReadyH.nil))
      ·skip
       go_simp
       obtain ⟨V8, hVe⟩ : ∃ V, V = y7.alloc (.cells #[.int .i64 0, .int .i64 0, .int .i64 0, .int .i64 0, .int .i64 0, .int .i64 0, .int .i64 0, .int .i64 0, .int .i64 0, .int .i64 0, .int .i64 0, .int .i64 0, .int .i64 0, .int .i64 0, .int .i64 0, .int .i64 0] 70) := ⟨_, rfl⟩
       have bV : Below y7.heap.size y7 V8 := by rw [hVe]; exact (Below.refl _ _).alloc (Nat.le_refl _) _
       have Aov : Arr V8 y7.heap.size 70 (I64 Z16) := by rw [hVe]; exact Arr.new _ (I64 Z16) _
       have hXov : (w.heap.size + 1) < y7.heap.size ∧ Xyy < y7.heap.size ∧ True := ⟨pr.lt, Ayy.lt, trivial⟩
       obtain ⟨Xov, hXe⟩ : ∃ X, X = y7.heap.size := ⟨_, rfl⟩
       replace fr := fr.trans (bV.mono fr.size)
       replace pr := pr.kept bV
       replace vP := vP.kept bV
       replace vD := vD.kept bV
       replace vQ := vQ.kept bV
       replace Ayy := Ayy.kept bV
       rw [← hVe]
       rw [← hXe] at Aov hXov ⊢
       clear hVe hXe bV
       refine hK.out _ _ ⟨arr_range Ayy, vr_range vD⟩ (fun hHeld => ?_)
       clear hK K
       refine wpAnyH_ready (rs := [9]) (by kernel_rfl) (by simp) (AllReadyH.cons (o := { dst := some 8, op := Op.alloc 70, type := 0, pos := "l06_point.go:140", after := #[], guard := none }) rfl (fun K hK => ?_) AllReadyH.nil)
       go_simp
       obtain ⟨V9, hVe⟩ : ∃ V, V = V8.alloc (.cells #[.int .i64 0, .int .i64 0, .int .i64 0, .int .i64 0, .int .i64 0, .int .i64 0, .int .i64 0, .int .i64 0, .int .i64 0, .int .i64 0, .int .i64 0, .int .i64 0, .int .i64 0, .int .i64 0, .int .i64 0, .int .i64 0] 70) := ⟨_, rfl⟩
       have bV : Below V8.heap.size V8 V9 := by rw [hVe]; exact (Below.refl _ _).alloc (Nat.le_refl _) _
       have Aun : Arr V9 V8.heap.size 70 (I64 Z16) := by rw [hVe]; exact Arr.new _ (I64 Z16) _
       have hXun : (w.heap.size + 1) < V8.heap.size ∧ Xyy < V8.heap.size ∧ Xov < V8.heap.size ∧ True := ⟨pr.lt, Ayy.lt, Aov.lt, trivial⟩
       obtain ⟨Xun, hXe⟩ : ∃ X, X = V8.heap.size := ⟨_, rfl⟩
       replace fr := fr.trans (bV.mono fr.size)
       replace pr := pr.kept bV
       replace vP := vP.kept bV
       replace vD := vD.kept bV
       replace vQ := vQ.kept bV
       replace Ayy := Ayy.kept bV
       replace Aov := Aov.kept bV
       rw [← hVe]
       rw [← hXe] at Aun hXun ⊢
       clear hVe hXe bV
       refine hK.out _ _ ⟨arr_range Ayy, vr_range vD⟩ (fun hHeld => ?_)
       clear hK K
       refine wpAnyH_ready (rs := [10]) (by kernel_rfl) (by simp) (AllReadyH.cons (o := qOk0) rfl (fun K hK => ?_) AllReadyH.nil)
       rw [if_pos (by rfl)]
       refine wp_store_mid _ _ _ rfl _ _ (I64 ov).toArray rfl rfl (by have := arr_there Aov; simpa [nov] using this) jov (all_oneCell_toArray uov) ?_
       simp only [Act.put]
       replace fr := bel_sc fr Xov (I64 ov) (by omega)
       replace pr := pr.sc Xov (I64 ov) (by omega)
       replace vP := vP.sc Xov (I64 ov) (by omega)
       replace vD := vD.sc Xov (I64 ov) (by omega)
       replace vQ := vQ.sc Xov (I64 ov) (by omega)
       replace Ayy := Ayy.sc Xov (I64 ov) (by omega)
       replace Aov := Aov.sc0 (I64 ov) (by simp [nov])
       replace Aun := Aun.sc Xov (I64 ov) (by omega)
       obtain ⟨V10, hVe⟩ : ∃ V, V = V9.setCells Xov 0 (I64 ov) := ⟨_, rfl⟩
       rw [← hVe] at fr pr vP vD vQ Ayy Aov Aun ⊢
       clear hVe
       refine hK.out _ _ ⟨arr_range Ayy, vr_range vD⟩ (fun hHeld => ?_)
       clear hK K
       refine wpAnyH_ready (rs := [11]) (by kernel_rfl) (by simp) (AllReadyH.cons (o := qOk1) rfl (fun K hK => ?_) AllReadyH.nil)
       rw [if_pos (by rfl)]
       refine wp_store_mid _ _ _ rfl _ _ (I64 un).toArray rfl rfl (by have := arr_there Aun; simpa [nun] using this) jun (all_oneCell_toArray uun) ?_
       simp only [Act.put]
       replace fr := bel_sc fr Xun (I64 un) (by omega)
       replace pr := pr.sc Xun (I64 un) (by omega)
       replace vP := vP.sc Xun (I64 un) (by omega)
       replace vD := vD.sc Xun (I64 un) (by omega)
       replace vQ := vQ.sc Xun (I64 un) (by omega)
       replace Ayy := Ayy.sc Xun (I64 un) (by omega)
       replace Aov := Aov.sc Xun (I64 un) (by omega)
       replace Aun := Aun.sc0 (I64 un) (by simp [nun])
       obtain ⟨V11, hVe⟩ : ∃ V, V = V10.setCells Xun 0 (I64 un) := ⟨_, rfl⟩
       rw [← hVe] at fr pr vP vD vQ Ayy Aov Aun ⊢
       clear hVe
       refine hK.out _ _ ⟨arr_range Ayy, vr_range vD⟩ (fun hHeld => ?_)
       clear hK K
       refine wpAnyH_done (by kernel_rfl) ?_ _
       go_wp2
       go_meet
       case rel => exact ⟨Xov, Xun, rfl, rfl, Aov, Aun, fr, pr, vP, vD, vQ, Ayy, (by omega), (by omega)⟩
      ·skip
       go_simp
       obtain ⟨V12, hVe⟩ : ∃ V, V = y7.alloc (.cells #[.int .i64 0, .int .i64 0, .int .i64 0, .int .i64 0, .int .i64 0, .int .i64 0, .int .i64 0, .int .i64 0, .int .i64 0, .int .i64 0, .int .i64 0, .int .i64 0, .int .i64 0, .int .i64 0, .int .i64 0, .int .i64 0] 70) := ⟨_, rfl⟩
       have bV : Below y7.heap.size y7 V12 := by rw [hVe]; exact (Below.refl _ _).alloc (Nat.le_refl _) _
       have Aun : Arr V12 y7.heap.size 70 (I64 Z16) := by rw [hVe]; exact Arr.new _ (I64 Z16) _
       have hXun : (w.heap.size + 1) < y7.heap.size ∧ Xyy < y7.heap.size ∧ True := ⟨pr.lt, Ayy.lt, trivial⟩
       obtain ⟨Xun, hXe⟩ : ∃ X, X = y7.heap.size := ⟨_, rfl⟩
       replace fr := fr.trans (bV.mono fr.size)
       replace pr := pr.kept bV
       replace vP := vP.kept bV
       replace vD := vD.kept bV
       replace vQ := vQ.kept bV
       replace Ayy := Ayy.kept bV
       rw [← hVe]
       rw [← hXe] at Aun hXun ⊢
       clear hVe hXe bV
       refine hK.out _ _ ⟨arr_range Ayy, vr_range vD⟩ (fun hHeld => ?_)
       clear hK K
       refine wpAnyH_ready (rs := [8]) (by kernel_rfl) (by simp) (AllReadyH.cons (o := { dst := some 7, op := Op.alloc 70, type := 0, pos := "l06_point.go:140", after := #[], guard := none }) rfl (fun K hK => ?_) AllReadyH.nil)
       go_simp
       obtain ⟨V13, hVe⟩ : ∃ V, V = V12.alloc (.cells #[.int .i64 0, .int .i64 0, .int .i64 0, .int .i64 0, .int .i64 0, .int .i64 0, .int .i64 0, .int .i64 0, .int .i64 0, .int .i64 0, .int .i64 0, .int .i64 0, .int .i64 0, .int .i64 0, .int .i64 0, .int .i64 0] 70) := ⟨_, rfl⟩
       have bV : Below V12.heap.size V12 V13 := by rw [hVe]; exact (Below.refl _ _).alloc (Nat.le_refl _) _
       have Aov : Arr V13 V12.heap.size 70 (I64 Z16) := by rw [hVe]; exact Arr.new _ (I64 Z16) _
       have hXov : (w.heap.size + 1) < V12.heap.size ∧ Xyy < V12.heap.size ∧ Xun < V12.heap.size ∧ True := ⟨pr.lt, Ayy.lt, Aun.lt, trivial⟩
       obtain ⟨Xov, hXe⟩ : ∃ X, X = V12.heap.size := ⟨_, rfl⟩
       replace fr := fr.trans (bV.mono fr.size)
       replace pr := pr.kept bV
       replace vP := vP.kept bV
       replace vD := vD.kept bV
       replace vQ := vQ.kept bV
       replace Ayy := Ayy.kept bV
       replace Aun := Aun.kept bV
       rw [← hVe]
       rw [← hXe] at Aov hXov ⊢
       clear hVe hXe bV
       refine hK.out _ _ ⟨arr_range Ayy, vr_range vD⟩ (fun hHeld => ?_)
       clear hK K
       refine wpAnyH_ready (rs := [10]) (by kernel_rfl) (by simp) (AllReadyH.cons (o := qOk0) rfl (fun K hK => ?_) AllReadyH.nil)
       rw [if_pos (by rfl)]
       refine wp_store_mid _ _ _ rfl _ _ (I64 ov).toArray rfl rfl (by have := arr_there Aov; simpa [nov] using this) jov (all_oneCell_toArray uov) ?_
       simp only [Act.put]
       replace fr := bel_sc fr Xov (I64 ov) (by omega)
       replace pr := pr.sc Xov (I64 ov) (by omega)
       replace vP := vP.sc Xov (I64 ov) (by omega)
       replace vD := vD.sc Xov (I64 ov) (by omega)
       replace vQ := vQ.sc Xov (I64 ov) (by omega)
       replace Ayy := Ayy.sc Xov (I64 ov) (by omega)
       replace Aun := Aun.sc Xov (I64 ov) (by omega)
       replace Aov := Aov.sc0 (I64 ov) (by simp [nov])
       obtain ⟨V14, hVe⟩ : ∃ V, V = V13.setCells Xov 0 (I64 ov) := ⟨_, rfl⟩
       rw [← hVe] at fr pr vP vD vQ Ayy Aun Aov ⊢
       clear hVe
       refine hK.out _ _ ⟨arr_range Ayy, vr_range vD⟩ (fun hHeld => ?_)
       clear hK K
       refine wpAnyH_ready (rs := [11]) (by kernel_rfl) (by simp) (AllReadyH.cons (o := qOk1) rfl (fun K hK => ?_) AllReadyH.nil)
       rw [if_pos (by rfl)]
       refine wp_store_mid _ _ _ rfl _ _ (I64 un).toArray rfl rfl (by have := arr_there Aun; simpa [nun] using this) jun (all_oneCell_toArray uun) ?_
       simp only [Act.put]
       replace fr := bel_sc fr Xun (I64 un) (by omega)
       replace pr := pr.sc Xun (I64 un) (by omega)
       replace vP := vP.sc Xun (I64 un) (by omega)
       replace vD := vD.sc Xun (I64 un) (by omega)
       replace vQ := vQ.sc Xun (I64 un) (by omega)
       replace Ayy := Ayy.sc Xun (I64 un) (by omega)
       replace Aun := Aun.sc0 (I64 un) (by simp [nun])
       replace Aov := Aov.sc Xun (I64 un) (by omega)
       obtain ⟨V15, hVe⟩ : ∃ V, V = V14.setCells Xun 0 (I64 un) := ⟨_, rfl⟩
       rw [← hVe] at fr pr vP vD vQ Ayy Aun Aov ⊢
       clear hVe
       refine hK.out _ _ ⟨arr_range Ayy, vr_range vD⟩ (fun hHeld => ?_)
       clear hK K
       refine wpAnyH_done (by kernel_rfl) ?_ _
       go_wp2
       go_meet
       case rel => exact ⟨Xov, Xun, rfl, rfl, Aov, Aun, fr, pr, vP, vD, vQ, Ayy, (by omega), (by omega)⟩
     ·skip
      go_simp
      obtain ⟨V16, hVe⟩ : ∃ V, V = y6.alloc (.cells #[.int .i64 0, .int .i64 0, .int .i64 0, .int .i64 0, .int .i64 0, .int .i64 0, .int .i64 0, .int .i64 0, .int .i64 0, .int .i64 0, .int .i64 0, .int .i64 0, .int .i64 0, .int .i64 0, .int .i64 0, .int .i64 0] 70) := ⟨_, rfl⟩
      have bV : Below y6.heap.size y6 V16 := by rw [hVe]; exact (Below.refl _ _).alloc (Nat.le_refl _) _
      have Aov : Arr V16 y6.heap.size 70 (I64 Z16) := by rw [hVe]; exact Arr.new _ (I64 Z16) _
      have hXov : (w.heap.size + 1) < y6.heap.size ∧ Xyy < y6.heap.size ∧ True := ⟨pr.lt, Ayy.lt, trivial⟩
      obtain ⟨Xov, hXe⟩ : ∃ X, X = y6.heap.size := ⟨_, rfl⟩
      replace fr := fr.trans (bV.mono fr.size)
      replace pr := pr.kept bV
      replace vP := vP.kept bV
      replace vD := vD.kept bV
      replace vQ := vQ.kept bV
      replace Ayy := Ayy.kept bV
      rw [← hVe]
      rw [← hXe] at Aov hXov ⊢
      clear hVe hXe bV
      refine hK.out _ _ ⟨arr_range Ayy, vr_range vD⟩ (fun hHeld => ?_)
      clear hK K
      refine wpAnyH_ready (rs := [7, 9]) (by kernel_rfl) (by simp) (AllReadyH.cons (o := { dst := some 26, op := Op.call { callee := Callee.value (Operand.func 105), args := #[Operand.tmp 24, Operand.tmp 25], argTypes := #[70, 70] }, type := 70, pos := "l06_point.go:140", after := #[{ on := 5, ground := Ground.data }, { on := 6, ground := Ground.data }, { on := 5, ground := Ground.chain }], guard := none }) rfl (fun K hK => ?_) (AllReadyH.cons (o := { dst := some 8, op := Op.alloc 70, type := 0, pos := "l06_point.go:140", after := #[], guard := none }) rfl (fun K hK => ?_) AllReadyH.nil))
      ·skip
       go_simp
       refine (Hun.out _ vP).mono ?_
       rintro e y17 ⟨rfl, hb17⟩
       replace fr := fr.trans (hb17.mono fr.size)
       replace pr := pr.kept hb17
       replace vP := vP.kept hb17
       replace vD := vD.kept hb17
       replace vQ := vQ.kept hb17
       replace Ayy := Ayy.kept hb17
       replace Aov := Aov.kept hb17
       clear hb17
       go_wp2_with fail
       refine hK.out _ _ ⟨arr_range Ayy, vr_range vD⟩ (fun hHeld => ?_)
       clear hK K
       refine wpAnyH_ready (rs := [9]) (by kernel_rfl) (by simp) (AllReadyH.cons (o := { dst := some 8, op := Op.alloc 70, type := 0, pos := "l06_point.go:140", after := #[], guard := none }) rfl (fun K hK => ?_) AllReadyH.nil)
       go_simp
       obtain ⟨V18, hVe⟩ : ∃ V, V = y17.alloc (.cells #[.int .i64 0, .int .i64 0, .int .i64 0, .int .i64 0, .int .i64 0, .int .i64 0, .int .i64 0, .int .i64 0, .int .i64 0, .int .i64 0, .int .i64 0, .int .i64 0, .int .i64 0, .int .i64 0, .int .i64 0, .int .i64 0] 70) := ⟨_, rfl⟩
       have bV : Below y17.heap.size y17 V18 := by rw [hVe]; exact (Below.refl _ _).alloc (Nat.le_refl _) _
       have Aun : Arr V18 y17.heap.size 70 (I64 Z16) := by rw [hVe]; exact Arr.new _ (I64 Z16) _
       have hXun : (w.heap.size + 1) < y17.heap.size ∧ Xyy < y17.heap.size ∧ Xov < y17.heap.size ∧ True := ⟨pr.lt, Ayy.lt, Aov.lt, trivial⟩
       obtain ⟨Xun, hXe⟩ : ∃ X, X = y17.heap.size := ⟨_, rfl⟩
       replace fr := fr.trans (bV.mono fr.size)
       replace pr := pr.kept bV
       replace vP := vP.kept bV
       replace vD := vD.kept bV
       replace vQ := vQ.kept bV
       replace Ayy := Ayy.kept bV
       replace Aov := Aov.kept bV
       rw [← hVe]
       rw [← hXe] at Aun hXun ⊢
       clear hVe hXe bV
       refine hK.out _ _ ⟨arr_range Ayy, vr_range vD⟩ (fun hHeld => ?_)
       clear hK K
       refine wpAnyH_ready (rs := [10]) (by kernel_rfl) (by simp) (AllReadyH.cons (o := qOk0) rfl (fun K hK => ?_) AllReadyH.nil)
       rw [if_pos (by rfl)]
       refine wp_store_mid _ _ _ rfl _ _ (I64 ov).toArray rfl rfl (by have := arr_there Aov; simpa [nov] using this) jov (all_oneCell_toArray uov) ?_
       simp only [Act.put]
       replace fr := bel_sc fr Xov (I64 ov) (by omega)
       replace pr := pr.sc Xov (I64 ov) (by omega)
       replace vP := vP.sc Xov (I64 ov) (by omega)
       replace vD := vD.sc Xov (I64 ov) (by omega)
       replace vQ := vQ.sc Xov (I64 ov) (by omega)
       replace Ayy := Ayy.sc Xov (I64 ov) (by omega)
       replace Aov := Aov.sc0 (I64 ov) (by simp [nov])
       replace Aun := Aun.sc Xov (I64 ov) (by omega)
       obtain ⟨V19, hVe⟩ : ∃ V, V = V18.setCells Xov 0 (I64 ov) := ⟨_, rfl⟩
       rw [← hVe] at fr pr vP vD vQ Ayy Aov Aun ⊢
       clear hVe
       refine hK.out _ _ ⟨arr_range Ayy, vr_range vD⟩ (fun hHeld => ?_)
       clear hK K
       refine wpAnyH_ready (rs := [11]) (by kernel_rfl) (by simp) (AllReadyH.cons (o := qOk1) rfl (fun K hK => ?_) AllReadyH.nil)
       rw [if_pos (by rfl)]
       refine wp_store_mid _ _ _ rfl _ _ (I64 un).toArray rfl rfl (by have := arr_there Aun; simpa [nun] using this) jun (all_oneCell_toArray uun) ?_
       simp only [Act.put]
       replace fr := bel_sc fr Xun (I64 un) (by omega)
       replace pr := pr.sc Xun (I64 un) (by omega)
       replace vP := vP.sc Xun (I64 un) (by omega)
       replace vD := vD.sc Xun (I64 un) (by omega)
       replace vQ := vQ.sc Xun (I64 un) (by omega)
       replace Ayy := Ayy.sc Xun (I64 un) (by omega)
       replace Aov := Aov.sc Xun (I64 un) (by omega)
       replace Aun := Aun.sc0 (I64 un) (by simp [nun])
       obtain ⟨V20, hVe⟩ : ∃ V, V = V19.setCells Xun 0 (I64 un) := ⟨_, rfl⟩
       rw [← hVe] at fr pr vP vD vQ Ayy Aov Aun ⊢
       clear hVe
       refine hK.out _ _ ⟨arr_range Ayy, vr_range vD⟩ (fun hHeld => ?_)
       clear hK K
       refine wpAnyH_done (by kernel_rfl) ?_ _
       go_wp2
       go_meet
       case rel => exact ⟨Xov, Xun, rfl, rfl, Aov, Aun, fr, pr, vP, vD, vQ, Ayy, (by omega), (by omega)⟩
      ·skip
       go_simp
       obtain ⟨V21, hVe⟩ : ∃ V, V = V16.alloc (.cells #[.int .i64 0, .int .i64 0, .int .i64 0, .int .i64 0, .int .i64 0, .int .i64 0, .int .i64 0, .int .i64 0, .int .i64 0, .int .i64 0, .int .i64 0, .int .i64 0, .int .i64 0, .int .i64 0, .int .i64 0, .int .i64 0] 70) := ⟨_, rfl⟩
       have bV : Below V16.heap.size V16 V21 := by rw [hVe]; exact (Below.refl _ _).alloc (Nat.le_refl _) _
       have Aun : Arr V21 V16.heap.size 70 (I64 Z16) := by rw [hVe]; exact Arr.new _ (I64 Z16) _
       have hXun : (w.heap.size + 1) < V16.heap.size ∧ Xyy < V16.heap.size ∧ Xov < V16.heap.size ∧ True := ⟨pr.lt, Ayy.lt, Aov.lt, trivial⟩
       obtain ⟨Xun, hXe⟩ : ∃ X, X = V16.heap.size := ⟨_, rfl⟩
       replace fr := fr.trans (bV.mono fr.size)
       replace pr := pr.kept bV
       replace vP := vP.kept bV
       replace vD := vD.kept bV
       replace vQ := vQ.kept bV
       replace Ayy := Ayy.kept bV
       replace Aov := Aov.kept bV
       rw [← hVe]
       rw [← hXe] at Aun hXun ⊢
       clear hVe hXe bV
       refine hK.out _ _ ⟨arr_range Ayy, vr_range vD⟩ (fun hHeld => ?_)
       clear hK K
       refine wpAnyH_ready (rs := [7]) (by kernel_rfl) (by simp) (AllReadyH.cons (o := { dst := some 26, op := Op.call { callee := Callee.value (Operand.func 105), args := #[Operand.tmp 24, Operand.tmp 25], argTypes := #[70, 70] }, type := 70, pos := "l06_point.go:140", after := #[{ on := 5, ground := Ground.data }, { on := 6, ground := Ground.data }, { on := 5, ground := Ground.chain }], guard := none }) rfl (fun K hK => ?_) AllReadyH.nil)
       go_simp
       refine (Hun.out _ vP).mono ?_
       rintro e y22 ⟨rfl, hb22⟩
       replace fr := fr.trans (hb22.mono fr.size)
       replace pr := pr.kept hb22
       replace vP := vP.kept hb22
       replace vD := vD.kept hb22
       replace vQ := vQ.kept hb22
       replace Ayy := Ayy.kept hb22
       replace Aov := Aov.kept hb22
       replace Aun := Aun.kept hb22
       clear hb22
       go_wp2_with fail
       refine hK.out _ _ ⟨arr_range Ayy, vr_range vD⟩ (fun hHeld => ?_)
       clear hK K
       refine wpAnyH_ready (rs := [10]) (by kernel_rfl) (by simp) (AllReadyH.cons (o := qOk0) rfl (fun K hK => ?_) AllReadyH.nil)
       rw [if_pos (by rfl)]
       refine wp_store_mid _ _ _ rfl _ _ (I64 ov).toArray rfl rfl (by have := arr_there Aov; simpa [nov] using this) jov (all_oneCell_toArray uov) ?_
       simp only [Act.put]
       replace fr := bel_sc fr Xov (I64 ov) (by omega)
       replace pr := pr.sc Xov (I64 ov) (by omega)
       replace vP := vP.sc Xov (I64 ov) (by omega)
       replace vD := vD.sc Xov (I64 ov) (by omega)
       replace vQ := vQ.sc Xov (I64 ov) (by omega)
       replace Ayy := Ayy.sc Xov (I64 ov) (by omega)
       replace Aov := Aov.sc0 (I64 ov) (by simp [nov])
       replace Aun := Aun.sc Xov (I64 ov) (by omega)
       obtain ⟨V23, hVe⟩ : ∃ V, V = y22.setCells Xov 0 (I64 ov) := ⟨_, rfl⟩
       rw [← hVe] at fr pr vP vD vQ Ayy Aov Aun ⊢
       clear hVe
       refine hK.out _ _ ⟨arr_range Ayy, vr_range vD⟩ (fun hHeld => ?_)
       clear hK K
       refine wpAnyH_ready (rs := [11]) (by kernel_rfl) (by simp) (AllReadyH.cons (o := qOk1) rfl (fun K hK => ?_) AllReadyH.nil)
       rw [if_pos (by rfl)]
       refine wp_store_mid _ _ _ rfl _ _ (I64 un).toArray rfl rfl (by have := arr_there Aun; simpa [nun] using this) jun (all_oneCell_toArray uun) ?_
       simp only [Act.put]
       replace fr := bel_sc fr Xun (I64 un) (by omega)
       replace pr := pr.sc Xun (I64 un) (by omega)
       replace vP := vP.sc Xun (I64 un) (by omega)
       replace vD := vD.sc Xun (I64 un) (by omega)
       replace vQ := vQ.sc Xun (I64 un) (by omega)
       replace Ayy := Ayy.sc Xun (I64 un) (by omega)
       replace Aov := Aov.sc Xun (I64 un) (by omega)
       replace Aun := Aun.sc0 (I64 un) (by simp [nun])
       obtain ⟨V24, hVe⟩ : ∃ V, V = V23.setCells Xun 0 (I64 un) := ⟨_, rfl⟩
       rw [← hVe] at fr pr vP vD vQ Ayy Aov Aun ⊢
       clear hVe
       refine hK.out _ _ ⟨arr_range Ayy, vr_range vD⟩ (fun hHeld => ?_)
       clear hK K
       refine wpAnyH_done (by kernel_rfl) ?_ _
       go_wp2
       go_meet
       case rel => exact ⟨Xov, Xun, rfl, rfl, Aov, Aun, fr, pr, vP, vD, vQ, Ayy, (by omega), (by omega)⟩
     ·skip
      go_simp
      obtain ⟨V25, hVe⟩ : ∃ V, V = y6.alloc (.cells #[.int .i64 0, .int .i64 0, .int .i64 0, .int .i64 0, .int .i64 0, .int .i64 0, .int .i64 0, .int .i64 0, .int .i64 0, .int .i64 0, .int .i64 0, .int .i64 0, .int .i64 0, .int .i64 0, .int .i64 0, .int .i64 0] 70) := ⟨_, rfl⟩
      have bV : Below y6.heap.size y6 V25 := by rw [hVe]; exact (Below.refl _ _).alloc (Nat.le_refl _) _
      have Aun : Arr V25 y6.heap.size 70 (I64 Z16) := by rw [hVe]; exact Arr.new _ (I64 Z16) _
      have hXun : (w.heap.size + 1) < y6.heap.size ∧ Xyy < y6.heap.size ∧ True := ⟨pr.lt, Ayy.lt, trivial⟩
      obtain ⟨Xun, hXe⟩ : ∃ X, X = y6.heap.size := ⟨_, rfl⟩
      replace fr := fr.trans (bV.mono fr.size)
      replace pr := pr.kept bV
      replace vP := vP.kept bV
      replace vD := vD.kept bV
      replace vQ := vQ.kept bV
      replace Ayy := Ayy.kept bV
      rw [← hVe]
      rw [← hXe] at Aun hXun ⊢
      clear hVe hXe bV
      refine hK.out _ _ ⟨arr_range Ayy, vr_range vD⟩ (fun hHeld => ?_)
      clear hK K
      refine wpAnyH_ready (rs := [7, 8]) (by kernel_rfl) (by simp) (AllReadyH.cons (o := { dst := some 26, op := Op.call { callee := Callee.value (Operand.func 105), args := #[Operand.tmp 24, Operand.tmp 25], argTypes := #[70, 70] }, type := 70, pos := "l06_point.go:140", after := #[{ on := 5, ground := Ground.data }, { on := 6, ground := Ground.data }, { on := 5, ground := Ground.chain }], guard := none }) rfl (fun K hK => ?_) (AllReadyH.cons (o := { dst := some 7, op := Op.alloc 70, type := 0, pos := "l06_point.go:140", after := #[], guard := none }) rfl (fun K hK => ?_) AllReadyH.nil))
      ·skip
       go_simp
       refine (Hun.out _ vP).mono ?_
       rintro e y26 ⟨rfl, hb26⟩
       replace fr := fr.trans (hb26.mono fr.size)
       replace pr := pr.kept hb26
       replace vP := vP.kept hb26
       replace vD := vD.kept hb26
       replace vQ := vQ.kept hb26
       replace Ayy := Ayy.kept hb26
       replace Aun := Aun.kept hb26
       clear hb26
       go_wp2_with fail
       refine hK.out _ _ ⟨arr_range Ayy, vr_range vD⟩ (fun hHeld => ?_)
       clear hK K
       refine wpAnyH_ready (rs := [8]) (by kernel_rfl) (by simp) (AllReadyH.cons (o := { dst := some 7, op := Op.alloc 70, type := 0, pos := "l06_point.go:140", after := #[], guard := none }) rfl (fun K hK => ?_) AllReadyH.nil)
       go_simp
       obtain ⟨V27, hVe⟩ : ∃ V, V = y26.alloc (.cells #[.int .i64 0, .int .i64 0, .int .i64 0, .int .i64 0, .int .i64 0, .int .i64 0, .int .i64 0, .int .i64 0, .int .i64 0, .int .i64 0, .int .i64 0, .int .i64 0, .int .i64 0, .int .i64 0, .int .i64 0, .int .i64 0] 70) := ⟨_, rfl⟩
       have bV : Below y26.heap.size y26 V27 := by rw [hVe]; exact (Below.refl _ _).alloc (Nat.le_refl _) _
       have Aov : Arr V27 y26.heap.size 70 (I64 Z16) := by rw [hVe]; exact Arr.new _ (I64 Z16) _
       have hXov : (w.heap.size + 1) < y26.heap.size ∧ Xyy < y26.heap.size ∧ Xun < y26.heap.size ∧ True := ⟨pr.lt, Ayy.lt, Aun.lt, trivial⟩
       obtain ⟨Xov, hXe⟩ : ∃ X, X = y26.heap.size := ⟨_, rfl⟩
       replace fr := fr.trans (bV.mono fr.size)
       replace pr := pr.kept bV
       replace vP := vP.kept bV
       replace vD := vD.kept bV
       replace vQ := vQ.kept bV
       replace Ayy := Ayy.kept bV
       replace Aun := Aun.kept bV
       rw [← hVe]
       rw [← hXe] at Aov hXov ⊢
       clear hVe hXe bV
       refine hK.out _ _ ⟨arr_range Ayy, vr_range vD⟩ (fun hHeld => ?_)
       clear hK K
       refine wpAnyH_ready (rs := [10]) (by kernel_rfl) (by simp) (AllReadyH.cons (o := qOk0) rfl (fun K hK => ?_) AllReadyH.nil)
       rw [if_pos (by rfl)]
       refine wp_store_mid _ _ _ rfl _ _ (I64 ov).toArray rfl rfl (by have := arr_there Aov; simpa [nov] using this) jov (all_oneCell_toArray uov) ?_
       simp only [Act.put]
       replace fr := bel_sc fr Xov (I64 ov) (by omega)
       replace pr := pr.sc Xov (I64 ov) (by omega)
       replace vP := vP.sc Xov (I64 ov) (by omega)
       replace vD := vD.sc Xov (I64 ov) (by omega)
       replace vQ := vQ.sc Xov (I64 ov) (by omega)
       replace Ayy := Ayy.sc Xov (I64 ov) (by omega)
       replace Aun := Aun.sc Xov (I64 ov) (by omega)
       replace Aov := Aov.sc0 (I64 ov) (by simp [nov])
       obtain ⟨V28, hVe⟩ : ∃ V, V = V27.setCells Xov 0 (I64 ov) := ⟨_, rfl⟩
       rw [← hVe] at fr pr vP vD vQ Ayy Aun Aov ⊢
       clear hVe
       refine hK.out _ _ ⟨arr_range Ayy, vr_range vD⟩ (fun hHeld => ?_)
       clear hK K
       refine wpAnyH_ready (rs := [11]) (by kernel_rfl) (by simp) (AllReadyH.cons (o := qOk1) rfl (fun K hK => ?_) AllReadyH.nil)
       rw [if_pos (by rfl)]
       refine wp_store_mid _ _ _ rfl _ _ (I64 un).toArray rfl rfl (by have := arr_there Aun; simpa [nun] using this) jun (all_oneCell_toArray uun) ?_
       simp only [Act.put]
       replace fr := bel_sc fr Xun (I64 un) (by omega)
       replace pr := pr.sc Xun (I64 un) (by omega)
       replace vP := vP.sc Xun (I64 un) (by omega)
       replace vD := vD.sc Xun (I64 un) (by omega)
       replace vQ := vQ.sc Xun (I64 un) (by omega)
       replace Ayy := Ayy.sc Xun (I64 un) (by omega)
       replace Aun := Aun.sc0 (I64 un) (by simp [nun])
       replace Aov := Aov.sc Xun (I64 un) (by omega)
       obtain ⟨V29, hVe⟩ : ∃ V, V = V28.setCells Xun 0 (I64 un) := ⟨_, rfl⟩
       rw [← hVe] at fr pr vP vD vQ Ayy Aun Aov ⊢
       clear hVe
       refine hK.out _ _ ⟨arr_range Ayy, vr_range vD⟩ (fun hHeld => ?_)
       clear hK K
       refine wpAnyH_done (by kernel_rfl) ?_ _
       go_wp2
       go_meet
       case rel => exact ⟨Xov, Xun, rfl, rfl, Aov, Aun, fr, pr, vP, vD, vQ, Ayy, (by omega), (by omega)⟩
      ·skip
       go_simp
       obtain ⟨V30, hVe⟩ : ∃ V, V = V25.alloc (.cells #[.int .i64 0, .int .i64 0, .int .i64 0, .int .i64 0, .int .i64 0, .int .i64 0, .int .i64 0, .int .i64 0, .int .i64 0, .int .i64 0, .int .i64 0, .int .i64 0, .int .i64 0, .int .i64 0, .int .i64 0, .int .i64 0] 70) := ⟨_, rfl⟩
       have bV : Below V25.heap.size V25 V30 := by rw [hVe]; exact (Below.refl _ _).alloc (Nat.le_refl _) _
       have Aov : Arr V30 V25.heap.size 70 (I64 Z16) := by rw [hVe]; exact Arr.new _ (I64 Z16) _
       have hXov : (w.heap.size + 1) < V25.heap.size ∧ Xyy < V25.heap.size ∧ Xun < V25.heap.size ∧ True := ⟨pr.lt, Ayy.lt, Aun.lt, trivial⟩
       obtain ⟨Xov, hXe⟩ : ∃ X, X = V25.heap.size := ⟨_, rfl⟩
       replace fr := fr.trans (bV.mono fr.size)
       replace pr := pr.kept bV
       replace vP := vP.kept bV
       replace vD := vD.kept bV
       replace vQ := vQ.kept bV
       replace Ayy := Ayy.kept bV
       replace Aun := Aun.kept bV
       rw [← hVe]
       rw [← hXe] at Aov hXov ⊢
       clear hVe hXe bV
       refine hK.out _ _ ⟨arr_range Ayy, vr_range vD⟩ (fun hHeld => ?_)
       clear hK K
       refine wpAnyH_ready (rs := [7]) (by kernel_rfl) (by simp) (AllReadyH.cons (o := { dst := some 26, op := Op.call { callee := Callee.value (Operand.func 105), args := #[Operand.tmp 24, Operand.tmp 25], argTypes := #[70, 70] }, type := 70, pos := "l06_point.go:140", after := #[{ on := 5, ground := Ground.data }, { on := 6, ground := Ground.data }, { on := 5, ground := Ground.chain }], guard := none }) rfl (fun K hK => ?_) AllReadyH.nil)
       go_simp
       refine (Hun.out _ vP).mono ?_
       rintro e y31 ⟨rfl, hb31⟩
       replace fr := fr.trans (hb31.mono fr.size)
       replace pr := pr.kept hb31
       replace vP := vP.kept hb31
       replace vD := vD.kept hb31
       replace vQ := vQ.kept hb31
       replace Ayy := Ayy.kept hb31
       replace Aun := Aun.kept hb31
       replace Aov := Aov.kept hb31
       clear hb31
       go_wp2_with fail
       refine hK.out _ _ ⟨arr_range Ayy, vr_range vD⟩ (fun hHeld => ?_)
       clear hK K
       refine wpAnyH_ready (rs := [10]) (by kernel_rfl) (by simp) (AllReadyH.cons (o := qOk0) rfl (fun K hK => ?_) AllReadyH.nil)
       rw [if_pos (by rfl)]
       refine wp_store_mid _ _ _ rfl _ _ (I64 ov).toArray rfl rfl (by have := arr_there Aov; simpa [nov] using this) jov (all_oneCell_toArray uov) ?_
       simp only [Act.put]
       replace fr := bel_sc fr Xov (I64 ov) (by omega)
       replace pr := pr.sc Xov (I64 ov) (by omega)
       replace vP := vP.sc Xov (I64 ov) (by omega)
       replace vD := vD.sc Xov (I64 ov) (by omega)
       replace vQ := vQ.sc Xov (I64 ov) (by omega)
       replace Ayy := Ayy.sc Xov (I64 ov) (by omega)
       replace Aun := Aun.sc Xov (I64 ov) (by omega)
       replace Aov := Aov.sc0 (I64 ov) (by simp [nov])
       obtain ⟨V32, hVe⟩ : ∃ V, V = y31.setCells Xov 0 (I64 ov) := ⟨_, rfl⟩
       rw [← hVe] at fr pr vP vD vQ Ayy Aun Aov ⊢
       clear hVe
       refine hK.out _ _ ⟨arr_range Ayy, vr_range vD⟩ (fun hHeld => ?_)
       clear hK K
       refine wpAnyH_ready (rs := [11]) (by kernel_rfl) (by simp) (AllReadyH.cons (o := qOk1) rfl (fun K hK => ?_) AllReadyH.nil)
       rw [if_pos (by rfl)]
       refine wp_store_mid _ _ _ rfl _ _ (I64 un).toArray rfl rfl (by have := arr_there Aun; simpa [nun] using this) jun (all_oneCell_toArray uun) ?_
       simp only [Act.put]
       replace fr := bel_sc fr Xun (I64 un) (by omega)
       replace pr := pr.sc Xun (I64 un) (by omega)
       replace vP := vP.sc Xun (I64 un) (by omega)
       replace vD := vD.sc Xun (I64 un) (by omega)
       replace vQ := vQ.sc Xun (I64 un) (by omega)
       replace Ayy := Ayy.sc Xun (I64 un) (by omega)
       replace Aun := Aun.sc0 (I64 un) (by simp [nun])
       replace Aov := Aov.sc Xun (I64 un) (by omega)
       obtain ⟨V33, hVe⟩ : ∃ V, V = V32.setCells Xun 0 (I64 un) := ⟨_, rfl⟩
       rw [← hVe] at fr pr vP vD vQ Ayy Aun Aov ⊢
       clear hVe
       refine hK.out _ _ ⟨arr_range Ayy, vr_range vD⟩ (fun hHeld => ?_)
       clear hK K
       refine wpAnyH_done (by kernel_rfl) ?_ _
       go_wp2
       go_meet
       case rel => exact ⟨Xov, Xun, rfl, rfl, Aov, Aun, fr, pr, vP, vD, vQ, Ayy, (by omega), (by omega)⟩
    ·skip
     go_simp
     obtain ⟨V34, hVe⟩ : ∃ V, V = y5.alloc (.cells #[.int .i64 0, .int .i64 0, .int .i64 0, .int .i64 0, .int .i64 0, .int .i64 0, .int .i64 0, .int .i64 0, .int .i64 0, .int .i64 0, .int .i64 0, .int .i64 0, .int .i64 0, .int .i64 0, .int .i64 0, .int .i64 0] 70) := ⟨_, rfl⟩
     have bV : Below y5.heap.size y5 V34 := by rw [hVe]; exact (Below.refl _ _).alloc (Nat.le_refl _) _
     have Aov : Arr V34 y5.heap.size 70 (I64 Z16) := by rw [hVe]; exact Arr.new _ (I64 Z16) _
     have hXov : (w.heap.size + 1) < y5.heap.size ∧ Xyy < y5.heap.size ∧ True := ⟨pr.lt, Ayy.lt, trivial⟩
     obtain ⟨Xov, hXe⟩ : ∃ X, X = y5.heap.size := ⟨_, rfl⟩
     replace fr := fr.trans (bV.mono fr.size)
     replace pr := pr.kept bV
     replace vP := vP.kept bV
     replace vD := vD.kept bV
     replace vQ := vQ.kept bV
     replace Ayy := Ayy.kept bV
     rw [← hVe]
     rw [← hXe] at Aov hXov ⊢
     clear hVe hXe bV
     refine hK.out _ _ ⟨arr_range Ayy, vr_range vD⟩ (fun hHeld => ?_)
     clear hK K
     refine wpAnyH_ready (rs := [5, 9]) (by kernel_rfl) (by simp) (AllReadyH.cons (o := { dst := some 24, op := Op.call { callee := Callee.value (Operand.func 104), args := #[Operand.tmp 22, Operand.tmp 23], argTypes := #[70, 70] }, type := 70, pos := "l06_point.go:140", after := #[{ on := 3, ground := Ground.data }, { on := 4, ground := Ground.data }, { on := 2, ground := Ground.chain }], guard := none }) rfl (fun K hK => ?_) (AllReadyH.cons (o := { dst := some 8, op := Op.alloc 70, type := 0, pos := "l06_point.go:140", after := #[], guard := none }) rfl (fun K hK => ?_) AllReadyH.nil))
     ·skip
      go_simp
      refine (Hdy.out _ vP).mono ?_
      rintro e y35 ⟨rfl, hb35⟩
      replace fr := fr.trans (hb35.mono fr.size)
      replace pr := pr.kept hb35
      replace vP := vP.kept hb35
      replace vD := vD.kept hb35
      replace vQ := vQ.kept hb35
      replace Ayy := Ayy.kept hb35
      replace Aov := Aov.kept hb35
      clear hb35
      go_wp2_with fail
      refine hK.out _ _ ⟨arr_range Ayy, vr_range vD⟩ (fun hHeld => ?_)
      clear hK K
      refine wpAnyH_ready (rs := [7, 9]) (by kernel_rfl) (by simp) (AllReadyH.cons (o := { dst := some 26, op := Op.call { callee := Callee.value (Operand.func 105), args := #[Operand.tmp 24, Operand.tmp 25], argTypes := #[70, 70] }, type := 70, pos := "l06_point.go:140", after := #[{ on := 5, ground := Ground.data }, { on := 6, ground := Ground.data }, { on := 5, ground := Ground.chain }], guard := none }) rfl (fun K hK => ?_) (AllReadyH.cons (o := { dst := some 8, op := Op.alloc 70, type := 0, pos := "l06_point.go:140", after := #[], guard := none }) rfl (fun K hK => ?_) AllReadyH.nil))
      ·skip
       go_simp
       refine (Hun.out _ vP).mono ?_
       rintro e y36 ⟨rfl, hb36⟩
       replace fr := fr.trans (hb36.mono fr.size)
       replace pr := pr.kept hb36
       replace vP := vP.kept hb36
       replace vD := vD.kept hb36
       replace vQ := vQ.kept hb36
       replace Ayy := Ayy.kept hb36
       replace Aov := Aov.kept hb36
       clear hb36
       go_wp2_with fail
       refine hK.out _ _ ⟨arr_range Ayy, vr_range vD⟩ (fun hHeld => ?_)
       clear hK K
       refine wpAnyH_ready (rs := [9]) (by kernel_rfl) (by simp) (AllReadyH.cons (o := { dst := some 8, op := Op.alloc 70, type := 0, pos := "l06_point.go:140", after := #[], guard := none }) rfl (fun K hK => ?_) AllReadyH.nil)
       go_simp
       obtain ⟨V37, hVe⟩ : ∃ V, V = y36.alloc (.cells #[.int .i64 0, .int .i64 0, .int .i64 0, .int .i64 0, .int .i64 0, .int .i64 0, .int .i64 0, .int .i64 0, .int .i64 0, .int .i64 0, .int .i64 0, .int .i64 0, .int .i64 0, .int .i64 0, .int .i64 0, .int .i64 0] 70) := ⟨_, rfl⟩
       have bV : Below y36.heap.size y36 V37 := by rw [hVe]; exact (Below.refl _ _).alloc (Nat.le_refl _) _
       have Aun : Arr V37 y36.heap.size 70 (I64 Z16) := by rw [hVe]; exact Arr.new _ (I64 Z16) _
       have hXun : (w.heap.size + 1) < y36.heap.size ∧ Xyy < y36.heap.size ∧ Xov < y36.heap.size ∧ True := ⟨pr.lt, Ayy.lt, Aov.lt, trivial⟩
       obtain ⟨Xun, hXe⟩ : ∃ X, X = y36.heap.size := ⟨_, rfl⟩
       replace fr := fr.trans (bV.mono fr.size)
       replace pr := pr.kept bV
       replace vP := vP.kept bV
       replace vD := vD.kept bV
       replace vQ := vQ.kept bV
       replace Ayy := Ayy.kept bV
       replace Aov := Aov.kept bV
       rw [← hVe]
       rw [← hXe] at Aun hXun ⊢
       clear hVe hXe bV
       refine hK.out _ _ ⟨arr_range Ayy, vr_range vD⟩ (fun hHeld => ?_)
       clear hK K
       refine wpAnyH_ready (rs := [10]) (by kernel_rfl) (by simp) (AllReadyH.cons (o := qOk0) rfl (fun K hK => ?_) AllReadyH.nil)
       rw [if_pos (by rfl)]
       refine wp_store_mid _ _ _ rfl _ _ (I64 ov).toArray rfl rfl (by have := arr_there Aov; simpa [nov] using this) jov (all_oneCell_toArray uov) ?_
       simp only [Act.put]
       replace fr := bel_sc fr Xov (I64 ov) (by omega)
       replace pr := pr.sc Xov (I64 ov) (by omega)
       replace vP := vP.sc Xov (I64 ov) (by omega)
       replace vD := vD.sc Xov (I64 ov) (by omega)
       replace vQ := vQ.sc Xov (I64 ov) (by omega)
       replace Ayy := Ayy.sc Xov (I64 ov) (by omega)
       replace Aov := Aov.sc0 (I64 ov) (by simp [nov])
       replace Aun := Aun.sc Xov (I64 ov) (by omega)
       obtain ⟨V38, hVe⟩ : ∃ V, V = V37.setCells Xov 0 (I64 ov) := ⟨_, rfl⟩
       rw [← hVe] at fr pr vP vD vQ Ayy Aov Aun ⊢
       clear hVe
       refine hK.out _ _ ⟨arr_range Ayy, vr_range vD⟩ (fun hHeld => ?_)
       clear hK K
       refine wpAnyH_ready (rs := [11]) (by kernel_rfl) (by simp) (AllReadyH.cons (o := qOk1) rfl (fun K hK => ?_) AllReadyH.nil)
       rw [if_pos (by rfl)]
       refine wp_store_mid _ _ _ rfl _ _ (I64 un).toArray rfl rfl (by have := arr_there Aun; simpa [nun] using this) jun (all_oneCell_toArray uun) ?_
       simp only [Act.put]
       replace fr := bel_sc fr Xun (I64 un) (by omega)
       replace pr := pr.sc Xun (I64 un) (by omega)
       replace vP := vP.sc Xun (I64 un) (by omega)
       replace vD := vD.sc Xun (I64 un) (by omega)
       replace vQ := vQ.sc Xun (I64 un) (by omega)
       replace Ayy := Ayy.sc Xun (I64 un) (by omega)
       replace Aov := Aov.sc Xun (I64 un) (by omega)
       replace Aun := Aun.sc0 (I64 un) (by simp [nun])
       obtain ⟨V39, hVe⟩ : ∃ V, V = V38.setCells Xun 0 (I64 un) := ⟨_, rfl⟩
       rw [← hVe] at fr pr vP vD vQ Ayy Aov Aun ⊢
       clear hVe
       refine hK.out _ _ ⟨arr_range Ayy, vr_range vD⟩ (fun hHeld => ?_)
       clear hK K
       refine wpAnyH_done (by kernel_rfl) ?_ _
       go_wp2
       go_meet
       case rel => exact ⟨Xov, Xun, rfl, rfl, Aov, Aun, fr, pr, vP, vD, vQ, Ayy, (by omega), (by omega)⟩
      ·skip
       go_simp
       obtain ⟨V40, hVe⟩ : ∃ V, V = y35.alloc (.cells #[.int .i64 0, .int .i64 0, .int .i64 0, .int .i64 0, .int .i64 0, .int .i64 0, .int .i64 0, .int .i64 0, .int .i64 0, .int .i64 0, .int .i64 0, .int .i64 0, .int .i64 0, .int .i64 0, .int .i64 0, .int .i64 0] 70) := ⟨_, rfl⟩
       have bV : Below y35.heap.size y35 V40 := by rw [hVe]; exact (Below.refl _ _).alloc (Nat.le_refl _) _
       have Aun : Arr V40 y35.heap.size 70 (I64 Z16) := by rw [hVe]; exact Arr.new _ (I64 Z16) _
       have hXun : (w.heap.size + 1) < y35.heap.size ∧ Xyy < y35.heap.size ∧ Xov < y35.heap.size ∧ True := ⟨pr.lt, Ayy.lt, Aov.lt, trivial⟩
       obtain ⟨Xun, hXe⟩ : ∃ X, X = y35.heap.size := ⟨_, rfl⟩
       replace fr := fr.trans (bV.mono fr.size)
       replace pr := pr.kept bV
       replace vP := vP.kept bV
       replace vD := vD.kept bV
       replace vQ := vQ.kept bV
       replace Ayy := Ayy.kept bV
       replace Aov := Aov.kept bV
       rw [← hVe]
       rw [← hXe] at Aun hXun ⊢
       clear hVe hXe bV
       refine hK.out _ _ ⟨arr_range Ayy, vr_range vD⟩ (fun hHeld => ?_)
       clear hK K
       refine wpAnyH_ready (rs := [7]) (by kernel_rfl) (by simp) (AllReadyH.cons (o := { dst := some 26, op := Op.call { callee := Callee.value (Operand.func 105), args := #[Operand.tmp 24, Operand.tmp 25], argTypes := #[70, 70] }, type := 70, pos := "l06_point.go:140", after := #[{ on := 5, ground := Ground.data }, { on := 6, ground := Ground.data }, { on := 5, ground := Ground.chain }], guard := none }) rfl (fun K hK => ?_) AllReadyH.nil)
       go_simp
       refine (Hun.out _ vP).mono ?_
       rintro e y41 ⟨rfl, hb41⟩
       replace fr := fr.trans (hb41.mono fr.size)
       replace pr := pr.kept hb41
       replace vP := vP.kept hb41
       replace vD := vD.kept hb41
       replace vQ := vQ.kept hb41
       replace Ayy := Ayy.kept hb41
       replace Aov := Aov.kept hb41
       replace Aun := Aun.kept hb41
       clear hb41
       go_wp2_with fail
       refine hK.out _ _ ⟨arr_range Ayy, vr_range vD⟩ (fun hHeld => ?_)
       clear hK K
       refine wpAnyH_ready (rs := [10]) (by kernel_rfl) (by simp) (AllReadyH.cons (o := qOk0) rfl (fun K hK => ?_) AllReadyH.nil)
       rw [if_pos (by rfl)]
       refine wp_store_mid _ _ _ rfl _ _ (I64 ov).toArray rfl rfl (by have := arr_there Aov; simpa [nov] using this) jov (all_oneCell_toArray uov) ?_
       simp only [Act.put]
       replace fr := bel_sc fr Xov (I64 ov) (by omega)
       replace pr := pr.sc Xov (I64 ov) (by omega)
       replace vP := vP.sc Xov (I64 ov) (by omega)
       replace vD := vD.sc Xov (I64 ov) (by omega)
       replace vQ := vQ.sc Xov (I64 ov) (by omega)
       replace Ayy := Ayy.sc Xov (I64 ov) (by omega)
       replace Aov := Aov.sc0 (I64 ov) (by simp [nov])
       replace Aun := Aun.sc Xov (I64 ov) (by omega)
       obtain ⟨V42, hVe⟩ : ∃ V, V = y41.setCells Xov 0 (I64 ov) := ⟨_, rfl⟩
       rw [← hVe] at fr pr vP vD vQ Ayy Aov Aun ⊢
       clear hVe
       refine hK.out _ _ ⟨arr_range Ayy, vr_range vD⟩ (fun hHeld => ?_)
       clear hK K
       refine wpAnyH_ready (rs := [11]) (by kernel_rfl) (by simp) (AllReadyH.cons (o := qOk1) rfl (fun K hK => ?_) AllReadyH.nil)
       rw [if_pos (by rfl)]
       refine wp_store_mid _ _ _ rfl _ _ (I64 un).toArray rfl rfl (by have := arr_there Aun; simpa [nun] using this) jun (all_oneCell_toArray uun) ?_
       simp only [Act.put]
       replace fr := bel_sc fr Xun (I64 un) (by omega)
       replace pr := pr.sc Xun (I64 un) (by omega)
       replace vP := vP.sc Xun (I64 un) (by omega)
       replace vD := vD.sc Xun (I64 un) (by omega)
       replace vQ := vQ.sc Xun (I64 un) (by omega)
       replace Ayy := Ayy.sc Xun (I64 un) (by omega)
       replace Aov := Aov.sc Xun (I64 un) (by omega)
       replace Aun := Aun.sc0 (I64 un) (by simp [nun])
       obtain ⟨V43, hVe⟩ : ∃ V, V = V42.setCells Xun 0 (I64 un) := ⟨_, rfl⟩
       rw [← hVe] at fr pr vP vD vQ Ayy Aov Aun ⊢
       clear hVe
       refine hK.out _ _ ⟨arr_range Ayy, vr_range vD⟩ (fun hHeld => ?_)
       clear hK K
       refine wpAnyH_done (by kernel_rfl) ?_ _
       go_wp2
       go_meet
       case rel => exact ⟨Xov, Xun, rfl, rfl, Aov, Aun, fr, pr, vP, vD, vQ, Ayy, (by omega), (by omega)⟩
     ·skip
      go_simp
      obtain ⟨V44, hVe⟩ : ∃ V, V = V34.alloc (.cells #[.int .i64 0, .int .i64 0, .int .i64 0, .int .i64 0, .int .i64 0, .int .i64 0, .int .i64 0, .int .i64 0, .int .i64 0, .int .i64 0, .int .i64 0, .int .i64 0, .int .i64 0, .int .i64 0, .int .i64 0, .int .i64 0] 70) := ⟨_, rfl⟩
      have bV : Below V34.heap.size V34 V44 := by rw [hVe]; exact (Below.refl _ _).alloc (Nat.le_refl _) _
      have Aun : Arr V44 V34.heap.size 70 (I64 Z16) := by rw [hVe]; exact Arr.new _ (I64 Z16) _
      have hXun : (w.heap.size + 1) < V34.heap.size ∧ Xyy < V34.heap.size ∧ Xov < V34.heap.size ∧ True := ⟨pr.lt, Ayy.lt, Aov.lt, trivial⟩
      obtain ⟨Xun, hXe⟩ : ∃ X, X = V34.heap.size := ⟨_, rfl⟩
      replace fr := fr.trans (bV.mono fr.size)
      replace pr := pr.kept bV
      replace vP := vP.kept bV
      replace vD := vD.kept bV
      replace vQ := vQ.kept bV
      replace Ayy := Ayy.kept bV
      replace Aov := Aov.kept bV
      rw [← hVe]
      rw [← hXe] at Aun hXun ⊢
      clear hVe hXe bV
      refine hK.out _ _ ⟨arr_range Ayy, vr_range vD⟩ (fun hHeld => ?_)
      clear hK K
      refine wpAnyH_ready (rs := [5]) (by kernel_rfl) (by simp) (AllReadyH.cons (o := { dst := some 24, op := Op.call { callee := Callee.value (Operand.func 104), args := #[Operand.tmp 22, Operand.tmp 23], argTypes := #[70, 70] }, type := 70, pos := "l06_point.go:140", after := #[{ on := 3, ground := Ground.data }, { on := 4, ground := Ground.data }, { on := 2, ground := Ground.chain }], guard := none }) rfl (fun K hK => ?_) AllReadyH.nil)
      go_simp
      refine (Hdy.out _ vP).mono ?_
      rintro e y45 ⟨rfl, hb45⟩
      replace fr := fr.trans (hb45.mono fr.size)
      replace pr := pr.kept hb45
      replace vP := vP.kept hb45
      replace vD := vD.kept hb45
      replace vQ := vQ.kept hb45
      replace Ayy := Ayy.kept hb45
      replace Aov := Aov.kept hb45
      replace Aun := Aun.kept hb45
      clear hb45
      go_wp2_with fail
      refine hK.out _ _ ⟨arr_range Ayy, vr_range vD⟩ (fun hHeld => ?_)
      clear hK K
      refine wpAnyH_ready (rs := [7]) (by kernel_rfl) (by simp) (AllReadyH.cons (o := { dst := some 26, op := Op.call { callee := Callee.value (Operand.func 105), args := #[Operand.tmp 24, Operand.tmp 25], argTypes := #[70, 70] }, type := 70, pos := "l06_point.go:140", after := #[{ on := 5, ground := Ground.data }, { on := 6, ground := Ground.data }, { on := 5, ground := Ground.chain }], guard := none }) rfl (fun K hK => ?_) AllReadyH.nil)
      go_simp
      refine (Hun.out _ vP).mono ?_
      rintro e y46 ⟨rfl, hb46⟩
      replace fr := fr.trans (hb46.mono fr.size)
      replace pr := pr.kept hb46
      replace vP := vP.kept hb46
      replace vD := vD.kept hb46
      replace vQ := vQ.kept hb46
      replace Ayy := Ayy.kept hb46
      replace Aov := Aov.kept hb46
      replace Aun := Aun.kept hb46
      clear hb46
      go_wp2_with fail
      refine hK.out _ _ ⟨arr_range Ayy, vr_range vD⟩ (fun hHeld => ?_)
      clear hK K
      refine wpAnyH_ready (rs := [10]) (by kernel_rfl) (by simp) (AllReadyH.cons (o := qOk0) rfl (fun K hK => ?_) AllReadyH.nil)
      rw [if_pos (by rfl)]
      refine wp_store_mid _ _ _ rfl _ _ (I64 ov).toArray rfl rfl (by have := arr_there Aov; simpa [nov] using this) jov (all_oneCell_toArray uov) ?_
      simp only [Act.put]
      replace fr := bel_sc fr Xov (I64 ov) (by omega)
      replace pr := pr.sc Xov (I64 ov) (by omega)
      replace vP := vP.sc Xov (I64 ov) (by omega)
      replace vD := vD.sc Xov (I64 ov) (by omega)
      replace vQ := vQ.sc Xov (I64 ov) (by omega)
      replace Ayy := Ayy.sc Xov (I64 ov) (by omega)
      replace Aov := Aov.sc0 (I64 ov) (by simp [nov])
      replace Aun := Aun.sc Xov (I64 ov) (by omega)
      obtain ⟨V47, hVe⟩ : ∃ V, V = y46.setCells Xov 0 (I64 ov) := ⟨_, rfl⟩
      rw [← hVe] at fr pr vP vD vQ Ayy Aov Aun ⊢
      clear hVe
      refine hK.out _ _ ⟨arr_range Ayy, vr_range vD⟩ (fun hHeld => ?_)
      clear hK K
      refine wpAnyH_ready (rs := [11]) (by kernel_rfl) (by simp) (AllReadyH.cons (o := qOk1) rfl (fun K hK => ?_) AllReadyH.nil)
      rw [if_pos (by rfl)]
      refine wp_store_mid _ _ _ rfl _ _ (I64 un).toArray rfl rfl (by have := arr_there Aun; simpa [nun] using this) jun (all_oneCell_toArray uun) ?_
      simp only [Act.put]
      replace fr := bel_sc fr Xun (I64 un) (by omega)
      replace pr := pr.sc Xun (I64 un) (by omega)
      replace vP := vP.sc Xun (I64 un) (by omega)
      replace vD := vD.sc Xun (I64 un) (by omega)
      replace vQ := vQ.sc Xun (I64 un) (by omega)
      replace Ayy := Ayy.sc Xun (I64 un) (by omega)
      replace Aov := Aov.sc Xun (I64 un) (by omega)
      replace Aun := Aun.sc0 (I64 un) (by simp [nun])
      obtain ⟨V48, hVe⟩ : ∃ V, V = V47.setCells Xun 0 (I64 un) := ⟨_, rfl⟩
      rw [← hVe] at fr pr vP vD vQ Ayy Aov Aun ⊢
      clear hVe
      refine hK.out _ _ ⟨arr_range Ayy, vr_range vD⟩ (fun hHeld => ?_)
      clear hK K
      refine wpAnyH_done (by kernel_rfl) ?_ _
      go_wp2
      go_meet
      case rel => exact ⟨Xov, Xun, rfl, rfl, Aov, Aun, fr, pr, vP, vD, vQ, Ayy, (by omega), (by omega)⟩
    ·skip
     go_simp
     obtain ⟨V49, hVe⟩ : ∃ V, V = y5.alloc (.cells #[.int .i64 0, .int .i64 0, .int .i64 0, .int .i64 0, .int .i64 0, .int .i64 0, .int .i64 0, .int .i64 0, .int .i64 0, .int .i64 0, .int .i64 0, .int .i64 0, .int .i64 0, .int .i64 0, .int .i64 0, .int .i64 0] 70) := ⟨_, rfl⟩
     have bV : Below y5.heap.size y5 V49 := by rw [hVe]; exact (Below.refl _ _).alloc (Nat.le_refl _) _
     have Aun : Arr V49 y5.heap.size 70 (I64 Z16) := by rw [hVe]; exact Arr.new _ (I64 Z16) _
     have hXun : (w.heap.size + 1) < y5.heap.size ∧ Xyy < y5.heap.size ∧ True := ⟨pr.lt, Ayy.lt, trivial⟩
     obtain ⟨Xun, hXe⟩ : ∃ X, X = y5.heap.size := ⟨_, rfl⟩
     replace fr := fr.trans (bV.mono fr.size)
     replace pr := pr.kept bV
     replace vP := vP.kept bV
     replace vD := vD.kept bV
     replace vQ := vQ.kept bV
     replace Ayy := Ayy.kept bV
     rw [← hVe]
     rw [← hXe] at Aun hXun ⊢
     clear hVe hXe bV
     refine hK.out _ _ ⟨arr_range Ayy, vr_range vD⟩ (fun hHeld => ?_)
     clear hK K
     refine wpAnyH_ready (rs := [5, 8]) (by kernel_rfl) (by simp) (AllReadyH.cons (o := { dst := some 24, op := Op.call { callee := Callee.value (Operand.func 104), args := #[Operand.tmp 22, Operand.tmp 23], argTypes := #[70, 70] }, type := 70, pos := "l06_point.go:140", after := #[{ on := 3, ground := Ground.data }, { on := 4, ground := Ground.data }, { on := 2, ground := Ground.chain }], guard := none }) rfl (fun K hK => ?_) (AllReadyH.cons (o := { dst := some 7, op := Op.alloc 70, type := 0, pos := "l06_point.go:140", after := #[], guard := none }) rfl (fun K hK => ?_) AllReadyH.nil))
     ·skip
      go_simp
      refine (Hdy.out _ vP).mono ?_
      rintro e y50 ⟨rfl, hb50⟩
      replace fr := fr.trans (hb50.mono fr.size)
      replace pr := pr.kept hb50
      replace vP := vP.kept hb50
      replace vD := vD.kept hb50
      replace vQ := vQ.kept hb50
      replace Ayy := Ayy.kept hb50
      replace Aun := Aun.kept hb50
      clear hb50
      go_wp2_with fail
      refine hK.out _ _ ⟨arr_range Ayy, vr_range vD⟩ (fun hHeld => ?_)
      clear hK K
      refine wpAnyH_ready (rs := [7, 8]) (by kernel_rfl) (by simp) (AllReadyH.cons (o := { dst := some 26, op := Op.call { callee := Callee.value (Operand.func 105), args := #[Operand.tmp 24, Operand.tmp 25], argTypes := #[70, 70] }, type := 70, pos := "l06_point.go:140", after := #[{ on := 5, ground := Ground.data }, { on := 6, ground := Ground.data }, { on := 5, ground := Ground.chain }], guard := none }) rfl (fun K hK => ?_) (AllReadyH.cons (o := { dst := some 7, op := Op.alloc 70, type := 0, pos := "l06_point.go:140", after := #[], guard := none }) rfl (fun K hK => ?_) AllReadyH.nil))
      ·skip
       go_simp
       refine (Hun.out _ vP).mono ?_
       rintro e y51 ⟨rfl, hb51⟩
       replace fr := fr.trans (hb51.mono fr.size)
       replace pr := pr.kept hb51
       replace vP := vP.kept hb51
       replace vD := vD.kept hb51
       replace vQ := vQ.kept hb51
       replace Ayy := Ayy.kept hb51
       replace Aun := Aun.kept hb51
       clear hb51
       go_wp2_with fail
       refine hK.out _ _ ⟨arr_range Ayy, vr_range vD⟩ (fun hHeld => ?_)
       clear hK K
       refine wpAnyH_ready (rs := [8]) (by kernel_rfl) (by simp) (AllReadyH.cons (o := { dst := some 7, op := Op.alloc 70, type := 0, pos := "l06_point.go:140", after := #[], guard := none }) rfl (fun K hK => ?_) AllReadyH.nil)
       go_simp
       obtain ⟨V52, hVe⟩ : ∃ V, V = y51.alloc (.cells #[.int .i64 0, .int .i64 0, .int .i64 0, .int .i64 0, .int .i64 0, .int .i64 0, .int .i64 0, .int .i64 0, .int .i64 0, .int .i64 0, .int .i64 0, .int .i64 0, .int .i64 0, .int .i64 0, .int .i64 0, .int .i64 0] 70) := ⟨_, rfl⟩
       have bV : Below y51.heap.size y51 V52 := by rw [hVe]; exact (Below.refl _ _).alloc (Nat.le_refl _) _
       have Aov : Arr V52 y51.heap.size 70 (I64 Z16) := by rw [hVe]; exact Arr.new _ (I64 Z16) _
       have hXov : (w.heap.size + 1) < y51.heap.size ∧ Xyy < y51.heap.size ∧ Xun < y51.heap.size ∧ True := ⟨pr.lt, Ayy.lt, Aun.lt, trivial⟩
       obtain ⟨Xov, hXe⟩ : ∃ X, X = y51.heap.size := ⟨_, rfl⟩
       replace fr := fr.trans (bV.mono fr.size)
       replace pr := pr.kept bV
       replace vP := vP.kept bV
       replace vD := vD.kept bV
       replace vQ := vQ.kept bV
       replace Ayy := Ayy.kept bV
       replace Aun := Aun.kept bV
       rw [← hVe]
       rw [← hXe] at Aov hXov ⊢
       clear hVe hXe bV
       refine hK.out _ _ ⟨arr_range Ayy, vr_range vD⟩ (fun hHeld => ?_)
       clear hK K
       refine wpAnyH_ready (rs := [10]) (by kernel_rfl) (by simp) (AllReadyH.cons (o := qOk0) rfl (fun K hK => ?_) AllReadyH.nil)
       rw [if_pos (by rfl)]
       refine wp_store_mid _ _ _ rfl _ _ (I64 ov).toArray rfl rfl (by have := arr_there Aov; simpa [nov] using this) jov (all_oneCell_toArray uov) ?_
       simp only [Act.put]
       replace fr := bel_sc fr Xov (I64 ov) (by omega)
       replace pr := pr.sc Xov (I64 ov) (by omega)
       replace vP := vP.sc Xov (I64 ov) (by omega)
       replace vD := vD.sc Xov (I64 ov) (by omega)
       replace vQ := vQ.sc Xov (I64 ov) (by omega)
       replace Ayy := Ayy.sc Xov (I64 ov) (by omega)
       replace Aun := Aun.sc Xov (I64 ov) (by omega)
       replace Aov := Aov.sc0 (I64 ov) (by simp [nov])
       obtain ⟨V53, hVe⟩ : ∃ V, V = V52.setCells Xov 0 (I64 ov) := ⟨_, rfl⟩
       rw [← hVe] at fr pr vP vD vQ Ayy Aun Aov ⊢
       clear hVe
       refine hK.out _ _ ⟨arr_range Ayy, vr_range vD⟩ (fun hHeld => ?_)
       clear hK K
       refine wpAnyH_ready (rs := [11]) (by kernel_rfl) (by simp) (AllReadyH.cons (o := qOk1) rfl (fun K hK => ?_) AllReadyH.nil)
       rw [if_pos (by rfl)]
       refine wp_store_mid _ _ _ rfl _ _ (I64 un).toArray rfl rfl (by have := arr_there Aun; simpa [nun] using this) jun (all_oneCell_toArray uun) ?_
       simp only [Act.put]
       replace fr := bel_sc fr Xun (I64 un) (by omega)
       replace pr := pr.sc Xun (I64 un) (by omega)
       replace vP := vP.sc Xun (I64 un) (by omega)
       replace vD := vD.sc Xun (I64 un) (by omega)
       replace vQ := vQ.sc Xun (I64 un) (by omega)
       replace Ayy := Ayy.sc Xun (I64 un) (by omega)
       replace Aun := Aun.sc0 (I64 un) (by simp [nun])
       replace Aov := Aov.sc Xun (I64 un) (by omega)
       obtain ⟨V54, hVe⟩ : ∃ V, V = V53.setCells Xun 0 (I64 un) := ⟨_, rfl⟩
       rw [← hVe] at fr pr vP vD vQ Ayy Aun Aov ⊢
       clear hVe
       refine hK.out _ _ ⟨arr_range Ayy, vr_range vD⟩ (fun hHeld => ?_)
       clear hK K
       refine wpAnyH_done (by kernel_rfl) ?_ _
       go_wp2
       go_meet
       case rel => exact ⟨Xov, Xun, rfl, rfl, Aov, Aun, fr, pr, vP, vD, vQ, Ayy, (by omega), (by omega)⟩
      ·skip
       go_simp
       obtain ⟨V55, hVe⟩ : ∃ V, V = y50.alloc (.cells #[.int .i64 0, .int .i64 0, .int .i64 0, .int .i64 0, .int .i64 0, .int .i64 0, .int .i64 0, .int .i64 0, .int .i64 0, .int .i64 0, .int .i64 0, .int .i64 0, .int .i64 0, .int .i64 0, .int .i64 0, .int .i64 0] 70) := ⟨_, rfl⟩
       have bV : Below y50.heap.size y50 V55 := by rw [hVe]; exact (Below.refl _ _).alloc (Nat.le_refl _) _
       have Aov : Arr V55 y50.heap.size 70 (I64 Z16) := by rw [hVe]; exact Arr.new _ (I64 Z16) _
       have hXov : (w.heap.size + 1) < y50.heap.size ∧ Xyy < y50.heap.size ∧ Xun < y50.heap.size ∧ True := ⟨pr.lt, Ayy.lt, Aun.lt, trivial⟩
       obtain ⟨Xov, hXe⟩ : ∃ X, X = y50.heap.size := ⟨_, rfl⟩
       replace fr := fr.trans (bV.mono fr.size)
       replace pr := pr.kept bV
       replace vP := vP.kept bV
       replace vD := vD.kept bV
       replace vQ := vQ.kept bV
       replace Ayy := Ayy.kept bV
       replace Aun := Aun.kept bV
       rw [← hVe]
       rw [← hXe] at Aov hXov ⊢
       clear hVe hXe bV
       refine hK.out _ _ ⟨arr_range Ayy, vr_range vD⟩ (fun hHeld => ?_)
       clear hK K
       refine wpAnyH_ready (rs := [7]) (by kernel_rfl) (by simp) (AllReadyH.cons (o := { dst := some 26, op := Op.call { callee := Callee.value (Operand.func 105), args := #[Operand.tmp 24, Operand.tmp 25], argTypes := #[70, 70] }, type := 70, pos := "l06_point.go:140", after := #[{ on := 5, ground := Ground.data }, { on := 6, ground := Ground.data }, { on := 5, ground := Ground.chain }], guard := none }) rfl (fun K hK => ?_) AllReadyH.nil)
       go_simp
       refine (Hun.out _ vP).mono ?_
       rintro e y56 ⟨rfl, hb56⟩
       replace fr := fr.trans (hb56.mono fr.size)
       replace pr := pr.kept hb56
       replace vP := vP.kept hb56
       replace vD := vD.kept hb56
       replace vQ := vQ.kept hb56
       replace Ayy := Ayy.kept hb56
       replace Aun := Aun.kept hb56
       replace Aov := Aov.kept hb56
       clear hb56
       go_wp2_with fail
       refine hK.out _ _ ⟨arr_range Ayy, vr_range vD⟩ (fun hHeld => ?_)
       clear hK K
       refine wpAnyH_ready (rs := [10]) (by kernel_rfl) (by simp) (AllReadyH.cons (o := qOk0) rfl (fun K hK => ?_) AllReadyH.nil)
       rw [if_pos (by rfl)]
       refine wp_store_mid _ _ _ rfl _ _ (I64 ov).toArray rfl rfl (by have := arr_there Aov; simpa [nov] using this) jov (all_oneCell_toArray uov) ?_
       simp only [Act.put]
       replace fr := bel_sc fr Xov (I64 ov) (by omega)
       replace pr := pr.sc Xov (I64 ov) (by omega)
       replace vP := vP.sc Xov (I64 ov) (by omega)
       replace vD := vD.sc Xov (I64 ov) (by omega)
       replace vQ := vQ.sc Xov (I64 ov) (by omega)
       replace Ayy := Ayy.sc Xov (I64 ov) (by omega)
       replace Aun := Aun.sc Xov (I64 ov) (by omega)
       replace Aov := Aov.sc0 (I64 ov) (by simp [nov])
       obtain ⟨V57, hVe⟩ : ∃ V, V = y56.setCells Xov 0 (I64 ov) := ⟨_, rfl⟩
       rw [← hVe] at fr pr vP vD vQ Ayy Aun Aov ⊢
       clear hVe
       refine hK.out _ _ ⟨arr_range Ayy, vr_range vD⟩ (fun hHeld => ?_)
       clear hK K
       refine wpAnyH_ready (rs := [11]) (by kernel_rfl) (by simp) (AllReadyH.cons (o := qOk1) rfl (fun K hK => ?_) AllReadyH.nil)
       rw [if_pos (by rfl)]
       refine wp_store_mid _ _ _ rfl _ _ (I64 un).toArray rfl rfl (by have := arr_there Aun; simpa [nun] using this) jun (all_oneCell_toArray uun) ?_
       simp only [Act.put]
       replace fr := bel_sc fr Xun (I64 un) (by omega)
       replace pr := pr.sc Xun (I64 un) (by omega)
       replace vP := vP.sc Xun (I64 un) (by omega)
       replace vD := vD.sc Xun (I64 un) (by omega)
       replace vQ := vQ.sc Xun (I64 un) (by omega)
       replace Ayy := Ayy.sc Xun (I64 un) (by omega)
       replace Aun := Aun.sc0 (I64 un) (by simp [nun])
       replace Aov := Aov.sc Xun (I64 un) (by omega)
       obtain ⟨V58, hVe⟩ : ∃ V, V = V57.setCells Xun 0 (I64 un) := ⟨_, rfl⟩
       rw [← hVe] at fr pr vP vD vQ Ayy Aun Aov ⊢
       clear hVe
       refine hK.out _ _ ⟨arr_range Ayy, vr_range vD⟩ (fun hHeld => ?_)
       clear hK K
       refine wpAnyH_done (by kernel_rfl) ?_ _
       go_wp2
       go_meet
       case rel => exact ⟨Xov, Xun, rfl, rfl, Aov, Aun, fr, pr, vP, vD, vQ, Ayy, (by omega), (by omega)⟩
     ·skip
      go_simp
      obtain ⟨V59, hVe⟩ : ∃ V, V = V49.alloc (.cells #[.int .i64 0, .int .i64 0, .int .i64 0, .int .i64 0, .int .i64 0, .int .i64 0, .int .i64 0, .int .i64 0, .int .i64 0, .int .i64 0, .int .i64 0, .int .i64 0, .int .i64 0, .int .i64 0, .int .i64 0, .int .i64 0] 70) := ⟨_, rfl⟩
      have bV : Below V49.heap.size V49 V59 := by rw [hVe]; exact (Below.refl _ _).alloc (Nat.le_refl _) _
      have Aov : Arr V59 V49.heap.size 70 (I64 Z16) := by rw [hVe]; exact Arr.new _ (I64 Z16) _
      have hXov : (w.heap.size + 1) < V49.heap.size ∧ Xyy < V49.heap.size ∧ Xun < V49.heap.size ∧ True := ⟨pr.lt, Ayy.lt, Aun.lt, trivial⟩
      obtain ⟨Xov, hXe⟩ : ∃ X, X = V49.heap.size := ⟨_, rfl⟩
      replace fr := fr.trans (bV.mono fr.size)
      replace pr := pr.kept bV
      replace vP := vP.kept bV
      replace vD := vD.kept bV
      replace vQ := vQ.kept bV
      replace Ayy := Ayy.kept bV
      replace Aun := Aun.kept bV
      rw [← hVe]
      rw [← hXe] at Aov hXov ⊢
      clear hVe hXe bV
      refine hK.out _ _ ⟨arr_range Ayy, vr_range vD⟩ (fun hHeld => ?_)
      clear hK K
      refine wpAnyH_ready (rs := [5]) (by kernel_rfl) (by simp) (AllReadyH.cons (o := { dst := some 24, op := Op.call { callee := Callee.value (Operand.func 104), args := #[Operand.tmp 22, Operand.tmp 23], argTypes := #[70, 70] }, type := 70, pos := "l06_point.go:140", after := #[{ on := 3, ground := Ground.data }, { on := 4, ground := Ground.data }, { on := 2, ground := Ground.chain }], guard := none }) rfl (fun K hK => ?_) AllReadyH.nil)
      go_simp
      refine (Hdy.out _ vP).mono ?_
      rintro e y60 ⟨rfl, hb60⟩
      replace fr := fr.trans (hb60.mono fr.size)
      replace pr := pr.kept hb60
      replace vP := vP.kept hb60
      replace vD := vD.kept hb60
      replace vQ := vQ.kept hb60
      replace Ayy := Ayy.kept hb60
      replace Aun := Aun.kept hb60
      replace Aov := Aov.kept hb60
      clear hb60
      go_wp2_with fail
      refine hK.out _ _ ⟨arr_range Ayy, vr_range vD⟩ (fun hHeld => ?_)
      clear hK K
      refine wpAnyH_ready (rs := [7]) (by kernel_rfl) (by simp) (AllReadyH.cons (o := { dst := some 26, op := Op.call { callee := Callee.value (Operand.func 105), args := #[Operand.tmp 24, Operand.tmp 25], argTypes := #[70, 70] }, type := 70, pos := "l06_point.go:140", after := #[{ on := 5, ground := Ground.data }, { on := 6, ground := Ground.data }, { on := 5, ground := Ground.chain }], guard := none }) rfl (fun K hK => ?_) AllReadyH.nil)
      go_simp
      refine (Hun.out _ vP).mono ?_
      rintro e y61 ⟨rfl, hb61⟩
      replace fr := fr.trans (hb61.mono fr.size)
      replace pr := pr.kept hb61
      replace vP := vP.kept hb61
      replace vD := vD.kept hb61
      replace vQ := vQ.kept hb61
      replace Ayy := Ayy.kept hb61
      replace Aun := Aun.kept hb61
      replace Aov := Aov.kept hb61
      clear hb61
      go_wp2_with fail
      refine hK.out _ _ ⟨arr_range Ayy, vr_range vD⟩ (fun hHeld => ?_)
      clear hK K
      refine wpAnyH_ready (rs := [10]) (by kernel_rfl) (by simp) (AllReadyH.cons (o := qOk0) rfl (fun K hK => ?_) AllReadyH.nil)
      rw [if_pos (by rfl)]
      refine wp_store_mid _ _ _ rfl _ _ (I64 ov).toArray rfl rfl (by have := arr_there Aov; simpa [nov] using this) jov (all_oneCell_toArray uov) ?_
      simp only [Act.put]
      replace fr := bel_sc fr Xov (I64 ov) (by omega)
      replace pr := pr.sc Xov (I64 ov) (by omega)
      replace vP := vP.sc Xov (I64 ov) (by omega)
      replace vD := vD.sc Xov (I64 ov) (by omega)
      replace vQ := vQ.sc Xov (I64 ov) (by omega)
      replace Ayy := Ayy.sc Xov (I64 ov) (by omega)
      replace Aun := Aun.sc Xov (I64 ov) (by omega)
      replace Aov := Aov.sc0 (I64 ov) (by simp [nov])
      obtain ⟨V62, hVe⟩ : ∃ V, V = y61.setCells Xov 0 (I64 ov) := ⟨_, rfl⟩
      rw [← hVe] at fr pr vP vD vQ Ayy Aun Aov ⊢
      clear hVe
      refine hK.out _ _ ⟨arr_range Ayy, vr_range vD⟩ (fun hHeld => ?_)
      clear hK K
      refine wpAnyH_ready (rs := [11]) (by kernel_rfl) (by simp) (AllReadyH.cons (o := qOk1) rfl (fun K hK => ?_) AllReadyH.nil)
      rw [if_pos (by rfl)]
      refine wp_store_mid _ _ _ rfl _ _ (I64 un).toArray rfl rfl (by have := arr_there Aun; simpa [nun] using this) jun (all_oneCell_toArray uun) ?_
      simp only [Act.put]
      replace fr := bel_sc fr Xun (I64 un) (by omega)
      replace pr := pr.sc Xun (I64 un) (by omega)
      replace vP := vP.sc Xun (I64 un) (by omega)
      replace vD := vD.sc Xun (I64 un) (by omega)
      replace vQ := vQ.sc Xun (I64 un) (by omega)
      replace Ayy := Ayy.sc Xun (I64 un) (by omega)
      replace Aun := Aun.sc0 (I64 un) (by simp [nun])
      replace Aov := Aov.sc Xun (I64 un) (by omega)
      obtain ⟨V63, hVe⟩ : ∃ V, V = V62.setCells Xun 0 (I64 un) := ⟨_, rfl⟩
      rw [← hVe] at fr pr vP vD vQ Ayy Aun Aov ⊢
      clear hVe
      refine hK.out _ _ ⟨arr_range Ayy, vr_range vD⟩ (fun hHeld => ?_)
      clear hK K
      refine wpAnyH_done (by kernel_rfl) ?_ _
      go_wp2
      go_meet
      case rel => exact ⟨Xov, Xun, rfl, rfl, Aov, Aun, fr, pr, vP, vD, vQ, Ayy, (by omega), (by omega)⟩
   ·skip
    go_simp
    obtain ⟨V64, hVe⟩ : ∃ V, V = D4.alloc (.cells #[.int .i64 0, .int .i64 0, .int .i64 0, .int .i64 0, .int .i64 0, .int .i64 0, .int .i64 0, .int .i64 0, .int .i64 0, .int .i64 0, .int .i64 0, .int .i64 0, .int .i64 0, .int .i64 0, .int .i64 0, .int .i64 0] 70) := ⟨_, rfl⟩
    have bV : Below D4.heap.size D4 V64 := by rw [hVe]; exact (Below.refl _ _).alloc (Nat.le_refl _) _
    have Aov : Arr V64 D4.heap.size 70 (I64 Z16) := by rw [hVe]; exact Arr.new _ (I64 Z16) _
    have hXov : (w.heap.size + 1) < D4.heap.size ∧ Xyy < D4.heap.size ∧ True := ⟨pr.lt, Ayy.lt, trivial⟩
    obtain ⟨Xov, hXe⟩ : ∃ X, X = D4.heap.size := ⟨_, rfl⟩
    replace fr := fr.trans (bV.mono fr.size)
    replace pr := pr.kept bV
    replace vP := vP.kept bV
    replace vD := vD.kept bV
    replace vQ := vQ.kept bV
    replace Ayy := Ayy.kept bV
    rw [← hVe]
    rw [← hXe] at Aov hXov ⊢
    clear hVe hXe bV
    refine hK.out _ _ ⟨arr_range Ayy, vr_range vD⟩ (fun hHeld => ?_)
    clear hK K
    refine wpAnyH_ready (rs := [2, 9]) (by kernel_rfl) (by simp) (AllReadyH.cons (o := { dst := some 21, op := Op.call { callee := Callee.value (Operand.func 107), args := #[Operand.tmp 19, Operand.tmp 20], argTypes := #[70, 70] }, type := 70, pos := "l06_point.go:140", after := #[{ on := 0, ground := Ground.data }, { on := 1, ground := Ground.data }], guard := none }) rfl (fun K hK => ?_) (AllReadyH.cons (o := { dst := some 8, op := Op.alloc 70, type := 0, pos := "l06_point.go:140", after := #[], guard := none }) rfl (fun K hK => ?_) AllReadyH.nil))
    ·skip
     go_simp
     refine (Hov.out _ vP).mono ?_
     rintro e y65 ⟨rfl, hb65⟩
     replace fr := fr.trans (hb65.mono fr.size)
     replace pr := pr.kept hb65
     replace vP := vP.kept hb65
     replace vD := vD.kept hb65
     replace vQ := vQ.kept hb65
     replace Ayy := Ayy.kept hb65
     replace Aov := Aov.kept hb65
     clear hb65
     go_wp2_with fail
     refine hK.out _ _ ⟨arr_range Ayy, vr_range vD⟩ (fun hHeld => ?_)
     clear hK K
     refine wpAnyH_ready (rs := [5, 9]) (by kernel_rfl) (by simp) (AllReadyH.cons (o := { dst := some 24, op := Op.call { callee := Callee.value (Operand.func 104), args := #[Operand.tmp 22, Operand.tmp 23], argTypes := #[70, 70] }, type := 70, pos := "l06_point.go:140", after := #[{ on := 3, ground := Ground.data }, { on := 4, ground := Ground.data }, { on := 2, ground := Ground.chain }], guard := none }) rfl (fun K hK => ?_) (AllReadyH.cons (o := { dst := some 8, op := Op.alloc 70, type := 0, pos := "l06_point.go:140", after := #[], guard := none }) rfl (fun K hK => ?_) AllReadyH.nil))
     ·skip
      go_simp
      refine (Hdy.out _ vP).mono ?_
      rintro e y66 ⟨rfl, hb66⟩
      replace fr := fr.trans (hb66.mono fr.size)
      replace pr := pr.kept hb66
      replace vP := vP.kept hb66
      replace vD := vD.kept hb66
      replace vQ := vQ.kept hb66
      replace Ayy := Ayy.kept hb66
      replace Aov := Aov.kept hb66
      clear hb66
      go_wp2_with fail
      refine hK.out _ _ ⟨arr_range Ayy, vr_range vD⟩ (fun hHeld => ?_)
      clear hK K
      refine wpAnyH_ready (rs := [7, 9]) (by kernel_rfl) (by simp) (AllReadyH.cons (o := { dst := some 26, op := Op.call { callee := Callee.value (Operand.func 105), args := #[Operand.tmp 24, Operand.tmp 25], argTypes := #[70, 70] }, type := 70, pos := "l06_point.go:140", after := #[{ on := 5, ground := Ground.data }, { on := 6, ground := Ground.data }, { on := 5, ground := Ground.chain }], guard := none }) rfl (fun K hK => ?_) (AllReadyH.cons (o := { dst := some 8, op := Op.alloc 70, type := 0, pos := "l06_point.go:140", after := #[], guard := none }) rfl (fun K hK => ?_) AllReadyH.nil))
      ·skip
       go_simp
       refine (Hun.out _ vP).mono ?_
       rintro e y67 ⟨rfl, hb67⟩
       replace fr := fr.trans (hb67.mono fr.size)
       replace pr := pr.kept hb67
       replace vP := vP.kept hb67
       replace vD := vD.kept hb67
       replace vQ := vQ.kept hb67
       replace Ayy := Ayy.kept hb67
       replace Aov := Aov.kept hb67
       clear hb67
       go_wp2_with fail
       refine hK.out _ _ ⟨arr_range Ayy, vr_range vD⟩ (fun hHeld => ?_)
       clear hK K
       refine wpAnyH_ready (rs := [9]) (by kernel_rfl) (by simp) (AllReadyH.cons (o := { dst := some 8, op := Op.alloc 70, type := 0, pos := "l06_point.go:140", after := #[], guard := none }) rfl (fun K hK => ?_) AllReadyH.nil)
       go_simp
       obtain ⟨V68, hVe⟩ : ∃ V, V = y67.alloc (.cells #[.int .i64 0, .int .i64 0, .int .i64 0, .int .i64 0, .int .i64 0, .int .i64 0, .int .i64 0, .int .i64 0, .int .i64 0, .int .i64 0, .int .i64 0, .int .i64 0, .int .i64 0, .int .i64 0, .int .i64 0, .int .i64 0] 70) := ⟨_, rfl⟩
       have bV : Below y67.heap.size y67 V68 := by rw [hVe]; exact (Below.refl _ _).alloc (Nat.le_refl _) _
       have Aun : Arr V68 y67.heap.size 70 (I64 Z16) := by rw [hVe]; exact Arr.new _ (I64 Z16) _
       have hXun : (w.heap.size + 1) < y67.heap.size ∧ Xyy < y67.heap.size ∧ Xov < y67.heap.size ∧ True := ⟨pr.lt, Ayy.lt, Aov.lt, trivial⟩
       obtain ⟨Xun, hXe⟩ : ∃ X, X = y67.heap.size := ⟨_, rfl⟩
       replace fr := fr.trans (bV.mono fr.size)
       replace pr := pr.kept bV
       replace vP := vP.kept bV
       replace vD := vD.kept bV
       replace vQ := vQ.kept bV
       replace Ayy := Ayy.kept bV
       replace Aov := Aov.kept bV
       rw [← hVe]
       rw [← hXe] at Aun hXun ⊢
       clear hVe hXe bV
       refine hK.out _ _ ⟨arr_range Ayy, vr_range vD⟩ (fun hHeld => ?_)
       clear hK K
       refine wpAnyH_ready (rs := [10]) (by kernel_rfl) (by simp) (AllReadyH.cons (o := qOk0) rfl (fun K hK => ?_) AllReadyH.nil)
       rw [if_pos (by rfl)]
       refine wp_store_mid _ _ _ rfl _ _ (I64 ov).toArray rfl rfl (by have := arr_there Aov; simpa [nov] using this) jov (all_oneCell_toArray uov) ?_
       simp only [Act.put]
       replace fr := bel_sc fr Xov (I64 ov) (by omega)
       replace pr := pr.sc Xov (I64 ov) (by omega)
       replace vP := vP.sc Xov (I64 ov) (by omega)
       replace vD := vD.sc Xov (I64 ov) (by omega)
       replace vQ := vQ.sc Xov (I64 ov) (by omega)
       replace Ayy := Ayy.sc Xov (I64 ov) (by omega)
       replace Aov := Aov.sc0 (I64 ov) (by simp [nov])
       replace Aun := Aun.sc Xov (I64 ov) (by omega)
       obtain ⟨V69, hVe⟩ : ∃ V, V = V68.setCells Xov 0 (I64 ov) := ⟨_, rfl⟩
       rw [← hVe] at fr pr vP vD vQ Ayy Aov Aun ⊢
       clear hVe
       refine hK.out _ _ ⟨arr_range Ayy, vr_range vD⟩ (fun hHeld => ?_)
       clear hK K
       refine wpAnyH_ready (rs := [11]) (by kernel_rfl) (by simp) (AllReadyH.cons (o := qOk1) rfl (fun K hK => ?_) AllReadyH.nil)
       rw [if_pos (by rfl)]
       refine wp_store_mid _ _ _ rfl _ _ (I64 un).toArray rfl rfl (by have := arr_there Aun; simpa [nun] using this) jun (all_oneCell_toArray uun) ?_
       simp only [Act.put]
       replace fr := bel_sc fr Xun (I64 un) (by omega)
       replace pr := pr.sc Xun (I64 un) (by omega)
       replace vP := vP.sc Xun (I64 un) (by omega)
       replace vD := vD.sc Xun (I64 un) (by omega)
       replace vQ := vQ.sc Xun (I64 un) (by omega)
       replace Ayy := Ayy.sc Xun (I64 un) (by omega)
       replace Aov := Aov.sc Xun (I64 un) (by omega)
       replace Aun := Aun.sc0 (I64 un) (by simp [nun])
       obtain ⟨V70, hVe⟩ : ∃ V, V = V69.setCells Xun 0 (I64 un) := ⟨_, rfl⟩
       rw [← hVe] at fr pr vP vD vQ Ayy Aov Aun ⊢
       clear hVe
       refine hK.out _ _ ⟨arr_range Ayy, vr_range vD⟩ (fun hHeld => ?_)
       clear hK K
       refine wpAnyH_done (by kernel_rfl) ?_ _
       go_wp2
       go_meet
       case rel => exact ⟨Xov, Xun, rfl, rfl, Aov, Aun, fr, pr, vP, vD, vQ, Ayy, (by omega), (by omega)⟩
      ·skip
       go_simp
       obtain ⟨V71, hVe⟩ : ∃ V, V = y66.alloc (.cells #[.int .i64 0, .int .i64 0, .int .i64 0, .int .i64 0, .int .i64 0, .int .i64 0, .int .i64 0, .int .i64 0, .int .i64 0, .int .i64 0, .int .i64 0, .int .i64 0, .int .i64 0, .int .i64 0, .int .i64 0, .int .i64 0] 70) := ⟨_, rfl⟩
       have bV : Below y66.heap.size y66 V71 := by rw [hVe]; exact (Below.refl _ _).alloc (Nat.le_refl _) _
       have Aun : Arr V71 y66.heap.size 70 (I64 Z16) := by rw [hVe]; exact Arr.new _ (I64 Z16) _
       have hXun : (w.heap.size + 1) < y66.heap.size ∧ Xyy < y66.heap.size ∧ Xov < y66.heap.size ∧ True := ⟨pr.lt, Ayy.lt, Aov.lt, trivial⟩
       obtain ⟨Xun, hXe⟩ : ∃ X, X = y66.heap.size := ⟨_, rfl⟩
       replace fr := fr.trans (bV.mono fr.size)
       replace pr := pr.kept bV
       replace vP := vP.kept bV
       replace vD := vD.kept bV
       replace vQ := vQ.kept bV
       replace Ayy := Ayy.kept bV
       replace Aov := Aov.kept bV
       rw [← hVe]
       rw [← hXe] at Aun hXun ⊢
       clear hVe hXe bV
       refine hK.out _ _ ⟨arr_range Ayy, vr_range vD⟩ (fun hHeld => ?_)
       clear hK K
       refine wpAnyH_ready (rs := [7]) (by kernel_rfl) (by simp) (AllReadyH.cons (o := { dst := some 26, op := Op.call { callee := Callee.value (Operand.func 105), args := #[Operand.tmp 24, Operand.tmp 25], argTypes := #[70, 70] }, type := 70, pos := "l06_point.go:140", after := #[{ on := 5, ground := Ground.data }, { on := 6, ground := Ground.data }, { on := 5, ground := Ground.chain }], guard := none }) rfl (fun K hK => ?_) AllReadyH.nil)
       go_simp
       refine (Hun.out _ vP).mono ?_
       rintro e y72 ⟨rfl, hb72⟩
       replace fr := fr.trans (hb72.mono fr.size)
       replace pr := pr.kept hb72
       replace vP := vP.kept hb72
       replace vD := vD.kept hb72
       replace vQ := vQ.kept hb72
       replace Ayy := Ayy.kept hb72
       replace Aov := Aov.kept hb72
       replace Aun := Aun.kept hb72
       clear hb72
       go_wp2_with fail
       refine hK.out _ _ ⟨arr_range Ayy, vr_range vD⟩ (fun hHeld => ?_)
       clear hK K
       refine wpAnyH_ready (rs := [10]) (by kernel_rfl) (by simp) (AllReadyH.cons (o := qOk0) rfl (fun K hK => ?_) AllReadyH.nil)
       rw [if_pos (by rfl)]
       refine wp_store_mid _ _ _ rfl _ _ (I64 ov).toArray rfl rfl (by have := arr_there Aov; simpa [nov] using this) jov (all_oneCell_toArray uov) ?_
       simp only [Act.put]
       replace fr := bel_sc fr Xov (I64 ov) (by omega)
       replace pr := pr.sc Xov (I64 ov) (by omega)
       replace vP := vP.sc Xov (I64 ov) (by omega)
       replace vD := vD.sc Xov (I64 ov) (by omega)
       replace vQ := vQ.sc Xov (I64 ov) (by omega)
       replace Ayy := Ayy.sc Xov (I64 ov) (by omega)
       replace Aov := Aov.sc0 (I64 ov) (by simp [nov])
       replace Aun := Aun.sc Xov (I64 ov) (by omega)
       obtain ⟨V73, hVe⟩ : ∃ V, V = y72.setCells Xov 0 (I64 ov) := ⟨_, rfl⟩
       rw [← hVe] at fr pr vP vD vQ Ayy Aov Aun ⊢
       clear hVe
       refine hK.out _ _ ⟨arr_range Ayy, vr_range vD⟩ (fun hHeld => ?_)
       clear hK K
       refine wpAnyH_ready (rs := [11]) (by kernel_rfl) (by simp) (AllReadyH.cons (o := qOk1) rfl (fun K hK => ?_) AllReadyH.nil)
       rw [if_pos (by rfl)]
       refine wp_store_mid _ _ _ rfl _ _ (I64 un).toArray rfl rfl (by have := arr_there Aun; simpa [nun] using this) jun (all_oneCell_toArray uun) ?_
       simp only [Act.put]
       replace fr := bel_sc fr Xun (I64 un) (by omega)
       replace pr := pr.sc Xun (I64 un) (by omega)
       replace vP := vP.sc Xun (I64 un) (by omega)
       replace vD := vD.sc Xun (I64 un) (by omega)
       replace vQ := vQ.sc Xun (I64 un) (by omega)
       replace Ayy := Ayy.sc Xun (I64 un) (by omega)
       replace Aov := Aov.sc Xun (I64 un) (by omega)
       replace Aun := Aun.sc0 (I64 un) (by simp [nun])
       obtain ⟨V74, hVe⟩ : ∃ V, V = V73.setCells Xun 0 (I64 un) := ⟨_, rfl⟩
       rw [← hVe] at fr pr vP vD vQ Ayy Aov Aun ⊢
       clear hVe
       refine hK.out _ _ ⟨arr_range Ayy, vr_range vD⟩ (fun hHeld => ?_)
       clear hK K
       refine wpAnyH_done (by kernel_rfl) ?_ _
       go_wp2
       go_meet
       case rel => exact ⟨Xov, Xun, rfl, rfl, Aov, Aun, fr, pr, vP, vD, vQ, Ayy, (by omega), (by omega)⟩
     ·skip
      go_simp
      obtain ⟨V75, hVe⟩ : ∃ V, V = y65.alloc (.cells #[.int .i64 0, .int .i64 0, .int .i64 0, .int .i64 0, .int .i64 0, .int .i64 0, .int .i64 0, .int .i64 0, .int .i64 0, .int .i64 0, .int .i64 0, .int .i64 0, .int .i64 0, .int .i64 0, .int .i64 0, .int .i64 0] 70) := ⟨_, rfl⟩
      have bV : Below y65.heap.size y65 V75 := by rw [hVe]; exact (Below.refl _ _).alloc (Nat.le_refl _) _
      have Aun : Arr V75 y65.heap.size 70 (I64 Z16) := by rw [hVe]; exact Arr.new _ (I64 Z16) _
      have hXun : (w.heap.size + 1) < y65.heap.size ∧ Xyy < y65.heap.size ∧ Xov < y65.heap.size ∧ True := ⟨pr.lt, Ayy.lt, Aov.lt, trivial⟩
      obtain ⟨Xun, hXe⟩ : ∃ X, X = y65.heap.size := ⟨_, rfl⟩
      replace fr := fr.trans (bV.mono fr.size)
      replace pr := pr.kept bV
      replace vP := vP.kept bV
      replace vD := vD.kept bV
      replace vQ := vQ.kept bV
      replace Ayy := Ayy.kept bV
      replace Aov := Aov.kept bV
      rw [← hVe]
      rw [← hXe] at Aun hXun ⊢
      clear hVe hXe bV
      refine hK.out _ _ ⟨arr_range Ayy, vr_range vD⟩ (fun hHeld => ?_)
      clear hK K
      refine wpAnyH_ready (rs := [5]) (by kernel_rfl) (by simp) (AllReadyH.cons (o := { dst := some 24, op := Op.call { callee := Callee.value (Operand.func 104), args := #[Operand.tmp 22, Operand.tmp 23], argTypes := #[70, 70] }, type := 70, pos := "l06_point.go:140", after := #[{ on := 3, ground := Ground.data }, { on := 4, ground := Ground.data }, { on := 2, ground := Ground.chain }], guard := none }) rfl (fun K hK => ?_) AllReadyH.nil)
      go_simp
      refine (Hdy.out _ vP).mono ?_
      rintro e y76 ⟨rfl, hb76⟩
      replace fr := fr.trans (hb76.mono fr.size)
      replace pr := pr.kept hb76
      replace vP := vP.kept hb76
      replace vD := vD.kept hb76
      replace vQ := vQ.kept hb76
      replace Ayy := Ayy.kept hb76
      replace Aov := Aov.kept hb76
      replace Aun := Aun.kept hb76
      clear hb76
      go_wp2_with fail
      refine hK.out _ _ ⟨arr_range Ayy, vr_range vD⟩ (fun hHeld => ?_)
      clear hK K
      refine wpAnyH_ready (rs := [7]) (by kernel_rfl) (by simp) (AllReadyH.cons (o := { dst := some 26, op := Op.call { callee := Callee.value (Operand.func 105), args := #[Operand.tmp 24, Operand.tmp 25], argTypes := #[70, 70] }, type := 70, pos := "l06_point.go:140", after := #[{ on := 5, ground := Ground.data }, { on := 6, ground := Ground.data }, { on := 5, ground := Ground.chain }], guard := none }) rfl (fun K hK => ?_) AllReadyH.nil)
      go_simp
      refine (Hun.out _ vP).mono ?_
      rintro e y77 ⟨rfl, hb77⟩
      replace fr := fr.trans (hb77.mono fr.size)
      replace pr := pr.kept hb77
      replace vP := vP.kept hb77
      replace vD := vD.kept hb77
      replace vQ := vQ.kept hb77
      replace Ayy := Ayy.kept hb77
      replace Aov := Aov.kept hb77
      replace Aun := Aun.kept hb77
      clear hb77
      go_wp2_with fail
      refine hK.out _ _ ⟨arr_range Ayy, vr_range vD⟩ (fun hHeld => ?_)
      clear hK K
      refine wpAnyH_ready (rs := [10]) (by kernel_rfl) (by simp) (AllReadyH.cons (o := qOk0) rfl (fun K hK => ?_) AllReadyH.nil)
      rw [if_pos (by rfl)]
      refine wp_store_mid _ _ _ rfl _ _ (I64 ov).toArray rfl rfl (by have := arr_there Aov; simpa [nov] using this) jov (all_oneCell_toArray uov) ?_
      simp only [Act.put]
      replace fr := bel_sc fr Xov (I64 ov) (by omega)
      replace pr := pr.sc Xov (I64 ov) (by omega)
      replace vP := vP.sc Xov (I64 ov) (by omega)
      replace vD := vD.sc Xov (I64 ov) (by omega)
      replace vQ := vQ.sc Xov (I64 ov) (by omega)
      replace Ayy := Ayy.sc Xov (I64 ov) (by omega)
      replace Aov := Aov.sc0 (I64 ov) (by simp [nov])
      replace Aun := Aun.sc Xov (I64 ov) (by omega)
      obtain ⟨V78, hVe⟩ : ∃ V, V = y77.setCells Xov 0 (I64 ov) := ⟨_, rfl⟩
      rw [← hVe] at fr pr vP vD vQ Ayy Aov Aun ⊢
      clear hVe
      refine hK.out _ _ ⟨arr_range Ayy, vr_range vD⟩ (fun hHeld => ?_)
      clear hK K
      refine wpAnyH_ready (rs := [11]) (by kernel_rfl) (by simp) (AllReadyH.cons (o := qOk1) rfl (fun K hK => ?_) AllReadyH.nil)
      rw [if_pos (by rfl)]
      refine wp_store_mid _ _ _ rfl _ _ (I64 un).toArray rfl rfl (by have := arr_there Aun; simpa [nun] using this) jun (all_oneCell_toArray uun) ?_
      simp only [Act.put]
      replace fr := bel_sc fr Xun (I64 un) (by omega)
      replace pr := pr.sc Xun (I64 un) (by omega)
      replace vP := vP.sc Xun (I64 un) (by omega)
      replace vD := vD.sc Xun (I64 un) (by omega)
      replace vQ := vQ.sc Xun (I64 un) (by omega)
      replace Ayy := Ayy.sc Xun (I64 un) (by omega)
      replace Aov := Aov.sc Xun (I64 un) (by omega)
      replace Aun := Aun.sc0 (I64 un) (by simp [nun])
      obtain ⟨V79, hVe⟩ : ∃ V, V = V78.setCells Xun 0 (I64 un) := ⟨_, rfl⟩
      rw [← hVe] at fr pr vP vD vQ Ayy Aov Aun ⊢
      clear hVe
      refine hK.out _ _ ⟨arr_range Ayy, vr_range vD⟩ (fun hHeld => ?_)
      clear hK K
      refine wpAnyH_done (by kernel_rfl) ?_ _
      go_wp2
      go_meet
      case rel => exact ⟨Xov, Xun, rfl, rfl, Aov, Aun, fr, pr, vP, vD, vQ, Ayy, (by omega), (by omega)⟩
    ·skip
     go_simp
     obtain ⟨V80, hVe⟩ : ∃ V, V = V64.alloc (.cells #[.int .i64 0, .int .i64 0, .int .i64 0, .int .i64 0, .int .i64 0, .int .i64 0, .int .i64 0, .int .i64 0, .int .i64 0, .int .i64 0, .int .i64 0, .int .i64 0, .int .i64 0, .int .i64 0, .int .i64 0, .int .i64 0] 70) := ⟨_, rfl⟩
     have bV : Below V64.heap.size V64 V80 := by rw [hVe]; exact (Below.refl _ _).alloc (Nat.le_refl _) _
     have Aun : Arr V80 V64.heap.size 70 (I64 Z16) := by rw [hVe]; exact Arr.new _ (I64 Z16) _
     have hXun : (w.heap.size + 1) < V64.heap.size ∧ Xyy < V64.heap.size ∧ Xov < V64.heap.size ∧ True := ⟨pr.lt, Ayy.lt, Aov.lt, trivial⟩
     obtain ⟨Xun, hXe⟩ : ∃ X, X = V64.heap.size := ⟨_, rfl⟩
     replace fr := fr.trans (bV.mono fr.size)
     replace pr := pr.kept bV
     replace vP := vP.kept bV
     replace vD := vD.kept bV
     replace vQ := vQ.kept bV
     replace Ayy := Ayy.kept bV
     replace Aov := Aov.kept bV
     rw [← hVe]
     rw [← hXe] at Aun hXun ⊢
     clear hVe hXe bV
     refine hK.out _ _ ⟨arr_range Ayy, vr_range vD⟩ (fun hHeld => ?_)
     clear hK K
     refine wpAnyH_ready (rs := [2]) (by kernel_rfl) (by simp) (AllReadyH.cons (o := { dst := some 21, op := Op.call { callee := Callee.value (Operand.func 107), args := #[Operand.tmp 19, Operand.tmp 20], argTypes := #[70, 70] }, type := 70, pos := "l06_point.go:140", after := #[{ on := 0, ground := Ground.data }, { on := 1, ground := Ground.data }], guard := none }) rfl (fun K hK => ?_) AllReadyH.nil)
     go_simp
     refine (Hov.out _ vP).mono ?_
     rintro e y81 ⟨rfl, hb81⟩
     replace fr := fr.trans (hb81.mono fr.size)
     replace pr := pr.kept hb81
     replace vP := vP.kept hb81
     replace vD := vD.kept hb81
     replace vQ := vQ.kept hb81
     replace Ayy := Ayy.kept hb81
     replace Aov := Aov.kept hb81
     replace Aun := Aun.kept hb81
     clear hb81
     go_wp2_with fail
     refine hK.out _ _ ⟨arr_range Ayy, vr_range vD⟩ (fun hHeld => ?_)
     clear hK K
     refine wpAnyH_ready (rs := [5]) (by kernel_rfl) (by simp) (AllReadyH.cons (o := { dst := some 24, op := Op.call { callee := Callee.value (Operand.func 104), args := #[Operand.tmp 22, Operand.tmp 23], argTypes := #[70, 70] }, type := 70, pos := "l06_point.go:140", after := #[{ on := 3, ground := Ground.data }, { on := 4, ground := Ground.data }, { on := 2, ground := Ground.chain }], guard := none }) rfl (fun K hK => ?_) AllReadyH.nil)
     go_simp
     refine (Hdy.out _ vP).mono ?_
     rintro e y82 ⟨rfl, hb82⟩
     replace fr := fr.trans (hb82.mono fr.size)
     replace pr := pr.kept hb82
     replace vP := vP.kept hb82
     replace vD := vD.kept hb82
     replace vQ := vQ.kept hb82
     replace Ayy := Ayy.kept hb82
     replace Aov := Aov.kept hb82
     replace Aun := Aun.kept hb82
     clear hb82
     go_wp2_with fail
     refine hK.out _ _ ⟨arr_range Ayy, vr_range vD⟩ (fun hHeld => ?_)
     clear hK K
     refine wpAnyH_ready (rs := [7]) (by kernel_rfl) (by simp) (AllReadyH.cons (o := { dst := some 26, op := Op.call { callee := Callee.value (Operand.func 105), args := #[Operand.tmp 24, Operand.tmp 25], argTypes := #[70, 70] }, type := 70, pos := "l06_point.go:140", after := #[{ on := 5, ground := Ground.data }, { on := 6, ground := Ground.data }, { on := 5, ground := Ground.chain }], guard := none }) rfl (fun K hK => ?_) AllReadyH.nil)
     go_simp
     refine (Hun.out _ vP).mono ?_
     rintro e y83 ⟨rfl, hb83⟩
     replace fr := fr.trans (hb83.mono fr.size)
     replace pr := pr.kept hb83
     replace vP := vP.kept hb83
     replace vD := vD.kept hb83
     replace vQ := vQ.kept hb83
     replace Ayy := Ayy.kept hb83
     replace Aov := Aov.kept hb83
     replace Aun := Aun.kept hb83
     clear hb83
     go_wp2_with fail
     refine hK.out _ _ ⟨arr_range Ayy, vr_range vD⟩ (fun hHeld => ?_)
     clear hK K
     refine wpAnyH_ready (rs := [10]) (by kernel_rfl) (by simp) (AllReadyH.cons (o := qOk0) rfl (fun K hK => ?_) AllReadyH.nil)
     rw [if_pos (by rfl)]
     refine wp_store_mid _ _ _ rfl _ _ (I64 ov).toArray rfl rfl (by have := arr_there Aov; simpa [nov] using this) jov (all_oneCell_toArray uov) ?_
     simp only [Act.put]
     replace fr := bel_sc fr Xov (I64 ov) (by omega)
     replace pr := pr.sc Xov (I64 ov) (by omega)
     replace vP := vP.sc Xov (I64 ov) (by omega)
     replace vD := vD.sc Xov (I64 ov) (by omega)
     replace vQ := vQ.sc Xov (I64 ov) (by omega)
     replace Ayy := Ayy.sc Xov (I64 ov) (by omega)
     replace Aov := Aov.sc0 (I64 ov) (by simp [nov])
     replace Aun := Aun.sc Xov (I64 ov) (by omega)
     obtain ⟨V84, hVe⟩ : ∃ V, V = y83.setCells Xov 0 (I64 ov) := ⟨_, rfl⟩
     rw [← hVe] at fr pr vP vD vQ Ayy Aov Aun ⊢
     clear hVe
     refine hK.out _ _ ⟨arr_range Ayy, vr_range vD⟩ (fun hHeld => ?_)
     clear hK K
     refine wpAnyH_ready (rs := [11]) (by kernel_rfl) (by simp) (AllReadyH.cons (o := qOk1) rfl (fun K hK => ?_) AllReadyH.nil)
     rw [if_pos (by rfl)]
     refine wp_store_mid _ _ _ rfl _ _ (I64 un).toArray rfl rfl (by have := arr_there Aun; simpa [nun] using this) jun (all_oneCell_toArray uun) ?_
     simp only [Act.put]
     replace fr := bel_sc fr Xun (I64 un) (by omega)
     replace pr := pr.sc Xun (I64 un) (by omega)
     replace vP := vP.sc Xun (I64 un) (by omega)
     replace vD := vD.sc Xun (I64 un) (by omega)
     replace vQ := vQ.sc Xun (I64 un) (by omega)
     replace Ayy := Ayy.sc Xun (I64 un) (by omega)
     replace Aov := Aov.sc Xun (I64 un) (by omega)
     replace Aun := Aun.sc0 (I64 un) (by simp [nun])
     obtain ⟨V85, hVe⟩ : ∃ V, V = V84.setCells Xun 0 (I64 un) := ⟨_, rfl⟩
     rw [← hVe] at fr pr vP vD vQ Ayy Aov Aun ⊢
     clear hVe
     refine hK.out _ _ ⟨arr_range Ayy, vr_range vD⟩ (fun hHeld => ?_)
     clear hK K
     refine wpAnyH_done (by kernel_rfl) ?_ _
     go_wp2
     go_meet
     case rel => exact ⟨Xov, Xun, rfl, rfl, Aov, Aun, fr, pr, vP, vD, vQ, Ayy, (by omega), (by omega)⟩
   ·skip
    go_simp
    obtain ⟨V86, hVe⟩ : ∃ V, V = D4.alloc (.cells #[.int .i64 0, .int .i64 0, .int .i64 0, .int .i64 0, .int .i64 0, .int .i64 0, .int .i64 0, .int .i64 0, .int .i64 0, .int .i64 0, .int .i64 0, .int .i64 0, .int .i64 0, .int .i64 0, .int .i64 0, .int .i64 0] 70) := ⟨_, rfl⟩
    have bV : Below D4.heap.size D4 V86 := by rw [hVe]; exact (Below.refl _ _).alloc (Nat.le_refl _) _
    have Aun : Arr V86 D4.heap.size 70 (I64 Z16) := by rw [hVe]; exact Arr.new _ (I64 Z16) _
    have hXun : (w.heap.size + 1) < D4.heap.size ∧ Xyy < D4.heap.size ∧ True := ⟨pr.lt, Ayy.lt, trivial⟩
    obtain ⟨Xun, hXe⟩ : ∃ X, X = D4.heap.size := ⟨_, rfl⟩
    replace fr := fr.trans (bV.mono fr.size)
    replace pr := pr.kept bV
    replace vP := vP.kept bV
    replace vD := vD.kept bV
    replace vQ := vQ.kept bV
    replace Ayy := Ayy.kept bV
    rw [← hVe]
    rw [← hXe] at Aun hXun ⊢
    clear hVe hXe bV
    refine hK.out _ _ ⟨arr_range Ayy, vr_range vD⟩ (fun hHeld => ?_)
    clear hK K
    refine wpAnyH_ready (rs := [2, 8]) (by kernel_rfl) (by simp) (AllReadyH.cons (o := { dst := some 21, op := Op.call { callee := Callee.value (Operand.func 107), args := #[Operand.tmp 19, Operand.tmp 20], argTypes := #[70, 70] }, type := 70, pos := "l06_point.go:140", after := #[{ on := 0, ground := Ground.data }, { on := 1, ground := Ground.data }], guard := none }) rfl (fun K hK => ?_) (AllReadyH.cons (o := { dst := some 7, op := Op.alloc 70, type := 0, pos := "l06_point.go:140", after := #[], guard := none }) rfl (fun K hK => ?_) AllReadyH.nil))
    ·skip
     go_simp
     refine (Hov.out _ vP).mono ?_
     rintro e y87 ⟨rfl, hb87⟩
     replace fr := fr.trans (hb87.mono fr.size)
     replace pr := pr.kept hb87
     replace vP := vP.kept hb87
     replace vD := vD.kept hb87
     replace vQ := vQ.kept hb87
     replace Ayy := Ayy.kept hb87
     replace Aun := Aun.kept hb87
     clear hb87
     go_wp2_with fail
     refine hK.out _ _ ⟨arr_range Ayy, vr_range vD⟩ (fun hHeld => ?_)
     clear hK K
     refine wpAnyH_ready (rs := [5, 8]) (by kernel_rfl) (by simp) (AllReadyH.cons (o := { dst := some 24, op := Op.call { callee := Callee.value (Operand.func 104), args := #[Operand.tmp 22, Operand.tmp 23], argTypes := #[70, 70] }, type := 70, pos := "l06_point.go:140", after := #[{ on := 3, ground := Ground.data }, { on := 4, ground := Ground.data }, { on := 2, ground := Ground.chain }], guard := none }) rfl (fun K hK => ?_) (AllReadyH.cons (o := { dst := some 7, op := Op.alloc 70, type := 0, pos := "l06_point.go:140", after := #[], guard := none }) rfl (fun K hK => ?_) AllReadyH.nil))
     ·skip
      go_simp
      refine (Hdy.out _ vP).mono ?_
      rintro e y88 ⟨rfl, hb88⟩
      replace fr := fr.trans (hb88.mono fr.size)
      replace pr := pr.kept hb88
      replace vP := vP.kept hb88
      replace vD := vD.kept hb88
      replace vQ := vQ.kept hb88
      replace Ayy := Ayy.kept hb88
      replace Aun := Aun.kept hb88
      clear hb88
      go_wp2_with fail
      refine hK.out _ _ ⟨arr_range Ayy, vr_range vD⟩ (fun hHeld => ?_)
      clear hK K
      refine wpAnyH_ready (rs := [7, 8]) (by kernel_rfl) (by simp) (AllReadyH.cons (o := { dst := some 26, op := Op.call { callee := Callee.value (Operand.func 105), args := #[Operand.tmp 24, Operand.tmp 25], argTypes := #[70, 70] }, type := 70, pos := "l06_point.go:140", after := #[{ on := 5, ground := Ground.data }, { on := 6, ground := Ground.data }, { on := 5, ground := Ground.chain }], guard := none }) rfl (fun K hK => ?_) (AllReadyH.cons (o := { dst := some 7, op := Op.alloc 70, type := 0, pos := "l06_point.go:140", after := #[], guard := none }) rfl (fun K hK => ?_) AllReadyH.nil))
      ·skip
       go_simp
       refine (Hun.out _ vP).mono ?_
       rintro e y89 ⟨rfl, hb89⟩
       replace fr := fr.trans (hb89.mono fr.size)
       replace pr := pr.kept hb89
       replace vP := vP.kept hb89
       replace vD := vD.kept hb89
       replace vQ := vQ.kept hb89
       replace Ayy := Ayy.kept hb89
       replace Aun := Aun.kept hb89
       clear hb89
       go_wp2_with fail
       refine hK.out _ _ ⟨arr_range Ayy, vr_range vD⟩ (fun hHeld => ?_)
       clear hK K
       refine wpAnyH_ready (rs := [8]) (by kernel_rfl) (by simp) (AllReadyH.cons (o := { dst := some 7, op := Op.alloc 70, type := 0, pos := "l06_point.go:140", after := #[], guard := none }) rfl (fun K hK => ?_) AllReadyH.nil)
       go_simp
       obtain ⟨V90, hVe⟩ : ∃ V, V = y89.alloc (.cells #[.int .i64 0, .int .i64 0, .int .i64 0, .int .i64 0, .int .i64 0, .int .i64 0, .int .i64 0, .int .i64 0, .int .i64 0, .int .i64 0, .int .i64 0, .int .i64 0, .int .i64 0, .int .i64 0, .int .i64 0, .int .i64 0] 70) := ⟨_, rfl⟩
       have bV : Below y89.heap.size y89 V90 := by rw [hVe]; exact (Below.refl _ _).alloc (Nat.le_refl _) _
       have Aov : Arr V90 y89.heap.size 70 (I64 Z16) := by rw [hVe]; exact Arr.new _ (I64 Z16) _
       have hXov : (w.heap.size + 1) < y89.heap.size ∧ Xyy < y89.heap.size ∧ Xun < y89.heap.size ∧ True := ⟨pr.lt, Ayy.lt, Aun.lt, trivial⟩
       obtain ⟨Xov, hXe⟩ : ∃ X, X = y89.heap.size := ⟨_, rfl⟩
       replace fr := fr.trans (bV.mono fr.size)
       replace pr := pr.kept bV
       replace vP := vP.kept bV
       replace vD := vD.kept bV
       replace vQ := vQ.kept bV
       replace Ayy := Ayy.kept bV
       replace Aun := Aun.kept bV
       rw [← hVe]
       rw [← hXe] at Aov hXov ⊢
       clear hVe hXe bV
       refine hK.out _ _ ⟨arr_range Ayy, vr_range vD⟩ (fun hHeld => ?_)
       clear hK K
       refine wpAnyH_ready (rs := [10]) (by kernel_rfl) (by simp) (AllReadyH.cons (o := qOk0) rfl (fun K hK => ?_) AllReadyH.nil)
       rw [if_pos (by rfl)]
       refine wp_store_mid _ _ _ rfl _ _ (I64 ov).toArray rfl rfl (by have := arr_there Aov; simpa [nov] using this) jov (all_oneCell_toArray uov) ?_
       simp only [Act.put]
       replace fr := bel_sc fr Xov (I64 ov) (by omega)
       replace pr := pr.sc Xov (I64 ov) (by omega)
       replace vP := vP.sc Xov (I64 ov) (by omega)
       replace vD := vD.sc Xov (I64 ov) (by omega)
       replace vQ := vQ.sc Xov (I64 ov) (by omega)
       replace Ayy := Ayy.sc Xov (I64 ov) (by omega)
       replace Aun := Aun.sc Xov (I64 ov) (by omega)
       replace Aov := Aov.sc0 (I64 ov) (by simp [nov])
       obtain ⟨V91, hVe⟩ : ∃ V, V = V90.setCells Xov 0 (I64 ov) := ⟨_, rfl⟩
       rw [← hVe] at fr pr vP vD vQ Ayy Aun Aov ⊢
       clear hVe
       refine hK.out _ _ ⟨arr_range Ayy, vr_range vD⟩ (fun hHeld => ?_)
       clear hK K
       refine wpAnyH_ready (rs := [11]) (by kernel_rfl) (by simp) (AllReadyH.cons (o := qOk1) rfl (fun K hK => ?_) AllReadyH.nil)
       rw [if_pos (by rfl)]
       refine wp_store_mid _ _ _ rfl _ _ (I64 un).toArray rfl rfl (by have := arr_there Aun; simpa [nun] using this) jun (all_oneCell_toArray uun) ?_
       simp only [Act.put]
       replace fr := bel_sc fr Xun (I64 un) (by omega)
       replace pr := pr.sc Xun (I64 un) (by omega)
       replace vP := vP.sc Xun (I64 un) (by omega)
       replace vD := vD.sc Xun (I64 un) (by omega)
       replace vQ := vQ.sc Xun (I64 un) (by omega)
       replace Ayy := Ayy.sc Xun (I64 un) (by omega)
       replace Aun := Aun.sc0 (I64 un) (by simp [nun])
       replace Aov := Aov.sc Xun (I64 un) (by omega)
       obtain ⟨V92, hVe⟩ : ∃ V, V = V91.setCells Xun 0 (I64 un) := ⟨_, rfl⟩
       rw [← hVe] at fr pr vP vD vQ Ayy Aun Aov ⊢
       clear hVe
       refine hK.out _ _ ⟨arr_range Ayy, vr_range vD⟩ (fun hHeld => ?_)
       clear hK K
       refine wpAnyH_done (by kernel_rfl) ?_ _
       go_wp2
       go_meet
       case rel => exact ⟨Xov, Xun, rfl, rfl, Aov, Aun, fr, pr, vP, vD, vQ, Ayy, (by omega), (by omega)⟩
      ·skip
       go_simp
       obtain ⟨V93, hVe⟩ : ∃ V, V = y88.alloc (.cells #[.int .i64 0, .int .i64 0, .int .i64 0, .int .i64 0, .int .i64 0, .int .i64 0, .int .i64 0, .int .i64 0, .int .i64 0, .int .i64 0, .int .i64 0, .int .i64 0, .int .i64 0, .int .i64 0, .int .i64 0, .int .i64 0] 70) := ⟨_, rfl⟩
       have bV : Below y88.heap.size y88 V93 := by rw [hVe]; exact (Below.refl _ _).alloc (Nat.le_refl _) _
       have Aov : Arr V93 y88.heap.size 70 (I64 Z16) := by rw [hVe]; exact Arr.new _ (I64 Z16) _
       have hXov : (w.heap.size + 1) < y88.heap.size ∧ Xyy < y88.heap.size ∧ Xun < y88.heap.size ∧ True := ⟨pr.lt, Ayy.lt, Aun.lt, trivial⟩
       obtain ⟨Xov, hXe⟩ : ∃ X, X = y88.heap.size := ⟨_, rfl⟩
       replace fr := fr.trans (bV.mono fr.size)
       replace pr := pr.kept bV
       replace vP := vP.kept bV
       replace vD := vD.kept bV
       replace vQ := vQ.kept bV
       replace Ayy := Ayy.kept bV
       replace Aun := Aun.kept bV
       rw [← hVe]
       rw [← hXe] at Aov hXov ⊢
       clear hVe hXe bV
       refine hK.out _ _ ⟨arr_range Ayy, vr_range vD⟩ (fun hHeld => ?_)
       clear hK K
       refine wpAnyH_ready (rs := [7]) (by kernel_rfl) (by simp) (AllReadyH.cons (o := { dst := some 26, op := Op.call { callee := Callee.value (Operand.func 105), args := #[Operand.tmp 24, Operand.tmp 25], argTypes := #[70, 70] }, type := 70, pos := "l06_point.go:140", after := #[{ on := 5, ground := Ground.data }, { on := 6, ground := Ground.data }, { on := 5, ground := Ground.chain }], guard := none }) rfl (fun K hK => ?_) AllReadyH.nil)
       go_simp
       refine (Hun.out _ vP).mono ?_
       rintro e y94 ⟨rfl, hb94⟩
       replace fr := fr.trans (hb94.mono fr.size)
       replace pr := pr.kept hb94
       replace vP := vP.kept hb94
       replace vD := vD.kept hb94
       replace vQ := vQ.kept hb94
       replace Ayy := Ayy.kept hb94
       replace Aun := Aun.kept hb94
       replace Aov := Aov.kept hb94
       clear hb94
       go_wp2_with fail
       refine hK.out _ _ ⟨arr_range Ayy, vr_range vD⟩ (fun hHeld => ?_)
       clear hK K
       refine wpAnyH_ready (rs := [10]) (by kernel_rfl) (by simp) (AllReadyH.cons (o := qOk0) rfl (fun K hK => ?_) AllReadyH.nil)
       rw [if_pos (by rfl)]
       refine wp_store_mid _ _ _ rfl _ _ (I64 ov).toArray rfl rfl (by have := arr_there Aov; simpa [nov] using this) jov (all_oneCell_toArray uov) ?_
       simp only [Act.put]
       replace fr := bel_sc fr Xov (I64 ov) (by omega)
       replace pr := pr.sc Xov (I64 ov) (by omega)
       replace vP := vP.sc Xov (I64 ov) (by omega)
       replace vD := vD.sc Xov (I64 ov) (by omega)
       replace vQ := vQ.sc Xov (I64 ov) (by omega)
       replace Ayy := Ayy.sc Xov (I64 ov) (by omega)
       replace Aun := Aun.sc Xov (I64 ov) (by omega)
       replace Aov := Aov.sc0 (I64 ov) (by simp [nov])
       obtain ⟨V95, hVe⟩ : ∃ V, V = y94.setCells Xov 0 (I64 ov) := ⟨_, rfl⟩
       rw [← hVe] at fr pr vP vD vQ Ayy Aun Aov ⊢
       clear hVe
       refine hK.out _ _ ⟨arr_range Ayy, vr_range vD⟩ (fun hHeld => ?_)
       clear hK K
       refine wpAnyH_ready (rs := [11]) (by kernel_rfl) (by simp) (AllReadyH.cons (o := qOk1) rfl (fun K hK => ?_) AllReadyH.nil)
       rw [if_pos (by rfl)]
       refine wp_store_mid _ _ _ rfl _ _ (I64 un).toArray rfl rfl (by have := arr_there Aun; simpa [nun] using this) jun (all_oneCell_toArray uun) ?_
       simp only [Act.put]
       replace fr := bel_sc fr Xun (I64 un) (by omega)
       replace pr := pr.sc Xun (I64 un) (by omega)
       replace vP := vP.sc Xun (I64 un) (by omega)
       replace vD := vD.sc Xun (I64 un) (by omega)
       replace vQ := vQ.sc Xun (I64 un) (by omega)
       replace Ayy := Ayy.sc Xun (I64 un) (by omega)
       replace Aun := Aun.sc0 (I64 un) (by simp [nun])
       replace Aov := Aov.sc Xun (I64 un) (by omega)
       obtain ⟨V96, hVe⟩ : ∃ V, V = V95.setCells Xun 0 (I64 un) := ⟨_, rfl⟩
       rw [← hVe] at fr pr vP vD vQ Ayy Aun Aov ⊢
       clear hVe
       refine hK.out _ _ ⟨arr_range Ayy, vr_range vD⟩ (fun hHeld => ?_)
       clear hK K
       refine wpAnyH_done (by kernel_rfl) ?_ _
       go_wp2
       go_meet
       case rel => exact ⟨Xov, Xun, rfl, rfl, Aov, Aun, fr, pr, vP, vD, vQ, Ayy, (by omega), (by omega)⟩
     ·skip
      go_simp
      obtain ⟨V97, hVe⟩ : ∃ V, V = y87.alloc (.cells #[.int .i64 0, .int .i64 0, .int .i64 0, .int .i64 0, .int .i64 0, .int .i64 0, .int .i64 0, .int .i64 0, .int .i64 0, .int .i64 0, .int .i64 0, .int .i64 0, .int .i64 0, .int .i64 0, .int .i64 0, .int .i64 0] 70) := ⟨_, rfl⟩
      have bV : Below y87.heap.size y87 V97 := by rw [hVe]; exact (Below.refl _ _).alloc (Nat.le_refl _) _
      have Aov : Arr V97 y87.heap.size 70 (I64 Z16) := by rw [hVe]; exact Arr.new _ (I64 Z16) _
      have hXov : (w.heap.size + 1) < y87.heap.size ∧ Xyy < y87.heap.size ∧ Xun < y87.heap.size ∧ True := ⟨pr.lt, Ayy.lt, Aun.lt, trivial⟩
      obtain ⟨Xov, hXe⟩ : ∃ X, X = y87.heap.size := ⟨_, rfl⟩
      replace fr := fr.trans (bV.mono fr.size)
      replace pr := pr.kept bV
      replace vP := vP.kept bV
      replace vD := vD.kept bV
      replace vQ := vQ.kept bV
      replace Ayy := Ayy.kept bV
      replace Aun := Aun.kept bV
      rw [← hVe]
      rw [← hXe] at Aov hXov ⊢
      clear hVe hXe bV
      refine hK.out _ _ ⟨arr_range Ayy, vr_range vD⟩ (fun hHeld => ?_)
      clear hK K
      refine wpAnyH_ready (rs := [5]) (by kernel_rfl) (by simp) (AllReadyH.cons (o := { dst := some 24, op := Op.call { callee := Callee.value (Operand.func 104), args := #[Operand.tmp 22, Operand.tmp 23], argTypes := #[70, 70] }, type := 70, pos := "l06_point.go:140", after := #[{ on := 3, ground := Ground.data }, { on := 4, ground := Ground.data }, { on := 2, ground := Ground.chain }], guard := none }) rfl (fun K hK => ?_) AllReadyH.nil)
      go_simp
      refine (Hdy.out _ vP).mono ?_
      rintro e y98 ⟨rfl, hb98⟩
      replace fr := fr.trans (hb98.mono fr.size)
      replace pr := pr.kept hb98
      replace vP := vP.kept hb98
      replace vD := vD.kept hb98
      replace vQ := vQ.kept hb98
      replace Ayy := Ayy.kept hb98
      replace Aun := Aun.kept hb98
      replace Aov := Aov.kept hb98
      clear hb98
      go_wp2_with fail
      refine hK.out _ _ ⟨arr_range Ayy, vr_range vD⟩ (fun hHeld => ?_)
      clear hK K
      refine wpAnyH_ready (rs := [7]) (by kernel_rfl) (by simp) (AllReadyH.cons (o := { dst := some 26, op := Op.call { callee := Callee.value (Operand.func 105), args := #[Operand.tmp 24, Operand.tmp 25], argTypes := #[70, 70] }, type := 70, pos := "l06_point.go:140", after := #[{ on := 5, ground := Ground.data }, { on := 6, ground := Ground.data }, { on := 5, ground := Ground.chain }], guard := none }) rfl (fun K hK => ?_) AllReadyH.nil)
      go_simp
      refine (Hun.out _ vP).mono ?_
      rintro e y99 ⟨rfl, hb99⟩
      replace fr := fr.trans (hb99.mono fr.size)
      replace pr := pr.kept hb99
      replace vP := vP.kept hb99
      replace vD := vD.kept hb99
      replace vQ := vQ.kept hb99
      replace Ayy := Ayy.kept hb99
      replace Aun := Aun.kept hb99
      replace Aov := Aov.kept hb99
      clear hb99
      go_wp2_with fail
      refine hK.out _ _ ⟨arr_range Ayy, vr_range vD⟩ (fun hHeld => ?_)
      clear hK K
      refine wpAnyH_ready (rs := [10]) (by kernel_rfl) (by simp) (AllReadyH.cons (o := qOk0) rfl (fun K hK => ?_) AllReadyH.nil)
      rw [if_pos (by rfl)]
      refine wp_store_mid _ _ _ rfl _ _ (I64 ov).toArray rfl rfl (by have := arr_there Aov; simpa [nov] using this) jov (all_oneCell_toArray uov) ?_
      simp only [Act.put]
      replace fr := bel_sc fr Xov (I64 ov) (by omega)
      replace pr := pr.sc Xov (I64 ov) (by omega)
      replace vP := vP.sc Xov (I64 ov) (by omega)
      replace vD := vD.sc Xov (I64 ov) (by omega)
      replace vQ := vQ.sc Xov (I64 ov) (by omega)
      replace Ayy := Ayy.sc Xov (I64 ov) (by omega)
      replace Aun := Aun.sc Xov (I64 ov) (by omega)
      replace Aov := Aov.sc0 (I64 ov) (by simp [nov])
      obtain ⟨V100, hVe⟩ : ∃ V, V = y99.setCells Xov 0 (I64 ov) := ⟨_, rfl⟩
      rw [← hVe] at fr pr vP vD vQ Ayy Aun Aov ⊢
      clear hVe
      refine hK.out _ _ ⟨arr_range Ayy, vr_range vD⟩ (fun hHeld => ?_)
      clear hK K
      refine wpAnyH_ready (rs := [11]) (by kernel_rfl) (by simp) (AllReadyH.cons (o := qOk1) rfl (fun K hK => ?_) AllReadyH.nil)
      rw [if_pos (by rfl)]
      refine wp_store_mid _ _ _ rfl _ _ (I64 un).toArray rfl rfl (by have := arr_there Aun; simpa [nun] using this) jun (all_oneCell_toArray uun) ?_
      simp only [Act.put]
      replace fr := bel_sc fr Xun (I64 un) (by omega)
      replace pr := pr.sc Xun (I64 un) (by omega)
      replace vP := vP.sc Xun (I64 un) (by omega)
      replace vD := vD.sc Xun (I64 un) (by omega)
      replace vQ := vQ.sc Xun (I64 un) (by omega)
      replace Ayy := Ayy.sc Xun (I64 un) (by omega)
      replace Aun := Aun.sc0 (I64 un) (by simp [nun])
      replace Aov := Aov.sc Xun (I64 un) (by omega)
      obtain ⟨V101, hVe⟩ : ∃ V, V = V100.setCells Xun 0 (I64 un) := ⟨_, rfl⟩
      rw [← hVe] at fr pr vP vD vQ Ayy Aun Aov ⊢
      clear hVe
      refine hK.out _ _ ⟨arr_range Ayy, vr_range vD⟩ (fun hHeld => ?_)
      clear hK K
      refine wpAnyH_done (by kernel_rfl) ?_ _
      go_wp2
      go_meet
      case rel => exact ⟨Xov, Xun, rfl, rfl, Aov, Aun, fr, pr, vP, vD, vQ, Ayy, (by omega), (by omega)⟩
    ·skip
     go_simp
     obtain ⟨V102, hVe⟩ : ∃ V, V = V86.alloc (.cells #[.int .i64 0, .int .i64 0, .int .i64 0, .int .i64 0, .int .i64 0, .int .i64 0, .int .i64 0, .int .i64 0, .int .i64 0, .int .i64 0, .int .i64 0, .int .i64 0, .int .i64 0, .int .i64 0, .int .i64 0, .int .i64 0] 70) := ⟨_, rfl⟩
     have bV : Below V86.heap.size V86 V102 := by rw [hVe]; exact (Below.refl _ _).alloc (Nat.le_refl _) _
     have Aov : Arr V102 V86.heap.size 70 (I64 Z16) := by rw [hVe]; exact Arr.new _ (I64 Z16) _
     have hXov : (w.heap.size + 1) < V86.heap.size ∧ Xyy < V86.heap.size ∧ Xun < V86.heap.size ∧ True := ⟨pr.lt, Ayy.lt, Aun.lt, trivial⟩
     obtain ⟨Xov, hXe⟩ : ∃ X, X = V86.heap.size := ⟨_, rfl⟩
     replace fr := fr.trans (bV.mono fr.size)
     replace pr := pr.kept bV
     replace vP := vP.kept bV
     replace vD := vD.kept bV
     replace vQ := vQ.kept bV
     replace Ayy := Ayy.kept bV
     replace Aun := Aun.kept bV
     rw [← hVe]
     rw [← hXe] at Aov hXov ⊢
     clear hVe hXe bV
     refine hK.out _ _ ⟨arr_range Ayy, vr_range vD⟩ (fun hHeld => ?_)
     clear hK K
     refine wpAnyH_ready (rs := [2]) (by kernel_rfl) (by simp) (AllReadyH.cons (o := { dst := some 21, op := Op.call { callee := Callee.value (Operand.func 107), args := #[Operand.tmp 19, Operand.tmp 20], argTypes := #[70, 70] }, type := 70, pos := "l06_point.go:140", after := #[{ on := 0, ground := Ground.data }, { on := 1, ground := Ground.data }], guard := none }) rfl (fun K hK => ?_) AllReadyH.nil)
     go_simp
     refine (Hov.out _ vP).mono ?_
     rintro e y103 ⟨rfl, hb103⟩
     replace fr := fr.trans (hb103.mono fr.size)
     replace pr := pr.kept hb103
     replace vP := vP.kept hb103
     replace vD := vD.kept hb103
     replace vQ := vQ.kept hb103
     replace Ayy := Ayy.kept hb103
     replace Aun := Aun.kept hb103
     replace Aov := Aov.kept hb103
     clear hb103
     go_wp2_with fail
     refine hK.out _ _ ⟨arr_range Ayy, vr_range vD⟩ (fun hHeld => ?_)
     clear hK K
     refine wpAnyH_ready (rs := [5]) (by kernel_rfl) (by simp) (AllReadyH.cons (o := { dst := some 24, op := Op.call { callee := Callee.value (Operand.func 104), args := #[Operand.tmp 22, Operand.tmp 23], argTypes := #[70, 70] }, type := 70, pos := "l06_point.go:140", after := #[{ on := 3, ground := Ground.data }, { on := 4, ground := Ground.data }, { on := 2, ground := Ground.chain }], guard := none }) rfl (fun K hK => ?_) AllReadyH.nil)
     go_simp
     refine (Hdy.out _ vP).mono ?_
     rintro e y104 ⟨rfl, hb104⟩
     replace fr := fr.trans (hb104.mono fr.size)
     replace pr := pr.kept hb104
     replace vP := vP.kept hb104
     replace vD := vD.kept hb104
     replace vQ := vQ.kept hb104
     replace Ayy := Ayy.kept hb104
     replace Aun := Aun.kept hb104
     replace Aov := Aov.kept hb104
     clear hb104
     go_wp2_with fail
     refine hK.out _ _ ⟨arr_range Ayy, vr_range vD⟩ (fun hHeld => ?_)
     clear hK K
     refine wpAnyH_ready (rs := [7]) (by kernel_rfl) (by simp) (AllReadyH.cons (o := { dst := some 26, op := Op.call { callee := Callee.value (Operand.func 105), args := #[Operand.tmp 24, Operand.tmp 25], argTypes := #[70, 70] }, type := 70, pos := "l06_point.go:140", after := #[{ on := 5, ground := Ground.data }, { on := 6, ground := Ground.data }, { on := 5, ground := Ground.chain }], guard := none }) rfl (fun K hK => ?_) AllReadyH.nil)
     go_simp
     refine (Hun.out _ vP).mono ?_
     rintro e y105 ⟨rfl, hb105⟩
     replace fr := fr.trans (hb105.mono fr.size)
     replace pr := pr.kept hb105
     replace vP := vP.kept hb105
     replace vD := vD.kept hb105
     replace vQ := vQ.kept hb105
     replace Ayy := Ayy.kept hb105
     replace Aun := Aun.kept hb105
     replace Aov := Aov.kept hb105
     clear hb105
     go_wp2_with fail
     refine hK.out _ _ ⟨arr_range Ayy, vr_range vD⟩ (fun hHeld => ?_)
     clear hK K
     refine wpAnyH_ready (rs := [10]) (by kernel_rfl) (by simp) (AllReadyH.cons (o := qOk0) rfl (fun K hK => ?_) AllReadyH.nil)
     rw [if_pos (by rfl)]
     refine wp_store_mid _ _ _ rfl _ _ (I64 ov).toArray rfl rfl (by have := arr_there Aov; simpa [nov] using this) jov (all_oneCell_toArray uov) ?_
     simp only [Act.put]
     replace fr := bel_sc fr Xov (I64 ov) (by omega)
     replace pr := pr.sc Xov (I64 ov) (by omega)
     replace vP := vP.sc Xov (I64 ov) (by omega)
     replace vD := vD.sc Xov (I64 ov) (by omega)
     replace vQ := vQ.sc Xov (I64 ov) (by omega)
     replace Ayy := Ayy.sc Xov (I64 ov) (by omega)
     replace Aun := Aun.sc Xov (I64 ov) (by omega)
     replace Aov := Aov.sc0 (I64 ov) (by simp [nov])
     obtain ⟨V106, hVe⟩ : ∃ V, V = y105.setCells Xov 0 (I64 ov) := ⟨_, rfl⟩
     rw [← hVe] at fr pr vP vD vQ Ayy Aun Aov ⊢
     clear hVe
     refine hK.out _ _ ⟨arr_range Ayy, vr_range vD⟩ (fun hHeld => ?_)
     clear hK K
     refine wpAnyH_ready (rs := [11]) (by kernel_rfl) (by simp) (AllReadyH.cons (o := qOk1) rfl (fun K hK => ?_) AllReadyH.nil)
     rw [if_pos (by rfl)]
     refine wp_store_mid _ _ _ rfl _ _ (I64 un).toArray rfl rfl (by have := arr_there Aun; simpa [nun] using this) jun (all_oneCell_toArray uun) ?_
     simp only [Act.put]
     replace fr := bel_sc fr Xun (I64 un) (by omega)
     replace pr := pr.sc Xun (I64 un) (by omega)
     replace vP := vP.sc Xun (I64 un) (by omega)
     replace vD := vD.sc Xun (I64 un) (by omega)
     replace vQ := vQ.sc Xun (I64 un) (by omega)
     replace Ayy := Ayy.sc Xun (I64 un) (by omega)
     replace Aun := Aun.sc0 (I64 un) (by simp [nun])
     replace Aov := Aov.sc Xun (I64 un) (by omega)
     obtain ⟨V107, hVe⟩ : ∃ V, V = V106.setCells Xun 0 (I64 un) := ⟨_, rfl⟩
     rw [← hVe] at fr pr vP vD vQ Ayy Aun Aov ⊢
     clear hVe
     refine hK.out _ _ ⟨arr_range Ayy, vr_range vD⟩ (fun hHeld => ?_)
     clear hK K
     refine wpAnyH_done (by kernel_rfl) ?_ _
     go_wp2
     go_meet
     case rel => exact ⟨Xov, Xun, rfl, rfl, Aov, Aun, fr, pr, vP, vD, vQ, Ayy, (by omega), (by omega)⟩
  case rest =>
   clear fr pr vP vD vQ Ayy
   obtain ⟨Xov, Xun, rfl, rfl, Aov, Aun, fr, pr, vP, vD, vQ, Ayy, hq0, hq1⟩ := hcut
   obtain ⟨C108, hwc⟩ : ∃ V, V = wc := ⟨_, rfl⟩
   rw [← hwc] at fr pr vP vD vQ Ayy Aov Aun ⊢
   clear hwc
   go_wp2
   clear Ayy
   try simp only [Act.put]
   go_cut [9, 10] from 11 (fun s9 s10 wc => ∃ (Xx : Nat), s9 = .pointer (some ⟨Xx, 0, none⟩) ∧ s10 = .bool ok ∧ Arr wc Xx 70 (I64 x) ∧ Below w.heap.size w wc ∧ Arr wc (w.heap.size + 1) 70 (I64 Z16) ∧ Vr wc 4 (I64 PL) ∧ Vr wc 2 (I64 DL) ∧ Vr wc 5 (I64 QL) ∧ Arr wc Xov 70 (I64 ov) ∧ Arr wc Xun 70 (I64 un) ∧ w.heap.size + 1 < Xx)
   case first =>
    have bD : Below C108.heap.size C108 C108.drew := (Below.refl _ _).drew
    replace fr := fr.trans (bD.mono fr.size)
    replace pr := pr.kept bD
    replace vP := vP.kept bD
    replace vD := vD.kept bD
    replace vQ := vQ.kept bD
    replace Aov := Aov.kept bD
    replace Aun := Aun.kept bD
    clear bD
    refine wp_region_held_drew (S := fun W => W.rangeAt Xov 0 (I64 ov) ∧ W.rangeAt Xun 0 (I64 un)) (by kernel_rfl) ⟨arr_range Aov, arr_range Aun⟩ (fun hHeld => ?_)
    obtain ⟨D109, hD⟩ : ∃ V, V = C108.drew := ⟨_, rfl⟩
    rw [← hD] at hHeld fr pr vP vD vQ Aov Aun ⊢
    clear hD
    refine wpAnyH_take (i := 0) (oi := { dst := some 28, op := Op.load 70 (Operand.tmp 7), type := 70, pos := "l06_point.go:141", after := #[], guard := none }) (v := _) rfl (by kernel_rfl) (by kernel_rfl) (by kernel_rfl) (fun _ _ _ h => h) (yieldsIf_load_mid (by rfl) _ _ rfl _ _ rfl (I64 ov) _ (fun _ h => h.1) hu rfl iiov) (by assumption) ?_
    simp only [Act.put, List.setIfInBounds_toArray, List.set_cons_zero, List.set_cons_succ]
    refine wpAnyH_take (i := 1) (oi := { dst := some 29, op := Op.load 70 (Operand.tmp 8), type := 70, pos := "l06_point.go:141", after := #[], guard := none }) (v := _) rfl (by kernel_rfl) (by kernel_rfl) (by kernel_rfl) (fun _ _ _ h => h) (yieldsIf_load_mid (by rfl) _ _ rfl _ _ rfl (I64 un) _ (fun _ h => h.2) hu rfl iiun) (by assumption) ?_
    simp only [Act.put, List.setIfInBounds_toArray, List.set_cons_zero, List.set_cons_succ]
    refine wpAnyH_ready (rs := [2, 8]) (by kernel_rfl) (by simp) (AllReadyH.cons (o := { dst := some 30, op := Op.call { callee := Callee.value (Operand.func 103), args := #[Operand.tmp 29], argTypes := #[70] }, type := 70, pos := "l06_point.go:141", after := #[{ on := 1, ground := Ground.data }], guard := none }) rfl (fun K hK => ?_) (AllReadyH.cons (o := { dst := some 9, op := Op.alloc 70, type := 0, pos := "l06_point.go:141", after := #[], guard := none }) rfl (fun K hK => ?_) AllReadyH.nil))
    ·skip
     go_simp
     refine (Hiv.out _ vP).mono ?_
     rintro e y110 ⟨rfl, hb110⟩
     replace fr := fr.trans (hb110.mono fr.size)
     replace pr := pr.kept hb110
     replace vP := vP.kept hb110
     replace vD := vD.kept hb110
     replace vQ := vQ.kept hb110
     replace Aov := Aov.kept hb110
     replace Aun := Aun.kept hb110
     clear hb110
     go_wp2_with fail
     refine hK.out _ _ ⟨arr_range Aov, arr_range Aun⟩ (fun hHeld => ?_)
     clear hK K
     refine wpAnyH_ready (rs := [3, 8]) (by kernel_rfl) (by simp) (AllReadyH.cons (o := { dst := some 31, op := Op.call { callee := Callee.value (Operand.func 104), args := #[Operand.tmp 28, Operand.tmp 30], argTypes := #[70, 70] }, type := 70, pos := "l06_point.go:141", after := #[{ on := 0, ground := Ground.data }, { on := 2, ground := Ground.data }, { on := 2, ground := Ground.chain }], guard := none }) rfl (fun K hK => ?_) (AllReadyH.cons (o := { dst := some 9, op := Op.alloc 70, type := 0, pos := "l06_point.go:141", after := #[], guard := none }) rfl (fun K hK => ?_) AllReadyH.nil))
     ·skip
      go_simp
      refine (Hs.out _ vP).mono ?_
      rintro e y111 ⟨rfl, hb111⟩
      replace fr := fr.trans (hb111.mono fr.size)
      replace pr := pr.kept hb111
      replace vP := vP.kept hb111
      replace vD := vD.kept hb111
      replace vQ := vQ.kept hb111
      replace Aov := Aov.kept hb111
      replace Aun := Aun.kept hb111
      clear hb111
      go_wp2_with fail
      refine hK.out _ _ ⟨arr_range Aov, arr_range Aun⟩ (fun hHeld => ?_)
      clear hK K
      refine wpAnyH_ready (rs := [4, 8]) (by kernel_rfl) (by simp) (AllReadyH.cons (o := { dst := some 32, op := Op.call { callee := Callee.value (Operand.func 122), args := #[Operand.tmp 31], argTypes := #[70] }, type := 92, pos := "l06_point.go:141", after := #[{ on := 3, ground := Ground.data }, { on := 3, ground := Ground.chain }], guard := none }) rfl (fun K hK => ?_) (AllReadyH.cons (o := { dst := some 9, op := Op.alloc 70, type := 0, pos := "l06_point.go:141", after := #[], guard := none }) rfl (fun K hK => ?_) AllReadyH.nil))
      ·skip
       go_simp
       refine (Hrt.out _ vP vQ).mono ?_
       rintro e y112 ⟨rfl, hb112⟩
       replace fr := fr.trans (hb112.mono fr.size)
       replace pr := pr.kept hb112
       replace vP := vP.kept hb112
       replace vD := vD.kept hb112
       replace vQ := vQ.kept hb112
       replace Aov := Aov.kept hb112
       replace Aun := Aun.kept hb112
       clear hb112
       go_wp2_with fail
       refine hK.out _ _ ⟨arr_range Aov, arr_range Aun⟩ (fun hHeld => ?_)
       clear hK K
       refine wpAnyH_take (i := 5) (oi := qOk2) (v := .tuple #[.agg (I64 x).toArray, .bool ok]) rfl (by kernel_rfl) (by kernel_rfl) (by kernel_rfl) (fun _ _ _ h => h) (.inl ⟨by rfl, fun _ _ => by rfl⟩) (by assumption) ?_
       simp only [Act.put, List.setIfInBounds_toArray, List.set_cons_zero, List.set_cons_succ]
       refine wpAnyH_take (i := 6) (oi := qOk3) (v := .agg (I64 x).toArray) rfl (by kernel_rfl) (by kernel_rfl) (by kernel_rfl) (fun _ _ _ h => h) (.inl ⟨by rfl, fun _ _ => by rfl⟩) (by assumption) ?_
       simp only [Act.put, List.setIfInBounds_toArray, List.set_cons_zero, List.set_cons_succ]
       refine wpAnyH_take (i := 7) (oi := qOk4) (v := .bool ok) rfl (by kernel_rfl) (by kernel_rfl) (by kernel_rfl) (fun _ _ _ h => h) (.inl ⟨by rfl, fun _ _ => by rfl⟩) (by assumption) ?_
       simp only [Act.put, List.setIfInBounds_toArray, List.set_cons_zero, List.set_cons_succ]
       refine wpAnyH_ready (rs := [8]) (by kernel_rfl) (by simp) (AllReadyH.cons (o := { dst := some 9, op := Op.alloc 70, type := 0, pos := "l06_point.go:141", after := #[], guard := none }) rfl (fun K hK => ?_) AllReadyH.nil)
       go_simp
       obtain ⟨V113, hVe⟩ : ∃ V, V = y112.alloc (.cells #[.int .i64 0, .int .i64 0, .int .i64 0, .int .i64 0, .int .i64 0, .int .i64 0, .int .i64 0, .int .i64 0, .int .i64 0, .int .i64 0, .int .i64 0, .int .i64 0, .int .i64 0, .int .i64 0, .int .i64 0, .int .i64 0] 70) := ⟨_, rfl⟩
       have bV : Below y112.heap.size y112 V113 := by rw [hVe]; exact (Below.refl _ _).alloc (Nat.le_refl _) _
       have Ax : Arr V113 y112.heap.size 70 (I64 Z16) := by rw [hVe]; exact Arr.new _ (I64 Z16) _
       have hXx : (w.heap.size + 1) < y112.heap.size ∧ Xov < y112.heap.size ∧ Xun < y112.heap.size ∧ True := ⟨pr.lt, Aov.lt, Aun.lt, trivial⟩
       obtain ⟨Xx, hXe⟩ : ∃ X, X = y112.heap.size := ⟨_, rfl⟩
       replace fr := fr.trans (bV.mono fr.size)
       replace pr := pr.kept bV
       replace vP := vP.kept bV
       replace vD := vD.kept bV
       replace vQ := vQ.kept bV
       replace Aov := Aov.kept bV
       replace Aun := Aun.kept bV
       rw [← hVe]
       rw [← hXe] at Ax hXx ⊢
       clear hVe hXe bV
       refine hK.out _ _ ⟨arr_range Aov, arr_range Aun⟩ (fun hHeld => ?_)
       clear hK K
       refine wpAnyH_ready (rs := [9]) (by kernel_rfl) (by simp) (AllReadyH.cons (o := qOk5) rfl (fun K hK => ?_) AllReadyH.nil)
       rw [if_pos (by rfl)]
       refine wp_store_mid _ _ _ rfl _ _ (I64 x).toArray rfl rfl (by have := arr_there Ax; simpa [nx] using this) jx (all_oneCell_toArray ux) ?_
       simp only [Act.put]
       replace fr := bel_sc fr Xx (I64 x) (by omega)
       replace pr := pr.sc Xx (I64 x) (by omega)
       replace vP := vP.sc Xx (I64 x) (by omega)
       replace vD := vD.sc Xx (I64 x) (by omega)
       replace vQ := vQ.sc Xx (I64 x) (by omega)
       replace Aov := Aov.sc Xx (I64 x) (by omega)
       replace Aun := Aun.sc Xx (I64 x) (by omega)
       replace Ax := Ax.sc0 (I64 x) (by simp [nx])
       obtain ⟨V114, hVe⟩ : ∃ V, V = V113.setCells Xx 0 (I64 x) := ⟨_, rfl⟩
       rw [← hVe] at fr pr vP vD vQ Aov Aun Ax ⊢
       clear hVe
       refine hK.out _ _ ⟨arr_range Aov, arr_range Aun⟩ (fun hHeld => ?_)
       clear hK K
       refine wpAnyH_ready (rs := [10]) (by kernel_rfl) (by simp) (AllReadyH.cons (o := { dst := some 10, op := Op.assign (Operand.tmp 34), type := 4, pos := "l06_point.go:141", after := #[{ on := 7, ground := Ground.data }, { on := 9, ground := Ground.chain }, { on := 0, ground := Ground.phase }, { on := 1, ground := Ground.phase }, { on := 2, ground := Ground.phase }, { on := 3, ground := Ground.phase }, { on := 4, ground := Ground.phase }, { on := 5, ground := Ground.phase }, { on := 6, ground := Ground.phase }, { on := 7, ground := Ground.phase }, { on := 8, ground := Ground.phase }, { on := 9, ground := Ground.phase }], guard := none }) rfl (fun K hK => ?_) AllReadyH.nil)
       go_simp
       refine hK.out _ _ ⟨arr_range Aov, arr_range Aun⟩ (fun hHeld => ?_)
       clear hK K
       refine wpAnyH_done (by kernel_rfl) ?_ _
       go_wp2
       go_meet
       case rel => exact ⟨Xx, rfl, rfl, Ax, fr, pr, vP, vD, vQ, Aov, Aun, (by omega)⟩
      ·skip
       go_simp
       obtain ⟨V115, hVe⟩ : ∃ V, V = y111.alloc (.cells #[.int .i64 0, .int .i64 0, .int .i64 0, .int .i64 0, .int .i64 0, .int .i64 0, .int .i64 0, .int .i64 0, .int .i64 0, .int .i64 0, .int .i64 0, .int .i64 0, .int .i64 0, .int .i64 0, .int .i64 0, .int .i64 0] 70) := ⟨_, rfl⟩
       have bV : Below y111.heap.size y111 V115 := by rw [hVe]; exact (Below.refl _ _).alloc (Nat.le_refl _) _
       have Ax : Arr V115 y111.heap.size 70 (I64 Z16) := by rw [hVe]; exact Arr.new _ (I64 Z16) _
       have hXx : (w.heap.size + 1) < y111.heap.size ∧ Xov < y111.heap.size ∧ Xun < y111.heap.size ∧ True := ⟨pr.lt, Aov.lt, Aun.lt, trivial⟩
       obtain ⟨Xx, hXe⟩ : ∃ X, X = y111.heap.size := ⟨_, rfl⟩
       replace fr := fr.trans (bV.mono fr.size)
       replace pr := pr.kept bV
       replace vP := vP.kept bV
       replace vD := vD.kept bV
       replace vQ := vQ.kept bV
       replace Aov := Aov.kept bV
       replace Aun := Aun.kept bV
       rw [← hVe]
       rw [← hXe] at Ax hXx ⊢
       clear hVe hXe bV
       refine hK.out _ _ ⟨arr_range Aov, arr_range Aun⟩ (fun hHeld => ?_)
       clear hK K
       refine wpAnyH_ready (rs := [4]) (by kernel_rfl) (by simp) (AllReadyH.cons (o := { dst := some 32, op := Op.call { callee := Callee.value (Operand.func 122), args := #[Operand.tmp 31], argTypes := #[70] }, type := 92, pos := "l06_point.go:141", after := #[{ on := 3, ground := Ground.data }, { on := 3, ground := Ground.chain }], guard := none }) rfl (fun K hK => ?_) AllReadyH.nil)
       go_simp
       refine (Hrt.out _ vP vQ).mono ?_
       rintro e y116 ⟨rfl, hb116⟩
       replace fr := fr.trans (hb116.mono fr.size)
       replace pr := pr.kept hb116
       replace vP := vP.kept hb116
       replace vD := vD.kept hb116
       replace vQ := vQ.kept hb116
       replace Aov := Aov.kept hb116
       replace Aun := Aun.kept hb116
       replace Ax := Ax.kept hb116
       clear hb116
       go_wp2_with fail
       refine hK.out _ _ ⟨arr_range Aov, arr_range Aun⟩ (fun hHeld => ?_)
       clear hK K
       refine wpAnyH_take (i := 5) (oi := qOk2) (v := .tuple #[.agg (I64 x).toArray, .bool ok]) rfl (by kernel_rfl) (by kernel_rfl) (by kernel_rfl) (fun _ _ _ h => h) (.inl ⟨by rfl, fun _ _ => by rfl⟩) (by assumption) ?_
       simp only [Act.put, List.setIfInBounds_toArray, List.set_cons_zero, List.set_cons_succ]
       refine wpAnyH_take (i := 6) (oi := qOk3) (v := .agg (I64 x).toArray) rfl (by kernel_rfl) (by kernel_rfl) (by kernel_rfl) (fun _ _ _ h => h) (.inl ⟨by rfl, fun _ _ => by rfl⟩) (by assumption) ?_
       simp only [Act.put, List.setIfInBounds_toArray, List.set_cons_zero, List.set_cons_succ]
       refine wpAnyH_take (i := 7) (oi := qOk4) (v := .bool ok) rfl (by kernel_rfl) (by kernel_rfl) (by kernel_rfl) (fun _ _ _ h => h) (.inl ⟨by rfl, fun _ _ => by rfl⟩) (by assumption) ?_
       simp only [Act.put, List.setIfInBounds_toArray, List.set_cons_zero, List.set_cons_succ]
       refine wpAnyH_ready (rs := [9]) (by kernel_rfl) (by simp) (AllReadyH.cons (o := qOk5) rfl (fun K hK => ?_) AllReadyH.nil)
       rw [if_pos (by rfl)]
       refine wp_store_mid _ _ _ rfl _ _ (I64 x).toArray rfl rfl (by have := arr_there Ax; simpa [nx] using this) jx (all_oneCell_toArray ux) ?_
       simp only [Act.put]
       replace fr := bel_sc fr Xx (I64 x) (by omega)
       replace pr := pr.sc Xx (I64 x) (by omega)
       replace vP := vP.sc Xx (I64 x) (by omega)
       replace vD := vD.sc Xx (I64 x) (by omega)
       replace vQ := vQ.sc Xx (I64 x) (by omega)
       replace Aov := Aov.sc Xx (I64 x) (by omega)
       replace Aun := Aun.sc Xx (I64 x) (by omega)
       replace Ax := Ax.sc0 (I64 x) (by simp [nx])
       obtain ⟨V117, hVe⟩ : ∃ V, V = y116.setCells Xx 0 (I64 x) := ⟨_, rfl⟩
       rw [← hVe] at fr pr vP vD vQ Aov Aun Ax ⊢
       clear hVe
       refine hK.out _ _ ⟨arr_range Aov, arr_range Aun⟩ (fun hHeld => ?_)
       clear hK K
       refine wpAnyH_ready (rs := [10]) (by kernel_rfl) (by simp) (AllReadyH.cons (o := { dst := some 10, op := Op.assign (Operand.tmp 34), type := 4, pos := "l06_point.go:141", after := #[{ on := 7, ground := Ground.data }, { on := 9, ground := Ground.chain }, { on := 0, ground := Ground.phase }, { on := 1, ground := Ground.phase }, { on := 2, ground := Ground.phase }, { on := 3, ground := Ground.phase }, { on := 4, ground := Ground.phase }, { on := 5, ground := Ground.phase }, { on := 6, ground := Ground.phase }, { on := 7, ground := Ground.phase }, { on := 8, ground := Ground.phase }, { on := 9, ground := Ground.phase }], guard := none }) rfl (fun K hK => ?_) AllReadyH.nil)
       go_simp
       refine hK.out _ _ ⟨arr_range Aov, arr_range Aun⟩ (fun hHeld => ?_)
       clear hK K
       refine wpAnyH_done (by kernel_rfl) ?_ _
       go_wp2
       go_meet
       case rel => exact ⟨Xx, rfl, rfl, Ax, fr, pr, vP, vD, vQ, Aov, Aun, (by omega)⟩
     ·skip
      go_simp
      obtain ⟨V118, hVe⟩ : ∃ V, V = y110.alloc (.cells #[.int .i64 0, .int .i64 0, .int .i64 0, .int .i64 0, .int .i64 0, .int .i64 0, .int .i64 0, .int .i64 0, .int .i64 0, .int .i64 0, .int .i64 0, .int .i64 0, .int .i64 0, .int .i64 0, .int .i64 0, .int .i64 0] 70) := ⟨_, rfl⟩
      have bV : Below y110.heap.size y110 V118 := by rw [hVe]; exact (Below.refl _ _).alloc (Nat.le_refl _) _
      have Ax : Arr V118 y110.heap.size 70 (I64 Z16) := by rw [hVe]; exact Arr.new _ (I64 Z16) _
      have hXx : (w.heap.size + 1) < y110.heap.size ∧ Xov < y110.heap.size ∧ Xun < y110.heap.size ∧ True := ⟨pr.lt, Aov.lt, Aun.lt, trivial⟩
      obtain ⟨Xx, hXe⟩ : ∃ X, X = y110.heap.size := ⟨_, rfl⟩
      replace fr := fr.trans (bV.mono fr.size)
      replace pr := pr.kept bV
      replace vP := vP.kept bV
      replace vD := vD.kept bV
      replace vQ := vQ.kept bV
      replace Aov := Aov.kept bV
      replace Aun := Aun.kept bV
      rw [← hVe]
      rw [← hXe] at Ax hXx ⊢
      clear hVe hXe bV
      refine hK.out _ _ ⟨arr_range Aov, arr_range Aun⟩ (fun hHeld => ?_)
      clear hK K
      refine wpAnyH_ready (rs := [3]) (by kernel_rfl) (by simp) (AllReadyH.cons (o := { dst := some 31, op := Op.call { callee := Callee.value (Operand.func 104), args := #[Operand.tmp 28, Operand.tmp 30], argTypes := #[70, 70] }, type := 70, pos := "l06_point.go:141", after := #[{ on := 0, ground := Ground.data }, { on := 2, ground := Ground.data }, { on := 2, ground := Ground.chain }], guard := none }) rfl (fun K hK => ?_) AllReadyH.nil)
      go_simp
      refine (Hs.out _ vP).mono ?_
      rintro e y119 ⟨rfl, hb119⟩
      replace fr := fr.trans (hb119.mono fr.size)
      replace pr := pr.kept hb119
      replace vP := vP.kept hb119
      replace vD := vD.kept hb119
      replace vQ := vQ.kept hb119
      replace Aov := Aov.kept hb119
      replace Aun := Aun.kept hb119
      replace Ax := Ax.kept hb119
      clear hb119
      go_wp2_with fail
      refine hK.out _ _ ⟨arr_range Aov, arr_range Aun⟩ (fun hHeld => ?_)
      clear hK K
      refine wpAnyH_ready (rs := [4]) (by kernel_rfl) (by simp) (AllReadyH.cons (o := { dst := some 32, op := Op.call { callee := Callee.value (Operand.func 122), args := #[Operand.tmp 31], argTypes := #[70] }, type := 92, pos := "l06_point.go:141", after := #[{ on := 3, ground := Ground.data }, { on := 3, ground := Ground.chain }], guard := none }) rfl (fun K hK => ?_) AllReadyH.nil)
      go_simp
      refine (Hrt.out _ vP vQ).mono ?_
      rintro e y120 ⟨rfl, hb120⟩
      replace fr := fr.trans (hb120.mono fr.size)
      replace pr := pr.kept hb120
      replace vP := vP.kept hb120
      replace vD := vD.kept hb120
      replace vQ := vQ.kept hb120
      replace Aov := Aov.kept hb120
      replace Aun := Aun.kept hb120
      replace Ax := Ax.kept hb120
      clear hb120
      go_wp2_with fail
      refine hK.out _ _ ⟨arr_range Aov, arr_range Aun⟩ (fun hHeld => ?_)
      clear hK K
      refine wpAnyH_take (i := 5) (oi := qOk2) (v := .tuple #[.agg (I64 x).toArray, .bool ok]) rfl (by kernel_rfl) (by kernel_rfl) (by kernel_rfl) (fun _ _ _ h => h) (.inl ⟨by rfl, fun _ _ => by rfl⟩) (by assumption) ?_
      simp only [Act.put, List.setIfInBounds_toArray, List.set_cons_zero, List.set_cons_succ]
      refine wpAnyH_take (i := 6) (oi := qOk3) (v := .agg (I64 x).toArray) rfl (by kernel_rfl) (by kernel_rfl) (by kernel_rfl) (fun _ _ _ h => h) (.inl ⟨by rfl, fun _ _ => by rfl⟩) (by assumption) ?_
      simp only [Act.put, List.setIfInBounds_toArray, List.set_cons_zero, List.set_cons_succ]
      refine wpAnyH_take (i := 7) (oi := qOk4) (v := .bool ok) rfl (by kernel_rfl) (by kernel_rfl) (by kernel_rfl) (fun _ _ _ h => h) (.inl ⟨by rfl, fun _ _ => by rfl⟩) (by assumption) ?_
      simp only [Act.put, List.setIfInBounds_toArray, List.set_cons_zero, List.set_cons_succ]
      refine wpAnyH_ready (rs := [9]) (by kernel_rfl) (by simp) (AllReadyH.cons (o := qOk5) rfl (fun K hK => ?_) AllReadyH.nil)
      rw [if_pos (by rfl)]
      refine wp_store_mid _ _ _ rfl _ _ (I64 x).toArray rfl rfl (by have := arr_there Ax; simpa [nx] using this) jx (all_oneCell_toArray ux) ?_
      simp only [Act.put]
      replace fr := bel_sc fr Xx (I64 x) (by omega)
      replace pr := pr.sc Xx (I64 x) (by omega)
      replace vP := vP.sc Xx (I64 x) (by omega)
      replace vD := vD.sc Xx (I64 x) (by omega)
      replace vQ := vQ.sc Xx (I64 x) (by omega)
      replace Aov := Aov.sc Xx (I64 x) (by omega)
      replace Aun := Aun.sc Xx (I64 x) (by omega)
      replace Ax := Ax.sc0 (I64 x) (by simp [nx])
      obtain ⟨V121, hVe⟩ : ∃ V, V = y120.setCells Xx 0 (I64 x) := ⟨_, rfl⟩
      rw [← hVe] at fr pr vP vD vQ Aov Aun Ax ⊢
      clear hVe
      refine hK.out _ _ ⟨arr_range Aov, arr_range Aun⟩ (fun hHeld => ?_)
      clear hK K
      refine wpAnyH_ready (rs := [10]) (by kernel_rfl) (by simp) (AllReadyH.cons (o := { dst := some 10, op := Op.assign (Operand.tmp 34), type := 4, pos := "l06_point.go:141", after := #[{ on := 7, ground := Ground.data }, { on := 9, ground := Ground.chain }, { on := 0, ground := Ground.phase }, { on := 1, ground := Ground.phase }, { on := 2, ground := Ground.phase }, { on := 3, ground := Ground.phase }, { on := 4, ground := Ground.phase }, { on := 5, ground := Ground.phase }, { on := 6, ground := Ground.phase }, { on := 7, ground := Ground.phase }, { on := 8, ground := Ground.phase }, { on := 9, ground := Ground.phase }], guard := none }) rfl (fun K hK => ?_) AllReadyH.nil)
      go_simp
      refine hK.out _ _ ⟨arr_range Aov, arr_range Aun⟩ (fun hHeld => ?_)
      clear hK K
      refine wpAnyH_done (by kernel_rfl) ?_ _
      go_wp2
      go_meet
      case rel => exact ⟨Xx, rfl, rfl, Ax, fr, pr, vP, vD, vQ, Aov, Aun, (by omega)⟩
    ·skip
     go_simp
     obtain ⟨V122, hVe⟩ : ∃ V, V = D109.alloc (.cells #[.int .i64 0, .int .i64 0, .int .i64 0, .int .i64 0, .int .i64 0, .int .i64 0, .int .i64 0, .int .i64 0, .int .i64 0, .int .i64 0, .int .i64 0, .int .i64 0, .int .i64 0, .int .i64 0, .int .i64 0, .int .i64 0] 70) := ⟨_, rfl⟩
     have bV : Below D109.heap.size D109 V122 := by rw [hVe]; exact (Below.refl _ _).alloc (Nat.le_refl _) _
     have Ax : Arr V122 D109.heap.size 70 (I64 Z16) := by rw [hVe]; exact Arr.new _ (I64 Z16) _
     have hXx : (w.heap.size + 1) < D109.heap.size ∧ Xov < D109.heap.size ∧ Xun < D109.heap.size ∧ True := ⟨pr.lt, Aov.lt, Aun.lt, trivial⟩
     obtain ⟨Xx, hXe⟩ : ∃ X, X = D109.heap.size := ⟨_, rfl⟩
     replace fr := fr.trans (bV.mono fr.size)
     replace pr := pr.kept bV
     replace vP := vP.kept bV
     replace vD := vD.kept bV
     replace vQ := vQ.kept bV
     replace Aov := Aov.kept bV
     replace Aun := Aun.kept bV
     rw [← hVe]
     rw [← hXe] at Ax hXx ⊢
     clear hVe hXe bV
     refine hK.out _ _ ⟨arr_range Aov, arr_range Aun⟩ (fun hHeld => ?_)
     clear hK K
     refine wpAnyH_ready (rs := [2]) (by kernel_rfl) (by simp) (AllReadyH.cons (o := { dst := some 30, op := Op.call { callee := Callee.value (Operand.func 103), args := #[Operand.tmp 29], argTypes := #[70] }, type := 70, pos := "l06_point.go:141", after := #[{ on := 1, ground := Ground.data }], guard := none }) rfl (fun K hK => ?_) AllReadyH.nil)
     go_simp
     refine (Hiv.out _ vP).mono ?_
     rintro e y123 ⟨rfl, hb123⟩
     replace fr := fr.trans (hb123.mono fr.size)
     replace pr := pr.kept hb123
     replace vP := vP.kept hb123
     replace vD := vD.kept hb123
     replace vQ := vQ.kept hb123
     replace Aov := Aov.kept hb123
     replace Aun := Aun.kept hb123
     replace Ax := Ax.kept hb123
     clear hb123
     go_wp2_with fail
     refine hK.out _ _ ⟨arr_range Aov, arr_range Aun⟩ (fun hHeld => ?_)
     clear hK K
     refine wpAnyH_ready (rs := [3]) (by kernel_rfl) (by simp) (AllReadyH.cons (o := { dst := some 31, op := Op.call { callee := Callee.value (Operand.func 104), args := #[Operand.tmp 28, Operand.tmp 30], argTypes := #[70, 70] }, type := 70, pos := "l06_point.go:141", after := #[{ on := 0, ground := Ground.data }, { on := 2, ground := Ground.data }, { on := 2, ground := Ground.chain }], guard := none }) rfl (fun K hK => ?_) AllReadyH.nil)
     go_simp
     refine (Hs.out _ vP).mono ?_
     rintro e y124 ⟨rfl, hb124⟩
     replace fr := fr.trans (hb124.mono fr.size)
     replace pr := pr.kept hb124
     replace vP := vP.kept hb124
     replace vD := vD.kept hb124
     replace vQ := vQ.kept hb124
     replace Aov := Aov.kept hb124
     replace Aun := Aun.kept hb124
     replace Ax := Ax.kept hb124
     clear hb124
     go_wp2_with fail
     refine hK.out _ _ ⟨arr_range Aov, arr_range Aun⟩ (fun hHeld => ?_)
     clear hK K
     refine wpAnyH_ready (rs := [4]) (by kernel_rfl) (by simp) (AllReadyH.cons (o := { dst := some 32, op := Op.call { callee := Callee.value (Operand.func 122), args := #[Operand.tmp 31], argTypes := #[70] }, type := 92, pos := "l06_point.go:141", after := #[{ on := 3, ground := Ground.data }, { on := 3, ground := Ground.chain }], guard := none }) rfl (fun K hK => ?_) AllReadyH.nil)
     go_simp
     refine (Hrt.out _ vP vQ).mono ?_
     rintro e y125 ⟨rfl, hb125⟩
     replace fr := fr.trans (hb125.mono fr.size)
     replace pr := pr.kept hb125
     replace vP := vP.kept hb125
     replace vD := vD.kept hb125
     replace vQ := vQ.kept hb125
     replace Aov := Aov.kept hb125
     replace Aun := Aun.kept hb125
     replace Ax := Ax.kept hb125
     clear hb125
     go_wp2_with fail
     refine hK.out _ _ ⟨arr_range Aov, arr_range Aun⟩ (fun hHeld => ?_)
     clear hK K
     refine wpAnyH_take (i := 5) (oi := qOk2) (v := .tuple #[.agg (I64 x).toArray, .bool ok]) rfl (by kernel_rfl) (by kernel_rfl) (by kernel_rfl) (fun _ _ _ h => h) (.inl ⟨by rfl, fun _ _ => by rfl⟩) (by assumption) ?_
     simp only [Act.put, List.setIfInBounds_toArray, List.set_cons_zero, List.set_cons_succ]
     refine wpAnyH_take (i := 6) (oi := qOk3) (v := .agg (I64 x).toArray) rfl (by kernel_rfl) (by kernel_rfl) (by kernel_rfl) (fun _ _ _ h => h) (.inl ⟨by rfl, fun _ _ => by rfl⟩) (by assumption) ?_
     simp only [Act.put, List.setIfInBounds_toArray, List.set_cons_zero, List.set_cons_succ]
     refine wpAnyH_take (i := 7) (oi := qOk4) (v := .bool ok) rfl (by kernel_rfl) (by kernel_rfl) (by kernel_rfl) (fun _ _ _ h => h) (.inl ⟨by rfl, fun _ _ => by rfl⟩) (by assumption) ?_
     simp only [Act.put, List.setIfInBounds_toArray, List.set_cons_zero, List.set_cons_succ]
     refine wpAnyH_ready (rs := [9]) (by kernel_rfl) (by simp) (AllReadyH.cons (o := qOk5) rfl (fun K hK => ?_) AllReadyH.nil)
     rw [if_pos (by rfl)]
     refine wp_store_mid _ _ _ rfl _ _ (I64 x).toArray rfl rfl (by have := arr_there Ax; simpa [nx] using this) jx (all_oneCell_toArray ux) ?_
     simp only [Act.put]
     replace fr := bel_sc fr Xx (I64 x) (by omega)
     replace pr := pr.sc Xx (I64 x) (by omega)
     replace vP := vP.sc Xx (I64 x) (by omega)
     replace vD := vD.sc Xx (I64 x) (by omega)
     replace vQ := vQ.sc Xx (I64 x) (by omega)
     replace Aov := Aov.sc Xx (I64 x) (by omega)
     replace Aun := Aun.sc Xx (I64 x) (by omega)
     replace Ax := Ax.sc0 (I64 x) (by simp [nx])
     obtain ⟨V126, hVe⟩ : ∃ V, V = y125.setCells Xx 0 (I64 x) := ⟨_, rfl⟩
     rw [← hVe] at fr pr vP vD vQ Aov Aun Ax ⊢
     clear hVe
     refine hK.out _ _ ⟨arr_range Aov, arr_range Aun⟩ (fun hHeld => ?_)
     clear hK K
     refine wpAnyH_ready (rs := [10]) (by kernel_rfl) (by simp) (AllReadyH.cons (o := { dst := some 10, op := Op.assign (Operand.tmp 34), type := 4, pos := "l06_point.go:141", after := #[{ on := 7, ground := Ground.data }, { on := 9, ground := Ground.chain }, { on := 0, ground := Ground.phase }, { on := 1, ground := Ground.phase }, { on := 2, ground := Ground.phase }, { on := 3, ground := Ground.phase }, { on := 4, ground := Ground.phase }, { on := 5, ground := Ground.phase }, { on := 6, ground := Ground.phase }, { on := 7, ground := Ground.phase }, { on := 8, ground := Ground.phase }, { on := 9, ground := Ground.phase }], guard := none }) rfl (fun K hK => ?_) AllReadyH.nil)
     go_simp
     refine hK.out _ _ ⟨arr_range Aov, arr_range Aun⟩ (fun hHeld => ?_)
     clear hK K
     refine wpAnyH_done (by kernel_rfl) ?_ _
     go_wp2
     go_meet
     case rel => exact ⟨Xx, rfl, rfl, Ax, fr, pr, vP, vD, vQ, Aov, Aun, (by omega)⟩
   case rest =>
    clear fr pr vP vD vQ Aov Aun
    obtain ⟨Xx, rfl, rfl, Ax, fr, pr, vP, vD, vQ, Aov, Aun, hq0⟩ := hcut
    obtain ⟨C127, hwc⟩ : ∃ V, V = wc := ⟨_, rfl⟩
    rw [← hwc] at fr pr vP vD vQ Aov Aun Ax ⊢
    clear hwc
    clear Aov
    clear Aun
    go_wp2_with (refine wpList_load_row rfl 70 _ rfl Xx rfl 70 (I64 x).toArray (0, 0) _ Ax Tryd.underlying70 rfl jx ?_)
    refine (Hbx.out _).mono ?_
    rintro e y128 ⟨rfl, hb128⟩
    replace fr := fr.trans (hb128.mono fr.size)
    replace pr := pr.kept hb128
    replace vP := vP.kept hb128
    replace vD := vD.kept hb128
    replace vQ := vQ.kept hb128
    replace Ax := Ax.kept hb128
    clear hb128
    by_cases hbo : bx = o
    ·skip
     have hF : Hid (R = x ∧ rb = ok) := HT1.out (by simp) hbo
     have hbo2 : (bx != o) = false := by simp [hbo]
     have hbo3 : (bx == o) = true := by simp [hbo]
     have HBO : Hid (bx = o) := hbo
     clear hbo
     go_upto_region 8 with fail
     cases ok with
     | false =>
      try simp only [Act.put]
      have bD : Below y128.heap.size y128 y128.drew := (Below.refl _ _).drew
      replace fr := fr.trans (bD.mono fr.size)
      replace pr := pr.kept bD
      replace vP := vP.kept bD
      replace vD := vD.kept bD
      replace vQ := vQ.kept bD
      replace Ax := Ax.kept bD
      clear bD
      refine wp_region_held_drew (S := fun W => W.rangeAt Xx 0 (I64 x)) (by kernel_rfl) (arr_range Ax) (fun hHeld => ?_)
      obtain ⟨D129, hD⟩ : ∃ V, V = y128.drew := ⟨_, rfl⟩
      rw [← hD] at hHeld fr pr vP vD vQ Ax ⊢
      clear hD
      refine wpAnyH_take (i := 0) (oi := qOk6) (v := _) rfl (by kernel_rfl) (by kernel_rfl) (by kernel_rfl) (fun _ _ _ h => h) (yieldsIf_load_mid (by rfl) _ _ rfl _ _ rfl (I64 x) _ (fun _ h => h) hu rfl iix) (by assumption) ?_
      simp only [Act.put, List.setIfInBounds_toArray, List.set_cons_zero, List.set_cons_succ]
      refine wpAnyH_take (i := 1) (oi := qOk7) (v := .bool false) rfl (by kernel_rfl) (by kernel_rfl) (by kernel_rfl) (fun _ _ _ h => h) (.inl ⟨by rfl, fun _ _ => by rfl⟩) (by assumption) ?_
      simp only [Act.put, List.setIfInBounds_toArray, List.set_cons_zero, List.set_cons_succ]
      refine wpAnyH_take (i := 2) (oi := qOk8) (v := .bool false) rfl (by kernel_rfl) (by kernel_rfl) (by kernel_rfl) (fun _ _ _ h => h) (.inl ⟨by rfl, fun _ _ => by rfl⟩) (by assumption) ?_
      simp only [Act.put, List.setIfInBounds_toArray, List.set_cons_zero, List.set_cons_succ]
      refine wpAnyH_take (i := 3) (oi := qOk9) (v := undef) rfl (by kernel_rfl) (by kernel_rfl) (by kernel_rfl) (fun _ _ _ h => h) (.inr ⟨by rfl, rfl⟩) (by assumption) ?_
      simp only [Act.put, List.setIfInBounds_toArray, List.set_cons_zero, List.set_cons_succ]
      refine wpAnyH_take (i := 4) (oi := qOk10) (v := undef) rfl (by kernel_rfl) (by kernel_rfl) (by kernel_rfl) (fun _ _ _ h => h) (.inr ⟨by rfl, rfl⟩) (by assumption) ?_
      simp only [Act.put, List.setIfInBounds_toArray, List.set_cons_zero, List.set_cons_succ]
      refine wpAnyH_take (i := 5) (oi := qOk11) (v := undef) rfl (by kernel_rfl) (by kernel_rfl) (by kernel_rfl) (fun _ _ _ h => h) (.inr ⟨by rfl, rfl⟩) (by assumption) ?_
      simp only [Act.put, List.setIfInBounds_toArray, List.set_cons_zero, List.set_cons_succ]
      refine wpAnyH_take (i := 6) (oi := qOk12) (v := undef) rfl (by kernel_rfl) (by kernel_rfl) (by kernel_rfl) (fun _ _ _ h => h) (.inr ⟨by rfl, rfl⟩) (by assumption) ?_
      simp only [Act.put, List.setIfInBounds_toArray, List.set_cons_zero, List.set_cons_succ]
      refine wpAnyH_take (i := 7) (oi := qOk13) (v := .bool false) rfl (by kernel_rfl) (by kernel_rfl) (by kernel_rfl) (fun _ _ _ h => h) (.inl ⟨by rfl, fun _ _ => by rfl⟩) (by assumption) ?_
      simp only [Act.put, List.setIfInBounds_toArray, List.set_cons_zero, List.set_cons_succ]
      refine wpAnyH_ready (rs := [8]) (by kernel_rfl) (by simp) (AllReadyH.cons (o := qOk14) rfl (fun K hK => ?_) AllReadyH.nil)
      rw [if_pos (by rfl)]
      refine wp_store_mid _ _ _ rfl _ _ (I64 x).toArray rfl rfl (by have := arr_there pr; simpa [nx] using this) jx (all_oneCell_toArray ux) ?_
      simp only [Act.put]
      replace fr := bel_sc fr (w.heap.size + 1) (I64 x) (by omega)
      replace pr := pr.sc0 (I64 x) (by simp [nx])
      replace vP := vP.sc (w.heap.size + 1) (I64 x) (by omega)
      replace vD := vD.sc (w.heap.size + 1) (I64 x) (by omega)
      replace vQ := vQ.sc (w.heap.size + 1) (I64 x) (by omega)
      replace Ax := Ax.sc (w.heap.size + 1) (I64 x) (by omega)
      obtain ⟨V130, hVe⟩ : ∃ V, V = D129.setCells (w.heap.size + 1) 0 (I64 x) := ⟨_, rfl⟩
      rw [← hVe] at fr pr vP vD vQ Ax ⊢
      clear hVe
      refine hK.out _ _ (arr_range Ax) (fun hHeld => ?_)
      clear hK K
      refine wpAnyH_ready (rs := [9]) (by kernel_rfl) (by simp) (AllReadyH.cons (o := { dst := some 5, op := Op.assign (Operand.tmp 48), type := 4, pos := "l06_point.go:146", after := #[{ on := 7, ground := Ground.data }, { on := 8, ground := Ground.chain }, { on := 0, ground := Ground.phase }, { on := 1, ground := Ground.phase }, { on := 2, ground := Ground.phase }, { on := 3, ground := Ground.phase }, { on := 4, ground := Ground.phase }, { on := 5, ground := Ground.phase }, { on := 6, ground := Ground.phase }, { on := 7, ground := Ground.phase }, { on := 8, ground := Ground.phase }], guard := none }) rfl (fun K hK => ?_) AllReadyH.nil)
      go_simp
      refine hK.out _ _ (arr_range Ax) (fun hHeld => ?_)
      clear hK K
      refine wpAnyH_done (by kernel_rfl) ?_ _
      go_wp2
      exact bodyPost_ret (results_row_tmp (v := .bool false) (cs := I64 x) rfl rfl rfl pr Tryd.underlying70 rfl jx) rfl ⟨by rw [hF.out.1, hF.out.2]; try rfl, fr⟩
     | true =>
      try simp only [Act.put]
      have bD : Below y128.heap.size y128 y128.drew := (Below.refl _ _).drew
      replace fr := fr.trans (bD.mono fr.size)
      replace pr := pr.kept bD
      replace vP := vP.kept bD
      replace vD := vD.kept bD
      replace vQ := vQ.kept bD
      replace Ax := Ax.kept bD
      clear bD
      refine wp_region_held_drew (S := fun W => W.rangeAt Xx 0 (I64 x)) (by kernel_rfl) (arr_range Ax) (fun hHeld => ?_)
      obtain ⟨D131, hD⟩ : ∃ V, V = y128.drew := ⟨_, rfl⟩
      rw [← hD] at hHeld fr pr vP vD vQ Ax ⊢
      clear hD
      refine wpAnyH_take (i := 0) (oi := qOk6) (v := _) rfl (by kernel_rfl) (by kernel_rfl) (by kernel_rfl) (fun _ _ _ h => h) (yieldsIf_load_mid (by rfl) _ _ rfl _ _ rfl (I64 x) _ (fun _ h => h) hu rfl iix) (by assumption) ?_
      simp only [Act.put, List.setIfInBounds_toArray, List.set_cons_zero, List.set_cons_succ]
      refine wpAnyH_take (i := 1) (oi := qOk7) (v := .bool true) rfl (by kernel_rfl) (by kernel_rfl) (by kernel_rfl) (fun _ _ _ h => h) (.inl ⟨by rfl, fun _ _ => by rfl⟩) (by assumption) ?_
      simp only [Act.put, List.setIfInBounds_toArray, List.set_cons_zero, List.set_cons_succ]
      refine wpAnyH_take (i := 2) (oi := qOk8) (v := .bool true) rfl (by kernel_rfl) (by kernel_rfl) (by kernel_rfl) (fun _ _ _ h => h) (.inl ⟨by rfl, fun _ _ => by rfl⟩) (by assumption) ?_
      simp only [Act.put, List.setIfInBounds_toArray, List.set_cons_zero, List.set_cons_succ]
      refine wpAnyH_take (i := 3) (oi := qOk9) (v := _) rfl (by kernel_rfl) (by kernel_rfl) (by kernel_rfl) (fun _ _ _ h => h) (yieldsIf_load_mid (by rfl) _ _ rfl _ _ rfl (I64 x) _ (fun _ h => h) hu rfl iix) (by assumption) ?_
      simp only [Act.put, List.setIfInBounds_toArray, List.set_cons_zero, List.set_cons_succ]
      refine wpAnyH_take (i := 5) (oi := qOk11) (v := .int .i64 o) rfl (by kernel_rfl) (by kernel_rfl) (by kernel_rfl) (fun _ _ _ h => h) (.inl ⟨by rfl, fun _ _ => by rfl⟩) (by assumption) ?_
      simp only [Act.put, List.setIfInBounds_toArray, List.set_cons_zero, List.set_cons_succ]
      refine wpAnyH_ready (rs := [4]) (by kernel_rfl) (by simp) (AllReadyH.cons (o := { dst := some 45, op := Op.call { callee := Callee.value (Operand.func 75), args := #[Operand.tmp 44, Operand.const (Value.int IntKind.i64 0)], argTypes := #[70, 3] }, type := 3, pos := "l06_point.go:146", after := #[{ on := 3, ground := Ground.data }, { on := 2, ground := Ground.chain }, { on := 2, ground := Ground.guard }], guard := some (2, true) }) rfl (fun K hK => ?_) AllReadyH.nil)
      go_simp
      refine (Hbx.out _).mono ?_
      rintro e y132 ⟨rfl, hb132⟩
      replace fr := fr.trans (hb132.mono fr.size)
      replace pr := pr.kept hb132
      replace vP := vP.kept hb132
      replace vD := vD.kept hb132
      replace vQ := vQ.kept hb132
      replace Ax := Ax.kept hb132
      clear hb132
      go_wp2_with fail
      refine hK.out _ _ (arr_range Ax) (fun hHeld => ?_)
      clear hK K
      refine wpAnyH_ready (rs := [6, 8]) (by kernel_rfl) (by simp) (AllReadyH.cons (o := { dst := some 47, op := Op.binOp BinOp.eql 3 (Operand.tmp 45) (Operand.tmp 46) 3, type := 4, pos := "l06_point.go:146", after := #[{ on := 4, ground := Ground.data }, { on := 5, ground := Ground.data }, { on := 2, ground := Ground.guard }, { on := 8, ground := Ground.gcOnly Departure.lateStores }], guard := some (2, true) }) rfl (fun K hK => ?_) (AllReadyH.cons (o := qOk14) rfl (fun K hK => ?_) AllReadyH.nil))
      ·skip
       go_simp
       refine hK.out _ _ (arr_range Ax) (fun hHeld => ?_)
       clear hK K
       refine wpAnyH_take (i := 7) (oi := qOk13) (v := .bool true) rfl (by kernel_rfl) (by kernel_rfl) (by kernel_rfl) (fun _ _ _ h => h) (.inl ⟨by rfl, fun _ _ => by rfl⟩) (by assumption) ?_
       simp only [Act.put, List.setIfInBounds_toArray, List.set_cons_zero, List.set_cons_succ]
       refine wpAnyH_ready (rs := [8]) (by kernel_rfl) (by simp) (AllReadyH.cons (o := qOk14) rfl (fun K hK => ?_) AllReadyH.nil)
       rw [if_pos (by rfl)]
       refine wp_store_mid _ _ _ rfl _ _ (I64 x).toArray rfl rfl (by have := arr_there pr; simpa [nx] using this) jx (all_oneCell_toArray ux) ?_
       simp only [Act.put]
       replace fr := bel_sc fr (w.heap.size + 1) (I64 x) (by omega)
       replace pr := pr.sc0 (I64 x) (by simp [nx])
       replace vP := vP.sc (w.heap.size + 1) (I64 x) (by omega)
       replace vD := vD.sc (w.heap.size + 1) (I64 x) (by omega)
       replace vQ := vQ.sc (w.heap.size + 1) (I64 x) (by omega)
       replace Ax := Ax.sc (w.heap.size + 1) (I64 x) (by omega)
       obtain ⟨V133, hVe⟩ : ∃ V, V = y132.setCells (w.heap.size + 1) 0 (I64 x) := ⟨_, rfl⟩
       rw [← hVe] at fr pr vP vD vQ Ax ⊢
       clear hVe
       refine hK.out _ _ (arr_range Ax) (fun hHeld => ?_)
       clear hK K
       refine wpAnyH_ready (rs := [9]) (by kernel_rfl) (by simp) (AllReadyH.cons (o := { dst := some 5, op := Op.assign (Operand.tmp 48), type := 4, pos := "l06_point.go:146", after := #[{ on := 7, ground := Ground.data }, { on := 8, ground := Ground.chain }, { on := 0, ground := Ground.phase }, { on := 1, ground := Ground.phase }, { on := 2, ground := Ground.phase }, { on := 3, ground := Ground.phase }, { on := 4, ground := Ground.phase }, { on := 5, ground := Ground.phase }, { on := 6, ground := Ground.phase }, { on := 7, ground := Ground.phase }, { on := 8, ground := Ground.phase }], guard := none }) rfl (fun K hK => ?_) AllReadyH.nil)
       go_simp
       refine hK.out _ _ (arr_range Ax) (fun hHeld => ?_)
       clear hK K
       refine wpAnyH_done (by kernel_rfl) ?_ _
       go_wp2
       exact bodyPost_ret (results_row_tmp (v := .bool true) (cs := I64 x) rfl rfl rfl pr Tryd.underlying70 rfl jx) rfl ⟨by rw [hF.out.1, hF.out.2]; try rfl, fr⟩
      ·skip
       rw [if_pos (by rfl)]
       refine wp_store_mid _ _ _ rfl _ _ (I64 x).toArray rfl rfl (by have := arr_there pr; simpa [nx] using this) jx (all_oneCell_toArray ux) ?_
       simp only [Act.put]
       replace fr := bel_sc fr (w.heap.size + 1) (I64 x) (by omega)
       replace pr := pr.sc0 (I64 x) (by simp [nx])
       replace vP := vP.sc (w.heap.size + 1) (I64 x) (by omega)
       replace vD := vD.sc (w.heap.size + 1) (I64 x) (by omega)
       replace vQ := vQ.sc (w.heap.size + 1) (I64 x) (by omega)
       replace Ax := Ax.sc (w.heap.size + 1) (I64 x) (by omega)
       obtain ⟨V134, hVe⟩ : ∃ V, V = y132.setCells (w.heap.size + 1) 0 (I64 x) := ⟨_, rfl⟩
       rw [← hVe] at fr pr vP vD vQ Ax ⊢
       clear hVe
       refine hK.out _ _ (arr_range Ax) (fun hHeld => ?_)
       clear hK K
       refine wpAnyH_ready (rs := [6]) (by kernel_rfl) (by simp) (AllReadyH.cons (o := { dst := some 47, op := Op.binOp BinOp.eql 3 (Operand.tmp 45) (Operand.tmp 46) 3, type := 4, pos := "l06_point.go:146", after := #[{ on := 4, ground := Ground.data }, { on := 5, ground := Ground.data }, { on := 2, ground := Ground.guard }, { on := 8, ground := Ground.gcOnly Departure.lateStores }], guard := some (2, true) }) rfl (fun K hK => ?_) AllReadyH.nil)
       go_simp
       refine hK.out _ _ (arr_range Ax) (fun hHeld => ?_)
       clear hK K
       refine wpAnyH_take (i := 7) (oi := qOk13) (v := .bool true) rfl (by kernel_rfl) (by kernel_rfl) (by kernel_rfl) (fun _ _ _ h => h) (.inl ⟨by rfl, fun _ _ => by rfl⟩) (by assumption) ?_
       simp only [Act.put, List.setIfInBounds_toArray, List.set_cons_zero, List.set_cons_succ]
       refine wpAnyH_ready (rs := [9]) (by kernel_rfl) (by simp) (AllReadyH.cons (o := { dst := some 5, op := Op.assign (Operand.tmp 48), type := 4, pos := "l06_point.go:146", after := #[{ on := 7, ground := Ground.data }, { on := 8, ground := Ground.chain }, { on := 0, ground := Ground.phase }, { on := 1, ground := Ground.phase }, { on := 2, ground := Ground.phase }, { on := 3, ground := Ground.phase }, { on := 4, ground := Ground.phase }, { on := 5, ground := Ground.phase }, { on := 6, ground := Ground.phase }, { on := 7, ground := Ground.phase }, { on := 8, ground := Ground.phase }], guard := none }) rfl (fun K hK => ?_) AllReadyH.nil)
       go_simp
       refine hK.out _ _ (arr_range Ax) (fun hHeld => ?_)
       clear hK K
       refine wpAnyH_done (by kernel_rfl) ?_ _
       go_wp2
       exact bodyPost_ret (results_row_tmp (v := .bool true) (cs := I64 x) rfl rfl rfl pr Tryd.underlying70 rfl jx) rfl ⟨by rw [hF.out.1, hF.out.2]; try rfl, fr⟩
    ·skip
     obtain ⟨dm, hdm⟩ : ∃ d, d = decide (bm = o) := ⟨_, rfl⟩
     have hdb : (bm == o) = dm := by rw [hdm]; rfl
     have hF : Hid (R = m ∧ rb = (ok && dm)) := by unfold Hid; rw [hdm]; exact HT2.out (by simp) hbo
     clear hdm
     have hbo2 : (bx != o) = true := by simp [hbo]
     go_wp2_with (refine wpList_load_row rfl 70 _ rfl Xx rfl 70 (I64 x).toArray (0, 0) _ Ax Tryd.underlying70 rfl jx ?_)
     refine (Hop.out _ vP).mono ?_
     rintro e y135 ⟨rfl, hb135⟩
     replace fr := fr.trans (hb135.mono fr.size)
     replace pr := pr.kept hb135
     replace vP := vP.kept hb135
     replace vD := vD.kept hb135
     replace vQ := vQ.kept hb135
     replace Ax := Ax.kept hb135
     clear hb135
     go_upto_region 8 with (refine wpList_store_row rfl 70 _ _ rfl Xx (I64 m).toArray rfl rfl 70 _ Ax jm (by simp [nx, nm]) (by simp [Value.oneCell']) ?_)
     obtain ⟨Vm, hVm⟩ : ∃ V, V = y135.setRow Xx (I64 m).toArray := ⟨_, rfl⟩
     rw [← hVm]
     replace fr : Below w.heap.size w Vm := by rw [hVm]; exact setRow_below fr _ _ (by omega)
     replace pr : Arr Vm (w.heap.size + 1) 70 (I64 Z16) := by rw [hVm]; exact pr.rowOther _ _ (by omega)
     replace vP : Vr Vm 4 (I64 PL) := by rw [hVm]; exact vP.rowOther _ (by omega)
     replace vD : Vr Vm 2 (I64 DL) := by rw [hVm]; exact vD.rowOther _ (by omega)
     replace vQ : Vr Vm 5 (I64 QL) := by rw [hVm]; exact vQ.rowOther _ (by omega)
     replace Ax : Arr Vm Xx 70 (I64 m) := by rw [hVm]; exact Ax.row _
     clear hVm
     cases ok with
     | false =>
      try simp only [Act.put]
      have bD : Below Vm.heap.size Vm Vm.drew := (Below.refl _ _).drew
      replace fr := fr.trans (bD.mono fr.size)
      replace pr := pr.kept bD
      replace vP := vP.kept bD
      replace vD := vD.kept bD
      replace vQ := vQ.kept bD
      replace Ax := Ax.kept bD
      clear bD
      refine wp_region_held_drew (S := fun W => W.rangeAt Xx 0 (I64 m)) (by kernel_rfl) (arr_range Ax) (fun hHeld => ?_)
      obtain ⟨D136, hD⟩ : ∃ V, V = Vm.drew := ⟨_, rfl⟩
      rw [← hD] at hHeld fr pr vP vD vQ Ax ⊢
      clear hD
      refine wpAnyH_take (i := 0) (oi := qOk6) (v := _) rfl (by kernel_rfl) (by kernel_rfl) (by kernel_rfl) (fun _ _ _ h => h) (yieldsIf_load_mid (by rfl) _ _ rfl _ _ rfl (I64 m) _ (fun _ h => h) hu rfl iim) (by assumption) ?_
      simp only [Act.put, List.setIfInBounds_toArray, List.set_cons_zero, List.set_cons_succ]
      refine wpAnyH_take (i := 1) (oi := qOk7) (v := .bool false) rfl (by kernel_rfl) (by kernel_rfl) (by kernel_rfl) (fun _ _ _ h => h) (.inl ⟨by rfl, fun _ _ => by rfl⟩) (by assumption) ?_
      simp only [Act.put, List.setIfInBounds_toArray, List.set_cons_zero, List.set_cons_succ]
      refine wpAnyH_take (i := 2) (oi := qOk8) (v := .bool false) rfl (by kernel_rfl) (by kernel_rfl) (by kernel_rfl) (fun _ _ _ h => h) (.inl ⟨by rfl, fun _ _ => by rfl⟩) (by assumption) ?_
      simp only [Act.put, List.setIfInBounds_toArray, List.set_cons_zero, List.set_cons_succ]
      refine wpAnyH_take (i := 3) (oi := qOk9) (v := undef) rfl (by kernel_rfl) (by kernel_rfl) (by kernel_rfl) (fun _ _ _ h => h) (.inr ⟨by rfl, rfl⟩) (by assumption) ?_
      simp only [Act.put, List.setIfInBounds_toArray, List.set_cons_zero, List.set_cons_succ]
      refine wpAnyH_take (i := 4) (oi := qOk10) (v := undef) rfl (by kernel_rfl) (by kernel_rfl) (by kernel_rfl) (fun _ _ _ h => h) (.inr ⟨by rfl, rfl⟩) (by assumption) ?_
      simp only [Act.put, List.setIfInBounds_toArray, List.set_cons_zero, List.set_cons_succ]
      refine wpAnyH_take (i := 5) (oi := qOk11) (v := undef) rfl (by kernel_rfl) (by kernel_rfl) (by kernel_rfl) (fun _ _ _ h => h) (.inr ⟨by rfl, rfl⟩) (by assumption) ?_
      simp only [Act.put, List.setIfInBounds_toArray, List.set_cons_zero, List.set_cons_succ]
      refine wpAnyH_take (i := 6) (oi := qOk12) (v := undef) rfl (by kernel_rfl) (by kernel_rfl) (by kernel_rfl) (fun _ _ _ h => h) (.inr ⟨by rfl, rfl⟩) (by assumption) ?_
      simp only [Act.put, List.setIfInBounds_toArray, List.set_cons_zero, List.set_cons_succ]
      refine wpAnyH_take (i := 7) (oi := qOk13) (v := .bool false) rfl (by kernel_rfl) (by kernel_rfl) (by kernel_rfl) (fun _ _ _ h => h) (.inl ⟨by rfl, fun _ _ => by rfl⟩) (by assumption) ?_
      simp only [Act.put, List.setIfInBounds_toArray, List.set_cons_zero, List.set_cons_succ]
      refine wpAnyH_ready (rs := [8]) (by kernel_rfl) (by simp) (AllReadyH.cons (o := qOk14) rfl (fun K hK => ?_) AllReadyH.nil)
      rw [if_pos (by rfl)]
      refine wp_store_mid _ _ _ rfl _ _ (I64 m).toArray rfl rfl (by have := arr_there pr; simpa [nm] using this) jm (all_oneCell_toArray um) ?_
      simp only [Act.put]
      replace fr := bel_sc fr (w.heap.size + 1) (I64 m) (by omega)
      replace pr := pr.sc0 (I64 m) (by simp [nm])
      replace vP := vP.sc (w.heap.size + 1) (I64 m) (by omega)
      replace vD := vD.sc (w.heap.size + 1) (I64 m) (by omega)
      replace vQ := vQ.sc (w.heap.size + 1) (I64 m) (by omega)
      replace Ax := Ax.sc (w.heap.size + 1) (I64 m) (by omega)
      obtain ⟨V137, hVe⟩ : ∃ V, V = D136.setCells (w.heap.size + 1) 0 (I64 m) := ⟨_, rfl⟩
      rw [← hVe] at fr pr vP vD vQ Ax ⊢
      clear hVe
      refine hK.out _ _ (arr_range Ax) (fun hHeld => ?_)
      clear hK K
      refine wpAnyH_ready (rs := [9]) (by kernel_rfl) (by simp) (AllReadyH.cons (o := { dst := some 5, op := Op.assign (Operand.tmp 48), type := 4, pos := "l06_point.go:146", after := #[{ on := 7, ground := Ground.data }, { on := 8, ground := Ground.chain }, { on := 0, ground := Ground.phase }, { on := 1, ground := Ground.phase }, { on := 2, ground := Ground.phase }, { on := 3, ground := Ground.phase }, { on := 4, ground := Ground.phase }, { on := 5, ground := Ground.phase }, { on := 6, ground := Ground.phase }, { on := 7, ground := Ground.phase }, { on := 8, ground := Ground.phase }], guard := none }) rfl (fun K hK => ?_) AllReadyH.nil)
      go_simp
      refine hK.out _ _ (arr_range Ax) (fun hHeld => ?_)
      clear hK K
      refine wpAnyH_done (by kernel_rfl) ?_ _
      go_wp2
      exact bodyPost_ret (results_row_tmp (v := .bool false) (cs := I64 m) rfl rfl rfl pr Tryd.underlying70 rfl jm) rfl ⟨by rw [hF.out.1, hF.out.2]; try rfl, fr⟩
     | true =>
      try simp only [Act.put]
      have bD : Below Vm.heap.size Vm Vm.drew := (Below.refl _ _).drew
      replace fr := fr.trans (bD.mono fr.size)
      replace pr := pr.kept bD
      replace vP := vP.kept bD
      replace vD := vD.kept bD
      replace vQ := vQ.kept bD
      replace Ax := Ax.kept bD
      clear bD
      refine wp_region_held_drew (S := fun W => W.rangeAt Xx 0 (I64 m)) (by kernel_rfl) (arr_range Ax) (fun hHeld => ?_)
      obtain ⟨D138, hD⟩ : ∃ V, V = Vm.drew := ⟨_, rfl⟩
      rw [← hD] at hHeld fr pr vP vD vQ Ax ⊢
      clear hD
      refine wpAnyH_take (i := 0) (oi := qOk6) (v := _) rfl (by kernel_rfl) (by kernel_rfl) (by kernel_rfl) (fun _ _ _ h => h) (yieldsIf_load_mid (by rfl) _ _ rfl _ _ rfl (I64 m) _ (fun _ h => h) hu rfl iim) (by assumption) ?_
      simp only [Act.put, List.setIfInBounds_toArray, List.set_cons_zero, List.set_cons_succ]
      refine wpAnyH_take (i := 1) (oi := qOk7) (v := .bool true) rfl (by kernel_rfl) (by kernel_rfl) (by kernel_rfl) (fun _ _ _ h => h) (.inl ⟨by rfl, fun _ _ => by rfl⟩) (by assumption) ?_
      simp only [Act.put, List.setIfInBounds_toArray, List.set_cons_zero, List.set_cons_succ]
      refine wpAnyH_take (i := 2) (oi := qOk8) (v := .bool true) rfl (by kernel_rfl) (by kernel_rfl) (by kernel_rfl) (fun _ _ _ h => h) (.inl ⟨by rfl, fun _ _ => by rfl⟩) (by assumption) ?_
      simp only [Act.put, List.setIfInBounds_toArray, List.set_cons_zero, List.set_cons_succ]
      refine wpAnyH_take (i := 3) (oi := qOk9) (v := _) rfl (by kernel_rfl) (by kernel_rfl) (by kernel_rfl) (fun _ _ _ h => h) (yieldsIf_load_mid (by rfl) _ _ rfl _ _ rfl (I64 m) _ (fun _ h => h) hu rfl iim) (by assumption) ?_
      simp only [Act.put, List.setIfInBounds_toArray, List.set_cons_zero, List.set_cons_succ]
      refine wpAnyH_take (i := 5) (oi := qOk11) (v := .int .i64 o) rfl (by kernel_rfl) (by kernel_rfl) (by kernel_rfl) (fun _ _ _ h => h) (.inl ⟨by rfl, fun _ _ => by rfl⟩) (by assumption) ?_
      simp only [Act.put, List.setIfInBounds_toArray, List.set_cons_zero, List.set_cons_succ]
      refine wpAnyH_ready (rs := [4]) (by kernel_rfl) (by simp) (AllReadyH.cons (o := { dst := some 45, op := Op.call { callee := Callee.value (Operand.func 75), args := #[Operand.tmp 44, Operand.const (Value.int IntKind.i64 0)], argTypes := #[70, 3] }, type := 3, pos := "l06_point.go:146", after := #[{ on := 3, ground := Ground.data }, { on := 2, ground := Ground.chain }, { on := 2, ground := Ground.guard }], guard := some (2, true) }) rfl (fun K hK => ?_) AllReadyH.nil)
      go_simp
      refine (Hbm.out _).mono ?_
      rintro e y139 ⟨rfl, hb139⟩
      replace fr := fr.trans (hb139.mono fr.size)
      replace pr := pr.kept hb139
      replace vP := vP.kept hb139
      replace vD := vD.kept hb139
      replace vQ := vQ.kept hb139
      replace Ax := Ax.kept hb139
      clear hb139
      go_wp2_with fail
      refine hK.out _ _ (arr_range Ax) (fun hHeld => ?_)
      clear hK K
      refine wpAnyH_ready (rs := [6, 8]) (by kernel_rfl) (by simp) (AllReadyH.cons (o := { dst := some 47, op := Op.binOp BinOp.eql 3 (Operand.tmp 45) (Operand.tmp 46) 3, type := 4, pos := "l06_point.go:146", after := #[{ on := 4, ground := Ground.data }, { on := 5, ground := Ground.data }, { on := 2, ground := Ground.guard }, { on := 8, ground := Ground.gcOnly Departure.lateStores }], guard := some (2, true) }) rfl (fun K hK => ?_) (AllReadyH.cons (o := qOk14) rfl (fun K hK => ?_) AllReadyH.nil))
      ·skip
       go_simp
       refine hK.out _ _ (arr_range Ax) (fun hHeld => ?_)
       clear hK K
       refine wpAnyH_take (i := 7) (oi := qOk13) (v := .bool dm) rfl (by kernel_rfl) (by kernel_rfl) (by kernel_rfl) (fun _ _ _ h => h) (.inl ⟨by rfl, fun _ _ => by rfl⟩) (by assumption) ?_
       simp only [Act.put, List.setIfInBounds_toArray, List.set_cons_zero, List.set_cons_succ]
       refine wpAnyH_ready (rs := [8]) (by kernel_rfl) (by simp) (AllReadyH.cons (o := qOk14) rfl (fun K hK => ?_) AllReadyH.nil)
       rw [if_pos (by rfl)]
       refine wp_store_mid _ _ _ rfl _ _ (I64 m).toArray rfl rfl (by have := arr_there pr; simpa [nm] using this) jm (all_oneCell_toArray um) ?_
       simp only [Act.put]
       replace fr := bel_sc fr (w.heap.size + 1) (I64 m) (by omega)
       replace pr := pr.sc0 (I64 m) (by simp [nm])
       replace vP := vP.sc (w.heap.size + 1) (I64 m) (by omega)
       replace vD := vD.sc (w.heap.size + 1) (I64 m) (by omega)
       replace vQ := vQ.sc (w.heap.size + 1) (I64 m) (by omega)
       replace Ax := Ax.sc (w.heap.size + 1) (I64 m) (by omega)
       obtain ⟨V140, hVe⟩ : ∃ V, V = y139.setCells (w.heap.size + 1) 0 (I64 m) := ⟨_, rfl⟩
       rw [← hVe] at fr pr vP vD vQ Ax ⊢
       clear hVe
       refine hK.out _ _ (arr_range Ax) (fun hHeld => ?_)
       clear hK K
       refine wpAnyH_ready (rs := [9]) (by kernel_rfl) (by simp) (AllReadyH.cons (o := { dst := some 5, op := Op.assign (Operand.tmp 48), type := 4, pos := "l06_point.go:146", after := #[{ on := 7, ground := Ground.data }, { on := 8, ground := Ground.chain }, { on := 0, ground := Ground.phase }, { on := 1, ground := Ground.phase }, { on := 2, ground := Ground.phase }, { on := 3, ground := Ground.phase }, { on := 4, ground := Ground.phase }, { on := 5, ground := Ground.phase }, { on := 6, ground := Ground.phase }, { on := 7, ground := Ground.phase }, { on := 8, ground := Ground.phase }], guard := none }) rfl (fun K hK => ?_) AllReadyH.nil)
       go_simp
       refine hK.out _ _ (arr_range Ax) (fun hHeld => ?_)
       clear hK K
       refine wpAnyH_done (by kernel_rfl) ?_ _
       go_wp2
       exact bodyPost_ret (results_row_tmp (v := .bool dm) (cs := I64 m) rfl rfl rfl pr Tryd.underlying70 rfl jm) rfl ⟨by rw [hF.out.1, hF.out.2]; try rfl, fr⟩
      ·skip
       rw [if_pos (by rfl)]
       refine wp_store_mid _ _ _ rfl _ _ (I64 m).toArray rfl rfl (by have := arr_there pr; simpa [nm] using this) jm (all_oneCell_toArray um) ?_
       simp only [Act.put]
       replace fr := bel_sc fr (w.heap.size + 1) (I64 m) (by omega)
       replace pr := pr.sc0 (I64 m) (by simp [nm])
       replace vP := vP.sc (w.heap.size + 1) (I64 m) (by omega)
       replace vD := vD.sc (w.heap.size + 1) (I64 m) (by omega)
       replace vQ := vQ.sc (w.heap.size + 1) (I64 m) (by omega)
       replace Ax := Ax.sc (w.heap.size + 1) (I64 m) (by omega)
       obtain ⟨V141, hVe⟩ : ∃ V, V = y139.setCells (w.heap.size + 1) 0 (I64 m) := ⟨_, rfl⟩
       rw [← hVe] at fr pr vP vD vQ Ax ⊢
       clear hVe
       refine hK.out _ _ (arr_range Ax) (fun hHeld => ?_)
       clear hK K
       refine wpAnyH_ready (rs := [6]) (by kernel_rfl) (by simp) (AllReadyH.cons (o := { dst := some 47, op := Op.binOp BinOp.eql 3 (Operand.tmp 45) (Operand.tmp 46) 3, type := 4, pos := "l06_point.go:146", after := #[{ on := 4, ground := Ground.data }, { on := 5, ground := Ground.data }, { on := 2, ground := Ground.guard }, { on := 8, ground := Ground.gcOnly Departure.lateStores }], guard := some (2, true) }) rfl (fun K hK => ?_) AllReadyH.nil)
       go_simp
       refine hK.out _ _ (arr_range Ax) (fun hHeld => ?_)
       clear hK K
       refine wpAnyH_take (i := 7) (oi := qOk13) (v := .bool dm) rfl (by kernel_rfl) (by kernel_rfl) (by kernel_rfl) (fun _ _ _ h => h) (.inl ⟨by rfl, fun _ _ => by rfl⟩) (by assumption) ?_
       simp only [Act.put, List.setIfInBounds_toArray, List.set_cons_zero, List.set_cons_succ]
       refine wpAnyH_ready (rs := [9]) (by kernel_rfl) (by simp) (AllReadyH.cons (o := { dst := some 5, op := Op.assign (Operand.tmp 48), type := 4, pos := "l06_point.go:146", after := #[{ on := 7, ground := Ground.data }, { on := 8, ground := Ground.chain }, { on := 0, ground := Ground.phase }, { on := 1, ground := Ground.phase }, { on := 2, ground := Ground.phase }, { on := 3, ground := Ground.phase }, { on := 4, ground := Ground.phase }, { on := 5, ground := Ground.phase }, { on := 6, ground := Ground.phase }, { on := 7, ground := Ground.phase }, { on := 8, ground := Ground.phase }], guard := none }) rfl (fun K hK => ?_) AllReadyH.nil)
       go_simp
       refine hK.out _ _ (arr_range Ax) (fun hHeld => ?_)
       clear hK K
       refine wpAnyH_done (by kernel_rfl) ?_ _
       go_wp2
       exact bodyPost_ret (results_row_tmp (v := .bool dm) (cs := I64 m) rfl rfl rfl pr Tryd.underlying70 rfl jm) rfl ⟨by rw [hF.out.1, hF.out.2]; try rfl, fr⟩

end Go.Proofs.YtoblilngppjmhaaDoor
