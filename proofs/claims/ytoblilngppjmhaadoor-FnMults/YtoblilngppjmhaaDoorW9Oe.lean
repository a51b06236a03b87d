/-
  What is proved here: the contract of the program's method doubled on a point in the long form; where its variable holds the prime.
-/
import Derived.Test.YtoblilngppjmhaaDoorW9Od
namespace Go.Proofs.YtoblilngppjmhaaDoor
open Go.RowKit
set_option maxRecDepth 100000

set_option maxHeartbeats 8000000 in
theorem implDoubled (P : E4) (w : World) (hP : P.Ok) (hV : Vr w 4 (I64 PL)) :
    Calls Tryd.prog 63 #[.agg (I64 P.cells).toArray] w fun e w' => e = .returned (.iface 72 (.agg (I64 (dbl6 P).cells).toArray)) ∧ Below w.heap.size w w' := by
  obtain ⟨xx, exx⟩ : ∃ x_, x_ = red (val P.a * val P.a) := ⟨_, rfl⟩
  have kxx : feOk xx = true := by rw [exx]; exact ok_red _
  obtain ⟨yy, eyy⟩ : ∃ x_, x_ = red (val P.b * val P.b) := ⟨_, rfl⟩
  have kyy : feOk yy = true := by rw [eyy]; exact ok_red _
  obtain ⟨oo, eoo⟩ : ∃ x_, x_ = red (val P.c * val P.c) := ⟨_, rfl⟩
  have koo : feOk oo = true := by rw [eoo]; exact ok_red _
  obtain ⟨xy, exy⟩ : ∃ x_, x_ = red (val P.a * val P.b) := ⟨_, rfl⟩
  have kxy : feOk xy = true := by rw [exy]; exact ok_red _
  obtain ⟨h, eh⟩ : ∃ x_, x_ = red (val yy - val xx) := ⟨_, rfl⟩
  have kh : feOk h = true := by rw [eh]; exact ok_red _
  obtain ⟨f, ef⟩ : ∃ x_, x_ = red (val xy + val xy) := ⟨_, rfl⟩
  have kf : feOk f = true := by rw [ef]; exact ok_red _
  obtain ⟨k, ek⟩ : ∃ x_, x_ = red (val xx + val yy) := ⟨_, rfl⟩
  have kk : feOk k = true := by rw [ek]; exact ok_red _
  obtain ⟨o2, eo2⟩ : ∃ x_, x_ = red (val oo + val oo) := ⟨_, rfl⟩
  have ko2 : feOk o2 = true := by rw [eo2]; exact ok_red _
  obtain ⟨g, eg⟩ : ∃ x_, x_ = red (val o2 - val h) := ⟨_, rfl⟩
  have kg : feOk g = true := by rw [eg]; exact ok_red _
  have Hxx : Hid (∀ Z, Vr Z 4 (I64 PL) → Calls Tryd.prog 104 #[.agg (I64 P.a).toArray, .agg (I64 P.a).toArray] Z fun e w' => e = .returned (.agg (I64 xx).toArray) ∧ Below Z.heap.size Z w') := by
    unfold Hid; intro Z hZ; rw [exx]; exact mulI hP.a hP.a Z hZ
  have Hyy : Hid (∀ Z, Vr Z 4 (I64 PL) → Calls Tryd.prog 104 #[.agg (I64 P.b).toArray, .agg (I64 P.b).toArray] Z fun e w' => e = .returned (.agg (I64 yy).toArray) ∧ Below Z.heap.size Z w') := by
    unfold Hid; intro Z hZ; rw [eyy]; exact mulI hP.b hP.b Z hZ
  have Hoo : Hid (∀ Z, Vr Z 4 (I64 PL) → Calls Tryd.prog 104 #[.agg (I64 P.c).toArray, .agg (I64 P.c).toArray] Z fun e w' => e = .returned (.agg (I64 oo).toArray) ∧ Below Z.heap.size Z w') := by
    unfold Hid; intro Z hZ; rw [eoo]; exact mulI hP.c hP.c Z hZ
  have Hxy : Hid (∀ Z, Vr Z 4 (I64 PL) → Calls Tryd.prog 104 #[.agg (I64 P.a).toArray, .agg (I64 P.b).toArray] Z fun e w' => e = .returned (.agg (I64 xy).toArray) ∧ Below Z.heap.size Z w') := by
    unfold Hid; intro Z hZ; rw [exy]; exact mulI hP.a hP.b Z hZ
  have Hh : Hid (∀ Z, Vr Z 4 (I64 PL) → Calls Tryd.prog 107 #[.agg (I64 yy).toArray, .agg (I64 xx).toArray] Z fun e w' => e = .returned (.agg (I64 h).toArray) ∧ Below Z.heap.size Z w') := by
    unfold Hid; intro Z hZ; rw [eh]; exact subI kyy kxx Z hZ
  have Hf : Hid (∀ Z, Vr Z 4 (I64 PL) → Calls Tryd.prog 105 #[.agg (I64 xy).toArray, .agg (I64 xy).toArray] Z fun e w' => e = .returned (.agg (I64 f).toArray) ∧ Below Z.heap.size Z w') := by
    unfold Hid; intro Z hZ; rw [ef]; exact sumI kxy kxy Z hZ
  have Hk : Hid (∀ Z, Vr Z 4 (I64 PL) → Calls Tryd.prog 105 #[.agg (I64 xx).toArray, .agg (I64 yy).toArray] Z fun e w' => e = .returned (.agg (I64 k).toArray) ∧ Below Z.heap.size Z w') := by
    unfold Hid; intro Z hZ; rw [ek]; exact sumI kxx kyy Z hZ
  have Ho2 : Hid (∀ Z, Vr Z 4 (I64 PL) → Calls Tryd.prog 105 #[.agg (I64 oo).toArray, .agg (I64 oo).toArray] Z fun e w' => e = .returned (.agg (I64 o2).toArray) ∧ Below Z.heap.size Z w') := by
    unfold Hid; intro Z hZ; rw [eo2]; exact sumI koo koo Z hZ
  have Hg : Hid (∀ Z, Vr Z 4 (I64 PL) → Calls Tryd.prog 107 #[.agg (I64 o2).toArray, .agg (I64 h).toArray] Z fun e w' => e = .returned (.agg (I64 g).toArray) ∧ Below Z.heap.size Z w') := by
    unfold Hid; intro Z hZ; rw [eg]; exact subI ko2 kh Z hZ
  obtain ⟨R, hR⟩ : ∃ R, R = dbl6 P := ⟨_, rfl⟩
  have hRo : R.Ok := by rw [hR]; exact long6_ok _ _ _ _
  have hRe : long6 f k h g = R := by rw [hR]; simp only [dbl6, exx, eyy, eoo, exy, eh, ef, ek, eo2, eg]
  have HR : Hid (∀ Z, Vr Z 4 (I64 PL) → Calls Tryd.prog 106 #[.agg (I64 f).toArray, .agg (I64 k).toArray, .agg (I64 h).toArray, .agg (I64 g).toArray] Z fun e w' => e = .returned (.agg (I64 R.cells).toArray) ∧ Below Z.heap.size Z w') := by
    unfold Hid; intro Z hZ; rw [← hRe]; exact implLongOf f k h g Z kf kk kh kg hZ
  rw [← hR]
  have jxx := infoL' kxx
  have iixx := infoLl kxx
  have nxx := feOk_len kxx
  have uxx := one_lm xx
  have jyy := infoL' kyy
  have iiyy := infoLl kyy
  have nyy := feOk_len kyy
  have uyy := one_lm yy
  have joo := infoL' koo
  have iioo := infoLl koo
  have noo := feOk_len koo
  have uoo := one_lm oo
  have jxy := infoL' kxy
  have iixy := infoLl kxy
  have nxy := feOk_len kxy
  have uxy := one_lm xy
  have jh := infoL' kh
  have iih := infoLl kh
  have nh := feOk_len kh
  have uh := one_lm h
  have Kxx : Hid (feOk xx = true) := kxx
  have Kyy : Hid (feOk yy = true) := kyy
  have Koo : Hid (feOk oo = true) := koo
  have Kxy : Hid (feOk xy = true) := kxy
  have hu : Tryd.prog.underlying 70 = some (.array 16 3) := Tryd.underlying70
  obtain ⟨A0, hA0⟩ : ∃ A, A = (I64 P.cells).toArray := ⟨_, rfl⟩
  obtain ⟨W, hW⟩ : ∃ W, W = w.alloc (.cells A0 72) := ⟨_, rfl⟩
  have fr : Below w.heap.size w W := by rw [hW]; exact ((Below.refl _ _).alloc (Nat.le_refl _) _)
  have pa : Arr W w.heap.size 72 (I64 P.cells) := by
    rw [hW, hA0]
    have := Arr.new (w) (I64 P.cells) 72
    exact this
  have h0P := hV.lt
  have vP := hV.kept fr
  rw [← hA0]
  clear hA0
  clear hV
  clear hR hRe exx kxx eyy kyy eoo koo exy kxy eh kh ef kf ek kk eo2 ko2 eg kg
  go_enter Tryd.func63, Tryd.ntmps63
  go_upto_region 1 with fail
  rw [← hW]
  clear hW
  have BB : DB w W P := ⟨fr, pa, vP, h0P⟩
  clear fr pa vP
  try simp only [Act.put]
  go_cut [3, 4, 5, 6] from 8 (fun s3 s4 s5 s6 wc => ∃ (X3 X4 X5 X6 : Nat), s3 = .pointer (some ⟨X3, 0, none⟩) ∧ s4 = .pointer (some ⟨X4, 0, none⟩) ∧ s5 = .pointer (some ⟨X5, 0, none⟩) ∧ s6 = .pointer (some ⟨X6, 0, none⟩) ∧ NC w wc X3 xx ∧ NC w wc X4 yy ∧ NC w wc X5 oo ∧ NC w wc X6 xy ∧ DB w wc P)
  case first =>
    refine dblRegion w P A0 xx yy oo xy hP Hxx Hyy Hoo Hxy Kxx.out Kyy.out Koo.out Kxy.out ?_ (fun c a d v w h => by cases d <;> exact h) W BB
    intro X3 X4 X5 X6 V B c3 c4 c5 c6
    unfold dAct
    go_wp2
    go_meet
    case rel => exact ⟨X3, X4, X5, X6, rfl, rfl, rfl, rfl, c3, c4, c5, c6, B⟩
  case rest =>
    clear BB
    obtain ⟨Xxx, Xyy, Xoo, Xxy, rfl, rfl, rfl, rfl, c3, c4, c5, c6, B⟩ := hcut
    obtain ⟨C1, hwc⟩ : ∃ V, V = wc := ⟨_, rfl⟩
    rw [← hwc] at c3 c4 c5 c6 B ⊢
    clear hwc
    have fr := B.fr
    have vP := B.vr
    have Axx := c3.a
    have hXxx := c3.lt
    have Ayy := c4.a
    have hXyy := c4.lt
    have Aoo := c5.a
    have hXoo := c5.lt
    have Axy := c6.a
    have hXxy := c6.lt
    clear B c3 c4 c5 c6
    go_wp2_with (first
        | (refine wpList_load_row rfl 70 _ rfl Xyy rfl 70 (I64 yy).toArray (0, 0) _ Ayy Tryd.underlying70 rfl jyy ?_)
        | (refine wpList_load_row rfl 70 _ rfl Xxx rfl 70 (I64 xx).toArray (0, 0) _ Axx Tryd.underlying70 rfl jxx ?_))
    refine (Hh.out _ vP).mono ?_
    rintro e y1 ⟨rfl, hb1⟩
    replace fr := fr.trans (hb1.mono fr.size)
    replace vP := vP.kept hb1
    replace Axx := Axx.kept hb1
    replace Ayy := Ayy.kept hb1
    replace Aoo := Aoo.kept hb1
    replace Axy := Axy.kept hb1
    clear hb1
    have hXh : Xxx < y1.heap.size ∧ Xyy < y1.heap.size ∧ Xoo < y1.heap.size ∧ Xxy < y1.heap.size ∧ w.heap.size ≤ y1.heap.size := ⟨Axx.lt, Ayy.lt, Aoo.lt, Axy.lt, fr.size⟩
    obtain ⟨bV, Ah, q1⟩ := laid_lm y1 h
    replace fr := fr.trans (bV.mono fr.size)
    replace vP := vP.kept bV
    replace Axx := Axx.kept bV
    replace Ayy := Ayy.kept bV
    replace Aoo := Aoo.kept bV
    replace Axy := Axy.kept bV
    go_upto_region 3 with (refine wpList_store_row rfl 70 _ _ rfl y1.heap.size (I64 h).toArray rfl rfl 70 _ q1 jh (by simp [nh]) (by simp [Value.oneCell']) ?_)
    obtain ⟨V2, hVV⟩ : ∃ V, V = (y1.alloc (.cells #[.int .i64 0, .int .i64 0, .int .i64 0, .int .i64 0, .int .i64 0, .int .i64 0, .int .i64 0, .int .i64 0, .int .i64 0, .int .i64 0, .int .i64 0, .int .i64 0, .int .i64 0, .int .i64 0, .int .i64 0, .int .i64 0] 70)).setRow y1.heap.size (I64 h).toArray := ⟨_, rfl⟩
    obtain ⟨Xh, hE⟩ : ∃ E, E = y1.heap.size := ⟨_, rfl⟩
    rw [← hVV] at fr vP Axx Ayy Aoo Axy Ah ⊢
    rw [← hE] at Ah hXh ⊢
    clear hVV hE q1 bV
    try simp only [Act.put]
    have bD : Below V2.heap.size V2 V2.drew := (Below.refl _ _).drew
    replace fr := fr.trans (bD.mono fr.size)
    replace vP := vP.kept bD
    replace Axx := Axx.kept bD
    replace Ayy := Ayy.kept bD
    replace Aoo := Aoo.kept bD
    replace Axy := Axy.kept bD
    replace Ah := Ah.kept bD
    clear bD
    refine wp_region_held_drew (S := fun W => W.rangeAt Xxy 0 (I64 xy) ∧ W.rangeAt Xxx 0 (I64 xx) ∧ W.rangeAt Xyy 0 (I64 yy) ∧ W.rangeAt Xh 0 (I64 h) ∧ W.rangeAt Xoo 0 (I64 oo)) (by kernel_rfl) ⟨arr_range Axy, arr_range Axx, arr_range Ayy, arr_range Ah, arr_range Aoo⟩ (fun hHeld => ?_)
    obtain ⟨D3, hD⟩ : ∃ V, V = V2.drew := ⟨_, rfl⟩
    rw [← hD] at hHeld fr vP Axx Ayy Aoo Axy Ah ⊢
    clear hD
    refine wpAnyH_take (i := 0) (oi := { dst := some 31, op := Op.load 70 (Operand.tmp 6), type := 70, pos := "l06_point.go:175", after := #[], guard := none }) (v := _) rfl (by kernel_rfl) (by kernel_rfl) (by kernel_rfl) (fun _ _ _ h => h) (yieldsIf_load_mid (by rfl) _ _ rfl _ _ rfl (I64 xy) _ (fun _ h => h.1) hu rfl iixy) (by assumption) ?_
    simp only [Act.put, List.setIfInBounds_toArray, List.set_cons_zero, List.set_cons_succ]
    refine wpAnyH_take (i := 1) (oi := { dst := some 32, op := Op.load 70 (Operand.tmp 6), type := 70, pos := "l06_point.go:175", after := #[], guard := none }) (v := _) rfl (by kernel_rfl) (by kernel_rfl) (by kernel_rfl) (fun _ _ _ h => h) (yieldsIf_load_mid (by rfl) _ _ rfl _ _ rfl (I64 xy) _ (fun _ h => h.1) hu rfl iixy) (by assumption) ?_
    simp only [Act.put, List.setIfInBounds_toArray, List.set_cons_zero, List.set_cons_succ]
    refine wpAnyH_take (i := 3) (oi := { dst := some 34, op := Op.load 70 (Operand.tmp 3), type := 70, pos := "l06_point.go:175", after := #[], guard := none }) (v := _) rfl (by kernel_rfl) (by kernel_rfl) (by kernel_rfl) (fun _ _ _ h => h) (yieldsIf_load_mid (by rfl) _ _ rfl _ _ rfl (I64 xx) _ (fun _ h => h.2.1) hu rfl iixx) (by assumption) ?_
    simp only [Act.put, List.setIfInBounds_toArray, List.set_cons_zero, List.set_cons_succ]
    refine wpAnyH_take (i := 4) (oi := { dst := some 35, op := Op.load 70 (Operand.tmp 4), type := 70, pos := "l06_point.go:175", after := #[], guard := none }) (v := _) rfl (by kernel_rfl) (by kernel_rfl) (by kernel_rfl) (fun _ _ _ h => h) (yieldsIf_load_mid (by rfl) _ _ rfl _ _ rfl (I64 yy) _ (fun _ h => h.2.2.1) hu rfl iiyy) (by assumption) ?_
    simp only [Act.put, List.setIfInBounds_toArray, List.set_cons_zero, List.set_cons_succ]
    refine wpAnyH_take (i := 6) (oi := { dst := some 37, op := Op.load 70 (Operand.tmp 7), type := 70, pos := "l06_point.go:175", after := #[], guard := none }) (v := _) rfl (by kernel_rfl) (by kernel_rfl) (by kernel_rfl) (fun _ _ _ h => h) (yieldsIf_load_mid (by rfl) _ _ rfl _ _ rfl (I64 h) _ (fun _ h => h.2.2.2.1) hu rfl iih) (by assumption) ?_
    simp only [Act.put, List.setIfInBounds_toArray, List.set_cons_zero, List.set_cons_succ]
    refine wpAnyH_take (i := 7) (oi := { dst := some 38, op := Op.load 70 (Operand.tmp 5), type := 70, pos := "l06_point.go:175", after := #[], guard := none }) (v := _) rfl (by kernel_rfl) (by kernel_rfl) (by kernel_rfl) (fun _ _ _ h => h) (yieldsIf_load_mid (by rfl) _ _ rfl _ _ rfl (I64 oo) _ (fun _ h => h.2.2.2.2) hu rfl iioo) (by assumption) ?_
    simp only [Act.put, List.setIfInBounds_toArray, List.set_cons_zero, List.set_cons_succ]
    refine wpAnyH_take (i := 8) (oi := { dst := some 39, op := Op.load 70 (Operand.tmp 5), type := 70, pos := "l06_point.go:175", after := #[], guard := none }) (v := _) rfl (by kernel_rfl) (by kernel_rfl) (by kernel_rfl) (fun _ _ _ h => h) (yieldsIf_load_mid (by rfl) _ _ rfl _ _ rfl (I64 oo) _ (fun _ h => h.2.2.2.2) hu rfl iioo) (by assumption) ?_
    simp only [Act.put, List.setIfInBounds_toArray, List.set_cons_zero, List.set_cons_succ]
    refine wpAnyH_take (i := 10) (oi := { dst := some 41, op := Op.load 70 (Operand.tmp 7), type := 70, pos := "l06_point.go:175", after := #[], guard := none }) (v := _) rfl (by kernel_rfl) (by kernel_rfl) (by kernel_rfl) (fun _ _ _ h => h) (yieldsIf_load_mid (by rfl) _ _ rfl _ _ rfl (I64 h) _ (fun _ h => h.2.2.2.1) hu rfl iih) (by assumption) ?_
    simp only [Act.put, List.setIfInBounds_toArray, List.set_cons_zero, List.set_cons_succ]
    refine wpAnyH_ready (rs := [2]) (by kernel_rfl) (by simp) (AllReadyH.cons (o := { dst := some 33, op := Op.call { callee := Callee.value (Operand.func 105), args := #[Operand.tmp 31, Operand.tmp 32], argTypes := #[70, 70] }, type := 70, pos := "l06_point.go:175", after := #[{ on := 0, ground := Ground.data }, { on := 1, ground := Ground.data }], guard := none }) rfl (fun K hK => ?_) AllReadyH.nil)
    go_simp
    refine (Hf.out _ vP).mono ?_
    rintro e y4 ⟨rfl, hb4⟩
    replace fr := fr.trans (hb4.mono fr.size)
    replace vP := vP.kept hb4
    replace Axx := Axx.kept hb4
    replace Ayy := Ayy.kept hb4
    replace Aoo := Aoo.kept hb4
    replace Axy := Axy.kept hb4
    replace Ah := Ah.kept hb4
    clear hb4
    go_wp2_with fail
    refine hK.out _ _ ⟨arr_range Axy, arr_range Axx, arr_range Ayy, arr_range Ah, arr_range Aoo⟩ (fun hHeld => ?_)
    clear hK K
    refine wpAnyH_ready (rs := [5]) (by kernel_rfl) (by simp) (AllReadyH.cons (o := { dst := some 36, op := Op.call { callee := Callee.value (Operand.func 105), args := #[Operand.tmp 34, Operand.tmp 35], argTypes := #[70, 70] }, type := 70, pos := "l06_point.go:175", after := #[{ on := 3, ground := Ground.data }, { on := 4, ground := Ground.data }, { on := 2, ground := Ground.chain }], guard := none }) rfl (fun K hK => ?_) AllReadyH.nil)
    go_simp
    refine (Hk.out _ vP).mono ?_
    rintro e y5 ⟨rfl, hb5⟩
    replace fr := fr.trans (hb5.mono fr.size)
    replace vP := vP.kept hb5
    replace Axx := Axx.kept hb5
    replace Ayy := Ayy.kept hb5
    replace Aoo := Aoo.kept hb5
    replace Axy := Axy.kept hb5
    replace Ah := Ah.kept hb5
    clear hb5
    go_wp2_with fail
    refine hK.out _ _ ⟨arr_range Axy, arr_range Axx, arr_range Ayy, arr_range Ah, arr_range Aoo⟩ (fun hHeld => ?_)
    clear hK K
    refine wpAnyH_ready (rs := [9]) (by kernel_rfl) (by simp) (AllReadyH.cons (o := { dst := some 40, op := Op.call { callee := Callee.value (Operand.func 105), args := #[Operand.tmp 38, Operand.tmp 39], argTypes := #[70, 70] }, type := 70, pos := "l06_point.go:175", after := #[{ on := 7, ground := Ground.data }, { on := 8, ground := Ground.data }, { on := 5, ground := Ground.chain }], guard := none }) rfl (fun K hK => ?_) AllReadyH.nil)
    go_simp
    refine (Ho2.out _ vP).mono ?_
    rintro e y6 ⟨rfl, hb6⟩
    replace fr := fr.trans (hb6.mono fr.size)
    replace vP := vP.kept hb6
    replace Axx := Axx.kept hb6
    replace Ayy := Ayy.kept hb6
    replace Aoo := Aoo.kept hb6
    replace Axy := Axy.kept hb6
    replace Ah := Ah.kept hb6
    clear hb6
    go_wp2_with fail
    refine hK.out _ _ ⟨arr_range Axy, arr_range Axx, arr_range Ayy, arr_range Ah, arr_range Aoo⟩ (fun hHeld => ?_)
    clear hK K
    refine wpAnyH_ready (rs := [11]) (by kernel_rfl) (by simp) (AllReadyH.cons (o := { dst := some 42, op := Op.call { callee := Callee.value (Operand.func 107), args := #[Operand.tmp 40, Operand.tmp 41], argTypes := #[70, 70] }, type := 70, pos := "l06_point.go:175", after := #[{ on := 9, ground := Ground.data }, { on := 10, ground := Ground.data }, { on := 9, ground := Ground.chain }], guard := none }) rfl (fun K hK => ?_) AllReadyH.nil)
    go_simp
    refine (Hg.out _ vP).mono ?_
    rintro e y7 ⟨rfl, hb7⟩
    replace fr := fr.trans (hb7.mono fr.size)
    replace vP := vP.kept hb7
    replace Axx := Axx.kept hb7
    replace Ayy := Ayy.kept hb7
    replace Aoo := Aoo.kept hb7
    replace Axy := Axy.kept hb7
    replace Ah := Ah.kept hb7
    clear hb7
    go_wp2_with fail
    refine hK.out _ _ ⟨arr_range Axy, arr_range Axx, arr_range Ayy, arr_range Ah, arr_range Aoo⟩ (fun hHeld => ?_)
    clear hK K
    refine wpAnyH_ready (rs := [12]) (by kernel_rfl) (by simp) (AllReadyH.cons (o := { dst := some 43, op := Op.call { callee := Callee.value (Operand.func 106), args := #[Operand.tmp 33, Operand.tmp 36, Operand.tmp 37, Operand.tmp 42], argTypes := #[70, 70, 70, 70] }, type := 72, pos := "l06_point.go:175", after := #[{ on := 2, ground := Ground.data }, { on := 5, ground := Ground.data }, { on := 6, ground := Ground.data }, { on := 11, ground := Ground.data }, { on := 11, ground := Ground.chain }], guard := none }) rfl (fun K hK => ?_) AllReadyH.nil)
    go_simp
    refine (HR.out _ vP).mono ?_
    rintro e y8 ⟨rfl, hb8⟩
    replace fr := fr.trans (hb8.mono fr.size)
    replace vP := vP.kept hb8
    replace Axx := Axx.kept hb8
    replace Ayy := Ayy.kept hb8
    replace Aoo := Aoo.kept hb8
    replace Axy := Axy.kept hb8
    replace Ah := Ah.kept hb8
    clear hb8
    go_wp2_with fail
    refine hK.out _ _ ⟨arr_range Axy, arr_range Axx, arr_range Ayy, arr_range Ah, arr_range Aoo⟩ (fun hHeld => ?_)
    clear hK K
    refine wpAnyH_take (i := 13) (oi := { dst := some 44, op := Op.makeInterface 72 (Operand.tmp 43), type := 77, pos := "l06_point.go:175", after := #[{ on := 12, ground := Ground.data }], guard := none }) (v := .iface 72 (.agg (I64 R.cells).toArray)) rfl (by kernel_rfl) (by kernel_rfl) (by kernel_rfl) (fun _ _ _ h => h) (.inl ⟨by rfl, fun _ _ => by rfl⟩) (by assumption) ?_
    simp only [Act.put, List.setIfInBounds_toArray, List.set_cons_zero, List.set_cons_succ]
    refine wpAnyH_ready (rs := [14]) (by kernel_rfl) (by simp) (AllReadyH.cons (o := { dst := some 2, op := Op.assign (Operand.tmp 44), type := 77, pos := "l06_point.go:175", after := #[{ on := 13, ground := Ground.data }, { on := 12, ground := Ground.chain }, { on := 0, ground := Ground.phase }, { on := 1, ground := Ground.phase }, { on := 2, ground := Ground.phase }, { on := 3, ground := Ground.phase }, { on := 4, ground := Ground.phase }, { on := 5, ground := Ground.phase }, { on := 6, ground := Ground.phase }, { on := 7, ground := Ground.phase }, { on := 8, ground := Ground.phase }, { on := 9, ground := Ground.phase }, { on := 10, ground := Ground.phase }, { on := 11, ground := Ground.phase }, { on := 12, ground := Ground.phase }, { on := 13, ground := Ground.phase }], guard := none }) rfl (fun K hK => ?_) AllReadyH.nil)
    go_simp
    refine hK.out _ _ ⟨arr_range Axy, arr_range Axx, arr_range Ayy, arr_range Ah, arr_range Aoo⟩ (fun hHeld => ?_)
    clear hK K
    refine wpAnyH_done (by kernel_rfl) ?_ _
    go_wp2
    go_ret
    exact ⟨rfl, fr⟩

end Go.Proofs.YtoblilngppjmhaaDoor
