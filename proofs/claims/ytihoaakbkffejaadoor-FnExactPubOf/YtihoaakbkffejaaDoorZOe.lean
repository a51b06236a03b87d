/-
  What is proved here: the contract of the program's method doubled on a point in the long form; where its variable holds the prime; the contract of the program's sumOfMany: so many times a point, by doubling and adding through an interface; where its variables hold the prime and d.
-/
import Derived.Test.YtihoaakbkffejaaDoorZOb
import Derived.Test.YtihoaakbkffejaaDoorZTm
import Derived.Test.YtihoaakbkffejaaDoorZOc
import Derived.Test.YtihoaakbkffejaaDoorZJg
import Derived.Test.YtihoaakbkffejaaDoorZUh
namespace Go.Proofs.YtihoaakbkffejaaDoor
open Go.RowKit
set_option maxRecDepth 100000

set_option maxHeartbeats 8000000 in
theorem implDoubled (P : E4) (w : World) (hP : P.Ok) (hV : Vr w 6 (I64 PL)) :
  Calls Tryd.prog 113 #[.agg (I64 P.cells).toArray] w fun e w' => e = .returned (.iface 92 (.agg (I64 (dbl6 P).cells).toArray)) ∧ Below w.heap.size w w' := by
 obtain ⟨xx, exx⟩ : ∃ x_, x_ = red (val P.a * val P.a) := ⟨_, rfl⟩
 have kxx : feOk xx = true := by rw [exx]; exact ok_red _
 obtain ⟨yy, eyy⟩ : ∃ x_, x_ = red (val P.b * val P.b) := ⟨_, rfl⟩
 have kyy : feOk yy = true := by rw [eyy]; exact ok_red _
 obtain ⟨oo, eoo⟩ : ∃ x_, x_ = red (val P.c * val P.c) := ⟨_, rfl⟩
 have koo : feOk oo = true := by rw [eoo]; exact ok_red _
 obtain ⟨xy, exy⟩ : ∃ x_, x_ = red (val P.a * val P.b) := ⟨_, rfl⟩
 have kxy : feOk xy = true := by rw [exy]; exact ok_red _
 obtain ⟨h, eh⟩ : ∃ x_, x_ = red (val yy - val xx) := ⟨_, rfl⟩
 have kh : feOk h = true := by rw [eh]; exact ok_red _
 obtain ⟨f, ef⟩ : ∃ x_, x_ = red (val xy + val xy) := ⟨_, rfl⟩
 have kf : feOk f = true := by rw [ef]; exact ok_red _
 obtain ⟨k, ek⟩ : ∃ x_, x_ = red (val xx + val yy) := ⟨_, rfl⟩
 have kk : feOk k = true := by rw [ek]; exact ok_red _
 obtain ⟨o2, eo2⟩ : ∃ x_, x_ = red (val oo + val oo) := ⟨_, rfl⟩
 have ko2 : feOk o2 = true := by rw [eo2]; exact ok_red _
 obtain ⟨g, eg⟩ : ∃ x_, x_ = red (val o2 - val h) := ⟨_, rfl⟩
 have kg : feOk g = true := by rw [eg]; exact ok_red _
 have Hxx : Hid (∀ Z, Vr Z 6 (I64 PL) → Calls Tryd.prog 73 #[.agg (I64 P.a).toArray, .agg (I64 P.a).toArray] Z fun e w' => e = .returned (.agg (I64 xx).toArray) ∧ Below Z.heap.size Z w') := by
  unfold Hid; intro Z hZ; rw [exx]; exact mulI hP.a hP.a Z hZ
 have Hyy : Hid (∀ Z, Vr Z 6 (I64 PL) → Calls Tryd.prog 73 #[.agg (I64 P.b).toArray, .agg (I64 P.b).toArray] Z fun e w' => e = .returned (.agg (I64 yy).toArray) ∧ Below Z.heap.size Z w') := by
  unfold Hid; intro Z hZ; rw [eyy]; exact mulI hP.b hP.b Z hZ
 have Hoo : Hid (∀ Z, Vr Z 6 (I64 PL) → Calls Tryd.prog 73 #[.agg (I64 P.c).toArray, .agg (I64 P.c).toArray] Z fun e w' => e = .returned (.agg (I64 oo).toArray) ∧ Below Z.heap.size Z w') := by
  unfold Hid; intro Z hZ; rw [eoo]; exact mulI hP.c hP.c Z hZ
 have Hxy : Hid (∀ Z, Vr Z 6 (I64 PL) → Calls Tryd.prog 73 #[.agg (I64 P.a).toArray, .agg (I64 P.b).toArray] Z fun e w' => e = .returned (.agg (I64 xy).toArray) ∧ Below Z.heap.size Z w') := by
  unfold Hid; intro Z hZ; rw [exy]; exact mulI hP.a hP.b Z hZ
 have Hh : Hid (∀ Z, Vr Z 6 (I64 PL) → Calls Tryd.prog 80 #[.agg (I64 yy).toArray, .agg (I64 xx).toArray] Z fun e w' => e = .returned (.agg (I64 h).toArray) ∧ Below Z.heap.size Z w') := by
  unfold Hid; intro Z hZ; rw [eh]; exact subI kyy kxx Z hZ
 have Hf : Hid (∀ Z, Vr Z 6 (I64 PL) → Calls Tryd.prog 81 #[.agg (I64 xy).toArray, .agg (I64 xy).toArray] Z fun e w' => e = .returned (.agg (I64 f).toArray) ∧ Below Z.heap.size Z w') := by
  unfold Hid; intro Z hZ; rw [ef]; exact sumI kxy kxy Z hZ
 have Hk : Hid (∀ Z, Vr Z 6 (I64 PL) → Calls Tryd.prog 81 #[.agg (I64 xx).toArray, .agg (I64 yy).toArray] Z fun e w' => e = .returned (.agg (I64 k).toArray) ∧ Below Z.heap.size Z w') := by
  unfold Hid; intro Z hZ; rw [ek]; exact sumI kxx kyy Z hZ
 have Ho2 : Hid (∀ Z, Vr Z 6 (I64 PL) → Calls Tryd.prog 81 #[.agg (I64 oo).toArray, .agg (I64 oo).toArray] Z fun e w' => e = .returned (.agg (I64 o2).toArray) ∧ Below Z.heap.size Z w') := by
  unfold Hid; intro Z hZ; rw [eo2]; exact sumI koo koo Z hZ
 have Hg : Hid (∀ Z, Vr Z 6 (I64 PL) → Calls Tryd.prog 80 #[.agg (I64 o2).toArray, .agg (I64 h).toArray] Z fun e w' => e = .returned (.agg (I64 g).toArray) ∧ Below Z.heap.size Z w') := by
  unfold Hid; intro Z hZ; rw [eg]; exact subI ko2 kh Z hZ
 obtain ⟨R, hR⟩ : ∃ R, R = dbl6 P := ⟨_, rfl⟩
 have hRo : R.Ok := by rw [hR]; exact long6_ok _ _ _ _
 have hRe : long6 f k h g = R := by rw [hR]; simp only [dbl6, exx, eyy, eoo, exy, eh, ef, ek, eo2, eg]
 have HR : Hid (∀ Z, Vr Z 6 (I64 PL) → Calls Tryd.prog 115 #[.agg (I64 f).toArray, .agg (I64 k).toArray, .agg (I64 h).toArray, .agg (I64 g).toArray] Z fun e w' => e = .returned (.agg (I64 R.cells).toArray) ∧ Below Z.heap.size Z w') := by
  unfold Hid; intro Z hZ; rw [← hRe]; exact implLongOf f k h g Z kf kk kh kg hZ
 rw [← hR]
 have jxx := infoL' kxx
 have iixx := infoLl kxx
 have nxx := feOk_len kxx
 have uxx := one_lm xx
 have jyy := infoL' kyy
 have iiyy := infoLl kyy
 have nyy := feOk_len kyy
 have uyy := one_lm yy
 have joo := infoL' koo
 have iioo := infoLl koo
 have noo := feOk_len koo
 have uoo := one_lm oo
 have jxy := infoL' kxy
 have iixy := infoLl kxy
 have nxy := feOk_len kxy
 have uxy := one_lm xy
 have jh := infoL' kh
 have iih := infoLl kh
 have nh := feOk_len kh
 have uh := one_lm h
 have iPa := infoLl hP.a
 have iPb := infoLl hP.b
 have iPc := infoLl hP.c
 have hu : Tryd.prog.underlying 81 = some (.array 16 3) := Tryd.underlying81
 obtain ⟨A0, hA0⟩ : ∃ A, A = (I64 P.cells).toArray := ⟨_, rfl⟩
 obtain ⟨W, hW⟩ : ∃ W, W = w.alloc (.cells A0 92) := ⟨_, rfl⟩
 have fr : Below w.heap.size w W := by rw [hW]; exact ((Below.refl _ _).alloc (Nat.le_refl _) _)
 have pa : Arr W w.heap.size 92 (I64 P.cells) := by
  rw [hW, hA0]
  have := Arr.new (w) (I64 P.cells) 92
  exact this
 have h0P := hV.lt
 have vP := hV.kept fr
 rw [← hA0]
 clear hA0
 clear hV
 clear hR hRe exx kxx eyy kyy eoo koo exy kxy eh kh ef kf ek kk eo2 ko2 eg kg
 go_enter Tryd.func113, Tryd.ntmps113
 go_upto_region 1 with fail
 rw [← hW]
 clear hW
 try simp only [Act.put]
 refine tame [kc 8 (.pointer (some ⟨w.heap.size, 0, none⟩)), kc 9 (.agg (I64 P.a).toArray), kc 10 (.pointer (some ⟨w.heap.size, 0, none⟩)), kc 11 (.agg (I64 P.a).toArray), kc 12 (.agg (I64 xx).toArray), kc 13 (.pointer (some ⟨w.heap.size, 16, none⟩)), kc 14 (.agg (I64 P.b).toArray), kc 15 (.pointer (some ⟨w.heap.size, 16, none⟩)), kc 16 (.agg (I64 P.b).toArray), kc 17 (.agg (I64 yy).toArray), kc 18 (.pointer (some ⟨w.heap.size, 32, none⟩)), kc 19 (.agg (I64 P.c).toArray), kc 20 (.pointer (some ⟨w.heap.size, 32, none⟩)), kc 21 (.agg (I64 P.c).toArray), kc 22 (.agg (I64 oo).toArray), kc 23 (.pointer (some ⟨w.heap.size, 0, none⟩)), kc 24 (.agg (I64 P.a).toArray), kc 25 (.pointer (some ⟨w.heap.size, 16, none⟩)), kc 26 (.agg (I64 P.b).toArray), kc 27 (.agg (I64 xy).toArray), ka 3 81 (I64 Z16), ka 4 81 (I64 Z16), ka 5 81 (I64 Z16), ka 6 81 (I64 Z16)] 24 (by kernel_rfl) (by kernel_rfl) (by kernel_rfl) (by repeat' first | exact trivial | apply kc_keeps | apply ka_keeps | constructor) 4 (by kernel_rfl) (fun vv1 ll1 hh1 y b => ?_) (fun vv1 ll1 hh1 y b F iv ap => ?_)
 ·skip
  replace fr := fr.trans (b.mono fr.size)
  replace pa := pa.kept b
  replace vP := vP.kept b
  exact ⟨tp (by kernel_rfl),
   tl (E4.ra pa) iPa hu (by kernel_rfl),
   tp (by kernel_rfl),
   tl (E4.ra pa) iPa hu (by kernel_rfl),
   tc (Hxx.out _ vP) (by kernel_rfl),
   tp (by kernel_rfl),
   tl (E4.rb hP pa) iPb hu (by kernel_rfl),
   tp (by kernel_rfl),
   tl (E4.rb hP pa) iPb hu (by kernel_rfl),
   tc (Hyy.out _ vP) (by kernel_rfl),
   tp (by kernel_rfl),
   tl (E4.rc hP pa) iPc hu (by kernel_rfl),
   tp (by kernel_rfl),
   tl (E4.rc hP pa) iPc hu (by kernel_rfl),
   tc (Hoo.out _ vP) (by kernel_rfl),
   tp (by kernel_rfl),
   tl (E4.ra pa) iPa hu (by kernel_rfl),
   tp (by kernel_rfl),
   tl (E4.rb hP pa) iPb hu (by kernel_rfl),
   tc (Hxy.out _ vP) (by kernel_rfl),
   ta (by kernel_rfl),
   ta (by kernel_rfl),
   ta (by kernel_rfl),
   ta (by kernel_rfl), trivial⟩
 obtain ⟨y1, hy⟩ : ∃ z, z = y := ⟨_, rfl⟩
 rw [← hy] at b F iv ⊢
 clear hy
 have oq : w.heap.size < W.heap.size ∧ w.heap.size ≤ W.heap.size := ⟨pa.lt, fr.size⟩
 replace fr := fr.trans (b.mono fr.size)
 replace pa := pa.kept b
 replace vP := vP.kept b
 obtain ⟨-, -, -, -, -, -, -, -, -, -, -, -, -, -, -, -, -, -, -, -, ⟨Axx, gXxx⟩, ⟨Ayy, gXyy⟩, ⟨Aoo, gXoo⟩, ⟨Axy, gXxy⟩, -⟩ := F
 have iXxx := iv 20 (by decide)
 have iXyy := iv 21 (by decide)
 have iXoo := iv 22 (by decide)
 have iXxy := iv 23 (by decide)
 have pXxxXyy := ap 20 21 (by decide) (by decide) (by decide)
 have pXxxXoo := ap 20 22 (by decide) (by decide) (by decide)
 have pXyyXoo := ap 21 22 (by decide) (by decide) (by decide)
 have pXxxXxy := ap 20 23 (by decide) (by decide) (by decide)
 have pXyyXxy := ap 21 23 (by decide) (by decide) (by decide)
 have pXooXxy := ap 22 23 (by decide) (by decide) (by decide)
 replace Axx : Arr y1 (ll1 20) 81 (I64 Z16) := Axx
 replace gXxx : ll1 20 < hh1 20 := gXxx
 have lXxx := Axx.lt
 replace Ayy : Arr y1 (ll1 21) 81 (I64 Z16) := Ayy
 replace gXyy : ll1 21 < hh1 21 := gXyy
 have lXyy := Ayy.lt
 replace Aoo : Arr y1 (ll1 22) 81 (I64 Z16) := Aoo
 replace gXoo : ll1 22 < hh1 22 := gXoo
 have lXoo := Aoo.lt
 replace Axy : Arr y1 (ll1 23) 81 (I64 Z16) := Axy
 replace gXxy : ll1 23 < hh1 23 := gXxy
 have lXxy := Axy.lt
 refine st_row (i := 24) (by kernel_rfl) rfl rfl rfl rfl Axx (by kernel_rfl) (by kernel_rfl) (by simp [nxx]) jxx uxx ?_
 replace fr := bel_sc fr (ll1 20) (I64 xx) (by omega)
 replace pa := pa.sc (ll1 20) (I64 xx) (by omega)
 replace vP := vP.sc (ll1 20) (I64 xx) (by omega)
 replace Axx := Axx.sc0 (I64 xx) (by simp [nxx])
 replace Ayy := Ayy.sc (ll1 20) (I64 xx) (by omega)
 replace Aoo := Aoo.sc (ll1 20) (I64 xx) (by omega)
 replace Axy := Axy.sc (ll1 20) (I64 xx) (by omega)
 obtain ⟨V2, hVe⟩ : ∃ V, V = y1.setCells (ll1 20) 0 (I64 xx) := ⟨_, rfl⟩
 rw [← hVe] at fr pa vP Axx Ayy Aoo Axy ⊢
 clear hVe
 refine st_row (i := 25) (by kernel_rfl) rfl rfl rfl rfl Ayy (by kernel_rfl) (by kernel_rfl) (by simp [nyy]) jyy uyy ?_
 replace fr := bel_sc fr (ll1 21) (I64 yy) (by omega)
 replace pa := pa.sc (ll1 21) (I64 yy) (by omega)
 replace vP := vP.sc (ll1 21) (I64 yy) (by omega)
 replace Axx := Axx.sc (ll1 21) (I64 yy) (by omega)
 replace Ayy := Ayy.sc0 (I64 yy) (by simp [nyy])
 replace Aoo := Aoo.sc (ll1 21) (I64 yy) (by omega)
 replace Axy := Axy.sc (ll1 21) (I64 yy) (by omega)
 obtain ⟨V3, hVe⟩ : ∃ V, V = V2.setCells (ll1 21) 0 (I64 yy) := ⟨_, rfl⟩
 rw [← hVe] at fr pa vP Axx Ayy Aoo Axy ⊢
 clear hVe
 refine st_row (i := 26) (by kernel_rfl) rfl rfl rfl rfl Aoo (by kernel_rfl) (by kernel_rfl) (by simp [noo]) joo uoo ?_
 replace fr := bel_sc fr (ll1 22) (I64 oo) (by omega)
 replace pa := pa.sc (ll1 22) (I64 oo) (by omega)
 replace vP := vP.sc (ll1 22) (I64 oo) (by omega)
 replace Axx := Axx.sc (ll1 22) (I64 oo) (by omega)
 replace Ayy := Ayy.sc (ll1 22) (I64 oo) (by omega)
 replace Aoo := Aoo.sc0 (I64 oo) (by simp [noo])
 replace Axy := Axy.sc (ll1 22) (I64 oo) (by omega)
 obtain ⟨V4, hVe⟩ : ∃ V, V = V3.setCells (ll1 22) 0 (I64 oo) := ⟨_, rfl⟩
 rw [← hVe] at fr pa vP Axx Ayy Aoo Axy ⊢
 clear hVe
 refine st_row (i := 27) (by kernel_rfl) rfl rfl rfl rfl Axy (by kernel_rfl) (by kernel_rfl) (by simp [nxy]) jxy uxy ?_
 replace fr := bel_sc fr (ll1 23) (I64 xy) (by omega)
 replace pa := pa.sc (ll1 23) (I64 xy) (by omega)
 replace vP := vP.sc (ll1 23) (I64 xy) (by omega)
 replace Axx := Axx.sc (ll1 23) (I64 xy) (by omega)
 replace Ayy := Ayy.sc (ll1 23) (I64 xy) (by omega)
 replace Aoo := Aoo.sc (ll1 23) (I64 xy) (by omega)
 replace Axy := Axy.sc0 (I64 xy) (by simp [nxy])
 obtain ⟨V5, hVe⟩ : ∃ V, V = V4.setCells (ll1 23) 0 (I64 xy) := ⟨_, rfl⟩
 rw [← hVe] at fr pa vP Axx Ayy Aoo Axy ⊢
 clear hVe
 refine wpAny_done (by kernel_rfl) ?_ _
 simp only [fillK, putT, List.setIfInBounds_toArray, List.set_cons_zero, List.set_cons_succ]
 generalize ll1 20 = Xxx at *
 generalize ll1 21 = Xyy at *
 generalize ll1 22 = Xoo at *
 generalize ll1 23 = Xxy at *
 clear iv ap b oq
 clear pa
 go_wp2_with (first
   | (refine wpList_load_row rfl 81 _ rfl Xyy rfl 81 (I64 yy).toArray (0, 0) _ Ayy Tryd.underlying81 rfl jyy ?_)
   | (refine wpList_load_row rfl 81 _ rfl Xxx rfl 81 (I64 xx).toArray (0, 0) _ Axx Tryd.underlying81 rfl jxx ?_))
 refine (Hh.out _ vP).mono ?_
 rintro e y6 ⟨rfl, hb6⟩
 replace fr := fr.trans (hb6.mono fr.size)
 replace vP := vP.kept hb6
 replace Axx := Axx.kept hb6
 replace Ayy := Ayy.kept hb6
 replace Aoo := Aoo.kept hb6
 replace Axy := Axy.kept hb6
 clear hb6
 have hXh : Xxx < y6.heap.size ∧ Xyy < y6.heap.size ∧ Xoo < y6.heap.size ∧ Xxy < y6.heap.size ∧ w.heap.size ≤ y6.heap.size := ⟨Axx.lt, Ayy.lt, Aoo.lt, Axy.lt, fr.size⟩
 obtain ⟨bV, Ah, q1⟩ := laid_lm y6 h
 replace fr := fr.trans (bV.mono fr.size)
 replace vP := vP.kept bV
 replace Axx := Axx.kept bV
 replace Ayy := Ayy.kept bV
 replace Aoo := Aoo.kept bV
 replace Axy := Axy.kept bV
 go_upto_region 3 with (refine wpList_store_row rfl 81 _ _ rfl y6.heap.size (I64 h).toArray rfl rfl 81 _ q1 jh (by simp [nh]) (by simp [Value.oneCell']) ?_)
 obtain ⟨V7, hVV⟩ : ∃ V, V = (y6.alloc (.cells #[.int .i64 0, .int .i64 0, .int .i64 0, .int .i64 0, .int .i64 0, .int .i64 0, .int .i64 0, .int .i64 0, .int .i64 0, .int .i64 0, .int .i64 0, .int .i64 0, .int .i64 0, .int .i64 0, .int .i64 0, .int .i64 0] 81)).setRow y6.heap.size (I64 h).toArray := ⟨_, rfl⟩
 obtain ⟨Xh, hE⟩ : ∃ E, E = y6.heap.size := ⟨_, rfl⟩
 rw [← hVV] at fr vP Axx Ayy Aoo Axy Ah ⊢
 rw [← hE] at Ah hXh ⊢
 clear hVV hE q1 bV
 try simp only [Act.put]
 refine tame [kc 31 (.agg (I64 xy).toArray), kc 32 (.agg (I64 xy).toArray), kc 33 (.agg (I64 f).toArray), kc 34 (.agg (I64 xx).toArray), kc 35 (.agg (I64 yy).toArray), kc 36 (.agg (I64 k).toArray), kc 37 (.agg (I64 h).toArray), kc 38 (.agg (I64 oo).toArray), kc 39 (.agg (I64 oo).toArray), kc 40 (.agg (I64 o2).toArray), kc 41 (.agg (I64 h).toArray), kc 42 (.agg (I64 g).toArray), kc 43 (.agg (I64 R.cells).toArray), kc 44 (.iface 92 (.agg (I64 R.cells).toArray)), kc 2 (.iface 92 (.agg (I64 R.cells).toArray))] 15 (by kernel_rfl) (by kernel_rfl) (by kernel_rfl) (by repeat' first | exact trivial | apply kc_keeps | apply ka_keeps | constructor) 0 (by kernel_rfl) (fun vv2 ll2 hh2 y b => ?_) (fun vv2 ll2 hh2 y b F iv ap => ?_)
 ·skip
  replace fr := fr.trans (b.mono fr.size)
  replace vP := vP.kept b
  replace Axx := Axx.kept b
  replace Ayy := Ayy.kept b
  replace Aoo := Aoo.kept b
  replace Axy := Axy.kept b
  replace Ah := Ah.kept b
  exact ⟨tl (arr_range Axy) iixy hu (by kernel_rfl),
   tl (arr_range Axy) iixy hu (by kernel_rfl),
   tc (Hf.out _ vP) (by kernel_rfl),
   tl (arr_range Axx) iixx hu (by kernel_rfl),
   tl (arr_range Ayy) iiyy hu (by kernel_rfl),
   tc (Hk.out _ vP) (by kernel_rfl),
   tl (arr_range Ah) iih hu (by kernel_rfl),
   tl (arr_range Aoo) iioo hu (by kernel_rfl),
   tl (arr_range Aoo) iioo hu (by kernel_rfl),
   tc (Ho2.out _ vP) (by kernel_rfl),
   tl (arr_range Ah) iih hu (by kernel_rfl),
   tc (Hg.out _ vP) (by kernel_rfl),
   tc (HR.out _ vP) (by kernel_rfl),
   tp (by kernel_rfl),
   tp (by kernel_rfl), trivial⟩
 obtain ⟨y8, hy⟩ : ∃ z, z = y := ⟨_, rfl⟩
 rw [← hy] at b F iv ⊢
 clear hy
 replace fr := fr.trans (b.mono fr.size)
 replace vP := vP.kept b
 replace Axx := Axx.kept b
 replace Ayy := Ayy.kept b
 replace Aoo := Aoo.kept b
 replace Axy := Axy.kept b
 replace Ah := Ah.kept b
 clear F
 refine wpAny_done (by kernel_rfl) ?_ _
 simp only [fillK, putT, List.setIfInBounds_toArray, List.set_cons_zero, List.set_cons_succ]
 clear iv ap b
 go_wp2
 go_ret
 exact ⟨rfl, fr⟩

end Go.Proofs.YtihoaakbkffejaaDoor
namespace Go.Proofs.YtihoaakbkffejaaDoor
open Go.RowKit
set_option maxRecDepth 100000

/-- What lies there while the bits are gone through. -/
structure SM (w W : World) (k : List Int) : Prop where
  fr : Below w.heap.size w W
  pk : Arr W w.heap.size 85 (I64 k)
  vP : Vr W 6 (I64 PL)
  vD : Vr W 7 (I64 DL)
theorem SM.go {w A B : World} {k : List Int} (h : SM w A k) (hb : Below A.heap.size A B) : SM w B k := ⟨h.fr.trans (hb.mono h.fr.size), h.pk.kept hb, h.vP.kept hb, h.vD.kept hb⟩
theorem jst_one {P : E4} {N n : Nat} (h : N / 2 ^ (252 - n) % 2 = 1) : jst P N (n + 1) = join6 (dbl6 (jst P N n)) P := by rw [jst, if_pos h]
theorem jst_nil {P : E4} {N n : Nat} (h : ¬ N / 2 ^ (252 - n) % 2 = 1) : jst P N (n + 1) = dbl6 (jst P N n) := by rw [jst, if_neg h]

set_option maxHeartbeats 8000000 in
theorem implMany (P : E4) (k : List Int) (w : World) (hP : P.Ok) (hk : k.length = 16) (hm : Lm k) (hV : Vr w 6 (I64 PL)) (hD : Vr w 7 (I64 DL)) :
    Calls Tryd.prog 53 #[.iface 92 (.agg (I64 (mk6 (lim 16 0) (lim 16 1)).cells).toArray), .iface 92 (.agg (I64 P.cells).toArray), .agg (I64 k).toArray] w fun e w' => e = .returned (.iface 92 (.agg (I64 (jul6 P (val k).toNat).cells).toArray)) ∧ Below w.heap.size w w' := by
  have hbit := fun j hj => bitO hk hm j hj
  obtain ⟨N, hN⟩ : ∃ N, N = (val k).toNat := ⟨_, rfl⟩
  rw [← hN] at hbit ⊢
  obtain ⟨S, hS⟩ : ∃ S : Nat → E4, ∀ n, S n = jst P N n := ⟨jst P N, fun _ => rfl⟩
  have HO : Hid (∀ n, (S n).Ok) := by unfold Hid; intro n; rw [hS]; exact jst_ok P N n
  have H1 : Hid (∀ n, N / 2 ^ (252 - n) % 2 = 1 → S (n + 1) = join6 (dbl6 (S n)) P) := by unfold Hid; intro n h; rw [hS, hS]; exact jst_one h
  have H0 : Hid (∀ n, ¬ N / 2 ^ (252 - n) % 2 = 1 → S (n + 1) = dbl6 (S n)) := by unfold Hid; intro n h; rw [hS, hS]; exact jst_nil h
  have hres : jul6 P N = S 253 := by rw [hS]; rfl
  have hS0 : S 0 = mk6 (lim 16 0) (lim 16 1) := by rw [hS]; rfl
  rw [hres, ← hS0]
  have HA : Hid (∀ (Q R : E4), Q.Ok → R.Ok → ∀ Z, Vr Z 6 (I64 PL) → Vr Z 7 (I64 DL) → Calls Tryd.prog 114 #[.agg (I64 Q.cells).toArray, .iface 92 (.agg (I64 R.cells).toArray)] Z fun e w' => e = .returned (.iface 92 (.agg (I64 (join6 Q R).cells).toArray)) ∧ Below Z.heap.size Z w') := by
    unfold Hid; intro Q R hQ hR Z h1 h2; exact implJoined Q R Z hQ hR h1 h2
  have HD2 : Hid (∀ (Q : E4), Q.Ok → ∀ Z, Vr Z 6 (I64 PL) → Calls Tryd.prog 113 #[.agg (I64 Q.cells).toArray] Z fun e w' => e = .returned (.iface 92 (.agg (I64 (dbl6 Q).cells).toArray)) ∧ Below Z.heap.size Z w') := by
    unfold Hid; intro Q hQ Z h1; exact implDoubled Q Z hQ h1
  have HB : Hid (∀ (j : Nat), j < 256 → ∀ Z, Calls Tryd.prog 56 #[.agg (I64 k).toArray, .int .i64 (j : Int)] Z fun e w' => e = .returned (.int .i64 ((N / 2 ^ j % 2 : Nat) : Int)) ∧ Below Z.heap.size Z w') := by
    unfold Hid; intro j hj Z; rw [← hbit j hj]; exact implBit k j Z hk hm hj
  have hik : (Tryd.prog.info? 81).map (·.size) = some (I64 k).length := by simpa [hk] using infoL
  have hu : Tryd.prog.underlying 81 = some (.array 16 3) := Tryd.underlying81
  obtain ⟨A, hA⟩ : ∃ A, A = (I64 k).toArray := ⟨_, rfl⟩
  have fr : Below w.heap.size w (w.alloc (.cells A 85)) := (Below.refl _ _).alloc (Nat.le_refl _) _
  have EE : SM w (w.alloc (.cells A 85)) k := ⟨fr, by rw [hA]; exact Arr.new w (I64 k) _, hV.kept fr, hD.kept fr⟩
  obtain ⟨W, hW⟩ : ∃ W, W = w.alloc (.cells A 85) := ⟨_, rfl⟩
  rw [← hA]
  rw [← hW] at EE
  clear hA hN hS hres hS0 hbit hm hV hD fr hk
  go_enter Tryd.func53, Tryd.ntmps53
  go_upto_region 2 with fail
  rw [← hW]
  clear hW
  go_wp2
  go_loopw [7, 8] (fun s i wr => ∃ (n : Nat) (z : Int), n ≤ 253 ∧ z = 252 - (n : Int) ∧ s = .iface 92 (.agg (I64 (S n).cells).toArray) ∧ i = .int .i64 z ∧ SM w wr k) (fun _ i _ => (intOf i + 1).toNat)
  case atStart => exact ⟨0, 252, by omega, by omega, rfl, rfl, EE⟩
  case round =>
    clear EE
    obtain ⟨n, z, hn, hz, rfl, rfl, EE⟩ := hrel
    obtain ⟨R, hR⟩ : ∃ R, R = S n := ⟨_, rfl⟩
    rw [← hR]
    have hRo : R.Ok := by rw [hR]; exact HO.out n
    have HR : Hid _ := hR
    clear hR
    by_cases hn6 : n = 253
    · have hz0 : z < 0 := by omega
      have hz1 : ¬ (0 ≤ z) := by omega
      have HRR : Hid (R = S 253) := by unfold Hid; rw [HR.out, hn6]
      have hfr := EE.fr
      clear HR hz hn6 EE hn
      go_wp2
      go_ret
      exact ⟨by rw [HRR.out]; rfl, hfr⟩
    · obtain ⟨j, hj⟩ : ∃ j, j = 252 - n := ⟨_, rfl⟩
      obtain rfl : z = (j : Int) := by omega
      have hj0 : (0 : Int) ≤ (j : Int) := by omega
      have hw1 : wrap64 ((j : Int) - 1) = (j : Int) - 1 := by unfold wrap64; omega
      have HJ : Hid (j = 252 - n) := hj
      have HJ2 : Hid (j < 256) := by unfold Hid; omega
      have HN : Hid (n < 253) := by unfold Hid; omega
      obtain ⟨D, hDe⟩ : ∃ D, D = dbl6 R := ⟨_, rfl⟩
      have hDo : D.Ok := by rw [hDe]; exact long6_ok _ _ _ _
      have HDD : Hid (∀ Z, Vr Z 6 (I64 PL) → Calls Tryd.prog 113 #[.agg (I64 R.cells).toArray] Z fun e w' => e = .returned (.iface 92 (.agg (I64 D.cells).toArray)) ∧ Below Z.heap.size Z w') := by unfold Hid; rw [hDe]; exact HD2.out R hRo
      have HDe : Hid _ := hDe
      obtain ⟨bt, hbt⟩ : ∃ bt, bt = N / 2 ^ j % 2 := ⟨_, rfl⟩
      have hbt1 : bt < 2 := by omega
      have HBt : Hid _ := hbt
      have HBB : Hid (∀ Z, Calls Tryd.prog 56 #[.agg (I64 k).toArray, .int .i64 (j : Int)] Z fun e w' => e = .returned (.int .i64 (bt : Int)) ∧ Below Z.heap.size Z w') := by unfold Hid; rw [hbt]; exact HB.out j (by omega)
      clear hz hn6 hj hDe hbt hn
      go_wp2_with fail
      refine (HDD.out _ EE.vP).mono ?_
      rintro e w1 ⟨rfl, hb1⟩
      replace EE := EE.go hb1
      clear hb1
      have hpk := arr_range EE.pk
      go_wp2_with (refine wpList_load_mid rfl 81 _ rfl w.heap.size 0 rfl (I64 k) _ hpk hu rfl hik ?_)
      clear hpk
      refine (HBB.out _).mono ?_
      rintro e w2 ⟨rfl, hb2⟩
      replace EE := EE.go hb2
      clear hb2
      by_cases hb1 : bt = 1
      · subst hb1
        have HST : Hid (S (n + 1) = join6 D P) := by unfold Hid; rw [H1.out n (by rw [← HJ.out, ← HBt.out]), ← HR.out, ← HDe.out]
        obtain ⟨T, hT⟩ : ∃ T, T = join6 D P := ⟨_, rfl⟩
        rw [← hT] at HST
        have HA1 : Hid (∀ Z, Vr Z 6 (I64 PL) → Vr Z 7 (I64 DL) → Calls Tryd.prog 114 #[.agg (I64 D.cells).toArray, .iface 92 (.agg (I64 P.cells).toArray)] Z fun e w' => e = .returned (.iface 92 (.agg (I64 T.cells).toArray)) ∧ Below Z.heap.size Z w') := by unfold Hid; rw [hT]; exact HA.out D P hDo hP
        clear hT
        go_wp2_with fail
        refine (HA1.out _ EE.vP EE.vD).mono ?_
        rintro e w3 ⟨rfl, hb3⟩
        replace EE := EE.go hb3
        clear hb3
        go_wp2
        go_roundw
        case rel => exact ⟨n + 1, (j : Int) - 1, by have := HN.out; omega, by have := HJ.out; have := HN.out; omega, by rw [HST.out], by go_num, EE⟩
        case measure => simp [intOf]; omega
      · have hb0 : bt = 0 := by omega
        subst hb0
        have HST : Hid (S (n + 1) = D) := by unfold Hid; rw [H0.out n (by rw [← HJ.out, ← HBt.out]; omega), ← HR.out, ← HDe.out]
        clear hb1
        go_wp2
        go_roundw
        case rel => exact ⟨n + 1, (j : Int) - 1, by have := HN.out; omega, by have := HJ.out; have := HN.out; omega, by rw [HST.out], by go_num, EE⟩
        case measure => simp [intOf]; omega

end Go.Proofs.YtihoaakbkffejaaDoor
