/-
  What is proved here: the contract of the program's method joined on points in the long form; where its variables hold the prime and d; the contract of the program's PtAdd; where its variables hold the prime and d; what the program's PtAdd answers where its arguments are points; where its variables hold the prime and d.
-/
import Derived.Test.YtihoaakbkffejaaDoorZOb
import Derived.Test.YtihoaakbkffejaaDoorZTm
import Derived.Test.YtihoaakbkffejaaDoorZXp0
namespace Go.Proofs.YtihoaakbkffejaaDoor
open Go.RowKit
set_option maxRecDepth 100000

set_option maxHeartbeats 8000000 in
theorem implJoined (P Q : E4) (w : World) (hP : P.Ok) (hQ : Q.Ok) (hV : Vr w 6 (I64 PL)) (hD : Vr w 7 (I64 DL)) :
  Calls Tryd.prog 114 #[.agg (I64 P.cells).toArray, .iface 92 (.agg (I64 Q.cells).toArray)] w fun e w' => e = .returned (.iface 92 (.agg (I64 (join6 P Q).cells).toArray)) ∧ Below w.heap.size w w' := by
 obtain ⟨f1, ef1⟩ : ∃ x_, x_ = red (val P.a * val Q.b) := ⟨_, rfl⟩
 have kf1 : feOk f1 = true := by rw [ef1]; exact ok_red _
 obtain ⟨f2, ef2⟩ : ∃ x_, x_ = red (val P.b * val Q.a) := ⟨_, rfl⟩
 have kf2 : feOk f2 = true := by rw [ef2]; exact ok_red _
 obtain ⟨f, ef⟩ : ∃ x_, x_ = red (val f1 + val f2) := ⟨_, rfl⟩
 have kf : feOk f = true := by rw [ef]; exact ok_red _
 obtain ⟨k1, ek1⟩ : ∃ x_, x_ = red (val P.b * val Q.b) := ⟨_, rfl⟩
 have kk1 : feOk k1 = true := by rw [ek1]; exact ok_red _
 obtain ⟨k2, ek2⟩ : ∃ x_, x_ = red (val P.a * val Q.a) := ⟨_, rfl⟩
 have kk2 : feOk k2 = true := by rw [ek2]; exact ok_red _
 obtain ⟨k, ek⟩ : ∃ x_, x_ = red (val k1 + val k2) := ⟨_, rfl⟩
 have kk : feOk k = true := by rw [ek]; exact ok_red _
 obtain ⟨o, eo⟩ : ∃ x_, x_ = red (val P.c * val Q.c) := ⟨_, rfl⟩
 have ko : feOk o = true := by rw [eo]; exact ok_red _
 obtain ⟨t1, et1⟩ : ∃ x_, x_ = red (val P.t * val Q.t) := ⟨_, rfl⟩
 have kt1 : feOk t1 = true := by rw [et1]; exact ok_red _
 obtain ⟨p, ep⟩ : ∃ x_, x_ = red (val DL * val t1) := ⟨_, rfl⟩
 have kp : feOk p = true := by rw [ep]; exact ok_red _
 obtain ⟨h, eh⟩ : ∃ x_, x_ = red (val o + val p) := ⟨_, rfl⟩
 have kh : feOk h = true := by rw [eh]; exact ok_red _
 obtain ⟨g, eg⟩ : ∃ x_, x_ = red (val o - val p) := ⟨_, rfl⟩
 have kg : feOk g = true := by rw [eg]; exact ok_red _
 have Hf1 : Hid (∀ Z, Vr Z 6 (I64 PL) → Calls Tryd.prog 73 #[.agg (I64 P.a).toArray, .agg (I64 Q.b).toArray] Z fun e w' => e = .returned (.agg (I64 f1).toArray) ∧ Below Z.heap.size Z w') := by
  unfold Hid; intro Z hZ; rw [ef1]; exact mulI hP.a hQ.b Z hZ
 have Hf2 : Hid (∀ Z, Vr Z 6 (I64 PL) → Calls Tryd.prog 73 #[.agg (I64 P.b).toArray, .agg (I64 Q.a).toArray] Z fun e w' => e = .returned (.agg (I64 f2).toArray) ∧ Below Z.heap.size Z w') := by
  unfold Hid; intro Z hZ; rw [ef2]; exact mulI hP.b hQ.a Z hZ
 have Hf : Hid (∀ Z, Vr Z 6 (I64 PL) → Calls Tryd.prog 81 #[.agg (I64 f1).toArray, .agg (I64 f2).toArray] Z fun e w' => e = .returned (.agg (I64 f).toArray) ∧ Below Z.heap.size Z w') := by
  unfold Hid; intro Z hZ; rw [ef]; exact sumI kf1 kf2 Z hZ
 have Hk1 : Hid (∀ Z, Vr Z 6 (I64 PL) → Calls Tryd.prog 73 #[.agg (I64 P.b).toArray, .agg (I64 Q.b).toArray] Z fun e w' => e = .returned (.agg (I64 k1).toArray) ∧ Below Z.heap.size Z w') := by
  unfold Hid; intro Z hZ; rw [ek1]; exact mulI hP.b hQ.b Z hZ
 have Hk2 : Hid (∀ Z, Vr Z 6 (I64 PL) → Calls Tryd.prog 73 #[.agg (I64 P.a).toArray, .agg (I64 Q.a).toArray] Z fun e w' => e = .returned (.agg (I64 k2).toArray) ∧ Below Z.heap.size Z w') := by
  unfold Hid; intro Z hZ; rw [ek2]; exact mulI hP.a hQ.a Z hZ
 have Hk : Hid (∀ Z, Vr Z 6 (I64 PL) → Calls Tryd.prog 81 #[.agg (I64 k1).toArray, .agg (I64 k2).toArray] Z fun e w' => e = .returned (.agg (I64 k).toArray) ∧ Below Z.heap.size Z w') := by
  unfold Hid; intro Z hZ; rw [ek]; exact sumI kk1 kk2 Z hZ
 have Ho : Hid (∀ Z, Vr Z 6 (I64 PL) → Calls Tryd.prog 73 #[.agg (I64 P.c).toArray, .agg (I64 Q.c).toArray] Z fun e w' => e = .returned (.agg (I64 o).toArray) ∧ Below Z.heap.size Z w') := by
  unfold Hid; intro Z hZ; rw [eo]; exact mulI hP.c hQ.c Z hZ
 have Ht1 : Hid (∀ Z, Vr Z 6 (I64 PL) → Calls Tryd.prog 73 #[.agg (I64 P.t).toArray, .agg (I64 Q.t).toArray] Z fun e w' => e = .returned (.agg (I64 t1).toArray) ∧ Below Z.heap.size Z w') := by
  unfold Hid; intro Z hZ; rw [et1]; exact mulI hP.t hQ.t Z hZ
 have Hp : Hid (∀ Z, Vr Z 6 (I64 PL) → Calls Tryd.prog 73 #[.agg (I64 DL).toArray, .agg (I64 t1).toArray] Z fun e w' => e = .returned (.agg (I64 p).toArray) ∧ Below Z.heap.size Z w') := by
  unfold Hid; intro Z hZ; rw [ep]; exact mulI DL_ok kt1 Z hZ
 have Hh : Hid (∀ Z, Vr Z 6 (I64 PL) → Calls Tryd.prog 81 #[.agg (I64 o).toArray, .agg (I64 p).toArray] Z fun e w' => e = .returned (.agg (I64 h).toArray) ∧ Below Z.heap.size Z w') := by
  unfold Hid; intro Z hZ; rw [eh]; exact sumI ko kp Z hZ
 have Hg : Hid (∀ Z, Vr Z 6 (I64 PL) → Calls Tryd.prog 80 #[.agg (I64 o).toArray, .agg (I64 p).toArray] Z fun e w' => e = .returned (.agg (I64 g).toArray) ∧ Below Z.heap.size Z w') := by
  unfold Hid; intro Z hZ; rw [eg]; exact subI ko kp Z hZ
 obtain ⟨R, hR⟩ : ∃ R, R = join6 P Q := ⟨_, rfl⟩
 have hRo : R.Ok := by rw [hR]; exact long6_ok _ _ _ _
 have hRe : long6 f k h g = R := by rw [hR]; simp only [join6, ef1, ef2, ef, ek1, ek2, ek, eo, et1, ep, eh, eg]
 have HR : Hid (∀ Z, Vr Z 6 (I64 PL) → Calls Tryd.prog 115 #[.agg (I64 f).toArray, .agg (I64 k).toArray, .agg (I64 h).toArray, .agg (I64 g).toArray] Z fun e w' => e = .returned (.agg (I64 R.cells).toArray) ∧ Below Z.heap.size Z w') := by
  unfold Hid; intro Z hZ; rw [← hRe]; exact implLongOf f k h g Z kf kk kh kg hZ
 rw [← hR]
 have jf := infoL' kf
 have iif := infoLl kf
 have nf := feOk_len kf
 have uf := one_lm f
 have jk := infoL' kk
 have iik := infoLl kk
 have nk := feOk_len kk
 have uk := one_lm k
 have jo := infoL' ko
 have iio := infoLl ko
 have no := feOk_len ko
 have uo := one_lm o
 have jp := infoL' kp
 have iip := infoLl kp
 have np := feOk_len kp
 have up := one_lm p
 have iPa := infoLl hP.a
 have iPb := infoLl hP.b
 have iPc := infoLl hP.c
 have iPt := infoLl hP.t
 have iQa := infoLl hQ.a
 have iQb := infoLl hQ.b
 have iQc := infoLl hQ.c
 have iQt := infoLl hQ.t
 have iDL := infoLl DL_ok
 have hiQ := infoLp' hQ
 have hQl := E4.len hQ
 have hu : Tryd.prog.underlying 81 = some (.array 16 3) := Tryd.underlying81
 have has : ∀ (v : Value) (w : World), (Instr.typeAssert (.iface 92 v) 100 92 false).run Tryd.prog w = .ok v w := assert_lp
 obtain ⟨A0, hA0⟩ : ∃ A, A = (I64 P.cells).toArray := ⟨_, rfl⟩
 obtain ⟨W, hW⟩ : ∃ W, W = w.alloc (.cells A0 92) := ⟨_, rfl⟩
 have fr : Below w.heap.size w W := by rw [hW]; exact ((Below.refl _ _).alloc (Nat.le_refl _) _)
 have pa : Arr W w.heap.size 92 (I64 P.cells) := by
  rw [hW, hA0]
  have := Arr.new (w) (I64 P.cells) 92
  exact this
 have h0P := hV.lt
 have vP := hV.kept fr
 have h0D := hD.lt
 have vD := hD.kept fr
 rw [← hA0]
 clear hA0
 clear hV hD
 clear hR hRe ef1 kf1 ef2 kf2 ef kf ek1 kk1 ek2 kk2 ek kk eo ko et1 kt1 ep kp eh kh eg kg
 go_enter Tryd.func114, Tryd.ntmps114
 go_upto_region 1 with fail
 rw [← hW]
 clear hW
 have hXq : w.heap.size < W.heap.size ∧ w.heap.size ≤ W.heap.size := ⟨pa.lt, fr.size⟩
 obtain ⟨bV, Aq, q1⟩ := laid_lp W Q.cells
 replace fr := fr.trans (bV.mono fr.size)
 replace pa := pa.kept bV
 replace vP := vP.kept bV
 replace vD := vD.kept bV
 go_upto_region 2 with (refine wpList_store_row rfl 92 _ _ rfl W.heap.size (I64 Q.cells).toArray rfl rfl 92 _ q1 hiQ (by simp [hQl]) (by simp [Value.oneCell']) ?_)
 obtain ⟨V1, hVV⟩ : ∃ V, V = (W.alloc (.cells #[.int .i64 0, .int .i64 0, .int .i64 0, .int .i64 0, .int .i64 0, .int .i64 0, .int .i64 0, .int .i64 0, .int .i64 0, .int .i64 0, .int .i64 0, .int .i64 0, .int .i64 0, .int .i64 0, .int .i64 0, .int .i64 0, .int .i64 0, .int .i64 0, .int .i64 0, .int .i64 0, .int .i64 0, .int .i64 0, .int .i64 0, .int .i64 0, .int .i64 0, .int .i64 0, .int .i64 0, .int .i64 0, .int .i64 0, .int .i64 0, .int .i64 0, .int .i64 0, .int .i64 0, .int .i64 0, .int .i64 0, .int .i64 0, .int .i64 0, .int .i64 0, .int .i64 0, .int .i64 0, .int .i64 0, .int .i64 0, .int .i64 0, .int .i64 0, .int .i64 0, .int .i64 0, .int .i64 0, .int .i64 0, .int .i64 0, .int .i64 0, .int .i64 0, .int .i64 0, .int .i64 0, .int .i64 0, .int .i64 0, .int .i64 0, .int .i64 0, .int .i64 0, .int .i64 0, .int .i64 0, .int .i64 0, .int .i64 0, .int .i64 0, .int .i64 0] 92)).setRow W.heap.size (I64 Q.cells).toArray := ⟨_, rfl⟩
 obtain ⟨Xq, hE⟩ : ∃ E, E = W.heap.size := ⟨_, rfl⟩
 rw [← hVV] at fr pa vP vD Aq ⊢
 rw [← hE] at Aq hXq ⊢
 clear hVV hE q1 bV
 try simp only [Act.put]
 refine tame [kc 12 (.pointer (some ⟨w.heap.size, 0, none⟩)), kc 13 (.agg (I64 P.a).toArray), kc 14 (.pointer (some ⟨Xq, 16, none⟩)), kc 15 (.agg (I64 Q.b).toArray), kc 16 (.agg (I64 f1).toArray), kc 17 (.pointer (some ⟨w.heap.size, 16, none⟩)), kc 18 (.agg (I64 P.b).toArray), kc 19 (.pointer (some ⟨Xq, 0, none⟩)), kc 20 (.agg (I64 Q.a).toArray), kc 21 (.agg (I64 f2).toArray), kc 22 (.agg (I64 f).toArray), ka 6 81 (I64 Z16)] 12 (by kernel_rfl) (by kernel_rfl) (by kernel_rfl) (by repeat' first | exact trivial | apply kc_keeps | apply ka_keeps | constructor) 1 (by kernel_rfl) (fun vv1 ll1 hh1 y b => ?_) (fun vv1 ll1 hh1 y b F iv ap => ?_)
 ·skip
  replace fr := fr.trans (b.mono fr.size)
  replace pa := pa.kept b
  replace vP := vP.kept b
  replace vD := vD.kept b
  replace Aq := Aq.kept b
  exact ⟨tp (by kernel_rfl),
   tl (E4.ra pa) iPa hu (by kernel_rfl),
   tp (by kernel_rfl),
   tl (E4.rb hQ Aq) iQb hu (by kernel_rfl),
   tc (Hf1.out _ vP) (by kernel_rfl),
   tp (by kernel_rfl),
   tl (E4.rb hP pa) iPb hu (by kernel_rfl),
   tp (by kernel_rfl),
   tl (E4.ra Aq) iQa hu (by kernel_rfl),
   tc (Hf2.out _ vP) (by kernel_rfl),
   tc (Hf.out _ vP) (by kernel_rfl),
   ta (by kernel_rfl), trivial⟩
 obtain ⟨y2, hy⟩ : ∃ z, z = y := ⟨_, rfl⟩
 rw [← hy] at b F iv ⊢
 clear hy
 have oq : w.heap.size < V1.heap.size ∧ Xq < V1.heap.size ∧ w.heap.size ≤ V1.heap.size := ⟨pa.lt, Aq.lt, fr.size⟩
 replace fr := fr.trans (b.mono fr.size)
 replace pa := pa.kept b
 replace vP := vP.kept b
 replace vD := vD.kept b
 replace Aq := Aq.kept b
 obtain ⟨-, -, -, -, -, -, -, -, -, -, -, ⟨Af, gXf⟩, -⟩ := F
 have iXf := iv 11 (by decide)
 replace Af : Arr y2 (ll1 11) 81 (I64 Z16) := Af
 replace gXf : ll1 11 < hh1 11 := gXf
 have lXf := Af.lt
 refine st_row (i := 12) (by kernel_rfl) rfl rfl rfl rfl Af (by kernel_rfl) (by kernel_rfl) (by simp [nf]) jf uf ?_
 replace fr := bel_sc fr (ll1 11) (I64 f) (by omega)
 replace pa := pa.sc (ll1 11) (I64 f) (by omega)
 replace vP := vP.sc (ll1 11) (I64 f) (by omega)
 replace vD := vD.sc (ll1 11) (I64 f) (by omega)
 replace Aq := Aq.sc (ll1 11) (I64 f) (by omega)
 replace Af := Af.sc0 (I64 f) (by simp [nf])
 obtain ⟨V3, hVe⟩ : ∃ V, V = y2.setCells (ll1 11) 0 (I64 f) := ⟨_, rfl⟩
 rw [← hVe] at fr pa vP vD Aq Af ⊢
 clear hVe
 refine wpAny_done (by kernel_rfl) ?_ _
 simp only [fillK, putT, List.setIfInBounds_toArray, List.set_cons_zero, List.set_cons_succ]
 generalize ll1 11 = Xf at *
 clear iv ap b oq
 go_wp2
 try simp only [Act.put]
 refine tame [kc 23 (.pointer (some ⟨w.heap.size, 16, none⟩)), kc 24 (.agg (I64 P.b).toArray), kc 25 (.pointer (some ⟨Xq, 16, none⟩)), kc 26 (.agg (I64 Q.b).toArray), kc 27 (.agg (I64 k1).toArray), kc 28 (.pointer (some ⟨w.heap.size, 0, none⟩)), kc 29 (.agg (I64 P.a).toArray), kc 30 (.pointer (some ⟨Xq, 0, none⟩)), kc 31 (.agg (I64 Q.a).toArray), kc 32 (.agg (I64 k2).toArray), kc 33 (.agg (I64 k).toArray), ka 7 81 (I64 Z16)] 12 (by kernel_rfl) (by kernel_rfl) (by kernel_rfl) (by repeat' first | exact trivial | apply kc_keeps | apply ka_keeps | constructor) 1 (by kernel_rfl) (fun vv2 ll2 hh2 y b => ?_) (fun vv2 ll2 hh2 y b F iv ap => ?_)
 ·skip
  replace fr := fr.trans (b.mono fr.size)
  replace pa := pa.kept b
  replace vP := vP.kept b
  replace vD := vD.kept b
  replace Aq := Aq.kept b
  replace Af := Af.kept b
  exact ⟨tp (by kernel_rfl),
   tl (E4.rb hP pa) iPb hu (by kernel_rfl),
   tp (by kernel_rfl),
   tl (E4.rb hQ Aq) iQb hu (by kernel_rfl),
   tc (Hk1.out _ vP) (by kernel_rfl),
   tp (by kernel_rfl),
   tl (E4.ra pa) iPa hu (by kernel_rfl),
   tp (by kernel_rfl),
   tl (E4.ra Aq) iQa hu (by kernel_rfl),
   tc (Hk2.out _ vP) (by kernel_rfl),
   tc (Hk.out _ vP) (by kernel_rfl),
   ta (by kernel_rfl), trivial⟩
 obtain ⟨y4, hy⟩ : ∃ z, z = y := ⟨_, rfl⟩
 rw [← hy] at b F iv ⊢
 clear hy
 have oq : w.heap.size < V3.heap.size ∧ Xq < V3.heap.size ∧ Xf < V3.heap.size ∧ w.heap.size ≤ V3.heap.size := ⟨pa.lt, Aq.lt, Af.lt, fr.size⟩
 replace fr := fr.trans (b.mono fr.size)
 replace pa := pa.kept b
 replace vP := vP.kept b
 replace vD := vD.kept b
 replace Aq := Aq.kept b
 replace Af := Af.kept b
 obtain ⟨-, -, -, -, -, -, -, -, -, -, -, ⟨Ak, gXk⟩, -⟩ := F
 have iXk := iv 11 (by decide)
 replace Ak : Arr y4 (ll2 11) 81 (I64 Z16) := Ak
 replace gXk : ll2 11 < hh2 11 := gXk
 have lXk := Ak.lt
 refine st_row (i := 12) (by kernel_rfl) rfl rfl rfl rfl Ak (by kernel_rfl) (by kernel_rfl) (by simp [nk]) jk uk ?_
 replace fr := bel_sc fr (ll2 11) (I64 k) (by omega)
 replace pa := pa.sc (ll2 11) (I64 k) (by omega)
 replace vP := vP.sc (ll2 11) (I64 k) (by omega)
 replace vD := vD.sc (ll2 11) (I64 k) (by omega)
 replace Aq := Aq.sc (ll2 11) (I64 k) (by omega)
 replace Af := Af.sc (ll2 11) (I64 k) (by omega)
 replace Ak := Ak.sc0 (I64 k) (by simp [nk])
 obtain ⟨V5, hVe⟩ : ∃ V, V = y4.setCells (ll2 11) 0 (I64 k) := ⟨_, rfl⟩
 rw [← hVe] at fr pa vP vD Aq Af Ak ⊢
 clear hVe
 refine wpAny_done (by kernel_rfl) ?_ _
 simp only [fillK, putT, List.setIfInBounds_toArray, List.set_cons_zero, List.set_cons_succ]
 generalize ll2 11 = Xk at *
 clear iv ap b oq
 go_wp2
 try simp only [Act.put]
 refine tame [kc 34 (.pointer (some ⟨w.heap.size, 32, none⟩)), kc 35 (.agg (I64 P.c).toArray), kc 36 (.pointer (some ⟨Xq, 32, none⟩)), kc 37 (.agg (I64 Q.c).toArray), kc 38 (.agg (I64 o).toArray), kc 39 (.agg (I64 DL).toArray), kc 40 (.pointer (some ⟨w.heap.size, 48, none⟩)), kc 41 (.agg (I64 P.t).toArray), kc 42 (.pointer (some ⟨Xq, 48, none⟩)), kc 43 (.agg (I64 Q.t).toArray), kc 44 (.agg (I64 t1).toArray), kc 45 (.agg (I64 p).toArray), ka 8 81 (I64 Z16), ka 9 81 (I64 Z16)] 14 (by kernel_rfl) (by kernel_rfl) (by kernel_rfl) (by repeat' first | exact trivial | apply kc_keeps | apply ka_keeps | constructor) 2 (by kernel_rfl) (fun vv3 ll3 hh3 y b => ?_) (fun vv3 ll3 hh3 y b F iv ap => ?_)
 ·skip
  replace fr := fr.trans (b.mono fr.size)
  replace pa := pa.kept b
  replace vP := vP.kept b
  replace vD := vD.kept b
  replace Aq := Aq.kept b
  replace Af := Af.kept b
  replace Ak := Ak.kept b
  exact ⟨tp (by kernel_rfl),
   tl (E4.rc hP pa) iPc hu (by kernel_rfl),
   tp (by kernel_rfl),
   tl (E4.rc hQ Aq) iQc hu (by kernel_rfl),
   tc (Ho.out _ vP) (by kernel_rfl),
   tl (vr_range vD) iDL hu (by kernel_rfl),
   tp (by kernel_rfl),
   tl (E4.rt hP pa) iPt hu (by kernel_rfl),
   tp (by kernel_rfl),
   tl (E4.rt hQ Aq) iQt hu (by kernel_rfl),
   tc (Ht1.out _ vP) (by kernel_rfl),
   tc (Hp.out _ vP) (by kernel_rfl),
   ta (by kernel_rfl),
   ta (by kernel_rfl), trivial⟩
 obtain ⟨y6, hy⟩ : ∃ z, z = y := ⟨_, rfl⟩
 rw [← hy] at b F iv ⊢
 clear hy
 have oq : w.heap.size < V5.heap.size ∧ Xq < V5.heap.size ∧ Xf < V5.heap.size ∧ Xk < V5.heap.size ∧ w.heap.size ≤ V5.heap.size := ⟨pa.lt, Aq.lt, Af.lt, Ak.lt, fr.size⟩
 replace fr := fr.trans (b.mono fr.size)
 replace pa := pa.kept b
 replace vP := vP.kept b
 replace vD := vD.kept b
 replace Aq := Aq.kept b
 replace Af := Af.kept b
 replace Ak := Ak.kept b
 obtain ⟨-, -, -, -, -, -, -, -, -, -, -, -, ⟨Ao, gXo⟩, ⟨Ap, gXp⟩, -⟩ := F
 have iXo := iv 12 (by decide)
 have iXp := iv 13 (by decide)
 have pXoXp := ap 12 13 (by decide) (by decide) (by decide)
 replace Ao : Arr y6 (ll3 12) 81 (I64 Z16) := Ao
 replace gXo : ll3 12 < hh3 12 := gXo
 have lXo := Ao.lt
 replace Ap : Arr y6 (ll3 13) 81 (I64 Z16) := Ap
 replace gXp : ll3 13 < hh3 13 := gXp
 have lXp := Ap.lt
 refine st_row (i := 14) (by kernel_rfl) rfl rfl rfl rfl Ao (by kernel_rfl) (by kernel_rfl) (by simp [no]) jo uo ?_
 replace fr := bel_sc fr (ll3 12) (I64 o) (by omega)
 replace pa := pa.sc (ll3 12) (I64 o) (by omega)
 replace vP := vP.sc (ll3 12) (I64 o) (by omega)
 replace vD := vD.sc (ll3 12) (I64 o) (by omega)
 replace Aq := Aq.sc (ll3 12) (I64 o) (by omega)
 replace Af := Af.sc (ll3 12) (I64 o) (by omega)
 replace Ak := Ak.sc (ll3 12) (I64 o) (by omega)
 replace Ao := Ao.sc0 (I64 o) (by simp [no])
 replace Ap := Ap.sc (ll3 12) (I64 o) (by omega)
 obtain ⟨V7, hVe⟩ : ∃ V, V = y6.setCells (ll3 12) 0 (I64 o) := ⟨_, rfl⟩
 rw [← hVe] at fr pa vP vD Aq Af Ak Ao Ap ⊢
 clear hVe
 refine st_row (i := 15) (by kernel_rfl) rfl rfl rfl rfl Ap (by kernel_rfl) (by kernel_rfl) (by simp [np]) jp up ?_
 replace fr := bel_sc fr (ll3 13) (I64 p) (by omega)
 replace pa := pa.sc (ll3 13) (I64 p) (by omega)
 replace vP := vP.sc (ll3 13) (I64 p) (by omega)
 replace vD := vD.sc (ll3 13) (I64 p) (by omega)
 replace Aq := Aq.sc (ll3 13) (I64 p) (by omega)
 replace Af := Af.sc (ll3 13) (I64 p) (by omega)
 replace Ak := Ak.sc (ll3 13) (I64 p) (by omega)
 replace Ao := Ao.sc (ll3 13) (I64 p) (by omega)
 replace Ap := Ap.sc0 (I64 p) (by simp [np])
 obtain ⟨V8, hVe⟩ : ∃ V, V = V7.setCells (ll3 13) 0 (I64 p) := ⟨_, rfl⟩
 rw [← hVe] at fr pa vP vD Aq Af Ak Ao Ap ⊢
 clear hVe
 refine wpAny_done (by kernel_rfl) ?_ _
 simp only [fillK, putT, List.setIfInBounds_toArray, List.set_cons_zero, List.set_cons_succ]
 generalize ll3 12 = Xo at *
 generalize ll3 13 = Xp at *
 clear iv ap b oq
 go_wp2
 clear pa
 clear Aq
 try simp only [Act.put]
 refine tame [kc 46 (.agg (I64 f).toArray), kc 47 (.agg (I64 k).toArray), kc 48 (.agg (I64 o).toArray), kc 49 (.agg (I64 p).toArray), kc 50 (.agg (I64 h).toArray), kc 51 (.agg (I64 o).toArray), kc 52 (.agg (I64 p).toArray), kc 53 (.agg (I64 g).toArray), kc 54 (.agg (I64 R.cells).toArray), kc 55 (.iface 92 (.agg (I64 R.cells).toArray)), kc 4 (.iface 92 (.agg (I64 R.cells).toArray))] 11 (by kernel_rfl) (by kernel_rfl) (by kernel_rfl) (by repeat' first | exact trivial | apply kc_keeps | apply ka_keeps | constructor) 0 (by kernel_rfl) (fun vv4 ll4 hh4 y b => ?_) (fun vv4 ll4 hh4 y b F iv ap => ?_)
 ·skip
  replace fr := fr.trans (b.mono fr.size)
  replace vP := vP.kept b
  replace vD := vD.kept b
  replace Af := Af.kept b
  replace Ak := Ak.kept b
  replace Ao := Ao.kept b
  replace Ap := Ap.kept b
  exact ⟨tl (arr_range Af) iif hu (by kernel_rfl),
   tl (arr_range Ak) iik hu (by kernel_rfl),
   tl (arr_range Ao) iio hu (by kernel_rfl),
   tl (arr_range Ap) iip hu (by kernel_rfl),
   tc (Hh.out _ vP) (by kernel_rfl),
   tl (arr_range Ao) iio hu (by kernel_rfl),
   tl (arr_range Ap) iip hu (by kernel_rfl),
   tc (Hg.out _ vP) (by kernel_rfl),
   tc (HR.out _ vP) (by kernel_rfl),
   tp (by kernel_rfl),
   tp (by kernel_rfl), trivial⟩
 obtain ⟨y9, hy⟩ : ∃ z, z = y := ⟨_, rfl⟩
 rw [← hy] at b F iv ⊢
 clear hy
 replace fr := fr.trans (b.mono fr.size)
 replace vP := vP.kept b
 replace vD := vD.kept b
 replace Af := Af.kept b
 replace Ak := Ak.kept b
 replace Ao := Ao.kept b
 replace Ap := Ap.kept b
 clear F
 refine wpAny_done (by kernel_rfl) ?_ _
 simp only [fillK, putT, List.setIfInBounds_toArray, List.set_cons_zero, List.set_cons_succ]
 clear iv ap b
 go_wp2
 go_ret
 exact ⟨rfl, fr⟩

end Go.Proofs.YtihoaakbkffejaaDoor
namespace Go.Proofs.YtihoaakbkffejaaDoor
open Go.RowKit
set_option maxRecDepth 100000

end Go.Proofs.YtihoaakbkffejaaDoor
namespace Go.Proofs.YtihoaakbkffejaaDoor
open Go.RowKit
set_option maxRecDepth 100000
set_option maxHeartbeats 4000000
set_option linter.unusedSectionVars false

section
variable [NeZero pN]
end
end Go.Proofs.YtihoaakbkffejaaDoor
