/-
  What is proved here: the contract of the program's method joined on points in the long form; where its variables hold the prime and d.
-/
import Derived.Test.YtoblilngppjmhaaDoorW9Ob
namespace Go.Proofs.YtoblilngppjmhaaDoor
open Go.RowKit
set_option maxRecDepth 100000
abbrev qOc0 : Oper := { dst := none, op := Op.store 70 (Operand.tmp 6) (Operand.tmp 22), type := 0, pos := "l06_point.go:165", after := #[{ on := 11, ground := Ground.data }, { on := 10, ground := Ground.data }, { on := 10, ground := Ground.chain }, { on := 0, ground := Ground.phase }, { on := 1, ground := Ground.phase }, { on := 2, ground := Ground.phase }, { on := 3, ground := Ground.phase }, { on := 4, ground := Ground.phase }, { on := 5, ground := Ground.phase }, { on := 6, ground := Ground.phase }, { on := 7, ground := Ground.phase }, { on := 8, ground := Ground.phase }, { on := 9, ground := Ground.phase }, { on := 10, ground := Ground.phase }, { on := 11, ground := Ground.phase }], guard := none }
abbrev qOc1 : Oper := { dst := none, op := Op.store 70 (Operand.tmp 7) (Operand.tmp 33), type := 0, pos := "l06_point.go:166", after := #[{ on := 11, ground := Ground.data }, { on := 10, ground := Ground.data }, { on := 10, ground := Ground.chain }, { on := 0, ground := Ground.phase }, { on := 1, ground := Ground.phase }, { on := 2, ground := Ground.phase }, { on := 3, ground := Ground.phase }, { on := 4, ground := Ground.phase }, { on := 5, ground := Ground.phase }, { on := 6, ground := Ground.phase }, { on := 7, ground := Ground.phase }, { on := 8, ground := Ground.phase }, { on := 9, ground := Ground.phase }, { on := 10, ground := Ground.phase }, { on := 11, ground := Ground.phase }], guard := none }
abbrev qOc2 : Oper := { dst := none, op := Op.store 70 (Operand.tmp 8) (Operand.tmp 38), type := 0, pos := "l06_point.go:167", after := #[{ on := 12, ground := Ground.data }, { on := 4, ground := Ground.data }, { on := 11, ground := Ground.chain }, { on := 0, ground := Ground.phase }, { on := 1, ground := Ground.phase }, { on := 2, ground := Ground.phase }, { on := 3, ground := Ground.phase }, { on := 4, ground := Ground.phase }, { on := 5, ground := Ground.textOnly Departure.lateStores }, { on := 6, ground := Ground.textOnly Departure.lateStores }, { on := 7, ground := Ground.textOnly Departure.lateStores }, { on := 8, ground := Ground.textOnly Departure.lateStores }, { on := 9, ground := Ground.textOnly Departure.lateStores }, { on := 10, ground := Ground.textOnly Departure.lateStoresUnsure }, { on := 11, ground := Ground.textOnly Departure.lateStoresUnsure }, { on := 12, ground := Ground.phase }, { on := 13, ground := Ground.phase }], guard := none }
abbrev qOc3 : Oper := { dst := none, op := Op.store 70 (Operand.tmp 9) (Operand.tmp 45), type := 0, pos := "l06_point.go:167", after := #[{ on := 13, ground := Ground.data }, { on := 11, ground := Ground.data }, { on := 14, ground := Ground.chain }, { on := 0, ground := Ground.phase }, { on := 1, ground := Ground.phase }, { on := 2, ground := Ground.phase }, { on := 3, ground := Ground.phase }, { on := 4, ground := Ground.phase }, { on := 5, ground := Ground.phase }, { on := 6, ground := Ground.phase }, { on := 7, ground := Ground.phase }, { on := 8, ground := Ground.phase }, { on := 9, ground := Ground.phase }, { on := 10, ground := Ground.phase }, { on := 11, ground := Ground.phase }, { on := 12, ground := Ground.phase }, { on := 13, ground := Ground.phase }, { on := 14, ground := Ground.phase }], guard := none }

set_option maxHeartbeats 8000000 in
theorem implJoined (P Q : E4) (w : World) (hP : P.Ok) (hQ : Q.Ok) (hV : Vr w 4 (I64 PL)) (hD : Vr w 2 (I64 DL)) :
  Calls Tryd.prog 57 #[.agg (I64 P.cells).toArray, .iface 72 (.agg (I64 Q.cells).toArray)] w fun e w' => e = .returned (.iface 72 (.agg (I64 (join6 P Q).cells).toArray)) ∧ Below w.heap.size w w' := by
 obtain ⟨f1, ef1⟩ : ∃ x_, x_ = red (val P.a * val Q.b) := ⟨_, rfl⟩
 have kf1 : feOk f1 = true := by rw [ef1]; exact ok_red _
 obtain ⟨f2, ef2⟩ : ∃ x_, x_ = red (val P.b * val Q.a) := ⟨_, rfl⟩
 have kf2 : feOk f2 = true := by rw [ef2]; exact ok_red _
 obtain ⟨f, ef⟩ : ∃ x_, x_ = red (val f1 + val f2) := ⟨_, rfl⟩
 have kf : feOk f = true := by rw [ef]; exact ok_red _
 obtain ⟨k1, ek1⟩ : ∃ x_, x_ = red (val P.b * val Q.b) := ⟨_, rfl⟩
 have kk1 : feOk k1 = true := by rw [ek1]; exact ok_red _
 obtain ⟨k2, ek2⟩ : ∃ x_, x_ = red (val P.a * val Q.a) := ⟨_, rfl⟩
 have kk2 : feOk k2 = true := by rw [ek2]; exact ok_red _
 obtain ⟨k, ek⟩ : ∃ x_, x_ = red (val k1 + val k2) := ⟨_, rfl⟩
 have kk : feOk k = true := by rw [ek]; exact ok_red _
 obtain ⟨o, eo⟩ : ∃ x_, x_ = red (val P.c * val Q.c) := ⟨_, rfl⟩
 have ko : feOk o = true := by rw [eo]; exact ok_red _
 obtain ⟨t1, et1⟩ : ∃ x_, x_ = red (val P.t * val Q.t) := ⟨_, rfl⟩
 have kt1 : feOk t1 = true := by rw [et1]; exact ok_red _
 obtain ⟨p, ep⟩ : ∃ x_, x_ = red (val DL * val t1) := ⟨_, rfl⟩
 have kp : feOk p = true := by rw [ep]; exact ok_red _
 obtain ⟨h, eh⟩ : ∃ x_, x_ = red (val o + val p) := ⟨_, rfl⟩
 have kh : feOk h = true := by rw [eh]; exact ok_red _
 obtain ⟨g, eg⟩ : ∃ x_, x_ = red (val o - val p) := ⟨_, rfl⟩
 have kg : feOk g = true := by rw [eg]; exact ok_red _
 have Hf1 : Hid (∀ Z, Vr Z 4 (I64 PL) → Calls Tryd.prog 104 #[.agg (I64 P.a).toArray, .agg (I64 Q.b).toArray] Z fun e w' => e = .returned (.agg (I64 f1).toArray) ∧ Below Z.heap.size Z w') := by
  unfold Hid; intro Z hZ; rw [ef1]; exact mulI hP.a hQ.b Z hZ
 have Hf2 : Hid (∀ Z, Vr Z 4 (I64 PL) → Calls Tryd.prog 104 #[.agg (I64 P.b).toArray, .agg (I64 Q.a).toArray] Z fun e w' => e = .returned (.agg (I64 f2).toArray) ∧ Below Z.heap.size Z w') := by
  unfold Hid; intro Z hZ; rw [ef2]; exact mulI hP.b hQ.a Z hZ
 have Hf : Hid (∀ Z, Vr Z 4 (I64 PL) → Calls Tryd.prog 105 #[.agg (I64 f1).toArray, .agg (I64 f2).toArray] Z fun e w' => e = .returned (.agg (I64 f).toArray) ∧ Below Z.heap.size Z w') := by
  unfold Hid; intro Z hZ; rw [ef]; exact sumI kf1 kf2 Z hZ
 have Hk1 : Hid (∀ Z, Vr Z 4 (I64 PL) → Calls Tryd.prog 104 #[.agg (I64 P.b).toArray, .agg (I64 Q.b).toArray] Z fun e w' => e = .returned (.agg (I64 k1).toArray) ∧ Below Z.heap.size Z w') := by
  unfold Hid; intro Z hZ; rw [ek1]; exact mulI hP.b hQ.b Z hZ
 have Hk2 : Hid (∀ Z, Vr Z 4 (I64 PL) → Calls Tryd.prog 104 #[.agg (I64 P.a).toArray, .agg (I64 Q.a).toArray] Z fun e w' => e = .returned (.agg (I64 k2).toArray) ∧ Below Z.heap.size Z w') := by
  unfold Hid; intro Z hZ; rw [ek2]; exact mulI hP.a hQ.a Z hZ
 have Hk : Hid (∀ Z, Vr Z 4 (I64 PL) → Calls Tryd.prog 105 #[.agg (I64 k1).toArray, .agg (I64 k2).toArray] Z fun e w' => e = .returned (.agg (I64 k).toArray) ∧ Below Z.heap.size Z w') := by
  unfold Hid; intro Z hZ; rw [ek]; exact sumI kk1 kk2 Z hZ
 have Ho : Hid (∀ Z, Vr Z 4 (I64 PL) → Calls Tryd.prog 104 #[.agg (I64 P.c).toArray, .agg (I64 Q.c).toArray] Z fun e w' => e = .returned (.agg (I64 o).toArray) ∧ Below Z.heap.size Z w') := by
  unfold Hid; intro Z hZ; rw [eo]; exact mulI hP.c hQ.c Z hZ
 have Ht1 : Hid (∀ Z, Vr Z 4 (I64 PL) → Calls Tryd.prog 104 #[.agg (I64 P.t).toArray, .agg (I64 Q.t).toArray] Z fun e w' => e = .returned (.agg (I64 t1).toArray) ∧ Below Z.heap.size Z w') := by
  unfold Hid; intro Z hZ; rw [et1]; exact mulI hP.t hQ.t Z hZ
 have Hp : Hid (∀ Z, Vr Z 4 (I64 PL) → Calls Tryd.prog 104 #[.agg (I64 DL).toArray, .agg (I64 t1).toArray] Z fun e w' => e = .returned (.agg (I64 p).toArray) ∧ Below Z.heap.size Z w') := by
  unfold Hid; intro Z hZ; rw [ep]; exact mulI DL_ok kt1 Z hZ
 have Hh : Hid (∀ Z, Vr Z 4 (I64 PL) → Calls Tryd.prog 105 #[.agg (I64 o).toArray, .agg (I64 p).toArray] Z fun e w' => e = .returned (.agg (I64 h).toArray) ∧ Below Z.heap.size Z w') := by
  unfold Hid; intro Z hZ; rw [eh]; exact sumI ko kp Z hZ
 have Hg : Hid (∀ Z, Vr Z 4 (I64 PL) → Calls Tryd.prog 107 #[.agg (I64 o).toArray, .agg (I64 p).toArray] Z fun e w' => e = .returned (.agg (I64 g).toArray) ∧ Below Z.heap.size Z w') := by
  unfold Hid; intro Z hZ; rw [eg]; exact subI ko kp Z hZ
 obtain ⟨R, hR⟩ : ∃ R, R = join6 P Q := ⟨_, rfl⟩
 have hRo : R.Ok := by rw [hR]; exact long6_ok _ _ _ _
 have hRe : long6 f k h g = R := by rw [hR]; simp only [join6, ef1, ef2, ef, ek1, ek2, ek, eo, et1, ep, eh, eg]
 have HR : Hid (∀ Z, Vr Z 4 (I64 PL) → Calls Tryd.prog 106 #[.agg (I64 f).toArray, .agg (I64 k).toArray, .agg (I64 h).toArray, .agg (I64 g).toArray] Z fun e w' => e = .returned (.agg (I64 R.cells).toArray) ∧ Below Z.heap.size Z w') := by
  unfold Hid; intro Z hZ; rw [← hRe]; exact implLongOf f k h g Z kf kk kh kg hZ
 rw [← hR]
 have jf := infoL' kf
 have iif := infoLl kf
 have nf := feOk_len kf
 have uf := one_lm f
 have jk := infoL' kk
 have iik := infoLl kk
 have nk := feOk_len kk
 have uk := one_lm k
 have jo := infoL' ko
 have iio := infoLl ko
 have no := feOk_len ko
 have uo := one_lm o
 have jp := infoL' kp
 have iip := infoLl kp
 have np := feOk_len kp
 have up := one_lm p
 have iPa := infoLl hP.a
 have iPb := infoLl hP.b
 have iPc := infoLl hP.c
 have iPt := infoLl hP.t
 have iQa := infoLl hQ.a
 have iQb := infoLl hQ.b
 have iQc := infoLl hQ.c
 have iQt := infoLl hQ.t
 have iDL := infoLl DL_ok
 have hiQ := infoLp' hQ
 have hQl := E4.len hQ
 have hu : Tryd.prog.underlying 70 = some (.array 16 3) := Tryd.underlying70
 have has : ∀ (v : Value) (w : World), (Instr.typeAssert (.iface 72 v) 77 72 false).run Tryd.prog w = .ok v w := assert_lp
 obtain ⟨A0, hA0⟩ : ∃ A, A = (I64 P.cells).toArray := ⟨_, rfl⟩
 obtain ⟨W, hW⟩ : ∃ W, W = w.alloc (.cells A0 72) := ⟨_, rfl⟩
 have fr : Below w.heap.size w W := by rw [hW]; exact ((Below.refl _ _).alloc (Nat.le_refl _) _)
 have pa : Arr W w.heap.size 72 (I64 P.cells) := by
  rw [hW, hA0]
  have := Arr.new (w) (I64 P.cells) 72
  exact this
 have h0P := hV.lt
 have vP := hV.kept fr
 have h0D := hD.lt
 have vD := hD.kept fr
 rw [← hA0]
 clear hA0
 clear hV hD
 clear hR hRe ef1 kf1 ef2 kf2 ef kf ek1 kk1 ek2 kk2 ek kk eo ko et1 kt1 ep kp eh kh eg kg
 go_enter Tryd.func57, Tryd.ntmps57
 go_upto_region 1 with fail
 rw [← hW]
 clear hW
 have hXq : w.heap.size < W.heap.size ∧ w.heap.size ≤ W.heap.size := ⟨pa.lt, fr.size⟩
 obtain ⟨bV, Aq, q1⟩ := laid_lp W Q.cells
 replace fr := fr.trans (bV.mono fr.size)
 replace pa := pa.kept bV
 replace vP := vP.kept bV
 replace vD := vD.kept bV
 go_upto_region 2 with (refine wpList_store_row rfl 72 _ _ rfl W.heap.size (I64 Q.cells).toArray rfl rfl 72 _ q1 hiQ (by simp [hQl]) (by simp [Value.oneCell']) ?_)
 obtain ⟨V1, hVV⟩ : ∃ V, V = (W.alloc (.cells #[.int .i64 0, .int .i64 0, .int .i64 0, .int .i64 0, .int .i64 0, .int .i64 0, .int .i64 0, .int .i64 0, .int .i64 0, .int .i64 0, .int .i64 0, .int .i64 0, .int .i64 0, .int .i64 0, .int .i64 0, .int .i64 0, .int .i64 0, .int .i64 0, .int .i64 0, .int .i64 0, .int .i64 0, .int .i64 0, .int .i64 0, .int .i64 0, .int .i64 0, .int .i64 0, .int .i64 0, .int .i64 0, .int .i64 0, .int .i64 0, .int .i64 0, .int .i64 0, .int .i64 0, .int .i64 0, .int .i64 0, .int .i64 0, .int .i64 0, .int .i64 0, .int .i64 0, .int .i64 0, .int .i64 0, .int .i64 0, .int .i64 0, .int .i64 0, .int .i64 0, .int .i64 0, .int .i64 0, .int .i64 0, .int .i64 0, .int .i64 0, .int .i64 0, .int .i64 0, .int .i64 0, .int .i64 0, .int .i64 0, .int .i64 0, .int .i64 0, .int .i64 0, .int .i64 0, .int .i64 0, .int .i64 0, .int .i64 0, .int .i64 0, .int .i64 0] 72)).setRow W.heap.size (I64 Q.cells).toArray := ⟨_, rfl⟩
 obtain ⟨Xq, hE⟩ : ∃ E, E = W.heap.size := ⟨_, rfl⟩
 rw [← hVV] at fr pa vP vD Aq ⊢
 rw [← hE] at Aq hXq ⊢
 clear hVV hE q1 bV
 try simp only [Act.put]
 go_cut [6] from 10 (fun s6 wc => ∃ (Xf : Nat), s6 = .pointer (some ⟨Xf, 0, none⟩) ∧ Arr wc Xf 70 (I64 f) ∧ Below w.heap.size w wc ∧ Arr wc w.heap.size 72 (I64 P.cells) ∧ Vr wc 4 (I64 PL) ∧ Vr wc 2 (I64 DL) ∧ Arr wc Xq 72 (I64 Q.cells) ∧ w.heap.size < Xf)
 case first =>
  have bD : Below V1.heap.size V1 V1.drew := (Below.refl _ _).drew
  replace fr := fr.trans (bD.mono fr.size)
  replace pa := pa.kept bD
  replace vP := vP.kept bD
  replace vD := vD.kept bD
  replace Aq := Aq.kept bD
  clear bD
  refine wp_region_held_drew (S := fun W => W.rangeAt w.heap.size 0 (I64 P.a) ∧ W.rangeAt Xq 16 (I64 Q.b) ∧ W.rangeAt w.heap.size 16 (I64 P.b) ∧ W.rangeAt Xq 0 (I64 Q.a)) (by kernel_rfl) ⟨E4.ra pa, E4.rb hQ Aq, E4.rb hP pa, E4.ra Aq⟩ (fun hHeld => ?_)
  obtain ⟨D2, hD⟩ : ∃ V, V = V1.drew := ⟨_, rfl⟩
  rw [← hD] at hHeld fr pa vP vD Aq ⊢
  clear hD
  refine wpAnyH_take (i := 0) (oi := { dst := some 12, op := Op.fieldAddr 72 (Operand.tmp 2) 0, type := 0, pos := "l06_point.go:165", after := #[], guard := none }) (v := .pointer (some ⟨w.heap.size, 0, none⟩)) rfl (by kernel_rfl) (by kernel_rfl) (by kernel_rfl) (fun _ _ _ h => h) (.inl ⟨by rfl, fun _ _ => by rfl⟩) (by assumption) ?_
  simp only [Act.put, List.setIfInBounds_toArray, List.set_cons_zero, List.set_cons_succ]
  refine wpAnyH_take (i := 1) (oi := { dst := some 13, op := Op.load 70 (Operand.tmp 12), type := 70, pos := "l06_point.go:165", after := #[{ on := 0, ground := Ground.data }], guard := none }) (v := _) rfl (by kernel_rfl) (by kernel_rfl) (by kernel_rfl) (fun _ _ _ h => h) (yieldsIf_load_mid (by rfl) _ _ rfl _ _ rfl (I64 P.a) _ (fun _ h => h.1) hu rfl iPa) (by assumption) ?_
  simp only [Act.put, List.setIfInBounds_toArray, List.set_cons_zero, List.set_cons_succ]
  refine wpAnyH_take (i := 2) (oi := { dst := some 14, op := Op.fieldAddr 72 (Operand.tmp 5) 1, type := 0, pos := "l06_point.go:165", after := #[], guard := none }) (v := .pointer (some ⟨Xq, 16, none⟩)) rfl (by kernel_rfl) (by kernel_rfl) (by kernel_rfl) (fun _ _ _ h => h) (.inl ⟨by rfl, fun _ _ => by rfl⟩) (by assumption) ?_
  simp only [Act.put, List.setIfInBounds_toArray, List.set_cons_zero, List.set_cons_succ]
  refine wpAnyH_take (i := 3) (oi := { dst := some 15, op := Op.load 70 (Operand.tmp 14), type := 70, pos := "l06_point.go:165", after := #[{ on := 2, ground := Ground.data }], guard := none }) (v := _) rfl (by kernel_rfl) (by kernel_rfl) (by kernel_rfl) (fun _ _ _ h => h) (yieldsIf_load_mid (by rfl) _ _ rfl _ _ rfl (I64 Q.b) _ (fun _ h => h.2.1) hu rfl iQb) (by assumption) ?_
  simp only [Act.put, List.setIfInBounds_toArray, List.set_cons_zero, List.set_cons_succ]
  refine wpAnyH_take (i := 5) (oi := { dst := some 17, op := Op.fieldAddr 72 (Operand.tmp 2) 1, type := 0, pos := "l06_point.go:165", after := #[], guard := none }) (v := .pointer (some ⟨w.heap.size, 16, none⟩)) rfl (by kernel_rfl) (by kernel_rfl) (by kernel_rfl) (fun _ _ _ h => h) (.inl ⟨by rfl, fun _ _ => by rfl⟩) (by assumption) ?_
  simp only [Act.put, List.setIfInBounds_toArray, List.set_cons_zero, List.set_cons_succ]
  refine wpAnyH_take (i := 6) (oi := { dst := some 18, op := Op.load 70 (Operand.tmp 17), type := 70, pos := "l06_point.go:165", after := #[{ on := 5, ground := Ground.data }], guard := none }) (v := _) rfl (by kernel_rfl) (by kernel_rfl) (by kernel_rfl) (fun _ _ _ h => h) (yieldsIf_load_mid (by rfl) _ _ rfl _ _ rfl (I64 P.b) _ (fun _ h => h.2.2.1) hu rfl iPb) (by assumption) ?_
  simp only [Act.put, List.setIfInBounds_toArray, List.set_cons_zero, List.set_cons_succ]
  refine wpAnyH_take (i := 7) (oi := { dst := some 19, op := Op.fieldAddr 72 (Operand.tmp 5) 0, type := 0, pos := "l06_point.go:165", after := #[], guard := none }) (v := .pointer (some ⟨Xq, 0, none⟩)) rfl (by kernel_rfl) (by kernel_rfl) (by kernel_rfl) (fun _ _ _ h => h) (.inl ⟨by rfl, fun _ _ => by rfl⟩) (by assumption) ?_
  simp only [Act.put, List.setIfInBounds_toArray, List.set_cons_zero, List.set_cons_succ]
  refine wpAnyH_take (i := 8) (oi := { dst := some 20, op := Op.load 70 (Operand.tmp 19), type := 70, pos := "l06_point.go:165", after := #[{ on := 7, ground := Ground.data }], guard := none }) (v := _) rfl (by kernel_rfl) (by kernel_rfl) (by kernel_rfl) (fun _ _ _ h => h) (yieldsIf_load_mid (by rfl) _ _ rfl _ _ rfl (I64 Q.a) _ (fun _ h => h.2.2.2) hu rfl iQa) (by assumption) ?_
  simp only [Act.put, List.setIfInBounds_toArray, List.set_cons_zero, List.set_cons_succ]
  refine wpAnyH_ready (rs := [4, 11]) (by kernel_rfl) (by simp) (AllReadyH.cons (o := { dst := some 16, op := Op.call { callee := Callee.value (Operand.func 104), args := #[Operand.tmp 13, Operand.tmp 15], argTypes := #[70, 70] }, type := 70, pos := "l06_point.go:165", after := #[{ on := 1, ground := Ground.data }, { on := 3, ground := Ground.data }], guard := none }) rfl (fun K hK => ?_) (AllReadyH.cons (o := { dst := some 6, op := Op.alloc 70, type := 0, pos := "l06_point.go:165", after := #[], guard := none }) rfl (fun K hK => ?_) AllReadyH.nil))
  ·skip
   go_simp
   refine (Hf1.out _ vP).mono ?_
   rintro e y3 ⟨rfl, hb3⟩
   replace fr := fr.trans (hb3.mono fr.size)
   replace pa := pa.kept hb3
   replace vP := vP.kept hb3
   replace vD := vD.kept hb3
   replace Aq := Aq.kept hb3
   clear hb3
   go_wp2_with fail
   refine hK.out _ _ ⟨E4.ra pa, E4.rb hQ Aq, E4.rb hP pa, E4.ra Aq⟩ (fun hHeld => ?_)
   clear hK K
   refine wpAnyH_ready (rs := [9, 11]) (by kernel_rfl) (by simp) (AllReadyH.cons (o := { dst := some 21, op := Op.call { callee := Callee.value (Operand.func 104), args := #[Operand.tmp 18, Operand.tmp 20], argTypes := #[70, 70] }, type := 70, pos := "l06_point.go:165", after := #[{ on := 6, ground := Ground.data }, { on := 8, ground := Ground.data }, { on := 4, ground := Ground.chain }], guard := none }) rfl (fun K hK => ?_) (AllReadyH.cons (o := { dst := some 6, op := Op.alloc 70, type := 0, pos := "l06_point.go:165", after := #[], guard := none }) rfl (fun K hK => ?_) AllReadyH.nil))
   ·skip
    go_simp
    refine (Hf2.out _ vP).mono ?_
    rintro e y4 ⟨rfl, hb4⟩
    replace fr := fr.trans (hb4.mono fr.size)
    replace pa := pa.kept hb4
    replace vP := vP.kept hb4
    replace vD := vD.kept hb4
    replace Aq := Aq.kept hb4
    clear hb4
    go_wp2_with fail
    refine hK.out _ _ ⟨E4.ra pa, E4.rb hQ Aq, E4.rb hP pa, E4.ra Aq⟩ (fun hHeld => ?_)
    clear hK K
    refine wpAnyH_ready (rs := [10, 11]) (by kernel_rfl) (by simp) (AllReadyH.cons (o := { dst := some 22, op := Op.call { callee := Callee.value (Operand.func 105), args := #[Operand.tmp 16, Operand.tmp 21], argTypes := #[70, 70] }, type := 70, pos := "l06_point.go:165", after := #[{ on := 4, ground := Ground.data }, { on := 9, ground := Ground.data }, { on := 9, ground := Ground.chain }], guard := none }) rfl (fun K hK => ?_) (AllReadyH.cons (o := { dst := some 6, op := Op.alloc 70, type := 0, pos := "l06_point.go:165", after := #[], guard := none }) rfl (fun K hK => ?_) AllReadyH.nil))
    ·skip
     go_simp
     refine (Hf.out _ vP).mono ?_
     rintro e y5 ⟨rfl, hb5⟩
     replace fr := fr.trans (hb5.mono fr.size)
     replace pa := pa.kept hb5
     replace vP := vP.kept hb5
     replace vD := vD.kept hb5
     replace Aq := Aq.kept hb5
     clear hb5
     go_wp2_with fail
     refine hK.out _ _ ⟨E4.ra pa, E4.rb hQ Aq, E4.rb hP pa, E4.ra Aq⟩ (fun hHeld => ?_)
     clear hK K
     refine wpAnyH_ready (rs := [11]) (by kernel_rfl) (by simp) (AllReadyH.cons (o := { dst := some 6, op := Op.alloc 70, type := 0, pos := "l06_point.go:165", after := #[], guard := none }) rfl (fun K hK => ?_) AllReadyH.nil)
     go_simp
     obtain ⟨V6, hVe⟩ : ∃ V, V = y5.alloc (.cells #[.int .i64 0, .int .i64 0, .int .i64 0, .int .i64 0, .int .i64 0, .int .i64 0, .int .i64 0, .int .i64 0, .int .i64 0, .int .i64 0, .int .i64 0, .int .i64 0, .int .i64 0, .int .i64 0, .int .i64 0, .int .i64 0] 70) := ⟨_, rfl⟩
     have bV : Below y5.heap.size y5 V6 := by rw [hVe]; exact (Below.refl _ _).alloc (Nat.le_refl _) _
     have Af : Arr V6 y5.heap.size 70 (I64 Z16) := by rw [hVe]; exact Arr.new _ (I64 Z16) _
     have hXf : w.heap.size < y5.heap.size ∧ Xq < y5.heap.size ∧ True := ⟨pa.lt, Aq.lt, trivial⟩
     obtain ⟨Xf, hXe⟩ : ∃ X, X = y5.heap.size := ⟨_, rfl⟩
     replace fr := fr.trans (bV.mono fr.size)
     replace pa := pa.kept bV
     replace vP := vP.kept bV
     replace vD := vD.kept bV
     replace Aq := Aq.kept bV
     rw [← hVe]
     rw [← hXe] at Af hXf ⊢
     clear hVe hXe bV
     refine hK.out _ _ ⟨E4.ra pa, E4.rb hQ Aq, E4.rb hP pa, E4.ra Aq⟩ (fun hHeld => ?_)
     clear hK K
     refine wpAnyH_ready (rs := [12]) (by kernel_rfl) (by simp) (AllReadyH.cons (o := qOc0) rfl (fun K hK => ?_) AllReadyH.nil)
     rw [if_pos (by rfl)]
     refine wp_store_mid _ _ _ rfl _ _ (I64 f).toArray rfl rfl (by have := arr_there Af; simpa [nf] using this) jf (all_oneCell_toArray uf) ?_
     simp only [Act.put]
     replace fr := bel_sc fr Xf (I64 f) (by omega)
     replace pa := pa.sc Xf (I64 f) (by omega)
     replace vP := vP.sc Xf (I64 f) (by omega)
     replace vD := vD.sc Xf (I64 f) (by omega)
     replace Aq := Aq.sc Xf (I64 f) (by omega)
     replace Af := Af.sc0 (I64 f) (by simp [nf])
     obtain ⟨V7, hVe⟩ : ∃ V, V = V6.setCells Xf 0 (I64 f) := ⟨_, rfl⟩
     rw [← hVe] at fr pa vP vD Aq Af ⊢
     clear hVe
     refine hK.out _ _ ⟨E4.ra pa, E4.rb hQ Aq, E4.rb hP pa, E4.ra Aq⟩ (fun hHeld => ?_)
     clear hK K
     refine wpAnyH_done (by kernel_rfl) ?_ _
     go_wp2
     go_meet
     case rel => exact ⟨Xf, rfl, Af, fr, pa, vP, vD, Aq, (by omega)⟩
    ·skip
     go_simp
     obtain ⟨V8, hVe⟩ : ∃ V, V = y4.alloc (.cells #[.int .i64 0, .int .i64 0, .int .i64 0, .int .i64 0, .int .i64 0, .int .i64 0, .int .i64 0, .int .i64 0, .int .i64 0, .int .i64 0, .int .i64 0, .int .i64 0, .int .i64 0, .int .i64 0, .int .i64 0, .int .i64 0] 70) := ⟨_, rfl⟩
     have bV : Below y4.heap.size y4 V8 := by rw [hVe]; exact (Below.refl _ _).alloc (Nat.le_refl _) _
     have Af : Arr V8 y4.heap.size 70 (I64 Z16) := by rw [hVe]; exact Arr.new _ (I64 Z16) _
     have hXf : w.heap.size < y4.heap.size ∧ Xq < y4.heap.size ∧ True := ⟨pa.lt, Aq.lt, trivial⟩
     obtain ⟨Xf, hXe⟩ : ∃ X, X = y4.heap.size := ⟨_, rfl⟩
     replace fr := fr.trans (bV.mono fr.size)
     replace pa := pa.kept bV
     replace vP := vP.kept bV
     replace vD := vD.kept bV
     replace Aq := Aq.kept bV
     rw [← hVe]
     rw [← hXe] at Af hXf ⊢
     clear hVe hXe bV
     refine hK.out _ _ ⟨E4.ra pa, E4.rb hQ Aq, E4.rb hP pa, E4.ra Aq⟩ (fun hHeld => ?_)
     clear hK K
     refine wpAnyH_ready (rs := [10]) (by kernel_rfl) (by simp) (AllReadyH.cons (o := { dst := some 22, op := Op.call { callee := Callee.value (Operand.func 105), args := #[Operand.tmp 16, Operand.tmp 21], argTypes := #[70, 70] }, type := 70, pos := "l06_point.go:165", after := #[{ on := 4, ground := Ground.data }, { on := 9, ground := Ground.data }, { on := 9, ground := Ground.chain }], guard := none }) rfl (fun K hK => ?_) AllReadyH.nil)
     go_simp
     refine (Hf.out _ vP).mono ?_
     rintro e y9 ⟨rfl, hb9⟩
     replace fr := fr.trans (hb9.mono fr.size)
     replace pa := pa.kept hb9
     replace vP := vP.kept hb9
     replace vD := vD.kept hb9
     replace Aq := Aq.kept hb9
     replace Af := Af.kept hb9
     clear hb9
     go_wp2_with fail
     refine hK.out _ _ ⟨E4.ra pa, E4.rb hQ Aq, E4.rb hP pa, E4.ra Aq⟩ (fun hHeld => ?_)
     clear hK K
     refine wpAnyH_ready (rs := [12]) (by kernel_rfl) (by simp) (AllReadyH.cons (o := qOc0) rfl (fun K hK => ?_) AllReadyH.nil)
     rw [if_pos (by rfl)]
     refine wp_store_mid _ _ _ rfl _ _ (I64 f).toArray rfl rfl (by have := arr_there Af; simpa [nf] using this) jf (all_oneCell_toArray uf) ?_
     simp only [Act.put]
     replace fr := bel_sc fr Xf (I64 f) (by omega)
     replace pa := pa.sc Xf (I64 f) (by omega)
     replace vP := vP.sc Xf (I64 f) (by omega)
     replace vD := vD.sc Xf (I64 f) (by omega)
     replace Aq := Aq.sc Xf (I64 f) (by omega)
     replace Af := Af.sc0 (I64 f) (by simp [nf])
     obtain ⟨V10, hVe⟩ : ∃ V, V = y9.setCells Xf 0 (I64 f) := ⟨_, rfl⟩
     rw [← hVe] at fr pa vP vD Aq Af ⊢
     clear hVe
     refine hK.out _ _ ⟨E4.ra pa, E4.rb hQ Aq, E4.rb hP pa, E4.ra Aq⟩ (fun hHeld => ?_)
     clear hK K
     refine wpAnyH_done (by kernel_rfl) ?_ _
     go_wp2
     go_meet
     case rel => exact ⟨Xf, rfl, Af, fr, pa, vP, vD, Aq, (by omega)⟩
   ·skip
    go_simp
    obtain ⟨V11, hVe⟩ : ∃ V, V = y3.alloc (.cells #[.int .i64 0, .int .i64 0, .int .i64 0, .int .i64 0, .int .i64 0, .int .i64 0, .int .i64 0, .int .i64 0, .int .i64 0, .int .i64 0, .int .i64 0, .int .i64 0, .int .i64 0, .int .i64 0, .int .i64 0, .int .i64 0] 70) := ⟨_, rfl⟩
    have bV : Below y3.heap.size y3 V11 := by rw [hVe]; exact (Below.refl _ _).alloc (Nat.le_refl _) _
    have Af : Arr V11 y3.heap.size 70 (I64 Z16) := by rw [hVe]; exact Arr.new _ (I64 Z16) _
    have hXf : w.heap.size < y3.heap.size ∧ Xq < y3.heap.size ∧ True := ⟨pa.lt, Aq.lt, trivial⟩
    obtain ⟨Xf, hXe⟩ : ∃ X, X = y3.heap.size := ⟨_, rfl⟩
    replace fr := fr.trans (bV.mono fr.size)
    replace pa := pa.kept bV
    replace vP := vP.kept bV
    replace vD := vD.kept bV
    replace Aq := Aq.kept bV
    rw [← hVe]
    rw [← hXe] at Af hXf ⊢
    clear hVe hXe bV
    refine hK.out _ _ ⟨E4.ra pa, E4.rb hQ Aq, E4.rb hP pa, E4.ra Aq⟩ (fun hHeld => ?_)
    clear hK K
    refine wpAnyH_ready (rs := [9]) (by kernel_rfl) (by simp) (AllReadyH.cons (o := { dst := some 21, op := Op.call { callee := Callee.value (Operand.func 104), args := #[Operand.tmp 18, Operand.tmp 20], argTypes := #[70, 70] }, type := 70, pos := "l06_point.go:165", after := #[{ on := 6, ground := Ground.data }, { on := 8, ground := Ground.data }, { on := 4, ground := Ground.chain }], guard := none }) rfl (fun K hK => ?_) AllReadyH.nil)
    go_simp
    refine (Hf2.out _ vP).mono ?_
    rintro e y12 ⟨rfl, hb12⟩
    replace fr := fr.trans (hb12.mono fr.size)
    replace pa := pa.kept hb12
    replace vP := vP.kept hb12
    replace vD := vD.kept hb12
    replace Aq := Aq.kept hb12
    replace Af := Af.kept hb12
    clear hb12
    go_wp2_with fail
    refine hK.out _ _ ⟨E4.ra pa, E4.rb hQ Aq, E4.rb hP pa, E4.ra Aq⟩ (fun hHeld => ?_)
    clear hK K
    refine wpAnyH_ready (rs := [10]) (by kernel_rfl) (by simp) (AllReadyH.cons (o := { dst := some 22, op := Op.call { callee := Callee.value (Operand.func 105), args := #[Operand.tmp 16, Operand.tmp 21], argTypes := #[70, 70] }, type := 70, pos := "l06_point.go:165", after := #[{ on := 4, ground := Ground.data }, { on := 9, ground := Ground.data }, { on := 9, ground := Ground.chain }], guard := none }) rfl (fun K hK => ?_) AllReadyH.nil)
    go_simp
    refine (Hf.out _ vP).mono ?_
    rintro e y13 ⟨rfl, hb13⟩
    replace fr := fr.trans (hb13.mono fr.size)
    replace pa := pa.kept hb13
    replace vP := vP.kept hb13
    replace vD := vD.kept hb13
    replace Aq := Aq.kept hb13
    replace Af := Af.kept hb13
    clear hb13
    go_wp2_with fail
    refine hK.out _ _ ⟨E4.ra pa, E4.rb hQ Aq, E4.rb hP pa, E4.ra Aq⟩ (fun hHeld => ?_)
    clear hK K
    refine wpAnyH_ready (rs := [12]) (by kernel_rfl) (by simp) (AllReadyH.cons (o := qOc0) rfl (fun K hK => ?_) AllReadyH.nil)
    rw [if_pos (by rfl)]
    refine wp_store_mid _ _ _ rfl _ _ (I64 f).toArray rfl rfl (by have := arr_there Af; simpa [nf] using this) jf (all_oneCell_toArray uf) ?_
    simp only [Act.put]
    replace fr := bel_sc fr Xf (I64 f) (by omega)
    replace pa := pa.sc Xf (I64 f) (by omega)
    replace vP := vP.sc Xf (I64 f) (by omega)
    replace vD := vD.sc Xf (I64 f) (by omega)
    replace Aq := Aq.sc Xf (I64 f) (by omega)
    replace Af := Af.sc0 (I64 f) (by simp [nf])
    obtain ⟨V14, hVe⟩ : ∃ V, V = y13.setCells Xf 0 (I64 f) := ⟨_, rfl⟩
    rw [← hVe] at fr pa vP vD Aq Af ⊢
    clear hVe
    refine hK.out _ _ ⟨E4.ra pa, E4.rb hQ Aq, E4.rb hP pa, E4.ra Aq⟩ (fun hHeld => ?_)
    clear hK K
    refine wpAnyH_done (by kernel_rfl) ?_ _
    go_wp2
    go_meet
    case rel => exact ⟨Xf, rfl, Af, fr, pa, vP, vD, Aq, (by omega)⟩
  ·skip
   go_simp
   obtain ⟨V15, hVe⟩ : ∃ V, V = D2.alloc (.cells #[.int .i64 0, .int .i64 0, .int .i64 0, .int .i64 0, .int .i64 0, .int .i64 0, .int .i64 0, .int .i64 0, .int .i64 0, .int .i64 0, .int .i64 0, .int .i64 0, .int .i64 0, .int .i64 0, .int .i64 0, .int .i64 0] 70) := ⟨_, rfl⟩
   have bV : Below D2.heap.size D2 V15 := by rw [hVe]; exact (Below.refl _ _).alloc (Nat.le_refl _) _
   have Af : Arr V15 D2.heap.size 70 (I64 Z16) := by rw [hVe]; exact Arr.new _ (I64 Z16) _
   have hXf : w.heap.size < D2.heap.size ∧ Xq < D2.heap.size ∧ True := ⟨pa.lt, Aq.lt, trivial⟩
   obtain ⟨Xf, hXe⟩ : ∃ X, X = D2.heap.size := ⟨_, rfl⟩
   replace fr := fr.trans (bV.mono fr.size)
   replace pa := pa.kept bV
   replace vP := vP.kept bV
   replace vD := vD.kept bV
   replace Aq := Aq.kept bV
   rw [← hVe]
   rw [← hXe] at Af hXf ⊢
   clear hVe hXe bV
   refine hK.out _ _ ⟨E4.ra pa, E4.rb hQ Aq, E4.rb hP pa, E4.ra Aq⟩ (fun hHeld => ?_)
   clear hK K
   refine wpAnyH_ready (rs := [4]) (by kernel_rfl) (by simp) (AllReadyH.cons (o := { dst := some 16, op := Op.call { callee := Callee.value (Operand.func 104), args := #[Operand.tmp 13, Operand.tmp 15], argTypes := #[70, 70] }, type := 70, pos := "l06_point.go:165", after := #[{ on := 1, ground := Ground.data }, { on := 3, ground := Ground.data }], guard := none }) rfl (fun K hK => ?_) AllReadyH.nil)
   go_simp
   refine (Hf1.out _ vP).mono ?_
   rintro e y16 ⟨rfl, hb16⟩
   replace fr := fr.trans (hb16.mono fr.size)
   replace pa := pa.kept hb16
   replace vP := vP.kept hb16
   replace vD := vD.kept hb16
   replace Aq := Aq.kept hb16
   replace Af := Af.kept hb16
   clear hb16
   go_wp2_with fail
   refine hK.out _ _ ⟨E4.ra pa, E4.rb hQ Aq, E4.rb hP pa, E4.ra Aq⟩ (fun hHeld => ?_)
   clear hK K
   refine wpAnyH_ready (rs := [9]) (by kernel_rfl) (by simp) (AllReadyH.cons (o := { dst := some 21, op := Op.call { callee := Callee.value (Operand.func 104), args := #[Operand.tmp 18, Operand.tmp 20], argTypes := #[70, 70] }, type := 70, pos := "l06_point.go:165", after := #[{ on := 6, ground := Ground.data }, { on := 8, ground := Ground.data }, { on := 4, ground := Ground.chain }], guard := none }) rfl (fun K hK => ?_) AllReadyH.nil)
   go_simp
   refine (Hf2.out _ vP).mono ?_
   rintro e y17 ⟨rfl, hb17⟩
   replace fr := fr.trans (hb17.mono fr.size)
   replace pa := pa.kept hb17
   replace vP := vP.kept hb17
   replace vD := vD.kept hb17
   replace Aq := Aq.kept hb17
   replace Af := Af.kept hb17
   clear hb17
   go_wp2_with fail
   refine hK.out _ _ ⟨E4.ra pa, E4.rb hQ Aq, E4.rb hP pa, E4.ra Aq⟩ (fun hHeld => ?_)
   clear hK K
   refine wpAnyH_ready (rs := [10]) (by kernel_rfl) (by simp) (AllReadyH.cons (o := { dst := some 22, op := Op.call { callee := Callee.value (Operand.func 105), args := #[Operand.tmp 16, Operand.tmp 21], argTypes := #[70, 70] }, type := 70, pos := "l06_point.go:165", after := #[{ on := 4, ground := Ground.data }, { on := 9, ground := Ground.data }, { on := 9, ground := Ground.chain }], guard := none }) rfl (fun K hK => ?_) AllReadyH.nil)
   go_simp
   refine (Hf.out _ vP).mono ?_
   rintro e y18 ⟨rfl, hb18⟩
   replace fr := fr.trans (hb18.mono fr.size)
   replace pa := pa.kept hb18
   replace vP := vP.kept hb18
   replace vD := vD.kept hb18
   replace Aq := Aq.kept hb18
   replace Af := Af.kept hb18
   clear hb18
   go_wp2_with fail
   refine hK.out _ _ ⟨E4.ra pa, E4.rb hQ Aq, E4.rb hP pa, E4.ra Aq⟩ (fun hHeld => ?_)
   clear hK K
   refine wpAnyH_ready (rs := [12]) (by kernel_rfl) (by simp) (AllReadyH.cons (o := qOc0) rfl (fun K hK => ?_) AllReadyH.nil)
   rw [if_pos (by rfl)]
   refine wp_store_mid _ _ _ rfl _ _ (I64 f).toArray rfl rfl (by have := arr_there Af; simpa [nf] using this) jf (all_oneCell_toArray uf) ?_
   simp only [Act.put]
   replace fr := bel_sc fr Xf (I64 f) (by omega)
   replace pa := pa.sc Xf (I64 f) (by omega)
   replace vP := vP.sc Xf (I64 f) (by omega)
   replace vD := vD.sc Xf (I64 f) (by omega)
   replace Aq := Aq.sc Xf (I64 f) (by omega)
   replace Af := Af.sc0 (I64 f) (by simp [nf])
   obtain ⟨V19, hVe⟩ : ∃ V, V = y18.setCells Xf 0 (I64 f) := ⟨_, rfl⟩
   rw [← hVe] at fr pa vP vD Aq Af ⊢
   clear hVe
   refine hK.out _ _ ⟨E4.ra pa, E4.rb hQ Aq, E4.rb hP pa, E4.ra Aq⟩ (fun hHeld => ?_)
   clear hK K
   refine wpAnyH_done (by kernel_rfl) ?_ _
   go_wp2
   go_meet
   case rel => exact ⟨Xf, rfl, Af, fr, pa, vP, vD, Aq, (by omega)⟩
 case rest =>
  clear fr pa vP vD Aq
  obtain ⟨Xf, rfl, Af, fr, pa, vP, vD, Aq, hq0⟩ := hcut
  obtain ⟨C20, hwc⟩ : ∃ V, V = wc := ⟨_, rfl⟩
  rw [← hwc] at fr pa vP vD Aq Af ⊢
  clear hwc
  go_wp2
  try simp only [Act.put]
  go_cut [7] from 10 (fun s7 wc => ∃ (Xk : Nat), s7 = .pointer (some ⟨Xk, 0, none⟩) ∧ Arr wc Xk 70 (I64 k) ∧ Below w.heap.size w wc ∧ Arr wc w.heap.size 72 (I64 P.cells) ∧ Vr wc 4 (I64 PL) ∧ Vr wc 2 (I64 DL) ∧ Arr wc Xq 72 (I64 Q.cells) ∧ Arr wc Xf 70 (I64 f) ∧ w.heap.size < Xk)
  case first =>
   have bD : Below C20.heap.size C20 C20.drew := (Below.refl _ _).drew
   replace fr := fr.trans (bD.mono fr.size)
   replace pa := pa.kept bD
   replace vP := vP.kept bD
   replace vD := vD.kept bD
   replace Aq := Aq.kept bD
   replace Af := Af.kept bD
   clear bD
   refine wp_region_held_drew (S := fun W => W.rangeAt w.heap.size 16 (I64 P.b) ∧ W.rangeAt Xq 16 (I64 Q.b) ∧ W.rangeAt w.heap.size 0 (I64 P.a) ∧ W.rangeAt Xq 0 (I64 Q.a)) (by kernel_rfl) ⟨E4.rb hP pa, E4.rb hQ Aq, E4.ra pa, E4.ra Aq⟩ (fun hHeld => ?_)
   obtain ⟨D21, hD⟩ : ∃ V, V = C20.drew := ⟨_, rfl⟩
   rw [← hD] at hHeld fr pa vP vD Aq Af ⊢
   clear hD
   refine wpAnyH_take (i := 0) (oi := { dst := some 23, op := Op.fieldAddr 72 (Operand.tmp 2) 1, type := 0, pos := "l06_point.go:166", after := #[], guard := none }) (v := .pointer (some ⟨w.heap.size, 16, none⟩)) rfl (by kernel_rfl) (by kernel_rfl) (by kernel_rfl) (fun _ _ _ h => h) (.inl ⟨by rfl, fun _ _ => by rfl⟩) (by assumption) ?_
   simp only [Act.put, List.setIfInBounds_toArray, List.set_cons_zero, List.set_cons_succ]
   refine wpAnyH_take (i := 1) (oi := { dst := some 24, op := Op.load 70 (Operand.tmp 23), type := 70, pos := "l06_point.go:166", after := #[{ on := 0, ground := Ground.data }], guard := none }) (v := _) rfl (by kernel_rfl) (by kernel_rfl) (by kernel_rfl) (fun _ _ _ h => h) (yieldsIf_load_mid (by rfl) _ _ rfl _ _ rfl (I64 P.b) _ (fun _ h => h.1) hu rfl iPb) (by assumption) ?_
   simp only [Act.put, List.setIfInBounds_toArray, List.set_cons_zero, List.set_cons_succ]
   refine wpAnyH_take (i := 2) (oi := { dst := some 25, op := Op.fieldAddr 72 (Operand.tmp 5) 1, type := 0, pos := "l06_point.go:166", after := #[], guard := none }) (v := .pointer (some ⟨Xq, 16, none⟩)) rfl (by kernel_rfl) (by kernel_rfl) (by kernel_rfl) (fun _ _ _ h => h) (.inl ⟨by rfl, fun _ _ => by rfl⟩) (by assumption) ?_
   simp only [Act.put, List.setIfInBounds_toArray, List.set_cons_zero, List.set_cons_succ]
   refine wpAnyH_take (i := 3) (oi := { dst := some 26, op := Op.load 70 (Operand.tmp 25), type := 70, pos := "l06_point.go:166", after := #[{ on := 2, ground := Ground.data }], guard := none }) (v := _) rfl (by kernel_rfl) (by kernel_rfl) (by kernel_rfl) (fun _ _ _ h => h) (yieldsIf_load_mid (by rfl) _ _ rfl _ _ rfl (I64 Q.b) _ (fun _ h => h.2.1) hu rfl iQb) (by assumption) ?_
   simp only [Act.put, List.setIfInBounds_toArray, List.set_cons_zero, List.set_cons_succ]
   refine wpAnyH_take (i := 5) (oi := { dst := some 28, op := Op.fieldAddr 72 (Operand.tmp 2) 0, type := 0, pos := "l06_point.go:166", after := #[], guard := none }) (v := .pointer (some ⟨w.heap.size, 0, none⟩)) rfl (by kernel_rfl) (by kernel_rfl) (by kernel_rfl) (fun _ _ _ h => h) (.inl ⟨by rfl, fun _ _ => by rfl⟩) (by assumption) ?_
   simp only [Act.put, List.setIfInBounds_toArray, List.set_cons_zero, List.set_cons_succ]
   refine wpAnyH_take (i := 6) (oi := { dst := some 29, op := Op.load 70 (Operand.tmp 28), type := 70, pos := "l06_point.go:166", after := #[{ on := 5, ground := Ground.data }], guard := none }) (v := _) rfl (by kernel_rfl) (by kernel_rfl) (by kernel_rfl) (fun _ _ _ h => h) (yieldsIf_load_mid (by rfl) _ _ rfl _ _ rfl (I64 P.a) _ (fun _ h => h.2.2.1) hu rfl iPa) (by assumption) ?_
   simp only [Act.put, List.setIfInBounds_toArray, List.set_cons_zero, List.set_cons_succ]
   refine wpAnyH_take (i := 7) (oi := { dst := some 30, op := Op.fieldAddr 72 (Operand.tmp 5) 0, type := 0, pos := "l06_point.go:166", after := #[], guard := none }) (v := .pointer (some ⟨Xq, 0, none⟩)) rfl (by kernel_rfl) (by kernel_rfl) (by kernel_rfl) (fun _ _ _ h => h) (.inl ⟨by rfl, fun _ _ => by rfl⟩) (by assumption) ?_
   simp only [Act.put, List.setIfInBounds_toArray, List.set_cons_zero, List.set_cons_succ]
   refine wpAnyH_take (i := 8) (oi := { dst := some 31, op := Op.load 70 (Operand.tmp 30), type := 70, pos := "l06_point.go:166", after := #[{ on := 7, ground := Ground.data }], guard := none }) (v := _) rfl (by kernel_rfl) (by kernel_rfl) (by kernel_rfl) (fun _ _ _ h => h) (yieldsIf_load_mid (by rfl) _ _ rfl _ _ rfl (I64 Q.a) _ (fun _ h => h.2.2.2) hu rfl iQa) (by assumption) ?_
   simp only [Act.put, List.setIfInBounds_toArray, List.set_cons_zero, List.set_cons_succ]
   refine wpAnyH_ready (rs := [4, 11]) (by kernel_rfl) (by simp) (AllReadyH.cons (o := { dst := some 27, op := Op.call { callee := Callee.value (Operand.func 104), args := #[Operand.tmp 24, Operand.tmp 26], argTypes := #[70, 70] }, type := 70, pos := "l06_point.go:166", after := #[{ on := 1, ground := Ground.data }, { on := 3, ground := Ground.data }], guard := none }) rfl (fun K hK => ?_) (AllReadyH.cons (o := { dst := some 7, op := Op.alloc 70, type := 0, pos := "l06_point.go:166", after := #[], guard := none }) rfl (fun K hK => ?_) AllReadyH.nil))
   ·skip
    go_simp
    refine (Hk1.out _ vP).mono ?_
    rintro e y22 ⟨rfl, hb22⟩
    replace fr := fr.trans (hb22.mono fr.size)
    replace pa := pa.kept hb22
    replace vP := vP.kept hb22
    replace vD := vD.kept hb22
    replace Aq := Aq.kept hb22
    replace Af := Af.kept hb22
    clear hb22
    go_wp2_with fail
    refine hK.out _ _ ⟨E4.rb hP pa, E4.rb hQ Aq, E4.ra pa, E4.ra Aq⟩ (fun hHeld => ?_)
    clear hK K
    refine wpAnyH_ready (rs := [9, 11]) (by kernel_rfl) (by simp) (AllReadyH.cons (o := { dst := some 32, op := Op.call { callee := Callee.value (Operand.func 104), args := #[Operand.tmp 29, Operand.tmp 31], argTypes := #[70, 70] }, type := 70, pos := "l06_point.go:166", after := #[{ on := 6, ground := Ground.data }, { on := 8, ground := Ground.data }, { on := 4, ground := Ground.chain }], guard := none }) rfl (fun K hK => ?_) (AllReadyH.cons (o := { dst := some 7, op := Op.alloc 70, type := 0, pos := "l06_point.go:166", after := #[], guard := none }) rfl (fun K hK => ?_) AllReadyH.nil))
    ·skip
     go_simp
     refine (Hk2.out _ vP).mono ?_
     rintro e y23 ⟨rfl, hb23⟩
     replace fr := fr.trans (hb23.mono fr.size)
     replace pa := pa.kept hb23
     replace vP := vP.kept hb23
     replace vD := vD.kept hb23
     replace Aq := Aq.kept hb23
     replace Af := Af.kept hb23
     clear hb23
     go_wp2_with fail
     refine hK.out _ _ ⟨E4.rb hP pa, E4.rb hQ Aq, E4.ra pa, E4.ra Aq⟩ (fun hHeld => ?_)
     clear hK K
     refine wpAnyH_ready (rs := [10, 11]) (by kernel_rfl) (by simp) (AllReadyH.cons (o := { dst := some 33, op := Op.call { callee := Callee.value (Operand.func 105), args := #[Operand.tmp 27, Operand.tmp 32], argTypes := #[70, 70] }, type := 70, pos := "l06_point.go:166", after := #[{ on := 4, ground := Ground.data }, { on := 9, ground := Ground.data }, { on := 9, ground := Ground.chain }], guard := none }) rfl (fun K hK => ?_) (AllReadyH.cons (o := { dst := some 7, op := Op.alloc 70, type := 0, pos := "l06_point.go:166", after := #[], guard := none }) rfl (fun K hK => ?_) AllReadyH.nil))
     ·skip
      go_simp
      refine (Hk.out _ vP).mono ?_
      rintro e y24 ⟨rfl, hb24⟩
      replace fr := fr.trans (hb24.mono fr.size)
      replace pa := pa.kept hb24
      replace vP := vP.kept hb24
      replace vD := vD.kept hb24
      replace Aq := Aq.kept hb24
      replace Af := Af.kept hb24
      clear hb24
      go_wp2_with fail
      refine hK.out _ _ ⟨E4.rb hP pa, E4.rb hQ Aq, E4.ra pa, E4.ra Aq⟩ (fun hHeld => ?_)
      clear hK K
      refine wpAnyH_ready (rs := [11]) (by kernel_rfl) (by simp) (AllReadyH.cons (o := { dst := some 7, op := Op.alloc 70, type := 0, pos := "l06_point.go:166", after := #[], guard := none }) rfl (fun K hK => ?_) AllReadyH.nil)
      go_simp
      obtain ⟨V25, hVe⟩ : ∃ V, V = y24.alloc (.cells #[.int .i64 0, .int .i64 0, .int .i64 0, .int .i64 0, .int .i64 0, .int .i64 0, .int .i64 0, .int .i64 0, .int .i64 0, .int .i64 0, .int .i64 0, .int .i64 0, .int .i64 0, .int .i64 0, .int .i64 0, .int .i64 0] 70) := ⟨_, rfl⟩
      have bV : Below y24.heap.size y24 V25 := by rw [hVe]; exact (Below.refl _ _).alloc (Nat.le_refl _) _
      have Ak : Arr V25 y24.heap.size 70 (I64 Z16) := by rw [hVe]; exact Arr.new _ (I64 Z16) _
      have hXk : w.heap.size < y24.heap.size ∧ Xq < y24.heap.size ∧ Xf < y24.heap.size ∧ True := ⟨pa.lt, Aq.lt, Af.lt, trivial⟩
      obtain ⟨Xk, hXe⟩ : ∃ X, X = y24.heap.size := ⟨_, rfl⟩
      replace fr := fr.trans (bV.mono fr.size)
      replace pa := pa.kept bV
      replace vP := vP.kept bV
      replace vD := vD.kept bV
      replace Aq := Aq.kept bV
      replace Af := Af.kept bV
      rw [← hVe]
      rw [← hXe] at Ak hXk ⊢
      clear hVe hXe bV
      refine hK.out _ _ ⟨E4.rb hP pa, E4.rb hQ Aq, E4.ra pa, E4.ra Aq⟩ (fun hHeld => ?_)
      clear hK K
      refine wpAnyH_ready (rs := [12]) (by kernel_rfl) (by simp) (AllReadyH.cons (o := qOc1) rfl (fun K hK => ?_) AllReadyH.nil)
      rw [if_pos (by rfl)]
      refine wp_store_mid _ _ _ rfl _ _ (I64 k).toArray rfl rfl (by have := arr_there Ak; simpa [nk] using this) jk (all_oneCell_toArray uk) ?_
      simp only [Act.put]
      replace fr := bel_sc fr Xk (I64 k) (by omega)
      replace pa := pa.sc Xk (I64 k) (by omega)
      replace vP := vP.sc Xk (I64 k) (by omega)
      replace vD := vD.sc Xk (I64 k) (by omega)
      replace Aq := Aq.sc Xk (I64 k) (by omega)
      replace Af := Af.sc Xk (I64 k) (by omega)
      replace Ak := Ak.sc0 (I64 k) (by simp [nk])
      obtain ⟨V26, hVe⟩ : ∃ V, V = V25.setCells Xk 0 (I64 k) := ⟨_, rfl⟩
      rw [← hVe] at fr pa vP vD Aq Af Ak ⊢
      clear hVe
      refine hK.out _ _ ⟨E4.rb hP pa, E4.rb hQ Aq, E4.ra pa, E4.ra Aq⟩ (fun hHeld => ?_)
      clear hK K
      refine wpAnyH_done (by kernel_rfl) ?_ _
      go_wp2
      go_meet
      case rel => exact ⟨Xk, rfl, Ak, fr, pa, vP, vD, Aq, Af, (by omega)⟩
     ·skip
      go_simp
      obtain ⟨V27, hVe⟩ : ∃ V, V = y23.alloc (.cells #[.int .i64 0, .int .i64 0, .int .i64 0, .int .i64 0, .int .i64 0, .int .i64 0, .int .i64 0, .int .i64 0, .int .i64 0, .int .i64 0, .int .i64 0, .int .i64 0, .int .i64 0, .int .i64 0, .int .i64 0, .int .i64 0] 70) := ⟨_, rfl⟩
      have bV : Below y23.heap.size y23 V27 := by rw [hVe]; exact (Below.refl _ _).alloc (Nat.le_refl _) _
      have Ak : Arr V27 y23.heap.size 70 (I64 Z16) := by rw [hVe]; exact Arr.new _ (I64 Z16) _
      have hXk : w.heap.size < y23.heap.size ∧ Xq < y23.heap.size ∧ Xf < y23.heap.size ∧ True := ⟨pa.lt, Aq.lt, Af.lt, trivial⟩
      obtain ⟨Xk, hXe⟩ : ∃ X, X = y23.heap.size := ⟨_, rfl⟩
      replace fr := fr.trans (bV.mono fr.size)
      replace pa := pa.kept bV
      replace vP := vP.kept bV
      replace vD := vD.kept bV
      replace Aq := Aq.kept bV
      replace Af := Af.kept bV
      rw [← hVe]
      rw [← hXe] at Ak hXk ⊢
      clear hVe hXe bV
      refine hK.out _ _ ⟨E4.rb hP pa, E4.rb hQ Aq, E4.ra pa, E4.ra Aq⟩ (fun hHeld => ?_)
      clear hK K
      refine wpAnyH_ready (rs := [10]) (by kernel_rfl) (by simp) (AllReadyH.cons (o := { dst := some 33, op := Op.call { callee := Callee.value (Operand.func 105), args := #[Operand.tmp 27, Operand.tmp 32], argTypes := #[70, 70] }, type := 70, pos := "l06_point.go:166", after := #[{ on := 4, ground := Ground.data }, { on := 9, ground := Ground.data }, { on := 9, ground := Ground.chain }], guard := none }) rfl (fun K hK => ?_) AllReadyH.nil)
      go_simp
      refine (Hk.out _ vP).mono ?_
      rintro e y28 ⟨rfl, hb28⟩
      replace fr := fr.trans (hb28.mono fr.size)
      replace pa := pa.kept hb28
      replace vP := vP.kept hb28
      replace vD := vD.kept hb28
      replace Aq := Aq.kept hb28
      replace Af := Af.kept hb28
      replace Ak := Ak.kept hb28
      clear hb28
      go_wp2_with fail
      refine hK.out _ _ ⟨E4.rb hP pa, E4.rb hQ Aq, E4.ra pa, E4.ra Aq⟩ (fun hHeld => ?_)
      clear hK K
      refine wpAnyH_ready (rs := [12]) (by kernel_rfl) (by simp) (AllReadyH.cons (o := qOc1) rfl (fun K hK => ?_) AllReadyH.nil)
      rw [if_pos (by rfl)]
      refine wp_store_mid _ _ _ rfl _ _ (I64 k).toArray rfl rfl (by have := arr_there Ak; simpa [nk] using this) jk (all_oneCell_toArray uk) ?_
      simp only [Act.put]
      replace fr := bel_sc fr Xk (I64 k) (by omega)
      replace pa := pa.sc Xk (I64 k) (by omega)
      replace vP := vP.sc Xk (I64 k) (by omega)
      replace vD := vD.sc Xk (I64 k) (by omega)
      replace Aq := Aq.sc Xk (I64 k) (by omega)
      replace Af := Af.sc Xk (I64 k) (by omega)
      replace Ak := Ak.sc0 (I64 k) (by simp [nk])
      obtain ⟨V29, hVe⟩ : ∃ V, V = y28.setCells Xk 0 (I64 k) := ⟨_, rfl⟩
      rw [← hVe] at fr pa vP vD Aq Af Ak ⊢
      clear hVe
      refine hK.out _ _ ⟨E4.rb hP pa, E4.rb hQ Aq, E4.ra pa, E4.ra Aq⟩ (fun hHeld => ?_)
      clear hK K
      refine wpAnyH_done (by kernel_rfl) ?_ _
      go_wp2
      go_meet
      case rel => exact ⟨Xk, rfl, Ak, fr, pa, vP, vD, Aq, Af, (by omega)⟩
    ·skip
     go_simp
     obtain ⟨V30, hVe⟩ : ∃ V, V = y22.alloc (.cells #[.int .i64 0, .int .i64 0, .int .i64 0, .int .i64 0, .int .i64 0, .int .i64 0, .int .i64 0, .int .i64 0, .int .i64 0, .int .i64 0, .int .i64 0, .int .i64 0, .int .i64 0, .int .i64 0, .int .i64 0, .int .i64 0] 70) := ⟨_, rfl⟩
     have bV : Below y22.heap.size y22 V30 := by rw [hVe]; exact (Below.refl _ _).alloc (Nat.le_refl _) _
     have Ak : Arr V30 y22.heap.size 70 (I64 Z16) := by rw [hVe]; exact Arr.new _ (I64 Z16) _
     have hXk : w.heap.size < y22.heap.size ∧ Xq < y22.heap.size ∧ Xf < y22.heap.size ∧ True := ⟨pa.lt, Aq.lt, Af.lt, trivial⟩
     obtain ⟨Xk, hXe⟩ : ∃ X, X = y22.heap.size := ⟨_, rfl⟩
     replace fr := fr.trans (bV.mono fr.size)
     replace pa := pa.kept bV
     replace vP := vP.kept bV
     replace vD := vD.kept bV
     replace Aq := Aq.kept bV
     replace Af := Af.kept bV
     rw [← hVe]
     rw [← hXe] at Ak hXk ⊢
     clear hVe hXe bV
     refine hK.out _ _ ⟨E4.rb hP pa, E4.rb hQ Aq, E4.ra pa, E4.ra Aq⟩ (fun hHeld => ?_)
     clear hK K
     refine wpAnyH_ready (rs := [9]) (by kernel_rfl) (by simp) (AllReadyH.cons (o := { dst := some 32, op := Op.call { callee := Callee.value (Operand.func 104), args := #[Operand.tmp 29, Operand.tmp 31], argTypes := #[70, 70] }, type := 70, pos := "l06_point.go:166", after := #[{ on := 6, ground := Ground.data }, { on := 8, ground := Ground.data }, { on := 4, ground := Ground.chain }], guard := none }) rfl (fun K hK => ?_) AllReadyH.nil)
     go_simp
     refine (Hk2.out _ vP).mono ?_
     rintro e y31 ⟨rfl, hb31⟩
     replace fr := fr.trans (hb31.mono fr.size)
     replace pa := pa.kept hb31
     replace vP := vP.kept hb31
     replace vD := vD.kept hb31
     replace Aq := Aq.kept hb31
     replace Af := Af.kept hb31
     replace Ak := Ak.kept hb31
     clear hb31
     go_wp2_with fail
     refine hK.out _ _ ⟨E4.rb hP pa, E4.rb hQ Aq, E4.ra pa, E4.ra Aq⟩ (fun hHeld => ?_)
     clear hK K
     refine wpAnyH_ready (rs := [10]) (by kernel_rfl) (by simp) (AllReadyH.cons (o := { dst := some 33, op := Op.call { callee := Callee.value (Operand.func 105), args := #[Operand.tmp 27, Operand.tmp 32], argTypes := #[70, 70] }, type := 70, pos := "l06_point.go:166", after := #[{ on := 4, ground := Ground.data }, { on := 9, ground := Ground.data }, { on := 9, ground := Ground.chain }], guard := none }) rfl (fun K hK => ?_) AllReadyH.nil)
     go_simp
     refine (Hk.out _ vP).mono ?_
     rintro e y32 ⟨rfl, hb32⟩
     replace fr := fr.trans (hb32.mono fr.size)
     replace pa := pa.kept hb32
     replace vP := vP.kept hb32
     replace vD := vD.kept hb32
     replace Aq := Aq.kept hb32
     replace Af := Af.kept hb32
     replace Ak := Ak.kept hb32
     clear hb32
     go_wp2_with fail
     refine hK.out _ _ ⟨E4.rb hP pa, E4.rb hQ Aq, E4.ra pa, E4.ra Aq⟩ (fun hHeld => ?_)
     clear hK K
     refine wpAnyH_ready (rs := [12]) (by kernel_rfl) (by simp) (AllReadyH.cons (o := qOc1) rfl (fun K hK => ?_) AllReadyH.nil)
     rw [if_pos (by rfl)]
     refine wp_store_mid _ _ _ rfl _ _ (I64 k).toArray rfl rfl (by have := arr_there Ak; simpa [nk] using this) jk (all_oneCell_toArray uk) ?_
     simp only [Act.put]
     replace fr := bel_sc fr Xk (I64 k) (by omega)
     replace pa := pa.sc Xk (I64 k) (by omega)
     replace vP := vP.sc Xk (I64 k) (by omega)
     replace vD := vD.sc Xk (I64 k) (by omega)
     replace Aq := Aq.sc Xk (I64 k) (by omega)
     replace Af := Af.sc Xk (I64 k) (by omega)
     replace Ak := Ak.sc0 (I64 k) (by simp [nk])
     obtain ⟨V33, hVe⟩ : ∃ V, V = y32.setCells Xk 0 (I64 k) := ⟨_, rfl⟩
     rw [← hVe] at fr pa vP vD Aq Af Ak ⊢
     clear hVe
     refine hK.out _ _ ⟨E4.rb hP pa, E4.rb hQ Aq, E4.ra pa, E4.ra Aq⟩ (fun hHeld => ?_)
     clear hK K
     refine wpAnyH_done (by kernel_rfl) ?_ _
     go_wp2
     go_meet
     case rel => exact ⟨Xk, rfl, Ak, fr, pa, vP, vD, Aq, Af, (by omega)⟩
   ·skip
    go_simp
    obtain ⟨V34, hVe⟩ : ∃ V, V = D21.alloc (.cells #[.int .i64 0, .int .i64 0, .int .i64 0, .int .i64 0, .int .i64 0, .int .i64 0, .int .i64 0, .int .i64 0, .int .i64 0, .int .i64 0, .int .i64 0, .int .i64 0, .int .i64 0, .int .i64 0, .int .i64 0, .int .i64 0] 70) := ⟨_, rfl⟩
    have bV : Below D21.heap.size D21 V34 := by rw [hVe]; exact (Below.refl _ _).alloc (Nat.le_refl _) _
    have Ak : Arr V34 D21.heap.size 70 (I64 Z16) := by rw [hVe]; exact Arr.new _ (I64 Z16) _
    have hXk : w.heap.size < D21.heap.size ∧ Xq < D21.heap.size ∧ Xf < D21.heap.size ∧ True := ⟨pa.lt, Aq.lt, Af.lt, trivial⟩
    obtain ⟨Xk, hXe⟩ : ∃ X, X = D21.heap.size := ⟨_, rfl⟩
    replace fr := fr.trans (bV.mono fr.size)
    replace pa := pa.kept bV
    replace vP := vP.kept bV
    replace vD := vD.kept bV
    replace Aq := Aq.kept bV
    replace Af := Af.kept bV
    rw [← hVe]
    rw [← hXe] at Ak hXk ⊢
    clear hVe hXe bV
    refine hK.out _ _ ⟨E4.rb hP pa, E4.rb hQ Aq, E4.ra pa, E4.ra Aq⟩ (fun hHeld => ?_)
    clear hK K
    refine wpAnyH_ready (rs := [4]) (by kernel_rfl) (by simp) (AllReadyH.cons (o := { dst := some 27, op := Op.call { callee := Callee.value (Operand.func 104), args := #[Operand.tmp 24, Operand.tmp 26], argTypes := #[70, 70] }, type := 70, pos := "l06_point.go:166", after := #[{ on := 1, ground := Ground.data }, { on := 3, ground := Ground.data }], guard := none }) rfl (fun K hK => ?_) AllReadyH.nil)
    go_simp
    refine (Hk1.out _ vP).mono ?_
    rintro e y35 ⟨rfl, hb35⟩
    replace fr := fr.trans (hb35.mono fr.size)
    replace pa := pa.kept hb35
    replace vP := vP.kept hb35
    replace vD := vD.kept hb35
    replace Aq := Aq.kept hb35
    replace Af := Af.kept hb35
    replace Ak := Ak.kept hb35
    clear hb35
    go_wp2_with fail
    refine hK.out _ _ ⟨E4.rb hP pa, E4.rb hQ Aq, E4.ra pa, E4.ra Aq⟩ (fun hHeld => ?_)
    clear hK K
    refine wpAnyH_ready (rs := [9]) (by kernel_rfl) (by simp) (AllReadyH.cons (o := { dst := some 32, op := Op.call { callee := Callee.value (Operand.func 104), args := #[Operand.tmp 29, Operand.tmp 31], argTypes := #[70, 70] }, type := 70, pos := "l06_point.go:166", after := #[{ on := 6, ground := Ground.data }, { on := 8, ground := Ground.data }, { on := 4, ground := Ground.chain }], guard := none }) rfl (fun K hK => ?_) AllReadyH.nil)
    go_simp
    refine (Hk2.out _ vP).mono ?_
    rintro e y36 ⟨rfl, hb36⟩
    replace fr := fr.trans (hb36.mono fr.size)
    replace pa := pa.kept hb36
    replace vP := vP.kept hb36
    replace vD := vD.kept hb36
    replace Aq := Aq.kept hb36
    replace Af := Af.kept hb36
    replace Ak := Ak.kept hb36
    clear hb36
    go_wp2_with fail
    refine hK.out _ _ ⟨E4.rb hP pa, E4.rb hQ Aq, E4.ra pa, E4.ra Aq⟩ (fun hHeld => ?_)
    clear hK K
    refine wpAnyH_ready (rs := [10]) (by kernel_rfl) (by simp) (AllReadyH.cons (o := { dst := some 33, op := Op.call { callee := Callee.value (Operand.func 105), args := #[Operand.tmp 27, Operand.tmp 32], argTypes := #[70, 70] }, type := 70, pos := "l06_point.go:166", after := #[{ on := 4, ground := Ground.data }, { on := 9, ground := Ground.data }, { on := 9, ground := Ground.chain }], guard := none }) rfl (fun K hK => ?_) AllReadyH.nil)
    go_simp
    refine (Hk.out _ vP).mono ?_
    rintro e y37 ⟨rfl, hb37⟩
    replace fr := fr.trans (hb37.mono fr.size)
    replace pa := pa.kept hb37
    replace vP := vP.kept hb37
    replace vD := vD.kept hb37
    replace Aq := Aq.kept hb37
    replace Af := Af.kept hb37
    replace Ak := Ak.kept hb37
    clear hb37
    go_wp2_with fail
    refine hK.out _ _ ⟨E4.rb hP pa, E4.rb hQ Aq, E4.ra pa, E4.ra Aq⟩ (fun hHeld => ?_)
    clear hK K
    refine wpAnyH_ready (rs := [12]) (by kernel_rfl) (by simp) (AllReadyH.cons (o := qOc1) rfl (fun K hK => ?_) AllReadyH.nil)
    rw [if_pos (by rfl)]
    refine wp_store_mid _ _ _ rfl _ _ (I64 k).toArray rfl rfl (by have := arr_there Ak; simpa [nk] using this) jk (all_oneCell_toArray uk) ?_
    simp only [Act.put]
    replace fr := bel_sc fr Xk (I64 k) (by omega)
    replace pa := pa.sc Xk (I64 k) (by omega)
    replace vP := vP.sc Xk (I64 k) (by omega)
    replace vD := vD.sc Xk (I64 k) (by omega)
    replace Aq := Aq.sc Xk (I64 k) (by omega)
    replace Af := Af.sc Xk (I64 k) (by omega)
    replace Ak := Ak.sc0 (I64 k) (by simp [nk])
    obtain ⟨V38, hVe⟩ : ∃ V, V = y37.setCells Xk 0 (I64 k) := ⟨_, rfl⟩
    rw [← hVe] at fr pa vP vD Aq Af Ak ⊢
    clear hVe
    refine hK.out _ _ ⟨E4.rb hP pa, E4.rb hQ Aq, E4.ra pa, E4.ra Aq⟩ (fun hHeld => ?_)
    clear hK K
    refine wpAnyH_done (by kernel_rfl) ?_ _
    go_wp2
    go_meet
    case rel => exact ⟨Xk, rfl, Ak, fr, pa, vP, vD, Aq, Af, (by omega)⟩
  case rest =>
   clear fr pa vP vD Aq Af
   obtain ⟨Xk, rfl, Ak, fr, pa, vP, vD, Aq, Af, hq0⟩ := hcut
   obtain ⟨C39, hwc⟩ : ∃ V, V = wc := ⟨_, rfl⟩
   rw [← hwc] at fr pa vP vD Aq Af Ak ⊢
   clear hwc
   go_wp2
   try simp only [Act.put]
   go_cut [8, 9] from 10 (fun s8 s9 wc => ∃ (Xo : Nat) (Xp : Nat), s8 = .pointer (some ⟨Xo, 0, none⟩) ∧ s9 = .pointer (some ⟨Xp, 0, none⟩) ∧ Arr wc Xo 70 (I64 o) ∧ Arr wc Xp 70 (I64 p) ∧ Below w.heap.size w wc ∧ Arr wc w.heap.size 72 (I64 P.cells) ∧ Vr wc 4 (I64 PL) ∧ Vr wc 2 (I64 DL) ∧ Arr wc Xq 72 (I64 Q.cells) ∧ Arr wc Xf 70 (I64 f) ∧ Arr wc Xk 70 (I64 k))
   case first =>
    have bD : Below C39.heap.size C39 C39.drew := (Below.refl _ _).drew
    replace fr := fr.trans (bD.mono fr.size)
    replace pa := pa.kept bD
    replace vP := vP.kept bD
    replace vD := vD.kept bD
    replace Aq := Aq.kept bD
    replace Af := Af.kept bD
    replace Ak := Ak.kept bD
    clear bD
    refine wp_region_held_drew (S := fun W => W.rangeAt w.heap.size 32 (I64 P.c) ∧ W.rangeAt Xq 32 (I64 Q.c) ∧ W.rangeAt 2 0 (I64 DL) ∧ W.rangeAt w.heap.size 48 (I64 P.t) ∧ W.rangeAt Xq 48 (I64 Q.t)) (by kernel_rfl) ⟨E4.rc hP pa, E4.rc hQ Aq, vr_range vD, E4.rt hP pa, E4.rt hQ Aq⟩ (fun hHeld => ?_)
    obtain ⟨D40, hD⟩ : ∃ V, V = C39.drew := ⟨_, rfl⟩
    rw [← hD] at hHeld fr pa vP vD Aq Af Ak ⊢
    clear hD
    refine wpAnyH_take (i := 0) (oi := { dst := some 34, op := Op.fieldAddr 72 (Operand.tmp 2) 2, type := 0, pos := "l06_point.go:167", after := #[], guard := none }) (v := .pointer (some ⟨w.heap.size, 32, none⟩)) rfl (by kernel_rfl) (by kernel_rfl) (by kernel_rfl) (fun _ _ _ h => h) (.inl ⟨by rfl, fun _ _ => by rfl⟩) (by assumption) ?_
    simp only [Act.put, List.setIfInBounds_toArray, List.set_cons_zero, List.set_cons_succ]
    refine wpAnyH_take (i := 1) (oi := { dst := some 35, op := Op.load 70 (Operand.tmp 34), type := 70, pos := "l06_point.go:167", after := #[{ on := 0, ground := Ground.data }], guard := none }) (v := _) rfl (by kernel_rfl) (by kernel_rfl) (by kernel_rfl) (fun _ _ _ h => h) (yieldsIf_load_mid (by rfl) _ _ rfl _ _ rfl (I64 P.c) _ (fun _ h => h.1) hu rfl iPc) (by assumption) ?_
    simp only [Act.put, List.setIfInBounds_toArray, List.set_cons_zero, List.set_cons_succ]
    refine wpAnyH_take (i := 2) (oi := { dst := some 36, op := Op.fieldAddr 72 (Operand.tmp 5) 2, type := 0, pos := "l06_point.go:167", after := #[], guard := none }) (v := .pointer (some ⟨Xq, 32, none⟩)) rfl (by kernel_rfl) (by kernel_rfl) (by kernel_rfl) (fun _ _ _ h => h) (.inl ⟨by rfl, fun _ _ => by rfl⟩) (by assumption) ?_
    simp only [Act.put, List.setIfInBounds_toArray, List.set_cons_zero, List.set_cons_succ]
    refine wpAnyH_take (i := 3) (oi := { dst := some 37, op := Op.load 70 (Operand.tmp 36), type := 70, pos := "l06_point.go:167", after := #[{ on := 2, ground := Ground.data }], guard := none }) (v := _) rfl (by kernel_rfl) (by kernel_rfl) (by kernel_rfl) (fun _ _ _ h => h) (yieldsIf_load_mid (by rfl) _ _ rfl _ _ rfl (I64 Q.c) _ (fun _ h => h.2.1) hu rfl iQc) (by assumption) ?_
    simp only [Act.put, List.setIfInBounds_toArray, List.set_cons_zero, List.set_cons_succ]
    refine wpAnyH_take (i := 5) (oi := { dst := some 39, op := Op.load 70 (Operand.global 2), type := 70, pos := "l06_point.go:167", after := #[], guard := none }) (v := _) rfl (by kernel_rfl) (by kernel_rfl) (by kernel_rfl) (fun _ _ _ h => h) (yieldsIf_load_mid (by rfl) _ _ rfl _ _ rfl (I64 DL) _ (fun _ h => h.2.2.1) hu rfl iDL) (by assumption) ?_
    simp only [Act.put, List.setIfInBounds_toArray, List.set_cons_zero, List.set_cons_succ]
    refine wpAnyH_take (i := 6) (oi := { dst := some 40, op := Op.fieldAddr 72 (Operand.tmp 2) 3, type := 0, pos := "l06_point.go:167", after := #[], guard := none }) (v := .pointer (some ⟨w.heap.size, 48, none⟩)) rfl (by kernel_rfl) (by kernel_rfl) (by kernel_rfl) (fun _ _ _ h => h) (.inl ⟨by rfl, fun _ _ => by rfl⟩) (by assumption) ?_
    simp only [Act.put, List.setIfInBounds_toArray, List.set_cons_zero, List.set_cons_succ]
    refine wpAnyH_take (i := 7) (oi := { dst := some 41, op := Op.load 70 (Operand.tmp 40), type := 70, pos := "l06_point.go:167", after := #[{ on := 6, ground := Ground.data }], guard := none }) (v := _) rfl (by kernel_rfl) (by kernel_rfl) (by kernel_rfl) (fun _ _ _ h => h) (yieldsIf_load_mid (by rfl) _ _ rfl _ _ rfl (I64 P.t) _ (fun _ h => h.2.2.2.1) hu rfl iPt) (by assumption) ?_
    simp only [Act.put, List.setIfInBounds_toArray, List.set_cons_zero, List.set_cons_succ]
    refine wpAnyH_take (i := 8) (oi := { dst := some 42, op := Op.fieldAddr 72 (Operand.tmp 5) 3, type := 0, pos := "l06_point.go:167", after := #[], guard := none }) (v := .pointer (some ⟨Xq, 48, none⟩)) rfl (by kernel_rfl) (by kernel_rfl) (by kernel_rfl) (fun _ _ _ h => h) (.inl ⟨by rfl, fun _ _ => by rfl⟩) (by assumption) ?_
    simp only [Act.put, List.setIfInBounds_toArray, List.set_cons_zero, List.set_cons_succ]
    refine wpAnyH_take (i := 9) (oi := { dst := some 43, op := Op.load 70 (Operand.tmp 42), type := 70, pos := "l06_point.go:167", after := #[{ on := 8, ground := Ground.data }], guard := none }) (v := _) rfl (by kernel_rfl) (by kernel_rfl) (by kernel_rfl) (fun _ _ _ h => h) (yieldsIf_load_mid (by rfl) _ _ rfl _ _ rfl (I64 Q.t) _ (fun _ h => h.2.2.2.2) hu rfl iQt) (by assumption) ?_
    simp only [Act.put, List.setIfInBounds_toArray, List.set_cons_zero, List.set_cons_succ]
    refine wpAnyH_ready (rs := [4, 12, 13]) (by kernel_rfl) (by simp) (AllReadyH.cons (o := { dst := some 38, op := Op.call { callee := Callee.value (Operand.func 104), args := #[Operand.tmp 35, Operand.tmp 37], argTypes := #[70, 70] }, type := 70, pos := "l06_point.go:167", after := #[{ on := 1, ground := Ground.data }, { on := 3, ground := Ground.data }], guard := none }) rfl (fun K hK => ?_) (AllReadyH.cons (o := { dst := some 8, op := Op.alloc 70, type := 0, pos := "l06_point.go:167", after := #[], guard := none }) rfl (fun K hK => ?_) (AllReadyH.cons (o := { dst := some 9, op := Op.alloc 70, type := 0, pos := "l06_point.go:167", after := #[], guard := none }) rfl (fun K hK => ?_) AllReadyH.nil)))
    ·skip
     go_simp
     refine (Ho.out _ vP).mono ?_
     rintro e y41 ⟨rfl, hb41⟩
     replace fr := fr.trans (hb41.mono fr.size)
     replace pa := pa.kept hb41
     replace vP := vP.kept hb41
     replace vD := vD.kept hb41
     replace Aq := Aq.kept hb41
     replace Af := Af.kept hb41
     replace Ak := Ak.kept hb41
     clear hb41
     go_wp2_with fail
     refine hK.out _ _ ⟨E4.rc hP pa, E4.rc hQ Aq, vr_range vD, E4.rt hP pa, E4.rt hQ Aq⟩ (fun hHeld => ?_)
     clear hK K
     refine wpAnyH_ready (rs := [10, 12, 13]) (by kernel_rfl) (by simp) (AllReadyH.cons (o := { dst := some 44, op := Op.call { callee := Callee.value (Operand.func 104), args := #[Operand.tmp 41, Operand.tmp 43], argTypes := #[70, 70] }, type := 70, pos := "l06_point.go:167", after := #[{ on := 7, ground := Ground.data }, { on := 9, ground := Ground.data }, { on := 4, ground := Ground.chain }], guard := none }) rfl (fun K hK => ?_) (AllReadyH.cons (o := { dst := some 8, op := Op.alloc 70, type := 0, pos := "l06_point.go:167", after := #[], guard := none }) rfl (fun K hK => ?_) (AllReadyH.cons (o := { dst := some 9, op := Op.alloc 70, type := 0, pos := "l06_point.go:167", after := #[], guard := none }) rfl (fun K hK => ?_) AllReadyH.nil)))
     ·skip
      go_simp
      refine (Ht1.out _ vP).mono ?_
      rintro e y42 ⟨rfl, hb42⟩
      replace fr := fr.trans (hb42.mono fr.size)
      replace pa := pa.kept hb42
      replace vP := vP.kept hb42
      replace vD := vD.kept hb42
      replace Aq := Aq.kept hb42
      replace Af := Af.kept hb42
      replace Ak := Ak.kept hb42
      clear hb42
      go_wp2_with fail
      refine hK.out _ _ ⟨E4.rc hP pa, E4.rc hQ Aq, vr_range vD, E4.rt hP pa, E4.rt hQ Aq⟩ (fun hHeld => ?_)
      clear hK K
      refine wpAnyH_ready (rs := [11, 12, 13]) (by kernel_rfl) (by simp) (AllReadyH.cons (o := { dst := some 45, op := Op.call { callee := Callee.value (Operand.func 104), args := #[Operand.tmp 39, Operand.tmp 44], argTypes := #[70, 70] }, type := 70, pos := "l06_point.go:167", after := #[{ on := 5, ground := Ground.data }, { on := 10, ground := Ground.data }, { on := 10, ground := Ground.chain }], guard := none }) rfl (fun K hK => ?_) (AllReadyH.cons (o := { dst := some 8, op := Op.alloc 70, type := 0, pos := "l06_point.go:167", after := #[], guard := none }) rfl (fun K hK => ?_) (AllReadyH.cons (o := { dst := some 9, op := Op.alloc 70, type := 0, pos := "l06_point.go:167", after := #[], guard := none }) rfl (fun K hK => ?_) AllReadyH.nil)))
      ·skip
       go_simp
       refine (Hp.out _ vP).mono ?_
       rintro e y43 ⟨rfl, hb43⟩
       replace fr := fr.trans (hb43.mono fr.size)
       replace pa := pa.kept hb43
       replace vP := vP.kept hb43
       replace vD := vD.kept hb43
       replace Aq := Aq.kept hb43
       replace Af := Af.kept hb43
       replace Ak := Ak.kept hb43
       clear hb43
       go_wp2_with fail
       refine hK.out _ _ ⟨E4.rc hP pa, E4.rc hQ Aq, vr_range vD, E4.rt hP pa, E4.rt hQ Aq⟩ (fun hHeld => ?_)
       clear hK K
       refine wpAnyH_ready (rs := [12, 13]) (by kernel_rfl) (by simp) (AllReadyH.cons (o := { dst := some 8, op := Op.alloc 70, type := 0, pos := "l06_point.go:167", after := #[], guard := none }) rfl (fun K hK => ?_) (AllReadyH.cons (o := { dst := some 9, op := Op.alloc 70, type := 0, pos := "l06_point.go:167", after := #[], guard := none }) rfl (fun K hK => ?_) AllReadyH.nil))
       ·skip
        go_simp
        obtain ⟨V44, hVe⟩ : ∃ V, V = y43.alloc (.cells #[.int .i64 0, .int .i64 0, .int .i64 0, .int .i64 0, .int .i64 0, .int .i64 0, .int .i64 0, .int .i64 0, .int .i64 0, .int .i64 0, .int .i64 0, .int .i64 0, .int .i64 0, .int .i64 0, .int .i64 0, .int .i64 0] 70) := ⟨_, rfl⟩
        have bV : Below y43.heap.size y43 V44 := by rw [hVe]; exact (Below.refl _ _).alloc (Nat.le_refl _) _
        have Ao : Arr V44 y43.heap.size 70 (I64 Z16) := by rw [hVe]; exact Arr.new _ (I64 Z16) _
        have hXo : w.heap.size < y43.heap.size ∧ Xq < y43.heap.size ∧ Xf < y43.heap.size ∧ Xk < y43.heap.size ∧ True := ⟨pa.lt, Aq.lt, Af.lt, Ak.lt, trivial⟩
        obtain ⟨Xo, hXe⟩ : ∃ X, X = y43.heap.size := ⟨_, rfl⟩
        replace fr := fr.trans (bV.mono fr.size)
        replace pa := pa.kept bV
        replace vP := vP.kept bV
        replace vD := vD.kept bV
        replace Aq := Aq.kept bV
        replace Af := Af.kept bV
        replace Ak := Ak.kept bV
        rw [← hVe]
        rw [← hXe] at Ao hXo ⊢
        clear hVe hXe bV
        refine hK.out _ _ ⟨E4.rc hP pa, E4.rc hQ Aq, vr_range vD, E4.rt hP pa, E4.rt hQ Aq⟩ (fun hHeld => ?_)
        clear hK K
        refine wpAnyH_ready (rs := [13]) (by kernel_rfl) (by simp) (AllReadyH.cons (o := { dst := some 9, op := Op.alloc 70, type := 0, pos := "l06_point.go:167", after := #[], guard := none }) rfl (fun K hK => ?_) AllReadyH.nil)
        go_simp
        obtain ⟨V45, hVe⟩ : ∃ V, V = V44.alloc (.cells #[.int .i64 0, .int .i64 0, .int .i64 0, .int .i64 0, .int .i64 0, .int .i64 0, .int .i64 0, .int .i64 0, .int .i64 0, .int .i64 0, .int .i64 0, .int .i64 0, .int .i64 0, .int .i64 0, .int .i64 0, .int .i64 0] 70) := ⟨_, rfl⟩
        have bV : Below V44.heap.size V44 V45 := by rw [hVe]; exact (Below.refl _ _).alloc (Nat.le_refl _) _
        have Ap : Arr V45 V44.heap.size 70 (I64 Z16) := by rw [hVe]; exact Arr.new _ (I64 Z16) _
        have hXp : w.heap.size < V44.heap.size ∧ Xq < V44.heap.size ∧ Xf < V44.heap.size ∧ Xk < V44.heap.size ∧ Xo < V44.heap.size ∧ True := ⟨pa.lt, Aq.lt, Af.lt, Ak.lt, Ao.lt, trivial⟩
        obtain ⟨Xp, hXe⟩ : ∃ X, X = V44.heap.size := ⟨_, rfl⟩
        replace fr := fr.trans (bV.mono fr.size)
        replace pa := pa.kept bV
        replace vP := vP.kept bV
        replace vD := vD.kept bV
        replace Aq := Aq.kept bV
        replace Af := Af.kept bV
        replace Ak := Ak.kept bV
        replace Ao := Ao.kept bV
        rw [← hVe]
        rw [← hXe] at Ap hXp ⊢
        clear hVe hXe bV
        refine hK.out _ _ ⟨E4.rc hP pa, E4.rc hQ Aq, vr_range vD, E4.rt hP pa, E4.rt hQ Aq⟩ (fun hHeld => ?_)
        clear hK K
        refine wpAnyH_ready (rs := [14]) (by kernel_rfl) (by simp) (AllReadyH.cons (o := qOc2) rfl (fun K hK => ?_) AllReadyH.nil)
        rw [if_pos (by rfl)]
        refine wp_store_mid _ _ _ rfl _ _ (I64 o).toArray rfl rfl (by have := arr_there Ao; simpa [no] using this) jo (all_oneCell_toArray uo) ?_
        simp only [Act.put]
        replace fr := bel_sc fr Xo (I64 o) (by omega)
        replace pa := pa.sc Xo (I64 o) (by omega)
        replace vP := vP.sc Xo (I64 o) (by omega)
        replace vD := vD.sc Xo (I64 o) (by omega)
        replace Aq := Aq.sc Xo (I64 o) (by omega)
        replace Af := Af.sc Xo (I64 o) (by omega)
        replace Ak := Ak.sc Xo (I64 o) (by omega)
        replace Ao := Ao.sc0 (I64 o) (by simp [no])
        replace Ap := Ap.sc Xo (I64 o) (by omega)
        obtain ⟨V46, hVe⟩ : ∃ V, V = V45.setCells Xo 0 (I64 o) := ⟨_, rfl⟩
        rw [← hVe] at fr pa vP vD Aq Af Ak Ao Ap ⊢
        clear hVe
        refine hK.out _ _ ⟨E4.rc hP pa, E4.rc hQ Aq, vr_range vD, E4.rt hP pa, E4.rt hQ Aq⟩ (fun hHeld => ?_)
        clear hK K
        refine wpAnyH_ready (rs := [15]) (by kernel_rfl) (by simp) (AllReadyH.cons (o := qOc3) rfl (fun K hK => ?_) AllReadyH.nil)
        rw [if_pos (by rfl)]
        refine wp_store_mid _ _ _ rfl _ _ (I64 p).toArray rfl rfl (by have := arr_there Ap; simpa [np] using this) jp (all_oneCell_toArray up) ?_
        simp only [Act.put]
        replace fr := bel_sc fr Xp (I64 p) (by omega)
        replace pa := pa.sc Xp (I64 p) (by omega)
        replace vP := vP.sc Xp (I64 p) (by omega)
        replace vD := vD.sc Xp (I64 p) (by omega)
        replace Aq := Aq.sc Xp (I64 p) (by omega)
        replace Af := Af.sc Xp (I64 p) (by omega)
        replace Ak := Ak.sc Xp (I64 p) (by omega)
        replace Ao := Ao.sc Xp (I64 p) (by omega)
        replace Ap := Ap.sc0 (I64 p) (by simp [np])
        obtain ⟨V47, hVe⟩ : ∃ V, V = V46.setCells Xp 0 (I64 p) := ⟨_, rfl⟩
        rw [← hVe] at fr pa vP vD Aq Af Ak Ao Ap ⊢
        clear hVe
        refine hK.out _ _ ⟨E4.rc hP pa, E4.rc hQ Aq, vr_range vD, E4.rt hP pa, E4.rt hQ Aq⟩ (fun hHeld => ?_)
        clear hK K
        refine wpAnyH_done (by kernel_rfl) ?_ _
        go_wp2
        go_meet
        case rel => exact ⟨Xo, Xp, rfl, rfl, Ao, Ap, fr, pa, vP, vD, Aq, Af, Ak⟩
       ·skip
        go_simp
        obtain ⟨V48, hVe⟩ : ∃ V, V = y43.alloc (.cells #[.int .i64 0, .int .i64 0, .int .i64 0, .int .i64 0, .int .i64 0, .int .i64 0, .int .i64 0, .int .i64 0, .int .i64 0, .int .i64 0, .int .i64 0, .int .i64 0, .int .i64 0, .int .i64 0, .int .i64 0, .int .i64 0] 70) := ⟨_, rfl⟩
        have bV : Below y43.heap.size y43 V48 := by rw [hVe]; exact (Below.refl _ _).alloc (Nat.le_refl _) _
        have Ap : Arr V48 y43.heap.size 70 (I64 Z16) := by rw [hVe]; exact Arr.new _ (I64 Z16) _
        have hXp : w.heap.size < y43.heap.size ∧ Xq < y43.heap.size ∧ Xf < y43.heap.size ∧ Xk < y43.heap.size ∧ True := ⟨pa.lt, Aq.lt, Af.lt, Ak.lt, trivial⟩
        obtain ⟨Xp, hXe⟩ : ∃ X, X = y43.heap.size := ⟨_, rfl⟩
        replace fr := fr.trans (bV.mono fr.size)
        replace pa := pa.kept bV
        replace vP := vP.kept bV
        replace vD := vD.kept bV
        replace Aq := Aq.kept bV
        replace Af := Af.kept bV
        replace Ak := Ak.kept bV
        rw [← hVe]
        rw [← hXe] at Ap hXp ⊢
        clear hVe hXe bV
        refine hK.out _ _ ⟨E4.rc hP pa, E4.rc hQ Aq, vr_range vD, E4.rt hP pa, E4.rt hQ Aq⟩ (fun hHeld => ?_)
        clear hK K
        refine wpAnyH_ready (rs := [12]) (by kernel_rfl) (by simp) (AllReadyH.cons (o := { dst := some 8, op := Op.alloc 70, type := 0, pos := "l06_point.go:167", after := #[], guard := none }) rfl (fun K hK => ?_) AllReadyH.nil)
        go_simp
        obtain ⟨V49, hVe⟩ : ∃ V, V = V48.alloc (.cells #[.int .i64 0, .int .i64 0, .int .i64 0, .int .i64 0, .int .i64 0, .int .i64 0, .int .i64 0, .int .i64 0, .int .i64 0, .int .i64 0, .int .i64 0, .int .i64 0, .int .i64 0, .int .i64 0, .int .i64 0, .int .i64 0] 70) := ⟨_, rfl⟩
        have bV : Below V48.heap.size V48 V49 := by rw [hVe]; exact (Below.refl _ _).alloc (Nat.le_refl _) _
        have Ao : Arr V49 V48.heap.size 70 (I64 Z16) := by rw [hVe]; exact Arr.new _ (I64 Z16) _
        have hXo : w.heap.size < V48.heap.size ∧ Xq < V48.heap.size ∧ Xf < V48.heap.size ∧ Xk < V48.heap.size ∧ Xp < V48.heap.size ∧ True := ⟨pa.lt, Aq.lt, Af.lt, Ak.lt, Ap.lt, trivial⟩
        obtain ⟨Xo, hXe⟩ : ∃ X, X = V48.heap.size := ⟨_, rfl⟩
        replace fr := fr.trans (bV.mono fr.size)
        replace pa := pa.kept bV
        replace vP := vP.kept bV
        replace vD := vD.kept bV
        replace Aq := Aq.kept bV
        replace Af := Af.kept bV
        replace Ak := Ak.kept bV
        replace Ap := Ap.kept bV
        rw [← hVe]
        rw [← hXe] at Ao hXo ⊢
        clear hVe hXe bV
        refine hK.out _ _ ⟨E4.rc hP pa, E4.rc hQ Aq, vr_range vD, E4.rt hP pa, E4.rt hQ Aq⟩ (fun hHeld => ?_)
        clear hK K
        refine wpAnyH_ready (rs := [14]) (by kernel_rfl) (by simp) (AllReadyH.cons (o := qOc2) rfl (fun K hK => ?_) AllReadyH.nil)
        rw [if_pos (by rfl)]
        refine wp_store_mid _ _ _ rfl _ _ (I64 o).toArray rfl rfl (by have := arr_there Ao; simpa [no] using this) jo (all_oneCell_toArray uo) ?_
        simp only [Act.put]
        replace fr := bel_sc fr Xo (I64 o) (by omega)
        replace pa := pa.sc Xo (I64 o) (by omega)
        replace vP := vP.sc Xo (I64 o) (by omega)
        replace vD := vD.sc Xo (I64 o) (by omega)
        replace Aq := Aq.sc Xo (I64 o) (by omega)
        replace Af := Af.sc Xo (I64 o) (by omega)
        replace Ak := Ak.sc Xo (I64 o) (by omega)
        replace Ap := Ap.sc Xo (I64 o) (by omega)
        replace Ao := Ao.sc0 (I64 o) (by simp [no])
        obtain ⟨V50, hVe⟩ : ∃ V, V = V49.setCells Xo 0 (I64 o) := ⟨_, rfl⟩
        rw [← hVe] at fr pa vP vD Aq Af Ak Ap Ao ⊢
        clear hVe
        refine hK.out _ _ ⟨E4.rc hP pa, E4.rc hQ Aq, vr_range vD, E4.rt hP pa, E4.rt hQ Aq⟩ (fun hHeld => ?_)
        clear hK K
        refine wpAnyH_ready (rs := [15]) (by kernel_rfl) (by simp) (AllReadyH.cons (o := qOc3) rfl (fun K hK => ?_) AllReadyH.nil)
        rw [if_pos (by rfl)]
        refine wp_store_mid _ _ _ rfl _ _ (I64 p).toArray rfl rfl (by have := arr_there Ap; simpa [np] using this) jp (all_oneCell_toArray up) ?_
        simp only [Act.put]
        replace fr := bel_sc fr Xp (I64 p) (by omega)
        replace pa := pa.sc Xp (I64 p) (by omega)
        replace vP := vP.sc Xp (I64 p) (by omega)
        replace vD := vD.sc Xp (I64 p) (by omega)
        replace Aq := Aq.sc Xp (I64 p) (by omega)
        replace Af := Af.sc Xp (I64 p) (by omega)
        replace Ak := Ak.sc Xp (I64 p) (by omega)
        replace Ap := Ap.sc0 (I64 p) (by simp [np])
        replace Ao := Ao.sc Xp (I64 p) (by omega)
        obtain ⟨V51, hVe⟩ : ∃ V, V = V50.setCells Xp 0 (I64 p) := ⟨_, rfl⟩
        rw [← hVe] at fr pa vP vD Aq Af Ak Ap Ao ⊢
        clear hVe
        refine hK.out _ _ ⟨E4.rc hP pa, E4.rc hQ Aq, vr_range vD, E4.rt hP pa, E4.rt hQ Aq⟩ (fun hHeld => ?_)
        clear hK K
        refine wpAnyH_done (by kernel_rfl) ?_ _
        go_wp2
        go_meet
        case rel => exact ⟨Xo, Xp, rfl, rfl, Ao, Ap, fr, pa, vP, vD, Aq, Af, Ak⟩
      ·skip
       go_simp
       obtain ⟨V52, hVe⟩ : ∃ V, V = y42.alloc (.cells #[.int .i64 0, .int .i64 0, .int .i64 0, .int .i64 0, .int .i64 0, .int .i64 0, .int .i64 0, .int .i64 0, .int .i64 0, .int .i64 0, .int .i64 0, .int .i64 0, .int .i64 0, .int .i64 0, .int .i64 0, .int .i64 0] 70) := ⟨_, rfl⟩
       have bV : Below y42.heap.size y42 V52 := by rw [hVe]; exact (Below.refl _ _).alloc (Nat.le_refl _) _
       have Ao : Arr V52 y42.heap.size 70 (I64 Z16) := by rw [hVe]; exact Arr.new _ (I64 Z16) _
       have hXo : w.heap.size < y42.heap.size ∧ Xq < y42.heap.size ∧ Xf < y42.heap.size ∧ Xk < y42.heap.size ∧ True := ⟨pa.lt, Aq.lt, Af.lt, Ak.lt, trivial⟩
       obtain ⟨Xo, hXe⟩ : ∃ X, X = y42.heap.size := ⟨_, rfl⟩
       replace fr := fr.trans (bV.mono fr.size)
       replace pa := pa.kept bV
       replace vP := vP.kept bV
       replace vD := vD.kept bV
       replace Aq := Aq.kept bV
       replace Af := Af.kept bV
       replace Ak := Ak.kept bV
       rw [← hVe]
       rw [← hXe] at Ao hXo ⊢
       clear hVe hXe bV
       refine hK.out _ _ ⟨E4.rc hP pa, E4.rc hQ Aq, vr_range vD, E4.rt hP pa, E4.rt hQ Aq⟩ (fun hHeld => ?_)
       clear hK K
       refine wpAnyH_ready (rs := [11, 13]) (by kernel_rfl) (by simp) (AllReadyH.cons (o := { dst := some 45, op := Op.call { callee := Callee.value (Operand.func 104), args := #[Operand.tmp 39, Operand.tmp 44], argTypes := #[70, 70] }, type := 70, pos := "l06_point.go:167", after := #[{ on := 5, ground := Ground.data }, { on := 10, ground := Ground.data }, { on := 10, ground := Ground.chain }], guard := none }) rfl (fun K hK => ?_) (AllReadyH.cons (o := { dst := some 9, op := Op.alloc 70, type := 0, pos := "l06_point.go:167", after := #[], guard := none }) rfl (fun K hK => ?_) AllReadyH.nil))
       ·skip
        go_simp
        refine (Hp.out _ vP).mono ?_
        rintro e y53 ⟨rfl, hb53⟩
        replace fr := fr.trans (hb53.mono fr.size)
        replace pa := pa.kept hb53
        replace vP := vP.kept hb53
        replace vD := vD.kept hb53
        replace Aq := Aq.kept hb53
        replace Af := Af.kept hb53
        replace Ak := Ak.kept hb53
        replace Ao := Ao.kept hb53
        clear hb53
        go_wp2_with fail
        refine hK.out _ _ ⟨E4.rc hP pa, E4.rc hQ Aq, vr_range vD, E4.rt hP pa, E4.rt hQ Aq⟩ (fun hHeld => ?_)
        clear hK K
        refine wpAnyH_ready (rs := [13]) (by kernel_rfl) (by simp) (AllReadyH.cons (o := { dst := some 9, op := Op.alloc 70, type := 0, pos := "l06_point.go:167", after := #[], guard := none }) rfl (fun K hK => ?_) AllReadyH.nil)
        go_simp
        obtain ⟨V54, hVe⟩ : ∃ V, V = y53.alloc (.cells #[.int .i64 0, .int .i64 0, .int .i64 0, .int .i64 0, .int .i64 0, .int .i64 0, .int .i64 0, .int .i64 0, .int .i64 0, .int .i64 0, .int .i64 0, .int .i64 0, .int .i64 0, .int .i64 0, .int .i64 0, .int .i64 0] 70) := ⟨_, rfl⟩
        have bV : Below y53.heap.size y53 V54 := by rw [hVe]; exact (Below.refl _ _).alloc (Nat.le_refl _) _
        have Ap : Arr V54 y53.heap.size 70 (I64 Z16) := by rw [hVe]; exact Arr.new _ (I64 Z16) _
        have hXp : w.heap.size < y53.heap.size ∧ Xq < y53.heap.size ∧ Xf < y53.heap.size ∧ Xk < y53.heap.size ∧ Xo < y53.heap.size ∧ True := ⟨pa.lt, Aq.lt, Af.lt, Ak.lt, Ao.lt, trivial⟩
        obtain ⟨Xp, hXe⟩ : ∃ X, X = y53.heap.size := ⟨_, rfl⟩
        replace fr := fr.trans (bV.mono fr.size)
        replace pa := pa.kept bV
        replace vP := vP.kept bV
        replace vD := vD.kept bV
        replace Aq := Aq.kept bV
        replace Af := Af.kept bV
        replace Ak := Ak.kept bV
        replace Ao := Ao.kept bV
        rw [← hVe]
        rw [← hXe] at Ap hXp ⊢
        clear hVe hXe bV
        refine hK.out _ _ ⟨E4.rc hP pa, E4.rc hQ Aq, vr_range vD, E4.rt hP pa, E4.rt hQ Aq⟩ (fun hHeld => ?_)
        clear hK K
        refine wpAnyH_ready (rs := [14]) (by kernel_rfl) (by simp) (AllReadyH.cons (o := qOc2) rfl (fun K hK => ?_) AllReadyH.nil)
        rw [if_pos (by rfl)]
        refine wp_store_mid _ _ _ rfl _ _ (I64 o).toArray rfl rfl (by have := arr_there Ao; simpa [no] using this) jo (all_oneCell_toArray uo) ?_
        simp only [Act.put]
        replace fr := bel_sc fr Xo (I64 o) (by omega)
        replace pa := pa.sc Xo (I64 o) (by omega)
        replace vP := vP.sc Xo (I64 o) (by omega)
        replace vD := vD.sc Xo (I64 o) (by omega)
        replace Aq := Aq.sc Xo (I64 o) (by omega)
        replace Af := Af.sc Xo (I64 o) (by omega)
        replace Ak := Ak.sc Xo (I64 o) (by omega)
        replace Ao := Ao.sc0 (I64 o) (by simp [no])
        replace Ap := Ap.sc Xo (I64 o) (by omega)
        obtain ⟨V55, hVe⟩ : ∃ V, V = V54.setCells Xo 0 (I64 o) := ⟨_, rfl⟩
        rw [← hVe] at fr pa vP vD Aq Af Ak Ao Ap ⊢
        clear hVe
        refine hK.out _ _ ⟨E4.rc hP pa, E4.rc hQ Aq, vr_range vD, E4.rt hP pa, E4.rt hQ Aq⟩ (fun hHeld => ?_)
        clear hK K
        refine wpAnyH_ready (rs := [15]) (by kernel_rfl) (by simp) (AllReadyH.cons (o := qOc3) rfl (fun K hK => ?_) AllReadyH.nil)
        rw [if_pos (by rfl)]
        refine wp_store_mid _ _ _ rfl _ _ (I64 p).toArray rfl rfl (by have := arr_there Ap; simpa [np] using this) jp (all_oneCell_toArray up) ?_
        simp only [Act.put]
        replace fr := bel_sc fr Xp (I64 p) (by omega)
        replace pa := pa.sc Xp (I64 p) (by omega)
        replace vP := vP.sc Xp (I64 p) (by omega)
        replace vD := vD.sc Xp (I64 p) (by omega)
        replace Aq := Aq.sc Xp (I64 p) (by omega)
        replace Af := Af.sc Xp (I64 p) (by omega)
        replace Ak := Ak.sc Xp (I64 p) (by omega)
        replace Ao := Ao.sc Xp (I64 p) (by omega)
        replace Ap := Ap.sc0 (I64 p) (by simp [np])
        obtain ⟨V56, hVe⟩ : ∃ V, V = V55.setCells Xp 0 (I64 p) := ⟨_, rfl⟩
        rw [← hVe] at fr pa vP vD Aq Af Ak Ao Ap ⊢
        clear hVe
        refine hK.out _ _ ⟨E4.rc hP pa, E4.rc hQ Aq, vr_range vD, E4.rt hP pa, E4.rt hQ Aq⟩ (fun hHeld => ?_)
        clear hK K
        refine wpAnyH_done (by kernel_rfl) ?_ _
        go_wp2
        go_meet
        case rel => exact ⟨Xo, Xp, rfl, rfl, Ao, Ap, fr, pa, vP, vD, Aq, Af, Ak⟩
       ·skip
        go_simp
        obtain ⟨V57, hVe⟩ : ∃ V, V = V52.alloc (.cells #[.int .i64 0, .int .i64 0, .int .i64 0, .int .i64 0, .int .i64 0, .int .i64 0, .int .i64 0, .int .i64 0, .int .i64 0, .int .i64 0, .int .i64 0, .int .i64 0, .int .i64 0, .int .i64 0, .int .i64 0, .int .i64 0] 70) := ⟨_, rfl⟩
        have bV : Below V52.heap.size V52 V57 := by rw [hVe]; exact (Below.refl _ _).alloc (Nat.le_refl _) _
        have Ap : Arr V57 V52.heap.size 70 (I64 Z16) := by rw [hVe]; exact Arr.new _ (I64 Z16) _
        have hXp : w.heap.size < V52.heap.size ∧ Xq < V52.heap.size ∧ Xf < V52.heap.size ∧ Xk < V52.heap.size ∧ Xo < V52.heap.size ∧ True := ⟨pa.lt, Aq.lt, Af.lt, Ak.lt, Ao.lt, trivial⟩
        obtain ⟨Xp, hXe⟩ : ∃ X, X = V52.heap.size := ⟨_, rfl⟩
        replace fr := fr.trans (bV.mono fr.size)
        replace pa := pa.kept bV
        replace vP := vP.kept bV
        replace vD := vD.kept bV
        replace Aq := Aq.kept bV
        replace Af := Af.kept bV
        replace Ak := Ak.kept bV
        replace Ao := Ao.kept bV
        rw [← hVe]
        rw [← hXe] at Ap hXp ⊢
        clear hVe hXe bV
        refine hK.out _ _ ⟨E4.rc hP pa, E4.rc hQ Aq, vr_range vD, E4.rt hP pa, E4.rt hQ Aq⟩ (fun hHeld => ?_)
        clear hK K
        refine wpAnyH_ready (rs := [11]) (by kernel_rfl) (by simp) (AllReadyH.cons (o := { dst := some 45, op := Op.call { callee := Callee.value (Operand.func 104), args := #[Operand.tmp 39, Operand.tmp 44], argTypes := #[70, 70] }, type := 70, pos := "l06_point.go:167", after := #[{ on := 5, ground := Ground.data }, { on := 10, ground := Ground.data }, { on := 10, ground := Ground.chain }], guard := none }) rfl (fun K hK => ?_) AllReadyH.nil)
        go_simp
        refine (Hp.out _ vP).mono ?_
        rintro e y58 ⟨rfl, hb58⟩
        replace fr := fr.trans (hb58.mono fr.size)
        replace pa := pa.kept hb58
        replace vP := vP.kept hb58
        replace vD := vD.kept hb58
        replace Aq := Aq.kept hb58
        replace Af := Af.kept hb58
        replace Ak := Ak.kept hb58
        replace Ao := Ao.kept hb58
        replace Ap := Ap.kept hb58
        clear hb58
        go_wp2_with fail
        refine hK.out _ _ ⟨E4.rc hP pa, E4.rc hQ Aq, vr_range vD, E4.rt hP pa, E4.rt hQ Aq⟩ (fun hHeld => ?_)
        clear hK K
        refine wpAnyH_ready (rs := [14]) (by kernel_rfl) (by simp) (AllReadyH.cons (o := qOc2) rfl (fun K hK => ?_) AllReadyH.nil)
        rw [if_pos (by rfl)]
        refine wp_store_mid _ _ _ rfl _ _ (I64 o).toArray rfl rfl (by have := arr_there Ao; simpa [no] using this) jo (all_oneCell_toArray uo) ?_
        simp only [Act.put]
        replace fr := bel_sc fr Xo (I64 o) (by omega)
        replace pa := pa.sc Xo (I64 o) (by omega)
        replace vP := vP.sc Xo (I64 o) (by omega)
        replace vD := vD.sc Xo (I64 o) (by omega)
        replace Aq := Aq.sc Xo (I64 o) (by omega)
        replace Af := Af.sc Xo (I64 o) (by omega)
        replace Ak := Ak.sc Xo (I64 o) (by omega)
        replace Ao := Ao.sc0 (I64 o) (by simp [no])
        replace Ap := Ap.sc Xo (I64 o) (by omega)
        obtain ⟨V59, hVe⟩ : ∃ V, V = y58.setCells Xo 0 (I64 o) := ⟨_, rfl⟩
        rw [← hVe] at fr pa vP vD Aq Af Ak Ao Ap ⊢
        clear hVe
        refine hK.out _ _ ⟨E4.rc hP pa, E4.rc hQ Aq, vr_range vD, E4.rt hP pa, E4.rt hQ Aq⟩ (fun hHeld => ?_)
        clear hK K
        refine wpAnyH_ready (rs := [15]) (by kernel_rfl) (by simp) (AllReadyH.cons (o := qOc3) rfl (fun K hK => ?_) AllReadyH.nil)
        rw [if_pos (by rfl)]
        refine wp_store_mid _ _ _ rfl _ _ (I64 p).toArray rfl rfl (by have := arr_there Ap; simpa [np] using this) jp (all_oneCell_toArray up) ?_
        simp only [Act.put]
        replace fr := bel_sc fr Xp (I64 p) (by omega)
        replace pa := pa.sc Xp (I64 p) (by omega)
        replace vP := vP.sc Xp (I64 p) (by omega)
        replace vD := vD.sc Xp (I64 p) (by omega)
        replace Aq := Aq.sc Xp (I64 p) (by omega)
        replace Af := Af.sc Xp (I64 p) (by omega)
        replace Ak := Ak.sc Xp (I64 p) (by omega)
        replace Ao := Ao.sc Xp (I64 p) (by omega)
        replace Ap := Ap.sc0 (I64 p) (by simp [np])
        obtain ⟨V60, hVe⟩ : ∃ V, V = V59.setCells Xp 0 (I64 p) := ⟨_, rfl⟩
        rw [← hVe] at fr pa vP vD Aq Af Ak Ao Ap ⊢
        clear hVe
        refine hK.out _ _ ⟨E4.rc hP pa, E4.rc hQ Aq, vr_range vD, E4.rt hP pa, E4.rt hQ Aq⟩ (fun hHeld => ?_)
        clear hK K
        refine wpAnyH_done (by kernel_rfl) ?_ _
        go_wp2
        go_meet
        case rel => exact ⟨Xo, Xp, rfl, rfl, Ao, Ap, fr, pa, vP, vD, Aq, Af, Ak⟩
      ·skip
       go_simp
       obtain ⟨V61, hVe⟩ : ∃ V, V = y42.alloc (.cells #[.int .i64 0, .int .i64 0, .int .i64 0, .int .i64 0, .int .i64 0, .int .i64 0, .int .i64 0, .int .i64 0, .int .i64 0, .int .i64 0, .int .i64 0, .int .i64 0, .int .i64 0, .int .i64 0, .int .i64 0, .int .i64 0] 70) := ⟨_, rfl⟩
       have bV : Below y42.heap.size y42 V61 := by rw [hVe]; exact (Below.refl _ _).alloc (Nat.le_refl _) _
       have Ap : Arr V61 y42.heap.size 70 (I64 Z16) := by rw [hVe]; exact Arr.new _ (I64 Z16) _
       have hXp : w.heap.size < y42.heap.size ∧ Xq < y42.heap.size ∧ Xf < y42.heap.size ∧ Xk < y42.heap.size ∧ True := ⟨pa.lt, Aq.lt, Af.lt, Ak.lt, trivial⟩
       obtain ⟨Xp, hXe⟩ : ∃ X, X = y42.heap.size := ⟨_, rfl⟩
       replace fr := fr.trans (bV.mono fr.size)
       replace pa := pa.kept bV
       replace vP := vP.kept bV
       replace vD := vD.kept bV
       replace Aq := Aq.kept bV
       replace Af := Af.kept bV
       replace Ak := Ak.kept bV
       rw [← hVe]
       rw [← hXe] at Ap hXp ⊢
       clear hVe hXe bV
       refine hK.out _ _ ⟨E4.rc hP pa, E4.rc hQ Aq, vr_range vD, E4.rt hP pa, E4.rt hQ Aq⟩ (fun hHeld => ?_)
       clear hK K
       refine wpAnyH_ready (rs := [11, 12]) (by kernel_rfl) (by simp) (AllReadyH.cons (o := { dst := some 45, op := Op.call { callee := Callee.value (Operand.func 104), args := #[Operand.tmp 39, Operand.tmp 44], argTypes := #[70, 70] }, type := 70, pos := "l06_point.go:167", after := #[{ on := 5, ground := Ground.data }, { on := 10, ground := Ground.data }, { on := 10, ground := Ground.chain }], guard := none }) rfl (fun K hK => ?_) (AllReadyH.cons (o := { dst := some 8, op := Op.alloc 70, type := 0, pos := "l06_point.go:167", after := #[], guard := none }) rfl (fun K hK => ?_) AllReadyH.nil))
       ·skip
        go_simp
        refine (Hp.out _ vP).mono ?_
        rintro e y62 ⟨rfl, hb62⟩
        replace fr := fr.trans (hb62.mono fr.size)
        replace pa := pa.kept hb62
        replace vP := vP.kept hb62
        replace vD := vD.kept hb62
        replace Aq := Aq.kept hb62
        replace Af := Af.kept hb62
        replace Ak := Ak.kept hb62
        replace Ap := Ap.kept hb62
        clear hb62
        go_wp2_with fail
        refine hK.out _ _ ⟨E4.rc hP pa, E4.rc hQ Aq, vr_range vD, E4.rt hP pa, E4.rt hQ Aq⟩ (fun hHeld => ?_)
        clear hK K
        refine wpAnyH_ready (rs := [12]) (by kernel_rfl) (by simp) (AllReadyH.cons (o := { dst := some 8, op := Op.alloc 70, type := 0, pos := "l06_point.go:167", after := #[], guard := none }) rfl (fun K hK => ?_) AllReadyH.nil)
        go_simp
        obtain ⟨V63, hVe⟩ : ∃ V, V = y62.alloc (.cells #[.int .i64 0, .int .i64 0, .int .i64 0, .int .i64 0, .int .i64 0, .int .i64 0, .int .i64 0, .int .i64 0, .int .i64 0, .int .i64 0, .int .i64 0, .int .i64 0, .int .i64 0, .int .i64 0, .int .i64 0, .int .i64 0] 70) := ⟨_, rfl⟩
        have bV : Below y62.heap.size y62 V63 := by rw [hVe]; exact (Below.refl _ _).alloc (Nat.le_refl _) _
        have Ao : Arr V63 y62.heap.size 70 (I64 Z16) := by rw [hVe]; exact Arr.new _ (I64 Z16) _
        have hXo : w.heap.size < y62.heap.size ∧ Xq < y62.heap.size ∧ Xf < y62.heap.size ∧ Xk < y62.heap.size ∧ Xp < y62.heap.size ∧ True := ⟨pa.lt, Aq.lt, Af.lt, Ak.lt, Ap.lt, trivial⟩
        obtain ⟨Xo, hXe⟩ : ∃ X, X = y62.heap.size := ⟨_, rfl⟩
        replace fr := fr.trans (bV.mono fr.size)
        replace pa := pa.kept bV
        replace vP := vP.kept bV
        replace vD := vD.kept bV
        replace Aq := Aq.kept bV
        replace Af := Af.kept bV
        replace Ak := Ak.kept bV
        replace Ap := Ap.kept bV
        rw [← hVe]
        rw [← hXe] at Ao hXo ⊢
        clear hVe hXe bV
        refine hK.out _ _ ⟨E4.rc hP pa, E4.rc hQ Aq, vr_range vD, E4.rt hP pa, E4.rt hQ Aq⟩ (fun hHeld => ?_)
        clear hK K
        refine wpAnyH_ready (rs := [14]) (by kernel_rfl) (by simp) (AllReadyH.cons (o := qOc2) rfl (fun K hK => ?_) AllReadyH.nil)
        rw [if_pos (by rfl)]
        refine wp_store_mid _ _ _ rfl _ _ (I64 o).toArray rfl rfl (by have := arr_there Ao; simpa [no] using this) jo (all_oneCell_toArray uo) ?_
        simp only [Act.put]
        replace fr := bel_sc fr Xo (I64 o) (by omega)
        replace pa := pa.sc Xo (I64 o) (by omega)
        replace vP := vP.sc Xo (I64 o) (by omega)
        replace vD := vD.sc Xo (I64 o) (by omega)
        replace Aq := Aq.sc Xo (I64 o) (by omega)
        replace Af := Af.sc Xo (I64 o) (by omega)
        replace Ak := Ak.sc Xo (I64 o) (by omega)
        replace Ap := Ap.sc Xo (I64 o) (by omega)
        replace Ao := Ao.sc0 (I64 o) (by simp [no])
        obtain ⟨V64, hVe⟩ : ∃ V, V = V63.setCells Xo 0 (I64 o) := ⟨_, rfl⟩
        rw [← hVe] at fr pa vP vD Aq Af Ak Ap Ao ⊢
        clear hVe
        refine hK.out _ _ ⟨E4.rc hP pa, E4.rc hQ Aq, vr_range vD, E4.rt hP pa, E4.rt hQ Aq⟩ (fun hHeld => ?_)
        clear hK K
        refine wpAnyH_ready (rs := [15]) (by kernel_rfl) (by simp) (AllReadyH.cons (o := qOc3) rfl (fun K hK => ?_) AllReadyH.nil)
        rw [if_pos (by rfl)]
        refine wp_store_mid _ _ _ rfl _ _ (I64 p).toArray rfl rfl (by have := arr_there Ap; simpa [np] using this) jp (all_oneCell_toArray up) ?_
        simp only [Act.put]
        replace fr := bel_sc fr Xp (I64 p) (by omega)
        replace pa := pa.sc Xp (I64 p) (by omega)
        replace vP := vP.sc Xp (I64 p) (by omega)
        replace vD := vD.sc Xp (I64 p) (by omega)
        replace Aq := Aq.sc Xp (I64 p) (by omega)
        replace Af := Af.sc Xp (I64 p) (by omega)
        replace Ak := Ak.sc Xp (I64 p) (by omega)
        replace Ap := Ap.sc0 (I64 p) (by simp [np])
        replace Ao := Ao.sc Xp (I64 p) (by omega)
        obtain ⟨V65, hVe⟩ : ∃ V, V = V64.setCells Xp 0 (I64 p) := ⟨_, rfl⟩
        rw [← hVe] at fr pa vP vD Aq Af Ak Ap Ao ⊢
        clear hVe
        refine hK.out _ _ ⟨E4.rc hP pa, E4.rc hQ Aq, vr_range vD, E4.rt hP pa, E4.rt hQ Aq⟩ (fun hHeld => ?_)
        clear hK K
        refine wpAnyH_done (by kernel_rfl) ?_ _
        go_wp2
        go_meet
        case rel => exact ⟨Xo, Xp, rfl, rfl, Ao, Ap, fr, pa, vP, vD, Aq, Af, Ak⟩
       ·skip
        go_simp
        obtain ⟨V66, hVe⟩ : ∃ V, V = V61.alloc (.cells #[.int .i64 0, .int .i64 0, .int .i64 0, .int .i64 0, .int .i64 0, .int .i64 0, .int .i64 0, .int .i64 0, .int .i64 0, .int .i64 0, .int .i64 0, .int .i64 0, .int .i64 0, .int .i64 0, .int .i64 0, .int .i64 0] 70) := ⟨_, rfl⟩
        have bV : Below V61.heap.size V61 V66 := by rw [hVe]; exact (Below.refl _ _).alloc (Nat.le_refl _) _
        have Ao : Arr V66 V61.heap.size 70 (I64 Z16) := by rw [hVe]; exact Arr.new _ (I64 Z16) _
        have hXo : w.heap.size < V61.heap.size ∧ Xq < V61.heap.size ∧ Xf < V61.heap.size ∧ Xk < V61.heap.size ∧ Xp < V61.heap.size ∧ True := ⟨pa.lt, Aq.lt, Af.lt, Ak.lt, Ap.lt, trivial⟩
        obtain ⟨Xo, hXe⟩ : ∃ X, X = V61.heap.size := ⟨_, rfl⟩
        replace fr := fr.trans (bV.mono fr.size)
        replace pa := pa.kept bV
        replace vP := vP.kept bV
        replace vD := vD.kept bV
        replace Aq := Aq.kept bV
        replace Af := Af.kept bV
        replace Ak := Ak.kept bV
        replace Ap := Ap.kept bV
        rw [← hVe]
        rw [← hXe] at Ao hXo ⊢
        clear hVe hXe bV
        refine hK.out _ _ ⟨E4.rc hP pa, E4.rc hQ Aq, vr_range vD, E4.rt hP pa, E4.rt hQ Aq⟩ (fun hHeld => ?_)
        clear hK K
        refine wpAnyH_ready (rs := [11]) (by kernel_rfl) (by simp) (AllReadyH.cons (o := { dst := some 45, op := Op.call { callee := Callee.value (Operand.func 104), args := #[Operand.tmp 39, Operand.tmp 44], argTypes := #[70, 70] }, type := 70, pos := "l06_point.go:167", after := #[{ on := 5, ground := Ground.data }, { on := 10, ground := Ground.data }, { on := 10, ground := Ground.chain }], guard := none }) rfl (fun K hK => ?_) AllReadyH.nil)
        go_simp
        refine (Hp.out _ vP).mono ?_
        rintro e y67 ⟨rfl, hb67⟩
        replace fr := fr.trans (hb67.mono fr.size)
        replace pa := pa.kept hb67
        replace vP := vP.kept hb67
        replace vD := vD.kept hb67
        replace Aq := Aq.kept hb67
        replace Af := Af.kept hb67
        replace Ak := Ak.kept hb67
        replace Ap := Ap.kept hb67
        replace Ao := Ao.kept hb67
        clear hb67
        go_wp2_with fail
        refine hK.out _ _ ⟨E4.rc hP pa, E4.rc hQ Aq, vr_range vD, E4.rt hP pa, E4.rt hQ Aq⟩ (fun hHeld => ?_)
        clear hK K
        refine wpAnyH_ready (rs := [14]) (by kernel_rfl) (by simp) (AllReadyH.cons (o := qOc2) rfl (fun K hK => ?_) AllReadyH.nil)
        rw [if_pos (by rfl)]
        refine wp_store_mid _ _ _ rfl _ _ (I64 o).toArray rfl rfl (by have := arr_there Ao; simpa [no] using this) jo (all_oneCell_toArray uo) ?_
        simp only [Act.put]
        replace fr := bel_sc fr Xo (I64 o) (by omega)
        replace pa := pa.sc Xo (I64 o) (by omega)
        replace vP := vP.sc Xo (I64 o) (by omega)
        replace vD := vD.sc Xo (I64 o) (by omega)
        replace Aq := Aq.sc Xo (I64 o) (by omega)
        replace Af := Af.sc Xo (I64 o) (by omega)
        replace Ak := Ak.sc Xo (I64 o) (by omega)
        replace Ap := Ap.sc Xo (I64 o) (by omega)
        replace Ao := Ao.sc0 (I64 o) (by simp [no])
        obtain ⟨V68, hVe⟩ : ∃ V, V = y67.setCells Xo 0 (I64 o) := ⟨_, rfl⟩
        rw [← hVe] at fr pa vP vD Aq Af Ak Ap Ao ⊢
        clear hVe
        refine hK.out _ _ ⟨E4.rc hP pa, E4.rc hQ Aq, vr_range vD, E4.rt hP pa, E4.rt hQ Aq⟩ (fun hHeld => ?_)
        clear hK K
        refine wpAnyH_ready (rs := [15]) (by kernel_rfl) (by simp) (AllReadyH.cons (o := qOc3) rfl (fun K hK => ?_) AllReadyH.nil)
        rw [if_pos (by rfl)]
        refine wp_store_mid _ _ _ rfl _ _ (I64 p).toArray rfl rfl (by have := arr_there Ap; simpa [np] using this) jp (all_oneCell_toArray up) ?_
        simp only [Act.put]
        replace fr := bel_sc fr Xp (I64 p) (by omega)
        replace pa := pa.sc Xp (I64 p) (by omega)
        replace vP := vP.sc Xp (I64 p) (by omega)
        replace vD := vD.sc Xp (I64 p) (by omega)
        replace Aq := Aq.sc Xp (I64 p) (by omega)
        replace Af := Af.sc Xp (I64 p) (by omega)
        replace Ak := Ak.sc Xp (I64 p) (by omega)
        replace Ap := Ap.sc0 (I64 p) (by simp [np])
        replace Ao := Ao.sc Xp (I64 p) (by omega)
        obtain ⟨V69, hVe⟩ : ∃ V, V = V68.setCells Xp 0 (I64 p) := ⟨_, rfl⟩
        rw [← hVe] at fr pa vP vD Aq Af Ak Ap Ao ⊢
        clear hVe
        refine hK.out _ _ ⟨E4.rc hP pa, E4.rc hQ Aq, vr_range vD, E4.rt hP pa, E4.rt hQ Aq⟩ (fun hHeld => ?_)
        clear hK K
        refine wpAnyH_done (by kernel_rfl) ?_ _
        go_wp2
        go_meet
        case rel => exact ⟨Xo, Xp, rfl, rfl, Ao, Ap, fr, pa, vP, vD, Aq, Af, Ak⟩
     ·skip
      go_simp
      obtain ⟨V70, hVe⟩ : ∃ V, V = y41.alloc (.cells #[.int .i64 0, .int .i64 0, .int .i64 0, .int .i64 0, .int .i64 0, .int .i64 0, .int .i64 0, .int .i64 0, .int .i64 0, .int .i64 0, .int .i64 0, .int .i64 0, .int .i64 0, .int .i64 0, .int .i64 0, .int .i64 0] 70) := ⟨_, rfl⟩
      have bV : Below y41.heap.size y41 V70 := by rw [hVe]; exact (Below.refl _ _).alloc (Nat.le_refl _) _
      have Ao : Arr V70 y41.heap.size 70 (I64 Z16) := by rw [hVe]; exact Arr.new _ (I64 Z16) _
      have hXo : w.heap.size < y41.heap.size ∧ Xq < y41.heap.size ∧ Xf < y41.heap.size ∧ Xk < y41.heap.size ∧ True := ⟨pa.lt, Aq.lt, Af.lt, Ak.lt, trivial⟩
      obtain ⟨Xo, hXe⟩ : ∃ X, X = y41.heap.size := ⟨_, rfl⟩
      replace fr := fr.trans (bV.mono fr.size)
      replace pa := pa.kept bV
      replace vP := vP.kept bV
      replace vD := vD.kept bV
      replace Aq := Aq.kept bV
      replace Af := Af.kept bV
      replace Ak := Ak.kept bV
      rw [← hVe]
      rw [← hXe] at Ao hXo ⊢
      clear hVe hXe bV
      refine hK.out _ _ ⟨E4.rc hP pa, E4.rc hQ Aq, vr_range vD, E4.rt hP pa, E4.rt hQ Aq⟩ (fun hHeld => ?_)
      clear hK K
      refine wpAnyH_ready (rs := [10, 13]) (by kernel_rfl) (by simp) (AllReadyH.cons (o := { dst := some 44, op := Op.call { callee := Callee.value (Operand.func 104), args := #[Operand.tmp 41, Operand.tmp 43], argTypes := #[70, 70] }, type := 70, pos := "l06_point.go:167", after := #[{ on := 7, ground := Ground.data }, { on := 9, ground := Ground.data }, { on := 4, ground := Ground.chain }], guard := none }) rfl (fun K hK => ?_) (AllReadyH.cons (o := { dst := some 9, op := Op.alloc 70, type := 0, pos := "l06_point.go:167", after := #[], guard := none }) rfl (fun K hK => ?_) AllReadyH.nil))
      ·skip
       go_simp
       refine (Ht1.out _ vP).mono ?_
       rintro e y71 ⟨rfl, hb71⟩
       replace fr := fr.trans (hb71.mono fr.size)
       replace pa := pa.kept hb71
       replace vP := vP.kept hb71
       replace vD := vD.kept hb71
       replace Aq := Aq.kept hb71
       replace Af := Af.kept hb71
       replace Ak := Ak.kept hb71
       replace Ao := Ao.kept hb71
       clear hb71
       go_wp2_with fail
       refine hK.out _ _ ⟨E4.rc hP pa, E4.rc hQ Aq, vr_range vD, E4.rt hP pa, E4.rt hQ Aq⟩ (fun hHeld => ?_)
       clear hK K
       refine wpAnyH_ready (rs := [11, 13]) (by kernel_rfl) (by simp) (AllReadyH.cons (o := { dst := some 45, op := Op.call { callee := Callee.value (Operand.func 104), args := #[Operand.tmp 39, Operand.tmp 44], argTypes := #[70, 70] }, type := 70, pos := "l06_point.go:167", after := #[{ on := 5, ground := Ground.data }, { on := 10, ground := Ground.data }, { on := 10, ground := Ground.chain }], guard := none }) rfl (fun K hK => ?_) (AllReadyH.cons (o := { dst := some 9, op := Op.alloc 70, type := 0, pos := "l06_point.go:167", after := #[], guard := none }) rfl (fun K hK => ?_) AllReadyH.nil))
       ·skip
        go_simp
        refine (Hp.out _ vP).mono ?_
        rintro e y72 ⟨rfl, hb72⟩
        replace fr := fr.trans (hb72.mono fr.size)
        replace pa := pa.kept hb72
        replace vP := vP.kept hb72
        replace vD := vD.kept hb72
        replace Aq := Aq.kept hb72
        replace Af := Af.kept hb72
        replace Ak := Ak.kept hb72
        replace Ao := Ao.kept hb72
        clear hb72
        go_wp2_with fail
        refine hK.out _ _ ⟨E4.rc hP pa, E4.rc hQ Aq, vr_range vD, E4.rt hP pa, E4.rt hQ Aq⟩ (fun hHeld => ?_)
        clear hK K
        refine wpAnyH_ready (rs := [13]) (by kernel_rfl) (by simp) (AllReadyH.cons (o := { dst := some 9, op := Op.alloc 70, type := 0, pos := "l06_point.go:167", after := #[], guard := none }) rfl (fun K hK => ?_) AllReadyH.nil)
        go_simp
        obtain ⟨V73, hVe⟩ : ∃ V, V = y72.alloc (.cells #[.int .i64 0, .int .i64 0, .int .i64 0, .int .i64 0, .int .i64 0, .int .i64 0, .int .i64 0, .int .i64 0, .int .i64 0, .int .i64 0, .int .i64 0, .int .i64 0, .int .i64 0, .int .i64 0, .int .i64 0, .int .i64 0] 70) := ⟨_, rfl⟩
        have bV : Below y72.heap.size y72 V73 := by rw [hVe]; exact (Below.refl _ _).alloc (Nat.le_refl _) _
        have Ap : Arr V73 y72.heap.size 70 (I64 Z16) := by rw [hVe]; exact Arr.new _ (I64 Z16) _
        have hXp : w.heap.size < y72.heap.size ∧ Xq < y72.heap.size ∧ Xf < y72.heap.size ∧ Xk < y72.heap.size ∧ Xo < y72.heap.size ∧ True := ⟨pa.lt, Aq.lt, Af.lt, Ak.lt, Ao.lt, trivial⟩
        obtain ⟨Xp, hXe⟩ : ∃ X, X = y72.heap.size := ⟨_, rfl⟩
        replace fr := fr.trans (bV.mono fr.size)
        replace pa := pa.kept bV
        replace vP := vP.kept bV
        replace vD := vD.kept bV
        replace Aq := Aq.kept bV
        replace Af := Af.kept bV
        replace Ak := Ak.kept bV
        replace Ao := Ao.kept bV
        rw [← hVe]
        rw [← hXe] at Ap hXp ⊢
        clear hVe hXe bV
        refine hK.out _ _ ⟨E4.rc hP pa, E4.rc hQ Aq, vr_range vD, E4.rt hP pa, E4.rt hQ Aq⟩ (fun hHeld => ?_)
        clear hK K
        refine wpAnyH_ready (rs := [14]) (by kernel_rfl) (by simp) (AllReadyH.cons (o := qOc2) rfl (fun K hK => ?_) AllReadyH.nil)
        rw [if_pos (by rfl)]
        refine wp_store_mid _ _ _ rfl _ _ (I64 o).toArray rfl rfl (by have := arr_there Ao; simpa [no] using this) jo (all_oneCell_toArray uo) ?_
        simp only [Act.put]
        replace fr := bel_sc fr Xo (I64 o) (by omega)
        replace pa := pa.sc Xo (I64 o) (by omega)
        replace vP := vP.sc Xo (I64 o) (by omega)
        replace vD := vD.sc Xo (I64 o) (by omega)
        replace Aq := Aq.sc Xo (I64 o) (by omega)
        replace Af := Af.sc Xo (I64 o) (by omega)
        replace Ak := Ak.sc Xo (I64 o) (by omega)
        replace Ao := Ao.sc0 (I64 o) (by simp [no])
        replace Ap := Ap.sc Xo (I64 o) (by omega)
        obtain ⟨V74, hVe⟩ : ∃ V, V = V73.setCells Xo 0 (I64 o) := ⟨_, rfl⟩
        rw [← hVe] at fr pa vP vD Aq Af Ak Ao Ap ⊢
        clear hVe
        refine hK.out _ _ ⟨E4.rc hP pa, E4.rc hQ Aq, vr_range vD, E4.rt hP pa, E4.rt hQ Aq⟩ (fun hHeld => ?_)
        clear hK K
        refine wpAnyH_ready (rs := [15]) (by kernel_rfl) (by simp) (AllReadyH.cons (o := qOc3) rfl (fun K hK => ?_) AllReadyH.nil)
        rw [if_pos (by rfl)]
        refine wp_store_mid _ _ _ rfl _ _ (I64 p).toArray rfl rfl (by have := arr_there Ap; simpa [np] using this) jp (all_oneCell_toArray up) ?_
        simp only [Act.put]
        replace fr := bel_sc fr Xp (I64 p) (by omega)
        replace pa := pa.sc Xp (I64 p) (by omega)
        replace vP := vP.sc Xp (I64 p) (by omega)
        replace vD := vD.sc Xp (I64 p) (by omega)
        replace Aq := Aq.sc Xp (I64 p) (by omega)
        replace Af := Af.sc Xp (I64 p) (by omega)
        replace Ak := Ak.sc Xp (I64 p) (by omega)
        replace Ao := Ao.sc Xp (I64 p) (by omega)
        replace Ap := Ap.sc0 (I64 p) (by simp [np])
        obtain ⟨V75, hVe⟩ : ∃ V, V = V74.setCells Xp 0 (I64 p) := ⟨_, rfl⟩
        rw [← hVe] at fr pa vP vD Aq Af Ak Ao Ap ⊢
        clear hVe
        refine hK.out _ _ ⟨E4.rc hP pa, E4.rc hQ Aq, vr_range vD, E4.rt hP pa, E4.rt hQ Aq⟩ (fun hHeld => ?_)
        clear hK K
        refine wpAnyH_done (by kernel_rfl) ?_ _
        go_wp2
        go_meet
        case rel => exact ⟨Xo, Xp, rfl, rfl, Ao, Ap, fr, pa, vP, vD, Aq, Af, Ak⟩
       ·skip
        go_simp
        obtain ⟨V76, hVe⟩ : ∃ V, V = y71.alloc (.cells #[.int .i64 0, .int .i64 0, .int .i64 0, .int .i64 0, .int .i64 0, .int .i64 0, .int .i64 0, .int .i64 0, .int .i64 0, .int .i64 0, .int .i64 0, .int .i64 0, .int .i64 0, .int .i64 0, .int .i64 0, .int .i64 0] 70) := ⟨_, rfl⟩
        have bV : Below y71.heap.size y71 V76 := by rw [hVe]; exact (Below.refl _ _).alloc (Nat.le_refl _) _
        have Ap : Arr V76 y71.heap.size 70 (I64 Z16) := by rw [hVe]; exact Arr.new _ (I64 Z16) _
        have hXp : w.heap.size < y71.heap.size ∧ Xq < y71.heap.size ∧ Xf < y71.heap.size ∧ Xk < y71.heap.size ∧ Xo < y71.heap.size ∧ True := ⟨pa.lt, Aq.lt, Af.lt, Ak.lt, Ao.lt, trivial⟩
        obtain ⟨Xp, hXe⟩ : ∃ X, X = y71.heap.size := ⟨_, rfl⟩
        replace fr := fr.trans (bV.mono fr.size)
        replace pa := pa.kept bV
        replace vP := vP.kept bV
        replace vD := vD.kept bV
        replace Aq := Aq.kept bV
        replace Af := Af.kept bV
        replace Ak := Ak.kept bV
        replace Ao := Ao.kept bV
        rw [← hVe]
        rw [← hXe] at Ap hXp ⊢
        clear hVe hXe bV
        refine hK.out _ _ ⟨E4.rc hP pa, E4.rc hQ Aq, vr_range vD, E4.rt hP pa, E4.rt hQ Aq⟩ (fun hHeld => ?_)
        clear hK K
        refine wpAnyH_ready (rs := [11]) (by kernel_rfl) (by simp) (AllReadyH.cons (o := { dst := some 45, op := Op.call { callee := Callee.value (Operand.func 104), args := #[Operand.tmp 39, Operand.tmp 44], argTypes := #[70, 70] }, type := 70, pos := "l06_point.go:167", after := #[{ on := 5, ground := Ground.data }, { on := 10, ground := Ground.data }, { on := 10, ground := Ground.chain }], guard := none }) rfl (fun K hK => ?_) AllReadyH.nil)
        go_simp
        refine (Hp.out _ vP).mono ?_
        rintro e y77 ⟨rfl, hb77⟩
        replace fr := fr.trans (hb77.mono fr.size)
        replace pa := pa.kept hb77
        replace vP := vP.kept hb77
        replace vD := vD.kept hb77
        replace Aq := Aq.kept hb77
        replace Af := Af.kept hb77
        replace Ak := Ak.kept hb77
        replace Ao := Ao.kept hb77
        replace Ap := Ap.kept hb77
        clear hb77
        go_wp2_with fail
        refine hK.out _ _ ⟨E4.rc hP pa, E4.rc hQ Aq, vr_range vD, E4.rt hP pa, E4.rt hQ Aq⟩ (fun hHeld => ?_)
        clear hK K
        refine wpAnyH_ready (rs := [14]) (by kernel_rfl) (by simp) (AllReadyH.cons (o := qOc2) rfl (fun K hK => ?_) AllReadyH.nil)
        rw [if_pos (by rfl)]
        refine wp_store_mid _ _ _ rfl _ _ (I64 o).toArray rfl rfl (by have := arr_there Ao; simpa [no] using this) jo (all_oneCell_toArray uo) ?_
        simp only [Act.put]
        replace fr := bel_sc fr Xo (I64 o) (by omega)
        replace pa := pa.sc Xo (I64 o) (by omega)
        replace vP := vP.sc Xo (I64 o) (by omega)
        replace vD := vD.sc Xo (I64 o) (by omega)
        replace Aq := Aq.sc Xo (I64 o) (by omega)
        replace Af := Af.sc Xo (I64 o) (by omega)
        replace Ak := Ak.sc Xo (I64 o) (by omega)
        replace Ao := Ao.sc0 (I64 o) (by simp [no])
        replace Ap := Ap.sc Xo (I64 o) (by omega)
        obtain ⟨V78, hVe⟩ : ∃ V, V = y77.setCells Xo 0 (I64 o) := ⟨_, rfl⟩
        rw [← hVe] at fr pa vP vD Aq Af Ak Ao Ap ⊢
        clear hVe
        refine hK.out _ _ ⟨E4.rc hP pa, E4.rc hQ Aq, vr_range vD, E4.rt hP pa, E4.rt hQ Aq⟩ (fun hHeld => ?_)
        clear hK K
        refine wpAnyH_ready (rs := [15]) (by kernel_rfl) (by simp) (AllReadyH.cons (o := qOc3) rfl (fun K hK => ?_) AllReadyH.nil)
        rw [if_pos (by rfl)]
        refine wp_store_mid _ _ _ rfl _ _ (I64 p).toArray rfl rfl (by have := arr_there Ap; simpa [np] using this) jp (all_oneCell_toArray up) ?_
        simp only [Act.put]
        replace fr := bel_sc fr Xp (I64 p) (by omega)
        replace pa := pa.sc Xp (I64 p) (by omega)
        replace vP := vP.sc Xp (I64 p) (by omega)
        replace vD := vD.sc Xp (I64 p) (by omega)
        replace Aq := Aq.sc Xp (I64 p) (by omega)
        replace Af := Af.sc Xp (I64 p) (by omega)
        replace Ak := Ak.sc Xp (I64 p) (by omega)
        replace Ao := Ao.sc Xp (I64 p) (by omega)
        replace Ap := Ap.sc0 (I64 p) (by simp [np])
        obtain ⟨V79, hVe⟩ : ∃ V, V = V78.setCells Xp 0 (I64 p) := ⟨_, rfl⟩
        rw [← hVe] at fr pa vP vD Aq Af Ak Ao Ap ⊢
        clear hVe
        refine hK.out _ _ ⟨E4.rc hP pa, E4.rc hQ Aq, vr_range vD, E4.rt hP pa, E4.rt hQ Aq⟩ (fun hHeld => ?_)
        clear hK K
        refine wpAnyH_done (by kernel_rfl) ?_ _
        go_wp2
        go_meet
        case rel => exact ⟨Xo, Xp, rfl, rfl, Ao, Ap, fr, pa, vP, vD, Aq, Af, Ak⟩
      ·skip
       go_simp
       obtain ⟨V80, hVe⟩ : ∃ V, V = V70.alloc (.cells #[.int .i64 0, .int .i64 0, .int .i64 0, .int .i64 0, .int .i64 0, .int .i64 0, .int .i64 0, .int .i64 0, .int .i64 0, .int .i64 0, .int .i64 0, .int .i64 0, .int .i64 0, .int .i64 0, .int .i64 0, .int .i64 0] 70) := ⟨_, rfl⟩
       have bV : Below V70.heap.size V70 V80 := by rw [hVe]; exact (Below.refl _ _).alloc (Nat.le_refl _) _
       have Ap : Arr V80 V70.heap.size 70 (I64 Z16) := by rw [hVe]; exact Arr.new _ (I64 Z16) _
       have hXp : w.heap.size < V70.heap.size ∧ Xq < V70.heap.size ∧ Xf < V70.heap.size ∧ Xk < V70.heap.size ∧ Xo < V70.heap.size ∧ True := ⟨pa.lt, Aq.lt, Af.lt, Ak.lt, Ao.lt, trivial⟩
       obtain ⟨Xp, hXe⟩ : ∃ X, X = V70.heap.size := ⟨_, rfl⟩
       replace fr := fr.trans (bV.mono fr.size)
       replace pa := pa.kept bV
       replace vP := vP.kept bV
       replace vD := vD.kept bV
       replace Aq := Aq.kept bV
       replace Af := Af.kept bV
       replace Ak := Ak.kept bV
       replace Ao := Ao.kept bV
       rw [← hVe]
       rw [← hXe] at Ap hXp ⊢
       clear hVe hXe bV
       refine hK.out _ _ ⟨E4.rc hP pa, E4.rc hQ Aq, vr_range vD, E4.rt hP pa, E4.rt hQ Aq⟩ (fun hHeld => ?_)
       clear hK K
       refine wpAnyH_ready (rs := [10]) (by kernel_rfl) (by simp) (AllReadyH.cons (o := { dst := some 44, op := Op.call { callee := Callee.value (Operand.func 104), args := #[Operand.tmp 41, Operand.tmp 43], argTypes := #[70, 70] }, type := 70, pos := "l06_point.go:167", after := #[{ on := 7, ground := Ground.data }, { on := 9, ground := Ground.data }, { on := 4, ground := Ground.chain }], guard := none }) rfl (fun K hK => ?_) AllReadyH.nil)
       go_simp
       refine (Ht1.out _ vP).mono ?_
       rintro e y81 ⟨rfl, hb81⟩
       replace fr := fr.trans (hb81.mono fr.size)
       replace pa := pa.kept hb81
       replace vP := vP.kept hb81
       replace vD := vD.kept hb81
       replace Aq := Aq.kept hb81
       replace Af := Af.kept hb81
       replace Ak := Ak.kept hb81
       replace Ao := Ao.kept hb81
       replace Ap := Ap.kept hb81
       clear hb81
       go_wp2_with fail
       refine hK.out _ _ ⟨E4.rc hP pa, E4.rc hQ Aq, vr_range vD, E4.rt hP pa, E4.rt hQ Aq⟩ (fun hHeld => ?_)
       clear hK K
       refine wpAnyH_ready (rs := [11]) (by kernel_rfl) (by simp) (AllReadyH.cons (o := { dst := some 45, op := Op.call { callee := Callee.value (Operand.func 104), args := #[Operand.tmp 39, Operand.tmp 44], argTypes := #[70, 70] }, type := 70, pos := "l06_point.go:167", after := #[{ on := 5, ground := Ground.data }, { on := 10, ground := Ground.data }, { on := 10, ground := Ground.chain }], guard := none }) rfl (fun K hK => ?_) AllReadyH.nil)
       go_simp
       refine (Hp.out _ vP).mono ?_
       rintro e y82 ⟨rfl, hb82⟩
       replace fr := fr.trans (hb82.mono fr.size)
       replace pa := pa.kept hb82
       replace vP := vP.kept hb82
       replace vD := vD.kept hb82
       replace Aq := Aq.kept hb82
       replace Af := Af.kept hb82
       replace Ak := Ak.kept hb82
       replace Ao := Ao.kept hb82
       replace Ap := Ap.kept hb82
       clear hb82
       go_wp2_with fail
       refine hK.out _ _ ⟨E4.rc hP pa, E4.rc hQ Aq, vr_range vD, E4.rt hP pa, E4.rt hQ Aq⟩ (fun hHeld => ?_)
       clear hK K
       refine wpAnyH_ready (rs := [14]) (by kernel_rfl) (by simp) (AllReadyH.cons (o := qOc2) rfl (fun K hK => ?_) AllReadyH.nil)
       rw [if_pos (by rfl)]
       refine wp_store_mid _ _ _ rfl _ _ (I64 o).toArray rfl rfl (by have := arr_there Ao; simpa [no] using this) jo (all_oneCell_toArray uo) ?_
       simp only [Act.put]
       replace fr := bel_sc fr Xo (I64 o) (by omega)
       replace pa := pa.sc Xo (I64 o) (by omega)
       replace vP := vP.sc Xo (I64 o) (by omega)
       replace vD := vD.sc Xo (I64 o) (by omega)
       replace Aq := Aq.sc Xo (I64 o) (by omega)
       replace Af := Af.sc Xo (I64 o) (by omega)
       replace Ak := Ak.sc Xo (I64 o) (by omega)
       replace Ao := Ao.sc0 (I64 o) (by simp [no])
       replace Ap := Ap.sc Xo (I64 o) (by omega)
       obtain ⟨V83, hVe⟩ : ∃ V, V = y82.setCells Xo 0 (I64 o) := ⟨_, rfl⟩
       rw [← hVe] at fr pa vP vD Aq Af Ak Ao Ap ⊢
       clear hVe
       refine hK.out _ _ ⟨E4.rc hP pa, E4.rc hQ Aq, vr_range vD, E4.rt hP pa, E4.rt hQ Aq⟩ (fun hHeld => ?_)
       clear hK K
       refine wpAnyH_ready (rs := [15]) (by kernel_rfl) (by simp) (AllReadyH.cons (o := qOc3) rfl (fun K hK => ?_) AllReadyH.nil)
       rw [if_pos (by rfl)]
       refine wp_store_mid _ _ _ rfl _ _ (I64 p).toArray rfl rfl (by have := arr_there Ap; simpa [np] using this) jp (all_oneCell_toArray up) ?_
       simp only [Act.put]
       replace fr := bel_sc fr Xp (I64 p) (by omega)
       replace pa := pa.sc Xp (I64 p) (by omega)
       replace vP := vP.sc Xp (I64 p) (by omega)
       replace vD := vD.sc Xp (I64 p) (by omega)
       replace Aq := Aq.sc Xp (I64 p) (by omega)
       replace Af := Af.sc Xp (I64 p) (by omega)
       replace Ak := Ak.sc Xp (I64 p) (by omega)
       replace Ao := Ao.sc Xp (I64 p) (by omega)
       replace Ap := Ap.sc0 (I64 p) (by simp [np])
       obtain ⟨V84, hVe⟩ : ∃ V, V = V83.setCells Xp 0 (I64 p) := ⟨_, rfl⟩
       rw [← hVe] at fr pa vP vD Aq Af Ak Ao Ap ⊢
       clear hVe
       refine hK.out _ _ ⟨E4.rc hP pa, E4.rc hQ Aq, vr_range vD, E4.rt hP pa, E4.rt hQ Aq⟩ (fun hHeld => ?_)
       clear hK K
       refine wpAnyH_done (by kernel_rfl) ?_ _
       go_wp2
       go_meet
       case rel => exact ⟨Xo, Xp, rfl, rfl, Ao, Ap, fr, pa, vP, vD, Aq, Af, Ak⟩
     ·skip
      go_simp
      obtain ⟨V85, hVe⟩ : ∃ V, V = y41.alloc (.cells #[.int .i64 0, .int .i64 0, .int .i64 0, .int .i64 0, .int .i64 0, .int .i64 0, .int .i64 0, .int .i64 0, .int .i64 0, .int .i64 0, .int .i64 0, .int .i64 0, .int .i64 0, .int .i64 0, .int .i64 0, .int .i64 0] 70) := ⟨_, rfl⟩
      have bV : Below y41.heap.size y41 V85 := by rw [hVe]; exact (Below.refl _ _).alloc (Nat.le_refl _) _
      have Ap : Arr V85 y41.heap.size 70 (I64 Z16) := by rw [hVe]; exact Arr.new _ (I64 Z16) _
      have hXp : w.heap.size < y41.heap.size ∧ Xq < y41.heap.size ∧ Xf < y41.heap.size ∧ Xk < y41.heap.size ∧ True := ⟨pa.lt, Aq.lt, Af.lt, Ak.lt, trivial⟩
      obtain ⟨Xp, hXe⟩ : ∃ X, X = y41.heap.size := ⟨_, rfl⟩
      replace fr := fr.trans (bV.mono fr.size)
      replace pa := pa.kept bV
      replace vP := vP.kept bV
      replace vD := vD.kept bV
      replace Aq := Aq.kept bV
      replace Af := Af.kept bV
      replace Ak := Ak.kept bV
      rw [← hVe]
      rw [← hXe] at Ap hXp ⊢
      clear hVe hXe bV
      refine hK.out _ _ ⟨E4.rc hP pa, E4.rc hQ Aq, vr_range vD, E4.rt hP pa, E4.rt hQ Aq⟩ (fun hHeld => ?_)
      clear hK K
      refine wpAnyH_ready (rs := [10, 12]) (by kernel_rfl) (by simp) (AllReadyH.cons (o := { dst := some 44, op := Op.call { callee := Callee.value (Operand.func 104), args := #[Operand.tmp 41, Operand.tmp 43], argTypes := #[70, 70] }, type := 70, pos := "l06_point.go:167", after := #[{ on := 7, ground := Ground.data }, { on := 9, ground := Ground.data }, { on := 4, ground := Ground.chain }], guard := none }) rfl (fun K hK => ?_) (AllReadyH.cons (o := { dst := some 8, op := Op.alloc 70, type := 0, pos := "l06_point.go:167", after := #[], guard := none }) rfl (fun K hK => ?_) AllReadyH.nil))
      ·skip
       go_simp
       refine (Ht1.out _ vP).mono ?_
       rintro e y86 ⟨rfl, hb86⟩
       replace fr := fr.trans (hb86.mono fr.size)
       replace pa := pa.kept hb86
       replace vP := vP.kept hb86
       replace vD := vD.kept hb86
       replace Aq := Aq.kept hb86
       replace Af := Af.kept hb86
       replace Ak := Ak.kept hb86
       replace Ap := Ap.kept hb86
       clear hb86
       go_wp2_with fail
       refine hK.out _ _ ⟨E4.rc hP pa, E4.rc hQ Aq, vr_range vD, E4.rt hP pa, E4.rt hQ Aq⟩ (fun hHeld => ?_)
       clear hK K
       refine wpAnyH_ready (rs := [11, 12]) (by kernel_rfl) (by simp) (AllReadyH.cons (o := { dst := some 45, op := Op.call { callee := Callee.value (Operand.func 104), args := #[Operand.tmp 39, Operand.tmp 44], argTypes := #[70, 70] }, type := 70, pos := "l06_point.go:167", after := #[{ on := 5, ground := Ground.data }, { on := 10, ground := Ground.data }, { on := 10, ground := Ground.chain }], guard := none }) rfl (fun K hK => ?_) (AllReadyH.cons (o := { dst := some 8, op := Op.alloc 70, type := 0, pos := "l06_point.go:167", after := #[], guard := none }) rfl (fun K hK => ?_) AllReadyH.nil))
       ·skip
        go_simp
        refine (Hp.out _ vP).mono ?_
        rintro e y87 ⟨rfl, hb87⟩
        replace fr := fr.trans (hb87.mono fr.size)
        replace pa := pa.kept hb87
        replace vP := vP.kept hb87
        replace vD := vD.kept hb87
        replace Aq := Aq.kept hb87
        replace Af := Af.kept hb87
        replace Ak := Ak.kept hb87
        replace Ap := Ap.kept hb87
        clear hb87
        go_wp2_with fail
        refine hK.out _ _ ⟨E4.rc hP pa, E4.rc hQ Aq, vr_range vD, E4.rt hP pa, E4.rt hQ Aq⟩ (fun hHeld => ?_)
        clear hK K
        refine wpAnyH_ready (rs := [12]) (by kernel_rfl) (by simp) (AllReadyH.cons (o := { dst := some 8, op := Op.alloc 70, type := 0, pos := "l06_point.go:167", after := #[], guard := none }) rfl (fun K hK => ?_) AllReadyH.nil)
        go_simp
        obtain ⟨V88, hVe⟩ : ∃ V, V = y87.alloc (.cells #[.int .i64 0, .int .i64 0, .int .i64 0, .int .i64 0, .int .i64 0, .int .i64 0, .int .i64 0, .int .i64 0, .int .i64 0, .int .i64 0, .int .i64 0, .int .i64 0, .int .i64 0, .int .i64 0, .int .i64 0, .int .i64 0] 70) := ⟨_, rfl⟩
        have bV : Below y87.heap.size y87 V88 := by rw [hVe]; exact (Below.refl _ _).alloc (Nat.le_refl _) _
        have Ao : Arr V88 y87.heap.size 70 (I64 Z16) := by rw [hVe]; exact Arr.new _ (I64 Z16) _
        have hXo : w.heap.size < y87.heap.size ∧ Xq < y87.heap.size ∧ Xf < y87.heap.size ∧ Xk < y87.heap.size ∧ Xp < y87.heap.size ∧ True := ⟨pa.lt, Aq.lt, Af.lt, Ak.lt, Ap.lt, trivial⟩
        obtain ⟨Xo, hXe⟩ : ∃ X, X = y87.heap.size := ⟨_, rfl⟩
        replace fr := fr.trans (bV.mono fr.size)
        replace pa := pa.kept bV
        replace vP := vP.kept bV
        replace vD := vD.kept bV
        replace Aq := Aq.kept bV
        replace Af := Af.kept bV
        replace Ak := Ak.kept bV
        replace Ap := Ap.kept bV
        rw [← hVe]
        rw [← hXe] at Ao hXo ⊢
        clear hVe hXe bV
        refine hK.out _ _ ⟨E4.rc hP pa, E4.rc hQ Aq, vr_range vD, E4.rt hP pa, E4.rt hQ Aq⟩ (fun hHeld => ?_)
        clear hK K
        refine wpAnyH_ready (rs := [14]) (by kernel_rfl) (by simp) (AllReadyH.cons (o := qOc2) rfl (fun K hK => ?_) AllReadyH.nil)
        rw [if_pos (by rfl)]
        refine wp_store_mid _ _ _ rfl _ _ (I64 o).toArray rfl rfl (by have := arr_there Ao; simpa [no] using this) jo (all_oneCell_toArray uo) ?_
        simp only [Act.put]
        replace fr := bel_sc fr Xo (I64 o) (by omega)
        replace pa := pa.sc Xo (I64 o) (by omega)
        replace vP := vP.sc Xo (I64 o) (by omega)
        replace vD := vD.sc Xo (I64 o) (by omega)
        replace Aq := Aq.sc Xo (I64 o) (by omega)
        replace Af := Af.sc Xo (I64 o) (by omega)
        replace Ak := Ak.sc Xo (I64 o) (by omega)
        replace Ap := Ap.sc Xo (I64 o) (by omega)
        replace Ao := Ao.sc0 (I64 o) (by simp [no])
        obtain ⟨V89, hVe⟩ : ∃ V, V = V88.setCells Xo 0 (I64 o) := ⟨_, rfl⟩
        rw [← hVe] at fr pa vP vD Aq Af Ak Ap Ao ⊢
        clear hVe
        refine hK.out _ _ ⟨E4.rc hP pa, E4.rc hQ Aq, vr_range vD, E4.rt hP pa, E4.rt hQ Aq⟩ (fun hHeld => ?_)
        clear hK K
        refine wpAnyH_ready (rs := [15]) (by kernel_rfl) (by simp) (AllReadyH.cons (o := qOc3) rfl (fun K hK => ?_) AllReadyH.nil)
        rw [if_pos (by rfl)]
        refine wp_store_mid _ _ _ rfl _ _ (I64 p).toArray rfl rfl (by have := arr_there Ap; simpa [np] using this) jp (all_oneCell_toArray up) ?_
        simp only [Act.put]
        replace fr := bel_sc fr Xp (I64 p) (by omega)
        replace pa := pa.sc Xp (I64 p) (by omega)
        replace vP := vP.sc Xp (I64 p) (by omega)
        replace vD := vD.sc Xp (I64 p) (by omega)
        replace Aq := Aq.sc Xp (I64 p) (by omega)
        replace Af := Af.sc Xp (I64 p) (by omega)
        replace Ak := Ak.sc Xp (I64 p) (by omega)
        replace Ap := Ap.sc0 (I64 p) (by simp [np])
        replace Ao := Ao.sc Xp (I64 p) (by omega)
        obtain ⟨V90, hVe⟩ : ∃ V, V = V89.setCells Xp 0 (I64 p) := ⟨_, rfl⟩
        rw [← hVe] at fr pa vP vD Aq Af Ak Ap Ao ⊢
        clear hVe
        refine hK.out _ _ ⟨E4.rc hP pa, E4.rc hQ Aq, vr_range vD, E4.rt hP pa, E4.rt hQ Aq⟩ (fun hHeld => ?_)
        clear hK K
        refine wpAnyH_done (by kernel_rfl) ?_ _
        go_wp2
        go_meet
        case rel => exact ⟨Xo, Xp, rfl, rfl, Ao, Ap, fr, pa, vP, vD, Aq, Af, Ak⟩
       ·skip
        go_simp
        obtain ⟨V91, hVe⟩ : ∃ V, V = y86.alloc (.cells #[.int .i64 0, .int .i64 0, .int .i64 0, .int .i64 0, .int .i64 0, .int .i64 0, .int .i64 0, .int .i64 0, .int .i64 0, .int .i64 0, .int .i64 0, .int .i64 0, .int .i64 0, .int .i64 0, .int .i64 0, .int .i64 0] 70) := ⟨_, rfl⟩
        have bV : Below y86.heap.size y86 V91 := by rw [hVe]; exact (Below.refl _ _).alloc (Nat.le_refl _) _
        have Ao : Arr V91 y86.heap.size 70 (I64 Z16) := by rw [hVe]; exact Arr.new _ (I64 Z16) _
        have hXo : w.heap.size < y86.heap.size ∧ Xq < y86.heap.size ∧ Xf < y86.heap.size ∧ Xk < y86.heap.size ∧ Xp < y86.heap.size ∧ True := ⟨pa.lt, Aq.lt, Af.lt, Ak.lt, Ap.lt, trivial⟩
        obtain ⟨Xo, hXe⟩ : ∃ X, X = y86.heap.size := ⟨_, rfl⟩
        replace fr := fr.trans (bV.mono fr.size)
        replace pa := pa.kept bV
        replace vP := vP.kept bV
        replace vD := vD.kept bV
        replace Aq := Aq.kept bV
        replace Af := Af.kept bV
        replace Ak := Ak.kept bV
        replace Ap := Ap.kept bV
        rw [← hVe]
        rw [← hXe] at Ao hXo ⊢
        clear hVe hXe bV
        refine hK.out _ _ ⟨E4.rc hP pa, E4.rc hQ Aq, vr_range vD, E4.rt hP pa, E4.rt hQ Aq⟩ (fun hHeld => ?_)
        clear hK K
        refine wpAnyH_ready (rs := [11]) (by kernel_rfl) (by simp) (AllReadyH.cons (o := { dst := some 45, op := Op.call { callee := Callee.value (Operand.func 104), args := #[Operand.tmp 39, Operand.tmp 44], argTypes := #[70, 70] }, type := 70, pos := "l06_point.go:167", after := #[{ on := 5, ground := Ground.data }, { on := 10, ground := Ground.data }, { on := 10, ground := Ground.chain }], guard := none }) rfl (fun K hK => ?_) AllReadyH.nil)
        go_simp
        refine (Hp.out _ vP).mono ?_
        rintro e y92 ⟨rfl, hb92⟩
        replace fr := fr.trans (hb92.mono fr.size)
        replace pa := pa.kept hb92
        replace vP := vP.kept hb92
        replace vD := vD.kept hb92
        replace Aq := Aq.kept hb92
        replace Af := Af.kept hb92
        replace Ak := Ak.kept hb92
        replace Ap := Ap.kept hb92
        replace Ao := Ao.kept hb92
        clear hb92
        go_wp2_with fail
        refine hK.out _ _ ⟨E4.rc hP pa, E4.rc hQ Aq, vr_range vD, E4.rt hP pa, E4.rt hQ Aq⟩ (fun hHeld => ?_)
        clear hK K
        refine wpAnyH_ready (rs := [14]) (by kernel_rfl) (by simp) (AllReadyH.cons (o := qOc2) rfl (fun K hK => ?_) AllReadyH.nil)
        rw [if_pos (by rfl)]
        refine wp_store_mid _ _ _ rfl _ _ (I64 o).toArray rfl rfl (by have := arr_there Ao; simpa [no] using this) jo (all_oneCell_toArray uo) ?_
        simp only [Act.put]
        replace fr := bel_sc fr Xo (I64 o) (by omega)
        replace pa := pa.sc Xo (I64 o) (by omega)
        replace vP := vP.sc Xo (I64 o) (by omega)
        replace vD := vD.sc Xo (I64 o) (by omega)
        replace Aq := Aq.sc Xo (I64 o) (by omega)
        replace Af := Af.sc Xo (I64 o) (by omega)
        replace Ak := Ak.sc Xo (I64 o) (by omega)
        replace Ap := Ap.sc Xo (I64 o) (by omega)
        replace Ao := Ao.sc0 (I64 o) (by simp [no])
        obtain ⟨V93, hVe⟩ : ∃ V, V = y92.setCells Xo 0 (I64 o) := ⟨_, rfl⟩
        rw [← hVe] at fr pa vP vD Aq Af Ak Ap Ao ⊢
        clear hVe
        refine hK.out _ _ ⟨E4.rc hP pa, E4.rc hQ Aq, vr_range vD, E4.rt hP pa, E4.rt hQ Aq⟩ (fun hHeld => ?_)
        clear hK K
        refine wpAnyH_ready (rs := [15]) (by kernel_rfl) (by simp) (AllReadyH.cons (o := qOc3) rfl (fun K hK => ?_) AllReadyH.nil)
        rw [if_pos (by rfl)]
        refine wp_store_mid _ _ _ rfl _ _ (I64 p).toArray rfl rfl (by have := arr_there Ap; simpa [np] using this) jp (all_oneCell_toArray up) ?_
        simp only [Act.put]
        replace fr := bel_sc fr Xp (I64 p) (by omega)
        replace pa := pa.sc Xp (I64 p) (by omega)
        replace vP := vP.sc Xp (I64 p) (by omega)
        replace vD := vD.sc Xp (I64 p) (by omega)
        replace Aq := Aq.sc Xp (I64 p) (by omega)
        replace Af := Af.sc Xp (I64 p) (by omega)
        replace Ak := Ak.sc Xp (I64 p) (by omega)
        replace Ap := Ap.sc0 (I64 p) (by simp [np])
        replace Ao := Ao.sc Xp (I64 p) (by omega)
        obtain ⟨V94, hVe⟩ : ∃ V, V = V93.setCells Xp 0 (I64 p) := ⟨_, rfl⟩
        rw [← hVe] at fr pa vP vD Aq Af Ak Ap Ao ⊢
        clear hVe
        refine hK.out _ _ ⟨E4.rc hP pa, E4.rc hQ Aq, vr_range vD, E4.rt hP pa, E4.rt hQ Aq⟩ (fun hHeld => ?_)
        clear hK K
        refine wpAnyH_done (by kernel_rfl) ?_ _
        go_wp2
        go_meet
        case rel => exact ⟨Xo, Xp, rfl, rfl, Ao, Ap, fr, pa, vP, vD, Aq, Af, Ak⟩
      ·skip
       go_simp
       obtain ⟨V95, hVe⟩ : ∃ V, V = V85.alloc (.cells #[.int .i64 0, .int .i64 0, .int .i64 0, .int .i64 0, .int .i64 0, .int .i64 0, .int .i64 0, .int .i64 0, .int .i64 0, .int .i64 0, .int .i64 0, .int .i64 0, .int .i64 0, .int .i64 0, .int .i64 0, .int .i64 0] 70) := ⟨_, rfl⟩
       have bV : Below V85.heap.size V85 V95 := by rw [hVe]; exact (Below.refl _ _).alloc (Nat.le_refl _) _
       have Ao : Arr V95 V85.heap.size 70 (I64 Z16) := by rw [hVe]; exact Arr.new _ (I64 Z16) _
       have hXo : w.heap.size < V85.heap.size ∧ Xq < V85.heap.size ∧ Xf < V85.heap.size ∧ Xk < V85.heap.size ∧ Xp < V85.heap.size ∧ True := ⟨pa.lt, Aq.lt, Af.lt, Ak.lt, Ap.lt, trivial⟩
       obtain ⟨Xo, hXe⟩ : ∃ X, X = V85.heap.size := ⟨_, rfl⟩
       replace fr := fr.trans (bV.mono fr.size)
       replace pa := pa.kept bV
       replace vP := vP.kept bV
       replace vD := vD.kept bV
       replace Aq := Aq.kept bV
       replace Af := Af.kept bV
       replace Ak := Ak.kept bV
       replace Ap := Ap.kept bV
       rw [← hVe]
       rw [← hXe] at Ao hXo ⊢
       clear hVe hXe bV
       refine hK.out _ _ ⟨E4.rc hP pa, E4.rc hQ Aq, vr_range vD, E4.rt hP pa, E4.rt hQ Aq⟩ (fun hHeld => ?_)
       clear hK K
       refine wpAnyH_ready (rs := [10]) (by kernel_rfl) (by simp) (AllReadyH.cons (o := { dst := some 44, op := Op.call { callee := Callee.value (Operand.func 104), args := #[Operand.tmp 41, Operand.tmp 43], argTypes := #[70, 70] }, type := 70, pos := "l06_point.go:167", after := #[{ on := 7, ground := Ground.data }, { on := 9, ground := Ground.data }, { on := 4, ground := Ground.chain }], guard := none }) rfl (fun K hK => ?_) AllReadyH.nil)
       go_simp
       refine (Ht1.out _ vP).mono ?_
       rintro e y96 ⟨rfl, hb96⟩
       replace fr := fr.trans (hb96.mono fr.size)
       replace pa := pa.kept hb96
       replace vP := vP.kept hb96
       replace vD := vD.kept hb96
       replace Aq := Aq.kept hb96
       replace Af := Af.kept hb96
       replace Ak := Ak.kept hb96
       replace Ap := Ap.kept hb96
       replace Ao := Ao.kept hb96
       clear hb96
       go_wp2_with fail
       refine hK.out _ _ ⟨E4.rc hP pa, E4.rc hQ Aq, vr_range vD, E4.rt hP pa, E4.rt hQ Aq⟩ (fun hHeld => ?_)
       clear hK K
       refine wpAnyH_ready (rs := [11]) (by kernel_rfl) (by simp) (AllReadyH.cons (o := { dst := some 45, op := Op.call { callee := Callee.value (Operand.func 104), args := #[Operand.tmp 39, Operand.tmp 44], argTypes := #[70, 70] }, type := 70, pos := "l06_point.go:167", after := #[{ on := 5, ground := Ground.data }, { on := 10, ground := Ground.data }, { on := 10, ground := Ground.chain }], guard := none }) rfl (fun K hK => ?_) AllReadyH.nil)
       go_simp
       refine (Hp.out _ vP).mono ?_
       rintro e y97 ⟨rfl, hb97⟩
       replace fr := fr.trans (hb97.mono fr.size)
       replace pa := pa.kept hb97
       replace vP := vP.kept hb97
       replace vD := vD.kept hb97
       replace Aq := Aq.kept hb97
       replace Af := Af.kept hb97
       replace Ak := Ak.kept hb97
       replace Ap := Ap.kept hb97
       replace Ao := Ao.kept hb97
       clear hb97
       go_wp2_with fail
       refine hK.out _ _ ⟨E4.rc hP pa, E4.rc hQ Aq, vr_range vD, E4.rt hP pa, E4.rt hQ Aq⟩ (fun hHeld => ?_)
       clear hK K
       refine wpAnyH_ready (rs := [14]) (by kernel_rfl) (by simp) (AllReadyH.cons (o := qOc2) rfl (fun K hK => ?_) AllReadyH.nil)
       rw [if_pos (by rfl)]
       refine wp_store_mid _ _ _ rfl _ _ (I64 o).toArray rfl rfl (by have := arr_there Ao; simpa [no] using this) jo (all_oneCell_toArray uo) ?_
       simp only [Act.put]
       replace fr := bel_sc fr Xo (I64 o) (by omega)
       replace pa := pa.sc Xo (I64 o) (by omega)
       replace vP := vP.sc Xo (I64 o) (by omega)
       replace vD := vD.sc Xo (I64 o) (by omega)
       replace Aq := Aq.sc Xo (I64 o) (by omega)
       replace Af := Af.sc Xo (I64 o) (by omega)
       replace Ak := Ak.sc Xo (I64 o) (by omega)
       replace Ap := Ap.sc Xo (I64 o) (by omega)
       replace Ao := Ao.sc0 (I64 o) (by simp [no])
       obtain ⟨V98, hVe⟩ : ∃ V, V = y97.setCells Xo 0 (I64 o) := ⟨_, rfl⟩
       rw [← hVe] at fr pa vP vD Aq Af Ak Ap Ao ⊢
       clear hVe
       refine hK.out _ _ ⟨E4.rc hP pa, E4.rc hQ Aq, vr_range vD, E4.rt hP pa, E4.rt hQ Aq⟩ (fun hHeld => ?_)
       clear hK K
       refine wpAnyH_ready (rs := [15]) (by kernel_rfl) (by simp) (AllReadyH.cons (o := qOc3) rfl (fun K hK => ?_) AllReadyH.nil)
       rw [if_pos (by rfl)]
       refine wp_store_mid _ _ _ rfl _ _ (I64 p).toArray rfl rfl (by have := arr_there Ap; simpa [np] using this) jp (all_oneCell_toArray up) ?_
       simp only [Act.put]
       replace fr := bel_sc fr Xp (I64 p) (by omega)
       replace pa := pa.sc Xp (I64 p) (by omega)
       replace vP := vP.sc Xp (I64 p) (by omega)
       replace vD := vD.sc Xp (I64 p) (by omega)
       replace Aq := Aq.sc Xp (I64 p) (by omega)
       replace Af := Af.sc Xp (I64 p) (by omega)
       replace Ak := Ak.sc Xp (I64 p) (by omega)
       replace Ap := Ap.sc0 (I64 p) (by simp [np])
       replace Ao := Ao.sc Xp (I64 p) (by omega)
       obtain ⟨V99, hVe⟩ : ∃ V, V = V98.setCells Xp 0 (I64 p) := ⟨_, rfl⟩
       rw [← hVe] at fr pa vP vD Aq Af Ak Ap Ao ⊢
       clear hVe
       refine hK.out _ _ ⟨E4.rc hP pa, E4.rc hQ Aq, vr_range vD, E4.rt hP pa, E4.rt hQ Aq⟩ (fun hHeld => ?_)
       clear hK K
       refine wpAnyH_done (by kernel_rfl) ?_ _
       go_wp2
       go_meet
       case rel => exact ⟨Xo, Xp, rfl, rfl, Ao, Ap, fr, pa, vP, vD, Aq, Af, Ak⟩
    ·skip
     go_simp
     obtain ⟨V100, hVe⟩ : ∃ V, V = D40.alloc (.cells #[.int .i64 0, .int .i64 0, .int .i64 0, .int .i64 0, .int .i64 0, .int .i64 0, .int .i64 0, .int .i64 0, .int .i64 0, .int .i64 0, .int .i64 0, .int .i64 0, .int .i64 0, .int .i64 0, .int .i64 0, .int .i64 0] 70) := ⟨_, rfl⟩
     have bV : Below D40.heap.size D40 V100 := by rw [hVe]; exact (Below.refl _ _).alloc (Nat.le_refl _) _
     have Ao : Arr V100 D40.heap.size 70 (I64 Z16) := by rw [hVe]; exact Arr.new _ (I64 Z16) _
     have hXo : w.heap.size < D40.heap.size ∧ Xq < D40.heap.size ∧ Xf < D40.heap.size ∧ Xk < D40.heap.size ∧ True := ⟨pa.lt, Aq.lt, Af.lt, Ak.lt, trivial⟩
     obtain ⟨Xo, hXe⟩ : ∃ X, X = D40.heap.size := ⟨_, rfl⟩
     replace fr := fr.trans (bV.mono fr.size)
     replace pa := pa.kept bV
     replace vP := vP.kept bV
     replace vD := vD.kept bV
     replace Aq := Aq.kept bV
     replace Af := Af.kept bV
     replace Ak := Ak.kept bV
     rw [← hVe]
     rw [← hXe] at Ao hXo ⊢
     clear hVe hXe bV
     refine hK.out _ _ ⟨E4.rc hP pa, E4.rc hQ Aq, vr_range vD, E4.rt hP pa, E4.rt hQ Aq⟩ (fun hHeld => ?_)
     clear hK K
     refine wpAnyH_ready (rs := [4, 13]) (by kernel_rfl) (by simp) (AllReadyH.cons (o := { dst := some 38, op := Op.call { callee := Callee.value (Operand.func 104), args := #[Operand.tmp 35, Operand.tmp 37], argTypes := #[70, 70] }, type := 70, pos := "l06_point.go:167", after := #[{ on := 1, ground := Ground.data }, { on := 3, ground := Ground.data }], guard := none }) rfl (fun K hK => ?_) (AllReadyH.cons (o := { dst := some 9, op := Op.alloc 70, type := 0, pos := "l06_point.go:167", after := #[], guard := none }) rfl (fun K hK => ?_) AllReadyH.nil))
     ·skip
      go_simp
      refine (Ho.out _ vP).mono ?_
      rintro e y101 ⟨rfl, hb101⟩
      replace fr := fr.trans (hb101.mono fr.size)
      replace pa := pa.kept hb101
      replace vP := vP.kept hb101
      replace vD := vD.kept hb101
      replace Aq := Aq.kept hb101
      replace Af := Af.kept hb101
      replace Ak := Ak.kept hb101
      replace Ao := Ao.kept hb101
      clear hb101
      go_wp2_with fail
      refine hK.out _ _ ⟨E4.rc hP pa, E4.rc hQ Aq, vr_range vD, E4.rt hP pa, E4.rt hQ Aq⟩ (fun hHeld => ?_)
      clear hK K
      refine wpAnyH_ready (rs := [10, 13]) (by kernel_rfl) (by simp) (AllReadyH.cons (o := { dst := some 44, op := Op.call { callee := Callee.value (Operand.func 104), args := #[Operand.tmp 41, Operand.tmp 43], argTypes := #[70, 70] }, type := 70, pos := "l06_point.go:167", after := #[{ on := 7, ground := Ground.data }, { on := 9, ground := Ground.data }, { on := 4, ground := Ground.chain }], guard := none }) rfl (fun K hK => ?_) (AllReadyH.cons (o := { dst := some 9, op := Op.alloc 70, type := 0, pos := "l06_point.go:167", after := #[], guard := none }) rfl (fun K hK => ?_) AllReadyH.nil))
      ·skip
       go_simp
       refine (Ht1.out _ vP).mono ?_
       rintro e y102 ⟨rfl, hb102⟩
       replace fr := fr.trans (hb102.mono fr.size)
       replace pa := pa.kept hb102
       replace vP := vP.kept hb102
       replace vD := vD.kept hb102
       replace Aq := Aq.kept hb102
       replace Af := Af.kept hb102
       replace Ak := Ak.kept hb102
       replace Ao := Ao.kept hb102
       clear hb102
       go_wp2_with fail
       refine hK.out _ _ ⟨E4.rc hP pa, E4.rc hQ Aq, vr_range vD, E4.rt hP pa, E4.rt hQ Aq⟩ (fun hHeld => ?_)
       clear hK K
       refine wpAnyH_ready (rs := [11, 13]) (by kernel_rfl) (by simp) (AllReadyH.cons (o := { dst := some 45, op := Op.call { callee := Callee.value (Operand.func 104), args := #[Operand.tmp 39, Operand.tmp 44], argTypes := #[70, 70] }, type := 70, pos := "l06_point.go:167", after := #[{ on := 5, ground := Ground.data }, { on := 10, ground := Ground.data }, { on := 10, ground := Ground.chain }], guard := none }) rfl (fun K hK => ?_) (AllReadyH.cons (o := { dst := some 9, op := Op.alloc 70, type := 0, pos := "l06_point.go:167", after := #[], guard := none }) rfl (fun K hK => ?_) AllReadyH.nil))
       ·skip
        go_simp
        refine (Hp.out _ vP).mono ?_
        rintro e y103 ⟨rfl, hb103⟩
        replace fr := fr.trans (hb103.mono fr.size)
        replace pa := pa.kept hb103
        replace vP := vP.kept hb103
        replace vD := vD.kept hb103
        replace Aq := Aq.kept hb103
        replace Af := Af.kept hb103
        replace Ak := Ak.kept hb103
        replace Ao := Ao.kept hb103
        clear hb103
        go_wp2_with fail
        refine hK.out _ _ ⟨E4.rc hP pa, E4.rc hQ Aq, vr_range vD, E4.rt hP pa, E4.rt hQ Aq⟩ (fun hHeld => ?_)
        clear hK K
        refine wpAnyH_ready (rs := [13]) (by kernel_rfl) (by simp) (AllReadyH.cons (o := { dst := some 9, op := Op.alloc 70, type := 0, pos := "l06_point.go:167", after := #[], guard := none }) rfl (fun K hK => ?_) AllReadyH.nil)
        go_simp
        obtain ⟨V104, hVe⟩ : ∃ V, V = y103.alloc (.cells #[.int .i64 0, .int .i64 0, .int .i64 0, .int .i64 0, .int .i64 0, .int .i64 0, .int .i64 0, .int .i64 0, .int .i64 0, .int .i64 0, .int .i64 0, .int .i64 0, .int .i64 0, .int .i64 0, .int .i64 0, .int .i64 0] 70) := ⟨_, rfl⟩
        have bV : Below y103.heap.size y103 V104 := by rw [hVe]; exact (Below.refl _ _).alloc (Nat.le_refl _) _
        have Ap : Arr V104 y103.heap.size 70 (I64 Z16) := by rw [hVe]; exact Arr.new _ (I64 Z16) _
        have hXp : w.heap.size < y103.heap.size ∧ Xq < y103.heap.size ∧ Xf < y103.heap.size ∧ Xk < y103.heap.size ∧ Xo < y103.heap.size ∧ True := ⟨pa.lt, Aq.lt, Af.lt, Ak.lt, Ao.lt, trivial⟩
        obtain ⟨Xp, hXe⟩ : ∃ X, X = y103.heap.size := ⟨_, rfl⟩
        replace fr := fr.trans (bV.mono fr.size)
        replace pa := pa.kept bV
        replace vP := vP.kept bV
        replace vD := vD.kept bV
        replace Aq := Aq.kept bV
        replace Af := Af.kept bV
        replace Ak := Ak.kept bV
        replace Ao := Ao.kept bV
        rw [← hVe]
        rw [← hXe] at Ap hXp ⊢
        clear hVe hXe bV
        refine hK.out _ _ ⟨E4.rc hP pa, E4.rc hQ Aq, vr_range vD, E4.rt hP pa, E4.rt hQ Aq⟩ (fun hHeld => ?_)
        clear hK K
        refine wpAnyH_ready (rs := [14]) (by kernel_rfl) (by simp) (AllReadyH.cons (o := qOc2) rfl (fun K hK => ?_) AllReadyH.nil)
        rw [if_pos (by rfl)]
        refine wp_store_mid _ _ _ rfl _ _ (I64 o).toArray rfl rfl (by have := arr_there Ao; simpa [no] using this) jo (all_oneCell_toArray uo) ?_
        simp only [Act.put]
        replace fr := bel_sc fr Xo (I64 o) (by omega)
        replace pa := pa.sc Xo (I64 o) (by omega)
        replace vP := vP.sc Xo (I64 o) (by omega)
        replace vD := vD.sc Xo (I64 o) (by omega)
        replace Aq := Aq.sc Xo (I64 o) (by omega)
        replace Af := Af.sc Xo (I64 o) (by omega)
        replace Ak := Ak.sc Xo (I64 o) (by omega)
        replace Ao := Ao.sc0 (I64 o) (by simp [no])
        replace Ap := Ap.sc Xo (I64 o) (by omega)
        obtain ⟨V105, hVe⟩ : ∃ V, V = V104.setCells Xo 0 (I64 o) := ⟨_, rfl⟩
        rw [← hVe] at fr pa vP vD Aq Af Ak Ao Ap ⊢
        clear hVe
        refine hK.out _ _ ⟨E4.rc hP pa, E4.rc hQ Aq, vr_range vD, E4.rt hP pa, E4.rt hQ Aq⟩ (fun hHeld => ?_)
        clear hK K
        refine wpAnyH_ready (rs := [15]) (by kernel_rfl) (by simp) (AllReadyH.cons (o := qOc3) rfl (fun K hK => ?_) AllReadyH.nil)
        rw [if_pos (by rfl)]
        refine wp_store_mid _ _ _ rfl _ _ (I64 p).toArray rfl rfl (by have := arr_there Ap; simpa [np] using this) jp (all_oneCell_toArray up) ?_
        simp only [Act.put]
        replace fr := bel_sc fr Xp (I64 p) (by omega)
        replace pa := pa.sc Xp (I64 p) (by omega)
        replace vP := vP.sc Xp (I64 p) (by omega)
        replace vD := vD.sc Xp (I64 p) (by omega)
        replace Aq := Aq.sc Xp (I64 p) (by omega)
        replace Af := Af.sc Xp (I64 p) (by omega)
        replace Ak := Ak.sc Xp (I64 p) (by omega)
        replace Ao := Ao.sc Xp (I64 p) (by omega)
        replace Ap := Ap.sc0 (I64 p) (by simp [np])
        obtain ⟨V106, hVe⟩ : ∃ V, V = V105.setCells Xp 0 (I64 p) := ⟨_, rfl⟩
        rw [← hVe] at fr pa vP vD Aq Af Ak Ao Ap ⊢
        clear hVe
        refine hK.out _ _ ⟨E4.rc hP pa, E4.rc hQ Aq, vr_range vD, E4.rt hP pa, E4.rt hQ Aq⟩ (fun hHeld => ?_)
        clear hK K
        refine wpAnyH_done (by kernel_rfl) ?_ _
        go_wp2
        go_meet
        case rel => exact ⟨Xo, Xp, rfl, rfl, Ao, Ap, fr, pa, vP, vD, Aq, Af, Ak⟩
       ·skip
        go_simp
        obtain ⟨V107, hVe⟩ : ∃ V, V = y102.alloc (.cells #[.int .i64 0, .int .i64 0, .int .i64 0, .int .i64 0, .int .i64 0, .int .i64 0, .int .i64 0, .int .i64 0, .int .i64 0, .int .i64 0, .int .i64 0, .int .i64 0, .int .i64 0, .int .i64 0, .int .i64 0, .int .i64 0] 70) := ⟨_, rfl⟩
        have bV : Below y102.heap.size y102 V107 := by rw [hVe]; exact (Below.refl _ _).alloc (Nat.le_refl _) _
        have Ap : Arr V107 y102.heap.size 70 (I64 Z16) := by rw [hVe]; exact Arr.new _ (I64 Z16) _
        have hXp : w.heap.size < y102.heap.size ∧ Xq < y102.heap.size ∧ Xf < y102.heap.size ∧ Xk < y102.heap.size ∧ Xo < y102.heap.size ∧ True := ⟨pa.lt, Aq.lt, Af.lt, Ak.lt, Ao.lt, trivial⟩
        obtain ⟨Xp, hXe⟩ : ∃ X, X = y102.heap.size := ⟨_, rfl⟩
        replace fr := fr.trans (bV.mono fr.size)
        replace pa := pa.kept bV
        replace vP := vP.kept bV
        replace vD := vD.kept bV
        replace Aq := Aq.kept bV
        replace Af := Af.kept bV
        replace Ak := Ak.kept bV
        replace Ao := Ao.kept bV
        rw [← hVe]
        rw [← hXe] at Ap hXp ⊢
        clear hVe hXe bV
        refine hK.out _ _ ⟨E4.rc hP pa, E4.rc hQ Aq, vr_range vD, E4.rt hP pa, E4.rt hQ Aq⟩ (fun hHeld => ?_)
        clear hK K
        refine wpAnyH_ready (rs := [11]) (by kernel_rfl) (by simp) (AllReadyH.cons (o := { dst := some 45, op := Op.call { callee := Callee.value (Operand.func 104), args := #[Operand.tmp 39, Operand.tmp 44], argTypes := #[70, 70] }, type := 70, pos := "l06_point.go:167", after := #[{ on := 5, ground := Ground.data }, { on := 10, ground := Ground.data }, { on := 10, ground := Ground.chain }], guard := none }) rfl (fun K hK => ?_) AllReadyH.nil)
        go_simp
        refine (Hp.out _ vP).mono ?_
        rintro e y108 ⟨rfl, hb108⟩
        replace fr := fr.trans (hb108.mono fr.size)
        replace pa := pa.kept hb108
        replace vP := vP.kept hb108
        replace vD := vD.kept hb108
        replace Aq := Aq.kept hb108
        replace Af := Af.kept hb108
        replace Ak := Ak.kept hb108
        replace Ao := Ao.kept hb108
        replace Ap := Ap.kept hb108
        clear hb108
        go_wp2_with fail
        refine hK.out _ _ ⟨E4.rc hP pa, E4.rc hQ Aq, vr_range vD, E4.rt hP pa, E4.rt hQ Aq⟩ (fun hHeld => ?_)
        clear hK K
        refine wpAnyH_ready (rs := [14]) (by kernel_rfl) (by simp) (AllReadyH.cons (o := qOc2) rfl (fun K hK => ?_) AllReadyH.nil)
        rw [if_pos (by rfl)]
        refine wp_store_mid _ _ _ rfl _ _ (I64 o).toArray rfl rfl (by have := arr_there Ao; simpa [no] using this) jo (all_oneCell_toArray uo) ?_
        simp only [Act.put]
        replace fr := bel_sc fr Xo (I64 o) (by omega)
        replace pa := pa.sc Xo (I64 o) (by omega)
        replace vP := vP.sc Xo (I64 o) (by omega)
        replace vD := vD.sc Xo (I64 o) (by omega)
        replace Aq := Aq.sc Xo (I64 o) (by omega)
        replace Af := Af.sc Xo (I64 o) (by omega)
        replace Ak := Ak.sc Xo (I64 o) (by omega)
        replace Ao := Ao.sc0 (I64 o) (by simp [no])
        replace Ap := Ap.sc Xo (I64 o) (by omega)
        obtain ⟨V109, hVe⟩ : ∃ V, V = y108.setCells Xo 0 (I64 o) := ⟨_, rfl⟩
        rw [← hVe] at fr pa vP vD Aq Af Ak Ao Ap ⊢
        clear hVe
        refine hK.out _ _ ⟨E4.rc hP pa, E4.rc hQ Aq, vr_range vD, E4.rt hP pa, E4.rt hQ Aq⟩ (fun hHeld => ?_)
        clear hK K
        refine wpAnyH_ready (rs := [15]) (by kernel_rfl) (by simp) (AllReadyH.cons (o := qOc3) rfl (fun K hK => ?_) AllReadyH.nil)
        rw [if_pos (by rfl)]
        refine wp_store_mid _ _ _ rfl _ _ (I64 p).toArray rfl rfl (by have := arr_there Ap; simpa [np] using this) jp (all_oneCell_toArray up) ?_
        simp only [Act.put]
        replace fr := bel_sc fr Xp (I64 p) (by omega)
        replace pa := pa.sc Xp (I64 p) (by omega)
        replace vP := vP.sc Xp (I64 p) (by omega)
        replace vD := vD.sc Xp (I64 p) (by omega)
        replace Aq := Aq.sc Xp (I64 p) (by omega)
        replace Af := Af.sc Xp (I64 p) (by omega)
        replace Ak := Ak.sc Xp (I64 p) (by omega)
        replace Ao := Ao.sc Xp (I64 p) (by omega)
        replace Ap := Ap.sc0 (I64 p) (by simp [np])
        obtain ⟨V110, hVe⟩ : ∃ V, V = V109.setCells Xp 0 (I64 p) := ⟨_, rfl⟩
        rw [← hVe] at fr pa vP vD Aq Af Ak Ao Ap ⊢
        clear hVe
        refine hK.out _ _ ⟨E4.rc hP pa, E4.rc hQ Aq, vr_range vD, E4.rt hP pa, E4.rt hQ Aq⟩ (fun hHeld => ?_)
        clear hK K
        refine wpAnyH_done (by kernel_rfl) ?_ _
        go_wp2
        go_meet
        case rel => exact ⟨Xo, Xp, rfl, rfl, Ao, Ap, fr, pa, vP, vD, Aq, Af, Ak⟩
      ·skip
       go_simp
       obtain ⟨V111, hVe⟩ : ∃ V, V = y101.alloc (.cells #[.int .i64 0, .int .i64 0, .int .i64 0, .int .i64 0, .int .i64 0, .int .i64 0, .int .i64 0, .int .i64 0, .int .i64 0, .int .i64 0, .int .i64 0, .int .i64 0, .int .i64 0, .int .i64 0, .int .i64 0, .int .i64 0] 70) := ⟨_, rfl⟩
       have bV : Below y101.heap.size y101 V111 := by rw [hVe]; exact (Below.refl _ _).alloc (Nat.le_refl _) _
       have Ap : Arr V111 y101.heap.size 70 (I64 Z16) := by rw [hVe]; exact Arr.new _ (I64 Z16) _
       have hXp : w.heap.size < y101.heap.size ∧ Xq < y101.heap.size ∧ Xf < y101.heap.size ∧ Xk < y101.heap.size ∧ Xo < y101.heap.size ∧ True := ⟨pa.lt, Aq.lt, Af.lt, Ak.lt, Ao.lt, trivial⟩
       obtain ⟨Xp, hXe⟩ : ∃ X, X = y101.heap.size := ⟨_, rfl⟩
       replace fr := fr.trans (bV.mono fr.size)
       replace pa := pa.kept bV
       replace vP := vP.kept bV
       replace vD := vD.kept bV
       replace Aq := Aq.kept bV
       replace Af := Af.kept bV
       replace Ak := Ak.kept bV
       replace Ao := Ao.kept bV
       rw [← hVe]
       rw [← hXe] at Ap hXp ⊢
       clear hVe hXe bV
       refine hK.out _ _ ⟨E4.rc hP pa, E4.rc hQ Aq, vr_range vD, E4.rt hP pa, E4.rt hQ Aq⟩ (fun hHeld => ?_)
       clear hK K
       refine wpAnyH_ready (rs := [10]) (by kernel_rfl) (by simp) (AllReadyH.cons (o := { dst := some 44, op := Op.call { callee := Callee.value (Operand.func 104), args := #[Operand.tmp 41, Operand.tmp 43], argTypes := #[70, 70] }, type := 70, pos := "l06_point.go:167", after := #[{ on := 7, ground := Ground.data }, { on := 9, ground := Ground.data }, { on := 4, ground := Ground.chain }], guard := none }) rfl (fun K hK => ?_) AllReadyH.nil)
       go_simp
       refine (Ht1.out _ vP).mono ?_
       rintro e y112 ⟨rfl, hb112⟩
       replace fr := fr.trans (hb112.mono fr.size)
       replace pa := pa.kept hb112
       replace vP := vP.kept hb112
       replace vD := vD.kept hb112
       replace Aq := Aq.kept hb112
       replace Af := Af.kept hb112
       replace Ak := Ak.kept hb112
       replace Ao := Ao.kept hb112
       replace Ap := Ap.kept hb112
       clear hb112
       go_wp2_with fail
       refine hK.out _ _ ⟨E4.rc hP pa, E4.rc hQ Aq, vr_range vD, E4.rt hP pa, E4.rt hQ Aq⟩ (fun hHeld => ?_)
       clear hK K
       refine wpAnyH_ready (rs := [11]) (by kernel_rfl) (by simp) (AllReadyH.cons (o := { dst := some 45, op := Op.call { callee := Callee.value (Operand.func 104), args := #[Operand.tmp 39, Operand.tmp 44], argTypes := #[70, 70] }, type := 70, pos := "l06_point.go:167", after := #[{ on := 5, ground := Ground.data }, { on := 10, ground := Ground.data }, { on := 10, ground := Ground.chain }], guard := none }) rfl (fun K hK => ?_) AllReadyH.nil)
       go_simp
       refine (Hp.out _ vP).mono ?_
       rintro e y113 ⟨rfl, hb113⟩
       replace fr := fr.trans (hb113.mono fr.size)
       replace pa := pa.kept hb113
       replace vP := vP.kept hb113
       replace vD := vD.kept hb113
       replace Aq := Aq.kept hb113
       replace Af := Af.kept hb113
       replace Ak := Ak.kept hb113
       replace Ao := Ao.kept hb113
       replace Ap := Ap.kept hb113
       clear hb113
       go_wp2_with fail
       refine hK.out _ _ ⟨E4.rc hP pa, E4.rc hQ Aq, vr_range vD, E4.rt hP pa, E4.rt hQ Aq⟩ (fun hHeld => ?_)
       clear hK K
       refine wpAnyH_ready (rs := [14]) (by kernel_rfl) (by simp) (AllReadyH.cons (o := qOc2) rfl (fun K hK => ?_) AllReadyH.nil)
       rw [if_pos (by rfl)]
       refine wp_store_mid _ _ _ rfl _ _ (I64 o).toArray rfl rfl (by have := arr_there Ao; simpa [no] using this) jo (all_oneCell_toArray uo) ?_
       simp only [Act.put]
       replace fr := bel_sc fr Xo (I64 o) (by omega)
       replace pa := pa.sc Xo (I64 o) (by omega)
       replace vP := vP.sc Xo (I64 o) (by omega)
       replace vD := vD.sc Xo (I64 o) (by omega)
       replace Aq := Aq.sc Xo (I64 o) (by omega)
       replace Af := Af.sc Xo (I64 o) (by omega)
       replace Ak := Ak.sc Xo (I64 o) (by omega)
       replace Ao := Ao.sc0 (I64 o) (by simp [no])
       replace Ap := Ap.sc Xo (I64 o) (by omega)
       obtain ⟨V114, hVe⟩ : ∃ V, V = y113.setCells Xo 0 (I64 o) := ⟨_, rfl⟩
       rw [← hVe] at fr pa vP vD Aq Af Ak Ao Ap ⊢
       clear hVe
       refine hK.out _ _ ⟨E4.rc hP pa, E4.rc hQ Aq, vr_range vD, E4.rt hP pa, E4.rt hQ Aq⟩ (fun hHeld => ?_)
       clear hK K
       refine wpAnyH_ready (rs := [15]) (by kernel_rfl) (by simp) (AllReadyH.cons (o := qOc3) rfl (fun K hK => ?_) AllReadyH.nil)
       rw [if_pos (by rfl)]
       refine wp_store_mid _ _ _ rfl _ _ (I64 p).toArray rfl rfl (by have := arr_there Ap; simpa [np] using this) jp (all_oneCell_toArray up) ?_
       simp only [Act.put]
       replace fr := bel_sc fr Xp (I64 p) (by omega)
       replace pa := pa.sc Xp (I64 p) (by omega)
       replace vP := vP.sc Xp (I64 p) (by omega)
       replace vD := vD.sc Xp (I64 p) (by omega)
       replace Aq := Aq.sc Xp (I64 p) (by omega)
       replace Af := Af.sc Xp (I64 p) (by omega)
       replace Ak := Ak.sc Xp (I64 p) (by omega)
       replace Ao := Ao.sc Xp (I64 p) (by omega)
       replace Ap := Ap.sc0 (I64 p) (by simp [np])
       obtain ⟨V115, hVe⟩ : ∃ V, V = V114.setCells Xp 0 (I64 p) := ⟨_, rfl⟩
       rw [← hVe] at fr pa vP vD Aq Af Ak Ao Ap ⊢
       clear hVe
       refine hK.out _ _ ⟨E4.rc hP pa, E4.rc hQ Aq, vr_range vD, E4.rt hP pa, E4.rt hQ Aq⟩ (fun hHeld => ?_)
       clear hK K
       refine wpAnyH_done (by kernel_rfl) ?_ _
       go_wp2
       go_meet
       case rel => exact ⟨Xo, Xp, rfl, rfl, Ao, Ap, fr, pa, vP, vD, Aq, Af, Ak⟩
     ·skip
      go_simp
      obtain ⟨V116, hVe⟩ : ∃ V, V = V100.alloc (.cells #[.int .i64 0, .int .i64 0, .int .i64 0, .int .i64 0, .int .i64 0, .int .i64 0, .int .i64 0, .int .i64 0, .int .i64 0, .int .i64 0, .int .i64 0, .int .i64 0, .int .i64 0, .int .i64 0, .int .i64 0, .int .i64 0] 70) := ⟨_, rfl⟩
      have bV : Below V100.heap.size V100 V116 := by rw [hVe]; exact (Below.refl _ _).alloc (Nat.le_refl _) _
      have Ap : Arr V116 V100.heap.size 70 (I64 Z16) := by rw [hVe]; exact Arr.new _ (I64 Z16) _
      have hXp : w.heap.size < V100.heap.size ∧ Xq < V100.heap.size ∧ Xf < V100.heap.size ∧ Xk < V100.heap.size ∧ Xo < V100.heap.size ∧ True := ⟨pa.lt, Aq.lt, Af.lt, Ak.lt, Ao.lt, trivial⟩
      obtain ⟨Xp, hXe⟩ : ∃ X, X = V100.heap.size := ⟨_, rfl⟩
      replace fr := fr.trans (bV.mono fr.size)
      replace pa := pa.kept bV
      replace vP := vP.kept bV
      replace vD := vD.kept bV
      replace Aq := Aq.kept bV
      replace Af := Af.kept bV
      replace Ak := Ak.kept bV
      replace Ao := Ao.kept bV
      rw [← hVe]
      rw [← hXe] at Ap hXp ⊢
      clear hVe hXe bV
      refine hK.out _ _ ⟨E4.rc hP pa, E4.rc hQ Aq, vr_range vD, E4.rt hP pa, E4.rt hQ Aq⟩ (fun hHeld => ?_)
      clear hK K
      refine wpAnyH_ready (rs := [4]) (by kernel_rfl) (by simp) (AllReadyH.cons (o := { dst := some 38, op := Op.call { callee := Callee.value (Operand.func 104), args := #[Operand.tmp 35, Operand.tmp 37], argTypes := #[70, 70] }, type := 70, pos := "l06_point.go:167", after := #[{ on := 1, ground := Ground.data }, { on := 3, ground := Ground.data }], guard := none }) rfl (fun K hK => ?_) AllReadyH.nil)
      go_simp
      refine (Ho.out _ vP).mono ?_
      rintro e y117 ⟨rfl, hb117⟩
      replace fr := fr.trans (hb117.mono fr.size)
      replace pa := pa.kept hb117
      replace vP := vP.kept hb117
      replace vD := vD.kept hb117
      replace Aq := Aq.kept hb117
      replace Af := Af.kept hb117
      replace Ak := Ak.kept hb117
      replace Ao := Ao.kept hb117
      replace Ap := Ap.kept hb117
      clear hb117
      go_wp2_with fail
      refine hK.out _ _ ⟨E4.rc hP pa, E4.rc hQ Aq, vr_range vD, E4.rt hP pa, E4.rt hQ Aq⟩ (fun hHeld => ?_)
      clear hK K
      refine wpAnyH_ready (rs := [10]) (by kernel_rfl) (by simp) (AllReadyH.cons (o := { dst := some 44, op := Op.call { callee := Callee.value (Operand.func 104), args := #[Operand.tmp 41, Operand.tmp 43], argTypes := #[70, 70] }, type := 70, pos := "l06_point.go:167", after := #[{ on := 7, ground := Ground.data }, { on := 9, ground := Ground.data }, { on := 4, ground := Ground.chain }], guard := none }) rfl (fun K hK => ?_) AllReadyH.nil)
      go_simp
      refine (Ht1.out _ vP).mono ?_
      rintro e y118 ⟨rfl, hb118⟩
      replace fr := fr.trans (hb118.mono fr.size)
      replace pa := pa.kept hb118
      replace vP := vP.kept hb118
      replace vD := vD.kept hb118
      replace Aq := Aq.kept hb118
      replace Af := Af.kept hb118
      replace Ak := Ak.kept hb118
      replace Ao := Ao.kept hb118
      replace Ap := Ap.kept hb118
      clear hb118
      go_wp2_with fail
      refine hK.out _ _ ⟨E4.rc hP pa, E4.rc hQ Aq, vr_range vD, E4.rt hP pa, E4.rt hQ Aq⟩ (fun hHeld => ?_)
      clear hK K
      refine wpAnyH_ready (rs := [11]) (by kernel_rfl) (by simp) (AllReadyH.cons (o := { dst := some 45, op := Op.call { callee := Callee.value (Operand.func 104), args := #[Operand.tmp 39, Operand.tmp 44], argTypes := #[70, 70] }, type := 70, pos := "l06_point.go:167", after := #[{ on := 5, ground := Ground.data }, { on := 10, ground := Ground.data }, { on := 10, ground := Ground.chain }], guard := none }) rfl (fun K hK => ?_) AllReadyH.nil)
      go_simp
      refine (Hp.out _ vP).mono ?_
      rintro e y119 ⟨rfl, hb119⟩
      replace fr := fr.trans (hb119.mono fr.size)
      replace pa := pa.kept hb119
      replace vP := vP.kept hb119
      replace vD := vD.kept hb119
      replace Aq := Aq.kept hb119
      replace Af := Af.kept hb119
      replace Ak := Ak.kept hb119
      replace Ao := Ao.kept hb119
      replace Ap := Ap.kept hb119
      clear hb119
      go_wp2_with fail
      refine hK.out _ _ ⟨E4.rc hP pa, E4.rc hQ Aq, vr_range vD, E4.rt hP pa, E4.rt hQ Aq⟩ (fun hHeld => ?_)
      clear hK K
      refine wpAnyH_ready (rs := [14]) (by kernel_rfl) (by simp) (AllReadyH.cons (o := qOc2) rfl (fun K hK => ?_) AllReadyH.nil)
      rw [if_pos (by rfl)]
      refine wp_store_mid _ _ _ rfl _ _ (I64 o).toArray rfl rfl (by have := arr_there Ao; simpa [no] using this) jo (all_oneCell_toArray uo) ?_
      simp only [Act.put]
      replace fr := bel_sc fr Xo (I64 o) (by omega)
      replace pa := pa.sc Xo (I64 o) (by omega)
      replace vP := vP.sc Xo (I64 o) (by omega)
      replace vD := vD.sc Xo (I64 o) (by omega)
      replace Aq := Aq.sc Xo (I64 o) (by omega)
      replace Af := Af.sc Xo (I64 o) (by omega)
      replace Ak := Ak.sc Xo (I64 o) (by omega)
      replace Ao := Ao.sc0 (I64 o) (by simp [no])
      replace Ap := Ap.sc Xo (I64 o) (by omega)
      obtain ⟨V120, hVe⟩ : ∃ V, V = y119.setCells Xo 0 (I64 o) := ⟨_, rfl⟩
      rw [← hVe] at fr pa vP vD Aq Af Ak Ao Ap ⊢
      clear hVe
      refine hK.out _ _ ⟨E4.rc hP pa, E4.rc hQ Aq, vr_range vD, E4.rt hP pa, E4.rt hQ Aq⟩ (fun hHeld => ?_)
      clear hK K
      refine wpAnyH_ready (rs := [15]) (by kernel_rfl) (by simp) (AllReadyH.cons (o := qOc3) rfl (fun K hK => ?_) AllReadyH.nil)
      rw [if_pos (by rfl)]
      refine wp_store_mid _ _ _ rfl _ _ (I64 p).toArray rfl rfl (by have := arr_there Ap; simpa [np] using this) jp (all_oneCell_toArray up) ?_
      simp only [Act.put]
      replace fr := bel_sc fr Xp (I64 p) (by omega)
      replace pa := pa.sc Xp (I64 p) (by omega)
      replace vP := vP.sc Xp (I64 p) (by omega)
      replace vD := vD.sc Xp (I64 p) (by omega)
      replace Aq := Aq.sc Xp (I64 p) (by omega)
      replace Af := Af.sc Xp (I64 p) (by omega)
      replace Ak := Ak.sc Xp (I64 p) (by omega)
      replace Ao := Ao.sc Xp (I64 p) (by omega)
      replace Ap := Ap.sc0 (I64 p) (by simp [np])
      obtain ⟨V121, hVe⟩ : ∃ V, V = V120.setCells Xp 0 (I64 p) := ⟨_, rfl⟩
      rw [← hVe] at fr pa vP vD Aq Af Ak Ao Ap ⊢
      clear hVe
      refine hK.out _ _ ⟨E4.rc hP pa, E4.rc hQ Aq, vr_range vD, E4.rt hP pa, E4.rt hQ Aq⟩ (fun hHeld => ?_)
      clear hK K
      refine wpAnyH_done (by kernel_rfl) ?_ _
      go_wp2
      go_meet
      case rel => exact ⟨Xo, Xp, rfl, rfl, Ao, Ap, fr, pa, vP, vD, Aq, Af, Ak⟩
    ·skip
     go_simp
     obtain ⟨V122, hVe⟩ : ∃ V, V = D40.alloc (.cells #[.int .i64 0, .int .i64 0, .int .i64 0, .int .i64 0, .int .i64 0, .int .i64 0, .int .i64 0, .int .i64 0, .int .i64 0, .int .i64 0, .int .i64 0, .int .i64 0, .int .i64 0, .int .i64 0, .int .i64 0, .int .i64 0] 70) := ⟨_, rfl⟩
     have bV : Below D40.heap.size D40 V122 := by rw [hVe]; exact (Below.refl _ _).alloc (Nat.le_refl _) _
     have Ap : Arr V122 D40.heap.size 70 (I64 Z16) := by rw [hVe]; exact Arr.new _ (I64 Z16) _
     have hXp : w.heap.size < D40.heap.size ∧ Xq < D40.heap.size ∧ Xf < D40.heap.size ∧ Xk < D40.heap.size ∧ True := ⟨pa.lt, Aq.lt, Af.lt, Ak.lt, trivial⟩
     obtain ⟨Xp, hXe⟩ : ∃ X, X = D40.heap.size := ⟨_, rfl⟩
     replace fr := fr.trans (bV.mono fr.size)
     replace pa := pa.kept bV
     replace vP := vP.kept bV
     replace vD := vD.kept bV
     replace Aq := Aq.kept bV
     replace Af := Af.kept bV
     replace Ak := Ak.kept bV
     rw [← hVe]
     rw [← hXe] at Ap hXp ⊢
     clear hVe hXe bV
     refine hK.out _ _ ⟨E4.rc hP pa, E4.rc hQ Aq, vr_range vD, E4.rt hP pa, E4.rt hQ Aq⟩ (fun hHeld => ?_)
     clear hK K
     refine wpAnyH_ready (rs := [4, 12]) (by kernel_rfl) (by simp) (AllReadyH.cons (o := { dst := some 38, op := Op.call { callee := Callee.value (Operand.func 104), args := #[Operand.tmp 35, Operand.tmp 37], argTypes := #[70, 70] }, type := 70, pos := "l06_point.go:167", after := #[{ on := 1, ground := Ground.data }, { on := 3, ground := Ground.data }], guard := none }) rfl (fun K hK => ?_) (AllReadyH.cons (o := { dst := some 8, op := Op.alloc 70, type := 0, pos := "l06_point.go:167", after := #[], guard := none }) rfl (fun K hK => ?_) AllReadyH.nil))
     ·skip
      go_simp
      refine (Ho.out _ vP).mono ?_
      rintro e y123 ⟨rfl, hb123⟩
      replace fr := fr.trans (hb123.mono fr.size)
      replace pa := pa.kept hb123
      replace vP := vP.kept hb123
      replace vD := vD.kept hb123
      replace Aq := Aq.kept hb123
      replace Af := Af.kept hb123
      replace Ak := Ak.kept hb123
      replace Ap := Ap.kept hb123
      clear hb123
      go_wp2_with fail
      refine hK.out _ _ ⟨E4.rc hP pa, E4.rc hQ Aq, vr_range vD, E4.rt hP pa, E4.rt hQ Aq⟩ (fun hHeld => ?_)
      clear hK K
      refine wpAnyH_ready (rs := [10, 12]) (by kernel_rfl) (by simp) (AllReadyH.cons (o := { dst := some 44, op := Op.call { callee := Callee.value (Operand.func 104), args := #[Operand.tmp 41, Operand.tmp 43], argTypes := #[70, 70] }, type := 70, pos := "l06_point.go:167", after := #[{ on := 7, ground := Ground.data }, { on := 9, ground := Ground.data }, { on := 4, ground := Ground.chain }], guard := none }) rfl (fun K hK => ?_) (AllReadyH.cons (o := { dst := some 8, op := Op.alloc 70, type := 0, pos := "l06_point.go:167", after := #[], guard := none }) rfl (fun K hK => ?_) AllReadyH.nil))
      ·skip
       go_simp
       refine (Ht1.out _ vP).mono ?_
       rintro e y124 ⟨rfl, hb124⟩
       replace fr := fr.trans (hb124.mono fr.size)
       replace pa := pa.kept hb124
       replace vP := vP.kept hb124
       replace vD := vD.kept hb124
       replace Aq := Aq.kept hb124
       replace Af := Af.kept hb124
       replace Ak := Ak.kept hb124
       replace Ap := Ap.kept hb124
       clear hb124
       go_wp2_with fail
       refine hK.out _ _ ⟨E4.rc hP pa, E4.rc hQ Aq, vr_range vD, E4.rt hP pa, E4.rt hQ Aq⟩ (fun hHeld => ?_)
       clear hK K
       refine wpAnyH_ready (rs := [11, 12]) (by kernel_rfl) (by simp) (AllReadyH.cons (o := { dst := some 45, op := Op.call { callee := Callee.value (Operand.func 104), args := #[Operand.tmp 39, Operand.tmp 44], argTypes := #[70, 70] }, type := 70, pos := "l06_point.go:167", after := #[{ on := 5, ground := Ground.data }, { on := 10, ground := Ground.data }, { on := 10, ground := Ground.chain }], guard := none }) rfl (fun K hK => ?_) (AllReadyH.cons (o := { dst := some 8, op := Op.alloc 70, type := 0, pos := "l06_point.go:167", after := #[], guard := none }) rfl (fun K hK => ?_) AllReadyH.nil))
       ·skip
        go_simp
        refine (Hp.out _ vP).mono ?_
        rintro e y125 ⟨rfl, hb125⟩
        replace fr := fr.trans (hb125.mono fr.size)
        replace pa := pa.kept hb125
        replace vP := vP.kept hb125
        replace vD := vD.kept hb125
        replace Aq := Aq.kept hb125
        replace Af := Af.kept hb125
        replace Ak := Ak.kept hb125
        replace Ap := Ap.kept hb125
        clear hb125
        go_wp2_with fail
        refine hK.out _ _ ⟨E4.rc hP pa, E4.rc hQ Aq, vr_range vD, E4.rt hP pa, E4.rt hQ Aq⟩ (fun hHeld => ?_)
        clear hK K
        refine wpAnyH_ready (rs := [12]) (by kernel_rfl) (by simp) (AllReadyH.cons (o := { dst := some 8, op := Op.alloc 70, type := 0, pos := "l06_point.go:167", after := #[], guard := none }) rfl (fun K hK => ?_) AllReadyH.nil)
        go_simp
        obtain ⟨V126, hVe⟩ : ∃ V, V = y125.alloc (.cells #[.int .i64 0, .int .i64 0, .int .i64 0, .int .i64 0, .int .i64 0, .int .i64 0, .int .i64 0, .int .i64 0, .int .i64 0, .int .i64 0, .int .i64 0, .int .i64 0, .int .i64 0, .int .i64 0, .int .i64 0, .int .i64 0] 70) := ⟨_, rfl⟩
        have bV : Below y125.heap.size y125 V126 := by rw [hVe]; exact (Below.refl _ _).alloc (Nat.le_refl _) _
        have Ao : Arr V126 y125.heap.size 70 (I64 Z16) := by rw [hVe]; exact Arr.new _ (I64 Z16) _
        have hXo : w.heap.size < y125.heap.size ∧ Xq < y125.heap.size ∧ Xf < y125.heap.size ∧ Xk < y125.heap.size ∧ Xp < y125.heap.size ∧ True := ⟨pa.lt, Aq.lt, Af.lt, Ak.lt, Ap.lt, trivial⟩
        obtain ⟨Xo, hXe⟩ : ∃ X, X = y125.heap.size := ⟨_, rfl⟩
        replace fr := fr.trans (bV.mono fr.size)
        replace pa := pa.kept bV
        replace vP := vP.kept bV
        replace vD := vD.kept bV
        replace Aq := Aq.kept bV
        replace Af := Af.kept bV
        replace Ak := Ak.kept bV
        replace Ap := Ap.kept bV
        rw [← hVe]
        rw [← hXe] at Ao hXo ⊢
        clear hVe hXe bV
        refine hK.out _ _ ⟨E4.rc hP pa, E4.rc hQ Aq, vr_range vD, E4.rt hP pa, E4.rt hQ Aq⟩ (fun hHeld => ?_)
        clear hK K
        refine wpAnyH_ready (rs := [14]) (by kernel_rfl) (by simp) (AllReadyH.cons (o := qOc2) rfl (fun K hK => ?_) AllReadyH.nil)
        rw [if_pos (by rfl)]
        refine wp_store_mid _ _ _ rfl _ _ (I64 o).toArray rfl rfl (by have := arr_there Ao; simpa [no] using this) jo (all_oneCell_toArray uo) ?_
        simp only [Act.put]
        replace fr := bel_sc fr Xo (I64 o) (by omega)
        replace pa := pa.sc Xo (I64 o) (by omega)
        replace vP := vP.sc Xo (I64 o) (by omega)
        replace vD := vD.sc Xo (I64 o) (by omega)
        replace Aq := Aq.sc Xo (I64 o) (by omega)
        replace Af := Af.sc Xo (I64 o) (by omega)
        replace Ak := Ak.sc Xo (I64 o) (by omega)
        replace Ap := Ap.sc Xo (I64 o) (by omega)
        replace Ao := Ao.sc0 (I64 o) (by simp [no])
        obtain ⟨V127, hVe⟩ : ∃ V, V = V126.setCells Xo 0 (I64 o) := ⟨_, rfl⟩
        rw [← hVe] at fr pa vP vD Aq Af Ak Ap Ao ⊢
        clear hVe
        refine hK.out _ _ ⟨E4.rc hP pa, E4.rc hQ Aq, vr_range vD, E4.rt hP pa, E4.rt hQ Aq⟩ (fun hHeld => ?_)
        clear hK K
        refine wpAnyH_ready (rs := [15]) (by kernel_rfl) (by simp) (AllReadyH.cons (o := qOc3) rfl (fun K hK => ?_) AllReadyH.nil)
        rw [if_pos (by rfl)]
        refine wp_store_mid _ _ _ rfl _ _ (I64 p).toArray rfl rfl (by have := arr_there Ap; simpa [np] using this) jp (all_oneCell_toArray up) ?_
        simp only [Act.put]
        replace fr := bel_sc fr Xp (I64 p) (by omega)
        replace pa := pa.sc Xp (I64 p) (by omega)
        replace vP := vP.sc Xp (I64 p) (by omega)
        replace vD := vD.sc Xp (I64 p) (by omega)
        replace Aq := Aq.sc Xp (I64 p) (by omega)
        replace Af := Af.sc Xp (I64 p) (by omega)
        replace Ak := Ak.sc Xp (I64 p) (by omega)
        replace Ap := Ap.sc0 (I64 p) (by simp [np])
        replace Ao := Ao.sc Xp (I64 p) (by omega)
        obtain ⟨V128, hVe⟩ : ∃ V, V = V127.setCells Xp 0 (I64 p) := ⟨_, rfl⟩
        rw [← hVe] at fr pa vP vD Aq Af Ak Ap Ao ⊢
        clear hVe
        refine hK.out _ _ ⟨E4.rc hP pa, E4.rc hQ Aq, vr_range vD, E4.rt hP pa, E4.rt hQ Aq⟩ (fun hHeld => ?_)
        clear hK K
        refine wpAnyH_done (by kernel_rfl) ?_ _
        go_wp2
        go_meet
        case rel => exact ⟨Xo, Xp, rfl, rfl, Ao, Ap, fr, pa, vP, vD, Aq, Af, Ak⟩
       ·skip
        go_simp
        obtain ⟨V129, hVe⟩ : ∃ V, V = y124.alloc (.cells #[.int .i64 0, .int .i64 0, .int .i64 0, .int .i64 0, .int .i64 0, .int .i64 0, .int .i64 0, .int .i64 0, .int .i64 0, .int .i64 0, .int .i64 0, .int .i64 0, .int .i64 0, .int .i64 0, .int .i64 0, .int .i64 0] 70) := ⟨_, rfl⟩
        have bV : Below y124.heap.size y124 V129 := by rw [hVe]; exact (Below.refl _ _).alloc (Nat.le_refl _) _
        have Ao : Arr V129 y124.heap.size 70 (I64 Z16) := by rw [hVe]; exact Arr.new _ (I64 Z16) _
        have hXo : w.heap.size < y124.heap.size ∧ Xq < y124.heap.size ∧ Xf < y124.heap.size ∧ Xk < y124.heap.size ∧ Xp < y124.heap.size ∧ True := ⟨pa.lt, Aq.lt, Af.lt, Ak.lt, Ap.lt, trivial⟩
        obtain ⟨Xo, hXe⟩ : ∃ X, X = y124.heap.size := ⟨_, rfl⟩
        replace fr := fr.trans (bV.mono fr.size)
        replace pa := pa.kept bV
        replace vP := vP.kept bV
        replace vD := vD.kept bV
        replace Aq := Aq.kept bV
        replace Af := Af.kept bV
        replace Ak := Ak.kept bV
        replace Ap := Ap.kept bV
        rw [← hVe]
        rw [← hXe] at Ao hXo ⊢
        clear hVe hXe bV
        refine hK.out _ _ ⟨E4.rc hP pa, E4.rc hQ Aq, vr_range vD, E4.rt hP pa, E4.rt hQ Aq⟩ (fun hHeld => ?_)
        clear hK K
        refine wpAnyH_ready (rs := [11]) (by kernel_rfl) (by simp) (AllReadyH.cons (o := { dst := some 45, op := Op.call { callee := Callee.value (Operand.func 104), args := #[Operand.tmp 39, Operand.tmp 44], argTypes := #[70, 70] }, type := 70, pos := "l06_point.go:167", after := #[{ on := 5, ground := Ground.data }, { on := 10, ground := Ground.data }, { on := 10, ground := Ground.chain }], guard := none }) rfl (fun K hK => ?_) AllReadyH.nil)
        go_simp
        refine (Hp.out _ vP).mono ?_
        rintro e y130 ⟨rfl, hb130⟩
        replace fr := fr.trans (hb130.mono fr.size)
        replace pa := pa.kept hb130
        replace vP := vP.kept hb130
        replace vD := vD.kept hb130
        replace Aq := Aq.kept hb130
        replace Af := Af.kept hb130
        replace Ak := Ak.kept hb130
        replace Ap := Ap.kept hb130
        replace Ao := Ao.kept hb130
        clear hb130
        go_wp2_with fail
        refine hK.out _ _ ⟨E4.rc hP pa, E4.rc hQ Aq, vr_range vD, E4.rt hP pa, E4.rt hQ Aq⟩ (fun hHeld => ?_)
        clear hK K
        refine wpAnyH_ready (rs := [14]) (by kernel_rfl) (by simp) (AllReadyH.cons (o := qOc2) rfl (fun K hK => ?_) AllReadyH.nil)
        rw [if_pos (by rfl)]
        refine wp_store_mid _ _ _ rfl _ _ (I64 o).toArray rfl rfl (by have := arr_there Ao; simpa [no] using this) jo (all_oneCell_toArray uo) ?_
        simp only [Act.put]
        replace fr := bel_sc fr Xo (I64 o) (by omega)
        replace pa := pa.sc Xo (I64 o) (by omega)
        replace vP := vP.sc Xo (I64 o) (by omega)
        replace vD := vD.sc Xo (I64 o) (by omega)
        replace Aq := Aq.sc Xo (I64 o) (by omega)
        replace Af := Af.sc Xo (I64 o) (by omega)
        replace Ak := Ak.sc Xo (I64 o) (by omega)
        replace Ap := Ap.sc Xo (I64 o) (by omega)
        replace Ao := Ao.sc0 (I64 o) (by simp [no])
        obtain ⟨V131, hVe⟩ : ∃ V, V = y130.setCells Xo 0 (I64 o) := ⟨_, rfl⟩
        rw [← hVe] at fr pa vP vD Aq Af Ak Ap Ao ⊢
        clear hVe
        refine hK.out _ _ ⟨E4.rc hP pa, E4.rc hQ Aq, vr_range vD, E4.rt hP pa, E4.rt hQ Aq⟩ (fun hHeld => ?_)
        clear hK K
        refine wpAnyH_ready (rs := [15]) (by kernel_rfl) (by simp) (AllReadyH.cons (o := qOc3) rfl (fun K hK => ?_) AllReadyH.nil)
        rw [if_pos (by rfl)]
        refine wp_store_mid _ _ _ rfl _ _ (I64 p).toArray rfl rfl (by have := arr_there Ap; simpa [np] using this) jp (all_oneCell_toArray up) ?_
        simp only [Act.put]
        replace fr := bel_sc fr Xp (I64 p) (by omega)
        replace pa := pa.sc Xp (I64 p) (by omega)
        replace vP := vP.sc Xp (I64 p) (by omega)
        replace vD := vD.sc Xp (I64 p) (by omega)
        replace Aq := Aq.sc Xp (I64 p) (by omega)
        replace Af := Af.sc Xp (I64 p) (by omega)
        replace Ak := Ak.sc Xp (I64 p) (by omega)
        replace Ap := Ap.sc0 (I64 p) (by simp [np])
        replace Ao := Ao.sc Xp (I64 p) (by omega)
        obtain ⟨V132, hVe⟩ : ∃ V, V = V131.setCells Xp 0 (I64 p) := ⟨_, rfl⟩
        rw [← hVe] at fr pa vP vD Aq Af Ak Ap Ao ⊢
        clear hVe
        refine hK.out _ _ ⟨E4.rc hP pa, E4.rc hQ Aq, vr_range vD, E4.rt hP pa, E4.rt hQ Aq⟩ (fun hHeld => ?_)
        clear hK K
        refine wpAnyH_done (by kernel_rfl) ?_ _
        go_wp2
        go_meet
        case rel => exact ⟨Xo, Xp, rfl, rfl, Ao, Ap, fr, pa, vP, vD, Aq, Af, Ak⟩
      ·skip
       go_simp
       obtain ⟨V133, hVe⟩ : ∃ V, V = y123.alloc (.cells #[.int .i64 0, .int .i64 0, .int .i64 0, .int .i64 0, .int .i64 0, .int .i64 0, .int .i64 0, .int .i64 0, .int .i64 0, .int .i64 0, .int .i64 0, .int .i64 0, .int .i64 0, .int .i64 0, .int .i64 0, .int .i64 0] 70) := ⟨_, rfl⟩
       have bV : Below y123.heap.size y123 V133 := by rw [hVe]; exact (Below.refl _ _).alloc (Nat.le_refl _) _
       have Ao : Arr V133 y123.heap.size 70 (I64 Z16) := by rw [hVe]; exact Arr.new _ (I64 Z16) _
       have hXo : w.heap.size < y123.heap.size ∧ Xq < y123.heap.size ∧ Xf < y123.heap.size ∧ Xk < y123.heap.size ∧ Xp < y123.heap.size ∧ True := ⟨pa.lt, Aq.lt, Af.lt, Ak.lt, Ap.lt, trivial⟩
       obtain ⟨Xo, hXe⟩ : ∃ X, X = y123.heap.size := ⟨_, rfl⟩
       replace fr := fr.trans (bV.mono fr.size)
       replace pa := pa.kept bV
       replace vP := vP.kept bV
       replace vD := vD.kept bV
       replace Aq := Aq.kept bV
       replace Af := Af.kept bV
       replace Ak := Ak.kept bV
       replace Ap := Ap.kept bV
       rw [← hVe]
       rw [← hXe] at Ao hXo ⊢
       clear hVe hXe bV
       refine hK.out _ _ ⟨E4.rc hP pa, E4.rc hQ Aq, vr_range vD, E4.rt hP pa, E4.rt hQ Aq⟩ (fun hHeld => ?_)
       clear hK K
       refine wpAnyH_ready (rs := [10]) (by kernel_rfl) (by simp) (AllReadyH.cons (o := { dst := some 44, op := Op.call { callee := Callee.value (Operand.func 104), args := #[Operand.tmp 41, Operand.tmp 43], argTypes := #[70, 70] }, type := 70, pos := "l06_point.go:167", after := #[{ on := 7, ground := Ground.data }, { on := 9, ground := Ground.data }, { on := 4, ground := Ground.chain }], guard := none }) rfl (fun K hK => ?_) AllReadyH.nil)
       go_simp
       refine (Ht1.out _ vP).mono ?_
       rintro e y134 ⟨rfl, hb134⟩
       replace fr := fr.trans (hb134.mono fr.size)
       replace pa := pa.kept hb134
       replace vP := vP.kept hb134
       replace vD := vD.kept hb134
       replace Aq := Aq.kept hb134
       replace Af := Af.kept hb134
       replace Ak := Ak.kept hb134
       replace Ap := Ap.kept hb134
       replace Ao := Ao.kept hb134
       clear hb134
       go_wp2_with fail
       refine hK.out _ _ ⟨E4.rc hP pa, E4.rc hQ Aq, vr_range vD, E4.rt hP pa, E4.rt hQ Aq⟩ (fun hHeld => ?_)
       clear hK K
       refine wpAnyH_ready (rs := [11]) (by kernel_rfl) (by simp) (AllReadyH.cons (o := { dst := some 45, op := Op.call { callee := Callee.value (Operand.func 104), args := #[Operand.tmp 39, Operand.tmp 44], argTypes := #[70, 70] }, type := 70, pos := "l06_point.go:167", after := #[{ on := 5, ground := Ground.data }, { on := 10, ground := Ground.data }, { on := 10, ground := Ground.chain }], guard := none }) rfl (fun K hK => ?_) AllReadyH.nil)
       go_simp
       refine (Hp.out _ vP).mono ?_
       rintro e y135 ⟨rfl, hb135⟩
       replace fr := fr.trans (hb135.mono fr.size)
       replace pa := pa.kept hb135
       replace vP := vP.kept hb135
       replace vD := vD.kept hb135
       replace Aq := Aq.kept hb135
       replace Af := Af.kept hb135
       replace Ak := Ak.kept hb135
       replace Ap := Ap.kept hb135
       replace Ao := Ao.kept hb135
       clear hb135
       go_wp2_with fail
       refine hK.out _ _ ⟨E4.rc hP pa, E4.rc hQ Aq, vr_range vD, E4.rt hP pa, E4.rt hQ Aq⟩ (fun hHeld => ?_)
       clear hK K
       refine wpAnyH_ready (rs := [14]) (by kernel_rfl) (by simp) (AllReadyH.cons (o := qOc2) rfl (fun K hK => ?_) AllReadyH.nil)
       rw [if_pos (by rfl)]
       refine wp_store_mid _ _ _ rfl _ _ (I64 o).toArray rfl rfl (by have := arr_there Ao; simpa [no] using this) jo (all_oneCell_toArray uo) ?_
       simp only [Act.put]
       replace fr := bel_sc fr Xo (I64 o) (by omega)
       replace pa := pa.sc Xo (I64 o) (by omega)
       replace vP := vP.sc Xo (I64 o) (by omega)
       replace vD := vD.sc Xo (I64 o) (by omega)
       replace Aq := Aq.sc Xo (I64 o) (by omega)
       replace Af := Af.sc Xo (I64 o) (by omega)
       replace Ak := Ak.sc Xo (I64 o) (by omega)
       replace Ap := Ap.sc Xo (I64 o) (by omega)
       replace Ao := Ao.sc0 (I64 o) (by simp [no])
       obtain ⟨V136, hVe⟩ : ∃ V, V = y135.setCells Xo 0 (I64 o) := ⟨_, rfl⟩
       rw [← hVe] at fr pa vP vD Aq Af Ak Ap Ao ⊢
       clear hVe
       refine hK.out _ _ ⟨E4.rc hP pa, E4.rc hQ Aq, vr_range vD, E4.rt hP pa, E4.rt hQ Aq⟩ (fun hHeld => ?_)
       clear hK K
       refine wpAnyH_ready (rs := [15]) (by kernel_rfl) (by simp) (AllReadyH.cons (o := qOc3) rfl (fun K hK => ?_) AllReadyH.nil)
       rw [if_pos (by rfl)]
       refine wp_store_mid _ _ _ rfl _ _ (I64 p).toArray rfl rfl (by have := arr_there Ap; simpa [np] using this) jp (all_oneCell_toArray up) ?_
       simp only [Act.put]
       replace fr := bel_sc fr Xp (I64 p) (by omega)
       replace pa := pa.sc Xp (I64 p) (by omega)
       replace vP := vP.sc Xp (I64 p) (by omega)
       replace vD := vD.sc Xp (I64 p) (by omega)
       replace Aq := Aq.sc Xp (I64 p) (by omega)
       replace Af := Af.sc Xp (I64 p) (by omega)
       replace Ak := Ak.sc Xp (I64 p) (by omega)
       replace Ap := Ap.sc0 (I64 p) (by simp [np])
       replace Ao := Ao.sc Xp (I64 p) (by omega)
       obtain ⟨V137, hVe⟩ : ∃ V, V = V136.setCells Xp 0 (I64 p) := ⟨_, rfl⟩
       rw [← hVe] at fr pa vP vD Aq Af Ak Ap Ao ⊢
       clear hVe
       refine hK.out _ _ ⟨E4.rc hP pa, E4.rc hQ Aq, vr_range vD, E4.rt hP pa, E4.rt hQ Aq⟩ (fun hHeld => ?_)
       clear hK K
       refine wpAnyH_done (by kernel_rfl) ?_ _
       go_wp2
       go_meet
       case rel => exact ⟨Xo, Xp, rfl, rfl, Ao, Ap, fr, pa, vP, vD, Aq, Af, Ak⟩
     ·skip
      go_simp
      obtain ⟨V138, hVe⟩ : ∃ V, V = V122.alloc (.cells #[.int .i64 0, .int .i64 0, .int .i64 0, .int .i64 0, .int .i64 0, .int .i64 0, .int .i64 0, .int .i64 0, .int .i64 0, .int .i64 0, .int .i64 0, .int .i64 0, .int .i64 0, .int .i64 0, .int .i64 0, .int .i64 0] 70) := ⟨_, rfl⟩
      have bV : Below V122.heap.size V122 V138 := by rw [hVe]; exact (Below.refl _ _).alloc (Nat.le_refl _) _
      have Ao : Arr V138 V122.heap.size 70 (I64 Z16) := by rw [hVe]; exact Arr.new _ (I64 Z16) _
      have hXo : w.heap.size < V122.heap.size ∧ Xq < V122.heap.size ∧ Xf < V122.heap.size ∧ Xk < V122.heap.size ∧ Xp < V122.heap.size ∧ True := ⟨pa.lt, Aq.lt, Af.lt, Ak.lt, Ap.lt, trivial⟩
      obtain ⟨Xo, hXe⟩ : ∃ X, X = V122.heap.size := ⟨_, rfl⟩
      replace fr := fr.trans (bV.mono fr.size)
      replace pa := pa.kept bV
      replace vP := vP.kept bV
      replace vD := vD.kept bV
      replace Aq := Aq.kept bV
      replace Af := Af.kept bV
      replace Ak := Ak.kept bV
      replace Ap := Ap.kept bV
      rw [← hVe]
      rw [← hXe] at Ao hXo ⊢
      clear hVe hXe bV
      refine hK.out _ _ ⟨E4.rc hP pa, E4.rc hQ Aq, vr_range vD, E4.rt hP pa, E4.rt hQ Aq⟩ (fun hHeld => ?_)
      clear hK K
      refine wpAnyH_ready (rs := [4]) (by kernel_rfl) (by simp) (AllReadyH.cons (o := { dst := some 38, op := Op.call { callee := Callee.value (Operand.func 104), args := #[Operand.tmp 35, Operand.tmp 37], argTypes := #[70, 70] }, type := 70, pos := "l06_point.go:167", after := #[{ on := 1, ground := Ground.data }, { on := 3, ground := Ground.data }], guard := none }) rfl (fun K hK => ?_) AllReadyH.nil)
      go_simp
      refine (Ho.out _ vP).mono ?_
      rintro e y139 ⟨rfl, hb139⟩
      replace fr := fr.trans (hb139.mono fr.size)
      replace pa := pa.kept hb139
      replace vP := vP.kept hb139
      replace vD := vD.kept hb139
      replace Aq := Aq.kept hb139
      replace Af := Af.kept hb139
      replace Ak := Ak.kept hb139
      replace Ap := Ap.kept hb139
      replace Ao := Ao.kept hb139
      clear hb139
      go_wp2_with fail
      refine hK.out _ _ ⟨E4.rc hP pa, E4.rc hQ Aq, vr_range vD, E4.rt hP pa, E4.rt hQ Aq⟩ (fun hHeld => ?_)
      clear hK K
      refine wpAnyH_ready (rs := [10]) (by kernel_rfl) (by simp) (AllReadyH.cons (o := { dst := some 44, op := Op.call { callee := Callee.value (Operand.func 104), args := #[Operand.tmp 41, Operand.tmp 43], argTypes := #[70, 70] }, type := 70, pos := "l06_point.go:167", after := #[{ on := 7, ground := Ground.data }, { on := 9, ground := Ground.data }, { on := 4, ground := Ground.chain }], guard := none }) rfl (fun K hK => ?_) AllReadyH.nil)
      go_simp
      refine (Ht1.out _ vP).mono ?_
      rintro e y140 ⟨rfl, hb140⟩
      replace fr := fr.trans (hb140.mono fr.size)
      replace pa := pa.kept hb140
      replace vP := vP.kept hb140
      replace vD := vD.kept hb140
      replace Aq := Aq.kept hb140
      replace Af := Af.kept hb140
      replace Ak := Ak.kept hb140
      replace Ap := Ap.kept hb140
      replace Ao := Ao.kept hb140
      clear hb140
      go_wp2_with fail
      refine hK.out _ _ ⟨E4.rc hP pa, E4.rc hQ Aq, vr_range vD, E4.rt hP pa, E4.rt hQ Aq⟩ (fun hHeld => ?_)
      clear hK K
      refine wpAnyH_ready (rs := [11]) (by kernel_rfl) (by simp) (AllReadyH.cons (o := { dst := some 45, op := Op.call { callee := Callee.value (Operand.func 104), args := #[Operand.tmp 39, Operand.tmp 44], argTypes := #[70, 70] }, type := 70, pos := "l06_point.go:167", after := #[{ on := 5, ground := Ground.data }, { on := 10, ground := Ground.data }, { on := 10, ground := Ground.chain }], guard := none }) rfl (fun K hK => ?_) AllReadyH.nil)
      go_simp
      refine (Hp.out _ vP).mono ?_
      rintro e y141 ⟨rfl, hb141⟩
      replace fr := fr.trans (hb141.mono fr.size)
      replace pa := pa.kept hb141
      replace vP := vP.kept hb141
      replace vD := vD.kept hb141
      replace Aq := Aq.kept hb141
      replace Af := Af.kept hb141
      replace Ak := Ak.kept hb141
      replace Ap := Ap.kept hb141
      replace Ao := Ao.kept hb141
      clear hb141
      go_wp2_with fail
      refine hK.out _ _ ⟨E4.rc hP pa, E4.rc hQ Aq, vr_range vD, E4.rt hP pa, E4.rt hQ Aq⟩ (fun hHeld => ?_)
      clear hK K
      refine wpAnyH_ready (rs := [14]) (by kernel_rfl) (by simp) (AllReadyH.cons (o := qOc2) rfl (fun K hK => ?_) AllReadyH.nil)
      rw [if_pos (by rfl)]
      refine wp_store_mid _ _ _ rfl _ _ (I64 o).toArray rfl rfl (by have := arr_there Ao; simpa [no] using this) jo (all_oneCell_toArray uo) ?_
      simp only [Act.put]
      replace fr := bel_sc fr Xo (I64 o) (by omega)
      replace pa := pa.sc Xo (I64 o) (by omega)
      replace vP := vP.sc Xo (I64 o) (by omega)
      replace vD := vD.sc Xo (I64 o) (by omega)
      replace Aq := Aq.sc Xo (I64 o) (by omega)
      replace Af := Af.sc Xo (I64 o) (by omega)
      replace Ak := Ak.sc Xo (I64 o) (by omega)
      replace Ap := Ap.sc Xo (I64 o) (by omega)
      replace Ao := Ao.sc0 (I64 o) (by simp [no])
      obtain ⟨V142, hVe⟩ : ∃ V, V = y141.setCells Xo 0 (I64 o) := ⟨_, rfl⟩
      rw [← hVe] at fr pa vP vD Aq Af Ak Ap Ao ⊢
      clear hVe
      refine hK.out _ _ ⟨E4.rc hP pa, E4.rc hQ Aq, vr_range vD, E4.rt hP pa, E4.rt hQ Aq⟩ (fun hHeld => ?_)
      clear hK K
      refine wpAnyH_ready (rs := [15]) (by kernel_rfl) (by simp) (AllReadyH.cons (o := qOc3) rfl (fun K hK => ?_) AllReadyH.nil)
      rw [if_pos (by rfl)]
      refine wp_store_mid _ _ _ rfl _ _ (I64 p).toArray rfl rfl (by have := arr_there Ap; simpa [np] using this) jp (all_oneCell_toArray up) ?_
      simp only [Act.put]
      replace fr := bel_sc fr Xp (I64 p) (by omega)
      replace pa := pa.sc Xp (I64 p) (by omega)
      replace vP := vP.sc Xp (I64 p) (by omega)
      replace vD := vD.sc Xp (I64 p) (by omega)
      replace Aq := Aq.sc Xp (I64 p) (by omega)
      replace Af := Af.sc Xp (I64 p) (by omega)
      replace Ak := Ak.sc Xp (I64 p) (by omega)
      replace Ap := Ap.sc0 (I64 p) (by simp [np])
      replace Ao := Ao.sc Xp (I64 p) (by omega)
      obtain ⟨V143, hVe⟩ : ∃ V, V = V142.setCells Xp 0 (I64 p) := ⟨_, rfl⟩
      rw [← hVe] at fr pa vP vD Aq Af Ak Ap Ao ⊢
      clear hVe
      refine hK.out _ _ ⟨E4.rc hP pa, E4.rc hQ Aq, vr_range vD, E4.rt hP pa, E4.rt hQ Aq⟩ (fun hHeld => ?_)
      clear hK K
      refine wpAnyH_done (by kernel_rfl) ?_ _
      go_wp2
      go_meet
      case rel => exact ⟨Xo, Xp, rfl, rfl, Ao, Ap, fr, pa, vP, vD, Aq, Af, Ak⟩
   case rest =>
    clear fr pa vP vD Aq Af Ak
    obtain ⟨Xo, Xp, rfl, rfl, Ao, Ap, fr, pa, vP, vD, Aq, Af, Ak⟩ := hcut
    obtain ⟨C144, hwc⟩ : ∃ V, V = wc := ⟨_, rfl⟩
    rw [← hwc] at fr pa vP vD Aq Af Ak Ao Ap ⊢
    clear hwc
    go_wp2
    clear pa
    clear Aq
    try simp only [Act.put]
    have bD : Below C144.heap.size C144 C144.drew := (Below.refl _ _).drew
    replace fr := fr.trans (bD.mono fr.size)
    replace vP := vP.kept bD
    replace vD := vD.kept bD
    replace Af := Af.kept bD
    replace Ak := Ak.kept bD
    replace Ao := Ao.kept bD
    replace Ap := Ap.kept bD
    clear bD
    refine wp_region_held_drew (S := fun W => W.rangeAt Xf 0 (I64 f) ∧ W.rangeAt Xk 0 (I64 k) ∧ W.rangeAt Xo 0 (I64 o) ∧ W.rangeAt Xp 0 (I64 p)) (by kernel_rfl) ⟨arr_range Af, arr_range Ak, arr_range Ao, arr_range Ap⟩ (fun hHeld => ?_)
    obtain ⟨D145, hD⟩ : ∃ V, V = C144.drew := ⟨_, rfl⟩
    rw [← hD] at hHeld fr vP vD Af Ak Ao Ap ⊢
    clear hD
    refine wpAnyH_take (i := 0) (oi := { dst := some 46, op := Op.load 70 (Operand.tmp 6), type := 70, pos := "l06_point.go:168", after := #[], guard := none }) (v := _) rfl (by kernel_rfl) (by kernel_rfl) (by kernel_rfl) (fun _ _ _ h => h) (yieldsIf_load_mid (by rfl) _ _ rfl _ _ rfl (I64 f) _ (fun _ h => h.1) hu rfl iif) (by assumption) ?_
    simp only [Act.put, List.setIfInBounds_toArray, List.set_cons_zero, List.set_cons_succ]
    refine wpAnyH_take (i := 1) (oi := { dst := some 47, op := Op.load 70 (Operand.tmp 7), type := 70, pos := "l06_point.go:168", after := #[], guard := none }) (v := _) rfl (by kernel_rfl) (by kernel_rfl) (by kernel_rfl) (fun _ _ _ h => h) (yieldsIf_load_mid (by rfl) _ _ rfl _ _ rfl (I64 k) _ (fun _ h => h.2.1) hu rfl iik) (by assumption) ?_
    simp only [Act.put, List.setIfInBounds_toArray, List.set_cons_zero, List.set_cons_succ]
    refine wpAnyH_take (i := 2) (oi := { dst := some 48, op := Op.load 70 (Operand.tmp 8), type := 70, pos := "l06_point.go:168", after := #[], guard := none }) (v := _) rfl (by kernel_rfl) (by kernel_rfl) (by kernel_rfl) (fun _ _ _ h => h) (yieldsIf_load_mid (by rfl) _ _ rfl _ _ rfl (I64 o) _ (fun _ h => h.2.2.1) hu rfl iio) (by assumption) ?_
    simp only [Act.put, List.setIfInBounds_toArray, List.set_cons_zero, List.set_cons_succ]
    refine wpAnyH_take (i := 3) (oi := { dst := some 49, op := Op.load 70 (Operand.tmp 9), type := 70, pos := "l06_point.go:168", after := #[], guard := none }) (v := _) rfl (by kernel_rfl) (by kernel_rfl) (by kernel_rfl) (fun _ _ _ h => h) (yieldsIf_load_mid (by rfl) _ _ rfl _ _ rfl (I64 p) _ (fun _ h => h.2.2.2) hu rfl iip) (by assumption) ?_
    simp only [Act.put, List.setIfInBounds_toArray, List.set_cons_zero, List.set_cons_succ]
    refine wpAnyH_take (i := 5) (oi := { dst := some 51, op := Op.load 70 (Operand.tmp 8), type := 70, pos := "l06_point.go:168", after := #[], guard := none }) (v := _) rfl (by kernel_rfl) (by kernel_rfl) (by kernel_rfl) (fun _ _ _ h => h) (yieldsIf_load_mid (by rfl) _ _ rfl _ _ rfl (I64 o) _ (fun _ h => h.2.2.1) hu rfl iio) (by assumption) ?_
    simp only [Act.put, List.setIfInBounds_toArray, List.set_cons_zero, List.set_cons_succ]
    refine wpAnyH_take (i := 6) (oi := { dst := some 52, op := Op.load 70 (Operand.tmp 9), type := 70, pos := "l06_point.go:168", after := #[], guard := none }) (v := _) rfl (by kernel_rfl) (by kernel_rfl) (by kernel_rfl) (fun _ _ _ h => h) (yieldsIf_load_mid (by rfl) _ _ rfl _ _ rfl (I64 p) _ (fun _ h => h.2.2.2) hu rfl iip) (by assumption) ?_
    simp only [Act.put, List.setIfInBounds_toArray, List.set_cons_zero, List.set_cons_succ]
    refine wpAnyH_ready (rs := [4]) (by kernel_rfl) (by simp) (AllReadyH.cons (o := { dst := some 50, op := Op.call { callee := Callee.value (Operand.func 105), args := #[Operand.tmp 48, Operand.tmp 49], argTypes := #[70, 70] }, type := 70, pos := "l06_point.go:168", after := #[{ on := 2, ground := Ground.data }, { on := 3, ground := Ground.data }], guard := none }) rfl (fun K hK => ?_) AllReadyH.nil)
    go_simp
    refine (Hh.out _ vP).mono ?_
    rintro e y146 ⟨rfl, hb146⟩
    replace fr := fr.trans (hb146.mono fr.size)
    replace vP := vP.kept hb146
    replace vD := vD.kept hb146
    replace Af := Af.kept hb146
    replace Ak := Ak.kept hb146
    replace Ao := Ao.kept hb146
    replace Ap := Ap.kept hb146
    clear hb146
    go_wp2_with fail
    refine hK.out _ _ ⟨arr_range Af, arr_range Ak, arr_range Ao, arr_range Ap⟩ (fun hHeld => ?_)
    clear hK K
    refine wpAnyH_ready (rs := [7]) (by kernel_rfl) (by simp) (AllReadyH.cons (o := { dst := some 53, op := Op.call { callee := Callee.value (Operand.func 107), args := #[Operand.tmp 51, Operand.tmp 52], argTypes := #[70, 70] }, type := 70, pos := "l06_point.go:168", after := #[{ on := 5, ground := Ground.data }, { on := 6, ground := Ground.data }, { on := 4, ground := Ground.chain }], guard := none }) rfl (fun K hK => ?_) AllReadyH.nil)
    go_simp
    refine (Hg.out _ vP).mono ?_
    rintro e y147 ⟨rfl, hb147⟩
    replace fr := fr.trans (hb147.mono fr.size)
    replace vP := vP.kept hb147
    replace vD := vD.kept hb147
    replace Af := Af.kept hb147
    replace Ak := Ak.kept hb147
    replace Ao := Ao.kept hb147
    replace Ap := Ap.kept hb147
    clear hb147
    go_wp2_with fail
    refine hK.out _ _ ⟨arr_range Af, arr_range Ak, arr_range Ao, arr_range Ap⟩ (fun hHeld => ?_)
    clear hK K
    refine wpAnyH_ready (rs := [8]) (by kernel_rfl) (by simp) (AllReadyH.cons (o := { dst := some 54, op := Op.call { callee := Callee.value (Operand.func 106), args := #[Operand.tmp 46, Operand.tmp 47, Operand.tmp 50, Operand.tmp 53], argTypes := #[70, 70, 70, 70] }, type := 72, pos := "l06_point.go:168", after := #[{ on := 0, ground := Ground.data }, { on := 1, ground := Ground.data }, { on := 4, ground := Ground.data }, { on := 7, ground := Ground.data }, { on := 7, ground := Ground.chain }], guard := none }) rfl (fun K hK => ?_) AllReadyH.nil)
    go_simp
    refine (HR.out _ vP).mono ?_
    rintro e y148 ⟨rfl, hb148⟩
    replace fr := fr.trans (hb148.mono fr.size)
    replace vP := vP.kept hb148
    replace vD := vD.kept hb148
    replace Af := Af.kept hb148
    replace Ak := Ak.kept hb148
    replace Ao := Ao.kept hb148
    replace Ap := Ap.kept hb148
    clear hb148
    go_wp2_with fail
    refine hK.out _ _ ⟨arr_range Af, arr_range Ak, arr_range Ao, arr_range Ap⟩ (fun hHeld => ?_)
    clear hK K
    refine wpAnyH_take (i := 9) (oi := { dst := some 55, op := Op.makeInterface 72 (Operand.tmp 54), type := 77, pos := "l06_point.go:168", after := #[{ on := 8, ground := Ground.data }], guard := none }) (v := .iface 72 (.agg (I64 R.cells).toArray)) rfl (by kernel_rfl) (by kernel_rfl) (by kernel_rfl) (fun _ _ _ h => h) (.inl ⟨by rfl, fun _ _ => by rfl⟩) (by assumption) ?_
    simp only [Act.put, List.setIfInBounds_toArray, List.set_cons_zero, List.set_cons_succ]
    refine wpAnyH_ready (rs := [10]) (by kernel_rfl) (by simp) (AllReadyH.cons (o := { dst := some 4, op := Op.assign (Operand.tmp 55), type := 77, pos := "l06_point.go:168", after := #[{ on := 9, ground := Ground.data }, { on := 8, ground := Ground.chain }, { on := 0, ground := Ground.phase }, { on := 1, ground := Ground.phase }, { on := 2, ground := Ground.phase }, { on := 3, ground := Ground.phase }, { on := 4, ground := Ground.phase }, { on := 5, ground := Ground.phase }, { on := 6, ground := Ground.phase }, { on := 7, ground := Ground.phase }, { on := 8, ground := Ground.phase }, { on := 9, ground := Ground.phase }], guard := none }) rfl (fun K hK => ?_) AllReadyH.nil)
    go_simp
    refine hK.out _ _ ⟨arr_range Af, arr_range Ak, arr_range Ao, arr_range Ap⟩ (fun hHeld => ?_)
    clear hK K
    refine wpAnyH_done (by kernel_rfl) ?_ _
    go_wp2
    go_ret
    exact ⟨rfl, fr⟩

end Go.Proofs.YtoblilngppjmhaaDoor
