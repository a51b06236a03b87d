/-
  What is proved here: contracts of the program's onCurve and pointOpen: whether two lists are a point, and which; where its variables hold the prime and d.
-/
import Derived.Test.YtoblilngppjmhaaDoorW9Ob
import Derived.Test.YtoblilngppjmhaaDoorW9Jhi
import Derived.Test.YtoblilngppjmhaaDoorW9Jio
import Derived.Test.YtoblilngppjmhaaDoorW9Ui
import Derived.Test.YtoblilngppjmhaaDoorW9Jlw
namespace Go.Proofs.YtoblilngppjmhaaDoor
open Go.RowKit
set_option maxRecDepth 100000
abbrev qOg0 : Oper := { dst := none, op := Op.store 70 (Operand.tmp 5) (Operand.tmp 10), type := 0, pos := "l06_point.go:129", after := #[{ on := 6, ground := Ground.data }, { on := 2, ground := Ground.data }, { on := 5, ground := Ground.chain }, { on := 0, ground := Ground.phase }, { on := 1, ground := Ground.phase }, { on := 2, ground := Ground.phase }, { on := 3, ground := Ground.textOnly Departure.lateStores }, { on := 4, ground := Ground.textOnly Departure.lateStores }, { on := 5, ground := Ground.textOnly Departure.lateStoresUnsure }, { on := 6, ground := Ground.phase }, { on := 7, ground := Ground.phase }], guard := none }
abbrev qOg1 : Oper := { dst := none, op := Op.store 70 (Operand.tmp 6) (Operand.tmp 13), type := 0, pos := "l06_point.go:129", after := #[{ on := 7, ground := Ground.data }, { on := 5, ground := Ground.data }, { on := 8, ground := Ground.chain }, { on := 0, ground := Ground.phase }, { on := 1, ground := Ground.phase }, { on := 2, ground := Ground.phase }, { on := 3, ground := Ground.phase }, { on := 4, ground := Ground.phase }, { on := 5, ground := Ground.phase }, { on := 6, ground := Ground.phase }, { on := 7, ground := Ground.phase }, { on := 8, ground := Ground.phase }], guard := none }
abbrev qOg2 : Oper := { dst := none, op := Op.store 70 (Operand.tmp 7) (Operand.tmp 18), type := 0, pos := "l06_point.go:130", after := #[{ on := 5, ground := Ground.data }, { on := 4, ground := Ground.data }, { on := 4, ground := Ground.chain }, { on := 0, ground := Ground.phase }, { on := 1, ground := Ground.phase }, { on := 2, ground := Ground.phase }, { on := 3, ground := Ground.phase }, { on := 4, ground := Ground.phase }, { on := 5, ground := Ground.phase }], guard := none }

set_option maxHeartbeats 8000000 in
theorem implOn (x y : List Int) (w : World) (hx : feOk x = true) (hy : feOk y = true) (hV : Vr w 4 (I64 PL)) (hD : Vr w 2 (I64 DL)) :
  Calls Tryd.prog 102 #[.agg (I64 x).toArray, .agg (I64 y).toArray] w fun e w' => e = .returned (.bool (onB x y)) ∧ Below w.heap.size w w' := by
 obtain ⟨p, ep⟩ : ∃ x_, x_ = red (val x * val x) := ⟨_, rfl⟩
 have kp : feOk p = true := by rw [ep]; exact ok_red _
 obtain ⟨q, eq⟩ : ∃ x_, x_ = red (val y * val y) := ⟨_, rfl⟩
 have kq : feOk q = true := by rw [eq]; exact ok_red _
 obtain ⟨s1, es1⟩ : ∃ x_, x_ = red (val p * val q) := ⟨_, rfl⟩
 have ks1 : feOk s1 = true := by rw [es1]; exact ok_red _
 obtain ⟨t, et⟩ : ∃ x_, x_ = red (val DL * val s1) := ⟨_, rfl⟩
 have kt : feOk t = true := by rw [et]; exact ok_red _
 obtain ⟨r, er⟩ : ∃ x_, x_ = red (val q - val p) := ⟨_, rfl⟩
 have kr : feOk r = true := by rw [er]; exact ok_red _
 obtain ⟨v, ev⟩ : ∃ x_, x_ = red (val t + val (lim 16 1)) := ⟨_, rfl⟩
 have kv : feOk v = true := by rw [ev]; exact ok_red _
 have Hp : Hid (∀ Z, Vr Z 4 (I64 PL) → Calls Tryd.prog 104 #[.agg (I64 x).toArray, .agg (I64 x).toArray] Z fun e w' => e = .returned (.agg (I64 p).toArray) ∧ Below Z.heap.size Z w') := by
  unfold Hid; intro Z hZ; rw [ep]; exact mulI hx hx Z hZ
 have Hq : Hid (∀ Z, Vr Z 4 (I64 PL) → Calls Tryd.prog 104 #[.agg (I64 y).toArray, .agg (I64 y).toArray] Z fun e w' => e = .returned (.agg (I64 q).toArray) ∧ Below Z.heap.size Z w') := by
  unfold Hid; intro Z hZ; rw [eq]; exact mulI hy hy Z hZ
 have Hs1 : Hid (∀ Z, Vr Z 4 (I64 PL) → Calls Tryd.prog 104 #[.agg (I64 p).toArray, .agg (I64 q).toArray] Z fun e w' => e = .returned (.agg (I64 s1).toArray) ∧ Below Z.heap.size Z w') := by
  unfold Hid; intro Z hZ; rw [es1]; exact mulI kp kq Z hZ
 have Ht : Hid (∀ Z, Vr Z 4 (I64 PL) → Calls Tryd.prog 104 #[.agg (I64 DL).toArray, .agg (I64 s1).toArray] Z fun e w' => e = .returned (.agg (I64 t).toArray) ∧ Below Z.heap.size Z w') := by
  unfold Hid; intro Z hZ; rw [et]; exact mulI DL_ok ks1 Z hZ
 have Hr : Hid (∀ Z, Vr Z 4 (I64 PL) → Calls Tryd.prog 107 #[.agg (I64 q).toArray, .agg (I64 p).toArray] Z fun e w' => e = .returned (.agg (I64 r).toArray) ∧ Below Z.heap.size Z w') := by
  unfold Hid; intro Z hZ; rw [er]; exact subI kq kp Z hZ
 have Hv : Hid (∀ Z, Vr Z 4 (I64 PL) → Calls Tryd.prog 105 #[.agg (I64 t).toArray, .agg (I64 [1, 0, 0, 0, 0, 0, 0, 0, 0, 0, 0, 0, 0, 0, 0, 0]).toArray] Z fun e w' => e = .returned (.agg (I64 v).toArray) ∧ Below Z.heap.size Z w') := by
  unfold Hid; intro Z hZ; rw [ev, ← one_lim]; exact sumI kt one_ok Z hZ
 obtain ⟨b, eb⟩ : ∃ b, b = decide (r = v) := ⟨_, rfl⟩
 have hB : onB x y = b := by rw [eb]; unfold onB onL onR; rw [ev, Int.add_comm (val t), et, es1, er, eq, ep]
 have hq : ∀ Z, (Op.equalIn 10000 70 (.agg (I64 r).toArray) (.agg (I64 v).toArray)).run Tryd.prog Z = .ok b Z := by
  intro Z; rw [eb]; exact run_eqL r v Z (feOk_len kr) (feOk_len kv)
 rw [hB]
 have jx := infoL' hx
 have iix := infoLl hx
 have nx := feOk_len hx
 have ux := one_lm x
 have jy := infoL' hy
 have iiy := infoLl hy
 have ny := feOk_len hy
 have uy := one_lm y
 have jp := infoL' kp
 have iip := infoLl kp
 have np := feOk_len kp
 have up := one_lm p
 have jq := infoL' kq
 have iiq := infoLl kq
 have nq := feOk_len kq
 have uq := one_lm q
 have jt := infoL' kt
 have iit := infoLl kt
 have nt := feOk_len kt
 have ut := one_lm t
 have iDL := infoLl DL_ok
 have hu : Tryd.prog.underlying 70 = some (.array 16 3) := Tryd.underlying70
 obtain ⟨A0, hA0⟩ : ∃ A, A = (I64 x).toArray := ⟨_, rfl⟩
 obtain ⟨A1, hA1⟩ : ∃ A, A = (I64 y).toArray := ⟨_, rfl⟩
 obtain ⟨W, hW⟩ : ∃ W, W = (w.alloc (.cells A0 70)).alloc (.cells A1 70) := ⟨_, rfl⟩
 have fr : Below w.heap.size w W := by rw [hW]; exact (((Below.refl _ _).alloc (Nat.le_refl _) _).alloc (by simp) _)
 have pa : Arr W w.heap.size 70 (I64 x) := by
  rw [hW, hA0, hA1]
  have := (Arr.new (w) (I64 x) 70).alloc (.cells (I64 y).toArray 70)
  exact this
 have pb : Arr W (w.heap.size + 1) 70 (I64 y) := by
  rw [hW, hA0, hA1]
  have := Arr.new (w.alloc (.cells (I64 x).toArray 70)) (I64 y) 70
  rw [World.size_alloc] at this
  exact this
 have h0P := hV.lt
 have vP := hV.kept fr
 have h0D := hD.lt
 have vD := hD.kept fr
 rw [← hA0, ← hA1]
 clear hA0 hA1
 clear hV hD
 clear hB eb ev kv hx hy ep kp eq kq es1 ks1 et kt er kr
 go_enter Tryd.func102, Tryd.ntmps102
 go_upto_region 1 with fail
 rw [← hW]
 clear hW
 try simp only [Act.put]
 go_cut [5, 6] from 8 (fun s5 s6 wc => ∃ (Xp : Nat) (Xq : Nat), s5 = .pointer (some ⟨Xp, 0, none⟩) ∧ s6 = .pointer (some ⟨Xq, 0, none⟩) ∧ Arr wc Xp 70 (I64 p) ∧ Arr wc Xq 70 (I64 q) ∧ Below w.heap.size w wc ∧ Arr wc w.heap.size 70 (I64 x) ∧ Arr wc (w.heap.size + 1) 70 (I64 y) ∧ Vr wc 4 (I64 PL) ∧ Vr wc 2 (I64 DL) ∧ w.heap.size < Xp ∧ w.heap.size < Xq)
 case first =>
  have bD : Below W.heap.size W W.drew := (Below.refl _ _).drew
  replace fr := fr.trans (bD.mono fr.size)
  replace pa := pa.kept bD
  replace pb := pb.kept bD
  replace vP := vP.kept bD
  replace vD := vD.kept bD
  clear bD
  refine wp_region_held_drew (S := fun W => W.rangeAt w.heap.size 0 (I64 x) ∧ W.rangeAt (w.heap.size + 1) 0 (I64 y)) (by kernel_rfl) ⟨arr_range pa, arr_range pb⟩ (fun hHeld => ?_)
  obtain ⟨D1, hD⟩ : ∃ V, V = W.drew := ⟨_, rfl⟩
  rw [← hD] at hHeld fr pa pb vP vD ⊢
  clear hD
  refine wpAnyH_take (i := 0) (oi := { dst := some 8, op := Op.load 70 (Operand.tmp 2), type := 70, pos := "l06_point.go:129", after := #[], guard := none }) (v := _) rfl (by kernel_rfl) (by kernel_rfl) (by kernel_rfl) (fun _ _ _ h => h) (yieldsIf_load_mid (by rfl) _ _ rfl _ _ rfl (I64 x) _ (fun _ h => h.1) hu rfl iix) (by assumption) ?_
  simp only [Act.put, List.setIfInBounds_toArray, List.set_cons_zero, List.set_cons_succ]
  refine wpAnyH_take (i := 1) (oi := { dst := some 9, op := Op.load 70 (Operand.tmp 2), type := 70, pos := "l06_point.go:129", after := #[], guard := none }) (v := _) rfl (by kernel_rfl) (by kernel_rfl) (by kernel_rfl) (fun _ _ _ h => h) (yieldsIf_load_mid (by rfl) _ _ rfl _ _ rfl (I64 x) _ (fun _ h => h.1) hu rfl iix) (by assumption) ?_
  simp only [Act.put, List.setIfInBounds_toArray, List.set_cons_zero, List.set_cons_succ]
  refine wpAnyH_take (i := 3) (oi := { dst := some 11, op := Op.load 70 (Operand.tmp 3), type := 70, pos := "l06_point.go:129", after := #[], guard := none }) (v := _) rfl (by kernel_rfl) (by kernel_rfl) (by kernel_rfl) (fun _ _ _ h => h) (yieldsIf_load_mid (by rfl) _ _ rfl _ _ rfl (I64 y) _ (fun _ h => h.2) hu rfl iiy) (by assumption) ?_
  simp only [Act.put, List.setIfInBounds_toArray, List.set_cons_zero, List.set_cons_succ]
  refine wpAnyH_take (i := 4) (oi := { dst := some 12, op := Op.load 70 (Operand.tmp 3), type := 70, pos := "l06_point.go:129", after := #[], guard := none }) (v := _) rfl (by kernel_rfl) (by kernel_rfl) (by kernel_rfl) (fun _ _ _ h => h) (yieldsIf_load_mid (by rfl) _ _ rfl _ _ rfl (I64 y) _ (fun _ h => h.2) hu rfl iiy) (by assumption) ?_
  simp only [Act.put, List.setIfInBounds_toArray, List.set_cons_zero, List.set_cons_succ]
  refine wpAnyH_ready (rs := [2, 6, 7]) (by kernel_rfl) (by simp) (AllReadyH.cons (o := { dst := some 10, op := Op.call { callee := Callee.value (Operand.func 104), args := #[Operand.tmp 8, Operand.tmp 9], argTypes := #[70, 70] }, type := 70, pos := "l06_point.go:129", after := #[{ on := 0, ground := Ground.data }, { on := 1, ground := Ground.data }], guard := none }) rfl (fun K hK => ?_) (AllReadyH.cons (o := { dst := some 5, op := Op.alloc 70, type := 0, pos := "l06_point.go:129", after := #[], guard := none }) rfl (fun K hK => ?_) (AllReadyH.cons (o := { dst := some 6, op := Op.alloc 70, type := 0, pos := "l06_point.go:129", after := #[], guard := none }) rfl (fun K hK => ?_) AllReadyH.nil)))
  ·skip
   go_simp
   refine (Hp.out _ vP).mono ?_
   rintro e y2 ⟨rfl, hb2⟩
   replace fr := fr.trans (hb2.mono fr.size)
   replace pa := pa.kept hb2
   replace pb := pb.kept hb2
   replace vP := vP.kept hb2
   replace vD := vD.kept hb2
   clear hb2
   go_wp2_with fail
   refine hK.out _ _ ⟨arr_range pa, arr_range pb⟩ (fun hHeld => ?_)
   clear hK K
   refine wpAnyH_ready (rs := [5, 6, 7]) (by kernel_rfl) (by simp) (AllReadyH.cons (o := { dst := some 13, op := Op.call { callee := Callee.value (Operand.func 104), args := #[Operand.tmp 11, Operand.tmp 12], argTypes := #[70, 70] }, type := 70, pos := "l06_point.go:129", after := #[{ on := 3, ground := Ground.data }, { on := 4, ground := Ground.data }, { on := 2, ground := Ground.chain }], guard := none }) rfl (fun K hK => ?_) (AllReadyH.cons (o := { dst := some 5, op := Op.alloc 70, type := 0, pos := "l06_point.go:129", after := #[], guard := none }) rfl (fun K hK => ?_) (AllReadyH.cons (o := { dst := some 6, op := Op.alloc 70, type := 0, pos := "l06_point.go:129", after := #[], guard := none }) rfl (fun K hK => ?_) AllReadyH.nil)))
   ·skip
    go_simp
    refine (Hq.out _ vP).mono ?_
    rintro e y3 ⟨rfl, hb3⟩
    replace fr := fr.trans (hb3.mono fr.size)
    replace pa := pa.kept hb3
    replace pb := pb.kept hb3
    replace vP := vP.kept hb3
    replace vD := vD.kept hb3
    clear hb3
    go_wp2_with fail
    refine hK.out _ _ ⟨arr_range pa, arr_range pb⟩ (fun hHeld => ?_)
    clear hK K
    refine wpAnyH_ready (rs := [6, 7]) (by kernel_rfl) (by simp) (AllReadyH.cons (o := { dst := some 5, op := Op.alloc 70, type := 0, pos := "l06_point.go:129", after := #[], guard := none }) rfl (fun K hK => ?_) (AllReadyH.cons (o := { dst := some 6, op := Op.alloc 70, type := 0, pos := "l06_point.go:129", after := #[], guard := none }) rfl (fun K hK => ?_) AllReadyH.nil))
    ·skip
     go_simp
     obtain ⟨V4, hVe⟩ : ∃ V, V = y3.alloc (.cells #[.int .i64 0, .int .i64 0, .int .i64 0, .int .i64 0, .int .i64 0, .int .i64 0, .int .i64 0, .int .i64 0, .int .i64 0, .int .i64 0, .int .i64 0, .int .i64 0, .int .i64 0, .int .i64 0, .int .i64 0, .int .i64 0] 70) := ⟨_, rfl⟩
     have bV : Below y3.heap.size y3 V4 := by rw [hVe]; exact (Below.refl _ _).alloc (Nat.le_refl _) _
     have Ap : Arr V4 y3.heap.size 70 (I64 Z16) := by rw [hVe]; exact Arr.new _ (I64 Z16) _
     have hXp : w.heap.size < y3.heap.size ∧ (w.heap.size + 1) < y3.heap.size ∧ True := ⟨pa.lt, pb.lt, trivial⟩
     obtain ⟨Xp, hXe⟩ : ∃ X, X = y3.heap.size := ⟨_, rfl⟩
     replace fr := fr.trans (bV.mono fr.size)
     replace pa := pa.kept bV
     replace pb := pb.kept bV
     replace vP := vP.kept bV
     replace vD := vD.kept bV
     rw [← hVe]
     rw [← hXe] at Ap hXp ⊢
     clear hVe hXe bV
     refine hK.out _ _ ⟨arr_range pa, arr_range pb⟩ (fun hHeld => ?_)
     clear hK K
     refine wpAnyH_ready (rs := [7]) (by kernel_rfl) (by simp) (AllReadyH.cons (o := { dst := some 6, op := Op.alloc 70, type := 0, pos := "l06_point.go:129", after := #[], guard := none }) rfl (fun K hK => ?_) AllReadyH.nil)
     go_simp
     obtain ⟨V5, hVe⟩ : ∃ V, V = V4.alloc (.cells #[.int .i64 0, .int .i64 0, .int .i64 0, .int .i64 0, .int .i64 0, .int .i64 0, .int .i64 0, .int .i64 0, .int .i64 0, .int .i64 0, .int .i64 0, .int .i64 0, .int .i64 0, .int .i64 0, .int .i64 0, .int .i64 0] 70) := ⟨_, rfl⟩
     have bV : Below V4.heap.size V4 V5 := by rw [hVe]; exact (Below.refl _ _).alloc (Nat.le_refl _) _
     have Aq : Arr V5 V4.heap.size 70 (I64 Z16) := by rw [hVe]; exact Arr.new _ (I64 Z16) _
     have hXq : w.heap.size < V4.heap.size ∧ (w.heap.size + 1) < V4.heap.size ∧ Xp < V4.heap.size ∧ True := ⟨pa.lt, pb.lt, Ap.lt, trivial⟩
     obtain ⟨Xq, hXe⟩ : ∃ X, X = V4.heap.size := ⟨_, rfl⟩
     replace fr := fr.trans (bV.mono fr.size)
     replace pa := pa.kept bV
     replace pb := pb.kept bV
     replace vP := vP.kept bV
     replace vD := vD.kept bV
     replace Ap := Ap.kept bV
     rw [← hVe]
     rw [← hXe] at Aq hXq ⊢
     clear hVe hXe bV
     refine hK.out _ _ ⟨arr_range pa, arr_range pb⟩ (fun hHeld => ?_)
     clear hK K
     refine wpAnyH_ready (rs := [8]) (by kernel_rfl) (by simp) (AllReadyH.cons (o := qOg0) rfl (fun K hK => ?_) AllReadyH.nil)
     rw [if_pos (by rfl)]
     refine wp_store_mid _ _ _ rfl _ _ (I64 p).toArray rfl rfl (by have := arr_there Ap; simpa [np] using this) jp (all_oneCell_toArray up) ?_
     simp only [Act.put]
     replace fr := bel_sc fr Xp (I64 p) (by omega)
     replace pa := pa.sc Xp (I64 p) (by omega)
     replace pb := pb.sc Xp (I64 p) (by omega)
     replace vP := vP.sc Xp (I64 p) (by omega)
     replace vD := vD.sc Xp (I64 p) (by omega)
     replace Ap := Ap.sc0 (I64 p) (by simp [np])
     replace Aq := Aq.sc Xp (I64 p) (by omega)
     obtain ⟨V6, hVe⟩ : ∃ V, V = V5.setCells Xp 0 (I64 p) := ⟨_, rfl⟩
     rw [← hVe] at fr pa pb vP vD Ap Aq ⊢
     clear hVe
     refine hK.out _ _ ⟨arr_range pa, arr_range pb⟩ (fun hHeld => ?_)
     clear hK K
     refine wpAnyH_ready (rs := [9]) (by kernel_rfl) (by simp) (AllReadyH.cons (o := qOg1) rfl (fun K hK => ?_) AllReadyH.nil)
     rw [if_pos (by rfl)]
     refine wp_store_mid _ _ _ rfl _ _ (I64 q).toArray rfl rfl (by have := arr_there Aq; simpa [nq] using this) jq (all_oneCell_toArray uq) ?_
     simp only [Act.put]
     replace fr := bel_sc fr Xq (I64 q) (by omega)
     replace pa := pa.sc Xq (I64 q) (by omega)
     replace pb := pb.sc Xq (I64 q) (by omega)
     replace vP := vP.sc Xq (I64 q) (by omega)
     replace vD := vD.sc Xq (I64 q) (by omega)
     replace Ap := Ap.sc Xq (I64 q) (by omega)
     replace Aq := Aq.sc0 (I64 q) (by simp [nq])
     obtain ⟨V7, hVe⟩ : ∃ V, V = V6.setCells Xq 0 (I64 q) := ⟨_, rfl⟩
     rw [← hVe] at fr pa pb vP vD Ap Aq ⊢
     clear hVe
     refine hK.out _ _ ⟨arr_range pa, arr_range pb⟩ (fun hHeld => ?_)
     clear hK K
     refine wpAnyH_done (by kernel_rfl) ?_ _
     go_wp2
     go_meet
     case rel => exact ⟨Xp, Xq, rfl, rfl, Ap, Aq, fr, pa, pb, vP, vD, (by omega), (by omega)⟩
    ·skip
     go_simp
     obtain ⟨V8, hVe⟩ : ∃ V, V = y3.alloc (.cells #[.int .i64 0, .int .i64 0, .int .i64 0, .int .i64 0, .int .i64 0, .int .i64 0, .int .i64 0, .int .i64 0, .int .i64 0, .int .i64 0, .int .i64 0, .int .i64 0, .int .i64 0, .int .i64 0, .int .i64 0, .int .i64 0] 70) := ⟨_, rfl⟩
     have bV : Below y3.heap.size y3 V8 := by rw [hVe]; exact (Below.refl _ _).alloc (Nat.le_refl _) _
     have Aq : Arr V8 y3.heap.size 70 (I64 Z16) := by rw [hVe]; exact Arr.new _ (I64 Z16) _
     have hXq : w.heap.size < y3.heap.size ∧ (w.heap.size + 1) < y3.heap.size ∧ True := ⟨pa.lt, pb.lt, trivial⟩
     obtain ⟨Xq, hXe⟩ : ∃ X, X = y3.heap.size := ⟨_, rfl⟩
     replace fr := fr.trans (bV.mono fr.size)
     replace pa := pa.kept bV
     replace pb := pb.kept bV
     replace vP := vP.kept bV
     replace vD := vD.kept bV
     rw [← hVe]
     rw [← hXe] at Aq hXq ⊢
     clear hVe hXe bV
     refine hK.out _ _ ⟨arr_range pa, arr_range pb⟩ (fun hHeld => ?_)
     clear hK K
     refine wpAnyH_ready (rs := [6]) (by kernel_rfl) (by simp) (AllReadyH.cons (o := { dst := some 5, op := Op.alloc 70, type := 0, pos := "l06_point.go:129", after := #[], guard := none }) rfl (fun K hK => ?_) AllReadyH.nil)
     go_simp
     obtain ⟨V9, hVe⟩ : ∃ V, V = V8.alloc (.cells #[.int .i64 0, .int .i64 0, .int .i64 0, .int .i64 0, .int .i64 0, .int .i64 0, .int .i64 0, .int .i64 0, .int .i64 0, .int .i64 0, .int .i64 0, .int .i64 0, .int .i64 0, .int .i64 0, .int .i64 0, .int .i64 0] 70) := ⟨_, rfl⟩
     have bV : Below V8.heap.size V8 V9 := by rw [hVe]; exact (Below.refl _ _).alloc (Nat.le_refl _) _
     have Ap : Arr V9 V8.heap.size 70 (I64 Z16) := by rw [hVe]; exact Arr.new _ (I64 Z16) _
     have hXp : w.heap.size < V8.heap.size ∧ (w.heap.size + 1) < V8.heap.size ∧ Xq < V8.heap.size ∧ True := ⟨pa.lt, pb.lt, Aq.lt, trivial⟩
     obtain ⟨Xp, hXe⟩ : ∃ X, X = V8.heap.size := ⟨_, rfl⟩
     replace fr := fr.trans (bV.mono fr.size)
     replace pa := pa.kept bV
     replace pb := pb.kept bV
     replace vP := vP.kept bV
     replace vD := vD.kept bV
     replace Aq := Aq.kept bV
     rw [← hVe]
     rw [← hXe] at Ap hXp ⊢
     clear hVe hXe bV
     refine hK.out _ _ ⟨arr_range pa, arr_range pb⟩ (fun hHeld => ?_)
     clear hK K
     refine wpAnyH_ready (rs := [8]) (by kernel_rfl) (by simp) (AllReadyH.cons (o := qOg0) rfl (fun K hK => ?_) AllReadyH.nil)
     rw [if_pos (by rfl)]
     refine wp_store_mid _ _ _ rfl _ _ (I64 p).toArray rfl rfl (by have := arr_there Ap; simpa [np] using this) jp (all_oneCell_toArray up) ?_
     simp only [Act.put]
     replace fr := bel_sc fr Xp (I64 p) (by omega)
     replace pa := pa.sc Xp (I64 p) (by omega)
     replace pb := pb.sc Xp (I64 p) (by omega)
     replace vP := vP.sc Xp (I64 p) (by omega)
     replace vD := vD.sc Xp (I64 p) (by omega)
     replace Aq := Aq.sc Xp (I64 p) (by omega)
     replace Ap := Ap.sc0 (I64 p) (by simp [np])
     obtain ⟨V10, hVe⟩ : ∃ V, V = V9.setCells Xp 0 (I64 p) := ⟨_, rfl⟩
     rw [← hVe] at fr pa pb vP vD Aq Ap ⊢
     clear hVe
     refine hK.out _ _ ⟨arr_range pa, arr_range pb⟩ (fun hHeld => ?_)
     clear hK K
     refine wpAnyH_ready (rs := [9]) (by kernel_rfl) (by simp) (AllReadyH.cons (o := qOg1) rfl (fun K hK => ?_) AllReadyH.nil)
     rw [if_pos (by rfl)]
     refine wp_store_mid _ _ _ rfl _ _ (I64 q).toArray rfl rfl (by have := arr_there Aq; simpa [nq] using this) jq (all_oneCell_toArray uq) ?_
     simp only [Act.put]
     replace fr := bel_sc fr Xq (I64 q) (by omega)
     replace pa := pa.sc Xq (I64 q) (by omega)
     replace pb := pb.sc Xq (I64 q) (by omega)
     replace vP := vP.sc Xq (I64 q) (by omega)
     replace vD := vD.sc Xq (I64 q) (by omega)
     replace Aq := Aq.sc0 (I64 q) (by simp [nq])
     replace Ap := Ap.sc Xq (I64 q) (by omega)
     obtain ⟨V11, hVe⟩ : ∃ V, V = V10.setCells Xq 0 (I64 q) := ⟨_, rfl⟩
     rw [← hVe] at fr pa pb vP vD Aq Ap ⊢
     clear hVe
     refine hK.out _ _ ⟨arr_range pa, arr_range pb⟩ (fun hHeld => ?_)
     clear hK K
     refine wpAnyH_done (by kernel_rfl) ?_ _
     go_wp2
     go_meet
     case rel => exact ⟨Xp, Xq, rfl, rfl, Ap, Aq, fr, pa, pb, vP, vD, (by omega), (by omega)⟩
   ·skip
    go_simp
    obtain ⟨V12, hVe⟩ : ∃ V, V = y2.alloc (.cells #[.int .i64 0, .int .i64 0, .int .i64 0, .int .i64 0, .int .i64 0, .int .i64 0, .int .i64 0, .int .i64 0, .int .i64 0, .int .i64 0, .int .i64 0, .int .i64 0, .int .i64 0, .int .i64 0, .int .i64 0, .int .i64 0] 70) := ⟨_, rfl⟩
    have bV : Below y2.heap.size y2 V12 := by rw [hVe]; exact (Below.refl _ _).alloc (Nat.le_refl _) _
    have Ap : Arr V12 y2.heap.size 70 (I64 Z16) := by rw [hVe]; exact Arr.new _ (I64 Z16) _
    have hXp : w.heap.size < y2.heap.size ∧ (w.heap.size + 1) < y2.heap.size ∧ True := ⟨pa.lt, pb.lt, trivial⟩
    obtain ⟨Xp, hXe⟩ : ∃ X, X = y2.heap.size := ⟨_, rfl⟩
    replace fr := fr.trans (bV.mono fr.size)
    replace pa := pa.kept bV
    replace pb := pb.kept bV
    replace vP := vP.kept bV
    replace vD := vD.kept bV
    rw [← hVe]
    rw [← hXe] at Ap hXp ⊢
    clear hVe hXe bV
    refine hK.out _ _ ⟨arr_range pa, arr_range pb⟩ (fun hHeld => ?_)
    clear hK K
    refine wpAnyH_ready (rs := [5, 7]) (by kernel_rfl) (by simp) (AllReadyH.cons (o := { dst := some 13, op := Op.call { callee := Callee.value (Operand.func 104), args := #[Operand.tmp 11, Operand.tmp 12], argTypes := #[70, 70] }, type := 70, pos := "l06_point.go:129", after := #[{ on := 3, ground := Ground.data }, { on := 4, ground := Ground.data }, { on := 2, ground := Ground.chain }], guard := none }) rfl (fun K hK => ?_) (AllReadyH.cons (o := { dst := some 6, op := Op.alloc 70, type := 0, pos := "l06_point.go:129", after := #[], guard := none }) rfl (fun K hK => ?_) AllReadyH.nil))
    ·skip
     go_simp
     refine (Hq.out _ vP).mono ?_
     rintro e y13 ⟨rfl, hb13⟩
     replace fr := fr.trans (hb13.mono fr.size)
     replace pa := pa.kept hb13
     replace pb := pb.kept hb13
     replace vP := vP.kept hb13
     replace vD := vD.kept hb13
     replace Ap := Ap.kept hb13
     clear hb13
     go_wp2_with fail
     refine hK.out _ _ ⟨arr_range pa, arr_range pb⟩ (fun hHeld => ?_)
     clear hK K
     refine wpAnyH_ready (rs := [7]) (by kernel_rfl) (by simp) (AllReadyH.cons (o := { dst := some 6, op := Op.alloc 70, type := 0, pos := "l06_point.go:129", after := #[], guard := none }) rfl (fun K hK => ?_) AllReadyH.nil)
     go_simp
     obtain ⟨V14, hVe⟩ : ∃ V, V = y13.alloc (.cells #[.int .i64 0, .int .i64 0, .int .i64 0, .int .i64 0, .int .i64 0, .int .i64 0, .int .i64 0, .int .i64 0, .int .i64 0, .int .i64 0, .int .i64 0, .int .i64 0, .int .i64 0, .int .i64 0, .int .i64 0, .int .i64 0] 70) := ⟨_, rfl⟩
     have bV : Below y13.heap.size y13 V14 := by rw [hVe]; exact (Below.refl _ _).alloc (Nat.le_refl _) _
     have Aq : Arr V14 y13.heap.size 70 (I64 Z16) := by rw [hVe]; exact Arr.new _ (I64 Z16) _
     have hXq : w.heap.size < y13.heap.size ∧ (w.heap.size + 1) < y13.heap.size ∧ Xp < y13.heap.size ∧ True := ⟨pa.lt, pb.lt, Ap.lt, trivial⟩
     obtain ⟨Xq, hXe⟩ : ∃ X, X = y13.heap.size := ⟨_, rfl⟩
     replace fr := fr.trans (bV.mono fr.size)
     replace pa := pa.kept bV
     replace pb := pb.kept bV
     replace vP := vP.kept bV
     replace vD := vD.kept bV
     replace Ap := Ap.kept bV
     rw [← hVe]
     rw [← hXe] at Aq hXq ⊢
     clear hVe hXe bV
     refine hK.out _ _ ⟨arr_range pa, arr_range pb⟩ (fun hHeld => ?_)
     clear hK K
     refine wpAnyH_ready (rs := [8]) (by kernel_rfl) (by simp) (AllReadyH.cons (o := qOg0) rfl (fun K hK => ?_) AllReadyH.nil)
     rw [if_pos (by rfl)]
     refine wp_store_mid _ _ _ rfl _ _ (I64 p).toArray rfl rfl (by have := arr_there Ap; simpa [np] using this) jp (all_oneCell_toArray up) ?_
     simp only [Act.put]
     replace fr := bel_sc fr Xp (I64 p) (by omega)
     replace pa := pa.sc Xp (I64 p) (by omega)
     replace pb := pb.sc Xp (I64 p) (by omega)
     replace vP := vP.sc Xp (I64 p) (by omega)
     replace vD := vD.sc Xp (I64 p) (by omega)
     replace Ap := Ap.sc0 (I64 p) (by simp [np])
     replace Aq := Aq.sc Xp (I64 p) (by omega)
     obtain ⟨V15, hVe⟩ : ∃ V, V = V14.setCells Xp 0 (I64 p) := ⟨_, rfl⟩
     rw [← hVe] at fr pa pb vP vD Ap Aq ⊢
     clear hVe
     refine hK.out _ _ ⟨arr_range pa, arr_range pb⟩ (fun hHeld => ?_)
     clear hK K
     refine wpAnyH_ready (rs := [9]) (by kernel_rfl) (by simp) (AllReadyH.cons (o := qOg1) rfl (fun K hK => ?_) AllReadyH.nil)
     rw [if_pos (by rfl)]
     refine wp_store_mid _ _ _ rfl _ _ (I64 q).toArray rfl rfl (by have := arr_there Aq; simpa [nq] using this) jq (all_oneCell_toArray uq) ?_
     simp only [Act.put]
     replace fr := bel_sc fr Xq (I64 q) (by omega)
     replace pa := pa.sc Xq (I64 q) (by omega)
     replace pb := pb.sc Xq (I64 q) (by omega)
     replace vP := vP.sc Xq (I64 q) (by omega)
     replace vD := vD.sc Xq (I64 q) (by omega)
     replace Ap := Ap.sc Xq (I64 q) (by omega)
     replace Aq := Aq.sc0 (I64 q) (by simp [nq])
     obtain ⟨V16, hVe⟩ : ∃ V, V = V15.setCells Xq 0 (I64 q) := ⟨_, rfl⟩
     rw [← hVe] at fr pa pb vP vD Ap Aq ⊢
     clear hVe
     refine hK.out _ _ ⟨arr_range pa, arr_range pb⟩ (fun hHeld => ?_)
     clear hK K
     refine wpAnyH_done (by kernel_rfl) ?_ _
     go_wp2
     go_meet
     case rel => exact ⟨Xp, Xq, rfl, rfl, Ap, Aq, fr, pa, pb, vP, vD, (by omega), (by omega)⟩
    ·skip
     go_simp
     obtain ⟨V17, hVe⟩ : ∃ V, V = V12.alloc (.cells #[.int .i64 0, .int .i64 0, .int .i64 0, .int .i64 0, .int .i64 0, .int .i64 0, .int .i64 0, .int .i64 0, .int .i64 0, .int .i64 0, .int .i64 0, .int .i64 0, .int .i64 0, .int .i64 0, .int .i64 0, .int .i64 0] 70) := ⟨_, rfl⟩
     have bV : Below V12.heap.size V12 V17 := by rw [hVe]; exact (Below.refl _ _).alloc (Nat.le_refl _) _
     have Aq : Arr V17 V12.heap.size 70 (I64 Z16) := by rw [hVe]; exact Arr.new _ (I64 Z16) _
     have hXq : w.heap.size < V12.heap.size ∧ (w.heap.size + 1) < V12.heap.size ∧ Xp < V12.heap.size ∧ True := ⟨pa.lt, pb.lt, Ap.lt, trivial⟩
     obtain ⟨Xq, hXe⟩ : ∃ X, X = V12.heap.size := ⟨_, rfl⟩
     replace fr := fr.trans (bV.mono fr.size)
     replace pa := pa.kept bV
     replace pb := pb.kept bV
     replace vP := vP.kept bV
     replace vD := vD.kept bV
     replace Ap := Ap.kept bV
     rw [← hVe]
     rw [← hXe] at Aq hXq ⊢
     clear hVe hXe bV
     refine hK.out _ _ ⟨arr_range pa, arr_range pb⟩ (fun hHeld => ?_)
     clear hK K
     refine wpAnyH_ready (rs := [5]) (by kernel_rfl) (by simp) (AllReadyH.cons (o := { dst := some 13, op := Op.call { callee := Callee.value (Operand.func 104), args := #[Operand.tmp 11, Operand.tmp 12], argTypes := #[70, 70] }, type := 70, pos := "l06_point.go:129", after := #[{ on := 3, ground := Ground.data }, { on := 4, ground := Ground.data }, { on := 2, ground := Ground.chain }], guard := none }) rfl (fun K hK => ?_) AllReadyH.nil)
     go_simp
     refine (Hq.out _ vP).mono ?_
     rintro e y18 ⟨rfl, hb18⟩
     replace fr := fr.trans (hb18.mono fr.size)
     replace pa := pa.kept hb18
     replace pb := pb.kept hb18
     replace vP := vP.kept hb18
     replace vD := vD.kept hb18
     replace Ap := Ap.kept hb18
     replace Aq := Aq.kept hb18
     clear hb18
     go_wp2_with fail
     refine hK.out _ _ ⟨arr_range pa, arr_range pb⟩ (fun hHeld => ?_)
     clear hK K
     refine wpAnyH_ready (rs := [8]) (by kernel_rfl) (by simp) (AllReadyH.cons (o := qOg0) rfl (fun K hK => ?_) AllReadyH.nil)
     rw [if_pos (by rfl)]
     refine wp_store_mid _ _ _ rfl _ _ (I64 p).toArray rfl rfl (by have := arr_there Ap; simpa [np] using this) jp (all_oneCell_toArray up) ?_
     simp only [Act.put]
     replace fr := bel_sc fr Xp (I64 p) (by omega)
     replace pa := pa.sc Xp (I64 p) (by omega)
     replace pb := pb.sc Xp (I64 p) (by omega)
     replace vP := vP.sc Xp (I64 p) (by omega)
     replace vD := vD.sc Xp (I64 p) (by omega)
     replace Ap := Ap.sc0 (I64 p) (by simp [np])
     replace Aq := Aq.sc Xp (I64 p) (by omega)
     obtain ⟨V19, hVe⟩ : ∃ V, V = y18.setCells Xp 0 (I64 p) := ⟨_, rfl⟩
     rw [← hVe] at fr pa pb vP vD Ap Aq ⊢
     clear hVe
     refine hK.out _ _ ⟨arr_range pa, arr_range pb⟩ (fun hHeld => ?_)
     clear hK K
     refine wpAnyH_ready (rs := [9]) (by kernel_rfl) (by simp) (AllReadyH.cons (o := qOg1) rfl (fun K hK => ?_) AllReadyH.nil)
     rw [if_pos (by rfl)]
     refine wp_store_mid _ _ _ rfl _ _ (I64 q).toArray rfl rfl (by have := arr_there Aq; simpa [nq] using this) jq (all_oneCell_toArray uq) ?_
     simp only [Act.put]
     replace fr := bel_sc fr Xq (I64 q) (by omega)
     replace pa := pa.sc Xq (I64 q) (by omega)
     replace pb := pb.sc Xq (I64 q) (by omega)
     replace vP := vP.sc Xq (I64 q) (by omega)
     replace vD := vD.sc Xq (I64 q) (by omega)
     replace Ap := Ap.sc Xq (I64 q) (by omega)
     replace Aq := Aq.sc0 (I64 q) (by simp [nq])
     obtain ⟨V20, hVe⟩ : ∃ V, V = V19.setCells Xq 0 (I64 q) := ⟨_, rfl⟩
     rw [← hVe] at fr pa pb vP vD Ap Aq ⊢
     clear hVe
     refine hK.out _ _ ⟨arr_range pa, arr_range pb⟩ (fun hHeld => ?_)
     clear hK K
     refine wpAnyH_done (by kernel_rfl) ?_ _
     go_wp2
     go_meet
     case rel => exact ⟨Xp, Xq, rfl, rfl, Ap, Aq, fr, pa, pb, vP, vD, (by omega), (by omega)⟩
   ·skip
    go_simp
    obtain ⟨V21, hVe⟩ : ∃ V, V = y2.alloc (.cells #[.int .i64 0, .int .i64 0, .int .i64 0, .int .i64 0, .int .i64 0, .int .i64 0, .int .i64 0, .int .i64 0, .int .i64 0, .int .i64 0, .int .i64 0, .int .i64 0, .int .i64 0, .int .i64 0, .int .i64 0, .int .i64 0] 70) := ⟨_, rfl⟩
    have bV : Below y2.heap.size y2 V21 := by rw [hVe]; exact (Below.refl _ _).alloc (Nat.le_refl _) _
    have Aq : Arr V21 y2.heap.size 70 (I64 Z16) := by rw [hVe]; exact Arr.new _ (I64 Z16) _
    have hXq : w.heap.size < y2.heap.size ∧ (w.heap.size + 1) < y2.heap.size ∧ True := ⟨pa.lt, pb.lt, trivial⟩
    obtain ⟨Xq, hXe⟩ : ∃ X, X = y2.heap.size := ⟨_, rfl⟩
    replace fr := fr.trans (bV.mono fr.size)
    replace pa := pa.kept bV
    replace pb := pb.kept bV
    replace vP := vP.kept bV
    replace vD := vD.kept bV
    rw [← hVe]
    rw [← hXe] at Aq hXq ⊢
    clear hVe hXe bV
    refine hK.out _ _ ⟨arr_range pa, arr_range pb⟩ (fun hHeld => ?_)
    clear hK K
    refine wpAnyH_ready (rs := [5, 6]) (by kernel_rfl) (by simp) (AllReadyH.cons (o := { dst := some 13, op := Op.call { callee := Callee.value (Operand.func 104), args := #[Operand.tmp 11, Operand.tmp 12], argTypes := #[70, 70] }, type := 70, pos := "l06_point.go:129", after := #[{ on := 3, ground := Ground.data }, { on := 4, ground := Ground.data }, { on := 2, ground := Ground.chain }], guard := none }) rfl (fun K hK => ?_) (AllReadyH.cons (o := { dst := some 5, op := Op.alloc 70, type := 0, pos := "l06_point.go:129", after := #[], guard := none }) rfl (fun K hK => ?_) AllReadyH.nil))
    ·skip
     go_simp
     refine (Hq.out _ vP).mono ?_
     rintro e y22 ⟨rfl, hb22⟩
     replace fr := fr.trans (hb22.mono fr.size)
     replace pa := pa.kept hb22
     replace pb := pb.kept hb22
     replace vP := vP.kept hb22
     replace vD := vD.kept hb22
     replace Aq := Aq.kept hb22
     clear hb22
     go_wp2_with fail
     refine hK.out _ _ ⟨arr_range pa, arr_range pb⟩ (fun hHeld => ?_)
     clear hK K
     refine wpAnyH_ready (rs := [6]) (by kernel_rfl) (by simp) (AllReadyH.cons (o := { dst := some 5, op := Op.alloc 70, type := 0, pos := "l06_point.go:129", after := #[], guard := none }) rfl (fun K hK => ?_) AllReadyH.nil)
     go_simp
     obtain ⟨V23, hVe⟩ : ∃ V, V = y22.alloc (.cells #[.int .i64 0, .int .i64 0, .int .i64 0, .int .i64 0, .int .i64 0, .int .i64 0, .int .i64 0, .int .i64 0, .int .i64 0, .int .i64 0, .int .i64 0, .int .i64 0, .int .i64 0, .int .i64 0, .int .i64 0, .int .i64 0] 70) := ⟨_, rfl⟩
     have bV : Below y22.heap.size y22 V23 := by rw [hVe]; exact (Below.refl _ _).alloc (Nat.le_refl _) _
     have Ap : Arr V23 y22.heap.size 70 (I64 Z16) := by rw [hVe]; exact Arr.new _ (I64 Z16) _
     have hXp : w.heap.size < y22.heap.size ∧ (w.heap.size + 1) < y22.heap.size ∧ Xq < y22.heap.size ∧ True := ⟨pa.lt, pb.lt, Aq.lt, trivial⟩
     obtain ⟨Xp, hXe⟩ : ∃ X, X = y22.heap.size := ⟨_, rfl⟩
     replace fr := fr.trans (bV.mono fr.size)
     replace pa := pa.kept bV
     replace pb := pb.kept bV
     replace vP := vP.kept bV
     replace vD := vD.kept bV
     replace Aq := Aq.kept bV
     rw [← hVe]
     rw [← hXe] at Ap hXp ⊢
     clear hVe hXe bV
     refine hK.out _ _ ⟨arr_range pa, arr_range pb⟩ (fun hHeld => ?_)
     clear hK K
     refine wpAnyH_ready (rs := [8]) (by kernel_rfl) (by simp) (AllReadyH.cons (o := qOg0) rfl (fun K hK => ?_) AllReadyH.nil)
     rw [if_pos (by rfl)]
     refine wp_store_mid _ _ _ rfl _ _ (I64 p).toArray rfl rfl (by have := arr_there Ap; simpa [np] using this) jp (all_oneCell_toArray up) ?_
     simp only [Act.put]
     replace fr := bel_sc fr Xp (I64 p) (by omega)
     replace pa := pa.sc Xp (I64 p) (by omega)
     replace pb := pb.sc Xp (I64 p) (by omega)
     replace vP := vP.sc Xp (I64 p) (by omega)
     replace vD := vD.sc Xp (I64 p) (by omega)
     replace Aq := Aq.sc Xp (I64 p) (by omega)
     replace Ap := Ap.sc0 (I64 p) (by simp [np])
     obtain ⟨V24, hVe⟩ : ∃ V, V = V23.setCells Xp 0 (I64 p) := ⟨_, rfl⟩
     rw [← hVe] at fr pa pb vP vD Aq Ap ⊢
     clear hVe
     refine hK.out _ _ ⟨arr_range pa, arr_range pb⟩ (fun hHeld => ?_)
     clear hK K
     refine wpAnyH_ready (rs := [9]) (by kernel_rfl) (by simp) (AllReadyH.cons (o := qOg1) rfl (fun K hK => ?_) AllReadyH.nil)
     rw [if_pos (by rfl)]
     refine wp_store_mid _ _ _ rfl _ _ (I64 q).toArray rfl rfl (by have := arr_there Aq; simpa [nq] using this) jq (all_oneCell_toArray uq) ?_
     simp only [Act.put]
     replace fr := bel_sc fr Xq (I64 q) (by omega)
     replace pa := pa.sc Xq (I64 q) (by omega)
     replace pb := pb.sc Xq (I64 q) (by omega)
     replace vP := vP.sc Xq (I64 q) (by omega)
     replace vD := vD.sc Xq (I64 q) (by omega)
     replace Aq := Aq.sc0 (I64 q) (by simp [nq])
     replace Ap := Ap.sc Xq (I64 q) (by omega)
     obtain ⟨V25, hVe⟩ : ∃ V, V = V24.setCells Xq 0 (I64 q) := ⟨_, rfl⟩
     rw [← hVe] at fr pa pb vP vD Aq Ap ⊢
     clear hVe
     refine hK.out _ _ ⟨arr_range pa, arr_range pb⟩ (fun hHeld => ?_)
     clear hK K
     refine wpAnyH_done (by kernel_rfl) ?_ _
     go_wp2
     go_meet
     case rel => exact ⟨Xp, Xq, rfl, rfl, Ap, Aq, fr, pa, pb, vP, vD, (by omega), (by omega)⟩
    ·skip
     go_simp
     obtain ⟨V26, hVe⟩ : ∃ V, V = V21.alloc (.cells #[.int .i64 0, .int .i64 0, .int .i64 0, .int .i64 0, .int .i64 0, .int .i64 0, .int .i64 0, .int .i64 0, .int .i64 0, .int .i64 0, .int .i64 0, .int .i64 0, .int .i64 0, .int .i64 0, .int .i64 0, .int .i64 0] 70) := ⟨_, rfl⟩
     have bV : Below V21.heap.size V21 V26 := by rw [hVe]; exact (Below.refl _ _).alloc (Nat.le_refl _) _
     have Ap : Arr V26 V21.heap.size 70 (I64 Z16) := by rw [hVe]; exact Arr.new _ (I64 Z16) _
     have hXp : w.heap.size < V21.heap.size ∧ (w.heap.size + 1) < V21.heap.size ∧ Xq < V21.heap.size ∧ True := ⟨pa.lt, pb.lt, Aq.lt, trivial⟩
     obtain ⟨Xp, hXe⟩ : ∃ X, X = V21.heap.size := ⟨_, rfl⟩
     replace fr := fr.trans (bV.mono fr.size)
     replace pa := pa.kept bV
     replace pb := pb.kept bV
     replace vP := vP.kept bV
     replace vD := vD.kept bV
     replace Aq := Aq.kept bV
     rw [← hVe]
     rw [← hXe] at Ap hXp ⊢
     clear hVe hXe bV
     refine hK.out _ _ ⟨arr_range pa, arr_range pb⟩ (fun hHeld => ?_)
     clear hK K
     refine wpAnyH_ready (rs := [5]) (by kernel_rfl) (by simp) (AllReadyH.cons (o := { dst := some 13, op := Op.call { callee := Callee.value (Operand.func 104), args := #[Operand.tmp 11, Operand.tmp 12], argTypes := #[70, 70] }, type := 70, pos := "l06_point.go:129", after := #[{ on := 3, ground := Ground.data }, { on := 4, ground := Ground.data }, { on := 2, ground := Ground.chain }], guard := none }) rfl (fun K hK => ?_) AllReadyH.nil)
     go_simp
     refine (Hq.out _ vP).mono ?_
     rintro e y27 ⟨rfl, hb27⟩
     replace fr := fr.trans (hb27.mono fr.size)
     replace pa := pa.kept hb27
     replace pb := pb.kept hb27
     replace vP := vP.kept hb27
     replace vD := vD.kept hb27
     replace Aq := Aq.kept hb27
     replace Ap := Ap.kept hb27
     clear hb27
     go_wp2_with fail
     refine hK.out _ _ ⟨arr_range pa, arr_range pb⟩ (fun hHeld => ?_)
     clear hK K
     refine wpAnyH_ready (rs := [8]) (by kernel_rfl) (by simp) (AllReadyH.cons (o := qOg0) rfl (fun K hK => ?_) AllReadyH.nil)
     rw [if_pos (by rfl)]
     refine wp_store_mid _ _ _ rfl _ _ (I64 p).toArray rfl rfl (by have := arr_there Ap; simpa [np] using this) jp (all_oneCell_toArray up) ?_
     simp only [Act.put]
     replace fr := bel_sc fr Xp (I64 p) (by omega)
     replace pa := pa.sc Xp (I64 p) (by omega)
     replace pb := pb.sc Xp (I64 p) (by omega)
     replace vP := vP.sc Xp (I64 p) (by omega)
     replace vD := vD.sc Xp (I64 p) (by omega)
     replace Aq := Aq.sc Xp (I64 p) (by omega)
     replace Ap := Ap.sc0 (I64 p) (by simp [np])
     obtain ⟨V28, hVe⟩ : ∃ V, V = y27.setCells Xp 0 (I64 p) := ⟨_, rfl⟩
     rw [← hVe] at fr pa pb vP vD Aq Ap ⊢
     clear hVe
     refine hK.out _ _ ⟨arr_range pa, arr_range pb⟩ (fun hHeld => ?_)
     clear hK K
     refine wpAnyH_ready (rs := [9]) (by kernel_rfl) (by simp) (AllReadyH.cons (o := qOg1) rfl (fun K hK => ?_) AllReadyH.nil)
     rw [if_pos (by rfl)]
     refine wp_store_mid _ _ _ rfl _ _ (I64 q).toArray rfl rfl (by have := arr_there Aq; simpa [nq] using this) jq (all_oneCell_toArray uq) ?_
     simp only [Act.put]
     replace fr := bel_sc fr Xq (I64 q) (by omega)
     replace pa := pa.sc Xq (I64 q) (by omega)
     replace pb := pb.sc Xq (I64 q) (by omega)
     replace vP := vP.sc Xq (I64 q) (by omega)
     replace vD := vD.sc Xq (I64 q) (by omega)
     replace Aq := Aq.sc0 (I64 q) (by simp [nq])
     replace Ap := Ap.sc Xq (I64 q) (by omega)
     obtain ⟨V29, hVe⟩ : ∃ V, V = V28.setCells Xq 0 (I64 q) := ⟨_, rfl⟩
     rw [← hVe] at fr pa pb vP vD Aq Ap ⊢
     clear hVe
     refine hK.out _ _ ⟨arr_range pa, arr_range pb⟩ (fun hHeld => ?_)
     clear hK K
     refine wpAnyH_done (by kernel_rfl) ?_ _
     go_wp2
     go_meet
     case rel => exact ⟨Xp, Xq, rfl, rfl, Ap, Aq, fr, pa, pb, vP, vD, (by omega), (by omega)⟩
  ·skip
   go_simp
   obtain ⟨V30, hVe⟩ : ∃ V, V = D1.alloc (.cells #[.int .i64 0, .int .i64 0, .int .i64 0, .int .i64 0, .int .i64 0, .int .i64 0, .int .i64 0, .int .i64 0, .int .i64 0, .int .i64 0, .int .i64 0, .int .i64 0, .int .i64 0, .int .i64 0, .int .i64 0, .int .i64 0] 70) := ⟨_, rfl⟩
   have bV : Below D1.heap.size D1 V30 := by rw [hVe]; exact (Below.refl _ _).alloc (Nat.le_refl _) _
   have Ap : Arr V30 D1.heap.size 70 (I64 Z16) := by rw [hVe]; exact Arr.new _ (I64 Z16) _
   have hXp : w.heap.size < D1.heap.size ∧ (w.heap.size + 1) < D1.heap.size ∧ True := ⟨pa.lt, pb.lt, trivial⟩
   obtain ⟨Xp, hXe⟩ : ∃ X, X = D1.heap.size := ⟨_, rfl⟩
   replace fr := fr.trans (bV.mono fr.size)
   replace pa := pa.kept bV
   replace pb := pb.kept bV
   replace vP := vP.kept bV
   replace vD := vD.kept bV
   rw [← hVe]
   rw [← hXe] at Ap hXp ⊢
   clear hVe hXe bV
   refine hK.out _ _ ⟨arr_range pa, arr_range pb⟩ (fun hHeld => ?_)
   clear hK K
   refine wpAnyH_ready (rs := [2, 7]) (by kernel_rfl) (by simp) (AllReadyH.cons (o := { dst := some 10, op := Op.call { callee := Callee.value (Operand.func 104), args := #[Operand.tmp 8, Operand.tmp 9], argTypes := #[70, 70] }, type := 70, pos := "l06_point.go:129", after := #[{ on := 0, ground := Ground.data }, { on := 1, ground := Ground.data }], guard := none }) rfl (fun K hK => ?_) (AllReadyH.cons (o := { dst := some 6, op := Op.alloc 70, type := 0, pos := "l06_point.go:129", after := #[], guard := none }) rfl (fun K hK => ?_) AllReadyH.nil))
   ·skip
    go_simp
    refine (Hp.out _ vP).mono ?_
    rintro e y31 ⟨rfl, hb31⟩
    replace fr := fr.trans (hb31.mono fr.size)
    replace pa := pa.kept hb31
    replace pb := pb.kept hb31
    replace vP := vP.kept hb31
    replace vD := vD.kept hb31
    replace Ap := Ap.kept hb31
    clear hb31
    go_wp2_with fail
    refine hK.out _ _ ⟨arr_range pa, arr_range pb⟩ (fun hHeld => ?_)
    clear hK K
    refine wpAnyH_ready (rs := [5, 7]) (by kernel_rfl) (by simp) (AllReadyH.cons (o := { dst := some 13, op := Op.call { callee := Callee.value (Operand.func 104), args := #[Operand.tmp 11, Operand.tmp 12], argTypes := #[70, 70] }, type := 70, pos := "l06_point.go:129", after := #[{ on := 3, ground := Ground.data }, { on := 4, ground := Ground.data }, { on := 2, ground := Ground.chain }], guard := none }) rfl (fun K hK => ?_) (AllReadyH.cons (o := { dst := some 6, op := Op.alloc 70, type := 0, pos := "l06_point.go:129", after := #[], guard := none }) rfl (fun K hK => ?_) AllReadyH.nil))
    ·skip
     go_simp
     refine (Hq.out _ vP).mono ?_
     rintro e y32 ⟨rfl, hb32⟩
     replace fr := fr.trans (hb32.mono fr.size)
     replace pa := pa.kept hb32
     replace pb := pb.kept hb32
     replace vP := vP.kept hb32
     replace vD := vD.kept hb32
     replace Ap := Ap.kept hb32
     clear hb32
     go_wp2_with fail
     refine hK.out _ _ ⟨arr_range pa, arr_range pb⟩ (fun hHeld => ?_)
     clear hK K
     refine wpAnyH_ready (rs := [7]) (by kernel_rfl) (by simp) (AllReadyH.cons (o := { dst := some 6, op := Op.alloc 70, type := 0, pos := "l06_point.go:129", after := #[], guard := none }) rfl (fun K hK => ?_) AllReadyH.nil)
     go_simp
     obtain ⟨V33, hVe⟩ : ∃ V, V = y32.alloc (.cells #[.int .i64 0, .int .i64 0, .int .i64 0, .int .i64 0, .int .i64 0, .int .i64 0, .int .i64 0, .int .i64 0, .int .i64 0, .int .i64 0, .int .i64 0, .int .i64 0, .int .i64 0, .int .i64 0, .int .i64 0, .int .i64 0] 70) := ⟨_, rfl⟩
     have bV : Below y32.heap.size y32 V33 := by rw [hVe]; exact (Below.refl _ _).alloc (Nat.le_refl _) _
     have Aq : Arr V33 y32.heap.size 70 (I64 Z16) := by rw [hVe]; exact Arr.new _ (I64 Z16) _
     have hXq : w.heap.size < y32.heap.size ∧ (w.heap.size + 1) < y32.heap.size ∧ Xp < y32.heap.size ∧ True := ⟨pa.lt, pb.lt, Ap.lt, trivial⟩
     obtain ⟨Xq, hXe⟩ : ∃ X, X = y32.heap.size := ⟨_, rfl⟩
     replace fr := fr.trans (bV.mono fr.size)
     replace pa := pa.kept bV
     replace pb := pb.kept bV
     replace vP := vP.kept bV
     replace vD := vD.kept bV
     replace Ap := Ap.kept bV
     rw [← hVe]
     rw [← hXe] at Aq hXq ⊢
     clear hVe hXe bV
     refine hK.out _ _ ⟨arr_range pa, arr_range pb⟩ (fun hHeld => ?_)
     clear hK K
     refine wpAnyH_ready (rs := [8]) (by kernel_rfl) (by simp) (AllReadyH.cons (o := qOg0) rfl (fun K hK => ?_) AllReadyH.nil)
     rw [if_pos (by rfl)]
     refine wp_store_mid _ _ _ rfl _ _ (I64 p).toArray rfl rfl (by have := arr_there Ap; simpa [np] using this) jp (all_oneCell_toArray up) ?_
     simp only [Act.put]
     replace fr := bel_sc fr Xp (I64 p) (by omega)
     replace pa := pa.sc Xp (I64 p) (by omega)
     replace pb := pb.sc Xp (I64 p) (by omega)
     replace vP := vP.sc Xp (I64 p) (by omega)
     replace vD := vD.sc Xp (I64 p) (by omega)
     replace Ap := Ap.sc0 (I64 p) (by simp [np])
     replace Aq := Aq.sc Xp (I64 p) (by omega)
     obtain ⟨V34, hVe⟩ : ∃ V, V = V33.setCells Xp 0 (I64 p) := ⟨_, rfl⟩
     rw [← hVe] at fr pa pb vP vD Ap Aq ⊢
     clear hVe
     refine hK.out _ _ ⟨arr_range pa, arr_range pb⟩ (fun hHeld => ?_)
     clear hK K
     refine wpAnyH_ready (rs := [9]) (by kernel_rfl) (by simp) (AllReadyH.cons (o := qOg1) rfl (fun K hK => ?_) AllReadyH.nil)
     rw [if_pos (by rfl)]
     refine wp_store_mid _ _ _ rfl _ _ (I64 q).toArray rfl rfl (by have := arr_there Aq; simpa [nq] using this) jq (all_oneCell_toArray uq) ?_
     simp only [Act.put]
     replace fr := bel_sc fr Xq (I64 q) (by omega)
     replace pa := pa.sc Xq (I64 q) (by omega)
     replace pb := pb.sc Xq (I64 q) (by omega)
     replace vP := vP.sc Xq (I64 q) (by omega)
     replace vD := vD.sc Xq (I64 q) (by omega)
     replace Ap := Ap.sc Xq (I64 q) (by omega)
     replace Aq := Aq.sc0 (I64 q) (by simp [nq])
     obtain ⟨V35, hVe⟩ : ∃ V, V = V34.setCells Xq 0 (I64 q) := ⟨_, rfl⟩
     rw [← hVe] at fr pa pb vP vD Ap Aq ⊢
     clear hVe
     refine hK.out _ _ ⟨arr_range pa, arr_range pb⟩ (fun hHeld => ?_)
     clear hK K
     refine wpAnyH_done (by kernel_rfl) ?_ _
     go_wp2
     go_meet
     case rel => exact ⟨Xp, Xq, rfl, rfl, Ap, Aq, fr, pa, pb, vP, vD, (by omega), (by omega)⟩
    ·skip
     go_simp
     obtain ⟨V36, hVe⟩ : ∃ V, V = y31.alloc (.cells #[.int .i64 0, .int .i64 0, .int .i64 0, .int .i64 0, .int .i64 0, .int .i64 0, .int .i64 0, .int .i64 0, .int .i64 0, .int .i64 0, .int .i64 0, .int .i64 0, .int .i64 0, .int .i64 0, .int .i64 0, .int .i64 0] 70) := ⟨_, rfl⟩
     have bV : Below y31.heap.size y31 V36 := by rw [hVe]; exact (Below.refl _ _).alloc (Nat.le_refl _) _
     have Aq : Arr V36 y31.heap.size 70 (I64 Z16) := by rw [hVe]; exact Arr.new _ (I64 Z16) _
     have hXq : w.heap.size < y31.heap.size ∧ (w.heap.size + 1) < y31.heap.size ∧ Xp < y31.heap.size ∧ True := ⟨pa.lt, pb.lt, Ap.lt, trivial⟩
     obtain ⟨Xq, hXe⟩ : ∃ X, X = y31.heap.size := ⟨_, rfl⟩
     replace fr := fr.trans (bV.mono fr.size)
     replace pa := pa.kept bV
     replace pb := pb.kept bV
     replace vP := vP.kept bV
     replace vD := vD.kept bV
     replace Ap := Ap.kept bV
     rw [← hVe]
     rw [← hXe] at Aq hXq ⊢
     clear hVe hXe bV
     refine hK.out _ _ ⟨arr_range pa, arr_range pb⟩ (fun hHeld => ?_)
     clear hK K
     refine wpAnyH_ready (rs := [5]) (by kernel_rfl) (by simp) (AllReadyH.cons (o := { dst := some 13, op := Op.call { callee := Callee.value (Operand.func 104), args := #[Operand.tmp 11, Operand.tmp 12], argTypes := #[70, 70] }, type := 70, pos := "l06_point.go:129", after := #[{ on := 3, ground := Ground.data }, { on := 4, ground := Ground.data }, { on := 2, ground := Ground.chain }], guard := none }) rfl (fun K hK => ?_) AllReadyH.nil)
     go_simp
     refine (Hq.out _ vP).mono ?_
     rintro e y37 ⟨rfl, hb37⟩
     replace fr := fr.trans (hb37.mono fr.size)
     replace pa := pa.kept hb37
     replace pb := pb.kept hb37
     replace vP := vP.kept hb37
     replace vD := vD.kept hb37
     replace Ap := Ap.kept hb37
     replace Aq := Aq.kept hb37
     clear hb37
     go_wp2_with fail
     refine hK.out _ _ ⟨arr_range pa, arr_range pb⟩ (fun hHeld => ?_)
     clear hK K
     refine wpAnyH_ready (rs := [8]) (by kernel_rfl) (by simp) (AllReadyH.cons (o := qOg0) rfl (fun K hK => ?_) AllReadyH.nil)
     rw [if_pos (by rfl)]
     refine wp_store_mid _ _ _ rfl _ _ (I64 p).toArray rfl rfl (by have := arr_there Ap; simpa [np] using this) jp (all_oneCell_toArray up) ?_
     simp only [Act.put]
     replace fr := bel_sc fr Xp (I64 p) (by omega)
     replace pa := pa.sc Xp (I64 p) (by omega)
     replace pb := pb.sc Xp (I64 p) (by omega)
     replace vP := vP.sc Xp (I64 p) (by omega)
     replace vD := vD.sc Xp (I64 p) (by omega)
     replace Ap := Ap.sc0 (I64 p) (by simp [np])
     replace Aq := Aq.sc Xp (I64 p) (by omega)
     obtain ⟨V38, hVe⟩ : ∃ V, V = y37.setCells Xp 0 (I64 p) := ⟨_, rfl⟩
     rw [← hVe] at fr pa pb vP vD Ap Aq ⊢
     clear hVe
     refine hK.out _ _ ⟨arr_range pa, arr_range pb⟩ (fun hHeld => ?_)
     clear hK K
     refine wpAnyH_ready (rs := [9]) (by kernel_rfl) (by simp) (AllReadyH.cons (o := qOg1) rfl (fun K hK => ?_) AllReadyH.nil)
     rw [if_pos (by rfl)]
     refine wp_store_mid _ _ _ rfl _ _ (I64 q).toArray rfl rfl (by have := arr_there Aq; simpa [nq] using this) jq (all_oneCell_toArray uq) ?_
     simp only [Act.put]
     replace fr := bel_sc fr Xq (I64 q) (by omega)
     replace pa := pa.sc Xq (I64 q) (by omega)
     replace pb := pb.sc Xq (I64 q) (by omega)
     replace vP := vP.sc Xq (I64 q) (by omega)
     replace vD := vD.sc Xq (I64 q) (by omega)
     replace Ap := Ap.sc Xq (I64 q) (by omega)
     replace Aq := Aq.sc0 (I64 q) (by simp [nq])
     obtain ⟨V39, hVe⟩ : ∃ V, V = V38.setCells Xq 0 (I64 q) := ⟨_, rfl⟩
     rw [← hVe] at fr pa pb vP vD Ap Aq ⊢
     clear hVe
     refine hK.out _ _ ⟨arr_range pa, arr_range pb⟩ (fun hHeld => ?_)
     clear hK K
     refine wpAnyH_done (by kernel_rfl) ?_ _
     go_wp2
     go_meet
     case rel => exact ⟨Xp, Xq, rfl, rfl, Ap, Aq, fr, pa, pb, vP, vD, (by omega), (by omega)⟩
   ·skip
    go_simp
    obtain ⟨V40, hVe⟩ : ∃ V, V = V30.alloc (.cells #[.int .i64 0, .int .i64 0, .int .i64 0, .int .i64 0, .int .i64 0, .int .i64 0, .int .i64 0, .int .i64 0, .int .i64 0, .int .i64 0, .int .i64 0, .int .i64 0, .int .i64 0, .int .i64 0, .int .i64 0, .int .i64 0] 70) := ⟨_, rfl⟩
    have bV : Below V30.heap.size V30 V40 := by rw [hVe]; exact (Below.refl _ _).alloc (Nat.le_refl _) _
    have Aq : Arr V40 V30.heap.size 70 (I64 Z16) := by rw [hVe]; exact Arr.new _ (I64 Z16) _
    have hXq : w.heap.size < V30.heap.size ∧ (w.heap.size + 1) < V30.heap.size ∧ Xp < V30.heap.size ∧ True := ⟨pa.lt, pb.lt, Ap.lt, trivial⟩
    obtain ⟨Xq, hXe⟩ : ∃ X, X = V30.heap.size := ⟨_, rfl⟩
    replace fr := fr.trans (bV.mono fr.size)
    replace pa := pa.kept bV
    replace pb := pb.kept bV
    replace vP := vP.kept bV
    replace vD := vD.kept bV
    replace Ap := Ap.kept bV
    rw [← hVe]
    rw [← hXe] at Aq hXq ⊢
    clear hVe hXe bV
    refine hK.out _ _ ⟨arr_range pa, arr_range pb⟩ (fun hHeld => ?_)
    clear hK K
    refine wpAnyH_ready (rs := [2]) (by kernel_rfl) (by simp) (AllReadyH.cons (o := { dst := some 10, op := Op.call { callee := Callee.value (Operand.func 104), args := #[Operand.tmp 8, Operand.tmp 9], argTypes := #[70, 70] }, type := 70, pos := "l06_point.go:129", after := #[{ on := 0, ground := Ground.data }, { on := 1, ground := Ground.data }], guard := none }) rfl (fun K hK => ?_) AllReadyH.nil)
    go_simp
    refine (Hp.out _ vP).mono ?_
    rintro e y41 ⟨rfl, hb41⟩
    replace fr := fr.trans (hb41.mono fr.size)
    replace pa := pa.kept hb41
    replace pb := pb.kept hb41
    replace vP := vP.kept hb41
    replace vD := vD.kept hb41
    replace Ap := Ap.kept hb41
    replace Aq := Aq.kept hb41
    clear hb41
    go_wp2_with fail
    refine hK.out _ _ ⟨arr_range pa, arr_range pb⟩ (fun hHeld => ?_)
    clear hK K
    refine wpAnyH_ready (rs := [5]) (by kernel_rfl) (by simp) (AllReadyH.cons (o := { dst := some 13, op := Op.call { callee := Callee.value (Operand.func 104), args := #[Operand.tmp 11, Operand.tmp 12], argTypes := #[70, 70] }, type := 70, pos := "l06_point.go:129", after := #[{ on := 3, ground := Ground.data }, { on := 4, ground := Ground.data }, { on := 2, ground := Ground.chain }], guard := none }) rfl (fun K hK => ?_) AllReadyH.nil)
    go_simp
    refine (Hq.out _ vP).mono ?_
    rintro e y42 ⟨rfl, hb42⟩
    replace fr := fr.trans (hb42.mono fr.size)
    replace pa := pa.kept hb42
    replace pb := pb.kept hb42
    replace vP := vP.kept hb42
    replace vD := vD.kept hb42
    replace Ap := Ap.kept hb42
    replace Aq := Aq.kept hb42
    clear hb42
    go_wp2_with fail
    refine hK.out _ _ ⟨arr_range pa, arr_range pb⟩ (fun hHeld => ?_)
    clear hK K
    refine wpAnyH_ready (rs := [8]) (by kernel_rfl) (by simp) (AllReadyH.cons (o := qOg0) rfl (fun K hK => ?_) AllReadyH.nil)
    rw [if_pos (by rfl)]
    refine wp_store_mid _ _ _ rfl _ _ (I64 p).toArray rfl rfl (by have := arr_there Ap; simpa [np] using this) jp (all_oneCell_toArray up) ?_
    simp only [Act.put]
    replace fr := bel_sc fr Xp (I64 p) (by omega)
    replace pa := pa.sc Xp (I64 p) (by omega)
    replace pb := pb.sc Xp (I64 p) (by omega)
    replace vP := vP.sc Xp (I64 p) (by omega)
    replace vD := vD.sc Xp (I64 p) (by omega)
    replace Ap := Ap.sc0 (I64 p) (by simp [np])
    replace Aq := Aq.sc Xp (I64 p) (by omega)
    obtain ⟨V43, hVe⟩ : ∃ V, V = y42.setCells Xp 0 (I64 p) := ⟨_, rfl⟩
    rw [← hVe] at fr pa pb vP vD Ap Aq ⊢
    clear hVe
    refine hK.out _ _ ⟨arr_range pa, arr_range pb⟩ (fun hHeld => ?_)
    clear hK K
    refine wpAnyH_ready (rs := [9]) (by kernel_rfl) (by simp) (AllReadyH.cons (o := qOg1) rfl (fun K hK => ?_) AllReadyH.nil)
    rw [if_pos (by rfl)]
    refine wp_store_mid _ _ _ rfl _ _ (I64 q).toArray rfl rfl (by have := arr_there Aq; simpa [nq] using this) jq (all_oneCell_toArray uq) ?_
    simp only [Act.put]
    replace fr := bel_sc fr Xq (I64 q) (by omega)
    replace pa := pa.sc Xq (I64 q) (by omega)
    replace pb := pb.sc Xq (I64 q) (by omega)
    replace vP := vP.sc Xq (I64 q) (by omega)
    replace vD := vD.sc Xq (I64 q) (by omega)
    replace Ap := Ap.sc Xq (I64 q) (by omega)
    replace Aq := Aq.sc0 (I64 q) (by simp [nq])
    obtain ⟨V44, hVe⟩ : ∃ V, V = V43.setCells Xq 0 (I64 q) := ⟨_, rfl⟩
    rw [← hVe] at fr pa pb vP vD Ap Aq ⊢
    clear hVe
    refine hK.out _ _ ⟨arr_range pa, arr_range pb⟩ (fun hHeld => ?_)
    clear hK K
    refine wpAnyH_done (by kernel_rfl) ?_ _
    go_wp2
    go_meet
    case rel => exact ⟨Xp, Xq, rfl, rfl, Ap, Aq, fr, pa, pb, vP, vD, (by omega), (by omega)⟩
  ·skip
   go_simp
   obtain ⟨V45, hVe⟩ : ∃ V, V = D1.alloc (.cells #[.int .i64 0, .int .i64 0, .int .i64 0, .int .i64 0, .int .i64 0, .int .i64 0, .int .i64 0, .int .i64 0, .int .i64 0, .int .i64 0, .int .i64 0, .int .i64 0, .int .i64 0, .int .i64 0, .int .i64 0, .int .i64 0] 70) := ⟨_, rfl⟩
   have bV : Below D1.heap.size D1 V45 := by rw [hVe]; exact (Below.refl _ _).alloc (Nat.le_refl _) _
   have Aq : Arr V45 D1.heap.size 70 (I64 Z16) := by rw [hVe]; exact Arr.new _ (I64 Z16) _
   have hXq : w.heap.size < D1.heap.size ∧ (w.heap.size + 1) < D1.heap.size ∧ True := ⟨pa.lt, pb.lt, trivial⟩
   obtain ⟨Xq, hXe⟩ : ∃ X, X = D1.heap.size := ⟨_, rfl⟩
   replace fr := fr.trans (bV.mono fr.size)
   replace pa := pa.kept bV
   replace pb := pb.kept bV
   replace vP := vP.kept bV
   replace vD := vD.kept bV
   rw [← hVe]
   rw [← hXe] at Aq hXq ⊢
   clear hVe hXe bV
   refine hK.out _ _ ⟨arr_range pa, arr_range pb⟩ (fun hHeld => ?_)
   clear hK K
   refine wpAnyH_ready (rs := [2, 6]) (by kernel_rfl) (by simp) (AllReadyH.cons (o := { dst := some 10, op := Op.call { callee := Callee.value (Operand.func 104), args := #[Operand.tmp 8, Operand.tmp 9], argTypes := #[70, 70] }, type := 70, pos := "l06_point.go:129", after := #[{ on := 0, ground := Ground.data }, { on := 1, ground := Ground.data }], guard := none }) rfl (fun K hK => ?_) (AllReadyH.cons (o := { dst := some 5, op := Op.alloc 70, type := 0, pos := "l06_point.go:129", after := #[], guard := none }) rfl (fun K hK => ?_) AllReadyH.nil))
   ·skip
    go_simp
    refine (Hp.out _ vP).mono ?_
    rintro e y46 ⟨rfl, hb46⟩
    replace fr := fr.trans (hb46.mono fr.size)
    replace pa := pa.kept hb46
    replace pb := pb.kept hb46
    replace vP := vP.kept hb46
    replace vD := vD.kept hb46
    replace Aq := Aq.kept hb46
    clear hb46
    go_wp2_with fail
    refine hK.out _ _ ⟨arr_range pa, arr_range pb⟩ (fun hHeld => ?_)
    clear hK K
    refine wpAnyH_ready (rs := [5, 6]) (by kernel_rfl) (by simp) (AllReadyH.cons (o := { dst := some 13, op := Op.call { callee := Callee.value (Operand.func 104), args := #[Operand.tmp 11, Operand.tmp 12], argTypes := #[70, 70] }, type := 70, pos := "l06_point.go:129", after := #[{ on := 3, ground := Ground.data }, { on := 4, ground := Ground.data }, { on := 2, ground := Ground.chain }], guard := none }) rfl (fun K hK => ?_) (AllReadyH.cons (o := { dst := some 5, op := Op.alloc 70, type := 0, pos := "l06_point.go:129", after := #[], guard := none }) rfl (fun K hK => ?_) AllReadyH.nil))
    ·skip
     go_simp
     refine (Hq.out _ vP).mono ?_
     rintro e y47 ⟨rfl, hb47⟩
     replace fr := fr.trans (hb47.mono fr.size)
     replace pa := pa.kept hb47
     replace pb := pb.kept hb47
     replace vP := vP.kept hb47
     replace vD := vD.kept hb47
     replace Aq := Aq.kept hb47
     clear hb47
     go_wp2_with fail
     refine hK.out _ _ ⟨arr_range pa, arr_range pb⟩ (fun hHeld => ?_)
     clear hK K
     refine wpAnyH_ready (rs := [6]) (by kernel_rfl) (by simp) (AllReadyH.cons (o := { dst := some 5, op := Op.alloc 70, type := 0, pos := "l06_point.go:129", after := #[], guard := none }) rfl (fun K hK => ?_) AllReadyH.nil)
     go_simp
     obtain ⟨V48, hVe⟩ : ∃ V, V = y47.alloc (.cells #[.int .i64 0, .int .i64 0, .int .i64 0, .int .i64 0, .int .i64 0, .int .i64 0, .int .i64 0, .int .i64 0, .int .i64 0, .int .i64 0, .int .i64 0, .int .i64 0, .int .i64 0, .int .i64 0, .int .i64 0, .int .i64 0] 70) := ⟨_, rfl⟩
     have bV : Below y47.heap.size y47 V48 := by rw [hVe]; exact (Below.refl _ _).alloc (Nat.le_refl _) _
     have Ap : Arr V48 y47.heap.size 70 (I64 Z16) := by rw [hVe]; exact Arr.new _ (I64 Z16) _
     have hXp : w.heap.size < y47.heap.size ∧ (w.heap.size + 1) < y47.heap.size ∧ Xq < y47.heap.size ∧ True := ⟨pa.lt, pb.lt, Aq.lt, trivial⟩
     obtain ⟨Xp, hXe⟩ : ∃ X, X = y47.heap.size := ⟨_, rfl⟩
     replace fr := fr.trans (bV.mono fr.size)
     replace pa := pa.kept bV
     replace pb := pb.kept bV
     replace vP := vP.kept bV
     replace vD := vD.kept bV
     replace Aq := Aq.kept bV
     rw [← hVe]
     rw [← hXe] at Ap hXp ⊢
     clear hVe hXe bV
     refine hK.out _ _ ⟨arr_range pa, arr_range pb⟩ (fun hHeld => ?_)
     clear hK K
     refine wpAnyH_ready (rs := [8]) (by kernel_rfl) (by simp) (AllReadyH.cons (o := qOg0) rfl (fun K hK => ?_) AllReadyH.nil)
     rw [if_pos (by rfl)]
     refine wp_store_mid _ _ _ rfl _ _ (I64 p).toArray rfl rfl (by have := arr_there Ap; simpa [np] using this) jp (all_oneCell_toArray up) ?_
     simp only [Act.put]
     replace fr := bel_sc fr Xp (I64 p) (by omega)
     replace pa := pa.sc Xp (I64 p) (by omega)
     replace pb := pb.sc Xp (I64 p) (by omega)
     replace vP := vP.sc Xp (I64 p) (by omega)
     replace vD := vD.sc Xp (I64 p) (by omega)
     replace Aq := Aq.sc Xp (I64 p) (by omega)
     replace Ap := Ap.sc0 (I64 p) (by simp [np])
     obtain ⟨V49, hVe⟩ : ∃ V, V = V48.setCells Xp 0 (I64 p) := ⟨_, rfl⟩
     rw [← hVe] at fr pa pb vP vD Aq Ap ⊢
     clear hVe
     refine hK.out _ _ ⟨arr_range pa, arr_range pb⟩ (fun hHeld => ?_)
     clear hK K
     refine wpAnyH_ready (rs := [9]) (by kernel_rfl) (by simp) (AllReadyH.cons (o := qOg1) rfl (fun K hK => ?_) AllReadyH.nil)
     rw [if_pos (by rfl)]
     refine wp_store_mid _ _ _ rfl _ _ (I64 q).toArray rfl rfl (by have := arr_there Aq; simpa [nq] using this) jq (all_oneCell_toArray uq) ?_
     simp only [Act.put]
     replace fr := bel_sc fr Xq (I64 q) (by omega)
     replace pa := pa.sc Xq (I64 q) (by omega)
     replace pb := pb.sc Xq (I64 q) (by omega)
     replace vP := vP.sc Xq (I64 q) (by omega)
     replace vD := vD.sc Xq (I64 q) (by omega)
     replace Aq := Aq.sc0 (I64 q) (by simp [nq])
     replace Ap := Ap.sc Xq (I64 q) (by omega)
     obtain ⟨V50, hVe⟩ : ∃ V, V = V49.setCells Xq 0 (I64 q) := ⟨_, rfl⟩
     rw [← hVe] at fr pa pb vP vD Aq Ap ⊢
     clear hVe
     refine hK.out _ _ ⟨arr_range pa, arr_range pb⟩ (fun hHeld => ?_)
     clear hK K
     refine wpAnyH_done (by kernel_rfl) ?_ _
     go_wp2
     go_meet
     case rel => exact ⟨Xp, Xq, rfl, rfl, Ap, Aq, fr, pa, pb, vP, vD, (by omega), (by omega)⟩
    ·skip
     go_simp
     obtain ⟨V51, hVe⟩ : ∃ V, V = y46.alloc (.cells #[.int .i64 0, .int .i64 0, .int .i64 0, .int .i64 0, .int .i64 0, .int .i64 0, .int .i64 0, .int .i64 0, .int .i64 0, .int .i64 0, .int .i64 0, .int .i64 0, .int .i64 0, .int .i64 0, .int .i64 0, .int .i64 0] 70) := ⟨_, rfl⟩
     have bV : Below y46.heap.size y46 V51 := by rw [hVe]; exact (Below.refl _ _).alloc (Nat.le_refl _) _
     have Ap : Arr V51 y46.heap.size 70 (I64 Z16) := by rw [hVe]; exact Arr.new _ (I64 Z16) _
     have hXp : w.heap.size < y46.heap.size ∧ (w.heap.size + 1) < y46.heap.size ∧ Xq < y46.heap.size ∧ True := ⟨pa.lt, pb.lt, Aq.lt, trivial⟩
     obtain ⟨Xp, hXe⟩ : ∃ X, X = y46.heap.size := ⟨_, rfl⟩
     replace fr := fr.trans (bV.mono fr.size)
     replace pa := pa.kept bV
     replace pb := pb.kept bV
     replace vP := vP.kept bV
     replace vD := vD.kept bV
     replace Aq := Aq.kept bV
     rw [← hVe]
     rw [← hXe] at Ap hXp ⊢
     clear hVe hXe bV
     refine hK.out _ _ ⟨arr_range pa, arr_range pb⟩ (fun hHeld => ?_)
     clear hK K
     refine wpAnyH_ready (rs := [5]) (by kernel_rfl) (by simp) (AllReadyH.cons (o := { dst := some 13, op := Op.call { callee := Callee.value (Operand.func 104), args := #[Operand.tmp 11, Operand.tmp 12], argTypes := #[70, 70] }, type := 70, pos := "l06_point.go:129", after := #[{ on := 3, ground := Ground.data }, { on := 4, ground := Ground.data }, { on := 2, ground := Ground.chain }], guard := none }) rfl (fun K hK => ?_) AllReadyH.nil)
     go_simp
     refine (Hq.out _ vP).mono ?_
     rintro e y52 ⟨rfl, hb52⟩
     replace fr := fr.trans (hb52.mono fr.size)
     replace pa := pa.kept hb52
     replace pb := pb.kept hb52
     replace vP := vP.kept hb52
     replace vD := vD.kept hb52
     replace Aq := Aq.kept hb52
     replace Ap := Ap.kept hb52
     clear hb52
     go_wp2_with fail
     refine hK.out _ _ ⟨arr_range pa, arr_range pb⟩ (fun hHeld => ?_)
     clear hK K
     refine wpAnyH_ready (rs := [8]) (by kernel_rfl) (by simp) (AllReadyH.cons (o := qOg0) rfl (fun K hK => ?_) AllReadyH.nil)
     rw [if_pos (by rfl)]
     refine wp_store_mid _ _ _ rfl _ _ (I64 p).toArray rfl rfl (by have := arr_there Ap; simpa [np] using this) jp (all_oneCell_toArray up) ?_
     simp only [Act.put]
     replace fr := bel_sc fr Xp (I64 p) (by omega)
     replace pa := pa.sc Xp (I64 p) (by omega)
     replace pb := pb.sc Xp (I64 p) (by omega)
     replace vP := vP.sc Xp (I64 p) (by omega)
     replace vD := vD.sc Xp (I64 p) (by omega)
     replace Aq := Aq.sc Xp (I64 p) (by omega)
     replace Ap := Ap.sc0 (I64 p) (by simp [np])
     obtain ⟨V53, hVe⟩ : ∃ V, V = y52.setCells Xp 0 (I64 p) := ⟨_, rfl⟩
     rw [← hVe] at fr pa pb vP vD Aq Ap ⊢
     clear hVe
     refine hK.out _ _ ⟨arr_range pa, arr_range pb⟩ (fun hHeld => ?_)
     clear hK K
     refine wpAnyH_ready (rs := [9]) (by kernel_rfl) (by simp) (AllReadyH.cons (o := qOg1) rfl (fun K hK => ?_) AllReadyH.nil)
     rw [if_pos (by rfl)]
     refine wp_store_mid _ _ _ rfl _ _ (I64 q).toArray rfl rfl (by have := arr_there Aq; simpa [nq] using this) jq (all_oneCell_toArray uq) ?_
     simp only [Act.put]
     replace fr := bel_sc fr Xq (I64 q) (by omega)
     replace pa := pa.sc Xq (I64 q) (by omega)
     replace pb := pb.sc Xq (I64 q) (by omega)
     replace vP := vP.sc Xq (I64 q) (by omega)
     replace vD := vD.sc Xq (I64 q) (by omega)
     replace Aq := Aq.sc0 (I64 q) (by simp [nq])
     replace Ap := Ap.sc Xq (I64 q) (by omega)
     obtain ⟨V54, hVe⟩ : ∃ V, V = V53.setCells Xq 0 (I64 q) := ⟨_, rfl⟩
     rw [← hVe] at fr pa pb vP vD Aq Ap ⊢
     clear hVe
     refine hK.out _ _ ⟨arr_range pa, arr_range pb⟩ (fun hHeld => ?_)
     clear hK K
     refine wpAnyH_done (by kernel_rfl) ?_ _
     go_wp2
     go_meet
     case rel => exact ⟨Xp, Xq, rfl, rfl, Ap, Aq, fr, pa, pb, vP, vD, (by omega), (by omega)⟩
   ·skip
    go_simp
    obtain ⟨V55, hVe⟩ : ∃ V, V = V45.alloc (.cells #[.int .i64 0, .int .i64 0, .int .i64 0, .int .i64 0, .int .i64 0, .int .i64 0, .int .i64 0, .int .i64 0, .int .i64 0, .int .i64 0, .int .i64 0, .int .i64 0, .int .i64 0, .int .i64 0, .int .i64 0, .int .i64 0] 70) := ⟨_, rfl⟩
    have bV : Below V45.heap.size V45 V55 := by rw [hVe]; exact (Below.refl _ _).alloc (Nat.le_refl _) _
    have Ap : Arr V55 V45.heap.size 70 (I64 Z16) := by rw [hVe]; exact Arr.new _ (I64 Z16) _
    have hXp : w.heap.size < V45.heap.size ∧ (w.heap.size + 1) < V45.heap.size ∧ Xq < V45.heap.size ∧ True := ⟨pa.lt, pb.lt, Aq.lt, trivial⟩
    obtain ⟨Xp, hXe⟩ : ∃ X, X = V45.heap.size := ⟨_, rfl⟩
    replace fr := fr.trans (bV.mono fr.size)
    replace pa := pa.kept bV
    replace pb := pb.kept bV
    replace vP := vP.kept bV
    replace vD := vD.kept bV
    replace Aq := Aq.kept bV
    rw [← hVe]
    rw [← hXe] at Ap hXp ⊢
    clear hVe hXe bV
    refine hK.out _ _ ⟨arr_range pa, arr_range pb⟩ (fun hHeld => ?_)
    clear hK K
    refine wpAnyH_ready (rs := [2]) (by kernel_rfl) (by simp) (AllReadyH.cons (o := { dst := some 10, op := Op.call { callee := Callee.value (Operand.func 104), args := #[Operand.tmp 8, Operand.tmp 9], argTypes := #[70, 70] }, type := 70, pos := "l06_point.go:129", after := #[{ on := 0, ground := Ground.data }, { on := 1, ground := Ground.data }], guard := none }) rfl (fun K hK => ?_) AllReadyH.nil)
    go_simp
    refine (Hp.out _ vP).mono ?_
    rintro e y56 ⟨rfl, hb56⟩
    replace fr := fr.trans (hb56.mono fr.size)
    replace pa := pa.kept hb56
    replace pb := pb.kept hb56
    replace vP := vP.kept hb56
    replace vD := vD.kept hb56
    replace Aq := Aq.kept hb56
    replace Ap := Ap.kept hb56
    clear hb56
    go_wp2_with fail
    refine hK.out _ _ ⟨arr_range pa, arr_range pb⟩ (fun hHeld => ?_)
    clear hK K
    refine wpAnyH_ready (rs := [5]) (by kernel_rfl) (by simp) (AllReadyH.cons (o := { dst := some 13, op := Op.call { callee := Callee.value (Operand.func 104), args := #[Operand.tmp 11, Operand.tmp 12], argTypes := #[70, 70] }, type := 70, pos := "l06_point.go:129", after := #[{ on := 3, ground := Ground.data }, { on := 4, ground := Ground.data }, { on := 2, ground := Ground.chain }], guard := none }) rfl (fun K hK => ?_) AllReadyH.nil)
    go_simp
    refine (Hq.out _ vP).mono ?_
    rintro e y57 ⟨rfl, hb57⟩
    replace fr := fr.trans (hb57.mono fr.size)
    replace pa := pa.kept hb57
    replace pb := pb.kept hb57
    replace vP := vP.kept hb57
    replace vD := vD.kept hb57
    replace Aq := Aq.kept hb57
    replace Ap := Ap.kept hb57
    clear hb57
    go_wp2_with fail
    refine hK.out _ _ ⟨arr_range pa, arr_range pb⟩ (fun hHeld => ?_)
    clear hK K
    refine wpAnyH_ready (rs := [8]) (by kernel_rfl) (by simp) (AllReadyH.cons (o := qOg0) rfl (fun K hK => ?_) AllReadyH.nil)
    rw [if_pos (by rfl)]
    refine wp_store_mid _ _ _ rfl _ _ (I64 p).toArray rfl rfl (by have := arr_there Ap; simpa [np] using this) jp (all_oneCell_toArray up) ?_
    simp only [Act.put]
    replace fr := bel_sc fr Xp (I64 p) (by omega)
    replace pa := pa.sc Xp (I64 p) (by omega)
    replace pb := pb.sc Xp (I64 p) (by omega)
    replace vP := vP.sc Xp (I64 p) (by omega)
    replace vD := vD.sc Xp (I64 p) (by omega)
    replace Aq := Aq.sc Xp (I64 p) (by omega)
    replace Ap := Ap.sc0 (I64 p) (by simp [np])
    obtain ⟨V58, hVe⟩ : ∃ V, V = y57.setCells Xp 0 (I64 p) := ⟨_, rfl⟩
    rw [← hVe] at fr pa pb vP vD Aq Ap ⊢
    clear hVe
    refine hK.out _ _ ⟨arr_range pa, arr_range pb⟩ (fun hHeld => ?_)
    clear hK K
    refine wpAnyH_ready (rs := [9]) (by kernel_rfl) (by simp) (AllReadyH.cons (o := qOg1) rfl (fun K hK => ?_) AllReadyH.nil)
    rw [if_pos (by rfl)]
    refine wp_store_mid _ _ _ rfl _ _ (I64 q).toArray rfl rfl (by have := arr_there Aq; simpa [nq] using this) jq (all_oneCell_toArray uq) ?_
    simp only [Act.put]
    replace fr := bel_sc fr Xq (I64 q) (by omega)
    replace pa := pa.sc Xq (I64 q) (by omega)
    replace pb := pb.sc Xq (I64 q) (by omega)
    replace vP := vP.sc Xq (I64 q) (by omega)
    replace vD := vD.sc Xq (I64 q) (by omega)
    replace Aq := Aq.sc0 (I64 q) (by simp [nq])
    replace Ap := Ap.sc Xq (I64 q) (by omega)
    obtain ⟨V59, hVe⟩ : ∃ V, V = V58.setCells Xq 0 (I64 q) := ⟨_, rfl⟩
    rw [← hVe] at fr pa pb vP vD Aq Ap ⊢
    clear hVe
    refine hK.out _ _ ⟨arr_range pa, arr_range pb⟩ (fun hHeld => ?_)
    clear hK K
    refine wpAnyH_done (by kernel_rfl) ?_ _
    go_wp2
    go_meet
    case rel => exact ⟨Xp, Xq, rfl, rfl, Ap, Aq, fr, pa, pb, vP, vD, (by omega), (by omega)⟩
 case rest =>
  clear fr pa pb vP vD
  obtain ⟨Xp, Xq, rfl, rfl, Ap, Aq, fr, pa, pb, vP, vD, hq0, hq1⟩ := hcut
  obtain ⟨C60, hwc⟩ : ∃ V, V = wc := ⟨_, rfl⟩
  rw [← hwc] at fr pa pb vP vD Ap Aq ⊢
  clear hwc
  go_wp2
  clear pa
  clear pb
  try simp only [Act.put]
  go_cut [7] from 8 (fun s7 wc => ∃ (Xt : Nat), s7 = .pointer (some ⟨Xt, 0, none⟩) ∧ Arr wc Xt 70 (I64 t) ∧ Below w.heap.size w wc ∧ Vr wc 4 (I64 PL) ∧ Vr wc 2 (I64 DL) ∧ Arr wc Xp 70 (I64 p) ∧ Arr wc Xq 70 (I64 q))
  case first =>
   have bD : Below C60.heap.size C60 C60.drew := (Below.refl _ _).drew
   replace fr := fr.trans (bD.mono fr.size)
   replace vP := vP.kept bD
   replace vD := vD.kept bD
   replace Ap := Ap.kept bD
   replace Aq := Aq.kept bD
   clear bD
   refine wp_region_held_drew (S := fun W => W.rangeAt 2 0 (I64 DL) ∧ W.rangeAt Xp 0 (I64 p) ∧ W.rangeAt Xq 0 (I64 q)) (by kernel_rfl) ⟨vr_range vD, arr_range Ap, arr_range Aq⟩ (fun hHeld => ?_)
   obtain ⟨D61, hD⟩ : ∃ V, V = C60.drew := ⟨_, rfl⟩
   rw [← hD] at hHeld fr vP vD Ap Aq ⊢
   clear hD
   refine wpAnyH_take (i := 0) (oi := { dst := some 14, op := Op.load 70 (Operand.global 2), type := 70, pos := "l06_point.go:130", after := #[], guard := none }) (v := _) rfl (by kernel_rfl) (by kernel_rfl) (by kernel_rfl) (fun _ _ _ h => h) (yieldsIf_load_mid (by rfl) _ _ rfl _ _ rfl (I64 DL) _ (fun _ h => h.1) hu rfl iDL) (by assumption) ?_
   simp only [Act.put, List.setIfInBounds_toArray, List.set_cons_zero, List.set_cons_succ]
   refine wpAnyH_take (i := 1) (oi := { dst := some 15, op := Op.load 70 (Operand.tmp 5), type := 70, pos := "l06_point.go:130", after := #[], guard := none }) (v := _) rfl (by kernel_rfl) (by kernel_rfl) (by kernel_rfl) (fun _ _ _ h => h) (yieldsIf_load_mid (by rfl) _ _ rfl _ _ rfl (I64 p) _ (fun _ h => h.2.1) hu rfl iip) (by assumption) ?_
   simp only [Act.put, List.setIfInBounds_toArray, List.set_cons_zero, List.set_cons_succ]
   refine wpAnyH_take (i := 2) (oi := { dst := some 16, op := Op.load 70 (Operand.tmp 6), type := 70, pos := "l06_point.go:130", after := #[], guard := none }) (v := _) rfl (by kernel_rfl) (by kernel_rfl) (by kernel_rfl) (fun _ _ _ h => h) (yieldsIf_load_mid (by rfl) _ _ rfl _ _ rfl (I64 q) _ (fun _ h => h.2.2) hu rfl iiq) (by assumption) ?_
   simp only [Act.put, List.setIfInBounds_toArray, List.set_cons_zero, List.set_cons_succ]
   refine wpAnyH_ready (rs := [3, 5]) (by kernel_rfl) (by simp) (AllReadyH.cons (o := { dst := some 17, op := Op.call { callee := Callee.value (Operand.func 104), args := #[Operand.tmp 15, Operand.tmp 16], argTypes := #[70, 70] }, type := 70, pos := "l06_point.go:130", after := #[{ on := 1, ground := Ground.data }, { on := 2, ground := Ground.data }], guard := none }) rfl (fun K hK => ?_) (AllReadyH.cons (o := { dst := some 7, op := Op.alloc 70, type := 0, pos := "l06_point.go:130", after := #[], guard := none }) rfl (fun K hK => ?_) AllReadyH.nil))
   ·skip
    go_simp
    refine (Hs1.out _ vP).mono ?_
    rintro e y62 ⟨rfl, hb62⟩
    replace fr := fr.trans (hb62.mono fr.size)
    replace vP := vP.kept hb62
    replace vD := vD.kept hb62
    replace Ap := Ap.kept hb62
    replace Aq := Aq.kept hb62
    clear hb62
    go_wp2_with fail
    refine hK.out _ _ ⟨vr_range vD, arr_range Ap, arr_range Aq⟩ (fun hHeld => ?_)
    clear hK K
    refine wpAnyH_ready (rs := [4, 5]) (by kernel_rfl) (by simp) (AllReadyH.cons (o := { dst := some 18, op := Op.call { callee := Callee.value (Operand.func 104), args := #[Operand.tmp 14, Operand.tmp 17], argTypes := #[70, 70] }, type := 70, pos := "l06_point.go:130", after := #[{ on := 0, ground := Ground.data }, { on := 3, ground := Ground.data }, { on := 3, ground := Ground.chain }], guard := none }) rfl (fun K hK => ?_) (AllReadyH.cons (o := { dst := some 7, op := Op.alloc 70, type := 0, pos := "l06_point.go:130", after := #[], guard := none }) rfl (fun K hK => ?_) AllReadyH.nil))
    ·skip
     go_simp
     refine (Ht.out _ vP).mono ?_
     rintro e y63 ⟨rfl, hb63⟩
     replace fr := fr.trans (hb63.mono fr.size)
     replace vP := vP.kept hb63
     replace vD := vD.kept hb63
     replace Ap := Ap.kept hb63
     replace Aq := Aq.kept hb63
     clear hb63
     go_wp2_with fail
     refine hK.out _ _ ⟨vr_range vD, arr_range Ap, arr_range Aq⟩ (fun hHeld => ?_)
     clear hK K
     refine wpAnyH_ready (rs := [5]) (by kernel_rfl) (by simp) (AllReadyH.cons (o := { dst := some 7, op := Op.alloc 70, type := 0, pos := "l06_point.go:130", after := #[], guard := none }) rfl (fun K hK => ?_) AllReadyH.nil)
     go_simp
     obtain ⟨V64, hVe⟩ : ∃ V, V = y63.alloc (.cells #[.int .i64 0, .int .i64 0, .int .i64 0, .int .i64 0, .int .i64 0, .int .i64 0, .int .i64 0, .int .i64 0, .int .i64 0, .int .i64 0, .int .i64 0, .int .i64 0, .int .i64 0, .int .i64 0, .int .i64 0, .int .i64 0] 70) := ⟨_, rfl⟩
     have bV : Below y63.heap.size y63 V64 := by rw [hVe]; exact (Below.refl _ _).alloc (Nat.le_refl _) _
     have At : Arr V64 y63.heap.size 70 (I64 Z16) := by rw [hVe]; exact Arr.new _ (I64 Z16) _
     have hXt : Xp < y63.heap.size ∧ Xq < y63.heap.size ∧ True := ⟨Ap.lt, Aq.lt, trivial⟩
     obtain ⟨Xt, hXe⟩ : ∃ X, X = y63.heap.size := ⟨_, rfl⟩
     replace fr := fr.trans (bV.mono fr.size)
     replace vP := vP.kept bV
     replace vD := vD.kept bV
     replace Ap := Ap.kept bV
     replace Aq := Aq.kept bV
     rw [← hVe]
     rw [← hXe] at At hXt ⊢
     clear hVe hXe bV
     refine hK.out _ _ ⟨vr_range vD, arr_range Ap, arr_range Aq⟩ (fun hHeld => ?_)
     clear hK K
     refine wpAnyH_ready (rs := [6]) (by kernel_rfl) (by simp) (AllReadyH.cons (o := qOg2) rfl (fun K hK => ?_) AllReadyH.nil)
     rw [if_pos (by rfl)]
     refine wp_store_mid _ _ _ rfl _ _ (I64 t).toArray rfl rfl (by have := arr_there At; simpa [nt] using this) jt (all_oneCell_toArray ut) ?_
     simp only [Act.put]
     replace fr := bel_sc fr Xt (I64 t) (by omega)
     replace vP := vP.sc Xt (I64 t) (by omega)
     replace vD := vD.sc Xt (I64 t) (by omega)
     replace Ap := Ap.sc Xt (I64 t) (by omega)
     replace Aq := Aq.sc Xt (I64 t) (by omega)
     replace At := At.sc0 (I64 t) (by simp [nt])
     obtain ⟨V65, hVe⟩ : ∃ V, V = V64.setCells Xt 0 (I64 t) := ⟨_, rfl⟩
     rw [← hVe] at fr vP vD Ap Aq At ⊢
     clear hVe
     refine hK.out _ _ ⟨vr_range vD, arr_range Ap, arr_range Aq⟩ (fun hHeld => ?_)
     clear hK K
     refine wpAnyH_done (by kernel_rfl) ?_ _
     go_wp2
     go_meet
     case rel => exact ⟨Xt, rfl, At, fr, vP, vD, Ap, Aq⟩
    ·skip
     go_simp
     obtain ⟨V66, hVe⟩ : ∃ V, V = y62.alloc (.cells #[.int .i64 0, .int .i64 0, .int .i64 0, .int .i64 0, .int .i64 0, .int .i64 0, .int .i64 0, .int .i64 0, .int .i64 0, .int .i64 0, .int .i64 0, .int .i64 0, .int .i64 0, .int .i64 0, .int .i64 0, .int .i64 0] 70) := ⟨_, rfl⟩
     have bV : Below y62.heap.size y62 V66 := by rw [hVe]; exact (Below.refl _ _).alloc (Nat.le_refl _) _
     have At : Arr V66 y62.heap.size 70 (I64 Z16) := by rw [hVe]; exact Arr.new _ (I64 Z16) _
     have hXt : Xp < y62.heap.size ∧ Xq < y62.heap.size ∧ True := ⟨Ap.lt, Aq.lt, trivial⟩
     obtain ⟨Xt, hXe⟩ : ∃ X, X = y62.heap.size := ⟨_, rfl⟩
     replace fr := fr.trans (bV.mono fr.size)
     replace vP := vP.kept bV
     replace vD := vD.kept bV
     replace Ap := Ap.kept bV
     replace Aq := Aq.kept bV
     rw [← hVe]
     rw [← hXe] at At hXt ⊢
     clear hVe hXe bV
     refine hK.out _ _ ⟨vr_range vD, arr_range Ap, arr_range Aq⟩ (fun hHeld => ?_)
     clear hK K
     refine wpAnyH_ready (rs := [4]) (by kernel_rfl) (by simp) (AllReadyH.cons (o := { dst := some 18, op := Op.call { callee := Callee.value (Operand.func 104), args := #[Operand.tmp 14, Operand.tmp 17], argTypes := #[70, 70] }, type := 70, pos := "l06_point.go:130", after := #[{ on := 0, ground := Ground.data }, { on := 3, ground := Ground.data }, { on := 3, ground := Ground.chain }], guard := none }) rfl (fun K hK => ?_) AllReadyH.nil)
     go_simp
     refine (Ht.out _ vP).mono ?_
     rintro e y67 ⟨rfl, hb67⟩
     replace fr := fr.trans (hb67.mono fr.size)
     replace vP := vP.kept hb67
     replace vD := vD.kept hb67
     replace Ap := Ap.kept hb67
     replace Aq := Aq.kept hb67
     replace At := At.kept hb67
     clear hb67
     go_wp2_with fail
     refine hK.out _ _ ⟨vr_range vD, arr_range Ap, arr_range Aq⟩ (fun hHeld => ?_)
     clear hK K
     refine wpAnyH_ready (rs := [6]) (by kernel_rfl) (by simp) (AllReadyH.cons (o := qOg2) rfl (fun K hK => ?_) AllReadyH.nil)
     rw [if_pos (by rfl)]
     refine wp_store_mid _ _ _ rfl _ _ (I64 t).toArray rfl rfl (by have := arr_there At; simpa [nt] using this) jt (all_oneCell_toArray ut) ?_
     simp only [Act.put]
     replace fr := bel_sc fr Xt (I64 t) (by omega)
     replace vP := vP.sc Xt (I64 t) (by omega)
     replace vD := vD.sc Xt (I64 t) (by omega)
     replace Ap := Ap.sc Xt (I64 t) (by omega)
     replace Aq := Aq.sc Xt (I64 t) (by omega)
     replace At := At.sc0 (I64 t) (by simp [nt])
     obtain ⟨V68, hVe⟩ : ∃ V, V = y67.setCells Xt 0 (I64 t) := ⟨_, rfl⟩
     rw [← hVe] at fr vP vD Ap Aq At ⊢
     clear hVe
     refine hK.out _ _ ⟨vr_range vD, arr_range Ap, arr_range Aq⟩ (fun hHeld => ?_)
     clear hK K
     refine wpAnyH_done (by kernel_rfl) ?_ _
     go_wp2
     go_meet
     case rel => exact ⟨Xt, rfl, At, fr, vP, vD, Ap, Aq⟩
   ·skip
    go_simp
    obtain ⟨V69, hVe⟩ : ∃ V, V = D61.alloc (.cells #[.int .i64 0, .int .i64 0, .int .i64 0, .int .i64 0, .int .i64 0, .int .i64 0, .int .i64 0, .int .i64 0, .int .i64 0, .int .i64 0, .int .i64 0, .int .i64 0, .int .i64 0, .int .i64 0, .int .i64 0, .int .i64 0] 70) := ⟨_, rfl⟩
    have bV : Below D61.heap.size D61 V69 := by rw [hVe]; exact (Below.refl _ _).alloc (Nat.le_refl _) _
    have At : Arr V69 D61.heap.size 70 (I64 Z16) := by rw [hVe]; exact Arr.new _ (I64 Z16) _
    have hXt : Xp < D61.heap.size ∧ Xq < D61.heap.size ∧ True := ⟨Ap.lt, Aq.lt, trivial⟩
    obtain ⟨Xt, hXe⟩ : ∃ X, X = D61.heap.size := ⟨_, rfl⟩
    replace fr := fr.trans (bV.mono fr.size)
    replace vP := vP.kept bV
    replace vD := vD.kept bV
    replace Ap := Ap.kept bV
    replace Aq := Aq.kept bV
    rw [← hVe]
    rw [← hXe] at At hXt ⊢
    clear hVe hXe bV
    refine hK.out _ _ ⟨vr_range vD, arr_range Ap, arr_range Aq⟩ (fun hHeld => ?_)
    clear hK K
    refine wpAnyH_ready (rs := [3]) (by kernel_rfl) (by simp) (AllReadyH.cons (o := { dst := some 17, op := Op.call { callee := Callee.value (Operand.func 104), args := #[Operand.tmp 15, Operand.tmp 16], argTypes := #[70, 70] }, type := 70, pos := "l06_point.go:130", after := #[{ on := 1, ground := Ground.data }, { on := 2, ground := Ground.data }], guard := none }) rfl (fun K hK => ?_) AllReadyH.nil)
    go_simp
    refine (Hs1.out _ vP).mono ?_
    rintro e y70 ⟨rfl, hb70⟩
    replace fr := fr.trans (hb70.mono fr.size)
    replace vP := vP.kept hb70
    replace vD := vD.kept hb70
    replace Ap := Ap.kept hb70
    replace Aq := Aq.kept hb70
    replace At := At.kept hb70
    clear hb70
    go_wp2_with fail
    refine hK.out _ _ ⟨vr_range vD, arr_range Ap, arr_range Aq⟩ (fun hHeld => ?_)
    clear hK K
    refine wpAnyH_ready (rs := [4]) (by kernel_rfl) (by simp) (AllReadyH.cons (o := { dst := some 18, op := Op.call { callee := Callee.value (Operand.func 104), args := #[Operand.tmp 14, Operand.tmp 17], argTypes := #[70, 70] }, type := 70, pos := "l06_point.go:130", after := #[{ on := 0, ground := Ground.data }, { on := 3, ground := Ground.data }, { on := 3, ground := Ground.chain }], guard := none }) rfl (fun K hK => ?_) AllReadyH.nil)
    go_simp
    refine (Ht.out _ vP).mono ?_
    rintro e y71 ⟨rfl, hb71⟩
    replace fr := fr.trans (hb71.mono fr.size)
    replace vP := vP.kept hb71
    replace vD := vD.kept hb71
    replace Ap := Ap.kept hb71
    replace Aq := Aq.kept hb71
    replace At := At.kept hb71
    clear hb71
    go_wp2_with fail
    refine hK.out _ _ ⟨vr_range vD, arr_range Ap, arr_range Aq⟩ (fun hHeld => ?_)
    clear hK K
    refine wpAnyH_ready (rs := [6]) (by kernel_rfl) (by simp) (AllReadyH.cons (o := qOg2) rfl (fun K hK => ?_) AllReadyH.nil)
    rw [if_pos (by rfl)]
    refine wp_store_mid _ _ _ rfl _ _ (I64 t).toArray rfl rfl (by have := arr_there At; simpa [nt] using this) jt (all_oneCell_toArray ut) ?_
    simp only [Act.put]
    replace fr := bel_sc fr Xt (I64 t) (by omega)
    replace vP := vP.sc Xt (I64 t) (by omega)
    replace vD := vD.sc Xt (I64 t) (by omega)
    replace Ap := Ap.sc Xt (I64 t) (by omega)
    replace Aq := Aq.sc Xt (I64 t) (by omega)
    replace At := At.sc0 (I64 t) (by simp [nt])
    obtain ⟨V72, hVe⟩ : ∃ V, V = y71.setCells Xt 0 (I64 t) := ⟨_, rfl⟩
    rw [← hVe] at fr vP vD Ap Aq At ⊢
    clear hVe
    refine hK.out _ _ ⟨vr_range vD, arr_range Ap, arr_range Aq⟩ (fun hHeld => ?_)
    clear hK K
    refine wpAnyH_done (by kernel_rfl) ?_ _
    go_wp2
    go_meet
    case rel => exact ⟨Xt, rfl, At, fr, vP, vD, Ap, Aq⟩
  case rest =>
   clear fr vP vD Ap Aq
   obtain ⟨Xt, rfl, At, fr, vP, vD, Ap, Aq⟩ := hcut
   obtain ⟨C73, hwc⟩ : ∃ V, V = wc := ⟨_, rfl⟩
   rw [← hwc] at fr vP vD Ap Aq At ⊢
   clear hwc
   go_wp2
   try simp only [Act.put]
   have bD : Below C73.heap.size C73 C73.drew := (Below.refl _ _).drew
   replace fr := fr.trans (bD.mono fr.size)
   replace vP := vP.kept bD
   replace vD := vD.kept bD
   replace Ap := Ap.kept bD
   replace Aq := Aq.kept bD
   replace At := At.kept bD
   clear bD
   refine wp_region_held_drew (S := fun W => W.rangeAt Xq 0 (I64 q) ∧ W.rangeAt Xp 0 (I64 p) ∧ W.rangeAt Xt 0 (I64 t)) (by kernel_rfl) ⟨arr_range Aq, arr_range Ap, arr_range At⟩ (fun hHeld => ?_)
   obtain ⟨D74, hD⟩ : ∃ V, V = C73.drew := ⟨_, rfl⟩
   rw [← hD] at hHeld fr vP vD Ap Aq At ⊢
   clear hD
   refine wpAnyH_take (i := 0) (oi := { dst := some 19, op := Op.load 70 (Operand.tmp 6), type := 70, pos := "l06_point.go:131", after := #[], guard := none }) (v := _) rfl (by kernel_rfl) (by kernel_rfl) (by kernel_rfl) (fun _ _ _ h => h) (yieldsIf_load_mid (by rfl) _ _ rfl _ _ rfl (I64 q) _ (fun _ h => h.1) hu rfl iiq) (by assumption) ?_
   simp only [Act.put, List.setIfInBounds_toArray, List.set_cons_zero, List.set_cons_succ]
   refine wpAnyH_take (i := 1) (oi := { dst := some 20, op := Op.load 70 (Operand.tmp 5), type := 70, pos := "l06_point.go:131", after := #[], guard := none }) (v := _) rfl (by kernel_rfl) (by kernel_rfl) (by kernel_rfl) (fun _ _ _ h => h) (yieldsIf_load_mid (by rfl) _ _ rfl _ _ rfl (I64 p) _ (fun _ h => h.2.1) hu rfl iip) (by assumption) ?_
   simp only [Act.put, List.setIfInBounds_toArray, List.set_cons_zero, List.set_cons_succ]
   refine wpAnyH_take (i := 3) (oi := { dst := some 22, op := Op.load 70 (Operand.tmp 7), type := 70, pos := "l06_point.go:131", after := #[], guard := none }) (v := _) rfl (by kernel_rfl) (by kernel_rfl) (by kernel_rfl) (fun _ _ _ h => h) (yieldsIf_load_mid (by rfl) _ _ rfl _ _ rfl (I64 t) _ (fun _ h => h.2.2) hu rfl iit) (by assumption) ?_
   simp only [Act.put, List.setIfInBounds_toArray, List.set_cons_zero, List.set_cons_succ]
   refine wpAnyH_take (i := 4) (oi := { dst := some 23, op := Op.build 70 #[(0, Operand.const (Value.int IntKind.i64 1))], type := 70, pos := "l06_point.go:131", after := #[], guard := none }) (v := .agg (I64 [1, 0, 0, 0, 0, 0, 0, 0, 0, 0, 0, 0, 0, 0, 0, 0]).toArray) rfl (by kernel_rfl) (by kernel_rfl) (by kernel_rfl) (fun _ _ _ h => h) (.inl ⟨by rfl, fun _ _ => by kernel_rfl⟩) (by assumption) ?_
   simp only [Act.put, List.setIfInBounds_toArray, List.set_cons_zero, List.set_cons_succ]
   refine wpAnyH_ready (rs := [2]) (by kernel_rfl) (by simp) (AllReadyH.cons (o := { dst := some 21, op := Op.call { callee := Callee.value (Operand.func 107), args := #[Operand.tmp 19, Operand.tmp 20], argTypes := #[70, 70] }, type := 70, pos := "l06_point.go:131", after := #[{ on := 0, ground := Ground.data }, { on := 1, ground := Ground.data }], guard := none }) rfl (fun K hK => ?_) AllReadyH.nil)
   go_simp
   refine (Hr.out _ vP).mono ?_
   rintro e y75 ⟨rfl, hb75⟩
   replace fr := fr.trans (hb75.mono fr.size)
   replace vP := vP.kept hb75
   replace vD := vD.kept hb75
   replace Ap := Ap.kept hb75
   replace Aq := Aq.kept hb75
   replace At := At.kept hb75
   clear hb75
   go_wp2_with fail
   refine hK.out _ _ ⟨arr_range Aq, arr_range Ap, arr_range At⟩ (fun hHeld => ?_)
   clear hK K
   refine wpAnyH_ready (rs := [5]) (by kernel_rfl) (by simp) (AllReadyH.cons (o := { dst := some 24, op := Op.call { callee := Callee.value (Operand.func 105), args := #[Operand.tmp 22, Operand.tmp 23], argTypes := #[70, 70] }, type := 70, pos := "l06_point.go:131", after := #[{ on := 3, ground := Ground.data }, { on := 4, ground := Ground.data }, { on := 2, ground := Ground.chain }], guard := none }) rfl (fun K hK => ?_) AllReadyH.nil)
   go_simp
   refine (Hv.out _ vP).mono ?_
   rintro e y76 ⟨rfl, hb76⟩
   replace fr := fr.trans (hb76.mono fr.size)
   replace vP := vP.kept hb76
   replace vD := vD.kept hb76
   replace Ap := Ap.kept hb76
   replace Aq := Aq.kept hb76
   replace At := At.kept hb76
   clear hb76
   go_wp2_with fail
   refine hK.out _ _ ⟨arr_range Aq, arr_range Ap, arr_range At⟩ (fun hHeld => ?_)
   clear hK K
   refine wpAnyH_ready (rs := [6]) (by kernel_rfl) (by simp) (AllReadyH.cons (o := { dst := some 25, op := Op.binOp BinOp.eql 70 (Operand.tmp 21) (Operand.tmp 24) 70, type := 4, pos := "l06_point.go:131", after := #[{ on := 2, ground := Ground.data }, { on := 5, ground := Ground.data }], guard := none }) rfl (fun K hK => ?_) AllReadyH.nil)
   go_simp
   refine hK.out _ _ ⟨arr_range Aq, arr_range Ap, arr_range At⟩ (fun hHeld => ?_)
   clear hK K
   refine wpAnyH_ready (rs := [7]) (by kernel_rfl) (by simp) (AllReadyH.cons (o := { dst := some 4, op := Op.assign (Operand.tmp 25), type := 4, pos := "l06_point.go:131", after := #[{ on := 6, ground := Ground.data }, { on := 5, ground := Ground.chain }, { on := 0, ground := Ground.phase }, { on := 1, ground := Ground.phase }, { on := 2, ground := Ground.phase }, { on := 3, ground := Ground.phase }, { on := 4, ground := Ground.phase }, { on := 5, ground := Ground.phase }, { on := 6, ground := Ground.phase }], guard := none }) rfl (fun K hK => ?_) AllReadyH.nil)
   go_simp
   refine hK.out _ _ ⟨arr_range Aq, arr_range Ap, arr_range At⟩ (fun hHeld => ?_)
   clear hK K
   refine wpAnyH_done (by kernel_rfl) ?_ _
   go_wp2
   go_ret
   exact ⟨rfl, fr⟩

/-- What pointOpen hands back. -/
def opL (xs ys : List Int) : List Int := if ptOk xs ys = true then (mk6 xs ys).cells else Z64
theorem opL_len (xs ys : List Int) : (opL xs ys).length = 64 := by
 unfold opL
 split
 ·rename_i h
  obtain ⟨h1, h2, _⟩ := (ptOk_iff xs ys).1 h
  exact E4.len (mk6_ok h1 h2)
 ·rfl
theorem built_zero (w : World) : (Instr.build 72 #[]).run Tryd.prog w = .ok (.agg (I64 Z64).toArray) w := by kernel_rfl

set_option maxHeartbeats 8000000 in
theorem implPtOpen (a : Option Addr) (n c : Nat) (xs : List Int) (b : Option Addr) (m d : Nat) (ys : List Int) (w : World) (hx : Is w a n c xs) (hy : Is w b m d ys) (hV : Vr w 4 (I64 PL)) (hD : Vr w 2 (I64 DL)) :
  Calls Tryd.prog 55 #[.agg #[.slice a n c, .slice b m d]] w fun e w' => e = .returned (.tuple #[.agg (I64 (opL xs ys)).toArray, .bool (ptOk xs ys)]) ∧ Below w.heap.size w w' := by
 obtain ⟨lx, hlx⟩ : ∃ l, l = lmL xs := ⟨_, rfl⟩
 obtain ⟨ly, hly⟩ : ∃ l, l = lmL ys := ⟨_, rfl⟩
 obtain ⟨p, hp⟩ : ∃ p, p = feOk xs := ⟨_, rfl⟩
 obtain ⟨q, hq⟩ : ∃ q, q = feOk ys := ⟨_, rfl⟩
 obtain ⟨t, ht⟩ : ∃ t, t = onB xs ys := ⟨_, rfl⟩
 have Hx : Hid (∀ Z, Below w.heap.size w Z → Vr Z 4 (I64 PL) → Calls Tryd.prog 101 #[.agg #[.slice a n c]] Z fun e w' => e = .returned (.tuple #[.agg (I64 lx).toArray, .bool p]) ∧ Below Z.heap.size Z w') := by
  unfold Hid; intro Z hZ hVZ; rw [hlx, hp]; exact implOpen a n c xs Z (hx.below hZ) hVZ
 have nx : lx.length = 16 := by rw [hlx]; exact lmL_len xs
 have Hy : Hid (∀ Z, Below w.heap.size w Z → Vr Z 4 (I64 PL) → Calls Tryd.prog 101 #[.agg #[.slice b m d]] Z fun e w' => e = .returned (.tuple #[.agg (I64 ly).toArray, .bool q]) ∧ Below Z.heap.size Z w') := by
  unfold Hid; intro Z hZ hVZ; rw [hly, hq]; exact implOpen b m d ys Z (hy.below hZ) hVZ
 have ny : ly.length = 16 := by rw [hly]; exact lmL_len ys
 have Ho : Hid (p = true → q = true → ∀ Z, Vr Z 4 (I64 PL) → Vr Z 2 (I64 DL) → Calls Tryd.prog 102 #[.agg (I64 lx).toArray, .agg (I64 ly).toArray] Z fun e w' => e = .returned (.bool t) ∧ Below Z.heap.size Z w') := by
  unfold Hid; intro h1 h2 Z hZ hZ2; rw [hp] at h1; rw [hq] at h2; rw [hlx, hly, ht, lmL_of h1, lmL_of h2]; exact implOn xs ys Z h1 h2 hZ hZ2
 obtain ⟨P, hPe⟩ : ∃ P, P = mk6 lx ly := ⟨_, rfl⟩
 have HPo : Hid (p = true → q = true → P.Ok) := by
  unfold Hid; intro h1 h2; rw [hp] at h1; rw [hq] at h2; rw [hPe, hlx, hly, lmL_of h1, lmL_of h2]; exact mk6_ok h1 h2
 have HM : Hid (p = true → q = true → ∀ Z, Vr Z 4 (I64 PL) → Calls Tryd.prog 69 #[.agg (I64 lx).toArray, .agg (I64 ly).toArray] Z fun e w' => e = .returned (.agg (I64 P.cells).toArray) ∧ Below Z.heap.size Z w') := by
  unfold Hid; intro h1 h2 Z hZ; rw [hp] at h1; rw [hq] at h2; rw [hPe, hlx, hly, lmL_of h1, lmL_of h2]; exact implLongAt xs ys Z h1 h2 hZ
 obtain ⟨R, hR⟩ : ∃ r, r = ptOk xs ys := ⟨_, rfl⟩
 obtain ⟨L, hL⟩ : ∃ l, l = opL xs ys := ⟨_, rfl⟩
 have HR : Hid (R = (p && q && t)) := by unfold Hid; rw [hR, hp, hq, ht]; rfl
 have HL0 : Hid (R = false → L = Z64) := by unfold Hid; intro h; rw [hL]; unfold opL; rw [← hR, h]; rfl
 have HL1 : Hid (R = true → L = P.cells) := by
  unfold Hid; intro h; rw [hL]; unfold opL; rw [← hR, if_pos h, hPe, hlx, hly]
  rw [hR] at h; obtain ⟨h1, h2, _⟩ := (ptOk_iff xs ys).1 h; rw [lmL_of h1, lmL_of h2]
 rw [← hR, ← hL]
 have jx : (Tryd.prog.info? 70).map (·.size) = some (I64 lx).toArray.size := by simpa [nx] using infoL
 have jy : (Tryd.prog.info? 70).map (·.size) = some (I64 ly).toArray.size := by simpa [ny] using infoL
 have hz : (Tryd.prog.info? 72).map (·.size) = some (I64 Z64).toArray.size := infoLp
 have hbz := built_zero
 have hu : Tryd.prog.underlying 70 = some (.array 16 3) := Tryd.underlying70
 obtain ⟨W, hW⟩ : ∃ W, W = (w.alloc (.cells #[.slice a n c, .slice b m d] 27)).alloc (.cells #[.int .i64 0, .int .i64 0, .int .i64 0, .int .i64 0, .int .i64 0, .int .i64 0, .int .i64 0, .int .i64 0, .int .i64 0, .int .i64 0, .int .i64 0, .int .i64 0, .int .i64 0, .int .i64 0, .int .i64 0, .int .i64 0, .int .i64 0, .int .i64 0, .int .i64 0, .int .i64 0, .int .i64 0, .int .i64 0, .int .i64 0, .int .i64 0, .int .i64 0, .int .i64 0, .int .i64 0, .int .i64 0, .int .i64 0, .int .i64 0, .int .i64 0, .int .i64 0, .int .i64 0, .int .i64 0, .int .i64 0, .int .i64 0, .int .i64 0, .int .i64 0, .int .i64 0, .int .i64 0, .int .i64 0, .int .i64 0, .int .i64 0, .int .i64 0, .int .i64 0, .int .i64 0, .int .i64 0, .int .i64 0, .int .i64 0, .int .i64 0, .int .i64 0, .int .i64 0, .int .i64 0, .int .i64 0, .int .i64 0, .int .i64 0, .int .i64 0, .int .i64 0, .int .i64 0, .int .i64 0, .int .i64 0, .int .i64 0, .int .i64 0, .int .i64 0] 72) := ⟨_, rfl⟩
 have fr : Below w.heap.size w W := by rw [hW]; exact (((Below.refl _ _).alloc (Nat.le_refl _) _).alloc (by simp) _)
 have pa : Arr W w.heap.size 27 ([.slice a n c, .slice b m d]) := by
  rw [hW]
  have := (Arr.new (w) ([.slice a n c, .slice b m d]) 27).alloc (.cells #[.int .i64 0, .int .i64 0, .int .i64 0, .int .i64 0, .int .i64 0, .int .i64 0, .int .i64 0, .int .i64 0, .int .i64 0, .int .i64 0, .int .i64 0, .int .i64 0, .int .i64 0, .int .i64 0, .int .i64 0, .int .i64 0, .int .i64 0, .int .i64 0, .int .i64 0, .int .i64 0, .int .i64 0, .int .i64 0, .int .i64 0, .int .i64 0, .int .i64 0, .int .i64 0, .int .i64 0, .int .i64 0, .int .i64 0, .int .i64 0, .int .i64 0, .int .i64 0, .int .i64 0, .int .i64 0, .int .i64 0, .int .i64 0, .int .i64 0, .int .i64 0, .int .i64 0, .int .i64 0, .int .i64 0, .int .i64 0, .int .i64 0, .int .i64 0, .int .i64 0, .int .i64 0, .int .i64 0, .int .i64 0, .int .i64 0, .int .i64 0, .int .i64 0, .int .i64 0, .int .i64 0, .int .i64 0, .int .i64 0, .int .i64 0, .int .i64 0, .int .i64 0, .int .i64 0, .int .i64 0, .int .i64 0, .int .i64 0, .int .i64 0, .int .i64 0] 72)
  exact this
 have pr : Arr W (w.heap.size + 1) 72 (I64 Z64) := by
  rw [hW]
  have := Arr.new (w.alloc (.cells #[.slice a n c, .slice b m d] 27)) (I64 Z64) 72
  rw [World.size_alloc] at this
  exact this
 have h0P := hV.lt
 have vP := hV.kept fr
 have h0D := hD.lt
 have vD := hD.kept fr
 clear hV hD
 clear hR hL hPe hp hq ht hlx hly hx hy
 go_enter Tryd.func55, Tryd.ntmps55
 go_upto_region 1 with fail
 rw [← hW]
 clear hW
 have c0 : W.cell? ⟨w.heap.size, 0, none⟩ = some (.slice a n c) := pa.cell 0
 go_wp2_with fail
 clear c0
 refine (Hx.out _ fr vP).mono ?_
 rintro e y1 ⟨rfl, hb1⟩
 replace fr := fr.trans (hb1.mono fr.size)
 replace pa := pa.kept hb1
 replace pr := pr.kept hb1
 replace vP := vP.kept hb1
 replace vD := vD.kept hb1
 clear hb1
 have hXx : w.heap.size < y1.heap.size ∧ (w.heap.size + 1) < y1.heap.size ∧ w.heap.size ≤ y1.heap.size := ⟨pa.lt, pr.lt, fr.size⟩
 obtain ⟨bV, Ax, q1⟩ := laid_lm y1 lx
 replace fr := fr.trans (bV.mono fr.size)
 replace pa := pa.kept bV
 replace pr := pr.kept bV
 replace vP := vP.kept bV
 replace vD := vD.kept bV
 go_upto_region 2 with (refine wpList_store_row rfl 70 _ _ rfl y1.heap.size (I64 lx).toArray rfl rfl 70 _ q1 jx (by simp [nx]) (by simp [Value.oneCell']) ?_)
 obtain ⟨V2, hVV⟩ : ∃ V, V = (y1.alloc (.cells #[.int .i64 0, .int .i64 0, .int .i64 0, .int .i64 0, .int .i64 0, .int .i64 0, .int .i64 0, .int .i64 0, .int .i64 0, .int .i64 0, .int .i64 0, .int .i64 0, .int .i64 0, .int .i64 0, .int .i64 0, .int .i64 0] 70)).setRow y1.heap.size (I64 lx).toArray := ⟨_, rfl⟩
 obtain ⟨Xx, hE⟩ : ∃ E, E = y1.heap.size := ⟨_, rfl⟩
 rw [← hVV] at fr pa pr vP vD Ax ⊢
 rw [← hE] at Ax hXx ⊢
 clear hVV hE q1 bV
 have c0 : V2.cell? ⟨w.heap.size, 1, none⟩ = some (.slice b m d) := pa.cell 1
 go_wp2_with fail
 clear c0
 refine (Hy.out _ fr vP).mono ?_
 rintro e y3 ⟨rfl, hb3⟩
 replace fr := fr.trans (hb3.mono fr.size)
 replace pa := pa.kept hb3
 replace pr := pr.kept hb3
 replace vP := vP.kept hb3
 replace vD := vD.kept hb3
 replace Ax := Ax.kept hb3
 clear hb3
 have hXy : w.heap.size < y3.heap.size ∧ (w.heap.size + 1) < y3.heap.size ∧ Xx < y3.heap.size ∧ w.heap.size ≤ y3.heap.size := ⟨pa.lt, pr.lt, Ax.lt, fr.size⟩
 obtain ⟨bV, Ay, q1⟩ := laid_lm y3 ly
 replace fr := fr.trans (bV.mono fr.size)
 replace pa := pa.kept bV
 replace pr := pr.kept bV
 replace vP := vP.kept bV
 replace vD := vD.kept bV
 replace Ax := Ax.kept bV
 go_upto_region 3 with (refine wpList_store_row rfl 70 _ _ rfl y3.heap.size (I64 ly).toArray rfl rfl 70 _ q1 jy (by simp [ny]) (by simp [Value.oneCell']) ?_)
 obtain ⟨V4, hVV⟩ : ∃ V, V = (y3.alloc (.cells #[.int .i64 0, .int .i64 0, .int .i64 0, .int .i64 0, .int .i64 0, .int .i64 0, .int .i64 0, .int .i64 0, .int .i64 0, .int .i64 0, .int .i64 0, .int .i64 0, .int .i64 0, .int .i64 0, .int .i64 0, .int .i64 0] 70)).setRow y3.heap.size (I64 ly).toArray := ⟨_, rfl⟩
 obtain ⟨Xy, hE⟩ : ∃ E, E = y3.heap.size := ⟨_, rfl⟩
 rw [← hVV] at fr pa pr vP vD Ax Ay ⊢
 rw [← hE] at Ay hXy ⊢
 clear hVV hE q1 bV
 cases p with
 | false =>
  have h2 := pr.row (I64 Z64)
  have HB : Hid _ := setRow_below fr (w.heap.size + 1) (I64 Z64).toArray (by omega)
  have hRf : Hid (R = false) := by unfold Hid; rw [HR.out]; simp
  have hLf : Hid (L = Z64) := HL0.out hRf.out
  go_wp2_with (refine wpList_store_row rfl 72 _ _ rfl (w.heap.size + 1) (I64 Z64).toArray rfl rfl 72 _ pr hz (by simp []) (by simp [Value.oneCell']) ?_)
  exact bodyPost_ret (results_row_tmp (v := .bool false) (cs := I64 Z64) rfl rfl rfl h2 Tryd.underlying72 rfl hz) rfl ⟨by rw [hLf.out, hRf.out], HB.out⟩
 | true =>
  cases q with
  | false =>
   have h2 := pr.row (I64 Z64)
   have HB : Hid _ := setRow_below fr (w.heap.size + 1) (I64 Z64).toArray (by omega)
   have hRf : Hid (R = false) := by unfold Hid; rw [HR.out]; simp
   have hLf : Hid (L = Z64) := HL0.out hRf.out
   go_wp2_with (refine wpList_store_row rfl 72 _ _ rfl (w.heap.size + 1) (I64 Z64).toArray rfl rfl 72 _ pr hz (by simp []) (by simp [Value.oneCell']) ?_)
   exact bodyPost_ret (results_row_tmp (v := .bool false) (cs := I64 Z64) rfl rfl rfl h2 Tryd.underlying72 rfl hz) rfl ⟨by rw [hLf.out, hRf.out], HB.out⟩
  | true =>
   go_wp2_with (first
     | (refine wpList_load_rowW rfl 70 _ rfl Xx rfl 70 (I64 lx).toArray (0, 0) _ Ax Tryd.underlying70 rfl jx ?_)
     | (refine wpList_load_rowW rfl 70 _ rfl Xy rfl 70 (I64 ly).toArray (0, 0) _ Ay Tryd.underlying70 rfl jy ?_))
   refine (Ho.out (by simp) (by simp) _ vP vD).mono ?_
   rintro e y5 ⟨rfl, hb5⟩
   replace fr := fr.trans (hb5.mono fr.size)
   replace pa := pa.kept hb5
   replace pr := pr.kept hb5
   replace vP := vP.kept hb5
   replace vD := vD.kept hb5
   replace Ax := Ax.kept hb5
   replace Ay := Ay.kept hb5
   clear hb5
   cases t with
   | false =>
    have h2 := pr.row (I64 Z64)
    have HB : Hid _ := setRow_below fr (w.heap.size + 1) (I64 Z64).toArray (by omega)
    have hRf : Hid (R = false) := by unfold Hid; rw [HR.out]; simp
    have hLf : Hid (L = Z64) := HL0.out hRf.out
    go_wp2_with (refine wpList_store_row rfl 72 _ _ rfl (w.heap.size + 1) (I64 Z64).toArray rfl rfl 72 _ pr hz (by simp []) (by simp [Value.oneCell']) ?_)
    exact bodyPost_ret (results_row_tmp (v := .bool false) (cs := I64 Z64) rfl rfl rfl h2 Tryd.underlying72 rfl hz) rfl ⟨by rw [hLf.out, hRf.out], HB.out⟩
   | true =>
    have hPo := HPo.out (by simp) (by simp)
    have hip := infoLp' hPo
    have hPl := E4.len hPo
    go_wp2_with (first
      | (refine wpList_load_row rfl 70 _ rfl Xx rfl 70 (I64 lx).toArray (0, 0) _ Ax Tryd.underlying70 rfl jx ?_)
      | (refine wpList_load_row rfl 70 _ rfl Xy rfl 70 (I64 ly).toArray (0, 0) _ Ay Tryd.underlying70 rfl jy ?_))
    refine (HM.out (by simp) (by simp) _ vP).mono ?_
    rintro e y6 ⟨rfl, hb6⟩
    replace fr := fr.trans (hb6.mono fr.size)
    replace pa := pa.kept hb6
    replace pr := pr.kept hb6
    replace vP := vP.kept hb6
    replace vD := vD.kept hb6
    replace Ax := Ax.kept hb6
    replace Ay := Ay.kept hb6
    clear hb6
    have h2 := pr.row (I64 P.cells)
    have HB : Hid _ := setRow_below fr (w.heap.size + 1) (I64 P.cells).toArray (by omega)
    have hRt : Hid (R = true) := by unfold Hid; rw [HR.out]; simp
    have hLt : Hid (L = P.cells) := HL1.out hRt.out
    go_wp2_with (refine wpList_store_row rfl 72 _ _ rfl (w.heap.size + 1) (I64 P.cells).toArray rfl rfl 72 _ pr hip (by simp [hPl]) (by simp [Value.oneCell']) ?_)
    exact bodyPost_ret (results_row_tmp (v := .bool true) (cs := I64 P.cells) rfl rfl rfl h2 Tryd.underlying72 rfl hip) rfl ⟨by rw [hLt.out, hRt.out], HB.out⟩

end Go.Proofs.YtoblilngppjmhaaDoor
