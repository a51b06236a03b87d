/-
  What is proved here: the contract of the specification's l6on: whether two numbers of the field are a point; what the lists of the specification stand for: numbers of the field, points in the long form, the curve; no program is spoken of.
-/
import Derived.Test.YtoblilngppjmhaaDoorW9Ud
import Derived.Test.YtoblilngppjmhaaDoorW9Ug
namespace Go.Proofs.YtoblilngppjmhaaDoor
open Go.RowKit
set_option maxRecDepth 100000

def onL (x y : List Int) : List Int := red (val (red (val y * val y)) - val (red (val x * val x)))
def onR (x y : List Int) : List Int := red (val (lim 16 1) + val (red (val DL * val (red (val (red (val x * val x)) * val (red (val y * val y)))))))
/-- Whether two numbers are a point. -/
def onB (x y : List Int) : Bool := decide (onL x y = onR x y)

set_option maxHeartbeats 4000000 in
theorem spec6on (x y : List Int) (w : World) (hx : feOk x = true) (hy : feOk y = true) :
    Calls Tryd.prog 60 #[.agg (I64 x).toArray, .agg (I64 y).toArray] w fun e w' => e = .returned (.bool (onB x y)) ∧ Below w.heap.size w w' := by
  obtain ⟨p, ep⟩ : ∃ p, p = red (val x * val x) := ⟨_, rfl⟩
  have kp : feOk p = true := by rw [ep]; exact ok_red _
  obtain ⟨q, eq⟩ : ∃ q, q = red (val y * val y) := ⟨_, rfl⟩
  have kq : feOk q = true := by rw [eq]; exact ok_red _
  obtain ⟨r, er⟩ : ∃ r, r = red (val q - val p) := ⟨_, rfl⟩
  have kr : feOk r = true := by rw [er]; exact ok_red _
  obtain ⟨s, es⟩ : ∃ s, s = red (val p * val q) := ⟨_, rfl⟩
  have ks : feOk s = true := by rw [es]; exact ok_red _
  obtain ⟨t, et⟩ : ∃ t, t = red (val DL * val s) := ⟨_, rfl⟩
  have kt : feOk t = true := by rw [et]; exact ok_red _
  obtain ⟨u, eu⟩ : ∃ u, u = lim 16 1 := ⟨_, rfl⟩
  have ku : feOk u = true := by rw [eu]; exact one_ok
  obtain ⟨v, ev⟩ : ∃ v, v = red (val u + val t) := ⟨_, rfl⟩
  have kv : feOk v = true := by rw [ev]; exact ok_red _
  obtain ⟨b, eb⟩ : ∃ b, b = decide (r = v) := ⟨_, rfl⟩
  have hB : onB x y = b := by rw [eb]; unfold onB onL onR; rw [ev, et, es, er, eq, ep, eu]
  have Hp : Hid (∀ Z, Calls Tryd.prog 109 #[.agg (I64 x).toArray, .agg (I64 x).toArray] Z fun e w' => e = .returned (.agg (I64 p).toArray) ∧ Below Z.heap.size Z w') := by
    unfold Hid; intro Z; rw [ep]; exact mulC hx hx Z
  have Hq : Hid (∀ Z, Calls Tryd.prog 109 #[.agg (I64 y).toArray, .agg (I64 y).toArray] Z fun e w' => e = .returned (.agg (I64 q).toArray) ∧ Below Z.heap.size Z w') := by
    unfold Hid; intro Z; rw [eq]; exact mulC hy hy Z
  have Hr : Hid (∀ Z, Calls Tryd.prog 110 #[.agg (I64 q).toArray, .agg (I64 p).toArray] Z fun e w' => e = .returned (.agg (I64 r).toArray) ∧ Below Z.heap.size Z w') := by
    unfold Hid; intro Z; rw [er]; exact subC kq kp Z
  have Hu : Hid (∀ Z, Calls Tryd.prog 112 #[.int .i64 1] Z fun e w' => e = .returned (.agg (I64 u).toArray) ∧ Below Z.heap.size Z w') := by
    unfold Hid; intro Z; rw [eu]; exact specSmall 1 Z (by omega) (by omega)
  have Hd : Hid (∀ Z, Calls Tryd.prog 113 #[] Z fun e w' => e = .returned (.agg (I64 DL).toArray) ∧ Below Z.heap.size Z w') := by
    unfold Hid; intro Z; exact spec6d Z
  have Hs : Hid (∀ Z, Calls Tryd.prog 109 #[.agg (I64 p).toArray, .agg (I64 q).toArray] Z fun e w' => e = .returned (.agg (I64 s).toArray) ∧ Below Z.heap.size Z w') := by
    unfold Hid; intro Z; rw [es]; exact mulC kp kq Z
  have Ht : Hid (∀ Z, Calls Tryd.prog 109 #[.agg (I64 DL).toArray, .agg (I64 s).toArray] Z fun e w' => e = .returned (.agg (I64 t).toArray) ∧ Below Z.heap.size Z w') := by
    unfold Hid; intro Z; rw [et]; exact mulC DL_ok ks Z
  have Hv : Hid (∀ Z, Calls Tryd.prog 111 #[.agg (I64 u).toArray, .agg (I64 t).toArray] Z fun e w' => e = .returned (.agg (I64 v).toArray) ∧ Below Z.heap.size Z w') := by
    unfold Hid; intro Z; rw [ev]; exact addC ku kt Z
  have hq : ∀ Z, (Op.equalIn 10000 82 (.agg (I64 r).toArray) (.agg (I64 v).toArray)).run Tryd.prog Z = .ok b Z := by
    intro Z; rw [eb]; exact run_eq16 r v Z (feOk_len kr) (feOk_len kv)
  rw [hB]
  have jx := infoE' hx
  have jy := infoE' hy
  have jp := infoE' kp
  have jq := infoE' kq
  have iip := infoEl kp
  have iiq := infoEl kq
  have np := feOk_len kp
  have nq := feOk_len kq
  have hu : Tryd.prog.underlying 82 = some (.array 16 3) := Tryd.underlying82
  obtain ⟨A, hA⟩ : ∃ A, A = (I64 x).toArray := ⟨_, rfl⟩
  obtain ⟨B, hBB⟩ : ∃ B, B = (I64 y).toArray := ⟨_, rfl⟩
  obtain ⟨W, hW⟩ : ∃ W, W = (w.alloc (.cells A 82)).alloc (.cells B 82) := ⟨_, rfl⟩
  have fr : Below w.heap.size w W := by rw [hW]; exact ((Below.refl _ _).alloc (Nat.le_refl _) _).alloc (by simp) _
  have pa : Arr W w.heap.size 82 (I64 x) := by rw [hW, hA]; exact (Arr.new w (I64 x) _).alloc _
  have pb : Arr W (w.heap.size + 1) 82 (I64 y) := by
    rw [hW, hBB]
    have := Arr.new (w.alloc (.cells A 82)) (I64 y) 82
    rw [World.size_alloc] at this
    exact this
  rw [← hA, ← hBB]
  clear hA hBB hB ep eq er es et eu ev eb hx hy kp kq kr ks kt ku kv
  go_enter Tryd.func60, Tryd.ntmps60
  go_upto_region 1 with fail
  rw [← hW]
  clear hW
  go_wp2_with (refine wpList_load_row rfl 82 _ rfl w.heap.size rfl 82 (I64 x).toArray (0, 0) _ pa Tryd.underlying82 rfl jx ?_)
  refine (Hp.out _).mono ?_
  rintro e y1 ⟨rfl, hb1⟩
  replace fr := fr.trans (hb1.mono fr.size)
  replace pa := pa.kept hb1
  replace pb := pb.kept hb1
  clear hb1
  obtain ⟨bV, Ap, q1⟩ := laid_e y1 p
  replace fr := fr.trans (bV.mono fr.size)
  replace pa := pa.kept bV
  replace pb := pb.kept bV
  go_wp2_with (first
      | (refine wpList_load_row rfl 82 _ rfl (w.heap.size + 1) rfl 82 (I64 y).toArray (0, 0) _ pb Tryd.underlying82 rfl jy ?_)
      | (refine wpList_store_row rfl 82 _ _ rfl y1.heap.size (I64 p).toArray rfl rfl 82 _ q1 jp (by simp [np]) (by simp [Value.oneCell']) ?_))
  obtain ⟨V2, hVV⟩ : ∃ V, V = (y1.alloc (.cells #[.int .i64 0, .int .i64 0, .int .i64 0, .int .i64 0, .int .i64 0, .int .i64 0, .int .i64 0, .int .i64 0, .int .i64 0, .int .i64 0, .int .i64 0, .int .i64 0, .int .i64 0, .int .i64 0, .int .i64 0, .int .i64 0] 82)).setRow y1.heap.size (I64 p).toArray := ⟨_, rfl⟩
  obtain ⟨Xp, hE⟩ : ∃ E, E = y1.heap.size := ⟨_, rfl⟩
  rw [← hVV] at fr pa pb Ap ⊢
  rw [← hE] at Ap ⊢
  clear hVV hE q1 bV
  refine (Hq.out _).mono ?_
  rintro e y3 ⟨rfl, hb3⟩
  replace fr := fr.trans (hb3.mono fr.size)
  replace pa := pa.kept hb3
  replace pb := pb.kept hb3
  replace Ap := Ap.kept hb3
  clear hb3
  obtain ⟨bV, Aq, q1⟩ := laid_e y3 q
  replace fr := fr.trans (bV.mono fr.size)
  replace pa := pa.kept bV
  replace pb := pb.kept bV
  replace Ap := Ap.kept bV
  go_wp2_with (refine wpList_store_row rfl 82 _ _ rfl y3.heap.size (I64 q).toArray rfl rfl 82 _ q1 jq (by simp [nq]) (by simp [Value.oneCell']) ?_)
  obtain ⟨V4, hVV⟩ : ∃ V, V = (y3.alloc (.cells #[.int .i64 0, .int .i64 0, .int .i64 0, .int .i64 0, .int .i64 0, .int .i64 0, .int .i64 0, .int .i64 0, .int .i64 0, .int .i64 0, .int .i64 0, .int .i64 0, .int .i64 0, .int .i64 0, .int .i64 0, .int .i64 0] 82)).setRow y3.heap.size (I64 q).toArray := ⟨_, rfl⟩
  obtain ⟨Xq, hE⟩ : ∃ E, E = y3.heap.size := ⟨_, rfl⟩
  rw [← hVV] at fr pa pb Ap Aq ⊢
  rw [← hE] at Aq ⊢
  clear hVV hE q1 bV
  try simp only [Act.put]
  have bD : Below V4.heap.size V4 V4.drew := (Below.refl _ _).drew
  replace fr := fr.trans (bD.mono fr.size)
  replace pa := pa.kept bD
  replace pb := pb.kept bD
  replace Ap := Ap.kept bD
  replace Aq := Aq.kept bD
  clear bD
  refine wp_region_held_drew (S := fun W => W.rangeAt Xq 0 (I64 q) ∧ W.rangeAt Xp 0 (I64 p)) (by kernel_rfl) ⟨arr_range Aq, arr_range Ap⟩ (fun hHeld => ?_)
  obtain ⟨D5, hD⟩ : ∃ V, V = V4.drew := ⟨_, rfl⟩
  rw [← hD] at hHeld fr pa pb Ap Aq ⊢
  clear hD
  refine wpAnyH_take (i := 0) (oi := { dst := some 13, op := Op.load 82 (Operand.tmp 6), type := 82, pos := "l06_point.go:31", after := #[], guard := none }) (v := _) rfl (by kernel_rfl) (by kernel_rfl) (by kernel_rfl) (fun _ _ _ h => h) (yieldsIf_load_mid (by rfl) _ _ rfl _ _ rfl (I64 q) _ (fun _ h => h.1) hu rfl iiq) (by assumption) ?_
  simp only [Act.put, List.setIfInBounds_toArray, List.set_cons_zero, List.set_cons_succ]
  refine wpAnyH_take (i := 1) (oi := { dst := some 14, op := Op.load 82 (Operand.tmp 5), type := 82, pos := "l06_point.go:31", after := #[], guard := none }) (v := _) rfl (by kernel_rfl) (by kernel_rfl) (by kernel_rfl) (fun _ _ _ h => h) (yieldsIf_load_mid (by rfl) _ _ rfl _ _ rfl (I64 p) _ (fun _ h => h.2) hu rfl iip) (by assumption) ?_
  simp only [Act.put, List.setIfInBounds_toArray, List.set_cons_zero, List.set_cons_succ]
  refine wpAnyH_take (i := 5) (oi := { dst := some 18, op := Op.load 82 (Operand.tmp 5), type := 82, pos := "l06_point.go:31", after := #[], guard := none }) (v := _) rfl (by kernel_rfl) (by kernel_rfl) (by kernel_rfl) (fun _ _ _ h => h) (yieldsIf_load_mid (by rfl) _ _ rfl _ _ rfl (I64 p) _ (fun _ h => h.2) hu rfl iip) (by assumption) ?_
  simp only [Act.put, List.setIfInBounds_toArray, List.set_cons_zero, List.set_cons_succ]
  refine wpAnyH_take (i := 6) (oi := { dst := some 19, op := Op.load 82 (Operand.tmp 6), type := 82, pos := "l06_point.go:31", after := #[], guard := none }) (v := _) rfl (by kernel_rfl) (by kernel_rfl) (by kernel_rfl) (fun _ _ _ h => h) (yieldsIf_load_mid (by rfl) _ _ rfl _ _ rfl (I64 q) _ (fun _ h => h.1) hu rfl iiq) (by assumption) ?_
  simp only [Act.put, List.setIfInBounds_toArray, List.set_cons_zero, List.set_cons_succ]
  refine wpAnyH_ready (rs := [2]) (by kernel_rfl) (by simp) (AllReadyH.cons (o := { dst := some 15, op := Op.call { callee := Callee.value (Operand.func 110), args := #[Operand.tmp 13, Operand.tmp 14], argTypes := #[82, 82] }, type := 82, pos := "l06_point.go:31", after := #[{ on := 0, ground := Ground.data }, { on := 1, ground := Ground.data }], guard := none }) rfl (fun K hK => ?_) AllReadyH.nil)
  go_simp
  refine (Hr.out _).mono ?_
  rintro e y6 ⟨rfl, hb6⟩
  replace fr := fr.trans (hb6.mono fr.size)
  replace pa := pa.kept hb6
  replace pb := pb.kept hb6
  replace Ap := Ap.kept hb6
  replace Aq := Aq.kept hb6
  clear hb6
  go_wp2_with fail
  refine hK.out _ _ ⟨arr_range Aq, arr_range Ap⟩ (fun hHeld => ?_)
  clear hK K
  refine wpAnyH_ready (rs := [3]) (by kernel_rfl) (by simp) (AllReadyH.cons (o := { dst := some 16, op := Op.call { callee := Callee.value (Operand.func 112), args := #[Operand.const (Value.int IntKind.i64 1)], argTypes := #[3] }, type := 82, pos := "l06_point.go:31", after := #[{ on := 2, ground := Ground.chain }], guard := none }) rfl (fun K hK => ?_) AllReadyH.nil)
  go_simp
  refine (Hu.out _).mono ?_
  rintro e y7 ⟨rfl, hb7⟩
  replace fr := fr.trans (hb7.mono fr.size)
  replace pa := pa.kept hb7
  replace pb := pb.kept hb7
  replace Ap := Ap.kept hb7
  replace Aq := Aq.kept hb7
  clear hb7
  go_wp2_with fail
  refine hK.out _ _ ⟨arr_range Aq, arr_range Ap⟩ (fun hHeld => ?_)
  clear hK K
  refine wpAnyH_ready (rs := [4]) (by kernel_rfl) (by simp) (AllReadyH.cons (o := { dst := some 17, op := Op.call { callee := Callee.value (Operand.func 113), args := #[], argTypes := #[] }, type := 82, pos := "l06_point.go:31", after := #[{ on := 3, ground := Ground.chain }], guard := none }) rfl (fun K hK => ?_) AllReadyH.nil)
  go_simp
  refine (Hd.out _).mono ?_
  rintro e y8 ⟨rfl, hb8⟩
  replace fr := fr.trans (hb8.mono fr.size)
  replace pa := pa.kept hb8
  replace pb := pb.kept hb8
  replace Ap := Ap.kept hb8
  replace Aq := Aq.kept hb8
  clear hb8
  go_wp2_with fail
  refine hK.out _ _ ⟨arr_range Aq, arr_range Ap⟩ (fun hHeld => ?_)
  clear hK K
  refine wpAnyH_ready (rs := [7]) (by kernel_rfl) (by simp) (AllReadyH.cons (o := { dst := some 20, op := Op.call { callee := Callee.value (Operand.func 109), args := #[Operand.tmp 18, Operand.tmp 19], argTypes := #[82, 82] }, type := 82, pos := "l06_point.go:31", after := #[{ on := 5, ground := Ground.data }, { on := 6, ground := Ground.data }, { on := 4, ground := Ground.chain }], guard := none }) rfl (fun K hK => ?_) AllReadyH.nil)
  go_simp
  refine (Hs.out _).mono ?_
  rintro e y9 ⟨rfl, hb9⟩
  replace fr := fr.trans (hb9.mono fr.size)
  replace pa := pa.kept hb9
  replace pb := pb.kept hb9
  replace Ap := Ap.kept hb9
  replace Aq := Aq.kept hb9
  clear hb9
  go_wp2_with fail
  refine hK.out _ _ ⟨arr_range Aq, arr_range Ap⟩ (fun hHeld => ?_)
  clear hK K
  refine wpAnyH_ready (rs := [8]) (by kernel_rfl) (by simp) (AllReadyH.cons (o := { dst := some 21, op := Op.call { callee := Callee.value (Operand.func 109), args := #[Operand.tmp 17, Operand.tmp 20], argTypes := #[82, 82] }, type := 82, pos := "l06_point.go:31", after := #[{ on := 4, ground := Ground.data }, { on := 7, ground := Ground.data }, { on := 7, ground := Ground.chain }], guard := none }) rfl (fun K hK => ?_) AllReadyH.nil)
  go_simp
  refine (Ht.out _).mono ?_
  rintro e y10 ⟨rfl, hb10⟩
  replace fr := fr.trans (hb10.mono fr.size)
  replace pa := pa.kept hb10
  replace pb := pb.kept hb10
  replace Ap := Ap.kept hb10
  replace Aq := Aq.kept hb10
  clear hb10
  go_wp2_with fail
  refine hK.out _ _ ⟨arr_range Aq, arr_range Ap⟩ (fun hHeld => ?_)
  clear hK K
  refine wpAnyH_ready (rs := [9]) (by kernel_rfl) (by simp) (AllReadyH.cons (o := { dst := some 22, op := Op.call { callee := Callee.value (Operand.func 111), args := #[Operand.tmp 16, Operand.tmp 21], argTypes := #[82, 82] }, type := 82, pos := "l06_point.go:31", after := #[{ on := 3, ground := Ground.data }, { on := 8, ground := Ground.data }, { on := 8, ground := Ground.chain }], guard := none }) rfl (fun K hK => ?_) AllReadyH.nil)
  go_simp
  refine (Hv.out _).mono ?_
  rintro e y11 ⟨rfl, hb11⟩
  replace fr := fr.trans (hb11.mono fr.size)
  replace pa := pa.kept hb11
  replace pb := pb.kept hb11
  replace Ap := Ap.kept hb11
  replace Aq := Aq.kept hb11
  clear hb11
  go_wp2_with fail
  refine hK.out _ _ ⟨arr_range Aq, arr_range Ap⟩ (fun hHeld => ?_)
  clear hK K
  refine wpAnyH_ready (rs := [10]) (by kernel_rfl) (by simp) (AllReadyH.cons (o := { dst := some 23, op := Op.binOp BinOp.eql 82 (Operand.tmp 15) (Operand.tmp 22) 82, type := 4, pos := "l06_point.go:31", after := #[{ on := 2, ground := Ground.data }, { on := 9, ground := Ground.data }], guard := none }) rfl (fun K hK => ?_) AllReadyH.nil)
  go_simp
  refine hK.out _ _ ⟨arr_range Aq, arr_range Ap⟩ (fun hHeld => ?_)
  clear hK K
  refine wpAnyH_ready (rs := [11]) (by kernel_rfl) (by simp) (AllReadyH.cons (o := { dst := some 4, op := Op.assign (Operand.tmp 23), type := 4, pos := "l06_point.go:31", after := #[{ on := 10, ground := Ground.data }, { on := 9, ground := Ground.chain }, { on := 0, ground := Ground.phase }, { on := 1, ground := Ground.phase }, { on := 2, ground := Ground.phase }, { on := 3, ground := Ground.phase }, { on := 4, ground := Ground.phase }, { on := 5, ground := Ground.phase }, { on := 6, ground := Ground.phase }, { on := 7, ground := Ground.phase }, { on := 8, ground := Ground.phase }, { on := 9, ground := Ground.phase }, { on := 10, ground := Ground.phase }], guard := none }) rfl (fun K hK => ?_) AllReadyH.nil)
  go_simp
  refine hK.out _ _ ⟨arr_range Aq, arr_range Ap⟩ (fun hHeld => ?_)
  clear hK K
  refine wpAnyH_done (by kernel_rfl) ?_ _
  go_wp2
  go_ret
  exact ⟨rfl, fr⟩
end Go.Proofs.YtoblilngppjmhaaDoor
namespace Go.Proofs.YtoblilngppjmhaaDoor
open Go.RowKit
set_option maxRecDepth 100000
set_option maxHeartbeats 4000000
set_option linter.unusedSectionVars false

/-- A list as a number of the field. -/
def fl (l : List Int) : KF := fe (val l)
theorem fl_red (x : Int) : fl (red x) = fe x := by unfold fl; rw [val_red, fe_mod]
theorem fl_inj {a b : List Int} (ha : feOk a = true) (hb : feOk b = true) (h : fl a = fl b) : a = b := by
  obtain ⟨a1, a2, a3⟩ := (feOk_iff a).1 ha
  obtain ⟨b1, b2, b3⟩ := (feOk_iff b).1 hb
  have na := val_nonneg (fun x hx => (a2 x hx).1)
  have nb := val_nonneg (fun x hx => (b2 x hx).1)
  have e := fe_eq.1 h
  rw [Int.emod_eq_of_lt na a3, Int.emod_eq_of_lt nb b3] at e
  have la := lim_val a a2
  have lb := lim_val b b2
  rw [a1] at la
  rw [b1] at lb
  rw [← la, ← lb, e]
/-- The list of a number of the field. -/
def cx (k : KF) : List Int := lim 16 (k.val : Int)
theorem cx_lt (k : KF) : 0 ≤ (k.val : Int) ∧ (k.val : Int) < P25519 := ⟨Int.natCast_nonneg _, by rw [← pN_int]; exact Int.ofNat_lt.2 k.isLt⟩
theorem cx_val (k : KF) : val (cx k) = (k.val : Int) := by
  have h := cx_lt k
  unfold cx
  rw [val_lim, p256]
  have h2 := h.2
  unfold P25519 at h2
  exact Int.emod_eq_of_lt h.1 (Int.lt_trans h2 (by decide))
theorem cx_ok (k : KF) : feOk (cx k) = true := (feOk_iff _).2 ⟨lim_len _ _, lim_lm _ _, by rw [cx_val]; exact (cx_lt k).2⟩
theorem fl_cx (k : KF) : fl (cx k) = k := by unfold fl; rw [cx_val, fe_back]
theorem cx_fl {l : List Int} (h : feOk l = true) : cx (fl l) = l := fl_inj (cx_ok _) h (fl_cx _)
theorem DL_val : val DL = (dN : Int) := by decide
section
variable [NeZero pN]
theorem fl_DL : fl DL = dK := by unfold fl dK; rw [DL_val]
theorem fl_one : fl (lim 16 1) = 1 := by
  have h : val (lim 16 1) = 1 := by decide
  unfold fl; rw [h, fe_one]
theorem fl_zero : fl (lim 16 0) = 0 := by
  have h : val (lim 16 0) = 0 := by decide
  unfold fl; rw [h, fe_zero]
theorem fl_mul (x y : List Int) : fl (red (val x * val y)) = fl x * fl y := by rw [fl_red, fe_mul]; rfl
theorem fl_add (x y : List Int) : fl (red (val x + val y)) = fl x + fl y := by rw [fl_red, fe_add]; rfl
theorem fl_sub (x y : List Int) : fl (red (val x - val y)) = fl x - fl y := by rw [fl_red, fe_sub]; rfl
theorem fl_inv (c : List Int) : fl (invF c) = ivK (fl c) := by
  unfold invF
  rw [fl_red]
  exact (ivK_fe (val c)).symm
/-- What a point in the long form stands for. -/
def Ext6 (P : E4) (p : KF × KF) : Prop := Ext (fl P.a) (fl P.b) (fl P.c) (fl P.t) p
theorem ext6_make (x y : List Int) : Ext6 (mk6 x y) (fl x, fl y) := by
  have h := Ext.make crvK (fl x) (fl y)
  unfold Ext6
  show Ext (fl x) (fl y) (fl (lim 16 1)) (fl (red (val x * val y))) _
  rw [fl_one, fl_mul]
  exact h
theorem ext6_add {P Q : E4} {p q : KF × KF} (h1 : Ext6 P p) (h2 : Ext6 Q q) (o1 : On dK p) (o2 : On dK q) : Ext6 (add6 P Q) (pAdd dK ivK p q) := by
  unfold Ext6 add6
  simp only [fl_mul, fl_add, fl_sub, fl_DL]
  exact Ext.add crvK h1 h2 o1 o2 rfl rfl rfl rfl rfl rfl rfl rfl
theorem ext6_flat {P : E4} {p : KF × KF} (h : Ext6 P p) : flx P = cx p.1 ∧ fly P = cx p.2 := by
  have hf := Ext.flat crvK h
  constructor
  · refine fl_inj (ok_red _) (cx_ok _) ?_
    unfold flx
    rw [fl_mul, fl_inv, fl_cx]; exact hf.1
  · refine fl_inj (ok_red _) (cx_ok _) ?_
    unfold fly
    rw [fl_mul, fl_inv, fl_cx]; exact hf.2
theorem onB_iff (x y : List Int) : onB x y = true ↔ On dK (fl x, fl y) := by
  unfold onB On
  rw [decide_eq_true_eq]
  have e1 : fl (onL x y) = fl y * fl y - fl x * fl x := by unfold onL; rw [fl_sub, fl_mul, fl_mul]
  have e2 : fl (onR x y) = 1 + dK * (fl x * fl x * (fl y * fl y)) := by unfold onR; rw [fl_add, fl_mul, fl_mul, fl_mul, fl_mul, fl_one, fl_DL]
  constructor
  · intro h
    have := congrArg fl h
    rw [e1, e2] at this
    show fl y * fl y - fl x * fl x = 1 + dK * (fl x * fl x) * (fl y * fl y)
    rw [this]
    grind
  · intro h
    refine fl_inj (ok_red _) (ok_red _) ?_
    show fl (onL x y) = fl (onR x y)
    rw [e1, e2]
    have h' : fl y * fl y - fl x * fl x = 1 + dK * (fl x * fl x) * (fl y * fl y) := h
    rw [h']
    grind
end
end Go.Proofs.YtoblilngppjmhaaDoor
