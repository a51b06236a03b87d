/-
  What is proved here: the exact law of PtTwice returns true at every argument, and writes into nothing that was there; where the program's variables hold what its text lays into them.
-/
import Derived.Test.YtoblilngppjmhaaDoorZUk
import Derived.Test.YtoblilngppjmhaaDoorZUj
import Derived.Test.YtoblilngppjmhaaDoorZOht
namespace Go.Proofs.YtoblilngppjmhaaDoor
open Go.RowKit
set_option maxRecDepth 100000

set_option maxHeartbeats 8000000 in
theorem walk_fnExactPtTwice (w : World) (aA : Option Addr) (nA cA : Nat) (xsA : List Int) (bA : Option Addr) (jA dA : Nat) (ysA : List Int) (hA : Is w aA nA cA xsA) (gA : Is w bA jA dA ysA) (hmA : nA ≤ 9223372036854775807) (kmA : jA ≤ 9223372036854775807) (kVv : Vr w 4 (I64 PL)) (kDv : Vr w 2 (I64 DL)) :
  Calls Tryd.prog 13 #[.agg #[.slice aA nA cA, .slice bA jA dA]] w fun e w' => e = .returned (.bool true) ∧ Below w.heap.size w w' := by
 obtain ⟨R, hR⟩ : ∃ R, R = ptOk xsA ysA := ⟨_, rfl⟩
 obtain ⟨L, hL⟩ : ∃ L, L = ptx R (add6 (mk6 xsA ysA) (mk6 xsA ysA)) := ⟨_, rfl⟩
 obtain ⟨M, hM⟩ : ∃ M, M = pty R (add6 (mk6 xsA ysA) (mk6 xsA ysA)) := ⟨_, rfl⟩
 have HS : Hid (∀ (aA : Option Addr) (cA : Nat) (bA : Option Addr) (dA : Nat) (Z : World), Is Z aA nA cA xsA → Is Z bA jA dA ysA → Calls Tryd.prog 52 #[.agg #[.slice aA nA cA, .slice bA jA dA]] Z fun e w' => ∃ v, e = .returned (.tuple #[v, .bool R]) ∧ PtT 3 Z w' v L M ∧ Below Z.heap.size Z w') := by
  unfold Hid; intro aA cA bA dA Z h g; rw [hL, hM, hR]; exact specPtTwice aA nA cA xsA bA jA dA ysA Z h g
 have HI : Hid (∀ (aA : Option Addr) (cA : Nat) (bA : Option Addr) (dA : Nat) (Z : World), Is Z aA nA cA xsA → Is Z bA jA dA ysA → Vr Z 4 (I64 PL) → Vr Z 2 (I64 DL) → Calls Tryd.prog 20 #[.agg #[.slice aA nA cA, .slice bA jA dA]] Z fun e w' => ∃ v, e = .returned (.tuple #[v, .bool R]) ∧ PtT 70 Z w' v L M ∧ Below Z.heap.size Z w') := by
  unfold Hid; intro aA cA bA dA Z h g vkVv vkDv; rw [hL, hM, hR]; exact implPtTwice aA nA cA xsA bA jA dA ysA Z h g vkVv vkDv
 have HBL : Hid (∀ x ∈ L, -9223372036854775808 ≤ x ∧ x ≤ 9223372036854775807) := by unfold Hid; rw [hL]; exact ptx_int _ _
 have hmx : L.length ≤ 32 := by rw [hL]; exact ptx_le _ _
 obtain ⟨mx, hex⟩ : ∃ m, m = L.length := ⟨_, rfl⟩
 rw [← hex] at hmx
 have Hx : Hid (L.length = mx) := hex.symm
 have HBM : Hid (∀ x ∈ M, -9223372036854775808 ≤ x ∧ x ≤ 9223372036854775807) := by unfold Hid; rw [hM]; exact pty_int _ _
 have hmy : M.length ≤ 32 := by rw [hM]; exact pty_le _ _
 obtain ⟨my, hey⟩ : ∃ m, m = M.length := ⟨_, rfl⟩
 rw [← hey] at hmy
 have Hy : Hid (M.length = my) := hey.symm
 clear hR hL hM hex hey
 have hRR : (R != R) = false := by simp
 have HXx : Hid _ := hA.2.2.2.1
 have HXy : Hid _ := gA.2.2.2.1
 have h0wkVv := kVv.lt
 have h0wkDv := kDv.lt
 obtain ⟨V0, hV0⟩ : ∃ V, V = w.alloc (.cells #[.slice aA nA cA, .slice bA jA dA] 52) := ⟨_, rfl⟩
 have B : Below w.heap.size w V0 := by rw [hV0]; exact (Below.refl _ _).alloc (Nat.le_refl _) _
 have AA : Arr V0 w.heap.size 52 [.slice aA nA cA, .slice bA jA dA] := by rw [hV0]; exact Arr.new _ [.slice aA nA cA, .slice bA jA dA] _
 have z0 : V0.heap.size = w.heap.size + 1 := by rw [hV0]; simp
 replace kVv := kVv.kept B
 replace kDv := kDv.kept B
 go_enter Tryd.func13, Tryd.ntmps13
 have LAA := AA
 rw [hV0] at LAA
 go_wp2_with (first
  | (refine wpList_load_row rfl 52 _ rfl (w.heap.size) rfl 52 ([Value.slice aA nA cA, Value.slice bA jA dA]).toArray (0, 0) _ LAA Tryd.underlying52 rfl infoPtL ?_))
 rw [← hV0]
 clear LAA hV0
 refine (szPtC aA nA cA bA jA dA 1048576 _ (by omega) (by omega) hmA kmA).mono ?_
 rintro e w1 ⟨rA, rfl, hrA, hb1⟩
 have z1 := hb1.size
 replace B := B.trans (hb1.mono B.size)
 replace AA := AA.kept hb1
 replace kVv := kVv.kept hb1
 replace kDv := kDv.kept hb1
 clear hb1
 rcases hrA with rfl | ⟨hrA, hsA, htA, huA⟩
 ·go_wp2
  go_ret
  exact ⟨rfl, B⟩
 have hnlA : ¬ (rA < 0) := by omega
 go_wp2_with (first
  | (refine wpList_load_row rfl 52 _ rfl (w.heap.size) rfl 52 ([Value.slice aA nA cA, Value.slice bA jA dA]).toArray (0, 0) _ AA Tryd.underlying52 rfl infoPtL ?_))
 refine (toPtC aA nA cA xsA bA jA dA ysA _ (hA.below B) (gA.below B) (by omega) (by omega)).mono ?_
 rintro e w2 ⟨aq, cq, bq, dq, rfl, oqx, oqy, apq, hb2⟩
 have z2 := hb2.size
 replace B := B.trans (hb2.mono B.size)
 replace AA := AA.kept hb2
 replace kVv := kVv.kept hb2
 replace kDv := kDv.kept hb2
 clear hb2
 have ioqx := In.of oqx
 have ioqy := In.of oqy
 go_wp2_with fail
 refine (HS.out aq cq bq dq _ (is_of_own oqx HXx.out) (is_of_own oqy HXy.out) ).mono ?_
 rintro e w3 ⟨v6, rfl, ⟨a6, c6, b6, d6, rfl, o6x, o6y, ap6⟩, hb3⟩
 have z3 := hb3.size
 replace B := B.trans (hb3.mono B.size)
 replace AA := AA.kept hb3
 replace kVv := kVv.kept hb3
 replace kDv := kDv.kept hb3
 replace oqx := own_below oqx hb3
 replace oqy := own_below oqy hb3
 clear hb3
 clear oqx
 clear oqy
 clear HS
 rw [Hx.out] at o6x ap6 ⊢
 rw [Hy.out] at o6y ap6 ⊢
 have io6x := In.of o6x
 have io6y := In.of o6y
 obtain ⟨bV, E6, A0, z4⟩ := laid_two w3 27 (.slice none 0 0) (.slice none 0 0) (.slice a6 mx c6) (.slice b6 my d6)
 obtain ⟨V4, hV4⟩ : ∃ V, V = (w3.alloc (.cells #[.slice none 0 0, .slice none 0 0] 27)).setRow w3.heap.size ([Value.slice a6 mx c6, Value.slice b6 my d6] : List Value).toArray := ⟨_, rfl⟩
 rw [← hV4] at bV E6 z4
 replace B := B.trans (bV.mono B.size)
 replace AA := AA.kept bV
 replace kVv := kVv.kept bV
 replace kDv := kDv.kept bV
 replace o6x := own_below o6x bV
 replace o6y := own_below o6y bV
 clear bV
 go_wp2_with (first
  | (refine wpList_store_row rfl 27 _ _ rfl w3.heap.size ([Value.slice a6 mx c6, Value.slice b6 my d6]).toArray rfl rfl 27 _ A0 infoPt rfl (by simp [Value.oneCell']) ?_; rw [← hV4]; clear hV4 A0)
  | (refine wpList_load_row rfl 52 _ rfl (w.heap.size) rfl 52 ([Value.slice aA nA cA, Value.slice bA jA dA]).toArray (0, 0) _ AA Tryd.underlying52 rfl infoPtL ?_))
 refine (toPtC aA nA cA xsA bA jA dA ysA _ (hA.below B) (gA.below B) (by omega) (by omega)).mono ?_
 rintro e w5 ⟨ap, cp, bp, dp, rfl, opx, opy, app, hb5⟩
 have z5 := hb5.size
 replace B := B.trans (hb5.mono B.size)
 replace AA := AA.kept hb5
 replace kVv := kVv.kept hb5
 replace kDv := kDv.kept hb5
 replace o6x := own_below o6x hb5
 replace o6y := own_below o6y hb5
 replace E6 := E6.kept hb5
 clear hb5
 have iopx := In.of opx
 have iopy := In.of opy
 obtain ⟨bV, Ep, A0, z6⟩ := laid_two w5 27 (.slice none 0 0) (.slice none 0 0) (.slice ap nA cp) (.slice bp jA dp)
 obtain ⟨V6, hV6⟩ : ∃ V, V = (w5.alloc (.cells #[.slice none 0 0, .slice none 0 0] 27)).setRow w5.heap.size ([Value.slice ap nA cp, Value.slice bp jA dp] : List Value).toArray := ⟨_, rfl⟩
 rw [← hV6] at bV Ep z6
 replace B := B.trans (bV.mono B.size)
 replace AA := AA.kept bV
 replace kVv := kVv.kept bV
 replace kDv := kDv.kept bV
 replace o6x := own_below o6x bV
 replace o6y := own_below o6y bV
 replace E6 := E6.kept bV
 replace opx := own_below opx bV
 replace opy := own_below opy bV
 clear bV
 go_wp2_with (first
  | (refine wpList_store_row rfl 27 _ _ rfl w5.heap.size ([Value.slice ap nA cp, Value.slice bp jA dp]).toArray rfl rfl 27 _ A0 infoPt rfl (by simp [Value.oneCell']) ?_; rw [← hV6]; clear hV6 A0)
  | (refine wpList_load_row rfl 27 _ rfl (w5.heap.size) rfl 27 ([Value.slice ap nA cp, Value.slice bp jA dp]).toArray (0, 0) _ Ep Tryd.underlying27 rfl infoPt ?_))
 refine (HI.out ap cp bp dp _ (is_of_own opx HXx.out) (is_of_own opy HXy.out) kVv kDv).mono ?_
 rintro e w7 ⟨v10, rfl, ⟨a10, c10, b10, d10, rfl, o10x, o10y, ap10⟩, hb7⟩
 have z7 := hb7.size
 replace B := B.trans (hb7.mono B.size)
 replace AA := AA.kept hb7
 replace kVv := kVv.kept hb7
 replace kDv := kDv.kept hb7
 replace o6x := own_below o6x hb7
 replace o6y := own_below o6y hb7
 replace E6 := E6.kept hb7
 replace opx := own_below opx hb7
 replace opy := own_below opy hb7
 replace Ep := Ep.kept hb7
 clear hb7
 rw [Hx.out] at o10x ap10 ⊢
 rw [Hy.out] at o10y ap10 ⊢
 have io10x := In.of o10x
 have io10y := In.of o10y
 obtain ⟨bV, E10, A0, z8⟩ := laid_two w7 27 (.slice none 0 0) (.slice none 0 0) (.slice a10 mx c10) (.slice b10 my d10)
 obtain ⟨V8, hV8⟩ : ∃ V, V = (w7.alloc (.cells #[.slice none 0 0, .slice none 0 0] 27)).setRow w7.heap.size ([Value.slice a10 mx c10, Value.slice b10 my d10] : List Value).toArray := ⟨_, rfl⟩
 rw [← hV8] at bV E10 z8
 replace B := B.trans (bV.mono B.size)
 replace AA := AA.kept bV
 replace kVv := kVv.kept bV
 replace kDv := kDv.kept bV
 replace o6x := own_below o6x bV
 replace o6y := own_below o6y bV
 replace E6 := E6.kept bV
 replace opx := own_below opx bV
 replace opy := own_below opy bV
 replace Ep := Ep.kept bV
 replace o10x := own_below o10x bV
 replace o10y := own_below o10y bV
 clear bV
 go_wp2_with (first
  | (refine wpList_store_row rfl 27 _ _ rfl w7.heap.size ([Value.slice a10 mx c10, Value.slice b10 my d10]).toArray rfl rfl 27 _ A0 infoPt rfl (by simp [Value.oneCell']) ?_; rw [← hV8]; clear hV8 A0)
  | (refine wpList_load_row rfl 27 _ rfl (w7.heap.size) rfl 27 ([Value.slice a10 mx c10, Value.slice b10 my d10]).toArray (0, 0) _ E10 Tryd.underlying27 rfl infoPt ?_)
  | (refine wpList_load_row rfl 27 _ rfl (w3.heap.size) rfl 27 ([Value.slice a6 mx c6, Value.slice b6 my d6]).toArray (0, 0) _ E6 Tryd.underlying27 rfl infoPt ?_))
 refine (eqPtC a10 a6 mx c10 c6 L b10 b6 my d10 d6 M _ (is_of_own o10x HBL.out) (is_of_own o6x HBL.out) (is_of_own o10y HBM.out) (is_of_own o6y HBM.out) (by omega) (by omega)).mono ?_
 rintro e w9 ⟨rfl, hb9⟩
 have z9 := hb9.size
 replace B := B.trans (hb9.mono B.size)
 replace AA := AA.kept hb9
 replace kVv := kVv.kept hb9
 replace kDv := kDv.kept hb9
 replace o6x := own_below o6x hb9
 replace o6y := own_below o6y hb9
 replace E6 := E6.kept hb9
 replace opx := own_below opx hb9
 replace opy := own_below opy hb9
 replace Ep := Ep.kept hb9
 replace o10x := own_below o10x hb9
 replace o10y := own_below o10y hb9
 replace E10 := E10.kept hb9
 clear hb9
 go_wp2
 have bD : Below w9.heap.size w9 w9.drew := (Below.refl _ _).drew
 replace B := B.trans (bD.mono B.size)
 replace AA := AA.kept bD
 replace kVv := kVv.kept bD
 replace kDv := kDv.kept bD
 replace o6x := own_below o6x bD
 replace o6y := own_below o6y bD
 replace E6 := E6.kept bD
 replace opx := own_below opx bD
 replace opy := own_below opy bD
 replace Ep := Ep.kept bD
 replace o10x := own_below o10x bD
 replace o10y := own_below o10y bD
 replace E10 := E10.kept bD
 clear bD
 have huE : Tryd.prog.underlying 27 = some _ := Tryd.underlying27
 have huL : Tryd.prog.underlying 52 = some _ := Tryd.underlying52
 refine wp_region_held_drew (S := fun W => W.rangeAt (w5.heap.size) 0 [Value.slice ap nA cp, Value.slice bp jA dp] ∧ W.rangeAt (w.heap.size) 0 [Value.slice aA nA cA, Value.slice bA jA dA]) (by kernel_rfl) ⟨arr_range Ep, arr_range AA⟩ (fun hHeld => ?_)
 obtain ⟨wD, hD⟩ : ∃ V, V = w9.drew := ⟨_, rfl⟩
 rw [← hD] at hHeld B AA kVv kDv o6x o6y E6 opx opy Ep o10x o10y E10 ⊢
 have zD : wD.heap.size ≤ w9.heap.size ∧ w9.heap.size ≤ wD.heap.size := by rw [hD]; exact ⟨Nat.le_refl _, Nat.le_refl _⟩
 clear hD
 refine wpAnyH_take (i := 0) (oi := { dst := some 41, op := Op.load 27 (Operand.tmp 6), type := 27, pos := "exact.go:3059", after := #[], guard := none }) (v := _) rfl (by kernel_rfl) (by kernel_rfl) (by kernel_rfl) (fun _ _ _ h => h) (yieldsIf_load_mid (by rfl) _ _ rfl _ _ rfl ([Value.slice ap nA cp, Value.slice bp jA dp]) _ (fun _ h => h.1) huE rfl infoPt) (by assumption) ?_
 simp only [Act.put, List.setIfInBounds_toArray, List.set_cons_zero, List.set_cons_succ]
 refine wpAnyH_take (i := 1) (oi := { dst := some 42, op := Op.load 52 (Operand.tmp 1), type := 52, pos := "exact.go:3059", after := #[], guard := none }) (v := _) rfl (by kernel_rfl) (by kernel_rfl) (by kernel_rfl) (fun _ _ _ h => h) (yieldsIf_load_mid (by rfl) _ _ rfl _ _ rfl ([Value.slice aA nA cA, Value.slice bA jA dA]) _ (fun _ h => h.2) huL rfl infoPtL) (by assumption) ?_
 simp only [Act.put, List.setIfInBounds_toArray, List.set_cons_zero, List.set_cons_succ]
 clear huE huL
 refine wpAnyH_ready (rs := [2]) (by kernel_rfl) (by simp) (AllReadyH.cons (o := { dst := some 43, op := Op.call { callee := Callee.value (Operand.func 34), args := #[Operand.tmp 42], argTypes := #[52] }, type := 27, pos := "exact.go:3059", after := #[{ on := 1, ground := Ground.data }], guard := none }) rfl (fun K hK => ?_) AllReadyH.nil)
 go_simp
 refine (toPtC aA nA cA xsA bA jA dA ysA _ (hA.below B) (gA.below B) (by omega) (by omega)).mono ?_
 rintro e w10 ⟨ak, ck, bk, dk, rfl, okx, oky, apk, hb10⟩
 have z10 := hb10.size
 replace B := B.trans (hb10.mono B.size)
 replace AA := AA.kept hb10
 replace kVv := kVv.kept hb10
 replace kDv := kDv.kept hb10
 replace o6x := own_below o6x hb10
 replace o6y := own_below o6y hb10
 replace E6 := E6.kept hb10
 replace opx := own_below opx hb10
 replace opy := own_below opy hb10
 replace Ep := Ep.kept hb10
 replace o10x := own_below o10x hb10
 replace o10y := own_below o10y hb10
 replace E10 := E10.kept hb10
 clear hb10
 have iokx := In.of okx
 have ioky := In.of oky
 go_wp2_with fail
 refine hK.out _ _ ⟨arr_range Ep, arr_range AA⟩ (fun hHeld => ?_)
 clear hK K
 refine wpAnyH_ready (rs := [3]) (by kernel_rfl) (by simp) (AllReadyH.cons (o := { dst := some 44, op := Op.call { callee := Callee.value (Operand.func 35), args := #[Operand.tmp 41, Operand.tmp 43], argTypes := #[27, 27] }, type := 4, pos := "exact.go:3059", after := #[{ on := 0, ground := Ground.data }, { on := 2, ground := Ground.data }, { on := 2, ground := Ground.chain }], guard := none }) rfl (fun K hK => ?_) AllReadyH.nil)
 go_simp
 refine (eqPtC ap ak nA cp ck xsA bp bk jA dp dk ysA _ (is_of_own opx HXx.out) (is_of_own okx HXx.out) (is_of_own opy HXy.out) (is_of_own oky HXy.out) (by omega) (by omega)).mono ?_
 rintro e w11 ⟨rfl, hb11⟩
 have z11 := hb11.size
 replace B := B.trans (hb11.mono B.size)
 replace AA := AA.kept hb11
 replace kVv := kVv.kept hb11
 replace kDv := kDv.kept hb11
 replace o6x := own_below o6x hb11
 replace o6y := own_below o6y hb11
 replace E6 := E6.kept hb11
 replace opx := own_below opx hb11
 replace opy := own_below opy hb11
 replace Ep := Ep.kept hb11
 replace o10x := own_below o10x hb11
 replace o10y := own_below o10y hb11
 replace E10 := E10.kept hb11
 replace okx := own_below okx hb11
 replace oky := own_below oky hb11
 clear hb11
 clear okx
 clear oky
 go_wp2_with fail
 refine hK.out _ _ ⟨arr_range Ep, arr_range AA⟩ (fun hHeld => ?_)
 clear hK K
 refine wpAnyH_ready (rs := [4]) (by kernel_rfl) (by simp) (AllReadyH.cons (o := { dst := some 45, op := Op.unOp UnOp.not 4 (Operand.tmp 44), type := 4, pos := "exact.go:3059", after := #[{ on := 3, ground := Ground.data }], guard := none }) rfl (fun K hK => ?_) AllReadyH.nil)
 go_simp
 refine hK.out _ _ ⟨arr_range Ep, arr_range AA⟩ (fun hHeld => ?_)
 clear hK K
 refine wpAnyH_done (by kernel_rfl) ?_ _
 clear hHeld
 go_wp2_with (first
  | (refine wpList_load_row rfl 27 _ rfl (w5.heap.size) rfl 27 ([Value.slice ap nA cp, Value.slice bp jA dp]).toArray (0, 0) _ Ep Tryd.underlying27 rfl infoPt ?_))
 refine (markPtC _ nA (.slice ap nA cp) _ _ jA (.slice bp jA dp) _ (1) _ opx opy app (by omega) (by omega) (by omega) (by omega)).mono ?_
 rintro e w12 ⟨rfl, M12, gx, gy, nx12, ny12⟩
 have zx12 := gx.size
 have zy12 := gy.size
 replace B := B.grown gx B.size (fun k hk => by have := (iopx k hk).1; omega)
 replace B := B.grown gy B.size (fun k hk => by have := (iopy k hk).1; omega)
 replace AA := arr_mark AA gx iopx (by omega)
 replace AA := arr_mark AA gy iopy (by omega)
 replace kVv := vr_mark kVv gx iopx (by omega)
 replace kVv := vr_mark kVv gy iopy (by omega)
 replace kDv := vr_mark kDv gx iopx (by omega)
 replace kDv := vr_mark kDv gy iopy (by omega)
 replace o6x := own_kept o6x gx (iopx.apart io6x (by omega))
 replace o6x := own_kept o6x gy (iopy.apart io6x (by omega))
 replace o6y := own_kept o6y gx (iopx.apart io6y (by omega))
 replace o6y := own_kept o6y gy (iopy.apart io6y (by omega))
 replace E6 := arr_mark E6 gx iopx (by omega)
 replace E6 := arr_mark E6 gy iopy (by omega)
 replace Ep := arr_mark Ep gx iopx (by omega)
 replace Ep := arr_mark Ep gy iopy (by omega)
 replace o10x := own_kept o10x gx (iopx.apart io10x (by omega))
 replace o10x := own_kept o10x gy (iopy.apart io10x (by omega))
 replace o10y := own_kept o10y gx (iopx.apart io10y (by omega))
 replace o10y := own_kept o10y gy (iopy.apart io10y (by omega))
 replace E10 := arr_mark E10 gx iopx (by omega)
 replace E10 := arr_mark E10 gy iopy (by omega)
 clear gx gy
 clear opx opy nx12 ny12
 clear Ep
 have hk0 : ¬ ((1 : Int) + (nA : Int) + (jA : Int) < 0) := by omega
 have cE100 : w12.cell? ⟨w7.heap.size, 0, none⟩ = some (Value.slice a10 mx c10) := E10.cell 0
 have cE101 : w12.cell? ⟨w7.heap.size, 1, none⟩ = some (Value.slice b10 my d10) := E10.cell 1
 have cE60 : w12.cell? ⟨w3.heap.size, 0, none⟩ = some (Value.slice a6 mx c6) := E6.cell 0
 have cE61 : w12.cell? ⟨w3.heap.size, 1, none⟩ = some (Value.slice b6 my d6) := E6.cell 1
 go_wp2_with fail
 clear cE100 cE101 cE60 cE61
 refine (eqPtC a10 a6 mx c10 c6 L b10 b6 my d10 d6 M _ (is_of_own o10x HBL.out) (is_of_own o6x HBL.out) (is_of_own o10y HBM.out) (is_of_own o6y HBM.out) (by omega) (by omega)).mono ?_
 rintro e w13 ⟨rfl, hb13⟩
 have z13 := hb13.size
 replace B := B.trans (hb13.mono B.size)
 replace AA := AA.kept hb13
 replace kVv := kVv.kept hb13
 replace kDv := kDv.kept hb13
 replace o6x := own_below o6x hb13
 replace o6y := own_below o6y hb13
 replace E6 := E6.kept hb13
 replace o10x := own_below o10x hb13
 replace o10y := own_below o10y hb13
 replace E10 := E10.kept hb13
 clear hb13
 go_wp2_with (first
  | (refine wpList_load_row rfl 27 _ rfl (w7.heap.size) rfl 27 ([Value.slice a10 mx c10, Value.slice b10 my d10]).toArray (0, 0) _ E10 Tryd.underlying27 rfl infoPt ?_))
 refine (markPtC _ mx (.slice a10 mx c10) _ _ my (.slice b10 my d10) _ (1) _ o10x o10y ap10 (by omega) (by omega) (by omega) (by omega)).mono ?_
 rintro e w14 ⟨rfl, M14, gx, gy, nx14, ny14⟩
 have zx14 := gx.size
 have zy14 := gy.size
 replace B := B.grown gx B.size (fun k hk => by have := (io10x k hk).1; omega)
 replace B := B.grown gy B.size (fun k hk => by have := (io10y k hk).1; omega)
 replace AA := arr_mark AA gx io10x (by omega)
 replace AA := arr_mark AA gy io10y (by omega)
 replace kVv := vr_mark kVv gx io10x (by omega)
 replace kVv := vr_mark kVv gy io10y (by omega)
 replace kDv := vr_mark kDv gx io10x (by omega)
 replace kDv := vr_mark kDv gy io10y (by omega)
 replace o6x := own_kept o6x gx (io10x.apart io6x (by omega))
 replace o6x := own_kept o6x gy (io10y.apart io6x (by omega))
 replace o6y := own_kept o6y gx (io10x.apart io6y (by omega))
 replace o6y := own_kept o6y gy (io10y.apart io6y (by omega))
 replace E6 := arr_mark E6 gx io10x (by omega)
 replace E6 := arr_mark E6 gy io10y (by omega)
 replace E10 := arr_mark E10 gx io10x (by omega)
 replace E10 := arr_mark E10 gy io10y (by omega)
 clear gx gy
 replace o10x := nx14
 replace o10y := ny14
 clear nx14 ny14
 have hm0 : ¬ ((1 : Int) + (mx : Int) + (my : Int) < 0) := by omega
 have hmm : ((1 : Int) + (mx : Int) + (my : Int) != 1 + (mx : Int) + (my : Int)) = false := by simp
 have HMx : Hid _ := marksI_int 1 mx (by omega) (by omega) (by omega)
 have HMy : Hid _ := marksI_int (1 + (mx : Int)) my (by omega) (by omega) (by omega)
 go_wp2_with (first
  | (refine wpList_load_row rfl 27 _ rfl (w7.heap.size) rfl 27 ([Value.slice a10 mx c10, Value.slice b10 my d10]).toArray (0, 0) _ E10 Tryd.underlying27 rfl infoPt ?_))
 refine (heldPtC a10 mx c10 b10 my d10 1 _ (is_of_own o10x HMx.out) (is_of_own o10y HMy.out) (by omega) (by omega) (by omega) (by omega)).mono ?_
 rintro e w15 ⟨rfl, hb15⟩
 have z15 := hb15.size
 replace B := B.trans (hb15.mono B.size)
 replace AA := AA.kept hb15
 replace kVv := kVv.kept hb15
 replace kDv := kDv.kept hb15
 replace o6x := own_below o6x hb15
 replace o6y := own_below o6y hb15
 replace E6 := E6.kept hb15
 replace o10x := own_below o10x hb15
 replace o10y := own_below o10y hb15
 replace E10 := E10.kept hb15
 clear hb15
 go_wp2_with (first
  | (refine wpList_load_row rfl 52 _ rfl (w.heap.size) rfl 52 ([Value.slice aA nA cA, Value.slice bA jA dA]).toArray (0, 0) _ AA Tryd.underlying52 rfl infoPtL ?_))
 refine (toPtC aA nA cA xsA bA jA dA ysA _ (hA.below B) (gA.below B) (by omega) (by omega)).mono ?_
 rintro e w16 ⟨au, cu, bu, du, rfl, oux, ouy, apu, hb16⟩
 have z16 := hb16.size
 replace B := B.trans (hb16.mono B.size)
 replace AA := AA.kept hb16
 replace kVv := kVv.kept hb16
 replace kDv := kDv.kept hb16
 replace o6x := own_below o6x hb16
 replace o6y := own_below o6y hb16
 replace E6 := E6.kept hb16
 replace o10x := own_below o10x hb16
 replace o10y := own_below o10y hb16
 replace E10 := E10.kept hb16
 clear hb16
 have ioux := In.of oux
 have iouy := In.of ouy
 go_wp2_with fail
 refine (HI.out au cu bu du _ (is_of_own oux HXx.out) (is_of_own ouy HXy.out) kVv kDv).mono ?_
 rintro e w17 ⟨v15, rfl, ⟨a15, c15, b15, d15, rfl, o15x, o15y, ap15⟩, hb17⟩
 have z17 := hb17.size
 replace B := B.trans (hb17.mono B.size)
 replace AA := AA.kept hb17
 replace kVv := kVv.kept hb17
 replace kDv := kDv.kept hb17
 replace o6x := own_below o6x hb17
 replace o6y := own_below o6y hb17
 replace E6 := E6.kept hb17
 replace o10x := own_below o10x hb17
 replace o10y := own_below o10y hb17
 replace E10 := E10.kept hb17
 replace oux := own_below oux hb17
 replace ouy := own_below ouy hb17
 clear hb17
 clear oux
 clear ouy
 rw [Hx.out] at o15x ap15 ⊢
 rw [Hy.out] at o15y ap15 ⊢
 have io15x := In.of o15x
 have io15y := In.of o15y
 obtain ⟨bV, E15, A0, z18⟩ := laid_two w17 27 (.slice none 0 0) (.slice none 0 0) (.slice a15 mx c15) (.slice b15 my d15)
 obtain ⟨V18, hV18⟩ : ∃ V, V = (w17.alloc (.cells #[.slice none 0 0, .slice none 0 0] 27)).setRow w17.heap.size ([Value.slice a15 mx c15, Value.slice b15 my d15] : List Value).toArray := ⟨_, rfl⟩
 rw [← hV18] at bV E15 z18
 replace B := B.trans (bV.mono B.size)
 replace AA := AA.kept bV
 replace kVv := kVv.kept bV
 replace kDv := kDv.kept bV
 replace o6x := own_below o6x bV
 replace o6y := own_below o6y bV
 replace E6 := E6.kept bV
 replace o10x := own_below o10x bV
 replace o10y := own_below o10y bV
 replace E10 := E10.kept bV
 replace o15x := own_below o15x bV
 replace o15y := own_below o15y bV
 clear bV
 go_wp2_with (first
  | (refine wpList_store_row rfl 27 _ _ rfl w17.heap.size ([Value.slice a15 mx c15, Value.slice b15 my d15]).toArray rfl rfl 27 _ A0 infoPt rfl (by simp [Value.oneCell']) ?_; rw [← hV18]; clear hV18 A0)
  | (refine wpList_load_row rfl 27 _ rfl (w17.heap.size) rfl 27 ([Value.slice a15 mx c15, Value.slice b15 my d15]).toArray (0, 0) _ E15 Tryd.underlying27 rfl infoPt ?_)
  | (refine wpList_load_row rfl 27 _ rfl (w3.heap.size) rfl 27 ([Value.slice a6 mx c6, Value.slice b6 my d6]).toArray (0, 0) _ E6 Tryd.underlying27 rfl infoPt ?_))
 refine (eqPtC a15 a6 mx c15 c6 L b15 b6 my d15 d6 M _ (is_of_own o15x HBL.out) (is_of_own o6x HBL.out) (is_of_own o15y HBM.out) (is_of_own o6y HBM.out) (by omega) (by omega)).mono ?_
 rintro e w19 ⟨rfl, hb19⟩
 have z19 := hb19.size
 replace B := B.trans (hb19.mono B.size)
 replace AA := AA.kept hb19
 replace kVv := kVv.kept hb19
 replace kDv := kDv.kept hb19
 replace o6x := own_below o6x hb19
 replace o6y := own_below o6y hb19
 replace E6 := E6.kept hb19
 replace o10x := own_below o10x hb19
 replace o10y := own_below o10y hb19
 replace E10 := E10.kept hb19
 replace o15x := own_below o15x hb19
 replace o15y := own_below o15y hb19
 replace E15 := E15.kept hb19
 clear hb19
 go_wp2_with (first
  | (refine wpList_load_row rfl 27 _ rfl (w7.heap.size) rfl 27 ([Value.slice a10 mx c10, Value.slice b10 my d10]).toArray (0, 0) _ E10 Tryd.underlying27 rfl infoPt ?_))
 refine (heldPtC a10 mx c10 b10 my d10 1 _ (is_of_own o10x HMx.out) (is_of_own o10y HMy.out) (by omega) (by omega) (by omega) (by omega)).mono ?_
 rintro e w20 ⟨rfl, hb20⟩
 have z20 := hb20.size
 replace B := B.trans (hb20.mono B.size)
 replace AA := AA.kept hb20
 replace kVv := kVv.kept hb20
 replace kDv := kDv.kept hb20
 replace o6x := own_below o6x hb20
 replace o6y := own_below o6y hb20
 replace E6 := E6.kept hb20
 replace o10x := own_below o10x hb20
 replace o10y := own_below o10y hb20
 replace E10 := E10.kept hb20
 replace o15x := own_below o15x hb20
 replace o15y := own_below o15y hb20
 replace E15 := E15.kept hb20
 clear hb20
 go_wp2
 go_ret
 exact ⟨rfl, B⟩
end Go.Proofs.YtoblilngppjmhaaDoor
