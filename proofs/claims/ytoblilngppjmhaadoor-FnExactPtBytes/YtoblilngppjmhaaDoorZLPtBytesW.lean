/-
  What is proved here: the exact law of PtBytes returns true at every argument, and writes into nothing that was there; where the program's variables hold what its text lays into them.
-/
import Derived.Test.YtoblilngppjmhaaDoorZUk
import Derived.Test.YtoblilngppjmhaaDoorZUj
import Derived.Test.YtoblilngppjmhaaDoorZOhy
import Derived.Test.YtoblilngppjmhaaDoorZSmE
namespace Go.Proofs.YtoblilngppjmhaaDoor
open Go.RowKit
set_option maxRecDepth 100000

set_option maxHeartbeats 8000000 in
theorem walk_fnExactPtBytes (w : World) (aA : Option Addr) (nA cA : Nat) (xsA : List Int) (bA : Option Addr) (jA dA : Nat) (ysA : List Int) (hA : Is w aA nA cA xsA) (gA : Is w bA jA dA ysA) (hmA : nA ≤ 9223372036854775807) (kmA : jA ≤ 9223372036854775807) (kVv : Vr w 4 (I64 PL)) (kDv : Vr w 2 (I64 DL)) :
  Calls Tryd.prog 11 #[.agg #[.slice aA nA cA, .slice bA jA dA]] w fun e w' => e = .returned (.bool true) ∧ Below w.heap.size w w' := by
 obtain ⟨L, hL⟩ : ∃ L, L = ptBF xsA ysA := ⟨_, rfl⟩
 have HS : Hid (∀ (aA : Option Addr) (cA : Nat) (bA : Option Addr) (dA : Nat) (Z : World), Is Z aA nA cA xsA → Is Z bA jA dA ysA → Calls Tryd.prog 46 #[.agg #[.slice aA nA cA, .slice bA jA dA]] Z fun e w' => ∃ v, e = .returned v ∧ w'.ownsRow Z.heap.size 5 1 v L.length (U8 L) ∧ Below Z.heap.size Z w') := by
  unfold Hid; intro aA cA bA dA Z h g; rw [hL]; exact specPtBytes aA nA cA xsA bA jA dA ysA Z h g
 have HI : Hid (∀ (aA : Option Addr) (cA : Nat) (bA : Option Addr) (dA : Nat) (Z : World), Is Z aA nA cA xsA → Is Z bA jA dA ysA → Vr Z 4 (I64 PL) → Vr Z 2 (I64 DL) → Calls Tryd.prog 29 #[.agg #[.slice aA nA cA, .slice bA jA dA]] Z fun e w' => ∃ v, e = .returned v ∧ w'.ownsRow Z.heap.size 5 1 v L.length (U8 L) ∧ Below Z.heap.size Z w') := by
  unfold Hid; intro aA cA bA dA Z h g vkVv vkDv; rw [hL]; exact implPtBytes aA nA cA xsA bA jA dA ysA Z h g vkVv vkDv
 have HLb : Hid (∀ x ∈ L, 0 ≤ x ∧ x < 256) := by unfold Hid; rw [hL]; exact ptBF_byte _ _
 have hml : L.length ≤ 32 := by rw [hL]; exact ptBF_le _ _
 obtain ⟨m, hm⟩ : ∃ m, m = L.length := ⟨_, rfl⟩
 rw [← hm] at hml
 have HM : Hid (L.length = m) := hm.symm
 clear hL hm
 have HXx : Hid _ := hA.2.2.2.1
 have HXy : Hid _ := gA.2.2.2.1
 have h0wkVv := kVv.lt
 have h0wkDv := kDv.lt
 obtain ⟨V0, hV0⟩ : ∃ V, V = w.alloc (.cells #[.slice aA nA cA, .slice bA jA dA] 52) := ⟨_, rfl⟩
 have B : Below w.heap.size w V0 := by rw [hV0]; exact (Below.refl _ _).alloc (Nat.le_refl _) _
 have AA : Arr V0 w.heap.size 52 [.slice aA nA cA, .slice bA jA dA] := by rw [hV0]; exact Arr.new _ [.slice aA nA cA, .slice bA jA dA] _
 have z0 : V0.heap.size = w.heap.size + 1 := by rw [hV0]; simp
 replace kVv := kVv.kept B
 replace kDv := kDv.kept B
 go_enter Tryd.func11, Tryd.ntmps11
 have LAA := AA
 rw [hV0] at LAA
 go_wp2_with (first
  | (refine wpList_load_row rfl 52 _ rfl (w.heap.size) rfl 52 ([Value.slice aA nA cA, Value.slice bA jA dA]).toArray (0, 0) _ LAA Tryd.underlying52 rfl infoPtL ?_))
 rw [← hV0]
 clear LAA hV0
 refine (szPtC aA nA cA bA jA dA 1048576 _ (by omega) (by omega) hmA kmA).mono ?_
 rintro e w1 ⟨rA, rfl, hrA, hb1⟩
 have z1 := hb1.size
 replace B := B.trans (hb1.mono B.size)
 replace AA := AA.kept hb1
 replace kVv := kVv.kept hb1
 replace kDv := kDv.kept hb1
 clear hb1
 rcases hrA with rfl | ⟨hrA, hsA, htA, huA⟩
 ·go_wp2
  go_ret
  exact ⟨rfl, B⟩
 have hnlA : ¬ (rA < 0) := by omega
 go_wp2_with (first
  | (refine wpList_load_row rfl 52 _ rfl (w.heap.size) rfl 52 ([Value.slice aA nA cA, Value.slice bA jA dA]).toArray (0, 0) _ AA Tryd.underlying52 rfl infoPtL ?_))
 refine (toPtC aA nA cA xsA bA jA dA ysA _ (hA.below B) (gA.below B) (by omega) (by omega)).mono ?_
 rintro e w2 ⟨aq, cq, bq, dq, rfl, oqx, oqy, apq, hb2⟩
 have z2 := hb2.size
 replace B := B.trans (hb2.mono B.size)
 replace AA := AA.kept hb2
 replace kVv := kVv.kept hb2
 replace kDv := kDv.kept hb2
 clear hb2
 have ioqx := In.of oqx
 have ioqy := In.of oqy
 go_wp2_with fail
 refine (HS.out aq cq bq dq _ (is_of_own oqx HXx.out) (is_of_own oqy HXy.out) ).mono ?_
 rintro e w3 ⟨v6, rfl, o6, hb3⟩
 have z3 := hb3.size
 replace B := B.trans (hb3.mono B.size)
 replace AA := AA.kept hb3
 replace kVv := kVv.kept hb3
 replace kDv := kDv.kept hb3
 replace oqx := own_below oqx hb3
 replace oqy := own_below oqy hb3
 clear hb3
 clear oqx
 clear oqy
 clear HS
 rw [HM.out] at o6
 have io6 := In.of o6
 obtain ⟨a6, c6, rfl, _, _⟩ := Bs.own o6 HLb.out
 go_wp2_with (first
  | (refine wpList_load_row rfl 52 _ rfl (w.heap.size) rfl 52 ([Value.slice aA nA cA, Value.slice bA jA dA]).toArray (0, 0) _ AA Tryd.underlying52 rfl infoPtL ?_))
 refine (toPtC aA nA cA xsA bA jA dA ysA _ (hA.below B) (gA.below B) (by omega) (by omega)).mono ?_
 rintro e w4 ⟨ap, cp, bp, dp, rfl, opx, opy, app, hb4⟩
 have z4 := hb4.size
 replace B := B.trans (hb4.mono B.size)
 replace AA := AA.kept hb4
 replace kVv := kVv.kept hb4
 replace kDv := kDv.kept hb4
 replace o6 := own_below o6 hb4
 clear hb4
 have iopx := In.of opx
 have iopy := In.of opy
 obtain ⟨bV, Ep, A0, z5⟩ := laid_two w4 27 (.slice none 0 0) (.slice none 0 0) (.slice ap nA cp) (.slice bp jA dp)
 obtain ⟨V5, hV5⟩ : ∃ V, V = (w4.alloc (.cells #[.slice none 0 0, .slice none 0 0] 27)).setRow w4.heap.size ([Value.slice ap nA cp, Value.slice bp jA dp] : List Value).toArray := ⟨_, rfl⟩
 rw [← hV5] at bV Ep z5
 replace B := B.trans (bV.mono B.size)
 replace AA := AA.kept bV
 replace kVv := kVv.kept bV
 replace kDv := kDv.kept bV
 replace o6 := own_below o6 bV
 replace opx := own_below opx bV
 replace opy := own_below opy bV
 clear bV
 go_wp2_with (first
  | (refine wpList_store_row rfl 27 _ _ rfl w4.heap.size ([Value.slice ap nA cp, Value.slice bp jA dp]).toArray rfl rfl 27 _ A0 infoPt rfl (by simp [Value.oneCell']) ?_; rw [← hV5]; clear hV5 A0)
  | (refine wpList_load_row rfl 27 _ rfl (w4.heap.size) rfl 27 ([Value.slice ap nA cp, Value.slice bp jA dp]).toArray (0, 0) _ Ep Tryd.underlying27 rfl infoPt ?_))
 refine (HI.out ap cp bp dp _ (is_of_own opx HXx.out) (is_of_own opy HXy.out) kVv kDv).mono ?_
 rintro e w6 ⟨v10, rfl, o10, hb6⟩
 have z6 := hb6.size
 replace B := B.trans (hb6.mono B.size)
 replace AA := AA.kept hb6
 replace kVv := kVv.kept hb6
 replace kDv := kDv.kept hb6
 replace o6 := own_below o6 hb6
 replace opx := own_below opx hb6
 replace opy := own_below opy hb6
 replace Ep := Ep.kept hb6
 clear hb6
 rw [HM.out] at o10
 have io10 := In.of o10
 obtain ⟨a10, c10, rfl, _, _⟩ := Bs.own o10 HLb.out
 go_wp2_with fail
 refine (eqB a10 a6 m c10 c6 L _ (bs_of_own o10 HLb.out) (bs_of_own o6 HLb.out) (by omega)).mono ?_
 rintro e w7 ⟨_, rfl, hq7⟩
 have hb7 : Below w6.heap.size w6 w7 := by rw [hq7]; exact bel_drewN _ _
 have z7 := hb7.size
 replace B := B.trans (hb7.mono B.size)
 replace AA := AA.kept hb7
 replace kVv := kVv.kept hb7
 replace kDv := kDv.kept hb7
 replace o6 := own_below o6 hb7
 replace opx := own_below opx hb7
 replace opy := own_below opy hb7
 replace Ep := Ep.kept hb7
 replace o10 := own_below o10 hb7
 clear hb7 hq7
 go_wp2
 have bD : Below w7.heap.size w7 w7.drew := (Below.refl _ _).drew
 replace B := B.trans (bD.mono B.size)
 replace AA := AA.kept bD
 replace kVv := kVv.kept bD
 replace kDv := kDv.kept bD
 replace o6 := own_below o6 bD
 replace opx := own_below opx bD
 replace opy := own_below opy bD
 replace Ep := Ep.kept bD
 replace o10 := own_below o10 bD
 clear bD
 have huE : Tryd.prog.underlying 27 = some _ := Tryd.underlying27
 have huL : Tryd.prog.underlying 52 = some _ := Tryd.underlying52
 refine wp_region_held_drew (S := fun W => W.rangeAt (w4.heap.size) 0 [Value.slice ap nA cp, Value.slice bp jA dp] ∧ W.rangeAt (w.heap.size) 0 [Value.slice aA nA cA, Value.slice bA jA dA]) (by kernel_rfl) ⟨arr_range Ep, arr_range AA⟩ (fun hHeld => ?_)
 obtain ⟨wD, hD⟩ : ∃ V, V = w7.drew := ⟨_, rfl⟩
 rw [← hD] at hHeld B AA kVv kDv o6 opx opy Ep o10 ⊢
 have zD : wD.heap.size ≤ w7.heap.size ∧ w7.heap.size ≤ wD.heap.size := by rw [hD]; exact ⟨Nat.le_refl _, Nat.le_refl _⟩
 clear hD
 refine wpAnyH_take (i := 0) (oi := { dst := some 27, op := Op.load 27 (Operand.tmp 5), type := 27, pos := "exact.go:2969", after := #[], guard := none }) (v := _) rfl (by kernel_rfl) (by kernel_rfl) (by kernel_rfl) (fun _ _ _ h => h) (yieldsIf_load_mid (by rfl) _ _ rfl _ _ rfl ([Value.slice ap nA cp, Value.slice bp jA dp]) _ (fun _ h => h.1) huE rfl infoPt) (by assumption) ?_
 simp only [Act.put, List.setIfInBounds_toArray, List.set_cons_zero, List.set_cons_succ]
 refine wpAnyH_take (i := 1) (oi := { dst := some 28, op := Op.load 52 (Operand.tmp 1), type := 52, pos := "exact.go:2969", after := #[], guard := none }) (v := _) rfl (by kernel_rfl) (by kernel_rfl) (by kernel_rfl) (fun _ _ _ h => h) (yieldsIf_load_mid (by rfl) _ _ rfl _ _ rfl ([Value.slice aA nA cA, Value.slice bA jA dA]) _ (fun _ h => h.2) huL rfl infoPtL) (by assumption) ?_
 simp only [Act.put, List.setIfInBounds_toArray, List.set_cons_zero, List.set_cons_succ]
 clear huE huL
 refine wpAnyH_ready (rs := [2]) (by kernel_rfl) (by simp) (AllReadyH.cons (o := { dst := some 29, op := Op.call { callee := Callee.value (Operand.func 34), args := #[Operand.tmp 28], argTypes := #[52] }, type := 27, pos := "exact.go:2969", after := #[{ on := 1, ground := Ground.data }], guard := none }) rfl (fun K hK => ?_) AllReadyH.nil)
 go_simp
 refine (toPtC aA nA cA xsA bA jA dA ysA _ (hA.below B) (gA.below B) (by omega) (by omega)).mono ?_
 rintro e w8 ⟨ak, ck, bk, dk, rfl, okx, oky, apk, hb8⟩
 have z8 := hb8.size
 replace B := B.trans (hb8.mono B.size)
 replace AA := AA.kept hb8
 replace kVv := kVv.kept hb8
 replace kDv := kDv.kept hb8
 replace o6 := own_below o6 hb8
 replace opx := own_below opx hb8
 replace opy := own_below opy hb8
 replace Ep := Ep.kept hb8
 replace o10 := own_below o10 hb8
 clear hb8
 have iokx := In.of okx
 have ioky := In.of oky
 go_wp2_with fail
 refine hK.out _ _ ⟨arr_range Ep, arr_range AA⟩ (fun hHeld => ?_)
 clear hK K
 refine wpAnyH_ready (rs := [3]) (by kernel_rfl) (by simp) (AllReadyH.cons (o := { dst := some 30, op := Op.call { callee := Callee.value (Operand.func 35), args := #[Operand.tmp 27, Operand.tmp 29], argTypes := #[27, 27] }, type := 4, pos := "exact.go:2969", after := #[{ on := 0, ground := Ground.data }, { on := 2, ground := Ground.data }, { on := 2, ground := Ground.chain }], guard := none }) rfl (fun K hK => ?_) AllReadyH.nil)
 go_simp
 refine (eqPtC ap ak nA cp ck xsA bp bk jA dp dk ysA _ (is_of_own opx HXx.out) (is_of_own okx HXx.out) (is_of_own opy HXy.out) (is_of_own oky HXy.out) (by omega) (by omega)).mono ?_
 rintro e w9 ⟨rfl, hb9⟩
 have z9 := hb9.size
 replace B := B.trans (hb9.mono B.size)
 replace AA := AA.kept hb9
 replace kVv := kVv.kept hb9
 replace kDv := kDv.kept hb9
 replace o6 := own_below o6 hb9
 replace opx := own_below opx hb9
 replace opy := own_below opy hb9
 replace Ep := Ep.kept hb9
 replace o10 := own_below o10 hb9
 replace okx := own_below okx hb9
 replace oky := own_below oky hb9
 clear hb9
 clear okx
 clear oky
 go_wp2_with fail
 refine hK.out _ _ ⟨arr_range Ep, arr_range AA⟩ (fun hHeld => ?_)
 clear hK K
 refine wpAnyH_ready (rs := [4]) (by kernel_rfl) (by simp) (AllReadyH.cons (o := { dst := some 31, op := Op.unOp UnOp.not 4 (Operand.tmp 30), type := 4, pos := "exact.go:2969", after := #[{ on := 3, ground := Ground.data }], guard := none }) rfl (fun K hK => ?_) AllReadyH.nil)
 go_simp
 refine hK.out _ _ ⟨arr_range Ep, arr_range AA⟩ (fun hHeld => ?_)
 clear hK K
 refine wpAnyH_done (by kernel_rfl) ?_ _
 clear hHeld
 go_wp2_with (first
  | (refine wpList_load_row rfl 27 _ rfl (w4.heap.size) rfl 27 ([Value.slice ap nA cp, Value.slice bp jA dp]).toArray (0, 0) _ Ep Tryd.underlying27 rfl infoPt ?_))
 refine (markPtC _ nA (.slice ap nA cp) _ _ jA (.slice bp jA dp) _ (1) _ opx opy app (by omega) (by omega) (by omega) (by omega)).mono ?_
 rintro e w10 ⟨rfl, M10, gx, gy, nx10, ny10⟩
 have zx10 := gx.size
 have zy10 := gy.size
 replace B := B.grown gx B.size (fun k hk => by have := (iopx k hk).1; omega)
 replace B := B.grown gy B.size (fun k hk => by have := (iopy k hk).1; omega)
 replace AA := arr_mark AA gx iopx (by omega)
 replace AA := arr_mark AA gy iopy (by omega)
 replace kVv := vr_mark kVv gx iopx (by omega)
 replace kVv := vr_mark kVv gy iopy (by omega)
 replace kDv := vr_mark kDv gx iopx (by omega)
 replace kDv := vr_mark kDv gy iopy (by omega)
 replace o6 := own_kept o6 gx (iopx.apart io6 (by omega))
 replace o6 := own_kept o6 gy (iopy.apart io6 (by omega))
 replace Ep := arr_mark Ep gx iopx (by omega)
 replace Ep := arr_mark Ep gy iopy (by omega)
 replace o10 := own_kept o10 gx (iopx.apart io10 (by omega))
 replace o10 := own_kept o10 gy (iopy.apart io10 (by omega))
 clear gx gy
 clear opx opy nx10 ny10
 clear Ep
 have hk0 : ¬ ((1 : Int) + (nA : Int) + (jA : Int) < 0) := by omega
 go_wp2_with fail
 refine (eqB a10 a6 m c10 c6 L _ (bs_of_own o10 HLb.out) (bs_of_own o6 HLb.out) (by omega)).mono ?_
 rintro e w11 ⟨_, rfl, hq11⟩
 have hb11 : Below w10.heap.size w10 w11 := by rw [hq11]; exact bel_drewN _ _
 have z11 := hb11.size
 replace B := B.trans (hb11.mono B.size)
 replace AA := AA.kept hb11
 replace kVv := kVv.kept hb11
 replace kDv := kDv.kept hb11
 replace o6 := own_below o6 hb11
 replace o10 := own_below o10 hb11
 clear hb11 hq11
 go_wp2_with fail
 refine (markB _ m _ 1 L _ o10 (by omega) (by omega) (by omega)).mono ?_
 rintro e w12 ⟨rfl, m10, gx⟩
 have z12 := gx.size
 replace B := B.grown gx B.size (fun k hk => by have := (io10 k hk).1; omega)
 replace AA := arr_mark AA gx io10 (by omega)
 replace kVv := vr_mark kVv gx io10 (by omega)
 replace kDv := vr_mark kDv gx io10 (by omega)
 replace o6 := own_kept o6 gx (io10.apart io6 (by omega))
 clear gx
 replace o10 := m10
 clear m10
 have hm0 : ¬ ((1 : Int) + (m : Int) < 0) := by omega
 have hmm : ((1 : Int) + (m : Int) != 1 + (m : Int)) = false := by simp
 have HMB : Hid _ := marks_byte 1 m
 go_wp2_with fail
 refine (heldB a10 m c10 1 _ (bs_of_own o10 HMB.out) (by omega) (by omega) (by omega)).mono ?_
 rintro e w13 ⟨rfl, hq13⟩
 have hb13 : Below w12.heap.size w12 w13 := by rw [hq13]; exact Below.refl _ _
 have z13 := hb13.size
 replace B := B.trans (hb13.mono B.size)
 replace AA := AA.kept hb13
 replace kVv := kVv.kept hb13
 replace kDv := kDv.kept hb13
 replace o6 := own_below o6 hb13
 replace o10 := own_below o10 hb13
 clear hb13 hq13
 go_wp2_with (first
  | (refine wpList_load_row rfl 52 _ rfl (w.heap.size) rfl 52 ([Value.slice aA nA cA, Value.slice bA jA dA]).toArray (0, 0) _ AA Tryd.underlying52 rfl infoPtL ?_))
 refine (toPtC aA nA cA xsA bA jA dA ysA _ (hA.below B) (gA.below B) (by omega) (by omega)).mono ?_
 rintro e w14 ⟨au, cu, bu, du, rfl, oux, ouy, apu, hb14⟩
 have z14 := hb14.size
 replace B := B.trans (hb14.mono B.size)
 replace AA := AA.kept hb14
 replace kVv := kVv.kept hb14
 replace kDv := kDv.kept hb14
 replace o6 := own_below o6 hb14
 replace o10 := own_below o10 hb14
 clear hb14
 have ioux := In.of oux
 have iouy := In.of ouy
 go_wp2_with fail
 refine (HI.out au cu bu du _ (is_of_own oux HXx.out) (is_of_own ouy HXy.out) kVv kDv).mono ?_
 rintro e w15 ⟨v15, rfl, o15, hb15⟩
 have z15 := hb15.size
 replace B := B.trans (hb15.mono B.size)
 replace AA := AA.kept hb15
 replace kVv := kVv.kept hb15
 replace kDv := kDv.kept hb15
 replace o6 := own_below o6 hb15
 replace o10 := own_below o10 hb15
 replace oux := own_below oux hb15
 replace ouy := own_below ouy hb15
 clear hb15
 clear oux
 clear ouy
 rw [HM.out] at o15
 have io15 := In.of o15
 obtain ⟨a15, c15, rfl, _, _⟩ := Bs.own o15 HLb.out
 go_wp2_with fail
 refine (eqB a15 a6 m c15 c6 L _ (bs_of_own o15 HLb.out) (bs_of_own o6 HLb.out) (by omega)).mono ?_
 rintro e w16 ⟨_, rfl, hq16⟩
 have hb16 : Below w15.heap.size w15 w16 := by rw [hq16]; exact bel_drewN _ _
 have z16 := hb16.size
 replace B := B.trans (hb16.mono B.size)
 replace AA := AA.kept hb16
 replace kVv := kVv.kept hb16
 replace kDv := kDv.kept hb16
 replace o6 := own_below o6 hb16
 replace o10 := own_below o10 hb16
 replace o15 := own_below o15 hb16
 clear hb16 hq16
 go_wp2_with fail
 refine (heldB a10 m c10 1 _ (bs_of_own o10 HMB.out) (by omega) (by omega) (by omega)).mono ?_
 rintro e w17 ⟨rfl, hq17⟩
 have hb17 : Below w16.heap.size w16 w17 := by rw [hq17]; exact Below.refl _ _
 have z17 := hb17.size
 replace B := B.trans (hb17.mono B.size)
 replace AA := AA.kept hb17
 replace kVv := kVv.kept hb17
 replace kDv := kDv.kept hb17
 replace o6 := own_below o6 hb17
 replace o10 := own_below o10 hb17
 replace o15 := own_below o15 hb17
 clear hb17 hq17
 go_wp2
 go_ret
 exact ⟨rfl, B⟩
end Go.Proofs.YtoblilngppjmhaaDoor
