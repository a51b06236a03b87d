/-
  What is proved here: the exact law of PtOk returns true at every argument, and writes into nothing that was there; where the program's variables hold what its text lays into them.
-/
import Derived.Test.YtoblilngppjmhaaDoorZUk
import Derived.Test.YtoblilngppjmhaaDoorZUj
import Derived.Test.YtoblilngppjmhaaDoorZOho
namespace Go.Proofs.YtoblilngppjmhaaDoor
open Go.RowKit
set_option maxRecDepth 100000

set_option maxHeartbeats 8000000 in
theorem walk_fnExactPtOk (w : World) (aA : Option Addr) (nA cA : Nat) (xsA : List Int) (bA : Option Addr) (jA dA : Nat) (ysA : List Int) (hA : Is w aA nA cA xsA) (gA : Is w bA jA dA ysA) (hmA : nA ≤ 9223372036854775807) (kmA : jA ≤ 9223372036854775807) (kVv : Vr w 4 (I64 PL)) (kDv : Vr w 2 (I64 DL)) :
  Calls Tryd.prog 6 #[.agg #[.slice aA nA cA, .slice bA jA dA]] w fun e w' => e = .returned (.bool true) ∧ Below w.heap.size w w' := by
 obtain ⟨R, hR⟩ : ∃ R, R = ptOk xsA ysA := ⟨_, rfl⟩
 have HS : Hid (∀ (aA : Option Addr) (cA : Nat) (bA : Option Addr) (dA : Nat) (Z : World), Is Z aA nA cA xsA → Is Z bA jA dA ysA → Calls Tryd.prog 17 #[.agg #[.slice aA nA cA, .slice bA jA dA]] Z fun e w' => e = .returned (.bool R) ∧ Below Z.heap.size Z w') := by
  unfold Hid; intro aA cA bA dA Z h g; rw [hR]; exact specPtOk aA nA cA xsA bA jA dA ysA Z h g
 have HI : Hid (∀ (aA : Option Addr) (cA : Nat) (bA : Option Addr) (dA : Nat) (Z : World), Is Z aA nA cA xsA → Is Z bA jA dA ysA → Vr Z 4 (I64 PL) → Vr Z 2 (I64 DL) → Calls Tryd.prog 18 #[.agg #[.slice aA nA cA, .slice bA jA dA]] Z fun e w' => e = .returned (.bool R) ∧ Below Z.heap.size Z w') := by
  unfold Hid; intro aA cA bA dA Z h g vkVv vkDv; rw [hR]; exact implPtOk aA nA cA xsA bA jA dA ysA Z h g vkVv vkDv
 clear hR
 have hRR : (R != R) = false := by simp
 have HXx : Hid _ := hA.2.2.2.1
 have HXy : Hid _ := gA.2.2.2.1
 have h0wkVv := kVv.lt
 have h0wkDv := kDv.lt
 obtain ⟨V0, hV0⟩ : ∃ V, V = w.alloc (.cells #[.slice aA nA cA, .slice bA jA dA] 52) := ⟨_, rfl⟩
 have B : Below w.heap.size w V0 := by rw [hV0]; exact (Below.refl _ _).alloc (Nat.le_refl _) _
 have AA : Arr V0 w.heap.size 52 [.slice aA nA cA, .slice bA jA dA] := by rw [hV0]; exact Arr.new _ [.slice aA nA cA, .slice bA jA dA] _
 have z0 : V0.heap.size = w.heap.size + 1 := by rw [hV0]; simp
 replace kVv := kVv.kept B
 replace kDv := kDv.kept B
 go_enter Tryd.func6, Tryd.ntmps6
 have LAA := AA
 rw [hV0] at LAA
 go_wp2_with (first
  | (refine wpList_load_row rfl 52 _ rfl (w.heap.size) rfl 52 ([Value.slice aA nA cA, Value.slice bA jA dA]).toArray (0, 0) _ LAA Tryd.underlying52 rfl infoPtL ?_))
 rw [← hV0]
 clear LAA hV0
 refine (szPtC aA nA cA bA jA dA 1048576 _ (by omega) (by omega) hmA kmA).mono ?_
 rintro e w1 ⟨rA, rfl, hrA, hb1⟩
 have z1 := hb1.size
 replace B := B.trans (hb1.mono B.size)
 replace AA := AA.kept hb1
 replace kVv := kVv.kept hb1
 replace kDv := kDv.kept hb1
 clear hb1
 rcases hrA with rfl | ⟨hrA, hsA, htA, huA⟩
 ·go_wp2
  go_ret
  exact ⟨rfl, B⟩
 have hnlA : ¬ (rA < 0) := by omega
 go_wp2_with (first
  | (refine wpList_load_row rfl 52 _ rfl (w.heap.size) rfl 52 ([Value.slice aA nA cA, Value.slice bA jA dA]).toArray (0, 0) _ AA Tryd.underlying52 rfl infoPtL ?_))
 refine (toPtC aA nA cA xsA bA jA dA ysA _ (hA.below B) (gA.below B) (by omega) (by omega)).mono ?_
 rintro e w2 ⟨aq, cq, bq, dq, rfl, oqx, oqy, apq, hb2⟩
 have z2 := hb2.size
 replace B := B.trans (hb2.mono B.size)
 replace AA := AA.kept hb2
 replace kVv := kVv.kept hb2
 replace kDv := kDv.kept hb2
 clear hb2
 have ioqx := In.of oqx
 have ioqy := In.of oqy
 go_wp2_with fail
 refine (HS.out aq cq bq dq _ (is_of_own oqx HXx.out) (is_of_own oqy HXy.out) ).mono ?_
 rintro e w3 ⟨rfl, hb3⟩
 have z3 := hb3.size
 replace B := B.trans (hb3.mono B.size)
 replace AA := AA.kept hb3
 replace kVv := kVv.kept hb3
 replace kDv := kDv.kept hb3
 replace oqx := own_below oqx hb3
 replace oqy := own_below oqy hb3
 clear hb3
 clear oqx
 clear oqy
 clear HS
 go_wp2_with (first
  | (refine wpList_load_row rfl 52 _ rfl (w.heap.size) rfl 52 ([Value.slice aA nA cA, Value.slice bA jA dA]).toArray (0, 0) _ AA Tryd.underlying52 rfl infoPtL ?_))
 refine (toPtC aA nA cA xsA bA jA dA ysA _ (hA.below B) (gA.below B) (by omega) (by omega)).mono ?_
 rintro e w4 ⟨ap, cp, bp, dp, rfl, opx, opy, app, hb4⟩
 have z4 := hb4.size
 replace B := B.trans (hb4.mono B.size)
 replace AA := AA.kept hb4
 replace kVv := kVv.kept hb4
 replace kDv := kDv.kept hb4
 clear hb4
 have iopx := In.of opx
 have iopy := In.of opy
 obtain ⟨bV, Ep, A0, z5⟩ := laid_two w4 27 (.slice none 0 0) (.slice none 0 0) (.slice ap nA cp) (.slice bp jA dp)
 obtain ⟨V5, hV5⟩ : ∃ V, V = (w4.alloc (.cells #[.slice none 0 0, .slice none 0 0] 27)).setRow w4.heap.size ([Value.slice ap nA cp, Value.slice bp jA dp] : List Value).toArray := ⟨_, rfl⟩
 rw [← hV5] at bV Ep z5
 replace B := B.trans (bV.mono B.size)
 replace AA := AA.kept bV
 replace kVv := kVv.kept bV
 replace kDv := kDv.kept bV
 replace opx := own_below opx bV
 replace opy := own_below opy bV
 clear bV
 go_wp2_with (first
  | (refine wpList_store_row rfl 27 _ _ rfl w4.heap.size ([Value.slice ap nA cp, Value.slice bp jA dp]).toArray rfl rfl 27 _ A0 infoPt rfl (by simp [Value.oneCell']) ?_; rw [← hV5]; clear hV5 A0)
  | (refine wpList_load_row rfl 27 _ rfl (w4.heap.size) rfl 27 ([Value.slice ap nA cp, Value.slice bp jA dp]).toArray (0, 0) _ Ep Tryd.underlying27 rfl infoPt ?_))
 refine (HI.out ap cp bp dp _ (is_of_own opx HXx.out) (is_of_own opy HXy.out) kVv kDv).mono ?_
 rintro e w6 ⟨rfl, hb6⟩
 have z6 := hb6.size
 replace B := B.trans (hb6.mono B.size)
 replace AA := AA.kept hb6
 replace kVv := kVv.kept hb6
 replace kDv := kDv.kept hb6
 replace opx := own_below opx hb6
 replace opy := own_below opy hb6
 replace Ep := Ep.kept hb6
 clear hb6
 go_wp2
 have bD : Below w6.heap.size w6 w6.drew := (Below.refl _ _).drew
 replace B := B.trans (bD.mono B.size)
 replace AA := AA.kept bD
 replace kVv := kVv.kept bD
 replace kDv := kDv.kept bD
 replace opx := own_below opx bD
 replace opy := own_below opy bD
 replace Ep := Ep.kept bD
 clear bD
 have huE : Tryd.prog.underlying 27 = some _ := Tryd.underlying27
 have huL : Tryd.prog.underlying 52 = some _ := Tryd.underlying52
 refine wp_region_held_drew (S := fun W => W.rangeAt (w4.heap.size) 0 [Value.slice ap nA cp, Value.slice bp jA dp] ∧ W.rangeAt (w.heap.size) 0 [Value.slice aA nA cA, Value.slice bA jA dA]) (by kernel_rfl) ⟨arr_range Ep, arr_range AA⟩ (fun hHeld => ?_)
 obtain ⟨wD, hD⟩ : ∃ V, V = w6.drew := ⟨_, rfl⟩
 rw [← hD] at hHeld B AA kVv kDv opx opy Ep ⊢
 have zD : wD.heap.size ≤ w6.heap.size ∧ w6.heap.size ≤ wD.heap.size := by rw [hD]; exact ⟨Nat.le_refl _, Nat.le_refl _⟩
 clear hD
 refine wpAnyH_take (i := 0) (oi := { dst := some 22, op := Op.load 27 (Operand.tmp 5), type := 27, pos := "exact.go:2730", after := #[], guard := none }) (v := _) rfl (by kernel_rfl) (by kernel_rfl) (by kernel_rfl) (fun _ _ _ h => h) (yieldsIf_load_mid (by rfl) _ _ rfl _ _ rfl ([Value.slice ap nA cp, Value.slice bp jA dp]) _ (fun _ h => h.1) huE rfl infoPt) (by assumption) ?_
 simp only [Act.put, List.setIfInBounds_toArray, List.set_cons_zero, List.set_cons_succ]
 refine wpAnyH_take (i := 1) (oi := { dst := some 23, op := Op.load 52 (Operand.tmp 1), type := 52, pos := "exact.go:2730", after := #[], guard := none }) (v := _) rfl (by kernel_rfl) (by kernel_rfl) (by kernel_rfl) (fun _ _ _ h => h) (yieldsIf_load_mid (by rfl) _ _ rfl _ _ rfl ([Value.slice aA nA cA, Value.slice bA jA dA]) _ (fun _ h => h.2) huL rfl infoPtL) (by assumption) ?_
 simp only [Act.put, List.setIfInBounds_toArray, List.set_cons_zero, List.set_cons_succ]
 clear huE huL
 refine wpAnyH_ready (rs := [2]) (by kernel_rfl) (by simp) (AllReadyH.cons (o := { dst := some 24, op := Op.call { callee := Callee.value (Operand.func 34), args := #[Operand.tmp 23], argTypes := #[52] }, type := 27, pos := "exact.go:2730", after := #[{ on := 1, ground := Ground.data }], guard := none }) rfl (fun K hK => ?_) AllReadyH.nil)
 go_simp
 refine (toPtC aA nA cA xsA bA jA dA ysA _ (hA.below B) (gA.below B) (by omega) (by omega)).mono ?_
 rintro e w7 ⟨ak, ck, bk, dk, rfl, okx, oky, apk, hb7⟩
 have z7 := hb7.size
 replace B := B.trans (hb7.mono B.size)
 replace AA := AA.kept hb7
 replace kVv := kVv.kept hb7
 replace kDv := kDv.kept hb7
 replace opx := own_below opx hb7
 replace opy := own_below opy hb7
 replace Ep := Ep.kept hb7
 clear hb7
 have iokx := In.of okx
 have ioky := In.of oky
 go_wp2_with fail
 refine hK.out _ _ ⟨arr_range Ep, arr_range AA⟩ (fun hHeld => ?_)
 clear hK K
 refine wpAnyH_ready (rs := [3]) (by kernel_rfl) (by simp) (AllReadyH.cons (o := { dst := some 25, op := Op.call { callee := Callee.value (Operand.func 35), args := #[Operand.tmp 22, Operand.tmp 24], argTypes := #[27, 27] }, type := 4, pos := "exact.go:2730", after := #[{ on := 0, ground := Ground.data }, { on := 2, ground := Ground.data }, { on := 2, ground := Ground.chain }], guard := none }) rfl (fun K hK => ?_) AllReadyH.nil)
 go_simp
 refine (eqPtC ap ak nA cp ck xsA bp bk jA dp dk ysA _ (is_of_own opx HXx.out) (is_of_own okx HXx.out) (is_of_own opy HXy.out) (is_of_own oky HXy.out) (by omega) (by omega)).mono ?_
 rintro e w8 ⟨rfl, hb8⟩
 have z8 := hb8.size
 replace B := B.trans (hb8.mono B.size)
 replace AA := AA.kept hb8
 replace kVv := kVv.kept hb8
 replace kDv := kDv.kept hb8
 replace opx := own_below opx hb8
 replace opy := own_below opy hb8
 replace Ep := Ep.kept hb8
 replace okx := own_below okx hb8
 replace oky := own_below oky hb8
 clear hb8
 clear okx
 clear oky
 go_wp2_with fail
 refine hK.out _ _ ⟨arr_range Ep, arr_range AA⟩ (fun hHeld => ?_)
 clear hK K
 refine wpAnyH_ready (rs := [4]) (by kernel_rfl) (by simp) (AllReadyH.cons (o := { dst := some 26, op := Op.unOp UnOp.not 4 (Operand.tmp 25), type := 4, pos := "exact.go:2730", after := #[{ on := 3, ground := Ground.data }], guard := none }) rfl (fun K hK => ?_) AllReadyH.nil)
 go_simp
 refine hK.out _ _ ⟨arr_range Ep, arr_range AA⟩ (fun hHeld => ?_)
 clear hK K
 refine wpAnyH_done (by kernel_rfl) ?_ _
 clear hHeld
 go_wp2
 go_ret
 exact ⟨rfl, B⟩
end Go.Proofs.YtoblilngppjmhaaDoor
