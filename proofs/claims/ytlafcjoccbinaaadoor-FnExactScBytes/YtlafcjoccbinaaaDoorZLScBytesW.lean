/-
  What is proved here: the exact law of ScBytes returns true at every argument, and writes into nothing that was there; where the program's variables hold what its text lays into them.
-/
import Derived.Test.YtlafcjoccbinaaaDoorZXa
import Derived.Test.YtlafcjoccbinaaaDoorZKs
import Derived.Test.YtlafcjoccbinaaaDoorZKl
import Derived.Test.YtlafcjoccbinaaaDoorZC
import Derived.Test.YtlafcjoccbinaaaDoorZQh
namespace Go.Proofs.YtlafcjoccbinaaaDoor
open Go.RowKit
set_option maxRecDepth 100000

set_option maxHeartbeats 8000000 in
theorem walk_fnExactScBytes (w : World) (aA : Option Addr) (nA cA : Nat) (xsA : List Int) (hA : Is w aA nA cA xsA) (hmA : nA ≤ 9223372036854775807) (hV : Vr w 0 (I64 OL)) :
    Calls Tryd.prog 10 #[.agg #[.slice aA nA cA]] w fun e w' => e = .returned (.bool true) ∧ Below w.heap.size w w' := by
  obtain ⟨L, hL⟩ : ∃ L, L = btFO xsA := ⟨_, rfl⟩
  have HS : Hid (∀ (aA : Option Addr) (cA : Nat) (Z : World), Is Z aA nA cA xsA → Calls Tryd.prog 35 #[.agg #[.slice aA nA cA]] Z fun e w' => ∃ v, e = .returned v ∧ w'.ownsRow Z.heap.size 5 1 v L.length (U8 L) ∧ Below Z.heap.size Z w') := by
    unfold Hid; intro aA cA Z hA; rw [hL]; exact specScBytes aA nA cA xsA Z hA 
  have HI : Hid (∀ (aA : Option Addr) (cA : Nat) (Z : World), Is Z aA nA cA xsA → Vr Z 0 (I64 OL) → Calls Tryd.prog 16 #[.agg #[.slice aA nA cA]] Z fun e w' => ∃ v, e = .returned v ∧ w'.ownsRow Z.heap.size 5 1 v L.length (U8 L) ∧ Below Z.heap.size Z w') := by
    unfold Hid; intro aA cA Z hA vhV; rw [hL]; exact implScBytes aA nA cA xsA Z hA  vhV
  have HLb : Hid (∀ x ∈ L, 0 ≤ x ∧ x < 256) := by unfold Hid; rw [hL]; exact btFO_byte xsA
  have hml : L.length ≤ 32 := by rw [hL]; exact btFO_le xsA
  obtain ⟨m, hm⟩ : ∃ m, m = L.length := ⟨_, rfl⟩
  rw [← hm] at hml
  have HM : Hid (L.length = m) := hm.symm
  have HXA : Hid _ := hA.2.2.2.1
  clear hL hm
  have h0w := hV.lt
  obtain ⟨V0, hV0⟩ : ∃ V, V = w.alloc (.cells #[.slice aA nA cA] 37) := ⟨_, rfl⟩
  have B : Below w.heap.size w V0 := by rw [hV0]; exact (Below.refl _ _).alloc (Nat.le_refl _) _
  have AA : Arr V0 w.heap.size 37 [.slice aA nA cA] := by rw [hV0]; exact Arr.new _ _ _
  have z0 : V0.heap.size = w.heap.size + 1 := by rw [hV0]; simp
  replace hV := hV.kept (B)
  go_enter Tryd.func10, Tryd.ntmps10
  have cAA := cell1 AA
  rw [hV0] at cAA
  go_wp2_with fail
  rw [← hV0]
  clear cAA hV0
  refine (szScC aA nA cA 1048576 _ (by omega) (by omega) hmA).mono ?_
  rintro e w1 ⟨rA, rfl, hrA, hb1⟩
  have z1 := hb1.size
  replace B := B.trans (hb1.mono B.size)
  replace AA := AA.kept hb1
  replace hV := hV.kept hb1
  clear hb1
  rcases hrA with rfl | ⟨hrA, hsA, htA⟩
  · go_wp2
    go_ret
    exact ⟨rfl, B⟩
  have hnlA : ¬ (rA < 0) := by omega
  have cAA := cell1 AA
  go_wp2_with fail
  clear cAA
  refine (toScC aA nA cA xsA _ (hA.below B) (by omega)).mono ?_
  rintro e w2 ⟨yA6, kA6, rfl, _, hxyA6, hb2⟩
  have z2 := hb2.size
  replace B := B.trans (hb2.mono B.size)
  replace AA := AA.kept hb2
  replace hV := hV.kept hb2
  clear hb2
  go_wp2_with fail
  refine (HS.out yA6 kA6 _ hxyA6 ).mono ?_
  rintro e w3 ⟨v6, rfl, o6, hb3⟩
  have z3 := hb3.size
  replace B := B.trans (hb3.mono B.size)
  replace AA := AA.kept hb3
  replace hV := hV.kept hb3
  replace hxyA6 := hxyA6.below hb3
  clear hb3
  clear hxyA6
  rw [HM.out] at o6
  have io6 := In.of o6
  obtain ⟨a6, c6, rfl, _, _⟩ := Bs.own o6 HLb.out
  clear HS
  have cAA := cell1 AA
  go_wp2_with fail
  clear cAA
  refine (toScC aA nA cA xsA _ (hA.below B) (by omega)).mono ?_
  rintro e w4 ⟨pA, qA, rfl, oxA, hxpA, hb4⟩
  have z4 := hb4.size
  replace B := B.trans (hb4.mono B.size)
  replace AA := AA.kept hb4
  replace hV := hV.kept hb4
  replace o6 := own_below o6 hb4
  clear hb4
  clear hxpA
  have ioxA := In.of oxA
  obtain ⟨V5, hV5⟩ : ∃ V, V = w4.alloc (.cells #[.slice pA nA qA] 25) := ⟨_, rfl⟩
  have bV : Below w4.heap.size w4 V5 := by rw [hV5]; exact (Below.refl _ _).alloc (Nat.le_refl _) _
  have z5 : V5.heap.size = w4.heap.size + 1 := by rw [hV5]; simp
  have ExA : Arr V5 w4.heap.size 25 [.slice pA nA qA] := by rw [hV5]; exact Arr.new w4 [.slice pA nA qA] _
  replace B := B.trans (bV.mono B.size)
  replace AA := AA.kept bV
  replace hV := hV.kept bV
  replace o6 := own_below o6 bV
  replace oxA := own_below oxA bV
  clear bV
  have cExA := cell1 ExA
  rw [hV5] at cExA
  go_wp2_with fail
  rw [← hV5]
  clear cExA hV5
  refine (HI.out pA qA _ (is_of_own oxA HXA.out) hV).mono ?_
  rintro e w6 ⟨v10, rfl, o10, hb6⟩
  have z6 := hb6.size
  replace B := B.trans (hb6.mono B.size)
  replace AA := AA.kept hb6
  replace hV := hV.kept hb6
  replace o6 := own_below o6 hb6
  replace oxA := own_below oxA hb6
  replace ExA := ExA.kept hb6
  clear hb6
  rw [HM.out] at o10
  have io10 := In.of o10
  obtain ⟨a10, c10, rfl, _, _⟩ := Bs.own o10 HLb.out
  go_wp2_with fail
  refine (eqB a10 a6 m c10 c6 L _ (bs_of_own o10 HLb.out) (bs_of_own o6 HLb.out) (by omega)).mono ?_
  rintro e w7 ⟨q7, rfl, hq7⟩
  have hb7 : Below w6.heap.size w6 w7 := by rw [hq7]; exact bel_drewN _ _
  have z7 := hb7.size
  replace B := B.trans (hb7.mono B.size)
  replace AA := AA.kept hb7
  replace hV := hV.kept hb7
  replace o6 := own_below o6 hb7
  replace oxA := own_below oxA hb7
  replace ExA := ExA.kept hb7
  replace o10 := own_below o10 hb7
  clear hb7 hq7
  have cExA := cell1 ExA
  have cAA := cell1 AA
  go_wp2
  clear cExA cAA
  have bD : Below w7.heap.size w7 w7.drew := (Below.refl _ _).drew
  replace B := B.trans (bD.mono B.size)
  replace AA := AA.kept bD
  replace hV := hV.kept bD
  replace o6 := own_below o6 bD
  replace oxA := own_below oxA bD
  replace ExA := ExA.kept bD
  replace o10 := own_below o10 bD
  clear bD
  have huE : Tryd.prog.underlying 25 = some _ := Tryd.underlying25
  have huL : Tryd.prog.underlying 37 = some _ := Tryd.underlying37
  refine wp_region_held_drew (S := fun W => W.rangeAt (w4.heap.size) 0 [.slice pA nA qA] ∧ W.rangeAt (w.heap.size) 0 [.slice aA nA cA]) (by kernel_rfl) ⟨range1 ExA, range1 AA⟩ (fun hHeld => ?_)
  obtain ⟨wDA, hD⟩ : ∃ V, V = w7.drew := ⟨_, rfl⟩
  rw [← hD] at hHeld B AA hV o6 oxA ExA o10 ⊢
  have zDA : wDA.heap.size ≤ w7.heap.size ∧ w7.heap.size ≤ wDA.heap.size := by rw [hD]; exact ⟨Nat.le_refl _, Nat.le_refl _⟩
  clear hD
  refine wpAnyH_take (i := 0) (oi := { dst := some 27, op := Op.load 25 (Operand.tmp 5), type := 25, pos := "exact.go:2684", after := #[], guard := none }) (v := _) rfl (by kernel_rfl) (by kernel_rfl) (by kernel_rfl) (fun _ _ _ h => h) (yieldsIf_load_mid (by rfl) _ _ rfl _ _ rfl ([.slice pA nA qA]) _ (fun _ h => h.1) huE rfl infoSc) (by assumption) ?_
  simp only [Act.put, List.setIfInBounds_toArray, List.set_cons_zero, List.set_cons_succ]
  refine wpAnyH_take (i := 1) (oi := { dst := some 28, op := Op.load 37 (Operand.tmp 1), type := 37, pos := "exact.go:2684", after := #[], guard := none }) (v := _) rfl (by kernel_rfl) (by kernel_rfl) (by kernel_rfl) (fun _ _ _ h => h) (yieldsIf_load_mid (by rfl) _ _ rfl _ _ rfl ([.slice aA nA cA]) _ (fun _ h => h.2) huL rfl infoScL) (by assumption) ?_
  simp only [Act.put, List.setIfInBounds_toArray, List.set_cons_zero, List.set_cons_succ]
  clear huE huL
  refine wpAnyH_ready (rs := [2]) (by kernel_rfl) (by simp) (AllReadyH.cons (o := { dst := some 29, op := Op.call { callee := Callee.value (Operand.func 24), args := #[Operand.tmp 28], argTypes := #[37] }, type := 25, pos := "exact.go:2684", after := #[{ on := 1, ground := Ground.data }], guard := none }) rfl (fun K hK => ?_) AllReadyH.nil)
  go_simp
  refine (toScC aA nA cA xsA _ (hA.below B) (by omega)).mono ?_
  rintro e w8 ⟨sA, tA, rfl, _, hxsA, hb8⟩
  have z8 := hb8.size
  replace B := B.trans (hb8.mono B.size)
  replace AA := AA.kept hb8
  replace hV := hV.kept hb8
  replace o6 := own_below o6 hb8
  replace oxA := own_below oxA hb8
  replace ExA := ExA.kept hb8
  replace o10 := own_below o10 hb8
  clear hb8
  go_wp2_with fail
  refine hK.out _ _ ⟨range1 ExA, range1 AA⟩ (fun hHeld => ?_)
  clear hK K
  refine wpAnyH_ready (rs := [3]) (by kernel_rfl) (by simp) (AllReadyH.cons (o := { dst := some 30, op := Op.call { callee := Callee.value (Operand.func 25), args := #[Operand.tmp 27, Operand.tmp 29], argTypes := #[25, 25] }, type := 4, pos := "exact.go:2684", after := #[{ on := 0, ground := Ground.data }, { on := 2, ground := Ground.data }, { on := 2, ground := Ground.chain }], guard := none }) rfl (fun K hK => ?_) AllReadyH.nil)
  go_simp
  refine (eqScC pA sA nA qA tA xsA _ (is_of_own oxA HXA.out) hxsA (by omega)).mono ?_
  rintro e w9 ⟨rfl, hb9⟩
  have z9 := hb9.size
  replace B := B.trans (hb9.mono B.size)
  replace AA := AA.kept hb9
  replace hV := hV.kept hb9
  replace o6 := own_below o6 hb9
  replace oxA := own_below oxA hb9
  replace ExA := ExA.kept hb9
  replace o10 := own_below o10 hb9
  replace hxsA := hxsA.below hb9
  clear hb9
  clear hxsA
  go_wp2_with fail
  refine hK.out _ _ ⟨range1 ExA, range1 AA⟩ (fun hHeld => ?_)
  clear hK K
  refine wpAnyH_ready (rs := [4]) (by kernel_rfl) (by simp) (AllReadyH.cons (o := { dst := some 31, op := Op.unOp UnOp.not 4 (Operand.tmp 30), type := 4, pos := "exact.go:2684", after := #[{ on := 3, ground := Ground.data }], guard := none }) rfl (fun K hK => ?_) AllReadyH.nil)
  go_simp
  refine hK.out _ _ ⟨range1 ExA, range1 AA⟩ (fun hHeld => ?_)
  clear hK K
  refine wpAnyH_done (by kernel_rfl) ?_ _
  clear hHeld
  have cExA := cell1 ExA
  go_wp2_with fail
  clear cExA
  refine (markScC _ nA _ (1) xsA _ oxA (by omega) (by omega) (by omega)).mono ?_
  rintro e w10 ⟨rfl, moxA, g10⟩
  have z10 := g10.size
  replace B := B.grown g10 B.size (fun k hk => by have := (ioxA k hk).1; omega)
  replace AA := arr_mark AA g10 ioxA (by omega)
  replace hV := vr_mark hV g10 ioxA (by omega)
  replace o6 := own_kept o6 g10 (ioxA.apart io6 (by omega))
  replace ExA := arr_mark ExA g10 ioxA (by omega)
  replace o10 := own_kept o10 g10 (ioxA.apart io10 (by omega))
  clear g10
  clear oxA moxA
  clear ExA
  have hk0 : ¬ (1 + (nA : Int) < 0) := by omega
  go_wp2_with fail
  refine (eqB a10 a6 m c10 c6 L _ (bs_of_own o10 HLb.out) (bs_of_own o6 HLb.out) (by omega)).mono ?_
  rintro e w11 ⟨q11, rfl, hq11⟩
  have hb11 : Below w10.heap.size w10 w11 := by rw [hq11]; exact bel_drewN _ _
  have z11 := hb11.size
  replace B := B.trans (hb11.mono B.size)
  replace AA := AA.kept hb11
  replace hV := hV.kept hb11
  replace o6 := own_below o6 hb11
  replace o10 := own_below o10 hb11
  clear hb11 hq11
  go_wp2_with fail
  refine (markB _ m _ 1 L _ o10 (by omega) (by omega) (by omega)).mono ?_
  rintro e w12 ⟨rfl, mo10, g12⟩
  have z12 := g12.size
  replace B := B.grown g12 B.size (fun k hk => by have := (io10 k hk).1; omega)
  replace AA := arr_mark AA g12 io10 (by omega)
  replace hV := vr_mark hV g12 io10 (by omega)
  replace o6 := own_kept o6 g12 (io10.apart io6 (by omega))
  clear g12
  replace o10 := mo10
  clear mo10
  have hm0 : ¬ ((1 : Int) + (m : Int) < 0) := by omega
  have hmm : ((1 : Int) + (m : Int) != 1 + (m : Int)) = false := by simp
  have HMB : Hid _ := marks_byte 1 m
  go_wp2_with fail
  refine (heldB a10 m c10 1 _ (bs_of_own o10 HMB.out) (by omega) (by omega) (by omega)).mono ?_
  rintro e w13 ⟨rfl, hq13⟩
  have hb13 : Below w12.heap.size w12 w13 := by rw [hq13]; exact Below.refl _ _
  have z13 := hb13.size
  replace B := B.trans (hb13.mono B.size)
  replace AA := AA.kept hb13
  replace hV := hV.kept hb13
  replace o6 := own_below o6 hb13
  replace o10 := own_below o10 hb13
  clear hb13 hq13
  have cAA := cell1 AA
  go_wp2_with fail
  clear cAA
  refine (toScC aA nA cA xsA _ (hA.below B) (by omega)).mono ?_
  rintro e w14 ⟨yA15, kA15, rfl, _, hxyA15, hb14⟩
  have z14 := hb14.size
  replace B := B.trans (hb14.mono B.size)
  replace AA := AA.kept hb14
  replace hV := hV.kept hb14
  replace o6 := own_below o6 hb14
  replace o10 := own_below o10 hb14
  clear hb14
  go_wp2_with fail
  refine (HI.out yA15 kA15 _ hxyA15 hV).mono ?_
  rintro e w15 ⟨v15, rfl, o15, hb15⟩
  have z15 := hb15.size
  replace B := B.trans (hb15.mono B.size)
  replace AA := AA.kept hb15
  replace hV := hV.kept hb15
  replace o6 := own_below o6 hb15
  replace o10 := own_below o10 hb15
  replace hxyA15 := hxyA15.below hb15
  clear hb15
  clear hxyA15
  rw [HM.out] at o15
  have io15 := In.of o15
  obtain ⟨a15, c15, rfl, _, _⟩ := Bs.own o15 HLb.out
  go_wp2_with fail
  refine (eqB a15 a6 m c15 c6 L _ (bs_of_own o15 HLb.out) (bs_of_own o6 HLb.out) (by omega)).mono ?_
  rintro e w16 ⟨q16, rfl, hq16⟩
  have hb16 : Below w15.heap.size w15 w16 := by rw [hq16]; exact bel_drewN _ _
  have z16 := hb16.size
  replace B := B.trans (hb16.mono B.size)
  replace AA := AA.kept hb16
  replace hV := hV.kept hb16
  replace o6 := own_below o6 hb16
  replace o10 := own_below o10 hb16
  replace o15 := own_below o15 hb16
  clear hb16 hq16
  go_wp2_with fail
  refine (heldB a10 m c10 1 _ (bs_of_own o10 HMB.out) (by omega) (by omega) (by omega)).mono ?_
  rintro e w17 ⟨rfl, hq17⟩
  have hb17 : Below w16.heap.size w16 w17 := by rw [hq17]; exact Below.refl _ _
  have z17 := hb17.size
  replace B := B.trans (hb17.mono B.size)
  replace AA := AA.kept hb17
  replace hV := hV.kept hb17
  replace o6 := own_below o6 hb17
  replace o10 := own_below o10 hb17
  replace o15 := own_below o15 hb17
  clear hb17 hq17
  go_wp2
  go_ret
  exact ⟨rfl, B⟩
end Go.Proofs.YtlafcjoccbinaaaDoor
