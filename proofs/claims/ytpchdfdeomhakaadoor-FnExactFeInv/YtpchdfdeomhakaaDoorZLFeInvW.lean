/-
  What is proved here: the exact law of FeInv returns true at every argument, and writes into nothing that was there; where the program's variables hold what its text lays into them.
-/
import Derived.Test.YtpchdfdeomhakaaDoorZXa
import Derived.Test.YtpchdfdeomhakaaDoorZXb
import Derived.Test.YtpchdfdeomhakaaDoorZO
import Derived.Test.YtpchdfdeomhakaaDoorZJ
import Derived.Test.YtpchdfdeomhakaaDoorZJl
namespace Go.Proofs.YtpchdfdeomhakaaDoor
open Go.RowKit
set_option maxRecDepth 100000

set_option maxHeartbeats 8000000 in
theorem walk_fnExactFeInv (w : World) (aA : Option Addr) (nA cA : Nat) (xsA : List Int) (hA : Is w aA nA cA xsA) (hmA : nA ≤ 9223372036854775807) (hV : Vr w 0 (I64 PL)) :
    Calls Tryd.prog 10 #[.agg #[.slice aA nA cA]] w fun e w' => e = .returned (.bool true) ∧ Below w.heap.size w w' := by
  obtain ⟨R, hR⟩ : ∃ R, R = invOk xsA := ⟨_, rfl⟩
  obtain ⟨L, hL⟩ : ∃ L, L = invL xsA := ⟨_, rfl⟩
  have HS : Hid (∀ (aA : Option Addr) (cA : Nat) (Z : World), Is Z aA nA cA xsA → Calls Tryd.prog 41 #[.agg #[.slice aA nA cA]] Z fun e w' => ∃ v, e = .returned (.tuple #[v, .bool R]) ∧ FeIs Z w' v L ∧ Below Z.heap.size Z w') := by
    unfold Hid; intro aA cA Z hA; rw [hR, hL]; exact specFeInv aA nA cA xsA Z hA 
  have HI : Hid (∀ (aA : Option Addr) (cA : Nat) (Z : World), Is Z aA nA cA xsA → Vr Z 0 (I64 PL) → Calls Tryd.prog 24 #[.agg #[.slice aA nA cA]] Z fun e w' => ∃ v, e = .returned (.tuple #[v, .bool R]) ∧ FeT 57 Z w' v L ∧ Below Z.heap.size Z w') := by
    unfold Hid; intro aA cA Z hA vhV; rw [hR, hL]; exact implFeInv aA nA cA xsA Z hA  vhV
  have HLb : Hid (∀ x ∈ L, -9223372036854775808 ≤ x ∧ x ≤ 9223372036854775807) := by unfold Hid; rw [hL]; exact invL_int xsA
  have hml : L.length ≤ 32 := by rw [hL]; exact invL_le xsA
  obtain ⟨m, hm⟩ : ∃ m, m = L.length := ⟨_, rfl⟩
  rw [← hm] at hml
  have HM : Hid (L.length = m) := hm.symm
  have hRR : (R != R) = false := by simp
  have HXA : Hid _ := hA.2.2.2.1
  clear hR hL hm
  have h0w := hV.lt
  obtain ⟨V0, hV0⟩ : ∃ V, V = w.alloc (.cells #[.slice aA nA cA] 42) := ⟨_, rfl⟩
  have B : Below w.heap.size w V0 := by rw [hV0]; exact (Below.refl _ _).alloc (Nat.le_refl _) _
  have AA : Arr V0 w.heap.size 42 [.slice aA nA cA] := by rw [hV0]; exact Arr.new _ _ _
  have z0 : V0.heap.size = w.heap.size + 1 := by rw [hV0]; simp
  replace hV := hV.kept (B)
  go_enter Tryd.func10, Tryd.ntmps10
  have cAA := cell1 AA
  rw [hV0] at cAA
  go_wp2_with fail
  rw [← hV0]
  clear cAA hV0
  refine (szFeC aA nA cA 1048576 _ (by omega) (by omega) hmA).mono ?_
  rintro e w1 ⟨rA, rfl, hrA, hb1⟩
  have z1 := hb1.size
  replace B := B.trans (hb1.mono B.size)
  replace AA := AA.kept hb1
  replace hV := hV.kept hb1
  clear hb1
  rcases hrA with rfl | ⟨hrA, hsA, htA⟩
  · go_wp2
    go_ret
    exact ⟨rfl, B⟩
  have hnlA : ¬ (rA < 0) := by omega
  have cAA := cell1 AA
  go_wp2_with fail
  clear cAA
  refine (toFeC aA nA cA xsA _ (hA.below B) (by omega)).mono ?_
  rintro e w2 ⟨yA6, kA6, rfl, _, hxyA6, hb2⟩
  have z2 := hb2.size
  replace B := B.trans (hb2.mono B.size)
  replace AA := AA.kept hb2
  replace hV := hV.kept hb2
  clear hb2
  go_wp2_with fail
  refine (HS.out yA6 kA6 _ hxyA6 ).mono ?_
  rintro e w3 ⟨v6, rfl, ⟨a6, c6, rfl, o6⟩, hb3⟩
  have z3 := hb3.size
  replace B := B.trans (hb3.mono B.size)
  replace AA := AA.kept hb3
  replace hV := hV.kept hb3
  replace hxyA6 := hxyA6.below hb3
  clear hb3
  clear hxyA6
  rw [HM.out] at o6 ⊢
  have io6 := In.of o6
  obtain ⟨V4, hV4⟩ : ∃ V, V = w3.alloc (.cells #[.slice a6 m c6] 25) := ⟨_, rfl⟩
  have bV : Below w3.heap.size w3 V4 := by rw [hV4]; exact (Below.refl _ _).alloc (Nat.le_refl _) _
  have z4 : V4.heap.size = w3.heap.size + 1 := by rw [hV4]; simp
  have E6 : Arr V4 w3.heap.size 25 [.slice a6 m c6] := by rw [hV4]; exact Arr.new w3 [.slice a6 m c6] _
  replace B := B.trans (bV.mono B.size)
  replace AA := AA.kept bV
  replace hV := hV.kept bV
  replace o6 := own_below o6 bV
  clear bV
  clear HS
  have cAA := cell1 AA
  rw [hV4] at cAA
  go_wp2_with fail
  rw [← hV4]
  clear cAA hV4
  refine (toFeC aA nA cA xsA _ (hA.below B) (by omega)).mono ?_
  rintro e w5 ⟨pA, qA, rfl, oxA, hxpA, hb5⟩
  have z5 := hb5.size
  replace B := B.trans (hb5.mono B.size)
  replace AA := AA.kept hb5
  replace hV := hV.kept hb5
  replace o6 := own_below o6 hb5
  replace E6 := E6.kept hb5
  clear hb5
  clear hxpA
  have ioxA := In.of oxA
  obtain ⟨V6, hV6⟩ : ∃ V, V = w5.alloc (.cells #[.slice pA nA qA] 25) := ⟨_, rfl⟩
  have bV : Below w5.heap.size w5 V6 := by rw [hV6]; exact (Below.refl _ _).alloc (Nat.le_refl _) _
  have z6 : V6.heap.size = w5.heap.size + 1 := by rw [hV6]; simp
  have ExA : Arr V6 w5.heap.size 25 [.slice pA nA qA] := by rw [hV6]; exact Arr.new w5 [.slice pA nA qA] _
  replace B := B.trans (bV.mono B.size)
  replace AA := AA.kept bV
  replace hV := hV.kept bV
  replace o6 := own_below o6 bV
  replace E6 := E6.kept bV
  replace oxA := own_below oxA bV
  clear bV
  have cExA := cell1 ExA
  rw [hV6] at cExA
  go_wp2_with fail
  rw [← hV6]
  clear cExA hV6
  refine (HI.out pA qA _ (is_of_own oxA HXA.out) hV).mono ?_
  rintro e w7 ⟨v10, rfl, ⟨a10, c10, rfl, o10⟩, hb7⟩
  have z7 := hb7.size
  replace B := B.trans (hb7.mono B.size)
  replace AA := AA.kept hb7
  replace hV := hV.kept hb7
  replace o6 := own_below o6 hb7
  replace E6 := E6.kept hb7
  replace oxA := own_below oxA hb7
  replace ExA := ExA.kept hb7
  clear hb7
  rw [HM.out] at o10 ⊢
  have io10 := In.of o10
  obtain ⟨V8, hV8⟩ : ∃ V, V = w7.alloc (.cells #[.slice a10 m c10] 25) := ⟨_, rfl⟩
  have bV : Below w7.heap.size w7 V8 := by rw [hV8]; exact (Below.refl _ _).alloc (Nat.le_refl _) _
  have z8 : V8.heap.size = w7.heap.size + 1 := by rw [hV8]; simp
  have E10 : Arr V8 w7.heap.size 25 [.slice a10 m c10] := by rw [hV8]; exact Arr.new w7 [.slice a10 m c10] _
  replace B := B.trans (bV.mono B.size)
  replace AA := AA.kept bV
  replace hV := hV.kept bV
  replace o6 := own_below o6 bV
  replace E6 := E6.kept bV
  replace oxA := own_below oxA bV
  replace ExA := ExA.kept bV
  replace o10 := own_below o10 bV
  clear bV
  have cE10 := cell1 E10
  rw [hV8] at cE10
  have cE6 := cell1 E6
  rw [hV8] at cE6
  go_wp2_with fail
  rw [← hV8]
  clear cE10 cE6 hV8
  refine (eqFeC a10 a6 m c10 c6 L _ (is_of_own o10 HLb.out) (is_of_own o6 HLb.out) (by omega)).mono ?_
  rintro e w9 ⟨rfl, hb9⟩
  have z9 := hb9.size
  replace B := B.trans (hb9.mono B.size)
  replace AA := AA.kept hb9
  replace hV := hV.kept hb9
  replace o6 := own_below o6 hb9
  replace E6 := E6.kept hb9
  replace oxA := own_below oxA hb9
  replace ExA := ExA.kept hb9
  replace o10 := own_below o10 hb9
  replace E10 := E10.kept hb9
  clear hb9
  have cExA := cell1 ExA
  have cAA := cell1 AA
  go_wp2
  clear cExA cAA
  have bD : Below w9.heap.size w9 w9.drew := (Below.refl _ _).drew
  replace B := B.trans (bD.mono B.size)
  replace AA := AA.kept bD
  replace hV := hV.kept bD
  replace o6 := own_below o6 bD
  replace E6 := E6.kept bD
  replace oxA := own_below oxA bD
  replace ExA := ExA.kept bD
  replace o10 := own_below o10 bD
  replace E10 := E10.kept bD
  clear bD
  have huE : Tryd.prog.underlying 25 = some _ := Tryd.underlying25
  have huL : Tryd.prog.underlying 42 = some _ := Tryd.underlying42
  refine wp_region_held_drew (S := fun W => W.rangeAt (w5.heap.size) 0 [.slice pA nA qA] ∧ W.rangeAt (w.heap.size) 0 [.slice aA nA cA]) (by kernel_rfl) ⟨range1 ExA, range1 AA⟩ (fun hHeld => ?_)
  obtain ⟨wDA, hD⟩ : ∃ V, V = w9.drew := ⟨_, rfl⟩
  rw [← hD] at hHeld B AA hV o6 E6 oxA ExA o10 E10 ⊢
  have zDA : wDA.heap.size = w9.heap.size := by rw [hD]; rfl
  clear hD
  refine wpAnyH_take (i := 0) (oi := { dst := some 41, op := Op.load 25 (Operand.tmp 6), type := 25, pos := "exact.go:2285", after := #[], guard := none }) (v := _) rfl (by kernel_rfl) (by kernel_rfl) (by kernel_rfl) (fun _ _ _ h => h) (yieldsIf_load_mid (by rfl) _ _ rfl _ _ rfl ([.slice pA nA qA]) _ (fun _ h => h.1) huE rfl infoFe) (by assumption) ?_
  simp only [Act.put, List.setIfInBounds_toArray, List.set_cons_zero, List.set_cons_succ]
  refine wpAnyH_take (i := 1) (oi := { dst := some 42, op := Op.load 42 (Operand.tmp 1), type := 42, pos := "exact.go:2285", after := #[], guard := none }) (v := _) rfl (by kernel_rfl) (by kernel_rfl) (by kernel_rfl) (fun _ _ _ h => h) (yieldsIf_load_mid (by rfl) _ _ rfl _ _ rfl ([.slice aA nA cA]) _ (fun _ h => h.2) huL rfl infoFeL) (by assumption) ?_
  simp only [Act.put, List.setIfInBounds_toArray, List.set_cons_zero, List.set_cons_succ]
  clear huE huL
  refine wpAnyH_ready (rs := [2]) (by kernel_rfl) (by simp) (AllReadyH.cons (o := { dst := some 43, op := Op.call { callee := Callee.value (Operand.func 34), args := #[Operand.tmp 42], argTypes := #[42] }, type := 25, pos := "exact.go:2285", after := #[{ on := 1, ground := Ground.data }], guard := none }) rfl (fun K hK => ?_) AllReadyH.nil)
  go_simp
  refine (toFeC aA nA cA xsA _ (hA.below B) (by omega)).mono ?_
  rintro e w10 ⟨sA, tA, rfl, _, hxsA, hb10⟩
  have z10 := hb10.size
  replace B := B.trans (hb10.mono B.size)
  replace AA := AA.kept hb10
  replace hV := hV.kept hb10
  replace o6 := own_below o6 hb10
  replace E6 := E6.kept hb10
  replace oxA := own_below oxA hb10
  replace ExA := ExA.kept hb10
  replace o10 := own_below o10 hb10
  replace E10 := E10.kept hb10
  clear hb10
  go_wp2_with fail
  refine hK.out _ _ ⟨range1 ExA, range1 AA⟩ (fun hHeld => ?_)
  clear hK K
  refine wpAnyH_ready (rs := [3]) (by kernel_rfl) (by simp) (AllReadyH.cons (o := { dst := some 44, op := Op.call { callee := Callee.value (Operand.func 35), args := #[Operand.tmp 41, Operand.tmp 43], argTypes := #[25, 25] }, type := 4, pos := "exact.go:2285", after := #[{ on := 0, ground := Ground.data }, { on := 2, ground := Ground.data }, { on := 2, ground := Ground.chain }], guard := none }) rfl (fun K hK => ?_) AllReadyH.nil)
  go_simp
  refine (eqFeC pA sA nA qA tA xsA _ (is_of_own oxA HXA.out) hxsA (by omega)).mono ?_
  rintro e w11 ⟨rfl, hb11⟩
  have z11 := hb11.size
  replace B := B.trans (hb11.mono B.size)
  replace AA := AA.kept hb11
  replace hV := hV.kept hb11
  replace o6 := own_below o6 hb11
  replace E6 := E6.kept hb11
  replace oxA := own_below oxA hb11
  replace ExA := ExA.kept hb11
  replace o10 := own_below o10 hb11
  replace E10 := E10.kept hb11
  replace hxsA := hxsA.below hb11
  clear hb11
  clear hxsA
  go_wp2_with fail
  refine hK.out _ _ ⟨range1 ExA, range1 AA⟩ (fun hHeld => ?_)
  clear hK K
  refine wpAnyH_ready (rs := [4]) (by kernel_rfl) (by simp) (AllReadyH.cons (o := { dst := some 45, op := Op.unOp UnOp.not 4 (Operand.tmp 44), type := 4, pos := "exact.go:2285", after := #[{ on := 3, ground := Ground.data }], guard := none }) rfl (fun K hK => ?_) AllReadyH.nil)
  go_simp
  refine hK.out _ _ ⟨range1 ExA, range1 AA⟩ (fun hHeld => ?_)
  clear hK K
  refine wpAnyH_done (by kernel_rfl) ?_ _
  clear hHeld
  have cExA := cell1 ExA
  go_wp2_with fail
  clear cExA
  refine (markFeC _ nA _ (1) xsA _ oxA (by omega) (by omega) (by omega)).mono ?_
  rintro e w12 ⟨rfl, moxA, g12⟩
  have z12 := g12.size
  replace B := B.grown g12 B.size (fun k hk => by have := (ioxA k hk).1; omega)
  replace AA := arr_mark AA g12 ioxA (by omega)
  replace hV := vr_mark hV g12 ioxA (by omega)
  replace o6 := own_kept o6 g12 (ioxA.apart io6 (by omega))
  replace E6 := arr_mark E6 g12 ioxA (by omega)
  replace ExA := arr_mark ExA g12 ioxA (by omega)
  replace o10 := own_kept o10 g12 (ioxA.apart io10 (by omega))
  replace E10 := arr_mark E10 g12 ioxA (by omega)
  clear g12
  clear oxA moxA
  clear ExA
  have hk0 : ¬ (1 + (nA : Int) < 0) := by omega
  have cE10 := cell1 E10
  have cE6 := cell1 E6
  go_wp2_with fail
  clear cE10 cE6
  refine (eqFeC a10 a6 m c10 c6 L _ (is_of_own o10 HLb.out) (is_of_own o6 HLb.out) (by omega)).mono ?_
  rintro e w13 ⟨rfl, hb13⟩
  have z13 := hb13.size
  replace B := B.trans (hb13.mono B.size)
  replace AA := AA.kept hb13
  replace hV := hV.kept hb13
  replace o6 := own_below o6 hb13
  replace E6 := E6.kept hb13
  replace o10 := own_below o10 hb13
  replace E10 := E10.kept hb13
  clear hb13
  have cE10 := cell1 E10
  go_wp2_with fail
  clear cE10
  refine (markFeC _ m _ 1 L _ o10 (by omega) (by omega) (by omega)).mono ?_
  rintro e w14 ⟨rfl, mo10, g14⟩
  have z14 := g14.size
  replace B := B.grown g14 B.size (fun k hk => by have := (io10 k hk).1; omega)
  replace AA := arr_mark AA g14 io10 (by omega)
  replace hV := vr_mark hV g14 io10 (by omega)
  replace o6 := own_kept o6 g14 (io10.apart io6 (by omega))
  replace E6 := arr_mark E6 g14 io10 (by omega)
  replace E10 := arr_mark E10 g14 io10 (by omega)
  clear g14
  replace o10 := mo10
  clear mo10
  have hm0 : ¬ ((1 : Int) + (m : Int) < 0) := by omega
  have hmm : ((1 : Int) + (m : Int) != 1 + (m : Int)) = false := by simp
  have HMB : Hid _ := marksI_int 1 m (by omega) (by omega) (by omega)
  have cE10 := cell1 E10
  go_wp2_with fail
  clear cE10
  refine (heldFeC a10 m c10 1 _ (is_of_own o10 HMB.out) (by omega) (by omega) (by omega)).mono ?_
  rintro e w15 ⟨rfl, hb15⟩
  have z15 := hb15.size
  replace B := B.trans (hb15.mono B.size)
  replace AA := AA.kept hb15
  replace hV := hV.kept hb15
  replace o6 := own_below o6 hb15
  replace E6 := E6.kept hb15
  replace o10 := own_below o10 hb15
  replace E10 := E10.kept hb15
  clear hb15
  have cAA := cell1 AA
  go_wp2_with fail
  clear cAA
  refine (toFeC aA nA cA xsA _ (hA.below B) (by omega)).mono ?_
  rintro e w16 ⟨yA15, kA15, rfl, _, hxyA15, hb16⟩
  have z16 := hb16.size
  replace B := B.trans (hb16.mono B.size)
  replace AA := AA.kept hb16
  replace hV := hV.kept hb16
  replace o6 := own_below o6 hb16
  replace E6 := E6.kept hb16
  replace o10 := own_below o10 hb16
  replace E10 := E10.kept hb16
  clear hb16
  go_wp2_with fail
  refine (HI.out yA15 kA15 _ hxyA15 hV).mono ?_
  rintro e w17 ⟨v15, rfl, ⟨a15, c15, rfl, o15⟩, hb17⟩
  have z17 := hb17.size
  replace B := B.trans (hb17.mono B.size)
  replace AA := AA.kept hb17
  replace hV := hV.kept hb17
  replace o6 := own_below o6 hb17
  replace E6 := E6.kept hb17
  replace o10 := own_below o10 hb17
  replace E10 := E10.kept hb17
  replace hxyA15 := hxyA15.below hb17
  clear hb17
  clear hxyA15
  rw [HM.out] at o15 ⊢
  have io15 := In.of o15
  obtain ⟨V18, hV18⟩ : ∃ V, V = w17.alloc (.cells #[.slice a15 m c15] 25) := ⟨_, rfl⟩
  have bV : Below w17.heap.size w17 V18 := by rw [hV18]; exact (Below.refl _ _).alloc (Nat.le_refl _) _
  have z18 : V18.heap.size = w17.heap.size + 1 := by rw [hV18]; simp
  have E15 : Arr V18 w17.heap.size 25 [.slice a15 m c15] := by rw [hV18]; exact Arr.new w17 [.slice a15 m c15] _
  replace B := B.trans (bV.mono B.size)
  replace AA := AA.kept bV
  replace hV := hV.kept bV
  replace o6 := own_below o6 bV
  replace E6 := E6.kept bV
  replace o10 := own_below o10 bV
  replace E10 := E10.kept bV
  replace o15 := own_below o15 bV
  clear bV
  have cE15 := cell1 E15
  rw [hV18] at cE15
  have cE6 := cell1 E6
  rw [hV18] at cE6
  go_wp2_with fail
  rw [← hV18]
  clear cE15 cE6 hV18
  refine (eqFeC a15 a6 m c15 c6 L _ (is_of_own o15 HLb.out) (is_of_own o6 HLb.out) (by omega)).mono ?_
  rintro e w19 ⟨rfl, hb19⟩
  have z19 := hb19.size
  replace B := B.trans (hb19.mono B.size)
  replace AA := AA.kept hb19
  replace hV := hV.kept hb19
  replace o6 := own_below o6 hb19
  replace E6 := E6.kept hb19
  replace o10 := own_below o10 hb19
  replace E10 := E10.kept hb19
  replace o15 := own_below o15 hb19
  replace E15 := E15.kept hb19
  clear hb19
  have cE10 := cell1 E10
  go_wp2_with fail
  clear cE10
  refine (heldFeC a10 m c10 1 _ (is_of_own o10 HMB.out) (by omega) (by omega) (by omega)).mono ?_
  rintro e w20 ⟨rfl, hb20⟩
  have z20 := hb20.size
  replace B := B.trans (hb20.mono B.size)
  replace AA := AA.kept hb20
  replace hV := hV.kept hb20
  replace o6 := own_below o6 hb20
  replace E6 := E6.kept hb20
  replace o10 := own_below o10 hb20
  replace E10 := E10.kept hb20
  replace o15 := own_below o15 hb20
  replace E15 := E15.kept hb20
  clear hb20
  go_wp2
  go_ret
  exact ⟨rfl, B⟩
end Go.Proofs.YtpchdfdeomhakaaDoor
