/-
  What is proved here: the exact law of ScOk returns true at every argument, and writes into nothing that was there; where the program's variables hold what its text lays into them.
-/
import Derived.Test.YtlafcjoccbinaaaDoorZXa
import Derived.Test.YtlafcjoccbinaaaDoorZKl
import Derived.Test.YtlafcjoccbinaaaDoorZS
import Derived.Test.YtlafcjoccbinaaaDoorZQh
namespace Go.Proofs.YtlafcjoccbinaaaDoor
open Go.RowKit
set_option maxRecDepth 100000

set_option maxHeartbeats 8000000 in
theorem walk_fnExactScOk (w : World) (aA : Option Addr) (nA cA : Nat) (xsA : List Int) (hA : Is w aA nA cA xsA) (hmA : nA ≤ 9223372036854775807) (hV : Vr w 0 (I64 OL)) :
    Calls Tryd.prog 5 #[.agg #[.slice aA nA cA]] w fun e w' => e = .returned (.bool true) ∧ Below w.heap.size w w' := by
  obtain ⟨R, hR⟩ : ∃ R, R = scOk xsA := ⟨_, rfl⟩
  have HS : Hid (∀ (aA : Option Addr) (cA : Nat) (Z : World), Is Z aA nA cA xsA → Calls Tryd.prog 14 #[.agg #[.slice aA nA cA]] Z fun e w' => e = .returned (.bool R) ∧ Below Z.heap.size Z w') := by
    unfold Hid; intro aA cA Z hA; rw [hR]; exact specScOk aA nA cA xsA Z hA 
  have HI : Hid (∀ (aA : Option Addr) (cA : Nat) (Z : World), Is Z aA nA cA xsA → Vr Z 0 (I64 OL) → Calls Tryd.prog 18 #[.agg #[.slice aA nA cA]] Z fun e w' => e = .returned (.bool R) ∧ Below Z.heap.size Z w') := by
    unfold Hid; intro aA cA Z hA vhV; rw [hR]; exact implScOk aA nA cA xsA Z hA  vhV
  have hRR : (R != R) = false := by simp
  have HXA : Hid _ := hA.2.2.2.1
  clear hR
  have h0w := hV.lt
  obtain ⟨V0, hV0⟩ : ∃ V, V = w.alloc (.cells #[.slice aA nA cA] 37) := ⟨_, rfl⟩
  have B : Below w.heap.size w V0 := by rw [hV0]; exact (Below.refl _ _).alloc (Nat.le_refl _) _
  have AA : Arr V0 w.heap.size 37 [.slice aA nA cA] := by rw [hV0]; exact Arr.new _ _ _
  have z0 : V0.heap.size = w.heap.size + 1 := by rw [hV0]; simp
  replace hV := hV.kept (B)
  go_enter Tryd.func5, Tryd.ntmps5
  have cAA := cell1 AA
  rw [hV0] at cAA
  go_wp2_with fail
  rw [← hV0]
  clear cAA hV0
  refine (szScC aA nA cA 1048576 _ (by omega) (by omega) hmA).mono ?_
  rintro e w1 ⟨rA, rfl, hrA, hb1⟩
  have z1 := hb1.size
  replace B := B.trans (hb1.mono B.size)
  replace AA := AA.kept hb1
  replace hV := hV.kept hb1
  clear hb1
  rcases hrA with rfl | ⟨hrA, hsA, htA⟩
  · go_wp2
    go_ret
    exact ⟨rfl, B⟩
  have hnlA : ¬ (rA < 0) := by omega
  have cAA := cell1 AA
  go_wp2_with fail
  clear cAA
  refine (toScC aA nA cA xsA _ (hA.below B) (by omega)).mono ?_
  rintro e w2 ⟨yA6, kA6, rfl, _, hxyA6, hb2⟩
  have z2 := hb2.size
  replace B := B.trans (hb2.mono B.size)
  replace AA := AA.kept hb2
  replace hV := hV.kept hb2
  clear hb2
  go_wp2_with fail
  refine (HS.out yA6 kA6 _ hxyA6 ).mono ?_
  rintro e w3 ⟨rfl, hb3⟩
  have z3 := hb3.size
  replace B := B.trans (hb3.mono B.size)
  replace AA := AA.kept hb3
  replace hV := hV.kept hb3
  replace hxyA6 := hxyA6.below hb3
  clear hb3
  clear hxyA6
  clear HS
  have cAA := cell1 AA
  go_wp2_with fail
  clear cAA
  refine (toScC aA nA cA xsA _ (hA.below B) (by omega)).mono ?_
  rintro e w4 ⟨pA, qA, rfl, oxA, hxpA, hb4⟩
  have z4 := hb4.size
  replace B := B.trans (hb4.mono B.size)
  replace AA := AA.kept hb4
  replace hV := hV.kept hb4
  clear hb4
  clear hxpA
  have ioxA := In.of oxA
  obtain ⟨V5, hV5⟩ : ∃ V, V = w4.alloc (.cells #[.slice pA nA qA] 25) := ⟨_, rfl⟩
  have bV : Below w4.heap.size w4 V5 := by rw [hV5]; exact (Below.refl _ _).alloc (Nat.le_refl _) _
  have z5 : V5.heap.size = w4.heap.size + 1 := by rw [hV5]; simp
  have ExA : Arr V5 w4.heap.size 25 [.slice pA nA qA] := by rw [hV5]; exact Arr.new w4 [.slice pA nA qA] _
  replace B := B.trans (bV.mono B.size)
  replace AA := AA.kept bV
  replace hV := hV.kept bV
  replace oxA := own_below oxA bV
  clear bV
  have cExA := cell1 ExA
  rw [hV5] at cExA
  go_wp2_with fail
  rw [← hV5]
  clear cExA hV5
  refine (HI.out pA qA _ (is_of_own oxA HXA.out) hV).mono ?_
  rintro e w6 ⟨rfl, hb6⟩
  have z6 := hb6.size
  replace B := B.trans (hb6.mono B.size)
  replace AA := AA.kept hb6
  replace hV := hV.kept hb6
  replace oxA := own_below oxA hb6
  replace ExA := ExA.kept hb6
  clear hb6
  have cExA := cell1 ExA
  have cAA := cell1 AA
  go_wp2
  clear cExA cAA
  have bD : Below w6.heap.size w6 w6.drew := (Below.refl _ _).drew
  replace B := B.trans (bD.mono B.size)
  replace AA := AA.kept bD
  replace hV := hV.kept bD
  replace oxA := own_below oxA bD
  replace ExA := ExA.kept bD
  clear bD
  have huE : Tryd.prog.underlying 25 = some _ := Tryd.underlying25
  have huL : Tryd.prog.underlying 37 = some _ := Tryd.underlying37
  refine wp_region_held_drew (S := fun W => W.rangeAt (w4.heap.size) 0 [.slice pA nA qA] ∧ W.rangeAt (w.heap.size) 0 [.slice aA nA cA]) (by kernel_rfl) ⟨range1 ExA, range1 AA⟩ (fun hHeld => ?_)
  obtain ⟨wDA, hD⟩ : ∃ V, V = w6.drew := ⟨_, rfl⟩
  rw [← hD] at hHeld B AA hV oxA ExA ⊢
  have zDA : wDA.heap.size ≤ w6.heap.size ∧ w6.heap.size ≤ wDA.heap.size := by rw [hD]; exact ⟨Nat.le_refl _, Nat.le_refl _⟩
  clear hD
  refine wpAnyH_take (i := 0) (oi := { dst := some 22, op := Op.load 25 (Operand.tmp 5), type := 25, pos := "exact.go:2467", after := #[], guard := none }) (v := _) rfl (by kernel_rfl) (by kernel_rfl) (by kernel_rfl) (fun _ _ _ h => h) (yieldsIf_load_mid (by rfl) _ _ rfl _ _ rfl ([.slice pA nA qA]) _ (fun _ h => h.1) huE rfl infoSc) (by assumption) ?_
  simp only [Act.put, List.setIfInBounds_toArray, List.set_cons_zero, List.set_cons_succ]
  refine wpAnyH_take (i := 1) (oi := { dst := some 23, op := Op.load 37 (Operand.tmp 1), type := 37, pos := "exact.go:2467", after := #[], guard := none }) (v := _) rfl (by kernel_rfl) (by kernel_rfl) (by kernel_rfl) (fun _ _ _ h => h) (yieldsIf_load_mid (by rfl) _ _ rfl _ _ rfl ([.slice aA nA cA]) _ (fun _ h => h.2) huL rfl infoScL) (by assumption) ?_
  simp only [Act.put, List.setIfInBounds_toArray, List.set_cons_zero, List.set_cons_succ]
  clear huE huL
  refine wpAnyH_ready (rs := [2]) (by kernel_rfl) (by simp) (AllReadyH.cons (o := { dst := some 24, op := Op.call { callee := Callee.value (Operand.func 24), args := #[Operand.tmp 23], argTypes := #[37] }, type := 25, pos := "exact.go:2467", after := #[{ on := 1, ground := Ground.data }], guard := none }) rfl (fun K hK => ?_) AllReadyH.nil)
  go_simp
  refine (toScC aA nA cA xsA _ (hA.below B) (by omega)).mono ?_
  rintro e w7 ⟨sA, tA, rfl, _, hxsA, hb7⟩
  have z7 := hb7.size
  replace B := B.trans (hb7.mono B.size)
  replace AA := AA.kept hb7
  replace hV := hV.kept hb7
  replace oxA := own_below oxA hb7
  replace ExA := ExA.kept hb7
  clear hb7
  go_wp2_with fail
  refine hK.out _ _ ⟨range1 ExA, range1 AA⟩ (fun hHeld => ?_)
  clear hK K
  refine wpAnyH_ready (rs := [3]) (by kernel_rfl) (by simp) (AllReadyH.cons (o := { dst := some 25, op := Op.call { callee := Callee.value (Operand.func 25), args := #[Operand.tmp 22, Operand.tmp 24], argTypes := #[25, 25] }, type := 4, pos := "exact.go:2467", after := #[{ on := 0, ground := Ground.data }, { on := 2, ground := Ground.data }, { on := 2, ground := Ground.chain }], guard := none }) rfl (fun K hK => ?_) AllReadyH.nil)
  go_simp
  refine (eqScC pA sA nA qA tA xsA _ (is_of_own oxA HXA.out) hxsA (by omega)).mono ?_
  rintro e w8 ⟨rfl, hb8⟩
  have z8 := hb8.size
  replace B := B.trans (hb8.mono B.size)
  replace AA := AA.kept hb8
  replace hV := hV.kept hb8
  replace oxA := own_below oxA hb8
  replace ExA := ExA.kept hb8
  replace hxsA := hxsA.below hb8
  clear hb8
  clear hxsA
  go_wp2_with fail
  refine hK.out _ _ ⟨range1 ExA, range1 AA⟩ (fun hHeld => ?_)
  clear hK K
  refine wpAnyH_ready (rs := [4]) (by kernel_rfl) (by simp) (AllReadyH.cons (o := { dst := some 26, op := Op.unOp UnOp.not 4 (Operand.tmp 25), type := 4, pos := "exact.go:2467", after := #[{ on := 3, ground := Ground.data }], guard := none }) rfl (fun K hK => ?_) AllReadyH.nil)
  go_simp
  refine hK.out _ _ ⟨range1 ExA, range1 AA⟩ (fun hHeld => ?_)
  clear hK K
  refine wpAnyH_done (by kernel_rfl) ?_ _
  clear hHeld
  go_wp2
  go_ret
  exact ⟨rfl, B⟩
end Go.Proofs.YtlafcjoccbinaaaDoor
