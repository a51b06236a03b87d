/-
  What is proved here: the exact law of ScRead returns true at every argument, and writes into nothing that was there; where the program's variables hold what its text lays into them.
-/
import Derived.Test.YtlafcjoccbinaaaDoorZXa
import Derived.Test.YtlafcjoccbinaaaDoorZKs
import Derived.Test.YtlafcjoccbinaaaDoorZKl
import Derived.Test.YtlafcjoccbinaaaDoorZC
import Derived.Test.YtlafcjoccbinaaaDoorZQh
namespace Go.Proofs.YtlafcjoccbinaaaDoor
open Go.RowKit
set_option maxRecDepth 100000

set_option maxHeartbeats 8000000 in
theorem walk_fnExactScRead (w : World) (aA : Option Addr) (nA cA : Nat) (xsA : List Int) (hA : Bs w aA nA cA xsA) (hV : Vr w 0 (I64 OL)) :
    Calls Tryd.prog 6 #[.slice aA nA cA] w fun e w' => e = .returned (.bool true) ∧ Below w.heap.size w w' := by
  by_cases hb1 : 1048576 < (nA : Int)
  · go_enter Tryd.func6, Tryd.ntmps6
    go_wp2
    go_ret
    exact ⟨rfl, Below.refl _ _⟩
  obtain ⟨R, hR⟩ : ∃ R, R = rdOkO xsA := ⟨_, rfl⟩
  obtain ⟨L, hL⟩ : ∃ L, L = rdFO xsA := ⟨_, rfl⟩
  have HS : Hid (∀ (aA : Option Addr) (cA : Nat) (Z : World), Bs Z aA nA cA xsA → Calls Tryd.prog 26 #[.slice aA nA cA] Z fun e w' => ∃ v, e = .returned (.tuple #[v, .bool R]) ∧ ScIs Z w' v L ∧ Below Z.heap.size Z w') := by
    unfold Hid; intro aA cA Z hA; rw [hR, hL]; exact specScRead aA nA cA xsA Z hA 
  have HI : Hid (∀ (aA : Option Addr) (cA : Nat) (Z : World), Bs Z aA nA cA xsA → Vr Z 0 (I64 OL) → Calls Tryd.prog 13 #[.slice aA nA cA] Z fun e w' => ∃ v, e = .returned (.tuple #[v, .bool R]) ∧ FeT 49 Z w' v L ∧ Below Z.heap.size Z w') := by
    unfold Hid; intro aA cA Z hA vhV; rw [hR, hL]; exact implScRead aA nA cA xsA Z hA  vhV
  have HLb : Hid (∀ x ∈ L, -9223372036854775808 ≤ x ∧ x ≤ 9223372036854775807) := by unfold Hid; rw [hL]; exact rdFO_int hA.2.2.2.1
  have hml : L.length ≤ 32 := by rw [hL]; exact rdFO_le xsA
  obtain ⟨m, hm⟩ : ∃ m, m = L.length := ⟨_, rfl⟩
  rw [← hm] at hml
  have HM : Hid (L.length = m) := hm.symm
  have hRR : (R != R) = false := by simp
  have HXA : Hid _ := hA.2.2.2.1
  clear hR hL hm
  have h0w := hV.lt
  have B : Below w.heap.size w w := Below.refl _ _
  go_enter Tryd.func6, Tryd.ntmps6
  have htA : nA ≤ 1048576 := by omega
  go_wp2_with fail
  refine (toS aA nA cA xsA _ (hA.below B) (by omega)).mono ?_
  rintro e w1 ⟨yA6, kA6, rfl, _, hxyA6, hb1⟩
  have z1 := hb1.size
  replace B := B.trans (hb1.mono B.size)
  replace hV := hV.kept hb1
  clear hb1
  go_wp2_with fail
  refine (HS.out yA6 kA6 _ hxyA6 ).mono ?_
  rintro e w2 ⟨v6, rfl, ⟨a6, c6, rfl, o6⟩, hb2⟩
  have z2 := hb2.size
  replace B := B.trans (hb2.mono B.size)
  replace hV := hV.kept hb2
  replace hxyA6 := hxyA6.below hb2
  clear hb2
  clear hxyA6
  rw [HM.out] at o6 ⊢
  have io6 := In.of o6
  obtain ⟨V3, hV3⟩ : ∃ V, V = w2.alloc (.cells #[.slice a6 m c6] 25) := ⟨_, rfl⟩
  have bV : Below w2.heap.size w2 V3 := by rw [hV3]; exact (Below.refl _ _).alloc (Nat.le_refl _) _
  have z3 : V3.heap.size = w2.heap.size + 1 := by rw [hV3]; simp
  have E6 : Arr V3 w2.heap.size 25 [.slice a6 m c6] := by rw [hV3]; exact Arr.new w2 [.slice a6 m c6] _
  replace B := B.trans (bV.mono B.size)
  replace hV := hV.kept bV
  replace o6 := own_below o6 bV
  clear bV
  clear HS
  go_wp2_with fail
  rw [← hV3]
  clear hV3
  refine (toS aA nA cA xsA _ (hA.below B) (by omega)).mono ?_
  rintro e w4 ⟨pA, qA, rfl, oxA, hxpA, hb4⟩
  have z4 := hb4.size
  replace B := B.trans (hb4.mono B.size)
  replace hV := hV.kept hb4
  replace o6 := own_below o6 hb4
  replace E6 := E6.kept hb4
  clear hb4
  clear hxpA
  have ioxA := In.of oxA
  go_wp2_with fail
  refine (HI.out pA qA _ (bs_of_own oxA HXA.out) hV).mono ?_
  rintro e w5 ⟨v10, rfl, ⟨a10, c10, rfl, o10⟩, hb5⟩
  have z5 := hb5.size
  replace B := B.trans (hb5.mono B.size)
  replace hV := hV.kept hb5
  replace o6 := own_below o6 hb5
  replace E6 := E6.kept hb5
  replace oxA := own_below oxA hb5
  clear hb5
  rw [HM.out] at o10 ⊢
  have io10 := In.of o10
  obtain ⟨V6, hV6⟩ : ∃ V, V = w5.alloc (.cells #[.slice a10 m c10] 25) := ⟨_, rfl⟩
  have bV : Below w5.heap.size w5 V6 := by rw [hV6]; exact (Below.refl _ _).alloc (Nat.le_refl _) _
  have z6 : V6.heap.size = w5.heap.size + 1 := by rw [hV6]; simp
  have E10 : Arr V6 w5.heap.size 25 [.slice a10 m c10] := by rw [hV6]; exact Arr.new w5 [.slice a10 m c10] _
  replace B := B.trans (bV.mono B.size)
  replace hV := hV.kept bV
  replace o6 := own_below o6 bV
  replace E6 := E6.kept bV
  replace oxA := own_below oxA bV
  replace o10 := own_below o10 bV
  clear bV
  have cE10 := cell1 E10
  rw [hV6] at cE10
  have cE6 := cell1 E6
  rw [hV6] at cE6
  go_wp2_with fail
  rw [← hV6]
  clear cE10 cE6 hV6
  refine (eqScC a10 a6 m c10 c6 L _ (is_of_own o10 HLb.out) (is_of_own o6 HLb.out) (by omega)).mono ?_
  rintro e w7 ⟨rfl, hb7⟩
  have z7 := hb7.size
  replace B := B.trans (hb7.mono B.size)
  replace hV := hV.kept hb7
  replace o6 := own_below o6 hb7
  replace E6 := E6.kept hb7
  replace oxA := own_below oxA hb7
  replace o10 := own_below o10 hb7
  replace E10 := E10.kept hb7
  clear hb7
  go_wp2_with fail
  refine (toS aA nA cA xsA _ (hA.below B) (by omega)).mono ?_
  rintro e w8 ⟨sA, tA, rfl, _, hxsA, hb8⟩
  have z8 := hb8.size
  replace B := B.trans (hb8.mono B.size)
  replace hV := hV.kept hb8
  replace o6 := own_below o6 hb8
  replace E6 := E6.kept hb8
  replace oxA := own_below oxA hb8
  replace o10 := own_below o10 hb8
  replace E10 := E10.kept hb8
  clear hb8
  go_wp2_with fail
  refine (eqB pA sA nA qA tA xsA _ (bs_of_own oxA HXA.out) hxsA (by omega)).mono ?_
  rintro e w9 ⟨q9, rfl, hq9⟩
  have hb9 : Below w8.heap.size w8 w9 := by rw [hq9]; exact bel_drewN _ _
  have z9 := hb9.size
  replace B := B.trans (hb9.mono B.size)
  replace hV := hV.kept hb9
  replace o6 := own_below o6 hb9
  replace E6 := E6.kept hb9
  replace oxA := own_below oxA hb9
  replace o10 := own_below o10 hb9
  replace E10 := E10.kept hb9
  replace hxsA := hxsA.below hb9
  clear hb9 hq9
  clear hxsA
  go_wp2_with fail
  refine (markB _ nA _ (1) xsA _ oxA (by omega) (by omega) (by omega)).mono ?_
  rintro e w10 ⟨rfl, moxA, g10⟩
  have z10 := g10.size
  replace B := B.grown g10 B.size (fun k hk => by have := (ioxA k hk).1; omega)
  replace hV := vr_mark hV g10 ioxA (by omega)
  replace o6 := own_kept o6 g10 (ioxA.apart io6 (by omega))
  replace E6 := arr_mark E6 g10 ioxA (by omega)
  replace o10 := own_kept o10 g10 (ioxA.apart io10 (by omega))
  replace E10 := arr_mark E10 g10 ioxA (by omega)
  clear g10
  clear oxA moxA
  have hk0 : ¬ (1 + (nA : Int) < 0) := by omega
  have cE10 := cell1 E10
  have cE6 := cell1 E6
  go_wp2_with fail
  clear cE10 cE6
  refine (eqScC a10 a6 m c10 c6 L _ (is_of_own o10 HLb.out) (is_of_own o6 HLb.out) (by omega)).mono ?_
  rintro e w11 ⟨rfl, hb11⟩
  have z11 := hb11.size
  replace B := B.trans (hb11.mono B.size)
  replace hV := hV.kept hb11
  replace o6 := own_below o6 hb11
  replace E6 := E6.kept hb11
  replace o10 := own_below o10 hb11
  replace E10 := E10.kept hb11
  clear hb11
  have cE10 := cell1 E10
  go_wp2_with fail
  clear cE10
  refine (markScC _ m _ 1 L _ o10 (by omega) (by omega) (by omega)).mono ?_
  rintro e w12 ⟨rfl, mo10, g12⟩
  have z12 := g12.size
  replace B := B.grown g12 B.size (fun k hk => by have := (io10 k hk).1; omega)
  replace hV := vr_mark hV g12 io10 (by omega)
  replace o6 := own_kept o6 g12 (io10.apart io6 (by omega))
  replace E6 := arr_mark E6 g12 io10 (by omega)
  replace E10 := arr_mark E10 g12 io10 (by omega)
  clear g12
  replace o10 := mo10
  clear mo10
  have hm0 : ¬ ((1 : Int) + (m : Int) < 0) := by omega
  have hmm : ((1 : Int) + (m : Int) != 1 + (m : Int)) = false := by simp
  have HMB : Hid _ := marksI_int 1 m (by omega) (by omega) (by omega)
  have cE10 := cell1 E10
  go_wp2_with fail
  clear cE10
  refine (heldScC a10 m c10 1 _ (is_of_own o10 HMB.out) (by omega) (by omega) (by omega)).mono ?_
  rintro e w13 ⟨rfl, hb13⟩
  have z13 := hb13.size
  replace B := B.trans (hb13.mono B.size)
  replace hV := hV.kept hb13
  replace o6 := own_below o6 hb13
  replace E6 := E6.kept hb13
  replace o10 := own_below o10 hb13
  replace E10 := E10.kept hb13
  clear hb13
  go_wp2_with fail
  refine (toS aA nA cA xsA _ (hA.below B) (by omega)).mono ?_
  rintro e w14 ⟨yA15, kA15, rfl, _, hxyA15, hb14⟩
  have z14 := hb14.size
  replace B := B.trans (hb14.mono B.size)
  replace hV := hV.kept hb14
  replace o6 := own_below o6 hb14
  replace E6 := E6.kept hb14
  replace o10 := own_below o10 hb14
  replace E10 := E10.kept hb14
  clear hb14
  go_wp2_with fail
  refine (HI.out yA15 kA15 _ hxyA15 hV).mono ?_
  rintro e w15 ⟨v15, rfl, ⟨a15, c15, rfl, o15⟩, hb15⟩
  have z15 := hb15.size
  replace B := B.trans (hb15.mono B.size)
  replace hV := hV.kept hb15
  replace o6 := own_below o6 hb15
  replace E6 := E6.kept hb15
  replace o10 := own_below o10 hb15
  replace E10 := E10.kept hb15
  replace hxyA15 := hxyA15.below hb15
  clear hb15
  clear hxyA15
  rw [HM.out] at o15 ⊢
  have io15 := In.of o15
  obtain ⟨V16, hV16⟩ : ∃ V, V = w15.alloc (.cells #[.slice a15 m c15] 25) := ⟨_, rfl⟩
  have bV : Below w15.heap.size w15 V16 := by rw [hV16]; exact (Below.refl _ _).alloc (Nat.le_refl _) _
  have z16 : V16.heap.size = w15.heap.size + 1 := by rw [hV16]; simp
  have E15 : Arr V16 w15.heap.size 25 [.slice a15 m c15] := by rw [hV16]; exact Arr.new w15 [.slice a15 m c15] _
  replace B := B.trans (bV.mono B.size)
  replace hV := hV.kept bV
  replace o6 := own_below o6 bV
  replace E6 := E6.kept bV
  replace o10 := own_below o10 bV
  replace E10 := E10.kept bV
  replace o15 := own_below o15 bV
  clear bV
  have cE15 := cell1 E15
  rw [hV16] at cE15
  have cE6 := cell1 E6
  rw [hV16] at cE6
  go_wp2_with fail
  rw [← hV16]
  clear cE15 cE6 hV16
  refine (eqScC a15 a6 m c15 c6 L _ (is_of_own o15 HLb.out) (is_of_own o6 HLb.out) (by omega)).mono ?_
  rintro e w17 ⟨rfl, hb17⟩
  have z17 := hb17.size
  replace B := B.trans (hb17.mono B.size)
  replace hV := hV.kept hb17
  replace o6 := own_below o6 hb17
  replace E6 := E6.kept hb17
  replace o10 := own_below o10 hb17
  replace E10 := E10.kept hb17
  replace o15 := own_below o15 hb17
  replace E15 := E15.kept hb17
  clear hb17
  have cE10 := cell1 E10
  go_wp2_with fail
  clear cE10
  refine (heldScC a10 m c10 1 _ (is_of_own o10 HMB.out) (by omega) (by omega) (by omega)).mono ?_
  rintro e w18 ⟨rfl, hb18⟩
  have z18 := hb18.size
  replace B := B.trans (hb18.mono B.size)
  replace hV := hV.kept hb18
  replace o6 := own_below o6 hb18
  replace E6 := E6.kept hb18
  replace o10 := own_below o10 hb18
  replace E10 := E10.kept hb18
  replace o15 := own_below o15 hb18
  replace E15 := E15.kept hb18
  clear hb18
  go_wp2
  go_ret
  exact ⟨rfl, B⟩
end Go.Proofs.YtlafcjoccbinaaaDoor
