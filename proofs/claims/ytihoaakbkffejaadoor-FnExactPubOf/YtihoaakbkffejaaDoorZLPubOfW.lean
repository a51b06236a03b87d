/-
  What is proved here: the exact law of PubOf returns true at every argument, and writes into nothing that was there; where the program's variables hold what its text lays into them.
-/
import Derived.Test.YtihoaakbkffejaaDoorZTmd
import Derived.Test.YtihoaakbkffejaaDoorZSmB
import Derived.Test.YtihoaakbkffejaaDoorZYh
namespace Go.Proofs.YtihoaakbkffejaaDoor
open Go.RowKit
set_option maxRecDepth 100000

set_option maxHeartbeats 8000000 in
theorem walk_fnExactPubOf (w : World) (aA : Option Addr) (nA cA : Nat) (xsA : List Int) (hA : Bs w aA nA cA xsA) (hG : VarsOk w) :
  Calls Tryd.prog 3 #[.slice aA nA cA] w fun e w' => e = .returned (.bool true) ∧ Below w.heap.size w w' := by
 by_cases hbA : 1048576 < (nA : Int)
 ·go_enter Tryd.func3, Tryd.ntmps3
  go_wp2
  go_ret
  exact ⟨rfl, Below.refl _ _⟩
 obtain ⟨R, hR⟩ : ∃ R, R = pbOk xsA := ⟨_, rfl⟩
 obtain ⟨L, hL⟩ : ∃ L, L = pbL xsA := ⟨_, rfl⟩
 have htA : nA ≤ 1048576 := by omega
 have HS : Hid (∀ (aA : Option Addr) (cA : Nat) (Z : World), Bs Z aA nA cA xsA → Calls Tryd.prog 4 #[.slice aA nA cA] Z fun e w' => ∃ v, e = .returned (.tuple #[v, .bool R]) ∧ w'.ownsRow Z.heap.size 5 1 v L.length (U8 L) ∧ Below Z.heap.size Z w') := by
  unfold Hid; intro aA cA Z kA; rw [hR, hL]; exact specPubOf aA nA cA xsA Z kA
 have HI : Hid (∀ (aA : Option Addr) (cA : Nat) (Z : World), VarsOk Z → Bs Z aA nA cA xsA → Calls Tryd.prog 6 #[.slice aA nA cA] Z fun e w' => ∃ v, e = .returned (.tuple #[v, .bool R]) ∧ w'.ownsRow Z.heap.size 5 1 v L.length (U8 L) ∧ Below Z.heap.size Z w') := by
  unfold Hid; intro aA cA Z gz kA; rw [hR, hL]; exact implPubOf aA nA cA xsA Z kA gz
 have HLb : Hid (∀ x ∈ L, 0 ≤ x ∧ x < 256) := by unfold Hid; rw [hL]; exact pbL_byte _
 have hml : L.length ≤ 64 := by rw [hL]; exact pbL_len _
 obtain ⟨m, hm⟩ : ∃ m, m = L.length := ⟨_, rfl⟩
 rw [← hm] at hml
 have HM : Hid (L.length = m) := hm.symm
 have hRR : (R != R) = false := by simp
 have HXA : Hid _ := hA.2.2.2.1
 clear hR hL hm
 have B : Below w.heap.size w w := Below.refl _ _
 go_enter Tryd.func3, Tryd.ntmps3
 go_wp2_with fail
 refine (toS aA nA cA xsA _ (hA.below B) (by omega)).mono ?_
 rintro e w1 ⟨yA6, kA6, rfl, _, hxyA6, hb1⟩
 have z1 := hb1.size
 replace B := B.trans (hb1.mono B.size)
 clear hb1
 go_wp2_with fail
 refine (HS.out yA6 kA6 _ hxyA6).mono ?_
 rintro e w2 ⟨v6, rfl, o6, hb2⟩
 have z2 := hb2.size
 replace B := B.trans (hb2.mono B.size)
 replace hxyA6 := hxyA6.below hb2
 clear hb2
 clear hxyA6
 rw [HM.out] at o6
 have io6 := In.of o6
 obtain ⟨a6, c6, rfl, _, _⟩ := Bs.own o6 HLb.out
 clear HS
 go_wp2_with fail
 refine (toS aA nA cA xsA _ (hA.below B) (by omega)).mono ?_
 rintro e w3 ⟨pA, qA, rfl, oxA, hxpA, hb3⟩
 have z3 := hb3.size
 replace B := B.trans (hb3.mono B.size)
 replace o6 := own_below o6 hb3
 clear hb3
 clear hxpA
 have ioxA := In.of oxA
 go_wp2_with fail
 refine (HI.out pA qA _ (hG.kept B) (bs_of_own oxA HXA.out)).mono ?_
 rintro e w4 ⟨v10, rfl, o10, hb4⟩
 have z4 := hb4.size
 replace B := B.trans (hb4.mono B.size)
 replace o6 := own_below o6 hb4
 replace oxA := own_below oxA hb4
 clear hb4
 rw [HM.out] at o10
 have io10 := In.of o10
 obtain ⟨a10, c10, rfl, _, _⟩ := Bs.own o10 HLb.out
 go_wp2_with fail
 refine (eqB a10 a6 m c10 c6 L _ (bs_of_own o10 HLb.out) (bs_of_own o6 HLb.out) (by omega)).mono ?_
 rintro e w5 ⟨q5, rfl, hq5⟩
 have hb5 : Below w4.heap.size w4 w5 := by rw [hq5]; exact bel_drewN _ _
 have z5 := hb5.size
 replace B := B.trans (hb5.mono B.size)
 replace o6 := own_below o6 hb5
 replace oxA := own_below oxA hb5
 replace o10 := own_below o10 hb5
 clear hb5 hq5
 go_wp2_with fail
 refine (toS aA nA cA xsA _ (hA.below B) (by omega)).mono ?_
 rintro e w6 ⟨sA, tA, rfl, _, hxsA, hb6⟩
 have z6 := hb6.size
 replace B := B.trans (hb6.mono B.size)
 replace o6 := own_below o6 hb6
 replace oxA := own_below oxA hb6
 replace o10 := own_below o10 hb6
 clear hb6
 go_wp2_with fail
 refine (eqB pA sA nA qA tA xsA _ (bs_of_own oxA HXA.out) hxsA (by omega)).mono ?_
 rintro e w7 ⟨q7, rfl, hq7⟩
 have hb7 : Below w6.heap.size w6 w7 := by rw [hq7]; exact bel_drewN _ _
 have z7 := hb7.size
 replace B := B.trans (hb7.mono B.size)
 replace o6 := own_below o6 hb7
 replace oxA := own_below oxA hb7
 replace o10 := own_below o10 hb7
 replace hxsA := hxsA.below hb7
 clear hb7 hq7
 clear hxsA
 go_wp2_with fail
 refine (markB _ nA _ (1) xsA _ oxA (by omega) (by omega) (by omega)).mono ?_
 rintro e w8 ⟨rfl, moxA, g8⟩
 have z8 := g8.size
 replace B := B.grown g8 B.size (fun k hk => by have := (ioxA k hk).1; omega)
 replace o6 := own_kept o6 g8 (ioxA.apart io6 (by omega))
 replace o10 := own_kept o10 g8 (ioxA.apart io10 (by omega))
 clear g8
 clear oxA moxA
 have hk0 : ¬ (1 + (nA : Int) < 0) := by omega
 go_wp2_with fail
 refine (eqB a10 a6 m c10 c6 L _ (bs_of_own o10 HLb.out) (bs_of_own o6 HLb.out) (by omega)).mono ?_
 rintro e w9 ⟨q9, rfl, hq9⟩
 have hb9 : Below w8.heap.size w8 w9 := by rw [hq9]; exact bel_drewN _ _
 have z9 := hb9.size
 replace B := B.trans (hb9.mono B.size)
 replace o6 := own_below o6 hb9
 replace o10 := own_below o10 hb9
 clear hb9 hq9
 go_wp2_with fail
 refine (markB _ m _ 1 L _ o10 (by omega) (by omega) (by omega)).mono ?_
 rintro e w10 ⟨rfl, mo10, g10⟩
 have z10 := g10.size
 replace B := B.grown g10 B.size (fun k hk => by have := (io10 k hk).1; omega)
 replace o6 := own_kept o6 g10 (io10.apart io6 (by omega))
 clear g10
 replace o10 := mo10
 clear mo10
 have hm0 : ¬ ((1 : Int) + (m : Int) < 0) := by omega
 have hmm : ((1 : Int) + (m : Int) != 1 + (m : Int)) = false := by simp
 have HMB : Hid _ := marks_byte 1 m
 go_wp2_with fail
 refine (heldB a10 m c10 1 _ (bs_of_own o10 HMB.out) (by omega) (by omega) (by omega)).mono ?_
 rintro e w11 ⟨rfl, hq11⟩
 have hb11 : Below w10.heap.size w10 w11 := by rw [hq11]; exact Below.refl _ _
 have z11 := hb11.size
 replace B := B.trans (hb11.mono B.size)
 replace o6 := own_below o6 hb11
 replace o10 := own_below o10 hb11
 clear hb11 hq11
 go_wp2_with fail
 refine (toS aA nA cA xsA _ (hA.below B) (by omega)).mono ?_
 rintro e w12 ⟨yA15, kA15, rfl, _, hxyA15, hb12⟩
 have z12 := hb12.size
 replace B := B.trans (hb12.mono B.size)
 replace o6 := own_below o6 hb12
 replace o10 := own_below o10 hb12
 clear hb12
 go_wp2_with fail
 refine (HI.out yA15 kA15 _ (hG.kept B) hxyA15).mono ?_
 rintro e w13 ⟨v15, rfl, o15, hb13⟩
 have z13 := hb13.size
 replace B := B.trans (hb13.mono B.size)
 replace o6 := own_below o6 hb13
 replace o10 := own_below o10 hb13
 replace hxyA15 := hxyA15.below hb13
 clear hb13
 clear hxyA15
 rw [HM.out] at o15
 have io15 := In.of o15
 obtain ⟨a15, c15, rfl, _, _⟩ := Bs.own o15 HLb.out
 go_wp2_with fail
 refine (eqB a15 a6 m c15 c6 L _ (bs_of_own o15 HLb.out) (bs_of_own o6 HLb.out) (by omega)).mono ?_
 rintro e w14 ⟨q14, rfl, hq14⟩
 have hb14 : Below w13.heap.size w13 w14 := by rw [hq14]; exact bel_drewN _ _
 have z14 := hb14.size
 replace B := B.trans (hb14.mono B.size)
 replace o6 := own_below o6 hb14
 replace o10 := own_below o10 hb14
 replace o15 := own_below o15 hb14
 clear hb14 hq14
 go_wp2_with fail
 refine (heldB a10 m c10 1 _ (bs_of_own o10 HMB.out) (by omega) (by omega) (by omega)).mono ?_
 rintro e w15 ⟨rfl, hq15⟩
 have hb15 : Below w14.heap.size w14 w15 := by rw [hq15]; exact Below.refl _ _
 have z15 := hb15.size
 replace B := B.trans (hb15.mono B.size)
 replace o6 := own_below o6 hb15
 replace o10 := own_below o10 hb15
 replace o15 := own_below o15 hb15
 clear hb15 hq15
 go_wp2
 go_ret
 exact ⟨rfl, B⟩
end Go.Proofs.YtihoaakbkffejaaDoor
