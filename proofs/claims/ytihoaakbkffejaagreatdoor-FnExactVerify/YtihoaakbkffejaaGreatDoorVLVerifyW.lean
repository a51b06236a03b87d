/-
  What is proved here: the exact law of Verify returns true at every argument, and writes into nothing that was there; where the program's variables hold what its text lays into them.
-/
import Derived.Test.YtihoaakbkffejaaGreatDoorVUf
import Derived.Test.YtihoaakbkffejaaGreatDoorVUff
import Derived.Test.YtihoaakbkffejaaGreatDoorVSmA
namespace Go.Proofs.YtihoaakbkffejaaGreatDoor
open Go.RowKit
set_option maxRecDepth 100000

set_option maxHeartbeats 8000000 in
theorem walk_fnExactVerify (w : World) (aA : Option Addr) (nA cA : Nat) (xsA : List Int) (hA : Bs w aA nA cA xsA) (aB : Option Addr) (nB cB : Nat) (xsB : List Int) (hB : Bs w aB nB cB xsB) (aC : Option Addr) (nC cC : Nat) (xsC : List Int) (hC : Bs w aC nC cC xsC) (be : Addr) (hG : VarsV w be) :
  Calls Tryz.prog 6 #[.slice aA nA cA, .slice aB nB cB, .slice aC nC cC] w fun e w' => e = .returned (.bool true) ∧ Below w.heap.size w w' := by
 by_cases hbA : 1048576 < (nA : Int)
 ·go_enter Tryz.func6, Tryz.ntmps6
  go_wp2
  go_ret
  exact ⟨rfl, Below.refl _ _⟩
 by_cases hbB : 1048576 < (nB : Int)
 ·go_enter Tryz.func6, Tryz.ntmps6
  go_wp2
  go_ret
  exact ⟨rfl, Below.refl _ _⟩
 by_cases hbC : 1048576 < (nC : Int)
 ·go_enter Tryz.func6, Tryz.ntmps6
  go_wp2
  go_ret
  exact ⟨rfl, Below.refl _ _⟩
 obtain ⟨R, hR⟩ : ∃ R, R = vfy xsA xsB xsC := ⟨_, rfl⟩
 have htA : nA ≤ 1048576 := by omega
 have htB : nB ≤ 1048576 := by omega
 have htC : nC ≤ 1048576 := by omega
 have HS : Hid (∀ (aA : Option Addr) (cA : Nat) (aB : Option Addr) (cB : Nat) (aC : Option Addr) (cC : Nat) (Z : World), Bs Z aA nA cA xsA → Bs Z aB nB cB xsB → Bs Z aC nC cC xsC → Calls Tryz.prog 27 #[.slice aA nA cA, .slice aB nB cB, .slice aC nC cC] Z fun e w' => e = .returned (.bool R) ∧ Below Z.heap.size Z w') := by
  unfold Hid; intro aA cA aB cB aC cC Z kA kB kC; rw [hR]; exact specVerify aA nA cA xsA aB nB cB xsB aC nC cC xsC Z kA kB kC
 have HI : Hid (∀ (aA : Option Addr) (cA : Nat) (aB : Option Addr) (cB : Nat) (aC : Option Addr) (cC : Nat) (Z : World), VarsV Z be → Bs Z aA nA cA xsA → Bs Z aB nB cB xsB → Bs Z aC nC cC xsC → Calls Tryz.prog 12 #[.slice aA nA cA, .slice aB nB cB, .slice aC nC cC] Z fun e w' => e = .returned (.bool R) ∧ Below Z.heap.size Z w') := by
  unfold Hid; intro aA cA aB cB aC cC Z gz kA kB kC; rw [hR]; exact implVerify' aA nA cA xsA aB nB cB xsB aC nC cC xsC Z kA kB kC be gz
 have hRR : (R != R) = false := by simp
 have HXA : Hid _ := hA.2.2.2.1
 have HXB : Hid _ := hB.2.2.2.1
 have HXC : Hid _ := hC.2.2.2.1
 clear hR
 have B : Below w.heap.size w w := Below.refl _ _
 go_enter Tryz.func6, Tryz.ntmps6
 go_wp2_with fail
 refine (toS aA nA cA xsA _ (hA.below B) (by omega)).mono ?_
 rintro e w1 ⟨yA6, kA6, rfl, _, hxyA6, hb1⟩
 have z1 := hb1.size
 replace B := B.trans (hb1.mono B.size)
 clear hb1
 go_wp2_with fail
 refine (toS aB nB cB xsB _ (hB.below B) (by omega)).mono ?_
 rintro e w2 ⟨yB6, kB6, rfl, _, hxyB6, hb2⟩
 have z2 := hb2.size
 replace B := B.trans (hb2.mono B.size)
 replace hxyA6 := hxyA6.below hb2
 clear hb2
 go_wp2_with fail
 refine (toS aC nC cC xsC _ (hC.below B) (by omega)).mono ?_
 rintro e w3 ⟨yC6, kC6, rfl, _, hxyC6, hb3⟩
 have z3 := hb3.size
 replace B := B.trans (hb3.mono B.size)
 replace hxyA6 := hxyA6.below hb3
 replace hxyB6 := hxyB6.below hb3
 clear hb3
 go_wp2_with fail
 refine (HS.out yA6 kA6 yB6 kB6 yC6 kC6 _ hxyA6 hxyB6 hxyC6).mono ?_
 rintro e w4 ⟨rfl, hb4⟩
 have z4 := hb4.size
 replace B := B.trans (hb4.mono B.size)
 replace hxyA6 := hxyA6.below hb4
 replace hxyB6 := hxyB6.below hb4
 replace hxyC6 := hxyC6.below hb4
 clear hb4
 clear hxyA6 hxyB6 hxyC6
 clear HS
 go_wp2_with fail
 refine (toS aA nA cA xsA _ (hA.below B) (by omega)).mono ?_
 rintro e w5 ⟨pA, qA, rfl, oxA, hxpA, hb5⟩
 have z5 := hb5.size
 replace B := B.trans (hb5.mono B.size)
 clear hb5
 clear hxpA
 have ioxA := In.of oxA
 go_wp2_with fail
 refine (toS aB nB cB xsB _ (hB.below B) (by omega)).mono ?_
 rintro e w6 ⟨pB, qB, rfl, oxB, hxpB, hb6⟩
 have z6 := hb6.size
 replace B := B.trans (hb6.mono B.size)
 replace oxA := own_below oxA hb6
 clear hb6
 clear hxpB
 have ioxB := In.of oxB
 go_wp2_with fail
 refine (toS aC nC cC xsC _ (hC.below B) (by omega)).mono ?_
 rintro e w7 ⟨pC, qC, rfl, oxC, hxpC, hb7⟩
 have z7 := hb7.size
 replace B := B.trans (hb7.mono B.size)
 replace oxA := own_below oxA hb7
 replace oxB := own_below oxB hb7
 clear hb7
 clear hxpC
 have ioxC := In.of oxC
 go_wp2_with fail
 refine (HI.out pA qA pB qB pC qC _ (hG.kept B) (bs_of_own oxA HXA.out) (bs_of_own oxB HXB.out) (bs_of_own oxC HXC.out)).mono ?_
 rintro e w8 ⟨rfl, hb8⟩
 have z8 := hb8.size
 replace B := B.trans (hb8.mono B.size)
 replace oxA := own_below oxA hb8
 replace oxB := own_below oxB hb8
 replace oxC := own_below oxC hb8
 clear hb8
 clear HI
 go_wp2_with fail
 refine (toS aA nA cA xsA _ (hA.below B) (by omega)).mono ?_
 rintro e w9 ⟨sA, tA, rfl, _, hxsA, hb9⟩
 have z9 := hb9.size
 replace B := B.trans (hb9.mono B.size)
 replace oxA := own_below oxA hb9
 replace oxB := own_below oxB hb9
 replace oxC := own_below oxC hb9
 clear hb9
 go_wp2_with fail
 refine (eqB pA sA nA qA tA xsA _ (bs_of_own oxA HXA.out) hxsA (by omega)).mono ?_
 rintro e w10 ⟨q10, rfl, hq10⟩
 have hb10 : Below w9.heap.size w9 w10 := by rw [hq10]; exact bel_drewN _ _
 have z10 := hb10.size
 replace B := B.trans (hb10.mono B.size)
 replace oxA := own_below oxA hb10
 replace oxB := own_below oxB hb10
 replace oxC := own_below oxC hb10
 replace hxsA := hxsA.below hb10
 clear hb10 hq10
 clear hxsA
 go_wp2_with fail
 refine (toS aB nB cB xsB _ (hB.below B) (by omega)).mono ?_
 rintro e w11 ⟨sB, tB, rfl, _, hxsB, hb11⟩
 have z11 := hb11.size
 replace B := B.trans (hb11.mono B.size)
 replace oxA := own_below oxA hb11
 replace oxB := own_below oxB hb11
 replace oxC := own_below oxC hb11
 clear hb11
 go_wp2_with fail
 refine (eqB pB sB nB qB tB xsB _ (bs_of_own oxB HXB.out) hxsB (by omega)).mono ?_
 rintro e w12 ⟨q12, rfl, hq12⟩
 have hb12 : Below w11.heap.size w11 w12 := by rw [hq12]; exact bel_drewN _ _
 have z12 := hb12.size
 replace B := B.trans (hb12.mono B.size)
 replace oxA := own_below oxA hb12
 replace oxB := own_below oxB hb12
 replace oxC := own_below oxC hb12
 replace hxsB := hxsB.below hb12
 clear hb12 hq12
 clear hxsB
 go_wp2_with fail
 refine (toS aC nC cC xsC _ (hC.below B) (by omega)).mono ?_
 rintro e w13 ⟨sC, tC, rfl, _, hxsC, hb13⟩
 have z13 := hb13.size
 replace B := B.trans (hb13.mono B.size)
 replace oxA := own_below oxA hb13
 replace oxB := own_below oxB hb13
 replace oxC := own_below oxC hb13
 clear hb13
 go_wp2_with fail
 refine (eqB pC sC nC qC tC xsC _ (bs_of_own oxC HXC.out) hxsC (by omega)).mono ?_
 rintro e w14 ⟨q14, rfl, hq14⟩
 have hb14 : Below w13.heap.size w13 w14 := by rw [hq14]; exact bel_drewN _ _
 have z14 := hb14.size
 replace B := B.trans (hb14.mono B.size)
 replace oxA := own_below oxA hb14
 replace oxB := own_below oxB hb14
 replace oxC := own_below oxC hb14
 replace hxsC := hxsC.below hb14
 clear hb14 hq14
 clear hxsC
 go_wp2
 go_ret
 exact ⟨rfl, B⟩
end Go.Proofs.YtihoaakbkffejaaGreatDoor
