/-
  What is proved here: the exact law of Sign returns true at every argument, and writes into nothing that was there; where the program's variables hold what its text lays into them.
-/
import Derived.Test.YtihoaakbkffejaaGreatDoorSVl
import Derived.Test.YtihoaakbkffejaaGreatDoorSVp
import Derived.Test.YtihoaakbkffejaaGreatDoorSUff
namespace Go.Proofs.YtihoaakbkffejaaGreatDoor
open Go.RowKit
set_option maxRecDepth 100000

set_option maxHeartbeats 8000000 in
theorem walk_fnExactSign (w : World) (aA : Option Addr) (nA cA : Nat) (xsA : List Int) (hA : Bs w aA nA cA xsA) (aB : Option Addr) (nB cB : Nat) (xsB : List Int) (hB : Bs w aB nB cB xsB) (hG : VarsOk w) :
  Calls Tryz.prog 5 #[.slice aA nA cA, .slice aB nB cB] w fun e w' => e = .returned (.bool true) ∧ Below w.heap.size w w' := by
 by_cases hbA : 1048576 < (nA : Int)
 ·go_enter Tryz.func5, Tryz.ntmps5
  go_wp2
  go_ret
  exact ⟨rfl, Below.refl _ _⟩
 by_cases hbB : 1048576 < (nB : Int)
 ·go_enter Tryz.func5, Tryz.ntmps5
  go_wp2
  go_ret
  exact ⟨rfl, Below.refl _ _⟩
 obtain ⟨R, hR⟩ : ∃ R, R = snOk xsA xsB := ⟨_, rfl⟩
 obtain ⟨L, hL⟩ : ∃ L, L = snL xsA xsB := ⟨_, rfl⟩
 have htA : nA ≤ 1048576 := by omega
 have htB : nB ≤ 1048576 := by omega
 have HS : Hid (∀ (aA : Option Addr) (cA : Nat) (aB : Option Addr) (cB : Nat) (Z : World), Bs Z aA nA cA xsA → Bs Z aB nB cB xsB → Calls Tryz.prog 22 #[.slice aA nA cA, .slice aB nB cB] Z fun e w' => ∃ v, e = .returned (.tuple #[v, .bool R]) ∧ w'.ownsRow Z.heap.size 5 1 v L.length (U8 L) ∧ Below Z.heap.size Z w') := by
  unfold Hid; intro aA cA aB cB Z kA kB; rw [hR, hL]; exact specSign aA nA cA xsA aB nB cB xsB Z kA kB
 have HI : Hid (∀ (aA : Option Addr) (cA : Nat) (aB : Option Addr) (cB : Nat) (Z : World), VarsOk Z → Bs Z aA nA cA xsA → Bs Z aB nB cB xsB → Calls Tryz.prog 8 #[.slice aA nA cA, .slice aB nB cB] Z fun e w' => ∃ v, e = .returned (.tuple #[v, .bool R]) ∧ w'.ownsRow Z.heap.size 5 1 v L.length (U8 L) ∧ Below Z.heap.size Z w') := by
  unfold Hid; intro aA cA aB cB Z gz kA kB; rw [hR, hL]; exact implSign aA nA cA xsA aB nB cB xsB Z kA kB gz
 have HLb : Hid (∀ x ∈ L, 0 ≤ x ∧ x < 256) := by unfold Hid; rw [hL]; exact snL_byte _ _
 have hml : L.length ≤ 64 := by rw [hL]; exact snL_len _ _
 obtain ⟨m, hm⟩ : ∃ m, m = L.length := ⟨_, rfl⟩
 rw [← hm] at hml
 have HM : Hid (L.length = m) := hm.symm
 have hRR : (R != R) = false := by simp
 have HXA : Hid _ := hA.2.2.2.1
 have HXB : Hid _ := hB.2.2.2.1
 clear hR hL hm
 have B : Below w.heap.size w w := Below.refl _ _
 go_enter Tryz.func5, Tryz.ntmps5
 go_wp2_with fail
 refine (toS aA nA cA xsA _ (hA.below B) (by omega)).mono ?_
 rintro e w1 ⟨yA6, kA6, rfl, _, hxyA6, hb1⟩
 have z1 := hb1.size
 replace B := B.trans (hb1.mono B.size)
 clear hb1
 go_wp2_with fail
 refine (toS aB nB cB xsB _ (hB.below B) (by omega)).mono ?_
 rintro e w2 ⟨yB6, kB6, rfl, _, hxyB6, hb2⟩
 have z2 := hb2.size
 replace B := B.trans (hb2.mono B.size)
 replace hxyA6 := hxyA6.below hb2
 clear hb2
 go_wp2_with fail
 refine (HS.out yA6 kA6 yB6 kB6 _ hxyA6 hxyB6).mono ?_
 rintro e w3 ⟨v6, rfl, o6, hb3⟩
 have z3 := hb3.size
 replace B := B.trans (hb3.mono B.size)
 replace hxyA6 := hxyA6.below hb3
 replace hxyB6 := hxyB6.below hb3
 clear hb3
 clear hxyA6 hxyB6
 rw [HM.out] at o6
 have io6 := In.of o6
 obtain ⟨a6, c6, rfl, _, _⟩ := Bs.own o6 HLb.out
 clear HS
 go_wp2_with fail
 refine (toS aA nA cA xsA _ (hA.below B) (by omega)).mono ?_
 rintro e w4 ⟨pA, qA, rfl, oxA, hxpA, hb4⟩
 have z4 := hb4.size
 replace B := B.trans (hb4.mono B.size)
 replace o6 := own_below o6 hb4
 clear hb4
 clear hxpA
 have ioxA := In.of oxA
 go_wp2_with fail
 refine (toS aB nB cB xsB _ (hB.below B) (by omega)).mono ?_
 rintro e w5 ⟨pB, qB, rfl, oxB, hxpB, hb5⟩
 have z5 := hb5.size
 replace B := B.trans (hb5.mono B.size)
 replace o6 := own_below o6 hb5
 replace oxA := own_below oxA hb5
 clear hb5
 clear hxpB
 have ioxB := In.of oxB
 go_wp2_with fail
 refine (HI.out pA qA pB qB _ (hG.kept B) (bs_of_own oxA HXA.out) (bs_of_own oxB HXB.out)).mono ?_
 rintro e w6 ⟨v10, rfl, o10, hb6⟩
 have z6 := hb6.size
 replace B := B.trans (hb6.mono B.size)
 replace o6 := own_below o6 hb6
 replace oxA := own_below oxA hb6
 replace oxB := own_below oxB hb6
 clear hb6
 rw [HM.out] at o10
 have io10 := In.of o10
 obtain ⟨a10, c10, rfl, _, _⟩ := Bs.own o10 HLb.out
 go_wp2_with fail
 refine (eqB a10 a6 m c10 c6 L _ (bs_of_own o10 HLb.out) (bs_of_own o6 HLb.out) (by omega)).mono ?_
 rintro e w7 ⟨q7, rfl, hq7⟩
 have hb7 : Below w6.heap.size w6 w7 := by rw [hq7]; exact bel_drewN _ _
 have z7 := hb7.size
 replace B := B.trans (hb7.mono B.size)
 replace o6 := own_below o6 hb7
 replace oxA := own_below oxA hb7
 replace oxB := own_below oxB hb7
 replace o10 := own_below o10 hb7
 clear hb7 hq7
 go_wp2_with fail
 refine (toS aA nA cA xsA _ (hA.below B) (by omega)).mono ?_
 rintro e w8 ⟨sA, tA, rfl, _, hxsA, hb8⟩
 have z8 := hb8.size
 replace B := B.trans (hb8.mono B.size)
 replace o6 := own_below o6 hb8
 replace oxA := own_below oxA hb8
 replace oxB := own_below oxB hb8
 replace o10 := own_below o10 hb8
 clear hb8
 go_wp2_with fail
 refine (eqB pA sA nA qA tA xsA _ (bs_of_own oxA HXA.out) hxsA (by omega)).mono ?_
 rintro e w9 ⟨q9, rfl, hq9⟩
 have hb9 : Below w8.heap.size w8 w9 := by rw [hq9]; exact bel_drewN _ _
 have z9 := hb9.size
 replace B := B.trans (hb9.mono B.size)
 replace o6 := own_below o6 hb9
 replace oxA := own_below oxA hb9
 replace oxB := own_below oxB hb9
 replace o10 := own_below o10 hb9
 replace hxsA := hxsA.below hb9
 clear hb9 hq9
 clear hxsA
 go_wp2_with fail
 refine (toS aB nB cB xsB _ (hB.below B) (by omega)).mono ?_
 rintro e w10 ⟨sB, tB, rfl, _, hxsB, hb10⟩
 have z10 := hb10.size
 replace B := B.trans (hb10.mono B.size)
 replace o6 := own_below o6 hb10
 replace oxA := own_below oxA hb10
 replace oxB := own_below oxB hb10
 replace o10 := own_below o10 hb10
 clear hb10
 go_wp2_with fail
 refine (eqB pB sB nB qB tB xsB _ (bs_of_own oxB HXB.out) hxsB (by omega)).mono ?_
 rintro e w11 ⟨q11, rfl, hq11⟩
 have hb11 : Below w10.heap.size w10 w11 := by rw [hq11]; exact bel_drewN _ _
 have z11 := hb11.size
 replace B := B.trans (hb11.mono B.size)
 replace o6 := own_below o6 hb11
 replace oxA := own_below oxA hb11
 replace oxB := own_below oxB hb11
 replace o10 := own_below o10 hb11
 replace hxsB := hxsB.below hb11
 clear hb11 hq11
 clear hxsB
 go_wp2_with fail
 refine (markB _ nA _ (1) xsA _ oxA (by omega) (by omega) (by omega)).mono ?_
 rintro e w12 ⟨rfl, moxA, g12⟩
 have z12 := g12.size
 replace B := B.grown g12 B.size (fun k hk => by have := (ioxA k hk).1; omega)
 replace o6 := own_kept o6 g12 (ioxA.apart io6 (by omega))
 replace oxB := own_kept oxB g12 (ioxA.apart ioxB (by omega))
 replace o10 := own_kept o10 g12 (ioxA.apart io10 (by omega))
 clear g12
 clear oxA moxA
 go_wp2_with fail
 refine (markB _ nB _ (1 + (nA : Int)) xsB _ oxB (by omega) (by omega) (by omega)).mono ?_
 rintro e w13 ⟨rfl, moxB, g13⟩
 have z13 := g13.size
 replace B := B.grown g13 B.size (fun k hk => by have := (ioxB k hk).1; omega)
 replace o6 := own_kept o6 g13 (ioxB.apart io6 (by omega))
 replace o10 := own_kept o10 g13 (ioxB.apart io10 (by omega))
 clear g13
 clear oxB moxB
 have hk0 : ¬ (1 + (nA : Int) + (nB : Int) < 0) := by omega
 go_wp2_with fail
 refine (eqB a10 a6 m c10 c6 L _ (bs_of_own o10 HLb.out) (bs_of_own o6 HLb.out) (by omega)).mono ?_
 rintro e w14 ⟨q14, rfl, hq14⟩
 have hb14 : Below w13.heap.size w13 w14 := by rw [hq14]; exact bel_drewN _ _
 have z14 := hb14.size
 replace B := B.trans (hb14.mono B.size)
 replace o6 := own_below o6 hb14
 replace o10 := own_below o10 hb14
 clear hb14 hq14
 go_wp2_with fail
 refine (markB _ m _ 1 L _ o10 (by omega) (by omega) (by omega)).mono ?_
 rintro e w15 ⟨rfl, mo10, g15⟩
 have z15 := g15.size
 replace B := B.grown g15 B.size (fun k hk => by have := (io10 k hk).1; omega)
 replace o6 := own_kept o6 g15 (io10.apart io6 (by omega))
 clear g15
 replace o10 := mo10
 clear mo10
 have hm0 : ¬ ((1 : Int) + (m : Int) < 0) := by omega
 have hmm : ((1 : Int) + (m : Int) != 1 + (m : Int)) = false := by simp
 have HMB : Hid _ := marks_byte 1 m
 go_wp2_with fail
 refine (heldB a10 m c10 1 _ (bs_of_own o10 HMB.out) (by omega) (by omega) (by omega)).mono ?_
 rintro e w16 ⟨rfl, hq16⟩
 have hb16 : Below w15.heap.size w15 w16 := by rw [hq16]; exact Below.refl _ _
 have z16 := hb16.size
 replace B := B.trans (hb16.mono B.size)
 replace o6 := own_below o6 hb16
 replace o10 := own_below o10 hb16
 clear hb16 hq16
 go_wp2_with fail
 refine (toS aA nA cA xsA _ (hA.below B) (by omega)).mono ?_
 rintro e w17 ⟨yA15, kA15, rfl, _, hxyA15, hb17⟩
 have z17 := hb17.size
 replace B := B.trans (hb17.mono B.size)
 replace o6 := own_below o6 hb17
 replace o10 := own_below o10 hb17
 clear hb17
 go_wp2_with fail
 refine (toS aB nB cB xsB _ (hB.below B) (by omega)).mono ?_
 rintro e w18 ⟨yB15, kB15, rfl, _, hxyB15, hb18⟩
 have z18 := hb18.size
 replace B := B.trans (hb18.mono B.size)
 replace o6 := own_below o6 hb18
 replace o10 := own_below o10 hb18
 replace hxyA15 := hxyA15.below hb18
 clear hb18
 go_wp2_with fail
 refine (HI.out yA15 kA15 yB15 kB15 _ (hG.kept B) hxyA15 hxyB15).mono ?_
 rintro e w19 ⟨v15, rfl, o15, hb19⟩
 have z19 := hb19.size
 replace B := B.trans (hb19.mono B.size)
 replace o6 := own_below o6 hb19
 replace o10 := own_below o10 hb19
 replace hxyA15 := hxyA15.below hb19
 replace hxyB15 := hxyB15.below hb19
 clear hb19
 clear hxyA15 hxyB15
 rw [HM.out] at o15
 have io15 := In.of o15
 obtain ⟨a15, c15, rfl, _, _⟩ := Bs.own o15 HLb.out
 go_wp2_with fail
 refine (eqB a15 a6 m c15 c6 L _ (bs_of_own o15 HLb.out) (bs_of_own o6 HLb.out) (by omega)).mono ?_
 rintro e w20 ⟨q20, rfl, hq20⟩
 have hb20 : Below w19.heap.size w19 w20 := by rw [hq20]; exact bel_drewN _ _
 have z20 := hb20.size
 replace B := B.trans (hb20.mono B.size)
 replace o6 := own_below o6 hb20
 replace o10 := own_below o10 hb20
 replace o15 := own_below o15 hb20
 clear hb20 hq20
 go_wp2_with fail
 refine (heldB a10 m c10 1 _ (bs_of_own o10 HMB.out) (by omega) (by omega) (by omega)).mono ?_
 rintro e w21 ⟨rfl, hq21⟩
 have hb21 : Below w20.heap.size w20 w21 := by rw [hq21]; exact Below.refl _ _
 have z21 := hb21.size
 replace B := B.trans (hb21.mono B.size)
 replace o6 := own_below o6 hb21
 replace o10 := own_below o10 hb21
 replace o15 := own_below o15 hb21
 clear hb21 hq21
 go_wp2
 go_ret
 exact ⟨rfl, B⟩
end Go.Proofs.YtihoaakbkffejaaGreatDoor
