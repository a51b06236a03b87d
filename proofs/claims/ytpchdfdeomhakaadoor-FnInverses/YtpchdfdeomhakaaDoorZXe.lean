/-
  What is proved here: the laws' field returns true; where the program's variable holds the prime.
-/
import Derived.Test.YtpchdfdeomhakaaDoorZXd
namespace Go.Proofs.YtpchdfdeomhakaaDoor
open Go.RowKit
set_option maxRecDepth 100000

set_option maxHeartbeats 8000000 in
theorem fieldT (w : World) (hV : Vr w 0 (I64 PL)) :
    Calls Tryd.prog 18 #[] w fun e w' => e = .returned (.bool true) ∧ Below w.heap.size w w' := by
  have B : Below w.heap.size w w := Below.refl _ _
  have HT := inv_one two_inv
  obtain ⟨T, hT⟩ : ∃ T, T = lim 16 2 := ⟨_, rfl⟩
  have hTi : invOk T = true := by rw [hT]; exact two_inv
  have hTo : ofN 2 = T := by rw [hT]; exact ofN_two
  have hTl : T.length = 16 := by rw [hT]; exact lim_len _ _
  have hTb : ∀ x ∈ T, -9223372036854775808 ≤ x ∧ x ≤ 9223372036854775807 := by rw [hT]; exact lm_int (lim_lm _ _)
  rw [← hT] at HT
  obtain ⟨O, hO⟩ : ∃ O, O = red 1 := ⟨_, rfl⟩
  have hOl : O.length = 16 := by rw [hO]; exact red_len _
  have hOb : ∀ x ∈ O, -9223372036854775808 ≤ x ∧ x ≤ 9223372036854775807 := by rw [hO]; exact lm_int (red_lm _)
  have hOo : ofN 1 = O := by rw [hO]; exact ofN_one
  rw [← hO] at HT
  obtain ⟨I, hI⟩ : ∃ I, I = invF T := ⟨_, rfl⟩
  rw [← hI] at HT
  have hIl : I.length = 16 := by rw [hI]; exact red_len _
  have HC1 : Hid (∀ Z, Calls Tryd.prog 25 #[.int .i64 2] Z fun e w' => ∃ a' c', e = .returned (.tuple #[.agg #[.slice a' 16 c'], .bool true]) ∧ Is w' a' 16 c' T ∧ Below Z.heap.size Z w') := by unfold Hid; intro Z; exact okOf 2 Z (by omega) (by omega) hTo hTl hTb
  have HC2 : Hid (∀ Z, Calls Tryd.prog 25 #[.int .i64 1] Z fun e w' => ∃ a' c', e = .returned (.tuple #[.agg #[.slice a' 16 c'], .bool true]) ∧ Is w' a' 16 c' O ∧ Below Z.heap.size Z w') := by unfold Hid; intro Z; exact okOf 1 Z (by omega) (by omega) hOo hOl hOb
  have HC3 : Hid (∀ a c Z, Is Z a 16 c T → Vr Z 0 (I64 PL) → Calls Tryd.prog 24 #[.agg #[.slice a 16 c]] Z fun e w' => ∃ a' c', e = .returned (.tuple #[.agg #[.slice a' 16 c'], .bool true]) ∧ Is w' a' 16 c' I ∧ Below Z.heap.size Z w') := by
    unfold Hid; intro a c Z h hZ
    refine (implFeInv a 16 c T Z h hZ).mono ?_
    rintro e w1 ⟨v, rfl, hv, hb⟩
    rw [HT.2.2.1] at hv
    obtain ⟨a', c', rfl, hi⟩ := feR_of hv (by rw [hI]; exact lm_int (red_lm _))
    rw [hIl] at hi
    exact ⟨a', c', by rw [hIl, hTi], hi, hb⟩
  have HOK : Hid (feOk T = true ∧ feOk I = true ∧ red (val T * val I) = O) := ⟨HT.1, HT.2.1, HT.2.2.2⟩
  clear HT hT hTi hTo hTl hTb hO hOl hOb hOo hI hIl
  go_enter Tryd.func18, Tryd.ntmps18
  go_wp2_with fail
  refine (HC1.out _).mono ?_
  rintro e w1 ⟨aA, cA, rfl, iA, hb1⟩
  have z1 := hb1.size
  replace B := B.trans (hb1.mono B.size)
  replace hV := hV.kept hb1
  clear hb1
  obtain ⟨V2, hV2⟩ : ∃ V, V = w1.alloc (.cells #[.slice aA 16 cA] 25) := ⟨_, rfl⟩
  have bV : Below w1.heap.size w1 V2 := by rw [hV2]; exact (Below.refl _ _).alloc (Nat.le_refl _) _
  have z2 : V2.heap.size = w1.heap.size + 1 := by rw [hV2]; simp
  have EA : Arr V2 w1.heap.size 25 [.slice aA 16 cA] := by rw [hV2]; exact Arr.new w1 [.slice aA 16 cA] _
  replace B := B.trans (bV.mono B.size)
  replace hV := hV.kept bV
  replace iA := iA.below bV
  clear bV
  have cEA := cell1 EA
  rw [hV2] at cEA
  go_wp2_with fail
  rw [← hV2]
  clear cEA hV2
  refine (HC3.out aA cA _ iA hV).mono ?_
  rintro e w3 ⟨aH, cH, rfl, iH, hb3⟩
  have z3 := hb3.size
  replace B := B.trans (hb3.mono B.size)
  replace hV := hV.kept hb3
  replace iA := iA.below hb3
  replace EA := EA.kept hb3
  clear hb3
  obtain ⟨V4, hV4⟩ : ∃ V, V = w3.alloc (.cells #[.slice aH 16 cH] 25) := ⟨_, rfl⟩
  have bV : Below w3.heap.size w3 V4 := by rw [hV4]; exact (Below.refl _ _).alloc (Nat.le_refl _) _
  have z4 : V4.heap.size = w3.heap.size + 1 := by rw [hV4]; simp
  have EH : Arr V4 w3.heap.size 25 [.slice aH 16 cH] := by rw [hV4]; exact Arr.new w3 [.slice aH 16 cH] _
  replace B := B.trans (bV.mono B.size)
  replace hV := hV.kept bV
  replace iA := iA.below bV
  replace EA := EA.kept bV
  replace iH := iH.below bV
  clear bV
  have cEA := cell1 EA
  rw [hV4] at cEA
  have cEH := cell1 EH
  rw [hV4] at cEH
  go_wp2_with fail
  rw [← hV4]
  clear cEA cEH hV4
  refine (okMul aA 16 cA T aH 16 cH I _ iA iH hV HOK.out.1 HOK.out.2.1 HOK.out.2.2).mono ?_
  rintro e w5 ⟨aP, cP, rfl, iP, hb5⟩
  have z5 := hb5.size
  replace B := B.trans (hb5.mono B.size)
  replace hV := hV.kept hb5
  replace iA := iA.below hb5
  replace EA := EA.kept hb5
  replace iH := iH.below hb5
  replace EH := EH.kept hb5
  clear hb5
  obtain ⟨V6, hV6⟩ : ∃ V, V = w5.alloc (.cells #[.slice aP 16 cP] 25) := ⟨_, rfl⟩
  have bV : Below w5.heap.size w5 V6 := by rw [hV6]; exact (Below.refl _ _).alloc (Nat.le_refl _) _
  have z6 : V6.heap.size = w5.heap.size + 1 := by rw [hV6]; simp
  have EP : Arr V6 w5.heap.size 25 [.slice aP 16 cP] := by rw [hV6]; exact Arr.new w5 [.slice aP 16 cP] _
  replace B := B.trans (bV.mono B.size)
  replace hV := hV.kept bV
  replace iA := iA.below bV
  replace EA := EA.kept bV
  replace iH := iH.below bV
  replace EH := EH.kept bV
  replace iP := iP.below bV
  clear bV
  go_wp2_with fail
  rw [← hV6]
  clear hV6
  refine (HC2.out _).mono ?_
  rintro e w7 ⟨aO, cO, rfl, iO, hb7⟩
  have z7 := hb7.size
  replace B := B.trans (hb7.mono B.size)
  replace hV := hV.kept hb7
  replace iA := iA.below hb7
  replace EA := EA.kept hb7
  replace iH := iH.below hb7
  replace EH := EH.kept hb7
  replace iP := iP.below hb7
  replace EP := EP.kept hb7
  clear hb7
  obtain ⟨V8, hV8⟩ : ∃ V, V = w7.alloc (.cells #[.slice aO 16 cO] 25) := ⟨_, rfl⟩
  have bV : Below w7.heap.size w7 V8 := by rw [hV8]; exact (Below.refl _ _).alloc (Nat.le_refl _) _
  have z8 : V8.heap.size = w7.heap.size + 1 := by rw [hV8]; simp
  have EO : Arr V8 w7.heap.size 25 [.slice aO 16 cO] := by rw [hV8]; exact Arr.new w7 [.slice aO 16 cO] _
  replace B := B.trans (bV.mono B.size)
  replace hV := hV.kept bV
  replace iA := iA.below bV
  replace EA := EA.kept bV
  replace iH := iH.below bV
  replace EH := EH.kept bV
  replace iP := iP.below bV
  replace EP := EP.kept bV
  replace iO := iO.below bV
  clear bV
  have cEP := cell1 EP
  rw [hV8] at cEP
  have cEO := cell1 EO
  rw [hV8] at cEO
  go_wp2_with fail
  rw [← hV8]
  clear cEP cEO hV8
  refine (sameIntsT aP aO 16 cP cO O _ iP iO (by omega)).mono ?_
  rintro e w9 ⟨q9, rfl, hq9⟩
  have hb9 : Below V8.heap.size V8 w9 := by rw [hq9]; exact bel_drewN _ _
  have z9 := hb9.size
  replace B := B.trans (hb9.mono B.size)
  replace hV := hV.kept hb9
  replace iA := iA.below hb9
  replace EA := EA.kept hb9
  replace iH := iH.below hb9
  replace EH := EH.kept hb9
  replace iP := iP.below hb9
  replace EP := EP.kept hb9
  replace iO := iO.below hb9
  replace EO := EO.kept hb9
  clear hb9 hq9
  have cEO := cell1 EO
  go_wp2
  clear cEO
  go_ret
  exact ⟨rfl, B⟩
end Go.Proofs.YtpchdfdeomhakaaDoor
