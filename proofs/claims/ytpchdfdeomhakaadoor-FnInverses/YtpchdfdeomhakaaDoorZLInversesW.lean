/-
  What is proved here: the law of inverses and roots returns true at every code; where the program's variables hold the prime and a root of the opposite of one.
-/
import Derived.Test.YtpchdfdeomhakaaDoorZXe
import Derived.Test.YtpchdfdeomhakaaDoorZR
namespace Go.Proofs.YtpchdfdeomhakaaDoor
open Go.RowKit
set_option maxRecDepth 100000

set_option maxHeartbeats 8000000 in
theorem walk_fnInverses (w : World) (ab : Option Addr) (nb cb : Nat) (bs : List Int) (hB : Bs w ab nb cb bs) (hre : nb ≤ 140737488351232) (hV : Vr w 0 (I64 PL)) (hQ : Vr w 1 (I64 QL)) :
    Calls Tryd.prog 4 #[.slice ab nb cb] w fun e w' => e = .returned (.bool true) ∧ Below w.heap.size w w' := by
  have B : Below w.heap.size w w := Below.refl _ _
  have h0w := hQ.lt
  have HFD : Hid (∀ Z, Vr Z 0 (I64 PL) → Calls Tryd.prog 18 #[] Z fun e w' => e = .returned (.bool true) ∧ Below Z.heap.size Z w') := by unfold Hid; intro Z hZ; exact fieldT Z hZ
  obtain ⟨O, hO⟩ : ∃ O, O = red 1 := ⟨_, rfl⟩
  have HC2 : Hid (∀ Z, Calls Tryd.prog 25 #[.int .i64 1] Z fun e w' => ∃ a' c', e = .returned (.tuple #[.agg #[.slice a' 16 c'], .bool true]) ∧ Is w' a' 16 c' O ∧ Below Z.heap.size Z w') := by unfold Hid; intro Z; exact okOf 1 Z (by omega) (by omega) (by rw [hO]; exact ofN_one) (by rw [hO]; exact red_len _) (by rw [hO]; exact lm_int (red_lm _))
  have HIV : Hid (∀ l, invOk l = true → feOk l = true ∧ feOk (invF l) = true ∧ invL l = invF l ∧ red (val l * val (invF l)) = O) := by unfold Hid; intro l h; rw [hO]; exact inv_one h
  clear hO
  go_enter Tryd.func4, Tryd.ntmps4
  go_wp2_with fail
  refine (drawFeInv ab nb cb bs _ (hB.below B) (by omega)).mono ?_
  rintro e w1 ⟨vA, lA, rfl, ⟨aA, nA, cA, rfl, iA, _, nmA⟩, hb1⟩
  have z1 := hb1.size
  replace B := B.trans (hb1.mono B.size)
  replace hV := hV.kept hb1
  replace hQ := hQ.kept hb1
  clear hb1
  obtain ⟨V2, hV2⟩ : ∃ V, V = w1.alloc (.cells #[.slice aA nA cA] 25) := ⟨_, rfl⟩
  have bV : Below w1.heap.size w1 V2 := by rw [hV2]; exact (Below.refl _ _).alloc (Nat.le_refl _) _
  have z2 : V2.heap.size = w1.heap.size + 1 := by rw [hV2]; simp
  have EA : Arr V2 w1.heap.size 25 [.slice aA nA cA] := by rw [hV2]; exact Arr.new w1 [.slice aA nA cA] _
  replace B := B.trans (bV.mono B.size)
  replace hV := hV.kept bV
  replace hQ := hQ.kept bV
  replace iA := iA.below bV
  clear bV
  have cEA := cell1 EA
  rw [hV2] at cEA
  go_wp2_with fail
  rw [← hV2]
  clear cEA hV2
  refine (implFeInv aA nA cA lA _ iA hV).mono ?_
  rintro e w3 ⟨v, rfl, fX, hb3⟩
  have z3 := hb3.size
  replace B := B.trans (hb3.mono B.size)
  replace hV := hV.kept hb3
  replace hQ := hQ.kept hb3
  replace iA := iA.below hb3
  replace EA := EA.kept hb3
  clear hb3
  obtain ⟨aX, cX, rfl, iX⟩ := feR_of fX (invL_int _)
  clear fX
  obtain ⟨nX, hnX⟩ : ∃ n, n = (invL lA).length := ⟨_, rfl⟩
  obtain ⟨oX, hoX⟩ : ∃ o, o = invOk lA := ⟨_, rfl⟩
  rw [← hnX] at iX ⊢
  rw [← hoX]
  have HNX : Hid _ := hnX
  have HOX : Hid _ := hoX
  clear hnX hoX
  obtain ⟨V4, hV4⟩ : ∃ V, V = w3.alloc (.cells #[.slice aX nX cX] 25) := ⟨_, rfl⟩
  have bV : Below w3.heap.size w3 V4 := by rw [hV4]; exact (Below.refl _ _).alloc (Nat.le_refl _) _
  have z4 : V4.heap.size = w3.heap.size + 1 := by rw [hV4]; simp
  have EX : Arr V4 w3.heap.size 25 [.slice aX nX cX] := by rw [hV4]; exact Arr.new w3 [.slice aX nX cX] _
  replace B := B.trans (bV.mono B.size)
  replace hV := hV.kept bV
  replace hQ := hQ.kept bV
  replace iA := iA.below bV
  replace EA := EA.kept bV
  replace iX := iX.below bV
  clear bV
  cases oX with
  | false =>
    clear iX
    clear EX
    clear iA
    clear EA
    go_wp2_with fail
    rw [← hV4]
    clear hV4
    refine (drawFeRoot ab nb cb bs _ (hB.below B) (by omega)).mono ?_
    rintro e w5 ⟨vB, lB, rfl, ⟨aB, nB, cB, rfl, iB, _, nmB⟩, hb5⟩
    have z5 := hb5.size
    replace B := B.trans (hb5.mono B.size)
    replace hV := hV.kept hb5
    replace hQ := hQ.kept hb5
    clear hb5
    obtain ⟨V6, hV6⟩ : ∃ V, V = w5.alloc (.cells #[.slice aB nB cB] 25) := ⟨_, rfl⟩
    have bV : Below w5.heap.size w5 V6 := by rw [hV6]; exact (Below.refl _ _).alloc (Nat.le_refl _) _
    have z6 : V6.heap.size = w5.heap.size + 1 := by rw [hV6]; simp
    have EB : Arr V6 w5.heap.size 25 [.slice aB nB cB] := by rw [hV6]; exact Arr.new w5 [.slice aB nB cB] _
    replace B := B.trans (bV.mono B.size)
    replace hV := hV.kept bV
    replace hQ := hQ.kept bV
    replace iB := iB.below bV
    clear bV
    have cEB := cell1 EB
    rw [hV6] at cEB
    go_wp2_with fail
    rw [← hV6]
    clear cEB hV6
    refine (implFeRoot aB nB cB lB _ iB hV hQ).mono ?_
    rintro e w7 ⟨v, rfl, fR, hb7⟩
    have z7 := hb7.size
    replace B := B.trans (hb7.mono B.size)
    replace hV := hV.kept hb7
    replace hQ := hQ.kept hb7
    replace iB := iB.below hb7
    replace EB := EB.kept hb7
    clear hb7
    obtain ⟨aR, cR, rfl, iR⟩ := feR_of fR (rootL_int _)
    clear fR
    obtain ⟨nR, hnR⟩ : ∃ n, n = (rootL lB).length := ⟨_, rfl⟩
    obtain ⟨oR, hoR⟩ : ∃ o, o = rootOk lB := ⟨_, rfl⟩
    rw [← hnR] at iR ⊢
    rw [← hoR]
    have HNR : Hid _ := hnR
    have HOR : Hid _ := hoR
    clear hnR hoR
    obtain ⟨V8, hV8⟩ : ∃ V, V = w7.alloc (.cells #[.slice aR nR cR] 25) := ⟨_, rfl⟩
    have bV : Below w7.heap.size w7 V8 := by rw [hV8]; exact (Below.refl _ _).alloc (Nat.le_refl _) _
    have z8 : V8.heap.size = w7.heap.size + 1 := by rw [hV8]; simp
    have ER : Arr V8 w7.heap.size 25 [.slice aR nR cR] := by rw [hV8]; exact Arr.new w7 [.slice aR nR cR] _
    replace B := B.trans (bV.mono B.size)
    replace hV := hV.kept bV
    replace hQ := hQ.kept bV
    replace iB := iB.below bV
    replace EB := EB.kept bV
    replace iR := iR.below bV
    clear bV
    cases oR with
    | false =>
      have cEB := cell1 EB
      rw [hV8] at cEB
      go_wp2_with fail
      rw [← hV8]
      clear cEB hV8
      refine (specFeOk aB nB cB lB _ iB).mono ?_
      rintro e w9 ⟨rfl, hb9⟩
      have z9 := hb9.size
      replace B := B.trans (hb9.mono B.size)
      replace hV := hV.kept hb9
      replace hQ := hQ.kept hb9
      replace iB := iB.below hb9
      replace EB := EB.kept hb9
      replace iR := iR.below hb9
      replace ER := ER.kept hb9
      clear hb9
      obtain ⟨p, hp⟩ : ∃ p, p = feOk lB := ⟨_, rfl⟩
      rw [← hp]
      have HP : Hid _ := hp
      clear hp
      cases p with
      | false =>
        go_wp2_with fail
        refine (HFD.out _ hV).mono ?_
        rintro e w10 ⟨rfl, hb10⟩
        have z10 := hb10.size
        replace B := B.trans (hb10.mono B.size)
        replace hV := hV.kept hb10
        replace hQ := hQ.kept hb10
        replace iB := iB.below hb10
        replace EB := EB.kept hb10
        replace iR := iR.below hb10
        replace ER := ER.kept hb10
        clear hb10
        go_wp2
        go_ret
        exact ⟨rfl, B⟩
      | true =>
        have kB : Hid (feOk lB = true) := HP.out.symm
        have hnB : nB = 16 := by have := iB.2.1; have := ((feOk_iff lB).1 kB.out).1; omega
        subst hnB
        obtain ⟨Q, hQQ⟩ : ∃ Q, Q = red (val lB * val lB) := ⟨_, rfl⟩
        have HQQ : Hid (red (val lB * val lB) = Q) := hQQ.symm
        have kQ : Hid (rootOk Q = true) := by unfold Hid; rw [hQQ]; exact root_sq (val_nonneg (fun x hx => (((feOk_iff lB).1 kB.out).2.1 x hx).1))
        clear hQQ
        have cEB := cell1 EB
        go_wp2_with fail
        clear cEB
        refine (okMul aB 16 cB lB aB 16 cB lB _ iB iB hV kB.out kB.out HQQ.out).mono ?_
        rintro e w11 ⟨aQ, cQ, rfl, iQ, hb11⟩
        have z11 := hb11.size
        replace B := B.trans (hb11.mono B.size)
        replace hV := hV.kept hb11
        replace hQ := hQ.kept hb11
        replace iB := iB.below hb11
        replace EB := EB.kept hb11
        replace iR := iR.below hb11
        replace ER := ER.kept hb11
        clear hb11
        obtain ⟨V12, hV12⟩ : ∃ V, V = w11.alloc (.cells #[.slice aQ 16 cQ] 25) := ⟨_, rfl⟩
        have bV : Below w11.heap.size w11 V12 := by rw [hV12]; exact (Below.refl _ _).alloc (Nat.le_refl _) _
        have z12 : V12.heap.size = w11.heap.size + 1 := by rw [hV12]; simp
        have EQ : Arr V12 w11.heap.size 25 [.slice aQ 16 cQ] := by rw [hV12]; exact Arr.new w11 [.slice aQ 16 cQ] _
        replace B := B.trans (bV.mono B.size)
        replace hV := hV.kept bV
        replace hQ := hQ.kept bV
        replace iB := iB.below bV
        replace EB := EB.kept bV
        replace iR := iR.below bV
        replace ER := ER.kept bV
        replace iQ := iQ.below bV
        clear bV
        have cEQ := cell1 EQ
        rw [hV12] at cEQ
        go_wp2_with fail
        rw [← hV12]
        clear cEQ hV12
        refine (implFeRoot aQ 16 cQ Q _ iQ hV hQ).mono ?_
        rintro e w13 ⟨v, rfl, fZ, hb13⟩
        have z13 := hb13.size
        replace B := B.trans (hb13.mono B.size)
        replace hV := hV.kept hb13
        replace hQ := hQ.kept hb13
        replace iB := iB.below hb13
        replace EB := EB.kept hb13
        replace iR := iR.below hb13
        replace ER := ER.kept hb13
        replace iQ := iQ.below hb13
        replace EQ := EQ.kept hb13
        clear hb13
        obtain ⟨aZ, cZ, rfl, iZ⟩ := feR_of fZ (rootL_int _)
        clear fZ iZ
        rw [kQ.out]
        obtain ⟨nZ, hnZ⟩ : ∃ n, n = (rootL Q).length := ⟨_, rfl⟩
        rw [← hnZ]
        clear hnZ
        obtain ⟨V14, hV14⟩ : ∃ V, V = w13.alloc (.cells #[.slice aZ nZ cZ] 25) := ⟨_, rfl⟩
        have bV : Below w13.heap.size w13 V14 := by rw [hV14]; exact (Below.refl _ _).alloc (Nat.le_refl _) _
        have z14 : V14.heap.size = w13.heap.size + 1 := by rw [hV14]; simp
        have EZ : Arr V14 w13.heap.size 25 [.slice aZ nZ cZ] := by rw [hV14]; exact Arr.new w13 [.slice aZ nZ cZ] _
        replace B := B.trans (bV.mono B.size)
        replace hV := hV.kept bV
        replace hQ := hQ.kept bV
        replace iB := iB.below bV
        replace EB := EB.kept bV
        replace iR := iR.below bV
        replace ER := ER.kept bV
        replace iQ := iQ.below bV
        replace EQ := EQ.kept bV
        clear bV
        go_wp2_with fail
        rw [← hV14]
        clear hV14
        refine (HFD.out _ hV).mono ?_
        rintro e w15 ⟨rfl, hb15⟩
        have z15 := hb15.size
        replace B := B.trans (hb15.mono B.size)
        replace hV := hV.kept hb15
        replace hQ := hQ.kept hb15
        replace iB := iB.below hb15
        replace EB := EB.kept hb15
        replace iR := iR.below hb15
        replace ER := ER.kept hb15
        replace iQ := iQ.below hb15
        replace EQ := EQ.kept hb15
        replace EZ := EZ.kept hb15
        clear hb15
        go_wp2
        go_ret
        exact ⟨rfl, B⟩
    | true =>
      have hR := rt3_sq HOR.out.symm
      obtain ⟨R, hRR⟩ : ∃ R, R = rootL lB := ⟨_, rfl⟩
      rw [hR.1] at hRR
      rw [hR.1, ← hRR] at iR HNR
      rw [← hRR] at hR
      have hl16 : R.length = 16 := ((feOk_iff R).1 hR.2.1).1
      have hnR : nR = 16 := HNR.out.trans hl16
      subst hnR
      have HR : Hid (feOk R = true ∧ red (val R * val R) = lB ∧ R.getD 0 0 % 2 = 0) := hR.2
      have kB : Hid (feOk lB = true) := by unfold Hid; rw [← HR.out.2.1]; exact red_ok _
      have hnB : nB = 16 := by have := iB.2.1; have := ((feOk_iff lB).1 kB.out).1; omega
      subst hnB
      clear hR hRR hl16 HNR
      have cER := cell1 ER
      rw [hV8] at cER
      go_wp2_with fail
      rw [← hV8]
      clear cER hV8
      refine (okMul aR 16 cR R aR 16 cR R _ iR iR hV HR.out.1 HR.out.1 HR.out.2.1).mono ?_
      rintro e w16 ⟨aS, cS, rfl, iS, hb16⟩
      have z16 := hb16.size
      replace B := B.trans (hb16.mono B.size)
      replace hV := hV.kept hb16
      replace hQ := hQ.kept hb16
      replace iB := iB.below hb16
      replace EB := EB.kept hb16
      replace iR := iR.below hb16
      replace ER := ER.kept hb16
      clear hb16
      obtain ⟨V17, hV17⟩ : ∃ V, V = w16.alloc (.cells #[.slice aS 16 cS] 25) := ⟨_, rfl⟩
      have bV : Below w16.heap.size w16 V17 := by rw [hV17]; exact (Below.refl _ _).alloc (Nat.le_refl _) _
      have z17 : V17.heap.size = w16.heap.size + 1 := by rw [hV17]; simp
      have ES : Arr V17 w16.heap.size 25 [.slice aS 16 cS] := by rw [hV17]; exact Arr.new w16 [.slice aS 16 cS] _
      replace B := B.trans (bV.mono B.size)
      replace hV := hV.kept bV
      replace hQ := hQ.kept bV
      replace iB := iB.below bV
      replace EB := EB.kept bV
      replace iR := iR.below bV
      replace ER := ER.kept bV
      replace iS := iS.below bV
      clear bV
      have cES := cell1 ES
      rw [hV17] at cES
      have cEB := cell1 EB
      rw [hV17] at cEB
      go_wp2_with fail
      rw [← hV17]
      clear cES cEB hV17
      refine (sameIntsT aS aB 16 cS cB lB _ iS iB (by omega)).mono ?_
      rintro e w18 ⟨q18, rfl, hq18⟩
      have hb18 : Below V17.heap.size V17 w18 := by rw [hq18]; exact bel_drewN _ _
      have z18 := hb18.size
      replace B := B.trans (hb18.mono B.size)
      replace hV := hV.kept hb18
      replace hQ := hQ.kept hb18
      replace iB := iB.below hb18
      replace EB := EB.kept hb18
      replace iR := iR.below hb18
      replace ER := ER.kept hb18
      replace iS := iS.below hb18
      replace ES := ES.kept hb18
      clear hb18 hq18
      clear iS
      clear ES
      obtain ⟨x, hx⟩ : ∃ x, x = R.getD 0 0 := ⟨_, rfl⟩
      have hxb : 0 ≤ x ∧ x < 65536 := by rw [hx]; exact gD_lm ((feOk_iff R).1 HR.out.1).2.1 0
      have hxe : x % 2 = 0 := by rw [hx]; exact HR.out.2.2
      obtain ⟨_, _, hcR, _, hcc⟩ := iR
      rcases hcc with hcc | ⟨bR, oR, rfl, hbR, hcell⟩
      · omega
      have hc0 : w18.cell? ⟨bR, oR, none⟩ = some (.int .i64 x) := by rw [hx]; exact hcell 0 (by omega)
      have iR : Is w18 (some ⟨bR, oR, none⟩) 16 cR R := ⟨(fun h => by cases h), ((feOk_iff R).1 HR.out.1).1, hcR, lm_int ((feOk_iff R).1 HR.out.1).2.1, .inr ⟨bR, oR, rfl, hbR, hcell⟩⟩
      have hx0 : 0 ≤ x := hxb.1
      have hxz : ((x % 2) != 0) = false := by rw [hxe]; rfl
      clear hx hcell hcR
      have cER := cell1 ER
      have cEB := cell1 EB
      go_wp2_with fail
      clear cER cEB
      clear hc0
      refine (specFeOk aB 16 cB lB _ iB).mono ?_
      rintro e w19 ⟨rfl, hb19⟩
      have z19 := hb19.size
      replace B := B.trans (hb19.mono B.size)
      replace hV := hV.kept hb19
      replace hQ := hQ.kept hb19
      replace iB := iB.below hb19
      replace EB := EB.kept hb19
      replace iR := iR.below hb19
      replace ER := ER.kept hb19
      clear hb19
      rw [kB.out]
      obtain ⟨Q, hQQ⟩ : ∃ Q, Q = red (val lB * val lB) := ⟨_, rfl⟩
      have HQQ : Hid (red (val lB * val lB) = Q) := hQQ.symm
      have kQ : Hid (rootOk Q = true) := by unfold Hid; rw [hQQ]; exact root_sq (val_nonneg (fun x hx => (((feOk_iff lB).1 kB.out).2.1 x hx).1))
      clear hQQ
      have cEB := cell1 EB
      go_wp2_with fail
      clear cEB
      refine (okMul aB 16 cB lB aB 16 cB lB _ iB iB hV kB.out kB.out HQQ.out).mono ?_
      rintro e w20 ⟨aQ, cQ, rfl, iQ, hb20⟩
      have z20 := hb20.size
      replace B := B.trans (hb20.mono B.size)
      replace hV := hV.kept hb20
      replace hQ := hQ.kept hb20
      replace iB := iB.below hb20
      replace EB := EB.kept hb20
      replace iR := iR.below hb20
      replace ER := ER.kept hb20
      clear hb20
      obtain ⟨V21, hV21⟩ : ∃ V, V = w20.alloc (.cells #[.slice aQ 16 cQ] 25) := ⟨_, rfl⟩
      have bV : Below w20.heap.size w20 V21 := by rw [hV21]; exact (Below.refl _ _).alloc (Nat.le_refl _) _
      have z21 : V21.heap.size = w20.heap.size + 1 := by rw [hV21]; simp
      have EQ : Arr V21 w20.heap.size 25 [.slice aQ 16 cQ] := by rw [hV21]; exact Arr.new w20 [.slice aQ 16 cQ] _
      replace B := B.trans (bV.mono B.size)
      replace hV := hV.kept bV
      replace hQ := hQ.kept bV
      replace iB := iB.below bV
      replace EB := EB.kept bV
      replace iR := iR.below bV
      replace ER := ER.kept bV
      replace iQ := iQ.below bV
      clear bV
      have cEQ := cell1 EQ
      rw [hV21] at cEQ
      go_wp2_with fail
      rw [← hV21]
      clear cEQ hV21
      refine (implFeRoot aQ 16 cQ Q _ iQ hV hQ).mono ?_
      rintro e w22 ⟨v, rfl, fZ, hb22⟩
      have z22 := hb22.size
      replace B := B.trans (hb22.mono B.size)
      replace hV := hV.kept hb22
      replace hQ := hQ.kept hb22
      replace iB := iB.below hb22
      replace EB := EB.kept hb22
      replace iR := iR.below hb22
      replace ER := ER.kept hb22
      replace iQ := iQ.below hb22
      replace EQ := EQ.kept hb22
      clear hb22
      obtain ⟨aZ, cZ, rfl, iZ⟩ := feR_of fZ (rootL_int _)
      clear fZ iZ
      rw [kQ.out]
      obtain ⟨nZ, hnZ⟩ : ∃ n, n = (rootL Q).length := ⟨_, rfl⟩
      rw [← hnZ]
      clear hnZ
      obtain ⟨V23, hV23⟩ : ∃ V, V = w22.alloc (.cells #[.slice aZ nZ cZ] 25) := ⟨_, rfl⟩
      have bV : Below w22.heap.size w22 V23 := by rw [hV23]; exact (Below.refl _ _).alloc (Nat.le_refl _) _
      have z23 : V23.heap.size = w22.heap.size + 1 := by rw [hV23]; simp
      have EZ : Arr V23 w22.heap.size 25 [.slice aZ nZ cZ] := by rw [hV23]; exact Arr.new w22 [.slice aZ nZ cZ] _
      replace B := B.trans (bV.mono B.size)
      replace hV := hV.kept bV
      replace hQ := hQ.kept bV
      replace iB := iB.below bV
      replace EB := EB.kept bV
      replace iR := iR.below bV
      replace ER := ER.kept bV
      replace iQ := iQ.below bV
      replace EQ := EQ.kept bV
      clear bV
      go_wp2_with fail
      rw [← hV23]
      clear hV23
      refine (HFD.out _ hV).mono ?_
      rintro e w24 ⟨rfl, hb24⟩
      have z24 := hb24.size
      replace B := B.trans (hb24.mono B.size)
      replace hV := hV.kept hb24
      replace hQ := hQ.kept hb24
      replace iB := iB.below hb24
      replace EB := EB.kept hb24
      replace iR := iR.below hb24
      replace ER := ER.kept hb24
      replace iQ := iQ.below hb24
      replace EQ := EQ.kept hb24
      replace EZ := EZ.kept hb24
      clear hb24
      go_wp2
      go_ret
      exact ⟨rfl, B⟩
  | true =>
    have hI := HIV.out lA HOX.out.symm
    rw [hI.2.2.1] at iX HNX
    have hnX : nX = 16 := HNX.out.trans (red_len _)
    subst hnX
    have hnA : nA = 16 := by have := iA.2.1; have := ((feOk_iff lA).1 hI.1).1; omega
    subst hnA
    have HI : Hid (feOk lA = true ∧ feOk (invF lA) = true ∧ red (val lA * val (invF lA)) = O) := ⟨hI.1, hI.2.1, hI.2.2.2⟩
    clear hI HNX
    have cEA := cell1 EA
    rw [hV4] at cEA
    have cEX := cell1 EX
    rw [hV4] at cEX
    go_wp2_with fail
    rw [← hV4]
    clear cEA cEX hV4
    refine (okMul aA 16 cA lA aX 16 cX (invF lA) _ iA iX hV HI.out.1 HI.out.2.1 HI.out.2.2).mono ?_
    rintro e w25 ⟨aP, cP, rfl, iP, hb25⟩
    have z25 := hb25.size
    replace B := B.trans (hb25.mono B.size)
    replace hV := hV.kept hb25
    replace hQ := hQ.kept hb25
    replace iA := iA.below hb25
    replace EA := EA.kept hb25
    replace iX := iX.below hb25
    replace EX := EX.kept hb25
    clear hb25
    obtain ⟨V26, hV26⟩ : ∃ V, V = w25.alloc (.cells #[.slice aP 16 cP] 25) := ⟨_, rfl⟩
    have bV : Below w25.heap.size w25 V26 := by rw [hV26]; exact (Below.refl _ _).alloc (Nat.le_refl _) _
    have z26 : V26.heap.size = w25.heap.size + 1 := by rw [hV26]; simp
    have EP : Arr V26 w25.heap.size 25 [.slice aP 16 cP] := by rw [hV26]; exact Arr.new w25 [.slice aP 16 cP] _
    replace B := B.trans (bV.mono B.size)
    replace hV := hV.kept bV
    replace hQ := hQ.kept bV
    replace iA := iA.below bV
    replace EA := EA.kept bV
    replace iX := iX.below bV
    replace EX := EX.kept bV
    replace iP := iP.below bV
    clear bV
    go_wp2_with fail
    rw [← hV26]
    clear hV26
    refine (HC2.out _).mono ?_
    rintro e w27 ⟨aO, cO, rfl, iO, hb27⟩
    have z27 := hb27.size
    replace B := B.trans (hb27.mono B.size)
    replace hV := hV.kept hb27
    replace hQ := hQ.kept hb27
    replace iA := iA.below hb27
    replace EA := EA.kept hb27
    replace iX := iX.below hb27
    replace EX := EX.kept hb27
    replace iP := iP.below hb27
    replace EP := EP.kept hb27
    clear hb27
    obtain ⟨V28, hV28⟩ : ∃ V, V = w27.alloc (.cells #[.slice aO 16 cO] 25) := ⟨_, rfl⟩
    have bV : Below w27.heap.size w27 V28 := by rw [hV28]; exact (Below.refl _ _).alloc (Nat.le_refl _) _
    have z28 : V28.heap.size = w27.heap.size + 1 := by rw [hV28]; simp
    have EO : Arr V28 w27.heap.size 25 [.slice aO 16 cO] := by rw [hV28]; exact Arr.new w27 [.slice aO 16 cO] _
    replace B := B.trans (bV.mono B.size)
    replace hV := hV.kept bV
    replace hQ := hQ.kept bV
    replace iA := iA.below bV
    replace EA := EA.kept bV
    replace iX := iX.below bV
    replace EX := EX.kept bV
    replace iP := iP.below bV
    replace EP := EP.kept bV
    replace iO := iO.below bV
    clear bV
    have cEP := cell1 EP
    rw [hV28] at cEP
    have cEO := cell1 EO
    rw [hV28] at cEO
    go_wp2_with fail
    rw [← hV28]
    clear cEP cEO hV28
    refine (sameIntsT aP aO 16 cP cO O _ iP iO (by omega)).mono ?_
    rintro e w29 ⟨q29, rfl, hq29⟩
    have hb29 : Below V28.heap.size V28 w29 := by rw [hq29]; exact bel_drewN _ _
    have z29 := hb29.size
    replace B := B.trans (hb29.mono B.size)
    replace hV := hV.kept hb29
    replace hQ := hQ.kept hb29
    replace iA := iA.below hb29
    replace EA := EA.kept hb29
    replace iX := iX.below hb29
    replace EX := EX.kept hb29
    replace iP := iP.below hb29
    replace EP := EP.kept hb29
    replace iO := iO.below hb29
    replace EO := EO.kept hb29
    clear hb29 hq29
    clear iP
    clear EP
    clear iO
    clear EO
    clear iX
    clear EX
    clear iA
    clear EA
    go_wp2_with fail
    refine (drawFeRoot ab nb cb bs _ (hB.below B) (by omega)).mono ?_
    rintro e w30 ⟨vB, lB, rfl, ⟨aB, nB, cB, rfl, iB, _, nmB⟩, hb30⟩
    have z30 := hb30.size
    replace B := B.trans (hb30.mono B.size)
    replace hV := hV.kept hb30
    replace hQ := hQ.kept hb30
    clear hb30
    obtain ⟨V31, hV31⟩ : ∃ V, V = w30.alloc (.cells #[.slice aB nB cB] 25) := ⟨_, rfl⟩
    have bV : Below w30.heap.size w30 V31 := by rw [hV31]; exact (Below.refl _ _).alloc (Nat.le_refl _) _
    have z31 : V31.heap.size = w30.heap.size + 1 := by rw [hV31]; simp
    have EB : Arr V31 w30.heap.size 25 [.slice aB nB cB] := by rw [hV31]; exact Arr.new w30 [.slice aB nB cB] _
    replace B := B.trans (bV.mono B.size)
    replace hV := hV.kept bV
    replace hQ := hQ.kept bV
    replace iB := iB.below bV
    clear bV
    have cEB := cell1 EB
    rw [hV31] at cEB
    go_wp2_with fail
    rw [← hV31]
    clear cEB hV31
    refine (implFeRoot aB nB cB lB _ iB hV hQ).mono ?_
    rintro e w32 ⟨v, rfl, fR, hb32⟩
    have z32 := hb32.size
    replace B := B.trans (hb32.mono B.size)
    replace hV := hV.kept hb32
    replace hQ := hQ.kept hb32
    replace iB := iB.below hb32
    replace EB := EB.kept hb32
    clear hb32
    obtain ⟨aR, cR, rfl, iR⟩ := feR_of fR (rootL_int _)
    clear fR
    obtain ⟨nR, hnR⟩ : ∃ n, n = (rootL lB).length := ⟨_, rfl⟩
    obtain ⟨oR, hoR⟩ : ∃ o, o = rootOk lB := ⟨_, rfl⟩
    rw [← hnR] at iR ⊢
    rw [← hoR]
    have HNR : Hid _ := hnR
    have HOR : Hid _ := hoR
    clear hnR hoR
    obtain ⟨V33, hV33⟩ : ∃ V, V = w32.alloc (.cells #[.slice aR nR cR] 25) := ⟨_, rfl⟩
    have bV : Below w32.heap.size w32 V33 := by rw [hV33]; exact (Below.refl _ _).alloc (Nat.le_refl _) _
    have z33 : V33.heap.size = w32.heap.size + 1 := by rw [hV33]; simp
    have ER : Arr V33 w32.heap.size 25 [.slice aR nR cR] := by rw [hV33]; exact Arr.new w32 [.slice aR nR cR] _
    replace B := B.trans (bV.mono B.size)
    replace hV := hV.kept bV
    replace hQ := hQ.kept bV
    replace iB := iB.below bV
    replace EB := EB.kept bV
    replace iR := iR.below bV
    clear bV
    cases oR with
    | false =>
      have cEB := cell1 EB
      rw [hV33] at cEB
      go_wp2_with fail
      rw [← hV33]
      clear cEB hV33
      refine (specFeOk aB nB cB lB _ iB).mono ?_
      rintro e w34 ⟨rfl, hb34⟩
      have z34 := hb34.size
      replace B := B.trans (hb34.mono B.size)
      replace hV := hV.kept hb34
      replace hQ := hQ.kept hb34
      replace iB := iB.below hb34
      replace EB := EB.kept hb34
      replace iR := iR.below hb34
      replace ER := ER.kept hb34
      clear hb34
      obtain ⟨p, hp⟩ : ∃ p, p = feOk lB := ⟨_, rfl⟩
      rw [← hp]
      have HP : Hid _ := hp
      clear hp
      cases p with
      | false =>
        go_wp2_with fail
        refine (HFD.out _ hV).mono ?_
        rintro e w35 ⟨rfl, hb35⟩
        have z35 := hb35.size
        replace B := B.trans (hb35.mono B.size)
        replace hV := hV.kept hb35
        replace hQ := hQ.kept hb35
        replace iB := iB.below hb35
        replace EB := EB.kept hb35
        replace iR := iR.below hb35
        replace ER := ER.kept hb35
        clear hb35
        go_wp2
        go_ret
        exact ⟨rfl, B⟩
      | true =>
        have kB : Hid (feOk lB = true) := HP.out.symm
        have hnB : nB = 16 := by have := iB.2.1; have := ((feOk_iff lB).1 kB.out).1; omega
        subst hnB
        obtain ⟨Q, hQQ⟩ : ∃ Q, Q = red (val lB * val lB) := ⟨_, rfl⟩
        have HQQ : Hid (red (val lB * val lB) = Q) := hQQ.symm
        have kQ : Hid (rootOk Q = true) := by unfold Hid; rw [hQQ]; exact root_sq (val_nonneg (fun x hx => (((feOk_iff lB).1 kB.out).2.1 x hx).1))
        clear hQQ
        have cEB := cell1 EB
        go_wp2_with fail
        clear cEB
        refine (okMul aB 16 cB lB aB 16 cB lB _ iB iB hV kB.out kB.out HQQ.out).mono ?_
        rintro e w36 ⟨aQ, cQ, rfl, iQ, hb36⟩
        have z36 := hb36.size
        replace B := B.trans (hb36.mono B.size)
        replace hV := hV.kept hb36
        replace hQ := hQ.kept hb36
        replace iB := iB.below hb36
        replace EB := EB.kept hb36
        replace iR := iR.below hb36
        replace ER := ER.kept hb36
        clear hb36
        obtain ⟨V37, hV37⟩ : ∃ V, V = w36.alloc (.cells #[.slice aQ 16 cQ] 25) := ⟨_, rfl⟩
        have bV : Below w36.heap.size w36 V37 := by rw [hV37]; exact (Below.refl _ _).alloc (Nat.le_refl _) _
        have z37 : V37.heap.size = w36.heap.size + 1 := by rw [hV37]; simp
        have EQ : Arr V37 w36.heap.size 25 [.slice aQ 16 cQ] := by rw [hV37]; exact Arr.new w36 [.slice aQ 16 cQ] _
        replace B := B.trans (bV.mono B.size)
        replace hV := hV.kept bV
        replace hQ := hQ.kept bV
        replace iB := iB.below bV
        replace EB := EB.kept bV
        replace iR := iR.below bV
        replace ER := ER.kept bV
        replace iQ := iQ.below bV
        clear bV
        have cEQ := cell1 EQ
        rw [hV37] at cEQ
        go_wp2_with fail
        rw [← hV37]
        clear cEQ hV37
        refine (implFeRoot aQ 16 cQ Q _ iQ hV hQ).mono ?_
        rintro e w38 ⟨v, rfl, fZ, hb38⟩
        have z38 := hb38.size
        replace B := B.trans (hb38.mono B.size)
        replace hV := hV.kept hb38
        replace hQ := hQ.kept hb38
        replace iB := iB.below hb38
        replace EB := EB.kept hb38
        replace iR := iR.below hb38
        replace ER := ER.kept hb38
        replace iQ := iQ.below hb38
        replace EQ := EQ.kept hb38
        clear hb38
        obtain ⟨aZ, cZ, rfl, iZ⟩ := feR_of fZ (rootL_int _)
        clear fZ iZ
        rw [kQ.out]
        obtain ⟨nZ, hnZ⟩ : ∃ n, n = (rootL Q).length := ⟨_, rfl⟩
        rw [← hnZ]
        clear hnZ
        obtain ⟨V39, hV39⟩ : ∃ V, V = w38.alloc (.cells #[.slice aZ nZ cZ] 25) := ⟨_, rfl⟩
        have bV : Below w38.heap.size w38 V39 := by rw [hV39]; exact (Below.refl _ _).alloc (Nat.le_refl _) _
        have z39 : V39.heap.size = w38.heap.size + 1 := by rw [hV39]; simp
        have EZ : Arr V39 w38.heap.size 25 [.slice aZ nZ cZ] := by rw [hV39]; exact Arr.new w38 [.slice aZ nZ cZ] _
        replace B := B.trans (bV.mono B.size)
        replace hV := hV.kept bV
        replace hQ := hQ.kept bV
        replace iB := iB.below bV
        replace EB := EB.kept bV
        replace iR := iR.below bV
        replace ER := ER.kept bV
        replace iQ := iQ.below bV
        replace EQ := EQ.kept bV
        clear bV
        go_wp2_with fail
        rw [← hV39]
        clear hV39
        refine (HFD.out _ hV).mono ?_
        rintro e w40 ⟨rfl, hb40⟩
        have z40 := hb40.size
        replace B := B.trans (hb40.mono B.size)
        replace hV := hV.kept hb40
        replace hQ := hQ.kept hb40
        replace iB := iB.below hb40
        replace EB := EB.kept hb40
        replace iR := iR.below hb40
        replace ER := ER.kept hb40
        replace iQ := iQ.below hb40
        replace EQ := EQ.kept hb40
        replace EZ := EZ.kept hb40
        clear hb40
        go_wp2
        go_ret
        exact ⟨rfl, B⟩
    | true =>
      have hR := rt3_sq HOR.out.symm
      obtain ⟨R, hRR⟩ : ∃ R, R = rootL lB := ⟨_, rfl⟩
      rw [hR.1] at hRR
      rw [hR.1, ← hRR] at iR HNR
      rw [← hRR] at hR
      have hl16 : R.length = 16 := ((feOk_iff R).1 hR.2.1).1
      have hnR : nR = 16 := HNR.out.trans hl16
      subst hnR
      have HR : Hid (feOk R = true ∧ red (val R * val R) = lB ∧ R.getD 0 0 % 2 = 0) := hR.2
      have kB : Hid (feOk lB = true) := by unfold Hid; rw [← HR.out.2.1]; exact red_ok _
      have hnB : nB = 16 := by have := iB.2.1; have := ((feOk_iff lB).1 kB.out).1; omega
      subst hnB
      clear hR hRR hl16 HNR
      have cER := cell1 ER
      rw [hV33] at cER
      go_wp2_with fail
      rw [← hV33]
      clear cER hV33
      refine (okMul aR 16 cR R aR 16 cR R _ iR iR hV HR.out.1 HR.out.1 HR.out.2.1).mono ?_
      rintro e w41 ⟨aS, cS, rfl, iS, hb41⟩
      have z41 := hb41.size
      replace B := B.trans (hb41.mono B.size)
      replace hV := hV.kept hb41
      replace hQ := hQ.kept hb41
      replace iB := iB.below hb41
      replace EB := EB.kept hb41
      replace iR := iR.below hb41
      replace ER := ER.kept hb41
      clear hb41
      obtain ⟨V42, hV42⟩ : ∃ V, V = w41.alloc (.cells #[.slice aS 16 cS] 25) := ⟨_, rfl⟩
      have bV : Below w41.heap.size w41 V42 := by rw [hV42]; exact (Below.refl _ _).alloc (Nat.le_refl _) _
      have z42 : V42.heap.size = w41.heap.size + 1 := by rw [hV42]; simp
      have ES : Arr V42 w41.heap.size 25 [.slice aS 16 cS] := by rw [hV42]; exact Arr.new w41 [.slice aS 16 cS] _
      replace B := B.trans (bV.mono B.size)
      replace hV := hV.kept bV
      replace hQ := hQ.kept bV
      replace iB := iB.below bV
      replace EB := EB.kept bV
      replace iR := iR.below bV
      replace ER := ER.kept bV
      replace iS := iS.below bV
      clear bV
      have cES := cell1 ES
      rw [hV42] at cES
      have cEB := cell1 EB
      rw [hV42] at cEB
      go_wp2_with fail
      rw [← hV42]
      clear cES cEB hV42
      refine (sameIntsT aS aB 16 cS cB lB _ iS iB (by omega)).mono ?_
      rintro e w43 ⟨q43, rfl, hq43⟩
      have hb43 : Below V42.heap.size V42 w43 := by rw [hq43]; exact bel_drewN _ _
      have z43 := hb43.size
      replace B := B.trans (hb43.mono B.size)
      replace hV := hV.kept hb43
      replace hQ := hQ.kept hb43
      replace iB := iB.below hb43
      replace EB := EB.kept hb43
      replace iR := iR.below hb43
      replace ER := ER.kept hb43
      replace iS := iS.below hb43
      replace ES := ES.kept hb43
      clear hb43 hq43
      clear iS
      clear ES
      obtain ⟨x, hx⟩ : ∃ x, x = R.getD 0 0 := ⟨_, rfl⟩
      have hxb : 0 ≤ x ∧ x < 65536 := by rw [hx]; exact gD_lm ((feOk_iff R).1 HR.out.1).2.1 0
      have hxe : x % 2 = 0 := by rw [hx]; exact HR.out.2.2
      obtain ⟨_, _, hcR, _, hcc⟩ := iR
      rcases hcc with hcc | ⟨bR, oR, rfl, hbR, hcell⟩
      · omega
      have hc0 : w43.cell? ⟨bR, oR, none⟩ = some (.int .i64 x) := by rw [hx]; exact hcell 0 (by omega)
      have iR : Is w43 (some ⟨bR, oR, none⟩) 16 cR R := ⟨(fun h => by cases h), ((feOk_iff R).1 HR.out.1).1, hcR, lm_int ((feOk_iff R).1 HR.out.1).2.1, .inr ⟨bR, oR, rfl, hbR, hcell⟩⟩
      have hx0 : 0 ≤ x := hxb.1
      have hxz : ((x % 2) != 0) = false := by rw [hxe]; rfl
      clear hx hcell hcR
      have cER := cell1 ER
      have cEB := cell1 EB
      go_wp2_with fail
      clear cER cEB
      clear hc0
      refine (specFeOk aB 16 cB lB _ iB).mono ?_
      rintro e w44 ⟨rfl, hb44⟩
      have z44 := hb44.size
      replace B := B.trans (hb44.mono B.size)
      replace hV := hV.kept hb44
      replace hQ := hQ.kept hb44
      replace iB := iB.below hb44
      replace EB := EB.kept hb44
      replace iR := iR.below hb44
      replace ER := ER.kept hb44
      clear hb44
      rw [kB.out]
      obtain ⟨Q, hQQ⟩ : ∃ Q, Q = red (val lB * val lB) := ⟨_, rfl⟩
      have HQQ : Hid (red (val lB * val lB) = Q) := hQQ.symm
      have kQ : Hid (rootOk Q = true) := by unfold Hid; rw [hQQ]; exact root_sq (val_nonneg (fun x hx => (((feOk_iff lB).1 kB.out).2.1 x hx).1))
      clear hQQ
      have cEB := cell1 EB
      go_wp2_with fail
      clear cEB
      refine (okMul aB 16 cB lB aB 16 cB lB _ iB iB hV kB.out kB.out HQQ.out).mono ?_
      rintro e w45 ⟨aQ, cQ, rfl, iQ, hb45⟩
      have z45 := hb45.size
      replace B := B.trans (hb45.mono B.size)
      replace hV := hV.kept hb45
      replace hQ := hQ.kept hb45
      replace iB := iB.below hb45
      replace EB := EB.kept hb45
      replace iR := iR.below hb45
      replace ER := ER.kept hb45
      clear hb45
      obtain ⟨V46, hV46⟩ : ∃ V, V = w45.alloc (.cells #[.slice aQ 16 cQ] 25) := ⟨_, rfl⟩
      have bV : Below w45.heap.size w45 V46 := by rw [hV46]; exact (Below.refl _ _).alloc (Nat.le_refl _) _
      have z46 : V46.heap.size = w45.heap.size + 1 := by rw [hV46]; simp
      have EQ : Arr V46 w45.heap.size 25 [.slice aQ 16 cQ] := by rw [hV46]; exact Arr.new w45 [.slice aQ 16 cQ] _
      replace B := B.trans (bV.mono B.size)
      replace hV := hV.kept bV
      replace hQ := hQ.kept bV
      replace iB := iB.below bV
      replace EB := EB.kept bV
      replace iR := iR.below bV
      replace ER := ER.kept bV
      replace iQ := iQ.below bV
      clear bV
      have cEQ := cell1 EQ
      rw [hV46] at cEQ
      go_wp2_with fail
      rw [← hV46]
      clear cEQ hV46
      refine (implFeRoot aQ 16 cQ Q _ iQ hV hQ).mono ?_
      rintro e w47 ⟨v, rfl, fZ, hb47⟩
      have z47 := hb47.size
      replace B := B.trans (hb47.mono B.size)
      replace hV := hV.kept hb47
      replace hQ := hQ.kept hb47
      replace iB := iB.below hb47
      replace EB := EB.kept hb47
      replace iR := iR.below hb47
      replace ER := ER.kept hb47
      replace iQ := iQ.below hb47
      replace EQ := EQ.kept hb47
      clear hb47
      obtain ⟨aZ, cZ, rfl, iZ⟩ := feR_of fZ (rootL_int _)
      clear fZ iZ
      rw [kQ.out]
      obtain ⟨nZ, hnZ⟩ : ∃ n, n = (rootL Q).length := ⟨_, rfl⟩
      rw [← hnZ]
      clear hnZ
      obtain ⟨V48, hV48⟩ : ∃ V, V = w47.alloc (.cells #[.slice aZ nZ cZ] 25) := ⟨_, rfl⟩
      have bV : Below w47.heap.size w47 V48 := by rw [hV48]; exact (Below.refl _ _).alloc (Nat.le_refl _) _
      have z48 : V48.heap.size = w47.heap.size + 1 := by rw [hV48]; simp
      have EZ : Arr V48 w47.heap.size 25 [.slice aZ nZ cZ] := by rw [hV48]; exact Arr.new w47 [.slice aZ nZ cZ] _
      replace B := B.trans (bV.mono B.size)
      replace hV := hV.kept bV
      replace hQ := hQ.kept bV
      replace iB := iB.below bV
      replace EB := EB.kept bV
      replace iR := iR.below bV
      replace ER := ER.kept bV
      replace iQ := iQ.below bV
      replace EQ := EQ.kept bV
      clear bV
      go_wp2_with fail
      rw [← hV48]
      clear hV48
      refine (HFD.out _ hV).mono ?_
      rintro e w49 ⟨rfl, hb49⟩
      have z49 := hb49.size
      replace B := B.trans (hb49.mono B.size)
      replace hV := hV.kept hb49
      replace hQ := hQ.kept hb49
      replace iB := iB.below hb49
      replace EB := EB.kept hb49
      replace iR := iR.below hb49
      replace ER := ER.kept hb49
      replace iQ := iQ.below hb49
      replace EQ := EQ.kept hb49
      replace EZ := EZ.kept hb49
      clear hb49
      go_wp2
      go_ret
      exact ⟨rfl, B⟩
end Go.Proofs.YtpchdfdeomhakaaDoor
