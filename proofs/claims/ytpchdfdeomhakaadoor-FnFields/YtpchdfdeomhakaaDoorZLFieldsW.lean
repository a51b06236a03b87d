/-
  What is proved here: the law of the field's sums and products returns true at every code; where the program's variable holds the prime.
-/
import Derived.Test.YtpchdfdeomhakaaDoorZXe
import Derived.Test.YtpchdfdeomhakaaDoorZR
namespace Go.Proofs.YtpchdfdeomhakaaDoor
open Go.RowKit
set_option maxRecDepth 100000

set_option maxHeartbeats 8000000 in
theorem walk_fnFields (w : World) (ab : Option Addr) (nb cb : Nat) (bs : List Int) (hB : Bs w ab nb cb bs) (hre : nb ≤ 140737488351232) (hV : Vr w 0 (I64 PL)) :
    Calls Tryd.prog 3 #[.slice ab nb cb] w fun e w' => e = .returned (.bool true) ∧ Below w.heap.size w w' := by
  have B : Below w.heap.size w w := Below.refl _ _
  have h0w := hV.lt
  have HFD : Hid (∀ Z, Vr Z 0 (I64 PL) → Calls Tryd.prog 18 #[] Z fun e w' => e = .returned (.bool true) ∧ Below Z.heap.size Z w') := by unfold Hid; intro Z hZ; exact fieldT Z hZ
  go_enter Tryd.func3, Tryd.ntmps3
  go_wp2_with fail
  refine (drawFeAdd ab nb cb bs _ (hB.below B) (by omega)).mono ?_
  rintro e w1 ⟨vA, lA, vB, lB, rfl, ⟨aA, nA, cA, rfl, iA, _, nmA⟩, ⟨aB, nB, cB, rfl, iB, _, nmB⟩, hb1⟩
  have z1 := hb1.size
  replace B := B.trans (hb1.mono B.size)
  replace hV := hV.kept hb1
  clear hb1
  obtain ⟨V2, hV2⟩ : ∃ V, V = (w1.alloc (.cells #[.slice aA nA cA] 25)).alloc (.cells #[.slice aB nB cB] 25) := ⟨_, rfl⟩
  have bV : Below w1.heap.size w1 V2 := by rw [hV2]; exact ((Below.refl _ _).alloc (Nat.le_refl _) _).alloc (by simp) _
  have EA : Arr V2 w1.heap.size 25 [.slice aA nA cA] := by rw [hV2]; exact (Arr.new w1 _ _).alloc _
  have EB : Arr V2 (w1.heap.size + 1) 25 [.slice aB nB cB] := by
    rw [hV2]
    have := Arr.new (w1.alloc (.cells #[.slice aA nA cA] 25)) [.slice aB nB cB] 25
    rw [World.size_alloc] at this
    exact this
  replace B := B.trans (bV.mono B.size)
  replace hV := hV.kept bV
  replace iA := iA.below bV
  replace iB := iB.below bV
  clear bV
  go_wp2_with fail
  rw [← hV2]
  clear hV2
  refine (moreOne ab nb cb bs _ (hB.below B) hre).mono ?_
  rintro e w3 ⟨vM, rfl, oM, hb3⟩
  have z3 := hb3.size
  replace B := B.trans (hb3.mono B.size)
  replace hV := hV.kept hb3
  replace iA := iA.below hb3
  replace iB := iB.below hb3
  replace EA := EA.kept hb3
  replace EB := EB.kept hb3
  clear hb3
  obtain ⟨aM, cM, rfl, _, bM⟩ := Bs.own oM (by intro x hx; rcases List.mem_cons.1 hx with rfl | hx; omega; rcases List.mem_cons.1 hx with rfl | hx; omega; exact hB.2.2.2.1 x hx)
  go_wp2_with fail
  refine (drawFeAdd aM (2 + nb) cM _ _ bM (by omega)).mono ?_
  rintro e w4 ⟨vC, lC, vD, lD, rfl, ⟨aC, nC, cC, rfl, iC, _, nmC⟩, ⟨aD, nD, cD, rfl, iD, _, nmD⟩, hb4⟩
  have z4 := hb4.size
  replace B := B.trans (hb4.mono B.size)
  replace hV := hV.kept hb4
  replace iA := iA.below hb4
  replace iB := iB.below hb4
  replace EA := EA.kept hb4
  replace EB := EB.kept hb4
  clear hb4
  obtain ⟨V5, hV5⟩ : ∃ V, V = (w4.alloc (.cells #[.slice aC nC cC] 25)).alloc (.cells #[.slice aD nD cD] 25) := ⟨_, rfl⟩
  have bV : Below w4.heap.size w4 V5 := by rw [hV5]; exact ((Below.refl _ _).alloc (Nat.le_refl _) _).alloc (by simp) _
  have EC : Arr V5 w4.heap.size 25 [.slice aC nC cC] := by rw [hV5]; exact (Arr.new w4 _ _).alloc _
  have ED : Arr V5 (w4.heap.size + 1) 25 [.slice aD nD cD] := by
    rw [hV5]
    have := Arr.new (w4.alloc (.cells #[.slice aC nC cC] 25)) [.slice aD nD cD] 25
    rw [World.size_alloc] at this
    exact this
  replace B := B.trans (bV.mono B.size)
  replace hV := hV.kept bV
  replace iA := iA.below bV
  replace iB := iB.below bV
  replace EA := EA.kept bV
  replace EB := EB.kept bV
  replace iC := iC.below bV
  replace iD := iD.below bV
  clear bV
  clear oM bM
  clear iD
  clear ED
  have cEA := cell1 EA
  rw [hV5] at cEA
  have cEB := cell1 EB
  rw [hV5] at cEB
  go_wp2_with fail
  rw [← hV5]
  clear cEA cEB hV5
  refine (implFeAdd aA nA cA lA aB nB cB lB _ iA iB hV).mono ?_
  rintro e w6 ⟨v, rfl, fS, hb6⟩
  have z6 := hb6.size
  replace B := B.trans (hb6.mono B.size)
  replace hV := hV.kept hb6
  replace iA := iA.below hb6
  replace iB := iB.below hb6
  replace EA := EA.kept hb6
  replace EB := EB.kept hb6
  replace iC := iC.below hb6
  replace EC := EC.kept hb6
  clear hb6
  obtain ⟨aS, cS, rfl, iS⟩ := feR_of fS (fe2_int _ _ _)
  clear fS
  obtain ⟨S, hS⟩ : ∃ S, S = fe2 (· + ·) lA lB := ⟨_, rfl⟩
  obtain ⟨p, hp⟩ : ∃ p, p = feOk lA := ⟨_, rfl⟩
  obtain ⟨q, hq⟩ : ∃ q, q = feOk lB := ⟨_, rfl⟩
  obtain ⟨nS, hnS⟩ : ∃ n, n = (fe2 (· + ·) lA lB).length := ⟨_, rfl⟩
  rw [← hnS] at iS ⊢
  rw [← hS] at iS hnS
  rw [← hp, ← hq]
  have HP : Hid _ := hp
  have HQ : Hid _ := hq
  have HS : Hid _ := hS
  have HN : Hid _ := hnS
  clear hp hq hS hnS
  obtain ⟨V7, hV7⟩ : ∃ V, V = w6.alloc (.cells #[.slice aS nS cS] 25) := ⟨_, rfl⟩
  have bV : Below w6.heap.size w6 V7 := by rw [hV7]; exact (Below.refl _ _).alloc (Nat.le_refl _) _
  have z7 : V7.heap.size = w6.heap.size + 1 := by rw [hV7]; simp
  have ES : Arr V7 w6.heap.size 25 [.slice aS nS cS] := by rw [hV7]; exact Arr.new w6 [.slice aS nS cS] _
  replace B := B.trans (bV.mono B.size)
  replace hV := hV.kept bV
  replace iA := iA.below bV
  replace iB := iB.below bV
  replace EA := EA.kept bV
  replace EB := EB.kept bV
  replace iC := iC.below bV
  replace EC := EC.kept bV
  replace iS := iS.below bV
  clear bV
  have cEA := cell1 EA
  rw [hV7] at cEA
  go_wp2_with fail
  rw [← hV7]
  clear cEA hV7
  refine (specFeOk aA nA cA lA _ iA).mono ?_
  rintro e w8 ⟨rfl, hb8⟩
  have z8 := hb8.size
  replace B := B.trans (hb8.mono B.size)
  replace hV := hV.kept hb8
  replace iA := iA.below hb8
  replace iB := iB.below hb8
  replace EA := EA.kept hb8
  replace EB := EB.kept hb8
  replace iC := iC.below hb8
  replace EC := EC.kept hb8
  replace iS := iS.below hb8
  replace ES := ES.kept hb8
  clear hb8
  rw [← HP.out]
  cases p with
  | false =>
    have hS0 : nS = 0 := by rw [HN.out, HS.out, fe2_no (by rw [← HP.out, ← HQ.out]; rfl)]; rfl
    subst hS0
    have cES := cell1 ES
    go_wp2_with fail
    clear cES
    refine (HFD.out _ hV).mono ?_
    rintro e w9 ⟨rfl, hb9⟩
    have z9 := hb9.size
    replace B := B.trans (hb9.mono B.size)
    replace hV := hV.kept hb9
    replace iA := iA.below hb9
    replace iB := iB.below hb9
    replace EA := EA.kept hb9
    replace EB := EB.kept hb9
    replace iC := iC.below hb9
    replace EC := EC.kept hb9
    replace iS := iS.below hb9
    replace ES := ES.kept hb9
    clear hb9
    go_wp2
    go_ret
    exact ⟨rfl, B⟩
  | true =>
    have cEB := cell1 EB
    go_wp2_with fail
    clear cEB
    refine (specFeOk aB nB cB lB _ iB).mono ?_
    rintro e w10 ⟨rfl, hb10⟩
    have z10 := hb10.size
    replace B := B.trans (hb10.mono B.size)
    replace hV := hV.kept hb10
    replace iA := iA.below hb10
    replace iB := iB.below hb10
    replace EA := EA.kept hb10
    replace EB := EB.kept hb10
    replace iC := iC.below hb10
    replace EC := EC.kept hb10
    replace iS := iS.below hb10
    replace ES := ES.kept hb10
    clear hb10
    rw [← HQ.out]
    cases q with
    | false =>
      have hS0 : nS = 0 := by rw [HN.out, HS.out, fe2_no (by rw [← HP.out, ← HQ.out]; rfl)]; rfl
      subst hS0
      have cES := cell1 ES
      go_wp2_with fail
      clear cES
      refine (HFD.out _ hV).mono ?_
      rintro e w11 ⟨rfl, hb11⟩
      have z11 := hb11.size
      replace B := B.trans (hb11.mono B.size)
      replace hV := hV.kept hb11
      replace iA := iA.below hb11
      replace iB := iB.below hb11
      replace EA := EA.kept hb11
      replace EB := EB.kept hb11
      replace iC := iC.below hb11
      replace EC := EC.kept hb11
      replace iS := iS.below hb11
      replace ES := ES.kept hb11
      clear hb11
      go_wp2
      go_ret
      exact ⟨rfl, B⟩
    | true =>
      have kA : feOk lA = true := HP.out.symm
      have kB : feOk lB = true := HQ.out.symm
      have hS : S = red (val lA + val lB) := by rw [HS.out, fe2_ok kA kB]
      have kS : feOk S = true := by rw [hS]; exact red_ok _
      have hS16 : nS = 16 := by rw [HN.out, hS]; exact red_len _
      subst hS16
      obtain ⟨M, hM⟩ : ∃ M, M = red (val lA * val lB) := ⟨_, rfl⟩
      have kM : feOk M = true := by rw [hM]; exact red_ok _
      have vS : val S = (val lA + val lB) % P25519 := by rw [hS]; exact val_red _
      have vM : val M = val lA * val lB % P25519 := by rw [hM]; exact val_red _
      have e1 : red (val lB + val lA) = S := by rw [hS, Int.add_comm]
      have e2 : red (val lB * val lA) = M := by rw [hM, Int.mul_comm]
      have e3 : red (val S - val lB) = lA := by
        refine Eq.trans ?_ (red_val kA)
        unfold red
        congr 1
        rw [vS, Int.emod_sub_emod, Int.add_sub_cancel]
      have e0 : red (val lA * val lB) = M := hM.symm
      have H : Hid (feOk lA = true ∧ feOk lB = true ∧ feOk S = true ∧ feOk M = true ∧ red (val lB + val lA) = S ∧ red (val lB * val lA) = M ∧ red (val S - val lB) = lA ∧ red (val lA * val lB) = M ∧ val S = (val lA + val lB) % P25519 ∧ val M = val lA * val lB % P25519) := ⟨kA, kB, kS, kM, e1, e2, e3, e0, vS, vM⟩
      clear kA kB kS kM e0 e1 e2 e3 vS vM hS hM HP HQ HS HN
      have hA16 : nA = 16 := by have := iA.2.1; have := ((feOk_iff lA).1 H.out.1).1; omega
      have hB16 : nB = 16 := by have := iB.2.1; have := ((feOk_iff lB).1 H.out.2.1).1; omega
      subst hA16 hB16
      have cEB := cell1 EB
      have cEA := cell1 EA
      go_wp2_with fail
      clear cEB cEA
      refine (okAdd aB 16 cB lB aA 16 cA lA _ iB iA hV H.out.2.1 H.out.1 H.out.2.2.2.2.1).mono ?_
      rintro e w12 ⟨aT, cT, rfl, iT, hb12⟩
      have z12 := hb12.size
      replace B := B.trans (hb12.mono B.size)
      replace hV := hV.kept hb12
      replace iA := iA.below hb12
      replace iB := iB.below hb12
      replace EA := EA.kept hb12
      replace EB := EB.kept hb12
      replace iC := iC.below hb12
      replace EC := EC.kept hb12
      replace iS := iS.below hb12
      replace ES := ES.kept hb12
      clear hb12
      obtain ⟨V13, hV13⟩ : ∃ V, V = w12.alloc (.cells #[.slice aT 16 cT] 25) := ⟨_, rfl⟩
      have bV : Below w12.heap.size w12 V13 := by rw [hV13]; exact (Below.refl _ _).alloc (Nat.le_refl _) _
      have z13 : V13.heap.size = w12.heap.size + 1 := by rw [hV13]; simp
      have ET : Arr V13 w12.heap.size 25 [.slice aT 16 cT] := by rw [hV13]; exact Arr.new w12 [.slice aT 16 cT] _
      replace B := B.trans (bV.mono B.size)
      replace hV := hV.kept bV
      replace iA := iA.below bV
      replace iB := iB.below bV
      replace EA := EA.kept bV
      replace EB := EB.kept bV
      replace iC := iC.below bV
      replace EC := EC.kept bV
      replace iS := iS.below bV
      replace ES := ES.kept bV
      replace iT := iT.below bV
      clear bV
      have cEA := cell1 EA
      rw [hV13] at cEA
      have cEB := cell1 EB
      rw [hV13] at cEB
      go_wp2_with fail
      rw [← hV13]
      clear cEA cEB hV13
      refine (okMul aA 16 cA lA aB 16 cB lB _ iA iB hV H.out.1 H.out.2.1 H.out.2.2.2.2.2.2.2.1).mono ?_
      rintro e w14 ⟨aP, cP, rfl, iP, hb14⟩
      have z14 := hb14.size
      replace B := B.trans (hb14.mono B.size)
      replace hV := hV.kept hb14
      replace iA := iA.below hb14
      replace iB := iB.below hb14
      replace EA := EA.kept hb14
      replace EB := EB.kept hb14
      replace iC := iC.below hb14
      replace EC := EC.kept hb14
      replace iS := iS.below hb14
      replace ES := ES.kept hb14
      replace iT := iT.below hb14
      replace ET := ET.kept hb14
      clear hb14
      obtain ⟨V15, hV15⟩ : ∃ V, V = w14.alloc (.cells #[.slice aP 16 cP] 25) := ⟨_, rfl⟩
      have bV : Below w14.heap.size w14 V15 := by rw [hV15]; exact (Below.refl _ _).alloc (Nat.le_refl _) _
      have z15 : V15.heap.size = w14.heap.size + 1 := by rw [hV15]; simp
      have EP : Arr V15 w14.heap.size 25 [.slice aP 16 cP] := by rw [hV15]; exact Arr.new w14 [.slice aP 16 cP] _
      replace B := B.trans (bV.mono B.size)
      replace hV := hV.kept bV
      replace iA := iA.below bV
      replace iB := iB.below bV
      replace EA := EA.kept bV
      replace EB := EB.kept bV
      replace iC := iC.below bV
      replace EC := EC.kept bV
      replace iS := iS.below bV
      replace ES := ES.kept bV
      replace iT := iT.below bV
      replace ET := ET.kept bV
      replace iP := iP.below bV
      clear bV
      have cEB := cell1 EB
      rw [hV15] at cEB
      have cEA := cell1 EA
      rw [hV15] at cEA
      go_wp2_with fail
      rw [← hV15]
      clear cEB cEA hV15
      refine (okMul aB 16 cB lB aA 16 cA lA _ iB iA hV H.out.2.1 H.out.1 H.out.2.2.2.2.2.1).mono ?_
      rintro e w16 ⟨aQ, cQ, rfl, iQ, hb16⟩
      have z16 := hb16.size
      replace B := B.trans (hb16.mono B.size)
      replace hV := hV.kept hb16
      replace iA := iA.below hb16
      replace iB := iB.below hb16
      replace EA := EA.kept hb16
      replace EB := EB.kept hb16
      replace iC := iC.below hb16
      replace EC := EC.kept hb16
      replace iS := iS.below hb16
      replace ES := ES.kept hb16
      replace iT := iT.below hb16
      replace ET := ET.kept hb16
      replace iP := iP.below hb16
      replace EP := EP.kept hb16
      clear hb16
      obtain ⟨V17, hV17⟩ : ∃ V, V = w16.alloc (.cells #[.slice aQ 16 cQ] 25) := ⟨_, rfl⟩
      have bV : Below w16.heap.size w16 V17 := by rw [hV17]; exact (Below.refl _ _).alloc (Nat.le_refl _) _
      have z17 : V17.heap.size = w16.heap.size + 1 := by rw [hV17]; simp
      have EQ : Arr V17 w16.heap.size 25 [.slice aQ 16 cQ] := by rw [hV17]; exact Arr.new w16 [.slice aQ 16 cQ] _
      replace B := B.trans (bV.mono B.size)
      replace hV := hV.kept bV
      replace iA := iA.below bV
      replace iB := iB.below bV
      replace EA := EA.kept bV
      replace EB := EB.kept bV
      replace iC := iC.below bV
      replace EC := EC.kept bV
      replace iS := iS.below bV
      replace ES := ES.kept bV
      replace iT := iT.below bV
      replace ET := ET.kept bV
      replace iP := iP.below bV
      replace EP := EP.kept bV
      replace iQ := iQ.below bV
      clear bV
      have cES := cell1 ES
      rw [hV17] at cES
      have cEB := cell1 EB
      rw [hV17] at cEB
      go_wp2_with fail
      rw [← hV17]
      clear cES cEB hV17
      refine (okSub aS 16 cS S aB 16 cB lB _ iS iB hV H.out.2.2.1 H.out.2.1 H.out.2.2.2.2.2.2.1).mono ?_
      rintro e w18 ⟨aD, cD, rfl, iD, hb18⟩
      have z18 := hb18.size
      replace B := B.trans (hb18.mono B.size)
      replace hV := hV.kept hb18
      replace iA := iA.below hb18
      replace iB := iB.below hb18
      replace EA := EA.kept hb18
      replace EB := EB.kept hb18
      replace iC := iC.below hb18
      replace EC := EC.kept hb18
      replace iS := iS.below hb18
      replace ES := ES.kept hb18
      replace iT := iT.below hb18
      replace ET := ET.kept hb18
      replace iP := iP.below hb18
      replace EP := EP.kept hb18
      replace iQ := iQ.below hb18
      replace EQ := EQ.kept hb18
      clear hb18
      obtain ⟨V19, hV19⟩ : ∃ V, V = w18.alloc (.cells #[.slice aD 16 cD] 25) := ⟨_, rfl⟩
      have bV : Below w18.heap.size w18 V19 := by rw [hV19]; exact (Below.refl _ _).alloc (Nat.le_refl _) _
      have z19 : V19.heap.size = w18.heap.size + 1 := by rw [hV19]; simp
      have ED : Arr V19 w18.heap.size 25 [.slice aD 16 cD] := by rw [hV19]; exact Arr.new w18 [.slice aD 16 cD] _
      replace B := B.trans (bV.mono B.size)
      replace hV := hV.kept bV
      replace iA := iA.below bV
      replace iB := iB.below bV
      replace EA := EA.kept bV
      replace EB := EB.kept bV
      replace iC := iC.below bV
      replace EC := EC.kept bV
      replace iS := iS.below bV
      replace ES := ES.kept bV
      replace iT := iT.below bV
      replace ET := ET.kept bV
      replace iP := iP.below bV
      replace EP := EP.kept bV
      replace iQ := iQ.below bV
      replace EQ := EQ.kept bV
      replace iD := iD.below bV
      clear bV
      have cES := cell1 ES
      rw [hV19] at cES
      go_wp2_with fail
      rw [← hV19]
      clear cES hV19
      refine (implFeOk aS 16 cS S _ iS hV).mono ?_
      rintro e w20 ⟨rfl, hb20⟩
      have z20 := hb20.size
      replace B := B.trans (hb20.mono B.size)
      replace hV := hV.kept hb20
      replace iA := iA.below hb20
      replace iB := iB.below hb20
      replace EA := EA.kept hb20
      replace EB := EB.kept hb20
      replace iC := iC.below hb20
      replace EC := EC.kept hb20
      replace iS := iS.below hb20
      replace ES := ES.kept hb20
      replace iT := iT.below hb20
      replace ET := ET.kept hb20
      replace iP := iP.below hb20
      replace EP := EP.kept hb20
      replace iQ := iQ.below hb20
      replace EQ := EQ.kept hb20
      replace iD := iD.below hb20
      replace ED := ED.kept hb20
      clear hb20
      rw [H.out.2.2.1]
      have cEP := cell1 EP
      go_wp2_with fail
      clear cEP
      refine (implFeOk aP 16 cP M _ iP hV).mono ?_
      rintro e w21 ⟨rfl, hb21⟩
      have z21 := hb21.size
      replace B := B.trans (hb21.mono B.size)
      replace hV := hV.kept hb21
      replace iA := iA.below hb21
      replace iB := iB.below hb21
      replace EA := EA.kept hb21
      replace EB := EB.kept hb21
      replace iC := iC.below hb21
      replace EC := EC.kept hb21
      replace iS := iS.below hb21
      replace ES := ES.kept hb21
      replace iT := iT.below hb21
      replace ET := ET.kept hb21
      replace iP := iP.below hb21
      replace EP := EP.kept hb21
      replace iQ := iQ.below hb21
      replace EQ := EQ.kept hb21
      replace iD := iD.below hb21
      replace ED := ED.kept hb21
      clear hb21
      rw [H.out.2.2.2.1]
      have cES := cell1 ES
      have cET := cell1 ET
      go_wp2_with fail
      clear cES cET
      refine (sameIntsT aS aT 16 cS cT S _ iS iT (by omega)).mono ?_
      rintro e w22 ⟨q22, rfl, hq22⟩
      have hb22 : Below w21.heap.size w21 w22 := by rw [hq22]; exact bel_drewN _ _
      have z22 := hb22.size
      replace B := B.trans (hb22.mono B.size)
      replace hV := hV.kept hb22
      replace iA := iA.below hb22
      replace iB := iB.below hb22
      replace EA := EA.kept hb22
      replace EB := EB.kept hb22
      replace iC := iC.below hb22
      replace EC := EC.kept hb22
      replace iS := iS.below hb22
      replace ES := ES.kept hb22
      replace iT := iT.below hb22
      replace ET := ET.kept hb22
      replace iP := iP.below hb22
      replace EP := EP.kept hb22
      replace iQ := iQ.below hb22
      replace EQ := EQ.kept hb22
      replace iD := iD.below hb22
      replace ED := ED.kept hb22
      clear hb22 hq22
      clear iT
      clear ET
      have cEP := cell1 EP
      have cEQ := cell1 EQ
      go_wp2_with fail
      clear cEP cEQ
      refine (sameIntsT aP aQ 16 cP cQ M _ iP iQ (by omega)).mono ?_
      rintro e w23 ⟨q23, rfl, hq23⟩
      have hb23 : Below w22.heap.size w22 w23 := by rw [hq23]; exact bel_drewN _ _
      have z23 := hb23.size
      replace B := B.trans (hb23.mono B.size)
      replace hV := hV.kept hb23
      replace iA := iA.below hb23
      replace iB := iB.below hb23
      replace EA := EA.kept hb23
      replace EB := EB.kept hb23
      replace iC := iC.below hb23
      replace EC := EC.kept hb23
      replace iS := iS.below hb23
      replace ES := ES.kept hb23
      replace iP := iP.below hb23
      replace EP := EP.kept hb23
      replace iQ := iQ.below hb23
      replace EQ := EQ.kept hb23
      replace iD := iD.below hb23
      replace ED := ED.kept hb23
      clear hb23 hq23
      clear iQ
      clear EQ
      have cED := cell1 ED
      have cEA := cell1 EA
      go_wp2_with fail
      clear cED cEA
      refine (sameIntsT aD aA 16 cD cA lA _ iD iA (by omega)).mono ?_
      rintro e w24 ⟨q24, rfl, hq24⟩
      have hb24 : Below w23.heap.size w23 w24 := by rw [hq24]; exact bel_drewN _ _
      have z24 := hb24.size
      replace B := B.trans (hb24.mono B.size)
      replace hV := hV.kept hb24
      replace iA := iA.below hb24
      replace iB := iB.below hb24
      replace EA := EA.kept hb24
      replace EB := EB.kept hb24
      replace iC := iC.below hb24
      replace EC := EC.kept hb24
      replace iS := iS.below hb24
      replace ES := ES.kept hb24
      replace iP := iP.below hb24
      replace EP := EP.kept hb24
      replace iD := iD.below hb24
      replace ED := ED.kept hb24
      clear hb24 hq24
      clear iD
      clear ED
      obtain ⟨r, hr⟩ : ∃ r, r = feOk lC := ⟨_, rfl⟩
      have HRC : Hid _ := hr
      have cEC := cell1 EC
      go_wp2_with fail
      clear cEC
      refine (specFeOk aC nC cC lC _ iC).mono ?_
      rintro e w25 ⟨rfl, hb25⟩
      have z25 := hb25.size
      replace B := B.trans (hb25.mono B.size)
      replace hV := hV.kept hb25
      replace iA := iA.below hb25
      replace iB := iB.below hb25
      replace EA := EA.kept hb25
      replace EB := EB.kept hb25
      replace iC := iC.below hb25
      replace EC := EC.kept hb25
      replace iS := iS.below hb25
      replace ES := ES.kept hb25
      replace iP := iP.below hb25
      replace EP := EP.kept hb25
      clear hb25
      rw [← HRC.out]
      clear hr
      cases r with
      | false =>
        go_wp2
        go_ret
        exact ⟨rfl, B⟩
      | true =>
        have kC : feOk lC = true := HRC.out.symm
        have hC16 : nC = 16 := by have := iC.2.1; have := ((feOk_iff lC).1 kC).1; omega
        subst hC16
        have m2 : ∀ x y : Int, red (x % P25519 * y) = red (x * y) := fun x y => by unfold red; rw [Int.mul_emod, Int.emod_emod, ← Int.mul_emod]
        have m3 : ∀ x y : Int, red (x * (y % P25519)) = red (x * y) := fun x y => by unfold red; rw [Int.mul_emod, Int.emod_emod, ← Int.mul_emod]
        have m4 : ∀ x y : Int, red (x % P25519 + y % P25519) = red (x + y) := fun x y => by unfold red; rw [← Int.add_emod]
        obtain ⟨X, hX⟩ : ∃ X, X = red ((val lA + val lB) * val lC) := ⟨_, rfl⟩
        obtain ⟨Y, hY⟩ : ∃ Y, Y = red (val lA * val lC) := ⟨_, rfl⟩
        obtain ⟨Z, hZ⟩ : ∃ Z, Z = red (val lB * val lC) := ⟨_, rfl⟩
        obtain ⟨U, hU⟩ : ∃ U, U = red (val lA * val lB * val lC) := ⟨_, rfl⟩
        have K : Hid (feOk lC = true ∧ feOk Y = true ∧ feOk Z = true ∧ red (val S * val lC) = X ∧ red (val lA * val lC) = Y ∧ red (val lB * val lC) = Z ∧ red (val Y + val Z) = X ∧ red (val M * val lC) = U ∧ red (val lA * val Z) = U) := by
          refine ⟨kC, by rw [hY]; exact red_ok _, by rw [hZ]; exact red_ok _, ?_, hY.symm, hZ.symm, ?_, ?_, ?_⟩
          · rw [H.out.2.2.2.2.2.2.2.2.1, m2, hX]
          · rw [hY, hZ, val_red, val_red, m4, hX, Int.add_mul]
          · rw [H.out.2.2.2.2.2.2.2.2.2, m2, hU]
          · rw [hZ, val_red, m3, hU, Int.mul_assoc]
        clear kC m2 m3 m4 hX hY hZ hU HRC
        have cES := cell1 ES
        have cEC := cell1 EC
        go_wp2_with fail
        clear cES cEC
        refine (okMul aS 16 cS S aC 16 cC lC _ iS iC hV H.out.2.2.1 K.out.1 K.out.2.2.2.1).mono ?_
        rintro e w26 ⟨aX, cX, rfl, iX, hb26⟩
        have z26 := hb26.size
        replace B := B.trans (hb26.mono B.size)
        replace hV := hV.kept hb26
        replace iA := iA.below hb26
        replace iB := iB.below hb26
        replace EA := EA.kept hb26
        replace EB := EB.kept hb26
        replace iC := iC.below hb26
        replace EC := EC.kept hb26
        replace iS := iS.below hb26
        replace ES := ES.kept hb26
        replace iP := iP.below hb26
        replace EP := EP.kept hb26
        clear hb26
        obtain ⟨V27, hV27⟩ : ∃ V, V = w26.alloc (.cells #[.slice aX 16 cX] 25) := ⟨_, rfl⟩
        have bV : Below w26.heap.size w26 V27 := by rw [hV27]; exact (Below.refl _ _).alloc (Nat.le_refl _) _
        have z27 : V27.heap.size = w26.heap.size + 1 := by rw [hV27]; simp
        have EX : Arr V27 w26.heap.size 25 [.slice aX 16 cX] := by rw [hV27]; exact Arr.new w26 [.slice aX 16 cX] _
        replace B := B.trans (bV.mono B.size)
        replace hV := hV.kept bV
        replace iA := iA.below bV
        replace iB := iB.below bV
        replace EA := EA.kept bV
        replace EB := EB.kept bV
        replace iC := iC.below bV
        replace EC := EC.kept bV
        replace iS := iS.below bV
        replace ES := ES.kept bV
        replace iP := iP.below bV
        replace EP := EP.kept bV
        replace iX := iX.below bV
        clear bV
        have cEA := cell1 EA
        rw [hV27] at cEA
        have cEC := cell1 EC
        rw [hV27] at cEC
        go_wp2_with fail
        rw [← hV27]
        clear cEA cEC hV27
        refine (okMul aA 16 cA lA aC 16 cC lC _ iA iC hV H.out.1 K.out.1 K.out.2.2.2.2.1).mono ?_
        rintro e w28 ⟨aY, cY, rfl, iY, hb28⟩
        have z28 := hb28.size
        replace B := B.trans (hb28.mono B.size)
        replace hV := hV.kept hb28
        replace iA := iA.below hb28
        replace iB := iB.below hb28
        replace EA := EA.kept hb28
        replace EB := EB.kept hb28
        replace iC := iC.below hb28
        replace EC := EC.kept hb28
        replace iS := iS.below hb28
        replace ES := ES.kept hb28
        replace iP := iP.below hb28
        replace EP := EP.kept hb28
        replace iX := iX.below hb28
        replace EX := EX.kept hb28
        clear hb28
        obtain ⟨V29, hV29⟩ : ∃ V, V = w28.alloc (.cells #[.slice aY 16 cY] 25) := ⟨_, rfl⟩
        have bV : Below w28.heap.size w28 V29 := by rw [hV29]; exact (Below.refl _ _).alloc (Nat.le_refl _) _
        have z29 : V29.heap.size = w28.heap.size + 1 := by rw [hV29]; simp
        have EY : Arr V29 w28.heap.size 25 [.slice aY 16 cY] := by rw [hV29]; exact Arr.new w28 [.slice aY 16 cY] _
        replace B := B.trans (bV.mono B.size)
        replace hV := hV.kept bV
        replace iA := iA.below bV
        replace iB := iB.below bV
        replace EA := EA.kept bV
        replace EB := EB.kept bV
        replace iC := iC.below bV
        replace EC := EC.kept bV
        replace iS := iS.below bV
        replace ES := ES.kept bV
        replace iP := iP.below bV
        replace EP := EP.kept bV
        replace iX := iX.below bV
        replace EX := EX.kept bV
        replace iY := iY.below bV
        clear bV
        have cEB := cell1 EB
        rw [hV29] at cEB
        have cEC := cell1 EC
        rw [hV29] at cEC
        go_wp2_with fail
        rw [← hV29]
        clear cEB cEC hV29
        refine (okMul aB 16 cB lB aC 16 cC lC _ iB iC hV H.out.2.1 K.out.1 K.out.2.2.2.2.2.1).mono ?_
        rintro e w30 ⟨aZ, cZ, rfl, iZ, hb30⟩
        have z30 := hb30.size
        replace B := B.trans (hb30.mono B.size)
        replace hV := hV.kept hb30
        replace iA := iA.below hb30
        replace iB := iB.below hb30
        replace EA := EA.kept hb30
        replace EB := EB.kept hb30
        replace iC := iC.below hb30
        replace EC := EC.kept hb30
        replace iS := iS.below hb30
        replace ES := ES.kept hb30
        replace iP := iP.below hb30
        replace EP := EP.kept hb30
        replace iX := iX.below hb30
        replace EX := EX.kept hb30
        replace iY := iY.below hb30
        replace EY := EY.kept hb30
        clear hb30
        obtain ⟨V31, hV31⟩ : ∃ V, V = w30.alloc (.cells #[.slice aZ 16 cZ] 25) := ⟨_, rfl⟩
        have bV : Below w30.heap.size w30 V31 := by rw [hV31]; exact (Below.refl _ _).alloc (Nat.le_refl _) _
        have z31 : V31.heap.size = w30.heap.size + 1 := by rw [hV31]; simp
        have EZ : Arr V31 w30.heap.size 25 [.slice aZ 16 cZ] := by rw [hV31]; exact Arr.new w30 [.slice aZ 16 cZ] _
        replace B := B.trans (bV.mono B.size)
        replace hV := hV.kept bV
        replace iA := iA.below bV
        replace iB := iB.below bV
        replace EA := EA.kept bV
        replace EB := EB.kept bV
        replace iC := iC.below bV
        replace EC := EC.kept bV
        replace iS := iS.below bV
        replace ES := ES.kept bV
        replace iP := iP.below bV
        replace EP := EP.kept bV
        replace iX := iX.below bV
        replace EX := EX.kept bV
        replace iY := iY.below bV
        replace EY := EY.kept bV
        replace iZ := iZ.below bV
        clear bV
        have cEY := cell1 EY
        rw [hV31] at cEY
        have cEZ := cell1 EZ
        rw [hV31] at cEZ
        go_wp2_with fail
        rw [← hV31]
        clear cEY cEZ hV31
        refine (okAdd aY 16 cY Y aZ 16 cZ Z _ iY iZ hV K.out.2.1 K.out.2.2.1 K.out.2.2.2.2.2.2.1).mono ?_
        rintro e w32 ⟨aU, cU, rfl, iU, hb32⟩
        have z32 := hb32.size
        replace B := B.trans (hb32.mono B.size)
        replace hV := hV.kept hb32
        replace iA := iA.below hb32
        replace iB := iB.below hb32
        replace EA := EA.kept hb32
        replace EB := EB.kept hb32
        replace iC := iC.below hb32
        replace EC := EC.kept hb32
        replace iS := iS.below hb32
        replace ES := ES.kept hb32
        replace iP := iP.below hb32
        replace EP := EP.kept hb32
        replace iX := iX.below hb32
        replace EX := EX.kept hb32
        replace iY := iY.below hb32
        replace EY := EY.kept hb32
        replace iZ := iZ.below hb32
        replace EZ := EZ.kept hb32
        clear hb32
        obtain ⟨V33, hV33⟩ : ∃ V, V = w32.alloc (.cells #[.slice aU 16 cU] 25) := ⟨_, rfl⟩
        have bV : Below w32.heap.size w32 V33 := by rw [hV33]; exact (Below.refl _ _).alloc (Nat.le_refl _) _
        have z33 : V33.heap.size = w32.heap.size + 1 := by rw [hV33]; simp
        have EU : Arr V33 w32.heap.size 25 [.slice aU 16 cU] := by rw [hV33]; exact Arr.new w32 [.slice aU 16 cU] _
        replace B := B.trans (bV.mono B.size)
        replace hV := hV.kept bV
        replace iA := iA.below bV
        replace iB := iB.below bV
        replace EA := EA.kept bV
        replace EB := EB.kept bV
        replace iC := iC.below bV
        replace EC := EC.kept bV
        replace iS := iS.below bV
        replace ES := ES.kept bV
        replace iP := iP.below bV
        replace EP := EP.kept bV
        replace iX := iX.below bV
        replace EX := EX.kept bV
        replace iY := iY.below bV
        replace EY := EY.kept bV
        replace iZ := iZ.below bV
        replace EZ := EZ.kept bV
        replace iU := iU.below bV
        clear bV
        have cEP := cell1 EP
        rw [hV33] at cEP
        have cEC := cell1 EC
        rw [hV33] at cEC
        go_wp2_with fail
        rw [← hV33]
        clear cEP cEC hV33
        refine (okMul aP 16 cP M aC 16 cC lC _ iP iC hV H.out.2.2.2.1 K.out.1 K.out.2.2.2.2.2.2.2.1).mono ?_
        rintro e w34 ⟨aW, cW, rfl, iW, hb34⟩
        have z34 := hb34.size
        replace B := B.trans (hb34.mono B.size)
        replace hV := hV.kept hb34
        replace iA := iA.below hb34
        replace iB := iB.below hb34
        replace EA := EA.kept hb34
        replace EB := EB.kept hb34
        replace iC := iC.below hb34
        replace EC := EC.kept hb34
        replace iS := iS.below hb34
        replace ES := ES.kept hb34
        replace iP := iP.below hb34
        replace EP := EP.kept hb34
        replace iX := iX.below hb34
        replace EX := EX.kept hb34
        replace iY := iY.below hb34
        replace EY := EY.kept hb34
        replace iZ := iZ.below hb34
        replace EZ := EZ.kept hb34
        replace iU := iU.below hb34
        replace EU := EU.kept hb34
        clear hb34
        obtain ⟨V35, hV35⟩ : ∃ V, V = w34.alloc (.cells #[.slice aW 16 cW] 25) := ⟨_, rfl⟩
        have bV : Below w34.heap.size w34 V35 := by rw [hV35]; exact (Below.refl _ _).alloc (Nat.le_refl _) _
        have z35 : V35.heap.size = w34.heap.size + 1 := by rw [hV35]; simp
        have EW : Arr V35 w34.heap.size 25 [.slice aW 16 cW] := by rw [hV35]; exact Arr.new w34 [.slice aW 16 cW] _
        replace B := B.trans (bV.mono B.size)
        replace hV := hV.kept bV
        replace iA := iA.below bV
        replace iB := iB.below bV
        replace EA := EA.kept bV
        replace EB := EB.kept bV
        replace iC := iC.below bV
        replace EC := EC.kept bV
        replace iS := iS.below bV
        replace ES := ES.kept bV
        replace iP := iP.below bV
        replace EP := EP.kept bV
        replace iX := iX.below bV
        replace EX := EX.kept bV
        replace iY := iY.below bV
        replace EY := EY.kept bV
        replace iZ := iZ.below bV
        replace EZ := EZ.kept bV
        replace iU := iU.below bV
        replace EU := EU.kept bV
        replace iW := iW.below bV
        clear bV
        have cEA := cell1 EA
        rw [hV35] at cEA
        have cEZ := cell1 EZ
        rw [hV35] at cEZ
        go_wp2_with fail
        rw [← hV35]
        clear cEA cEZ hV35
        refine (okMul aA 16 cA lA aZ 16 cZ Z _ iA iZ hV H.out.1 K.out.2.2.1 K.out.2.2.2.2.2.2.2.2).mono ?_
        rintro e w36 ⟨aR, cR, rfl, iR, hb36⟩
        have z36 := hb36.size
        replace B := B.trans (hb36.mono B.size)
        replace hV := hV.kept hb36
        replace iA := iA.below hb36
        replace iB := iB.below hb36
        replace EA := EA.kept hb36
        replace EB := EB.kept hb36
        replace iC := iC.below hb36
        replace EC := EC.kept hb36
        replace iS := iS.below hb36
        replace ES := ES.kept hb36
        replace iP := iP.below hb36
        replace EP := EP.kept hb36
        replace iX := iX.below hb36
        replace EX := EX.kept hb36
        replace iY := iY.below hb36
        replace EY := EY.kept hb36
        replace iZ := iZ.below hb36
        replace EZ := EZ.kept hb36
        replace iU := iU.below hb36
        replace EU := EU.kept hb36
        replace iW := iW.below hb36
        replace EW := EW.kept hb36
        clear hb36
        obtain ⟨V37, hV37⟩ : ∃ V, V = w36.alloc (.cells #[.slice aR 16 cR] 25) := ⟨_, rfl⟩
        have bV : Below w36.heap.size w36 V37 := by rw [hV37]; exact (Below.refl _ _).alloc (Nat.le_refl _) _
        have z37 : V37.heap.size = w36.heap.size + 1 := by rw [hV37]; simp
        have ER : Arr V37 w36.heap.size 25 [.slice aR 16 cR] := by rw [hV37]; exact Arr.new w36 [.slice aR 16 cR] _
        replace B := B.trans (bV.mono B.size)
        replace hV := hV.kept bV
        replace iA := iA.below bV
        replace iB := iB.below bV
        replace EA := EA.kept bV
        replace EB := EB.kept bV
        replace iC := iC.below bV
        replace EC := EC.kept bV
        replace iS := iS.below bV
        replace ES := ES.kept bV
        replace iP := iP.below bV
        replace EP := EP.kept bV
        replace iX := iX.below bV
        replace EX := EX.kept bV
        replace iY := iY.below bV
        replace EY := EY.kept bV
        replace iZ := iZ.below bV
        replace EZ := EZ.kept bV
        replace iU := iU.below bV
        replace EU := EU.kept bV
        replace iW := iW.below bV
        replace EW := EW.kept bV
        replace iR := iR.below bV
        clear bV
        have cEX := cell1 EX
        rw [hV37] at cEX
        have cEU := cell1 EU
        rw [hV37] at cEU
        go_wp2_with fail
        rw [← hV37]
        clear cEX cEU hV37
        refine (sameIntsT aX aU 16 cX cU X _ iX iU (by omega)).mono ?_
        rintro e w38 ⟨q38, rfl, hq38⟩
        have hb38 : Below V37.heap.size V37 w38 := by rw [hq38]; exact bel_drewN _ _
        have z38 := hb38.size
        replace B := B.trans (hb38.mono B.size)
        replace hV := hV.kept hb38
        replace iA := iA.below hb38
        replace iB := iB.below hb38
        replace EA := EA.kept hb38
        replace EB := EB.kept hb38
        replace iC := iC.below hb38
        replace EC := EC.kept hb38
        replace iS := iS.below hb38
        replace ES := ES.kept hb38
        replace iP := iP.below hb38
        replace EP := EP.kept hb38
        replace iX := iX.below hb38
        replace EX := EX.kept hb38
        replace iY := iY.below hb38
        replace EY := EY.kept hb38
        replace iZ := iZ.below hb38
        replace EZ := EZ.kept hb38
        replace iU := iU.below hb38
        replace EU := EU.kept hb38
        replace iW := iW.below hb38
        replace EW := EW.kept hb38
        replace iR := iR.below hb38
        replace ER := ER.kept hb38
        clear hb38 hq38
        have cEW := cell1 EW
        have cER := cell1 ER
        go_wp2_with fail
        clear cEW cER
        refine (sameIntsT aW aR 16 cW cR U _ iW iR (by omega)).mono ?_
        rintro e w39 ⟨q39, rfl, hq39⟩
        have hb39 : Below w38.heap.size w38 w39 := by rw [hq39]; exact bel_drewN _ _
        have z39 := hb39.size
        replace B := B.trans (hb39.mono B.size)
        replace hV := hV.kept hb39
        replace iA := iA.below hb39
        replace iB := iB.below hb39
        replace EA := EA.kept hb39
        replace EB := EB.kept hb39
        replace iC := iC.below hb39
        replace EC := EC.kept hb39
        replace iS := iS.below hb39
        replace ES := ES.kept hb39
        replace iP := iP.below hb39
        replace EP := EP.kept hb39
        replace iX := iX.below hb39
        replace EX := EX.kept hb39
        replace iY := iY.below hb39
        replace EY := EY.kept hb39
        replace iZ := iZ.below hb39
        replace EZ := EZ.kept hb39
        replace iU := iU.below hb39
        replace EU := EU.kept hb39
        replace iW := iW.below hb39
        replace EW := EW.kept hb39
        replace iR := iR.below hb39
        replace ER := ER.kept hb39
        clear hb39 hq39
        go_wp2
        go_ret
        exact ⟨rfl, B⟩
end Go.Proofs.YtpchdfdeomhakaaDoor
