/-
  What is proved here: the law of multipliers returns true at every code; where the program's six functions keep their contracts.
-/
import Derived.Test.YtlafcjoccbinaaaDoorZKt
import Derived.Test.YtlafcjoccbinaaaDoorZKo
import Derived.Test.YtlafcjoccbinaaaDoorZC
import Derived.Test.YtlafcjoccbinaaaDoorZXa
namespace Go.Proofs.YtlafcjoccbinaaaDoor
open Go.RowKit
set_option maxRecDepth 100000

set_option maxHeartbeats 2000000 in
theorem walk_fnScalars (Vs : World → Prop) (hVs : ∀ Z Z' : World, Below Z.heap.size Z Z' → Vs Z → Vs Z') (cAdd : CTwo Vs 12 (· + ·)) (cMul : CTwo Vs 15 (· * ·)) (cRd : CRd Vs 13 rdOkO rdFO) (cWd : CRd Vs 17 wdOk wdF) (cOk : COk Vs 18) (cBt : CBt Vs 16) (w : World) (ab : Option Addr) (nb cb : Nat) (bs : List Int) (hB : Bs w ab nb cb bs) (hre : nb ≤ 140737488351232) (hv : Vs w) :
    Calls Tryd.prog 3 #[.slice ab nb cb] w fun e w' => e = .returned (.bool true) ∧ Below w.heap.size w w' := by
  have B : Below w.heap.size w w := Below.refl _ _
  have HOB : Hid (rdOkO oneB = true ∧ rdFO oneB = redO 1 ∧ (redO 1).length = 16) := ⟨oneB_rd.1, oneB_rd.2, redO_len 1⟩
  obtain ⟨OB, hOB⟩ : ∃ l, l = oneB := ⟨_, rfl⟩
  obtain ⟨O, hO⟩ : ∃ l, l = redO 1 := ⟨_, rfl⟩
  have HMK : Hid (∀ (w : World) (ty : TypeId), ∃ v w', (Builtin.append_ #[22, 3] ty #[.slice (some ⟨w.heap.size, 0, none⟩) 1 1, .int .i64 31]).run Tryd.prog (w.alloc (.cells #[.int .u8 1] 5)) = .ok v w' ∧ (∃ a c, v = .slice a 32 c ∧ Bs w' a 32 c OB) ∧ Below w.heap.size w w') := by unfold Hid; rw [hOB]; exact mk_one
  rw [← hOB, ← hO] at HOB
  have HO1 : Hid (val O = 1) := by unfold Hid; rw [hO]; exact oneB_val
  have HO2 : Hid (scOk O = true) := by unfold Hid; rw [hO]; exact redO_ok 1
  clear hOB hO
  go_enter Tryd.func3, Tryd.ntmps3
  go_wp2_with fail
  refine (drawScAdd ab nb cb bs _ (hB.below B) (by omega)).mono ?_
  rintro e w1 ⟨vA, lA, vB, lB, rfl, ⟨aA, nA, cA, rfl, iA, _, nmA⟩, ⟨aB, nB, cB, rfl, iB, _, nmB⟩, hb1⟩
  have z1 := hb1.size
  replace B := B.trans (hb1.mono B.size)
  replace hv := hVs _ _ hb1 hv
  clear hb1
  obtain ⟨V2, hV2⟩ : ∃ V, V = (w1.alloc (.cells #[.slice aA nA cA] 25)).alloc (.cells #[.slice aB nB cB] 25) := ⟨_, rfl⟩
  have bV : Below w1.heap.size w1 V2 := by rw [hV2]; exact ((Below.refl _ _).alloc (Nat.le_refl _) _).alloc (by simp) _
  have EA : Arr V2 w1.heap.size 25 [.slice aA nA cA] := by rw [hV2]; exact (Arr.new w1 _ _).alloc _
  have EB : Arr V2 (w1.heap.size + 1) 25 [.slice aB nB cB] := by
    rw [hV2]
    have := Arr.new (w1.alloc (.cells #[.slice aA nA cA] 25)) [.slice aB nB cB] 25
    rw [World.size_alloc] at this
    exact this
  replace B := B.trans (bV.mono B.size)
  replace iA := iA.below bV
  replace iB := iB.below bV
  replace hv := hVs _ _ bV hv
  clear bV
  have cEA := cell1 EA
  rw [hV2] at cEA
  have cEB := cell1 EB
  rw [hV2] at cEB
  go_wp2_with fail
  rw [← hV2]
  clear cEA cEB hV2
  refine (cAdd aA nA cA lA aB nB cB lB _ iA iB hv).mono ?_
  rintro e w3 ⟨v, rfl, ⟨aS, cS, rfl, iS⟩, hb3⟩
  have z3 := hb3.size
  replace B := B.trans (hb3.mono B.size)
  replace iA := iA.below hb3
  replace iB := iB.below hb3
  replace EA := EA.kept hb3
  replace EB := EB.kept hb3
  replace hv := hVs _ _ hb3 hv
  clear hb3
  obtain ⟨nS, hnS⟩ : ∃ n, n = (sc2 (· + ·) lA lB).length := ⟨_, rfl⟩
  obtain ⟨oS, hoS⟩ : ∃ o, o = (scOk lA && scOk lB) := ⟨_, rfl⟩
  rw [← hnS] at iS ⊢
  rw [← hoS]
  have HNS : Hid _ := hnS
  have HOS : Hid _ := hoS
  clear hnS hoS
  obtain ⟨V4, hV4⟩ : ∃ V, V = w3.alloc (.cells #[.slice aS nS cS] 25) := ⟨_, rfl⟩
  have bV : Below w3.heap.size w3 V4 := by rw [hV4]; exact (Below.refl _ _).alloc (Nat.le_refl _) _
  have z4 : V4.heap.size = w3.heap.size + 1 := by rw [hV4]; simp
  have ES : Arr V4 w3.heap.size 25 [.slice aS nS cS] := by rw [hV4]; exact Arr.new w3 [.slice aS nS cS] _
  replace B := B.trans (bV.mono B.size)
  replace iA := iA.below bV
  replace iB := iB.below bV
  replace EA := EA.kept bV
  replace EB := EB.kept bV
  replace iS := iS.below bV
  replace hv := hVs _ _ bV hv
  clear bV
  obtain ⟨S, hS⟩ : ∃ S, S = sc2 (· + ·) lA lB := ⟨_, rfl⟩
  rw [← hS] at iS HNS
  have HS : Hid _ := hS
  clear hS
  obtain ⟨vO, wO, hrO, ⟨aU, cU, rfl, iU⟩, bO⟩ := HMK.out V4 22
  have zO := bO.size
  rw [z4] at hrO
  go_wp2_with (at_builtin; rw [← hV4]; refine Lib.wpList_append_run _ rfl _ _ _ _ rfl _ _ rfl rfl _ _ hrO ?_)
  clear hV4
  replace B := B.trans (bO.mono B.size)
  replace iA := iA.below bO
  replace iB := iB.below bO
  replace EA := EA.kept bO
  replace EB := EB.kept bO
  replace iS := iS.below bO
  replace ES := ES.kept bO
  replace hv := hVs _ _ bO hv
  clear hrO bO
  refine (cRd.ok aU 32 cU OB _ iU hv HOB.out.1 HOB.out.2.1 HOB.out.2.2).mono ?_
  rintro e w5 ⟨aO, cO, rfl, iO, hb5⟩
  have z5 := hb5.size
  replace B := B.trans (hb5.mono B.size)
  replace iA := iA.below hb5
  replace iB := iB.below hb5
  replace EA := EA.kept hb5
  replace EB := EB.kept hb5
  replace iS := iS.below hb5
  replace ES := ES.kept hb5
  replace iU := iU.below hb5
  replace hv := hVs _ _ hb5 hv
  clear hb5
  clear iU
  obtain ⟨V6, hV6⟩ : ∃ V, V = w5.alloc (.cells #[.slice aO 16 cO] 25) := ⟨_, rfl⟩
  have bV : Below w5.heap.size w5 V6 := by rw [hV6]; exact (Below.refl _ _).alloc (Nat.le_refl _) _
  have z6 : V6.heap.size = w5.heap.size + 1 := by rw [hV6]; simp
  have EO : Arr V6 w5.heap.size 25 [.slice aO 16 cO] := by rw [hV6]; exact Arr.new w5 [.slice aO 16 cO] _
  replace B := B.trans (bV.mono B.size)
  replace iA := iA.below bV
  replace iB := iB.below bV
  replace EA := EA.kept bV
  replace EB := EB.kept bV
  replace iS := iS.below bV
  replace ES := ES.kept bV
  replace iO := iO.below bV
  replace hv := hVs _ _ bV hv
  clear bV
  have cEA := cell1 EA
  rw [hV6] at cEA
  go_wp2_with fail
  rw [← hV6]
  clear cEA hV6
  refine (specScOk aA nA cA lA _ iA).mono ?_
  rintro e w7 ⟨rfl, hb7⟩
  have z7 := hb7.size
  replace B := B.trans (hb7.mono B.size)
  replace iA := iA.below hb7
  replace iB := iB.below hb7
  replace EA := EA.kept hb7
  replace EB := EB.kept hb7
  replace iS := iS.below hb7
  replace ES := ES.kept hb7
  replace iO := iO.below hb7
  replace EO := EO.kept hb7
  replace hv := hVs _ _ hb7 hv
  clear hb7
  obtain ⟨p, hp⟩ : ∃ p, p = scOk lA := ⟨_, rfl⟩
  obtain ⟨q, hq⟩ : ∃ q, q = scOk lB := ⟨_, rfl⟩
  have HP : Hid _ := hp
  have HQ : Hid _ := hq
  rw [← hp]
  rw [← hp, ← hq] at HOS
  clear hp hq
  cases p with
  | false =>
    have ho : oS = false := by rw [HOS.out]; first | rfl | (cases q <;> rfl)
    subst ho
    have hS0 : nS = 0 := by rw [HNS.out, HS.out, sc2_no (by rw [← HP.out, ← HQ.out]; first | rfl | (cases q <;> rfl))]; rfl
    subst hS0
    have cES := cell1 ES
    have cEO := cell1 EO
    go_wp2
    clear cES cEO
    go_ret
    exact ⟨rfl, B⟩
  | true =>
    have cEB := cell1 EB
    go_wp2_with fail
    clear cEB
    refine (specScOk aB nB cB lB _ iB).mono ?_
    rintro e w8 ⟨rfl, hb8⟩
    have z8 := hb8.size
    replace B := B.trans (hb8.mono B.size)
    replace iA := iA.below hb8
    replace iB := iB.below hb8
    replace EA := EA.kept hb8
    replace EB := EB.kept hb8
    replace iS := iS.below hb8
    replace ES := ES.kept hb8
    replace iO := iO.below hb8
    replace EO := EO.kept hb8
    replace hv := hVs _ _ hb8 hv
    clear hb8
    rw [← HQ.out]
    cases q with
    | false =>
      have ho : oS = false := by rw [HOS.out]; first | rfl | (cases q <;> rfl)
      subst ho
      have hS0 : nS = 0 := by rw [HNS.out, HS.out, sc2_no (by rw [← HP.out, ← HQ.out]; first | rfl | (cases q <;> rfl))]; rfl
      subst hS0
      have cES := cell1 ES
      have cEO := cell1 EO
      go_wp2
      clear cES cEO
      go_ret
      exact ⟨rfl, B⟩
    | true =>
      have kA : scOk lA = true := HP.out.symm
      have kB : scOk lB = true := HQ.out.symm
      have ho : oS = true := by rw [HOS.out]; rfl
      subst ho
      have hS : S = redO (val lA + val lB) := by rw [HS.out, sc2_ok kA kB]
      have kS : scOk S = true := by rw [hS]; exact redO_ok _
      have hS16 : nS = 16 := by rw [HNS.out, hS]; exact redO_len _
      subst hS16
      have hA16 : nA = 16 := by have := iA.2.1; have := ((scOk_iff lA).1 kA).1; omega
      have hB16 : nB = 16 := by have := iB.2.1; have := ((scOk_iff lB).1 kB).1; omega
      subst hA16 hB16
      obtain ⟨P, hP⟩ : ∃ P, P = redO (val lA * val lB) := ⟨_, rfl⟩
      obtain ⟨Y, hY⟩ : ∃ Y, Y = redO (val lB * val lB) := ⟨_, rfl⟩
      obtain ⟨X, hX⟩ : ∃ X, X = redO ((val lA + val lB) * val lB) := ⟨_, rfl⟩
      obtain ⟨C, hC⟩ : ∃ C, C = btL lA := ⟨_, rfl⟩
      have H : Hid (scOk lA = true ∧ scOk lB = true ∧ scOk S = true ∧ scOk P = true ∧ scOk Y = true ∧ redO (val lB + val lA) = S ∧ redO (val lA * val lB) = P ∧ redO (val lB * val lA) = P ∧ redO (val lA * val O) = lA ∧ redO (val S * val lB) = X ∧ redO (val lB * val lB) = Y ∧ redO (val P + val Y) = X) := by
        refine ⟨kA, kB, kS, by rw [hP]; exact redO_ok _, by rw [hY]; exact redO_ok _, by rw [hS, Int.add_comm], hP.symm, by rw [hP, Int.mul_comm], by rw [HO1.out, Int.mul_one]; exact redO_val kA, ?_, hY.symm, ?_⟩
        · rw [hS, val_redO, redO_mul, hX]
        · rw [hP, hY, val_redO, val_redO, redO_add, hX, Int.add_mul]
      have HC : Hid (btFO lA = C ∧ C.length = 32 ∧ rdOkO C = true ∧ rdFO C = lA ∧ (∀ x ∈ C, 0 ≤ x ∧ x < 256) ∧ wdOk (C ++ List.replicate 32 0) = true ∧ wdF (C ++ List.replicate 32 0) = lA ∧ lA.length = 16) := by rw [hC]; exact ⟨(btO_ok kA).1, (btO_ok kA).2.1, (btO_ok kA).2.2.1, (btO_ok kA).2.2.2, btL_byte ((scOk_iff lA).1 kA).2.1, (wdO_ok kA).1, (wdO_ok kA).2, ((scOk_iff lA).1 kA).1⟩
      clear kA kB kS hS hP hY hX hC HP HQ HS HNS HOS
      have cEB := cell1 EB
      have cEA := cell1 EA
      go_wp2_with fail
      clear cEB cEA
      refine (cAdd.ok aB 16 cB lB aA 16 cA lA _ iB iA hv H.out.2.1 H.out.1 H.out.2.2.2.2.2.1).mono ?_
      rintro e w9 ⟨aT, cT, rfl, iT, hb9⟩
      have z9 := hb9.size
      replace B := B.trans (hb9.mono B.size)
      replace iA := iA.below hb9
      replace iB := iB.below hb9
      replace EA := EA.kept hb9
      replace EB := EB.kept hb9
      replace iS := iS.below hb9
      replace ES := ES.kept hb9
      replace iO := iO.below hb9
      replace EO := EO.kept hb9
      replace hv := hVs _ _ hb9 hv
      clear hb9
      obtain ⟨V10, hV10⟩ : ∃ V, V = w9.alloc (.cells #[.slice aT 16 cT] 25) := ⟨_, rfl⟩
      have bV : Below w9.heap.size w9 V10 := by rw [hV10]; exact (Below.refl _ _).alloc (Nat.le_refl _) _
      have z10 : V10.heap.size = w9.heap.size + 1 := by rw [hV10]; simp
      have ET : Arr V10 w9.heap.size 25 [.slice aT 16 cT] := by rw [hV10]; exact Arr.new w9 [.slice aT 16 cT] _
      replace B := B.trans (bV.mono B.size)
      replace iA := iA.below bV
      replace iB := iB.below bV
      replace EA := EA.kept bV
      replace EB := EB.kept bV
      replace iS := iS.below bV
      replace ES := ES.kept bV
      replace iO := iO.below bV
      replace EO := EO.kept bV
      replace iT := iT.below bV
      replace hv := hVs _ _ bV hv
      clear bV
      have cEA := cell1 EA
      rw [hV10] at cEA
      have cEB := cell1 EB
      rw [hV10] at cEB
      go_wp2_with fail
      rw [← hV10]
      clear cEA cEB hV10
      refine (cMul.ok aA 16 cA lA aB 16 cB lB _ iA iB hv H.out.1 H.out.2.1 H.out.2.2.2.2.2.2.1).mono ?_
      rintro e w11 ⟨aP, cP, rfl, iP, hb11⟩
      have z11 := hb11.size
      replace B := B.trans (hb11.mono B.size)
      replace iA := iA.below hb11
      replace iB := iB.below hb11
      replace EA := EA.kept hb11
      replace EB := EB.kept hb11
      replace iS := iS.below hb11
      replace ES := ES.kept hb11
      replace iO := iO.below hb11
      replace EO := EO.kept hb11
      replace iT := iT.below hb11
      replace ET := ET.kept hb11
      replace hv := hVs _ _ hb11 hv
      clear hb11
      obtain ⟨V12, hV12⟩ : ∃ V, V = w11.alloc (.cells #[.slice aP 16 cP] 25) := ⟨_, rfl⟩
      have bV : Below w11.heap.size w11 V12 := by rw [hV12]; exact (Below.refl _ _).alloc (Nat.le_refl _) _
      have z12 : V12.heap.size = w11.heap.size + 1 := by rw [hV12]; simp
      have EP : Arr V12 w11.heap.size 25 [.slice aP 16 cP] := by rw [hV12]; exact Arr.new w11 [.slice aP 16 cP] _
      replace B := B.trans (bV.mono B.size)
      replace iA := iA.below bV
      replace iB := iB.below bV
      replace EA := EA.kept bV
      replace EB := EB.kept bV
      replace iS := iS.below bV
      replace ES := ES.kept bV
      replace iO := iO.below bV
      replace EO := EO.kept bV
      replace iT := iT.below bV
      replace ET := ET.kept bV
      replace iP := iP.below bV
      replace hv := hVs _ _ bV hv
      clear bV
      have cEB := cell1 EB
      rw [hV12] at cEB
      have cEA := cell1 EA
      rw [hV12] at cEA
      go_wp2_with fail
      rw [← hV12]
      clear cEB cEA hV12
      refine (cMul.ok aB 16 cB lB aA 16 cA lA _ iB iA hv H.out.2.1 H.out.1 H.out.2.2.2.2.2.2.2.1).mono ?_
      rintro e w13 ⟨aQ, cQ, rfl, iQ, hb13⟩
      have z13 := hb13.size
      replace B := B.trans (hb13.mono B.size)
      replace iA := iA.below hb13
      replace iB := iB.below hb13
      replace EA := EA.kept hb13
      replace EB := EB.kept hb13
      replace iS := iS.below hb13
      replace ES := ES.kept hb13
      replace iO := iO.below hb13
      replace EO := EO.kept hb13
      replace iT := iT.below hb13
      replace ET := ET.kept hb13
      replace iP := iP.below hb13
      replace EP := EP.kept hb13
      replace hv := hVs _ _ hb13 hv
      clear hb13
      obtain ⟨V14, hV14⟩ : ∃ V, V = w13.alloc (.cells #[.slice aQ 16 cQ] 25) := ⟨_, rfl⟩
      have bV : Below w13.heap.size w13 V14 := by rw [hV14]; exact (Below.refl _ _).alloc (Nat.le_refl _) _
      have z14 : V14.heap.size = w13.heap.size + 1 := by rw [hV14]; simp
      have EQ : Arr V14 w13.heap.size 25 [.slice aQ 16 cQ] := by rw [hV14]; exact Arr.new w13 [.slice aQ 16 cQ] _
      replace B := B.trans (bV.mono B.size)
      replace iA := iA.below bV
      replace iB := iB.below bV
      replace EA := EA.kept bV
      replace EB := EB.kept bV
      replace iS := iS.below bV
      replace ES := ES.kept bV
      replace iO := iO.below bV
      replace EO := EO.kept bV
      replace iT := iT.below bV
      replace ET := ET.kept bV
      replace iP := iP.below bV
      replace EP := EP.kept bV
      replace iQ := iQ.below bV
      replace hv := hVs _ _ bV hv
      clear bV
      have cEA := cell1 EA
      rw [hV14] at cEA
      have cEO := cell1 EO
      rw [hV14] at cEO
      go_wp2_with fail
      rw [← hV14]
      clear cEA cEO hV14
      refine (cMul.ok aA 16 cA lA aO 16 cO O _ iA iO hv H.out.1 HO2.out H.out.2.2.2.2.2.2.2.2.1).mono ?_
      rintro e w15 ⟨aM, cM, rfl, iM, hb15⟩
      have z15 := hb15.size
      replace B := B.trans (hb15.mono B.size)
      replace iA := iA.below hb15
      replace iB := iB.below hb15
      replace EA := EA.kept hb15
      replace EB := EB.kept hb15
      replace iS := iS.below hb15
      replace ES := ES.kept hb15
      replace iO := iO.below hb15
      replace EO := EO.kept hb15
      replace iT := iT.below hb15
      replace ET := ET.kept hb15
      replace iP := iP.below hb15
      replace EP := EP.kept hb15
      replace iQ := iQ.below hb15
      replace EQ := EQ.kept hb15
      replace hv := hVs _ _ hb15 hv
      clear hb15
      obtain ⟨V16, hV16⟩ : ∃ V, V = w15.alloc (.cells #[.slice aM 16 cM] 25) := ⟨_, rfl⟩
      have bV : Below w15.heap.size w15 V16 := by rw [hV16]; exact (Below.refl _ _).alloc (Nat.le_refl _) _
      have z16 : V16.heap.size = w15.heap.size + 1 := by rw [hV16]; simp
      have EM : Arr V16 w15.heap.size 25 [.slice aM 16 cM] := by rw [hV16]; exact Arr.new w15 [.slice aM 16 cM] _
      replace B := B.trans (bV.mono B.size)
      replace iA := iA.below bV
      replace iB := iB.below bV
      replace EA := EA.kept bV
      replace EB := EB.kept bV
      replace iS := iS.below bV
      replace ES := ES.kept bV
      replace iO := iO.below bV
      replace EO := EO.kept bV
      replace iT := iT.below bV
      replace ET := ET.kept bV
      replace iP := iP.below bV
      replace EP := EP.kept bV
      replace iQ := iQ.below bV
      replace EQ := EQ.kept bV
      replace iM := iM.below bV
      replace hv := hVs _ _ bV hv
      clear bV
      have cES := cell1 ES
      rw [hV16] at cES
      have cEB := cell1 EB
      rw [hV16] at cEB
      go_wp2_with fail
      rw [← hV16]
      clear cES cEB hV16
      refine (cMul.ok aS 16 cS S aB 16 cB lB _ iS iB hv H.out.2.2.1 H.out.2.1 H.out.2.2.2.2.2.2.2.2.2.1).mono ?_
      rintro e w17 ⟨aX, cX, rfl, iX, hb17⟩
      have z17 := hb17.size
      replace B := B.trans (hb17.mono B.size)
      replace iA := iA.below hb17
      replace iB := iB.below hb17
      replace EA := EA.kept hb17
      replace EB := EB.kept hb17
      replace iS := iS.below hb17
      replace ES := ES.kept hb17
      replace iO := iO.below hb17
      replace EO := EO.kept hb17
      replace iT := iT.below hb17
      replace ET := ET.kept hb17
      replace iP := iP.below hb17
      replace EP := EP.kept hb17
      replace iQ := iQ.below hb17
      replace EQ := EQ.kept hb17
      replace iM := iM.below hb17
      replace EM := EM.kept hb17
      replace hv := hVs _ _ hb17 hv
      clear hb17
      obtain ⟨V18, hV18⟩ : ∃ V, V = w17.alloc (.cells #[.slice aX 16 cX] 25) := ⟨_, rfl⟩
      have bV : Below w17.heap.size w17 V18 := by rw [hV18]; exact (Below.refl _ _).alloc (Nat.le_refl _) _
      have z18 : V18.heap.size = w17.heap.size + 1 := by rw [hV18]; simp
      have EX : Arr V18 w17.heap.size 25 [.slice aX 16 cX] := by rw [hV18]; exact Arr.new w17 [.slice aX 16 cX] _
      replace B := B.trans (bV.mono B.size)
      replace iA := iA.below bV
      replace iB := iB.below bV
      replace EA := EA.kept bV
      replace EB := EB.kept bV
      replace iS := iS.below bV
      replace ES := ES.kept bV
      replace iO := iO.below bV
      replace EO := EO.kept bV
      replace iT := iT.below bV
      replace ET := ET.kept bV
      replace iP := iP.below bV
      replace EP := EP.kept bV
      replace iQ := iQ.below bV
      replace EQ := EQ.kept bV
      replace iM := iM.below bV
      replace EM := EM.kept bV
      replace iX := iX.below bV
      replace hv := hVs _ _ bV hv
      clear bV
      have cEB := cell1 EB
      rw [hV18] at cEB
      go_wp2_with fail
      rw [← hV18]
      clear cEB hV18
      refine (cMul.ok aB 16 cB lB aB 16 cB lB _ iB iB hv H.out.2.1 H.out.2.1 H.out.2.2.2.2.2.2.2.2.2.2.1).mono ?_
      rintro e w19 ⟨aY, cY, rfl, iY, hb19⟩
      have z19 := hb19.size
      replace B := B.trans (hb19.mono B.size)
      replace iA := iA.below hb19
      replace iB := iB.below hb19
      replace EA := EA.kept hb19
      replace EB := EB.kept hb19
      replace iS := iS.below hb19
      replace ES := ES.kept hb19
      replace iO := iO.below hb19
      replace EO := EO.kept hb19
      replace iT := iT.below hb19
      replace ET := ET.kept hb19
      replace iP := iP.below hb19
      replace EP := EP.kept hb19
      replace iQ := iQ.below hb19
      replace EQ := EQ.kept hb19
      replace iM := iM.below hb19
      replace EM := EM.kept hb19
      replace iX := iX.below hb19
      replace EX := EX.kept hb19
      replace hv := hVs _ _ hb19 hv
      clear hb19
      obtain ⟨V20, hV20⟩ : ∃ V, V = w19.alloc (.cells #[.slice aY 16 cY] 25) := ⟨_, rfl⟩
      have bV : Below w19.heap.size w19 V20 := by rw [hV20]; exact (Below.refl _ _).alloc (Nat.le_refl _) _
      have z20 : V20.heap.size = w19.heap.size + 1 := by rw [hV20]; simp
      have EY : Arr V20 w19.heap.size 25 [.slice aY 16 cY] := by rw [hV20]; exact Arr.new w19 [.slice aY 16 cY] _
      replace B := B.trans (bV.mono B.size)
      replace iA := iA.below bV
      replace iB := iB.below bV
      replace EA := EA.kept bV
      replace EB := EB.kept bV
      replace iS := iS.below bV
      replace ES := ES.kept bV
      replace iO := iO.below bV
      replace EO := EO.kept bV
      replace iT := iT.below bV
      replace ET := ET.kept bV
      replace iP := iP.below bV
      replace EP := EP.kept bV
      replace iQ := iQ.below bV
      replace EQ := EQ.kept bV
      replace iM := iM.below bV
      replace EM := EM.kept bV
      replace iX := iX.below bV
      replace EX := EX.kept bV
      replace iY := iY.below bV
      replace hv := hVs _ _ bV hv
      clear bV
      have cEP := cell1 EP
      rw [hV20] at cEP
      have cEY := cell1 EY
      rw [hV20] at cEY
      go_wp2_with fail
      rw [← hV20]
      clear cEP cEY hV20
      refine (cAdd.ok aP 16 cP P aY 16 cY Y _ iP iY hv H.out.2.2.2.1 H.out.2.2.2.2.1 H.out.2.2.2.2.2.2.2.2.2.2.2).mono ?_
      rintro e w21 ⟨aZ, cZ, rfl, iZ, hb21⟩
      have z21 := hb21.size
      replace B := B.trans (hb21.mono B.size)
      replace iA := iA.below hb21
      replace iB := iB.below hb21
      replace EA := EA.kept hb21
      replace EB := EB.kept hb21
      replace iS := iS.below hb21
      replace ES := ES.kept hb21
      replace iO := iO.below hb21
      replace EO := EO.kept hb21
      replace iT := iT.below hb21
      replace ET := ET.kept hb21
      replace iP := iP.below hb21
      replace EP := EP.kept hb21
      replace iQ := iQ.below hb21
      replace EQ := EQ.kept hb21
      replace iM := iM.below hb21
      replace EM := EM.kept hb21
      replace iX := iX.below hb21
      replace EX := EX.kept hb21
      replace iY := iY.below hb21
      replace EY := EY.kept hb21
      replace hv := hVs _ _ hb21 hv
      clear hb21
      obtain ⟨V22, hV22⟩ : ∃ V, V = w21.alloc (.cells #[.slice aZ 16 cZ] 25) := ⟨_, rfl⟩
      have bV : Below w21.heap.size w21 V22 := by rw [hV22]; exact (Below.refl _ _).alloc (Nat.le_refl _) _
      have z22 : V22.heap.size = w21.heap.size + 1 := by rw [hV22]; simp
      have EZ : Arr V22 w21.heap.size 25 [.slice aZ 16 cZ] := by rw [hV22]; exact Arr.new w21 [.slice aZ 16 cZ] _
      replace B := B.trans (bV.mono B.size)
      replace iA := iA.below bV
      replace iB := iB.below bV
      replace EA := EA.kept bV
      replace EB := EB.kept bV
      replace iS := iS.below bV
      replace ES := ES.kept bV
      replace iO := iO.below bV
      replace EO := EO.kept bV
      replace iT := iT.below bV
      replace ET := ET.kept bV
      replace iP := iP.below bV
      replace EP := EP.kept bV
      replace iQ := iQ.below bV
      replace EQ := EQ.kept bV
      replace iM := iM.below bV
      replace EM := EM.kept bV
      replace iX := iX.below bV
      replace EX := EX.kept bV
      replace iY := iY.below bV
      replace EY := EY.kept bV
      replace iZ := iZ.below bV
      replace hv := hVs _ _ bV hv
      clear bV
      clear iY
      clear EY
      clear iO
      clear EO
      have cEA := cell1 EA
      rw [hV22] at cEA
      go_wp2_with fail
      rw [← hV22]
      clear cEA hV22
      refine (cBt aA 16 cA lA _ iA hv).mono ?_
      rintro e w23 ⟨aC, cC, rfl, iC, hb23⟩
      have z23 := hb23.size
      replace B := B.trans (hb23.mono B.size)
      replace iA := iA.below hb23
      replace iB := iB.below hb23
      replace EA := EA.kept hb23
      replace EB := EB.kept hb23
      replace iS := iS.below hb23
      replace ES := ES.kept hb23
      replace iT := iT.below hb23
      replace ET := ET.kept hb23
      replace iP := iP.below hb23
      replace EP := EP.kept hb23
      replace iQ := iQ.below hb23
      replace EQ := EQ.kept hb23
      replace iM := iM.below hb23
      replace EM := EM.kept hb23
      replace iX := iX.below hb23
      replace EX := EX.kept hb23
      replace iZ := iZ.below hb23
      replace EZ := EZ.kept hb23
      replace hv := hVs _ _ hb23 hv
      clear hb23
      rw [HC.out.1, HC.out.2.1] at iC ⊢
      go_wp2_with fail
      refine (cRd.ok aC 32 cC C _ iC hv HC.out.2.2.1 HC.out.2.2.2.1 HC.out.2.2.2.2.2.2.2).mono ?_
      rintro e w24 ⟨aR, cR, rfl, iR, hb24⟩
      have z24 := hb24.size
      replace B := B.trans (hb24.mono B.size)
      replace iA := iA.below hb24
      replace iB := iB.below hb24
      replace EA := EA.kept hb24
      replace EB := EB.kept hb24
      replace iS := iS.below hb24
      replace ES := ES.kept hb24
      replace iT := iT.below hb24
      replace ET := ET.kept hb24
      replace iP := iP.below hb24
      replace EP := EP.kept hb24
      replace iQ := iQ.below hb24
      replace EQ := EQ.kept hb24
      replace iM := iM.below hb24
      replace EM := EM.kept hb24
      replace iX := iX.below hb24
      replace EX := EX.kept hb24
      replace iZ := iZ.below hb24
      replace EZ := EZ.kept hb24
      replace iC := iC.below hb24
      replace hv := hVs _ _ hb24 hv
      clear hb24
      obtain ⟨V25, hV25⟩ : ∃ V, V = w24.alloc (.cells #[.slice aR 16 cR] 25) := ⟨_, rfl⟩
      have bV : Below w24.heap.size w24 V25 := by rw [hV25]; exact (Below.refl _ _).alloc (Nat.le_refl _) _
      have z25 : V25.heap.size = w24.heap.size + 1 := by rw [hV25]; simp
      have ER : Arr V25 w24.heap.size 25 [.slice aR 16 cR] := by rw [hV25]; exact Arr.new w24 [.slice aR 16 cR] _
      replace B := B.trans (bV.mono B.size)
      replace iA := iA.below bV
      replace iB := iB.below bV
      replace EA := EA.kept bV
      replace EB := EB.kept bV
      replace iS := iS.below bV
      replace ES := ES.kept bV
      replace iT := iT.below bV
      replace ET := ET.kept bV
      replace iP := iP.below bV
      replace EP := EP.kept bV
      replace iQ := iQ.below bV
      replace EQ := EQ.kept bV
      replace iM := iM.below bV
      replace EM := EM.kept bV
      replace iX := iX.below bV
      replace EX := EX.kept bV
      replace iZ := iZ.below bV
      replace EZ := EZ.kept bV
      replace iC := iC.below bV
      replace iR := iR.below bV
      replace hv := hVs _ _ bV hv
      clear bV
      have oE : (V25.alloc (.cells #[] 5)).ownsRow V25.heap.size 5 1 (.slice (some ⟨V25.heap.size, 0, none⟩) 0 0) 0 (U8 []) := World.ownsRow_lit (base := V25.heap.size) (e := 5) (size := 1) V25 #[] 0 (Nat.le_refl _) (by unfold maxLen; omega) rfl
      have bE : Below V25.heap.size V25 (V25.alloc (.cells #[] 5)) := (Below.refl _ _).alloc (Nat.le_refl _) _
      have iE := iC.below bE
      rw [z25] at oE
      go_wp2_with (at_builtin; rw [← hV25]; refine wpl_append_bs rfl _ _ rfl _ _ 0 [] rfl aC 32 cC C rfl oE iE ?_ ?_ ?_)
      · omega
      · simp; omega
      intro vE wE h1 h2 _
      rw [← hV25] at h2
      clear oE iE
      obtain ⟨vF, wF, hrF, oF, gF⟩ := run_zeros wE _ vE 32 C 32 22 (by simpa using h1) (by omega) (by omega) (by have h3 := h2.size; simp at h3; omega)
      have bF : Below V25.heap.size V25 wF := bel_two h2 (Nat.le_of_eq z25) h1 (Nat.le_of_eq z25) gF
      obtain ⟨aF, cF, rfl, _, iF⟩ := Bs.own oF (by intro x hx; rcases List.mem_append.1 hx with h | h; exact HC.out.2.2.2.2.1 x h; have := (List.mem_replicate.1 h).2; omega)
      have zF := bF.size
      go_wp2_with (at_builtin; refine Lib.wpList_append_run _ rfl _ _ _ _ rfl _ _ rfl rfl _ _ hrF ?_)
      replace B := B.trans (bF.mono B.size)
      replace iA := iA.below bF
      replace iB := iB.below bF
      replace EA := EA.kept bF
      replace EB := EB.kept bF
      replace iS := iS.below bF
      replace ES := ES.kept bF
      replace iT := iT.below bF
      replace ET := ET.kept bF
      replace iP := iP.below bF
      replace EP := EP.kept bF
      replace iQ := iQ.below bF
      replace EQ := EQ.kept bF
      replace iM := iM.below bF
      replace EM := EM.kept bF
      replace iX := iX.below bF
      replace EX := EX.kept bF
      replace iZ := iZ.below bF
      replace EZ := EZ.kept bF
      replace iC := iC.below bF
      replace iR := iR.below bF
      replace ER := ER.kept bF
      replace hv := hVs _ _ bF hv
      clear hrF bF bE h1 h2 oF gF hV25
      refine (cWd.ok aF 64 cF (C ++ List.replicate 32 0) _ iF hv HC.out.2.2.2.2.2.1 HC.out.2.2.2.2.2.2.1 HC.out.2.2.2.2.2.2.2).mono ?_
      rintro e w26 ⟨aW, cW, rfl, iW, hb26⟩
      have z26 := hb26.size
      replace B := B.trans (hb26.mono B.size)
      replace iA := iA.below hb26
      replace iB := iB.below hb26
      replace EA := EA.kept hb26
      replace EB := EB.kept hb26
      replace iS := iS.below hb26
      replace ES := ES.kept hb26
      replace iT := iT.below hb26
      replace ET := ET.kept hb26
      replace iP := iP.below hb26
      replace EP := EP.kept hb26
      replace iQ := iQ.below hb26
      replace EQ := EQ.kept hb26
      replace iM := iM.below hb26
      replace EM := EM.kept hb26
      replace iX := iX.below hb26
      replace EX := EX.kept hb26
      replace iZ := iZ.below hb26
      replace EZ := EZ.kept hb26
      replace iC := iC.below hb26
      replace iR := iR.below hb26
      replace ER := ER.kept hb26
      replace iF := iF.below hb26
      replace hv := hVs _ _ hb26 hv
      clear hb26
      clear iF
      clear iC
      obtain ⟨V27, hV27⟩ : ∃ V, V = w26.alloc (.cells #[.slice aW 16 cW] 25) := ⟨_, rfl⟩
      have bV : Below w26.heap.size w26 V27 := by rw [hV27]; exact (Below.refl _ _).alloc (Nat.le_refl _) _
      have z27 : V27.heap.size = w26.heap.size + 1 := by rw [hV27]; simp
      have EW : Arr V27 w26.heap.size 25 [.slice aW 16 cW] := by rw [hV27]; exact Arr.new w26 [.slice aW 16 cW] _
      replace B := B.trans (bV.mono B.size)
      replace iA := iA.below bV
      replace iB := iB.below bV
      replace EA := EA.kept bV
      replace EB := EB.kept bV
      replace iS := iS.below bV
      replace ES := ES.kept bV
      replace iT := iT.below bV
      replace ET := ET.kept bV
      replace iP := iP.below bV
      replace EP := EP.kept bV
      replace iQ := iQ.below bV
      replace EQ := EQ.kept bV
      replace iM := iM.below bV
      replace EM := EM.kept bV
      replace iX := iX.below bV
      replace EX := EX.kept bV
      replace iZ := iZ.below bV
      replace EZ := EZ.kept bV
      replace iR := iR.below bV
      replace ER := ER.kept bV
      replace iW := iW.below bV
      replace hv := hVs _ _ bV hv
      clear bV
      have cES := cell1 ES
      rw [hV27] at cES
      go_wp2_with fail
      rw [← hV27]
      clear cES hV27
      refine (cOk aS 16 cS S _ iS hv).mono ?_
      rintro e w28 ⟨rfl, hb28⟩
      have z28 := hb28.size
      replace B := B.trans (hb28.mono B.size)
      replace iA := iA.below hb28
      replace iB := iB.below hb28
      replace EA := EA.kept hb28
      replace EB := EB.kept hb28
      replace iS := iS.below hb28
      replace ES := ES.kept hb28
      replace iT := iT.below hb28
      replace ET := ET.kept hb28
      replace iP := iP.below hb28
      replace EP := EP.kept hb28
      replace iQ := iQ.below hb28
      replace EQ := EQ.kept hb28
      replace iM := iM.below hb28
      replace EM := EM.kept hb28
      replace iX := iX.below hb28
      replace EX := EX.kept hb28
      replace iZ := iZ.below hb28
      replace EZ := EZ.kept hb28
      replace iR := iR.below hb28
      replace ER := ER.kept hb28
      replace iW := iW.below hb28
      replace EW := EW.kept hb28
      replace hv := hVs _ _ hb28 hv
      clear hb28
      rw [H.out.2.2.1]
      have cEP := cell1 EP
      go_wp2_with fail
      clear cEP
      refine (cOk aP 16 cP P _ iP hv).mono ?_
      rintro e w29 ⟨rfl, hb29⟩
      have z29 := hb29.size
      replace B := B.trans (hb29.mono B.size)
      replace iA := iA.below hb29
      replace iB := iB.below hb29
      replace EA := EA.kept hb29
      replace EB := EB.kept hb29
      replace iS := iS.below hb29
      replace ES := ES.kept hb29
      replace iT := iT.below hb29
      replace ET := ET.kept hb29
      replace iP := iP.below hb29
      replace EP := EP.kept hb29
      replace iQ := iQ.below hb29
      replace EQ := EQ.kept hb29
      replace iM := iM.below hb29
      replace EM := EM.kept hb29
      replace iX := iX.below hb29
      replace EX := EX.kept hb29
      replace iZ := iZ.below hb29
      replace EZ := EZ.kept hb29
      replace iR := iR.below hb29
      replace ER := ER.kept hb29
      replace iW := iW.below hb29
      replace EW := EW.kept hb29
      replace hv := hVs _ _ hb29 hv
      clear hb29
      rw [H.out.2.2.2.1]
      have cES := cell1 ES
      have cET := cell1 ET
      go_wp2_with fail
      clear cES cET
      refine (sameIntsT aS aT 16 cS cT S _ iS iT (by omega)).mono ?_
      rintro e w30 ⟨q30, rfl, hq30⟩
      have hb30 : Below w29.heap.size w29 w30 := by rw [hq30]; exact bel_drewN _ _
      have z30 := hb30.size
      replace B := B.trans (hb30.mono B.size)
      replace iA := iA.below hb30
      replace iB := iB.below hb30
      replace EA := EA.kept hb30
      replace EB := EB.kept hb30
      replace iS := iS.below hb30
      replace ES := ES.kept hb30
      replace iT := iT.below hb30
      replace ET := ET.kept hb30
      replace iP := iP.below hb30
      replace EP := EP.kept hb30
      replace iQ := iQ.below hb30
      replace EQ := EQ.kept hb30
      replace iM := iM.below hb30
      replace EM := EM.kept hb30
      replace iX := iX.below hb30
      replace EX := EX.kept hb30
      replace iZ := iZ.below hb30
      replace EZ := EZ.kept hb30
      replace iR := iR.below hb30
      replace ER := ER.kept hb30
      replace iW := iW.below hb30
      replace EW := EW.kept hb30
      replace hv := hVs _ _ hb30 hv
      clear hb30 hq30
      have cEP := cell1 EP
      have cEQ := cell1 EQ
      go_wp2_with fail
      clear cEP cEQ
      refine (sameIntsT aP aQ 16 cP cQ P _ iP iQ (by omega)).mono ?_
      rintro e w31 ⟨q31, rfl, hq31⟩
      have hb31 : Below w30.heap.size w30 w31 := by rw [hq31]; exact bel_drewN _ _
      have z31 := hb31.size
      replace B := B.trans (hb31.mono B.size)
      replace iA := iA.below hb31
      replace iB := iB.below hb31
      replace EA := EA.kept hb31
      replace EB := EB.kept hb31
      replace iS := iS.below hb31
      replace ES := ES.kept hb31
      replace iT := iT.below hb31
      replace ET := ET.kept hb31
      replace iP := iP.below hb31
      replace EP := EP.kept hb31
      replace iQ := iQ.below hb31
      replace EQ := EQ.kept hb31
      replace iM := iM.below hb31
      replace EM := EM.kept hb31
      replace iX := iX.below hb31
      replace EX := EX.kept hb31
      replace iZ := iZ.below hb31
      replace EZ := EZ.kept hb31
      replace iR := iR.below hb31
      replace ER := ER.kept hb31
      replace iW := iW.below hb31
      replace EW := EW.kept hb31
      replace hv := hVs _ _ hb31 hv
      clear hb31 hq31
      have cEM := cell1 EM
      have cEA := cell1 EA
      go_wp2_with fail
      clear cEM cEA
      refine (sameIntsT aM aA 16 cM cA lA _ iM iA (by omega)).mono ?_
      rintro e w32 ⟨q32, rfl, hq32⟩
      have hb32 : Below w31.heap.size w31 w32 := by rw [hq32]; exact bel_drewN _ _
      have z32 := hb32.size
      replace B := B.trans (hb32.mono B.size)
      replace iA := iA.below hb32
      replace iB := iB.below hb32
      replace EA := EA.kept hb32
      replace EB := EB.kept hb32
      replace iS := iS.below hb32
      replace ES := ES.kept hb32
      replace iT := iT.below hb32
      replace ET := ET.kept hb32
      replace iP := iP.below hb32
      replace EP := EP.kept hb32
      replace iQ := iQ.below hb32
      replace EQ := EQ.kept hb32
      replace iM := iM.below hb32
      replace EM := EM.kept hb32
      replace iX := iX.below hb32
      replace EX := EX.kept hb32
      replace iZ := iZ.below hb32
      replace EZ := EZ.kept hb32
      replace iR := iR.below hb32
      replace ER := ER.kept hb32
      replace iW := iW.below hb32
      replace EW := EW.kept hb32
      replace hv := hVs _ _ hb32 hv
      clear hb32 hq32
      have cEX := cell1 EX
      have cEZ := cell1 EZ
      go_wp2_with fail
      clear cEX cEZ
      refine (sameIntsT aX aZ 16 cX cZ X _ iX iZ (by omega)).mono ?_
      rintro e w33 ⟨q33, rfl, hq33⟩
      have hb33 : Below w32.heap.size w32 w33 := by rw [hq33]; exact bel_drewN _ _
      have z33 := hb33.size
      replace B := B.trans (hb33.mono B.size)
      replace iA := iA.below hb33
      replace iB := iB.below hb33
      replace EA := EA.kept hb33
      replace EB := EB.kept hb33
      replace iS := iS.below hb33
      replace ES := ES.kept hb33
      replace iT := iT.below hb33
      replace ET := ET.kept hb33
      replace iP := iP.below hb33
      replace EP := EP.kept hb33
      replace iQ := iQ.below hb33
      replace EQ := EQ.kept hb33
      replace iM := iM.below hb33
      replace EM := EM.kept hb33
      replace iX := iX.below hb33
      replace EX := EX.kept hb33
      replace iZ := iZ.below hb33
      replace EZ := EZ.kept hb33
      replace iR := iR.below hb33
      replace ER := ER.kept hb33
      replace iW := iW.below hb33
      replace EW := EW.kept hb33
      replace hv := hVs _ _ hb33 hv
      clear hb33 hq33
      have cER := cell1 ER
      have cEA := cell1 EA
      go_wp2_with fail
      clear cER cEA
      refine (sameIntsT aR aA 16 cR cA lA _ iR iA (by omega)).mono ?_
      rintro e w34 ⟨q34, rfl, hq34⟩
      have hb34 : Below w33.heap.size w33 w34 := by rw [hq34]; exact bel_drewN _ _
      have z34 := hb34.size
      replace B := B.trans (hb34.mono B.size)
      replace iA := iA.below hb34
      replace iB := iB.below hb34
      replace EA := EA.kept hb34
      replace EB := EB.kept hb34
      replace iS := iS.below hb34
      replace ES := ES.kept hb34
      replace iT := iT.below hb34
      replace ET := ET.kept hb34
      replace iP := iP.below hb34
      replace EP := EP.kept hb34
      replace iQ := iQ.below hb34
      replace EQ := EQ.kept hb34
      replace iM := iM.below hb34
      replace EM := EM.kept hb34
      replace iX := iX.below hb34
      replace EX := EX.kept hb34
      replace iZ := iZ.below hb34
      replace EZ := EZ.kept hb34
      replace iR := iR.below hb34
      replace ER := ER.kept hb34
      replace iW := iW.below hb34
      replace EW := EW.kept hb34
      replace hv := hVs _ _ hb34 hv
      clear hb34 hq34
      have cEW := cell1 EW
      have cEA := cell1 EA
      go_wp2_with fail
      clear cEW cEA
      refine (sameIntsT aW aA 16 cW cA lA _ iW iA (by omega)).mono ?_
      rintro e w35 ⟨q35, rfl, hq35⟩
      have hb35 : Below w34.heap.size w34 w35 := by rw [hq35]; exact bel_drewN _ _
      have z35 := hb35.size
      replace B := B.trans (hb35.mono B.size)
      replace iA := iA.below hb35
      replace iB := iB.below hb35
      replace EA := EA.kept hb35
      replace EB := EB.kept hb35
      replace iS := iS.below hb35
      replace ES := ES.kept hb35
      replace iT := iT.below hb35
      replace ET := ET.kept hb35
      replace iP := iP.below hb35
      replace EP := EP.kept hb35
      replace iQ := iQ.below hb35
      replace EQ := EQ.kept hb35
      replace iM := iM.below hb35
      replace EM := EM.kept hb35
      replace iX := iX.below hb35
      replace EX := EX.kept hb35
      replace iZ := iZ.below hb35
      replace EZ := EZ.kept hb35
      replace iR := iR.below hb35
      replace ER := ER.kept hb35
      replace iW := iW.below hb35
      replace EW := EW.kept hb35
      replace hv := hVs _ _ hb35 hv
      clear hb35 hq35
      go_wp2
      go_ret
      exact ⟨rfl, B⟩
end Go.Proofs.YtlafcjoccbinaaaDoor
