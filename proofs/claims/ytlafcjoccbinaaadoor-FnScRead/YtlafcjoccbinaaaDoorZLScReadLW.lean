/-
  What is proved here: the law of read multipliers returns true at every code; where the program's six functions keep their contracts.
-/
import Derived.Test.YtlafcjoccbinaaaDoorZKt
import Derived.Test.YtlafcjoccbinaaaDoorZKq
import Derived.Test.YtlafcjoccbinaaaDoorZC
import Derived.Test.YtlafcjoccbinaaaDoorZXa
namespace Go.Proofs.YtlafcjoccbinaaaDoor
open Go.RowKit
set_option maxRecDepth 100000

set_option maxHeartbeats 8000000 in
theorem walk_fnScRead (Vs : World → Prop) (hVs : ∀ Z Z' : World, Below Z.heap.size Z Z' → Vs Z → Vs Z') (cRd : CRd Vs 13 rdOkO rdFO) (cWd : CRd Vs 17 wdOk wdF) (cOk : COk Vs 18) (cBt : CBt Vs 16) (w : World) (ab : Option Addr) (nb cb : Nat) (bs : List Int) (hB : Bs w ab nb cb bs) (hre : nb ≤ 140737488351232) (hv : Vs w) :
    Calls Tryd.prog 4 #[.slice ab nb cb] w fun e w' => e = .returned (.bool true) ∧ Below w.heap.size w w' := by
  have B : Below w.heap.size w w := Below.refl _ _
  have HOB : Hid (rdOkO oneB = true ∧ rdFO oneB = redO 1 ∧ (redO 1).length = 16) := ⟨oneB_rd.1, oneB_rd.2, redO_len 1⟩
  obtain ⟨OB, hOB⟩ : ∃ l, l = oneB := ⟨_, rfl⟩
  obtain ⟨O, hO⟩ : ∃ l, l = redO 1 := ⟨_, rfl⟩
  have HMK : Hid (∀ (w : World) (ty : TypeId), ∃ v w', (Builtin.append_ #[22, 3] ty #[.slice (some ⟨w.heap.size, 0, none⟩) 1 1, .int .i64 31]).run Tryd.prog (w.alloc (.cells #[.int .u8 1] 5)) = .ok v w' ∧ (∃ a c, v = .slice a 32 c ∧ Bs w' a 32 c OB) ∧ Below w.heap.size w w') := by unfold Hid; rw [hOB]; exact mk_one
  rw [← hOB, ← hO] at HOB
  have HO1 : Hid (val O = 1) := by unfold Hid; rw [hO]; exact oneB_val
  have HO2 : Hid (scOk O = true) := by unfold Hid; rw [hO]; exact redO_ok 1
  clear hOB hO
  go_enter Tryd.func4, Tryd.ntmps4
  go_wp2_with fail
  refine (drawScRead ab nb cb bs _ (hB.below B) (by omega)).mono ?_
  rintro e w1 ⟨aA, nA, cA, lA, rfl, iA, nmA, _, hb1⟩
  have z1 := hb1.size
  replace B := B.trans (hb1.mono B.size)
  replace hv := hVs _ _ hb1 hv
  clear hb1
  have HAB : Hid _ := iA.2.2.2.1
  go_wp2_with fail
  refine (cRd aA nA cA lA _ iA hv).mono ?_
  rintro e w2 ⟨v, rfl, ⟨aX, cX, rfl, iX⟩, hb2⟩
  have z2 := hb2.size
  replace B := B.trans (hb2.mono B.size)
  replace iA := iA.below hb2
  replace hv := hVs _ _ hb2 hv
  clear hb2
  obtain ⟨nX, hnX⟩ : ∃ n, n = (rdFO lA).length := ⟨_, rfl⟩
  obtain ⟨oX, hoX⟩ : ∃ o, o = rdOkO lA := ⟨_, rfl⟩
  rw [← hnX] at iX ⊢
  rw [← hoX]
  have HNX : Hid _ := hnX
  have HOX : Hid _ := hoX
  clear hnX hoX
  obtain ⟨V3, hV3⟩ : ∃ V, V = w2.alloc (.cells #[.slice aX nX cX] 25) := ⟨_, rfl⟩
  have bV : Below w2.heap.size w2 V3 := by rw [hV3]; exact (Below.refl _ _).alloc (Nat.le_refl _) _
  have z3 : V3.heap.size = w2.heap.size + 1 := by rw [hV3]; simp
  have EX : Arr V3 w2.heap.size 25 [.slice aX nX cX] := by rw [hV3]; exact Arr.new w2 [.slice aX nX cX] _
  replace B := B.trans (bV.mono B.size)
  replace iA := iA.below bV
  replace iX := iX.below bV
  replace hv := hVs _ _ bV hv
  clear bV
  cases oX with
  | false =>
    clear iX
    clear EX
    clear iA
    go_wp2_with fail
    rw [← hV3]
    clear hV3
    refine (drawScWide ab nb cb bs _ (hB.below B) (by omega)).mono ?_
    rintro e w4 ⟨aB, nB, cB, lB, rfl, iB, nmB, _, hb4⟩
    have z4 := hb4.size
    replace B := B.trans (hb4.mono B.size)
    replace hv := hVs _ _ hb4 hv
    clear hb4
    have hlB := iB.2.1
    go_wp2_with fail
    refine (cWd aB nB cB lB _ iB hv).mono ?_
    rintro e w5 ⟨v, rfl, ⟨aY, cY, rfl, iY⟩, hb5⟩
    have z5 := hb5.size
    replace B := B.trans (hb5.mono B.size)
    replace iB := iB.below hb5
    replace hv := hVs _ _ hb5 hv
    clear hb5
    obtain ⟨nY, hnY⟩ : ∃ n, n = (wdF lB).length := ⟨_, rfl⟩
    obtain ⟨oY, hoY⟩ : ∃ o, o = wdOk lB := ⟨_, rfl⟩
    rw [← hnY] at iY ⊢
    rw [← hoY]
    have HNY : Hid _ := hnY
    have HOY : Hid _ := hoY
    clear hnY hoY
    obtain ⟨V6, hV6⟩ : ∃ V, V = w5.alloc (.cells #[.slice aY nY cY] 25) := ⟨_, rfl⟩
    have bV : Below w5.heap.size w5 V6 := by rw [hV6]; exact (Below.refl _ _).alloc (Nat.le_refl _) _
    have z6 : V6.heap.size = w5.heap.size + 1 := by rw [hV6]; simp
    have EY : Arr V6 w5.heap.size 25 [.slice aY nY cY] := by rw [hV6]; exact Arr.new w5 [.slice aY nY cY] _
    replace B := B.trans (bV.mono B.size)
    replace iB := iB.below bV
    replace iY := iY.below bV
    replace hv := hVs _ _ bV hv
    clear bV
    obtain ⟨vO, wO, hrO, ⟨aU, cU, rfl, iU⟩, bO⟩ := HMK.out V6 22
    have zO := bO.size
    rw [z6] at hrO
    go_wp2_with (at_builtin; rw [← hV6]; refine Lib.wpList_append_run _ rfl _ _ _ _ rfl _ _ rfl rfl _ _ hrO ?_)
    clear hV6
    replace B := B.trans (bO.mono B.size)
    replace iB := iB.below bO
    replace iY := iY.below bO
    replace EY := EY.kept bO
    replace hv := hVs _ _ bO hv
    clear hrO bO
    refine (cRd.ok aU 32 cU OB _ iU hv HOB.out.1 HOB.out.2.1 HOB.out.2.2).mono ?_
    rintro e w7 ⟨aO, cO, rfl, iO, hb7⟩
    have z7 := hb7.size
    replace B := B.trans (hb7.mono B.size)
    replace iB := iB.below hb7
    replace iY := iY.below hb7
    replace EY := EY.kept hb7
    replace iU := iU.below hb7
    replace hv := hVs _ _ hb7 hv
    clear hb7
    clear iU
    obtain ⟨V8, hV8⟩ : ∃ V, V = w7.alloc (.cells #[.slice aO 16 cO] 25) := ⟨_, rfl⟩
    have bV : Below w7.heap.size w7 V8 := by rw [hV8]; exact (Below.refl _ _).alloc (Nat.le_refl _) _
    have z8 : V8.heap.size = w7.heap.size + 1 := by rw [hV8]; simp
    have EO : Arr V8 w7.heap.size 25 [.slice aO 16 cO] := by rw [hV8]; exact Arr.new w7 [.slice aO 16 cO] _
    replace B := B.trans (bV.mono B.size)
    replace iB := iB.below bV
    replace iY := iY.below bV
    replace EY := EY.kept bV
    replace iO := iO.below bV
    replace hv := hVs _ _ bV hv
    clear bV
    cases oY with
    | false =>
      have hb64 : ¬ ((nB : Int) = 64) := by have h := HOY.out; unfold wdOk at h; have := of_decide_eq_false h.symm; omega
      have hb65 : ((nB : Int) == 64) = false := by simpa using hb64
      have cEO := cell1 EO
      rw [hV8] at cEO
      go_wp2
      rw [← hV8]
      clear cEO hV8
      go_ret
      exact ⟨rfl, B⟩
    | true =>
      have hb64 : nB = 64 := by have h := HOY.out; unfold wdOk at h; have := of_decide_eq_true h.symm; omega
      subst hb64
      have kY : Hid (scOk (wdF lB) = true) := wdF_ok HOY.out.symm
      have cEO := cell1 EO
      rw [hV8] at cEO
      have cEY := cell1 EY
      rw [hV8] at cEY
      go_wp2_with fail
      rw [← hV8]
      clear cEO cEY hV8
      refine (cOk aY nY cY (wdF lB) _ iY hv).mono ?_
      rintro e w9 ⟨rfl, hb9⟩
      have z9 := hb9.size
      replace B := B.trans (hb9.mono B.size)
      replace iB := iB.below hb9
      replace iY := iY.below hb9
      replace EY := EY.kept hb9
      replace iO := iO.below hb9
      replace EO := EO.kept hb9
      replace hv := hVs _ _ hb9 hv
      clear hb9
      rw [kY.out]
      go_wp2
      go_ret
      exact ⟨rfl, B⟩
  | true =>
    have hX := rdO_ok HOX.out.symm HAB.out
    have hX16 : nX = 16 := HNX.out.trans hX.2.2
    subst hX16
    have cEX := cell1 EX
    rw [hV3] at cEX
    go_wp2_with fail
    rw [← hV3]
    clear cEX hV3
    refine (cBt aX 16 cX (rdFO lA) _ iX hv).mono ?_
    rintro e w10 ⟨aC, cC, rfl, iC, hb10⟩
    have z10 := hb10.size
    replace B := B.trans (hb10.mono B.size)
    replace iA := iA.below hb10
    replace iX := iX.below hb10
    replace EX := EX.kept hb10
    replace hv := hVs _ _ hb10 hv
    clear hb10
    rw [hX.2.1] at iC ⊢
    have hCl : lA.length = nA := iA.2.1
    rw [hCl] at iC ⊢
    clear hCl hX
    go_wp2_with fail
    refine (sameT aC aA nA cC nA cA lA lA _ iC iA rfl).mono ?_
    rintro e w11 ⟨rfl, rfl⟩
    clear iC
    clear iX
    clear EX
    clear iA
    go_wp2_with fail
    refine (drawScWide ab nb cb bs _ (hB.below B) (by omega)).mono ?_
    rintro e w12 ⟨aB, nB, cB, lB, rfl, iB, nmB, _, hb12⟩
    have z12 := hb12.size
    replace B := B.trans (hb12.mono B.size)
    replace hv := hVs _ _ hb12 hv
    clear hb12
    have hlB := iB.2.1
    go_wp2_with fail
    refine (cWd aB nB cB lB _ iB hv).mono ?_
    rintro e w13 ⟨v, rfl, ⟨aY, cY, rfl, iY⟩, hb13⟩
    have z13 := hb13.size
    replace B := B.trans (hb13.mono B.size)
    replace iB := iB.below hb13
    replace hv := hVs _ _ hb13 hv
    clear hb13
    obtain ⟨nY, hnY⟩ : ∃ n, n = (wdF lB).length := ⟨_, rfl⟩
    obtain ⟨oY, hoY⟩ : ∃ o, o = wdOk lB := ⟨_, rfl⟩
    rw [← hnY] at iY ⊢
    rw [← hoY]
    have HNY : Hid _ := hnY
    have HOY : Hid _ := hoY
    clear hnY hoY
    obtain ⟨V14, hV14⟩ : ∃ V, V = w13.alloc (.cells #[.slice aY nY cY] 25) := ⟨_, rfl⟩
    have bV : Below w13.heap.size w13 V14 := by rw [hV14]; exact (Below.refl _ _).alloc (Nat.le_refl _) _
    have z14 : V14.heap.size = w13.heap.size + 1 := by rw [hV14]; simp
    have EY : Arr V14 w13.heap.size 25 [.slice aY nY cY] := by rw [hV14]; exact Arr.new w13 [.slice aY nY cY] _
    replace B := B.trans (bV.mono B.size)
    replace iB := iB.below bV
    replace iY := iY.below bV
    replace hv := hVs _ _ bV hv
    clear bV
    obtain ⟨vO, wO, hrO, ⟨aU, cU, rfl, iU⟩, bO⟩ := HMK.out V14 22
    have zO := bO.size
    rw [z14] at hrO
    go_wp2_with (at_builtin; rw [← hV14]; refine Lib.wpList_append_run _ rfl _ _ _ _ rfl _ _ rfl rfl _ _ hrO ?_)
    clear hV14
    replace B := B.trans (bO.mono B.size)
    replace iB := iB.below bO
    replace iY := iY.below bO
    replace EY := EY.kept bO
    replace hv := hVs _ _ bO hv
    clear hrO bO
    refine (cRd.ok aU 32 cU OB _ iU hv HOB.out.1 HOB.out.2.1 HOB.out.2.2).mono ?_
    rintro e w15 ⟨aO, cO, rfl, iO, hb15⟩
    have z15 := hb15.size
    replace B := B.trans (hb15.mono B.size)
    replace iB := iB.below hb15
    replace iY := iY.below hb15
    replace EY := EY.kept hb15
    replace iU := iU.below hb15
    replace hv := hVs _ _ hb15 hv
    clear hb15
    clear iU
    obtain ⟨V16, hV16⟩ : ∃ V, V = w15.alloc (.cells #[.slice aO 16 cO] 25) := ⟨_, rfl⟩
    have bV : Below w15.heap.size w15 V16 := by rw [hV16]; exact (Below.refl _ _).alloc (Nat.le_refl _) _
    have z16 : V16.heap.size = w15.heap.size + 1 := by rw [hV16]; simp
    have EO : Arr V16 w15.heap.size 25 [.slice aO 16 cO] := by rw [hV16]; exact Arr.new w15 [.slice aO 16 cO] _
    replace B := B.trans (bV.mono B.size)
    replace iB := iB.below bV
    replace iY := iY.below bV
    replace EY := EY.kept bV
    replace iO := iO.below bV
    replace hv := hVs _ _ bV hv
    clear bV
    cases oY with
    | false =>
      have hb64 : ¬ ((nB : Int) = 64) := by have h := HOY.out; unfold wdOk at h; have := of_decide_eq_false h.symm; omega
      have hb65 : ((nB : Int) == 64) = false := by simpa using hb64
      have cEO := cell1 EO
      rw [hV16] at cEO
      go_wp2
      rw [← hV16]
      clear cEO hV16
      go_ret
      exact ⟨rfl, B⟩
    | true =>
      have hb64 : nB = 64 := by have h := HOY.out; unfold wdOk at h; have := of_decide_eq_true h.symm; omega
      subst hb64
      have kY : Hid (scOk (wdF lB) = true) := wdF_ok HOY.out.symm
      have cEO := cell1 EO
      rw [hV16] at cEO
      have cEY := cell1 EY
      rw [hV16] at cEY
      go_wp2_with fail
      rw [← hV16]
      clear cEO cEY hV16
      refine (cOk aY nY cY (wdF lB) _ iY hv).mono ?_
      rintro e w17 ⟨rfl, hb17⟩
      have z17 := hb17.size
      replace B := B.trans (hb17.mono B.size)
      replace iB := iB.below hb17
      replace iY := iY.below hb17
      replace EY := EY.kept hb17
      replace iO := iO.below hb17
      replace EO := EO.kept hb17
      replace hv := hVs _ _ hb17 hv
      clear hb17
      rw [kY.out]
      go_wp2
      go_ret
      exact ⟨rfl, B⟩
end Go.Proofs.YtlafcjoccbinaaaDoor
