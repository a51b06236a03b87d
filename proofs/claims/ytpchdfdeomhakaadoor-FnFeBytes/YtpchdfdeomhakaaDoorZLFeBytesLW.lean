/-
  What is proved here: the law of the field's bytes returns true at every code; where the program's variable holds the prime.
-/
import Derived.Test.YtpchdfdeomhakaaDoorZXe
import Derived.Test.YtpchdfdeomhakaaDoorZR
import Derived.Test.YtpchdfdeomhakaaDoorZC
namespace Go.Proofs.YtpchdfdeomhakaaDoor
open Go.RowKit
set_option maxRecDepth 100000

set_option maxHeartbeats 8000000 in
theorem walk_fnFeBytes (w : World) (ab : Option Addr) (nb cb : Nat) (bs : List Int) (hB : Bs w ab nb cb bs) (hre : nb ≤ 140737488351232) (hV : Vr w 0 (I64 PL)) :
    Calls Tryd.prog 5 #[.slice ab nb cb] w fun e w' => e = .returned (.bool true) ∧ Below w.heap.size w w' := by
  have B : Below w.heap.size w w := Below.refl _ _
  have h0w := hV.lt
  have HFD : Hid (∀ Z, Vr Z 0 (I64 PL) → Calls Tryd.prog 18 #[] Z fun e w' => e = .returned (.bool true) ∧ Below Z.heap.size Z w') := by unfold Hid; intro Z hZ; exact fieldT Z hZ
  go_enter Tryd.func5, Tryd.ntmps5
  go_wp2_with fail
  refine (drawFeBytes ab nb cb bs _ (hB.below B) (by omega)).mono ?_
  rintro e w1 ⟨vA, lA, rfl, ⟨aA, nA, cA, rfl, iA, _, nmA⟩, hb1⟩
  have z1 := hb1.size
  replace B := B.trans (hb1.mono B.size)
  replace hV := hV.kept hb1
  clear hb1
  obtain ⟨V2, hV2⟩ : ∃ V, V = w1.alloc (.cells #[.slice aA nA cA] 25) := ⟨_, rfl⟩
  have bV : Below w1.heap.size w1 V2 := by rw [hV2]; exact (Below.refl _ _).alloc (Nat.le_refl _) _
  have z2 : V2.heap.size = w1.heap.size + 1 := by rw [hV2]; simp
  have EA : Arr V2 w1.heap.size 25 [.slice aA nA cA] := by rw [hV2]; exact Arr.new w1 [.slice aA nA cA] _
  replace B := B.trans (bV.mono B.size)
  replace hV := hV.kept bV
  replace iA := iA.below bV
  clear bV
  have cEA := cell1 EA
  rw [hV2] at cEA
  go_wp2_with fail
  rw [← hV2]
  clear cEA hV2
  refine (implFeBytes aA nA cA lA _ iA hV).mono ?_
  rintro e w3 ⟨v, rfl, oy, hb3⟩
  have z3 := hb3.size
  replace B := B.trans (hb3.mono B.size)
  replace hV := hV.kept hb3
  replace iA := iA.below hb3
  replace EA := EA.kept hb3
  clear hb3
  obtain ⟨aY, cY, rfl, _, iY⟩ := Bs.own oy (btF_byte _)
  clear oy
  obtain ⟨p, hp⟩ : ∃ p, p = feOk lA := ⟨_, rfl⟩
  have HP : Hid _ := hp
  clear hp
  obtain ⟨nY, hnY⟩ : ∃ n, n = (btF lA).length := ⟨_, rfl⟩
  rw [← hnY] at iY ⊢
  have HN : Hid _ := hnY
  clear hnY
  cases p with
  | false =>
    rw [bt_no HP.out.symm] at iY HN
    have hnY : nY = 0 := HN.out
    subst hnY
    clear HN
    have cEA := cell1 EA
    go_wp2
    clear cEA
    have bD : Below w3.heap.size w3 w3.drew := (Below.refl _ _).drew
    replace B := B.trans (bD.mono B.size)
    replace hV := hV.kept bD
    replace iA := iA.below bD
    replace EA := EA.kept bD
    replace iY := iY.below bD
    clear bD
    have huE : Tryd.prog.underlying 25 = some _ := Tryd.underlying25
    refine wp_region_held_drew (S := fun W => W.rangeAt (w1.heap.size) 0 [.slice aA nA cA]) (by kernel_rfl) (range1 EA) (fun hHeld => ?_)
    obtain ⟨wD, hD⟩ : ∃ V, V = w3.drew := ⟨_, rfl⟩
    rw [← hD] at hHeld B hV iA EA iY ⊢
    clear hD
    refine wpAnyH_take (i := 0) (oi := { dst := some 14, op := Op.load 25 (Operand.tmp 3), type := 25, pos := "laws.go:234", after := #[], guard := none }) (v := _) rfl (by kernel_rfl) (by kernel_rfl) (by kernel_rfl) (fun _ _ _ h => h) (yieldsIf_load_mid (by rfl) _ _ rfl _ _ rfl ([.slice aA nA cA]) _ (fun _ h => h) huE rfl infoFe) (by assumption) ?_
    simp only [Act.put, List.setIfInBounds_toArray, List.set_cons_zero, List.set_cons_succ]
    refine wpAnyH_take (i := 2) (oi := { dst := some 16, op := Op.move (Operand.tmp 4), type := 22, pos := "laws.go:234", after := #[], guard := none }) (v := .slice aY 0 cY) rfl (by kernel_rfl) (by kernel_rfl) (by kernel_rfl) (fun _ _ _ h => h) (.inl ⟨by rfl, fun _ _ => by first | rfl | simp [go_sem]⟩) (by assumption) ?_
    simp only [Act.put, List.setIfInBounds_toArray, List.set_cons_zero, List.set_cons_succ]
    refine wpAnyH_take (i := 3) (oi := { dst := some 17, op := Op.call { callee := Callee.builtin Builtin.len, args := #[Operand.tmp 16], argTypes := #[22] }, type := 3, pos := "laws.go:234", after := #[{ on := 2, ground := Ground.data }], guard := none }) (v := .int .i64 0) rfl (by kernel_rfl) (by kernel_rfl) (by kernel_rfl) (fun _ _ _ h => h) (.inl ⟨by rfl, fun _ _ => by first | rfl | simp [go_sem]⟩) (by assumption) ?_
    simp only [Act.put, List.setIfInBounds_toArray, List.set_cons_zero, List.set_cons_succ]
    refine wpAnyH_take (i := 4) (oi := { dst := some 18, op := Op.binOp BinOp.eql 3 (Operand.tmp 17) (Operand.const (Value.int IntKind.i64 32)) 3, type := 4, pos := "laws.go:234", after := #[{ on := 3, ground := Ground.data }], guard := none }) (v := .bool false) rfl (by kernel_rfl) (by kernel_rfl) (by kernel_rfl) (fun _ _ _ h => h) (.inl ⟨by rfl, fun _ _ => by first | rfl | simp [go_sem]⟩) (by assumption) ?_
    simp only [Act.put, List.setIfInBounds_toArray, List.set_cons_zero, List.set_cons_succ]
    refine wpAnyH_ready (rs := [1]) (by kernel_rfl) (by simp) (AllReadyH.cons (o := { dst := some 15, op := Op.call { callee := Callee.value (Operand.func 17), args := #[Operand.tmp 14], argTypes := #[25] }, type := 4, pos := "laws.go:234", after := #[{ on := 0, ground := Ground.data }], guard := none }) rfl (fun K hK => ?_) AllReadyH.nil)
    go_simp
    refine (specFeOk aA nA cA lA _ iA).mono ?_
    rintro e w4 ⟨rfl, hb4⟩
    have z4 := hb4.size
    replace B := B.trans (hb4.mono B.size)
    replace hV := hV.kept hb4
    replace iA := iA.below hb4
    replace EA := EA.kept hb4
    replace iY := iY.below hb4
    clear hb4
    rw [← HP.out]
    go_wp2_with fail
    refine hK.out _ _ (range1 EA) (fun hHeld => ?_)
    clear hK K
    refine wpAnyH_take (i := 5) (oi := { dst := some 19, op := Op.binOp BinOp.neq 4 (Operand.tmp 15) (Operand.tmp 18) 4, type := 4, pos := "laws.go:234", after := #[{ on := 1, ground := Ground.data }, { on := 4, ground := Ground.data }], guard := none }) (v := .bool false) rfl (by kernel_rfl) (by kernel_rfl) (by kernel_rfl) (fun _ _ _ h => h) (.inl ⟨by rfl, fun _ _ => by first | rfl | simp [go_sem]⟩) (by assumption) ?_
    simp only [Act.put, List.setIfInBounds_toArray, List.set_cons_zero, List.set_cons_succ]
    refine wpAnyH_take (i := 6) (oi := { dst := some 20, op := Op.move (Operand.tmp 19), type := 4, pos := "laws.go:234", after := #[{ on := 5, ground := Ground.data }, { on := 1, ground := Ground.chain }], guard := none }) (v := .bool false) rfl (by kernel_rfl) (by kernel_rfl) (by kernel_rfl) (fun _ _ _ h => h) (.inl ⟨by rfl, fun _ _ => by first | rfl | simp [go_sem]⟩) (by assumption) ?_
    simp only [Act.put, List.setIfInBounds_toArray, List.set_cons_zero, List.set_cons_succ]
    refine wpAnyH_take (i := 7) (oi := { dst := some 21, op := Op.load 25 (Operand.tmp 3), type := 25, pos := "laws.go:234", after := #[{ on := 6, ground := Ground.guard }], guard := some (6, false) }) (v := _) rfl (by kernel_rfl) (by kernel_rfl) (by kernel_rfl) (fun _ _ _ h => h) (yieldsIf_load_mid (by rfl) _ _ rfl _ _ rfl ([.slice aA nA cA]) _ (fun _ h => h) huE rfl infoFe) (by assumption) ?_
    simp only [Act.put, List.setIfInBounds_toArray, List.set_cons_zero, List.set_cons_succ]
    refine wpAnyH_take (i := 9) (oi := { dst := some 23, op := Op.load 25 (Operand.tmp 3), type := 25, pos := "laws.go:234", after := #[{ on := 6, ground := Ground.guard }], guard := some (6, false) }) (v := _) rfl (by kernel_rfl) (by kernel_rfl) (by kernel_rfl) (fun _ _ _ h => h) (yieldsIf_load_mid (by rfl) _ _ rfl _ _ rfl ([.slice aA nA cA]) _ (fun _ h => h) huE rfl infoFe) (by assumption) ?_
    simp only [Act.put, List.setIfInBounds_toArray, List.set_cons_zero, List.set_cons_succ]
    refine wpAnyH_ready (rs := [8]) (by kernel_rfl) (by simp) (AllReadyH.cons (o := { dst := some 22, op := Op.call { callee := Callee.value (Operand.func 21), args := #[Operand.tmp 21], argTypes := #[25] }, type := 4, pos := "laws.go:234", after := #[{ on := 7, ground := Ground.data }, { on := 6, ground := Ground.chain }, { on := 6, ground := Ground.guard }], guard := some (6, false) }) rfl (fun K hK => ?_) AllReadyH.nil)
    go_simp
    refine (implFeOk aA nA cA lA _ iA hV).mono ?_
    rintro e w5 ⟨rfl, hb5⟩
    have z5 := hb5.size
    replace B := B.trans (hb5.mono B.size)
    replace hV := hV.kept hb5
    replace iA := iA.below hb5
    replace EA := EA.kept hb5
    replace iY := iY.below hb5
    clear hb5
    rw [← HP.out]
    go_wp2_with fail
    refine hK.out _ _ (range1 EA) (fun hHeld => ?_)
    clear hK K
    refine wpAnyH_ready (rs := [10]) (by kernel_rfl) (by simp) (AllReadyH.cons (o := { dst := some 24, op := Op.call { callee := Callee.value (Operand.func 17), args := #[Operand.tmp 23], argTypes := #[25] }, type := 4, pos := "laws.go:234", after := #[{ on := 9, ground := Ground.data }, { on := 8, ground := Ground.chain }, { on := 6, ground := Ground.guard }], guard := some (6, false) }) rfl (fun K hK => ?_) AllReadyH.nil)
    go_simp
    refine (specFeOk aA nA cA lA _ iA).mono ?_
    rintro e w6 ⟨rfl, hb6⟩
    have z6 := hb6.size
    replace B := B.trans (hb6.mono B.size)
    replace hV := hV.kept hb6
    replace iA := iA.below hb6
    replace EA := EA.kept hb6
    replace iY := iY.below hb6
    clear hb6
    rw [← HP.out]
    go_wp2_with fail
    refine hK.out _ _ (range1 EA) (fun hHeld => ?_)
    clear hK K
    refine wpAnyH_take (i := 11) (oi := { dst := some 25, op := Op.binOp BinOp.neq 4 (Operand.tmp 22) (Operand.tmp 24) 4, type := 4, pos := "laws.go:234", after := #[{ on := 8, ground := Ground.data }, { on := 10, ground := Ground.data }, { on := 6, ground := Ground.guard }], guard := some (6, false) }) (v := .bool false) rfl (by kernel_rfl) (by kernel_rfl) (by kernel_rfl) (fun _ _ _ h => h) (.inl ⟨by rfl, fun _ _ => by first | rfl | simp [go_sem]⟩) (by assumption) ?_
    simp only [Act.put, List.setIfInBounds_toArray, List.set_cons_zero, List.set_cons_succ]
    refine wpAnyH_take (i := 12) (oi := { dst := some 26, op := Op.pick (Operand.tmp 20) (Operand.const (Value.bool true)) (Operand.tmp 25), type := 4, pos := "laws.go:234", after := #[{ on := 6, ground := Ground.data }, { on := 11, ground := Ground.data }], guard := none }) (v := .bool false) rfl (by kernel_rfl) (by kernel_rfl) (by kernel_rfl) (fun _ _ _ h => h) (.inl ⟨by rfl, fun _ _ => by first | rfl | simp [go_sem]⟩) (by assumption) ?_
    simp only [Act.put, List.setIfInBounds_toArray, List.set_cons_zero, List.set_cons_succ]
    clear huE
    refine wpAnyH_done (by kernel_rfl) ?_ _
    clear hHeld
    go_wp2_with fail
    refine (drawFeRead ab nb cb bs _ (hB.below B) (by omega)).mono ?_
    rintro e w7 ⟨aZ, nZ, cZ, lZ, rfl, iZ, nmZ, _, hb7⟩
    have z7 := hb7.size
    replace B := B.trans (hb7.mono B.size)
    replace hV := hV.kept hb7
    replace iA := iA.below hb7
    replace EA := EA.kept hb7
    replace iY := iY.below hb7
    clear hb7
    have HZB : Hid _ := iZ.2.2.2.1
    go_wp2_with fail
    refine (implFeRead aZ nZ cZ lZ _ iZ hV).mono ?_
    rintro e w8 ⟨v, rfl, fR, hb8⟩
    have z8 := hb8.size
    replace B := B.trans (hb8.mono B.size)
    replace hV := hV.kept hb8
    replace iA := iA.below hb8
    replace EA := EA.kept hb8
    replace iY := iY.below hb8
    replace iZ := iZ.below hb8
    clear hb8
    obtain ⟨aR, cR, rfl, iR⟩ := feR_of fR (rdF_int HZB.out)
    clear fR
    obtain ⟨nR, hnR⟩ : ∃ n, n = (rdF lZ).length := ⟨_, rfl⟩
    obtain ⟨oR, hoR⟩ : ∃ o, o = rdOk lZ := ⟨_, rfl⟩
    rw [← hnR] at iR ⊢
    rw [← hoR]
    have HNR : Hid _ := hnR
    have HOR : Hid _ := hoR
    clear hnR hoR
    obtain ⟨V9, hV9⟩ : ∃ V, V = w8.alloc (.cells #[.slice aR nR cR] 25) := ⟨_, rfl⟩
    have bV : Below w8.heap.size w8 V9 := by rw [hV9]; exact (Below.refl _ _).alloc (Nat.le_refl _) _
    have z9 : V9.heap.size = w8.heap.size + 1 := by rw [hV9]; simp
    have ER : Arr V9 w8.heap.size 25 [.slice aR nR cR] := by rw [hV9]; exact Arr.new w8 [.slice aR nR cR] _
    replace B := B.trans (bV.mono B.size)
    replace hV := hV.kept bV
    replace iA := iA.below bV
    replace EA := EA.kept bV
    replace iY := iY.below bV
    replace iZ := iZ.below bV
    replace iR := iR.below bV
    clear bV
    go_wp2_with fail
    rw [← hV9]
    clear hV9
    refine (HFD.out _ hV).mono ?_
    rintro e w10 ⟨rfl, hb10⟩
    have z10 := hb10.size
    replace B := B.trans (hb10.mono B.size)
    replace hV := hV.kept hb10
    replace iA := iA.below hb10
    replace EA := EA.kept hb10
    replace iY := iY.below hb10
    replace iZ := iZ.below hb10
    replace iR := iR.below hb10
    replace ER := ER.kept hb10
    clear hb10
    cases oR with
    | false =>
      go_wp2
      go_ret
      exact ⟨rfl, B⟩
    | true =>
      have hk := rd_ok HOR.out.symm HZB.out
      have hnR : nR = 16 := HNR.out.trans hk.2.2
      subst hnR
      have cER := cell1 ER
      go_wp2_with fail
      clear cER
      refine (implFeBytes aR 16 cR _ _ iR hV).mono ?_
      rintro e w11 ⟨v, rfl, oq, hb11⟩
      have z11 := hb11.size
      replace B := B.trans (hb11.mono B.size)
      replace hV := hV.kept hb11
      replace iA := iA.below hb11
      replace EA := EA.kept hb11
      replace iY := iY.below hb11
      replace iZ := iZ.below hb11
      replace iR := iR.below hb11
      replace ER := ER.kept hb11
      clear hb11
      obtain ⟨aQ, cQ, rfl, _, iQ⟩ := Bs.own oq (btF_byte _)
      clear oq
      rw [hk.2.1] at iQ ⊢
      have hnz : lZ.length = nZ := iZ.2.1
      rw [hnz] at iQ ⊢
      clear hk hnz
      go_wp2_with fail
      refine (sameT aQ aZ nZ cQ nZ cZ lZ lZ _ iQ iZ rfl).mono ?_
      rintro e w12 ⟨rfl, hq12⟩
      have hb12 : Below w11.heap.size w11 w12 := by rw [hq12]; exact Below.refl _ _
      replace B := B.trans (hb12.mono B.size)
      replace hV := hV.kept hb12
      replace iA := iA.below hb12
      replace EA := EA.kept hb12
      replace iY := iY.below hb12
      replace iZ := iZ.below hb12
      replace iR := iR.below hb12
      replace ER := ER.kept hb12
      replace iQ := iQ.below hb12
      clear hb12 hq12
      go_wp2
      go_ret
      exact ⟨rfl, B⟩
  | true =>
    have hb := bt_ok HP.out.symm
    rw [hb.1] at iY HN
    have hnY : nY = 32 := HN.out.trans hb.2.1
    subst hnY
    have hnA : nA = 16 := by have := iA.2.1; have := ((feOk_iff lA).1 HP.out.symm).1; omega
    subst hnA
    have HBT : Hid (rdOk (btL lA) = true ∧ rdF (btL lA) = lA) := hb.2.2
    clear hb HN
    have cEA := cell1 EA
    go_wp2
    clear cEA
    have bD : Below w3.heap.size w3 w3.drew := (Below.refl _ _).drew
    replace B := B.trans (bD.mono B.size)
    replace hV := hV.kept bD
    replace iA := iA.below bD
    replace EA := EA.kept bD
    replace iY := iY.below bD
    clear bD
    have huE : Tryd.prog.underlying 25 = some _ := Tryd.underlying25
    refine wp_region_held_drew (S := fun W => W.rangeAt (w1.heap.size) 0 [.slice aA 16 cA]) (by kernel_rfl) (range1 EA) (fun hHeld => ?_)
    obtain ⟨wD, hD⟩ : ∃ V, V = w3.drew := ⟨_, rfl⟩
    rw [← hD] at hHeld B hV iA EA iY ⊢
    clear hD
    refine wpAnyH_take (i := 0) (oi := { dst := some 14, op := Op.load 25 (Operand.tmp 3), type := 25, pos := "laws.go:234", after := #[], guard := none }) (v := _) rfl (by kernel_rfl) (by kernel_rfl) (by kernel_rfl) (fun _ _ _ h => h) (yieldsIf_load_mid (by rfl) _ _ rfl _ _ rfl ([.slice aA 16 cA]) _ (fun _ h => h) huE rfl infoFe) (by assumption) ?_
    simp only [Act.put, List.setIfInBounds_toArray, List.set_cons_zero, List.set_cons_succ]
    refine wpAnyH_take (i := 2) (oi := { dst := some 16, op := Op.move (Operand.tmp 4), type := 22, pos := "laws.go:234", after := #[], guard := none }) (v := .slice aY 32 cY) rfl (by kernel_rfl) (by kernel_rfl) (by kernel_rfl) (fun _ _ _ h => h) (.inl ⟨by rfl, fun _ _ => by first | rfl | simp [go_sem]⟩) (by assumption) ?_
    simp only [Act.put, List.setIfInBounds_toArray, List.set_cons_zero, List.set_cons_succ]
    refine wpAnyH_take (i := 3) (oi := { dst := some 17, op := Op.call { callee := Callee.builtin Builtin.len, args := #[Operand.tmp 16], argTypes := #[22] }, type := 3, pos := "laws.go:234", after := #[{ on := 2, ground := Ground.data }], guard := none }) (v := .int .i64 32) rfl (by kernel_rfl) (by kernel_rfl) (by kernel_rfl) (fun _ _ _ h => h) (.inl ⟨by rfl, fun _ _ => by first | rfl | simp [go_sem]⟩) (by assumption) ?_
    simp only [Act.put, List.setIfInBounds_toArray, List.set_cons_zero, List.set_cons_succ]
    refine wpAnyH_take (i := 4) (oi := { dst := some 18, op := Op.binOp BinOp.eql 3 (Operand.tmp 17) (Operand.const (Value.int IntKind.i64 32)) 3, type := 4, pos := "laws.go:234", after := #[{ on := 3, ground := Ground.data }], guard := none }) (v := .bool true) rfl (by kernel_rfl) (by kernel_rfl) (by kernel_rfl) (fun _ _ _ h => h) (.inl ⟨by rfl, fun _ _ => by first | rfl | simp [go_sem]⟩) (by assumption) ?_
    simp only [Act.put, List.setIfInBounds_toArray, List.set_cons_zero, List.set_cons_succ]
    refine wpAnyH_ready (rs := [1]) (by kernel_rfl) (by simp) (AllReadyH.cons (o := { dst := some 15, op := Op.call { callee := Callee.value (Operand.func 17), args := #[Operand.tmp 14], argTypes := #[25] }, type := 4, pos := "laws.go:234", after := #[{ on := 0, ground := Ground.data }], guard := none }) rfl (fun K hK => ?_) AllReadyH.nil)
    go_simp
    refine (specFeOk aA 16 cA lA _ iA).mono ?_
    rintro e w13 ⟨rfl, hb13⟩
    have z13 := hb13.size
    replace B := B.trans (hb13.mono B.size)
    replace hV := hV.kept hb13
    replace iA := iA.below hb13
    replace EA := EA.kept hb13
    replace iY := iY.below hb13
    clear hb13
    rw [← HP.out]
    go_wp2_with fail
    refine hK.out _ _ (range1 EA) (fun hHeld => ?_)
    clear hK K
    refine wpAnyH_take (i := 5) (oi := { dst := some 19, op := Op.binOp BinOp.neq 4 (Operand.tmp 15) (Operand.tmp 18) 4, type := 4, pos := "laws.go:234", after := #[{ on := 1, ground := Ground.data }, { on := 4, ground := Ground.data }], guard := none }) (v := .bool false) rfl (by kernel_rfl) (by kernel_rfl) (by kernel_rfl) (fun _ _ _ h => h) (.inl ⟨by rfl, fun _ _ => by first | rfl | simp [go_sem]⟩) (by assumption) ?_
    simp only [Act.put, List.setIfInBounds_toArray, List.set_cons_zero, List.set_cons_succ]
    refine wpAnyH_take (i := 6) (oi := { dst := some 20, op := Op.move (Operand.tmp 19), type := 4, pos := "laws.go:234", after := #[{ on := 5, ground := Ground.data }, { on := 1, ground := Ground.chain }], guard := none }) (v := .bool false) rfl (by kernel_rfl) (by kernel_rfl) (by kernel_rfl) (fun _ _ _ h => h) (.inl ⟨by rfl, fun _ _ => by first | rfl | simp [go_sem]⟩) (by assumption) ?_
    simp only [Act.put, List.setIfInBounds_toArray, List.set_cons_zero, List.set_cons_succ]
    refine wpAnyH_take (i := 7) (oi := { dst := some 21, op := Op.load 25 (Operand.tmp 3), type := 25, pos := "laws.go:234", after := #[{ on := 6, ground := Ground.guard }], guard := some (6, false) }) (v := _) rfl (by kernel_rfl) (by kernel_rfl) (by kernel_rfl) (fun _ _ _ h => h) (yieldsIf_load_mid (by rfl) _ _ rfl _ _ rfl ([.slice aA 16 cA]) _ (fun _ h => h) huE rfl infoFe) (by assumption) ?_
    simp only [Act.put, List.setIfInBounds_toArray, List.set_cons_zero, List.set_cons_succ]
    refine wpAnyH_take (i := 9) (oi := { dst := some 23, op := Op.load 25 (Operand.tmp 3), type := 25, pos := "laws.go:234", after := #[{ on := 6, ground := Ground.guard }], guard := some (6, false) }) (v := _) rfl (by kernel_rfl) (by kernel_rfl) (by kernel_rfl) (fun _ _ _ h => h) (yieldsIf_load_mid (by rfl) _ _ rfl _ _ rfl ([.slice aA 16 cA]) _ (fun _ h => h) huE rfl infoFe) (by assumption) ?_
    simp only [Act.put, List.setIfInBounds_toArray, List.set_cons_zero, List.set_cons_succ]
    refine wpAnyH_ready (rs := [8]) (by kernel_rfl) (by simp) (AllReadyH.cons (o := { dst := some 22, op := Op.call { callee := Callee.value (Operand.func 21), args := #[Operand.tmp 21], argTypes := #[25] }, type := 4, pos := "laws.go:234", after := #[{ on := 7, ground := Ground.data }, { on := 6, ground := Ground.chain }, { on := 6, ground := Ground.guard }], guard := some (6, false) }) rfl (fun K hK => ?_) AllReadyH.nil)
    go_simp
    refine (implFeOk aA 16 cA lA _ iA hV).mono ?_
    rintro e w14 ⟨rfl, hb14⟩
    have z14 := hb14.size
    replace B := B.trans (hb14.mono B.size)
    replace hV := hV.kept hb14
    replace iA := iA.below hb14
    replace EA := EA.kept hb14
    replace iY := iY.below hb14
    clear hb14
    rw [← HP.out]
    go_wp2_with fail
    refine hK.out _ _ (range1 EA) (fun hHeld => ?_)
    clear hK K
    refine wpAnyH_ready (rs := [10]) (by kernel_rfl) (by simp) (AllReadyH.cons (o := { dst := some 24, op := Op.call { callee := Callee.value (Operand.func 17), args := #[Operand.tmp 23], argTypes := #[25] }, type := 4, pos := "laws.go:234", after := #[{ on := 9, ground := Ground.data }, { on := 8, ground := Ground.chain }, { on := 6, ground := Ground.guard }], guard := some (6, false) }) rfl (fun K hK => ?_) AllReadyH.nil)
    go_simp
    refine (specFeOk aA 16 cA lA _ iA).mono ?_
    rintro e w15 ⟨rfl, hb15⟩
    have z15 := hb15.size
    replace B := B.trans (hb15.mono B.size)
    replace hV := hV.kept hb15
    replace iA := iA.below hb15
    replace EA := EA.kept hb15
    replace iY := iY.below hb15
    clear hb15
    rw [← HP.out]
    go_wp2_with fail
    refine hK.out _ _ (range1 EA) (fun hHeld => ?_)
    clear hK K
    refine wpAnyH_take (i := 11) (oi := { dst := some 25, op := Op.binOp BinOp.neq 4 (Operand.tmp 22) (Operand.tmp 24) 4, type := 4, pos := "laws.go:234", after := #[{ on := 8, ground := Ground.data }, { on := 10, ground := Ground.data }, { on := 6, ground := Ground.guard }], guard := some (6, false) }) (v := .bool false) rfl (by kernel_rfl) (by kernel_rfl) (by kernel_rfl) (fun _ _ _ h => h) (.inl ⟨by rfl, fun _ _ => by first | rfl | simp [go_sem]⟩) (by assumption) ?_
    simp only [Act.put, List.setIfInBounds_toArray, List.set_cons_zero, List.set_cons_succ]
    refine wpAnyH_take (i := 12) (oi := { dst := some 26, op := Op.pick (Operand.tmp 20) (Operand.const (Value.bool true)) (Operand.tmp 25), type := 4, pos := "laws.go:234", after := #[{ on := 6, ground := Ground.data }, { on := 11, ground := Ground.data }], guard := none }) (v := .bool false) rfl (by kernel_rfl) (by kernel_rfl) (by kernel_rfl) (fun _ _ _ h => h) (.inl ⟨by rfl, fun _ _ => by first | rfl | simp [go_sem]⟩) (by assumption) ?_
    simp only [Act.put, List.setIfInBounds_toArray, List.set_cons_zero, List.set_cons_succ]
    clear huE
    refine wpAnyH_done (by kernel_rfl) ?_ _
    clear hHeld
    go_wp2_with fail
    refine (implFeRead aY 32 cY (btL lA) _ iY hV).mono ?_
    rintro e w16 ⟨v, rfl, fR, hb16⟩
    have z16 := hb16.size
    replace B := B.trans (hb16.mono B.size)
    replace hV := hV.kept hb16
    replace iA := iA.below hb16
    replace EA := EA.kept hb16
    replace iY := iY.below hb16
    clear hb16
    rw [HBT.out.2] at fR
    obtain ⟨aX, cX, rfl, iX⟩ := feR_of fR iA.2.2.2.1
    clear fR
    rw [HBT.out.1]
    have hl16 : lA.length = 16 := iA.2.1
    rw [hl16] at iX ⊢
    clear hl16
    obtain ⟨V17, hV17⟩ : ∃ V, V = w16.alloc (.cells #[.slice aX 16 cX] 25) := ⟨_, rfl⟩
    have bV : Below w16.heap.size w16 V17 := by rw [hV17]; exact (Below.refl _ _).alloc (Nat.le_refl _) _
    have z17 : V17.heap.size = w16.heap.size + 1 := by rw [hV17]; simp
    have EX : Arr V17 w16.heap.size 25 [.slice aX 16 cX] := by rw [hV17]; exact Arr.new w16 [.slice aX 16 cX] _
    replace B := B.trans (bV.mono B.size)
    replace hV := hV.kept bV
    replace iA := iA.below bV
    replace EA := EA.kept bV
    replace iY := iY.below bV
    replace iX := iX.below bV
    clear bV
    have cEX := cell1 EX
    rw [hV17] at cEX
    have cEA := cell1 EA
    rw [hV17] at cEA
    go_wp2_with fail
    rw [← hV17]
    clear cEX cEA hV17
    refine (sameIntsT aX aA 16 cX cA lA _ iX iA (by omega)).mono ?_
    rintro e w18 ⟨q18, rfl, hq18⟩
    have hb18 : Below V17.heap.size V17 w18 := by rw [hq18]; exact bel_drewN _ _
    have z18 := hb18.size
    replace B := B.trans (hb18.mono B.size)
    replace hV := hV.kept hb18
    replace iA := iA.below hb18
    replace EA := EA.kept hb18
    replace iY := iY.below hb18
    replace iX := iX.below hb18
    replace EX := EX.kept hb18
    clear hb18 hq18
    clear iX
    clear EX
    go_wp2_with fail
    refine (drawFeRead ab nb cb bs _ (hB.below B) (by omega)).mono ?_
    rintro e w19 ⟨aZ, nZ, cZ, lZ, rfl, iZ, nmZ, _, hb19⟩
    have z19 := hb19.size
    replace B := B.trans (hb19.mono B.size)
    replace hV := hV.kept hb19
    replace iA := iA.below hb19
    replace EA := EA.kept hb19
    replace iY := iY.below hb19
    clear hb19
    have HZB : Hid _ := iZ.2.2.2.1
    go_wp2_with fail
    refine (implFeRead aZ nZ cZ lZ _ iZ hV).mono ?_
    rintro e w20 ⟨v, rfl, fR, hb20⟩
    have z20 := hb20.size
    replace B := B.trans (hb20.mono B.size)
    replace hV := hV.kept hb20
    replace iA := iA.below hb20
    replace EA := EA.kept hb20
    replace iY := iY.below hb20
    replace iZ := iZ.below hb20
    clear hb20
    obtain ⟨aR, cR, rfl, iR⟩ := feR_of fR (rdF_int HZB.out)
    clear fR
    obtain ⟨nR, hnR⟩ : ∃ n, n = (rdF lZ).length := ⟨_, rfl⟩
    obtain ⟨oR, hoR⟩ : ∃ o, o = rdOk lZ := ⟨_, rfl⟩
    rw [← hnR] at iR ⊢
    rw [← hoR]
    have HNR : Hid _ := hnR
    have HOR : Hid _ := hoR
    clear hnR hoR
    obtain ⟨V21, hV21⟩ : ∃ V, V = w20.alloc (.cells #[.slice aR nR cR] 25) := ⟨_, rfl⟩
    have bV : Below w20.heap.size w20 V21 := by rw [hV21]; exact (Below.refl _ _).alloc (Nat.le_refl _) _
    have z21 : V21.heap.size = w20.heap.size + 1 := by rw [hV21]; simp
    have ER : Arr V21 w20.heap.size 25 [.slice aR nR cR] := by rw [hV21]; exact Arr.new w20 [.slice aR nR cR] _
    replace B := B.trans (bV.mono B.size)
    replace hV := hV.kept bV
    replace iA := iA.below bV
    replace EA := EA.kept bV
    replace iY := iY.below bV
    replace iZ := iZ.below bV
    replace iR := iR.below bV
    clear bV
    go_wp2_with fail
    rw [← hV21]
    clear hV21
    refine (HFD.out _ hV).mono ?_
    rintro e w22 ⟨rfl, hb22⟩
    have z22 := hb22.size
    replace B := B.trans (hb22.mono B.size)
    replace hV := hV.kept hb22
    replace iA := iA.below hb22
    replace EA := EA.kept hb22
    replace iY := iY.below hb22
    replace iZ := iZ.below hb22
    replace iR := iR.below hb22
    replace ER := ER.kept hb22
    clear hb22
    cases oR with
    | false =>
      go_wp2
      go_ret
      exact ⟨rfl, B⟩
    | true =>
      have hk := rd_ok HOR.out.symm HZB.out
      have hnR : nR = 16 := HNR.out.trans hk.2.2
      subst hnR
      have cER := cell1 ER
      go_wp2_with fail
      clear cER
      refine (implFeBytes aR 16 cR _ _ iR hV).mono ?_
      rintro e w23 ⟨v, rfl, oq, hb23⟩
      have z23 := hb23.size
      replace B := B.trans (hb23.mono B.size)
      replace hV := hV.kept hb23
      replace iA := iA.below hb23
      replace EA := EA.kept hb23
      replace iY := iY.below hb23
      replace iZ := iZ.below hb23
      replace iR := iR.below hb23
      replace ER := ER.kept hb23
      clear hb23
      obtain ⟨aQ, cQ, rfl, _, iQ⟩ := Bs.own oq (btF_byte _)
      clear oq
      rw [hk.2.1] at iQ ⊢
      have hnz : lZ.length = nZ := iZ.2.1
      rw [hnz] at iQ ⊢
      clear hk hnz
      go_wp2_with fail
      refine (sameT aQ aZ nZ cQ nZ cZ lZ lZ _ iQ iZ rfl).mono ?_
      rintro e w24 ⟨rfl, hq24⟩
      have hb24 : Below w23.heap.size w23 w24 := by rw [hq24]; exact Below.refl _ _
      replace B := B.trans (hb24.mono B.size)
      replace hV := hV.kept hb24
      replace iA := iA.below hb24
      replace EA := EA.kept hb24
      replace iY := iY.below hb24
      replace iZ := iZ.below hb24
      replace iR := iR.below hb24
      replace ER := ER.kept hb24
      replace iQ := iQ.below hb24
      clear hb24 hq24
      go_wp2
      go_ret
      exact ⟨rfl, B⟩
end Go.Proofs.YtpchdfdeomhakaaDoor
