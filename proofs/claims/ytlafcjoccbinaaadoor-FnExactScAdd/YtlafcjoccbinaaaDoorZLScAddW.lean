/-
  What is proved here: the exact law of ScAdd returns true at every argument, and writes into nothing that was there; where the program's variables hold what its text lays into them.
-/
import Derived.Test.YtlafcjoccbinaaaDoorZXa
import Derived.Test.YtlafcjoccbinaaaDoorZKs
import Derived.Test.YtlafcjoccbinaaaDoorZKl
import Derived.Test.YtlafcjoccbinaaaDoorZQj
namespace Go.Proofs.YtlafcjoccbinaaaDoor
open Go.RowKit
set_option maxRecDepth 100000

set_option maxHeartbeats 8000000 in
theorem walk_fnExactScAdd (w : World) (aA : Option Addr) (nA cA : Nat) (xsA : List Int) (hA : Is w aA nA cA xsA) (hmA : nA ≤ 9223372036854775807) (aB : Option Addr) (nB cB : Nat) (xsB : List Int) (hB : Is w aB nB cB xsB) (hmB : nB ≤ 9223372036854775807) (hV : Vr w 0 (I64 OL)) :
    Calls Tryd.prog 8 #[.agg #[.slice aA nA cA], .agg #[.slice aB nB cB]] w fun e w' => e = .returned (.bool true) ∧ Below w.heap.size w w' := by
  obtain ⟨R, hR⟩ : ∃ R, R = (scOk xsA && scOk xsB) := ⟨_, rfl⟩
  obtain ⟨L, hL⟩ : ∃ L, L = sc2 (· + ·) xsA xsB := ⟨_, rfl⟩
  have HS : Hid (∀ (aA : Option Addr) (cA : Nat) (aB : Option Addr) (cB : Nat) (Z : World), Is Z aA nA cA xsA → Is Z aB nB cB xsB → Calls Tryd.prog 33 #[.agg #[.slice aA nA cA], .agg #[.slice aB nB cB]] Z fun e w' => ∃ v, e = .returned (.tuple #[v, .bool R]) ∧ ScIs Z w' v L ∧ Below Z.heap.size Z w') := by
    unfold Hid; intro aA cA aB cB Z hA hB; rw [hR, hL]; exact specScAdd aA nA cA xsA aB nB cB xsB Z hA hB 
  have HI : Hid (∀ (aA : Option Addr) (cA : Nat) (aB : Option Addr) (cB : Nat) (Z : World), Is Z aA nA cA xsA → Is Z aB nB cB xsB → Vr Z 0 (I64 OL) → Calls Tryd.prog 12 #[.agg #[.slice aA nA cA], .agg #[.slice aB nB cB]] Z fun e w' => ∃ v, e = .returned (.tuple #[v, .bool R]) ∧ FeT 49 Z w' v L ∧ Below Z.heap.size Z w') := by
    unfold Hid; intro aA cA aB cB Z hA hB vhV; rw [hR, hL]; exact implScAdd aA nA cA xsA aB nB cB xsB Z hA hB  vhV
  have HLb : Hid (∀ x ∈ L, -9223372036854775808 ≤ x ∧ x ≤ 9223372036854775807) := by unfold Hid; rw [hL]; exact sc2_int _ _ _
  have hml : L.length ≤ 32 := by rw [hL]; exact sc2_le _ _ _
  obtain ⟨m, hm⟩ : ∃ m, m = L.length := ⟨_, rfl⟩
  rw [← hm] at hml
  have HM : Hid (L.length = m) := hm.symm
  have hRR : (R != R) = false := by simp
  have HXA : Hid _ := hA.2.2.2.1
  have HXB : Hid _ := hB.2.2.2.1
  clear hR hL hm
  have h0w := hV.lt
  obtain ⟨V0, hV0⟩ : ∃ V, V = (w.alloc (.cells #[.slice aA nA cA] 37)).alloc (.cells #[.slice aB nB cB] 37) := ⟨_, rfl⟩
  have B : Below w.heap.size w V0 := by rw [hV0]; exact ((Below.refl _ _).alloc (Nat.le_refl _) _).alloc (by simp) _
  have AA : Arr V0 w.heap.size 37 [.slice aA nA cA] := by rw [hV0]; exact (Arr.new _ _ _).alloc _
  have AB : Arr V0 (w.heap.size + 1) 37 [.slice aB nB cB] := by
    rw [hV0]
    have := Arr.new (w.alloc (.cells #[.slice aA nA cA] 37)) [.slice aB nB cB] 37
    rw [World.size_alloc] at this
    exact this
  have z0 : V0.heap.size = w.heap.size + 2 := by rw [hV0]; simp
  replace hV := hV.kept (B)
  go_enter Tryd.func8, Tryd.ntmps8
  have cAA := cell1 AA
  rw [hV0] at cAA
  go_wp2_with fail
  rw [← hV0]
  clear cAA hV0
  refine (szScC aA nA cA 1048576 _ (by omega) (by omega) hmA).mono ?_
  rintro e w1 ⟨rA, rfl, hrA, hb1⟩
  have z1 := hb1.size
  replace B := B.trans (hb1.mono B.size)
  replace AA := AA.kept hb1
  replace AB := AB.kept hb1
  replace hV := hV.kept hb1
  clear hb1
  rcases hrA with rfl | ⟨hrA, hsA, htA⟩
  · go_wp2
    go_ret
    exact ⟨rfl, B⟩
  have hnlA : ¬ (rA < 0) := by omega
  have cAB := cell1 AB
  go_wp2_with fail
  clear cAB
  refine (szScC aB nB cB rA _ (by omega) (by omega) hmB).mono ?_
  rintro e w2 ⟨rB, rfl, hrB, hb2⟩
  have z2 := hb2.size
  replace B := B.trans (hb2.mono B.size)
  replace AA := AA.kept hb2
  replace AB := AB.kept hb2
  replace hV := hV.kept hb2
  clear hb2
  rcases hrB with rfl | ⟨hrB, hsB, htB⟩
  · go_wp2
    go_ret
    exact ⟨rfl, B⟩
  have hnlB : ¬ (rB < 0) := by omega
  have cAA := cell1 AA
  have cAB := cell1 AB
  go_wp2
  clear cAA cAB
  have bD : Below w2.heap.size w2 w2.drew := (Below.refl _ _).drew
  go_cut [6, 7] from 17 (fun s6 s7 wc => ∃ (E : Nat) (a6 : Option Addr) (c6 : Nat), s6 = .pointer (some ⟨E, 0, none⟩) ∧ s7 = .bool R ∧ Arr wc E 25 [.slice a6 m c6] ∧ wc.ownsRow w2.heap.size 3 1 (.slice a6 m c6) m (I64 L) ∧ In (.slice a6 m c6) w2.heap.size wc.heap.size ∧ w2.heap.size ≤ E ∧ E < wc.heap.size ∧ Below w.heap.size w wc ∧ Arr wc (w.heap.size) 37 [.slice aA nA cA] ∧ Arr wc (w.heap.size + 1) 37 [.slice aB nB cB] ∧ Vr wc 0 (I64 OL))
  case first =>
    replace B := B.trans (bD.mono B.size)
    replace AA := AA.kept bD
    replace AB := AB.kept bD
    replace hV := hV.kept bD
    clear bD
    have hu : Tryd.prog.underlying 37 = some _ := Tryd.underlying37
    refine wp_region_held_drew (S := fun W => W.rangeAt w.heap.size 0 [.slice aA nA cA] ∧ W.rangeAt (w.heap.size + 1) 0 [.slice aB nB cB]) (by kernel_rfl) ⟨range1 AA, range1 AB⟩ (fun hHeld => ?_)
    obtain ⟨wD6, hD⟩ : ∃ V, V = w2.drew := ⟨_, rfl⟩
    rw [← hD] at hHeld B AA AB hV ⊢
    have zD6 : wD6.heap.size ≤ w2.heap.size ∧ w2.heap.size ≤ wD6.heap.size := by rw [hD]; exact ⟨Nat.le_refl _, Nat.le_refl _⟩
    clear hD
    refine wpAnyH_take (i := 0) (oi := { dst := some 28, op := Op.load 37 (Operand.tmp 2), type := 37, pos := "exact.go:2572", after := #[], guard := none }) (v := _) rfl (by kernel_rfl) (by kernel_rfl) (by kernel_rfl) (fun _ _ _ h => h) (yieldsIf_load_mid (by rfl) _ _ rfl _ _ rfl ([.slice aA nA cA]) _ (fun _ h => h.1) hu rfl infoScL) (by assumption) ?_
    simp only [Act.put, List.setIfInBounds_toArray, List.set_cons_zero, List.set_cons_succ]
    refine wpAnyH_take (i := 2) (oi := { dst := some 30, op := Op.load 37 (Operand.tmp 3), type := 37, pos := "exact.go:2572", after := #[], guard := none }) (v := _) rfl (by kernel_rfl) (by kernel_rfl) (by kernel_rfl) (fun _ _ _ h => h) (yieldsIf_load_mid (by rfl) _ _ rfl _ _ rfl ([.slice aB nB cB]) _ (fun _ h => h.2) hu rfl infoScL) (by assumption) ?_
    simp only [Act.put, List.setIfInBounds_toArray, List.set_cons_zero, List.set_cons_succ]
    refine wpAnyH_ready (rs := [1, 8]) (by kernel_rfl) (by simp) (AllReadyH.cons (o := { dst := some 29, op := Op.call { callee := Callee.value (Operand.func 24), args := #[Operand.tmp 28], argTypes := #[37] }, type := 25, pos := "exact.go:2572", after := #[{ on := 0, ground := Ground.data }], guard := none }) rfl (fun K hK => ?_) (AllReadyH.cons (o := { dst := some 6, op := Op.alloc 25, type := 0, pos := "exact.go:2572", after := #[], guard := none }) rfl (fun K hK => ?_) AllReadyH.nil))
    · skip
      go_simp
      refine (toScC aA nA cA xsA _ (hA.below B) (by omega)).mono ?_
      rintro e w3 ⟨yA6, kA6, rfl, _, hxyA6, hb3⟩
      have z3 := hb3.size
      replace B := B.trans (hb3.mono B.size)
      replace AA := AA.kept hb3
      replace AB := AB.kept hb3
      replace hV := hV.kept hb3
      clear hb3
      go_wp2_with fail
      refine hK.out _ _ ⟨range1 AA, range1 AB⟩ (fun hHeld => ?_)
      clear hK K
      refine wpAnyH_ready (rs := [3, 8]) (by kernel_rfl) (by simp) (AllReadyH.cons (o := { dst := some 31, op := Op.call { callee := Callee.value (Operand.func 24), args := #[Operand.tmp 30], argTypes := #[37] }, type := 25, pos := "exact.go:2572", after := #[{ on := 2, ground := Ground.data }, { on := 1, ground := Ground.chain }], guard := none }) rfl (fun K hK => ?_) (AllReadyH.cons (o := { dst := some 6, op := Op.alloc 25, type := 0, pos := "exact.go:2572", after := #[], guard := none }) rfl (fun K hK => ?_) AllReadyH.nil))
      · skip
        go_simp
        refine (toScC aB nB cB xsB _ (hB.below B) (by omega)).mono ?_
        rintro e w4 ⟨yB6, kB6, rfl, _, hxyB6, hb4⟩
        have z4 := hb4.size
        replace B := B.trans (hb4.mono B.size)
        replace AA := AA.kept hb4
        replace AB := AB.kept hb4
        replace hV := hV.kept hb4
        replace hxyA6 := hxyA6.below hb4
        clear hb4
        go_wp2_with fail
        refine hK.out _ _ ⟨range1 AA, range1 AB⟩ (fun hHeld => ?_)
        clear hK K
        refine wpAnyH_ready (rs := [4, 8]) (by kernel_rfl) (by simp) (AllReadyH.cons (o := { dst := some 32, op := Op.call { callee := Callee.value (Operand.func 33), args := #[Operand.tmp 29, Operand.tmp 31], argTypes := #[25, 25] }, type := 28, pos := "exact.go:2572", after := #[{ on := 1, ground := Ground.data }, { on := 3, ground := Ground.data }, { on := 3, ground := Ground.chain }], guard := none }) rfl (fun K hK => ?_) (AllReadyH.cons (o := { dst := some 6, op := Op.alloc 25, type := 0, pos := "exact.go:2572", after := #[], guard := none }) rfl (fun K hK => ?_) AllReadyH.nil))
        · skip
          go_simp
          refine (HS.out yA6 kA6 yB6 kB6 _ hxyA6 hxyB6 ).mono ?_
          rintro e w5 ⟨v6, rfl, ⟨a6, c6, rfl, o6⟩, hb5⟩
          have z5 := hb5.size
          replace B := B.trans (hb5.mono B.size)
          replace AA := AA.kept hb5
          replace AB := AB.kept hb5
          replace hV := hV.kept hb5
          replace hxyA6 := hxyA6.below hb5
          replace hxyB6 := hxyB6.below hb5
          clear hb5
          clear hxyA6
          clear hxyB6
          rw [HM.out] at o6 ⊢
          have io6 := In.of o6
          go_wp2_with fail
          refine hK.out _ _ ⟨range1 AA, range1 AB⟩ (fun hHeld => ?_)
          clear hK K
          refine wpAnyH_take (i := 5) (oi := { dst := some 27, op := Op.move (Operand.tmp 32), type := 28, pos := "exact.go:2572", after := #[{ on := 4, ground := Ground.data }], guard := none }) (v := .tuple #[.agg #[.slice a6 m c6], .bool R]) rfl (by kernel_rfl) (by kernel_rfl) (by kernel_rfl) (fun _ _ _ h => h) (.inl ⟨by rfl, fun _ _ => by rfl⟩) (by assumption) ?_
          simp only [Act.put, List.setIfInBounds_toArray, List.set_cons_zero, List.set_cons_succ]
          refine wpAnyH_take (i := 6) (oi := { dst := some 33, op := Op.extract (Operand.tmp 27) 0, type := 25, pos := "exact.go:2572", after := #[{ on := 5, ground := Ground.data }], guard := none }) (v := .agg #[.slice a6 m c6]) rfl (by kernel_rfl) (by kernel_rfl) (by kernel_rfl) (fun _ _ _ h => h) (.inl ⟨by rfl, fun _ _ => by rfl⟩) (by assumption) ?_
          simp only [Act.put, List.setIfInBounds_toArray, List.set_cons_zero, List.set_cons_succ]
          refine wpAnyH_take (i := 7) (oi := { dst := some 34, op := Op.extract (Operand.tmp 27) 1, type := 4, pos := "exact.go:2572", after := #[{ on := 5, ground := Ground.data }, { on := 9, ground := Ground.gcOnly Departure.lateStores }], guard := none }) (v := .bool R) rfl (by kernel_rfl) (by kernel_rfl) (by kernel_rfl) (fun _ _ _ h => h) (.inl ⟨by rfl, fun _ _ => by rfl⟩) (by assumption) ?_
          simp only [Act.put, List.setIfInBounds_toArray, List.set_cons_zero, List.set_cons_succ]
          refine wpAnyH_ready (rs := [8]) (by kernel_rfl) (by simp) (AllReadyH.cons (o := { dst := some 6, op := Op.alloc 25, type := 0, pos := "exact.go:2572", after := #[], guard := none }) rfl (fun K hK => ?_) AllReadyH.nil)
          go_simp
          obtain ⟨V6, hVe⟩ : ∃ V, V = w5.alloc (.cells #[.slice none 0 0] 25) := ⟨_, rfl⟩
          have bV : Below w5.heap.size w5 V6 := by rw [hVe]; exact (Below.refl _ _).alloc (Nat.le_refl _) _
          have z6 : V6.heap.size = w5.heap.size + 1 := by rw [hVe]; simp
          have AE : Arr V6 w5.heap.size 25 [.slice none 0 0] := by rw [hVe]; exact Arr.new w5 [.slice none 0 0] _
          replace B := B.trans (bV.mono B.size)
          replace AA := AA.kept bV
          replace AB := AB.kept bV
          replace hV := hV.kept bV
          replace o6 := own_below o6 bV
          rw [← hVe]
          clear bV hVe
          refine hK.out _ _ ⟨range1 AA, range1 AB⟩ (fun hHeld => ?_)
          clear hK K
          refine wpAnyH_ready (rs := [9]) (by kernel_rfl) (by simp) (AllReadyH.cons (o := { dst := none, op := Op.store 25 (Operand.tmp 6) (Operand.tmp 33), type := 0, pos := "exact.go:2572", after := #[{ on := 8, ground := Ground.data }, { on := 6, ground := Ground.data }, { on := 4, ground := Ground.chain }, { on := 0, ground := Ground.phase }, { on := 1, ground := Ground.phase }, { on := 2, ground := Ground.phase }, { on := 3, ground := Ground.phase }, { on := 4, ground := Ground.phase }, { on := 5, ground := Ground.phase }, { on := 6, ground := Ground.phase }, { on := 7, ground := Ground.textOnly Departure.lateStores }, { on := 8, ground := Ground.phase }], guard := none }) rfl (fun K hK => ?_) AllReadyH.nil)
          rw [if_pos (by rfl)]
          refine wp_store_mid _ _ _ rfl _ _ #[.slice a6 m c6] rfl rfl (there1 AE) infoSc (by simp [Value.oneCell']) ?_
          simp only [Act.put]
          replace AE := arr_one (u := .slice a6 m c6) AE
          replace B := bel_one B (show w.heap.size ≤ w5.heap.size by omega) (.slice a6 m c6)
          replace AA := arr_setO AA (g := w5.heap.size) (by omega) [.slice a6 m c6]
          replace AB := arr_setO AB (g := w5.heap.size) (by omega) [.slice a6 m c6]
          replace hV := vr_setO hV (g := w5.heap.size) (by omega) [.slice a6 m c6]
          replace o6 := own_setCells o6 io6 (E := w5.heap.size) (by omega) [.slice a6 m c6]
          refine hK.out _ _ ⟨range1 AA, range1 AB⟩ (fun hHeld => ?_)
          clear hK K
          refine wpAnyH_ready (rs := [10]) (by kernel_rfl) (by simp) (AllReadyH.cons (o := { dst := some 7, op := Op.assign (Operand.tmp 34), type := 4, pos := "exact.go:2572", after := #[{ on := 7, ground := Ground.data }, { on := 9, ground := Ground.chain }, { on := 0, ground := Ground.phase }, { on := 1, ground := Ground.phase }, { on := 2, ground := Ground.phase }, { on := 3, ground := Ground.phase }, { on := 4, ground := Ground.phase }, { on := 5, ground := Ground.phase }, { on := 6, ground := Ground.phase }, { on := 7, ground := Ground.phase }, { on := 8, ground := Ground.phase }, { on := 9, ground := Ground.phase }], guard := none }) rfl (fun K hK => ?_) AllReadyH.nil)
          go_simp
          refine hK.out _ _ ⟨range1 AA, range1 AB⟩ (fun hHeld => ?_)
          clear hK K
          refine wpAnyH_done (by kernel_rfl) ?_ _
          go_wp2
          go_meet
          have hsz : (V6.setCells w5.heap.size 0 [.slice a6 m c6]).heap.size = V6.heap.size := size_one _ _ _
          case rel => exact ⟨w5.heap.size, a6, c6, rfl, rfl, AE, own_base o6 (by omega), fun k hk => by have := io6 k hk; omega, by omega, by omega, B, AA, AB, hV⟩
        · skip
          go_simp
          obtain ⟨V8, hVe⟩ : ∃ V, V = w4.alloc (.cells #[.slice none 0 0] 25) := ⟨_, rfl⟩
          have bV : Below w4.heap.size w4 V8 := by rw [hVe]; exact (Below.refl _ _).alloc (Nat.le_refl _) _
          have z8 : V8.heap.size = w4.heap.size + 1 := by rw [hVe]; simp
          have AE : Arr V8 w4.heap.size 25 [.slice none 0 0] := by rw [hVe]; exact Arr.new w4 [.slice none 0 0] _
          replace B := B.trans (bV.mono B.size)
          replace AA := AA.kept bV
          replace AB := AB.kept bV
          replace hV := hV.kept bV
          replace hxyA6 := hxyA6.below bV
          replace hxyB6 := hxyB6.below bV
          rw [← hVe]
          clear bV hVe
          refine hK.out _ _ ⟨range1 AA, range1 AB⟩ (fun hHeld => ?_)
          clear hK K
          refine wpAnyH_ready (rs := [4]) (by kernel_rfl) (by simp) (AllReadyH.cons (o := { dst := some 32, op := Op.call { callee := Callee.value (Operand.func 33), args := #[Operand.tmp 29, Operand.tmp 31], argTypes := #[25, 25] }, type := 28, pos := "exact.go:2572", after := #[{ on := 1, ground := Ground.data }, { on := 3, ground := Ground.data }, { on := 3, ground := Ground.chain }], guard := none }) rfl (fun K hK => ?_) AllReadyH.nil)
          go_simp
          refine (HS.out yA6 kA6 yB6 kB6 _ hxyA6 hxyB6 ).mono ?_
          rintro e w9 ⟨v6, rfl, ⟨a6, c6, rfl, o6⟩, hb9⟩
          have z9 := hb9.size
          replace B := B.trans (hb9.mono B.size)
          replace AA := AA.kept hb9
          replace AB := AB.kept hb9
          replace hV := hV.kept hb9
          replace hxyA6 := hxyA6.below hb9
          replace hxyB6 := hxyB6.below hb9
          replace AE := AE.kept hb9
          clear hb9
          clear hxyA6
          clear hxyB6
          rw [HM.out] at o6 ⊢
          have io6 := In.of o6
          go_wp2_with fail
          refine hK.out _ _ ⟨range1 AA, range1 AB⟩ (fun hHeld => ?_)
          clear hK K
          refine wpAnyH_take (i := 5) (oi := { dst := some 27, op := Op.move (Operand.tmp 32), type := 28, pos := "exact.go:2572", after := #[{ on := 4, ground := Ground.data }], guard := none }) (v := .tuple #[.agg #[.slice a6 m c6], .bool R]) rfl (by kernel_rfl) (by kernel_rfl) (by kernel_rfl) (fun _ _ _ h => h) (.inl ⟨by rfl, fun _ _ => by rfl⟩) (by assumption) ?_
          simp only [Act.put, List.setIfInBounds_toArray, List.set_cons_zero, List.set_cons_succ]
          refine wpAnyH_take (i := 6) (oi := { dst := some 33, op := Op.extract (Operand.tmp 27) 0, type := 25, pos := "exact.go:2572", after := #[{ on := 5, ground := Ground.data }], guard := none }) (v := .agg #[.slice a6 m c6]) rfl (by kernel_rfl) (by kernel_rfl) (by kernel_rfl) (fun _ _ _ h => h) (.inl ⟨by rfl, fun _ _ => by rfl⟩) (by assumption) ?_
          simp only [Act.put, List.setIfInBounds_toArray, List.set_cons_zero, List.set_cons_succ]
          refine wpAnyH_take (i := 7) (oi := { dst := some 34, op := Op.extract (Operand.tmp 27) 1, type := 4, pos := "exact.go:2572", after := #[{ on := 5, ground := Ground.data }, { on := 9, ground := Ground.gcOnly Departure.lateStores }], guard := none }) (v := .bool R) rfl (by kernel_rfl) (by kernel_rfl) (by kernel_rfl) (fun _ _ _ h => h) (.inl ⟨by rfl, fun _ _ => by rfl⟩) (by assumption) ?_
          simp only [Act.put, List.setIfInBounds_toArray, List.set_cons_zero, List.set_cons_succ]
          refine wpAnyH_ready (rs := [9]) (by kernel_rfl) (by simp) (AllReadyH.cons (o := { dst := none, op := Op.store 25 (Operand.tmp 6) (Operand.tmp 33), type := 0, pos := "exact.go:2572", after := #[{ on := 8, ground := Ground.data }, { on := 6, ground := Ground.data }, { on := 4, ground := Ground.chain }, { on := 0, ground := Ground.phase }, { on := 1, ground := Ground.phase }, { on := 2, ground := Ground.phase }, { on := 3, ground := Ground.phase }, { on := 4, ground := Ground.phase }, { on := 5, ground := Ground.phase }, { on := 6, ground := Ground.phase }, { on := 7, ground := Ground.textOnly Departure.lateStores }, { on := 8, ground := Ground.phase }], guard := none }) rfl (fun K hK => ?_) AllReadyH.nil)
          rw [if_pos (by rfl)]
          refine wp_store_mid _ _ _ rfl _ _ #[.slice a6 m c6] rfl rfl (there1 AE) infoSc (by simp [Value.oneCell']) ?_
          simp only [Act.put]
          replace AE := arr_one (u := .slice a6 m c6) AE
          replace B := bel_one B (show w.heap.size ≤ w4.heap.size by omega) (.slice a6 m c6)
          replace AA := arr_setO AA (g := w4.heap.size) (by omega) [.slice a6 m c6]
          replace AB := arr_setO AB (g := w4.heap.size) (by omega) [.slice a6 m c6]
          replace hV := vr_setO hV (g := w4.heap.size) (by omega) [.slice a6 m c6]
          replace o6 := own_setCells o6 io6 (E := w4.heap.size) (by omega) [.slice a6 m c6]
          refine hK.out _ _ ⟨range1 AA, range1 AB⟩ (fun hHeld => ?_)
          clear hK K
          refine wpAnyH_ready (rs := [10]) (by kernel_rfl) (by simp) (AllReadyH.cons (o := { dst := some 7, op := Op.assign (Operand.tmp 34), type := 4, pos := "exact.go:2572", after := #[{ on := 7, ground := Ground.data }, { on := 9, ground := Ground.chain }, { on := 0, ground := Ground.phase }, { on := 1, ground := Ground.phase }, { on := 2, ground := Ground.phase }, { on := 3, ground := Ground.phase }, { on := 4, ground := Ground.phase }, { on := 5, ground := Ground.phase }, { on := 6, ground := Ground.phase }, { on := 7, ground := Ground.phase }, { on := 8, ground := Ground.phase }, { on := 9, ground := Ground.phase }], guard := none }) rfl (fun K hK => ?_) AllReadyH.nil)
          go_simp
          refine hK.out _ _ ⟨range1 AA, range1 AB⟩ (fun hHeld => ?_)
          clear hK K
          refine wpAnyH_done (by kernel_rfl) ?_ _
          go_wp2
          go_meet
          have hsz : (w9.setCells w4.heap.size 0 [.slice a6 m c6]).heap.size = w9.heap.size := size_one _ _ _
          case rel => exact ⟨w4.heap.size, a6, c6, rfl, rfl, AE, own_base o6 (by omega), fun k hk => by have := io6 k hk; omega, by omega, by omega, B, AA, AB, hV⟩
      · skip
        go_simp
        obtain ⟨V11, hVe⟩ : ∃ V, V = w3.alloc (.cells #[.slice none 0 0] 25) := ⟨_, rfl⟩
        have bV : Below w3.heap.size w3 V11 := by rw [hVe]; exact (Below.refl _ _).alloc (Nat.le_refl _) _
        have z11 : V11.heap.size = w3.heap.size + 1 := by rw [hVe]; simp
        have AE : Arr V11 w3.heap.size 25 [.slice none 0 0] := by rw [hVe]; exact Arr.new w3 [.slice none 0 0] _
        replace B := B.trans (bV.mono B.size)
        replace AA := AA.kept bV
        replace AB := AB.kept bV
        replace hV := hV.kept bV
        replace hxyA6 := hxyA6.below bV
        rw [← hVe]
        clear bV hVe
        refine hK.out _ _ ⟨range1 AA, range1 AB⟩ (fun hHeld => ?_)
        clear hK K
        refine wpAnyH_ready (rs := [3]) (by kernel_rfl) (by simp) (AllReadyH.cons (o := { dst := some 31, op := Op.call { callee := Callee.value (Operand.func 24), args := #[Operand.tmp 30], argTypes := #[37] }, type := 25, pos := "exact.go:2572", after := #[{ on := 2, ground := Ground.data }, { on := 1, ground := Ground.chain }], guard := none }) rfl (fun K hK => ?_) AllReadyH.nil)
        go_simp
        refine (toScC aB nB cB xsB _ (hB.below B) (by omega)).mono ?_
        rintro e w12 ⟨yB6, kB6, rfl, _, hxyB6, hb12⟩
        have z12 := hb12.size
        replace B := B.trans (hb12.mono B.size)
        replace AA := AA.kept hb12
        replace AB := AB.kept hb12
        replace hV := hV.kept hb12
        replace hxyA6 := hxyA6.below hb12
        replace AE := AE.kept hb12
        clear hb12
        go_wp2_with fail
        refine hK.out _ _ ⟨range1 AA, range1 AB⟩ (fun hHeld => ?_)
        clear hK K
        refine wpAnyH_ready (rs := [4]) (by kernel_rfl) (by simp) (AllReadyH.cons (o := { dst := some 32, op := Op.call { callee := Callee.value (Operand.func 33), args := #[Operand.tmp 29, Operand.tmp 31], argTypes := #[25, 25] }, type := 28, pos := "exact.go:2572", after := #[{ on := 1, ground := Ground.data }, { on := 3, ground := Ground.data }, { on := 3, ground := Ground.chain }], guard := none }) rfl (fun K hK => ?_) AllReadyH.nil)
        go_simp
        refine (HS.out yA6 kA6 yB6 kB6 _ hxyA6 hxyB6 ).mono ?_
        rintro e w13 ⟨v6, rfl, ⟨a6, c6, rfl, o6⟩, hb13⟩
        have z13 := hb13.size
        replace B := B.trans (hb13.mono B.size)
        replace AA := AA.kept hb13
        replace AB := AB.kept hb13
        replace hV := hV.kept hb13
        replace hxyA6 := hxyA6.below hb13
        replace AE := AE.kept hb13
        replace hxyB6 := hxyB6.below hb13
        clear hb13
        clear hxyA6
        clear hxyB6
        rw [HM.out] at o6 ⊢
        have io6 := In.of o6
        go_wp2_with fail
        refine hK.out _ _ ⟨range1 AA, range1 AB⟩ (fun hHeld => ?_)
        clear hK K
        refine wpAnyH_take (i := 5) (oi := { dst := some 27, op := Op.move (Operand.tmp 32), type := 28, pos := "exact.go:2572", after := #[{ on := 4, ground := Ground.data }], guard := none }) (v := .tuple #[.agg #[.slice a6 m c6], .bool R]) rfl (by kernel_rfl) (by kernel_rfl) (by kernel_rfl) (fun _ _ _ h => h) (.inl ⟨by rfl, fun _ _ => by rfl⟩) (by assumption) ?_
        simp only [Act.put, List.setIfInBounds_toArray, List.set_cons_zero, List.set_cons_succ]
        refine wpAnyH_take (i := 6) (oi := { dst := some 33, op := Op.extract (Operand.tmp 27) 0, type := 25, pos := "exact.go:2572", after := #[{ on := 5, ground := Ground.data }], guard := none }) (v := .agg #[.slice a6 m c6]) rfl (by kernel_rfl) (by kernel_rfl) (by kernel_rfl) (fun _ _ _ h => h) (.inl ⟨by rfl, fun _ _ => by rfl⟩) (by assumption) ?_
        simp only [Act.put, List.setIfInBounds_toArray, List.set_cons_zero, List.set_cons_succ]
        refine wpAnyH_take (i := 7) (oi := { dst := some 34, op := Op.extract (Operand.tmp 27) 1, type := 4, pos := "exact.go:2572", after := #[{ on := 5, ground := Ground.data }, { on := 9, ground := Ground.gcOnly Departure.lateStores }], guard := none }) (v := .bool R) rfl (by kernel_rfl) (by kernel_rfl) (by kernel_rfl) (fun _ _ _ h => h) (.inl ⟨by rfl, fun _ _ => by rfl⟩) (by assumption) ?_
        simp only [Act.put, List.setIfInBounds_toArray, List.set_cons_zero, List.set_cons_succ]
        refine wpAnyH_ready (rs := [9]) (by kernel_rfl) (by simp) (AllReadyH.cons (o := { dst := none, op := Op.store 25 (Operand.tmp 6) (Operand.tmp 33), type := 0, pos := "exact.go:2572", after := #[{ on := 8, ground := Ground.data }, { on := 6, ground := Ground.data }, { on := 4, ground := Ground.chain }, { on := 0, ground := Ground.phase }, { on := 1, ground := Ground.phase }, { on := 2, ground := Ground.phase }, { on := 3, ground := Ground.phase }, { on := 4, ground := Ground.phase }, { on := 5, ground := Ground.phase }, { on := 6, ground := Ground.phase }, { on := 7, ground := Ground.textOnly Departure.lateStores }, { on := 8, ground := Ground.phase }], guard := none }) rfl (fun K hK => ?_) AllReadyH.nil)
        rw [if_pos (by rfl)]
        refine wp_store_mid _ _ _ rfl _ _ #[.slice a6 m c6] rfl rfl (there1 AE) infoSc (by simp [Value.oneCell']) ?_
        simp only [Act.put]
        replace AE := arr_one (u := .slice a6 m c6) AE
        replace B := bel_one B (show w.heap.size ≤ w3.heap.size by omega) (.slice a6 m c6)
        replace AA := arr_setO AA (g := w3.heap.size) (by omega) [.slice a6 m c6]
        replace AB := arr_setO AB (g := w3.heap.size) (by omega) [.slice a6 m c6]
        replace hV := vr_setO hV (g := w3.heap.size) (by omega) [.slice a6 m c6]
        replace o6 := own_setCells o6 io6 (E := w3.heap.size) (by omega) [.slice a6 m c6]
        refine hK.out _ _ ⟨range1 AA, range1 AB⟩ (fun hHeld => ?_)
        clear hK K
        refine wpAnyH_ready (rs := [10]) (by kernel_rfl) (by simp) (AllReadyH.cons (o := { dst := some 7, op := Op.assign (Operand.tmp 34), type := 4, pos := "exact.go:2572", after := #[{ on := 7, ground := Ground.data }, { on := 9, ground := Ground.chain }, { on := 0, ground := Ground.phase }, { on := 1, ground := Ground.phase }, { on := 2, ground := Ground.phase }, { on := 3, ground := Ground.phase }, { on := 4, ground := Ground.phase }, { on := 5, ground := Ground.phase }, { on := 6, ground := Ground.phase }, { on := 7, ground := Ground.phase }, { on := 8, ground := Ground.phase }, { on := 9, ground := Ground.phase }], guard := none }) rfl (fun K hK => ?_) AllReadyH.nil)
        go_simp
        refine hK.out _ _ ⟨range1 AA, range1 AB⟩ (fun hHeld => ?_)
        clear hK K
        refine wpAnyH_done (by kernel_rfl) ?_ _
        go_wp2
        go_meet
        have hsz : (w13.setCells w3.heap.size 0 [.slice a6 m c6]).heap.size = w13.heap.size := size_one _ _ _
        case rel => exact ⟨w3.heap.size, a6, c6, rfl, rfl, AE, own_base o6 (by omega), fun k hk => by have := io6 k hk; omega, by omega, by omega, B, AA, AB, hV⟩
    · skip
      go_simp
      obtain ⟨V15, hVe⟩ : ∃ V, V = wD6.alloc (.cells #[.slice none 0 0] 25) := ⟨_, rfl⟩
      have bV : Below wD6.heap.size wD6 V15 := by rw [hVe]; exact (Below.refl _ _).alloc (Nat.le_refl _) _
      have z15 : V15.heap.size = wD6.heap.size + 1 := by rw [hVe]; simp
      have AE : Arr V15 wD6.heap.size 25 [.slice none 0 0] := by rw [hVe]; exact Arr.new wD6 [.slice none 0 0] _
      replace B := B.trans (bV.mono B.size)
      replace AA := AA.kept bV
      replace AB := AB.kept bV
      replace hV := hV.kept bV
      rw [← hVe]
      clear bV hVe
      refine hK.out _ _ ⟨range1 AA, range1 AB⟩ (fun hHeld => ?_)
      clear hK K
      refine wpAnyH_ready (rs := [1]) (by kernel_rfl) (by simp) (AllReadyH.cons (o := { dst := some 29, op := Op.call { callee := Callee.value (Operand.func 24), args := #[Operand.tmp 28], argTypes := #[37] }, type := 25, pos := "exact.go:2572", after := #[{ on := 0, ground := Ground.data }], guard := none }) rfl (fun K hK => ?_) AllReadyH.nil)
      go_simp
      refine (toScC aA nA cA xsA _ (hA.below B) (by omega)).mono ?_
      rintro e w16 ⟨yA6, kA6, rfl, _, hxyA6, hb16⟩
      have z16 := hb16.size
      replace B := B.trans (hb16.mono B.size)
      replace AA := AA.kept hb16
      replace AB := AB.kept hb16
      replace hV := hV.kept hb16
      replace AE := AE.kept hb16
      clear hb16
      go_wp2_with fail
      refine hK.out _ _ ⟨range1 AA, range1 AB⟩ (fun hHeld => ?_)
      clear hK K
      refine wpAnyH_ready (rs := [3]) (by kernel_rfl) (by simp) (AllReadyH.cons (o := { dst := some 31, op := Op.call { callee := Callee.value (Operand.func 24), args := #[Operand.tmp 30], argTypes := #[37] }, type := 25, pos := "exact.go:2572", after := #[{ on := 2, ground := Ground.data }, { on := 1, ground := Ground.chain }], guard := none }) rfl (fun K hK => ?_) AllReadyH.nil)
      go_simp
      refine (toScC aB nB cB xsB _ (hB.below B) (by omega)).mono ?_
      rintro e w17 ⟨yB6, kB6, rfl, _, hxyB6, hb17⟩
      have z17 := hb17.size
      replace B := B.trans (hb17.mono B.size)
      replace AA := AA.kept hb17
      replace AB := AB.kept hb17
      replace hV := hV.kept hb17
      replace AE := AE.kept hb17
      replace hxyA6 := hxyA6.below hb17
      clear hb17
      go_wp2_with fail
      refine hK.out _ _ ⟨range1 AA, range1 AB⟩ (fun hHeld => ?_)
      clear hK K
      refine wpAnyH_ready (rs := [4]) (by kernel_rfl) (by simp) (AllReadyH.cons (o := { dst := some 32, op := Op.call { callee := Callee.value (Operand.func 33), args := #[Operand.tmp 29, Operand.tmp 31], argTypes := #[25, 25] }, type := 28, pos := "exact.go:2572", after := #[{ on := 1, ground := Ground.data }, { on := 3, ground := Ground.data }, { on := 3, ground := Ground.chain }], guard := none }) rfl (fun K hK => ?_) AllReadyH.nil)
      go_simp
      refine (HS.out yA6 kA6 yB6 kB6 _ hxyA6 hxyB6 ).mono ?_
      rintro e w18 ⟨v6, rfl, ⟨a6, c6, rfl, o6⟩, hb18⟩
      have z18 := hb18.size
      replace B := B.trans (hb18.mono B.size)
      replace AA := AA.kept hb18
      replace AB := AB.kept hb18
      replace hV := hV.kept hb18
      replace AE := AE.kept hb18
      replace hxyA6 := hxyA6.below hb18
      replace hxyB6 := hxyB6.below hb18
      clear hb18
      clear hxyA6
      clear hxyB6
      rw [HM.out] at o6 ⊢
      have io6 := In.of o6
      go_wp2_with fail
      refine hK.out _ _ ⟨range1 AA, range1 AB⟩ (fun hHeld => ?_)
      clear hK K
      refine wpAnyH_take (i := 5) (oi := { dst := some 27, op := Op.move (Operand.tmp 32), type := 28, pos := "exact.go:2572", after := #[{ on := 4, ground := Ground.data }], guard := none }) (v := .tuple #[.agg #[.slice a6 m c6], .bool R]) rfl (by kernel_rfl) (by kernel_rfl) (by kernel_rfl) (fun _ _ _ h => h) (.inl ⟨by rfl, fun _ _ => by rfl⟩) (by assumption) ?_
      simp only [Act.put, List.setIfInBounds_toArray, List.set_cons_zero, List.set_cons_succ]
      refine wpAnyH_take (i := 6) (oi := { dst := some 33, op := Op.extract (Operand.tmp 27) 0, type := 25, pos := "exact.go:2572", after := #[{ on := 5, ground := Ground.data }], guard := none }) (v := .agg #[.slice a6 m c6]) rfl (by kernel_rfl) (by kernel_rfl) (by kernel_rfl) (fun _ _ _ h => h) (.inl ⟨by rfl, fun _ _ => by rfl⟩) (by assumption) ?_
      simp only [Act.put, List.setIfInBounds_toArray, List.set_cons_zero, List.set_cons_succ]
      refine wpAnyH_take (i := 7) (oi := { dst := some 34, op := Op.extract (Operand.tmp 27) 1, type := 4, pos := "exact.go:2572", after := #[{ on := 5, ground := Ground.data }, { on := 9, ground := Ground.gcOnly Departure.lateStores }], guard := none }) (v := .bool R) rfl (by kernel_rfl) (by kernel_rfl) (by kernel_rfl) (fun _ _ _ h => h) (.inl ⟨by rfl, fun _ _ => by rfl⟩) (by assumption) ?_
      simp only [Act.put, List.setIfInBounds_toArray, List.set_cons_zero, List.set_cons_succ]
      refine wpAnyH_ready (rs := [9]) (by kernel_rfl) (by simp) (AllReadyH.cons (o := { dst := none, op := Op.store 25 (Operand.tmp 6) (Operand.tmp 33), type := 0, pos := "exact.go:2572", after := #[{ on := 8, ground := Ground.data }, { on := 6, ground := Ground.data }, { on := 4, ground := Ground.chain }, { on := 0, ground := Ground.phase }, { on := 1, ground := Ground.phase }, { on := 2, ground := Ground.phase }, { on := 3, ground := Ground.phase }, { on := 4, ground := Ground.phase }, { on := 5, ground := Ground.phase }, { on := 6, ground := Ground.phase }, { on := 7, ground := Ground.textOnly Departure.lateStores }, { on := 8, ground := Ground.phase }], guard := none }) rfl (fun K hK => ?_) AllReadyH.nil)
      rw [if_pos (by rfl)]
      refine wp_store_mid _ _ _ rfl _ _ #[.slice a6 m c6] rfl rfl (there1 AE) infoSc (by simp [Value.oneCell']) ?_
      simp only [Act.put]
      replace AE := arr_one (u := .slice a6 m c6) AE
      replace B := bel_one B (show w.heap.size ≤ wD6.heap.size by omega) (.slice a6 m c6)
      replace AA := arr_setO AA (g := wD6.heap.size) (by omega) [.slice a6 m c6]
      replace AB := arr_setO AB (g := wD6.heap.size) (by omega) [.slice a6 m c6]
      replace hV := vr_setO hV (g := wD6.heap.size) (by omega) [.slice a6 m c6]
      replace o6 := own_setCells o6 io6 (E := wD6.heap.size) (by omega) [.slice a6 m c6]
      refine hK.out _ _ ⟨range1 AA, range1 AB⟩ (fun hHeld => ?_)
      clear hK K
      refine wpAnyH_ready (rs := [10]) (by kernel_rfl) (by simp) (AllReadyH.cons (o := { dst := some 7, op := Op.assign (Operand.tmp 34), type := 4, pos := "exact.go:2572", after := #[{ on := 7, ground := Ground.data }, { on := 9, ground := Ground.chain }, { on := 0, ground := Ground.phase }, { on := 1, ground := Ground.phase }, { on := 2, ground := Ground.phase }, { on := 3, ground := Ground.phase }, { on := 4, ground := Ground.phase }, { on := 5, ground := Ground.phase }, { on := 6, ground := Ground.phase }, { on := 7, ground := Ground.phase }, { on := 8, ground := Ground.phase }, { on := 9, ground := Ground.phase }], guard := none }) rfl (fun K hK => ?_) AllReadyH.nil)
      go_simp
      refine hK.out _ _ ⟨range1 AA, range1 AB⟩ (fun hHeld => ?_)
      clear hK K
      refine wpAnyH_done (by kernel_rfl) ?_ _
      go_wp2
      go_meet
      have hsz : (w18.setCells wD6.heap.size 0 [.slice a6 m c6]).heap.size = w18.heap.size := size_one _ _ _
      case rel => exact ⟨wD6.heap.size, a6, c6, rfl, rfl, AE, own_base o6 (by omega), fun k hk => by have := io6 k hk; omega, by omega, by omega, B, AA, AB, hV⟩
  case rest =>
    clear B AA AB hV bD
    obtain ⟨E6', a6, c6, rfl, rfl, E6, o6, io6, zE6, zF6, B, AA, AB, hV⟩ := hcut
    obtain ⟨wc6, hwc⟩ : ∃ V, V = wc := ⟨_, rfl⟩
    rw [← hwc] at E6 o6 io6 zF6 B AA AB hV ⊢
    clear hwc
    clear HS
    have cAA := cell1 AA
    go_wp2_with fail
    clear cAA
    refine (toScC aA nA cA xsA _ (hA.below B) (by omega)).mono ?_
    rintro e w21 ⟨pA, qA, rfl, oxA, hxpA, hb21⟩
    have z21 := hb21.size
    replace B := B.trans (hb21.mono B.size)
    replace AA := AA.kept hb21
    replace AB := AB.kept hb21
    replace hV := hV.kept hb21
    replace o6 := own_below o6 hb21
    replace E6 := E6.kept hb21
    clear hb21
    clear hxpA
    have ioxA := In.of oxA
    obtain ⟨V22, hV22⟩ : ∃ V, V = w21.alloc (.cells #[.slice pA nA qA] 25) := ⟨_, rfl⟩
    have bV : Below w21.heap.size w21 V22 := by rw [hV22]; exact (Below.refl _ _).alloc (Nat.le_refl _) _
    have z22 : V22.heap.size = w21.heap.size + 1 := by rw [hV22]; simp
    have ExA : Arr V22 w21.heap.size 25 [.slice pA nA qA] := by rw [hV22]; exact Arr.new w21 [.slice pA nA qA] _
    replace B := B.trans (bV.mono B.size)
    replace AA := AA.kept bV
    replace AB := AB.kept bV
    replace hV := hV.kept bV
    replace o6 := own_below o6 bV
    replace E6 := E6.kept bV
    replace oxA := own_below oxA bV
    clear bV
    have cAB := cell1 AB
    rw [hV22] at cAB
    go_wp2_with fail
    rw [← hV22]
    clear cAB hV22
    refine (toScC aB nB cB xsB _ (hB.below B) (by omega)).mono ?_
    rintro e w23 ⟨pB, qB, rfl, oxB, hxpB, hb23⟩
    have z23 := hb23.size
    replace B := B.trans (hb23.mono B.size)
    replace AA := AA.kept hb23
    replace AB := AB.kept hb23
    replace hV := hV.kept hb23
    replace o6 := own_below o6 hb23
    replace E6 := E6.kept hb23
    replace oxA := own_below oxA hb23
    replace ExA := ExA.kept hb23
    clear hb23
    clear hxpB
    have ioxB := In.of oxB
    obtain ⟨V24, hV24⟩ : ∃ V, V = w23.alloc (.cells #[.slice pB nB qB] 25) := ⟨_, rfl⟩
    have bV : Below w23.heap.size w23 V24 := by rw [hV24]; exact (Below.refl _ _).alloc (Nat.le_refl _) _
    have z24 : V24.heap.size = w23.heap.size + 1 := by rw [hV24]; simp
    have ExB : Arr V24 w23.heap.size 25 [.slice pB nB qB] := by rw [hV24]; exact Arr.new w23 [.slice pB nB qB] _
    replace B := B.trans (bV.mono B.size)
    replace AA := AA.kept bV
    replace AB := AB.kept bV
    replace hV := hV.kept bV
    replace o6 := own_below o6 bV
    replace E6 := E6.kept bV
    replace oxA := own_below oxA bV
    replace ExA := ExA.kept bV
    replace oxB := own_below oxB bV
    clear bV
    have cExA := cell1 ExA
    rw [hV24] at cExA
    have cExB := cell1 ExB
    rw [hV24] at cExB
    go_wp2_with fail
    rw [← hV24]
    clear cExA cExB hV24
    refine (HI.out pA qA pB qB _ (is_of_own oxA HXA.out) (is_of_own oxB HXB.out) hV).mono ?_
    rintro e w25 ⟨v10, rfl, ⟨a10, c10, rfl, o10⟩, hb25⟩
    have z25 := hb25.size
    replace B := B.trans (hb25.mono B.size)
    replace AA := AA.kept hb25
    replace AB := AB.kept hb25
    replace hV := hV.kept hb25
    replace o6 := own_below o6 hb25
    replace E6 := E6.kept hb25
    replace oxA := own_below oxA hb25
    replace ExA := ExA.kept hb25
    replace oxB := own_below oxB hb25
    replace ExB := ExB.kept hb25
    clear hb25
    rw [HM.out] at o10 ⊢
    have io10 := In.of o10
    obtain ⟨V26, hV26⟩ : ∃ V, V = w25.alloc (.cells #[.slice a10 m c10] 25) := ⟨_, rfl⟩
    have bV : Below w25.heap.size w25 V26 := by rw [hV26]; exact (Below.refl _ _).alloc (Nat.le_refl _) _
    have z26 : V26.heap.size = w25.heap.size + 1 := by rw [hV26]; simp
    have E10 : Arr V26 w25.heap.size 25 [.slice a10 m c10] := by rw [hV26]; exact Arr.new w25 [.slice a10 m c10] _
    replace B := B.trans (bV.mono B.size)
    replace AA := AA.kept bV
    replace AB := AB.kept bV
    replace hV := hV.kept bV
    replace o6 := own_below o6 bV
    replace E6 := E6.kept bV
    replace oxA := own_below oxA bV
    replace ExA := ExA.kept bV
    replace oxB := own_below oxB bV
    replace ExB := ExB.kept bV
    replace o10 := own_below o10 bV
    clear bV
    have cE10 := cell1 E10
    rw [hV26] at cE10
    have cE6 := cell1 E6
    rw [hV26] at cE6
    go_wp2_with fail
    rw [← hV26]
    clear cE10 cE6 hV26
    refine (eqScC a10 a6 m c10 c6 L _ (is_of_own o10 HLb.out) (is_of_own o6 HLb.out) (by omega)).mono ?_
    rintro e w27 ⟨rfl, hb27⟩
    have z27 := hb27.size
    replace B := B.trans (hb27.mono B.size)
    replace AA := AA.kept hb27
    replace AB := AB.kept hb27
    replace hV := hV.kept hb27
    replace o6 := own_below o6 hb27
    replace E6 := E6.kept hb27
    replace oxA := own_below oxA hb27
    replace ExA := ExA.kept hb27
    replace oxB := own_below oxB hb27
    replace ExB := ExB.kept hb27
    replace o10 := own_below o10 hb27
    replace E10 := E10.kept hb27
    clear hb27
    have cExA := cell1 ExA
    have cAA := cell1 AA
    go_wp2
    clear cExA cAA
    have bD : Below w27.heap.size w27 w27.drew := (Below.refl _ _).drew
    replace B := B.trans (bD.mono B.size)
    replace AA := AA.kept bD
    replace AB := AB.kept bD
    replace hV := hV.kept bD
    replace o6 := own_below o6 bD
    replace E6 := E6.kept bD
    replace oxA := own_below oxA bD
    replace ExA := ExA.kept bD
    replace oxB := own_below oxB bD
    replace ExB := ExB.kept bD
    replace o10 := own_below o10 bD
    replace E10 := E10.kept bD
    clear bD
    have huE : Tryd.prog.underlying 25 = some _ := Tryd.underlying25
    have huL : Tryd.prog.underlying 37 = some _ := Tryd.underlying37
    refine wp_region_held_drew (S := fun W => W.rangeAt (w21.heap.size) 0 [.slice pA nA qA] ∧ W.rangeAt (w.heap.size) 0 [.slice aA nA cA]) (by kernel_rfl) ⟨range1 ExA, range1 AA⟩ (fun hHeld => ?_)
    obtain ⟨wDA, hD⟩ : ∃ V, V = w27.drew := ⟨_, rfl⟩
    rw [← hD] at hHeld B AA AB hV o6 E6 oxA ExA oxB ExB o10 E10 ⊢
    have zDA : wDA.heap.size ≤ w27.heap.size ∧ w27.heap.size ≤ wDA.heap.size := by rw [hD]; exact ⟨Nat.le_refl _, Nat.le_refl _⟩
    clear hD
    refine wpAnyH_take (i := 0) (oi := { dst := some 54, op := Op.load 25 (Operand.tmp 8), type := 25, pos := "exact.go:2579", after := #[], guard := none }) (v := _) rfl (by kernel_rfl) (by kernel_rfl) (by kernel_rfl) (fun _ _ _ h => h) (yieldsIf_load_mid (by rfl) _ _ rfl _ _ rfl ([.slice pA nA qA]) _ (fun _ h => h.1) huE rfl infoSc) (by assumption) ?_
    simp only [Act.put, List.setIfInBounds_toArray, List.set_cons_zero, List.set_cons_succ]
    refine wpAnyH_take (i := 1) (oi := { dst := some 55, op := Op.load 37 (Operand.tmp 2), type := 37, pos := "exact.go:2579", after := #[], guard := none }) (v := _) rfl (by kernel_rfl) (by kernel_rfl) (by kernel_rfl) (fun _ _ _ h => h) (yieldsIf_load_mid (by rfl) _ _ rfl _ _ rfl ([.slice aA nA cA]) _ (fun _ h => h.2) huL rfl infoScL) (by assumption) ?_
    simp only [Act.put, List.setIfInBounds_toArray, List.set_cons_zero, List.set_cons_succ]
    clear huE huL
    refine wpAnyH_ready (rs := [2]) (by kernel_rfl) (by simp) (AllReadyH.cons (o := { dst := some 56, op := Op.call { callee := Callee.value (Operand.func 24), args := #[Operand.tmp 55], argTypes := #[37] }, type := 25, pos := "exact.go:2579", after := #[{ on := 1, ground := Ground.data }], guard := none }) rfl (fun K hK => ?_) AllReadyH.nil)
    go_simp
    refine (toScC aA nA cA xsA _ (hA.below B) (by omega)).mono ?_
    rintro e w28 ⟨sA, tA, rfl, _, hxsA, hb28⟩
    have z28 := hb28.size
    replace B := B.trans (hb28.mono B.size)
    replace AA := AA.kept hb28
    replace AB := AB.kept hb28
    replace hV := hV.kept hb28
    replace o6 := own_below o6 hb28
    replace E6 := E6.kept hb28
    replace oxA := own_below oxA hb28
    replace ExA := ExA.kept hb28
    replace oxB := own_below oxB hb28
    replace ExB := ExB.kept hb28
    replace o10 := own_below o10 hb28
    replace E10 := E10.kept hb28
    clear hb28
    go_wp2_with fail
    refine hK.out _ _ ⟨range1 ExA, range1 AA⟩ (fun hHeld => ?_)
    clear hK K
    refine wpAnyH_ready (rs := [3]) (by kernel_rfl) (by simp) (AllReadyH.cons (o := { dst := some 57, op := Op.call { callee := Callee.value (Operand.func 25), args := #[Operand.tmp 54, Operand.tmp 56], argTypes := #[25, 25] }, type := 4, pos := "exact.go:2579", after := #[{ on := 0, ground := Ground.data }, { on := 2, ground := Ground.data }, { on := 2, ground := Ground.chain }], guard := none }) rfl (fun K hK => ?_) AllReadyH.nil)
    go_simp
    refine (eqScC pA sA nA qA tA xsA _ (is_of_own oxA HXA.out) hxsA (by omega)).mono ?_
    rintro e w29 ⟨rfl, hb29⟩
    have z29 := hb29.size
    replace B := B.trans (hb29.mono B.size)
    replace AA := AA.kept hb29
    replace AB := AB.kept hb29
    replace hV := hV.kept hb29
    replace o6 := own_below o6 hb29
    replace E6 := E6.kept hb29
    replace oxA := own_below oxA hb29
    replace ExA := ExA.kept hb29
    replace oxB := own_below oxB hb29
    replace ExB := ExB.kept hb29
    replace o10 := own_below o10 hb29
    replace E10 := E10.kept hb29
    replace hxsA := hxsA.below hb29
    clear hb29
    clear hxsA
    go_wp2_with fail
    refine hK.out _ _ ⟨range1 ExA, range1 AA⟩ (fun hHeld => ?_)
    clear hK K
    refine wpAnyH_ready (rs := [4]) (by kernel_rfl) (by simp) (AllReadyH.cons (o := { dst := some 58, op := Op.unOp UnOp.not 4 (Operand.tmp 57), type := 4, pos := "exact.go:2579", after := #[{ on := 3, ground := Ground.data }], guard := none }) rfl (fun K hK => ?_) AllReadyH.nil)
    go_simp
    refine hK.out _ _ ⟨range1 ExA, range1 AA⟩ (fun hHeld => ?_)
    clear hK K
    refine wpAnyH_done (by kernel_rfl) ?_ _
    clear hHeld
    have cExB := cell1 ExB
    have cAB := cell1 AB
    go_wp2
    clear cExB cAB
    have bD : Below w29.heap.size w29 w29.drew := (Below.refl _ _).drew
    replace B := B.trans (bD.mono B.size)
    replace AA := AA.kept bD
    replace AB := AB.kept bD
    replace hV := hV.kept bD
    replace o6 := own_below o6 bD
    replace E6 := E6.kept bD
    replace oxA := own_below oxA bD
    replace ExA := ExA.kept bD
    replace oxB := own_below oxB bD
    replace ExB := ExB.kept bD
    replace o10 := own_below o10 bD
    replace E10 := E10.kept bD
    clear bD
    have huE : Tryd.prog.underlying 25 = some _ := Tryd.underlying25
    have huL : Tryd.prog.underlying 37 = some _ := Tryd.underlying37
    refine wp_region_held_drew (S := fun W => W.rangeAt (w23.heap.size) 0 [.slice pB nB qB] ∧ W.rangeAt (w.heap.size + 1) 0 [.slice aB nB cB]) (by kernel_rfl) ⟨range1 ExB, range1 AB⟩ (fun hHeld => ?_)
    obtain ⟨wDB, hD⟩ : ∃ V, V = w29.drew := ⟨_, rfl⟩
    rw [← hD] at hHeld B AA AB hV o6 E6 oxA ExA oxB ExB o10 E10 ⊢
    have zDB : wDB.heap.size ≤ w29.heap.size ∧ w29.heap.size ≤ wDB.heap.size := by rw [hD]; exact ⟨Nat.le_refl _, Nat.le_refl _⟩
    clear hD
    refine wpAnyH_take (i := 0) (oi := { dst := some 59, op := Op.load 25 (Operand.tmp 9), type := 25, pos := "exact.go:2582", after := #[], guard := none }) (v := _) rfl (by kernel_rfl) (by kernel_rfl) (by kernel_rfl) (fun _ _ _ h => h) (yieldsIf_load_mid (by rfl) _ _ rfl _ _ rfl ([.slice pB nB qB]) _ (fun _ h => h.1) huE rfl infoSc) (by assumption) ?_
    simp only [Act.put, List.setIfInBounds_toArray, List.set_cons_zero, List.set_cons_succ]
    refine wpAnyH_take (i := 1) (oi := { dst := some 60, op := Op.load 37 (Operand.tmp 3), type := 37, pos := "exact.go:2582", after := #[], guard := none }) (v := _) rfl (by kernel_rfl) (by kernel_rfl) (by kernel_rfl) (fun _ _ _ h => h) (yieldsIf_load_mid (by rfl) _ _ rfl _ _ rfl ([.slice aB nB cB]) _ (fun _ h => h.2) huL rfl infoScL) (by assumption) ?_
    simp only [Act.put, List.setIfInBounds_toArray, List.set_cons_zero, List.set_cons_succ]
    clear huE huL
    refine wpAnyH_ready (rs := [2]) (by kernel_rfl) (by simp) (AllReadyH.cons (o := { dst := some 61, op := Op.call { callee := Callee.value (Operand.func 24), args := #[Operand.tmp 60], argTypes := #[37] }, type := 25, pos := "exact.go:2582", after := #[{ on := 1, ground := Ground.data }], guard := none }) rfl (fun K hK => ?_) AllReadyH.nil)
    go_simp
    refine (toScC aB nB cB xsB _ (hB.below B) (by omega)).mono ?_
    rintro e w30 ⟨sB, tB, rfl, _, hxsB, hb30⟩
    have z30 := hb30.size
    replace B := B.trans (hb30.mono B.size)
    replace AA := AA.kept hb30
    replace AB := AB.kept hb30
    replace hV := hV.kept hb30
    replace o6 := own_below o6 hb30
    replace E6 := E6.kept hb30
    replace oxA := own_below oxA hb30
    replace ExA := ExA.kept hb30
    replace oxB := own_below oxB hb30
    replace ExB := ExB.kept hb30
    replace o10 := own_below o10 hb30
    replace E10 := E10.kept hb30
    clear hb30
    go_wp2_with fail
    refine hK.out _ _ ⟨range1 ExB, range1 AB⟩ (fun hHeld => ?_)
    clear hK K
    refine wpAnyH_ready (rs := [3]) (by kernel_rfl) (by simp) (AllReadyH.cons (o := { dst := some 62, op := Op.call { callee := Callee.value (Operand.func 25), args := #[Operand.tmp 59, Operand.tmp 61], argTypes := #[25, 25] }, type := 4, pos := "exact.go:2582", after := #[{ on := 0, ground := Ground.data }, { on := 2, ground := Ground.data }, { on := 2, ground := Ground.chain }], guard := none }) rfl (fun K hK => ?_) AllReadyH.nil)
    go_simp
    refine (eqScC pB sB nB qB tB xsB _ (is_of_own oxB HXB.out) hxsB (by omega)).mono ?_
    rintro e w31 ⟨rfl, hb31⟩
    have z31 := hb31.size
    replace B := B.trans (hb31.mono B.size)
    replace AA := AA.kept hb31
    replace AB := AB.kept hb31
    replace hV := hV.kept hb31
    replace o6 := own_below o6 hb31
    replace E6 := E6.kept hb31
    replace oxA := own_below oxA hb31
    replace ExA := ExA.kept hb31
    replace oxB := own_below oxB hb31
    replace ExB := ExB.kept hb31
    replace o10 := own_below o10 hb31
    replace E10 := E10.kept hb31
    replace hxsB := hxsB.below hb31
    clear hb31
    clear hxsB
    go_wp2_with fail
    refine hK.out _ _ ⟨range1 ExB, range1 AB⟩ (fun hHeld => ?_)
    clear hK K
    refine wpAnyH_ready (rs := [4]) (by kernel_rfl) (by simp) (AllReadyH.cons (o := { dst := some 63, op := Op.unOp UnOp.not 4 (Operand.tmp 62), type := 4, pos := "exact.go:2582", after := #[{ on := 3, ground := Ground.data }], guard := none }) rfl (fun K hK => ?_) AllReadyH.nil)
    go_simp
    refine hK.out _ _ ⟨range1 ExB, range1 AB⟩ (fun hHeld => ?_)
    clear hK K
    refine wpAnyH_done (by kernel_rfl) ?_ _
    clear hHeld
    have cExA := cell1 ExA
    go_wp2_with fail
    clear cExA
    refine (markScC _ nA _ (1) xsA _ oxA (by omega) (by omega) (by omega)).mono ?_
    rintro e w32 ⟨rfl, moxA, g32⟩
    have z32 := g32.size
    replace B := B.grown g32 B.size (fun k hk => by have := (ioxA k hk).1; omega)
    replace AA := arr_mark AA g32 ioxA (by omega)
    replace AB := arr_mark AB g32 ioxA (by omega)
    replace hV := vr_mark hV g32 ioxA (by omega)
    replace o6 := own_kept o6 g32 (ioxA.apart io6 (by omega))
    replace E6 := arr_mark E6 g32 ioxA (by omega)
    replace ExA := arr_mark ExA g32 ioxA (by omega)
    replace oxB := own_kept oxB g32 (ioxA.apart ioxB (by omega))
    replace ExB := arr_mark ExB g32 ioxA (by omega)
    replace o10 := own_kept o10 g32 (ioxA.apart io10 (by omega))
    replace E10 := arr_mark E10 g32 ioxA (by omega)
    clear g32
    clear oxA moxA
    clear ExA
    have cExB := cell1 ExB
    go_wp2_with fail
    clear cExB
    refine (markScC _ nB _ (1 + (nA : Int)) xsB _ oxB (by omega) (by omega) (by omega)).mono ?_
    rintro e w33 ⟨rfl, moxB, g33⟩
    have z33 := g33.size
    replace B := B.grown g33 B.size (fun k hk => by have := (ioxB k hk).1; omega)
    replace AA := arr_mark AA g33 ioxB (by omega)
    replace AB := arr_mark AB g33 ioxB (by omega)
    replace hV := vr_mark hV g33 ioxB (by omega)
    replace o6 := own_kept o6 g33 (ioxB.apart io6 (by omega))
    replace E6 := arr_mark E6 g33 ioxB (by omega)
    replace ExB := arr_mark ExB g33 ioxB (by omega)
    replace o10 := own_kept o10 g33 (ioxB.apart io10 (by omega))
    replace E10 := arr_mark E10 g33 ioxB (by omega)
    clear g33
    clear oxB moxB
    clear ExB
    have hk0 : ¬ (1 + (nA : Int) + (nB : Int) < 0) := by omega
    have cE10 := cell1 E10
    have cE6 := cell1 E6
    go_wp2_with fail
    clear cE10 cE6
    refine (eqScC a10 a6 m c10 c6 L _ (is_of_own o10 HLb.out) (is_of_own o6 HLb.out) (by omega)).mono ?_
    rintro e w34 ⟨rfl, hb34⟩
    have z34 := hb34.size
    replace B := B.trans (hb34.mono B.size)
    replace AA := AA.kept hb34
    replace AB := AB.kept hb34
    replace hV := hV.kept hb34
    replace o6 := own_below o6 hb34
    replace E6 := E6.kept hb34
    replace o10 := own_below o10 hb34
    replace E10 := E10.kept hb34
    clear hb34
    have cE10 := cell1 E10
    go_wp2_with fail
    clear cE10
    refine (markScC _ m _ 1 L _ o10 (by omega) (by omega) (by omega)).mono ?_
    rintro e w35 ⟨rfl, mo10, g35⟩
    have z35 := g35.size
    replace B := B.grown g35 B.size (fun k hk => by have := (io10 k hk).1; omega)
    replace AA := arr_mark AA g35 io10 (by omega)
    replace AB := arr_mark AB g35 io10 (by omega)
    replace hV := vr_mark hV g35 io10 (by omega)
    replace o6 := own_kept o6 g35 (io10.apart io6 (by omega))
    replace E6 := arr_mark E6 g35 io10 (by omega)
    replace E10 := arr_mark E10 g35 io10 (by omega)
    clear g35
    replace o10 := mo10
    clear mo10
    have hm0 : ¬ ((1 : Int) + (m : Int) < 0) := by omega
    have hmm : ((1 : Int) + (m : Int) != 1 + (m : Int)) = false := by simp
    have HMB : Hid _ := marksI_int 1 m (by omega) (by omega) (by omega)
    have cE10 := cell1 E10
    go_wp2_with fail
    clear cE10
    refine (heldScC a10 m c10 1 _ (is_of_own o10 HMB.out) (by omega) (by omega) (by omega)).mono ?_
    rintro e w36 ⟨rfl, hb36⟩
    have z36 := hb36.size
    replace B := B.trans (hb36.mono B.size)
    replace AA := AA.kept hb36
    replace AB := AB.kept hb36
    replace hV := hV.kept hb36
    replace o6 := own_below o6 hb36
    replace E6 := E6.kept hb36
    replace o10 := own_below o10 hb36
    replace E10 := E10.kept hb36
    clear hb36
    have cAA := cell1 AA
    have cAB := cell1 AB
    go_wp2
    clear cAA cAB
    have bD : Below w36.heap.size w36 w36.drew := (Below.refl _ _).drew
    go_cut [15, 16] from 17 (fun s15 s16 wc => ∃ (E : Nat) (a15 : Option Addr) (c15 : Nat), s15 = .pointer (some ⟨E, 0, none⟩) ∧ s16 = .bool R ∧ Arr wc E 25 [.slice a15 m c15] ∧ wc.ownsRow w36.heap.size 49 1 (.slice a15 m c15) m (I64 L) ∧ In (.slice a15 m c15) w36.heap.size wc.heap.size ∧ w36.heap.size ≤ E ∧ E < wc.heap.size ∧ Below w.heap.size w wc ∧ Arr wc (w.heap.size) 37 [.slice aA nA cA] ∧ Arr wc (w.heap.size + 1) 37 [.slice aB nB cB] ∧ Vr wc 0 (I64 OL) ∧ wc.ownsRow w2.heap.size 3 1 (.slice a6 m c6) m (I64 L) ∧ Arr wc (E6') 25 [.slice a6 m c6] ∧ wc.ownsRow V24.heap.size 49 1 (.slice a10 m c10) m (I64 (marksI 1 m)) ∧ Arr wc (w25.heap.size) 25 [.slice a10 m c10])
    case first =>
      replace B := B.trans (bD.mono B.size)
      replace AA := AA.kept bD
      replace AB := AB.kept bD
      replace hV := hV.kept bD
      replace o6 := own_below o6 bD
      replace E6 := E6.kept bD
      replace o10 := own_below o10 bD
      replace E10 := E10.kept bD
      clear bD
      have hu : Tryd.prog.underlying 37 = some _ := Tryd.underlying37
      refine wp_region_held_drew (S := fun W => W.rangeAt w.heap.size 0 [.slice aA nA cA] ∧ W.rangeAt (w.heap.size + 1) 0 [.slice aB nB cB]) (by kernel_rfl) ⟨range1 AA, range1 AB⟩ (fun hHeld => ?_)
      obtain ⟨wD15, hD⟩ : ∃ V, V = w36.drew := ⟨_, rfl⟩
      rw [← hD] at hHeld B AA AB hV o6 E6 o10 E10 ⊢
      have zD15 : wD15.heap.size ≤ w36.heap.size ∧ w36.heap.size ≤ wD15.heap.size := by rw [hD]; exact ⟨Nat.le_refl _, Nat.le_refl _⟩
      clear hD
      refine wpAnyH_take (i := 0) (oi := { dst := some 95, op := Op.load 37 (Operand.tmp 2), type := 37, pos := "exact.go:2601", after := #[], guard := none }) (v := _) rfl (by kernel_rfl) (by kernel_rfl) (by kernel_rfl) (fun _ _ _ h => h) (yieldsIf_load_mid (by rfl) _ _ rfl _ _ rfl ([.slice aA nA cA]) _ (fun _ h => h.1) hu rfl infoScL) (by assumption) ?_
      simp only [Act.put, List.setIfInBounds_toArray, List.set_cons_zero, List.set_cons_succ]
      refine wpAnyH_take (i := 2) (oi := { dst := some 97, op := Op.load 37 (Operand.tmp 3), type := 37, pos := "exact.go:2601", after := #[], guard := none }) (v := _) rfl (by kernel_rfl) (by kernel_rfl) (by kernel_rfl) (fun _ _ _ h => h) (yieldsIf_load_mid (by rfl) _ _ rfl _ _ rfl ([.slice aB nB cB]) _ (fun _ h => h.2) hu rfl infoScL) (by assumption) ?_
      simp only [Act.put, List.setIfInBounds_toArray, List.set_cons_zero, List.set_cons_succ]
      refine wpAnyH_ready (rs := [1, 8]) (by kernel_rfl) (by simp) (AllReadyH.cons (o := { dst := some 96, op := Op.call { callee := Callee.value (Operand.func 24), args := #[Operand.tmp 95], argTypes := #[37] }, type := 25, pos := "exact.go:2601", after := #[{ on := 0, ground := Ground.data }], guard := none }) rfl (fun K hK => ?_) (AllReadyH.cons (o := { dst := some 15, op := Op.alloc 25, type := 0, pos := "exact.go:2601", after := #[], guard := none }) rfl (fun K hK => ?_) AllReadyH.nil))
      · skip
        go_simp
        refine (toScC aA nA cA xsA _ (hA.below B) (by omega)).mono ?_
        rintro e w37 ⟨yA15, kA15, rfl, _, hxyA15, hb37⟩
        have z37 := hb37.size
        replace B := B.trans (hb37.mono B.size)
        replace AA := AA.kept hb37
        replace AB := AB.kept hb37
        replace hV := hV.kept hb37
        replace o6 := own_below o6 hb37
        replace E6 := E6.kept hb37
        replace o10 := own_below o10 hb37
        replace E10 := E10.kept hb37
        clear hb37
        go_wp2_with fail
        refine hK.out _ _ ⟨range1 AA, range1 AB⟩ (fun hHeld => ?_)
        clear hK K
        refine wpAnyH_ready (rs := [3, 8]) (by kernel_rfl) (by simp) (AllReadyH.cons (o := { dst := some 98, op := Op.call { callee := Callee.value (Operand.func 24), args := #[Operand.tmp 97], argTypes := #[37] }, type := 25, pos := "exact.go:2601", after := #[{ on := 2, ground := Ground.data }, { on := 1, ground := Ground.chain }], guard := none }) rfl (fun K hK => ?_) (AllReadyH.cons (o := { dst := some 15, op := Op.alloc 25, type := 0, pos := "exact.go:2601", after := #[], guard := none }) rfl (fun K hK => ?_) AllReadyH.nil))
        · skip
          go_simp
          refine (toScC aB nB cB xsB _ (hB.below B) (by omega)).mono ?_
          rintro e w38 ⟨yB15, kB15, rfl, _, hxyB15, hb38⟩
          have z38 := hb38.size
          replace B := B.trans (hb38.mono B.size)
          replace AA := AA.kept hb38
          replace AB := AB.kept hb38
          replace hV := hV.kept hb38
          replace o6 := own_below o6 hb38
          replace E6 := E6.kept hb38
          replace o10 := own_below o10 hb38
          replace E10 := E10.kept hb38
          replace hxyA15 := hxyA15.below hb38
          clear hb38
          go_wp2_with fail
          refine hK.out _ _ ⟨range1 AA, range1 AB⟩ (fun hHeld => ?_)
          clear hK K
          refine wpAnyH_ready (rs := [4, 8]) (by kernel_rfl) (by simp) (AllReadyH.cons (o := { dst := some 99, op := Op.call { callee := Callee.value (Operand.func 12), args := #[Operand.tmp 96, Operand.tmp 98], argTypes := #[25, 25] }, type := 28, pos := "exact.go:2601", after := #[{ on := 1, ground := Ground.data }, { on := 3, ground := Ground.data }, { on := 3, ground := Ground.chain }], guard := none }) rfl (fun K hK => ?_) (AllReadyH.cons (o := { dst := some 15, op := Op.alloc 25, type := 0, pos := "exact.go:2601", after := #[], guard := none }) rfl (fun K hK => ?_) AllReadyH.nil))
          · skip
            go_simp
            refine (HI.out yA15 kA15 yB15 kB15 _ hxyA15 hxyB15 hV).mono ?_
            rintro e w39 ⟨v15, rfl, ⟨a15, c15, rfl, o15⟩, hb39⟩
            have z39 := hb39.size
            replace B := B.trans (hb39.mono B.size)
            replace AA := AA.kept hb39
            replace AB := AB.kept hb39
            replace hV := hV.kept hb39
            replace o6 := own_below o6 hb39
            replace E6 := E6.kept hb39
            replace o10 := own_below o10 hb39
            replace E10 := E10.kept hb39
            replace hxyA15 := hxyA15.below hb39
            replace hxyB15 := hxyB15.below hb39
            clear hb39
            clear hxyA15
            clear hxyB15
            rw [HM.out] at o15 ⊢
            have io15 := In.of o15
            go_wp2_with fail
            refine hK.out _ _ ⟨range1 AA, range1 AB⟩ (fun hHeld => ?_)
            clear hK K
            refine wpAnyH_take (i := 5) (oi := { dst := some 94, op := Op.move (Operand.tmp 99), type := 28, pos := "exact.go:2601", after := #[{ on := 4, ground := Ground.data }], guard := none }) (v := .tuple #[.agg #[.slice a15 m c15], .bool R]) rfl (by kernel_rfl) (by kernel_rfl) (by kernel_rfl) (fun _ _ _ h => h) (.inl ⟨by rfl, fun _ _ => by rfl⟩) (by assumption) ?_
            simp only [Act.put, List.setIfInBounds_toArray, List.set_cons_zero, List.set_cons_succ]
            refine wpAnyH_take (i := 6) (oi := { dst := some 100, op := Op.extract (Operand.tmp 94) 0, type := 25, pos := "exact.go:2601", after := #[{ on := 5, ground := Ground.data }], guard := none }) (v := .agg #[.slice a15 m c15]) rfl (by kernel_rfl) (by kernel_rfl) (by kernel_rfl) (fun _ _ _ h => h) (.inl ⟨by rfl, fun _ _ => by rfl⟩) (by assumption) ?_
            simp only [Act.put, List.setIfInBounds_toArray, List.set_cons_zero, List.set_cons_succ]
            refine wpAnyH_take (i := 7) (oi := { dst := some 101, op := Op.extract (Operand.tmp 94) 1, type := 4, pos := "exact.go:2601", after := #[{ on := 5, ground := Ground.data }, { on := 9, ground := Ground.gcOnly Departure.lateStores }], guard := none }) (v := .bool R) rfl (by kernel_rfl) (by kernel_rfl) (by kernel_rfl) (fun _ _ _ h => h) (.inl ⟨by rfl, fun _ _ => by rfl⟩) (by assumption) ?_
            simp only [Act.put, List.setIfInBounds_toArray, List.set_cons_zero, List.set_cons_succ]
            refine wpAnyH_ready (rs := [8]) (by kernel_rfl) (by simp) (AllReadyH.cons (o := { dst := some 15, op := Op.alloc 25, type := 0, pos := "exact.go:2601", after := #[], guard := none }) rfl (fun K hK => ?_) AllReadyH.nil)
            go_simp
            obtain ⟨V40, hVe⟩ : ∃ V, V = w39.alloc (.cells #[.slice none 0 0] 25) := ⟨_, rfl⟩
            have bV : Below w39.heap.size w39 V40 := by rw [hVe]; exact (Below.refl _ _).alloc (Nat.le_refl _) _
            have z40 : V40.heap.size = w39.heap.size + 1 := by rw [hVe]; simp
            have AE : Arr V40 w39.heap.size 25 [.slice none 0 0] := by rw [hVe]; exact Arr.new w39 [.slice none 0 0] _
            replace B := B.trans (bV.mono B.size)
            replace AA := AA.kept bV
            replace AB := AB.kept bV
            replace hV := hV.kept bV
            replace o6 := own_below o6 bV
            replace E6 := E6.kept bV
            replace o10 := own_below o10 bV
            replace E10 := E10.kept bV
            replace o15 := own_below o15 bV
            rw [← hVe]
            clear bV hVe
            refine hK.out _ _ ⟨range1 AA, range1 AB⟩ (fun hHeld => ?_)
            clear hK K
            refine wpAnyH_ready (rs := [9]) (by kernel_rfl) (by simp) (AllReadyH.cons (o := { dst := none, op := Op.store 25 (Operand.tmp 15) (Operand.tmp 100), type := 0, pos := "exact.go:2601", after := #[{ on := 8, ground := Ground.data }, { on := 6, ground := Ground.data }, { on := 4, ground := Ground.chain }, { on := 0, ground := Ground.phase }, { on := 1, ground := Ground.phase }, { on := 2, ground := Ground.phase }, { on := 3, ground := Ground.phase }, { on := 4, ground := Ground.phase }, { on := 5, ground := Ground.phase }, { on := 6, ground := Ground.phase }, { on := 7, ground := Ground.textOnly Departure.lateStores }, { on := 8, ground := Ground.phase }], guard := none }) rfl (fun K hK => ?_) AllReadyH.nil)
            rw [if_pos (by rfl)]
            refine wp_store_mid _ _ _ rfl _ _ #[.slice a15 m c15] rfl rfl (there1 AE) infoSc (by simp [Value.oneCell']) ?_
            simp only [Act.put]
            replace AE := arr_one (u := .slice a15 m c15) AE
            replace B := bel_one B (show w.heap.size ≤ w39.heap.size by omega) (.slice a15 m c15)
            replace AA := arr_setO AA (g := w39.heap.size) (by omega) [.slice a15 m c15]
            replace AB := arr_setO AB (g := w39.heap.size) (by omega) [.slice a15 m c15]
            replace hV := vr_setO hV (g := w39.heap.size) (by omega) [.slice a15 m c15]
            replace o6 := own_setCells o6 io6 (E := w39.heap.size) (by omega) [.slice a15 m c15]
            replace E6 := arr_setO E6 (g := w39.heap.size) (by omega) [.slice a15 m c15]
            replace o10 := own_setCells o10 io10 (E := w39.heap.size) (by omega) [.slice a15 m c15]
            replace E10 := arr_setO E10 (g := w39.heap.size) (by omega) [.slice a15 m c15]
            replace o15 := own_setCells o15 io15 (E := w39.heap.size) (by omega) [.slice a15 m c15]
            refine hK.out _ _ ⟨range1 AA, range1 AB⟩ (fun hHeld => ?_)
            clear hK K
            refine wpAnyH_ready (rs := [10]) (by kernel_rfl) (by simp) (AllReadyH.cons (o := { dst := some 16, op := Op.assign (Operand.tmp 101), type := 4, pos := "exact.go:2601", after := #[{ on := 7, ground := Ground.data }, { on := 9, ground := Ground.chain }, { on := 0, ground := Ground.phase }, { on := 1, ground := Ground.phase }, { on := 2, ground := Ground.phase }, { on := 3, ground := Ground.phase }, { on := 4, ground := Ground.phase }, { on := 5, ground := Ground.phase }, { on := 6, ground := Ground.phase }, { on := 7, ground := Ground.phase }, { on := 8, ground := Ground.phase }, { on := 9, ground := Ground.phase }], guard := none }) rfl (fun K hK => ?_) AllReadyH.nil)
            go_simp
            refine hK.out _ _ ⟨range1 AA, range1 AB⟩ (fun hHeld => ?_)
            clear hK K
            refine wpAnyH_done (by kernel_rfl) ?_ _
            go_wp2
            go_meet
            have hsz : (V40.setCells w39.heap.size 0 [.slice a15 m c15]).heap.size = V40.heap.size := size_one _ _ _
            case rel => exact ⟨w39.heap.size, a15, c15, rfl, rfl, AE, own_base o15 (by omega), fun k hk => by have := io15 k hk; omega, by omega, by omega, B, AA, AB, hV, o6, E6, o10, E10⟩
          · skip
            go_simp
            obtain ⟨V42, hVe⟩ : ∃ V, V = w38.alloc (.cells #[.slice none 0 0] 25) := ⟨_, rfl⟩
            have bV : Below w38.heap.size w38 V42 := by rw [hVe]; exact (Below.refl _ _).alloc (Nat.le_refl _) _
            have z42 : V42.heap.size = w38.heap.size + 1 := by rw [hVe]; simp
            have AE : Arr V42 w38.heap.size 25 [.slice none 0 0] := by rw [hVe]; exact Arr.new w38 [.slice none 0 0] _
            replace B := B.trans (bV.mono B.size)
            replace AA := AA.kept bV
            replace AB := AB.kept bV
            replace hV := hV.kept bV
            replace o6 := own_below o6 bV
            replace E6 := E6.kept bV
            replace o10 := own_below o10 bV
            replace E10 := E10.kept bV
            replace hxyA15 := hxyA15.below bV
            replace hxyB15 := hxyB15.below bV
            rw [← hVe]
            clear bV hVe
            refine hK.out _ _ ⟨range1 AA, range1 AB⟩ (fun hHeld => ?_)
            clear hK K
            refine wpAnyH_ready (rs := [4]) (by kernel_rfl) (by simp) (AllReadyH.cons (o := { dst := some 99, op := Op.call { callee := Callee.value (Operand.func 12), args := #[Operand.tmp 96, Operand.tmp 98], argTypes := #[25, 25] }, type := 28, pos := "exact.go:2601", after := #[{ on := 1, ground := Ground.data }, { on := 3, ground := Ground.data }, { on := 3, ground := Ground.chain }], guard := none }) rfl (fun K hK => ?_) AllReadyH.nil)
            go_simp
            refine (HI.out yA15 kA15 yB15 kB15 _ hxyA15 hxyB15 hV).mono ?_
            rintro e w43 ⟨v15, rfl, ⟨a15, c15, rfl, o15⟩, hb43⟩
            have z43 := hb43.size
            replace B := B.trans (hb43.mono B.size)
            replace AA := AA.kept hb43
            replace AB := AB.kept hb43
            replace hV := hV.kept hb43
            replace o6 := own_below o6 hb43
            replace E6 := E6.kept hb43
            replace o10 := own_below o10 hb43
            replace E10 := E10.kept hb43
            replace hxyA15 := hxyA15.below hb43
            replace hxyB15 := hxyB15.below hb43
            replace AE := AE.kept hb43
            clear hb43
            clear hxyA15
            clear hxyB15
            rw [HM.out] at o15 ⊢
            have io15 := In.of o15
            go_wp2_with fail
            refine hK.out _ _ ⟨range1 AA, range1 AB⟩ (fun hHeld => ?_)
            clear hK K
            refine wpAnyH_take (i := 5) (oi := { dst := some 94, op := Op.move (Operand.tmp 99), type := 28, pos := "exact.go:2601", after := #[{ on := 4, ground := Ground.data }], guard := none }) (v := .tuple #[.agg #[.slice a15 m c15], .bool R]) rfl (by kernel_rfl) (by kernel_rfl) (by kernel_rfl) (fun _ _ _ h => h) (.inl ⟨by rfl, fun _ _ => by rfl⟩) (by assumption) ?_
            simp only [Act.put, List.setIfInBounds_toArray, List.set_cons_zero, List.set_cons_succ]
            refine wpAnyH_take (i := 6) (oi := { dst := some 100, op := Op.extract (Operand.tmp 94) 0, type := 25, pos := "exact.go:2601", after := #[{ on := 5, ground := Ground.data }], guard := none }) (v := .agg #[.slice a15 m c15]) rfl (by kernel_rfl) (by kernel_rfl) (by kernel_rfl) (fun _ _ _ h => h) (.inl ⟨by rfl, fun _ _ => by rfl⟩) (by assumption) ?_
            simp only [Act.put, List.setIfInBounds_toArray, List.set_cons_zero, List.set_cons_succ]
            refine wpAnyH_take (i := 7) (oi := { dst := some 101, op := Op.extract (Operand.tmp 94) 1, type := 4, pos := "exact.go:2601", after := #[{ on := 5, ground := Ground.data }, { on := 9, ground := Ground.gcOnly Departure.lateStores }], guard := none }) (v := .bool R) rfl (by kernel_rfl) (by kernel_rfl) (by kernel_rfl) (fun _ _ _ h => h) (.inl ⟨by rfl, fun _ _ => by rfl⟩) (by assumption) ?_
            simp only [Act.put, List.setIfInBounds_toArray, List.set_cons_zero, List.set_cons_succ]
            refine wpAnyH_ready (rs := [9]) (by kernel_rfl) (by simp) (AllReadyH.cons (o := { dst := none, op := Op.store 25 (Operand.tmp 15) (Operand.tmp 100), type := 0, pos := "exact.go:2601", after := #[{ on := 8, ground := Ground.data }, { on := 6, ground := Ground.data }, { on := 4, ground := Ground.chain }, { on := 0, ground := Ground.phase }, { on := 1, ground := Ground.phase }, { on := 2, ground := Ground.phase }, { on := 3, ground := Ground.phase }, { on := 4, ground := Ground.phase }, { on := 5, ground := Ground.phase }, { on := 6, ground := Ground.phase }, { on := 7, ground := Ground.textOnly Departure.lateStores }, { on := 8, ground := Ground.phase }], guard := none }) rfl (fun K hK => ?_) AllReadyH.nil)
            rw [if_pos (by rfl)]
            refine wp_store_mid _ _ _ rfl _ _ #[.slice a15 m c15] rfl rfl (there1 AE) infoSc (by simp [Value.oneCell']) ?_
            simp only [Act.put]
            replace AE := arr_one (u := .slice a15 m c15) AE
            replace B := bel_one B (show w.heap.size ≤ w38.heap.size by omega) (.slice a15 m c15)
            replace AA := arr_setO AA (g := w38.heap.size) (by omega) [.slice a15 m c15]
            replace AB := arr_setO AB (g := w38.heap.size) (by omega) [.slice a15 m c15]
            replace hV := vr_setO hV (g := w38.heap.size) (by omega) [.slice a15 m c15]
            replace o6 := own_setCells o6 io6 (E := w38.heap.size) (by omega) [.slice a15 m c15]
            replace E6 := arr_setO E6 (g := w38.heap.size) (by omega) [.slice a15 m c15]
            replace o10 := own_setCells o10 io10 (E := w38.heap.size) (by omega) [.slice a15 m c15]
            replace E10 := arr_setO E10 (g := w38.heap.size) (by omega) [.slice a15 m c15]
            replace o15 := own_setCells o15 io15 (E := w38.heap.size) (by omega) [.slice a15 m c15]
            refine hK.out _ _ ⟨range1 AA, range1 AB⟩ (fun hHeld => ?_)
            clear hK K
            refine wpAnyH_ready (rs := [10]) (by kernel_rfl) (by simp) (AllReadyH.cons (o := { dst := some 16, op := Op.assign (Operand.tmp 101), type := 4, pos := "exact.go:2601", after := #[{ on := 7, ground := Ground.data }, { on := 9, ground := Ground.chain }, { on := 0, ground := Ground.phase }, { on := 1, ground := Ground.phase }, { on := 2, ground := Ground.phase }, { on := 3, ground := Ground.phase }, { on := 4, ground := Ground.phase }, { on := 5, ground := Ground.phase }, { on := 6, ground := Ground.phase }, { on := 7, ground := Ground.phase }, { on := 8, ground := Ground.phase }, { on := 9, ground := Ground.phase }], guard := none }) rfl (fun K hK => ?_) AllReadyH.nil)
            go_simp
            refine hK.out _ _ ⟨range1 AA, range1 AB⟩ (fun hHeld => ?_)
            clear hK K
            refine wpAnyH_done (by kernel_rfl) ?_ _
            go_wp2
            go_meet
            have hsz : (w43.setCells w38.heap.size 0 [.slice a15 m c15]).heap.size = w43.heap.size := size_one _ _ _
            case rel => exact ⟨w38.heap.size, a15, c15, rfl, rfl, AE, own_base o15 (by omega), fun k hk => by have := io15 k hk; omega, by omega, by omega, B, AA, AB, hV, o6, E6, o10, E10⟩
        · skip
          go_simp
          obtain ⟨V45, hVe⟩ : ∃ V, V = w37.alloc (.cells #[.slice none 0 0] 25) := ⟨_, rfl⟩
          have bV : Below w37.heap.size w37 V45 := by rw [hVe]; exact (Below.refl _ _).alloc (Nat.le_refl _) _
          have z45 : V45.heap.size = w37.heap.size + 1 := by rw [hVe]; simp
          have AE : Arr V45 w37.heap.size 25 [.slice none 0 0] := by rw [hVe]; exact Arr.new w37 [.slice none 0 0] _
          replace B := B.trans (bV.mono B.size)
          replace AA := AA.kept bV
          replace AB := AB.kept bV
          replace hV := hV.kept bV
          replace o6 := own_below o6 bV
          replace E6 := E6.kept bV
          replace o10 := own_below o10 bV
          replace E10 := E10.kept bV
          replace hxyA15 := hxyA15.below bV
          rw [← hVe]
          clear bV hVe
          refine hK.out _ _ ⟨range1 AA, range1 AB⟩ (fun hHeld => ?_)
          clear hK K
          refine wpAnyH_ready (rs := [3]) (by kernel_rfl) (by simp) (AllReadyH.cons (o := { dst := some 98, op := Op.call { callee := Callee.value (Operand.func 24), args := #[Operand.tmp 97], argTypes := #[37] }, type := 25, pos := "exact.go:2601", after := #[{ on := 2, ground := Ground.data }, { on := 1, ground := Ground.chain }], guard := none }) rfl (fun K hK => ?_) AllReadyH.nil)
          go_simp
          refine (toScC aB nB cB xsB _ (hB.below B) (by omega)).mono ?_
          rintro e w46 ⟨yB15, kB15, rfl, _, hxyB15, hb46⟩
          have z46 := hb46.size
          replace B := B.trans (hb46.mono B.size)
          replace AA := AA.kept hb46
          replace AB := AB.kept hb46
          replace hV := hV.kept hb46
          replace o6 := own_below o6 hb46
          replace E6 := E6.kept hb46
          replace o10 := own_below o10 hb46
          replace E10 := E10.kept hb46
          replace hxyA15 := hxyA15.below hb46
          replace AE := AE.kept hb46
          clear hb46
          go_wp2_with fail
          refine hK.out _ _ ⟨range1 AA, range1 AB⟩ (fun hHeld => ?_)
          clear hK K
          refine wpAnyH_ready (rs := [4]) (by kernel_rfl) (by simp) (AllReadyH.cons (o := { dst := some 99, op := Op.call { callee := Callee.value (Operand.func 12), args := #[Operand.tmp 96, Operand.tmp 98], argTypes := #[25, 25] }, type := 28, pos := "exact.go:2601", after := #[{ on := 1, ground := Ground.data }, { on := 3, ground := Ground.data }, { on := 3, ground := Ground.chain }], guard := none }) rfl (fun K hK => ?_) AllReadyH.nil)
          go_simp
          refine (HI.out yA15 kA15 yB15 kB15 _ hxyA15 hxyB15 hV).mono ?_
          rintro e w47 ⟨v15, rfl, ⟨a15, c15, rfl, o15⟩, hb47⟩
          have z47 := hb47.size
          replace B := B.trans (hb47.mono B.size)
          replace AA := AA.kept hb47
          replace AB := AB.kept hb47
          replace hV := hV.kept hb47
          replace o6 := own_below o6 hb47
          replace E6 := E6.kept hb47
          replace o10 := own_below o10 hb47
          replace E10 := E10.kept hb47
          replace hxyA15 := hxyA15.below hb47
          replace AE := AE.kept hb47
          replace hxyB15 := hxyB15.below hb47
          clear hb47
          clear hxyA15
          clear hxyB15
          rw [HM.out] at o15 ⊢
          have io15 := In.of o15
          go_wp2_with fail
          refine hK.out _ _ ⟨range1 AA, range1 AB⟩ (fun hHeld => ?_)
          clear hK K
          refine wpAnyH_take (i := 5) (oi := { dst := some 94, op := Op.move (Operand.tmp 99), type := 28, pos := "exact.go:2601", after := #[{ on := 4, ground := Ground.data }], guard := none }) (v := .tuple #[.agg #[.slice a15 m c15], .bool R]) rfl (by kernel_rfl) (by kernel_rfl) (by kernel_rfl) (fun _ _ _ h => h) (.inl ⟨by rfl, fun _ _ => by rfl⟩) (by assumption) ?_
          simp only [Act.put, List.setIfInBounds_toArray, List.set_cons_zero, List.set_cons_succ]
          refine wpAnyH_take (i := 6) (oi := { dst := some 100, op := Op.extract (Operand.tmp 94) 0, type := 25, pos := "exact.go:2601", after := #[{ on := 5, ground := Ground.data }], guard := none }) (v := .agg #[.slice a15 m c15]) rfl (by kernel_rfl) (by kernel_rfl) (by kernel_rfl) (fun _ _ _ h => h) (.inl ⟨by rfl, fun _ _ => by rfl⟩) (by assumption) ?_
          simp only [Act.put, List.setIfInBounds_toArray, List.set_cons_zero, List.set_cons_succ]
          refine wpAnyH_take (i := 7) (oi := { dst := some 101, op := Op.extract (Operand.tmp 94) 1, type := 4, pos := "exact.go:2601", after := #[{ on := 5, ground := Ground.data }, { on := 9, ground := Ground.gcOnly Departure.lateStores }], guard := none }) (v := .bool R) rfl (by kernel_rfl) (by kernel_rfl) (by kernel_rfl) (fun _ _ _ h => h) (.inl ⟨by rfl, fun _ _ => by rfl⟩) (by assumption) ?_
          simp only [Act.put, List.setIfInBounds_toArray, List.set_cons_zero, List.set_cons_succ]
          refine wpAnyH_ready (rs := [9]) (by kernel_rfl) (by simp) (AllReadyH.cons (o := { dst := none, op := Op.store 25 (Operand.tmp 15) (Operand.tmp 100), type := 0, pos := "exact.go:2601", after := #[{ on := 8, ground := Ground.data }, { on := 6, ground := Ground.data }, { on := 4, ground := Ground.chain }, { on := 0, ground := Ground.phase }, { on := 1, ground := Ground.phase }, { on := 2, ground := Ground.phase }, { on := 3, ground := Ground.phase }, { on := 4, ground := Ground.phase }, { on := 5, ground := Ground.phase }, { on := 6, ground := Ground.phase }, { on := 7, ground := Ground.textOnly Departure.lateStores }, { on := 8, ground := Ground.phase }], guard := none }) rfl (fun K hK => ?_) AllReadyH.nil)
          rw [if_pos (by rfl)]
          refine wp_store_mid _ _ _ rfl _ _ #[.slice a15 m c15] rfl rfl (there1 AE) infoSc (by simp [Value.oneCell']) ?_
          simp only [Act.put]
          replace AE := arr_one (u := .slice a15 m c15) AE
          replace B := bel_one B (show w.heap.size ≤ w37.heap.size by omega) (.slice a15 m c15)
          replace AA := arr_setO AA (g := w37.heap.size) (by omega) [.slice a15 m c15]
          replace AB := arr_setO AB (g := w37.heap.size) (by omega) [.slice a15 m c15]
          replace hV := vr_setO hV (g := w37.heap.size) (by omega) [.slice a15 m c15]
          replace o6 := own_setCells o6 io6 (E := w37.heap.size) (by omega) [.slice a15 m c15]
          replace E6 := arr_setO E6 (g := w37.heap.size) (by omega) [.slice a15 m c15]
          replace o10 := own_setCells o10 io10 (E := w37.heap.size) (by omega) [.slice a15 m c15]
          replace E10 := arr_setO E10 (g := w37.heap.size) (by omega) [.slice a15 m c15]
          replace o15 := own_setCells o15 io15 (E := w37.heap.size) (by omega) [.slice a15 m c15]
          refine hK.out _ _ ⟨range1 AA, range1 AB⟩ (fun hHeld => ?_)
          clear hK K
          refine wpAnyH_ready (rs := [10]) (by kernel_rfl) (by simp) (AllReadyH.cons (o := { dst := some 16, op := Op.assign (Operand.tmp 101), type := 4, pos := "exact.go:2601", after := #[{ on := 7, ground := Ground.data }, { on := 9, ground := Ground.chain }, { on := 0, ground := Ground.phase }, { on := 1, ground := Ground.phase }, { on := 2, ground := Ground.phase }, { on := 3, ground := Ground.phase }, { on := 4, ground := Ground.phase }, { on := 5, ground := Ground.phase }, { on := 6, ground := Ground.phase }, { on := 7, ground := Ground.phase }, { on := 8, ground := Ground.phase }, { on := 9, ground := Ground.phase }], guard := none }) rfl (fun K hK => ?_) AllReadyH.nil)
          go_simp
          refine hK.out _ _ ⟨range1 AA, range1 AB⟩ (fun hHeld => ?_)
          clear hK K
          refine wpAnyH_done (by kernel_rfl) ?_ _
          go_wp2
          go_meet
          have hsz : (w47.setCells w37.heap.size 0 [.slice a15 m c15]).heap.size = w47.heap.size := size_one _ _ _
          case rel => exact ⟨w37.heap.size, a15, c15, rfl, rfl, AE, own_base o15 (by omega), fun k hk => by have := io15 k hk; omega, by omega, by omega, B, AA, AB, hV, o6, E6, o10, E10⟩
      · skip
        go_simp
        obtain ⟨V49, hVe⟩ : ∃ V, V = wD15.alloc (.cells #[.slice none 0 0] 25) := ⟨_, rfl⟩
        have bV : Below wD15.heap.size wD15 V49 := by rw [hVe]; exact (Below.refl _ _).alloc (Nat.le_refl _) _
        have z49 : V49.heap.size = wD15.heap.size + 1 := by rw [hVe]; simp
        have AE : Arr V49 wD15.heap.size 25 [.slice none 0 0] := by rw [hVe]; exact Arr.new wD15 [.slice none 0 0] _
        replace B := B.trans (bV.mono B.size)
        replace AA := AA.kept bV
        replace AB := AB.kept bV
        replace hV := hV.kept bV
        replace o6 := own_below o6 bV
        replace E6 := E6.kept bV
        replace o10 := own_below o10 bV
        replace E10 := E10.kept bV
        rw [← hVe]
        clear bV hVe
        refine hK.out _ _ ⟨range1 AA, range1 AB⟩ (fun hHeld => ?_)
        clear hK K
        refine wpAnyH_ready (rs := [1]) (by kernel_rfl) (by simp) (AllReadyH.cons (o := { dst := some 96, op := Op.call { callee := Callee.value (Operand.func 24), args := #[Operand.tmp 95], argTypes := #[37] }, type := 25, pos := "exact.go:2601", after := #[{ on := 0, ground := Ground.data }], guard := none }) rfl (fun K hK => ?_) AllReadyH.nil)
        go_simp
        refine (toScC aA nA cA xsA _ (hA.below B) (by omega)).mono ?_
        rintro e w50 ⟨yA15, kA15, rfl, _, hxyA15, hb50⟩
        have z50 := hb50.size
        replace B := B.trans (hb50.mono B.size)
        replace AA := AA.kept hb50
        replace AB := AB.kept hb50
        replace hV := hV.kept hb50
        replace o6 := own_below o6 hb50
        replace E6 := E6.kept hb50
        replace o10 := own_below o10 hb50
        replace E10 := E10.kept hb50
        replace AE := AE.kept hb50
        clear hb50
        go_wp2_with fail
        refine hK.out _ _ ⟨range1 AA, range1 AB⟩ (fun hHeld => ?_)
        clear hK K
        refine wpAnyH_ready (rs := [3]) (by kernel_rfl) (by simp) (AllReadyH.cons (o := { dst := some 98, op := Op.call { callee := Callee.value (Operand.func 24), args := #[Operand.tmp 97], argTypes := #[37] }, type := 25, pos := "exact.go:2601", after := #[{ on := 2, ground := Ground.data }, { on := 1, ground := Ground.chain }], guard := none }) rfl (fun K hK => ?_) AllReadyH.nil)
        go_simp
        refine (toScC aB nB cB xsB _ (hB.below B) (by omega)).mono ?_
        rintro e w51 ⟨yB15, kB15, rfl, _, hxyB15, hb51⟩
        have z51 := hb51.size
        replace B := B.trans (hb51.mono B.size)
        replace AA := AA.kept hb51
        replace AB := AB.kept hb51
        replace hV := hV.kept hb51
        replace o6 := own_below o6 hb51
        replace E6 := E6.kept hb51
        replace o10 := own_below o10 hb51
        replace E10 := E10.kept hb51
        replace AE := AE.kept hb51
        replace hxyA15 := hxyA15.below hb51
        clear hb51
        go_wp2_with fail
        refine hK.out _ _ ⟨range1 AA, range1 AB⟩ (fun hHeld => ?_)
        clear hK K
        refine wpAnyH_ready (rs := [4]) (by kernel_rfl) (by simp) (AllReadyH.cons (o := { dst := some 99, op := Op.call { callee := Callee.value (Operand.func 12), args := #[Operand.tmp 96, Operand.tmp 98], argTypes := #[25, 25] }, type := 28, pos := "exact.go:2601", after := #[{ on := 1, ground := Ground.data }, { on := 3, ground := Ground.data }, { on := 3, ground := Ground.chain }], guard := none }) rfl (fun K hK => ?_) AllReadyH.nil)
        go_simp
        refine (HI.out yA15 kA15 yB15 kB15 _ hxyA15 hxyB15 hV).mono ?_
        rintro e w52 ⟨v15, rfl, ⟨a15, c15, rfl, o15⟩, hb52⟩
        have z52 := hb52.size
        replace B := B.trans (hb52.mono B.size)
        replace AA := AA.kept hb52
        replace AB := AB.kept hb52
        replace hV := hV.kept hb52
        replace o6 := own_below o6 hb52
        replace E6 := E6.kept hb52
        replace o10 := own_below o10 hb52
        replace E10 := E10.kept hb52
        replace AE := AE.kept hb52
        replace hxyA15 := hxyA15.below hb52
        replace hxyB15 := hxyB15.below hb52
        clear hb52
        clear hxyA15
        clear hxyB15
        rw [HM.out] at o15 ⊢
        have io15 := In.of o15
        go_wp2_with fail
        refine hK.out _ _ ⟨range1 AA, range1 AB⟩ (fun hHeld => ?_)
        clear hK K
        refine wpAnyH_take (i := 5) (oi := { dst := some 94, op := Op.move (Operand.tmp 99), type := 28, pos := "exact.go:2601", after := #[{ on := 4, ground := Ground.data }], guard := none }) (v := .tuple #[.agg #[.slice a15 m c15], .bool R]) rfl (by kernel_rfl) (by kernel_rfl) (by kernel_rfl) (fun _ _ _ h => h) (.inl ⟨by rfl, fun _ _ => by rfl⟩) (by assumption) ?_
        simp only [Act.put, List.setIfInBounds_toArray, List.set_cons_zero, List.set_cons_succ]
        refine wpAnyH_take (i := 6) (oi := { dst := some 100, op := Op.extract (Operand.tmp 94) 0, type := 25, pos := "exact.go:2601", after := #[{ on := 5, ground := Ground.data }], guard := none }) (v := .agg #[.slice a15 m c15]) rfl (by kernel_rfl) (by kernel_rfl) (by kernel_rfl) (fun _ _ _ h => h) (.inl ⟨by rfl, fun _ _ => by rfl⟩) (by assumption) ?_
        simp only [Act.put, List.setIfInBounds_toArray, List.set_cons_zero, List.set_cons_succ]
        refine wpAnyH_take (i := 7) (oi := { dst := some 101, op := Op.extract (Operand.tmp 94) 1, type := 4, pos := "exact.go:2601", after := #[{ on := 5, ground := Ground.data }, { on := 9, ground := Ground.gcOnly Departure.lateStores }], guard := none }) (v := .bool R) rfl (by kernel_rfl) (by kernel_rfl) (by kernel_rfl) (fun _ _ _ h => h) (.inl ⟨by rfl, fun _ _ => by rfl⟩) (by assumption) ?_
        simp only [Act.put, List.setIfInBounds_toArray, List.set_cons_zero, List.set_cons_succ]
        refine wpAnyH_ready (rs := [9]) (by kernel_rfl) (by simp) (AllReadyH.cons (o := { dst := none, op := Op.store 25 (Operand.tmp 15) (Operand.tmp 100), type := 0, pos := "exact.go:2601", after := #[{ on := 8, ground := Ground.data }, { on := 6, ground := Ground.data }, { on := 4, ground := Ground.chain }, { on := 0, ground := Ground.phase }, { on := 1, ground := Ground.phase }, { on := 2, ground := Ground.phase }, { on := 3, ground := Ground.phase }, { on := 4, ground := Ground.phase }, { on := 5, ground := Ground.phase }, { on := 6, ground := Ground.phase }, { on := 7, ground := Ground.textOnly Departure.lateStores }, { on := 8, ground := Ground.phase }], guard := none }) rfl (fun K hK => ?_) AllReadyH.nil)
        rw [if_pos (by rfl)]
        refine wp_store_mid _ _ _ rfl _ _ #[.slice a15 m c15] rfl rfl (there1 AE) infoSc (by simp [Value.oneCell']) ?_
        simp only [Act.put]
        replace AE := arr_one (u := .slice a15 m c15) AE
        replace B := bel_one B (show w.heap.size ≤ wD15.heap.size by omega) (.slice a15 m c15)
        replace AA := arr_setO AA (g := wD15.heap.size) (by omega) [.slice a15 m c15]
        replace AB := arr_setO AB (g := wD15.heap.size) (by omega) [.slice a15 m c15]
        replace hV := vr_setO hV (g := wD15.heap.size) (by omega) [.slice a15 m c15]
        replace o6 := own_setCells o6 io6 (E := wD15.heap.size) (by omega) [.slice a15 m c15]
        replace E6 := arr_setO E6 (g := wD15.heap.size) (by omega) [.slice a15 m c15]
        replace o10 := own_setCells o10 io10 (E := wD15.heap.size) (by omega) [.slice a15 m c15]
        replace E10 := arr_setO E10 (g := wD15.heap.size) (by omega) [.slice a15 m c15]
        replace o15 := own_setCells o15 io15 (E := wD15.heap.size) (by omega) [.slice a15 m c15]
        refine hK.out _ _ ⟨range1 AA, range1 AB⟩ (fun hHeld => ?_)
        clear hK K
        refine wpAnyH_ready (rs := [10]) (by kernel_rfl) (by simp) (AllReadyH.cons (o := { dst := some 16, op := Op.assign (Operand.tmp 101), type := 4, pos := "exact.go:2601", after := #[{ on := 7, ground := Ground.data }, { on := 9, ground := Ground.chain }, { on := 0, ground := Ground.phase }, { on := 1, ground := Ground.phase }, { on := 2, ground := Ground.phase }, { on := 3, ground := Ground.phase }, { on := 4, ground := Ground.phase }, { on := 5, ground := Ground.phase }, { on := 6, ground := Ground.phase }, { on := 7, ground := Ground.phase }, { on := 8, ground := Ground.phase }, { on := 9, ground := Ground.phase }], guard := none }) rfl (fun K hK => ?_) AllReadyH.nil)
        go_simp
        refine hK.out _ _ ⟨range1 AA, range1 AB⟩ (fun hHeld => ?_)
        clear hK K
        refine wpAnyH_done (by kernel_rfl) ?_ _
        go_wp2
        go_meet
        have hsz : (w52.setCells wD15.heap.size 0 [.slice a15 m c15]).heap.size = w52.heap.size := size_one _ _ _
        case rel => exact ⟨wD15.heap.size, a15, c15, rfl, rfl, AE, own_base o15 (by omega), fun k hk => by have := io15 k hk; omega, by omega, by omega, B, AA, AB, hV, o6, E6, o10, E10⟩
    case rest =>
      clear B AA AB hV o6 E6 o10 E10 bD
      obtain ⟨E15', a15, c15, rfl, rfl, E15, o15, io15, zE15, zF15, B, AA, AB, hV, o6, E6, o10, E10⟩ := hcut
      obtain ⟨wc15, hwc⟩ : ∃ V, V = wc := ⟨_, rfl⟩
      rw [← hwc] at E15 o15 io15 zF15 B AA AB hV o6 E6 o10 E10 ⊢
      clear hwc
      have cE15 := cell1 E15
      have cE6 := cell1 E6
      go_wp2_with fail
      clear cE15 cE6
      refine (eqScC a15 a6 m c15 c6 L _ (is_of_own o15 HLb.out) (is_of_own o6 HLb.out) (by omega)).mono ?_
      rintro e w55 ⟨rfl, hb55⟩
      have z55 := hb55.size
      replace B := B.trans (hb55.mono B.size)
      replace AA := AA.kept hb55
      replace AB := AB.kept hb55
      replace hV := hV.kept hb55
      replace o6 := own_below o6 hb55
      replace E6 := E6.kept hb55
      replace o10 := own_below o10 hb55
      replace E10 := E10.kept hb55
      replace o15 := own_below o15 hb55
      replace E15 := E15.kept hb55
      clear hb55
      have cE10 := cell1 E10
      go_wp2_with fail
      clear cE10
      refine (heldScC a10 m c10 1 _ (is_of_own o10 HMB.out) (by omega) (by omega) (by omega)).mono ?_
      rintro e w56 ⟨rfl, hb56⟩
      have z56 := hb56.size
      replace B := B.trans (hb56.mono B.size)
      replace AA := AA.kept hb56
      replace AB := AB.kept hb56
      replace hV := hV.kept hb56
      replace o6 := own_below o6 hb56
      replace E6 := E6.kept hb56
      replace o10 := own_below o10 hb56
      replace E10 := E10.kept hb56
      replace o15 := own_below o15 hb56
      replace E15 := E15.kept hb56
      clear hb56
      go_wp2
      go_ret
      exact ⟨rfl, B⟩
end Go.Proofs.YtlafcjoccbinaaaDoor
