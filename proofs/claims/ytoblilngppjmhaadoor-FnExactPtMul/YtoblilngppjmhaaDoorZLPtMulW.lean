/-
  What is proved here: the exact law of PtMul returns true at every argument, and writes into nothing that was there; where the program's variables hold what its text lays into them.
-/
import Derived.Test.YtoblilngppjmhaaDoorZUk
import Derived.Test.YtoblilngppjmhaaDoorZUj
import Derived.Test.YtoblilngppjmhaaDoorZKlB
import Derived.Test.YtoblilngppjmhaaDoorZOhm
namespace Go.Proofs.YtoblilngppjmhaaDoor
open Go.RowKit
set_option maxRecDepth 100000
abbrev qLPtMulW0 : Oper := { dst := some 94, op := Op.move (Operand.tmp 99), type := 30, pos := "exact.go:2941", after := #[{ on := 4, ground := Ground.data }], guard := none }
abbrev qLPtMulW1 : Oper := { dst := some 100, op := Op.extract (Operand.tmp 94) 0, type := 27, pos := "exact.go:2941", after := #[{ on := 5, ground := Ground.data }], guard := none }
abbrev qLPtMulW2 : Oper := { dst := some 101, op := Op.extract (Operand.tmp 94) 1, type := 4, pos := "exact.go:2941", after := #[{ on := 5, ground := Ground.data }, { on := 9, ground := Ground.gcOnly Departure.lateStores }], guard := none }
abbrev qLPtMulW3 : Oper := { dst := none, op := Op.store 27 (Operand.tmp 15) (Operand.tmp 100), type := 0, pos := "exact.go:2941", after := #[{ on := 8, ground := Ground.data }, { on := 6, ground := Ground.data }, { on := 4, ground := Ground.chain }, { on := 0, ground := Ground.phase }, { on := 1, ground := Ground.phase }, { on := 2, ground := Ground.phase }, { on := 3, ground := Ground.phase }, { on := 4, ground := Ground.phase }, { on := 5, ground := Ground.phase }, { on := 6, ground := Ground.phase }, { on := 7, ground := Ground.textOnly Departure.lateStores }, { on := 8, ground := Ground.phase }], guard := none }
abbrev qLPtMulW4 : Oper := { dst := some 27, op := Op.move (Operand.tmp 32), type := 30, pos := "exact.go:2912", after := #[{ on := 4, ground := Ground.data }], guard := none }
abbrev qLPtMulW5 : Oper := { dst := some 33, op := Op.extract (Operand.tmp 27) 0, type := 27, pos := "exact.go:2912", after := #[{ on := 5, ground := Ground.data }], guard := none }
abbrev qLPtMulW6 : Oper := { dst := some 34, op := Op.extract (Operand.tmp 27) 1, type := 4, pos := "exact.go:2912", after := #[{ on := 5, ground := Ground.data }, { on := 9, ground := Ground.gcOnly Departure.lateStores }], guard := none }
abbrev qLPtMulW7 : Oper := { dst := none, op := Op.store 27 (Operand.tmp 6) (Operand.tmp 33), type := 0, pos := "exact.go:2912", after := #[{ on := 8, ground := Ground.data }, { on := 6, ground := Ground.data }, { on := 4, ground := Ground.chain }, { on := 0, ground := Ground.phase }, { on := 1, ground := Ground.phase }, { on := 2, ground := Ground.phase }, { on := 3, ground := Ground.phase }, { on := 4, ground := Ground.phase }, { on := 5, ground := Ground.phase }, { on := 6, ground := Ground.phase }, { on := 7, ground := Ground.textOnly Departure.lateStores }, { on := 8, ground := Ground.phase }], guard := none }

set_option maxHeartbeats 16000000 in
theorem walk_fnExactPtMul (w : World) (aA : Option Addr) (nA cA : Nat) (xsA : List Int) (bA : Option Addr) (jA dA : Nat) (ysA : List Int) (hA : Is w aA nA cA xsA) (gA : Is w bA jA dA ysA) (hmA : nA ≤ 9223372036854775807) (kmA : jA ≤ 9223372036854775807) (aB : Option Addr) (nB cB : Nat) (xsB : List Int) (hB : Is w aB nB cB xsB) (hmB : nB ≤ 9223372036854775807) (kVv : Vr w 4 (I64 PL)) (kDv : Vr w 2 (I64 DL)) (kOv : Vr w 3 (I64 OL)) :
  Calls Tryd.prog 10 #[.agg #[.slice aA nA cA, .slice bA jA dA], .agg #[.slice aB nB cB]] w fun e w' => e = .returned (.bool true) ∧ Below w.heap.size w w' := by
 obtain ⟨R, hR⟩ : ∃ R, R = (ptOk xsA ysA && scOk xsB) := ⟨_, rfl⟩
 obtain ⟨L, hL⟩ : ∃ L, L = ptx R (mul6 (mk6 xsA ysA) (val xsB).toNat) := ⟨_, rfl⟩
 obtain ⟨M, hM⟩ : ∃ M, M = pty R (mul6 (mk6 xsA ysA) (val xsB).toNat) := ⟨_, rfl⟩
 have HS : Hid (∀ (aA : Option Addr) (cA : Nat) (bA : Option Addr) (dA : Nat) (aB : Option Addr) (cB : Nat) (Z : World), Is Z aA nA cA xsA → Is Z bA jA dA ysA → Is Z aB nB cB xsB → Calls Tryd.prog 42 #[.agg #[.slice aA nA cA, .slice bA jA dA], .agg #[.slice aB nB cB]] Z fun e w' => ∃ v, e = .returned (.tuple #[v, .bool R]) ∧ PtT 3 Z w' v L M ∧ Below Z.heap.size Z w') := by
  unfold Hid; intro aA cA bA dA aB cB Z iA kA iB; rw [hL, hM, hR]; exact specPtMul aA nA cA xsA bA jA dA ysA aB nB cB xsB Z iA kA iB
 have HI : Hid (∀ (aA : Option Addr) (cA : Nat) (bA : Option Addr) (dA : Nat) (aB : Option Addr) (cB : Nat) (Z : World), Is Z aA nA cA xsA → Is Z bA jA dA ysA → Is Z aB nB cB xsB → Vr Z 4 (I64 PL) → Vr Z 2 (I64 DL) → Vr Z 3 (I64 OL) → Calls Tryd.prog 23 #[.agg #[.slice aA nA cA, .slice bA jA dA], .agg #[.slice aB nB cB]] Z fun e w' => ∃ v, e = .returned (.tuple #[v, .bool R]) ∧ PtT 70 Z w' v L M ∧ Below Z.heap.size Z w') := by
  unfold Hid; intro aA cA bA dA aB cB Z iA kA iB vkVv vkDv vkOv; rw [hL, hM, hR]; exact implPtMul aA nA cA xsA bA jA dA ysA aB nB cB xsB Z iA kA iB vkVv vkDv vkOv
 have HBL : Hid (∀ x ∈ L, -9223372036854775808 ≤ x ∧ x ≤ 9223372036854775807) := by unfold Hid; rw [hL]; exact ptx_int _ _
 have hmx : L.length ≤ 32 := by rw [hL]; exact ptx_le _ _
 obtain ⟨mx, hex⟩ : ∃ m, m = L.length := ⟨_, rfl⟩
 rw [← hex] at hmx
 have Hx : Hid (L.length = mx) := hex.symm
 have HBM : Hid (∀ x ∈ M, -9223372036854775808 ≤ x ∧ x ≤ 9223372036854775807) := by unfold Hid; rw [hM]; exact pty_int _ _
 have hmy : M.length ≤ 32 := by rw [hM]; exact pty_le _ _
 obtain ⟨my, hey⟩ : ∃ m, m = M.length := ⟨_, rfl⟩
 rw [← hey] at hmy
 have Hy : Hid (M.length = my) := hey.symm
 clear hR hL hM hex hey
 have hRR : (R != R) = false := by simp
 have HXAx : Hid _ := hA.2.2.2.1
 have HXAy : Hid _ := gA.2.2.2.1
 have HXBx : Hid _ := hB.2.2.2.1
 have h0wkVv := kVv.lt
 have h0wkDv := kDv.lt
 have h0wkOv := kOv.lt
 obtain ⟨V0, hV0⟩ : ∃ V, V = (w.alloc (.cells #[.slice aA nA cA, .slice bA jA dA] 52)).alloc (.cells #[.slice aB nB cB] 59) := ⟨_, rfl⟩
 have B : Below w.heap.size w V0 := by rw [hV0]; exact ((Below.refl _ _).alloc (Nat.le_refl _) _).alloc (by simp) _
 have AA : Arr V0 w.heap.size 52 [.slice aA nA cA, .slice bA jA dA] := by rw [hV0]; exact (Arr.new w [.slice aA nA cA, .slice bA jA dA] _).alloc _
 have AB : Arr V0 (w.heap.size + 1) 59 [.slice aB nB cB] := by
  rw [hV0]
  have := Arr.new (w.alloc (.cells #[.slice aA nA cA, .slice bA jA dA] 52)) [.slice aB nB cB] 59
  rw [World.size_alloc] at this
  exact this
 have z0 : V0.heap.size = w.heap.size + 2 := by rw [hV0]; simp
 replace kVv := kVv.kept B
 replace kDv := kDv.kept B
 replace kOv := kOv.kept B
 go_enter Tryd.func10, Tryd.ntmps10
 have LAA := AA
 rw [hV0] at LAA
 go_wp2_with (first
  | (refine wpList_load_row rfl 52 _ rfl (w.heap.size) rfl 52 ([Value.slice aA nA cA, Value.slice bA jA dA]).toArray (0, 0) _ LAA Tryd.underlying52 rfl infoPtL ?_))
 rw [← hV0]
 clear LAA hV0
 refine (szPtC aA nA cA bA jA dA 1048576 _ (by omega) (by omega) hmA kmA).mono ?_
 rintro e w1 ⟨rA, rfl, hrA, hb1⟩
 have z1 := hb1.size
 replace B := B.trans (hb1.mono B.size)
 replace AA := AA.kept hb1
 replace AB := AB.kept hb1
 replace kVv := kVv.kept hb1
 replace kDv := kDv.kept hb1
 replace kOv := kOv.kept hb1
 clear hb1
 rcases hrA with rfl | ⟨hrA, hsA, htA, huA⟩
 ·go_wp2
  go_ret
  exact ⟨rfl, B⟩
 have hnlA : ¬ (rA < 0) := by omega
 have cAB0 : w1.cell? ⟨w.heap.size + 1, 0, none⟩ = some (Value.slice aB nB cB) := AB.cell 0
 go_wp2_with fail
 clear cAB0
 refine (szScC aB nB cB rA _ (by omega) (by omega) hmB).mono ?_
 rintro e w2 ⟨rB, rfl, hrB, hb2⟩
 have z2 := hb2.size
 replace B := B.trans (hb2.mono B.size)
 replace AA := AA.kept hb2
 replace AB := AB.kept hb2
 replace kVv := kVv.kept hb2
 replace kDv := kDv.kept hb2
 replace kOv := kOv.kept hb2
 clear hb2
 rcases hrB with rfl | ⟨hrB, hsB, htB⟩
 ·go_wp2
  go_ret
  exact ⟨rfl, B⟩
 have hnlB : ¬ (rB < 0) := by omega
 go_wp2
 have bD : Below w2.heap.size w2 w2.drew := (Below.refl _ _).drew
 go_cut [6, 7] from 17 (fun s6 s7 wc => ∃ (E : Nat) (a6 : Option Addr) (c6 : Nat) (b6 : Option Addr) (d6 : Nat), s6 = .pointer (some ⟨E, 0, none⟩) ∧ s7 = .bool R ∧ Arr wc E 27 [Value.slice a6 mx c6, Value.slice b6 my d6] ∧ wc.ownsRow w2.heap.size 3 1 (Value.slice a6 mx c6) mx (I64 L) ∧ wc.ownsRow w2.heap.size 3 1 (Value.slice b6 my d6) my (I64 M) ∧ Apart (Value.slice a6 mx c6) (Value.slice b6 my d6) ∧ In (Value.slice a6 mx c6) w2.heap.size wc.heap.size ∧ In (Value.slice b6 my d6) w2.heap.size wc.heap.size ∧ (∀ k, (Value.slice a6 mx c6).ownBlock = some k → k ≠ E) ∧ (∀ k, (Value.slice b6 my d6).ownBlock = some k → k ≠ E) ∧ w2.heap.size ≤ E ∧ E < wc.heap.size ∧ Below w.heap.size w wc ∧ Arr wc (w.heap.size) 52 [Value.slice aA nA cA, Value.slice bA jA dA] ∧ Arr wc (w.heap.size + 1) 59 [Value.slice aB nB cB] ∧ Vr wc 4 (I64 PL) ∧ Vr wc 2 (I64 DL) ∧ Vr wc 3 (I64 OL))
 case first =>
  replace B := B.trans (bD.mono B.size)
  replace AA := AA.kept bD
  replace AB := AB.kept bD
  replace kVv := kVv.kept bD
  replace kDv := kDv.kept bD
  replace kOv := kOv.kept bD
  clear bD
  have huA : Tryd.prog.underlying 52 = some _ := Tryd.underlying52
  have huB : Tryd.prog.underlying 59 = some _ := Tryd.underlying59
  refine wp_region_held_drew (S := fun W => W.rangeAt (w.heap.size) 0 [Value.slice aA nA cA, Value.slice bA jA dA] ∧ W.rangeAt (w.heap.size + 1) 0 [Value.slice aB nB cB]) (by kernel_rfl) ⟨arr_range AA, arr_range AB⟩ (fun hHeld => ?_)
  obtain ⟨wD6, hD⟩ : ∃ V, V = w2.drew := ⟨_, rfl⟩
  rw [← hD] at hHeld B AA AB kVv kDv kOv ⊢
  have zD6 : wD6.heap.size ≤ w2.heap.size ∧ w2.heap.size ≤ wD6.heap.size := by rw [hD]; exact ⟨Nat.le_refl _, Nat.le_refl _⟩
  clear hD
  refine wpAnyH_take (i := 0) (oi := { dst := some 28, op := Op.load 52 (Operand.tmp 2), type := 52, pos := "exact.go:2912", after := #[], guard := none }) (v := _) rfl (by kernel_rfl) (by kernel_rfl) (by kernel_rfl) (fun _ _ _ h => h) (yieldsIf_load_mid (by rfl) _ _ rfl _ _ rfl ([Value.slice aA nA cA, Value.slice bA jA dA]) _ (fun _ h => h.1) huA rfl infoPtL) (by assumption) ?_
  simp only [Act.put, List.setIfInBounds_toArray, List.set_cons_zero, List.set_cons_succ]
  refine wpAnyH_take (i := 2) (oi := { dst := some 30, op := Op.load 59 (Operand.tmp 3), type := 59, pos := "exact.go:2912", after := #[], guard := none }) (v := _) rfl (by kernel_rfl) (by kernel_rfl) (by kernel_rfl) (fun _ _ _ h => h) (yieldsIf_load_mid (by rfl) _ _ rfl _ _ rfl ([Value.slice aB nB cB]) _ (fun _ h => h.2) huB rfl infoScL) (by assumption) ?_
  simp only [Act.put, List.setIfInBounds_toArray, List.set_cons_zero, List.set_cons_succ]
  refine wpAnyH_ready (rs := [1, 8]) (by kernel_rfl) (by simp) (AllReadyH.cons (o := { dst := some 29, op := Op.call { callee := Callee.value (Operand.func 34), args := #[Operand.tmp 28], argTypes := #[52] }, type := 27, pos := "exact.go:2912", after := #[{ on := 0, ground := Ground.data }], guard := none }) rfl (fun K hK => ?_) (AllReadyH.cons (o := { dst := some 6, op := Op.alloc 27, type := 0, pos := "exact.go:2912", after := #[], guard := none }) rfl (fun K hK => ?_) AllReadyH.nil))
  ·skip
   go_simp
   refine (toPtC aA nA cA xsA bA jA dA ysA _ (hA.below B) (gA.below B) (by omega) (by omega)).mono ?_
   rintro e w3 ⟨ay6, cy6, by6, dy6, rfl, oy6x, oy6y, apy6, hb3⟩
   have z3 := hb3.size
   replace B := B.trans (hb3.mono B.size)
   replace AA := AA.kept hb3
   replace AB := AB.kept hb3
   replace kVv := kVv.kept hb3
   replace kDv := kDv.kept hb3
   replace kOv := kOv.kept hb3
   clear hb3
   have ioy6x := In.of oy6x
   have ioy6y := In.of oy6y
   go_wp2_with fail
   refine hK.out _ _ ⟨arr_range AA, arr_range AB⟩ (fun hHeld => ?_)
   clear hK K
   refine wpAnyH_ready (rs := [3, 8]) (by kernel_rfl) (by simp) (AllReadyH.cons (o := { dst := some 31, op := Op.call { callee := Callee.value (Operand.func 43), args := #[Operand.tmp 30], argTypes := #[59] }, type := 37, pos := "exact.go:2912", after := #[{ on := 2, ground := Ground.data }, { on := 1, ground := Ground.chain }], guard := none }) rfl (fun K hK => ?_) (AllReadyH.cons (o := { dst := some 6, op := Op.alloc 27, type := 0, pos := "exact.go:2912", after := #[], guard := none }) rfl (fun K hK => ?_) AllReadyH.nil))
   ·skip
    go_simp
    refine (toScC aB nB cB xsB _ (hB.below B) (by omega)).mono ?_
    rintro e w4 ⟨aq6, cq6, rfl, oq6x, _, hb4⟩
    have z4 := hb4.size
    replace B := B.trans (hb4.mono B.size)
    replace AA := AA.kept hb4
    replace AB := AB.kept hb4
    replace kVv := kVv.kept hb4
    replace kDv := kDv.kept hb4
    replace kOv := kOv.kept hb4
    replace oy6x := own_below oy6x hb4
    replace oy6y := own_below oy6y hb4
    clear hb4
    have ioq6x := In.of oq6x
    go_wp2_with fail
    refine hK.out _ _ ⟨arr_range AA, arr_range AB⟩ (fun hHeld => ?_)
    clear hK K
    refine wpAnyH_ready (rs := [4, 8]) (by kernel_rfl) (by simp) (AllReadyH.cons (o := { dst := some 32, op := Op.call { callee := Callee.value (Operand.func 42), args := #[Operand.tmp 29, Operand.tmp 31], argTypes := #[27, 37] }, type := 30, pos := "exact.go:2912", after := #[{ on := 1, ground := Ground.data }, { on := 3, ground := Ground.data }, { on := 3, ground := Ground.chain }], guard := none }) rfl (fun K hK => ?_) (AllReadyH.cons (o := { dst := some 6, op := Op.alloc 27, type := 0, pos := "exact.go:2912", after := #[], guard := none }) rfl (fun K hK => ?_) AllReadyH.nil))
    ·skip
     go_simp
     refine (HS.out ay6 cy6 by6 dy6 aq6 cq6 _ (is_of_own oy6x HXAx.out) (is_of_own oy6y HXAy.out) (is_of_own oq6x HXBx.out) ).mono ?_
     rintro e w5 ⟨v6, rfl, ⟨a6, c6, b6, d6, rfl, o6x, o6y, ap6⟩, hb5⟩
     have z5 := hb5.size
     replace B := B.trans (hb5.mono B.size)
     replace AA := AA.kept hb5
     replace AB := AB.kept hb5
     replace kVv := kVv.kept hb5
     replace kDv := kDv.kept hb5
     replace kOv := kOv.kept hb5
     replace oy6x := own_below oy6x hb5
     replace oy6y := own_below oy6y hb5
     replace oq6x := own_below oq6x hb5
     clear hb5
     clear oy6x
     clear oy6y
     clear oq6x
     rw [Hx.out] at o6x ap6 ⊢
     rw [Hy.out] at o6y ap6 ⊢
     have io6x := In.of o6x
     have io6y := In.of o6y
     go_wp2_with fail
     refine hK.out _ _ ⟨arr_range AA, arr_range AB⟩ (fun hHeld => ?_)
     clear hK K
     refine wpAnyH_take (i := 5) (oi := qLPtMulW4) (v := .tuple #[.agg #[Value.slice a6 mx c6, Value.slice b6 my d6], .bool R]) rfl (by kernel_rfl) (by kernel_rfl) (by kernel_rfl) (fun _ _ _ h => h) (.inl ⟨by rfl, fun _ _ => by rfl⟩) (by assumption) ?_
     simp only [Act.put, List.setIfInBounds_toArray, List.set_cons_zero, List.set_cons_succ]
     refine wpAnyH_take (i := 6) (oi := qLPtMulW5) (v := .agg #[Value.slice a6 mx c6, Value.slice b6 my d6]) rfl (by kernel_rfl) (by kernel_rfl) (by kernel_rfl) (fun _ _ _ h => h) (.inl ⟨by rfl, fun _ _ => by rfl⟩) (by assumption) ?_
     simp only [Act.put, List.setIfInBounds_toArray, List.set_cons_zero, List.set_cons_succ]
     refine wpAnyH_take (i := 7) (oi := qLPtMulW6) (v := .bool R) rfl (by kernel_rfl) (by kernel_rfl) (by kernel_rfl) (fun _ _ _ h => h) (.inl ⟨by rfl, fun _ _ => by rfl⟩) (by assumption) ?_
     simp only [Act.put, List.setIfInBounds_toArray, List.set_cons_zero, List.set_cons_succ]
     refine wpAnyH_ready (rs := [8]) (by kernel_rfl) (by simp) (AllReadyH.cons (o := { dst := some 6, op := Op.alloc 27, type := 0, pos := "exact.go:2912", after := #[], guard := none }) rfl (fun K hK => ?_) AllReadyH.nil)
     go_simp
     obtain ⟨V6, hVe⟩ : ∃ V, V = w5.alloc (.cells #[.slice none 0 0, .slice none 0 0] 27) := ⟨_, rfl⟩
     have bV : Below w5.heap.size w5 V6 := by rw [hVe]; exact (Below.refl _ _).alloc (Nat.le_refl _) _
     have z6 : V6.heap.size = w5.heap.size + 1 := by rw [hVe]; simp
     have AE : Arr V6 w5.heap.size 27 [.slice none 0 0, .slice none 0 0] := by rw [hVe]; exact Arr.new w5 [.slice none 0 0, .slice none 0 0] _
     replace B := B.trans (bV.mono B.size)
     replace AA := AA.kept bV
     replace AB := AB.kept bV
     replace kVv := kVv.kept bV
     replace kDv := kDv.kept bV
     replace kOv := kOv.kept bV
     replace o6x := own_below o6x bV
     replace o6y := own_below o6y bV
     rw [← hVe]
     clear bV hVe
     refine hK.out _ _ ⟨arr_range AA, arr_range AB⟩ (fun hHeld => ?_)
     clear hK K
     refine wpAnyH_ready (rs := [9]) (by kernel_rfl) (by simp) (AllReadyH.cons (o := qLPtMulW7) rfl (fun K hK => ?_) AllReadyH.nil)
     rw [if_pos (by rfl)]
     refine wp_store_mid _ _ _ rfl _ _ ([Value.slice a6 mx c6, Value.slice b6 my d6]).toArray rfl rfl (by have := arr_there AE; simpa using this) infoPt (all_oneCell_toArray (by simp [Value.oneCell'])) ?_
     simp only [Act.put]
     obtain ⟨V7, hVe⟩ : ∃ V, V = V6.setCells (w5.heap.size) 0 ([Value.slice a6 mx c6, Value.slice b6 my d6]) := ⟨_, rfl⟩
     rw [← hVe]
     have hsz : V7.heap.size = V6.heap.size := by rw [hVe]; simp [World.setCells]
     replace B : Below w.heap.size w V7 := by rw [hVe]; exact setCells_below (by omega) _ _ B
     replace AA := arr_setO AA (g := w5.heap.size) (by omega) ([Value.slice a6 mx c6, Value.slice b6 my d6])
     rw [← hVe] at AA
     replace AB := arr_setO AB (g := w5.heap.size) (by omega) ([Value.slice a6 mx c6, Value.slice b6 my d6])
     rw [← hVe] at AB
     replace kVv := vr_setO kVv (g := w5.heap.size) (by omega) ([Value.slice a6 mx c6, Value.slice b6 my d6])
     rw [← hVe] at kVv
     replace kDv := vr_setO kDv (g := w5.heap.size) (by omega) ([Value.slice a6 mx c6, Value.slice b6 my d6])
     rw [← hVe] at kDv
     replace kOv := vr_setO kOv (g := w5.heap.size) (by omega) ([Value.slice a6 mx c6, Value.slice b6 my d6])
     rw [← hVe] at kOv
     replace o6x := own_setCells o6x io6x (E := w5.heap.size) (by omega) ([Value.slice a6 mx c6, Value.slice b6 my d6])
     rw [← hVe] at o6x
     replace o6y := own_setCells o6y io6y (E := w5.heap.size) (by omega) ([Value.slice a6 mx c6, Value.slice b6 my d6])
     rw [← hVe] at o6y
     replace AE : Arr V7 (w5.heap.size) 27 ([Value.slice a6 mx c6, Value.slice b6 my d6]) := by rw [hVe]; exact Arr.setCells0 AE (by simp)
     clear hVe
     refine hK.out _ _ ⟨arr_range AA, arr_range AB⟩ (fun hHeld => ?_)
     clear hK K
     refine wpAnyH_ready (rs := [10]) (by kernel_rfl) (by simp) (AllReadyH.cons (o := { dst := some 7, op := Op.assign (Operand.tmp 34), type := 4, pos := "exact.go:2912", after := #[{ on := 7, ground := Ground.data }, { on := 9, ground := Ground.chain }, { on := 0, ground := Ground.phase }, { on := 1, ground := Ground.phase }, { on := 2, ground := Ground.phase }, { on := 3, ground := Ground.phase }, { on := 4, ground := Ground.phase }, { on := 5, ground := Ground.phase }, { on := 6, ground := Ground.phase }, { on := 7, ground := Ground.phase }, { on := 8, ground := Ground.phase }, { on := 9, ground := Ground.phase }], guard := none }) rfl (fun K hK => ?_) AllReadyH.nil)
     go_simp
     refine hK.out _ _ ⟨arr_range AA, arr_range AB⟩ (fun hHeld => ?_)
     clear hK K
     refine wpAnyH_done (by kernel_rfl) ?_ _
     go_wp2
     go_meet
     case rel => exact ⟨w5.heap.size, a6, c6, b6, d6, rfl, rfl, AE, own_base o6x (by omega), own_base o6y (by omega), ap6, (fun k hk => by have := io6x k hk; omega), (fun k hk => by have := io6y k hk; omega), (fun k hk => by have := io6x k hk; omega), (fun k hk => by have := io6y k hk; omega), by omega, by omega, B, AA, AB, kVv, kDv, kOv⟩
    ·skip
     go_simp
     obtain ⟨V8, hVe⟩ : ∃ V, V = w4.alloc (.cells #[.slice none 0 0, .slice none 0 0] 27) := ⟨_, rfl⟩
     have bV : Below w4.heap.size w4 V8 := by rw [hVe]; exact (Below.refl _ _).alloc (Nat.le_refl _) _
     have z8 : V8.heap.size = w4.heap.size + 1 := by rw [hVe]; simp
     have AE : Arr V8 w4.heap.size 27 [.slice none 0 0, .slice none 0 0] := by rw [hVe]; exact Arr.new w4 [.slice none 0 0, .slice none 0 0] _
     replace B := B.trans (bV.mono B.size)
     replace AA := AA.kept bV
     replace AB := AB.kept bV
     replace kVv := kVv.kept bV
     replace kDv := kDv.kept bV
     replace kOv := kOv.kept bV
     replace oy6x := own_below oy6x bV
     replace oy6y := own_below oy6y bV
     replace oq6x := own_below oq6x bV
     rw [← hVe]
     clear bV hVe
     refine hK.out _ _ ⟨arr_range AA, arr_range AB⟩ (fun hHeld => ?_)
     clear hK K
     refine wpAnyH_ready (rs := [4]) (by kernel_rfl) (by simp) (AllReadyH.cons (o := { dst := some 32, op := Op.call { callee := Callee.value (Operand.func 42), args := #[Operand.tmp 29, Operand.tmp 31], argTypes := #[27, 37] }, type := 30, pos := "exact.go:2912", after := #[{ on := 1, ground := Ground.data }, { on := 3, ground := Ground.data }, { on := 3, ground := Ground.chain }], guard := none }) rfl (fun K hK => ?_) AllReadyH.nil)
     go_simp
     refine (HS.out ay6 cy6 by6 dy6 aq6 cq6 _ (is_of_own oy6x HXAx.out) (is_of_own oy6y HXAy.out) (is_of_own oq6x HXBx.out) ).mono ?_
     rintro e w9 ⟨v6, rfl, ⟨a6, c6, b6, d6, rfl, o6x, o6y, ap6⟩, hb9⟩
     have z9 := hb9.size
     replace B := B.trans (hb9.mono B.size)
     replace AA := AA.kept hb9
     replace AB := AB.kept hb9
     replace kVv := kVv.kept hb9
     replace kDv := kDv.kept hb9
     replace kOv := kOv.kept hb9
     replace oy6x := own_below oy6x hb9
     replace oy6y := own_below oy6y hb9
     replace oq6x := own_below oq6x hb9
     replace AE := AE.kept hb9
     clear hb9
     clear oy6x
     clear oy6y
     clear oq6x
     rw [Hx.out] at o6x ap6 ⊢
     rw [Hy.out] at o6y ap6 ⊢
     have io6x := In.of o6x
     have io6y := In.of o6y
     go_wp2_with fail
     refine hK.out _ _ ⟨arr_range AA, arr_range AB⟩ (fun hHeld => ?_)
     clear hK K
     refine wpAnyH_take (i := 5) (oi := qLPtMulW4) (v := .tuple #[.agg #[Value.slice a6 mx c6, Value.slice b6 my d6], .bool R]) rfl (by kernel_rfl) (by kernel_rfl) (by kernel_rfl) (fun _ _ _ h => h) (.inl ⟨by rfl, fun _ _ => by rfl⟩) (by assumption) ?_
     simp only [Act.put, List.setIfInBounds_toArray, List.set_cons_zero, List.set_cons_succ]
     refine wpAnyH_take (i := 6) (oi := qLPtMulW5) (v := .agg #[Value.slice a6 mx c6, Value.slice b6 my d6]) rfl (by kernel_rfl) (by kernel_rfl) (by kernel_rfl) (fun _ _ _ h => h) (.inl ⟨by rfl, fun _ _ => by rfl⟩) (by assumption) ?_
     simp only [Act.put, List.setIfInBounds_toArray, List.set_cons_zero, List.set_cons_succ]
     refine wpAnyH_take (i := 7) (oi := qLPtMulW6) (v := .bool R) rfl (by kernel_rfl) (by kernel_rfl) (by kernel_rfl) (fun _ _ _ h => h) (.inl ⟨by rfl, fun _ _ => by rfl⟩) (by assumption) ?_
     simp only [Act.put, List.setIfInBounds_toArray, List.set_cons_zero, List.set_cons_succ]
     refine wpAnyH_ready (rs := [9]) (by kernel_rfl) (by simp) (AllReadyH.cons (o := qLPtMulW7) rfl (fun K hK => ?_) AllReadyH.nil)
     rw [if_pos (by rfl)]
     refine wp_store_mid _ _ _ rfl _ _ ([Value.slice a6 mx c6, Value.slice b6 my d6]).toArray rfl rfl (by have := arr_there AE; simpa using this) infoPt (all_oneCell_toArray (by simp [Value.oneCell'])) ?_
     simp only [Act.put]
     obtain ⟨V10, hVe⟩ : ∃ V, V = w9.setCells (w4.heap.size) 0 ([Value.slice a6 mx c6, Value.slice b6 my d6]) := ⟨_, rfl⟩
     rw [← hVe]
     have hsz : V10.heap.size = w9.heap.size := by rw [hVe]; simp [World.setCells]
     replace B : Below w.heap.size w V10 := by rw [hVe]; exact setCells_below (by omega) _ _ B
     replace AA := arr_setO AA (g := w4.heap.size) (by omega) ([Value.slice a6 mx c6, Value.slice b6 my d6])
     rw [← hVe] at AA
     replace AB := arr_setO AB (g := w4.heap.size) (by omega) ([Value.slice a6 mx c6, Value.slice b6 my d6])
     rw [← hVe] at AB
     replace kVv := vr_setO kVv (g := w4.heap.size) (by omega) ([Value.slice a6 mx c6, Value.slice b6 my d6])
     rw [← hVe] at kVv
     replace kDv := vr_setO kDv (g := w4.heap.size) (by omega) ([Value.slice a6 mx c6, Value.slice b6 my d6])
     rw [← hVe] at kDv
     replace kOv := vr_setO kOv (g := w4.heap.size) (by omega) ([Value.slice a6 mx c6, Value.slice b6 my d6])
     rw [← hVe] at kOv
     replace AE : Arr V10 (w4.heap.size) 27 ([Value.slice a6 mx c6, Value.slice b6 my d6]) := by rw [hVe]; exact Arr.setCells0 AE (by simp)
     replace o6x := own_setCells o6x io6x (E := w4.heap.size) (by omega) ([Value.slice a6 mx c6, Value.slice b6 my d6])
     rw [← hVe] at o6x
     replace o6y := own_setCells o6y io6y (E := w4.heap.size) (by omega) ([Value.slice a6 mx c6, Value.slice b6 my d6])
     rw [← hVe] at o6y
     clear hVe
     refine hK.out _ _ ⟨arr_range AA, arr_range AB⟩ (fun hHeld => ?_)
     clear hK K
     refine wpAnyH_ready (rs := [10]) (by kernel_rfl) (by simp) (AllReadyH.cons (o := { dst := some 7, op := Op.assign (Operand.tmp 34), type := 4, pos := "exact.go:2912", after := #[{ on := 7, ground := Ground.data }, { on := 9, ground := Ground.chain }, { on := 0, ground := Ground.phase }, { on := 1, ground := Ground.phase }, { on := 2, ground := Ground.phase }, { on := 3, ground := Ground.phase }, { on := 4, ground := Ground.phase }, { on := 5, ground := Ground.phase }, { on := 6, ground := Ground.phase }, { on := 7, ground := Ground.phase }, { on := 8, ground := Ground.phase }, { on := 9, ground := Ground.phase }], guard := none }) rfl (fun K hK => ?_) AllReadyH.nil)
     go_simp
     refine hK.out _ _ ⟨arr_range AA, arr_range AB⟩ (fun hHeld => ?_)
     clear hK K
     refine wpAnyH_done (by kernel_rfl) ?_ _
     go_wp2
     go_meet
     case rel => exact ⟨w4.heap.size, a6, c6, b6, d6, rfl, rfl, AE, own_base o6x (by omega), own_base o6y (by omega), ap6, (fun k hk => by have := io6x k hk; omega), (fun k hk => by have := io6y k hk; omega), (fun k hk => by have := io6x k hk; omega), (fun k hk => by have := io6y k hk; omega), by omega, by omega, B, AA, AB, kVv, kDv, kOv⟩
   ·skip
    go_simp
    obtain ⟨V11, hVe⟩ : ∃ V, V = w3.alloc (.cells #[.slice none 0 0, .slice none 0 0] 27) := ⟨_, rfl⟩
    have bV : Below w3.heap.size w3 V11 := by rw [hVe]; exact (Below.refl _ _).alloc (Nat.le_refl _) _
    have z11 : V11.heap.size = w3.heap.size + 1 := by rw [hVe]; simp
    have AE : Arr V11 w3.heap.size 27 [.slice none 0 0, .slice none 0 0] := by rw [hVe]; exact Arr.new w3 [.slice none 0 0, .slice none 0 0] _
    replace B := B.trans (bV.mono B.size)
    replace AA := AA.kept bV
    replace AB := AB.kept bV
    replace kVv := kVv.kept bV
    replace kDv := kDv.kept bV
    replace kOv := kOv.kept bV
    replace oy6x := own_below oy6x bV
    replace oy6y := own_below oy6y bV
    rw [← hVe]
    clear bV hVe
    refine hK.out _ _ ⟨arr_range AA, arr_range AB⟩ (fun hHeld => ?_)
    clear hK K
    refine wpAnyH_ready (rs := [3]) (by kernel_rfl) (by simp) (AllReadyH.cons (o := { dst := some 31, op := Op.call { callee := Callee.value (Operand.func 43), args := #[Operand.tmp 30], argTypes := #[59] }, type := 37, pos := "exact.go:2912", after := #[{ on := 2, ground := Ground.data }, { on := 1, ground := Ground.chain }], guard := none }) rfl (fun K hK => ?_) AllReadyH.nil)
    go_simp
    refine (toScC aB nB cB xsB _ (hB.below B) (by omega)).mono ?_
    rintro e w12 ⟨aq6, cq6, rfl, oq6x, _, hb12⟩
    have z12 := hb12.size
    replace B := B.trans (hb12.mono B.size)
    replace AA := AA.kept hb12
    replace AB := AB.kept hb12
    replace kVv := kVv.kept hb12
    replace kDv := kDv.kept hb12
    replace kOv := kOv.kept hb12
    replace oy6x := own_below oy6x hb12
    replace oy6y := own_below oy6y hb12
    replace AE := AE.kept hb12
    clear hb12
    have ioq6x := In.of oq6x
    go_wp2_with fail
    refine hK.out _ _ ⟨arr_range AA, arr_range AB⟩ (fun hHeld => ?_)
    clear hK K
    refine wpAnyH_ready (rs := [4]) (by kernel_rfl) (by simp) (AllReadyH.cons (o := { dst := some 32, op := Op.call { callee := Callee.value (Operand.func 42), args := #[Operand.tmp 29, Operand.tmp 31], argTypes := #[27, 37] }, type := 30, pos := "exact.go:2912", after := #[{ on := 1, ground := Ground.data }, { on := 3, ground := Ground.data }, { on := 3, ground := Ground.chain }], guard := none }) rfl (fun K hK => ?_) AllReadyH.nil)
    go_simp
    refine (HS.out ay6 cy6 by6 dy6 aq6 cq6 _ (is_of_own oy6x HXAx.out) (is_of_own oy6y HXAy.out) (is_of_own oq6x HXBx.out) ).mono ?_
    rintro e w13 ⟨v6, rfl, ⟨a6, c6, b6, d6, rfl, o6x, o6y, ap6⟩, hb13⟩
    have z13 := hb13.size
    replace B := B.trans (hb13.mono B.size)
    replace AA := AA.kept hb13
    replace AB := AB.kept hb13
    replace kVv := kVv.kept hb13
    replace kDv := kDv.kept hb13
    replace kOv := kOv.kept hb13
    replace oy6x := own_below oy6x hb13
    replace oy6y := own_below oy6y hb13
    replace AE := AE.kept hb13
    replace oq6x := own_below oq6x hb13
    clear hb13
    clear oy6x
    clear oy6y
    clear oq6x
    rw [Hx.out] at o6x ap6 ⊢
    rw [Hy.out] at o6y ap6 ⊢
    have io6x := In.of o6x
    have io6y := In.of o6y
    go_wp2_with fail
    refine hK.out _ _ ⟨arr_range AA, arr_range AB⟩ (fun hHeld => ?_)
    clear hK K
    refine wpAnyH_take (i := 5) (oi := qLPtMulW4) (v := .tuple #[.agg #[Value.slice a6 mx c6, Value.slice b6 my d6], .bool R]) rfl (by kernel_rfl) (by kernel_rfl) (by kernel_rfl) (fun _ _ _ h => h) (.inl ⟨by rfl, fun _ _ => by rfl⟩) (by assumption) ?_
    simp only [Act.put, List.setIfInBounds_toArray, List.set_cons_zero, List.set_cons_succ]
    refine wpAnyH_take (i := 6) (oi := qLPtMulW5) (v := .agg #[Value.slice a6 mx c6, Value.slice b6 my d6]) rfl (by kernel_rfl) (by kernel_rfl) (by kernel_rfl) (fun _ _ _ h => h) (.inl ⟨by rfl, fun _ _ => by rfl⟩) (by assumption) ?_
    simp only [Act.put, List.setIfInBounds_toArray, List.set_cons_zero, List.set_cons_succ]
    refine wpAnyH_take (i := 7) (oi := qLPtMulW6) (v := .bool R) rfl (by kernel_rfl) (by kernel_rfl) (by kernel_rfl) (fun _ _ _ h => h) (.inl ⟨by rfl, fun _ _ => by rfl⟩) (by assumption) ?_
    simp only [Act.put, List.setIfInBounds_toArray, List.set_cons_zero, List.set_cons_succ]
    refine wpAnyH_ready (rs := [9]) (by kernel_rfl) (by simp) (AllReadyH.cons (o := qLPtMulW7) rfl (fun K hK => ?_) AllReadyH.nil)
    rw [if_pos (by rfl)]
    refine wp_store_mid _ _ _ rfl _ _ ([Value.slice a6 mx c6, Value.slice b6 my d6]).toArray rfl rfl (by have := arr_there AE; simpa using this) infoPt (all_oneCell_toArray (by simp [Value.oneCell'])) ?_
    simp only [Act.put]
    obtain ⟨V14, hVe⟩ : ∃ V, V = w13.setCells (w3.heap.size) 0 ([Value.slice a6 mx c6, Value.slice b6 my d6]) := ⟨_, rfl⟩
    rw [← hVe]
    have hsz : V14.heap.size = w13.heap.size := by rw [hVe]; simp [World.setCells]
    replace B : Below w.heap.size w V14 := by rw [hVe]; exact setCells_below (by omega) _ _ B
    replace AA := arr_setO AA (g := w3.heap.size) (by omega) ([Value.slice a6 mx c6, Value.slice b6 my d6])
    rw [← hVe] at AA
    replace AB := arr_setO AB (g := w3.heap.size) (by omega) ([Value.slice a6 mx c6, Value.slice b6 my d6])
    rw [← hVe] at AB
    replace kVv := vr_setO kVv (g := w3.heap.size) (by omega) ([Value.slice a6 mx c6, Value.slice b6 my d6])
    rw [← hVe] at kVv
    replace kDv := vr_setO kDv (g := w3.heap.size) (by omega) ([Value.slice a6 mx c6, Value.slice b6 my d6])
    rw [← hVe] at kDv
    replace kOv := vr_setO kOv (g := w3.heap.size) (by omega) ([Value.slice a6 mx c6, Value.slice b6 my d6])
    rw [← hVe] at kOv
    replace AE : Arr V14 (w3.heap.size) 27 ([Value.slice a6 mx c6, Value.slice b6 my d6]) := by rw [hVe]; exact Arr.setCells0 AE (by simp)
    replace o6x := own_setCells o6x io6x (E := w3.heap.size) (by omega) ([Value.slice a6 mx c6, Value.slice b6 my d6])
    rw [← hVe] at o6x
    replace o6y := own_setCells o6y io6y (E := w3.heap.size) (by omega) ([Value.slice a6 mx c6, Value.slice b6 my d6])
    rw [← hVe] at o6y
    clear hVe
    refine hK.out _ _ ⟨arr_range AA, arr_range AB⟩ (fun hHeld => ?_)
    clear hK K
    refine wpAnyH_ready (rs := [10]) (by kernel_rfl) (by simp) (AllReadyH.cons (o := { dst := some 7, op := Op.assign (Operand.tmp 34), type := 4, pos := "exact.go:2912", after := #[{ on := 7, ground := Ground.data }, { on := 9, ground := Ground.chain }, { on := 0, ground := Ground.phase }, { on := 1, ground := Ground.phase }, { on := 2, ground := Ground.phase }, { on := 3, ground := Ground.phase }, { on := 4, ground := Ground.phase }, { on := 5, ground := Ground.phase }, { on := 6, ground := Ground.phase }, { on := 7, ground := Ground.phase }, { on := 8, ground := Ground.phase }, { on := 9, ground := Ground.phase }], guard := none }) rfl (fun K hK => ?_) AllReadyH.nil)
    go_simp
    refine hK.out _ _ ⟨arr_range AA, arr_range AB⟩ (fun hHeld => ?_)
    clear hK K
    refine wpAnyH_done (by kernel_rfl) ?_ _
    go_wp2
    go_meet
    case rel => exact ⟨w3.heap.size, a6, c6, b6, d6, rfl, rfl, AE, own_base o6x (by omega), own_base o6y (by omega), ap6, (fun k hk => by have := io6x k hk; omega), (fun k hk => by have := io6y k hk; omega), (fun k hk => by have := io6x k hk; omega), (fun k hk => by have := io6y k hk; omega), by omega, by omega, B, AA, AB, kVv, kDv, kOv⟩
  ·skip
   go_simp
   obtain ⟨V15, hVe⟩ : ∃ V, V = wD6.alloc (.cells #[.slice none 0 0, .slice none 0 0] 27) := ⟨_, rfl⟩
   have bV : Below wD6.heap.size wD6 V15 := by rw [hVe]; exact (Below.refl _ _).alloc (Nat.le_refl _) _
   have z15 : V15.heap.size = wD6.heap.size + 1 := by rw [hVe]; simp
   have AE : Arr V15 wD6.heap.size 27 [.slice none 0 0, .slice none 0 0] := by rw [hVe]; exact Arr.new wD6 [.slice none 0 0, .slice none 0 0] _
   replace B := B.trans (bV.mono B.size)
   replace AA := AA.kept bV
   replace AB := AB.kept bV
   replace kVv := kVv.kept bV
   replace kDv := kDv.kept bV
   replace kOv := kOv.kept bV
   rw [← hVe]
   clear bV hVe
   refine hK.out _ _ ⟨arr_range AA, arr_range AB⟩ (fun hHeld => ?_)
   clear hK K
   refine wpAnyH_ready (rs := [1]) (by kernel_rfl) (by simp) (AllReadyH.cons (o := { dst := some 29, op := Op.call { callee := Callee.value (Operand.func 34), args := #[Operand.tmp 28], argTypes := #[52] }, type := 27, pos := "exact.go:2912", after := #[{ on := 0, ground := Ground.data }], guard := none }) rfl (fun K hK => ?_) AllReadyH.nil)
   go_simp
   refine (toPtC aA nA cA xsA bA jA dA ysA _ (hA.below B) (gA.below B) (by omega) (by omega)).mono ?_
   rintro e w16 ⟨ay6, cy6, by6, dy6, rfl, oy6x, oy6y, apy6, hb16⟩
   have z16 := hb16.size
   replace B := B.trans (hb16.mono B.size)
   replace AA := AA.kept hb16
   replace AB := AB.kept hb16
   replace kVv := kVv.kept hb16
   replace kDv := kDv.kept hb16
   replace kOv := kOv.kept hb16
   replace AE := AE.kept hb16
   clear hb16
   have ioy6x := In.of oy6x
   have ioy6y := In.of oy6y
   go_wp2_with fail
   refine hK.out _ _ ⟨arr_range AA, arr_range AB⟩ (fun hHeld => ?_)
   clear hK K
   refine wpAnyH_ready (rs := [3]) (by kernel_rfl) (by simp) (AllReadyH.cons (o := { dst := some 31, op := Op.call { callee := Callee.value (Operand.func 43), args := #[Operand.tmp 30], argTypes := #[59] }, type := 37, pos := "exact.go:2912", after := #[{ on := 2, ground := Ground.data }, { on := 1, ground := Ground.chain }], guard := none }) rfl (fun K hK => ?_) AllReadyH.nil)
   go_simp
   refine (toScC aB nB cB xsB _ (hB.below B) (by omega)).mono ?_
   rintro e w17 ⟨aq6, cq6, rfl, oq6x, _, hb17⟩
   have z17 := hb17.size
   replace B := B.trans (hb17.mono B.size)
   replace AA := AA.kept hb17
   replace AB := AB.kept hb17
   replace kVv := kVv.kept hb17
   replace kDv := kDv.kept hb17
   replace kOv := kOv.kept hb17
   replace AE := AE.kept hb17
   replace oy6x := own_below oy6x hb17
   replace oy6y := own_below oy6y hb17
   clear hb17
   have ioq6x := In.of oq6x
   go_wp2_with fail
   refine hK.out _ _ ⟨arr_range AA, arr_range AB⟩ (fun hHeld => ?_)
   clear hK K
   refine wpAnyH_ready (rs := [4]) (by kernel_rfl) (by simp) (AllReadyH.cons (o := { dst := some 32, op := Op.call { callee := Callee.value (Operand.func 42), args := #[Operand.tmp 29, Operand.tmp 31], argTypes := #[27, 37] }, type := 30, pos := "exact.go:2912", after := #[{ on := 1, ground := Ground.data }, { on := 3, ground := Ground.data }, { on := 3, ground := Ground.chain }], guard := none }) rfl (fun K hK => ?_) AllReadyH.nil)
   go_simp
   refine (HS.out ay6 cy6 by6 dy6 aq6 cq6 _ (is_of_own oy6x HXAx.out) (is_of_own oy6y HXAy.out) (is_of_own oq6x HXBx.out) ).mono ?_
   rintro e w18 ⟨v6, rfl, ⟨a6, c6, b6, d6, rfl, o6x, o6y, ap6⟩, hb18⟩
   have z18 := hb18.size
   replace B := B.trans (hb18.mono B.size)
   replace AA := AA.kept hb18
   replace AB := AB.kept hb18
   replace kVv := kVv.kept hb18
   replace kDv := kDv.kept hb18
   replace kOv := kOv.kept hb18
   replace AE := AE.kept hb18
   replace oy6x := own_below oy6x hb18
   replace oy6y := own_below oy6y hb18
   replace oq6x := own_below oq6x hb18
   clear hb18
   clear oy6x
   clear oy6y
   clear oq6x
   rw [Hx.out] at o6x ap6 ⊢
   rw [Hy.out] at o6y ap6 ⊢
   have io6x := In.of o6x
   have io6y := In.of o6y
   go_wp2_with fail
   refine hK.out _ _ ⟨arr_range AA, arr_range AB⟩ (fun hHeld => ?_)
   clear hK K
   refine wpAnyH_take (i := 5) (oi := qLPtMulW4) (v := .tuple #[.agg #[Value.slice a6 mx c6, Value.slice b6 my d6], .bool R]) rfl (by kernel_rfl) (by kernel_rfl) (by kernel_rfl) (fun _ _ _ h => h) (.inl ⟨by rfl, fun _ _ => by rfl⟩) (by assumption) ?_
   simp only [Act.put, List.setIfInBounds_toArray, List.set_cons_zero, List.set_cons_succ]
   refine wpAnyH_take (i := 6) (oi := qLPtMulW5) (v := .agg #[Value.slice a6 mx c6, Value.slice b6 my d6]) rfl (by kernel_rfl) (by kernel_rfl) (by kernel_rfl) (fun _ _ _ h => h) (.inl ⟨by rfl, fun _ _ => by rfl⟩) (by assumption) ?_
   simp only [Act.put, List.setIfInBounds_toArray, List.set_cons_zero, List.set_cons_succ]
   refine wpAnyH_take (i := 7) (oi := qLPtMulW6) (v := .bool R) rfl (by kernel_rfl) (by kernel_rfl) (by kernel_rfl) (fun _ _ _ h => h) (.inl ⟨by rfl, fun _ _ => by rfl⟩) (by assumption) ?_
   simp only [Act.put, List.setIfInBounds_toArray, List.set_cons_zero, List.set_cons_succ]
   refine wpAnyH_ready (rs := [9]) (by kernel_rfl) (by simp) (AllReadyH.cons (o := qLPtMulW7) rfl (fun K hK => ?_) AllReadyH.nil)
   rw [if_pos (by rfl)]
   refine wp_store_mid _ _ _ rfl _ _ ([Value.slice a6 mx c6, Value.slice b6 my d6]).toArray rfl rfl (by have := arr_there AE; simpa using this) infoPt (all_oneCell_toArray (by simp [Value.oneCell'])) ?_
   simp only [Act.put]
   obtain ⟨V19, hVe⟩ : ∃ V, V = w18.setCells (wD6.heap.size) 0 ([Value.slice a6 mx c6, Value.slice b6 my d6]) := ⟨_, rfl⟩
   rw [← hVe]
   have hsz : V19.heap.size = w18.heap.size := by rw [hVe]; simp [World.setCells]
   replace B : Below w.heap.size w V19 := by rw [hVe]; exact setCells_below (by omega) _ _ B
   replace AA := arr_setO AA (g := wD6.heap.size) (by omega) ([Value.slice a6 mx c6, Value.slice b6 my d6])
   rw [← hVe] at AA
   replace AB := arr_setO AB (g := wD6.heap.size) (by omega) ([Value.slice a6 mx c6, Value.slice b6 my d6])
   rw [← hVe] at AB
   replace kVv := vr_setO kVv (g := wD6.heap.size) (by omega) ([Value.slice a6 mx c6, Value.slice b6 my d6])
   rw [← hVe] at kVv
   replace kDv := vr_setO kDv (g := wD6.heap.size) (by omega) ([Value.slice a6 mx c6, Value.slice b6 my d6])
   rw [← hVe] at kDv
   replace kOv := vr_setO kOv (g := wD6.heap.size) (by omega) ([Value.slice a6 mx c6, Value.slice b6 my d6])
   rw [← hVe] at kOv
   replace AE : Arr V19 (wD6.heap.size) 27 ([Value.slice a6 mx c6, Value.slice b6 my d6]) := by rw [hVe]; exact Arr.setCells0 AE (by simp)
   replace o6x := own_setCells o6x io6x (E := wD6.heap.size) (by omega) ([Value.slice a6 mx c6, Value.slice b6 my d6])
   rw [← hVe] at o6x
   replace o6y := own_setCells o6y io6y (E := wD6.heap.size) (by omega) ([Value.slice a6 mx c6, Value.slice b6 my d6])
   rw [← hVe] at o6y
   clear hVe
   refine hK.out _ _ ⟨arr_range AA, arr_range AB⟩ (fun hHeld => ?_)
   clear hK K
   refine wpAnyH_ready (rs := [10]) (by kernel_rfl) (by simp) (AllReadyH.cons (o := { dst := some 7, op := Op.assign (Operand.tmp 34), type := 4, pos := "exact.go:2912", after := #[{ on := 7, ground := Ground.data }, { on := 9, ground := Ground.chain }, { on := 0, ground := Ground.phase }, { on := 1, ground := Ground.phase }, { on := 2, ground := Ground.phase }, { on := 3, ground := Ground.phase }, { on := 4, ground := Ground.phase }, { on := 5, ground := Ground.phase }, { on := 6, ground := Ground.phase }, { on := 7, ground := Ground.phase }, { on := 8, ground := Ground.phase }, { on := 9, ground := Ground.phase }], guard := none }) rfl (fun K hK => ?_) AllReadyH.nil)
   go_simp
   refine hK.out _ _ ⟨arr_range AA, arr_range AB⟩ (fun hHeld => ?_)
   clear hK K
   refine wpAnyH_done (by kernel_rfl) ?_ _
   go_wp2
   go_meet
   case rel => exact ⟨wD6.heap.size, a6, c6, b6, d6, rfl, rfl, AE, own_base o6x (by omega), own_base o6y (by omega), ap6, (fun k hk => by have := io6x k hk; omega), (fun k hk => by have := io6y k hk; omega), (fun k hk => by have := io6x k hk; omega), (fun k hk => by have := io6y k hk; omega), by omega, by omega, B, AA, AB, kVv, kDv, kOv⟩
 case rest =>
  clear B AA AB kVv kDv kOv bD
  obtain ⟨E6', a6, c6, b6, d6, rfl, rfl, E6, o6x, o6y, ap6, io6x, io6y, ne6x, ne6y, zE6, zF6, B, AA, AB, kVv, kDv, kOv⟩ := hcut
  obtain ⟨wc6, hwc⟩ : ∃ V, V = wc := ⟨_, rfl⟩
  rw [← hwc] at E6 o6x o6y io6x io6y zF6 B AA AB kVv kDv kOv ⊢
  clear hwc
  clear HS
  go_wp2_with (first
   | (refine wpList_load_row rfl 52 _ rfl (w.heap.size) rfl 52 ([Value.slice aA nA cA, Value.slice bA jA dA]).toArray (0, 0) _ AA Tryd.underlying52 rfl infoPtL ?_))
  refine (toPtC aA nA cA xsA bA jA dA ysA _ (hA.below B) (gA.below B) (by omega) (by omega)).mono ?_
  rintro e w20 ⟨apA, cpA, bpA, dpA, rfl, opAx, opAy, appA, hb20⟩
  have z20 := hb20.size
  replace B := B.trans (hb20.mono B.size)
  replace AA := AA.kept hb20
  replace AB := AB.kept hb20
  replace kVv := kVv.kept hb20
  replace kDv := kDv.kept hb20
  replace kOv := kOv.kept hb20
  replace o6x := own_below o6x hb20
  replace o6y := own_below o6y hb20
  replace E6 := E6.kept hb20
  clear hb20
  have iopAx := In.of opAx
  have iopAy := In.of opAy
  obtain ⟨bV, EpA, A0, z21⟩ := laid_two w20 27 (.slice none 0 0) (.slice none 0 0) (.slice apA nA cpA) (.slice bpA jA dpA)
  obtain ⟨V21, hV21⟩ : ∃ V, V = (w20.alloc (.cells #[.slice none 0 0, .slice none 0 0] 27)).setRow w20.heap.size ([Value.slice apA nA cpA, Value.slice bpA jA dpA] : List Value).toArray := ⟨_, rfl⟩
  rw [← hV21] at bV EpA z21
  replace B := B.trans (bV.mono B.size)
  replace AA := AA.kept bV
  replace AB := AB.kept bV
  replace kVv := kVv.kept bV
  replace kDv := kDv.kept bV
  replace kOv := kOv.kept bV
  replace o6x := own_below o6x bV
  replace o6y := own_below o6y bV
  replace E6 := E6.kept bV
  replace opAx := own_below opAx bV
  replace opAy := own_below opAy bV
  clear bV
  have cAB0 : V21.cell? ⟨w.heap.size + 1, 0, none⟩ = some (Value.slice aB nB cB) := AB.cell 0
  go_wp2_with (first
   | (refine wpList_store_row rfl 27 _ _ rfl w20.heap.size ([Value.slice apA nA cpA, Value.slice bpA jA dpA]).toArray rfl rfl 27 _ A0 infoPt rfl (by simp [Value.oneCell']) ?_; rw [← hV21]; clear hV21 A0))
  clear cAB0
  refine (toScC aB nB cB xsB _ (hB.below B) (by omega)).mono ?_
  rintro e w22 ⟨apB, cpB, rfl, opBx, _, hb22⟩
  have z22 := hb22.size
  replace B := B.trans (hb22.mono B.size)
  replace AA := AA.kept hb22
  replace AB := AB.kept hb22
  replace kVv := kVv.kept hb22
  replace kDv := kDv.kept hb22
  replace kOv := kOv.kept hb22
  replace o6x := own_below o6x hb22
  replace o6y := own_below o6y hb22
  replace E6 := E6.kept hb22
  replace opAx := own_below opAx hb22
  replace opAy := own_below opAy hb22
  replace EpA := EpA.kept hb22
  clear hb22
  have iopBx := In.of opBx
  obtain ⟨V23, hV23⟩ : ∃ V, V = w22.alloc (.cells #[.slice apB nB cpB] 37) := ⟨_, rfl⟩
  have bV : Below w22.heap.size w22 V23 := by rw [hV23]; exact (Below.refl _ _).alloc (Nat.le_refl _) _
  have z23 : V23.heap.size = w22.heap.size + 1 := by rw [hV23]; simp
  have EpB : Arr V23 w22.heap.size 37 [.slice apB nB cpB] := by rw [hV23]; exact Arr.new w22 [.slice apB nB cpB] _
  replace B := B.trans (bV.mono B.size)
  replace AA := AA.kept bV
  replace AB := AB.kept bV
  replace kVv := kVv.kept bV
  replace kDv := kDv.kept bV
  replace kOv := kOv.kept bV
  replace o6x := own_below o6x bV
  replace o6y := own_below o6y bV
  replace E6 := E6.kept bV
  replace opAx := own_below opAx bV
  replace opAy := own_below opAy bV
  replace EpA := EpA.kept bV
  replace opBx := own_below opBx bV
  clear bV
  have cEpB0 : V23.cell? ⟨w22.heap.size, 0, none⟩ = some (Value.slice apB nB cpB) := EpB.cell 0
  rw [hV23] at cEpB0
  have LEpA := EpA
  rw [hV23] at LEpA
  go_wp2_with (first
   | (refine wpList_load_row rfl 27 _ rfl (w20.heap.size) rfl 27 ([Value.slice apA nA cpA, Value.slice bpA jA dpA]).toArray (0, 0) _ LEpA Tryd.underlying27 rfl infoPt ?_))
  rw [← hV23]
  clear cEpB0 LEpA hV23
  refine (HI.out apA cpA bpA dpA apB cpB _ (is_of_own opAx HXAx.out) (is_of_own opAy HXAy.out) (is_of_own opBx HXBx.out) kVv kDv kOv).mono ?_
  rintro e w24 ⟨v10, rfl, ⟨a10, c10, b10, d10, rfl, o10x, o10y, ap10⟩, hb24⟩
  have z24 := hb24.size
  replace B := B.trans (hb24.mono B.size)
  replace AA := AA.kept hb24
  replace AB := AB.kept hb24
  replace kVv := kVv.kept hb24
  replace kDv := kDv.kept hb24
  replace kOv := kOv.kept hb24
  replace o6x := own_below o6x hb24
  replace o6y := own_below o6y hb24
  replace E6 := E6.kept hb24
  replace opAx := own_below opAx hb24
  replace opAy := own_below opAy hb24
  replace EpA := EpA.kept hb24
  replace opBx := own_below opBx hb24
  replace EpB := EpB.kept hb24
  clear hb24
  rw [Hx.out] at o10x ap10 ⊢
  rw [Hy.out] at o10y ap10 ⊢
  have io10x := In.of o10x
  have io10y := In.of o10y
  obtain ⟨bV, E10, A0, z25⟩ := laid_two w24 27 (.slice none 0 0) (.slice none 0 0) (.slice a10 mx c10) (.slice b10 my d10)
  obtain ⟨V25, hV25⟩ : ∃ V, V = (w24.alloc (.cells #[.slice none 0 0, .slice none 0 0] 27)).setRow w24.heap.size ([Value.slice a10 mx c10, Value.slice b10 my d10] : List Value).toArray := ⟨_, rfl⟩
  rw [← hV25] at bV E10 z25
  replace B := B.trans (bV.mono B.size)
  replace AA := AA.kept bV
  replace AB := AB.kept bV
  replace kVv := kVv.kept bV
  replace kDv := kDv.kept bV
  replace kOv := kOv.kept bV
  replace o6x := own_below o6x bV
  replace o6y := own_below o6y bV
  replace E6 := E6.kept bV
  replace opAx := own_below opAx bV
  replace opAy := own_below opAy bV
  replace EpA := EpA.kept bV
  replace opBx := own_below opBx bV
  replace EpB := EpB.kept bV
  replace o10x := own_below o10x bV
  replace o10y := own_below o10y bV
  clear bV
  go_wp2_with (first
   | (refine wpList_store_row rfl 27 _ _ rfl w24.heap.size ([Value.slice a10 mx c10, Value.slice b10 my d10]).toArray rfl rfl 27 _ A0 infoPt rfl (by simp [Value.oneCell']) ?_; rw [← hV25]; clear hV25 A0)
   | (refine wpList_load_row rfl 27 _ rfl (w24.heap.size) rfl 27 ([Value.slice a10 mx c10, Value.slice b10 my d10]).toArray (0, 0) _ E10 Tryd.underlying27 rfl infoPt ?_)
   | (refine wpList_load_row rfl 27 _ rfl (E6') rfl 27 ([Value.slice a6 mx c6, Value.slice b6 my d6]).toArray (0, 0) _ E6 Tryd.underlying27 rfl infoPt ?_))
  refine (eqPtC a10 a6 mx c10 c6 L b10 b6 my d10 d6 M _ (is_of_own o10x HBL.out) (is_of_own o6x HBL.out) (is_of_own o10y HBM.out) (is_of_own o6y HBM.out) (by omega) (by omega)).mono ?_
  rintro e w26 ⟨rfl, hb26⟩
  have z26 := hb26.size
  replace B := B.trans (hb26.mono B.size)
  replace AA := AA.kept hb26
  replace AB := AB.kept hb26
  replace kVv := kVv.kept hb26
  replace kDv := kDv.kept hb26
  replace kOv := kOv.kept hb26
  replace o6x := own_below o6x hb26
  replace o6y := own_below o6y hb26
  replace E6 := E6.kept hb26
  replace opAx := own_below opAx hb26
  replace opAy := own_below opAy hb26
  replace EpA := EpA.kept hb26
  replace opBx := own_below opBx hb26
  replace EpB := EpB.kept hb26
  replace o10x := own_below o10x hb26
  replace o10y := own_below o10y hb26
  replace E10 := E10.kept hb26
  clear hb26
  go_wp2
  have bD : Below w26.heap.size w26 w26.drew := (Below.refl _ _).drew
  replace B := B.trans (bD.mono B.size)
  replace AA := AA.kept bD
  replace AB := AB.kept bD
  replace kVv := kVv.kept bD
  replace kDv := kDv.kept bD
  replace kOv := kOv.kept bD
  replace o6x := own_below o6x bD
  replace o6y := own_below o6y bD
  replace E6 := E6.kept bD
  replace opAx := own_below opAx bD
  replace opAy := own_below opAy bD
  replace EpA := EpA.kept bD
  replace opBx := own_below opBx bD
  replace EpB := EpB.kept bD
  replace o10x := own_below o10x bD
  replace o10y := own_below o10y bD
  replace E10 := E10.kept bD
  clear bD
  have huE : Tryd.prog.underlying 27 = some _ := Tryd.underlying27
  have huL : Tryd.prog.underlying 52 = some _ := Tryd.underlying52
  refine wp_region_held_drew (S := fun W => W.rangeAt (w20.heap.size) 0 [Value.slice apA nA cpA, Value.slice bpA jA dpA] ∧ W.rangeAt (w.heap.size) 0 [Value.slice aA nA cA, Value.slice bA jA dA]) (by kernel_rfl) ⟨arr_range EpA, arr_range AA⟩ (fun hHeld => ?_)
  obtain ⟨wDA, hD⟩ : ∃ V, V = w26.drew := ⟨_, rfl⟩
  rw [← hD] at hHeld B AA AB kVv kDv kOv o6x o6y E6 opAx opAy EpA opBx EpB o10x o10y E10 ⊢
  have zDA : wDA.heap.size ≤ w26.heap.size ∧ w26.heap.size ≤ wDA.heap.size := by rw [hD]; exact ⟨Nat.le_refl _, Nat.le_refl _⟩
  clear hD
  refine wpAnyH_take (i := 0) (oi := { dst := some 54, op := Op.load 27 (Operand.tmp 8), type := 27, pos := "exact.go:2919", after := #[], guard := none }) (v := _) rfl (by kernel_rfl) (by kernel_rfl) (by kernel_rfl) (fun _ _ _ h => h) (yieldsIf_load_mid (by rfl) _ _ rfl _ _ rfl ([Value.slice apA nA cpA, Value.slice bpA jA dpA]) _ (fun _ h => h.1) huE rfl infoPt) (by assumption) ?_
  simp only [Act.put, List.setIfInBounds_toArray, List.set_cons_zero, List.set_cons_succ]
  refine wpAnyH_take (i := 1) (oi := { dst := some 55, op := Op.load 52 (Operand.tmp 2), type := 52, pos := "exact.go:2919", after := #[], guard := none }) (v := _) rfl (by kernel_rfl) (by kernel_rfl) (by kernel_rfl) (fun _ _ _ h => h) (yieldsIf_load_mid (by rfl) _ _ rfl _ _ rfl ([Value.slice aA nA cA, Value.slice bA jA dA]) _ (fun _ h => h.2) huL rfl infoPtL) (by assumption) ?_
  simp only [Act.put, List.setIfInBounds_toArray, List.set_cons_zero, List.set_cons_succ]
  clear huE huL
  refine wpAnyH_ready (rs := [2]) (by kernel_rfl) (by simp) (AllReadyH.cons (o := { dst := some 56, op := Op.call { callee := Callee.value (Operand.func 34), args := #[Operand.tmp 55], argTypes := #[52] }, type := 27, pos := "exact.go:2919", after := #[{ on := 1, ground := Ground.data }], guard := none }) rfl (fun K hK => ?_) AllReadyH.nil)
  go_simp
  refine (toPtC aA nA cA xsA bA jA dA ysA _ (hA.below B) (gA.below B) (by omega) (by omega)).mono ?_
  rintro e w27 ⟨akA, ckA, bkA, dkA, rfl, okAx, okAy, apkA, hb27⟩
  have z27 := hb27.size
  replace B := B.trans (hb27.mono B.size)
  replace AA := AA.kept hb27
  replace AB := AB.kept hb27
  replace kVv := kVv.kept hb27
  replace kDv := kDv.kept hb27
  replace kOv := kOv.kept hb27
  replace o6x := own_below o6x hb27
  replace o6y := own_below o6y hb27
  replace E6 := E6.kept hb27
  replace opAx := own_below opAx hb27
  replace opAy := own_below opAy hb27
  replace EpA := EpA.kept hb27
  replace opBx := own_below opBx hb27
  replace EpB := EpB.kept hb27
  replace o10x := own_below o10x hb27
  replace o10y := own_below o10y hb27
  replace E10 := E10.kept hb27
  clear hb27
  have iokAx := In.of okAx
  have iokAy := In.of okAy
  go_wp2_with fail
  refine hK.out _ _ ⟨arr_range EpA, arr_range AA⟩ (fun hHeld => ?_)
  clear hK K
  refine wpAnyH_ready (rs := [3]) (by kernel_rfl) (by simp) (AllReadyH.cons (o := { dst := some 57, op := Op.call { callee := Callee.value (Operand.func 35), args := #[Operand.tmp 54, Operand.tmp 56], argTypes := #[27, 27] }, type := 4, pos := "exact.go:2919", after := #[{ on := 0, ground := Ground.data }, { on := 2, ground := Ground.data }, { on := 2, ground := Ground.chain }], guard := none }) rfl (fun K hK => ?_) AllReadyH.nil)
  go_simp
  refine (eqPtC apA akA nA cpA ckA xsA bpA bkA jA dpA dkA ysA _ (is_of_own opAx HXAx.out) (is_of_own okAx HXAx.out) (is_of_own opAy HXAy.out) (is_of_own okAy HXAy.out) (by omega) (by omega)).mono ?_
  rintro e w28 ⟨rfl, hb28⟩
  have z28 := hb28.size
  replace B := B.trans (hb28.mono B.size)
  replace AA := AA.kept hb28
  replace AB := AB.kept hb28
  replace kVv := kVv.kept hb28
  replace kDv := kDv.kept hb28
  replace kOv := kOv.kept hb28
  replace o6x := own_below o6x hb28
  replace o6y := own_below o6y hb28
  replace E6 := E6.kept hb28
  replace opAx := own_below opAx hb28
  replace opAy := own_below opAy hb28
  replace EpA := EpA.kept hb28
  replace opBx := own_below opBx hb28
  replace EpB := EpB.kept hb28
  replace o10x := own_below o10x hb28
  replace o10y := own_below o10y hb28
  replace E10 := E10.kept hb28
  replace okAx := own_below okAx hb28
  replace okAy := own_below okAy hb28
  clear hb28
  clear okAx
  clear okAy
  go_wp2_with fail
  refine hK.out _ _ ⟨arr_range EpA, arr_range AA⟩ (fun hHeld => ?_)
  clear hK K
  refine wpAnyH_ready (rs := [4]) (by kernel_rfl) (by simp) (AllReadyH.cons (o := { dst := some 58, op := Op.unOp UnOp.not 4 (Operand.tmp 57), type := 4, pos := "exact.go:2919", after := #[{ on := 3, ground := Ground.data }], guard := none }) rfl (fun K hK => ?_) AllReadyH.nil)
  go_simp
  refine hK.out _ _ ⟨arr_range EpA, arr_range AA⟩ (fun hHeld => ?_)
  clear hK K
  refine wpAnyH_done (by kernel_rfl) ?_ _
  clear hHeld
  go_wp2
  have bD : Below w28.heap.size w28 w28.drew := (Below.refl _ _).drew
  replace B := B.trans (bD.mono B.size)
  replace AA := AA.kept bD
  replace AB := AB.kept bD
  replace kVv := kVv.kept bD
  replace kDv := kDv.kept bD
  replace kOv := kOv.kept bD
  replace o6x := own_below o6x bD
  replace o6y := own_below o6y bD
  replace E6 := E6.kept bD
  replace opAx := own_below opAx bD
  replace opAy := own_below opAy bD
  replace EpA := EpA.kept bD
  replace opBx := own_below opBx bD
  replace EpB := EpB.kept bD
  replace o10x := own_below o10x bD
  replace o10y := own_below o10y bD
  replace E10 := E10.kept bD
  clear bD
  have huE : Tryd.prog.underlying 37 = some _ := Tryd.underlying37
  have huL : Tryd.prog.underlying 59 = some _ := Tryd.underlying59
  refine wp_region_held_drew (S := fun W => W.rangeAt (w22.heap.size) 0 [Value.slice apB nB cpB] ∧ W.rangeAt (w.heap.size + 1) 0 [Value.slice aB nB cB]) (by kernel_rfl) ⟨arr_range EpB, arr_range AB⟩ (fun hHeld => ?_)
  obtain ⟨wDB, hD⟩ : ∃ V, V = w28.drew := ⟨_, rfl⟩
  rw [← hD] at hHeld B AA AB kVv kDv kOv o6x o6y E6 opAx opAy EpA opBx EpB o10x o10y E10 ⊢
  have zDB : wDB.heap.size ≤ w28.heap.size ∧ w28.heap.size ≤ wDB.heap.size := by rw [hD]; exact ⟨Nat.le_refl _, Nat.le_refl _⟩
  clear hD
  refine wpAnyH_take (i := 0) (oi := { dst := some 59, op := Op.load 37 (Operand.tmp 9), type := 37, pos := "exact.go:2922", after := #[], guard := none }) (v := _) rfl (by kernel_rfl) (by kernel_rfl) (by kernel_rfl) (fun _ _ _ h => h) (yieldsIf_load_mid (by rfl) _ _ rfl _ _ rfl ([Value.slice apB nB cpB]) _ (fun _ h => h.1) huE rfl infoSc) (by assumption) ?_
  simp only [Act.put, List.setIfInBounds_toArray, List.set_cons_zero, List.set_cons_succ]
  refine wpAnyH_take (i := 1) (oi := { dst := some 60, op := Op.load 59 (Operand.tmp 3), type := 59, pos := "exact.go:2922", after := #[], guard := none }) (v := _) rfl (by kernel_rfl) (by kernel_rfl) (by kernel_rfl) (fun _ _ _ h => h) (yieldsIf_load_mid (by rfl) _ _ rfl _ _ rfl ([Value.slice aB nB cB]) _ (fun _ h => h.2) huL rfl infoScL) (by assumption) ?_
  simp only [Act.put, List.setIfInBounds_toArray, List.set_cons_zero, List.set_cons_succ]
  clear huE huL
  refine wpAnyH_ready (rs := [2]) (by kernel_rfl) (by simp) (AllReadyH.cons (o := { dst := some 61, op := Op.call { callee := Callee.value (Operand.func 43), args := #[Operand.tmp 60], argTypes := #[59] }, type := 37, pos := "exact.go:2922", after := #[{ on := 1, ground := Ground.data }], guard := none }) rfl (fun K hK => ?_) AllReadyH.nil)
  go_simp
  refine (toScC aB nB cB xsB _ (hB.below B) (by omega)).mono ?_
  rintro e w29 ⟨akB, ckB, rfl, okBx, _, hb29⟩
  have z29 := hb29.size
  replace B := B.trans (hb29.mono B.size)
  replace AA := AA.kept hb29
  replace AB := AB.kept hb29
  replace kVv := kVv.kept hb29
  replace kDv := kDv.kept hb29
  replace kOv := kOv.kept hb29
  replace o6x := own_below o6x hb29
  replace o6y := own_below o6y hb29
  replace E6 := E6.kept hb29
  replace opAx := own_below opAx hb29
  replace opAy := own_below opAy hb29
  replace EpA := EpA.kept hb29
  replace opBx := own_below opBx hb29
  replace EpB := EpB.kept hb29
  replace o10x := own_below o10x hb29
  replace o10y := own_below o10y hb29
  replace E10 := E10.kept hb29
  clear hb29
  have iokBx := In.of okBx
  go_wp2_with fail
  refine hK.out _ _ ⟨arr_range EpB, arr_range AB⟩ (fun hHeld => ?_)
  clear hK K
  refine wpAnyH_ready (rs := [3]) (by kernel_rfl) (by simp) (AllReadyH.cons (o := { dst := some 62, op := Op.call { callee := Callee.value (Operand.func 44), args := #[Operand.tmp 59, Operand.tmp 61], argTypes := #[37, 37] }, type := 4, pos := "exact.go:2922", after := #[{ on := 0, ground := Ground.data }, { on := 2, ground := Ground.data }, { on := 2, ground := Ground.chain }], guard := none }) rfl (fun K hK => ?_) AllReadyH.nil)
  go_simp
  refine (eqScC apB akB nB cpB ckB xsB _ (is_of_own opBx HXBx.out) (is_of_own okBx HXBx.out) (by omega)).mono ?_
  rintro e w30 ⟨rfl, hb30⟩
  have z30 := hb30.size
  replace B := B.trans (hb30.mono B.size)
  replace AA := AA.kept hb30
  replace AB := AB.kept hb30
  replace kVv := kVv.kept hb30
  replace kDv := kDv.kept hb30
  replace kOv := kOv.kept hb30
  replace o6x := own_below o6x hb30
  replace o6y := own_below o6y hb30
  replace E6 := E6.kept hb30
  replace opAx := own_below opAx hb30
  replace opAy := own_below opAy hb30
  replace EpA := EpA.kept hb30
  replace opBx := own_below opBx hb30
  replace EpB := EpB.kept hb30
  replace o10x := own_below o10x hb30
  replace o10y := own_below o10y hb30
  replace E10 := E10.kept hb30
  replace okBx := own_below okBx hb30
  clear hb30
  clear okBx
  go_wp2_with fail
  refine hK.out _ _ ⟨arr_range EpB, arr_range AB⟩ (fun hHeld => ?_)
  clear hK K
  refine wpAnyH_ready (rs := [4]) (by kernel_rfl) (by simp) (AllReadyH.cons (o := { dst := some 63, op := Op.unOp UnOp.not 4 (Operand.tmp 62), type := 4, pos := "exact.go:2922", after := #[{ on := 3, ground := Ground.data }], guard := none }) rfl (fun K hK => ?_) AllReadyH.nil)
  go_simp
  refine hK.out _ _ ⟨arr_range EpB, arr_range AB⟩ (fun hHeld => ?_)
  clear hK K
  refine wpAnyH_done (by kernel_rfl) ?_ _
  clear hHeld
  go_wp2_with (first
   | (refine wpList_load_row rfl 27 _ rfl (w20.heap.size) rfl 27 ([Value.slice apA nA cpA, Value.slice bpA jA dpA]).toArray (0, 0) _ EpA Tryd.underlying27 rfl infoPt ?_))
  refine (markPtC _ nA (.slice apA nA cpA) _ _ jA (.slice bpA jA dpA) _ (1) _ opAx opAy appA (by omega) (by omega) (by omega) (by omega)).mono ?_
  rintro e w31 ⟨rfl, M31, gx, gy, nx31, ny31⟩
  have zx31 := gx.size
  have zy31 := gy.size
  replace B := B.grown gx B.size (fun k hk => by have := (iopAx k hk).1; omega)
  replace B := B.grown gy B.size (fun k hk => by have := (iopAy k hk).1; omega)
  replace AA := arr_mark AA gx iopAx (by omega)
  replace AA := arr_mark AA gy iopAy (by omega)
  replace AB := arr_mark AB gx iopAx (by omega)
  replace AB := arr_mark AB gy iopAy (by omega)
  replace kVv := vr_mark kVv gx iopAx (by omega)
  replace kVv := vr_mark kVv gy iopAy (by omega)
  replace kDv := vr_mark kDv gx iopAx (by omega)
  replace kDv := vr_mark kDv gy iopAy (by omega)
  replace kOv := vr_mark kOv gx iopAx (by omega)
  replace kOv := vr_mark kOv gy iopAy (by omega)
  replace o6x := own_kept o6x gx (iopAx.apart io6x (by omega))
  replace o6x := own_kept o6x gy (iopAy.apart io6x (by omega))
  replace o6y := own_kept o6y gx (iopAx.apart io6y (by omega))
  replace o6y := own_kept o6y gy (iopAy.apart io6y (by omega))
  replace E6 := arr_mark E6 gx iopAx (by omega)
  replace E6 := arr_mark E6 gy iopAy (by omega)
  replace EpA := arr_mark EpA gx iopAx (by omega)
  replace EpA := arr_mark EpA gy iopAy (by omega)
  replace opBx := own_kept opBx gx (iopAx.apart iopBx (by omega))
  replace opBx := own_kept opBx gy (iopAy.apart iopBx (by omega))
  replace EpB := arr_mark EpB gx iopAx (by omega)
  replace EpB := arr_mark EpB gy iopAy (by omega)
  replace o10x := own_kept o10x gx (iopAx.apart io10x (by omega))
  replace o10x := own_kept o10x gy (iopAy.apart io10x (by omega))
  replace o10y := own_kept o10y gx (iopAx.apart io10y (by omega))
  replace o10y := own_kept o10y gy (iopAy.apart io10y (by omega))
  replace E10 := arr_mark E10 gx iopAx (by omega)
  replace E10 := arr_mark E10 gy iopAy (by omega)
  clear gx gy
  clear opAx opAy nx31 ny31
  clear EpA
  have cEpB0 : w31.cell? ⟨w22.heap.size, 0, none⟩ = some (Value.slice apB nB cpB) := EpB.cell 0
  go_wp2_with fail
  clear cEpB0
  refine (markScC _ nB _ (1 + (nA : Int) + (jA : Int)) _ _ opBx (by omega) (by omega) (by omega)).mono ?_
  rintro e w32 ⟨rfl, nx32, gx⟩
  have zx32 := gx.size
  replace B := B.grown gx B.size (fun k hk => by have := (iopBx k hk).1; omega)
  replace AA := arr_mark AA gx iopBx (by omega)
  replace AB := arr_mark AB gx iopBx (by omega)
  replace kVv := vr_mark kVv gx iopBx (by omega)
  replace kDv := vr_mark kDv gx iopBx (by omega)
  replace kOv := vr_mark kOv gx iopBx (by omega)
  replace o6x := own_kept o6x gx (iopBx.apart io6x (by omega))
  replace o6y := own_kept o6y gx (iopBx.apart io6y (by omega))
  replace E6 := arr_mark E6 gx iopBx (by omega)
  replace EpB := arr_mark EpB gx iopBx (by omega)
  replace o10x := own_kept o10x gx (iopBx.apart io10x (by omega))
  replace o10y := own_kept o10y gx (iopBx.apart io10y (by omega))
  replace E10 := arr_mark E10 gx iopBx (by omega)
  clear gx
  clear opBx nx32
  clear EpB
  have hk0 : ¬ ((1 : Int) + (nA : Int) + (jA : Int) + (nB : Int) < 0) := by omega
  have cE100 : w32.cell? ⟨w24.heap.size, 0, none⟩ = some (Value.slice a10 mx c10) := E10.cell 0
  have cE101 : w32.cell? ⟨w24.heap.size, 1, none⟩ = some (Value.slice b10 my d10) := E10.cell 1
  have cE60 : w32.cell? ⟨E6', 0, none⟩ = some (Value.slice a6 mx c6) := E6.cell 0
  have cE61 : w32.cell? ⟨E6', 1, none⟩ = some (Value.slice b6 my d6) := E6.cell 1
  go_wp2_with fail
  clear cE100 cE101 cE60 cE61
  refine (eqPtC a10 a6 mx c10 c6 L b10 b6 my d10 d6 M _ (is_of_own o10x HBL.out) (is_of_own o6x HBL.out) (is_of_own o10y HBM.out) (is_of_own o6y HBM.out) (by omega) (by omega)).mono ?_
  rintro e w33 ⟨rfl, hb33⟩
  have z33 := hb33.size
  replace B := B.trans (hb33.mono B.size)
  replace AA := AA.kept hb33
  replace AB := AB.kept hb33
  replace kVv := kVv.kept hb33
  replace kDv := kDv.kept hb33
  replace kOv := kOv.kept hb33
  replace o6x := own_below o6x hb33
  replace o6y := own_below o6y hb33
  replace E6 := E6.kept hb33
  replace o10x := own_below o10x hb33
  replace o10y := own_below o10y hb33
  replace E10 := E10.kept hb33
  clear hb33
  go_wp2_with (first
   | (refine wpList_load_row rfl 27 _ rfl (w24.heap.size) rfl 27 ([Value.slice a10 mx c10, Value.slice b10 my d10]).toArray (0, 0) _ E10 Tryd.underlying27 rfl infoPt ?_))
  refine (markPtC _ mx (.slice a10 mx c10) _ _ my (.slice b10 my d10) _ (1) _ o10x o10y ap10 (by omega) (by omega) (by omega) (by omega)).mono ?_
  rintro e w34 ⟨rfl, M34, gx, gy, nx34, ny34⟩
  have zx34 := gx.size
  have zy34 := gy.size
  replace B := B.grown gx B.size (fun k hk => by have := (io10x k hk).1; omega)
  replace B := B.grown gy B.size (fun k hk => by have := (io10y k hk).1; omega)
  replace AA := arr_mark AA gx io10x (by omega)
  replace AA := arr_mark AA gy io10y (by omega)
  replace AB := arr_mark AB gx io10x (by omega)
  replace AB := arr_mark AB gy io10y (by omega)
  replace kVv := vr_mark kVv gx io10x (by omega)
  replace kVv := vr_mark kVv gy io10y (by omega)
  replace kDv := vr_mark kDv gx io10x (by omega)
  replace kDv := vr_mark kDv gy io10y (by omega)
  replace kOv := vr_mark kOv gx io10x (by omega)
  replace kOv := vr_mark kOv gy io10y (by omega)
  replace o6x := own_kept o6x gx (io10x.apart io6x (by omega))
  replace o6x := own_kept o6x gy (io10y.apart io6x (by omega))
  replace o6y := own_kept o6y gx (io10x.apart io6y (by omega))
  replace o6y := own_kept o6y gy (io10y.apart io6y (by omega))
  replace E6 := arr_mark E6 gx io10x (by omega)
  replace E6 := arr_mark E6 gy io10y (by omega)
  replace E10 := arr_mark E10 gx io10x (by omega)
  replace E10 := arr_mark E10 gy io10y (by omega)
  clear gx gy
  replace o10x := nx34
  replace o10y := ny34
  clear nx34 ny34
  have hm0 : ¬ ((1 : Int) + (mx : Int) + (my : Int) < 0) := by omega
  have hmm : ((1 : Int) + (mx : Int) + (my : Int) != 1 + (mx : Int) + (my : Int)) = false := by simp
  have HMx : Hid _ := marksI_int 1 mx (by omega) (by omega) (by omega)
  have HMy : Hid _ := marksI_int (1 + (mx : Int)) my (by omega) (by omega) (by omega)
  go_wp2_with (first
   | (refine wpList_load_row rfl 27 _ rfl (w24.heap.size) rfl 27 ([Value.slice a10 mx c10, Value.slice b10 my d10]).toArray (0, 0) _ E10 Tryd.underlying27 rfl infoPt ?_))
  refine (heldPtC a10 mx c10 b10 my d10 1 _ (is_of_own o10x HMx.out) (is_of_own o10y HMy.out) (by omega) (by omega) (by omega) (by omega)).mono ?_
  rintro e w35 ⟨rfl, hb35⟩
  have z35 := hb35.size
  replace B := B.trans (hb35.mono B.size)
  replace AA := AA.kept hb35
  replace AB := AB.kept hb35
  replace kVv := kVv.kept hb35
  replace kDv := kDv.kept hb35
  replace kOv := kOv.kept hb35
  replace o6x := own_below o6x hb35
  replace o6y := own_below o6y hb35
  replace E6 := E6.kept hb35
  replace o10x := own_below o10x hb35
  replace o10y := own_below o10y hb35
  replace E10 := E10.kept hb35
  clear hb35
  go_wp2
  have bD : Below w35.heap.size w35 w35.drew := (Below.refl _ _).drew
  go_cut [15, 16] from 17 (fun s15 s16 wc => ∃ (E : Nat) (a15 : Option Addr) (c15 : Nat) (b15 : Option Addr) (d15 : Nat), s15 = .pointer (some ⟨E, 0, none⟩) ∧ s16 = .bool R ∧ Arr wc E 27 [Value.slice a15 mx c15, Value.slice b15 my d15] ∧ wc.ownsRow w35.heap.size 70 1 (Value.slice a15 mx c15) mx (I64 L) ∧ wc.ownsRow w35.heap.size 70 1 (Value.slice b15 my d15) my (I64 M) ∧ Apart (Value.slice a15 mx c15) (Value.slice b15 my d15) ∧ In (Value.slice a15 mx c15) w35.heap.size wc.heap.size ∧ In (Value.slice b15 my d15) w35.heap.size wc.heap.size ∧ (∀ k, (Value.slice a15 mx c15).ownBlock = some k → k ≠ E) ∧ (∀ k, (Value.slice b15 my d15).ownBlock = some k → k ≠ E) ∧ w35.heap.size ≤ E ∧ E < wc.heap.size ∧ Below w.heap.size w wc ∧ Arr wc (w.heap.size) 52 [Value.slice aA nA cA, Value.slice bA jA dA] ∧ Arr wc (w.heap.size + 1) 59 [Value.slice aB nB cB] ∧ Vr wc 4 (I64 PL) ∧ Vr wc 2 (I64 DL) ∧ Vr wc 3 (I64 OL) ∧ wc.ownsRow w2.heap.size 3 1 (Value.slice a6 mx c6) mx (I64 L) ∧ wc.ownsRow w2.heap.size 3 1 (Value.slice b6 my d6) my (I64 M) ∧ Arr wc (E6') 27 [Value.slice a6 mx c6, Value.slice b6 my d6] ∧ wc.ownsRow V23.heap.size 70 1 (Value.slice a10 mx c10) mx (I64 (marksI 1 mx)) ∧ wc.ownsRow V23.heap.size 70 1 (Value.slice b10 my d10) my (I64 (marksI (1 + (mx : Int)) my)) ∧ Arr wc (w24.heap.size) 27 [Value.slice a10 mx c10, Value.slice b10 my d10])
  case first =>
   replace B := B.trans (bD.mono B.size)
   replace AA := AA.kept bD
   replace AB := AB.kept bD
   replace kVv := kVv.kept bD
   replace kDv := kDv.kept bD
   replace kOv := kOv.kept bD
   replace o6x := own_below o6x bD
   replace o6y := own_below o6y bD
   replace E6 := E6.kept bD
   replace o10x := own_below o10x bD
   replace o10y := own_below o10y bD
   replace E10 := E10.kept bD
   clear bD
   have huA : Tryd.prog.underlying 52 = some _ := Tryd.underlying52
   have huB : Tryd.prog.underlying 59 = some _ := Tryd.underlying59
   refine wp_region_held_drew (S := fun W => W.rangeAt (w.heap.size) 0 [Value.slice aA nA cA, Value.slice bA jA dA] ∧ W.rangeAt (w.heap.size + 1) 0 [Value.slice aB nB cB]) (by kernel_rfl) ⟨arr_range AA, arr_range AB⟩ (fun hHeld => ?_)
   obtain ⟨wD15, hD⟩ : ∃ V, V = w35.drew := ⟨_, rfl⟩
   rw [← hD] at hHeld B AA AB kVv kDv kOv o6x o6y E6 o10x o10y E10 ⊢
   have zD15 : wD15.heap.size ≤ w35.heap.size ∧ w35.heap.size ≤ wD15.heap.size := by rw [hD]; exact ⟨Nat.le_refl _, Nat.le_refl _⟩
   clear hD
   refine wpAnyH_take (i := 0) (oi := { dst := some 95, op := Op.load 52 (Operand.tmp 2), type := 52, pos := "exact.go:2941", after := #[], guard := none }) (v := _) rfl (by kernel_rfl) (by kernel_rfl) (by kernel_rfl) (fun _ _ _ h => h) (yieldsIf_load_mid (by rfl) _ _ rfl _ _ rfl ([Value.slice aA nA cA, Value.slice bA jA dA]) _ (fun _ h => h.1) huA rfl infoPtL) (by assumption) ?_
   simp only [Act.put, List.setIfInBounds_toArray, List.set_cons_zero, List.set_cons_succ]
   refine wpAnyH_take (i := 2) (oi := { dst := some 97, op := Op.load 59 (Operand.tmp 3), type := 59, pos := "exact.go:2941", after := #[], guard := none }) (v := _) rfl (by kernel_rfl) (by kernel_rfl) (by kernel_rfl) (fun _ _ _ h => h) (yieldsIf_load_mid (by rfl) _ _ rfl _ _ rfl ([Value.slice aB nB cB]) _ (fun _ h => h.2) huB rfl infoScL) (by assumption) ?_
   simp only [Act.put, List.setIfInBounds_toArray, List.set_cons_zero, List.set_cons_succ]
   refine wpAnyH_ready (rs := [1, 8]) (by kernel_rfl) (by simp) (AllReadyH.cons (o := { dst := some 96, op := Op.call { callee := Callee.value (Operand.func 34), args := #[Operand.tmp 95], argTypes := #[52] }, type := 27, pos := "exact.go:2941", after := #[{ on := 0, ground := Ground.data }], guard := none }) rfl (fun K hK => ?_) (AllReadyH.cons (o := { dst := some 15, op := Op.alloc 27, type := 0, pos := "exact.go:2941", after := #[], guard := none }) rfl (fun K hK => ?_) AllReadyH.nil))
   ·skip
    go_simp
    refine (toPtC aA nA cA xsA bA jA dA ysA _ (hA.below B) (gA.below B) (by omega) (by omega)).mono ?_
    rintro e w36 ⟨ay15, cy15, by15, dy15, rfl, oy15x, oy15y, apy15, hb36⟩
    have z36 := hb36.size
    replace B := B.trans (hb36.mono B.size)
    replace AA := AA.kept hb36
    replace AB := AB.kept hb36
    replace kVv := kVv.kept hb36
    replace kDv := kDv.kept hb36
    replace kOv := kOv.kept hb36
    replace o6x := own_below o6x hb36
    replace o6y := own_below o6y hb36
    replace E6 := E6.kept hb36
    replace o10x := own_below o10x hb36
    replace o10y := own_below o10y hb36
    replace E10 := E10.kept hb36
    clear hb36
    have ioy15x := In.of oy15x
    have ioy15y := In.of oy15y
    go_wp2_with fail
    refine hK.out _ _ ⟨arr_range AA, arr_range AB⟩ (fun hHeld => ?_)
    clear hK K
    refine wpAnyH_ready (rs := [3, 8]) (by kernel_rfl) (by simp) (AllReadyH.cons (o := { dst := some 98, op := Op.call { callee := Callee.value (Operand.func 43), args := #[Operand.tmp 97], argTypes := #[59] }, type := 37, pos := "exact.go:2941", after := #[{ on := 2, ground := Ground.data }, { on := 1, ground := Ground.chain }], guard := none }) rfl (fun K hK => ?_) (AllReadyH.cons (o := { dst := some 15, op := Op.alloc 27, type := 0, pos := "exact.go:2941", after := #[], guard := none }) rfl (fun K hK => ?_) AllReadyH.nil))
    ·skip
     go_simp
     refine (toScC aB nB cB xsB _ (hB.below B) (by omega)).mono ?_
     rintro e w37 ⟨aq15, cq15, rfl, oq15x, _, hb37⟩
     have z37 := hb37.size
     replace B := B.trans (hb37.mono B.size)
     replace AA := AA.kept hb37
     replace AB := AB.kept hb37
     replace kVv := kVv.kept hb37
     replace kDv := kDv.kept hb37
     replace kOv := kOv.kept hb37
     replace o6x := own_below o6x hb37
     replace o6y := own_below o6y hb37
     replace E6 := E6.kept hb37
     replace o10x := own_below o10x hb37
     replace o10y := own_below o10y hb37
     replace E10 := E10.kept hb37
     replace oy15x := own_below oy15x hb37
     replace oy15y := own_below oy15y hb37
     clear hb37
     have ioq15x := In.of oq15x
     go_wp2_with fail
     refine hK.out _ _ ⟨arr_range AA, arr_range AB⟩ (fun hHeld => ?_)
     clear hK K
     refine wpAnyH_ready (rs := [4, 8]) (by kernel_rfl) (by simp) (AllReadyH.cons (o := { dst := some 99, op := Op.call { callee := Callee.value (Operand.func 23), args := #[Operand.tmp 96, Operand.tmp 98], argTypes := #[27, 37] }, type := 30, pos := "exact.go:2941", after := #[{ on := 1, ground := Ground.data }, { on := 3, ground := Ground.data }, { on := 3, ground := Ground.chain }], guard := none }) rfl (fun K hK => ?_) (AllReadyH.cons (o := { dst := some 15, op := Op.alloc 27, type := 0, pos := "exact.go:2941", after := #[], guard := none }) rfl (fun K hK => ?_) AllReadyH.nil))
     ·skip
      go_simp
      refine (HI.out ay15 cy15 by15 dy15 aq15 cq15 _ (is_of_own oy15x HXAx.out) (is_of_own oy15y HXAy.out) (is_of_own oq15x HXBx.out) kVv kDv kOv).mono ?_
      rintro e w38 ⟨v15, rfl, ⟨a15, c15, b15, d15, rfl, o15x, o15y, ap15⟩, hb38⟩
      have z38 := hb38.size
      replace B := B.trans (hb38.mono B.size)
      replace AA := AA.kept hb38
      replace AB := AB.kept hb38
      replace kVv := kVv.kept hb38
      replace kDv := kDv.kept hb38
      replace kOv := kOv.kept hb38
      replace o6x := own_below o6x hb38
      replace o6y := own_below o6y hb38
      replace E6 := E6.kept hb38
      replace o10x := own_below o10x hb38
      replace o10y := own_below o10y hb38
      replace E10 := E10.kept hb38
      replace oy15x := own_below oy15x hb38
      replace oy15y := own_below oy15y hb38
      replace oq15x := own_below oq15x hb38
      clear hb38
      clear oy15x
      clear oy15y
      clear oq15x
      rw [Hx.out] at o15x ap15 ⊢
      rw [Hy.out] at o15y ap15 ⊢
      have io15x := In.of o15x
      have io15y := In.of o15y
      go_wp2_with fail
      refine hK.out _ _ ⟨arr_range AA, arr_range AB⟩ (fun hHeld => ?_)
      clear hK K
      refine wpAnyH_take (i := 5) (oi := qLPtMulW0) (v := .tuple #[.agg #[Value.slice a15 mx c15, Value.slice b15 my d15], .bool R]) rfl (by kernel_rfl) (by kernel_rfl) (by kernel_rfl) (fun _ _ _ h => h) (.inl ⟨by rfl, fun _ _ => by rfl⟩) (by assumption) ?_
      simp only [Act.put, List.setIfInBounds_toArray, List.set_cons_zero, List.set_cons_succ]
      refine wpAnyH_take (i := 6) (oi := qLPtMulW1) (v := .agg #[Value.slice a15 mx c15, Value.slice b15 my d15]) rfl (by kernel_rfl) (by kernel_rfl) (by kernel_rfl) (fun _ _ _ h => h) (.inl ⟨by rfl, fun _ _ => by rfl⟩) (by assumption) ?_
      simp only [Act.put, List.setIfInBounds_toArray, List.set_cons_zero, List.set_cons_succ]
      refine wpAnyH_take (i := 7) (oi := qLPtMulW2) (v := .bool R) rfl (by kernel_rfl) (by kernel_rfl) (by kernel_rfl) (fun _ _ _ h => h) (.inl ⟨by rfl, fun _ _ => by rfl⟩) (by assumption) ?_
      simp only [Act.put, List.setIfInBounds_toArray, List.set_cons_zero, List.set_cons_succ]
      refine wpAnyH_ready (rs := [8]) (by kernel_rfl) (by simp) (AllReadyH.cons (o := { dst := some 15, op := Op.alloc 27, type := 0, pos := "exact.go:2941", after := #[], guard := none }) rfl (fun K hK => ?_) AllReadyH.nil)
      go_simp
      obtain ⟨V39, hVe⟩ : ∃ V, V = w38.alloc (.cells #[.slice none 0 0, .slice none 0 0] 27) := ⟨_, rfl⟩
      have bV : Below w38.heap.size w38 V39 := by rw [hVe]; exact (Below.refl _ _).alloc (Nat.le_refl _) _
      have z39 : V39.heap.size = w38.heap.size + 1 := by rw [hVe]; simp
      have AE : Arr V39 w38.heap.size 27 [.slice none 0 0, .slice none 0 0] := by rw [hVe]; exact Arr.new w38 [.slice none 0 0, .slice none 0 0] _
      replace B := B.trans (bV.mono B.size)
      replace AA := AA.kept bV
      replace AB := AB.kept bV
      replace kVv := kVv.kept bV
      replace kDv := kDv.kept bV
      replace kOv := kOv.kept bV
      replace o6x := own_below o6x bV
      replace o6y := own_below o6y bV
      replace E6 := E6.kept bV
      replace o10x := own_below o10x bV
      replace o10y := own_below o10y bV
      replace E10 := E10.kept bV
      replace o15x := own_below o15x bV
      replace o15y := own_below o15y bV
      rw [← hVe]
      clear bV hVe
      refine hK.out _ _ ⟨arr_range AA, arr_range AB⟩ (fun hHeld => ?_)
      clear hK K
      refine wpAnyH_ready (rs := [9]) (by kernel_rfl) (by simp) (AllReadyH.cons (o := qLPtMulW3) rfl (fun K hK => ?_) AllReadyH.nil)
      rw [if_pos (by rfl)]
      refine wp_store_mid _ _ _ rfl _ _ ([Value.slice a15 mx c15, Value.slice b15 my d15]).toArray rfl rfl (by have := arr_there AE; simpa using this) infoPt (all_oneCell_toArray (by simp [Value.oneCell'])) ?_
      simp only [Act.put]
      obtain ⟨V40, hVe⟩ : ∃ V, V = V39.setCells (w38.heap.size) 0 ([Value.slice a15 mx c15, Value.slice b15 my d15]) := ⟨_, rfl⟩
      rw [← hVe]
      have hsz : V40.heap.size = V39.heap.size := by rw [hVe]; simp [World.setCells]
      replace B : Below w.heap.size w V40 := by rw [hVe]; exact setCells_below (by omega) _ _ B
      replace AA := arr_setO AA (g := w38.heap.size) (by omega) ([Value.slice a15 mx c15, Value.slice b15 my d15])
      rw [← hVe] at AA
      replace AB := arr_setO AB (g := w38.heap.size) (by omega) ([Value.slice a15 mx c15, Value.slice b15 my d15])
      rw [← hVe] at AB
      replace kVv := vr_setO kVv (g := w38.heap.size) (by omega) ([Value.slice a15 mx c15, Value.slice b15 my d15])
      rw [← hVe] at kVv
      replace kDv := vr_setO kDv (g := w38.heap.size) (by omega) ([Value.slice a15 mx c15, Value.slice b15 my d15])
      rw [← hVe] at kDv
      replace kOv := vr_setO kOv (g := w38.heap.size) (by omega) ([Value.slice a15 mx c15, Value.slice b15 my d15])
      rw [← hVe] at kOv
      replace o6x := own_setCells o6x io6x (E := w38.heap.size) (by omega) ([Value.slice a15 mx c15, Value.slice b15 my d15])
      rw [← hVe] at o6x
      replace o6y := own_setCells o6y io6y (E := w38.heap.size) (by omega) ([Value.slice a15 mx c15, Value.slice b15 my d15])
      rw [← hVe] at o6y
      replace E6 := arr_setO E6 (g := w38.heap.size) (by omega) ([Value.slice a15 mx c15, Value.slice b15 my d15])
      rw [← hVe] at E6
      replace o10x := own_setCells o10x io10x (E := w38.heap.size) (by omega) ([Value.slice a15 mx c15, Value.slice b15 my d15])
      rw [← hVe] at o10x
      replace o10y := own_setCells o10y io10y (E := w38.heap.size) (by omega) ([Value.slice a15 mx c15, Value.slice b15 my d15])
      rw [← hVe] at o10y
      replace E10 := arr_setO E10 (g := w38.heap.size) (by omega) ([Value.slice a15 mx c15, Value.slice b15 my d15])
      rw [← hVe] at E10
      replace o15x := own_setCells o15x io15x (E := w38.heap.size) (by omega) ([Value.slice a15 mx c15, Value.slice b15 my d15])
      rw [← hVe] at o15x
      replace o15y := own_setCells o15y io15y (E := w38.heap.size) (by omega) ([Value.slice a15 mx c15, Value.slice b15 my d15])
      rw [← hVe] at o15y
      replace AE : Arr V40 (w38.heap.size) 27 ([Value.slice a15 mx c15, Value.slice b15 my d15]) := by rw [hVe]; exact Arr.setCells0 AE (by simp)
      clear hVe
      refine hK.out _ _ ⟨arr_range AA, arr_range AB⟩ (fun hHeld => ?_)
      clear hK K
      refine wpAnyH_ready (rs := [10]) (by kernel_rfl) (by simp) (AllReadyH.cons (o := { dst := some 16, op := Op.assign (Operand.tmp 101), type := 4, pos := "exact.go:2941", after := #[{ on := 7, ground := Ground.data }, { on := 9, ground := Ground.chain }, { on := 0, ground := Ground.phase }, { on := 1, ground := Ground.phase }, { on := 2, ground := Ground.phase }, { on := 3, ground := Ground.phase }, { on := 4, ground := Ground.phase }, { on := 5, ground := Ground.phase }, { on := 6, ground := Ground.phase }, { on := 7, ground := Ground.phase }, { on := 8, ground := Ground.phase }, { on := 9, ground := Ground.phase }], guard := none }) rfl (fun K hK => ?_) AllReadyH.nil)
      go_simp
      refine hK.out _ _ ⟨arr_range AA, arr_range AB⟩ (fun hHeld => ?_)
      clear hK K
      refine wpAnyH_done (by kernel_rfl) ?_ _
      go_wp2
      go_meet
      case rel => exact ⟨w38.heap.size, a15, c15, b15, d15, rfl, rfl, AE, own_base o15x (by omega), own_base o15y (by omega), ap15, (fun k hk => by have := io15x k hk; omega), (fun k hk => by have := io15y k hk; omega), (fun k hk => by have := io15x k hk; omega), (fun k hk => by have := io15y k hk; omega), by omega, by omega, B, AA, AB, kVv, kDv, kOv, o6x, o6y, E6, o10x, o10y, E10⟩
     ·skip
      go_simp
      obtain ⟨V41, hVe⟩ : ∃ V, V = w37.alloc (.cells #[.slice none 0 0, .slice none 0 0] 27) := ⟨_, rfl⟩
      have bV : Below w37.heap.size w37 V41 := by rw [hVe]; exact (Below.refl _ _).alloc (Nat.le_refl _) _
      have z41 : V41.heap.size = w37.heap.size + 1 := by rw [hVe]; simp
      have AE : Arr V41 w37.heap.size 27 [.slice none 0 0, .slice none 0 0] := by rw [hVe]; exact Arr.new w37 [.slice none 0 0, .slice none 0 0] _
      replace B := B.trans (bV.mono B.size)
      replace AA := AA.kept bV
      replace AB := AB.kept bV
      replace kVv := kVv.kept bV
      replace kDv := kDv.kept bV
      replace kOv := kOv.kept bV
      replace o6x := own_below o6x bV
      replace o6y := own_below o6y bV
      replace E6 := E6.kept bV
      replace o10x := own_below o10x bV
      replace o10y := own_below o10y bV
      replace E10 := E10.kept bV
      replace oy15x := own_below oy15x bV
      replace oy15y := own_below oy15y bV
      replace oq15x := own_below oq15x bV
      rw [← hVe]
      clear bV hVe
      refine hK.out _ _ ⟨arr_range AA, arr_range AB⟩ (fun hHeld => ?_)
      clear hK K
      refine wpAnyH_ready (rs := [4]) (by kernel_rfl) (by simp) (AllReadyH.cons (o := { dst := some 99, op := Op.call { callee := Callee.value (Operand.func 23), args := #[Operand.tmp 96, Operand.tmp 98], argTypes := #[27, 37] }, type := 30, pos := "exact.go:2941", after := #[{ on := 1, ground := Ground.data }, { on := 3, ground := Ground.data }, { on := 3, ground := Ground.chain }], guard := none }) rfl (fun K hK => ?_) AllReadyH.nil)
      go_simp
      refine (HI.out ay15 cy15 by15 dy15 aq15 cq15 _ (is_of_own oy15x HXAx.out) (is_of_own oy15y HXAy.out) (is_of_own oq15x HXBx.out) kVv kDv kOv).mono ?_
      rintro e w42 ⟨v15, rfl, ⟨a15, c15, b15, d15, rfl, o15x, o15y, ap15⟩, hb42⟩
      have z42 := hb42.size
      replace B := B.trans (hb42.mono B.size)
      replace AA := AA.kept hb42
      replace AB := AB.kept hb42
      replace kVv := kVv.kept hb42
      replace kDv := kDv.kept hb42
      replace kOv := kOv.kept hb42
      replace o6x := own_below o6x hb42
      replace o6y := own_below o6y hb42
      replace E6 := E6.kept hb42
      replace o10x := own_below o10x hb42
      replace o10y := own_below o10y hb42
      replace E10 := E10.kept hb42
      replace oy15x := own_below oy15x hb42
      replace oy15y := own_below oy15y hb42
      replace oq15x := own_below oq15x hb42
      replace AE := AE.kept hb42
      clear hb42
      clear oy15x
      clear oy15y
      clear oq15x
      rw [Hx.out] at o15x ap15 ⊢
      rw [Hy.out] at o15y ap15 ⊢
      have io15x := In.of o15x
      have io15y := In.of o15y
      go_wp2_with fail
      refine hK.out _ _ ⟨arr_range AA, arr_range AB⟩ (fun hHeld => ?_)
      clear hK K
      refine wpAnyH_take (i := 5) (oi := qLPtMulW0) (v := .tuple #[.agg #[Value.slice a15 mx c15, Value.slice b15 my d15], .bool R]) rfl (by kernel_rfl) (by kernel_rfl) (by kernel_rfl) (fun _ _ _ h => h) (.inl ⟨by rfl, fun _ _ => by rfl⟩) (by assumption) ?_
      simp only [Act.put, List.setIfInBounds_toArray, List.set_cons_zero, List.set_cons_succ]
      refine wpAnyH_take (i := 6) (oi := qLPtMulW1) (v := .agg #[Value.slice a15 mx c15, Value.slice b15 my d15]) rfl (by kernel_rfl) (by kernel_rfl) (by kernel_rfl) (fun _ _ _ h => h) (.inl ⟨by rfl, fun _ _ => by rfl⟩) (by assumption) ?_
      simp only [Act.put, List.setIfInBounds_toArray, List.set_cons_zero, List.set_cons_succ]
      refine wpAnyH_take (i := 7) (oi := qLPtMulW2) (v := .bool R) rfl (by kernel_rfl) (by kernel_rfl) (by kernel_rfl) (fun _ _ _ h => h) (.inl ⟨by rfl, fun _ _ => by rfl⟩) (by assumption) ?_
      simp only [Act.put, List.setIfInBounds_toArray, List.set_cons_zero, List.set_cons_succ]
      refine wpAnyH_ready (rs := [9]) (by kernel_rfl) (by simp) (AllReadyH.cons (o := qLPtMulW3) rfl (fun K hK => ?_) AllReadyH.nil)
      rw [if_pos (by rfl)]
      refine wp_store_mid _ _ _ rfl _ _ ([Value.slice a15 mx c15, Value.slice b15 my d15]).toArray rfl rfl (by have := arr_there AE; simpa using this) infoPt (all_oneCell_toArray (by simp [Value.oneCell'])) ?_
      simp only [Act.put]
      obtain ⟨V43, hVe⟩ : ∃ V, V = w42.setCells (w37.heap.size) 0 ([Value.slice a15 mx c15, Value.slice b15 my d15]) := ⟨_, rfl⟩
      rw [← hVe]
      have hsz : V43.heap.size = w42.heap.size := by rw [hVe]; simp [World.setCells]
      replace B : Below w.heap.size w V43 := by rw [hVe]; exact setCells_below (by omega) _ _ B
      replace AA := arr_setO AA (g := w37.heap.size) (by omega) ([Value.slice a15 mx c15, Value.slice b15 my d15])
      rw [← hVe] at AA
      replace AB := arr_setO AB (g := w37.heap.size) (by omega) ([Value.slice a15 mx c15, Value.slice b15 my d15])
      rw [← hVe] at AB
      replace kVv := vr_setO kVv (g := w37.heap.size) (by omega) ([Value.slice a15 mx c15, Value.slice b15 my d15])
      rw [← hVe] at kVv
      replace kDv := vr_setO kDv (g := w37.heap.size) (by omega) ([Value.slice a15 mx c15, Value.slice b15 my d15])
      rw [← hVe] at kDv
      replace kOv := vr_setO kOv (g := w37.heap.size) (by omega) ([Value.slice a15 mx c15, Value.slice b15 my d15])
      rw [← hVe] at kOv
      replace o6x := own_setCells o6x io6x (E := w37.heap.size) (by omega) ([Value.slice a15 mx c15, Value.slice b15 my d15])
      rw [← hVe] at o6x
      replace o6y := own_setCells o6y io6y (E := w37.heap.size) (by omega) ([Value.slice a15 mx c15, Value.slice b15 my d15])
      rw [← hVe] at o6y
      replace E6 := arr_setO E6 (g := w37.heap.size) (by omega) ([Value.slice a15 mx c15, Value.slice b15 my d15])
      rw [← hVe] at E6
      replace o10x := own_setCells o10x io10x (E := w37.heap.size) (by omega) ([Value.slice a15 mx c15, Value.slice b15 my d15])
      rw [← hVe] at o10x
      replace o10y := own_setCells o10y io10y (E := w37.heap.size) (by omega) ([Value.slice a15 mx c15, Value.slice b15 my d15])
      rw [← hVe] at o10y
      replace E10 := arr_setO E10 (g := w37.heap.size) (by omega) ([Value.slice a15 mx c15, Value.slice b15 my d15])
      rw [← hVe] at E10
      replace AE : Arr V43 (w37.heap.size) 27 ([Value.slice a15 mx c15, Value.slice b15 my d15]) := by rw [hVe]; exact Arr.setCells0 AE (by simp)
      replace o15x := own_setCells o15x io15x (E := w37.heap.size) (by omega) ([Value.slice a15 mx c15, Value.slice b15 my d15])
      rw [← hVe] at o15x
      replace o15y := own_setCells o15y io15y (E := w37.heap.size) (by omega) ([Value.slice a15 mx c15, Value.slice b15 my d15])
      rw [← hVe] at o15y
      clear hVe
      refine hK.out _ _ ⟨arr_range AA, arr_range AB⟩ (fun hHeld => ?_)
      clear hK K
      refine wpAnyH_ready (rs := [10]) (by kernel_rfl) (by simp) (AllReadyH.cons (o := { dst := some 16, op := Op.assign (Operand.tmp 101), type := 4, pos := "exact.go:2941", after := #[{ on := 7, ground := Ground.data }, { on := 9, ground := Ground.chain }, { on := 0, ground := Ground.phase }, { on := 1, ground := Ground.phase }, { on := 2, ground := Ground.phase }, { on := 3, ground := Ground.phase }, { on := 4, ground := Ground.phase }, { on := 5, ground := Ground.phase }, { on := 6, ground := Ground.phase }, { on := 7, ground := Ground.phase }, { on := 8, ground := Ground.phase }, { on := 9, ground := Ground.phase }], guard := none }) rfl (fun K hK => ?_) AllReadyH.nil)
      go_simp
      refine hK.out _ _ ⟨arr_range AA, arr_range AB⟩ (fun hHeld => ?_)
      clear hK K
      refine wpAnyH_done (by kernel_rfl) ?_ _
      go_wp2
      go_meet
      case rel => exact ⟨w37.heap.size, a15, c15, b15, d15, rfl, rfl, AE, own_base o15x (by omega), own_base o15y (by omega), ap15, (fun k hk => by have := io15x k hk; omega), (fun k hk => by have := io15y k hk; omega), (fun k hk => by have := io15x k hk; omega), (fun k hk => by have := io15y k hk; omega), by omega, by omega, B, AA, AB, kVv, kDv, kOv, o6x, o6y, E6, o10x, o10y, E10⟩
    ·skip
     go_simp
     obtain ⟨V44, hVe⟩ : ∃ V, V = w36.alloc (.cells #[.slice none 0 0, .slice none 0 0] 27) := ⟨_, rfl⟩
     have bV : Below w36.heap.size w36 V44 := by rw [hVe]; exact (Below.refl _ _).alloc (Nat.le_refl _) _
     have z44 : V44.heap.size = w36.heap.size + 1 := by rw [hVe]; simp
     have AE : Arr V44 w36.heap.size 27 [.slice none 0 0, .slice none 0 0] := by rw [hVe]; exact Arr.new w36 [.slice none 0 0, .slice none 0 0] _
     replace B := B.trans (bV.mono B.size)
     replace AA := AA.kept bV
     replace AB := AB.kept bV
     replace kVv := kVv.kept bV
     replace kDv := kDv.kept bV
     replace kOv := kOv.kept bV
     replace o6x := own_below o6x bV
     replace o6y := own_below o6y bV
     replace E6 := E6.kept bV
     replace o10x := own_below o10x bV
     replace o10y := own_below o10y bV
     replace E10 := E10.kept bV
     replace oy15x := own_below oy15x bV
     replace oy15y := own_below oy15y bV
     rw [← hVe]
     clear bV hVe
     refine hK.out _ _ ⟨arr_range AA, arr_range AB⟩ (fun hHeld => ?_)
     clear hK K
     refine wpAnyH_ready (rs := [3]) (by kernel_rfl) (by simp) (AllReadyH.cons (o := { dst := some 98, op := Op.call { callee := Callee.value (Operand.func 43), args := #[Operand.tmp 97], argTypes := #[59] }, type := 37, pos := "exact.go:2941", after := #[{ on := 2, ground := Ground.data }, { on := 1, ground := Ground.chain }], guard := none }) rfl (fun K hK => ?_) AllReadyH.nil)
     go_simp
     refine (toScC aB nB cB xsB _ (hB.below B) (by omega)).mono ?_
     rintro e w45 ⟨aq15, cq15, rfl, oq15x, _, hb45⟩
     have z45 := hb45.size
     replace B := B.trans (hb45.mono B.size)
     replace AA := AA.kept hb45
     replace AB := AB.kept hb45
     replace kVv := kVv.kept hb45
     replace kDv := kDv.kept hb45
     replace kOv := kOv.kept hb45
     replace o6x := own_below o6x hb45
     replace o6y := own_below o6y hb45
     replace E6 := E6.kept hb45
     replace o10x := own_below o10x hb45
     replace o10y := own_below o10y hb45
     replace E10 := E10.kept hb45
     replace oy15x := own_below oy15x hb45
     replace oy15y := own_below oy15y hb45
     replace AE := AE.kept hb45
     clear hb45
     have ioq15x := In.of oq15x
     go_wp2_with fail
     refine hK.out _ _ ⟨arr_range AA, arr_range AB⟩ (fun hHeld => ?_)
     clear hK K
     refine wpAnyH_ready (rs := [4]) (by kernel_rfl) (by simp) (AllReadyH.cons (o := { dst := some 99, op := Op.call { callee := Callee.value (Operand.func 23), args := #[Operand.tmp 96, Operand.tmp 98], argTypes := #[27, 37] }, type := 30, pos := "exact.go:2941", after := #[{ on := 1, ground := Ground.data }, { on := 3, ground := Ground.data }, { on := 3, ground := Ground.chain }], guard := none }) rfl (fun K hK => ?_) AllReadyH.nil)
     go_simp
     refine (HI.out ay15 cy15 by15 dy15 aq15 cq15 _ (is_of_own oy15x HXAx.out) (is_of_own oy15y HXAy.out) (is_of_own oq15x HXBx.out) kVv kDv kOv).mono ?_
     rintro e w46 ⟨v15, rfl, ⟨a15, c15, b15, d15, rfl, o15x, o15y, ap15⟩, hb46⟩
     have z46 := hb46.size
     replace B := B.trans (hb46.mono B.size)
     replace AA := AA.kept hb46
     replace AB := AB.kept hb46
     replace kVv := kVv.kept hb46
     replace kDv := kDv.kept hb46
     replace kOv := kOv.kept hb46
     replace o6x := own_below o6x hb46
     replace o6y := own_below o6y hb46
     replace E6 := E6.kept hb46
     replace o10x := own_below o10x hb46
     replace o10y := own_below o10y hb46
     replace E10 := E10.kept hb46
     replace oy15x := own_below oy15x hb46
     replace oy15y := own_below oy15y hb46
     replace AE := AE.kept hb46
     replace oq15x := own_below oq15x hb46
     clear hb46
     clear oy15x
     clear oy15y
     clear oq15x
     rw [Hx.out] at o15x ap15 ⊢
     rw [Hy.out] at o15y ap15 ⊢
     have io15x := In.of o15x
     have io15y := In.of o15y
     go_wp2_with fail
     refine hK.out _ _ ⟨arr_range AA, arr_range AB⟩ (fun hHeld => ?_)
     clear hK K
     refine wpAnyH_take (i := 5) (oi := qLPtMulW0) (v := .tuple #[.agg #[Value.slice a15 mx c15, Value.slice b15 my d15], .bool R]) rfl (by kernel_rfl) (by kernel_rfl) (by kernel_rfl) (fun _ _ _ h => h) (.inl ⟨by rfl, fun _ _ => by rfl⟩) (by assumption) ?_
     simp only [Act.put, List.setIfInBounds_toArray, List.set_cons_zero, List.set_cons_succ]
     refine wpAnyH_take (i := 6) (oi := qLPtMulW1) (v := .agg #[Value.slice a15 mx c15, Value.slice b15 my d15]) rfl (by kernel_rfl) (by kernel_rfl) (by kernel_rfl) (fun _ _ _ h => h) (.inl ⟨by rfl, fun _ _ => by rfl⟩) (by assumption) ?_
     simp only [Act.put, List.setIfInBounds_toArray, List.set_cons_zero, List.set_cons_succ]
     refine wpAnyH_take (i := 7) (oi := qLPtMulW2) (v := .bool R) rfl (by kernel_rfl) (by kernel_rfl) (by kernel_rfl) (fun _ _ _ h => h) (.inl ⟨by rfl, fun _ _ => by rfl⟩) (by assumption) ?_
     simp only [Act.put, List.setIfInBounds_toArray, List.set_cons_zero, List.set_cons_succ]
     refine wpAnyH_ready (rs := [9]) (by kernel_rfl) (by simp) (AllReadyH.cons (o := qLPtMulW3) rfl (fun K hK => ?_) AllReadyH.nil)
     rw [if_pos (by rfl)]
     refine wp_store_mid _ _ _ rfl _ _ ([Value.slice a15 mx c15, Value.slice b15 my d15]).toArray rfl rfl (by have := arr_there AE; simpa using this) infoPt (all_oneCell_toArray (by simp [Value.oneCell'])) ?_
     simp only [Act.put]
     obtain ⟨V47, hVe⟩ : ∃ V, V = w46.setCells (w36.heap.size) 0 ([Value.slice a15 mx c15, Value.slice b15 my d15]) := ⟨_, rfl⟩
     rw [← hVe]
     have hsz : V47.heap.size = w46.heap.size := by rw [hVe]; simp [World.setCells]
     replace B : Below w.heap.size w V47 := by rw [hVe]; exact setCells_below (by omega) _ _ B
     replace AA := arr_setO AA (g := w36.heap.size) (by omega) ([Value.slice a15 mx c15, Value.slice b15 my d15])
     rw [← hVe] at AA
     replace AB := arr_setO AB (g := w36.heap.size) (by omega) ([Value.slice a15 mx c15, Value.slice b15 my d15])
     rw [← hVe] at AB
     replace kVv := vr_setO kVv (g := w36.heap.size) (by omega) ([Value.slice a15 mx c15, Value.slice b15 my d15])
     rw [← hVe] at kVv
     replace kDv := vr_setO kDv (g := w36.heap.size) (by omega) ([Value.slice a15 mx c15, Value.slice b15 my d15])
     rw [← hVe] at kDv
     replace kOv := vr_setO kOv (g := w36.heap.size) (by omega) ([Value.slice a15 mx c15, Value.slice b15 my d15])
     rw [← hVe] at kOv
     replace o6x := own_setCells o6x io6x (E := w36.heap.size) (by omega) ([Value.slice a15 mx c15, Value.slice b15 my d15])
     rw [← hVe] at o6x
     replace o6y := own_setCells o6y io6y (E := w36.heap.size) (by omega) ([Value.slice a15 mx c15, Value.slice b15 my d15])
     rw [← hVe] at o6y
     replace E6 := arr_setO E6 (g := w36.heap.size) (by omega) ([Value.slice a15 mx c15, Value.slice b15 my d15])
     rw [← hVe] at E6
     replace o10x := own_setCells o10x io10x (E := w36.heap.size) (by omega) ([Value.slice a15 mx c15, Value.slice b15 my d15])
     rw [← hVe] at o10x
     replace o10y := own_setCells o10y io10y (E := w36.heap.size) (by omega) ([Value.slice a15 mx c15, Value.slice b15 my d15])
     rw [← hVe] at o10y
     replace E10 := arr_setO E10 (g := w36.heap.size) (by omega) ([Value.slice a15 mx c15, Value.slice b15 my d15])
     rw [← hVe] at E10
     replace AE : Arr V47 (w36.heap.size) 27 ([Value.slice a15 mx c15, Value.slice b15 my d15]) := by rw [hVe]; exact Arr.setCells0 AE (by simp)
     replace o15x := own_setCells o15x io15x (E := w36.heap.size) (by omega) ([Value.slice a15 mx c15, Value.slice b15 my d15])
     rw [← hVe] at o15x
     replace o15y := own_setCells o15y io15y (E := w36.heap.size) (by omega) ([Value.slice a15 mx c15, Value.slice b15 my d15])
     rw [← hVe] at o15y
     clear hVe
     refine hK.out _ _ ⟨arr_range AA, arr_range AB⟩ (fun hHeld => ?_)
     clear hK K
     refine wpAnyH_ready (rs := [10]) (by kernel_rfl) (by simp) (AllReadyH.cons (o := { dst := some 16, op := Op.assign (Operand.tmp 101), type := 4, pos := "exact.go:2941", after := #[{ on := 7, ground := Ground.data }, { on := 9, ground := Ground.chain }, { on := 0, ground := Ground.phase }, { on := 1, ground := Ground.phase }, { on := 2, ground := Ground.phase }, { on := 3, ground := Ground.phase }, { on := 4, ground := Ground.phase }, { on := 5, ground := Ground.phase }, { on := 6, ground := Ground.phase }, { on := 7, ground := Ground.phase }, { on := 8, ground := Ground.phase }, { on := 9, ground := Ground.phase }], guard := none }) rfl (fun K hK => ?_) AllReadyH.nil)
     go_simp
     refine hK.out _ _ ⟨arr_range AA, arr_range AB⟩ (fun hHeld => ?_)
     clear hK K
     refine wpAnyH_done (by kernel_rfl) ?_ _
     go_wp2
     go_meet
     case rel => exact ⟨w36.heap.size, a15, c15, b15, d15, rfl, rfl, AE, own_base o15x (by omega), own_base o15y (by omega), ap15, (fun k hk => by have := io15x k hk; omega), (fun k hk => by have := io15y k hk; omega), (fun k hk => by have := io15x k hk; omega), (fun k hk => by have := io15y k hk; omega), by omega, by omega, B, AA, AB, kVv, kDv, kOv, o6x, o6y, E6, o10x, o10y, E10⟩
   ·skip
    go_simp
    obtain ⟨V48, hVe⟩ : ∃ V, V = wD15.alloc (.cells #[.slice none 0 0, .slice none 0 0] 27) := ⟨_, rfl⟩
    have bV : Below wD15.heap.size wD15 V48 := by rw [hVe]; exact (Below.refl _ _).alloc (Nat.le_refl _) _
    have z48 : V48.heap.size = wD15.heap.size + 1 := by rw [hVe]; simp
    have AE : Arr V48 wD15.heap.size 27 [.slice none 0 0, .slice none 0 0] := by rw [hVe]; exact Arr.new wD15 [.slice none 0 0, .slice none 0 0] _
    replace B := B.trans (bV.mono B.size)
    replace AA := AA.kept bV
    replace AB := AB.kept bV
    replace kVv := kVv.kept bV
    replace kDv := kDv.kept bV
    replace kOv := kOv.kept bV
    replace o6x := own_below o6x bV
    replace o6y := own_below o6y bV
    replace E6 := E6.kept bV
    replace o10x := own_below o10x bV
    replace o10y := own_below o10y bV
    replace E10 := E10.kept bV
    rw [← hVe]
    clear bV hVe
    refine hK.out _ _ ⟨arr_range AA, arr_range AB⟩ (fun hHeld => ?_)
    clear hK K
    refine wpAnyH_ready (rs := [1]) (by kernel_rfl) (by simp) (AllReadyH.cons (o := { dst := some 96, op := Op.call { callee := Callee.value (Operand.func 34), args := #[Operand.tmp 95], argTypes := #[52] }, type := 27, pos := "exact.go:2941", after := #[{ on := 0, ground := Ground.data }], guard := none }) rfl (fun K hK => ?_) AllReadyH.nil)
    go_simp
    refine (toPtC aA nA cA xsA bA jA dA ysA _ (hA.below B) (gA.below B) (by omega) (by omega)).mono ?_
    rintro e w49 ⟨ay15, cy15, by15, dy15, rfl, oy15x, oy15y, apy15, hb49⟩
    have z49 := hb49.size
    replace B := B.trans (hb49.mono B.size)
    replace AA := AA.kept hb49
    replace AB := AB.kept hb49
    replace kVv := kVv.kept hb49
    replace kDv := kDv.kept hb49
    replace kOv := kOv.kept hb49
    replace o6x := own_below o6x hb49
    replace o6y := own_below o6y hb49
    replace E6 := E6.kept hb49
    replace o10x := own_below o10x hb49
    replace o10y := own_below o10y hb49
    replace E10 := E10.kept hb49
    replace AE := AE.kept hb49
    clear hb49
    have ioy15x := In.of oy15x
    have ioy15y := In.of oy15y
    go_wp2_with fail
    refine hK.out _ _ ⟨arr_range AA, arr_range AB⟩ (fun hHeld => ?_)
    clear hK K
    refine wpAnyH_ready (rs := [3]) (by kernel_rfl) (by simp) (AllReadyH.cons (o := { dst := some 98, op := Op.call { callee := Callee.value (Operand.func 43), args := #[Operand.tmp 97], argTypes := #[59] }, type := 37, pos := "exact.go:2941", after := #[{ on := 2, ground := Ground.data }, { on := 1, ground := Ground.chain }], guard := none }) rfl (fun K hK => ?_) AllReadyH.nil)
    go_simp
    refine (toScC aB nB cB xsB _ (hB.below B) (by omega)).mono ?_
    rintro e w50 ⟨aq15, cq15, rfl, oq15x, _, hb50⟩
    have z50 := hb50.size
    replace B := B.trans (hb50.mono B.size)
    replace AA := AA.kept hb50
    replace AB := AB.kept hb50
    replace kVv := kVv.kept hb50
    replace kDv := kDv.kept hb50
    replace kOv := kOv.kept hb50
    replace o6x := own_below o6x hb50
    replace o6y := own_below o6y hb50
    replace E6 := E6.kept hb50
    replace o10x := own_below o10x hb50
    replace o10y := own_below o10y hb50
    replace E10 := E10.kept hb50
    replace AE := AE.kept hb50
    replace oy15x := own_below oy15x hb50
    replace oy15y := own_below oy15y hb50
    clear hb50
    have ioq15x := In.of oq15x
    go_wp2_with fail
    refine hK.out _ _ ⟨arr_range AA, arr_range AB⟩ (fun hHeld => ?_)
    clear hK K
    refine wpAnyH_ready (rs := [4]) (by kernel_rfl) (by simp) (AllReadyH.cons (o := { dst := some 99, op := Op.call { callee := Callee.value (Operand.func 23), args := #[Operand.tmp 96, Operand.tmp 98], argTypes := #[27, 37] }, type := 30, pos := "exact.go:2941", after := #[{ on := 1, ground := Ground.data }, { on := 3, ground := Ground.data }, { on := 3, ground := Ground.chain }], guard := none }) rfl (fun K hK => ?_) AllReadyH.nil)
    go_simp
    refine (HI.out ay15 cy15 by15 dy15 aq15 cq15 _ (is_of_own oy15x HXAx.out) (is_of_own oy15y HXAy.out) (is_of_own oq15x HXBx.out) kVv kDv kOv).mono ?_
    rintro e w51 ⟨v15, rfl, ⟨a15, c15, b15, d15, rfl, o15x, o15y, ap15⟩, hb51⟩
    have z51 := hb51.size
    replace B := B.trans (hb51.mono B.size)
    replace AA := AA.kept hb51
    replace AB := AB.kept hb51
    replace kVv := kVv.kept hb51
    replace kDv := kDv.kept hb51
    replace kOv := kOv.kept hb51
    replace o6x := own_below o6x hb51
    replace o6y := own_below o6y hb51
    replace E6 := E6.kept hb51
    replace o10x := own_below o10x hb51
    replace o10y := own_below o10y hb51
    replace E10 := E10.kept hb51
    replace AE := AE.kept hb51
    replace oy15x := own_below oy15x hb51
    replace oy15y := own_below oy15y hb51
    replace oq15x := own_below oq15x hb51
    clear hb51
    clear oy15x
    clear oy15y
    clear oq15x
    rw [Hx.out] at o15x ap15 ⊢
    rw [Hy.out] at o15y ap15 ⊢
    have io15x := In.of o15x
    have io15y := In.of o15y
    go_wp2_with fail
    refine hK.out _ _ ⟨arr_range AA, arr_range AB⟩ (fun hHeld => ?_)
    clear hK K
    refine wpAnyH_take (i := 5) (oi := qLPtMulW0) (v := .tuple #[.agg #[Value.slice a15 mx c15, Value.slice b15 my d15], .bool R]) rfl (by kernel_rfl) (by kernel_rfl) (by kernel_rfl) (fun _ _ _ h => h) (.inl ⟨by rfl, fun _ _ => by rfl⟩) (by assumption) ?_
    simp only [Act.put, List.setIfInBounds_toArray, List.set_cons_zero, List.set_cons_succ]
    refine wpAnyH_take (i := 6) (oi := qLPtMulW1) (v := .agg #[Value.slice a15 mx c15, Value.slice b15 my d15]) rfl (by kernel_rfl) (by kernel_rfl) (by kernel_rfl) (fun _ _ _ h => h) (.inl ⟨by rfl, fun _ _ => by rfl⟩) (by assumption) ?_
    simp only [Act.put, List.setIfInBounds_toArray, List.set_cons_zero, List.set_cons_succ]
    refine wpAnyH_take (i := 7) (oi := qLPtMulW2) (v := .bool R) rfl (by kernel_rfl) (by kernel_rfl) (by kernel_rfl) (fun _ _ _ h => h) (.inl ⟨by rfl, fun _ _ => by rfl⟩) (by assumption) ?_
    simp only [Act.put, List.setIfInBounds_toArray, List.set_cons_zero, List.set_cons_succ]
    refine wpAnyH_ready (rs := [9]) (by kernel_rfl) (by simp) (AllReadyH.cons (o := qLPtMulW3) rfl (fun K hK => ?_) AllReadyH.nil)
    rw [if_pos (by rfl)]
    refine wp_store_mid _ _ _ rfl _ _ ([Value.slice a15 mx c15, Value.slice b15 my d15]).toArray rfl rfl (by have := arr_there AE; simpa using this) infoPt (all_oneCell_toArray (by simp [Value.oneCell'])) ?_
    simp only [Act.put]
    obtain ⟨V52, hVe⟩ : ∃ V, V = w51.setCells (wD15.heap.size) 0 ([Value.slice a15 mx c15, Value.slice b15 my d15]) := ⟨_, rfl⟩
    rw [← hVe]
    have hsz : V52.heap.size = w51.heap.size := by rw [hVe]; simp [World.setCells]
    replace B : Below w.heap.size w V52 := by rw [hVe]; exact setCells_below (by omega) _ _ B
    replace AA := arr_setO AA (g := wD15.heap.size) (by omega) ([Value.slice a15 mx c15, Value.slice b15 my d15])
    rw [← hVe] at AA
    replace AB := arr_setO AB (g := wD15.heap.size) (by omega) ([Value.slice a15 mx c15, Value.slice b15 my d15])
    rw [← hVe] at AB
    replace kVv := vr_setO kVv (g := wD15.heap.size) (by omega) ([Value.slice a15 mx c15, Value.slice b15 my d15])
    rw [← hVe] at kVv
    replace kDv := vr_setO kDv (g := wD15.heap.size) (by omega) ([Value.slice a15 mx c15, Value.slice b15 my d15])
    rw [← hVe] at kDv
    replace kOv := vr_setO kOv (g := wD15.heap.size) (by omega) ([Value.slice a15 mx c15, Value.slice b15 my d15])
    rw [← hVe] at kOv
    replace o6x := own_setCells o6x io6x (E := wD15.heap.size) (by omega) ([Value.slice a15 mx c15, Value.slice b15 my d15])
    rw [← hVe] at o6x
    replace o6y := own_setCells o6y io6y (E := wD15.heap.size) (by omega) ([Value.slice a15 mx c15, Value.slice b15 my d15])
    rw [← hVe] at o6y
    replace E6 := arr_setO E6 (g := wD15.heap.size) (by omega) ([Value.slice a15 mx c15, Value.slice b15 my d15])
    rw [← hVe] at E6
    replace o10x := own_setCells o10x io10x (E := wD15.heap.size) (by omega) ([Value.slice a15 mx c15, Value.slice b15 my d15])
    rw [← hVe] at o10x
    replace o10y := own_setCells o10y io10y (E := wD15.heap.size) (by omega) ([Value.slice a15 mx c15, Value.slice b15 my d15])
    rw [← hVe] at o10y
    replace E10 := arr_setO E10 (g := wD15.heap.size) (by omega) ([Value.slice a15 mx c15, Value.slice b15 my d15])
    rw [← hVe] at E10
    replace AE : Arr V52 (wD15.heap.size) 27 ([Value.slice a15 mx c15, Value.slice b15 my d15]) := by rw [hVe]; exact Arr.setCells0 AE (by simp)
    replace o15x := own_setCells o15x io15x (E := wD15.heap.size) (by omega) ([Value.slice a15 mx c15, Value.slice b15 my d15])
    rw [← hVe] at o15x
    replace o15y := own_setCells o15y io15y (E := wD15.heap.size) (by omega) ([Value.slice a15 mx c15, Value.slice b15 my d15])
    rw [← hVe] at o15y
    clear hVe
    refine hK.out _ _ ⟨arr_range AA, arr_range AB⟩ (fun hHeld => ?_)
    clear hK K
    refine wpAnyH_ready (rs := [10]) (by kernel_rfl) (by simp) (AllReadyH.cons (o := { dst := some 16, op := Op.assign (Operand.tmp 101), type := 4, pos := "exact.go:2941", after := #[{ on := 7, ground := Ground.data }, { on := 9, ground := Ground.chain }, { on := 0, ground := Ground.phase }, { on := 1, ground := Ground.phase }, { on := 2, ground := Ground.phase }, { on := 3, ground := Ground.phase }, { on := 4, ground := Ground.phase }, { on := 5, ground := Ground.phase }, { on := 6, ground := Ground.phase }, { on := 7, ground := Ground.phase }, { on := 8, ground := Ground.phase }, { on := 9, ground := Ground.phase }], guard := none }) rfl (fun K hK => ?_) AllReadyH.nil)
    go_simp
    refine hK.out _ _ ⟨arr_range AA, arr_range AB⟩ (fun hHeld => ?_)
    clear hK K
    refine wpAnyH_done (by kernel_rfl) ?_ _
    go_wp2
    go_meet
    case rel => exact ⟨wD15.heap.size, a15, c15, b15, d15, rfl, rfl, AE, own_base o15x (by omega), own_base o15y (by omega), ap15, (fun k hk => by have := io15x k hk; omega), (fun k hk => by have := io15y k hk; omega), (fun k hk => by have := io15x k hk; omega), (fun k hk => by have := io15y k hk; omega), by omega, by omega, B, AA, AB, kVv, kDv, kOv, o6x, o6y, E6, o10x, o10y, E10⟩
  case rest =>
   clear B AA AB kVv kDv kOv o6x o6y E6 o10x o10y E10 bD
   obtain ⟨E15', a15, c15, b15, d15, rfl, rfl, E15, o15x, o15y, ap15, io15x, io15y, ne15x, ne15y, zE15, zF15, B, AA, AB, kVv, kDv, kOv, o6x, o6y, E6, o10x, o10y, E10⟩ := hcut
   obtain ⟨wc15, hwc⟩ : ∃ V, V = wc := ⟨_, rfl⟩
   rw [← hwc] at E15 o15x o15y io15x io15y zF15 B AA AB kVv kDv kOv o6x o6y E6 o10x o10y E10 ⊢
   clear hwc
   go_wp2_with (first
    | (refine wpList_load_row rfl 27 _ rfl (E15') rfl 27 ([Value.slice a15 mx c15, Value.slice b15 my d15]).toArray (0, 0) _ E15 Tryd.underlying27 rfl infoPt ?_)
    | (refine wpList_load_row rfl 27 _ rfl (E6') rfl 27 ([Value.slice a6 mx c6, Value.slice b6 my d6]).toArray (0, 0) _ E6 Tryd.underlying27 rfl infoPt ?_))
   refine (eqPtC a15 a6 mx c15 c6 L b15 b6 my d15 d6 M _ (is_of_own o15x HBL.out) (is_of_own o6x HBL.out) (is_of_own o15y HBM.out) (is_of_own o6y HBM.out) (by omega) (by omega)).mono ?_
   rintro e w53 ⟨rfl, hb53⟩
   have z53 := hb53.size
   replace B := B.trans (hb53.mono B.size)
   replace AA := AA.kept hb53
   replace AB := AB.kept hb53
   replace kVv := kVv.kept hb53
   replace kDv := kDv.kept hb53
   replace kOv := kOv.kept hb53
   replace o6x := own_below o6x hb53
   replace o6y := own_below o6y hb53
   replace E6 := E6.kept hb53
   replace o10x := own_below o10x hb53
   replace o10y := own_below o10y hb53
   replace E10 := E10.kept hb53
   replace o15x := own_below o15x hb53
   replace o15y := own_below o15y hb53
   replace E15 := E15.kept hb53
   clear hb53
   go_wp2_with (first
    | (refine wpList_load_row rfl 27 _ rfl (w24.heap.size) rfl 27 ([Value.slice a10 mx c10, Value.slice b10 my d10]).toArray (0, 0) _ E10 Tryd.underlying27 rfl infoPt ?_))
   refine (heldPtC a10 mx c10 b10 my d10 1 _ (is_of_own o10x HMx.out) (is_of_own o10y HMy.out) (by omega) (by omega) (by omega) (by omega)).mono ?_
   rintro e w54 ⟨rfl, hb54⟩
   have z54 := hb54.size
   replace B := B.trans (hb54.mono B.size)
   replace AA := AA.kept hb54
   replace AB := AB.kept hb54
   replace kVv := kVv.kept hb54
   replace kDv := kDv.kept hb54
   replace kOv := kOv.kept hb54
   replace o6x := own_below o6x hb54
   replace o6y := own_below o6y hb54
   replace E6 := E6.kept hb54
   replace o10x := own_below o10x hb54
   replace o10y := own_below o10y hb54
   replace E10 := E10.kept hb54
   replace o15x := own_below o15x hb54
   replace o15y := own_below o15y hb54
   replace E15 := E15.kept hb54
   clear hb54
   go_wp2
   go_ret
   exact ⟨rfl, B⟩
end Go.Proofs.YtoblilngppjmhaaDoor
