/-
  What is proved here: the law FnPtBytes returns true at every code, and writes into nothing that was there; where the program's variables hold what its text lays into them.
-/
import Derived.Test.YtoblilngppjmhaaDoorZOhy
import Derived.Test.YtoblilngppjmhaaDoorZOhr
import Derived.Test.YtoblilngppjmhaaDoorZUn
import Derived.Test.YtoblilngppjmhaaDoorZKbo
import Derived.Test.YtoblilngppjmhaaDoorZJa
namespace Go.Proofs.YtoblilngppjmhaaDoor
open Go.RowKit
set_option maxRecDepth 100000
abbrev qLPtBytesLW0 : Oper := { dst := some 14, op := Op.load 27 (Operand.tmp 3), type := 27, pos := "laws.go:322", after := #[], guard := none }
abbrev qLPtBytesLW1 : Oper := { dst := some 25, op := Op.binOp BinOp.neq 4 (Operand.tmp 22) (Operand.tmp 24) 4, type := 4, pos := "laws.go:322", after := #[{ on := 8, ground := Ground.data }, { on := 10, ground := Ground.data }, { on := 6, ground := Ground.guard }], guard := some (6, false) }
abbrev qLPtBytesLW2 : Oper := { dst := some 26, op := Op.pick (Operand.tmp 20) (Operand.const (Value.bool true)) (Operand.tmp 25), type := 4, pos := "laws.go:322", after := #[{ on := 6, ground := Ground.data }, { on := 11, ground := Ground.data }], guard := none }
abbrev qLPtBytesLW3 : Oper := { dst := some 16, op := Op.move (Operand.tmp 4), type := 22, pos := "laws.go:322", after := #[], guard := none }
abbrev qLPtBytesLW4 : Oper := { dst := some 17, op := Op.call { callee := Callee.builtin Builtin.len, args := #[Operand.tmp 16], argTypes := #[22] }, type := 3, pos := "laws.go:322", after := #[{ on := 2, ground := Ground.data }], guard := none }
abbrev qLPtBytesLW5 : Oper := { dst := some 18, op := Op.binOp BinOp.eql 3 (Operand.tmp 17) (Operand.const (Value.int IntKind.i64 32)) 3, type := 4, pos := "laws.go:322", after := #[{ on := 3, ground := Ground.data }], guard := none }
abbrev qLPtBytesLW6 : Oper := { dst := some 19, op := Op.binOp BinOp.neq 4 (Operand.tmp 15) (Operand.tmp 18) 4, type := 4, pos := "laws.go:322", after := #[{ on := 1, ground := Ground.data }, { on := 4, ground := Ground.data }], guard := none }
abbrev qLPtBytesLW7 : Oper := { dst := some 20, op := Op.move (Operand.tmp 19), type := 4, pos := "laws.go:322", after := #[{ on := 5, ground := Ground.data }, { on := 1, ground := Ground.chain }], guard := none }
abbrev qLPtBytesLW8 : Oper := { dst := some 21, op := Op.load 27 (Operand.tmp 3), type := 27, pos := "laws.go:322", after := #[{ on := 6, ground := Ground.guard }], guard := some (6, false) }
abbrev qLPtBytesLW9 : Oper := { dst := some 23, op := Op.load 27 (Operand.tmp 3), type := 27, pos := "laws.go:322", after := #[{ on := 6, ground := Ground.guard }], guard := some (6, false) }

set_option maxHeartbeats 16000000 in
theorem walk_fnPtBytes (w : World) (ab : Option Addr) (nb cb : Nat) (bs : List Int) (hB : Bs w ab nb cb bs) (hre : nb ≤ 140737488351232) (kVv : Vr w 4 (I64 PL)) (kDv : Vr w 2 (I64 DL)) (kQv : Vr w 5 (I64 QL)) (kXv : Vr w 0 (I64 BX)) (kYv : Vr w 1 (I64 BY)) :
  Calls Tryd.prog 5 #[.slice ab nb cb] w fun e w' => e = .returned (.bool true) ∧ Below w.heap.size w w' := by
 haveI := nzP
 have B : Below w.heap.size w w := Below.refl _ _
 have HBB : Hid (∀ (a : Option Addr) (c : Nat) (b : Option Addr) (d : Nat) (Z : World), PI Z a c b d baseK → Vr Z 4 (I64 PL) → Vr Z 2 (I64 DL) → Calls Tryd.prog 29 #[.agg #[.slice a 16 c, .slice b 16 d]] Z fun e w' => ∃ a' c', e = .returned (.slice a' 32 c') ∧ Below Z.heap.size Z w') := by
  unfold Hid; intro a c b d Z h h1 h2
  refine (implPtBytes a 16 c _ b 16 d _ Z h.x h.y h1 h2).mono ?_
  rintro e w1 ⟨v, rfl, o1, hb⟩
  have hl : (ptBF (cx baseK.1) (cx baseK.2)).length = 32 := by unfold ptBF; rw [if_pos (pt_ok on_base)]; exact ptBt_len (fly_len _)
  rw [hl] at o1
  obtain ⟨a', c', rfl, _, _⟩ := Bs.own o1 (ptBF_byte _ _)
  exact ⟨a', c', rfl, hb⟩
 go_enter Tryd.func5, Tryd.ntmps5
 go_wp2_with fail
 refine (drawPtBytes ab nb cb bs _ (hB.below B) (by omega)).mono ?_
 rintro e w1 ⟨vA, l1, l2, rfl, ⟨a1, n1, c1, b1, j1, d1, rfl, x1, y1, _, _, nm1, nk1⟩, hb1⟩
 replace B := B.trans (hb1.mono B.size)
 replace kVv := kVv.kept hb1
 replace kDv := kDv.kept hb1
 replace kQv := kQv.kept hb1
 replace kXv := kXv.kept hb1
 replace kYv := kYv.kept hb1
 clear hb1
 obtain ⟨bV, E1, A0, _⟩ := laid_two w1 27 (.slice none 0 0) (.slice none 0 0) (.slice a1 n1 c1) (.slice b1 j1 d1)
 obtain ⟨V2, hV2⟩ : ∃ V, V = (w1.alloc (.cells #[.slice none 0 0, .slice none 0 0] 27)).setRow w1.heap.size ([Value.slice a1 n1 c1, Value.slice b1 j1 d1] : List Value).toArray := ⟨_, rfl⟩
 rw [← hV2] at bV E1
 replace B := B.trans (bV.mono B.size)
 replace kVv := kVv.kept bV
 replace kDv := kDv.kept bV
 replace kQv := kQv.kept bV
 replace kXv := kXv.kept bV
 replace kYv := kYv.kept bV
 replace x1 := x1.below bV
 replace y1 := y1.below bV
 clear bV
 go_wp2_with (first
   | (refine wpList_store_row rfl 27 _ _ rfl w1.heap.size ([Value.slice a1 n1 c1, Value.slice b1 j1 d1]).toArray rfl rfl 27 _ A0 infoPt rfl (by simp [Value.oneCell']) ?_; rw [← hV2]; clear hV2 A0)
   | (refine wpList_load_row rfl 27 _ rfl (w1.heap.size) rfl 27 ([Value.slice a1 n1 c1, Value.slice b1 j1 d1]).toArray (0, 0) _ E1 Tryd.underlying27 rfl infoPt ?_)
   | (refine wpList_load_rowW rfl 27 _ rfl (w1.heap.size) rfl 27 ([Value.slice a1 n1 c1, Value.slice b1 j1 d1]).toArray (0, 0) _ E1 Tryd.underlying27 rfl infoPt ?_))
 refine (implPtBytes a1 n1 c1 l1 b1 j1 d1 l2 _ x1 y1 kVv kDv).mono ?_
 rintro e w3 ⟨vT, rfl, oT, hb3⟩
 replace B := B.trans (hb3.mono B.size)
 replace kVv := kVv.kept hb3
 replace kDv := kDv.kept hb3
 replace kQv := kQv.kept hb3
 replace kXv := kXv.kept hb3
 replace kYv := kYv.kept hb3
 replace x1 := x1.below hb3
 replace y1 := y1.below hb3
 replace E1 := E1.kept hb3
 clear hb3
 obtain ⟨aT, cT, rfl, _, iT⟩ := Bs.own oT (ptBF_byte _ _)
 clear oT
 obtain ⟨p, hp⟩ : ∃ p, p = ptOk l1 l2 := ⟨_, rfl⟩
 have HP : Hid (p = ptOk l1 l2) := hp
 obtain ⟨T, hT⟩ : ∃ T, T = ptBF l1 l2 := ⟨_, rfl⟩
 rw [← hT] at iT ⊢
 obtain ⟨nT, hnT⟩ : ∃ n, n = T.length := ⟨_, rfl⟩
 rw [← hnT] at iT ⊢
 have HT0 : Hid (p = false → nT = 0) := by unfold Hid; intro h; rw [hnT, hT]; unfold ptBF; rw [← hp, h]; rfl
 have HT1 : Hid (p = true → nT = 32 ∧ T = ptBt l1 l2 ∧ n1 = 16 ∧ j1 = 16) := by
  unfold Hid; intro h; rw [hp] at h; obtain ⟨k1, k2, _⟩ := (ptOk_iff _ _).1 h; obtain ⟨f1, f2⟩ := flat_mk k1 k2
  have e1 : T = ptBt l1 l2 := by rw [hT]; unfold ptBF; rw [if_pos h, f1, f2]
  exact ⟨by rw [hnT, e1]; exact ptBt_len (feOk_len k2), e1, by rw [← x1.2.1]; exact feOk_len k1, by rw [← y1.2.1]; exact feOk_len k2⟩
 clear hp hT hnT
 cases p with
 | false =>
  have hn0 := HT0.out (by simp)
  subst hn0
  clear HT0 HT1
  go_upto_region 3 with fail
  have bD : Below w3.heap.size w3 w3.drew := (Below.refl _ _).drew
  replace B := B.trans (bD.mono B.size)
  replace kVv := kVv.kept bD
  replace kDv := kDv.kept bD
  replace kQv := kQv.kept bD
  replace kXv := kXv.kept bD
  replace kYv := kYv.kept bD
  replace x1 := x1.below bD
  replace y1 := y1.below bD
  replace E1 := E1.kept bD
  replace iT := iT.below bD
  clear bD
  have huE : Tryd.prog.underlying 27 = some _ := Tryd.underlying27
  refine wp_region_held_drew (S := fun W => W.rangeAt (w1.heap.size) 0 [Value.slice a1 n1 c1, Value.slice b1 j1 d1]) (by kernel_rfl) (arr_range E1) (fun hHeld => ?_)
  obtain ⟨wD, hD⟩ : ∃ V, V = w3.drew := ⟨_, rfl⟩
  rw [← hD] at hHeld B kVv kDv kQv kXv kYv x1 y1 E1 iT ⊢
  clear hD
  refine wpAnyH_take (i := 0) (oi := qLPtBytesLW0) (v := _) rfl (by kernel_rfl) (by kernel_rfl) (by kernel_rfl) (fun _ _ _ h => h) (yieldsIf_load_mid (by rfl) _ _ rfl _ _ rfl ([Value.slice a1 n1 c1, Value.slice b1 j1 d1]) _ (fun _ h => h) huE rfl infoPt) (by assumption) ?_
  simp only [Act.put, List.setIfInBounds_toArray, List.set_cons_zero, List.set_cons_succ]
  refine wpAnyH_take (i := 2) (oi := qLPtBytesLW3) (v := .slice aT 0 cT) rfl (by kernel_rfl) (by kernel_rfl) (by kernel_rfl) (fun _ _ _ h => h) (.inl ⟨by rfl, fun _ _ => by first | rfl | simp [go_sem]⟩) (by assumption) ?_
  simp only [Act.put, List.setIfInBounds_toArray, List.set_cons_zero, List.set_cons_succ]
  refine wpAnyH_take (i := 3) (oi := qLPtBytesLW4) (v := .int .i64 0) rfl (by kernel_rfl) (by kernel_rfl) (by kernel_rfl) (fun _ _ _ h => h) (.inl ⟨by rfl, fun _ _ => by first | rfl | simp [go_sem]⟩) (by assumption) ?_
  simp only [Act.put, List.setIfInBounds_toArray, List.set_cons_zero, List.set_cons_succ]
  refine wpAnyH_take (i := 4) (oi := qLPtBytesLW5) (v := .bool false) rfl (by kernel_rfl) (by kernel_rfl) (by kernel_rfl) (fun _ _ _ h => h) (.inl ⟨by rfl, fun _ _ => by first | rfl | simp [go_sem]⟩) (by assumption) ?_
  simp only [Act.put, List.setIfInBounds_toArray, List.set_cons_zero, List.set_cons_succ]
  refine wpAnyH_ready (rs := [1]) (by kernel_rfl) (by simp) (AllReadyH.cons (o := { dst := some 15, op := Op.call { callee := Callee.value (Operand.func 17), args := #[Operand.tmp 14], argTypes := #[27] }, type := 4, pos := "laws.go:322", after := #[{ on := 0, ground := Ground.data }], guard := none }) rfl (fun K hK => ?_) AllReadyH.nil)
  go_simp
  refine (specPtOk a1 n1 c1 l1 b1 j1 d1 l2 _ x1 y1).mono ?_
  rintro e w4 ⟨rfl, hb4⟩
  replace B := B.trans (hb4.mono B.size)
  replace kVv := kVv.kept hb4
  replace kDv := kDv.kept hb4
  replace kQv := kQv.kept hb4
  replace kXv := kXv.kept hb4
  replace kYv := kYv.kept hb4
  replace x1 := x1.below hb4
  replace y1 := y1.below hb4
  replace E1 := E1.kept hb4
  replace iT := iT.below hb4
  clear hb4
  rw [← HP.out]
  go_wp2_with fail
  refine hK.out _ _ (arr_range E1) (fun hHeld => ?_)
  clear hK K
  refine wpAnyH_take (i := 5) (oi := qLPtBytesLW6) (v := .bool false) rfl (by kernel_rfl) (by kernel_rfl) (by kernel_rfl) (fun _ _ _ h => h) (.inl ⟨by rfl, fun _ _ => by first | rfl | simp [go_sem]⟩) (by assumption) ?_
  simp only [Act.put, List.setIfInBounds_toArray, List.set_cons_zero, List.set_cons_succ]
  refine wpAnyH_take (i := 6) (oi := qLPtBytesLW7) (v := .bool false) rfl (by kernel_rfl) (by kernel_rfl) (by kernel_rfl) (fun _ _ _ h => h) (.inl ⟨by rfl, fun _ _ => by first | rfl | simp [go_sem]⟩) (by assumption) ?_
  simp only [Act.put, List.setIfInBounds_toArray, List.set_cons_zero, List.set_cons_succ]
  refine wpAnyH_take (i := 7) (oi := qLPtBytesLW8) (v := _) rfl (by kernel_rfl) (by kernel_rfl) (by kernel_rfl) (fun _ _ _ h => h) (yieldsIf_load_mid (by rfl) _ _ rfl _ _ rfl ([Value.slice a1 n1 c1, Value.slice b1 j1 d1]) _ (fun _ h => h) huE rfl infoPt) (by assumption) ?_
  simp only [Act.put, List.setIfInBounds_toArray, List.set_cons_zero, List.set_cons_succ]
  refine wpAnyH_take (i := 9) (oi := qLPtBytesLW9) (v := _) rfl (by kernel_rfl) (by kernel_rfl) (by kernel_rfl) (fun _ _ _ h => h) (yieldsIf_load_mid (by rfl) _ _ rfl _ _ rfl ([Value.slice a1 n1 c1, Value.slice b1 j1 d1]) _ (fun _ h => h) huE rfl infoPt) (by assumption) ?_
  simp only [Act.put, List.setIfInBounds_toArray, List.set_cons_zero, List.set_cons_succ]
  refine wpAnyH_ready (rs := [8]) (by kernel_rfl) (by simp) (AllReadyH.cons (o := { dst := some 22, op := Op.call { callee := Callee.value (Operand.func 18), args := #[Operand.tmp 21], argTypes := #[27] }, type := 4, pos := "laws.go:322", after := #[{ on := 7, ground := Ground.data }, { on := 6, ground := Ground.chain }, { on := 6, ground := Ground.guard }], guard := some (6, false) }) rfl (fun K hK => ?_) AllReadyH.nil)
  go_simp
  refine (implPtOk a1 n1 c1 l1 b1 j1 d1 l2 _ x1 y1 kVv kDv).mono ?_
  rintro e w5 ⟨rfl, hb5⟩
  replace B := B.trans (hb5.mono B.size)
  replace kVv := kVv.kept hb5
  replace kDv := kDv.kept hb5
  replace kQv := kQv.kept hb5
  replace kXv := kXv.kept hb5
  replace kYv := kYv.kept hb5
  replace x1 := x1.below hb5
  replace y1 := y1.below hb5
  replace E1 := E1.kept hb5
  replace iT := iT.below hb5
  clear hb5
  rw [← HP.out]
  go_wp2_with fail
  refine hK.out _ _ (arr_range E1) (fun hHeld => ?_)
  clear hK K
  refine wpAnyH_ready (rs := [10]) (by kernel_rfl) (by simp) (AllReadyH.cons (o := { dst := some 24, op := Op.call { callee := Callee.value (Operand.func 17), args := #[Operand.tmp 23], argTypes := #[27] }, type := 4, pos := "laws.go:322", after := #[{ on := 9, ground := Ground.data }, { on := 8, ground := Ground.chain }, { on := 6, ground := Ground.guard }], guard := some (6, false) }) rfl (fun K hK => ?_) AllReadyH.nil)
  go_simp
  refine (specPtOk a1 n1 c1 l1 b1 j1 d1 l2 _ x1 y1).mono ?_
  rintro e w6 ⟨rfl, hb6⟩
  replace B := B.trans (hb6.mono B.size)
  replace kVv := kVv.kept hb6
  replace kDv := kDv.kept hb6
  replace kQv := kQv.kept hb6
  replace kXv := kXv.kept hb6
  replace kYv := kYv.kept hb6
  replace x1 := x1.below hb6
  replace y1 := y1.below hb6
  replace E1 := E1.kept hb6
  replace iT := iT.below hb6
  clear hb6
  rw [← HP.out]
  go_wp2_with fail
  refine hK.out _ _ (arr_range E1) (fun hHeld => ?_)
  clear hK K
  refine wpAnyH_take (i := 11) (oi := qLPtBytesLW1) (v := .bool false) rfl (by kernel_rfl) (by kernel_rfl) (by kernel_rfl) (fun _ _ _ h => h) (.inl ⟨by rfl, fun _ _ => by first | rfl | simp [go_sem]⟩) (by assumption) ?_
  simp only [Act.put, List.setIfInBounds_toArray, List.set_cons_zero, List.set_cons_succ]
  refine wpAnyH_take (i := 12) (oi := qLPtBytesLW2) (v := .bool false) rfl (by kernel_rfl) (by kernel_rfl) (by kernel_rfl) (fun _ _ _ h => h) (.inl ⟨by rfl, fun _ _ => by first | rfl | simp [go_sem]⟩) (by assumption) ?_
  simp only [Act.put, List.setIfInBounds_toArray, List.set_cons_zero, List.set_cons_succ]
  clear huE
  refine wpAnyH_done (by kernel_rfl) ?_ _
  clear hHeld
  go_upto_region 9 with fail
  clear x1
  clear y1
  clear E1
  clear iT
  go_wp2_with fail
  refine (drawPtRead ab nb cb bs _ (hB.below B) (by omega)).mono ?_
  rintro e w7 ⟨aZ, nZ, cZ, zs, rfl, iZ, nmZ, _, hb7⟩
  replace B := B.trans (hb7.mono B.size)
  replace kVv := kVv.kept hb7
  replace kDv := kDv.kept hb7
  replace kQv := kQv.kept hb7
  replace kXv := kXv.kept hb7
  replace kYv := kYv.kept hb7
  clear hb7
  have HZB : Hid _ := iZ.2.2.2.1
  have hzl := iZ.2.1
  go_wp2_with fail
  refine (implPtRead aZ nZ cZ zs _ iZ kVv kDv kQv).mono ?_
  rintro e w8 ⟨vR, rfl, ⟨aR, cR, bR, dR, rfl, oR, uR, _⟩, hb8⟩
  replace B := B.trans (hb8.mono B.size)
  replace kVv := kVv.kept hb8
  replace kDv := kDv.kept hb8
  replace kQv := kQv.kept hb8
  replace kXv := kXv.kept hb8
  replace kYv := kYv.kept hb8
  replace iZ := iZ.below hb8
  clear hb8
  have iR := is_of_own oR (rdX6_int _)
  have kR := is_of_own uR (rdY6_int HZB.out)
  clear oR uR
  obtain ⟨r, hr⟩ : ∃ r, r = rdOk6 zs := ⟨_, rfl⟩
  rw [← hr]
  obtain ⟨X, hX⟩ : ∃ l, l = rdX6 zs := ⟨_, rfl⟩
  obtain ⟨Y, hY⟩ : ∃ l, l = rdY6 zs := ⟨_, rfl⟩
  rw [← hX] at iR ⊢
  rw [← hY] at kR ⊢
  obtain ⟨nR, hnR⟩ : ∃ n, n = X.length := ⟨_, rfl⟩
  obtain ⟨jR, hjR⟩ : ∃ n, n = Y.length := ⟨_, rfl⟩
  rw [← hnR] at iR ⊢
  rw [← hjR] at kR ⊢
  have HR : Hid (r = true → ptOk X Y = true ∧ ptBF X Y = zs ∧ nR = 16 ∧ jR = 16) := by
   unfold Hid; intro h; rw [hr] at h; obtain ⟨q1, q2, q3, q4⟩ := pt_rd HZB.out h; rw [← hX, ← hY] at q1 q2; rw [← hX] at q3; rw [← hY] at q4
   obtain ⟨k1, k2, _⟩ := (ptOk_iff _ _).1 q1; obtain ⟨f1, f2⟩ := flat_mk k1 k2
   exact ⟨q1, by unfold ptBF; rw [if_pos q1, f1, f2, q2], by rw [hnR, q3], by rw [hjR, q4]⟩
  clear hr hX hY hnR hjR
  obtain ⟨bV, ER, A0, _⟩ := laid_two w8 27 (.slice none 0 0) (.slice none 0 0) (.slice aR nR cR) (.slice bR jR dR)
  obtain ⟨V9, hV9⟩ : ∃ V, V = (w8.alloc (.cells #[.slice none 0 0, .slice none 0 0] 27)).setRow w8.heap.size ([Value.slice aR nR cR, Value.slice bR jR dR] : List Value).toArray := ⟨_, rfl⟩
  rw [← hV9] at bV ER
  replace B := B.trans (bV.mono B.size)
  replace kVv := kVv.kept bV
  replace kDv := kDv.kept bV
  replace kQv := kQv.kept bV
  replace kXv := kXv.kept bV
  replace kYv := kYv.kept bV
  replace iZ := iZ.below bV
  replace iR := iR.below bV
  replace kR := kR.below bV
  clear bV
  go_wp2_with (refine wpList_store_row rfl 27 _ _ rfl w8.heap.size ([Value.slice aR nR cR, Value.slice bR jR dR]).toArray rfl rfl 27 _ A0 infoPt rfl (by simp [Value.oneCell']) ?_; rw [← hV9]; clear hV9 A0)
  refine (okPBase _ kXv kYv).mono ?_
  rintro e w10 ⟨aW, cW, bW, dW, rfl, iW, hb10⟩
  replace B := B.trans (hb10.mono B.size)
  replace kVv := kVv.kept hb10
  replace kDv := kDv.kept hb10
  replace kQv := kQv.kept hb10
  replace kXv := kXv.kept hb10
  replace kYv := kYv.kept hb10
  replace iZ := iZ.below hb10
  replace iR := iR.below hb10
  replace kR := kR.below hb10
  replace ER := ER.kept hb10
  clear hb10
  go_wp2_with fail
  refine (HBB.out aW cW bW dW _ iW kVv kDv).mono ?_
  rintro e w11 ⟨aU, cU, rfl, hb11⟩
  replace B := B.trans (hb11.mono B.size)
  replace kVv := kVv.kept hb11
  replace kDv := kDv.kept hb11
  replace kQv := kQv.kept hb11
  replace kXv := kXv.kept hb11
  replace kYv := kYv.kept hb11
  replace iZ := iZ.below hb11
  replace iR := iR.below hb11
  replace kR := kR.below hb11
  replace ER := ER.kept hb11
  replace iW := iW.below hb11
  clear hb11
  clear iW
  cases r with
  | false =>
   go_wp2_with fail
   go_ret
   exact ⟨rfl, B⟩
  | true =>
   obtain ⟨q1, q2, q3, q4⟩ := HR.out (by simp)
   subst q3 q4
   have Q1 : Hid (ptOk X Y = true) := q1
   have Q2 : Hid (ptBF X Y = zs) := q2
   clear q1 q2 HR
   go_wp2_with (first
     | (refine wpList_load_row rfl 27 _ rfl (w8.heap.size) rfl 27 ([Value.slice aR 16 cR, Value.slice bR 16 dR]).toArray (0, 0) _ ER Tryd.underlying27 rfl infoPt ?_)
     | (refine wpList_load_rowW rfl 27 _ rfl (w8.heap.size) rfl 27 ([Value.slice aR 16 cR, Value.slice bR 16 dR]).toArray (0, 0) _ ER Tryd.underlying27 rfl infoPt ?_))
   refine (implPtOk aR 16 cR X bR 16 dR Y _ iR kR kVv kDv).mono ?_
   rintro e w12 ⟨rfl, hb12⟩
   replace B := B.trans (hb12.mono B.size)
   replace kVv := kVv.kept hb12
   replace kDv := kDv.kept hb12
   replace kQv := kQv.kept hb12
   replace kXv := kXv.kept hb12
   replace kYv := kYv.kept hb12
   replace iZ := iZ.below hb12
   replace iR := iR.below hb12
   replace kR := kR.below hb12
   replace ER := ER.kept hb12
   clear hb12
   rw [Q1.out]
   go_wp2_with (first
     | (refine wpList_load_row rfl 27 _ rfl (w8.heap.size) rfl 27 ([Value.slice aR 16 cR, Value.slice bR 16 dR]).toArray (0, 0) _ ER Tryd.underlying27 rfl infoPt ?_)
     | (refine wpList_load_rowW rfl 27 _ rfl (w8.heap.size) rfl 27 ([Value.slice aR 16 cR, Value.slice bR 16 dR]).toArray (0, 0) _ ER Tryd.underlying27 rfl infoPt ?_))
   refine (implPtBytes aR 16 cR X bR 16 dR Y _ iR kR kVv kDv).mono ?_
   rintro e w13 ⟨vQ, rfl, oQ, hb13⟩
   replace B := B.trans (hb13.mono B.size)
   replace kVv := kVv.kept hb13
   replace kDv := kDv.kept hb13
   replace kQv := kQv.kept hb13
   replace kXv := kXv.kept hb13
   replace kYv := kYv.kept hb13
   replace iZ := iZ.below hb13
   replace iR := iR.below hb13
   replace kR := kR.below hb13
   replace ER := ER.kept hb13
   clear hb13
   obtain ⟨aQ, cQ, rfl, _, iQ⟩ := Bs.own oQ (ptBF_byte _ _)
   clear oQ
   rw [Q2.out] at iQ ⊢
   rw [hzl] at iQ ⊢
   go_wp2_with fail
   refine (sameT aQ aZ nZ cQ nZ cZ zs zs _ iQ iZ rfl).mono ?_
   rintro e w14 ⟨rfl, hq14⟩
   have hb14 : Below w13.heap.size w13 w14 := by rw [hq14]; exact Below.refl _ _
   replace B := B.trans (hb14.mono B.size)
   replace kVv := kVv.kept hb14
   replace kDv := kDv.kept hb14
   replace kQv := kQv.kept hb14
   replace kXv := kXv.kept hb14
   replace kYv := kYv.kept hb14
   replace iZ := iZ.below hb14
   replace iR := iR.below hb14
   replace kR := kR.below hb14
   replace ER := ER.kept hb14
   replace iQ := iQ.below hb14
   clear hb14 hq14
   go_wp2_with fail
   go_ret
   exact ⟨rfl, B⟩
 | true =>
  obtain ⟨h1, h2, h3, h4⟩ := HT1.out (by simp)
  subst h1 h3 h4
  have HE : Hid (rdOk6 T = true ∧ rdX6 T = l1 ∧ rdY6 T = l2) := by unfold Hid; rw [h2]; exact rd_pt HP.out.symm
  have HL : Hid (l1.length = 16 ∧ l2.length = 16) := ⟨x1.2.1, y1.2.1⟩
  clear h2 HT0 HT1
  have HXI : Hid _ := x1.2.2.2.1
  have HYI : Hid _ := y1.2.2.2.1
  go_upto_region 3 with fail
  have bD : Below w3.heap.size w3 w3.drew := (Below.refl _ _).drew
  replace B := B.trans (bD.mono B.size)
  replace kVv := kVv.kept bD
  replace kDv := kDv.kept bD
  replace kQv := kQv.kept bD
  replace kXv := kXv.kept bD
  replace kYv := kYv.kept bD
  replace x1 := x1.below bD
  replace y1 := y1.below bD
  replace E1 := E1.kept bD
  replace iT := iT.below bD
  clear bD
  have huE : Tryd.prog.underlying 27 = some _ := Tryd.underlying27
  refine wp_region_held_drew (S := fun W => W.rangeAt (w1.heap.size) 0 [Value.slice a1 16 c1, Value.slice b1 16 d1]) (by kernel_rfl) (arr_range E1) (fun hHeld => ?_)
  obtain ⟨wD, hD⟩ : ∃ V, V = w3.drew := ⟨_, rfl⟩
  rw [← hD] at hHeld B kVv kDv kQv kXv kYv x1 y1 E1 iT ⊢
  clear hD
  refine wpAnyH_take (i := 0) (oi := qLPtBytesLW0) (v := _) rfl (by kernel_rfl) (by kernel_rfl) (by kernel_rfl) (fun _ _ _ h => h) (yieldsIf_load_mid (by rfl) _ _ rfl _ _ rfl ([Value.slice a1 16 c1, Value.slice b1 16 d1]) _ (fun _ h => h) huE rfl infoPt) (by assumption) ?_
  simp only [Act.put, List.setIfInBounds_toArray, List.set_cons_zero, List.set_cons_succ]
  refine wpAnyH_take (i := 2) (oi := qLPtBytesLW3) (v := .slice aT 32 cT) rfl (by kernel_rfl) (by kernel_rfl) (by kernel_rfl) (fun _ _ _ h => h) (.inl ⟨by rfl, fun _ _ => by first | rfl | simp [go_sem]⟩) (by assumption) ?_
  simp only [Act.put, List.setIfInBounds_toArray, List.set_cons_zero, List.set_cons_succ]
  refine wpAnyH_take (i := 3) (oi := qLPtBytesLW4) (v := .int .i64 32) rfl (by kernel_rfl) (by kernel_rfl) (by kernel_rfl) (fun _ _ _ h => h) (.inl ⟨by rfl, fun _ _ => by first | rfl | simp [go_sem]⟩) (by assumption) ?_
  simp only [Act.put, List.setIfInBounds_toArray, List.set_cons_zero, List.set_cons_succ]
  refine wpAnyH_take (i := 4) (oi := qLPtBytesLW5) (v := .bool true) rfl (by kernel_rfl) (by kernel_rfl) (by kernel_rfl) (fun _ _ _ h => h) (.inl ⟨by rfl, fun _ _ => by first | rfl | simp [go_sem]⟩) (by assumption) ?_
  simp only [Act.put, List.setIfInBounds_toArray, List.set_cons_zero, List.set_cons_succ]
  refine wpAnyH_ready (rs := [1]) (by kernel_rfl) (by simp) (AllReadyH.cons (o := { dst := some 15, op := Op.call { callee := Callee.value (Operand.func 17), args := #[Operand.tmp 14], argTypes := #[27] }, type := 4, pos := "laws.go:322", after := #[{ on := 0, ground := Ground.data }], guard := none }) rfl (fun K hK => ?_) AllReadyH.nil)
  go_simp
  refine (specPtOk a1 16 c1 l1 b1 16 d1 l2 _ x1 y1).mono ?_
  rintro e w15 ⟨rfl, hb15⟩
  replace B := B.trans (hb15.mono B.size)
  replace kVv := kVv.kept hb15
  replace kDv := kDv.kept hb15
  replace kQv := kQv.kept hb15
  replace kXv := kXv.kept hb15
  replace kYv := kYv.kept hb15
  replace x1 := x1.below hb15
  replace y1 := y1.below hb15
  replace E1 := E1.kept hb15
  replace iT := iT.below hb15
  clear hb15
  rw [← HP.out]
  go_wp2_with fail
  refine hK.out _ _ (arr_range E1) (fun hHeld => ?_)
  clear hK K
  refine wpAnyH_take (i := 5) (oi := qLPtBytesLW6) (v := .bool false) rfl (by kernel_rfl) (by kernel_rfl) (by kernel_rfl) (fun _ _ _ h => h) (.inl ⟨by rfl, fun _ _ => by first | rfl | simp [go_sem]⟩) (by assumption) ?_
  simp only [Act.put, List.setIfInBounds_toArray, List.set_cons_zero, List.set_cons_succ]
  refine wpAnyH_take (i := 6) (oi := qLPtBytesLW7) (v := .bool false) rfl (by kernel_rfl) (by kernel_rfl) (by kernel_rfl) (fun _ _ _ h => h) (.inl ⟨by rfl, fun _ _ => by first | rfl | simp [go_sem]⟩) (by assumption) ?_
  simp only [Act.put, List.setIfInBounds_toArray, List.set_cons_zero, List.set_cons_succ]
  refine wpAnyH_take (i := 7) (oi := qLPtBytesLW8) (v := _) rfl (by kernel_rfl) (by kernel_rfl) (by kernel_rfl) (fun _ _ _ h => h) (yieldsIf_load_mid (by rfl) _ _ rfl _ _ rfl ([Value.slice a1 16 c1, Value.slice b1 16 d1]) _ (fun _ h => h) huE rfl infoPt) (by assumption) ?_
  simp only [Act.put, List.setIfInBounds_toArray, List.set_cons_zero, List.set_cons_succ]
  refine wpAnyH_take (i := 9) (oi := qLPtBytesLW9) (v := _) rfl (by kernel_rfl) (by kernel_rfl) (by kernel_rfl) (fun _ _ _ h => h) (yieldsIf_load_mid (by rfl) _ _ rfl _ _ rfl ([Value.slice a1 16 c1, Value.slice b1 16 d1]) _ (fun _ h => h) huE rfl infoPt) (by assumption) ?_
  simp only [Act.put, List.setIfInBounds_toArray, List.set_cons_zero, List.set_cons_succ]
  refine wpAnyH_ready (rs := [8]) (by kernel_rfl) (by simp) (AllReadyH.cons (o := { dst := some 22, op := Op.call { callee := Callee.value (Operand.func 18), args := #[Operand.tmp 21], argTypes := #[27] }, type := 4, pos := "laws.go:322", after := #[{ on := 7, ground := Ground.data }, { on := 6, ground := Ground.chain }, { on := 6, ground := Ground.guard }], guard := some (6, false) }) rfl (fun K hK => ?_) AllReadyH.nil)
  go_simp
  refine (implPtOk a1 16 c1 l1 b1 16 d1 l2 _ x1 y1 kVv kDv).mono ?_
  rintro e w16 ⟨rfl, hb16⟩
  replace B := B.trans (hb16.mono B.size)
  replace kVv := kVv.kept hb16
  replace kDv := kDv.kept hb16
  replace kQv := kQv.kept hb16
  replace kXv := kXv.kept hb16
  replace kYv := kYv.kept hb16
  replace x1 := x1.below hb16
  replace y1 := y1.below hb16
  replace E1 := E1.kept hb16
  replace iT := iT.below hb16
  clear hb16
  rw [← HP.out]
  go_wp2_with fail
  refine hK.out _ _ (arr_range E1) (fun hHeld => ?_)
  clear hK K
  refine wpAnyH_ready (rs := [10]) (by kernel_rfl) (by simp) (AllReadyH.cons (o := { dst := some 24, op := Op.call { callee := Callee.value (Operand.func 17), args := #[Operand.tmp 23], argTypes := #[27] }, type := 4, pos := "laws.go:322", after := #[{ on := 9, ground := Ground.data }, { on := 8, ground := Ground.chain }, { on := 6, ground := Ground.guard }], guard := some (6, false) }) rfl (fun K hK => ?_) AllReadyH.nil)
  go_simp
  refine (specPtOk a1 16 c1 l1 b1 16 d1 l2 _ x1 y1).mono ?_
  rintro e w17 ⟨rfl, hb17⟩
  replace B := B.trans (hb17.mono B.size)
  replace kVv := kVv.kept hb17
  replace kDv := kDv.kept hb17
  replace kQv := kQv.kept hb17
  replace kXv := kXv.kept hb17
  replace kYv := kYv.kept hb17
  replace x1 := x1.below hb17
  replace y1 := y1.below hb17
  replace E1 := E1.kept hb17
  replace iT := iT.below hb17
  clear hb17
  rw [← HP.out]
  go_wp2_with fail
  refine hK.out _ _ (arr_range E1) (fun hHeld => ?_)
  clear hK K
  refine wpAnyH_take (i := 11) (oi := qLPtBytesLW1) (v := .bool false) rfl (by kernel_rfl) (by kernel_rfl) (by kernel_rfl) (fun _ _ _ h => h) (.inl ⟨by rfl, fun _ _ => by first | rfl | simp [go_sem]⟩) (by assumption) ?_
  simp only [Act.put, List.setIfInBounds_toArray, List.set_cons_zero, List.set_cons_succ]
  refine wpAnyH_take (i := 12) (oi := qLPtBytesLW2) (v := .bool false) rfl (by kernel_rfl) (by kernel_rfl) (by kernel_rfl) (fun _ _ _ h => h) (.inl ⟨by rfl, fun _ _ => by first | rfl | simp [go_sem]⟩) (by assumption) ?_
  simp only [Act.put, List.setIfInBounds_toArray, List.set_cons_zero, List.set_cons_succ]
  clear huE
  refine wpAnyH_done (by kernel_rfl) ?_ _
  clear hHeld
  go_wp2_with fail
  refine (implPtRead aT 32 cT T _ iT kVv kDv kQv).mono ?_
  rintro e w18 ⟨vX, rfl, hpt, hb18⟩
  replace B := B.trans (hb18.mono B.size)
  replace kVv := kVv.kept hb18
  replace kDv := kDv.kept hb18
  replace kQv := kQv.kept hb18
  replace kXv := kXv.kept hb18
  replace kYv := kYv.kept hb18
  replace x1 := x1.below hb18
  replace y1 := y1.below hb18
  replace E1 := E1.kept hb18
  replace iT := iT.below hb18
  clear hb18
  rw [HE.out.2.1, HE.out.2.2] at hpt
  rw [HE.out.1]
  obtain ⟨aX, cX, bX, dX, rfl, oX, uX, _⟩ := hpt
  have iX := is_of_own oX HXI.out
  have kX := is_of_own uX HYI.out
  clear oX uX
  rw [HL.out.1] at iX ⊢
  rw [HL.out.2] at kX ⊢
  obtain ⟨bV, EX, A0, _⟩ := laid_two w18 27 (.slice none 0 0) (.slice none 0 0) (.slice aX 16 cX) (.slice bX 16 dX)
  obtain ⟨V19, hV19⟩ : ∃ V, V = (w18.alloc (.cells #[.slice none 0 0, .slice none 0 0] 27)).setRow w18.heap.size ([Value.slice aX 16 cX, Value.slice bX 16 dX] : List Value).toArray := ⟨_, rfl⟩
  rw [← hV19] at bV EX
  replace B := B.trans (bV.mono B.size)
  replace kVv := kVv.kept bV
  replace kDv := kDv.kept bV
  replace kQv := kQv.kept bV
  replace kXv := kXv.kept bV
  replace kYv := kYv.kept bV
  replace x1 := x1.below bV
  replace y1 := y1.below bV
  replace E1 := E1.kept bV
  replace iT := iT.below bV
  replace iX := iX.below bV
  replace kX := kX.below bV
  clear bV
  go_wp2_with (first
    | (refine wpList_store_row rfl 27 _ _ rfl w18.heap.size ([Value.slice aX 16 cX, Value.slice bX 16 dX]).toArray rfl rfl 27 _ A0 infoPt rfl (by simp [Value.oneCell']) ?_; rw [← hV19]; clear hV19 A0)
    | (refine wpList_load_row rfl 27 _ rfl (w18.heap.size) rfl 27 ([Value.slice aX 16 cX, Value.slice bX 16 dX]).toArray (0, 0) _ EX Tryd.underlying27 rfl infoPt ?_)
    | (refine wpList_load_rowW rfl 27 _ rfl (w18.heap.size) rfl 27 ([Value.slice aX 16 cX, Value.slice bX 16 dX]).toArray (0, 0) _ EX Tryd.underlying27 rfl infoPt ?_)
    | (refine wpList_load_row rfl 27 _ rfl (w1.heap.size) rfl 27 ([Value.slice a1 16 c1, Value.slice b1 16 d1]).toArray (0, 0) _ E1 Tryd.underlying27 rfl infoPt ?_)
    | (refine wpList_load_rowW rfl 27 _ rfl (w1.heap.size) rfl 27 ([Value.slice a1 16 c1, Value.slice b1 16 d1]).toArray (0, 0) _ E1 Tryd.underlying27 rfl infoPt ?_))
  refine (samePtC aX a1 16 cX c1 l1 bX b1 16 dX d1 l2 _ iX x1 kX y1 (by omega) (by omega)).mono ?_
  rintro e w20 ⟨rfl, hb20⟩
  replace B := B.trans (hb20.mono B.size)
  replace kVv := kVv.kept hb20
  replace kDv := kDv.kept hb20
  replace kQv := kQv.kept hb20
  replace kXv := kXv.kept hb20
  replace kYv := kYv.kept hb20
  replace x1 := x1.below hb20
  replace y1 := y1.below hb20
  replace E1 := E1.kept hb20
  replace iT := iT.below hb20
  replace iX := iX.below hb20
  replace kX := kX.below hb20
  replace EX := EX.kept hb20
  clear hb20
  clear iX
  clear kX
  clear EX
  clear x1
  clear y1
  clear E1
  clear iT
  go_wp2_with fail
  refine (drawPtRead ab nb cb bs _ (hB.below B) (by omega)).mono ?_
  rintro e w21 ⟨aZ, nZ, cZ, zs, rfl, iZ, nmZ, _, hb21⟩
  replace B := B.trans (hb21.mono B.size)
  replace kVv := kVv.kept hb21
  replace kDv := kDv.kept hb21
  replace kQv := kQv.kept hb21
  replace kXv := kXv.kept hb21
  replace kYv := kYv.kept hb21
  clear hb21
  have HZB : Hid _ := iZ.2.2.2.1
  have hzl := iZ.2.1
  go_wp2_with fail
  refine (implPtRead aZ nZ cZ zs _ iZ kVv kDv kQv).mono ?_
  rintro e w22 ⟨vR, rfl, ⟨aR, cR, bR, dR, rfl, oR, uR, _⟩, hb22⟩
  replace B := B.trans (hb22.mono B.size)
  replace kVv := kVv.kept hb22
  replace kDv := kDv.kept hb22
  replace kQv := kQv.kept hb22
  replace kXv := kXv.kept hb22
  replace kYv := kYv.kept hb22
  replace iZ := iZ.below hb22
  clear hb22
  have iR := is_of_own oR (rdX6_int _)
  have kR := is_of_own uR (rdY6_int HZB.out)
  clear oR uR
  obtain ⟨r, hr⟩ : ∃ r, r = rdOk6 zs := ⟨_, rfl⟩
  rw [← hr]
  obtain ⟨X, hX⟩ : ∃ l, l = rdX6 zs := ⟨_, rfl⟩
  obtain ⟨Y, hY⟩ : ∃ l, l = rdY6 zs := ⟨_, rfl⟩
  rw [← hX] at iR ⊢
  rw [← hY] at kR ⊢
  obtain ⟨nR, hnR⟩ : ∃ n, n = X.length := ⟨_, rfl⟩
  obtain ⟨jR, hjR⟩ : ∃ n, n = Y.length := ⟨_, rfl⟩
  rw [← hnR] at iR ⊢
  rw [← hjR] at kR ⊢
  have HR : Hid (r = true → ptOk X Y = true ∧ ptBF X Y = zs ∧ nR = 16 ∧ jR = 16) := by
   unfold Hid; intro h; rw [hr] at h; obtain ⟨q1, q2, q3, q4⟩ := pt_rd HZB.out h; rw [← hX, ← hY] at q1 q2; rw [← hX] at q3; rw [← hY] at q4
   obtain ⟨k1, k2, _⟩ := (ptOk_iff _ _).1 q1; obtain ⟨f1, f2⟩ := flat_mk k1 k2
   exact ⟨q1, by unfold ptBF; rw [if_pos q1, f1, f2, q2], by rw [hnR, q3], by rw [hjR, q4]⟩
  clear hr hX hY hnR hjR
  obtain ⟨bV, ER, A0, _⟩ := laid_two w22 27 (.slice none 0 0) (.slice none 0 0) (.slice aR nR cR) (.slice bR jR dR)
  obtain ⟨V23, hV23⟩ : ∃ V, V = (w22.alloc (.cells #[.slice none 0 0, .slice none 0 0] 27)).setRow w22.heap.size ([Value.slice aR nR cR, Value.slice bR jR dR] : List Value).toArray := ⟨_, rfl⟩
  rw [← hV23] at bV ER
  replace B := B.trans (bV.mono B.size)
  replace kVv := kVv.kept bV
  replace kDv := kDv.kept bV
  replace kQv := kQv.kept bV
  replace kXv := kXv.kept bV
  replace kYv := kYv.kept bV
  replace iZ := iZ.below bV
  replace iR := iR.below bV
  replace kR := kR.below bV
  clear bV
  go_wp2_with (refine wpList_store_row rfl 27 _ _ rfl w22.heap.size ([Value.slice aR nR cR, Value.slice bR jR dR]).toArray rfl rfl 27 _ A0 infoPt rfl (by simp [Value.oneCell']) ?_; rw [← hV23]; clear hV23 A0)
  refine (okPBase _ kXv kYv).mono ?_
  rintro e w24 ⟨aW, cW, bW, dW, rfl, iW, hb24⟩
  replace B := B.trans (hb24.mono B.size)
  replace kVv := kVv.kept hb24
  replace kDv := kDv.kept hb24
  replace kQv := kQv.kept hb24
  replace kXv := kXv.kept hb24
  replace kYv := kYv.kept hb24
  replace iZ := iZ.below hb24
  replace iR := iR.below hb24
  replace kR := kR.below hb24
  replace ER := ER.kept hb24
  clear hb24
  go_wp2_with fail
  refine (HBB.out aW cW bW dW _ iW kVv kDv).mono ?_
  rintro e w25 ⟨aU, cU, rfl, hb25⟩
  replace B := B.trans (hb25.mono B.size)
  replace kVv := kVv.kept hb25
  replace kDv := kDv.kept hb25
  replace kQv := kQv.kept hb25
  replace kXv := kXv.kept hb25
  replace kYv := kYv.kept hb25
  replace iZ := iZ.below hb25
  replace iR := iR.below hb25
  replace kR := kR.below hb25
  replace ER := ER.kept hb25
  replace iW := iW.below hb25
  clear hb25
  clear iW
  cases r with
  | false =>
   go_wp2_with fail
   go_ret
   exact ⟨rfl, B⟩
  | true =>
   obtain ⟨q1, q2, q3, q4⟩ := HR.out (by simp)
   subst q3 q4
   have Q1 : Hid (ptOk X Y = true) := q1
   have Q2 : Hid (ptBF X Y = zs) := q2
   clear q1 q2 HR
   go_wp2_with (first
     | (refine wpList_load_row rfl 27 _ rfl (w22.heap.size) rfl 27 ([Value.slice aR 16 cR, Value.slice bR 16 dR]).toArray (0, 0) _ ER Tryd.underlying27 rfl infoPt ?_)
     | (refine wpList_load_rowW rfl 27 _ rfl (w22.heap.size) rfl 27 ([Value.slice aR 16 cR, Value.slice bR 16 dR]).toArray (0, 0) _ ER Tryd.underlying27 rfl infoPt ?_))
   refine (implPtOk aR 16 cR X bR 16 dR Y _ iR kR kVv kDv).mono ?_
   rintro e w26 ⟨rfl, hb26⟩
   replace B := B.trans (hb26.mono B.size)
   replace kVv := kVv.kept hb26
   replace kDv := kDv.kept hb26
   replace kQv := kQv.kept hb26
   replace kXv := kXv.kept hb26
   replace kYv := kYv.kept hb26
   replace iZ := iZ.below hb26
   replace iR := iR.below hb26
   replace kR := kR.below hb26
   replace ER := ER.kept hb26
   clear hb26
   rw [Q1.out]
   go_wp2_with (first
     | (refine wpList_load_row rfl 27 _ rfl (w22.heap.size) rfl 27 ([Value.slice aR 16 cR, Value.slice bR 16 dR]).toArray (0, 0) _ ER Tryd.underlying27 rfl infoPt ?_)
     | (refine wpList_load_rowW rfl 27 _ rfl (w22.heap.size) rfl 27 ([Value.slice aR 16 cR, Value.slice bR 16 dR]).toArray (0, 0) _ ER Tryd.underlying27 rfl infoPt ?_))
   refine (implPtBytes aR 16 cR X bR 16 dR Y _ iR kR kVv kDv).mono ?_
   rintro e w27 ⟨vQ, rfl, oQ, hb27⟩
   replace B := B.trans (hb27.mono B.size)
   replace kVv := kVv.kept hb27
   replace kDv := kDv.kept hb27
   replace kQv := kQv.kept hb27
   replace kXv := kXv.kept hb27
   replace kYv := kYv.kept hb27
   replace iZ := iZ.below hb27
   replace iR := iR.below hb27
   replace kR := kR.below hb27
   replace ER := ER.kept hb27
   clear hb27
   obtain ⟨aQ, cQ, rfl, _, iQ⟩ := Bs.own oQ (ptBF_byte _ _)
   clear oQ
   rw [Q2.out] at iQ ⊢
   rw [hzl] at iQ ⊢
   go_wp2_with fail
   refine (sameT aQ aZ nZ cQ nZ cZ zs zs _ iQ iZ rfl).mono ?_
   rintro e w28 ⟨rfl, hq28⟩
   have hb28 : Below w27.heap.size w27 w28 := by rw [hq28]; exact Below.refl _ _
   replace B := B.trans (hb28.mono B.size)
   replace kVv := kVv.kept hb28
   replace kDv := kDv.kept hb28
   replace kQv := kQv.kept hb28
   replace kXv := kXv.kept hb28
   replace kYv := kYv.kept hb28
   replace iZ := iZ.below hb28
   replace iR := iR.below hb28
   replace kR := kR.below hb28
   replace ER := ER.kept hb28
   replace iQ := iQ.below hb28
   clear hb28 hq28
   go_wp2_with fail
   go_ret
   exact ⟨rfl, B⟩
end Go.Proofs.YtoblilngppjmhaaDoor
