/-
  What is proved here: the contract of the program's PtBytes; where its variables hold the prime and d.
-/
import Derived.Test.YtihoaakbkffejaaDoorZXp0
import Derived.Test.YtihoaakbkffejaaDoorZJg
import Derived.Test.YtihoaakbkffejaaDoorZJrd
import Derived.Test.YtihoaakbkffejaaDoorZUl
namespace Go.Proofs.YtihoaakbkffejaaDoor
open Go.RowKit
set_option maxRecDepth 100000
abbrev qOhy0 : Oper := { dst := some 22, op := Op.indexAddr 81 (Operand.tmp 5) (Operand.const (Value.int IntKind.i64 15)), type := 0, pos := "l06_point.go:90", after := #[{ on := 0, ground := Ground.phase }, { on := 1, ground := Ground.phase }, { on := 2, ground := Ground.phase }, { on := 3, ground := Ground.phase }, { on := 4, ground := Ground.phase }, { on := 5, ground := Ground.phase }, { on := 6, ground := Ground.phase }], guard := none }
abbrev qOhy1 : Oper := { dst := none, op := Op.store 3 (Operand.tmp 22) (Operand.tmp 21), type := 0, pos := "l06_point.go:90", after := #[{ on := 7, ground := Ground.data }, { on := 6, ground := Ground.data }, { on := 4, ground := Ground.chain }, { on := 0, ground := Ground.phase }, { on := 1, ground := Ground.phase }, { on := 2, ground := Ground.phase }, { on := 3, ground := Ground.phase }, { on := 4, ground := Ground.phase }, { on := 5, ground := Ground.phase }, { on := 6, ground := Ground.phase }], guard := none }

/-- The number that PtBytes writes out: y, and in its highest bit whether x is odd. -/
def mkd (x y : List Int) : List Int := y.set 15 (y.getD 15 0 + x.getD 0 0 % 2 * 32768)
theorem mkd_len {x y : List Int} (h : y.length = 16) : (mkd x y).length = 16 := by simp [mkd, h]
theorem or_mark {t p : Int} (h0 : 0 ≤ t) (h1 : t < 32768) (p0 : 0 ≤ p) (p1 : p ≤ 1) : bits .or .i64 t (p * 32768) = t + p * 32768 := by
 have := bits_join .i64 63 (by decide) (fun n a b => by rw [IntKind.wrap_i64]; omega) 15 (p * 32768) t (by omega) (by omega) (by omega) h0 (by omega) (by omega)
 have hc : bits .or .i64 t (p * 32768) = bits .or .i64 (p * 32768) t := by unfold bits; simp only [BitVec.or_comm]
 rw [hc, this]; omega
theorem y15_lt {y : List Int} (h : feOk y = true) : 0 ≤ y.getD 15 0 ∧ y.getD 15 0 < 32768 := by
 obtain ⟨h1, h2, h3⟩ := (feOk_iff y).1 h
 have h15 := gD_lm h2 15
 have h0 := val_nonneg (l := y.take 15) (fun x hx => (h2 x (List.mem_of_mem_take hx)).1)
 rw [val_last h1, p240] at h3
 unfold P25519 at h3
 omega
theorem mkd_lm {x y : List Int} (h : feOk y = true) : Lm (mkd x y) := by
 have hy := y15_lt h
 intro v hv
 rcases List.mem_or_eq_of_mem_set hv with h1 | rfl
 ·exact feOk_lm' h v h1
 ·omega
theorem btL_mkd {x y : List Int} (h : feOk y = true) : btL (mkd x y) = ptBt x y := by
 have hl := feOk_len h
 have hy := y15_lt h
 have e1 := btL_snoc y 15 (by omega)
 have e2 := btL_snoc (mkd x y) 15 (by rw [mkd_len hl]; omega)
 rw [List.take_of_length_le (by omega)] at e1
 rw [List.take_of_length_le (by rw [mkd_len hl]; omega)] at e2
 have e3 : (mkd x y).take 15 = y.take 15 := by unfold mkd; rw [List.take_set_of_le (by omega)]
 have e4 : (mkd x y).getD 15 0 = y.getD 15 0 + x.getD 0 0 % 2 * 32768 := by unfold mkd; simp [List.getD, hl]
 have e5 : (btL (y.take 15)).length = 30 := by rw [btL_len]; simp [hl]
 rw [e2, e3, e4]
 unfold ptBt
 have e6 : (btL y).getD 31 0 = y.getD 15 0 / 256 := (btL_get y 15 (by omega)).2
 rw [e6, e1, List.set_append_right _ _ (by omega), e5]
 congr 1
 have a1 : (y.getD 15 0 + x.getD 0 0 % 2 * 32768) % 256 = y.getD 15 0 % 256 := by omega
 have a2 : (y.getD 15 0 + x.getD 0 0 % 2 * 32768) / 256 = y.getD 15 0 / 256 + x.getD 0 0 % 2 * 128 := by omega
 rw [a1, a2]
 rfl

set_option maxHeartbeats 8000000 in
theorem implPtBytes (a1 : Option Addr) (n1 c1 : Nat) (xs1 : List Int) (b1 : Option Addr) (m1 d1 : Nat) (ys1 : List Int) (w : World) (hx1 : Is w a1 n1 c1 xs1) (hy1 : Is w b1 m1 d1 ys1) (hV : Vr w 6 (I64 PL)) (hD : Vr w 7 (I64 DL)) :
  Calls Tryd.prog 31 #[.agg #[.slice a1 n1 c1, .slice b1 m1 d1]] w fun e w' => ∃ v, e = .returned v ∧ w'.ownsRow w.heap.size 5 1 v (ptBF xs1 ys1).length (U8 (ptBF xs1 ys1)) ∧ Below w.heap.size w w' := by
 obtain ⟨p, hp⟩ : ∃ p, p = ptOk xs1 ys1 := ⟨_, rfl⟩
 obtain ⟨L, hL⟩ : ∃ l, l = opL xs1 ys1 := ⟨_, rfl⟩
 obtain ⟨P, hP⟩ : ∃ P, P = mk6 xs1 ys1 := ⟨_, rfl⟩
 have HO1 : Hid (∀ Z, Below w.heap.size w Z → Vr Z 6 (I64 PL) → Vr Z 7 (I64 DL) → Calls Tryd.prog 49 #[.agg #[.slice a1 n1 c1, .slice b1 m1 d1]] Z fun e w' => e = .returned (.tuple #[.agg (I64 L).toArray, .bool p]) ∧ Below Z.heap.size Z w') := by
  unfold Hid; intro Z hZ h1 h2; rw [hL, hp]; exact implPtOpen a1 n1 c1 xs1 b1 m1 d1 ys1 Z (hx1.below hZ) (hy1.below hZ) h1 h2
 have nL : L.length = 64 := by rw [hL]; exact opL_len _ _
 have iL : (Tryd.prog.info? 92).map (·.size) = some (I64 L).toArray.size := by simpa [nL] using infoLp
 have HLL : Hid (p = true → L = P.cells ∧ P.Ok) := by
  unfold Hid; intro h; rw [hp] at h; obtain ⟨k1, k2, _⟩ := (ptOk_iff _ _).1 h; rw [hL, hP]; unfold opL; rw [if_pos h]; exact ⟨rfl, mk6_ok k1 k2⟩
 obtain ⟨T, hT⟩ : ∃ T, T = ptBF xs1 ys1 := ⟨_, rfl⟩
 have HN : Hid (p = false → T = []) := by unfold Hid; intro h; rw [hp] at h; rw [hT]; unfold ptBF; rw [h]; rfl
 have HY : Hid (p = true → T = btL (mkd P.a P.b)) := by
  unfold Hid; intro h; rw [hp] at h; obtain ⟨k1, k2, _⟩ := (ptOk_iff _ _).1 h; rw [hT, hP]; unfold ptBF; rw [if_pos h, (flat_mk k1 k2).1, (flat_mk k1 k2).2]; exact (btL_mkd k2).symm
 rw [← hT]
 obtain ⟨W, hW⟩ : ∃ W, W = w.alloc (.cells #[.slice a1 n1 c1, .slice b1 m1 d1] 60) := ⟨_, rfl⟩
 have fr : Below w.heap.size w W := by rw [hW]; exact ((Below.refl _ _).alloc (Nat.le_refl _) _)
 have pa : Arr W w.heap.size 60 ([.slice a1 n1 c1, .slice b1 m1 d1]) := by
  rw [hW]
  have := Arr.new (w) ([.slice a1 n1 c1, .slice b1 m1 d1]) 60
  exact this
 have h0P := hV.lt
 have vP := hV.kept fr
 have h0D := hD.lt
 have vD := hD.kept fr
 clear hV hD
 clear hT hp hL hP hx1 hy1
 go_enter Tryd.func31, Tryd.ntmps31
 go_upto_region 1 with fail
 rw [← hW]
 clear hW
 go_wp2_with (refine wpList_load_row rfl 60 _ rfl w.heap.size rfl 60 ([Value.slice a1 n1 c1,  Value.slice b1 m1 d1]).toArray (0, 0) _ pa Tryd.underlying60 rfl infoPt ?_)
 refine (HO1.out _ fr vP vD).mono ?_
 rintro e y1 ⟨rfl, hb1⟩
 replace fr := fr.trans (hb1.mono fr.size)
 replace pa := pa.kept hb1
 replace vP := vP.kept hb1
 replace vD := vD.kept hb1
 clear hb1
 have hXL : w.heap.size < y1.heap.size ∧ w.heap.size ≤ y1.heap.size := ⟨pa.lt, fr.size⟩
 obtain ⟨bV, AL, q1⟩ := laid_lp y1 L
 replace fr := fr.trans (bV.mono fr.size)
 replace pa := pa.kept bV
 replace vP := vP.kept bV
 replace vD := vD.kept bV
 go_upto_region 2 with (refine wpList_store_row rfl 92 _ _ rfl y1.heap.size (I64 L).toArray rfl rfl 92 _ q1 iL (by simp [nL]) (by simp [Value.oneCell']) ?_)
 obtain ⟨V2, hVV⟩ : ∃ V, V = (y1.alloc (.cells #[.int .i64 0, .int .i64 0, .int .i64 0, .int .i64 0, .int .i64 0, .int .i64 0, .int .i64 0, .int .i64 0, .int .i64 0, .int .i64 0, .int .i64 0, .int .i64 0, .int .i64 0, .int .i64 0, .int .i64 0, .int .i64 0, .int .i64 0, .int .i64 0, .int .i64 0, .int .i64 0, .int .i64 0, .int .i64 0, .int .i64 0, .int .i64 0, .int .i64 0, .int .i64 0, .int .i64 0, .int .i64 0, .int .i64 0, .int .i64 0, .int .i64 0, .int .i64 0, .int .i64 0, .int .i64 0, .int .i64 0, .int .i64 0, .int .i64 0, .int .i64 0, .int .i64 0, .int .i64 0, .int .i64 0, .int .i64 0, .int .i64 0, .int .i64 0, .int .i64 0, .int .i64 0, .int .i64 0, .int .i64 0, .int .i64 0, .int .i64 0, .int .i64 0, .int .i64 0, .int .i64 0, .int .i64 0, .int .i64 0, .int .i64 0, .int .i64 0, .int .i64 0, .int .i64 0, .int .i64 0, .int .i64 0, .int .i64 0, .int .i64 0, .int .i64 0] 92)).setRow y1.heap.size (I64 L).toArray := ⟨_, rfl⟩
 obtain ⟨XL, hE⟩ : ∃ E, E = y1.heap.size := ⟨_, rfl⟩
 rw [← hVV] at fr pa vP vD AL ⊢
 rw [← hE] at AL hXL ⊢
 clear hVV hE q1 bV
 cases p with
 | false =>
  have hTn : Hid (T = []) := HN.out (by simp)
  go_wp2
  go_ret
  exact ⟨_, rfl, by rw [hTn.out]; exact World.ownsRow_nil _ _ _ _, fr⟩
 | true =>
  obtain ⟨eL, hPo⟩ := HLL.out (by simp)
  subst eL
  have hTy : Hid (T = btL (mkd P.a P.b)) := HY.out (by simp)
  have kb := hPo.b
  obtain ⟨y, hy⟩ : ∃ y, y = P.b := ⟨_, rfl⟩
  have jPb := infoL' kb
  have iiPb := infoLl kb
  have nPb := feOk_len kb
  have uPb := one_lm P.b
  have iPa := infoLl hPo.a
  obtain ⟨b, hb⟩ : ∃ b, b = P.a.getD 0 0 % 2 := ⟨_, rfl⟩
  have hb0 : 0 ≤ b := by omega
  have hb1 : b ≤ 1 := by omega
  have HB : Hid (∀ Z, Calls Tryd.prog 56 #[.agg (I64 P.a).toArray, .int .i64 0] Z fun e w' => e = .returned (.int .i64 b) ∧ Below Z.heap.size Z w') := by
   unfold Hid; intro Z; have := implBit P.a 0 Z (feOk_len hPo.a) (feOk_lm' hPo.a) (by omega); simpa [hb] using this
  obtain ⟨t, ht⟩ : ∃ t, t = P.b.getD 15 0 := ⟨_, rfl⟩
  have ht0 := y15_lt kb
  rw [← ht] at ht0
  obtain ⟨M, hM⟩ : ∃ M, M = mkd P.a P.b := ⟨_, rfl⟩
  have hMe : Hid ((I64 P.b).set 15 (.int .i64 (t + b * 32768)) = I64 M) := by unfold Hid; rw [hM, ht, hb]; unfold mkd; simp only [I64, List.map_set]
  have nM : M.length = 16 := by rw [hM]; exact mkd_len (feOk_len kb)
  have lM : Lm M := by rw [hM]; exact mkd_lm kb
  have jM : (Tryd.prog.info? 81).map (·.size) = some (I64 M).toArray.size := by simpa [nM] using infoL
  rw [← hM] at hTy
  have HT : Hid (∀ Z, Calls Tryd.prog 57 #[.agg (I64 M).toArray] Z fun e w' => ∃ v, e = .returned v ∧ w'.ownsRow Z.heap.size 5 1 v 32 (U8 (btL M)) ∧ Below Z.heap.size Z w') := by
   unfold Hid; intro Z; exact implBytes M Z nM lM
  have hlen : Hid ((btL M).length = 32) := by unfold Hid; rw [btL_len, nM]
  have ht2 : Hid (P.b.getD 15 0 = t) := ht.symm
  have hsh : IntKind.i64.wrap (b * 32768) = b * 32768 := by rw [IntKind.wrap_i64]; omega
  have hor := or_mark ht0.1 ht0.2 hb0 hb1
  have hw : IntKind.i64.wrap (t + b * 32768) = t + b * 32768 := by rw [IntKind.wrap_i64]; omega
  have hu : Tryd.prog.underlying 81 = some (.array 16 3) := Tryd.underlying81
  clear hM hb ht hy
  go_upto_region 4 with fail
  have rb := E4.rb hPo AL
  have hXm : w.heap.size < V2.heap.size ∧ XL < V2.heap.size ∧ w.heap.size ≤ V2.heap.size := ⟨pa.lt, AL.lt, fr.size⟩
  obtain ⟨bV, Am, q1⟩ := laid_lm V2 P.b
  replace fr := fr.trans (bV.mono fr.size)
  replace pa := pa.kept bV
  replace vP := vP.kept bV
  replace vD := vD.kept bV
  replace AL := AL.kept bV
  go_upto_region 5 with (first
    | (refine wpList_load_mid rfl 81 _ rfl XL 16 rfl (I64 P.b) _ rb Tryd.underlying81 rfl iiPb ?_)
    | (refine wpList_store_row rfl 81 _ _ rfl V2.heap.size (I64 P.b).toArray rfl rfl 81 _ q1 jPb (by simp [nPb]) (by simp [Value.oneCell']) ?_))
  obtain ⟨V9, hVV⟩ : ∃ V, V = (V2.alloc (.cells #[.int .i64 0, .int .i64 0, .int .i64 0, .int .i64 0, .int .i64 0, .int .i64 0, .int .i64 0, .int .i64 0, .int .i64 0, .int .i64 0, .int .i64 0, .int .i64 0, .int .i64 0, .int .i64 0, .int .i64 0, .int .i64 0] 81)).setRow V2.heap.size (I64 P.b).toArray := ⟨_, rfl⟩
  obtain ⟨Xm, hE⟩ : ∃ E, E = V2.heap.size := ⟨_, rfl⟩
  rw [← hVV] at fr pa vP vD AL Am ⊢
  rw [← hE] at Am hXm ⊢
  clear hVV hE q1 bV rb
  try simp only [Act.put]
  have bD : Below V9.heap.size V9 V9.drew := (Below.refl _ _).drew
  replace fr := fr.trans (bD.mono fr.size)
  replace pa := pa.kept bD
  replace vP := vP.kept bD
  replace vD := vD.kept bD
  replace AL := AL.kept bD
  replace Am := Am.kept bD
  clear bD
  refine wp_region_held_drew (S := fun W => W.rangeAt XL 0 (I64 P.a)) (by kernel_rfl) (E4.ra AL) (fun hHeld => ?_)
  obtain ⟨D3, hD⟩ : ∃ V, V = V9.drew := ⟨_, rfl⟩
  rw [← hD] at hHeld fr pa vP vD AL Am ⊢
  clear hD
  refine wpAnyH_take (i := 0) (oi := { dst := some 15, op := Op.indexAddr 81 (Operand.tmp 5) (Operand.const (Value.int IntKind.i64 15)), type := 0, pos := "l06_point.go:90", after := #[], guard := none }) (v := .pointer (some ⟨Xm, 15, none⟩)) rfl (by kernel_rfl) (by kernel_rfl) (by kernel_rfl) (fun _ _ _ h => h) (.inl ⟨by rfl, fun _ _ => by kernel_rfl⟩) (by assumption) ?_
  simp only [Act.put, List.setIfInBounds_toArray, List.set_cons_zero, List.set_cons_succ]
  refine wpAnyH_take (i := 2) (oi := { dst := some 17, op := Op.fieldAddr 92 (Operand.tmp 3) 0, type := 0, pos := "l06_point.go:90", after := #[], guard := none }) (v := .pointer (some ⟨XL, 0, none⟩)) rfl (by kernel_rfl) (by kernel_rfl) (by kernel_rfl) (fun _ _ _ h => h) (.inl ⟨by rfl, fun _ _ => by rfl⟩) (by assumption) ?_
  simp only [Act.put, List.setIfInBounds_toArray, List.set_cons_zero, List.set_cons_succ]
  refine wpAnyH_take (i := 3) (oi := { dst := some 18, op := Op.load 81 (Operand.tmp 17), type := 81, pos := "l06_point.go:90", after := #[{ on := 2, ground := Ground.data }], guard := none }) (v := _) rfl (by kernel_rfl) (by kernel_rfl) (by kernel_rfl) (fun _ _ _ h => h) (yieldsIf_load_mid (by rfl) _ _ rfl _ _ rfl (I64 P.a) _ (fun _ h => h) hu rfl iPa) (by assumption) ?_
  simp only [Act.put, List.setIfInBounds_toArray, List.set_cons_zero, List.set_cons_succ]
  refine wpAnyH_ready (rs := [1, 4]) (by kernel_rfl) (by simp) (AllReadyH.cons (o := { dst := some 16, op := Op.load 3 (Operand.tmp 15), type := 3, pos := "l06_point.go:90", after := #[{ on := 0, ground := Ground.data }], guard := none }) rfl (fun K hK => ?_) (AllReadyH.cons (o := { dst := some 19, op := Op.call { callee := Callee.value (Operand.func 56), args := #[Operand.tmp 18, Operand.const (Value.int IntKind.i64 0)], argTypes := #[81, 3] }, type := 3, pos := "l06_point.go:90", after := #[{ on := 3, ground := Ground.data }], guard := none }) rfl (fun K hK => ?_) AllReadyH.nil))
  ·skip
   have c15 : D3.cell? ⟨Xm, 15, none⟩ = some (.int .i64 t) := by have := Am.i64 15 (by omega); rw [ht2.out] at this; exact this
   go_simp
   clear c15
   refine hK.out _ _ (E4.ra AL) (fun hHeld => ?_)
   clear hK K
   refine wpAnyH_ready (rs := [4]) (by kernel_rfl) (by simp) (AllReadyH.cons (o := { dst := some 19, op := Op.call { callee := Callee.value (Operand.func 56), args := #[Operand.tmp 18, Operand.const (Value.int IntKind.i64 0)], argTypes := #[81, 3] }, type := 3, pos := "l06_point.go:90", after := #[{ on := 3, ground := Ground.data }], guard := none }) rfl (fun K hK => ?_) AllReadyH.nil)
   go_simp
   refine (HB.out _).mono ?_
   rintro e y4 ⟨rfl, hb4⟩
   replace fr := fr.trans (hb4.mono fr.size)
   replace pa := pa.kept hb4
   replace vP := vP.kept hb4
   replace vD := vD.kept hb4
   replace AL := AL.kept hb4
   replace Am := Am.kept hb4
   clear hb4
   go_wp2_with fail
   refine hK.out _ _ (E4.ra AL) (fun hHeld => ?_)
   clear hK K
   refine wpAnyH_ready (rs := [5]) (by kernel_rfl) (by simp) (AllReadyH.cons (o := { dst := some 20, op := Op.binOp BinOp.shl 3 (Operand.tmp 19) (Operand.const (Value.int IntKind.u64 15)) 48, type := 3, pos := "l06_point.go:90", after := #[{ on := 4, ground := Ground.data }], guard := none }) rfl (fun K hK => ?_) AllReadyH.nil)
   go_simp
   refine hK.out _ _ (E4.ra AL) (fun hHeld => ?_)
   clear hK K
   refine wpAnyH_ready (rs := [6]) (by kernel_rfl) (by simp) (AllReadyH.cons (o := { dst := some 21, op := Op.binOp BinOp.or 3 (Operand.tmp 16) (Operand.tmp 20) 3, type := 3, pos := "l06_point.go:90", after := #[{ on := 1, ground := Ground.data }, { on := 5, ground := Ground.data }], guard := none }) rfl (fun K hK => ?_) AllReadyH.nil)
   go_simp
   refine hK.out _ _ (E4.ra AL) (fun hHeld => ?_)
   clear hK K
   refine wpAnyH_take (i := 7) (oi := qOhy0) (v := .pointer (some ⟨Xm, 15, none⟩)) rfl (by kernel_rfl) (by kernel_rfl) (by kernel_rfl) (fun _ _ _ h => h) (.inl ⟨by rfl, fun _ _ => by kernel_rfl⟩) (by assumption) ?_
   simp only [Act.put, List.setIfInBounds_toArray, List.set_cons_zero, List.set_cons_succ]
   refine wpAnyH_ready (rs := [8]) (by kernel_rfl) (by simp) (AllReadyH.cons (o := qOhy1) rfl (fun K hK => ?_) AllReadyH.nil)
   have c15 : ∃ u, y4.cell? ⟨Xm, 15, none⟩ = some u := ⟨_, Am.i64 15 (by omega)⟩
   obtain ⟨u15, c15⟩ := c15
   have hfz := Am.frozen 15
   go_simp
   obtain ⟨V5, hVe⟩ : ∃ V, V = y4.setCell ⟨Xm, 15, none⟩ (.int .i64 (t + b * 32768)) := ⟨_, rfl⟩
   rw [← hVe]
   replace fr : Below w.heap.size w V5 := by rw [hVe]; exact fr.setCell (p := ⟨Xm, 15, none⟩) (by show w.heap.size ≤ Xm; omega) _
   replace pa : Arr V5 w.heap.size 60 ([.slice a1 n1 c1, .slice b1 m1 d1]) := by rw [hVe]; exact pa.other ⟨Xm, 15, none⟩ _ (by show w.heap.size ≠ Xm; omega)
   replace vP : Vr V5 6 (I64 PL) := by rw [hVe]; exact vP.other ⟨Xm, 15, none⟩ _ (by show 6 ≠ Xm; omega)
   replace vD : Vr V5 7 (I64 DL) := by rw [hVe]; exact vD.other ⟨Xm, 15, none⟩ _ (by show 7 ≠ Xm; omega)
   replace AL : Arr V5 XL 92 (I64 P.cells) := by rw [hVe]; exact AL.other ⟨Xm, 15, none⟩ _ (by show XL ≠ Xm; omega)
   replace Am : Arr V5 Xm 81 (I64 M) := by rw [hVe, ← hMe.out]; exact Am.set 15 _
   clear hVe c15 hfz
   refine hK.out _ _ (E4.ra AL) (fun hHeld => ?_)
   clear hK K
   refine wpAnyH_done (by kernel_rfl) ?_ _
   go_wp2_with (refine wpList_load_row rfl 81 _ rfl Xm rfl 81 (I64 M).toArray (0, 0) _ Am Tryd.underlying81 rfl jM ?_)
   have hszz := fr.size
   refine (HT.out _).mono ?_
   rintro e y6 ⟨v, rfl, ob, hb6⟩
   replace fr := fr.trans (hb6.mono fr.size)
   replace pa := pa.kept hb6
   replace vP := vP.kept hb6
   replace vD := vD.kept hb6
   replace AL := AL.kept hb6
   replace Am := Am.kept hb6
   clear hb6
   go_wp2
   go_ret
   exact ⟨_, rfl, by rw [hTy.out, hlen.out]; exact own_base ob (by omega), fr⟩
  ·skip
   go_simp
   refine (HB.out _).mono ?_
   rintro e y7 ⟨rfl, hb7⟩
   replace fr := fr.trans (hb7.mono fr.size)
   replace pa := pa.kept hb7
   replace vP := vP.kept hb7
   replace vD := vD.kept hb7
   replace AL := AL.kept hb7
   replace Am := Am.kept hb7
   clear hb7
   go_wp2_with fail
   refine hK.out _ _ (E4.ra AL) (fun hHeld => ?_)
   clear hK K
   refine wpAnyH_ready (rs := [1, 5]) (by kernel_rfl) (by simp) (AllReadyH.cons (o := { dst := some 16, op := Op.load 3 (Operand.tmp 15), type := 3, pos := "l06_point.go:90", after := #[{ on := 0, ground := Ground.data }], guard := none }) rfl (fun K hK => ?_) (AllReadyH.cons (o := { dst := some 20, op := Op.binOp BinOp.shl 3 (Operand.tmp 19) (Operand.const (Value.int IntKind.u64 15)) 48, type := 3, pos := "l06_point.go:90", after := #[{ on := 4, ground := Ground.data }], guard := none }) rfl (fun K hK => ?_) AllReadyH.nil))
   ·skip
    have c15 : y7.cell? ⟨Xm, 15, none⟩ = some (.int .i64 t) := by have := Am.i64 15 (by omega); rw [ht2.out] at this; exact this
    go_simp
    clear c15
    refine hK.out _ _ (E4.ra AL) (fun hHeld => ?_)
    clear hK K
    refine wpAnyH_ready (rs := [5]) (by kernel_rfl) (by simp) (AllReadyH.cons (o := { dst := some 20, op := Op.binOp BinOp.shl 3 (Operand.tmp 19) (Operand.const (Value.int IntKind.u64 15)) 48, type := 3, pos := "l06_point.go:90", after := #[{ on := 4, ground := Ground.data }], guard := none }) rfl (fun K hK => ?_) AllReadyH.nil)
    go_simp
    refine hK.out _ _ (E4.ra AL) (fun hHeld => ?_)
    clear hK K
    refine wpAnyH_ready (rs := [6]) (by kernel_rfl) (by simp) (AllReadyH.cons (o := { dst := some 21, op := Op.binOp BinOp.or 3 (Operand.tmp 16) (Operand.tmp 20) 3, type := 3, pos := "l06_point.go:90", after := #[{ on := 1, ground := Ground.data }, { on := 5, ground := Ground.data }], guard := none }) rfl (fun K hK => ?_) AllReadyH.nil)
    go_simp
    refine hK.out _ _ (E4.ra AL) (fun hHeld => ?_)
    clear hK K
    refine wpAnyH_take (i := 7) (oi := qOhy0) (v := .pointer (some ⟨Xm, 15, none⟩)) rfl (by kernel_rfl) (by kernel_rfl) (by kernel_rfl) (fun _ _ _ h => h) (.inl ⟨by rfl, fun _ _ => by kernel_rfl⟩) (by assumption) ?_
    simp only [Act.put, List.setIfInBounds_toArray, List.set_cons_zero, List.set_cons_succ]
    refine wpAnyH_ready (rs := [8]) (by kernel_rfl) (by simp) (AllReadyH.cons (o := qOhy1) rfl (fun K hK => ?_) AllReadyH.nil)
    have c15 : ∃ u, y7.cell? ⟨Xm, 15, none⟩ = some u := ⟨_, Am.i64 15 (by omega)⟩
    obtain ⟨u15, c15⟩ := c15
    have hfz := Am.frozen 15
    go_simp
    obtain ⟨V8, hVe⟩ : ∃ V, V = y7.setCell ⟨Xm, 15, none⟩ (.int .i64 (t + b * 32768)) := ⟨_, rfl⟩
    rw [← hVe]
    replace fr : Below w.heap.size w V8 := by rw [hVe]; exact fr.setCell (p := ⟨Xm, 15, none⟩) (by show w.heap.size ≤ Xm; omega) _
    replace pa : Arr V8 w.heap.size 60 ([.slice a1 n1 c1, .slice b1 m1 d1]) := by rw [hVe]; exact pa.other ⟨Xm, 15, none⟩ _ (by show w.heap.size ≠ Xm; omega)
    replace vP : Vr V8 6 (I64 PL) := by rw [hVe]; exact vP.other ⟨Xm, 15, none⟩ _ (by show 6 ≠ Xm; omega)
    replace vD : Vr V8 7 (I64 DL) := by rw [hVe]; exact vD.other ⟨Xm, 15, none⟩ _ (by show 7 ≠ Xm; omega)
    replace AL : Arr V8 XL 92 (I64 P.cells) := by rw [hVe]; exact AL.other ⟨Xm, 15, none⟩ _ (by show XL ≠ Xm; omega)
    replace Am : Arr V8 Xm 81 (I64 M) := by rw [hVe, ← hMe.out]; exact Am.set 15 _
    clear hVe c15 hfz
    refine hK.out _ _ (E4.ra AL) (fun hHeld => ?_)
    clear hK K
    refine wpAnyH_done (by kernel_rfl) ?_ _
    go_wp2_with (refine wpList_load_row rfl 81 _ rfl Xm rfl 81 (I64 M).toArray (0, 0) _ Am Tryd.underlying81 rfl jM ?_)
    have hszz := fr.size
    refine (HT.out _).mono ?_
    rintro e y9 ⟨v, rfl, ob, hb9⟩
    replace fr := fr.trans (hb9.mono fr.size)
    replace pa := pa.kept hb9
    replace vP := vP.kept hb9
    replace vD := vD.kept hb9
    replace AL := AL.kept hb9
    replace Am := Am.kept hb9
    clear hb9
    go_wp2
    go_ret
    exact ⟨_, rfl, by rw [hTy.out, hlen.out]; exact own_base ob (by omega), fr⟩
   ·skip
    go_simp
    refine hK.out _ _ (E4.ra AL) (fun hHeld => ?_)
    clear hK K
    refine wpAnyH_ready (rs := [1]) (by kernel_rfl) (by simp) (AllReadyH.cons (o := { dst := some 16, op := Op.load 3 (Operand.tmp 15), type := 3, pos := "l06_point.go:90", after := #[{ on := 0, ground := Ground.data }], guard := none }) rfl (fun K hK => ?_) AllReadyH.nil)
    have c15 : y7.cell? ⟨Xm, 15, none⟩ = some (.int .i64 t) := by have := Am.i64 15 (by omega); rw [ht2.out] at this; exact this
    go_simp
    clear c15
    refine hK.out _ _ (E4.ra AL) (fun hHeld => ?_)
    clear hK K
    refine wpAnyH_ready (rs := [6]) (by kernel_rfl) (by simp) (AllReadyH.cons (o := { dst := some 21, op := Op.binOp BinOp.or 3 (Operand.tmp 16) (Operand.tmp 20) 3, type := 3, pos := "l06_point.go:90", after := #[{ on := 1, ground := Ground.data }, { on := 5, ground := Ground.data }], guard := none }) rfl (fun K hK => ?_) AllReadyH.nil)
    go_simp
    refine hK.out _ _ (E4.ra AL) (fun hHeld => ?_)
    clear hK K
    refine wpAnyH_take (i := 7) (oi := qOhy0) (v := .pointer (some ⟨Xm, 15, none⟩)) rfl (by kernel_rfl) (by kernel_rfl) (by kernel_rfl) (fun _ _ _ h => h) (.inl ⟨by rfl, fun _ _ => by kernel_rfl⟩) (by assumption) ?_
    simp only [Act.put, List.setIfInBounds_toArray, List.set_cons_zero, List.set_cons_succ]
    refine wpAnyH_ready (rs := [8]) (by kernel_rfl) (by simp) (AllReadyH.cons (o := qOhy1) rfl (fun K hK => ?_) AllReadyH.nil)
    have c15 : ∃ u, y7.cell? ⟨Xm, 15, none⟩ = some u := ⟨_, Am.i64 15 (by omega)⟩
    obtain ⟨u15, c15⟩ := c15
    have hfz := Am.frozen 15
    go_simp
    obtain ⟨V10, hVe⟩ : ∃ V, V = y7.setCell ⟨Xm, 15, none⟩ (.int .i64 (t + b * 32768)) := ⟨_, rfl⟩
    rw [← hVe]
    replace fr : Below w.heap.size w V10 := by rw [hVe]; exact fr.setCell (p := ⟨Xm, 15, none⟩) (by show w.heap.size ≤ Xm; omega) _
    replace pa : Arr V10 w.heap.size 60 ([.slice a1 n1 c1, .slice b1 m1 d1]) := by rw [hVe]; exact pa.other ⟨Xm, 15, none⟩ _ (by show w.heap.size ≠ Xm; omega)
    replace vP : Vr V10 6 (I64 PL) := by rw [hVe]; exact vP.other ⟨Xm, 15, none⟩ _ (by show 6 ≠ Xm; omega)
    replace vD : Vr V10 7 (I64 DL) := by rw [hVe]; exact vD.other ⟨Xm, 15, none⟩ _ (by show 7 ≠ Xm; omega)
    replace AL : Arr V10 XL 92 (I64 P.cells) := by rw [hVe]; exact AL.other ⟨Xm, 15, none⟩ _ (by show XL ≠ Xm; omega)
    replace Am : Arr V10 Xm 81 (I64 M) := by rw [hVe, ← hMe.out]; exact Am.set 15 _
    clear hVe c15 hfz
    refine hK.out _ _ (E4.ra AL) (fun hHeld => ?_)
    clear hK K
    refine wpAnyH_done (by kernel_rfl) ?_ _
    go_wp2_with (refine wpList_load_row rfl 81 _ rfl Xm rfl 81 (I64 M).toArray (0, 0) _ Am Tryd.underlying81 rfl jM ?_)
    have hszz := fr.size
    refine (HT.out _).mono ?_
    rintro e y11 ⟨v, rfl, ob, hb11⟩
    replace fr := fr.trans (hb11.mono fr.size)
    replace pa := pa.kept hb11
    replace vP := vP.kept hb11
    replace vD := vD.kept hb11
    replace AL := AL.kept hb11
    replace Am := Am.kept hb11
    clear hb11
    go_wp2
    go_ret
    exact ⟨_, rfl, by rw [hTy.out, hlen.out]; exact own_base ob (by omega), fr⟩

end Go.Proofs.YtihoaakbkffejaaDoor
