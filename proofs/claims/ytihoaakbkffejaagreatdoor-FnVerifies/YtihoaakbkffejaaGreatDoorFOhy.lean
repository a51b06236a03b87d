/-
  What is proved here: the contract of the program's PtBytes; contracts of the program's generic functions that turn a word of 64 bits; the contract of the program's shaBlockWordsOf at words of 64 bits: the; contracts of the program's generic functions shaTurn, shaShift and.
-/
import Derived.Test.YtihoaakbkffejaaGreatDoorFJio
import Derived.Test.YtihoaakbkffejaaGreatDoorFJg
import Derived.Test.YtihoaakbkffejaaGreatDoorFJrd
import Derived.Test.YtihoaakbkffejaaGreatDoorFJn
import Derived.Test.YtihoaakbkffejaaGreatDoorFKe
import Derived.Deep.QuietTactic
import Derived.BigQuiet
import Derived.Deep.Light
import Derived.Deep.RegionWith
import Derived.Test.YtihoaakbkffejaaGreatDoorProg
import Derived.Test.YtihoaakbkffejaaGreatDoorFFsc
import Derived.Laws.MakeOwn
import Derived.Deep.RegionHeld3
import Derived.BigRegion
namespace Go.Proofs.YtihoaakbkffejaaGreatDoor
open Go.RowKit
set_option maxRecDepth 100000
abbrev qOhy0 : Oper := { dst := some 22, op := Op.indexAddr 65 (Operand.tmp 5) (Operand.const (Value.int IntKind.i64 15)), type := 0, pos := "l06_point.go:90", after := #[{ on := 0, ground := Ground.phase }, { on := 1, ground := Ground.phase }, { on := 2, ground := Ground.phase }, { on := 3, ground := Ground.phase }, { on := 4, ground := Ground.phase }, { on := 5, ground := Ground.phase }, { on := 6, ground := Ground.phase }], guard := none }
abbrev qOhy1 : Oper := { dst := none, op := Op.store 3 (Operand.tmp 22) (Operand.tmp 21), type := 0, pos := "l06_point.go:90", after := #[{ on := 7, ground := Ground.data }, { on := 6, ground := Ground.data }, { on := 4, ground := Ground.chain }, { on := 0, ground := Ground.phase }, { on := 1, ground := Ground.phase }, { on := 2, ground := Ground.phase }, { on := 3, ground := Ground.phase }, { on := 4, ground := Ground.phase }, { on := 5, ground := Ground.phase }, { on := 6, ground := Ground.phase }], guard := none }

def mkd (x y : List Int) : List Int := y.set 15 (y.getD 15 0 + x.getD 0 0 % 2 * 32768)
theorem mkd_len {x y : List Int} (h : y.length = 16) : (mkd x y).length = 16 := by simp [mkd, h]
theorem or_mark {t p : Int} (h0 : 0 ≤ t) (h1 : t < 32768) (p0 : 0 ≤ p) (p1 : p ≤ 1) : bits .or .i64 t (p * 32768) = t + p * 32768 := by
 have := bits_join .i64 63 (by decide) (fun n a b => by rw [IntKind.wrap_i64]; omega) 15 (p * 32768) t (by omega) (by omega) (by omega) h0 (by omega) (by omega)
 have hc : bits .or .i64 t (p * 32768) = bits .or .i64 (p * 32768) t := by unfold bits; simp only [BitVec.or_comm]
 rw [hc, this]; omega
theorem y15_lt {y : List Int} (h : feOk y = true) : 0 ≤ y.getD 15 0 ∧ y.getD 15 0 < 32768 := by
 obtain ⟨h1, h2, h3⟩ := (feOk_iff y).1 h
 have h15 := gD_lm h2 15
 have h0 := val_nonneg (l := y.take 15) (fun x hx => (h2 x (List.mem_of_mem_take hx)).1)
 rw [val_last h1, p240] at h3
 unfold P25519 at h3
 omega
theorem mkd_lm {x y : List Int} (h : feOk y = true) : Lm (mkd x y) := by
 have hy := y15_lt h
 intro v hv
 rcases List.mem_or_eq_of_mem_set hv with h1 | rfl
 ·exact feOk_lm' h v h1
 ·omega
theorem btL_mkd {x y : List Int} (h : feOk y = true) : btL (mkd x y) = ptBt x y := by
 have hl := feOk_len h
 have hy := y15_lt h
 have e1 := btL_snoc y 15 (by omega)
 have e2 := btL_snoc (mkd x y) 15 (by rw [mkd_len hl]; omega)
 rw [List.take_of_length_le (by omega)] at e1
 rw [List.take_of_length_le (by rw [mkd_len hl]; omega)] at e2
 have e3 : (mkd x y).take 15 = y.take 15 := by unfold mkd; rw [List.take_set_of_le (by omega)]
 have e4 : (mkd x y).getD 15 0 = y.getD 15 0 + x.getD 0 0 % 2 * 32768 := by unfold mkd; simp [List.getD, hl]
 have e5 : (btL (y.take 15)).length = 30 := by rw [btL_len]; simp [hl]
 rw [e2, e3, e4]
 unfold ptBt
 have e6 : (btL y).getD 31 0 = y.getD 15 0 / 256 := (btL_get y 15 (by omega)).2
 rw [e6, e1, List.set_append_right _ _ (by omega), e5]
 congr 1
 have a1 : (y.getD 15 0 + x.getD 0 0 % 2 * 32768) % 256 = y.getD 15 0 % 256 := by omega
 have a2 : (y.getD 15 0 + x.getD 0 0 % 2 * 32768) / 256 = y.getD 15 0 / 256 + x.getD 0 0 % 2 * 128 := by omega
 rw [a1, a2]
 rfl

set_option maxHeartbeats 8000000 in
theorem implPtBytes (a1 : Option Addr) (n1 c1 : Nat) (xs1 : List Int) (b1 : Option Addr) (m1 d1 : Nat) (ys1 : List Int) (w : World) (hx1 : Is w a1 n1 c1 xs1) (hy1 : Is w b1 m1 d1 ys1) (hV : Vr w 4 (I64 PL)) (hD : Vr w 5 (I64 DL)) :
  Calls Tryz.prog 10 #[.agg #[.slice a1 n1 c1, .slice b1 m1 d1]] w fun e w' => ∃ v, e = .returned v ∧ w'.ownsRow w.heap.size 5 1 v (ptBF xs1 ys1).length (U8 (ptBF xs1 ys1)) ∧ Below w.heap.size w w' := by
 obtain ⟨p, hp⟩ : ∃ p, p = ptOk xs1 ys1 := ⟨_, rfl⟩
 obtain ⟨L, hL⟩ : ∃ l, l = opL xs1 ys1 := ⟨_, rfl⟩
 obtain ⟨P, hP⟩ : ∃ P, P = mk6 xs1 ys1 := ⟨_, rfl⟩
 have HO1 : Hid (∀ Z, Below w.heap.size w Z → Vr Z 4 (I64 PL) → Vr Z 5 (I64 DL) → Calls Tryz.prog 41 #[.agg #[.slice a1 n1 c1, .slice b1 m1 d1]] Z fun e w' => e = .returned (.tuple #[.agg (I64 L).toArray, .bool p]) ∧ Below Z.heap.size Z w') := by
  unfold Hid; intro Z hZ h1 h2; rw [hL, hp]; exact implPtOpen a1 n1 c1 xs1 b1 m1 d1 ys1 Z (hx1.below hZ) (hy1.below hZ) h1 h2
 have nL : L.length = 64 := by rw [hL]; exact opL_len _ _
 have iL : (Tryz.prog.info? 67).map (·.size) = some (I64 L).toArray.size := by simpa [nL] using infoLp
 have HLL : Hid (p = true → L = P.cells ∧ P.Ok) := by
  unfold Hid; intro h; rw [hp] at h; obtain ⟨k1, k2, _⟩ := (ptOk_iff _ _).1 h; rw [hL, hP]; unfold opL; rw [if_pos h]; exact ⟨rfl, mk6_ok k1 k2⟩
 obtain ⟨T, hT⟩ : ∃ T, T = ptBF xs1 ys1 := ⟨_, rfl⟩
 have HN : Hid (p = false → T = []) := by unfold Hid; intro h; rw [hp] at h; rw [hT]; unfold ptBF; rw [h]; rfl
 have HY : Hid (p = true → T = btL (mkd P.a P.b)) := by
  unfold Hid; intro h; rw [hp] at h; obtain ⟨k1, k2, _⟩ := (ptOk_iff _ _).1 h; rw [hT, hP]; unfold ptBF; rw [if_pos h, (flat_mk k1 k2).1, (flat_mk k1 k2).2]; exact (btL_mkd k2).symm
 rw [← hT]
 obtain ⟨W, hW⟩ : ∃ W, W = w.alloc (.cells #[.slice a1 n1 c1, .slice b1 m1 d1] 33) := ⟨_, rfl⟩
 have fr : Below w.heap.size w W := by rw [hW]; exact ((Below.refl _ _).alloc (Nat.le_refl _) _)
 have pa : Arr W w.heap.size 33 ([.slice a1 n1 c1, .slice b1 m1 d1]) := by
  rw [hW]
  have := Arr.new (w) ([.slice a1 n1 c1, .slice b1 m1 d1]) 33
  exact this
 have h0P := hV.lt
 have vP := hV.kept fr
 have h0D := hD.lt
 have vD := hD.kept fr
 clear hV hD
 clear hT hp hL hP hx1 hy1
 go_enter Tryz.func10, Tryz.ntmps10
 go_upto_region 1 with fail
 rw [← hW]
 clear hW
 go_wp2_with (refine wpList_load_row rfl 33 _ rfl w.heap.size rfl 33 ([Value.slice a1 n1 c1,  Value.slice b1 m1 d1]).toArray (0, 0) _ pa Tryz.underlying33 rfl infoPt ?_)
 refine (HO1.out _ fr vP vD).mono ?_
 rintro e y1 ⟨rfl, hb1⟩
 replace fr := fr.trans (hb1.mono fr.size)
 replace pa := pa.kept hb1
 replace vP := vP.kept hb1
 replace vD := vD.kept hb1
 clear hb1
 have hXL : w.heap.size < y1.heap.size ∧ w.heap.size ≤ y1.heap.size := ⟨pa.lt, fr.size⟩
 obtain ⟨bV, AL, q1⟩ := laid_lp y1 L
 replace fr := fr.trans (bV.mono fr.size)
 replace pa := pa.kept bV
 replace vP := vP.kept bV
 replace vD := vD.kept bV
 go_upto_region 2 with (refine wpList_store_row rfl 67 _ _ rfl y1.heap.size (I64 L).toArray rfl rfl 67 _ q1 iL (by simp [nL]) (by simp [Value.oneCell']) ?_)
 obtain ⟨V2, hVV⟩ : ∃ V, V = (y1.alloc (.cells #[.int .i64 0, .int .i64 0, .int .i64 0, .int .i64 0, .int .i64 0, .int .i64 0, .int .i64 0, .int .i64 0, .int .i64 0, .int .i64 0, .int .i64 0, .int .i64 0, .int .i64 0, .int .i64 0, .int .i64 0, .int .i64 0, .int .i64 0, .int .i64 0, .int .i64 0, .int .i64 0, .int .i64 0, .int .i64 0, .int .i64 0, .int .i64 0, .int .i64 0, .int .i64 0, .int .i64 0, .int .i64 0, .int .i64 0, .int .i64 0, .int .i64 0, .int .i64 0, .int .i64 0, .int .i64 0, .int .i64 0, .int .i64 0, .int .i64 0, .int .i64 0, .int .i64 0, .int .i64 0, .int .i64 0, .int .i64 0, .int .i64 0, .int .i64 0, .int .i64 0, .int .i64 0, .int .i64 0, .int .i64 0, .int .i64 0, .int .i64 0, .int .i64 0, .int .i64 0, .int .i64 0, .int .i64 0, .int .i64 0, .int .i64 0, .int .i64 0, .int .i64 0, .int .i64 0, .int .i64 0, .int .i64 0, .int .i64 0, .int .i64 0, .int .i64 0] 67)).setRow y1.heap.size (I64 L).toArray := ⟨_, rfl⟩
 obtain ⟨XL, hE⟩ : ∃ E, E = y1.heap.size := ⟨_, rfl⟩
 rw [← hVV] at fr pa vP vD AL ⊢
 rw [← hE] at AL hXL ⊢
 clear hVV hE q1 bV
 cases p with
 | false =>
  have hTn : Hid (T = []) := HN.out (by simp)
  go_wp2
  go_ret
  exact ⟨_, rfl, by rw [hTn.out]; exact World.ownsRow_nil _ _ _ _, fr⟩
 | true =>
  obtain ⟨eL, hPo⟩ := HLL.out (by simp)
  subst eL
  have hTy : Hid (T = btL (mkd P.a P.b)) := HY.out (by simp)
  have kb := hPo.b
  obtain ⟨y, hy⟩ : ∃ y, y = P.b := ⟨_, rfl⟩
  have jPb := infoL' kb
  have iiPb := infoLl kb
  have nPb := feOk_len kb
  have uPb := one_lm P.b
  have iPa := infoLl hPo.a
  obtain ⟨b, hb⟩ : ∃ b, b = P.a.getD 0 0 % 2 := ⟨_, rfl⟩
  have hb0 : 0 ≤ b := by omega
  have hb1 : b ≤ 1 := by omega
  have HB : Hid (∀ Z, Calls Tryz.prog 42 #[.agg (I64 P.a).toArray, .int .i64 0] Z fun e w' => e = .returned (.int .i64 b) ∧ Below Z.heap.size Z w') := by
   unfold Hid; intro Z; have := implBit P.a 0 Z (feOk_len hPo.a) (feOk_lm' hPo.a) (by omega); simpa [hb] using this
  obtain ⟨t, ht⟩ : ∃ t, t = P.b.getD 15 0 := ⟨_, rfl⟩
  have ht0 := y15_lt kb
  rw [← ht] at ht0
  obtain ⟨M, hM⟩ : ∃ M, M = mkd P.a P.b := ⟨_, rfl⟩
  have hMe : Hid ((I64 P.b).set 15 (.int .i64 (t + b * 32768)) = I64 M) := by unfold Hid; rw [hM, ht, hb]; unfold mkd; simp only [I64, List.map_set]
  have nM : M.length = 16 := by rw [hM]; exact mkd_len (feOk_len kb)
  have lM : Lm M := by rw [hM]; exact mkd_lm kb
  have jM : (Tryz.prog.info? 65).map (·.size) = some (I64 M).toArray.size := by simpa [nM] using infoL
  rw [← hM] at hTy
  have HT : Hid (∀ Z, Calls Tryz.prog 43 #[.agg (I64 M).toArray] Z fun e w' => ∃ v, e = .returned v ∧ w'.ownsRow Z.heap.size 5 1 v 32 (U8 (btL M)) ∧ Below Z.heap.size Z w') := by
   unfold Hid; intro Z; exact implBytes M Z nM lM
  have hlen : Hid ((btL M).length = 32) := by unfold Hid; rw [btL_len, nM]
  have ht2 : Hid (P.b.getD 15 0 = t) := ht.symm
  have hsh : IntKind.i64.wrap (b * 32768) = b * 32768 := by rw [IntKind.wrap_i64]; omega
  have hor := or_mark ht0.1 ht0.2 hb0 hb1
  have hw : IntKind.i64.wrap (t + b * 32768) = t + b * 32768 := by rw [IntKind.wrap_i64]; omega
  have hu : Tryz.prog.underlying 65 = some (.array 16 3) := Tryz.underlying65
  clear hM hb ht hy
  go_upto_region 4 with fail
  have rb := E4.rb hPo AL
  have hXm : w.heap.size < V2.heap.size ∧ XL < V2.heap.size ∧ w.heap.size ≤ V2.heap.size := ⟨pa.lt, AL.lt, fr.size⟩
  obtain ⟨bV, Am, q1⟩ := laid_lm V2 P.b
  replace fr := fr.trans (bV.mono fr.size)
  replace pa := pa.kept bV
  replace vP := vP.kept bV
  replace vD := vD.kept bV
  replace AL := AL.kept bV
  go_upto_region 5 with (first
    | (refine wpList_load_mid rfl 65 _ rfl XL 16 rfl (I64 P.b) _ rb Tryz.underlying65 rfl iiPb ?_)
    | (refine wpList_store_row rfl 65 _ _ rfl V2.heap.size (I64 P.b).toArray rfl rfl 65 _ q1 jPb (by simp [nPb]) (by simp [Value.oneCell']) ?_))
  obtain ⟨V9, hVV⟩ : ∃ V, V = (V2.alloc (.cells zV 65)).setRow V2.heap.size (I64 P.b).toArray := ⟨_, rfl⟩
  obtain ⟨Xm, hE⟩ : ∃ E, E = V2.heap.size := ⟨_, rfl⟩
  rw [← hVV] at fr pa vP vD AL Am ⊢
  rw [← hE] at Am hXm ⊢
  clear hVV hE q1 bV rb
  try simp only [Act.put]
  have bD : Below V9.heap.size V9 V9.drew := (Below.refl _ _).drew
  replace fr := fr.trans (bD.mono fr.size)
  replace pa := pa.kept bD
  replace vP := vP.kept bD
  replace vD := vD.kept bD
  replace AL := AL.kept bD
  replace Am := Am.kept bD
  clear bD
  refine wp_region_held_drew (S := fun W => W.rangeAt XL 0 (I64 P.a)) (by kernel_rfl) (E4.ra AL) (fun hHeld => ?_)
  obtain ⟨D3, hD⟩ : ∃ V, V = V9.drew := ⟨_, rfl⟩
  rw [← hD] at hHeld fr pa vP vD AL Am ⊢
  clear hD
  refine wpAnyH_take (i := 0) (oi := { dst := some 15, op := Op.indexAddr 65 (Operand.tmp 5) (Operand.const (Value.int IntKind.i64 15)), type := 0, pos := "l06_point.go:90", after := #[], guard := none }) (v := .pointer (some ⟨Xm, 15, none⟩)) rfl (by kernel_rfl) (by kernel_rfl) (by kernel_rfl) (fun _ _ _ h => h) (.inl ⟨by rfl, fun _ _ => by kernel_rfl⟩) (by assumption) ?_
  simp only [aP]
  refine wpAnyH_take (i := 2) (oi := { dst := some 17, op := Op.fieldAddr 67 (Operand.tmp 3) 0, type := 0, pos := "l06_point.go:90", after := #[], guard := none }) (v := .pointer (some ⟨XL, 0, none⟩)) rfl (by kernel_rfl) (by kernel_rfl) (by kernel_rfl) (fun _ _ _ h => h) (.inl ⟨by rfl, fun _ _ => by rfl⟩) (by assumption) ?_
  simp only [aP]
  refine wpAnyH_take (i := 3) (oi := { dst := some 18, op := Op.load 65 (Operand.tmp 17), type := 65, pos := "l06_point.go:90", after := #[{ on := 2, ground := Ground.data }], guard := none }) (v := _) rfl (by kernel_rfl) (by kernel_rfl) (by kernel_rfl) (fun _ _ _ h => h) (yieldsIf_load_mid (by rfl) _ _ rfl _ _ rfl (I64 P.a) _ (fun _ h => h) hu rfl iPa) (by assumption) ?_
  simp only [aP]
  refine wpAnyH_ready (rs := [1, 4]) (by kernel_rfl) (by simp) (AllReadyH.cons (o := { dst := some 16, op := Op.load 3 (Operand.tmp 15), type := 3, pos := "l06_point.go:90", after := #[{ on := 0, ground := Ground.data }], guard := none }) rfl (fun K hK => ?_) (AllReadyH.cons (o := { dst := some 19, op := Op.call { callee := Callee.value (Operand.func 42), args := #[Operand.tmp 18, Operand.const (Value.int IntKind.i64 0)], argTypes := #[65, 3] }, type := 3, pos := "l06_point.go:90", after := #[{ on := 3, ground := Ground.data }], guard := none }) rfl (fun K hK => ?_) AllReadyH.nil))
  ·skip
   have c15 : D3.cell? ⟨Xm, 15, none⟩ = some (.int .i64 t) := by have := Am.i64 15 (by omega); rw [ht2.out] at this; exact this
   go_simp
   clear c15
   refine hK.out _ _ (E4.ra AL) (fun hHeld => ?_)
   clear hK K
   refine wpAnyH_ready (rs := [4]) (by kernel_rfl) (by simp) (AllReadyH.cons (o := { dst := some 19, op := Op.call { callee := Callee.value (Operand.func 42), args := #[Operand.tmp 18, Operand.const (Value.int IntKind.i64 0)], argTypes := #[65, 3] }, type := 3, pos := "l06_point.go:90", after := #[{ on := 3, ground := Ground.data }], guard := none }) rfl (fun K hK => ?_) AllReadyH.nil)
   go_simp
   refine (HB.out _).mono ?_
   rintro e y4 ⟨rfl, hb4⟩
   replace fr := fr.trans (hb4.mono fr.size)
   replace pa := pa.kept hb4
   replace vP := vP.kept hb4
   replace vD := vD.kept hb4
   replace AL := AL.kept hb4
   replace Am := Am.kept hb4
   clear hb4
   go_wp2_with fail
   refine hK.out _ _ (E4.ra AL) (fun hHeld => ?_)
   clear hK K
   refine wpAnyH_ready (rs := [5]) (by kernel_rfl) (by simp) (AllReadyH.cons (o := { dst := some 20, op := Op.binOp BinOp.shl 3 (Operand.tmp 19) (Operand.const (Value.int IntKind.u64 15)) 71, type := 3, pos := "l06_point.go:90", after := #[{ on := 4, ground := Ground.data }], guard := none }) rfl (fun K hK => ?_) AllReadyH.nil)
   go_simp
   refine hK.out _ _ (E4.ra AL) (fun hHeld => ?_)
   clear hK K
   refine wpAnyH_ready (rs := [6]) (by kernel_rfl) (by simp) (AllReadyH.cons (o := { dst := some 21, op := Op.binOp BinOp.or 3 (Operand.tmp 16) (Operand.tmp 20) 3, type := 3, pos := "l06_point.go:90", after := #[{ on := 1, ground := Ground.data }, { on := 5, ground := Ground.data }], guard := none }) rfl (fun K hK => ?_) AllReadyH.nil)
   go_simp
   refine hK.out _ _ (E4.ra AL) (fun hHeld => ?_)
   clear hK K
   refine wpAnyH_take (i := 7) (oi := qOhy0) (v := .pointer (some ⟨Xm, 15, none⟩)) rfl (by kernel_rfl) (by kernel_rfl) (by kernel_rfl) (fun _ _ _ h => h) (.inl ⟨by rfl, fun _ _ => by kernel_rfl⟩) (by assumption) ?_
   simp only [aP]
   refine wpAnyH_ready (rs := [8]) (by kernel_rfl) (by simp) (AllReadyH.cons (o := qOhy1) rfl (fun K hK => ?_) AllReadyH.nil)
   have c15 : ∃ u, y4.cell? ⟨Xm, 15, none⟩ = some u := ⟨_, Am.i64 15 (by omega)⟩
   obtain ⟨u15, c15⟩ := c15
   have hfz := Am.frozen 15
   go_simp
   obtain ⟨V5, hVe⟩ : ∃ V, V = y4.setCell ⟨Xm, 15, none⟩ (.int .i64 (t + b * 32768)) := ⟨_, rfl⟩
   rw [← hVe]
   replace fr : Below w.heap.size w V5 := by rw [hVe]; exact fr.setCell (p := ⟨Xm, 15, none⟩) (by show w.heap.size ≤ Xm; omega) _
   replace pa : Arr V5 w.heap.size 33 ([.slice a1 n1 c1, .slice b1 m1 d1]) := by rw [hVe]; exact pa.other ⟨Xm, 15, none⟩ _ (by show w.heap.size ≠ Xm; omega)
   replace vP : Vr V5 4 (I64 PL) := by rw [hVe]; exact vP.other ⟨Xm, 15, none⟩ _ (by show 4 ≠ Xm; omega)
   replace vD : Vr V5 5 (I64 DL) := by rw [hVe]; exact vD.other ⟨Xm, 15, none⟩ _ (by show 5 ≠ Xm; omega)
   replace AL : Arr V5 XL 67 (I64 P.cells) := by rw [hVe]; exact AL.other ⟨Xm, 15, none⟩ _ (by show XL ≠ Xm; omega)
   replace Am : Arr V5 Xm 65 (I64 M) := by rw [hVe, ← hMe.out]; exact Am.set 15 _
   clear hVe c15 hfz
   refine hK.out _ _ (E4.ra AL) (fun hHeld => ?_)
   clear hK K
   refine wpAnyH_done (by kernel_rfl) ?_ _
   go_wp2_with (refine wpList_load_row rfl 65 _ rfl Xm rfl 65 (I64 M).toArray (0, 0) _ Am Tryz.underlying65 rfl jM ?_)
   have hszz := fr.size
   refine (HT.out _).mono ?_
   rintro e y6 ⟨v, rfl, ob, hb6⟩
   replace fr := fr.trans (hb6.mono fr.size)
   replace pa := pa.kept hb6
   replace vP := vP.kept hb6
   replace vD := vD.kept hb6
   replace AL := AL.kept hb6
   replace Am := Am.kept hb6
   clear hb6
   go_wp2
   go_ret
   exact ⟨_, rfl, by rw [hTy.out, hlen.out]; exact own_base ob (by omega), fr⟩
  ·skip
   go_simp
   refine (HB.out _).mono ?_
   rintro e y7 ⟨rfl, hb7⟩
   replace fr := fr.trans (hb7.mono fr.size)
   replace pa := pa.kept hb7
   replace vP := vP.kept hb7
   replace vD := vD.kept hb7
   replace AL := AL.kept hb7
   replace Am := Am.kept hb7
   clear hb7
   go_wp2_with fail
   refine hK.out _ _ (E4.ra AL) (fun hHeld => ?_)
   clear hK K
   refine wpAnyH_ready (rs := [1, 5]) (by kernel_rfl) (by simp) (AllReadyH.cons (o := { dst := some 16, op := Op.load 3 (Operand.tmp 15), type := 3, pos := "l06_point.go:90", after := #[{ on := 0, ground := Ground.data }], guard := none }) rfl (fun K hK => ?_) (AllReadyH.cons (o := { dst := some 20, op := Op.binOp BinOp.shl 3 (Operand.tmp 19) (Operand.const (Value.int IntKind.u64 15)) 71, type := 3, pos := "l06_point.go:90", after := #[{ on := 4, ground := Ground.data }], guard := none }) rfl (fun K hK => ?_) AllReadyH.nil))
   ·skip
    have c15 : y7.cell? ⟨Xm, 15, none⟩ = some (.int .i64 t) := by have := Am.i64 15 (by omega); rw [ht2.out] at this; exact this
    go_simp
    clear c15
    refine hK.out _ _ (E4.ra AL) (fun hHeld => ?_)
    clear hK K
    refine wpAnyH_ready (rs := [5]) (by kernel_rfl) (by simp) (AllReadyH.cons (o := { dst := some 20, op := Op.binOp BinOp.shl 3 (Operand.tmp 19) (Operand.const (Value.int IntKind.u64 15)) 71, type := 3, pos := "l06_point.go:90", after := #[{ on := 4, ground := Ground.data }], guard := none }) rfl (fun K hK => ?_) AllReadyH.nil)
    go_simp
    refine hK.out _ _ (E4.ra AL) (fun hHeld => ?_)
    clear hK K
    refine wpAnyH_ready (rs := [6]) (by kernel_rfl) (by simp) (AllReadyH.cons (o := { dst := some 21, op := Op.binOp BinOp.or 3 (Operand.tmp 16) (Operand.tmp 20) 3, type := 3, pos := "l06_point.go:90", after := #[{ on := 1, ground := Ground.data }, { on := 5, ground := Ground.data }], guard := none }) rfl (fun K hK => ?_) AllReadyH.nil)
    go_simp
    refine hK.out _ _ (E4.ra AL) (fun hHeld => ?_)
    clear hK K
    refine wpAnyH_take (i := 7) (oi := qOhy0) (v := .pointer (some ⟨Xm, 15, none⟩)) rfl (by kernel_rfl) (by kernel_rfl) (by kernel_rfl) (fun _ _ _ h => h) (.inl ⟨by rfl, fun _ _ => by kernel_rfl⟩) (by assumption) ?_
    simp only [aP]
    refine wpAnyH_ready (rs := [8]) (by kernel_rfl) (by simp) (AllReadyH.cons (o := qOhy1) rfl (fun K hK => ?_) AllReadyH.nil)
    have c15 : ∃ u, y7.cell? ⟨Xm, 15, none⟩ = some u := ⟨_, Am.i64 15 (by omega)⟩
    obtain ⟨u15, c15⟩ := c15
    have hfz := Am.frozen 15
    go_simp
    obtain ⟨V8, hVe⟩ : ∃ V, V = y7.setCell ⟨Xm, 15, none⟩ (.int .i64 (t + b * 32768)) := ⟨_, rfl⟩
    rw [← hVe]
    replace fr : Below w.heap.size w V8 := by rw [hVe]; exact fr.setCell (p := ⟨Xm, 15, none⟩) (by show w.heap.size ≤ Xm; omega) _
    replace pa : Arr V8 w.heap.size 33 ([.slice a1 n1 c1, .slice b1 m1 d1]) := by rw [hVe]; exact pa.other ⟨Xm, 15, none⟩ _ (by show w.heap.size ≠ Xm; omega)
    replace vP : Vr V8 4 (I64 PL) := by rw [hVe]; exact vP.other ⟨Xm, 15, none⟩ _ (by show 4 ≠ Xm; omega)
    replace vD : Vr V8 5 (I64 DL) := by rw [hVe]; exact vD.other ⟨Xm, 15, none⟩ _ (by show 5 ≠ Xm; omega)
    replace AL : Arr V8 XL 67 (I64 P.cells) := by rw [hVe]; exact AL.other ⟨Xm, 15, none⟩ _ (by show XL ≠ Xm; omega)
    replace Am : Arr V8 Xm 65 (I64 M) := by rw [hVe, ← hMe.out]; exact Am.set 15 _
    clear hVe c15 hfz
    refine hK.out _ _ (E4.ra AL) (fun hHeld => ?_)
    clear hK K
    refine wpAnyH_done (by kernel_rfl) ?_ _
    go_wp2_with (refine wpList_load_row rfl 65 _ rfl Xm rfl 65 (I64 M).toArray (0, 0) _ Am Tryz.underlying65 rfl jM ?_)
    have hszz := fr.size
    refine (HT.out _).mono ?_
    rintro e y9 ⟨v, rfl, ob, hb9⟩
    replace fr := fr.trans (hb9.mono fr.size)
    replace pa := pa.kept hb9
    replace vP := vP.kept hb9
    replace vD := vD.kept hb9
    replace AL := AL.kept hb9
    replace Am := Am.kept hb9
    clear hb9
    go_wp2
    go_ret
    exact ⟨_, rfl, by rw [hTy.out, hlen.out]; exact own_base ob (by omega), fr⟩
   ·skip
    go_simp
    refine hK.out _ _ (E4.ra AL) (fun hHeld => ?_)
    clear hK K
    refine wpAnyH_ready (rs := [1]) (by kernel_rfl) (by simp) (AllReadyH.cons (o := { dst := some 16, op := Op.load 3 (Operand.tmp 15), type := 3, pos := "l06_point.go:90", after := #[{ on := 0, ground := Ground.data }], guard := none }) rfl (fun K hK => ?_) AllReadyH.nil)
    have c15 : y7.cell? ⟨Xm, 15, none⟩ = some (.int .i64 t) := by have := Am.i64 15 (by omega); rw [ht2.out] at this; exact this
    go_simp
    clear c15
    refine hK.out _ _ (E4.ra AL) (fun hHeld => ?_)
    clear hK K
    refine wpAnyH_ready (rs := [6]) (by kernel_rfl) (by simp) (AllReadyH.cons (o := { dst := some 21, op := Op.binOp BinOp.or 3 (Operand.tmp 16) (Operand.tmp 20) 3, type := 3, pos := "l06_point.go:90", after := #[{ on := 1, ground := Ground.data }, { on := 5, ground := Ground.data }], guard := none }) rfl (fun K hK => ?_) AllReadyH.nil)
    go_simp
    refine hK.out _ _ (E4.ra AL) (fun hHeld => ?_)
    clear hK K
    refine wpAnyH_take (i := 7) (oi := qOhy0) (v := .pointer (some ⟨Xm, 15, none⟩)) rfl (by kernel_rfl) (by kernel_rfl) (by kernel_rfl) (fun _ _ _ h => h) (.inl ⟨by rfl, fun _ _ => by kernel_rfl⟩) (by assumption) ?_
    simp only [aP]
    refine wpAnyH_ready (rs := [8]) (by kernel_rfl) (by simp) (AllReadyH.cons (o := qOhy1) rfl (fun K hK => ?_) AllReadyH.nil)
    have c15 : ∃ u, y7.cell? ⟨Xm, 15, none⟩ = some u := ⟨_, Am.i64 15 (by omega)⟩
    obtain ⟨u15, c15⟩ := c15
    have hfz := Am.frozen 15
    go_simp
    obtain ⟨V10, hVe⟩ : ∃ V, V = y7.setCell ⟨Xm, 15, none⟩ (.int .i64 (t + b * 32768)) := ⟨_, rfl⟩
    rw [← hVe]
    replace fr : Below w.heap.size w V10 := by rw [hVe]; exact fr.setCell (p := ⟨Xm, 15, none⟩) (by show w.heap.size ≤ Xm; omega) _
    replace pa : Arr V10 w.heap.size 33 ([.slice a1 n1 c1, .slice b1 m1 d1]) := by rw [hVe]; exact pa.other ⟨Xm, 15, none⟩ _ (by show w.heap.size ≠ Xm; omega)
    replace vP : Vr V10 4 (I64 PL) := by rw [hVe]; exact vP.other ⟨Xm, 15, none⟩ _ (by show 4 ≠ Xm; omega)
    replace vD : Vr V10 5 (I64 DL) := by rw [hVe]; exact vD.other ⟨Xm, 15, none⟩ _ (by show 5 ≠ Xm; omega)
    replace AL : Arr V10 XL 67 (I64 P.cells) := by rw [hVe]; exact AL.other ⟨Xm, 15, none⟩ _ (by show XL ≠ Xm; omega)
    replace Am : Arr V10 Xm 65 (I64 M) := by rw [hVe, ← hMe.out]; exact Am.set 15 _
    clear hVe c15 hfz
    refine hK.out _ _ (E4.ra AL) (fun hHeld => ?_)
    clear hK K
    refine wpAnyH_done (by kernel_rfl) ?_ _
    go_wp2_with (refine wpList_load_row rfl 65 _ rfl Xm rfl 65 (I64 M).toArray (0, 0) _ Am Tryz.underlying65 rfl jM ?_)
    have hszz := fr.size
    refine (HT.out _).mono ?_
    rintro e y11 ⟨v, rfl, ob, hb11⟩
    replace fr := fr.trans (hb11.mono fr.size)
    replace pa := pa.kept hb11
    replace vP := vP.kept hb11
    replace vD := vD.kept hb11
    replace AL := AL.kept hb11
    replace Am := Am.kept hb11
    clear hb11
    go_wp2
    go_ret
    exact ⟨_, rfl, by rw [hTy.out, hlen.out]; exact own_base ob (by omega), fr⟩

end Go.Proofs.YtihoaakbkffejaaGreatDoor
namespace Go.Proofs.YtihoaakbkffejaaGreatDoor
open Go.RowKit

set_option maxRecDepth 100000 in
set_option maxHeartbeats 1000000 in
theorem len64Cw (w : World) :
  Calls Tryz.prog 136 #[.int .u64 18446744073709551615] w fun e w' => e = .returned (.int .i64 64) ∧ w' = w := by
 go_enter Tryz.func136, Tryz.ntmps136
 go_wp2
 go_ret
 exact ⟨by kernel_rfl, rfl⟩

set_option maxHeartbeats 400000 in
theorem wordBytesw (w : World) :
  Calls Tryz.prog 110 #[] w fun e w' => e = .returned (.int .i64 8) ∧ w' = w := by
 go_enter Tryz.func110, Tryz.ntmps110
 go_wp2_with fail
 refine (len64Cw _).mono ?_
 rintro e w' ⟨rfl, rfl⟩
 go_wp2
 go_ret
 exact ⟨rfl, rfl⟩

set_option maxHeartbeats 1000000 in
theorem turnRw (x : Int) (n : Nat) (hn : 0 < n) (hn2 : n < 64) (m : Int) (hm : m = (n : Int)) (w : World) :
  Calls Tryz.prog 154 #[.int .u64 x, .int .i64 m] w fun e w' => e = .returned (.int .u64 (rotw x n)) ∧ ∃ q, w' = w.drewN q := by
 subst hm
 have e1 : IntKind.i64.wrap (64 - (n : Int)) = ((64 - n : Nat) : Int) := by rw [IntKind.wrap_i64]; omega
 have hq : ¬ ((64 - n : Nat) : Int) < 0 := by omega
 go_enter Tryz.func154, Tryz.ntmps154
 go_wp2
 go_quiet ((go_at_call 110; refine Calls.quiet_of_same (wordBytesw _)))
 go_wp2
 go_ret
 exact ⟨rfl, _, rfl⟩
end Go.Proofs.YtihoaakbkffejaaGreatDoor
namespace Go.Proofs.YtihoaakbkffejaaGreatDoor
open Go.RowKit
set_option maxRecDepth 100000

def pbw (xs : List Int) (i : Nat) : List Int := (List.range 16).map (fun j => wvw xs j (min 8 (i - 8 * j)))
theorem pbw_len (xs : List Int) (i : Nat) : (pbw xs i).length = 16 := by simp [pbw]
theorem pbw_get (xs : List Int) (i j : Nat) (h : j < 16) : (pbw xs i).getD j 0 = wvw xs j (min 8 (i - 8 * j)) := by simp [pbw, h]
theorem pbw_zero (xs : List Int) : pbw xs 0 = List.replicate 16 0 := by
 have e : pbw xs 0 = (List.range 16).map (fun _ => (0 : Int)) := by simp only [pbw, Nat.zero_sub, Nat.min_zero, wvw]
 rw [e]; rfl
theorem wvBw (xs : List Int) (hb : ∀ x ∈ xs, 0 ≤ x ∧ x < 256) (j m : Nat) : 0 ≤ wvw xs j m ∧ wvw xs j m < 256 ^ m := by
 induction m with
 | zero => simp [wvw]
 | succ m ih =>
  have hx : 0 ≤ xs.getD (8 * j + m) 0 ∧ xs.getD (8 * j + m) 0 < 256 := by
   by_cases h : 8 * j + m < xs.length
   ·exact get_byte hb h
   ·have : xs.getD (8 * j + m) 0 = 0 := by simp [Nat.le_of_not_lt h]
    rw [this]; omega
  simp only [wvw, Int.pow_succ]
  omega
theorem pbw_set (xs : List Int) (i : Nat) (v : Int) (hv : v = wvw xs (i / 8) (i % 8)) :
  (U64 (pbw xs i)).set (i / 8) (.int .u64 (v * 256 + xs.getD i 0)) = U64 (pbw xs (i + 1)) := by
 subst hv
 apply List.ext_getElem
 ·simp [pbw_len]
 ·intro j h1 h2
  rw [List.getElem_set]
  have e1 : ∀ (k : Nat) (hk : j < (U64 (pbw xs k)).length), (U64 (pbw xs k))[j] = .int .u64 (wvw xs j (min 8 (k - 8 * j))) := by intro k hk; simp [pbw]
  rw [e1 (i + 1)]
  split
  ·rename_i e
   subst e
   have e2 : min 8 (i + 1 - 8 * (i / 8)) = i % 8 + 1 := by omega
   have e3 : 8 * (i / 8) + i % 8 = i := by omega
   rw [e2]
   simp only [wvw, e3]
  ·rename_i e
   rw [e1 i]
   have e2 : min 8 (i + 1 - 8 * j) = min 8 (i - 8 * j) := by omega
   rw [e2]
theorem schSnocw (xs : List Int) (k : Nat) : schedW xs (k + 1) = schedW xs k ++ [nextWw xs (schedW xs k)] := rfl
theorem schLoww (xs : List Int) (k j : Nat) (hj : j < k) (hk : k ≤ 16) : (schedW xs k).getD j 0 = wvw xs j 8 := by
 induction k with
 | zero => omega
 | succ k ih =>
  rw [schSnocw]
  by_cases e : j = k
  ·subst e
   have hl := schedW_len xs j
   have h2 : (schedW xs j ++ [nextWw xs (schedW xs j)]).getD j 0 = nextWw xs (schedW xs j) := by
    simp [List.getD, hl]
   rw [h2]
   unfold nextWw
   rw [if_pos (by omega), hl]
  ·have hl := schedW_len xs k
   have h2 : (schedW xs k ++ [nextWw xs (schedW xs k)]).getD j 0 = (schedW xs k).getD j 0 := by
    simp [List.getD, List.getElem?_append_left, hl, show j < k by omega]
   rw [h2]
   exact ih (by omega) (by omega)
theorem pbw_end (xs : List Int) : pbw xs 128 = schedW xs 16 := by
 apply List.ext_getElem
 ·simp [pbw_len, schedW_len]
 ·intro j h1 h2
  have hj : j < 16 := by simpa [pbw_len] using h1
  have e1 : ∀ h : j < (pbw xs 128).length, (pbw xs 128)[j] = wvw xs j (min 8 (128 - 8 * j)) := by intro h; simp [pbw]
  rw [e1 h1]
  have := schLoww xs 16 j hj (by omega)
  rw [show min 8 (128 - 8 * j) = 8 by omega, ← this]
  simp [schedW_len, hj]

def zbw : Array Value := (U64 (List.replicate 16 0)).toArray
theorem infoUw : (Tryz.prog.info? 99).map (fun i => (i.zero, i.size, i.bytes)) = some (some (.int .u64 0), 1, 8) := by kernel_rfl
theorem makeBw (w : World) : (Instr.makeSlice 104 (.int .i64 16) (.int .i64 16)).run Tryz.prog w = .ok (.slice (some ⟨w.heap.size, 0, none⟩) 16 16) (w.alloc (.cells zbw 99)) := by
 obtain ⟨i0, hi, hz0, hz1, hz2⟩ := info_parts infoUw
 have := run_make (P := Tryz.prog) w 104 99 i0 (.int .u64 0) Tryz.underlying104 hi hz0 .i64 .i64 16 16 (by omega) (by omega) (by rw [hz2]; omega) (by omega)
 rw [this, hz1, show madeCells (Value.int .u64 0).cells (Int.toNat 16 * 1) = zbw by kernel_rfl]
 rfl

set_option maxHeartbeats 1000000 in
theorem blockWordsw (a : Option Addr) (c : Nat) (xs : List Int) (w : World) (h : Bs w a 128 c xs) :
  Calls Tryz.prog 150 #[.slice a 128 c] w fun e w' => ∃ g, e = .returned (.slice (some ⟨g, 0, none⟩) 16 16) ∧ Arr w' g 99 (U64 (schedW xs 16)) ∧ w.heap.size ≤ g ∧ Below w.heap.size w w' := by
 obtain ⟨_, hl, hc, hby, h⟩ := h
 rcases h with h | ⟨b, o, rfl, hbs, hcell⟩
 ·omega
 obtain ⟨W, hW⟩ : ∃ W, W = w.alloc (.cells zbw 99) := ⟨_, rfl⟩
 have hA1 : Arr W w.heap.size 99 (U64 (pbw xs 0)) := by rw [hW, pbw_zero]; exact Arr.new w _ _
 have hB : Below w.heap.size w W := by rw [hW]; exact (Below.refl _ _).alloc (Nat.le_refl _) _
 have hmk := makeBw
 go_enter Tryz.func150, Tryz.ntmps150
 go_wp2
 go_loopw [10] (fun i wr => ∃ k : Nat, k ≤ 128 ∧ i = .int .i64 k ∧ Arr wr w.heap.size 99 (U64 (pbw xs k)) ∧ Below w.heap.size w wr) (fun i _ => 128 - (intOf i).toNat)
 case atStart => exact ⟨0, by omega, rfl, hW ▸ hA1, hW ▸ hB⟩
 case round =>
  clear hA1 hB hW hmk
  obtain ⟨k, hk, rfl, h1, hb⟩ := hrel
  by_cases hlt : k < 128
  ·obtain ⟨x, hx⟩ : ∃ x, x = xs.getD k 0 := ⟨_, rfl⟩
   have hck : wr.cell? ⟨b, o + k, none⟩ = some (.int .u8 x) := by rw [hx]; exact (hb.cell (p := ⟨b, o + k, none⟩) hbs).trans (hcell k hlt)
   obtain ⟨hx0, hx1⟩ : 0 ≤ x ∧ x < 256 := by rw [hx]; exact get_byte hby (by omega)
   obtain ⟨v, hv⟩ : ∃ v, v = wvw xs (k / 8) (k % 8) := ⟨_, rfl⟩
   have hvb := wvBw xs hby (k / 8) (k % 8)
   rw [← hv] at hvb
   have hv3 : v < 72057594037927936 := by
    have : (256 : Int) ^ (k % 8) ≤ 72057594037927936 := by
     rcases (show k % 8 = 0 ∨ k % 8 = 1 ∨ k % 8 = 2 ∨ k % 8 = 3 ∨ k % 8 = 4 ∨ k % 8 = 5 ∨ k % 8 = 6 ∨ k % 8 = 7 by omega) with e | e | e | e | e | e | e | e <;> rw [e] <;> decide
    omega
   have hv0 := hvb.1
   have hor : bits .or .u64 (v * 256) x = v * 256 + x := u64_or8 (by omega) (by omega) (by omega) hx0 hx1
   have hget : wr.cell? ⟨w.heap.size, k / 8, none⟩ = some (.int .u64 v) := by
    rw [h1.u64 (k / 8) (by rw [pbw_len]; omega), pbw_get xs k (k / 8) (by omega), hv, show min 8 (k - 8 * (k / 8)) = k % 8 by omega]
   have hcv : IntKind.u64.wrap x = x := by rw [wrap_u64]; omega
   have hsh : IntKind.u64.wrap (v * 256) = v * 256 := by rw [wrap_u64]; omega
   have hsh2 : v * 256 % 18446744073709551616 = v * 256 := by omega
   have hq : ((k : Int) / 8).toNat = k / 8 := by omega
   have hq0 : (0 : Int) ≤ (k : Int) / 8 := by omega
   have hq1 : (k : Int) / 8 < 16 := by omega
   have htd : (k : Int).tdiv 8 = (k : Int) / 8 := Int.tdiv_eq_ediv_of_nonneg (by omega)
   have hfz := h1.frozen (k / 8)
   have h1' := h1.set (k / 8) (.int .u64 (v * 256 + x))
   rw [hx, pbw_set xs k v hv, ← hx] at h1'
   have hb' := hb.setCell (p := ⟨w.heap.size, k / 8, none⟩) (Nat.le_refl _) (.int .u64 (v * 256 + x))
   have H1 : Hid _ := h1'
   have HB : Hid _ := hb'
   clear h1' hb' h1 hb hcell hx hvb hby hv
   have hkB : (k : Int) < 128 := by omega
   go_wp2_with (go_at_call 110; refine (wordBytesw _).mono ?_; rintro e w' ⟨rfl, rfl⟩)
   go_roundw
   case rel => exact ⟨k + 1, by omega, by go_num, H1.out, HB.out⟩
   case measure => simp [intOf]; omega
  ·have hkn : k = 128 := by omega
   subst hkn
   rw [pbw_end] at h1
   clear hcell hby hbs
   go_wp2
   go_ret
   exact ⟨w.heap.size, rfl, h1, Nat.le_refl _, hb⟩
set_option maxHeartbeats 1000000 in
theorem turnCw (x : Int) (a b c : Nat) (ha : 0 < a) (ha2 : a < 64) (hb : 0 < b) (hb2 : b < 64) (hc : 0 < c) (hc2 : c < 64) (w : World) :
    Calls Tryz.prog 152 #[.int .u64 x, .agg #[.int .i64 a, .int .i64 b, .int .i64 c]] w fun e w' => e = .returned (.int .u64 (xrw (xrw (rotw x a) (rotw x b)) (rotw x c))) ∧ Below w.heap.size w w' := by
  go_enter Tryz.func152, Tryz.ntmps152
  go_wp2
  go_quiet (first | (go_at_call_of 154 (Value.int IntKind.i64 (a : Int)); refine Calls.quiet_of (turnRw x a ha ha2 _ rfl _)) | (go_at_call_of 154 (Value.int IntKind.i64 (b : Int)); refine Calls.quiet_of (turnRw x b hb hb2 _ rfl _)) | (go_at_call_of 154 (Value.int IntKind.i64 (c : Int)); refine Calls.quiet_of (turnRw x c hc hc2 _ rfl _)))
  go_wp2
  go_ret
  exact ⟨rfl, bel_dN ((Below.refl _ _).alloc (Nat.le_refl _) _) _⟩

set_option maxHeartbeats 1000000 in
theorem shiftCw (x : Int) (a b c : Nat) (ha : 0 < a) (ha2 : a < 64) (hb : 0 < b) (hb2 : b < 64) (hc : 0 < c) (hc2 : c < 64) (w : World) :
    Calls Tryz.prog 153 #[.int .u64 x, .agg #[.int .i64 a, .int .i64 b, .int .i64 c]] w fun e w' => e = .returned (.int .u64 (xrw (xrw (rotw x a) (rotw x b)) (x / 2 ^ c))) ∧ Below w.heap.size w w' := by
  have hc3 : ¬ ((c : Int) < 0) := by omega
  go_enter Tryz.func153, Tryz.ntmps153
  go_wp2
  go_quiet (first | (go_at_call_of 154 (Value.int IntKind.i64 (a : Int)); refine Calls.quiet_of (turnRw x a ha ha2 _ rfl _)) | (go_at_call_of 154 (Value.int IntKind.i64 (b : Int)); refine Calls.quiet_of (turnRw x b hb hb2 _ rfl _)))
  go_wp2
  go_ret
  exact ⟨rfl, bel_dN ((Below.refl _ _).alloc (Nat.le_refl _) _) _⟩

theorem turnG0w (x : Int) (w : World) : Calls Tryz.prog 152 #[.int .u64 x, .agg #[.int .i64 28, .int .i64 34, .int .i64 39]] w fun e w' => e = .returned (.int .u64 (cS0 x)) ∧ Below w.heap.size w w' :=
  turnCw x 28 34 39 (by omega) (by omega) (by omega) (by omega) (by omega) (by omega) w
theorem turnG1w (x : Int) (w : World) : Calls Tryz.prog 152 #[.int .u64 x, .agg #[.int .i64 14, .int .i64 18, .int .i64 41]] w fun e w' => e = .returned (.int .u64 (cS1 x)) ∧ Below w.heap.size w w' :=
  turnCw x 14 18 41 (by omega) (by omega) (by omega) (by omega) (by omega) (by omega) w
theorem shiftS0w (x : Int) (w : World) : Calls Tryz.prog 153 #[.int .u64 x, .agg #[.int .i64 1, .int .i64 8, .int .i64 7]] w fun e w' => e = .returned (.int .u64 (tS0 x)) ∧ Below w.heap.size w w' :=
  shiftCw x 1 8 7 (by omega) (by omega) (by omega) (by omega) (by omega) (by omega) w
theorem shiftS1w (x : Int) (w : World) : Calls Tryz.prog 153 #[.int .u64 x, .agg #[.int .i64 19, .int .i64 61, .int .i64 6]] w fun e w' => e = .returned (.int .u64 (tS1 x)) ∧ Below w.heap.size w w' :=
  shiftCw x 19 61 6 (by omega) (by omega) (by omega) (by omega) (by omega) (by omega) w

structure Nxw (w W : World) (g o T : Nat) (y0 y1 y9 y14 : Int) : Prop where
  fr : Below w.heap.size w W
  ar : Arr W T 103 (I64 [28, 34, 39, 14, 18, 41, 1, 8, 7, 19, 61, 6])
  c0 : W.cell? ⟨g, o, none⟩ = some (.int .u64 y0)
  c1 : W.cell? ⟨g, o + 1, none⟩ = some (.int .u64 y1)
  c9 : W.cell? ⟨g, o + 9, none⟩ = some (.int .u64 y9)
  c14 : W.cell? ⟨g, o + 14, none⟩ = some (.int .u64 y14)
theorem Nxw.go {w W W' : World} {g o T : Nat} {y0 y1 y9 y14 : Int} (h : Nxw w W g o T y0 y1 y9 y14) (hb : Below W.heap.size W W') : Nxw w W' g o T y0 y1 y9 y14 := by
  have hg : g < W.heap.size := World.block_lt_of_cell? W _ h.c0
  exact ⟨h.fr.trans (hb.mono h.fr.size), h.ar.kept hb, (hb.cell (p := ⟨g, o, none⟩) hg).trans h.c0, (hb.cell (p := ⟨g, o + 1, none⟩) hg).trans h.c1, (hb.cell (p := ⟨g, o + 9, none⟩) hg).trans h.c9, (hb.cell (p := ⟨g, o + 14, none⟩) hg).trans h.c14⟩
def Nvw (g o T : Nat) (y0 y1 y9 y14 : Int) (W : World) : Prop :=
  W.cell? ⟨g, o, none⟩ = some (.int .u64 y0) ∧ W.cell? ⟨g, o + 1, none⟩ = some (.int .u64 y1) ∧ W.cell? ⟨g, o + 9, none⟩ = some (.int .u64 y9) ∧ W.cell? ⟨g, o + 14, none⟩ = some (.int .u64 y14) ∧
  W.cell? ⟨T, 6, none⟩ = some (.int .i64 1) ∧ W.cell? ⟨T, 7, none⟩ = some (.int .i64 8) ∧ W.cell? ⟨T, 8, none⟩ = some (.int .i64 7) ∧
  W.cell? ⟨T, 9, none⟩ = some (.int .i64 19) ∧ W.cell? ⟨T, 10, none⟩ = some (.int .i64 61) ∧ W.cell? ⟨T, 11, none⟩ = some (.int .i64 6)
theorem Nxw.all {w W : World} {g o T : Nat} {y0 y1 y9 y14 : Int} (h : Nxw w W g o T y0 y1 y9 y14) : Nvw g o T y0 y1 y9 y14 W :=
  ⟨h.c0, h.c1, h.c9, h.c14, h.ar.i64 6 (by simp), h.ar.i64 7 (by simp), h.ar.i64 8 (by simp), h.ar.i64 9 (by simp), h.ar.i64 10 (by simp), h.ar.i64 11 (by simp)⟩

set_option maxHeartbeats 2000000 in
theorem nextCw (g o n c : Nat) (y0 y1 y9 y14 : Int) (w : World) (hn : 14 < n) (hc0 : w.cell? ⟨g, o, none⟩ = some (.int .u64 y0)) (hc1 : w.cell? ⟨g, o + 1, none⟩ = some (.int .u64 y1)) (hc9 : w.cell? ⟨g, o + 9, none⟩ = some (.int .u64 y9)) (hc14 : w.cell? ⟨g, o + 14, none⟩ = some (.int .u64 y14)) :
    Calls Tryz.prog 151 #[.slice (some ⟨g, o, none⟩) n c, .agg #[.int .i64 28, .int .i64 34, .int .i64 39, .int .i64 14, .int .i64 18, .int .i64 41, .int .i64 1, .int .i64 8, .int .i64 7, .int .i64 19, .int .i64 61, .int .i64 6]] w fun e w' => e = .returned (.int .u64 ((tS1 y14 + y9 + tS0 y1 + y0) % 18446744073709551616)) ∧ Below w.heap.size w w' := by
  have hg : g < w.heap.size := World.block_lt_of_cell? w _ hc0
  obtain ⟨W, hW⟩ : ∃ W, W = w.alloc (.cells #[.int .i64 28, .int .i64 34, .int .i64 39, .int .i64 14, .int .i64 18, .int .i64 41, .int .i64 1, .int .i64 8, .int .i64 7, .int .i64 19, .int .i64 61, .int .i64 6] 103) := ⟨_, rfl⟩
  have hB : Below w.heap.size w W := by rw [hW]; exact (Below.refl _ _).alloc (Nat.le_refl _) _
  have hA : Arr W w.heap.size 103 (I64 [28, 34, 39, 14, 18, 41, 1, 8, 7, 19, 61, 6]) := by rw [hW]; exact Arr.new w (I64 [28, 34, 39, 14, 18, 41, 1, 8, 7, 19, 61, 6]) _
  have NX : Nxw w W.drew g o w.heap.size y0 y1 y9 y14 := ⟨hB.drew, hA.drew, (hB.cell (p := ⟨g, o, none⟩) hg).trans hc0, (hB.cell (p := ⟨g, o + 1, none⟩) hg).trans hc1, (hB.cell (p := ⟨g, o + 9, none⟩) hg).trans hc9, (hB.cell (p := ⟨g, o + 14, none⟩) hg).trans hc14⟩
  have p14 : (14 : Int) < (n : Int) := by omega
  have p9 : (9 : Int) < (n : Int) := by omega
  have p1 : (1 : Int) < (n : Int) := by omega
  have p0 : 0 < n := by omega
  clear hB hA hc0 hc1 hc9 hc14 hg
  go_enter Tryz.func151, Tryz.ntmps151
  go_wp2
  rw [← hW]
  clear hW
  go_region_held3 (fun W => W.cell? ⟨g, o, none⟩ = some (.int .u64 y0) ∧ W.cell? ⟨g, o + 1, none⟩ = some (.int .u64 y1) ∧ W.cell? ⟨g, o + 9, none⟩ = some (.int .u64 y9) ∧ W.cell? ⟨g, o + 14, none⟩ = some (.int .u64 y14) ∧ W.cell? ⟨w.heap.size, 6, none⟩ = some (.int .i64 1) ∧ W.cell? ⟨w.heap.size, 7, none⟩ = some (.int .i64 8) ∧ W.cell? ⟨w.heap.size, 8, none⟩ = some (.int .i64 7) ∧ W.cell? ⟨w.heap.size, 9, none⟩ = some (.int .i64 19) ∧ W.cell? ⟨w.heap.size, 10, none⟩ = some (.int .i64 61) ∧ W.cell? ⟨w.heap.size, 11, none⟩ = some (.int .i64 6))
    (exact NX.all)
    ((first
      | (go_at_call_of 153 (Value.int IntKind.u64 y14); refine (shiftS1w y14 _).mono ?_; rintro e w' ⟨rfl, hbd⟩; replace NX := NX.go hbd)
      | (go_at_call_of 153 (Value.int IntKind.u64 y1); refine (shiftS0w y1 _).mono ?_; rintro e w' ⟨rfl, hbd⟩; replace NX := NX.go hbd)))
  all_goals
    have hb := NX.fr
    have hz : IntKind.u64.wrap (IntKind.u64.wrap (IntKind.u64.wrap (tS1 y14 + y9) + tS0 y1) + y0) = (tS1 y14 + y9 + tS0 y1 + y0) % 18446744073709551616 := by
      simp only [wrap_u64]; omega
    generalize IntKind.u64.wrap (IntKind.u64.wrap (IntKind.u64.wrap (tS1 y14 + y9) + tS0 y1) + y0) = z at hz ⊢
    have HZ : Hid _ := hz
    clear hz NX
    go_wp2
    go_ret
    exact ⟨by rw [← HZ.out]; rfl, hb⟩
end Go.Proofs.YtihoaakbkffejaaGreatDoor
