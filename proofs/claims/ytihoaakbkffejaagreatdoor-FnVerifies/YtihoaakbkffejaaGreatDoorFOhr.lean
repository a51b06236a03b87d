/-
  What is proved here: the contract of the program's PtRead; where its variables hold the prime, d and a root of -1.
-/
import Derived.Test.YtihoaakbkffejaaGreatDoorFOk
import Derived.Test.YtihoaakbkffejaaGreatDoorFOm0
import Derived.Test.YtihoaakbkffejaaGreatDoorFJrd
import Derived.Test.YtihoaakbkffejaaGreatDoorFUff
import Derived.Test.YtihoaakbkffejaaGreatDoorFJn
import Derived.Test.YtihoaakbkffejaaGreatDoorFQd
namespace Go.Proofs.YtihoaakbkffejaaGreatDoor
open Go.RowKit
set_option maxRecDepth 100000
abbrev qOhr0 : Oper := { dst := some 21, op := Op.move (Operand.tmp 25), type := 88, pos := "l06_point.go:101", after := #[{ on := 3, ground := Ground.data }], guard := none }
abbrev qOhr1 : Oper := { dst := some 26, op := Op.extract (Operand.tmp 21) 0, type := 65, pos := "l06_point.go:101", after := #[{ on := 4, ground := Ground.data }], guard := none }
abbrev qOhr2 : Oper := { dst := some 27, op := Op.extract (Operand.tmp 21) 1, type := 4, pos := "l06_point.go:101", after := #[{ on := 4, ground := Ground.data }, { on := 8, ground := Ground.gcOnly Departure.lateStores }], guard := none }
abbrev qOhr3 : Oper := { dst := none, op := Op.store 65 (Operand.tmp 7) (Operand.tmp 26), type := 0, pos := "l06_point.go:101", after := #[{ on := 7, ground := Ground.data }, { on := 5, ground := Ground.data }, { on := 3, ground := Ground.chain }, { on := 0, ground := Ground.phase }, { on := 1, ground := Ground.phase }, { on := 2, ground := Ground.phase }, { on := 3, ground := Ground.phase }, { on := 4, ground := Ground.phase }, { on := 5, ground := Ground.phase }, { on := 6, ground := Ground.textOnly Departure.lateStores }, { on := 7, ground := Ground.phase }], guard := none }

theorem set_gD (l : List Int) (i k : Nat) (v : Int) (hi : i < l.length) : (l.set i v).getD k 0 = if i = k then v else l.getD k 0 := by
 simp only [List.getD, List.getElem?_set]
 split
 ·rename_i h; subst h; simp
 ·rfl
theorem yR_set {bs : List Int} (hl : bs.length = 32) (hb : ∀ x ∈ bs, 0 ≤ x ∧ x < 256) : (rdL bs).set 15 ((rdL bs).getD 15 0 % 32768) = yR bs := by
 have h30 := gD_u8 hb 30
 have h31 := gD_u8 hb 31
 refine ext16 (by simp [rdL_len]) (yR_len bs) fun k hk => ?_
 rw [set_gD _ _ _ _ (by rw [rdL_len]; omega)]
 unfold yR
 have h15 : (rdL bs).getD 15 0 = bs.getD 30 0 + 256 * bs.getD 31 0 := rdL_get bs 15 (by omega)
 rw [rdL_get (lowB bs) k hk, h15]
 unfold lowB
 rw [set_gD _ _ _ _ (by omega), set_gD _ _ _ _ (by omega)]
 by_cases h : k = 15
 ·subst h
  rw [if_pos rfl, if_neg (by omega), if_pos rfl]
  show (bs.getD 30 0 + 256 * bs.getD 31 0) % 32768 = bs.getD 30 0 + 256 * (bs.getD 31 0 % 128)
  omega
 ·rw [if_neg (by omega), if_neg (by omega), if_neg (by omega), rdL_get bs k hk]
theorem odd_bit {bs : List Int} (hb : ∀ x ∈ bs, 0 ≤ x ∧ x < 256) : (rdL bs).getD 15 0 / 32768 % 2 = odd6 bs := by
 have h30 := gD_u8 hb 30
 have h31 := gD_u8 hb 31
 have h15 : (rdL bs).getD 15 0 = bs.getD 30 0 + 256 * bs.getD 31 0 := rdL_get bs 15 (by omega)
 unfold odd6
 rw [h15]
 omega
theorem and_32767 {x : Int} (h0 : 0 ≤ x) (h1 : x < 65536) : bits .and .i64 x 32767 = x % 32768 := i64_and15 h0 (by omega)
theorem ok6_of {bs : List Int} (hl : bs.length = 32) (hb : ∀ x ∈ bs, 0 ≤ x ∧ x < 256) : cvB (yR bs) (odd6 bs) = rdOk6 bs ∧ (rdOk6 bs = true → rdX6 bs = cvL (yR bs) (odd6 bs) ∧ rdY6 bs = yR bs) := by
 obtain ⟨h1, h2⟩ := cvB_ok (y := yR bs) (odd6_two hb)
 have e : cvB (yR bs) (odd6 bs) = rdOk6 bs := by rw [h1]; unfold rdOk6; simp [hl]
 refine ⟨e, fun h => ⟨?_, ?_⟩⟩
 ·unfold rdX6; rw [if_pos h]; exact (h2 (by rw [e]; exact h)).symm
 ·unfold rdY6; rw [if_pos h]

set_option maxHeartbeats 8000000 in
theorem implPtRead (a : Option Addr) (n c : Nat) (bs : List Int) (w : World) (hx : Bs w a n c bs) (hV : Vr w 4 (I64 PL)) (hD : Vr w 5 (I64 DL)) (hQ : Vr w 9 (I64 QL)) :
  Calls Tryz.prog 15 #[.slice a n c] w fun e w' => ∃ v, e = .returned (.tuple #[v, .bool (rdOk6 bs)]) ∧ PtT 65 w w' v (rdX6 bs) (rdY6 bs) ∧ Below w.heap.size w w' := by
 have hby := hx.2.2.2.1
 have hlb := hx.2.1
 obtain ⟨p, hp⟩ : ∃ p, p = rdB bs := ⟨_, rfl⟩
 obtain ⟨M, hM⟩ : ∃ m, m = rdZ bs := ⟨_, rfl⟩
 have nM : M.length = 16 := by rw [hM]; exact rdZ_len bs
 have HLR : Hid (∀ Z, Below w.heap.size w Z → Calls Tryz.prog 56 #[.slice a n c] Z fun e w' => e = .returned (.tuple #[.agg (I64 M).toArray, .bool p]) ∧ Below Z.heap.size Z w') := by
  unfold Hid; intro Z hZ; rw [hM, hp]; exact implLimbsRead a n c bs Z (hx.below hZ)
 obtain ⟨r, hr⟩ : ∃ r, r = rdOk6 bs := ⟨_, rfl⟩
 obtain ⟨X, hX⟩ : ∃ r, r = rdX6 bs := ⟨_, rfl⟩
 obtain ⟨Y, hY⟩ : ∃ r, r = rdY6 bs := ⟨_, rfl⟩
 have HN : Hid (r = false → ∀ {w' : World}, PtT 65 w w' (.agg #[.slice none 0 0, .slice none 0 0]) X Y) := by unfold Hid; intro h w'; rw [hr] at h; rw [hX, hY]; unfold rdX6 rdY6; rw [h]; exact ptT_nil _ _ _
 have HP0 : Hid (p = false → r = false) := by unfold Hid; intro h; rw [hp] at h; rw [hr]; unfold rdOk6; unfold rdB at h; rw [h]; rfl
 obtain ⟨t, ht⟩ : ∃ t, t = M.getD 15 0 := ⟨_, rfl⟩
 obtain ⟨y, hy⟩ : ∃ y, y = yR bs := ⟨_, rfl⟩
 obtain ⟨q, hq⟩ : ∃ q, q = odd6 bs := ⟨_, rfl⟩
 have ny : y.length = 16 := by rw [hy]; exact yR_len bs
 have ly : Lm y := by rw [hy]; exact yR_lm hby
 have HM : Hid (p = true → (0 ≤ t ∧ t < 65536) ∧ M.set 15 (t % 32768) = y ∧ t / 32768 % 2 = q ∧ Lm M) := by
  unfold Hid; intro h; rw [hp] at h; have h32 : bs.length = 32 := by unfold rdB at h; exact of_decide_eq_true h
  have e1 : M = rdL bs := by rw [hM]; unfold rdZ; rw [if_pos h]
  have hm : Lm M := by rw [e1]; exact rdL_lm hby
  exact ⟨by rw [ht]; exact gD_lm hm 15, by rw [ht, e1, hy]; exact yR_set h32 hby, by rw [ht, e1, hq]; exact odd_bit hby, hm⟩
 obtain ⟨x, ex⟩ : ∃ x, x = cvL y q := ⟨_, rfl⟩
 have nx : x.length = 16 := by rw [ex]; exact cvL_len y q
 have HRX : Hid (p = true → cvB y q = r ∧ (r = true → X = x ∧ Y = y)) := by
  unfold Hid; intro h; rw [hp] at h; have h32 : bs.length = 32 := by unfold rdB at h; exact of_decide_eq_true h
  rw [hr, hX, hY, ex, hy, hq]; exact ok6_of h32 hby
 have HCX : Hid (p = true → ∀ Z, Vr Z 4 (I64 PL) → Vr Z 5 (I64 DL) → Vr Z 9 (I64 QL) → Calls Tryz.prog 57 #[.agg (I64 y).toArray, .int .i64 q] Z fun e w' => e = .returned (.tuple #[.agg (I64 x).toArray, .bool r]) ∧ Below Z.heap.size Z w') := by
  unfold Hid; intro h Z h1 h2 h3; rw [← (HRX.out h).1, ex]; exact implCurveX y q Z ny ly h1 h2 h3
 have HBT : Hid (p = true → ∀ Z, Calls Tryz.prog 42 #[.agg (I64 M).toArray, .int .i64 255] Z fun e w' => e = .returned (.int .i64 q) ∧ Below Z.heap.size Z w') := by
  unfold Hid; intro h Z; obtain ⟨_, _, h3, h4⟩ := HM.out h; have := implBit M 255 Z nM h4 (by omega); rw [show (255 : Nat) / 16 = 15 from rfl, show (255 : Nat) % 16 = 15 from rfl, ← ht, show (2 : Int) ^ 15 = 32768 from rfl, h3] at this; exact this
 have HPO : Hid (∀ Z, Calls Tryz.prog 44 #[.agg (I64 x).toArray, .agg (I64 y).toArray] Z fun e w' => ∃ v, e = .returned v ∧ PtT 65 Z w' v x y ∧ Below Z.heap.size Z w') := by unfold Hid; intro Z; exact implPtOf x y Z nx ny
 rw [← hr, ← hX, ← hY]
 have jM : (Tryz.prog.info? 65).map (·.size) = some (I64 M).toArray.size := by simpa [nM] using infoL
 have iiM : (Tryz.prog.info? 65).map (·.size) = some (I64 M).length := by simpa [nM] using infoL
 have uM := one_lm M
 have jy : (Tryz.prog.info? 65).map (·.size) = some (I64 y).toArray.size := by simpa [ny] using infoL
 have iiy : (Tryz.prog.info? 65).map (·.size) = some (I64 y).length := by simpa [ny] using infoL
 have uy := one_lm y
 have jx : (Tryz.prog.info? 65).map (·.size) = some (I64 x).toArray.size := by simpa [nx] using infoL
 have iix : (Tryz.prog.info? 65).map (·.size) = some (I64 x).length := by simpa [nx] using infoL
 have ux := one_lm x
 have hu : Tryz.prog.underlying 65 = some (.array 16 3) := Tryz.underlying65
 have ht2 : Hid (M.getD 15 0 = t) := ht.symm
 obtain ⟨W, hW⟩ : ∃ W, W = w.alloc (.cells #[.slice none 0 0, .slice none 0 0] 33) := ⟨_, rfl⟩
 have fr : Below w.heap.size w W := by rw [hW]; exact ((Below.refl _ _).alloc (Nat.le_refl _) _)
 have pr : Arr W w.heap.size 33 ([.slice none 0 0, .slice none 0 0]) := by
  rw [hW]
  have := Arr.new (w) ([.slice none 0 0, .slice none 0 0]) 33
  exact this
 have h0P := hV.lt
 have vP := hV.kept fr
 have h0D := hD.lt
 have vD := hD.kept fr
 have h0Q := hQ.lt
 have vQ := hQ.kept fr
 clear hV hD hQ
 clear hp hM hr hX hY ht hy hq ex hx hby
 go_enter Tryz.func15, Tryz.ntmps15
 go_upto_region 1 with fail
 rw [← hW]
 clear hW
 go_wp2_with fail
 refine (HLR.out _ fr).mono ?_
 rintro e y1 ⟨rfl, hb1⟩
 replace fr := fr.trans (hb1.mono fr.size)
 replace pr := pr.kept hb1
 replace vP := vP.kept hb1
 replace vD := vD.kept hb1
 replace vQ := vQ.kept hb1
 clear hb1
 have hXM : w.heap.size < y1.heap.size ∧ w.heap.size ≤ y1.heap.size := ⟨pr.lt, fr.size⟩
 obtain ⟨bV, AM, q1⟩ := laid_lm y1 M
 replace fr := fr.trans (bV.mono fr.size)
 replace pr := pr.kept bV
 replace vP := vP.kept bV
 replace vD := vD.kept bV
 replace vQ := vQ.kept bV
 go_upto_region 2 with (refine wpList_store_row rfl 65 _ _ rfl y1.heap.size (I64 M).toArray rfl rfl 65 _ q1 jM (by simp [nM]) (by simp [Value.oneCell']) ?_)
 obtain ⟨V2, hVV⟩ : ∃ V, V = (y1.alloc (.cells zV 65)).setRow y1.heap.size (I64 M).toArray := ⟨_, rfl⟩
 obtain ⟨XM, hE⟩ : ∃ E, E = y1.heap.size := ⟨_, rfl⟩
 rw [← hVV] at fr pr vP vD vQ AM ⊢
 rw [← hE] at AM hXM ⊢
 clear hVV hE q1 bV
 cases p with
 | false =>
  have h2 := pr.row ([.slice none 0 0, .slice none 0 0])
  have HB : Hid _ := setRow_below fr w.heap.size ([.slice none 0 0, .slice none 0 0]).toArray (by omega)
  have hr0 := HP0.out (by simp)
  subst hr0
  go_wp2_with (refine wpList_store_row rfl 33 _ _ rfl w.heap.size ([Value.slice none 0 0,  Value.slice none 0 0]).toArray rfl rfl 33 _ pr infoPt rfl (by simp [Value.oneCell']) ?_)
  exact bodyPost_ret (results_row_tmp (v := .bool false) (cs := [.slice none 0 0, .slice none 0 0]) rfl rfl rfl h2 Tryz.underlying33 rfl infoPt) rfl ⟨_, rfl, HN.out (by simp), HB.out⟩
 | true =>
  obtain ⟨ht0, hset, _, _⟩ := HM.out (by simp)
  have HSE : Hid ((I64 M).set 15 (.int .i64 (t % 32768)) = I64 y) := by unfold Hid; rw [← hset]; simp only [I64, List.map_set]
  clear hset
  go_upto_region 4 with fail
  have hXy : w.heap.size < V2.heap.size ∧ XM < V2.heap.size ∧ w.heap.size ≤ V2.heap.size := ⟨pr.lt, AM.lt, fr.size⟩
  obtain ⟨bV, Ay, q1⟩ := laid_lm V2 M
  have AM0 := AM
  replace fr := fr.trans (bV.mono fr.size)
  replace pr := pr.kept bV
  replace vP := vP.kept bV
  replace vD := vD.kept bV
  replace vQ := vQ.kept bV
  replace AM := AM.kept bV
  go_upto_region 5 with (first
    | (refine wpList_load_row rfl 65 _ rfl XM rfl 65 (I64 M).toArray (0, 0) _ AM0 Tryz.underlying65 rfl jM ?_)
    | (refine wpList_store_row rfl 65 _ _ rfl V2.heap.size (I64 M).toArray rfl rfl 65 _ q1 jM (by simp [nM]) (by simp [Value.oneCell']) ?_))
  obtain ⟨V9, hVV⟩ : ∃ V, V = (V2.alloc (.cells zV 65)).setRow V2.heap.size (I64 M).toArray := ⟨_, rfl⟩
  obtain ⟨Xy, hE⟩ : ∃ E, E = V2.heap.size := ⟨_, rfl⟩
  rw [← hVV] at fr pr vP vD vQ AM Ay ⊢
  rw [← hE] at Ay hXy ⊢
  clear hVV hE q1 bV AM0
  have c15 : V9.cell? ⟨Xy, 15, none⟩ = some (.int .i64 t) := by have := Ay.i64 15 (by omega); rw [ht2.out] at this; exact this
  have f15 := Ay.frozen 15
  have hand := and_32767 ht0.1 ht0.2
  go_upto_region 6 with fail
  obtain ⟨V8, hV8⟩ : ∃ V, V = V9.setCell ⟨Xy, 15, none⟩ (.int .i64 (t % 32768)) := ⟨_, rfl⟩
  rw [← hV8]
  replace fr : Below w.heap.size w V8 := by rw [hV8]; exact fr.setCell (p := ⟨Xy, 15, none⟩) (by show w.heap.size ≤ Xy; omega) _
  replace pr : Arr V8 w.heap.size 33 ([.slice none 0 0, .slice none 0 0]) := by rw [hV8]; exact pr.other ⟨Xy, 15, none⟩ _ (by show w.heap.size ≠ Xy; omega)
  replace vP : Vr V8 4 (I64 PL) := by rw [hV8]; exact vP.other ⟨Xy, 15, none⟩ _ (by show 4 ≠ Xy; omega)
  replace vD : Vr V8 5 (I64 DL) := by rw [hV8]; exact vD.other ⟨Xy, 15, none⟩ _ (by show 5 ≠ Xy; omega)
  replace vQ : Vr V8 9 (I64 QL) := by rw [hV8]; exact vQ.other ⟨Xy, 15, none⟩ _ (by show 9 ≠ Xy; omega)
  replace AM : Arr V8 XM 65 (I64 M) := by rw [hV8]; exact AM.other ⟨Xy, 15, none⟩ _ (by show XM ≠ Xy; omega)
  replace Ay : Arr V8 Xy 65 (I64 y) := by rw [hV8, ← HSE.out]; exact Ay.set 15 _
  clear hV8 c15 f15
  try simp only [Act.put]
  go_cut [7, 5] from 8 (fun s7 s5 wc => ∃ (Xx : Nat), s7 = .pointer (some ⟨Xx, 0, none⟩) ∧ s5 = .bool r ∧ Arr wc Xx 65 (I64 x) ∧ Below w.heap.size w wc ∧ Arr wc w.heap.size 33 ([.slice none 0 0, .slice none 0 0]) ∧ Vr wc 4 (I64 PL) ∧ Vr wc 5 (I64 DL) ∧ Vr wc 9 (I64 QL) ∧ Arr wc XM 65 (I64 M) ∧ Arr wc Xy 65 (I64 y) ∧ w.heap.size < Xx ∧ w.heap.size < Xy)
  case first =>
   have bD : Below V8.heap.size V8 V8.drew := (Below.refl _ _).drew
   replace fr := fr.trans (bD.mono fr.size)
   replace pr := pr.kept bD
   replace vP := vP.kept bD
   replace vD := vD.kept bD
   replace vQ := vQ.kept bD
   replace AM := AM.kept bD
   replace Ay := Ay.kept bD
   clear bD
   refine wp_region_held_drew (S := fun W => W.rangeAt Xy 0 (I64 y) ∧ W.rangeAt XM 0 (I64 M)) (by kernel_rfl) ⟨arr_range Ay, arr_range AM⟩ (fun hHeld => ?_)
   obtain ⟨D3, hD⟩ : ∃ V, V = V8.drew := ⟨_, rfl⟩
   rw [← hD] at hHeld fr pr vP vD vQ AM Ay ⊢
   clear hD
   refine wpAnyH_take (i := 0) (oi := { dst := some 22, op := Op.load 65 (Operand.tmp 6), type := 65, pos := "l06_point.go:101", after := #[], guard := none }) (v := _) rfl (by kernel_rfl) (by kernel_rfl) (by kernel_rfl) (fun _ _ _ h => h) (yieldsIf_load_mid (by rfl) _ _ rfl _ _ rfl (I64 y) _ (fun _ h => h.1) hu rfl iiy) (by assumption) ?_
   simp only [aP]
   refine wpAnyH_take (i := 1) (oi := { dst := some 23, op := Op.load 65 (Operand.tmp 4), type := 65, pos := "l06_point.go:101", after := #[], guard := none }) (v := _) rfl (by kernel_rfl) (by kernel_rfl) (by kernel_rfl) (fun _ _ _ h => h) (yieldsIf_load_mid (by rfl) _ _ rfl _ _ rfl (I64 M) _ (fun _ h => h.2) hu rfl iiM) (by assumption) ?_
   simp only [aP]
   refine wpAnyH_ready (rs := [2, 7]) (by kernel_rfl) (by simp) (AllReadyH.cons (o := { dst := some 24, op := Op.call { callee := Callee.value (Operand.func 42), args := #[Operand.tmp 23, Operand.const (Value.int IntKind.i64 255)], argTypes := #[65, 3] }, type := 3, pos := "l06_point.go:101", after := #[{ on := 1, ground := Ground.data }], guard := none }) rfl (fun K hK => ?_) (AllReadyH.cons (o := { dst := some 7, op := Op.alloc 65, type := 0, pos := "l06_point.go:101", after := #[], guard := none }) rfl (fun K hK => ?_) AllReadyH.nil))
   ·skip
    go_simp
    refine (HBT.out (by simp) _).mono ?_
    rintro e y4 ⟨rfl, hb4⟩
    replace fr := fr.trans (hb4.mono fr.size)
    replace pr := pr.kept hb4
    replace vP := vP.kept hb4
    replace vD := vD.kept hb4
    replace vQ := vQ.kept hb4
    replace AM := AM.kept hb4
    replace Ay := Ay.kept hb4
    clear hb4
    go_wp2_with fail
    refine hK.out _ _ ⟨arr_range Ay, arr_range AM⟩ (fun hHeld => ?_)
    clear hK K
    refine wpAnyH_ready (rs := [3, 7]) (by kernel_rfl) (by simp) (AllReadyH.cons (o := { dst := some 25, op := Op.call { callee := Callee.value (Operand.func 57), args := #[Operand.tmp 22, Operand.tmp 24], argTypes := #[65, 3] }, type := 88, pos := "l06_point.go:101", after := #[{ on := 0, ground := Ground.data }, { on := 2, ground := Ground.data }, { on := 2, ground := Ground.chain }], guard := none }) rfl (fun K hK => ?_) (AllReadyH.cons (o := { dst := some 7, op := Op.alloc 65, type := 0, pos := "l06_point.go:101", after := #[], guard := none }) rfl (fun K hK => ?_) AllReadyH.nil))
    ·skip
     go_simp
     refine (HCX.out (by simp) _ vP vD vQ).mono ?_
     rintro e y5 ⟨rfl, hb5⟩
     replace fr := fr.trans (hb5.mono fr.size)
     replace pr := pr.kept hb5
     replace vP := vP.kept hb5
     replace vD := vD.kept hb5
     replace vQ := vQ.kept hb5
     replace AM := AM.kept hb5
     replace Ay := Ay.kept hb5
     clear hb5
     go_wp2_with fail
     refine hK.out _ _ ⟨arr_range Ay, arr_range AM⟩ (fun hHeld => ?_)
     clear hK K
     refine wpAnyH_take (i := 4) (oi := qOhr0) (v := .tuple #[.agg (I64 x).toArray, .bool r]) rfl (by kernel_rfl) (by kernel_rfl) (by kernel_rfl) (fun _ _ _ h => h) (.inl ⟨by rfl, fun _ _ => by rfl⟩) (by assumption) ?_
     simp only [aP]
     refine wpAnyH_take (i := 5) (oi := qOhr1) (v := .agg (I64 x).toArray) rfl (by kernel_rfl) (by kernel_rfl) (by kernel_rfl) (fun _ _ _ h => h) (.inl ⟨by rfl, fun _ _ => by rfl⟩) (by assumption) ?_
     simp only [aP]
     refine wpAnyH_take (i := 6) (oi := qOhr2) (v := .bool r) rfl (by kernel_rfl) (by kernel_rfl) (by kernel_rfl) (fun _ _ _ h => h) (.inl ⟨by rfl, fun _ _ => by rfl⟩) (by assumption) ?_
     simp only [aP]
     refine wpAnyH_ready (rs := [7]) (by kernel_rfl) (by simp) (AllReadyH.cons (o := { dst := some 7, op := Op.alloc 65, type := 0, pos := "l06_point.go:101", after := #[], guard := none }) rfl (fun K hK => ?_) AllReadyH.nil)
     go_simp
     obtain ⟨V6, hVe⟩ : ∃ V, V = y5.alloc (.cells zV 65) := ⟨_, rfl⟩
     have bV : Below y5.heap.size y5 V6 := by rw [hVe]; exact (Below.refl _ _).alloc (Nat.le_refl _) _
     have Ax : Arr V6 y5.heap.size 65 (I64 Z16) := by rw [hVe]; exact Arr.new _ (I64 Z16) _
     have hXx : w.heap.size < y5.heap.size ∧ XM < y5.heap.size ∧ Xy < y5.heap.size ∧ True := ⟨pr.lt, AM.lt, Ay.lt, trivial⟩
     obtain ⟨Xx, hXe⟩ : ∃ X, X = y5.heap.size := ⟨_, rfl⟩
     replace fr := fr.trans (bV.mono fr.size)
     replace pr := pr.kept bV
     replace vP := vP.kept bV
     replace vD := vD.kept bV
     replace vQ := vQ.kept bV
     replace AM := AM.kept bV
     replace Ay := Ay.kept bV
     rw [← hVe]
     rw [← hXe] at Ax hXx ⊢
     clear hVe hXe bV
     refine hK.out _ _ ⟨arr_range Ay, arr_range AM⟩ (fun hHeld => ?_)
     clear hK K
     refine wpAnyH_ready (rs := [8]) (by kernel_rfl) (by simp) (AllReadyH.cons (o := qOhr3) rfl (fun K hK => ?_) AllReadyH.nil)
     rw [if_pos (by rfl)]
     refine wp_store_mid _ _ _ rfl _ _ (I64 x).toArray rfl rfl (by have := arr_there Ax; simpa [nx] using this) jx (all_oneCell_toArray ux) ?_
     simp only [Act.put]
     replace fr := bel_sc fr Xx (I64 x) (by omega)
     replace pr := pr.sc Xx (I64 x) (by omega)
     replace vP := vP.sc Xx (I64 x) (by omega)
     replace vD := vD.sc Xx (I64 x) (by omega)
     replace vQ := vQ.sc Xx (I64 x) (by omega)
     replace AM := AM.sc Xx (I64 x) (by omega)
     replace Ay := Ay.sc Xx (I64 x) (by omega)
     replace Ax := Ax.sc0 (I64 x) (by simp [nx])
     obtain ⟨V7, hVe⟩ : ∃ V, V = V6.setCells Xx 0 (I64 x) := ⟨_, rfl⟩
     rw [← hVe] at fr pr vP vD vQ AM Ay Ax ⊢
     clear hVe
     refine hK.out _ _ ⟨arr_range Ay, arr_range AM⟩ (fun hHeld => ?_)
     clear hK K
     refine wpAnyH_ready (rs := [9]) (by kernel_rfl) (by simp) (AllReadyH.cons (o := { dst := some 5, op := Op.assign (Operand.tmp 27), type := 4, pos := "l06_point.go:101", after := #[{ on := 6, ground := Ground.data }, { on := 8, ground := Ground.chain }, { on := 0, ground := Ground.phase }, { on := 1, ground := Ground.phase }, { on := 2, ground := Ground.phase }, { on := 3, ground := Ground.phase }, { on := 4, ground := Ground.phase }, { on := 5, ground := Ground.phase }, { on := 6, ground := Ground.phase }, { on := 7, ground := Ground.phase }, { on := 8, ground := Ground.phase }], guard := none }) rfl (fun K hK => ?_) AllReadyH.nil)
     go_simp
     refine hK.out _ _ ⟨arr_range Ay, arr_range AM⟩ (fun hHeld => ?_)
     clear hK K
     refine wpAnyH_done (by kernel_rfl) ?_ _
     go_wp2
     go_meet
     case rel => exact ⟨Xx, rfl, rfl, Ax, fr, pr, vP, vD, vQ, AM, Ay, (by omega), (by omega)⟩
    ·skip
     go_simp
     obtain ⟨V8, hVe⟩ : ∃ V, V = y4.alloc (.cells zV 65) := ⟨_, rfl⟩
     have bV : Below y4.heap.size y4 V8 := by rw [hVe]; exact (Below.refl _ _).alloc (Nat.le_refl _) _
     have Ax : Arr V8 y4.heap.size 65 (I64 Z16) := by rw [hVe]; exact Arr.new _ (I64 Z16) _
     have hXx : w.heap.size < y4.heap.size ∧ XM < y4.heap.size ∧ Xy < y4.heap.size ∧ True := ⟨pr.lt, AM.lt, Ay.lt, trivial⟩
     obtain ⟨Xx, hXe⟩ : ∃ X, X = y4.heap.size := ⟨_, rfl⟩
     replace fr := fr.trans (bV.mono fr.size)
     replace pr := pr.kept bV
     replace vP := vP.kept bV
     replace vD := vD.kept bV
     replace vQ := vQ.kept bV
     replace AM := AM.kept bV
     replace Ay := Ay.kept bV
     rw [← hVe]
     rw [← hXe] at Ax hXx ⊢
     clear hVe hXe bV
     refine hK.out _ _ ⟨arr_range Ay, arr_range AM⟩ (fun hHeld => ?_)
     clear hK K
     refine wpAnyH_ready (rs := [3]) (by kernel_rfl) (by simp) (AllReadyH.cons (o := { dst := some 25, op := Op.call { callee := Callee.value (Operand.func 57), args := #[Operand.tmp 22, Operand.tmp 24], argTypes := #[65, 3] }, type := 88, pos := "l06_point.go:101", after := #[{ on := 0, ground := Ground.data }, { on := 2, ground := Ground.data }, { on := 2, ground := Ground.chain }], guard := none }) rfl (fun K hK => ?_) AllReadyH.nil)
     go_simp
     refine (HCX.out (by simp) _ vP vD vQ).mono ?_
     rintro e y9 ⟨rfl, hb9⟩
     replace fr := fr.trans (hb9.mono fr.size)
     replace pr := pr.kept hb9
     replace vP := vP.kept hb9
     replace vD := vD.kept hb9
     replace vQ := vQ.kept hb9
     replace AM := AM.kept hb9
     replace Ay := Ay.kept hb9
     replace Ax := Ax.kept hb9
     clear hb9
     go_wp2_with fail
     refine hK.out _ _ ⟨arr_range Ay, arr_range AM⟩ (fun hHeld => ?_)
     clear hK K
     refine wpAnyH_take (i := 4) (oi := qOhr0) (v := .tuple #[.agg (I64 x).toArray, .bool r]) rfl (by kernel_rfl) (by kernel_rfl) (by kernel_rfl) (fun _ _ _ h => h) (.inl ⟨by rfl, fun _ _ => by rfl⟩) (by assumption) ?_
     simp only [aP]
     refine wpAnyH_take (i := 5) (oi := qOhr1) (v := .agg (I64 x).toArray) rfl (by kernel_rfl) (by kernel_rfl) (by kernel_rfl) (fun _ _ _ h => h) (.inl ⟨by rfl, fun _ _ => by rfl⟩) (by assumption) ?_
     simp only [aP]
     refine wpAnyH_take (i := 6) (oi := qOhr2) (v := .bool r) rfl (by kernel_rfl) (by kernel_rfl) (by kernel_rfl) (fun _ _ _ h => h) (.inl ⟨by rfl, fun _ _ => by rfl⟩) (by assumption) ?_
     simp only [aP]
     refine wpAnyH_ready (rs := [8]) (by kernel_rfl) (by simp) (AllReadyH.cons (o := qOhr3) rfl (fun K hK => ?_) AllReadyH.nil)
     rw [if_pos (by rfl)]
     refine wp_store_mid _ _ _ rfl _ _ (I64 x).toArray rfl rfl (by have := arr_there Ax; simpa [nx] using this) jx (all_oneCell_toArray ux) ?_
     simp only [Act.put]
     replace fr := bel_sc fr Xx (I64 x) (by omega)
     replace pr := pr.sc Xx (I64 x) (by omega)
     replace vP := vP.sc Xx (I64 x) (by omega)
     replace vD := vD.sc Xx (I64 x) (by omega)
     replace vQ := vQ.sc Xx (I64 x) (by omega)
     replace AM := AM.sc Xx (I64 x) (by omega)
     replace Ay := Ay.sc Xx (I64 x) (by omega)
     replace Ax := Ax.sc0 (I64 x) (by simp [nx])
     obtain ⟨V10, hVe⟩ : ∃ V, V = y9.setCells Xx 0 (I64 x) := ⟨_, rfl⟩
     rw [← hVe] at fr pr vP vD vQ AM Ay Ax ⊢
     clear hVe
     refine hK.out _ _ ⟨arr_range Ay, arr_range AM⟩ (fun hHeld => ?_)
     clear hK K
     refine wpAnyH_ready (rs := [9]) (by kernel_rfl) (by simp) (AllReadyH.cons (o := { dst := some 5, op := Op.assign (Operand.tmp 27), type := 4, pos := "l06_point.go:101", after := #[{ on := 6, ground := Ground.data }, { on := 8, ground := Ground.chain }, { on := 0, ground := Ground.phase }, { on := 1, ground := Ground.phase }, { on := 2, ground := Ground.phase }, { on := 3, ground := Ground.phase }, { on := 4, ground := Ground.phase }, { on := 5, ground := Ground.phase }, { on := 6, ground := Ground.phase }, { on := 7, ground := Ground.phase }, { on := 8, ground := Ground.phase }], guard := none }) rfl (fun K hK => ?_) AllReadyH.nil)
     go_simp
     refine hK.out _ _ ⟨arr_range Ay, arr_range AM⟩ (fun hHeld => ?_)
     clear hK K
     refine wpAnyH_done (by kernel_rfl) ?_ _
     go_wp2
     go_meet
     case rel => exact ⟨Xx, rfl, rfl, Ax, fr, pr, vP, vD, vQ, AM, Ay, (by omega), (by omega)⟩
   ·skip
    go_simp
    obtain ⟨V11, hVe⟩ : ∃ V, V = D3.alloc (.cells zV 65) := ⟨_, rfl⟩
    have bV : Below D3.heap.size D3 V11 := by rw [hVe]; exact (Below.refl _ _).alloc (Nat.le_refl _) _
    have Ax : Arr V11 D3.heap.size 65 (I64 Z16) := by rw [hVe]; exact Arr.new _ (I64 Z16) _
    have hXx : w.heap.size < D3.heap.size ∧ XM < D3.heap.size ∧ Xy < D3.heap.size ∧ True := ⟨pr.lt, AM.lt, Ay.lt, trivial⟩
    obtain ⟨Xx, hXe⟩ : ∃ X, X = D3.heap.size := ⟨_, rfl⟩
    replace fr := fr.trans (bV.mono fr.size)
    replace pr := pr.kept bV
    replace vP := vP.kept bV
    replace vD := vD.kept bV
    replace vQ := vQ.kept bV
    replace AM := AM.kept bV
    replace Ay := Ay.kept bV
    rw [← hVe]
    rw [← hXe] at Ax hXx ⊢
    clear hVe hXe bV
    refine hK.out _ _ ⟨arr_range Ay, arr_range AM⟩ (fun hHeld => ?_)
    clear hK K
    refine wpAnyH_ready (rs := [2]) (by kernel_rfl) (by simp) (AllReadyH.cons (o := { dst := some 24, op := Op.call { callee := Callee.value (Operand.func 42), args := #[Operand.tmp 23, Operand.const (Value.int IntKind.i64 255)], argTypes := #[65, 3] }, type := 3, pos := "l06_point.go:101", after := #[{ on := 1, ground := Ground.data }], guard := none }) rfl (fun K hK => ?_) AllReadyH.nil)
    go_simp
    refine (HBT.out (by simp) _).mono ?_
    rintro e y12 ⟨rfl, hb12⟩
    replace fr := fr.trans (hb12.mono fr.size)
    replace pr := pr.kept hb12
    replace vP := vP.kept hb12
    replace vD := vD.kept hb12
    replace vQ := vQ.kept hb12
    replace AM := AM.kept hb12
    replace Ay := Ay.kept hb12
    replace Ax := Ax.kept hb12
    clear hb12
    go_wp2_with fail
    refine hK.out _ _ ⟨arr_range Ay, arr_range AM⟩ (fun hHeld => ?_)
    clear hK K
    refine wpAnyH_ready (rs := [3]) (by kernel_rfl) (by simp) (AllReadyH.cons (o := { dst := some 25, op := Op.call { callee := Callee.value (Operand.func 57), args := #[Operand.tmp 22, Operand.tmp 24], argTypes := #[65, 3] }, type := 88, pos := "l06_point.go:101", after := #[{ on := 0, ground := Ground.data }, { on := 2, ground := Ground.data }, { on := 2, ground := Ground.chain }], guard := none }) rfl (fun K hK => ?_) AllReadyH.nil)
    go_simp
    refine (HCX.out (by simp) _ vP vD vQ).mono ?_
    rintro e y13 ⟨rfl, hb13⟩
    replace fr := fr.trans (hb13.mono fr.size)
    replace pr := pr.kept hb13
    replace vP := vP.kept hb13
    replace vD := vD.kept hb13
    replace vQ := vQ.kept hb13
    replace AM := AM.kept hb13
    replace Ay := Ay.kept hb13
    replace Ax := Ax.kept hb13
    clear hb13
    go_wp2_with fail
    refine hK.out _ _ ⟨arr_range Ay, arr_range AM⟩ (fun hHeld => ?_)
    clear hK K
    refine wpAnyH_take (i := 4) (oi := qOhr0) (v := .tuple #[.agg (I64 x).toArray, .bool r]) rfl (by kernel_rfl) (by kernel_rfl) (by kernel_rfl) (fun _ _ _ h => h) (.inl ⟨by rfl, fun _ _ => by rfl⟩) (by assumption) ?_
    simp only [aP]
    refine wpAnyH_take (i := 5) (oi := qOhr1) (v := .agg (I64 x).toArray) rfl (by kernel_rfl) (by kernel_rfl) (by kernel_rfl) (fun _ _ _ h => h) (.inl ⟨by rfl, fun _ _ => by rfl⟩) (by assumption) ?_
    simp only [aP]
    refine wpAnyH_take (i := 6) (oi := qOhr2) (v := .bool r) rfl (by kernel_rfl) (by kernel_rfl) (by kernel_rfl) (fun _ _ _ h => h) (.inl ⟨by rfl, fun _ _ => by rfl⟩) (by assumption) ?_
    simp only [aP]
    refine wpAnyH_ready (rs := [8]) (by kernel_rfl) (by simp) (AllReadyH.cons (o := qOhr3) rfl (fun K hK => ?_) AllReadyH.nil)
    rw [if_pos (by rfl)]
    refine wp_store_mid _ _ _ rfl _ _ (I64 x).toArray rfl rfl (by have := arr_there Ax; simpa [nx] using this) jx (all_oneCell_toArray ux) ?_
    simp only [Act.put]
    replace fr := bel_sc fr Xx (I64 x) (by omega)
    replace pr := pr.sc Xx (I64 x) (by omega)
    replace vP := vP.sc Xx (I64 x) (by omega)
    replace vD := vD.sc Xx (I64 x) (by omega)
    replace vQ := vQ.sc Xx (I64 x) (by omega)
    replace AM := AM.sc Xx (I64 x) (by omega)
    replace Ay := Ay.sc Xx (I64 x) (by omega)
    replace Ax := Ax.sc0 (I64 x) (by simp [nx])
    obtain ⟨V14, hVe⟩ : ∃ V, V = y13.setCells Xx 0 (I64 x) := ⟨_, rfl⟩
    rw [← hVe] at fr pr vP vD vQ AM Ay Ax ⊢
    clear hVe
    refine hK.out _ _ ⟨arr_range Ay, arr_range AM⟩ (fun hHeld => ?_)
    clear hK K
    refine wpAnyH_ready (rs := [9]) (by kernel_rfl) (by simp) (AllReadyH.cons (o := { dst := some 5, op := Op.assign (Operand.tmp 27), type := 4, pos := "l06_point.go:101", after := #[{ on := 6, ground := Ground.data }, { on := 8, ground := Ground.chain }, { on := 0, ground := Ground.phase }, { on := 1, ground := Ground.phase }, { on := 2, ground := Ground.phase }, { on := 3, ground := Ground.phase }, { on := 4, ground := Ground.phase }, { on := 5, ground := Ground.phase }, { on := 6, ground := Ground.phase }, { on := 7, ground := Ground.phase }, { on := 8, ground := Ground.phase }], guard := none }) rfl (fun K hK => ?_) AllReadyH.nil)
    go_simp
    refine hK.out _ _ ⟨arr_range Ay, arr_range AM⟩ (fun hHeld => ?_)
    clear hK K
    refine wpAnyH_done (by kernel_rfl) ?_ _
    go_wp2
    go_meet
    case rel => exact ⟨Xx, rfl, rfl, Ax, fr, pr, vP, vD, vQ, AM, Ay, (by omega), (by omega)⟩
  case rest =>
   clear fr pr vP vD vQ AM Ay
   obtain ⟨Xx, rfl, rfl, Ax, fr, pr, vP, vD, vQ, AM, Ay, hq0, hq1⟩ := hcut
   obtain ⟨C15, hwc⟩ : ∃ V, V = wc := ⟨_, rfl⟩
   rw [← hwc] at fr pr vP vD vQ AM Ay Ax ⊢
   clear hwc
   clear AM
   cases r with
   | false =>
    have h2 := pr.row ([.slice none 0 0, .slice none 0 0])
    have HB : Hid _ := setRow_below fr w.heap.size ([.slice none 0 0, .slice none 0 0]).toArray (by omega)
    go_wp2_with (refine wpList_store_row rfl 33 _ _ rfl w.heap.size ([Value.slice none 0 0,  Value.slice none 0 0]).toArray rfl rfl 33 _ pr infoPt rfl (by simp [Value.oneCell']) ?_)
    exact bodyPost_ret (results_row_tmp (v := .bool false) (cs := [.slice none 0 0, .slice none 0 0]) rfl rfl rfl h2 Tryz.underlying33 rfl infoPt) rfl ⟨_, rfl, HN.out (by simp), HB.out⟩
   | true =>
    obtain ⟨eX, eY⟩ := (HRX.out (by simp)).2 (by simp)
    replace eX := eX.symm
    replace eY := eY.symm
    subst eX eY
    go_wp2_with (first
      | (refine wpList_load_row rfl 65 _ rfl Xx rfl 65 (I64 x).toArray (0, 0) _ Ax Tryz.underlying65 rfl jx ?_)
      | (refine wpList_load_row rfl 65 _ rfl Xy rfl 65 (I64 y).toArray (0, 0) _ Ay Tryz.underlying65 rfl jy ?_))
    have hl : w.heap.size < C15.heap.size := pr.lt
    refine (HPO.out _).mono ?_
    rintro e y16 ⟨v, rfl, hpt, hb16⟩
    replace fr := fr.trans (hb16.mono fr.size)
    replace pr := pr.kept hb16
    replace vP := vP.kept hb16
    replace vD := vD.kept hb16
    replace vQ := vQ.kept hb16
    replace Ay := Ay.kept hb16
    replace Ax := Ax.kept hb16
    clear hb16
    obtain ⟨aa, ca, ab, cb, rfl, oa, ob, hap⟩ := hpt
    rw [nx, ny] at hap ⊢
    rw [nx] at oa
    rw [ny] at ob
    have ia := In.of oa
    have ib := In.of ob
    have HB : Hid _ := setRow_below fr w.heap.size ([.slice aa 16 ca, .slice ab 16 cb]).toArray (by omega)
    have h2 := pr.row ([.slice aa 16 ca, .slice ab 16 cb])
    have oa2 := own_rowM oa ia (.inl hl) ([.slice aa 16 ca, .slice ab 16 cb]).toArray
    have ob2 := own_rowM ob ib (.inl hl) ([.slice aa 16 ca, .slice ab 16 cb]).toArray
    go_wp2_with (refine wpList_store_row rfl 33 _ _ rfl w.heap.size ([Value.slice aa 16 ca,  Value.slice ab 16 cb]).toArray rfl rfl 33 _ pr infoPt rfl (by simp [Value.oneCell']) ?_)
    exact bodyPost_ret (results_row_tmp (v := .bool true) (cs := [.slice aa 16 ca, .slice ab 16 cb]) rfl rfl rfl h2 Tryz.underlying33 rfl infoPt) rfl ⟨_, rfl, ptT_16 nx ny (own_base oa2 (by omega)) (own_base ob2 (by omega)) hap, HB.out⟩

end Go.Proofs.YtihoaakbkffejaaGreatDoor
