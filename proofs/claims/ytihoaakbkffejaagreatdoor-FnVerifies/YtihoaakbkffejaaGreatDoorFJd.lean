/-
  What is proved here: contracts of the program's methods fieldSum and fieldDifference: the sum; the contract of the program's method times on limbs: the columns of a; contracts of the program's methods fieldSettled and fieldProduct: limbs.
-/
import Derived.Test.YtihoaakbkffejaaGreatDoorFJn
import Derived.Test.YtihoaakbkffejaaGreatDoorFFsc
import Derived.Test.YtihoaakbkffejaaGreatDoorFYe
namespace Go.Proofs.YtihoaakbkffejaaGreatDoor
open Go.RowKit
set_option maxRecDepth 100000

structure L4 (w W : World) (a b : List Int) : Prop where
 l3 : L3 w W a b
 vr : Vr W 4 (I64 PL)
 g0 : 4 < w.heap.size
theorem L4.go {w A B : World} {a b : List Int} (h : L4 w A a b) (hb : Below A.heap.size A B) : L4 w B a b := ⟨h.l3.go hb, h.vr.kept hb, h.g0⟩
theorem L4.all {w W : World} {a b : List Int} (h : L4 w W a b) : W.rangeAt w.heap.size 0 (I64 a) ∧ W.rangeAt (w.heap.size + 1) 0 (I64 b) ∧ W.rangeAt 4 0 (I64 PL) := ⟨arr_range h.l3.pa, arr_range h.l3.pb, vr_range h.vr⟩
theorem L4.new {w : World} (a b : List Int) (h : Vr w 4 (I64 PL)) : L4 w (((w.alloc (.cells (I64 a).toArray 65)).alloc (.cells (I64 b).toArray 65)).alloc (.cells (I64 Z16).toArray 65)) a b :=
 ⟨L3.new w a b, h.kept (L3.new w a b).fr, h.lt⟩
theorem L4.put {w W : World} {a b R : List Int} (h : L4 w W a b) (hR : R.length = 16) : Arr (W.setCells (w.heap.size + 1 + 1) 0 (I64 R)) (w.heap.size + 1 + 1) 65 (I64 R) ∧ Below w.heap.size w (W.setCells (w.heap.size + 1 + 1) 0 (I64 R)) ∧
  ((W.setCells (w.heap.size + 1 + 1) 0 (I64 R)).rangeAt w.heap.size 0 (I64 a) ∧ (W.setCells (w.heap.size + 1 + 1) 0 (I64 R)).rangeAt (w.heap.size + 1) 0 (I64 b) ∧ (W.setCells (w.heap.size + 1 + 1) 0 (I64 R)).rangeAt 4 0 (I64 PL)) ∧ W.there (w.heap.size + 1 + 1) 0 (I64 R).toArray.size := by
 have hg := h.l3.pa.lt
 have h0 : 4 ≠ w.heap.size + 1 + 1 := by have := h.g0; omega
 exact ⟨Arr.setCells0 h.l3.pr (by simp [hR]), setCells_below (by omega) _ _ h.l3.fr, ⟨arr_range (Arr.setCellsO (by omega) _ _ h.l3.pa), arr_range (Arr.setCellsO (by omega) _ _ h.l3.pb), vr_range (Vr.setCellsO h0 h.vr)⟩, by have := arr_there h.l3.pr; simpa [hR] using this⟩
theorem less_of {x v : Int} (h0 : 0 ≤ x) (h1 : x < 2 * P25519) (h2 : x % P25519 = v % P25519) : lim 16 (if val (lim 16 x) < val PL then val (lim 16 x) else val (lim 16 x) - val PL) = red v := by
 have h3 : x < 115792089237316195423570985008687907853269984665640564039457584007913129639936 := by unfold P25519 at h1; omega
 rw [val_pl h0 h3, PL_val]
 have := less_red h0 h1 h2
 by_cases h : x < P25519
 ·rw [if_pos h]; exact this.1 h
 ·rw [if_neg h]; exact this.2 h

set_option maxHeartbeats 2000000 in
theorem implSum (a b : List Int) (w : World) (ha : feOk a = true) (hb : feOk b = true) (hV : Vr w 4 (I64 PL)) :
  Calls Tryz.prog 100 #[.agg (I64 a).toArray, .agg (I64 b).toArray] w fun e w' => e = .returned (.agg (I64 (red (val a + val b))).toArray) ∧ Below w.heap.size w w' := by
 obtain ⟨la16, la, va⟩ := (feOk_iff a).1 ha
 obtain ⟨lb16, lb, vb⟩ := (feOk_iff b).1 hb
 have na := val_nonneg (fun x hx => (la x hx).1)
 have nb := val_nonneg (fun x hx => (lb x hx).1)
 obtain ⟨R, hR⟩ : ∃ R, R = red (val a + val b) := ⟨_, rfl⟩
 have hRl : R.length = 16 := by rw [hR]; exact red_len _
 obtain ⟨S, hS⟩ : ∃ S, S = lim 16 (val a + val b) := ⟨_, rfl⟩
 have hSl : S.length = 16 := by rw [hS]; exact lim_len _ _
 have HPL : Hid (∀ Z, Calls Tryz.prog 125 #[.agg (I64 a).toArray, .agg (I64 b).toArray] Z fun e w' => e = .returned (.agg (I64 S).toArray) ∧ Below Z.heap.size Z w') := by
  unfold Hid; intro Z
  have := implPlus a b Z la16 lb16 la lb
  rw [plus_lim la16 lb16 (by omega) (by unfold P25519 at va vb; omega), ← hS] at this
  exact this
 have HLS : Hid (∀ Z, Calls Tryz.prog 126 #[.agg (I64 S).toArray, .agg (I64 PL).toArray] Z fun e w' => e = .returned (.agg (I64 R).toArray) ∧ Below Z.heap.size Z w') := by
  unfold Hid; intro Z
  have := implLess S PL Z hSl PL_len (by rw [hS]; exact lim_lm _ _) PL_lm
  rw [hS, less_of (v := val a + val b) (by omega) (by omega) rfl, ← hS, ← hR] at this
  exact this
 rw [← hR]
 obtain ⟨W, hW⟩ : ∃ W, W = ((w.alloc (.cells (I64 a).toArray 65)).alloc (.cells (I64 b).toArray 65)).alloc (.cells zV 65) := ⟨_, rfl⟩
 have EE : L4 w W.drew a b := by
  have : L4 w W a b := by rw [hW]; exact L4.new a b hV
  exact this.go (Below.refl _ _).drew
 obtain ⟨A, hA⟩ : ∃ A, A = (I64 a).toArray := ⟨_, rfl⟩
 obtain ⟨B, hB⟩ : ∃ B, B = (I64 b).toArray := ⟨_, rfl⟩
 rw [← hA, ← hB] at hW ⊢
 have hone := one_lm R
 have hu : Tryz.prog.underlying 65 = some (.array 16 3) := Tryz.underlying65
 have hia : (Tryz.prog.info? 65).map (·.size) = some (I64 a).length := by simpa [la16] using infoL
 have hib : (Tryz.prog.info? 65).map (·.size) = some (I64 b).length := by simpa [lb16] using infoL
 have hip : (Tryz.prog.info? 65).map (·.size) = some (I64 PL).length := infoL
 have hir : (Tryz.prog.info? 65).map (·.size) = some (I64 R).toArray.size := by simpa [hRl] using infoL
 clear ha hb la lb va vb na nb hR hS hA hB hV
 go_enter Tryz.func100, Tryz.ntmps100
 go_wp2
 rw [← hW]
 clear hW
 refine wp_region_held_drew (S := fun W => W.rangeAt w.heap.size 0 (I64 a) ∧ W.rangeAt (w.heap.size + 1) 0 (I64 b) ∧ W.rangeAt 4 0 (I64 PL)) (by kernel_rfl) EE.all (fun hHeld => ?_)
 refine wpAnyH_take (i := 0) (oi := { dst := some 5, op := Op.load 65 (Operand.tmp 2), type := 65, pos := "l04_field.go:205", after := #[], guard := none }) (v := _) rfl (by kernel_rfl) (by kernel_rfl) (by kernel_rfl) (fun _ _ _ h => h) (yieldsIf_load_mid (by rfl) _ _ rfl _ _ rfl (I64 a) _ (fun _ h => h.1) hu rfl hia) (by assumption) ?_
 simp only [aP]
 refine wpAnyH_take (i := 1) (oi := { dst := some 6, op := Op.load 65 (Operand.tmp 3), type := 65, pos := "l04_field.go:205", after := #[], guard := none }) (v := _) rfl (by kernel_rfl) (by kernel_rfl) (by kernel_rfl) (fun _ _ _ h => h) (yieldsIf_load_mid (by rfl) _ _ rfl _ _ rfl (I64 b) _ (fun _ h => h.2.1) hu rfl hib) (by assumption) ?_
 simp only [aP]
 refine wpAnyH_take (i := 3) (oi := { dst := some 8, op := Op.load 65 (Operand.global 4), type := 65, pos := "l04_field.go:205", after := #[], guard := none }) (v := _) rfl (by kernel_rfl) (by kernel_rfl) (by kernel_rfl) (fun _ _ _ h => h) (yieldsIf_load_mid (by rfl) _ _ rfl _ _ rfl (I64 PL) _ (fun _ h => h.2.2) hu rfl hip) (by assumption) ?_
 simp only [aP]
 refine wpAnyH_ready (rs := [2]) (by kernel_rfl) (by simp) (AllReadyH.cons (o := { dst := some 7, op := Op.call { callee := Callee.value (Operand.func 125), args := #[Operand.tmp 5, Operand.tmp 6], argTypes := #[65, 65] }, type := 65, pos := "l04_field.go:205", after := #[{ on := 0, ground := Ground.data }, { on := 1, ground := Ground.data }], guard := none }) rfl (fun K hK => ?_) AllReadyH.nil)
 go_simp
 refine (HPL.out _).mono ?_
 rintro e w1 ⟨rfl, hb1⟩
 replace EE := EE.go hb1
 go_wp2_with fail
 refine hK.out _ _ EE.all (fun hHeld => ?_)
 clear hK K hb1
 refine wpAnyH_ready (rs := [4]) (by kernel_rfl) (by simp) (AllReadyH.cons (o := { dst := some 9, op := Op.call { callee := Callee.value (Operand.func 126), args := #[Operand.tmp 7, Operand.tmp 8], argTypes := #[65, 65] }, type := 65, pos := "l04_field.go:205", after := #[{ on := 2, ground := Ground.data }, { on := 3, ground := Ground.data }, { on := 2, ground := Ground.chain }], guard := none }) rfl (fun K hK => ?_) AllReadyH.nil)
 go_simp
 refine (HLS.out _).mono ?_
 rintro e w2 ⟨rfl, hb2⟩
 replace EE := EE.go hb2
 go_wp2_with fail
 refine hK.out _ _ EE.all (fun hHeld => ?_)
 clear hK K hb2
 obtain ⟨hA5, hB5, hS5, hth⟩ := EE.put hRl
 refine wpAnyH_ready (rs := [5]) (by kernel_rfl) (by simp) (AllReadyH.cons (o := { dst := none, op := Op.store 65 (Operand.tmp 4) (Operand.tmp 9), type := 0, pos := "l04_field.go:205", after := #[{ on := 4, ground := Ground.data }, { on := 4, ground := Ground.chain }, { on := 0, ground := Ground.phase }, { on := 1, ground := Ground.phase }, { on := 2, ground := Ground.phase }, { on := 3, ground := Ground.phase }, { on := 4, ground := Ground.phase }], guard := none }) rfl (fun K hK => ?_) AllReadyH.nil)
 rw [if_pos (by rfl)]
 refine wp_store_mid _ _ _ rfl _ _ (I64 R).toArray rfl rfl hth hir (all_oneCell_toArray hone) ?_
 simp only [Act.put]
 refine hK.out _ _ hS5 (fun hHeld => ?_)
 clear hK K
 refine wpAnyH_done (by kernel_rfl) ?_ _
 go_wp2
 exact bodyPost_ret (results_cell_row rfl _ _ (w.heap.size + 1 + 1) 65 (I64 R).toArray (0, 0) _ rfl hA5 Tryz.underlying65 rfl hir) rfl ⟨rfl, hB5⟩

set_option maxHeartbeats 2000000 in
theorem implDiff (a b : List Int) (w : World) (ha : feOk a = true) (hb : feOk b = true) (hV : Vr w 4 (I64 PL)) :
  Calls Tryz.prog 99 #[.agg (I64 a).toArray, .agg (I64 b).toArray] w fun e w' => e = .returned (.agg (I64 (red (val a - val b))).toArray) ∧ Below w.heap.size w w' := by
 obtain ⟨la16, la, va⟩ := (feOk_iff a).1 ha
 obtain ⟨lb16, lb, vb⟩ := (feOk_iff b).1 hb
 have na := val_nonneg (fun x hx => (la x hx).1)
 have nb := val_nonneg (fun x hx => (lb x hx).1)
 obtain ⟨R, hR⟩ : ∃ R, R = red (val a - val b) := ⟨_, rfl⟩
 have hRl : R.length = 16 := by rw [hR]; exact red_len _
 obtain ⟨d, hd⟩ : ∃ d, d = decide (val a < val b) := ⟨_, rfl⟩
 obtain ⟨S, hS⟩ : ∃ S, S = lim 16 (val a + P25519) := ⟨_, rfl⟩
 have hSl : S.length = 16 := by rw [hS]; exact lim_len _ _
 have HBW : Hid (∀ Z, Calls Tryz.prog 97 #[.agg (I64 a).toArray, .agg (I64 b).toArray] Z fun e w' => e = .returned (.bool d) ∧ Below Z.heap.size Z w') := by
  unfold Hid; intro Z; rw [hd]; exact implBelow a b Z la16 lb16 la lb
 have HPL : Hid (∀ Z, Calls Tryz.prog 125 #[.agg (I64 a).toArray, .agg (I64 PL).toArray] Z fun e w' => e = .returned (.agg (I64 S).toArray) ∧ Below Z.heap.size Z w') := by
  unfold Hid; intro Z
  have := implPlus a PL Z la16 PL_len la PL_lm
  rw [plus_lim la16 PL_len (by rw [PL_val]; unfold P25519; omega) (by rw [PL_val]; unfold P25519 at va ⊢; omega), PL_val, ← hS] at this
  exact this
 have HM1 : Hid (d = true → ∀ Z, Calls Tryz.prog 129 #[.agg (I64 S).toArray, .agg (I64 b).toArray] Z fun e w' => e = .returned (.agg (I64 R).toArray) ∧ Below Z.heap.size Z w') := by
  unfold Hid; intro h Z
  have h' : val a < val b := by rw [hd] at h; simpa using h
  have hv : val S = val a + P25519 := by rw [hS]; exact val_pl (by unfold P25519; omega) (by unfold P25519 at va ⊢; omega)
  have := implMinus S b Z hSl lb16 (by rw [hS]; exact lim_lm _ _) lb
  rw [minus_lim hSl lb16 (by rw [hv]; omega) (by rw [hv]; unfold P25519 at va ⊢; omega), hv] at this
  have e : lim 16 (val a + P25519 - val b) = R := by
   rw [hR]
   unfold red
   congr 1
   unfold P25519 at va vb ⊢
   omega
  rw [e] at this
  exact this
 have HM2 : Hid (d = false → ∀ Z, Calls Tryz.prog 129 #[.agg (I64 a).toArray, .agg (I64 b).toArray] Z fun e w' => e = .returned (.agg (I64 R).toArray) ∧ Below Z.heap.size Z w') := by
  unfold Hid; intro h Z
  have h' : ¬ val a < val b := by rw [hd] at h; simpa using h
  have := implMinus a b Z la16 lb16 la lb
  rw [minus_lim la16 lb16 (by omega) (by unfold P25519 at va; omega)] at this
  have e : lim 16 (val a - val b) = R := by
   rw [hR]
   unfold red
   congr 1
   unfold P25519 at va vb ⊢
   omega
  rw [e] at this
  exact this
 rw [← hR]
 obtain ⟨W, hW⟩ : ∃ W, W = ((w.alloc (.cells (I64 a).toArray 65)).alloc (.cells (I64 b).toArray 65)).alloc (.cells zV 65) := ⟨_, rfl⟩
 have EE : L4 w W a b := by rw [hW]; exact L4.new a b hV
 obtain ⟨A, hA⟩ : ∃ A, A = (I64 a).toArray := ⟨_, rfl⟩
 obtain ⟨B, hB⟩ : ∃ B, B = (I64 b).toArray := ⟨_, rfl⟩
 rw [← hA, ← hB] at hW ⊢
 have hia : (Tryz.prog.info? 65).map (·.size) = some (I64 a).toArray.size := by simpa [la16] using infoL
 have hib : (Tryz.prog.info? 65).map (·.size) = some (I64 b).toArray.size := by simpa [lb16] using infoL
 have hip : (Tryz.prog.info? 65).map (·.size) = some (I64 PL).toArray.size := infoL
 have hir : (Tryz.prog.info? 65).map (·.size) = some (I64 R).toArray.size := by simpa [hRl] using infoL
 have his : (Tryz.prog.info? 65).map (·.size) = some (I64 S).toArray.size := by simpa [hSl] using infoL
 clear ha hb la lb va vb na nb hR hS hA hB hV hd
 have E0 := hW ▸ EE
 go_enter Tryz.func99, Tryz.ntmps99
 go_wp2_with (first
  | (refine wpList_load_row rfl 65 _ rfl w.heap.size rfl 65 (I64 a).toArray (0, 0) _ E0.l3.pa Tryz.underlying65 rfl hia ?_)
  | (refine wpList_load_row rfl 65 _ rfl (w.heap.size + 1) rfl 65 (I64 b).toArray (0, 0) _ E0.l3.pb Tryz.underlying65 rfl hib ?_))
 rw [← hW]
 clear hW E0
 refine (HBW.out _).mono ?_
 rintro e w1 ⟨rfl, hb1⟩
 replace EE := EE.go hb1
 clear hb1 HBW
 cases d with
 | true =>
  have hm := HM1.out rfl
  have HM : Hid _ := hm
  clear HM1 HM2 hm
  obtain ⟨gt, gz, hg⟩ := EE.vr
  go_wp2_with (first
   | (refine wpList_load_row rfl 65 _ rfl w.heap.size rfl 65 (I64 a).toArray (0, 0) _ EE.l3.pa Tryz.underlying65 rfl hia ?_)
   | (refine wpList_load_row rfl 65 _ rfl 4 rfl gt (I64 PL).toArray gz _ hg Tryz.underlying65 rfl hip ?_))
  clear hg
  refine (HPL.out _).mono ?_
  rintro e w2 ⟨rfl, hb2⟩
  replace EE := EE.go hb2
  clear hb2 HPL
  have pa := EE.l3.pa.row (I64 S)
  have pb := EE.l3.pb.rowOther w.heap.size (I64 S).toArray (by omega)
  have pr := EE.l3.pr.rowOther w.heap.size (I64 S).toArray (by omega)
  have fr := setRow_below EE.l3.fr w.heap.size (I64 S).toArray (Nat.le_refl _)
  go_wp2_with (first
   | (refine wpList_store_row rfl 65 _ _ rfl w.heap.size (I64 S).toArray rfl rfl 65 _ EE.l3.pa his (by simp [hSl, la16]) (by simp [Value.oneCell']) ?_)
   | (refine wpList_load_row rfl 65 _ rfl w.heap.size rfl 65 (I64 S).toArray (0, 0) _ pa Tryz.underlying65 rfl his ?_)
   | (refine wpList_load_row rfl 65 _ rfl (w.heap.size + 1) rfl 65 (I64 b).toArray (0, 0) _ pb Tryz.underlying65 rfl hib ?_))
  refine (HM.out _).mono ?_
  rintro e w3 ⟨rfl, hb3⟩
  have pr3 := pr.kept hb3
  have fr3 := fr.trans (hb3.mono fr.size)
  clear hb3 HM pa pb pr fr EE
  have hr := pr3.row (I64 R)
  have hbl := setRow_below fr3 (w.heap.size + 2) (I64 R).toArray (by omega)
  go_wp2_with (refine wpList_store_row rfl 65 _ _ rfl (w.heap.size + 2) (I64 R).toArray rfl rfl 65 _ pr3 hir (by simp [hRl]) (by simp [Value.oneCell']) ?_)
  exact bodyPost_ret (results_cell_row rfl _ _ (w.heap.size + 2) 65 (I64 R).toArray (0, 0) _ rfl hr Tryz.underlying65 rfl hir) rfl ⟨rfl, hbl⟩
 | false =>
  have hm := HM2.out rfl
  have HM : Hid _ := hm
  clear HM1 HM2 hm HPL
  go_wp2_with (first
   | (refine wpList_load_row rfl 65 _ rfl w.heap.size rfl 65 (I64 a).toArray (0, 0) _ EE.l3.pa Tryz.underlying65 rfl hia ?_)
   | (refine wpList_load_row rfl 65 _ rfl (w.heap.size + 1) rfl 65 (I64 b).toArray (0, 0) _ EE.l3.pb Tryz.underlying65 rfl hib ?_))
  refine (HM.out _).mono ?_
  rintro e w2 ⟨rfl, hb2⟩
  replace EE := EE.go hb2
  clear hb2 HM
  have hr := EE.l3.pr.row (I64 R)
  have hbl := setRow_below EE.l3.fr (w.heap.size + 2) (I64 R).toArray (by omega)
  go_wp2_with (refine wpList_store_row rfl 65 _ _ rfl (w.heap.size + 2) (I64 R).toArray rfl rfl 65 _ EE.l3.pr hir (by simp [hRl]) (by simp [Value.oneCell']) ?_)
  exact bodyPost_ret (results_cell_row rfl _ _ (w.heap.size + 2) 65 (I64 R).toArray (0, 0) _ rfl hr Tryz.underlying65 rfl hir) rfl ⟨rfl, hbl⟩
theorem infoC : (Tryz.prog.info? 169).map (·.size) = some 32 := by kernel_rfl
theorem mul_limb {x y : Int} (hx0 : 0 ≤ x) (hx1 : x < 65536) (hy0 : 0 ≤ y) (hy1 : y < 65536) : 0 ≤ x * y ∧ x * y ≤ 4294836225 := by
 refine ⟨Int.mul_nonneg hx0 hy0, ?_⟩
 have h1 : x * y ≤ 65535 * y := Int.mul_le_mul_of_nonneg_right (by omega) hy0
 omega

set_option maxHeartbeats 4000000 in
theorem implTimes (a b : List Int) (w : World) (ha : a.length = 16) (hb : b.length = 16) (la : Lm a) (lb : Lm b) :
  Calls Tryz.prog 124 #[.agg (I64 a).toArray, .agg (I64 b).toArray] w fun e w' => ∃ t, e = .returned (.agg (I64 t).toArray) ∧ Tq a b t 16 0 ∧ Below w.heap.size w w' := by
 obtain ⟨A, hA⟩ : ∃ A, A = (I64 a).toArray := ⟨_, rfl⟩
 obtain ⟨B, hB⟩ : ∃ B, B = (I64 b).toArray := ⟨_, rfl⟩
 rw [← hA, ← hB]
 obtain ⟨W, hW⟩ : ∃ W, W = (((w.alloc (.cells A 65)).alloc (.cells B 65)).alloc (.cells #[.int .i64 0, .int .i64 0, .int .i64 0, .int .i64 0, .int .i64 0, .int .i64 0, .int .i64 0, .int .i64 0, .int .i64 0, .int .i64 0, .int .i64 0, .int .i64 0, .int .i64 0, .int .i64 0, .int .i64 0, .int .i64 0, .int .i64 0, .int .i64 0, .int .i64 0, .int .i64 0, .int .i64 0, .int .i64 0, .int .i64 0, .int .i64 0, .int .i64 0, .int .i64 0, .int .i64 0, .int .i64 0, .int .i64 0, .int .i64 0, .int .i64 0, .int .i64 0] 169)).alloc (.cells #[.int .i64 0, .int .i64 0, .int .i64 0, .int .i64 0, .int .i64 0, .int .i64 0, .int .i64 0, .int .i64 0, .int .i64 0, .int .i64 0, .int .i64 0, .int .i64 0, .int .i64 0, .int .i64 0, .int .i64 0, .int .i64 0, .int .i64 0, .int .i64 0, .int .i64 0, .int .i64 0, .int .i64 0, .int .i64 0, .int .i64 0, .int .i64 0, .int .i64 0, .int .i64 0, .int .i64 0, .int .i64 0, .int .i64 0, .int .i64 0, .int .i64 0, .int .i64 0] 169) := ⟨_, rfl⟩
 have h0 : Arr W w.heap.size 65 (I64 a) := by rw [hW, hA]; exact (((Arr.new w (I64 a) _).alloc _).alloc _).alloc _
 have h1 : Arr W (w.heap.size + 1) 65 (I64 b) := by
  rw [hW, hB]
  have := ((Arr.new (w.alloc (.cells A 65)) (I64 b) 65).alloc (.cells (I64 Z32).toArray 169)).alloc (.cells (I64 Z32).toArray 169)
  rw [World.size_alloc] at this
  exact this
 have h2 : Arr W (w.heap.size + 2) 169 (I64 Z32) := by
  rw [hW]
  have := (Arr.new ((w.alloc (.cells A 65)).alloc (.cells B 65)) (I64 Z32) 169).alloc (.cells (I64 Z32).toArray 169)
  rw [World.size_alloc, World.size_alloc] at this
  exact this
 have h3 : Arr W (w.heap.size + 3) 169 (I64 Z32) := by
  rw [hW]
  have := Arr.new (((w.alloc (.cells A 65)).alloc (.cells B 65)).alloc (.cells (I64 Z32).toArray 169)) (I64 Z32) 169
  rw [World.size_alloc, World.size_alloc, World.size_alloc] at this
  exact this
 have hBl : Below w.heap.size w W := by rw [hW]; exact ((((Below.refl _ _).alloc (Nat.le_refl _) _).alloc (by simp) _).alloc (by simp; omega) _).alloc (by simp; omega) _
 have hia : (Tryz.prog.info? 65).map (·.size) = some (I64 a).toArray.size := by simpa [ha] using infoL
 have hib : (Tryz.prog.info? 65).map (·.size) = some (I64 b).toArray.size := by simpa [hb] using infoL
 have h0' := hW ▸ h0
 clear hA hB
 go_enter Tryz.func124, Tryz.ntmps124
 go_wp2_with (refine wpList_load_row rfl 65 _ rfl w.heap.size rfl 65 (I64 a).toArray (0, 0) _ h0' Tryz.underlying65 rfl hia ?_)
 rw [← hW]
 clear hW h0'
 go_loopw [11] (fun i wr => ∃ (k : Nat) (t : List Int), k ≤ 16 ∧ i = .int .i64 k ∧ Tq a b t k 0 ∧ Arr wr (w.heap.size + 1) 65 (I64 b) ∧ Arr wr (w.heap.size + 2) 169 (I64 Z32) ∧ Arr wr (w.heap.size + 3) 169 (I64 t) ∧ Below w.heap.size w wr) (fun i _ => 16 - (intOf i).toNat)
 case atStart => exact ⟨0, Z32, by omega, rfl, Tq.zero a b, h1, h2, h3, hBl⟩
 case round =>
  clear h0 h1 h2 h3 hBl
  obtain ⟨i, t, hi, rfl, TP, h1, h2, h3, hBl⟩ := hrel
  by_cases hi16 : i < 16
  ·have hi' : (i : Int) < 16 := by omega
   have ix := fun w => index_arr Tryz.underlying65 Tryz.underlying3 infoL1 a ha i hi16 w
   obtain ⟨x, hx⟩ : ∃ x, x = a.getD i 0 := ⟨_, rfl⟩
   rw [← hx] at ix
   have bx := gD_lm la i
   rw [← hx] at bx
   have HX : Hid _ := hx
   clear hx
   go_wp2_with (refine wpList_load_row rfl 65 _ rfl (w.heap.size + 1) rfl 65 (I64 b).toArray (0, 0) _ h1 Tryz.underlying65 rfl hib ?_)
   clear ix
   go_loopw [16] (fun c wr => ∃ (k : Nat) (t : List Int), k ≤ 16 ∧ c = .int .i64 k ∧ Tq a b t i k ∧ Arr wr (w.heap.size + 1) 65 (I64 b) ∧ Arr wr (w.heap.size + 2) 169 (I64 Z32) ∧ Arr wr (w.heap.size + 3) 169 (I64 t) ∧ Below w.heap.size w wr) (fun c _ => 16 - (intOf c).toNat)
   case atStart => exact ⟨0, t, by omega, rfl, TP, h1, h2, h3, hBl⟩
   case round =>
    clear h1 h2 h3 hBl TP t
    obtain ⟨k, t, hk, rfl, TP, h1, h2, h3, hBl⟩ := hrel
    by_cases hk16 : k < 16
    ·have iy := fun w => index_arr Tryz.underlying65 Tryz.underlying3 infoL1 b hb k hk16 w
     obtain ⟨y, hy⟩ : ∃ y, y = b.getD k 0 := ⟨_, rfl⟩
     rw [← hy] at iy
     obtain ⟨z, hz⟩ : ∃ z, z = t.getD (i + k) 0 := ⟨_, rfl⟩
     have by' := gD_lm lb k
     have bz := TP.get (i + k)
     rw [← hy] at by'
     rw [← hz] at bz
     have htl := TP.len
     have cz : wr.cell? ⟨w.heap.size + 3, i + k, none⟩ = some (.int .i64 z) := by rw [hz]; exact h3.i64 (i + k) (by omega)
     have hpb := mul_limb bx.1 bx.2 by'.1 by'.2
     have TP2 := TP.step hi16 (by omega) hk16 (p := x * y) (by rw [HX.out, hy]) hpb.1 hpb.2
     rw [← hz] at TP2
     obtain ⟨p, hp⟩ : ∃ p, p = x * y := ⟨_, rfl⟩
     rw [← hp] at TP2 hpb
     have s0 : IntKind.i64.wrap (x * y) = p := by rw [← hp, IntKind.wrap_i64]; omega
     have s1 : IntKind.i64.wrap (z + p) = z + p := by rw [IntKind.wrap_i64]; omega
     have s2 : IntKind.i64.wrap ((i : Int) + (k : Int)) = (i : Int) + (k : Int) := by rw [IntKind.wrap_i64]; omega
     have s3 : ((i : Int) + (k : Int)).toNat = i + k := by omega
     have s4 : (i : Int) + (k : Int) < 32 := by omega
     have s5 : (0 : Int) ≤ (i : Int) + (k : Int) := by omega
     have hk' : (k : Int) < 16 := by omega
     have hfz := h3.frozen (i + k)
     have e : (I64 t).set (i + k) (.int .i64 (z + p)) = I64 (t.set (i + k) (z + p)) := by simp
     have h3' := h3.set (i + k) (.int .i64 (z + p))
     rw [e] at h3'
     have h1' := h1.other ⟨w.heap.size + 3, i + k, none⟩ (.int .i64 (z + p)) (by simp)
     have h2' := h2.other ⟨w.heap.size + 3, i + k, none⟩ (.int .i64 (z + p)) (by simp)
     have hb' := hBl.setCell (p := ⟨w.heap.size + 3, i + k, none⟩) (by simp) (.int .i64 (z + p))
     have H1 : Hid _ := h1'
     have H2 : Hid _ := h2'
     have H3 : Hid _ := h3'
     have HB : Hid _ := hb'
     have HT : Hid _ := TP2
     clear h1' h2' h3' hb' e h1 h2 h3 hBl hy hz TP TP2 hp htl
     go_wp2
     go_roundw
     case rel => exact ⟨k + 1, _, by omega, by go_num, HT.out, H1.out, H2.out, H3.out, HB.out⟩
     case measure => simp [intOf]; omega
    ·obtain rfl : k = 16 := by omega
     have TP2 := TP.row hb (by omega)
     clear TP
     go_wp2
     go_roundw
     case rel => exact ⟨i + 1, t, by omega, by go_num, TP2, h1, h2, h3, hBl⟩
     case measure => simp [intOf]; omega
  ·obtain rfl : i = 16 := by omega
   have htl := TP.len
   have hit : (Tryz.prog.info? 169).map (·.size) = some (I64 t).toArray.size := by simpa [htl] using infoC
   have hr := h2.row (I64 t)
   have hbl := setRow_below hBl (w.heap.size + 2) (I64 t).toArray (by omega)
   have HT : Hid _ := TP
   clear TP
   go_wp2_with (first
    | (refine wpList_load_row rfl 169 _ rfl (w.heap.size + 3) rfl 169 (I64 t).toArray (0, 0) _ h3 Tryz.underlying169 rfl hit ?_)
    | (refine wpList_store_row rfl 169 _ _ rfl (w.heap.size + 2) (I64 t).toArray rfl rfl 169 _ h2 hit (by simp [htl]) (by simp [Value.oneCell']) ?_))
   exact bodyPost_ret (results_cell_row rfl _ _ (w.heap.size + 2) 169 (I64 t).toArray (0, 0) _ rfl hr Tryz.underlying169 rfl hit) rfl ⟨t, rfl, HT.out, hbl⟩
structure L2 (w W : World) (a : List Int) : Prop where
 fr : Below w.heap.size w W
 pa : Arr W w.heap.size 65 (I64 a)
 pr : Arr W (w.heap.size + 1) 65 (I64 Z16)
 vr : Vr W 4 (I64 PL)
 g0 : 4 < w.heap.size
theorem L2.go {w A B : World} {a : List Int} (h : L2 w A a) (hb : Below A.heap.size A B) : L2 w B a := ⟨h.fr.trans (hb.mono h.fr.size), h.pa.kept hb, h.pr.kept hb, h.vr.kept hb, h.g0⟩
theorem L2.all {w W : World} {a : List Int} (h : L2 w W a) : W.rangeAt w.heap.size 0 (I64 a) ∧ W.rangeAt 4 0 (I64 PL) := ⟨arr_range h.pa, vr_range h.vr⟩
theorem L2.new {w : World} (a : List Int) (h : Vr w 4 (I64 PL)) : L2 w ((w.alloc (.cells (I64 a).toArray 65)).alloc (.cells (I64 Z16).toArray 65)) a := by
 have hb : Below w.heap.size w ((w.alloc (.cells (I64 a).toArray 65)).alloc (.cells (I64 Z16).toArray 65)) := ((Below.refl _ _).alloc (Nat.le_refl _) _).alloc (by simp) _
 refine ⟨hb, (Arr.new w (I64 a) _).alloc _, ?_, h.kept hb, h.lt⟩
 have := Arr.new (w.alloc (.cells (I64 a).toArray 65)) (I64 Z16) 65
 rw [World.size_alloc] at this
 exact this
theorem L2.put {w W : World} {a R : List Int} (h : L2 w W a) (hR : R.length = 16) : Arr (W.setCells (w.heap.size + 1) 0 (I64 R)) (w.heap.size + 1) 65 (I64 R) ∧ Below w.heap.size w (W.setCells (w.heap.size + 1) 0 (I64 R)) ∧
  ((W.setCells (w.heap.size + 1) 0 (I64 R)).rangeAt w.heap.size 0 (I64 a) ∧ (W.setCells (w.heap.size + 1) 0 (I64 R)).rangeAt 4 0 (I64 PL)) ∧ W.there (w.heap.size + 1) 0 (I64 R).toArray.size := by
 have h0 : 4 ≠ w.heap.size + 1 := by have := h.g0; omega
 exact ⟨Arr.setCells0 h.pr (by simp [hR]), setCells_below (by omega) _ _ h.fr, ⟨arr_range (Arr.setCellsO (by omega) _ _ h.pa), vr_range (Vr.setCellsO h0 h.vr)⟩, by have := arr_there h.pr; simpa [hR] using this⟩
theorem i64_and15 {x : Int} (h0 : 0 ≤ x) (h1 : x < 9223372036854775808) : bits .and .i64 x 32767 = x % 32768 := i64_low15 h0 h1

set_option maxHeartbeats 4000000 in
theorem implSettled (l : List Int) (w : World) (hl : l.length = 16) (hg : Gq l) (hV : Vr w 4 (I64 PL)) :
  Calls Tryz.prog 128 #[.agg (I64 l).toArray] w fun e w' => e = .returned (.agg (I64 (red (val l))).toArray) ∧ Below w.heap.size w w' := by
 have h0w := hV.lt
 obtain ⟨R, hR⟩ : ∃ R, R = red (val l) := ⟨_, rfl⟩
 have hRl : R.length = 16 := by rw [hR]; exact red_len _
 obtain ⟨hs1, hs2, hs3, hs4⟩ := stl_lim hl hg
 obtain ⟨C, hC⟩ : ∃ C, C = crd l := ⟨_, rfl⟩
 have hCl : C.length = 16 := by rw [hC]; exact crd_len hl
 have hCb : ∀ x ∈ C, 0 ≤ x ∧ x < 70370891661312 := by rw [hC]; exact crd_bd hl hg
 obtain ⟨T, hT⟩ : ∃ T, T = tops C := ⟨_, rfl⟩
 have hTl : T.length = 16 := by rw [hT, tops_len, hCl]
 obtain ⟨S, hS⟩ : ∃ S, S = stl l := ⟨_, rfl⟩
 have hSl : S.length = 16 := by rw [hS, hs1]; exact lim_len _ _
 have HC1 : Hid (∀ Z, Calls Tryz.prog 133 #[.agg (I64 l).toArray] Z fun e w' => e = .returned (.agg (I64 C).toArray) ∧ Below Z.heap.size Z w') := by
  unfold Hid; intro Z; rw [hC]; exact implCarried l Z hl (gq_cb hg)
 have HC2 : Hid (∀ Z, Calls Tryz.prog 133 #[.agg (I64 T).toArray] Z fun e w' => e = .returned (.agg (I64 S).toArray) ∧ Below Z.heap.size Z w') := by
  unfold Hid; intro Z
  have := implCarried T Z hTl (cb_of (by rw [hT, hC]; intro x hx; have := tops_bd hl hg x hx; omega))
  rw [hS]
  unfold stl
  rw [← hC, ← hT]
  exact this
 have HLS : Hid (∀ Z, Calls Tryz.prog 126 #[.agg (I64 S).toArray, .agg (I64 PL).toArray] Z fun e w' => e = .returned (.agg (I64 R).toArray) ∧ Below Z.heap.size Z w') := by
  unfold Hid; intro Z
  have := implLess S PL Z hSl PL_len (by rw [hS, hs1]; exact lim_lm _ _) PL_lm
  rw [hS, hs1, less_of hs2 hs3 hs4, ← hs1, ← hS, ← hR] at this
  exact this
 rw [← hR]
 obtain ⟨x0, hx0⟩ : ∃ x, x = C.getD 0 0 := ⟨_, rfl⟩
 obtain ⟨x15, hx15⟩ : ∃ x, x = C.getD 15 0 := ⟨_, rfl⟩
 have b0 := getD_of hCb (by omega) 0
 have b15 := getD_of hCb (by omega) 15
 rw [← hx0] at b0
 rw [← hx15] at b15
 have HTC : Hid (((I64 C).set 0 (.int .i64 (x0 + 19 * (x15 / 32768)))).set 15 (.int .i64 (x15 % 32768)) = I64 T) := by
  unfold Hid; rw [hT]; unfold tops; rw [← hx0, ← hx15]; simp
 obtain ⟨W, hW⟩ : ∃ W, W = (w.alloc (.cells (I64 l).toArray 65)).alloc (.cells zV 65) := ⟨_, rfl⟩
 have EE : L2 w W l := by rw [hW]; exact L2.new l hV
 obtain ⟨A, hA⟩ : ∃ A, A = (I64 l).toArray := ⟨_, rfl⟩
 rw [← hA] at hW ⊢
 have hil : (Tryz.prog.info? 65).map (·.size) = some (I64 l).toArray.size := by simpa [hl] using infoL
 have hic : (Tryz.prog.info? 65).map (·.size) = some (I64 C).toArray.size := by simpa [hCl] using infoL
 have hit : (Tryz.prog.info? 65).map (·.size) = some (I64 T).length := by simpa [hTl] using infoL
 have hip : (Tryz.prog.info? 65).map (·.size) = some (I64 PL).length := infoL
 have hir : (Tryz.prog.info? 65).map (·.size) = some (I64 R).toArray.size := by simpa [hRl] using infoL
 have hu : Tryz.prog.underlying 65 = some (.array 16 3) := Tryz.underlying65
 have hone := one_lm R
 clear hA hV hR hs1 hs2 hs3 hs4 hC hT hS hg hCb
 have E0 := hW ▸ EE
 go_enter Tryz.func128, Tryz.ntmps128
 go_wp2_with (refine wpList_load_row rfl 65 _ rfl w.heap.size rfl 65 (I64 l).toArray (0, 0) _ E0.pa Tryz.underlying65 rfl hil ?_)
 rw [← hW]
 clear hW E0
 refine (HC1.out _).mono ?_
 rintro e w1 ⟨rfl, hb1⟩
 replace EE := EE.go hb1
 clear hb1 HC1
 have pa1 := EE.pa.row (I64 C)
 have pr1 := EE.pr.rowOther w.heap.size (I64 C).toArray (by omega)
 have fr1 := setRow_below EE.fr w.heap.size (I64 C).toArray (Nat.le_refl _)
 have vr1 := EE.vr.rowOther (k := w.heap.size) (I64 C).toArray (by omega)
 have c0 : (w1.setRow w.heap.size (I64 C).toArray).cell? ⟨w.heap.size, 0, none⟩ = some (.int .i64 x0) := by rw [hx0]; exact pa1.i64 0 (by omega)
 have c15 : (w1.setRow w.heap.size (I64 C).toArray).cell? ⟨w.heap.size, 15, none⟩ = some (.int .i64 x15) := by rw [hx15]; exact pa1.i64 15 (by omega)
 have f0 := pa1.frozen 0
 clear hx0 hx15
 have s1 : IntKind.i64.wrap (19 * (x15 / 32768)) = 19 * (x15 / 32768) := by rw [IntKind.wrap_i64]; omega
 have s2 : IntKind.i64.wrap (x0 + 19 * (x15 / 32768)) = x0 + 19 * (x15 / 32768) := by rw [IntKind.wrap_i64]; omega
 have s3 : bits .and .i64 x15 32767 = x15 % 32768 := i64_and15 (by omega) (by omega)
 have e1 := pa1.set 0 (.int .i64 (x0 + 19 * (x15 / 32768)))
 have c15' : ((w1.setRow w.heap.size (I64 C).toArray).setCell ⟨w.heap.size, 0, none⟩ (.int .i64 (x0 + 19 * (x15 / 32768)))).cell? ⟨w.heap.size, 15, none⟩ = some (.int .i64 x15) := by
  rw [e1.cell 15, List.getElem?_set_ne (by omega), ← pa1.cell 15]; exact c15
 have f15 := e1.frozen 15
 have e2 := e1.set 15 (.int .i64 (x15 % 32768))
 rw [HTC.out] at e2
 have pr2 := (pr1.other ⟨w.heap.size, 0, none⟩ (.int .i64 (x0 + 19 * (x15 / 32768))) (by simp)).other ⟨w.heap.size, 15, none⟩ (.int .i64 (x15 % 32768)) (by simp)
 have vr2 := (vr1.other ⟨w.heap.size, 0, none⟩ (.int .i64 (x0 + 19 * (x15 / 32768))) (by show 4 ≠ w.heap.size; omega)).other ⟨w.heap.size, 15, none⟩ (.int .i64 (x15 % 32768)) (by show 4 ≠ w.heap.size; omega)
 have fr2 := (fr1.setCell (p := ⟨w.heap.size, 0, none⟩) (Nat.le_refl _) (.int .i64 (x0 + 19 * (x15 / 32768)))).setCell (p := ⟨w.heap.size, 15, none⟩) (Nat.le_refl _) (.int .i64 (x15 % 32768))
 have E2 : L2 w _ T := L2.go ⟨fr2, e2, pr2, vr2, h0w⟩ (Below.refl _ _).drew
 have HE2 : Hid _ := E2
 have pa0 := EE.pa
 clear E2 e1 e2 pr2 vr2 fr2 pa1 pr1 fr1 vr1 HTC EE
 go_wp2_with (refine wpList_store_row rfl 65 _ _ rfl w.heap.size (I64 C).toArray rfl rfl 65 _ pa0 hic (by simp [hCl, hl]) (by simp [Value.oneCell']) ?_)
 clear c0 c15 c15' f0 f15 pa0
 have EE := HE2.out
 clear HE2
 refine wp_region_held_drew (S := fun W => W.rangeAt w.heap.size 0 (I64 T) ∧ W.rangeAt 4 0 (I64 PL)) (by kernel_rfl) EE.all (fun hHeld => ?_)
 refine wpAnyH_take (i := 0) (oi := { dst := some 17, op := Op.load 65 (Operand.tmp 1), type := 65, pos := "l04_field.go:234", after := #[], guard := none }) (v := _) rfl (by kernel_rfl) (by kernel_rfl) (by kernel_rfl) (fun _ _ _ h => h) (yieldsIf_load_mid (by rfl) _ _ rfl _ _ rfl (I64 T) _ (fun _ h => h.1) hu rfl hit) (by assumption) ?_
 simp only [aP]
 refine wpAnyH_take (i := 2) (oi := { dst := some 19, op := Op.load 65 (Operand.global 4), type := 65, pos := "l04_field.go:234", after := #[], guard := none }) (v := _) rfl (by kernel_rfl) (by kernel_rfl) (by kernel_rfl) (fun _ _ _ h => h) (yieldsIf_load_mid (by rfl) _ _ rfl _ _ rfl (I64 PL) _ (fun _ h => h.2) hu rfl hip) (by assumption) ?_
 simp only [aP]
 refine wpAnyH_ready (rs := [1]) (by kernel_rfl) (by simp) (AllReadyH.cons (o := { dst := some 18, op := Op.call { callee := Callee.value (Operand.func 133), args := #[Operand.tmp 17], argTypes := #[65] }, type := 65, pos := "l04_field.go:234", after := #[{ on := 0, ground := Ground.data }], guard := none }) rfl (fun K hK => ?_) AllReadyH.nil)
 go_simp
 refine (HC2.out _).mono ?_
 rintro e w2 ⟨rfl, hb2⟩
 replace EE := EE.go hb2
 go_wp2_with fail
 refine hK.out _ _ EE.all (fun hHeld => ?_)
 clear hK K hb2
 refine wpAnyH_ready (rs := [3]) (by kernel_rfl) (by simp) (AllReadyH.cons (o := { dst := some 20, op := Op.call { callee := Callee.value (Operand.func 126), args := #[Operand.tmp 18, Operand.tmp 19], argTypes := #[65, 65] }, type := 65, pos := "l04_field.go:234", after := #[{ on := 1, ground := Ground.data }, { on := 2, ground := Ground.data }, { on := 1, ground := Ground.chain }], guard := none }) rfl (fun K hK => ?_) AllReadyH.nil)
 go_simp
 refine (HLS.out _).mono ?_
 rintro e w3 ⟨rfl, hb3⟩
 replace EE := EE.go hb3
 go_wp2_with fail
 refine hK.out _ _ EE.all (fun hHeld => ?_)
 clear hK K hb3
 obtain ⟨hA5, hB5, hS5, hth⟩ := EE.put hRl
 refine wpAnyH_ready (rs := [4]) (by kernel_rfl) (by simp) (AllReadyH.cons (o := { dst := none, op := Op.store 65 (Operand.tmp 2) (Operand.tmp 20), type := 0, pos := "l04_field.go:234", after := #[{ on := 3, ground := Ground.data }, { on := 3, ground := Ground.chain }, { on := 0, ground := Ground.phase }, { on := 1, ground := Ground.phase }, { on := 2, ground := Ground.phase }, { on := 3, ground := Ground.phase }], guard := none }) rfl (fun K hK => ?_) AllReadyH.nil)
 rw [if_pos (by rfl)]
 refine wp_store_mid _ _ _ rfl _ _ (I64 R).toArray rfl rfl hth hir (all_oneCell_toArray hone) ?_
 simp only [Act.put]
 refine hK.out _ _ hS5 (fun hHeld => ?_)
 clear hK K
 refine wpAnyH_done (by kernel_rfl) ?_ _
 go_wp2
 exact bodyPost_ret (results_cell_row rfl _ _ (w.heap.size + 1) 65 (I64 R).toArray (0, 0) _ rfl hA5 Tryz.underlying65 rfl hir) rfl ⟨rfl, hB5⟩

set_option maxHeartbeats 4000000 in
theorem implProduct (a b : List Int) (w : World) (ha : a.length = 16) (hb : b.length = 16) (la : Lm a) (lb : Lm b) (hV : Vr w 4 (I64 PL)) :
  Calls Tryz.prog 98 #[.agg (I64 a).toArray, .agg (I64 b).toArray] w fun e w' => e = .returned (.agg (I64 (red (val a * val b))).toArray) ∧ Below w.heap.size w w' := by
 have h0w := hV.lt
 have HTM : Hid (∀ Z, Calls Tryz.prog 124 #[.agg (I64 a).toArray, .agg (I64 b).toArray] Z fun e w' => ∃ t, e = .returned (.agg (I64 t).toArray) ∧ Tq a b t 16 0 ∧ Below Z.heap.size Z w') := by
  unfold Hid; intro Z; exact implTimes a b Z ha hb la lb
 obtain ⟨R, hR⟩ : ∃ R, R = red (val a * val b) := ⟨_, rfl⟩
 have hRl : R.length = 16 := by rw [hR]; exact red_len _
 rw [← hR]
 have HST : Hid (∀ t, Tq a b t 16 0 → ∀ Z, Vr Z 4 (I64 PL) → Calls Tryz.prog 128 #[.agg (I64 (fo32 t)).toArray] Z fun e w' => e = .returned (.agg (I64 R).toArray) ∧ Below Z.heap.size Z w') := by
  unfold Hid; intro t TP Z hZ
  have := implSettled (fo32 t) Z (fo32_len TP.len) (fo32_gq TP) hZ
  have e : red (val (fo32 t)) = R := by
   rw [hR]
   unfold red
   rw [fo32_mod TP.len, TP.vl, prodAt_end a b ha]
  rw [e] at this
  exact this
 obtain ⟨W, hW⟩ : ∃ W, W = ((w.alloc (.cells (I64 a).toArray 65)).alloc (.cells (I64 b).toArray 65)).alloc (.cells zV 65) := ⟨_, rfl⟩
 have EE : L4 w W a b := by rw [hW]; exact L4.new a b hV
 obtain ⟨A, hA⟩ : ∃ A, A = (I64 a).toArray := ⟨_, rfl⟩
 obtain ⟨B, hB⟩ : ∃ B, B = (I64 b).toArray := ⟨_, rfl⟩
 rw [← hA, ← hB] at hW ⊢
 have hia : (Tryz.prog.info? 65).map (·.size) = some (I64 a).toArray.size := by simpa [ha] using infoL
 have hib : (Tryz.prog.info? 65).map (·.size) = some (I64 b).toArray.size := by simpa [hb] using infoL
 have hir : (Tryz.prog.info? 65).map (·.size) = some (I64 R).toArray.size := by simpa [hRl] using infoL
 clear hA hB hR la lb hV
 have E0 := hW ▸ EE
 go_enter Tryz.func98, Tryz.ntmps98
 go_wp2_with (first
  | (refine wpList_load_row rfl 65 _ rfl w.heap.size rfl 65 (I64 a).toArray (0, 0) _ E0.l3.pa Tryz.underlying65 rfl hia ?_)
  | (refine wpList_load_row rfl 65 _ rfl (w.heap.size + 1) rfl 65 (I64 b).toArray (0, 0) _ E0.l3.pb Tryz.underlying65 rfl hib ?_))
 rw [← hW]
 clear hW E0
 refine (HTM.out _).mono ?_
 rintro e w1 ⟨t, rfl, TP, hb1⟩
 replace EE := EE.go hb1
 clear hb1 HTM
 have htl := TP.len
 have htb := TP.get
 have hst := HST.out t TP
 have hgt := fo32_get htl
 have hfl := fo32_len htl
 obtain ⟨fs, hfs⟩ : ∃ fs, fs = fo32 t := ⟨_, rfl⟩
 rw [← hfs] at hst hgt hfl
 have HS : Hid _ := hst
 have HG : Hid _ := hgt
 have HTB : Hid _ := htb
 clear hst hgt htb TP HST hfs
 have hsz := EE.l3.pr.lt
 have hit : (Tryz.prog.info? 169).map (·.size) = some (I64 t).toArray.size := by simpa [htl] using infoC
 obtain ⟨W2, hW2⟩ : ∃ W2, W2 = w1.alloc (.cells #[.int .i64 0, .int .i64 0, .int .i64 0, .int .i64 0, .int .i64 0, .int .i64 0, .int .i64 0, .int .i64 0, .int .i64 0, .int .i64 0, .int .i64 0, .int .i64 0, .int .i64 0, .int .i64 0, .int .i64 0, .int .i64 0, .int .i64 0, .int .i64 0, .int .i64 0, .int .i64 0, .int .i64 0, .int .i64 0, .int .i64 0, .int .i64 0, .int .i64 0, .int .i64 0, .int .i64 0, .int .i64 0, .int .i64 0, .int .i64 0, .int .i64 0, .int .i64 0] 169) := ⟨_, rfl⟩
 have g5 : Arr W2 w1.heap.size 169 (I64 Z32) := by rw [hW2]; exact Arr.new w1 (I64 Z32) _
 have g2 : Arr W2 (w.heap.size + 2) 65 (I64 Z16) := by rw [hW2]; exact EE.l3.pr.alloc _
 have gv : Vr W2 4 (I64 PL) := by rw [hW2]; exact EE.vr.kept ((Below.refl _ _).alloc (Nat.le_refl _) _)
 have gB : Below w.heap.size w W2 := by rw [hW2]; exact EE.l3.fr.alloc EE.l3.fr.size _
 have gz : W2.heap.size = w1.heap.size + 1 := by rw [hW2]; simp
 have h5 := hW2 ▸ g5
 clear EE
 obtain ⟨E, hE⟩ : ∃ E, E = w1.heap.size := ⟨_, rfl⟩
 obtain ⟨W3, hW3⟩ : ∃ W3, W3 = (W2.setRow E (I64 t).toArray).alloc (.cells zV 65) := ⟨_, rfl⟩
 rw [← hE] at g5 gz hsz
 have k5 : Arr W3 E 169 (I64 t) := by rw [hW3]; exact (g5.row (I64 t)).alloc _
 have k6 : Arr W3 (E + 1) 65 (I64 (fs.take 0 ++ Z16.drop 0)) := by
  rw [hW3]
  have := Arr.new (W2.setRow E (I64 t).toArray) (I64 Z16) 65
  rw [show (W2.setRow E (I64 t).toArray).heap.size = E + 1 by simpa using gz] at this
  exact this
 have k2 : Arr W3 (w.heap.size + 2) 65 (I64 Z16) := by rw [hW3]; exact (g2.rowOther _ _ (by omega)).alloc _
 have kv : Vr W3 4 (I64 PL) := by rw [hW3]; exact (gv.rowOther _ (by omega)).kept ((Below.refl _ _).alloc (Nat.le_refl _) _)
 have kB : Below w.heap.size w W3 := by
  rw [hW3]
  have := setRow_below gB E (I64 t).toArray (by omega)
  exact this.alloc this.size _
 clear g5 g2 gv gB
 go_wp2_with (refine wpList_store_row rfl 169 _ _ rfl w1.heap.size (I64 t).toArray rfl rfl 169 _ h5 hit (by simp [htl]) (by simp [Value.oneCell']) ?_)
 rw [← hW2, ← hE, ← hW3]
 clear hW3 gz hW2 h5 hE
 go_loopw [11] (fun i wr => ∃ k : Nat, k ≤ 16 ∧ i = .int .i64 k ∧ Arr wr E 169 (I64 t) ∧ Arr wr (E + 1) 65 (I64 (fs.take k ++ Z16.drop k)) ∧ Arr wr (w.heap.size + 2) 65 (I64 Z16) ∧ Vr wr 4 (I64 PL) ∧ Below w.heap.size w wr) (fun i _ => 16 - (intOf i).toNat)
 case atStart => exact ⟨0, by omega, rfl, k5, k6, k2, kv, kB⟩
 case round =>
  clear k5 k6 k2 kv kB
  obtain ⟨k, hk, rfl, k5, k6, k2, kv, kB⟩ := hrel
  have hfk : (fs.take k).length = k := by simp; omega
  by_cases hlt : k < 16
  ·obtain ⟨x, hx⟩ : ∃ x, x = t.getD k 0 := ⟨_, rfl⟩
   obtain ⟨y, hy⟩ : ∃ y, y = t.getD (16 + k) 0 := ⟨_, rfl⟩
   have bx := HTB.out k
   have by' := HTB.out (16 + k)
   rw [← hx] at bx
   rw [← hy] at by'
   have cx : wr.cell? ⟨E, k, none⟩ = some (.int .i64 x) := by rw [hx]; exact k5.i64 k (by omega)
   have cy : wr.cell? ⟨E, 16 + k, none⟩ = some (.int .i64 y) := by rw [hy]; exact k5.i64 (16 + k) (by omega)
   obtain ⟨u, hu⟩ : ∃ u, wr.cell? ⟨E + 1, k, none⟩ = some u := by
    rw [k6.cell k]
    exact ⟨_, List.getElem?_eq_getElem (by simp [hfl]; omega)⟩
   have hfz := k6.frozen k
   have hek := HG.out k hlt
   rw [← hx, ← hy] at hek
   have hts := take_app fs k (by omega)
   rw [hek] at hts
   have k6' := k6.set k (.int .i64 (x + 38 * y))
   rw [set_app hfk (show k < Z16.length from hlt), ← hts] at k6'
   have k5' := k5.other ⟨E + 1, k, none⟩ (.int .i64 (x + 38 * y)) (by simp)
   have k2' := k2.other ⟨E + 1, k, none⟩ (.int .i64 (x + 38 * y)) (by show w.heap.size + 2 ≠ E + 1; omega)
   have kv' := kv.other ⟨E + 1, k, none⟩ (.int .i64 (x + 38 * y)) (by show 4 ≠ E + 1; omega)
   have kB' := kB.setCell (p := ⟨E + 1, k, none⟩) (by show w.heap.size ≤ E + 1; omega) (.int .i64 (x + 38 * y))
   have hk16 : (k : Int) < 16 := by omega
   have hk32 : (k : Int) < 32 := by omega
   have hk0 : (0 : Int) ≤ (k : Int) := by omega
   have s1 : IntKind.i64.wrap (16 + (k : Int)) = 16 + (k : Int) := by rw [IntKind.wrap_i64]; omega
   have s2 : (16 + (k : Int)).toNat = 16 + k := by omega
   have s3 : 16 + (k : Int) < 32 := by omega
   have s4 : (0 : Int) ≤ 16 + (k : Int) := by omega
   have s5 : IntKind.i64.wrap (38 * y) = 38 * y := by rw [IntKind.wrap_i64]; omega
   have s6 : IntKind.i64.wrap (x + 38 * y) = x + 38 * y := by rw [IntKind.wrap_i64]; omega
   have H5 : Hid _ := k5'.drew
   have H6 : Hid _ := k6'.drew
   have H2 : Hid _ := k2'.drew
   have HV : Hid _ := kv'.kept (Below.refl _ _).drew
   have HB : Hid _ := kB'.drew
   clear k5' k6' k2' kv' kB' k5 k6 k2 kv kB hx hy hek hts
   go_wp2
   go_region
   clear cx cy hu hfz
   go_wp2
   go_roundw
   case rel => exact ⟨k + 1, by omega, by go_num, H5.out, H6.out, H2.out, HV.out, HB.out⟩
   case measure => simp [intOf]; omega
  ·obtain rfl : k = 16 := by omega
   rw [List.take_of_length_le (by omega), show Z16.drop 16 = [] from rfl, List.append_nil] at k6
   have hif : (Tryz.prog.info? 65).map (·.size) = some (I64 fs).toArray.size := by simpa [hfl] using infoL
   clear hfk k5
   go_wp2_with (refine wpList_load_row rfl 65 _ rfl (E + 1) rfl 65 (I64 fs).toArray (0, 0) _ k6 Tryz.underlying65 rfl hif ?_)
   refine (HS.out _ kv).mono ?_
   rintro e w4 ⟨rfl, hb4⟩
   have k24 := k2.kept hb4
   have kB4 := kB.trans (hb4.mono kB.size)
   have hr := k24.row (I64 R)
   have hbl := setRow_below kB4 (w.heap.size + 2) (I64 R).toArray (by omega)
   clear k2 kB hb4 HS k6 kv
   go_wp2_with (refine wpList_store_row rfl 65 _ _ rfl (w.heap.size + 2) (I64 R).toArray rfl rfl 65 _ k24 hir (by simp [hRl]) (by simp [Value.oneCell']) ?_)
   exact bodyPost_ret (results_cell_row rfl _ _ (w.heap.size + 2) 65 (I64 R).toArray (0, 0) _ rfl hr Tryz.underlying65 rfl hir) rfl ⟨rfl, hbl⟩
end Go.Proofs.YtihoaakbkffejaaGreatDoor
