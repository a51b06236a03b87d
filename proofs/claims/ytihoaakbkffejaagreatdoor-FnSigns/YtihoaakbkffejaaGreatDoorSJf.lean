/-
  What is proved here: contracts of the program's methods fieldSettled and fieldProduct: limbs that may be great come to the number modulo 2^255 - 19; the product of two numbers of the field; where the program's variable holds the prime; a point in the program's long form as it lies in memory: how it is built, read, laid and handed through an interface; plain facts on the program's tables.
-/
import Derived.Test.YtihoaakbkffejaaGreatDoorSJc
import Derived.Test.YtihoaakbkffejaaGreatDoorSFyq
import Derived.Test.YtihoaakbkffejaaGreatDoorSJa
namespace Go.Proofs.YtihoaakbkffejaaGreatDoor
open Go.RowKit
set_option maxRecDepth 100000

/-- Limbs that are turned, the result's cell, and the program's prime. -/
structure L2 (w W : World) (a : List Int) : Prop where
  fr : Below w.heap.size w W
  pa : Arr W w.heap.size 65 (I64 a)
  pr : Arr W (w.heap.size + 1) 65 (I64 Z16)
  vr : Vr W 4 (I64 PL)
  g0 : 4 < w.heap.size
theorem L2.go {w A B : World} {a : List Int} (h : L2 w A a) (hb : Below A.heap.size A B) : L2 w B a := ⟨h.fr.trans (hb.mono h.fr.size), h.pa.kept hb, h.pr.kept hb, h.vr.kept hb, h.g0⟩
theorem L2.all {w W : World} {a : List Int} (h : L2 w W a) : W.rangeAt w.heap.size 0 (I64 a) ∧ W.rangeAt 4 0 (I64 PL) := ⟨arr_range h.pa, vr_range h.vr⟩
theorem L2.new {w : World} (a : List Int) (h : Vr w 4 (I64 PL)) : L2 w ((w.alloc (.cells (I64 a).toArray 65)).alloc (.cells (I64 Z16).toArray 65)) a := by
  have hb : Below w.heap.size w ((w.alloc (.cells (I64 a).toArray 65)).alloc (.cells (I64 Z16).toArray 65)) := ((Below.refl _ _).alloc (Nat.le_refl _) _).alloc (by simp) _
  refine ⟨hb, (Arr.new w (I64 a) _).alloc _, ?_, h.kept hb, h.lt⟩
  have := Arr.new (w.alloc (.cells (I64 a).toArray 65)) (I64 Z16) 65
  rw [World.size_alloc] at this
  exact this
/-- The result is stored. -/
theorem L2.put {w W : World} {a R : List Int} (h : L2 w W a) (hR : R.length = 16) : Arr (W.setCells (w.heap.size + 1) 0 (I64 R)) (w.heap.size + 1) 65 (I64 R) ∧ Below w.heap.size w (W.setCells (w.heap.size + 1) 0 (I64 R)) ∧
    ((W.setCells (w.heap.size + 1) 0 (I64 R)).rangeAt w.heap.size 0 (I64 a) ∧ (W.setCells (w.heap.size + 1) 0 (I64 R)).rangeAt 4 0 (I64 PL)) ∧ W.there (w.heap.size + 1) 0 (I64 R).toArray.size := by
  have h0 : 4 ≠ w.heap.size + 1 := by have := h.g0; omega
  exact ⟨Arr.setCells0 h.pr (by simp [hR]), setCells_below (by omega) _ _ h.fr, ⟨arr_range (Arr.setCellsO (by omega) _ _ h.pa), vr_range (Vr.setCellsO h0 h.vr)⟩, by have := arr_there h.pr; simpa [hR] using this⟩
theorem i64_and15 {x : Int} (h0 : 0 ≤ x) (h1 : x < 9223372036854775808) : bits .and .i64 x 32767 = x % 32768 := i64_low15 h0 h1

set_option maxHeartbeats 4000000 in
theorem implSettled (l : List Int) (w : World) (hl : l.length = 16) (hg : Gq l) (hV : Vr w 4 (I64 PL)) :
    Calls Tryz.prog 128 #[.agg (I64 l).toArray] w fun e w' => e = .returned (.agg (I64 (red (val l))).toArray) ∧ Below w.heap.size w w' := by
  have h0w := hV.lt
  obtain ⟨R, hR⟩ : ∃ R, R = red (val l) := ⟨_, rfl⟩
  have hRl : R.length = 16 := by rw [hR]; exact red_len _
  obtain ⟨hs1, hs2, hs3, hs4⟩ := stl_lim hl hg
  obtain ⟨C, hC⟩ : ∃ C, C = crd l := ⟨_, rfl⟩
  have hCl : C.length = 16 := by rw [hC]; exact crd_len hl
  have hCb : ∀ x ∈ C, 0 ≤ x ∧ x < 70370891661312 := by rw [hC]; exact crd_bd hl hg
  obtain ⟨T, hT⟩ : ∃ T, T = tops C := ⟨_, rfl⟩
  have hTl : T.length = 16 := by rw [hT, tops_len, hCl]
  obtain ⟨S, hS⟩ : ∃ S, S = stl l := ⟨_, rfl⟩
  have hSl : S.length = 16 := by rw [hS, hs1]; exact lim_len _ _
  have HC1 : Hid (∀ Z, Calls Tryz.prog 133 #[.agg (I64 l).toArray] Z fun e w' => e = .returned (.agg (I64 C).toArray) ∧ Below Z.heap.size Z w') := by
    unfold Hid; intro Z; rw [hC]; exact implCarried l Z hl (gq_cb hg)
  have HC2 : Hid (∀ Z, Calls Tryz.prog 133 #[.agg (I64 T).toArray] Z fun e w' => e = .returned (.agg (I64 S).toArray) ∧ Below Z.heap.size Z w') := by
    unfold Hid; intro Z
    have := implCarried T Z hTl (cb_of (by rw [hT, hC]; intro x hx; have := tops_bd hl hg x hx; omega))
    rw [hS]
    unfold stl
    rw [← hC, ← hT]
    exact this
  have HLS : Hid (∀ Z, Calls Tryz.prog 126 #[.agg (I64 S).toArray, .agg (I64 PL).toArray] Z fun e w' => e = .returned (.agg (I64 R).toArray) ∧ Below Z.heap.size Z w') := by
    unfold Hid; intro Z
    have := implLess S PL Z hSl PL_len (by rw [hS, hs1]; exact lim_lm _ _) PL_lm
    rw [hS, hs1, less_of hs2 hs3 hs4, ← hs1, ← hS, ← hR] at this
    exact this
  rw [← hR]
  obtain ⟨x0, hx0⟩ : ∃ x, x = C.getD 0 0 := ⟨_, rfl⟩
  obtain ⟨x15, hx15⟩ : ∃ x, x = C.getD 15 0 := ⟨_, rfl⟩
  have b0 := getD_of hCb (by omega) 0
  have b15 := getD_of hCb (by omega) 15
  rw [← hx0] at b0
  rw [← hx15] at b15
  have HTC : Hid (((I64 C).set 0 (.int .i64 (x0 + 19 * (x15 / 32768)))).set 15 (.int .i64 (x15 % 32768)) = I64 T) := by
    unfold Hid; rw [hT]; unfold tops; rw [← hx0, ← hx15]; simp
  obtain ⟨W, hW⟩ : ∃ W, W = (w.alloc (.cells (I64 l).toArray 65)).alloc (.cells #[.int .i64 0, .int .i64 0, .int .i64 0, .int .i64 0, .int .i64 0, .int .i64 0, .int .i64 0, .int .i64 0, .int .i64 0, .int .i64 0, .int .i64 0, .int .i64 0, .int .i64 0, .int .i64 0, .int .i64 0, .int .i64 0] 65) := ⟨_, rfl⟩
  have EE : L2 w W l := by rw [hW]; exact L2.new l hV
  obtain ⟨A, hA⟩ : ∃ A, A = (I64 l).toArray := ⟨_, rfl⟩
  rw [← hA] at hW ⊢
  have hil : (Tryz.prog.info? 65).map (·.size) = some (I64 l).toArray.size := by simpa [hl] using infoL
  have hic : (Tryz.prog.info? 65).map (·.size) = some (I64 C).toArray.size := by simpa [hCl] using infoL
  have hit : (Tryz.prog.info? 65).map (·.size) = some (I64 T).length := by simpa [hTl] using infoL
  have hip : (Tryz.prog.info? 65).map (·.size) = some (I64 PL).length := infoL
  have hir : (Tryz.prog.info? 65).map (·.size) = some (I64 R).toArray.size := by simpa [hRl] using infoL
  have hu : Tryz.prog.underlying 65 = some (.array 16 3) := Tryz.underlying65
  have hone := one_lm R
  clear hA hV hR hs1 hs2 hs3 hs4 hC hT hS hg hCb
  have E0 := hW ▸ EE
  go_enter Tryz.func128, Tryz.ntmps128
  go_wp2_with (refine wpList_load_row rfl 65 _ rfl w.heap.size rfl 65 (I64 l).toArray (0, 0) _ E0.pa Tryz.underlying65 rfl hil ?_)
  rw [← hW]
  clear hW E0
  refine (HC1.out _).mono ?_
  rintro e w1 ⟨rfl, hb1⟩
  replace EE := EE.go hb1
  clear hb1 HC1
  have pa1 := EE.pa.row (I64 C)
  have pr1 := EE.pr.rowOther w.heap.size (I64 C).toArray (by omega)
  have fr1 := setRow_below EE.fr w.heap.size (I64 C).toArray (Nat.le_refl _)
  have vr1 := EE.vr.rowOther (k := w.heap.size) (I64 C).toArray (by omega)
  have c0 : (w1.setRow w.heap.size (I64 C).toArray).cell? ⟨w.heap.size, 0, none⟩ = some (.int .i64 x0) := by rw [hx0]; exact pa1.i64 0 (by omega)
  have c15 : (w1.setRow w.heap.size (I64 C).toArray).cell? ⟨w.heap.size, 15, none⟩ = some (.int .i64 x15) := by rw [hx15]; exact pa1.i64 15 (by omega)
  have f0 := pa1.frozen 0
  clear hx0 hx15
  have s1 : IntKind.i64.wrap (19 * (x15 / 32768)) = 19 * (x15 / 32768) := by rw [IntKind.wrap_i64]; omega
  have s2 : IntKind.i64.wrap (x0 + 19 * (x15 / 32768)) = x0 + 19 * (x15 / 32768) := by rw [IntKind.wrap_i64]; omega
  have s3 : bits .and .i64 x15 32767 = x15 % 32768 := i64_and15 (by omega) (by omega)
  have e1 := pa1.set 0 (.int .i64 (x0 + 19 * (x15 / 32768)))
  have c15' : ((w1.setRow w.heap.size (I64 C).toArray).setCell ⟨w.heap.size, 0, none⟩ (.int .i64 (x0 + 19 * (x15 / 32768)))).cell? ⟨w.heap.size, 15, none⟩ = some (.int .i64 x15) := by
    rw [e1.cell 15, List.getElem?_set_ne (by omega), ← pa1.cell 15]; exact c15
  have f15 := e1.frozen 15
  have e2 := e1.set 15 (.int .i64 (x15 % 32768))
  rw [HTC.out] at e2
  have pr2 := (pr1.other ⟨w.heap.size, 0, none⟩ (.int .i64 (x0 + 19 * (x15 / 32768))) (by simp)).other ⟨w.heap.size, 15, none⟩ (.int .i64 (x15 % 32768)) (by simp)
  have vr2 := (vr1.other ⟨w.heap.size, 0, none⟩ (.int .i64 (x0 + 19 * (x15 / 32768))) (by show 4 ≠ w.heap.size; omega)).other ⟨w.heap.size, 15, none⟩ (.int .i64 (x15 % 32768)) (by show 4 ≠ w.heap.size; omega)
  have fr2 := (fr1.setCell (p := ⟨w.heap.size, 0, none⟩) (Nat.le_refl _) (.int .i64 (x0 + 19 * (x15 / 32768)))).setCell (p := ⟨w.heap.size, 15, none⟩) (Nat.le_refl _) (.int .i64 (x15 % 32768))
  have E2 : L2 w _ T := L2.go ⟨fr2, e2, pr2, vr2, h0w⟩ (Below.refl _ _).drew
  have HE2 : Hid _ := E2
  have pa0 := EE.pa
  clear E2 e1 e2 pr2 vr2 fr2 pa1 pr1 fr1 vr1 HTC EE
  go_wp2_with (refine wpList_store_row rfl 65 _ _ rfl w.heap.size (I64 C).toArray rfl rfl 65 _ pa0 hic (by simp [hCl, hl]) (by simp [Value.oneCell']) ?_)
  clear c0 c15 c15' f0 f15 pa0
  have EE := HE2.out
  clear HE2
  refine wp_region_held_drew (S := fun W => W.rangeAt w.heap.size 0 (I64 T) ∧ W.rangeAt 4 0 (I64 PL)) (by kernel_rfl) EE.all (fun hHeld => ?_)
  refine wpAnyH_take (i := 0) (oi := { dst := some 17, op := Op.load 65 (Operand.tmp 1), type := 65, pos := "l04_field.go:234", after := #[], guard := none }) (v := _) rfl (by kernel_rfl) (by kernel_rfl) (by kernel_rfl) (fun _ _ _ h => h) (yieldsIf_load_mid (by rfl) _ _ rfl _ _ rfl (I64 T) _ (fun _ h => h.1) hu rfl hit) (by assumption) ?_
  simp only [Act.put, List.setIfInBounds_toArray, List.set_cons_zero, List.set_cons_succ]
  refine wpAnyH_take (i := 2) (oi := { dst := some 19, op := Op.load 65 (Operand.global 4), type := 65, pos := "l04_field.go:234", after := #[], guard := none }) (v := _) rfl (by kernel_rfl) (by kernel_rfl) (by kernel_rfl) (fun _ _ _ h => h) (yieldsIf_load_mid (by rfl) _ _ rfl _ _ rfl (I64 PL) _ (fun _ h => h.2) hu rfl hip) (by assumption) ?_
  simp only [Act.put, List.setIfInBounds_toArray, List.set_cons_zero, List.set_cons_succ]
  refine wpAnyH_ready (rs := [1]) (by kernel_rfl) (by simp) (AllReadyH.cons (o := { dst := some 18, op := Op.call { callee := Callee.value (Operand.func 133), args := #[Operand.tmp 17], argTypes := #[65] }, type := 65, pos := "l04_field.go:234", after := #[{ on := 0, ground := Ground.data }], guard := none }) rfl (fun K hK => ?_) AllReadyH.nil)
  go_simp
  refine (HC2.out _).mono ?_
  rintro e w2 ⟨rfl, hb2⟩
  replace EE := EE.go hb2
  go_wp2_with fail
  refine hK.out _ _ EE.all (fun hHeld => ?_)
  clear hK K hb2
  refine wpAnyH_ready (rs := [3]) (by kernel_rfl) (by simp) (AllReadyH.cons (o := { dst := some 20, op := Op.call { callee := Callee.value (Operand.func 126), args := #[Operand.tmp 18, Operand.tmp 19], argTypes := #[65, 65] }, type := 65, pos := "l04_field.go:234", after := #[{ on := 1, ground := Ground.data }, { on := 2, ground := Ground.data }, { on := 1, ground := Ground.chain }], guard := none }) rfl (fun K hK => ?_) AllReadyH.nil)
  go_simp
  refine (HLS.out _).mono ?_
  rintro e w3 ⟨rfl, hb3⟩
  replace EE := EE.go hb3
  go_wp2_with fail
  refine hK.out _ _ EE.all (fun hHeld => ?_)
  clear hK K hb3
  obtain ⟨hA5, hB5, hS5, hth⟩ := EE.put hRl
  refine wpAnyH_ready (rs := [4]) (by kernel_rfl) (by simp) (AllReadyH.cons (o := { dst := none, op := Op.store 65 (Operand.tmp 2) (Operand.tmp 20), type := 0, pos := "l04_field.go:234", after := #[{ on := 3, ground := Ground.data }, { on := 3, ground := Ground.chain }, { on := 0, ground := Ground.phase }, { on := 1, ground := Ground.phase }, { on := 2, ground := Ground.phase }, { on := 3, ground := Ground.phase }], guard := none }) rfl (fun K hK => ?_) AllReadyH.nil)
  rw [if_pos (by rfl)]
  refine wp_store_mid _ _ _ rfl _ _ (I64 R).toArray rfl rfl hth hir (all_oneCell_toArray hone) ?_
  simp only [Act.put]
  refine hK.out _ _ hS5 (fun hHeld => ?_)
  clear hK K
  refine wpAnyH_done (by kernel_rfl) ?_ _
  go_wp2
  exact bodyPost_ret (results_cell_row rfl _ _ (w.heap.size + 1) 65 (I64 R).toArray (0, 0) _ rfl hA5 Tryz.underlying65 rfl hir) rfl ⟨rfl, hB5⟩

set_option maxHeartbeats 4000000 in
theorem implProduct (a b : List Int) (w : World) (ha : a.length = 16) (hb : b.length = 16) (la : Lm a) (lb : Lm b) (hV : Vr w 4 (I64 PL)) :
    Calls Tryz.prog 98 #[.agg (I64 a).toArray, .agg (I64 b).toArray] w fun e w' => e = .returned (.agg (I64 (red (val a * val b))).toArray) ∧ Below w.heap.size w w' := by
  have h0w := hV.lt
  have HTM : Hid (∀ Z, Calls Tryz.prog 124 #[.agg (I64 a).toArray, .agg (I64 b).toArray] Z fun e w' => ∃ t, e = .returned (.agg (I64 t).toArray) ∧ Tq a b t 16 0 ∧ Below Z.heap.size Z w') := by
    unfold Hid; intro Z; exact implTimes a b Z ha hb la lb
  obtain ⟨R, hR⟩ : ∃ R, R = red (val a * val b) := ⟨_, rfl⟩
  have hRl : R.length = 16 := by rw [hR]; exact red_len _
  rw [← hR]
  have HST : Hid (∀ t, Tq a b t 16 0 → ∀ Z, Vr Z 4 (I64 PL) → Calls Tryz.prog 128 #[.agg (I64 (fo32 t)).toArray] Z fun e w' => e = .returned (.agg (I64 R).toArray) ∧ Below Z.heap.size Z w') := by
    unfold Hid; intro t TP Z hZ
    have := implSettled (fo32 t) Z (fo32_len TP.len) (fo32_gq TP) hZ
    have e : red (val (fo32 t)) = R := by
      rw [hR]
      unfold red
      rw [fo32_mod TP.len, TP.vl, prodAt_end a b ha]
    rw [e] at this
    exact this
  obtain ⟨W, hW⟩ : ∃ W, W = ((w.alloc (.cells (I64 a).toArray 65)).alloc (.cells (I64 b).toArray 65)).alloc (.cells #[.int .i64 0, .int .i64 0, .int .i64 0, .int .i64 0, .int .i64 0, .int .i64 0, .int .i64 0, .int .i64 0, .int .i64 0, .int .i64 0, .int .i64 0, .int .i64 0, .int .i64 0, .int .i64 0, .int .i64 0, .int .i64 0] 65) := ⟨_, rfl⟩
  have EE : L4 w W a b := by rw [hW]; exact L4.new a b hV
  obtain ⟨A, hA⟩ : ∃ A, A = (I64 a).toArray := ⟨_, rfl⟩
  obtain ⟨B, hB⟩ : ∃ B, B = (I64 b).toArray := ⟨_, rfl⟩
  rw [← hA, ← hB] at hW ⊢
  have hia : (Tryz.prog.info? 65).map (·.size) = some (I64 a).toArray.size := by simpa [ha] using infoL
  have hib : (Tryz.prog.info? 65).map (·.size) = some (I64 b).toArray.size := by simpa [hb] using infoL
  have hir : (Tryz.prog.info? 65).map (·.size) = some (I64 R).toArray.size := by simpa [hRl] using infoL
  clear hA hB hR la lb hV
  have E0 := hW ▸ EE
  go_enter Tryz.func98, Tryz.ntmps98
  go_wp2_with (first
    | (refine wpList_load_row rfl 65 _ rfl w.heap.size rfl 65 (I64 a).toArray (0, 0) _ E0.l3.pa Tryz.underlying65 rfl hia ?_)
    | (refine wpList_load_row rfl 65 _ rfl (w.heap.size + 1) rfl 65 (I64 b).toArray (0, 0) _ E0.l3.pb Tryz.underlying65 rfl hib ?_))
  rw [← hW]
  clear hW E0
  refine (HTM.out _).mono ?_
  rintro e w1 ⟨t, rfl, TP, hb1⟩
  replace EE := EE.go hb1
  clear hb1 HTM
  have htl := TP.len
  have htb := TP.get
  have hst := HST.out t TP
  have hgt := fo32_get htl
  have hfl := fo32_len htl
  obtain ⟨fs, hfs⟩ : ∃ fs, fs = fo32 t := ⟨_, rfl⟩
  rw [← hfs] at hst hgt hfl
  have HS : Hid _ := hst
  have HG : Hid _ := hgt
  have HTB : Hid _ := htb
  clear hst hgt htb TP HST hfs
  have hsz := EE.l3.pr.lt
  have hit : (Tryz.prog.info? 169).map (·.size) = some (I64 t).toArray.size := by simpa [htl] using infoC
  obtain ⟨W2, hW2⟩ : ∃ W2, W2 = w1.alloc (.cells #[.int .i64 0, .int .i64 0, .int .i64 0, .int .i64 0, .int .i64 0, .int .i64 0, .int .i64 0, .int .i64 0, .int .i64 0, .int .i64 0, .int .i64 0, .int .i64 0, .int .i64 0, .int .i64 0, .int .i64 0, .int .i64 0, .int .i64 0, .int .i64 0, .int .i64 0, .int .i64 0, .int .i64 0, .int .i64 0, .int .i64 0, .int .i64 0, .int .i64 0, .int .i64 0, .int .i64 0, .int .i64 0, .int .i64 0, .int .i64 0, .int .i64 0, .int .i64 0] 169) := ⟨_, rfl⟩
  have g5 : Arr W2 w1.heap.size 169 (I64 Z32) := by rw [hW2]; exact Arr.new w1 (I64 Z32) _
  have g2 : Arr W2 (w.heap.size + 2) 65 (I64 Z16) := by rw [hW2]; exact EE.l3.pr.alloc _
  have gv : Vr W2 4 (I64 PL) := by rw [hW2]; exact EE.vr.kept ((Below.refl _ _).alloc (Nat.le_refl _) _)
  have gB : Below w.heap.size w W2 := by rw [hW2]; exact EE.l3.fr.alloc EE.l3.fr.size _
  have gz : W2.heap.size = w1.heap.size + 1 := by rw [hW2]; simp
  have h5 := hW2 ▸ g5
  clear EE
  obtain ⟨E, hE⟩ : ∃ E, E = w1.heap.size := ⟨_, rfl⟩
  obtain ⟨W3, hW3⟩ : ∃ W3, W3 = (W2.setRow E (I64 t).toArray).alloc (.cells #[.int .i64 0, .int .i64 0, .int .i64 0, .int .i64 0, .int .i64 0, .int .i64 0, .int .i64 0, .int .i64 0, .int .i64 0, .int .i64 0, .int .i64 0, .int .i64 0, .int .i64 0, .int .i64 0, .int .i64 0, .int .i64 0] 65) := ⟨_, rfl⟩
  rw [← hE] at g5 gz hsz
  have k5 : Arr W3 E 169 (I64 t) := by rw [hW3]; exact (g5.row (I64 t)).alloc _
  have k6 : Arr W3 (E + 1) 65 (I64 (fs.take 0 ++ Z16.drop 0)) := by
    rw [hW3]
    have := Arr.new (W2.setRow E (I64 t).toArray) (I64 Z16) 65
    rw [show (W2.setRow E (I64 t).toArray).heap.size = E + 1 by simpa using gz] at this
    exact this
  have k2 : Arr W3 (w.heap.size + 2) 65 (I64 Z16) := by rw [hW3]; exact (g2.rowOther _ _ (by omega)).alloc _
  have kv : Vr W3 4 (I64 PL) := by rw [hW3]; exact (gv.rowOther _ (by omega)).kept ((Below.refl _ _).alloc (Nat.le_refl _) _)
  have kB : Below w.heap.size w W3 := by
    rw [hW3]
    have := setRow_below gB E (I64 t).toArray (by omega)
    exact this.alloc this.size _
  clear g5 g2 gv gB
  go_wp2_with (refine wpList_store_row rfl 169 _ _ rfl w1.heap.size (I64 t).toArray rfl rfl 169 _ h5 hit (by simp [htl]) (by simp [Value.oneCell']) ?_)
  rw [← hW2, ← hE, ← hW3]
  clear hW3 gz hW2 h5 hE
  go_loopw [11] (fun i wr => ∃ k : Nat, k ≤ 16 ∧ i = .int .i64 k ∧ Arr wr E 169 (I64 t) ∧ Arr wr (E + 1) 65 (I64 (fs.take k ++ Z16.drop k)) ∧ Arr wr (w.heap.size + 2) 65 (I64 Z16) ∧ Vr wr 4 (I64 PL) ∧ Below w.heap.size w wr) (fun i _ => 16 - (intOf i).toNat)
  case atStart => exact ⟨0, by omega, rfl, k5, k6, k2, kv, kB⟩
  case round =>
    clear k5 k6 k2 kv kB
    obtain ⟨k, hk, rfl, k5, k6, k2, kv, kB⟩ := hrel
    have hfk : (fs.take k).length = k := by simp; omega
    by_cases hlt : k < 16
    · obtain ⟨x, hx⟩ : ∃ x, x = t.getD k 0 := ⟨_, rfl⟩
      obtain ⟨y, hy⟩ : ∃ y, y = t.getD (16 + k) 0 := ⟨_, rfl⟩
      have bx := HTB.out k
      have by' := HTB.out (16 + k)
      rw [← hx] at bx
      rw [← hy] at by'
      have cx : wr.cell? ⟨E, k, none⟩ = some (.int .i64 x) := by rw [hx]; exact k5.i64 k (by omega)
      have cy : wr.cell? ⟨E, 16 + k, none⟩ = some (.int .i64 y) := by rw [hy]; exact k5.i64 (16 + k) (by omega)
      obtain ⟨u, hu⟩ : ∃ u, wr.cell? ⟨E + 1, k, none⟩ = some u := by
        rw [k6.cell k]
        exact ⟨_, List.getElem?_eq_getElem (by simp [hfl]; omega)⟩
      have hfz := k6.frozen k
      have hek := HG.out k hlt
      rw [← hx, ← hy] at hek
      have hts := take_app fs k (by omega)
      rw [hek] at hts
      have k6' := k6.set k (.int .i64 (x + 38 * y))
      rw [set_app hfk (show k < Z16.length from hlt), ← hts] at k6'
      have k5' := k5.other ⟨E + 1, k, none⟩ (.int .i64 (x + 38 * y)) (by simp)
      have k2' := k2.other ⟨E + 1, k, none⟩ (.int .i64 (x + 38 * y)) (by show w.heap.size + 2 ≠ E + 1; omega)
      have kv' := kv.other ⟨E + 1, k, none⟩ (.int .i64 (x + 38 * y)) (by show 4 ≠ E + 1; omega)
      have kB' := kB.setCell (p := ⟨E + 1, k, none⟩) (by show w.heap.size ≤ E + 1; omega) (.int .i64 (x + 38 * y))
      have hk16 : (k : Int) < 16 := by omega
      have hk32 : (k : Int) < 32 := by omega
      have hk0 : (0 : Int) ≤ (k : Int) := by omega
      have s1 : IntKind.i64.wrap (16 + (k : Int)) = 16 + (k : Int) := by rw [IntKind.wrap_i64]; omega
      have s2 : (16 + (k : Int)).toNat = 16 + k := by omega
      have s3 : 16 + (k : Int) < 32 := by omega
      have s4 : (0 : Int) ≤ 16 + (k : Int) := by omega
      have s5 : IntKind.i64.wrap (38 * y) = 38 * y := by rw [IntKind.wrap_i64]; omega
      have s6 : IntKind.i64.wrap (x + 38 * y) = x + 38 * y := by rw [IntKind.wrap_i64]; omega
      have H5 : Hid _ := k5'.drew
      have H6 : Hid _ := k6'.drew
      have H2 : Hid _ := k2'.drew
      have HV : Hid _ := kv'.kept (Below.refl _ _).drew
      have HB : Hid _ := kB'.drew
      clear k5' k6' k2' kv' kB' k5 k6 k2 kv kB hx hy hek hts
      go_wp2
      go_region
      clear cx cy hu hfz
      go_wp2
      go_roundw
      case rel => exact ⟨k + 1, by omega, by go_num, H5.out, H6.out, H2.out, HV.out, HB.out⟩
      case measure => simp [intOf]; omega
    · obtain rfl : k = 16 := by omega
      rw [List.take_of_length_le (by omega), show Z16.drop 16 = [] from rfl, List.append_nil] at k6
      have hif : (Tryz.prog.info? 65).map (·.size) = some (I64 fs).toArray.size := by simpa [hfl] using infoL
      clear hfk k5
      go_wp2_with (refine wpList_load_row rfl 65 _ rfl (E + 1) rfl 65 (I64 fs).toArray (0, 0) _ k6 Tryz.underlying65 rfl hif ?_)
      refine (HS.out _ kv).mono ?_
      rintro e w4 ⟨rfl, hb4⟩
      have k24 := k2.kept hb4
      have kB4 := kB.trans (hb4.mono kB.size)
      have hr := k24.row (I64 R)
      have hbl := setRow_below kB4 (w.heap.size + 2) (I64 R).toArray (by omega)
      clear k2 kB hb4 HS k6 kv
      go_wp2_with (refine wpList_store_row rfl 65 _ _ rfl (w.heap.size + 2) (I64 R).toArray rfl rfl 65 _ k24 hir (by simp [hRl]) (by simp [Value.oneCell']) ?_)
      exact bodyPost_ret (results_cell_row rfl _ _ (w.heap.size + 2) 65 (I64 R).toArray (0, 0) _ rfl hr Tryz.underlying65 rfl hir) rfl ⟨rfl, hbl⟩
end Go.Proofs.YtihoaakbkffejaaGreatDoor
namespace Go.Proofs.YtihoaakbkffejaaGreatDoor
open Go.RowKit
set_option maxRecDepth 100000
set_option maxHeartbeats 4000000

theorem infoLp : (Tryz.prog.info? 67).map (·.size) = some 64 := by kernel_rfl
theorem build_lp {a b c t : List Int} (ha : a.length = 16) (hb : b.length = 16) (hc : c.length = 16) (ht : t.length = 16) (w : World) : (Instr.build 67 #[(0, .agg (I64 a).toArray), (1, .agg (I64 b).toArray), (2, .agg (I64 c).toArray), (3, .agg (I64 t).toArray)]).run Tryz.prog w = .ok (.agg (I64 (a ++ b ++ c ++ t)).toArray) w := by
  obtain ⟨a0, a1, a2, a3, a4, a5, a6, a7, a8, a9, a10, a11, a12, a13, a14, a15, rfl⟩ := list16 ha
  obtain ⟨b0, b1, b2, b3, b4, b5, b6, b7, b8, b9, b10, b11, b12, b13, b14, b15, rfl⟩ := list16 hb
  obtain ⟨c0, c1, c2, c3, c4, c5, c6, c7, c8, c9, c10, c11, c12, c13, c14, c15, rfl⟩ := list16 hc
  obtain ⟨t0, t1, t2, t3, t4, t5, t6, t7, t8, t9, t10, t11, t12, t13, t14, t15, rfl⟩ := list16 ht
  kernel_rfl
theorem yieldsIf_lp {ops : Array Oper} {S : World → Prop} {op : Oper} {act : Act} (hw : Region.wanted op (yielded ops act.tmps) = true) (x y z u : Operand) (ho : op.op = .build 67 #[(0, x), (1, y), (2, z), (3, u)]) (P : E4) (hP : P.Ok)
    (hx : act.eval x = .agg (I64 P.a).toArray) (hy : act.eval y = .agg (I64 P.b).toArray) (hz : act.eval z = .agg (I64 P.c).toArray) (hu : act.eval u = .agg (I64 P.t).toArray) : YieldsIf Tryz.prog ops S op (.agg (I64 P.cells).toArray) act :=
  .inl ⟨hw, fun w _ => by
    unfold execOp
    simp only [ho, hx, hy, hz, hu, Sem.run_bind, List.map_toArray, List.map_cons, List.map_nil, build_lp (feOk_len hP.a) (feOk_len hP.b) (feOk_len hP.c) (feOk_len hP.t) w, Sem.run_pure, Result.andThen_ok]
    rfl⟩
theorem infoL' {l : List Int} (h : feOk l = true) : (Tryz.prog.info? 65).map (·.size) = some (I64 l).toArray.size := by simpa [feOk_len h] using infoL
theorem infoLl {l : List Int} (h : feOk l = true) : (Tryz.prog.info? 65).map (·.size) = some (I64 l).length := by simpa [feOk_len h] using infoL
theorem infoLp' {P : E4} (h : P.Ok) : (Tryz.prog.info? 67).map (·.size) = some (I64 P.cells).toArray.size := by simpa [E4.len h] using infoLp
theorem infoLpl {P : E4} (h : P.Ok) : (Tryz.prog.info? 67).map (·.size) = some (I64 P.cells).length := by simpa [E4.len h] using infoLp
/-- A number is laid into a new cell. -/
theorem laid_lm (w1 : World) (L : List Int) : Below w1.heap.size w1 ((w1.alloc (.cells #[.int .i64 0, .int .i64 0, .int .i64 0, .int .i64 0, .int .i64 0, .int .i64 0, .int .i64 0, .int .i64 0, .int .i64 0, .int .i64 0, .int .i64 0, .int .i64 0, .int .i64 0, .int .i64 0, .int .i64 0, .int .i64 0] 65)).setRow w1.heap.size (I64 L).toArray) ∧ Arr ((w1.alloc (.cells #[.int .i64 0, .int .i64 0, .int .i64 0, .int .i64 0, .int .i64 0, .int .i64 0, .int .i64 0, .int .i64 0, .int .i64 0, .int .i64 0, .int .i64 0, .int .i64 0, .int .i64 0, .int .i64 0, .int .i64 0, .int .i64 0] 65)).setRow w1.heap.size (I64 L).toArray) w1.heap.size 65 (I64 L) ∧ Arr (w1.alloc (.cells #[.int .i64 0, .int .i64 0, .int .i64 0, .int .i64 0, .int .i64 0, .int .i64 0, .int .i64 0, .int .i64 0, .int .i64 0, .int .i64 0, .int .i64 0, .int .i64 0, .int .i64 0, .int .i64 0, .int .i64 0, .int .i64 0] 65)) w1.heap.size 65 (I64 Z16) := by
  have q : Arr (w1.alloc (.cells #[.int .i64 0, .int .i64 0, .int .i64 0, .int .i64 0, .int .i64 0, .int .i64 0, .int .i64 0, .int .i64 0, .int .i64 0, .int .i64 0, .int .i64 0, .int .i64 0, .int .i64 0, .int .i64 0, .int .i64 0, .int .i64 0] 65)) w1.heap.size 65 (I64 Z16) := Arr.new w1 (I64 Z16) _
  exact ⟨setRow_below ((Below.refl _ _).alloc (Nat.le_refl _) _) _ _ (Nat.le_refl _), q.row _, q⟩
/-- A point in the long form is laid into a new cell. -/
theorem laid_lp (w1 : World) (L : List Int) : Below w1.heap.size w1 ((w1.alloc (.cells #[.int .i64 0, .int .i64 0, .int .i64 0, .int .i64 0, .int .i64 0, .int .i64 0, .int .i64 0, .int .i64 0, .int .i64 0, .int .i64 0, .int .i64 0, .int .i64 0, .int .i64 0, .int .i64 0, .int .i64 0, .int .i64 0, .int .i64 0, .int .i64 0, .int .i64 0, .int .i64 0, .int .i64 0, .int .i64 0, .int .i64 0, .int .i64 0, .int .i64 0, .int .i64 0, .int .i64 0, .int .i64 0, .int .i64 0, .int .i64 0, .int .i64 0, .int .i64 0, .int .i64 0, .int .i64 0, .int .i64 0, .int .i64 0, .int .i64 0, .int .i64 0, .int .i64 0, .int .i64 0, .int .i64 0, .int .i64 0, .int .i64 0, .int .i64 0, .int .i64 0, .int .i64 0, .int .i64 0, .int .i64 0, .int .i64 0, .int .i64 0, .int .i64 0, .int .i64 0, .int .i64 0, .int .i64 0, .int .i64 0, .int .i64 0, .int .i64 0, .int .i64 0, .int .i64 0, .int .i64 0, .int .i64 0, .int .i64 0, .int .i64 0, .int .i64 0] 67)).setRow w1.heap.size (I64 L).toArray) ∧ Arr ((w1.alloc (.cells #[.int .i64 0, .int .i64 0, .int .i64 0, .int .i64 0, .int .i64 0, .int .i64 0, .int .i64 0, .int .i64 0, .int .i64 0, .int .i64 0, .int .i64 0, .int .i64 0, .int .i64 0, .int .i64 0, .int .i64 0, .int .i64 0, .int .i64 0, .int .i64 0, .int .i64 0, .int .i64 0, .int .i64 0, .int .i64 0, .int .i64 0, .int .i64 0, .int .i64 0, .int .i64 0, .int .i64 0, .int .i64 0, .int .i64 0, .int .i64 0, .int .i64 0, .int .i64 0, .int .i64 0, .int .i64 0, .int .i64 0, .int .i64 0, .int .i64 0, .int .i64 0, .int .i64 0, .int .i64 0, .int .i64 0, .int .i64 0, .int .i64 0, .int .i64 0, .int .i64 0, .int .i64 0, .int .i64 0, .int .i64 0, .int .i64 0, .int .i64 0, .int .i64 0, .int .i64 0, .int .i64 0, .int .i64 0, .int .i64 0, .int .i64 0, .int .i64 0, .int .i64 0, .int .i64 0, .int .i64 0, .int .i64 0, .int .i64 0, .int .i64 0, .int .i64 0] 67)).setRow w1.heap.size (I64 L).toArray) w1.heap.size 67 (I64 L) ∧ Arr (w1.alloc (.cells #[.int .i64 0, .int .i64 0, .int .i64 0, .int .i64 0, .int .i64 0, .int .i64 0, .int .i64 0, .int .i64 0, .int .i64 0, .int .i64 0, .int .i64 0, .int .i64 0, .int .i64 0, .int .i64 0, .int .i64 0, .int .i64 0, .int .i64 0, .int .i64 0, .int .i64 0, .int .i64 0, .int .i64 0, .int .i64 0, .int .i64 0, .int .i64 0, .int .i64 0, .int .i64 0, .int .i64 0, .int .i64 0, .int .i64 0, .int .i64 0, .int .i64 0, .int .i64 0, .int .i64 0, .int .i64 0, .int .i64 0, .int .i64 0, .int .i64 0, .int .i64 0, .int .i64 0, .int .i64 0, .int .i64 0, .int .i64 0, .int .i64 0, .int .i64 0, .int .i64 0, .int .i64 0, .int .i64 0, .int .i64 0, .int .i64 0, .int .i64 0, .int .i64 0, .int .i64 0, .int .i64 0, .int .i64 0, .int .i64 0, .int .i64 0, .int .i64 0, .int .i64 0, .int .i64 0, .int .i64 0, .int .i64 0, .int .i64 0, .int .i64 0, .int .i64 0] 67)) w1.heap.size 67 (I64 Z64) := by
  have q : Arr (w1.alloc (.cells #[.int .i64 0, .int .i64 0, .int .i64 0, .int .i64 0, .int .i64 0, .int .i64 0, .int .i64 0, .int .i64 0, .int .i64 0, .int .i64 0, .int .i64 0, .int .i64 0, .int .i64 0, .int .i64 0, .int .i64 0, .int .i64 0, .int .i64 0, .int .i64 0, .int .i64 0, .int .i64 0, .int .i64 0, .int .i64 0, .int .i64 0, .int .i64 0, .int .i64 0, .int .i64 0, .int .i64 0, .int .i64 0, .int .i64 0, .int .i64 0, .int .i64 0, .int .i64 0, .int .i64 0, .int .i64 0, .int .i64 0, .int .i64 0, .int .i64 0, .int .i64 0, .int .i64 0, .int .i64 0, .int .i64 0, .int .i64 0, .int .i64 0, .int .i64 0, .int .i64 0, .int .i64 0, .int .i64 0, .int .i64 0, .int .i64 0, .int .i64 0, .int .i64 0, .int .i64 0, .int .i64 0, .int .i64 0, .int .i64 0, .int .i64 0, .int .i64 0, .int .i64 0, .int .i64 0, .int .i64 0, .int .i64 0, .int .i64 0, .int .i64 0, .int .i64 0] 67)) w1.heap.size 67 (I64 Z64) := Arr.new w1 (I64 Z64) _
  exact ⟨setRow_below ((Below.refl _ _).alloc (Nat.le_refl _) _) _ _ (Nat.le_refl _), q.row _, q⟩
theorem one_lim : lim 16 1 = [1, 0, 0, 0, 0, 0, 0, 0, 0, 0, 0, 0, 0, 0, 0, 0] := by decide
theorem zero_lim : lim 16 0 = Z16 := by decide
/-- What a call through an interface asks, and an assertion. -/
theorem assert_lp (v : Value) (w : World) : (Instr.typeAssert (.iface 67 v) 111 67 false).run Tryz.prog w = .ok v w := by kernel_rfl
theorem sumI {x y : List Int} (hx : feOk x = true) (hy : feOk y = true) (Z : World) (hV : Vr Z 4 (I64 PL)) : Calls Tryz.prog 100 #[.agg (I64 x).toArray, .agg (I64 y).toArray] Z fun e w' => e = .returned (.agg (I64 (red (val x + val y))).toArray) ∧ Below Z.heap.size Z w' := implSum x y Z hx hy hV
theorem subI {x y : List Int} (hx : feOk x = true) (hy : feOk y = true) (Z : World) (hV : Vr Z 4 (I64 PL)) : Calls Tryz.prog 99 #[.agg (I64 x).toArray, .agg (I64 y).toArray] Z fun e w' => e = .returned (.agg (I64 (red (val x - val y))).toArray) ∧ Below Z.heap.size Z w' := implDiff x y Z hx hy hV
theorem mulI {x y : List Int} (hx : feOk x = true) (hy : feOk y = true) (Z : World) (hV : Vr Z 4 (I64 PL)) : Calls Tryz.prog 98 #[.agg (I64 x).toArray, .agg (I64 y).toArray] Z fun e w' => e = .returned (.agg (I64 (red (val x * val y))).toArray) ∧ Below Z.heap.size Z w' := implProduct x y Z (feOk_len hx) (feOk_len hy) (feOk_lm' hx) (feOk_lm' hy) hV
end Go.Proofs.YtihoaakbkffejaaGreatDoor
