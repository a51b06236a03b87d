/-
  What is proved here: contracts of the specification's l6neg and l6in.
-/
import Derived.Test.YtoblilngppjmhaaDoorZUff
import Derived.Test.YtoblilngppjmhaaDoorZFp
namespace Go.Proofs.YtoblilngppjmhaaDoor
open Go.RowKit
set_option maxRecDepth 100000

set_option maxHeartbeats 4000000 in
theorem spec6neg (P : E4) (w : World) (hP : P.Ok) :
  Calls Tryd.prog 92 #[.agg (I64 P.cells).toArray] w fun e w' => e = .returned (.agg (I64 (neg6 P).cells).toArray) ∧ Below w.heap.size w w' := by
 obtain ⟨z, ez⟩ : ∃ z, z = lim 16 0 := ⟨_, rfl⟩
 have kz : feOk z = true := by rw [ez]; exact zero_ok
 obtain ⟨R, hR⟩ : ∃ R, R = neg6 P := ⟨_, rfl⟩
 have hRo : R.Ok := by rw [hR]; exact neg6_ok hP
 have hRl := E4.len hRo
 have ra : red (val z - val P.a) = R.a := by rw [hR, ez]; rfl
 have rb : R.b = P.b := by rw [hR]; rfl
 have rc : R.c = P.c := by rw [hR]; rfl
 have rt : red (val z - val P.t) = R.t := by rw [hR, ez]; rfl
 have Hz : Hid (∀ Z, Calls Tryd.prog 112 #[.int .i64 0] Z fun e w' => e = .returned (.agg (I64 z).toArray) ∧ Below Z.heap.size Z w') := by
  unfold Hid; intro Z; rw [ez]; exact specSmall 0 Z (by omega) (by omega)
 have Hx : Hid (∀ Z, Calls Tryd.prog 110 #[.agg (I64 z).toArray, .agg (I64 P.a).toArray] Z fun e w' => e = .returned (.agg (I64 R.a).toArray) ∧ Below Z.heap.size Z w') := by
  unfold Hid; intro Z; rw [← ra]; exact subC kz hP.a Z
 have Hy : Hid (∀ Z, Calls Tryd.prog 110 #[.agg (I64 z).toArray, .agg (I64 P.t).toArray] Z fun e w' => e = .returned (.agg (I64 R.t).toArray) ∧ Below Z.heap.size Z w') := by
  unfold Hid; intro Z; rw [← rt]; exact subC kz hP.t Z
 rw [← hR]
 have iPa := infoEl hP.a
 have iPb := infoEl hP.b
 have iPc := infoEl hP.c
 have iPt := infoEl hP.t
 have jz := infoE' kz
 have iiz := infoEl kz
 have nz := feOk_len kz
 have hip := infoP' hRo
 have hone := one_lm R.cells
 have hu : Tryd.prog.underlying 82 = some (.array 16 3) := Tryd.underlying82
 obtain ⟨A, hA⟩ : ∃ A, A = (I64 P.cells).toArray := ⟨_, rfl⟩
 obtain ⟨W, hW⟩ : ∃ W, W = (w.alloc (.cells A 108)).alloc (.cells #[.int .i64 0, .int .i64 0, .int .i64 0, .int .i64 0, .int .i64 0, .int .i64 0, .int .i64 0, .int .i64 0, .int .i64 0, .int .i64 0, .int .i64 0, .int .i64 0, .int .i64 0, .int .i64 0, .int .i64 0, .int .i64 0, .int .i64 0, .int .i64 0, .int .i64 0, .int .i64 0, .int .i64 0, .int .i64 0, .int .i64 0, .int .i64 0, .int .i64 0, .int .i64 0, .int .i64 0, .int .i64 0, .int .i64 0, .int .i64 0, .int .i64 0, .int .i64 0, .int .i64 0, .int .i64 0, .int .i64 0, .int .i64 0, .int .i64 0, .int .i64 0, .int .i64 0, .int .i64 0, .int .i64 0, .int .i64 0, .int .i64 0, .int .i64 0, .int .i64 0, .int .i64 0, .int .i64 0, .int .i64 0, .int .i64 0, .int .i64 0, .int .i64 0, .int .i64 0, .int .i64 0, .int .i64 0, .int .i64 0, .int .i64 0, .int .i64 0, .int .i64 0, .int .i64 0, .int .i64 0, .int .i64 0, .int .i64 0, .int .i64 0, .int .i64 0] 108) := ⟨_, rfl⟩
 have fr : Below w.heap.size w W := by rw [hW]; exact ((Below.refl _ _).alloc (Nat.le_refl _) _).alloc (by simp) _
 have pa : Arr W w.heap.size 108 (I64 P.cells) := by rw [hW, hA]; exact (Arr.new w (I64 P.cells) _).alloc _
 have pr : Arr W (w.heap.size + 1) 108 (I64 Z64) := by
  rw [hW]
  have := Arr.new (w.alloc (.cells A 108)) (I64 Z64) 108
  rw [World.size_alloc] at this
  exact this
 rw [← hA]
 clear hA ez ra rt hR kz
 go_enter Tryd.func92, Tryd.ntmps92
 go_upto_region 1 with fail
 rw [← hW]
 clear hW
 go_wp2_with fail
 refine (Hz.out _).mono ?_
 rintro e y1 ⟨rfl, hb1⟩
 replace fr := fr.trans (hb1.mono fr.size)
 replace pa := pa.kept hb1
 replace pr := pr.kept hb1
 clear hb1
 obtain ⟨bV, Az, q1⟩ := laid_e y1 z
 replace fr := fr.trans (bV.mono fr.size)
 replace pa := pa.kept bV
 replace pr := pr.kept bV
 go_wp2_with (refine wpList_store_row rfl 82 _ _ rfl y1.heap.size (I64 z).toArray rfl rfl 82 _ q1 jz (by simp [nz]) (by simp [Value.oneCell']) ?_)
 obtain ⟨V2, hVV⟩ : ∃ V, V = (y1.alloc (.cells #[.int .i64 0, .int .i64 0, .int .i64 0, .int .i64 0, .int .i64 0, .int .i64 0, .int .i64 0, .int .i64 0, .int .i64 0, .int .i64 0, .int .i64 0, .int .i64 0, .int .i64 0, .int .i64 0, .int .i64 0, .int .i64 0] 82)).setRow y1.heap.size (I64 z).toArray := ⟨_, rfl⟩
 obtain ⟨Xz, hE⟩ : ∃ E, E = y1.heap.size := ⟨_, rfl⟩
 rw [← hVV] at fr pa pr Az ⊢
 rw [← hE] at Az ⊢
 clear hVV hE q1 bV
 have hXX : Xz ≠ w.heap.size + 1 := arr_ne Az pr (by decide)
 try simp only [Act.put]
 have bD : Below V2.heap.size V2 V2.drew := (Below.refl _ _).drew
 replace fr := fr.trans (bD.mono fr.size)
 replace pa := pa.kept bD
 replace pr := pr.kept bD
 replace Az := Az.kept bD
 clear bD
 refine wp_region_held_drew (S := fun W => W.rangeAt w.heap.size 0 (I64 P.a) ∧ W.rangeAt w.heap.size 16 (I64 P.b) ∧ W.rangeAt w.heap.size 32 (I64 P.c) ∧ W.rangeAt w.heap.size 48 (I64 P.t) ∧ W.rangeAt Xz 0 (I64 z)) (by kernel_rfl) ⟨E4.ra pa, E4.rb hP pa, E4.rc hP pa, E4.rt hP pa, arr_range Az⟩ (fun hHeld => ?_)
 obtain ⟨D3, hD⟩ : ∃ V, V = V2.drew := ⟨_, rfl⟩
 rw [← hD] at hHeld fr pa pr Az ⊢
 clear hD
 refine wpAnyH_take (i := 0) (oi := { dst := some 5, op := Op.load 82 (Operand.tmp 3), type := 82, pos := "l06_point.go:63", after := #[], guard := none }) (v := _) rfl (by kernel_rfl) (by kernel_rfl) (by kernel_rfl) (fun _ _ _ h => h) (yieldsIf_load_mid (by rfl) _ _ rfl _ _ rfl (I64 z) _ (fun _ h => h.2.2.2.2) hu rfl iiz) (by assumption) ?_
 simp only [Act.put, List.setIfInBounds_toArray, List.set_cons_zero, List.set_cons_succ]
 refine wpAnyH_take (i := 1) (oi := { dst := some 6, op := Op.fieldAddr 108 (Operand.tmp 1) 0, type := 0, pos := "l06_point.go:63", after := #[], guard := none }) (v := .pointer (some ⟨w.heap.size, 0, none⟩)) rfl (by kernel_rfl) (by kernel_rfl) (by kernel_rfl) (fun _ _ _ h => h) (.inl ⟨by rfl, fun _ _ => by rfl⟩) (by assumption) ?_
 simp only [Act.put, List.setIfInBounds_toArray, List.set_cons_zero, List.set_cons_succ]
 refine wpAnyH_take (i := 2) (oi := { dst := some 7, op := Op.load 82 (Operand.tmp 6), type := 82, pos := "l06_point.go:63", after := #[{ on := 1, ground := Ground.data }], guard := none }) (v := _) rfl (by kernel_rfl) (by kernel_rfl) (by kernel_rfl) (fun _ _ _ h => h) (yieldsIf_load_mid (by rfl) _ _ rfl _ _ rfl (I64 P.a) _ (fun _ h => h.1) hu rfl iPa) (by assumption) ?_
 simp only [Act.put, List.setIfInBounds_toArray, List.set_cons_zero, List.set_cons_succ]
 refine wpAnyH_take (i := 4) (oi := { dst := some 9, op := Op.fieldAddr 108 (Operand.tmp 1) 1, type := 0, pos := "l06_point.go:63", after := #[], guard := none }) (v := .pointer (some ⟨w.heap.size, 16, none⟩)) rfl (by kernel_rfl) (by kernel_rfl) (by kernel_rfl) (fun _ _ _ h => h) (.inl ⟨by rfl, fun _ _ => by rfl⟩) (by assumption) ?_
 simp only [Act.put, List.setIfInBounds_toArray, List.set_cons_zero, List.set_cons_succ]
 refine wpAnyH_take (i := 5) (oi := { dst := some 10, op := Op.load 82 (Operand.tmp 9), type := 82, pos := "l06_point.go:63", after := #[{ on := 4, ground := Ground.data }], guard := none }) (v := _) rfl (by kernel_rfl) (by kernel_rfl) (by kernel_rfl) (fun _ _ _ h => h) (yieldsIf_load_mid (by rfl) _ _ rfl _ _ rfl (I64 P.b) _ (fun _ h => h.2.1) hu rfl iPb) (by assumption) ?_
 simp only [Act.put, List.setIfInBounds_toArray, List.set_cons_zero, List.set_cons_succ]
 refine wpAnyH_take (i := 6) (oi := { dst := some 11, op := Op.fieldAddr 108 (Operand.tmp 1) 2, type := 0, pos := "l06_point.go:63", after := #[], guard := none }) (v := .pointer (some ⟨w.heap.size, 32, none⟩)) rfl (by kernel_rfl) (by kernel_rfl) (by kernel_rfl) (fun _ _ _ h => h) (.inl ⟨by rfl, fun _ _ => by rfl⟩) (by assumption) ?_
 simp only [Act.put, List.setIfInBounds_toArray, List.set_cons_zero, List.set_cons_succ]
 refine wpAnyH_take (i := 7) (oi := { dst := some 12, op := Op.load 82 (Operand.tmp 11), type := 82, pos := "l06_point.go:63", after := #[{ on := 6, ground := Ground.data }], guard := none }) (v := _) rfl (by kernel_rfl) (by kernel_rfl) (by kernel_rfl) (fun _ _ _ h => h) (yieldsIf_load_mid (by rfl) _ _ rfl _ _ rfl (I64 P.c) _ (fun _ h => h.2.2.1) hu rfl iPc) (by assumption) ?_
 simp only [Act.put, List.setIfInBounds_toArray, List.set_cons_zero, List.set_cons_succ]
 refine wpAnyH_take (i := 8) (oi := { dst := some 13, op := Op.load 82 (Operand.tmp 3), type := 82, pos := "l06_point.go:63", after := #[], guard := none }) (v := _) rfl (by kernel_rfl) (by kernel_rfl) (by kernel_rfl) (fun _ _ _ h => h) (yieldsIf_load_mid (by rfl) _ _ rfl _ _ rfl (I64 z) _ (fun _ h => h.2.2.2.2) hu rfl iiz) (by assumption) ?_
 simp only [Act.put, List.setIfInBounds_toArray, List.set_cons_zero, List.set_cons_succ]
 refine wpAnyH_take (i := 9) (oi := { dst := some 14, op := Op.fieldAddr 108 (Operand.tmp 1) 3, type := 0, pos := "l06_point.go:63", after := #[], guard := none }) (v := .pointer (some ⟨w.heap.size, 48, none⟩)) rfl (by kernel_rfl) (by kernel_rfl) (by kernel_rfl) (fun _ _ _ h => h) (.inl ⟨by rfl, fun _ _ => by rfl⟩) (by assumption) ?_
 simp only [Act.put, List.setIfInBounds_toArray, List.set_cons_zero, List.set_cons_succ]
 refine wpAnyH_take (i := 10) (oi := { dst := some 15, op := Op.load 82 (Operand.tmp 14), type := 82, pos := "l06_point.go:63", after := #[{ on := 9, ground := Ground.data }], guard := none }) (v := _) rfl (by kernel_rfl) (by kernel_rfl) (by kernel_rfl) (fun _ _ _ h => h) (yieldsIf_load_mid (by rfl) _ _ rfl _ _ rfl (I64 P.t) _ (fun _ h => h.2.2.2.1) hu rfl iPt) (by assumption) ?_
 simp only [Act.put, List.setIfInBounds_toArray, List.set_cons_zero, List.set_cons_succ]
 refine wpAnyH_ready (rs := [3]) (by kernel_rfl) (by simp) (AllReadyH.cons (o := { dst := some 8, op := Op.call { callee := Callee.value (Operand.func 110), args := #[Operand.tmp 5, Operand.tmp 7], argTypes := #[82, 82] }, type := 82, pos := "l06_point.go:63", after := #[{ on := 0, ground := Ground.data }, { on := 2, ground := Ground.data }], guard := none }) rfl (fun K hK => ?_) AllReadyH.nil)
 go_simp
 refine (Hx.out _).mono ?_
 rintro e y4 ⟨rfl, hb4⟩
 replace fr := fr.trans (hb4.mono fr.size)
 replace pa := pa.kept hb4
 replace pr := pr.kept hb4
 replace Az := Az.kept hb4
 clear hb4
 go_wp2_with fail
 refine hK.out _ _ ⟨E4.ra pa, E4.rb hP pa, E4.rc hP pa, E4.rt hP pa, arr_range Az⟩ (fun hHeld => ?_)
 clear hK K
 refine wpAnyH_ready (rs := [11]) (by kernel_rfl) (by simp) (AllReadyH.cons (o := { dst := some 16, op := Op.call { callee := Callee.value (Operand.func 110), args := #[Operand.tmp 13, Operand.tmp 15], argTypes := #[82, 82] }, type := 82, pos := "l06_point.go:63", after := #[{ on := 8, ground := Ground.data }, { on := 10, ground := Ground.data }, { on := 3, ground := Ground.chain }], guard := none }) rfl (fun K hK => ?_) AllReadyH.nil)
 go_simp
 refine (Hy.out _).mono ?_
 rintro e y5 ⟨rfl, hb5⟩
 replace fr := fr.trans (hb5.mono fr.size)
 replace pa := pa.kept hb5
 replace pr := pr.kept hb5
 replace Az := Az.kept hb5
 clear hb5
 go_wp2_with fail
 refine hK.out _ _ ⟨E4.ra pa, E4.rb hP pa, E4.rc hP pa, E4.rt hP pa, arr_range Az⟩ (fun hHeld => ?_)
 clear hK K
 refine wpAnyH_take (i := 12) (oi := { dst := some 17, op := Op.build 108 #[(0, Operand.tmp 8), (1, Operand.tmp 10), (2, Operand.tmp 12), (3, Operand.tmp 16)], type := 108, pos := "l06_point.go:63", after := #[{ on := 3, ground := Ground.data }, { on := 5, ground := Ground.data }, { on := 7, ground := Ground.data }, { on := 11, ground := Ground.data }], guard := none }) (v := _) rfl (by kernel_rfl) (by kernel_rfl) (by kernel_rfl) (fun _ _ _ h => h) (yieldsIf_p6 (by rfl) _ _ _ _ rfl R hRo rfl (by rw [rb]; rfl) (by rw [rc]; rfl) rfl) (by assumption) ?_
 simp only [Act.put, List.setIfInBounds_toArray, List.set_cons_zero, List.set_cons_succ]
 refine wpAnyH_ready (rs := [13]) (by kernel_rfl) (by simp) (AllReadyH.cons (o := { dst := none, op := Op.store 108 (Operand.tmp 2) (Operand.tmp 17), type := 0, pos := "l06_point.go:63", after := #[{ on := 12, ground := Ground.data }, { on := 11, ground := Ground.chain }, { on := 0, ground := Ground.phase }, { on := 1, ground := Ground.phase }, { on := 2, ground := Ground.phase }, { on := 3, ground := Ground.phase }, { on := 4, ground := Ground.phase }, { on := 5, ground := Ground.phase }, { on := 6, ground := Ground.phase }, { on := 7, ground := Ground.phase }, { on := 8, ground := Ground.phase }, { on := 9, ground := Ground.phase }, { on := 10, ground := Ground.phase }, { on := 11, ground := Ground.phase }, { on := 12, ground := Ground.phase }], guard := none }) rfl (fun K hK => ?_) AllReadyH.nil)
 rw [if_pos (by rfl)]
 refine wp_store_mid _ _ _ rfl _ _ (I64 R.cells).toArray rfl rfl (by have := arr_there pr; simpa [hRl] using this) hip (all_oneCell_toArray hone) ?_
 simp only [Act.put]
 obtain ⟨V6, hVe⟩ : ∃ V, V = y5.setCells (w.heap.size + 1) 0 (I64 R.cells) := ⟨_, rfl⟩
 rw [← hVe]
 replace fr : Below w.heap.size w V6 := by rw [hVe]; exact setCells_below (by omega) _ _ fr
 replace pa : Arr V6 w.heap.size 108 (I64 P.cells) := by rw [hVe]; exact Arr.setCellsO (by omega) _ _ pa
 replace pr : Arr V6 (w.heap.size + 1) 108 (I64 R.cells) := by rw [hVe]; exact Arr.setCells0 pr (by simp [hRl])
 replace Az : Arr V6 Xz 82 (I64 z) := by rw [hVe]; exact Arr.setCellsO (by omega) _ _ Az
 clear hVe
 refine hK.out _ _ ⟨E4.ra pa, E4.rb hP pa, E4.rc hP pa, E4.rt hP pa, arr_range Az⟩ (fun hHeld => ?_)
 clear hK K
 refine wpAnyH_done (by kernel_rfl) ?_ _
 go_wp2
 exact bodyPost_ret (results_cell_row rfl _ _ (w.heap.size + 1) 108 (I64 R.cells).toArray (0, 0) _ rfl pr Tryd.underlying108 rfl hip) rfl ⟨rfl, fr⟩

set_option maxHeartbeats 4000000 in
theorem spec6in (a : Option Addr) (c : Nat) (xs : List Int) (b : Option Addr) (d : Nat) (ys : List Int) (w : World) (hx : Is w a 16 c xs) (hy : Is w b 16 d ys) (kx : feOk xs = true) (ky : feOk ys = true) :
  Calls Tryd.prog 91 #[.agg #[.slice a 16 c, .slice b 16 d]] w fun e w' => e = .returned (.agg (I64 (mk6 xs ys).cells).toArray) ∧ Below w.heap.size w w' := by
 obtain ⟨R, hR⟩ : ∃ R, R = mk6 xs ys := ⟨_, rfl⟩
 have hRo : R.Ok := by rw [hR]; exact mk6_ok kx ky
 have hRl := E4.len hRo
 have Hx : Hid (∀ Z, Below w.heap.size w Z → Calls Tryd.prog 61 #[.agg #[.slice a 16 c]] Z fun e w' => e = .returned (.agg (I64 xs).toArray) ∧ Below Z.heap.size Z w') := by
  unfold Hid; intro Z hZ; exact specIn a c xs Z (hx.below hZ)
 have Hy : Hid (∀ Z, Below w.heap.size w Z → Calls Tryd.prog 61 #[.agg #[.slice b 16 d]] Z fun e w' => e = .returned (.agg (I64 ys).toArray) ∧ Below Z.heap.size Z w') := by
  unfold Hid; intro Z hZ; exact specIn b d ys Z (hy.below hZ)
 have HM : Hid (∀ Z, Calls Tryd.prog 126 #[.agg (I64 xs).toArray, .agg (I64 ys).toArray] Z fun e w' => e = .returned (.agg (I64 R.cells).toArray) ∧ Below Z.heap.size Z w') := by
  unfold Hid; intro Z; rw [hR]; exact spec6make xs ys Z kx ky
 rw [← hR]
 have hip := infoP' hRo
 have hone := one_lm R.cells
 have hu : Tryd.prog.underlying 25 = some _ := Tryd.underlying25
 obtain ⟨W, hW⟩ : ∃ W, W = (w.alloc (.cells #[.slice a 16 c, .slice b 16 d] 27)).alloc (.cells #[.int .i64 0, .int .i64 0, .int .i64 0, .int .i64 0, .int .i64 0, .int .i64 0, .int .i64 0, .int .i64 0, .int .i64 0, .int .i64 0, .int .i64 0, .int .i64 0, .int .i64 0, .int .i64 0, .int .i64 0, .int .i64 0, .int .i64 0, .int .i64 0, .int .i64 0, .int .i64 0, .int .i64 0, .int .i64 0, .int .i64 0, .int .i64 0, .int .i64 0, .int .i64 0, .int .i64 0, .int .i64 0, .int .i64 0, .int .i64 0, .int .i64 0, .int .i64 0, .int .i64 0, .int .i64 0, .int .i64 0, .int .i64 0, .int .i64 0, .int .i64 0, .int .i64 0, .int .i64 0, .int .i64 0, .int .i64 0, .int .i64 0, .int .i64 0, .int .i64 0, .int .i64 0, .int .i64 0, .int .i64 0, .int .i64 0, .int .i64 0, .int .i64 0, .int .i64 0, .int .i64 0, .int .i64 0, .int .i64 0, .int .i64 0, .int .i64 0, .int .i64 0, .int .i64 0, .int .i64 0, .int .i64 0, .int .i64 0, .int .i64 0, .int .i64 0] 108) := ⟨_, rfl⟩
 have fr : Below w.heap.size w W := by rw [hW]; exact ((Below.refl _ _).alloc (Nat.le_refl _) _).alloc (by simp) _
 have pa : Arr W w.heap.size 27 ([.slice a 16 c, .slice b 16 d]) := by rw [hW]; exact (Arr.new w [.slice a 16 c, .slice b 16 d] _).alloc _
 have pr : Arr W (w.heap.size + 1) 108 (I64 Z64) := by
  rw [hW]
  have := Arr.new (w.alloc (.cells #[.slice a 16 c, .slice b 16 d] 27)) (I64 Z64) 108
  rw [World.size_alloc] at this
  exact this
 clear hR hx hy kx ky
 go_enter Tryd.func91, Tryd.ntmps91
 go_upto_region 1 with fail
 rw [← hW]
 clear hW
 try simp only [Act.put]
 have bD : Below W.heap.size W W.drew := (Below.refl _ _).drew
 replace fr := fr.trans (bD.mono fr.size)
 replace pa := pa.kept bD
 replace pr := pr.kept bD
 clear bD
 refine wp_region_held_drew (S := fun W => W.rangeAt w.heap.size 0 [.slice a 16 c] ∧ W.rangeAt w.heap.size 1 [.slice b 16 d]) (by kernel_rfl) ⟨range2a pa, range2b pa⟩ (fun hHeld => ?_)
 obtain ⟨D1, hD⟩ : ∃ V, V = W.drew := ⟨_, rfl⟩
 rw [← hD] at hHeld fr pa pr ⊢
 clear hD
 refine wpAnyH_take (i := 0) (oi := { dst := some 3, op := Op.fieldAddr 27 (Operand.tmp 1) 0, type := 0, pos := "l06_point.go:79", after := #[], guard := none }) (v := .pointer (some ⟨w.heap.size, 0, none⟩)) rfl (by kernel_rfl) (by kernel_rfl) (by kernel_rfl) (fun _ _ _ h => h) (.inl ⟨by rfl, fun _ _ => by rfl⟩) (by assumption) ?_
 simp only [Act.put, List.setIfInBounds_toArray, List.set_cons_zero, List.set_cons_succ]
 refine wpAnyH_take (i := 1) (oi := { dst := some 4, op := Op.load 25 (Operand.tmp 3), type := 25, pos := "l06_point.go:79", after := #[{ on := 0, ground := Ground.data }], guard := none }) (v := _) rfl (by kernel_rfl) (by kernel_rfl) (by kernel_rfl) (fun _ _ _ h => h) (yieldsIf_load_mid (by rfl) _ _ rfl _ _ rfl ([.slice a 16 c]) _ (fun _ h => h.1) hu rfl infoFe1) (by assumption) ?_
 simp only [Act.put, List.setIfInBounds_toArray, List.set_cons_zero, List.set_cons_succ]
 refine wpAnyH_take (i := 3) (oi := { dst := some 6, op := Op.fieldAddr 27 (Operand.tmp 1) 1, type := 0, pos := "l06_point.go:79", after := #[], guard := none }) (v := .pointer (some ⟨w.heap.size, 1, none⟩)) rfl (by kernel_rfl) (by kernel_rfl) (by kernel_rfl) (fun _ _ _ h => h) (.inl ⟨by rfl, fun _ _ => by rfl⟩) (by assumption) ?_
 simp only [Act.put, List.setIfInBounds_toArray, List.set_cons_zero, List.set_cons_succ]
 refine wpAnyH_take (i := 4) (oi := { dst := some 7, op := Op.load 25 (Operand.tmp 6), type := 25, pos := "l06_point.go:79", after := #[{ on := 3, ground := Ground.data }], guard := none }) (v := _) rfl (by kernel_rfl) (by kernel_rfl) (by kernel_rfl) (fun _ _ _ h => h) (yieldsIf_load_mid (by rfl) _ _ rfl _ _ rfl ([.slice b 16 d]) _ (fun _ h => h.2) hu rfl infoFe1) (by assumption) ?_
 simp only [Act.put, List.setIfInBounds_toArray, List.set_cons_zero, List.set_cons_succ]
 refine wpAnyH_ready (rs := [2]) (by kernel_rfl) (by simp) (AllReadyH.cons (o := { dst := some 5, op := Op.call { callee := Callee.value (Operand.func 61), args := #[Operand.tmp 4], argTypes := #[25] }, type := 82, pos := "l06_point.go:79", after := #[{ on := 1, ground := Ground.data }], guard := none }) rfl (fun K hK => ?_) AllReadyH.nil)
 go_simp
 refine (Hx.out _ fr).mono ?_
 rintro e y2 ⟨rfl, hb2⟩
 replace fr := fr.trans (hb2.mono fr.size)
 replace pa := pa.kept hb2
 replace pr := pr.kept hb2
 clear hb2
 go_wp2_with fail
 refine hK.out _ _ ⟨range2a pa, range2b pa⟩ (fun hHeld => ?_)
 clear hK K
 refine wpAnyH_ready (rs := [5]) (by kernel_rfl) (by simp) (AllReadyH.cons (o := { dst := some 8, op := Op.call { callee := Callee.value (Operand.func 61), args := #[Operand.tmp 7], argTypes := #[25] }, type := 82, pos := "l06_point.go:79", after := #[{ on := 4, ground := Ground.data }, { on := 2, ground := Ground.chain }], guard := none }) rfl (fun K hK => ?_) AllReadyH.nil)
 go_simp
 refine (Hy.out _ fr).mono ?_
 rintro e y3 ⟨rfl, hb3⟩
 replace fr := fr.trans (hb3.mono fr.size)
 replace pa := pa.kept hb3
 replace pr := pr.kept hb3
 clear hb3
 go_wp2_with fail
 refine hK.out _ _ ⟨range2a pa, range2b pa⟩ (fun hHeld => ?_)
 clear hK K
 refine wpAnyH_ready (rs := [6]) (by kernel_rfl) (by simp) (AllReadyH.cons (o := { dst := some 9, op := Op.call { callee := Callee.value (Operand.func 126), args := #[Operand.tmp 5, Operand.tmp 8], argTypes := #[82, 82] }, type := 108, pos := "l06_point.go:79", after := #[{ on := 2, ground := Ground.data }, { on := 5, ground := Ground.data }, { on := 5, ground := Ground.chain }], guard := none }) rfl (fun K hK => ?_) AllReadyH.nil)
 go_simp
 refine (HM.out _).mono ?_
 rintro e y4 ⟨rfl, hb4⟩
 replace fr := fr.trans (hb4.mono fr.size)
 replace pa := pa.kept hb4
 replace pr := pr.kept hb4
 clear hb4
 go_wp2_with fail
 refine hK.out _ _ ⟨range2a pa, range2b pa⟩ (fun hHeld => ?_)
 clear hK K
 refine wpAnyH_ready (rs := [7]) (by kernel_rfl) (by simp) (AllReadyH.cons (o := { dst := none, op := Op.store 108 (Operand.tmp 2) (Operand.tmp 9), type := 0, pos := "l06_point.go:79", after := #[{ on := 6, ground := Ground.data }, { on := 6, ground := Ground.chain }, { on := 0, ground := Ground.phase }, { on := 1, ground := Ground.phase }, { on := 2, ground := Ground.phase }, { on := 3, ground := Ground.phase }, { on := 4, ground := Ground.phase }, { on := 5, ground := Ground.phase }, { on := 6, ground := Ground.phase }], guard := none }) rfl (fun K hK => ?_) AllReadyH.nil)
 rw [if_pos (by rfl)]
 refine wp_store_mid _ _ _ rfl _ _ (I64 R.cells).toArray rfl rfl (by have := arr_there pr; simpa [hRl] using this) hip (all_oneCell_toArray hone) ?_
 simp only [Act.put]
 obtain ⟨V5, hVe⟩ : ∃ V, V = y4.setCells (w.heap.size + 1) 0 (I64 R.cells) := ⟨_, rfl⟩
 rw [← hVe]
 replace fr : Below w.heap.size w V5 := by rw [hVe]; exact setCells_below (by omega) _ _ fr
 replace pa : Arr V5 w.heap.size 27 ([.slice a 16 c, .slice b 16 d]) := by rw [hVe]; exact Arr.setCellsO (by omega) _ _ pa
 replace pr : Arr V5 (w.heap.size + 1) 108 (I64 R.cells) := by rw [hVe]; exact Arr.setCells0 pr (by simp [hRl])
 clear hVe
 refine hK.out _ _ ⟨range2a pa, range2b pa⟩ (fun hHeld => ?_)
 clear hK K
 refine wpAnyH_done (by kernel_rfl) ?_ _
 go_wp2
 exact bodyPost_ret (results_cell_row rfl _ _ (w.heap.size + 1) 108 (I64 R.cells).toArray (0, 0) _ rfl pr Tryd.underlying108 rfl hip) rfl ⟨rfl, fr⟩
end Go.Proofs.YtoblilngppjmhaaDoor
