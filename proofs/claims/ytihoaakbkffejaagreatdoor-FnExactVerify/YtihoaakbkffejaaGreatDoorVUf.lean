/-
  What is proved here: contracts of the specification's l6neg and l6in; the contract of the specification's Verify; contracts of the library's errors.Is at the program's faults and at none; the contract of the program's Verify; the contract of the laws' eqByteS.
-/
import Derived.Test.YtihoaakbkffejaaGreatDoorVUff
import Derived.Test.YtihoaakbkffejaaGreatDoorVFd
import Derived.Test.YtihoaakbkffejaaGreatDoorVVt
import Derived.Test.YtihoaakbkffejaaGreatDoorVVn
import Derived.Test.YtihoaakbkffejaaGreatDoorVUt
import Derived.Test.YtihoaakbkffejaaGreatDoorVUc
import Derived.Test.YtihoaakbkffejaaGreatDoorVOf
import Derived.Test.YtihoaakbkffejaaGreatDoorVQk
import Derived.Test.YtihoaakbkffejaaGreatDoorVFm
import Derived.Test.YtihoaakbkffejaaGreatDoorVFu
import Derived.WalkKit
import Derived.LaidEql
import Derived.Stop.Asserts
import Derived.RowKitTokens
import Derived.Test.YtihoaakbkffejaaGreatDoorProg
import Derived.Deep.QuietTactic
import Derived.BigQuiet
namespace Go.Proofs.YtihoaakbkffejaaGreatDoor
open Go.RowKit
set_option maxRecDepth 100000

set_option maxHeartbeats 4000000 in
theorem spec6neg (P : E4) (w : World) (hP : P.Ok) :
  Calls Tryz.prog 78 #[.agg (I64 P.cells).toArray] w fun e w' => e = .returned (.agg (I64 (neg6 P).cells).toArray) ∧ Below w.heap.size w w' := by
 obtain ⟨z, ez⟩ : ∃ z, z = lim 16 0 := ⟨_, rfl⟩
 have kz : feOk z = true := by rw [ez]; exact zero_ok
 obtain ⟨R, hR⟩ : ∃ R, R = neg6 P := ⟨_, rfl⟩
 have hRo : R.Ok := by rw [hR]; exact neg6_ok hP
 have hRl := E4.len hRo
 have ra : red (val z - val P.a) = R.a := by rw [hR, ez]; rfl
 have rb : R.b = P.b := by rw [hR]; rfl
 have rc : R.c = P.c := by rw [hR]; rfl
 have rt : red (val z - val P.t) = R.t := by rw [hR, ez]; rfl
 have Hz : Hid (∀ Z, Calls Tryz.prog 96 #[.int .i64 0] Z fun e w' => e = .returned (.agg (I64 z).toArray) ∧ Below Z.heap.size Z w') := by
  unfold Hid; intro Z; rw [ez]; exact specSmall 0 Z (by omega) (by omega)
 have Hx : Hid (∀ Z, Calls Tryz.prog 114 #[.agg (I64 z).toArray, .agg (I64 P.a).toArray] Z fun e w' => e = .returned (.agg (I64 R.a).toArray) ∧ Below Z.heap.size Z w') := by
  unfold Hid; intro Z; rw [← ra]; exact subC kz hP.a Z
 have Hy : Hid (∀ Z, Calls Tryz.prog 114 #[.agg (I64 z).toArray, .agg (I64 P.t).toArray] Z fun e w' => e = .returned (.agg (I64 R.t).toArray) ∧ Below Z.heap.size Z w') := by
  unfold Hid; intro Z; rw [← rt]; exact subC kz hP.t Z
 rw [← hR]
 have iPa := infoEl hP.a
 have iPb := infoEl hP.b
 have iPc := infoEl hP.c
 have iPt := infoEl hP.t
 have jz := infoE' kz
 have iiz := infoEl kz
 have nz := feOk_len kz
 have hip := infoP' hRo
 have hone := one_lm R.cells
 have hu : Tryz.prog.underlying 80 = some (.array 16 3) := Tryz.underlying80
 obtain ⟨A, hA⟩ : ∃ A, A = (I64 P.cells).toArray := ⟨_, rfl⟩
 obtain ⟨W, hW⟩ : ∃ W, W = (w.alloc (.cells A 86)).alloc (.cells #[.int .i64 0, .int .i64 0, .int .i64 0, .int .i64 0, .int .i64 0, .int .i64 0, .int .i64 0, .int .i64 0, .int .i64 0, .int .i64 0, .int .i64 0, .int .i64 0, .int .i64 0, .int .i64 0, .int .i64 0, .int .i64 0, .int .i64 0, .int .i64 0, .int .i64 0, .int .i64 0, .int .i64 0, .int .i64 0, .int .i64 0, .int .i64 0, .int .i64 0, .int .i64 0, .int .i64 0, .int .i64 0, .int .i64 0, .int .i64 0, .int .i64 0, .int .i64 0, .int .i64 0, .int .i64 0, .int .i64 0, .int .i64 0, .int .i64 0, .int .i64 0, .int .i64 0, .int .i64 0, .int .i64 0, .int .i64 0, .int .i64 0, .int .i64 0, .int .i64 0, .int .i64 0, .int .i64 0, .int .i64 0, .int .i64 0, .int .i64 0, .int .i64 0, .int .i64 0, .int .i64 0, .int .i64 0, .int .i64 0, .int .i64 0, .int .i64 0, .int .i64 0, .int .i64 0, .int .i64 0, .int .i64 0, .int .i64 0, .int .i64 0, .int .i64 0] 86) := ⟨_, rfl⟩
 have fr : Below w.heap.size w W := by rw [hW]; exact ((Below.refl _ _).alloc (Nat.le_refl _) _).alloc (by simp) _
 have pa : Arr W w.heap.size 86 (I64 P.cells) := by rw [hW, hA]; exact (Arr.new w (I64 P.cells) _).alloc _
 have pr : Arr W (w.heap.size + 1) 86 (I64 Z64) := by
  rw [hW]
  have := Arr.new (w.alloc (.cells A 86)) (I64 Z64) 86
  rw [World.size_alloc] at this
  exact this
 rw [← hA]
 clear hA ez ra rt hR kz
 go_enter Tryz.func78, Tryz.ntmps78
 go_upto_region 1 with fail
 rw [← hW]
 clear hW
 go_wp2_with fail
 refine (Hz.out _).mono ?_
 rintro e y1 ⟨rfl, hb1⟩
 replace fr := fr.trans (hb1.mono fr.size)
 replace pa := pa.kept hb1
 replace pr := pr.kept hb1
 clear hb1
 obtain ⟨bV, Az, q1⟩ := laid_e y1 z
 replace fr := fr.trans (bV.mono fr.size)
 replace pa := pa.kept bV
 replace pr := pr.kept bV
 go_wp2_with (refine wpList_store_row rfl 80 _ _ rfl y1.heap.size (I64 z).toArray rfl rfl 80 _ q1 jz (by simp [nz]) (by simp [Value.oneCell']) ?_)
 obtain ⟨V2, hVV⟩ : ∃ V, V = (y1.alloc (.cells #[.int .i64 0, .int .i64 0, .int .i64 0, .int .i64 0, .int .i64 0, .int .i64 0, .int .i64 0, .int .i64 0, .int .i64 0, .int .i64 0, .int .i64 0, .int .i64 0, .int .i64 0, .int .i64 0, .int .i64 0, .int .i64 0] 80)).setRow y1.heap.size (I64 z).toArray := ⟨_, rfl⟩
 obtain ⟨Xz, hE⟩ : ∃ E, E = y1.heap.size := ⟨_, rfl⟩
 rw [← hVV] at fr pa pr Az ⊢
 rw [← hE] at Az ⊢
 clear hVV hE q1 bV
 have hXX : Xz ≠ w.heap.size + 1 := arr_ne Az pr (by decide)
 try simp only [Act.put]
 have bD : Below V2.heap.size V2 V2.drew := (Below.refl _ _).drew
 replace fr := fr.trans (bD.mono fr.size)
 replace pa := pa.kept bD
 replace pr := pr.kept bD
 replace Az := Az.kept bD
 clear bD
 refine wp_region_held_drew (S := fun W => W.rangeAt w.heap.size 0 (I64 P.a) ∧ W.rangeAt w.heap.size 16 (I64 P.b) ∧ W.rangeAt w.heap.size 32 (I64 P.c) ∧ W.rangeAt w.heap.size 48 (I64 P.t) ∧ W.rangeAt Xz 0 (I64 z)) (by kernel_rfl) ⟨E4.ra pa, E4.rb hP pa, E4.rc hP pa, E4.rt hP pa, arr_range Az⟩ (fun hHeld => ?_)
 obtain ⟨D3, hD⟩ : ∃ V, V = V2.drew := ⟨_, rfl⟩
 rw [← hD] at hHeld fr pa pr Az ⊢
 clear hD
 refine wpAnyH_take (i := 0) (oi := { dst := some 5, op := Op.load 80 (Operand.tmp 3), type := 80, pos := "l06_point.go:63", after := #[], guard := none }) (v := _) rfl (by kernel_rfl) (by kernel_rfl) (by kernel_rfl) (fun _ _ _ h => h) (yieldsIf_load_mid (by rfl) _ _ rfl _ _ rfl (I64 z) _ (fun _ h => h.2.2.2.2) hu rfl iiz) (by assumption) ?_
 simp only [Act.put, List.setIfInBounds_toArray, List.set_cons_zero, List.set_cons_succ]
 refine wpAnyH_take (i := 1) (oi := { dst := some 6, op := Op.fieldAddr 86 (Operand.tmp 1) 0, type := 0, pos := "l06_point.go:63", after := #[], guard := none }) (v := .pointer (some ⟨w.heap.size, 0, none⟩)) rfl (by kernel_rfl) (by kernel_rfl) (by kernel_rfl) (fun _ _ _ h => h) (.inl ⟨by rfl, fun _ _ => by rfl⟩) (by assumption) ?_
 simp only [Act.put, List.setIfInBounds_toArray, List.set_cons_zero, List.set_cons_succ]
 refine wpAnyH_take (i := 2) (oi := { dst := some 7, op := Op.load 80 (Operand.tmp 6), type := 80, pos := "l06_point.go:63", after := #[{ on := 1, ground := Ground.data }], guard := none }) (v := _) rfl (by kernel_rfl) (by kernel_rfl) (by kernel_rfl) (fun _ _ _ h => h) (yieldsIf_load_mid (by rfl) _ _ rfl _ _ rfl (I64 P.a) _ (fun _ h => h.1) hu rfl iPa) (by assumption) ?_
 simp only [Act.put, List.setIfInBounds_toArray, List.set_cons_zero, List.set_cons_succ]
 refine wpAnyH_take (i := 4) (oi := { dst := some 9, op := Op.fieldAddr 86 (Operand.tmp 1) 1, type := 0, pos := "l06_point.go:63", after := #[], guard := none }) (v := .pointer (some ⟨w.heap.size, 16, none⟩)) rfl (by kernel_rfl) (by kernel_rfl) (by kernel_rfl) (fun _ _ _ h => h) (.inl ⟨by rfl, fun _ _ => by rfl⟩) (by assumption) ?_
 simp only [Act.put, List.setIfInBounds_toArray, List.set_cons_zero, List.set_cons_succ]
 refine wpAnyH_take (i := 5) (oi := { dst := some 10, op := Op.load 80 (Operand.tmp 9), type := 80, pos := "l06_point.go:63", after := #[{ on := 4, ground := Ground.data }], guard := none }) (v := _) rfl (by kernel_rfl) (by kernel_rfl) (by kernel_rfl) (fun _ _ _ h => h) (yieldsIf_load_mid (by rfl) _ _ rfl _ _ rfl (I64 P.b) _ (fun _ h => h.2.1) hu rfl iPb) (by assumption) ?_
 simp only [Act.put, List.setIfInBounds_toArray, List.set_cons_zero, List.set_cons_succ]
 refine wpAnyH_take (i := 6) (oi := { dst := some 11, op := Op.fieldAddr 86 (Operand.tmp 1) 2, type := 0, pos := "l06_point.go:63", after := #[], guard := none }) (v := .pointer (some ⟨w.heap.size, 32, none⟩)) rfl (by kernel_rfl) (by kernel_rfl) (by kernel_rfl) (fun _ _ _ h => h) (.inl ⟨by rfl, fun _ _ => by rfl⟩) (by assumption) ?_
 simp only [Act.put, List.setIfInBounds_toArray, List.set_cons_zero, List.set_cons_succ]
 refine wpAnyH_take (i := 7) (oi := { dst := some 12, op := Op.load 80 (Operand.tmp 11), type := 80, pos := "l06_point.go:63", after := #[{ on := 6, ground := Ground.data }], guard := none }) (v := _) rfl (by kernel_rfl) (by kernel_rfl) (by kernel_rfl) (fun _ _ _ h => h) (yieldsIf_load_mid (by rfl) _ _ rfl _ _ rfl (I64 P.c) _ (fun _ h => h.2.2.1) hu rfl iPc) (by assumption) ?_
 simp only [Act.put, List.setIfInBounds_toArray, List.set_cons_zero, List.set_cons_succ]
 refine wpAnyH_take (i := 8) (oi := { dst := some 13, op := Op.load 80 (Operand.tmp 3), type := 80, pos := "l06_point.go:63", after := #[], guard := none }) (v := _) rfl (by kernel_rfl) (by kernel_rfl) (by kernel_rfl) (fun _ _ _ h => h) (yieldsIf_load_mid (by rfl) _ _ rfl _ _ rfl (I64 z) _ (fun _ h => h.2.2.2.2) hu rfl iiz) (by assumption) ?_
 simp only [Act.put, List.setIfInBounds_toArray, List.set_cons_zero, List.set_cons_succ]
 refine wpAnyH_take (i := 9) (oi := { dst := some 14, op := Op.fieldAddr 86 (Operand.tmp 1) 3, type := 0, pos := "l06_point.go:63", after := #[], guard := none }) (v := .pointer (some ⟨w.heap.size, 48, none⟩)) rfl (by kernel_rfl) (by kernel_rfl) (by kernel_rfl) (fun _ _ _ h => h) (.inl ⟨by rfl, fun _ _ => by rfl⟩) (by assumption) ?_
 simp only [Act.put, List.setIfInBounds_toArray, List.set_cons_zero, List.set_cons_succ]
 refine wpAnyH_take (i := 10) (oi := { dst := some 15, op := Op.load 80 (Operand.tmp 14), type := 80, pos := "l06_point.go:63", after := #[{ on := 9, ground := Ground.data }], guard := none }) (v := _) rfl (by kernel_rfl) (by kernel_rfl) (by kernel_rfl) (fun _ _ _ h => h) (yieldsIf_load_mid (by rfl) _ _ rfl _ _ rfl (I64 P.t) _ (fun _ h => h.2.2.2.1) hu rfl iPt) (by assumption) ?_
 simp only [Act.put, List.setIfInBounds_toArray, List.set_cons_zero, List.set_cons_succ]
 refine wpAnyH_ready (rs := [3]) (by kernel_rfl) (by simp) (AllReadyH.cons (o := { dst := some 8, op := Op.call { callee := Callee.value (Operand.func 114), args := #[Operand.tmp 5, Operand.tmp 7], argTypes := #[80, 80] }, type := 80, pos := "l06_point.go:63", after := #[{ on := 0, ground := Ground.data }, { on := 2, ground := Ground.data }], guard := none }) rfl (fun K hK => ?_) AllReadyH.nil)
 go_simp
 refine (Hx.out _).mono ?_
 rintro e y4 ⟨rfl, hb4⟩
 replace fr := fr.trans (hb4.mono fr.size)
 replace pa := pa.kept hb4
 replace pr := pr.kept hb4
 replace Az := Az.kept hb4
 clear hb4
 go_wp2_with fail
 refine hK.out _ _ ⟨E4.ra pa, E4.rb hP pa, E4.rc hP pa, E4.rt hP pa, arr_range Az⟩ (fun hHeld => ?_)
 clear hK K
 refine wpAnyH_ready (rs := [11]) (by kernel_rfl) (by simp) (AllReadyH.cons (o := { dst := some 16, op := Op.call { callee := Callee.value (Operand.func 114), args := #[Operand.tmp 13, Operand.tmp 15], argTypes := #[80, 80] }, type := 80, pos := "l06_point.go:63", after := #[{ on := 8, ground := Ground.data }, { on := 10, ground := Ground.data }, { on := 3, ground := Ground.chain }], guard := none }) rfl (fun K hK => ?_) AllReadyH.nil)
 go_simp
 refine (Hy.out _).mono ?_
 rintro e y5 ⟨rfl, hb5⟩
 replace fr := fr.trans (hb5.mono fr.size)
 replace pa := pa.kept hb5
 replace pr := pr.kept hb5
 replace Az := Az.kept hb5
 clear hb5
 go_wp2_with fail
 refine hK.out _ _ ⟨E4.ra pa, E4.rb hP pa, E4.rc hP pa, E4.rt hP pa, arr_range Az⟩ (fun hHeld => ?_)
 clear hK K
 refine wpAnyH_take (i := 12) (oi := { dst := some 17, op := Op.build 86 #[(0, Operand.tmp 8), (1, Operand.tmp 10), (2, Operand.tmp 12), (3, Operand.tmp 16)], type := 86, pos := "l06_point.go:63", after := #[{ on := 3, ground := Ground.data }, { on := 5, ground := Ground.data }, { on := 7, ground := Ground.data }, { on := 11, ground := Ground.data }], guard := none }) (v := _) rfl (by kernel_rfl) (by kernel_rfl) (by kernel_rfl) (fun _ _ _ h => h) (yieldsIf_p6 (by rfl) _ _ _ _ rfl R hRo rfl (by rw [rb]; rfl) (by rw [rc]; rfl) rfl) (by assumption) ?_
 simp only [Act.put, List.setIfInBounds_toArray, List.set_cons_zero, List.set_cons_succ]
 refine wpAnyH_ready (rs := [13]) (by kernel_rfl) (by simp) (AllReadyH.cons (o := { dst := none, op := Op.store 86 (Operand.tmp 2) (Operand.tmp 17), type := 0, pos := "l06_point.go:63", after := #[{ on := 12, ground := Ground.data }, { on := 11, ground := Ground.chain }, { on := 0, ground := Ground.phase }, { on := 1, ground := Ground.phase }, { on := 2, ground := Ground.phase }, { on := 3, ground := Ground.phase }, { on := 4, ground := Ground.phase }, { on := 5, ground := Ground.phase }, { on := 6, ground := Ground.phase }, { on := 7, ground := Ground.phase }, { on := 8, ground := Ground.phase }, { on := 9, ground := Ground.phase }, { on := 10, ground := Ground.phase }, { on := 11, ground := Ground.phase }, { on := 12, ground := Ground.phase }], guard := none }) rfl (fun K hK => ?_) AllReadyH.nil)
 rw [if_pos (by rfl)]
 refine wp_store_mid _ _ _ rfl _ _ (I64 R.cells).toArray rfl rfl (by have := arr_there pr; simpa [hRl] using this) hip (all_oneCell_toArray hone) ?_
 simp only [Act.put]
 obtain ⟨V6, hVe⟩ : ∃ V, V = y5.setCells (w.heap.size + 1) 0 (I64 R.cells) := ⟨_, rfl⟩
 rw [← hVe]
 replace fr : Below w.heap.size w V6 := by rw [hVe]; exact setCells_below (by omega) _ _ fr
 replace pa : Arr V6 w.heap.size 86 (I64 P.cells) := by rw [hVe]; exact Arr.setCellsO (by omega) _ _ pa
 replace pr : Arr V6 (w.heap.size + 1) 86 (I64 R.cells) := by rw [hVe]; exact Arr.setCells0 pr (by simp [hRl])
 replace Az : Arr V6 Xz 80 (I64 z) := by rw [hVe]; exact Arr.setCellsO (by omega) _ _ Az
 clear hVe
 refine hK.out _ _ ⟨E4.ra pa, E4.rb hP pa, E4.rc hP pa, E4.rt hP pa, arr_range Az⟩ (fun hHeld => ?_)
 clear hK K
 refine wpAnyH_done (by kernel_rfl) ?_ _
 go_wp2
 exact bodyPost_ret (results_cell_row rfl _ _ (w.heap.size + 1) 86 (I64 R.cells).toArray (0, 0) _ rfl pr Tryz.underlying86 rfl hip) rfl ⟨rfl, fr⟩
theorem kvb_keeps (d : Nat) (E : List Int) : Kd.keeps (kv d (fun _ _ w v => ∃ g o c, v = .slice (some ⟨g, o, none⟩) 32 c ∧ Bs w (some ⟨g, o, none⟩) 32 c E)) := by
 rintro l h w w' v ⟨g, o, c, e, hb⟩ _ b
 exact ⟨g, o, c, e, hb.below b⟩
section
variable [NeZero pN]
theorem vf_pts {ps : List Int} (h : rdOk6 ps = true) (hb : ∀ x ∈ ps, 0 ≤ x ∧ x < 256) {S K : List Int} (hS : S.length = 16) (mS_ : Lm S) (hK : K.length = 16) (mK : Lm K) :
  ptBt (flx (add6 (mul6 base6 (val S).toNat) (mul6 (neg6 (mk6 (rdX6 ps) (rdY6 ps))) (val K).toNat))) (fly (add6 (mul6 base6 (val S).toNat) (mul6 (neg6 (mk6 (rdX6 ps) (rdY6 ps))) (val K).toNat))) = enc (pAdd dK ivK (pMul dK ivK (val S).toNat baseK) (pNeg (pMul dK ivK (val K).toNat (vfA ps)))) := by
 have oA : On dK (vfA ps) := vfA_on hb h
 have e1 : Ext6 (neg6 (mk6 (rdX6 ps) (rdY6 ps))) (pNeg (vfA ps)) := ext6_neg (ext6_make _ _)
 have e2 := ext6_mul e1 (on_neg oA) (val K).toNat (lm_256 hK mK).2
 have e3 := ext6_mul ext6_base on_base (val S).toNat (lm_256 hS mS_).2
 have e4 := ext6_add e3 e2 (crvK.on_mul on_base _) (crvK.on_mul (on_neg oA) _)
 rw [ptBt_ext e4, mul_neg]
end

set_option maxHeartbeats 16000000 in
theorem specVerify (a : Option Addr) (n c : Nat) (ps : List Int) (b : Option Addr) (m d : Nat) (ms : List Int) (a' : Option Addr) (k c' : Nat) (ss : List Int) (w : World) (hp : Bs w a n c ps) (hm : Bs w b m d ms) (hs : Bs w a' k c' ss) :
  Calls Tryz.prog 27 #[.slice a n c, .slice b m d, .slice a' k c'] w fun e w' => e = .returned (.bool (vfy ps ms ss)) ∧ Below w.heap.size w w' := by
 haveI := nzP
 have lp : ps.length = n := hp.2.1
 have lm : ms.length = m := hm.2.1
 have lsg : ss.length = k := hs.2.1
 by_cases h1 : m ≤ 2000
 case neg =>
  have hv : Hid (vfy ps ms ss = false) := by unfold Hid vfy; rw [show decide (ms.length ≤ 2000) = false from decide_eq_false (by omega)]; rfl
  rw [hv.out]
  have hgt : (2000 : Int) < (m : Int) := by omega
  go_enter Tryz.func27, Tryz.ntmps27
  go_wp2
  go_ret
  exact ⟨rfl, Below.refl _ _⟩
 have hle : ¬ ((2000 : Int) < (m : Int)) := by omega
 have d1 : decide (ms.length ≤ 2000) = true := decide_eq_true (by omega)
 by_cases h2 : k = 64
 case neg =>
  have hv : Hid (vfy ps ms ss = false) := by unfold Hid vfy; rw [show decide (ss.length = 64) = false from decide_eq_false (by omega), Bool.false_and, Bool.and_false]
  rw [hv.out]
  have hne : ((k : Int) != 64) = true := by simp; omega
  go_enter Tryz.func27, Tryz.ntmps27
  go_wp2
  go_ret
  exact ⟨rfl, Below.refl _ _⟩
 subst h2
 have d2 : decide (ss.length = 64) = true := decide_eq_true lsg
 obtain ⟨gs, os, rfl⟩ : ∃ g o, a' = some ⟨g, o, none⟩ := by
  rcases hs.2.2.2.2 with h | ⟨b, o, h, _⟩
  ·omega
  ·exact ⟨b, o, h⟩
 have hcc : (32 : Int) ≤ (c' : Int) := by have := hs.2.2.1; omega
 have hcne : ¬ c' = 32 := by have := hs.2.2.1; omega
 obtain ⟨T, hT⟩ : ∃ T, T = rdC ps := ⟨_, rfl⟩
 have lT : T.length = 64 := by
  rw [hT]; unfold rdC; split
  ·rename_i h
   obtain ⟨q1, _, q3, q4⟩ := pt_rd hp.2.2.2.1 h
   have hX : rdX6 ps = xR (yR ps) (odd6 ps) := by unfold rdX6; rw [if_pos h]
   have hY : rdY6 ps = yR ps := by unfold rdY6; rw [if_pos h]
   obtain ⟨k1, k2, _⟩ := (ptOk_iff _ _).1 q1
   rw [← hX, ← hY]; exact E4.len (mk6_ok k1 k2)
  ·rfl
 obtain ⟨p, hpk⟩ : ∃ p, p = rdOk6 ps := ⟨_, rfl⟩
 have HP : Hid (∀ Z, Below w.heap.size w Z → Calls Tryz.prog 70 #[.slice a n c] Z fun e w' => e = .returned (.tuple #[.agg (I64 T).toArray, .bool p]) ∧ Below Z.heap.size Z w') := by unfold Hid; intro Z hZ; rw [hT, hpk]; exact spec6read a n c ps Z (hp.below hZ)
 have jT : (Tryz.prog.info? 86).map (·.size) = some (I64 T).toArray.size := by simpa [lT] using infoP6
 have iiT : (Tryz.prog.info? 86).map (·.size) = some (I64 T).length := by simpa [lT] using infoP6
 cases p with
 | false =>
  have hv : Hid (vfy ps ms ss = false) := by unfold Hid vfy; rw [← hpk, Bool.false_and, Bool.and_false, Bool.and_false]
  rw [hv.out]
  clear hT hpk d1 d2 hv
  obtain ⟨W, hW⟩ : ∃ W, W = w := ⟨_, rfl⟩
  have fr : Below w.heap.size w W := by rw [hW]; exact (Below.refl _ _)
  go_enter Tryz.func27, Tryz.ntmps27
  go_upto_region 3 with fail
  rw [← hW]
  clear hW
  go_wp2_with fail
  refine (HP.out _ fr).mono ?_
  rintro e y1 ⟨rfl, hb1⟩
  replace fr := fr.trans (hb1.mono fr.size)
  clear hb1
  have hXa : w.heap.size ≤ y1.heap.size := fr.size
  obtain ⟨bV, Aa, q1⟩ := laid_p6 y1 T
  replace fr := fr.trans (bV.mono fr.size)
  go_upto_region 4 with (refine wpList_store_row rfl 86 _ _ rfl y1.heap.size (I64 T).toArray rfl rfl 86 _ q1 jT (by simp [lT]) (by simp [Value.oneCell']) ?_)
  obtain ⟨V2, hVV⟩ : ∃ V, V = (y1.alloc (.cells #[.int .i64 0, .int .i64 0, .int .i64 0, .int .i64 0, .int .i64 0, .int .i64 0, .int .i64 0, .int .i64 0, .int .i64 0, .int .i64 0, .int .i64 0, .int .i64 0, .int .i64 0, .int .i64 0, .int .i64 0, .int .i64 0, .int .i64 0, .int .i64 0, .int .i64 0, .int .i64 0, .int .i64 0, .int .i64 0, .int .i64 0, .int .i64 0, .int .i64 0, .int .i64 0, .int .i64 0, .int .i64 0, .int .i64 0, .int .i64 0, .int .i64 0, .int .i64 0, .int .i64 0, .int .i64 0, .int .i64 0, .int .i64 0, .int .i64 0, .int .i64 0, .int .i64 0, .int .i64 0, .int .i64 0, .int .i64 0, .int .i64 0, .int .i64 0, .int .i64 0, .int .i64 0, .int .i64 0, .int .i64 0, .int .i64 0, .int .i64 0, .int .i64 0, .int .i64 0, .int .i64 0, .int .i64 0, .int .i64 0, .int .i64 0, .int .i64 0, .int .i64 0, .int .i64 0, .int .i64 0, .int .i64 0, .int .i64 0, .int .i64 0, .int .i64 0] 86)).setRow y1.heap.size (I64 T).toArray := ⟨_, rfl⟩
  obtain ⟨Xa, hE⟩ : ∃ E, E = y1.heap.size := ⟨_, rfl⟩
  rw [← hVV] at fr Aa ⊢
  rw [← hE] at Aa hXa ⊢
  clear hVV hE q1 bV
  go_wp2
  go_ret
  exact ⟨rfl, fr⟩
 | true =>
  have h3 := hpk.symm
  have l32 : ps.length = 32 := (rdOk6_parts h3).1
  obtain ⟨q1, _, q3, q4⟩ := pt_rd hp.2.2.2.1 h3
  obtain ⟨k1, k2, _⟩ := (ptOk_iff _ _).1 q1
  obtain ⟨P, hP⟩ : ∃ P, P = mk6 (rdX6 ps) (rdY6 ps) := ⟨_, rfl⟩
  have oP : P.Ok := by rw [hP]; exact mk6_ok k1 k2
  have hTP : T = P.cells := by rw [hT, hP]; unfold rdC; rw [if_pos h3]; unfold rdX6 rdY6; rw [if_pos h3, if_pos h3]
  subst hTP
  have hd := hs.dropW (m := 32) (by omega)
  have ht := hs.takeW (m := 32) (by omega)
  obtain ⟨S, eS⟩ : ∃ S, S = rdL (ss.drop 32) := ⟨_, rfl⟩
  have lS : S.length = 16 := by rw [eS]; exact rdL_len _
  have mSS : Lm S := by rw [eS]; exact rdL_lm (drop_byte hs.2.2.2.1 32)
  have HR : Hid (∀ Z, Below w.heap.size w Z → Calls Tryz.prog 51 #[.slice (some ⟨gs, os + 32, none⟩) (64 - 32) (c' - 32)] Z fun e w' => e = .returned (.agg (I64 S).toArray) ∧ Below Z.heap.size Z w') := by unfold Hid; intro Z hZ; rw [eS]; exact specRead16 _ _ _ Z (hd.below hZ)
  have HO : Hid (∀ Z, Calls Tryz.prog 52 #[] Z fun e w' => e = .returned (.agg (I64 OL).toArray) ∧ Below Z.heap.size Z w') := by unfold Hid; intro Z; exact specOrder Z
  obtain ⟨q, hq⟩ : ∃ q, q = decide (val S < qO) := ⟨_, rfl⟩
  have HL : Hid (∀ Z, Calls Tryz.prog 71 #[.agg (I64 S).toArray, .agg (I64 OL).toArray] Z fun e w' => e = .returned (.bool q) ∧ Below Z.heap.size Z w') := by unfold Hid; intro Z; have h := specLess S OL Z lS OL_len mSS OL_lm; rw [OL_val, ← hq] at h; exact h
  obtain ⟨K, eK⟩ : ∃ K, K = mS (ss.take 32 ++ ps ++ ms) := ⟨_, rfl⟩
  have okK : scOk K = true := by rw [eK]; exact mS_ok _
  obtain ⟨lK, mK, _⟩ := (scOk_iff K).1 okK
  have HJ : Hid (∀ Z, Below w.heap.size w Z → Calls Tryz.prog 74 #[.slice (some ⟨gs, os, none⟩) 32 c', .slice a n c, .slice b m d] Z fun e w' => ∃ a' c', e = .returned (.slice a' (32 + n + m) c') ∧ Bs w' a' (32 + n + m) c' (ss.take 32 ++ ps ++ ms) ∧ Below Z.heap.size Z w') := by
   unfold Hid; intro Z hZ; refine (specJoin _ a b 32 c' n c m d _ ps ms Z (ht.below hZ) (hp.below hZ) (hm.below hZ) (by omega)).mono ?_
   rintro e w' ⟨v, rfl, ho, hb⟩; obtain ⟨a', c', rfl, _, hB⟩ := Bs.own ho (app_byte (app_byte (take_byte hs.2.2.2.1 32) hp.2.2.2.1) hm.2.2.2.1); exact ⟨a', c', rfl, hB, hb⟩
  have HH : Hid (∀ a c xs Z, Bs Z a (32 + n + m) c xs → Calls Tryz.prog 73 #[.slice a (32 + n + m) c] Z fun e w' => ∃ a' c', e = .returned (.slice a' 64 c') ∧ Bs w' a' 64 c' (sumOfW xs) ∧ Below Z.heap.size Z w') := by unfold Hid; intro a c xs Z h; exact specHash a _ c xs Z h (by omega)
  have HW : Hid (∀ a c Z, Bs Z a 64 c (sumOfW (ss.take 32 ++ ps ++ ms)) → Calls Tryz.prog 72 #[.slice a 64 c] Z fun e w' => e = .returned (.agg (I64 K).toArray) ∧ Below Z.heap.size Z w') := by unfold Hid; intro a c Z h; rw [eK]; exact specWide16 a c _ Z h
  have HB : Hid (∀ Z, Calls Tryz.prog 77 #[] Z fun e w' => e = .returned (.agg (I64 base6.cells).toArray) ∧ Below Z.heap.size Z w') := by unfold Hid; intro Z; exact spec6base Z
  obtain ⟨MS, eMS⟩ : ∃ x, x = mul6 base6 (val S).toNat := ⟨_, rfl⟩
  have oMS : MS.Ok := by rw [eMS]; exact mul6_ok _ _
  obtain ⟨NP, eNP⟩ : ∃ x, x = neg6 P := ⟨_, rfl⟩
  have oNP : NP.Ok := by rw [eNP]; exact neg6_ok oP
  obtain ⟨MK, eMK⟩ : ∃ x, x = mul6 NP (val K).toNat := ⟨_, rfl⟩
  have oMK : MK.Ok := by rw [eMK]; exact mul6_ok _ _
  obtain ⟨U, eU⟩ : ∃ x, x = add6 MS MK := ⟨_, rfl⟩
  have oU : U.Ok := by rw [eU]; exact add6_ok _ _
  have H1 : Hid (∀ Z, Calls Tryz.prog 76 #[.agg (I64 base6.cells).toArray, .agg (I64 S).toArray] Z fun e w' => e = .returned (.agg (I64 MS.cells).toArray) ∧ Below Z.heap.size Z w') := by unfold Hid; intro Z; rw [eMS]; exact spec6mul base6 S Z base6_ok lS mSS
  have H2 : Hid (∀ Z, Calls Tryz.prog 78 #[.agg (I64 P.cells).toArray] Z fun e w' => e = .returned (.agg (I64 NP.cells).toArray) ∧ Below Z.heap.size Z w') := by unfold Hid; intro Z; rw [eNP]; exact spec6neg P Z oP
  have H3 : Hid (∀ Z, Calls Tryz.prog 76 #[.agg (I64 NP.cells).toArray, .agg (I64 K).toArray] Z fun e w' => e = .returned (.agg (I64 MK.cells).toArray) ∧ Below Z.heap.size Z w') := by unfold Hid; intro Z; rw [eMK]; exact spec6mul NP K Z oNP lK mK
  have H4 : Hid (∀ Z, Calls Tryz.prog 75 #[.agg (I64 MS.cells).toArray, .agg (I64 MK.cells).toArray] Z fun e w' => e = .returned (.agg (I64 U.cells).toArray) ∧ Below Z.heap.size Z w') := by unfold Hid; intro Z; rw [eU]; exact spec6add MS MK Z oMS oMK
  obtain ⟨E, eE⟩ : ∃ E, E = vfE ps ms ss := ⟨_, rfl⟩
  have hE : ptBt (flx U) (fly U) = E := by rw [eE, eU, eMS, eMK, eNP, hP, vf_pts h3 hp.2.2.2.1 lS mSS lK mK, eS, eK]; rfl
  have bE : ∀ x ∈ E, 0 ≤ x ∧ x < 256 := by rw [eE]; exact enc_byte _
  have HY : Hid (∀ Z, Calls Tryz.prog 54 #[.agg (I64 U.cells).toArray] Z fun e w' => ∃ g o c, e = .returned (.slice (some ⟨g, o, none⟩) 32 c) ∧ Bs w' (some ⟨g, o, none⟩) 32 c E ∧ Below Z.heap.size Z w') := by
   unfold Hid; intro Z; rw [← hE]; refine (spec6bytes U Z oU).mono ?_; rintro e w' ⟨v, rfl, ho, hb⟩; obtain ⟨a9, c9, rfl, _, hB⟩ := Bs.own ho (by rw [hE]; exact bE)
   obtain ⟨g9, o9, rfl⟩ : ∃ g o, a9 = some ⟨g, o, none⟩ := by
    rcases hB.2.2.2.2 with h | ⟨b, o, h, _⟩
    ·omega
    ·exact ⟨b, o, h⟩
   exact ⟨g9, o9, c9, rfl, hB, hb⟩
  obtain ⟨z, ez⟩ : ∃ z, z = decide (ss.take 32 = E) := ⟨_, rfl⟩
  have hvf : vfy ps ms ss = (q && z) := by unfold vfy; rw [d1, d2, h3, ← eS, ← hq, ez, eE]; rfl
  have hst : ((strOfNums E).toList == (strOfNums (ss.take 32)).toList) = z := by rw [str_eq bE (take_byte hs.2.2.2.1 32), ez]; exact decide_eq_decide.2 eq_comm
  obtain ⟨tk, etk⟩ : ∃ t, t = ss.take 32 := ⟨_, rfl⟩
  rw [← etk] at hst
  have HTK : Hid (∀ Z, Below w.heap.size w Z → Bs Z (some ⟨gs, os, none⟩) 32 c' tk) := by unfold Hid; intro Z hZ; rw [etk]; exact ht.below hZ
  rw [hvf]
  have jS := infoV' lS
  have jK := infoV' lK
  have iiK : (Tryz.prog.info? 80).map (·.size) = some (I64 K).length := by simpa [lK] using infoV
  have jU := infoP' oU
  have lU := E4.len oU
  have iiU : (Tryz.prog.info? 86).map (·.size) = some (I64 U.cells).length := by simpa [lU] using infoP6
  have uU := one_lm U.cells
  have hu : Tryz.prog.underlying 80 = some (.array 16 3) := Tryz.underlying80
  have huP : Tryz.prog.underlying 86 = some _ := Tryz.underlying86
  clear hvf ez hE bE eE eU eMK eNP eMS eK eS hq hP hT hpk h3 q1 q3 q4 k1 k2 oP oNP oMS oMK oU okK mK mSS hd ht hp hm hs etk
  obtain ⟨W, hW⟩ : ∃ W, W = w := ⟨_, rfl⟩
  have fr : Below w.heap.size w W := by rw [hW]; exact (Below.refl _ _)
  go_enter Tryz.func27, Tryz.ntmps27
  go_upto_region 3 with fail
  rw [← hW]
  clear hW
  go_wp2_with fail
  refine (HP.out _ fr).mono ?_
  rintro e y3 ⟨rfl, hb3⟩
  replace fr := fr.trans (hb3.mono fr.size)
  clear hb3
  have hXa : w.heap.size ≤ y3.heap.size := fr.size
  obtain ⟨bV, Aa, q1⟩ := laid_p6 y3 P.cells
  replace fr := fr.trans (bV.mono fr.size)
  go_upto_region 4 with (refine wpList_store_row rfl 86 _ _ rfl y3.heap.size (I64 P.cells).toArray rfl rfl 86 _ q1 jT (by simp [lT]) (by simp [Value.oneCell']) ?_)
  obtain ⟨V4, hVV⟩ : ∃ V, V = (y3.alloc (.cells #[.int .i64 0, .int .i64 0, .int .i64 0, .int .i64 0, .int .i64 0, .int .i64 0, .int .i64 0, .int .i64 0, .int .i64 0, .int .i64 0, .int .i64 0, .int .i64 0, .int .i64 0, .int .i64 0, .int .i64 0, .int .i64 0, .int .i64 0, .int .i64 0, .int .i64 0, .int .i64 0, .int .i64 0, .int .i64 0, .int .i64 0, .int .i64 0, .int .i64 0, .int .i64 0, .int .i64 0, .int .i64 0, .int .i64 0, .int .i64 0, .int .i64 0, .int .i64 0, .int .i64 0, .int .i64 0, .int .i64 0, .int .i64 0, .int .i64 0, .int .i64 0, .int .i64 0, .int .i64 0, .int .i64 0, .int .i64 0, .int .i64 0, .int .i64 0, .int .i64 0, .int .i64 0, .int .i64 0, .int .i64 0, .int .i64 0, .int .i64 0, .int .i64 0, .int .i64 0, .int .i64 0, .int .i64 0, .int .i64 0, .int .i64 0, .int .i64 0, .int .i64 0, .int .i64 0, .int .i64 0, .int .i64 0, .int .i64 0, .int .i64 0, .int .i64 0] 86)).setRow y3.heap.size (I64 P.cells).toArray := ⟨_, rfl⟩
  obtain ⟨Xa, hE⟩ : ∃ E, E = y3.heap.size := ⟨_, rfl⟩
  rw [← hVV] at fr Aa ⊢
  rw [← hE] at Aa hXa ⊢
  clear hVV hE q1 bV
  go_wp2_with fail
  refine (HR.out _ fr).mono ?_
  rintro e y5 ⟨rfl, hb5⟩
  replace fr := fr.trans (hb5.mono fr.size)
  replace Aa := Aa.kept hb5
  clear hb5
  go_wp2_with fail
  refine (HO.out _).mono ?_
  rintro e y6 ⟨rfl, hb6⟩
  replace fr := fr.trans (hb6.mono fr.size)
  replace Aa := Aa.kept hb6
  clear hb6
  go_wp2_with fail
  refine (HL.out _).mono ?_
  rintro e y7 ⟨rfl, hb7⟩
  replace fr := fr.trans (hb7.mono fr.size)
  replace Aa := Aa.kept hb7
  clear hb7
  cases q with
  | false =>
   go_wp2
   go_ret
   exact ⟨rfl, fr⟩
  | true =>
   go_wp2_with fail
   refine (HJ.out _ fr).mono ?_
   rintro e y8 ⟨a3, c3, rfl, hJ, hb8⟩
   replace fr := fr.trans (hb8.mono fr.size)
   replace Aa := Aa.kept hb8
   clear hb8
   go_wp2_with fail
   refine (HH.out _ _ _ _ hJ).mono ?_
   rintro e y9 ⟨a4, c4, rfl, hJ2, hb9⟩
   replace fr := fr.trans (hb9.mono fr.size)
   replace Aa := Aa.kept hb9
   clear hb9 hJ
   go_wp2_with fail
   refine (HW.out _ _ _ hJ2).mono ?_
   rintro e y10 ⟨rfl, hb10⟩
   replace fr := fr.trans (hb10.mono fr.size)
   replace Aa := Aa.kept hb10
   clear hb10 hJ2
   have hXk : Xa < y10.heap.size ∧ w.heap.size ≤ y10.heap.size := ⟨Aa.lt, fr.size⟩
   obtain ⟨bV, Ak, q1⟩ := laid_v y10 K
   replace fr := fr.trans (bV.mono fr.size)
   replace Aa := Aa.kept bV
   go_upto_region 7 with (refine wpList_store_row rfl 80 _ _ rfl y10.heap.size (I64 K).toArray rfl rfl 80 _ q1 jK (by simp [lK]) (by simp [Value.oneCell']) ?_)
   obtain ⟨V11, hVV⟩ : ∃ V, V = (y10.alloc (.cells #[.int .i64 0, .int .i64 0, .int .i64 0, .int .i64 0, .int .i64 0, .int .i64 0, .int .i64 0, .int .i64 0, .int .i64 0, .int .i64 0, .int .i64 0, .int .i64 0, .int .i64 0, .int .i64 0, .int .i64 0, .int .i64 0] 80)).setRow y10.heap.size (I64 K).toArray := ⟨_, rfl⟩
   obtain ⟨Xk, hE⟩ : ∃ E, E = y10.heap.size := ⟨_, rfl⟩
   rw [← hVV] at fr Aa Ak ⊢
   rw [← hE] at Ak hXk ⊢
   clear hVV hE q1 bV
   try simp only [Act.put]
   refine tame [kc 41 (.agg (I64 base6.cells).toArray), kc 42 (.slice (some ⟨gs, os, none⟩) 64 c'), kc 43 (.slice (some ⟨gs, os + 32, none⟩) 32 (c' - 32)), kc 44 (.agg (I64 S).toArray), kc 45 (.agg (I64 MS.cells).toArray), kc 46 (.agg (I64 P.cells).toArray), kc 47 (.agg (I64 NP.cells).toArray), kc 48 (.agg (I64 K).toArray), kc 49 (.agg (I64 MK.cells).toArray), kc 50 (.agg (I64 U.cells).toArray), ka 10 86 (I64 Z64)] 11 (by kernel_rfl) (by kernel_rfl) (by kernel_rfl) (by repeat' first | exact trivial | apply kc_keeps | apply ka_keeps | constructor) 1 (by kernel_rfl) (fun vv1 ll1 hh1 yW b => ?_) (fun vv1 ll1 hh1 yW b F ivh aph => ?_)
   ·skip
    replace fr := fr.trans (b.mono fr.size)
    replace Aa := Aa.kept b
    replace Ak := Ak.kept b
    exact ⟨tc (HB.out _) (by kernel_rfl),
     tp (by kernel_rfl),
     tp (by simp only [fillK, putT, List.setIfInBounds_toArray, List.set_cons_zero, List.set_cons_succ]; unfold execOp; go_simp),
     tc (HR.out _ fr) (by kernel_rfl),
     tc (H1.out _) (by kernel_rfl),
     ts (arr_range Aa) iiT huP (by kernel_rfl),
     tc (H2.out _) (by kernel_rfl),
     tl (arr_range Ak) iiK hu (by kernel_rfl),
     tc (H3.out _) (by kernel_rfl),
     tc (H4.out _) (by kernel_rfl),
     ta (by kernel_rfl), trivial⟩
   obtain ⟨y12, hy⟩ : ∃ z, z = yW := ⟨_, rfl⟩
   rw [← hy] at b F ivh ⊢
   clear hy
   have oq : Xa < V11.heap.size ∧ Xk < V11.heap.size ∧ w.heap.size ≤ V11.heap.size := ⟨Aa.lt, Ak.lt, fr.size⟩
   replace fr := fr.trans (b.mono fr.size)
   replace Aa := Aa.kept b
   replace Ak := Ak.kept b
   obtain ⟨-, -, -, -, -, -, -, -, -, -, ⟨Au, gXu⟩, -⟩ := F
   have iXu := ivh 10 (by decide)
   replace Au : Arr y12 (ll1 10) 86 (I64 Z64) := Au
   replace gXu : ll1 10 < hh1 10 := gXu
   have lXu := Au.lt
   refine st_row (i := 11) (cells := I64 U.cells) (by kernel_rfl) rfl rfl rfl rfl Au (by kernel_rfl) (by kernel_rfl) (by simp [lU]) jU uU ?_
   replace fr := bel_sc fr (ll1 10) (I64 U.cells) (by omega)
   replace Aa := Aa.sc (ll1 10) (I64 U.cells) (by omega)
   replace Ak := Ak.sc (ll1 10) (I64 U.cells) (by omega)
   replace Au := Au.sc0 (I64 U.cells) (by simp [lU])
   obtain ⟨V13, hVe⟩ : ∃ V, V = y12.setCells (ll1 10) 0 (I64 U.cells) := ⟨_, rfl⟩
   rw [← hVe] at fr Aa Ak Au ⊢
   clear hVe
   refine wpAny_done (by kernel_rfl) ?_ _
   simp only [fillK, putT, List.setIfInBounds_toArray, List.set_cons_zero, List.set_cons_succ]
   have qXu : Xa < ll1 10 ∧ Xk < ll1 10 ∧ w.heap.size ≤ ll1 10 := by omega
   clear iXu gXu lXu
   generalize ll1 10 = Xu at *
   clear ivh aph b oq
   go_upto_region 8 with fail
   clear Aa
   clear Ak
   try simp only [Act.put]
   refine tame [kc 51 (.agg (I64 U.cells).toArray), kv 52 (fun _ _ w v => ∃ g o c, v = .slice (some ⟨g, o, none⟩) 32 c ∧ Bs w (some ⟨g, o, none⟩) 32 c E), kc 53 (.string (strOfNums E)), kc 54 (.slice (some ⟨gs, os, none⟩) 64 c'), kc 55 (.slice (some ⟨gs, os, none⟩) 32 c'), kc 56 (.string (strOfNums tk)), kc 57 (.bool z), kc 6 (.bool z)] 8 (by kernel_rfl) (by kernel_rfl) (by kernel_rfl) (by repeat' first | exact trivial | apply kc_keeps | apply kvb_keeps | constructor) 0 (by kernel_rfl) (fun vv ll hh y f => ?_) (fun vv ll hh y f F ivh aph => ?_)
   ·have frY := fr.trans (f.mono fr.size)
    replace Au := Au.kept f
    have hc := bs_conv (HTK.out y frY)
    refine ⟨ts (arr_range Au) iiU huP (by kernel_rfl), tr (fun _ => (HY.out y).mono ?_) (by kernel_rfl), ⟨fun x => ?_⟩, tp (by kernel_rfl), tp ?_, tp ?_, tp ?_, tp (by kernel_rfl), trivial⟩
    ·rintro e z ⟨g, o, c, rfl, hB, hb⟩
     exact ⟨_, rfl, _, rfl, hb, g, o, c, rfl, hB⟩
    ·have h3 := x { on := 1, ground := Ground.data } (by simp) rfl _ rfl
     obtain ⟨g, o, c9, h2, hB⟩ := h3
     simp only [] at h2 hB
     have hc2 := bs_conv hB
     refine (tp (X := True) ?_).out trivial
     simp only [fillK, putT, List.setIfInBounds_toArray, List.set_cons_zero, List.set_cons_succ]
     unfold execOp
     go_simp
    ·simp only [fillK, putT, List.setIfInBounds_toArray, List.set_cons_zero, List.set_cons_succ]
     unfold execOp
     go_simp
    ·simp only [fillK, putT, List.setIfInBounds_toArray, List.set_cons_zero, List.set_cons_succ]
     unfold execOp
     go_simp
    ·simp only [fillK, putT, List.setIfInBounds_toArray, List.set_cons_zero, List.set_cons_succ]
     unfold execOp
     go_simp
   ·refine wpAny_done (by kernel_rfl) ?_ _
    simp only [fillK, putT, List.setIfInBounds_toArray, List.set_cons_zero, List.set_cons_succ]
    go_wp2
    go_ret
    exact ⟨rfl, fr.trans (f.mono fr.size)⟩

end Go.Proofs.YtihoaakbkffejaaGreatDoor
namespace Go.Proofs.YtihoaakbkffejaaGreatDoor
open Go.RowKit Go.Extern.Stop Go.Stop Go.Extern
set_option maxRecDepth 100000

theorem e_isTypeOf (v : Value) (w : World) : (Extern.ReflectliteType.typeOf #[.iface 202 v]).run Tryz.prog w = .ok (.iface 172 (.agg #[.pointer (some ⟨10, 202, none⟩)])) w := by kernel_rfl
def cmpE : Array Value → Sem Value := Extern.ReflectliteType.method fun t => do Go.Extern.Rtype.noPackHeld "Comparable" t; pure (.bool (← typeInfo t).comparable)
theorem e_isComparable (w : World) : (cmpE #[.agg #[.pointer (some ⟨10, 202, none⟩)]]).run Tryz.prog w = .ok (.bool true) w := by kernel_rfl
theorem e_mComp (v : Value) (w : World) : (Go.method 339 172 v "Comparable").run Tryz.prog w = .ok (176, v) w := by kernel_rfl
theorem e_mUnw (v : Value) (w : World) : (Go.method 339 139 v "Unwrap").run Tryz.prog w = .ok (172, v) w := by kernel_rfl
theorem e_isComp : (Tryz.prog.info? 202).map (·.comparable) = some true := by kernel_rfl
theorem e_isSize : (Tryz.prog.info? 227).map (·.size) = some 1 := by kernel_rfl
theorem e_noIsW (v : Value) (xT : TypeId) (w : World) : (Instr.typeAssert (.iface 139 v) xT 174 true).run Tryz.prog w = .ok (.tuple #[.nilIface, .bool false]) w := run_typeAssert_lacksB Tryz.underlying174 (by kernel_rfl) (by kernel_rfl) v xT w
theorem e_hasUnwrapW (v : Value) (xT : TypeId) (w : World) : (Instr.typeAssert (.iface 139 v) xT 177 true).run Tryz.prog w = .ok (.tuple #[.iface 139 v, .bool true]) w := run_typeAssert_hasB Tryz.underlying177 (by kernel_rfl) v xT w

theorem is_nil (b : Addr) (w : World) :
  Calls Tryz.prog 45 #[.nilIface, .iface 202 (.pointer (some b))] w fun e w' => e = .returned (.bool false) ∧ w' = w := by
 have hn := run_eql_iface_nil_left (P := Tryz.prog) w 202 (.pointer (some b)) Tryz.underlying76
 go_enter Tryz.func45, Tryz.ntmps45
 go_wp2
 go_ret
 exact ⟨rfl, rfl⟩

theorem unwrapC (b : Addr) (s : Value) (w : World) (hE2 : (w.alloc (.cells #[s] 139)).cell? ⟨2, 0, none⟩ = some (.iface 202 (.pointer (some b)))) :
  Calls Tryz.prog 172 #[.agg #[s]] w fun e w' => e = .returned (.iface 202 (.pointer (some b))) ∧ w' = w.alloc (.cells #[s] 139) := by
 go_enter Tryz.func172, Tryz.ntmps172
 go_wp2
 go_ret
 exact ⟨rfl, rfl⟩

set_option maxHeartbeats 2000000 in
theorem is_fault (b : Addr) (s : Value) (w : World) (hg : 2 < w.heap.size) (hE : w.cell? ⟨2, 0, none⟩ = some (.iface 202 (.pointer (some b)))) :
  Calls Tryz.prog 45 #[.iface 139 (.agg #[s]), .iface 202 (.pointer (some b))] w fun e w' => e = .returned (.bool true) ∧ Below w.heap.size w w' := by
 obtain ⟨i, hi, hcmp⟩ := Option.map_eq_some_iff.1 e_isComp
 obtain ⟨j, hj, hjs⟩ := Option.map_eq_some_iff.1 e_isSize
 have h8 := @run_callFunc_extern Tryz.prog 86 _ Extern.ReflectliteType.typeOf Tryz.func86 (by kernel_rfl) (by kernel_rfl) (by kernel_rfl) (by kernel_rfl)
 have h32 := @run_callFunc_extern Tryz.prog 176 _ cmpE Tryz.func176 (by kernel_rfl) (by kernel_rfl) (by kernel_rfl) (by kernel_rfl)
 have mR := e_mComp
 have mU := e_mUnw
 have tT := e_isTypeOf
 have cT := e_isComparable
 have nW := e_noIsW
 have uW := e_hasUnwrapW
 have hty := run_eql_iface_types (P := Tryz.prog) 139 202 (.agg #[s]) (.pointer (some b)) Tryz.underlying76 (by decide) w
 obtain ⟨W, hW⟩ : ∃ W, W = w.alloc (.cells #[s] 139) := ⟨_, rfl⟩
 have bW : Below w.heap.size w W := by rw [hW]; exact (Below.refl _ _).alloc (Nat.le_refl _) _
 have hE2 : (w.alloc (.cells #[s] 139)).cell? ⟨2, 0, none⟩ = some (.iface 202 (.pointer (some b))) := by rw [← hW]; exact (bW.cell (p := ⟨2, 0, none⟩) hg).trans hE
 have heq := run_eql_iface_ptr_same (P := Tryz.prog) (w.alloc (.cells #[s] 139)) b Tryz.underlying76 Tryz.underlying202 hi hcmp hj
 rw [hW] at bW
 clear hW W
 go_enter Tryz.func45, Tryz.ntmps45
 go_wp2
 refine wp_loop_rounds 2 ?_
 rw [rounds_succ]
 go_wp2_with (go_at_call 172; refine (unwrapC b s w hE2).mono ?_; rintro e z ⟨rfl, rfl⟩)
 rw [rounds_succ]
 go_wp2
 go_ret
 exact ⟨rfl, bW⟩
end Go.Proofs.YtihoaakbkffejaaGreatDoor
namespace Go.Proofs.YtihoaakbkffejaaGreatDoor
open Go.RowKit
set_option maxRecDepth 100000

set_option maxHeartbeats 8000000 in
theorem implVerify' (a : Option Addr) (n c : Nat) (ps : List Int) (b : Option Addr) (m d : Nat) (ms : List Int) (a' : Option Addr) (k c' : Nat) (ss : List Int) (w : World) (hp : Bs w a n c ps) (hm : Bs w b m d ms) (hs : Bs w a' k c' ss) (be : Addr) (hG : VarsV w be) :
  Calls Tryz.prog 12 #[.slice a n c, .slice b m d, .slice a' k c'] w fun e w' => e = .returned (.bool (vfy ps ms ss)) ∧ Below w.heap.size w w' := by
 obtain ⟨r, hr⟩ : ∃ r, r = vfy ps ms ss := ⟨_, rfl⟩
 have HF : Hid (∀ Z, Below w.heap.size w Z → Calls Tryz.prog 46 #[.slice a n c, .slice b m d, .slice a' k c'] Z fun e w' => (r = true ∧ e = .returned .nilIface ∨ r = false ∧ ∃ s, e = .returned (.iface 139 (.agg #[s]))) ∧ Below Z.heap.size Z w') := by
  unfold Hid; intro Z hZ; rw [hr]; exact implFault a n c ps b m d ms a' k c' ss Z (hp.below hZ) (hm.below hZ) (hs.below hZ) be (hG.kept hZ)
 rw [← hr]
 clear hr hp hm hs
 have HG : Hid (∀ Z, Below w.heap.size w Z → VarsV Z be) := by unfold Hid; intro Z hZ; exact hG.kept hZ
 clear hG
 go_enter Tryz.func12, Tryz.ntmps12
 go_upto_region 1 with fail
 try simp only [Act.put]
 refine tame [kc 7 (.slice a n c), kc 8 (.slice b m d), kc 9 (.slice a' k c'), kv 10 (fun _ _ _ v => r = true ∧ v = .nilIface ∨ r = false ∧ ∃ s, v = .iface 139 (.agg #[s])), kc 11 (.iface 202 (.pointer (some be))), kc 12 (.bool (!r)), kc 13 (.bool r), kc 6 (.bool r)] 8 (by kernel_rfl) (by kernel_rfl) (by kernel_rfl)
  (by repeat' first | exact trivial | apply kc_keeps | (intro _ _ _ _ _ h _ _; exact h) | constructor) 0 (by kernel_rfl) (fun vv ll hh y f => ?_) (fun vv ll hh y f F ivh aph => ?_)
 ·have hE := (HG.out y f).E
  refine ⟨tp (by kernel_rfl), tp (by kernel_rfl), tp (by kernel_rfl), tr (fun _ => (HF.out y f).mono ?_) (by kernel_rfl), tp ?_, tr (f := 45) (args := #[vv 3, .iface 202 (.pointer (some be))]) (fun x => ?_) (by kernel_rfl), tp ?_, tp (by kernel_rfl), trivial⟩
  ·rintro e z ⟨h | h, hb⟩
   ·exact ⟨_, h.2, _, rfl, hb, .inl ⟨h.1, rfl⟩⟩
   ·obtain ⟨h1, s, h2⟩ := h
    exact ⟨_, h2, _, rfl, hb, .inr ⟨h1, s, rfl⟩⟩
  ·simp only [fillK, putT, List.setIfInBounds_toArray, List.set_cons_zero, List.set_cons_succ]
   unfold execOp
   go_simp
  ·have h3 := x { on := 3, ground := Ground.data } (by simp) rfl _ rfl
   rcases h3 with ⟨h1, h2⟩ | ⟨h1, s, h2⟩
   ·simp only [] at h2
    rw [h2, h1]
    refine (is_nil be y).mono ?_
    rintro e z ⟨rfl, rfl⟩
    exact ⟨_, rfl, undef, rfl, Below.refl _ _, trivial⟩
   ·simp only [] at h2
    rw [h2, h1]
    refine (is_fault be s y (HG.out y f).e0 hE).mono ?_
    rintro e z ⟨rfl, hb⟩
    exact ⟨_, rfl, undef, rfl, hb, trivial⟩
  ·simp only [fillK, putT, List.setIfInBounds_toArray, List.set_cons_zero, List.set_cons_succ]
   unfold execOp
   go_simp
 ·refine wpAny_done (by kernel_rfl) ?_ _
  simp only [fillK, putT, List.setIfInBounds_toArray, List.set_cons_zero, List.set_cons_succ]
  go_wp2
  go_ret
  exact ⟨rfl, f⟩
end Go.Proofs.YtihoaakbkffejaaGreatDoor
namespace Go.Proofs.YtihoaakbkffejaaGreatDoor
open Go.RowKit

theorem set_take (xs : List Int) (n k : Nat) (h : k < xs.length) (hn : xs.length = n) :
  (U8 (xs.take k ++ List.replicate (n - k) 0)).set k (.int .u8 (xs.getD k 0)) = U8 (xs.take (k + 1) ++ List.replicate (n - (k + 1)) 0) := by
 have e : n - k = (n - (k + 1)) + 1 := by omega
 rw [take_snoc xs k h, e, List.replicate_succ]
 have hl : (xs.take k).length = k := by simp; omega
 simp only [U8, List.map_append, List.map_cons]
 rw [List.set_append_right _ _ (by simp; omega)]
 simp [Nat.min_eq_left (show k ≤ xs.length by omega)]

set_option maxHeartbeats 400000 in
theorem eqB (a a' : Option Addr) (n cap cap' : Nat) (xs : List Int) (w : World) (h : Bs w a n cap xs) (h' : Bs w a' n cap' xs) (hn : n ≤ 2097152) :
  Calls Tryz.prog 24 #[.slice a n cap, .slice a' n cap'] w fun e w' => ∃ q, e = .returned (.bool true) ∧ w' = w.drewN q := by
 obtain ⟨_, hl, hc, hby, h⟩ := h
 obtain ⟨_, _, hc', _, h'⟩ := h'
 have hne : ((n : Int) != (n : Int)) = false := by simp
 go_enter Tryz.func24, Tryz.ntmps24
 go_wp2
 go_loopw [5] (fun i wr => ∃ k q : Nat, k ≤ n ∧ i = .int .i64 k ∧ wr = w.drewN q) (fun i _ => n - (intOf i).toNat)
 case atStart => exact ⟨0, 0, Nat.zero_le _, rfl, rfl⟩
 case round =>
  obtain ⟨k, q, hk, rfl, rfl⟩ := hrel
  by_cases hlt : k < n
  ·rcases h with h | ⟨b, o, rfl, hbs, hcell⟩
   ·omega
   ·rcases h' with h' | ⟨b', o', rfl, hbs', hcell'⟩
    ·omega
    ·obtain ⟨x, hx⟩ : ∃ x, x = xs.getD k 0 := ⟨_, rfl⟩
     have hck : w.cell? ⟨b, o + k, none⟩ = some (.int .u8 x) := by rw [hx]; exact hcell k hlt
     have hck' : w.cell? ⟨b', o' + k, none⟩ = some (.int .u8 x) := by rw [hx]; exact hcell' k hlt
     have hxx : (x != x) = false := by simp
     have hlt' : (k : Int) < (n : Int) := by omega
     clear hcell hcell' hx
     go_wp2
     go_quiet (fail)
     go_wp2
     go_roundw
     case rel => exact ⟨k + 1, _, by omega, by go_num, rfl⟩
     case measure => simp [intOf]; omega
  ·go_wp2
   go_ret
   exact ⟨q, rfl, rfl⟩

end Go.Proofs.YtihoaakbkffejaaGreatDoor
