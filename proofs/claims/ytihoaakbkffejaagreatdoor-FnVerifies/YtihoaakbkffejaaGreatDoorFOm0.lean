/-
  What is proved here: points of the curve as lists in memory; contracts of the program's pointOf and pointClosed: a point as two lists; the contract of the program's PtBase; the program's PtBase answers the base; contracts of the specification's l5in and l5out: a multiplier out of a; contracts of the specification's l5order, l5isOk and ScOk: whether a slice; the contract of the specification's l5twice: twice a multiplier and a bit.
-/
import Derived.Test.YtihoaakbkffejaaGreatDoorFJio
import Derived.Test.YtihoaakbkffejaaGreatDoorFOa
import Derived.Test.YtihoaakbkffejaaGreatDoorFJg
import Derived.Test.YtihoaakbkffejaaGreatDoorFUff
import Derived.Test.YtihoaakbkffejaaGreatDoorFJn
import Derived.Test.YtihoaakbkffejaaGreatDoorFFm
import Derived.Test.YtihoaakbkffejaaGreatDoorFYe
import Derived.Test.YtihoaakbkffejaaGreatDoorFUc
import Derived.Deep.RegionHeld3
namespace Go.Proofs.YtihoaakbkffejaaGreatDoor
open Go.RowKit
set_option maxRecDepth 100000
set_option maxHeartbeats 4000000
set_option linter.unusedSectionVars false

theorem cx_len (k : KF) : (cx k).length = 16 := lim_len _ _
theorem cx_int (k : KF) : ∀ x ∈ cx k, -9223372036854775808 ≤ x ∧ x ≤ 9223372036854775807 := fun x hx => by have := lim_lm _ _ x hx; omega
structure PI (W : World) (a : Option Addr) (c : Nat) (b : Option Addr) (d : Nat) (P : KF × KF) : Prop where
 x : Is W a 16 c (cx P.1)
 y : Is W b 16 d (cx P.2)
theorem PI.below {A B : World} {a b : Option Addr} {c d : Nat} {P : KF × KF} (h : PI A a c b d P) (hb : Below A.heap.size A B) : PI B a c b d P := ⟨h.x.below hb, h.y.below hb⟩
theorem PI.of {w W : World} {v : Value} {xs ys : List Int} {P : KF × KF} (h : PtT 65 w W v xs ys) (hx : xs = cx P.1) (hy : ys = cx P.2) : ∃ a c b d, v = .agg #[.slice a 16 c, .slice b 16 d] ∧ PI W a c b d P := by
 subst hx hy
 obtain ⟨a, c, b, d, rfl, o1, o2, _⟩ := h
 have i1 := is_of_own o1 (cx_int _)
 have i2 := is_of_own o2 (cx_int _)
 rw [cx_len] at i1 i2
 exact ⟨a, c, b, d, by rw [cx_len, cx_len], i1, i2⟩
section
variable [NeZero pN]
theorem okpt {P : KF × KF} (h : On dK P) : ptOk (cx P.1) (cx P.2) = true := pt_ok h
end
set_option maxHeartbeats 4000000 in
theorem implPtOf (x y : List Int) (w : World) (nx : x.length = 16) (ny : y.length = 16) :
  Calls Tryz.prog 44 #[.agg (I64 x).toArray, .agg (I64 y).toArray] w fun e w' => ∃ v, e = .returned v ∧ PtT 65 w w' v x y ∧ Below w.heap.size w w' := by
 have iix : (Tryz.prog.info? 65).map (·.size) = some (I64 x).length := by simpa [nx] using infoL
 have iiy : (Tryz.prog.info? 65).map (·.size) = some (I64 y).length := by simpa [ny] using infoL
 have hu : Tryz.prog.underlying 65 = some (.array 16 3) := Tryz.underlying65
 obtain ⟨A0, hA0⟩ : ∃ A, A = (I64 x).toArray := ⟨_, rfl⟩
 obtain ⟨A1, hA1⟩ : ∃ A, A = (I64 y).toArray := ⟨_, rfl⟩
 obtain ⟨W, hW⟩ : ∃ W, W = ((w.alloc (.cells A0 65)).alloc (.cells A1 65)).alloc (.cells #[.slice none 0 0, .slice none 0 0] 33) := ⟨_, rfl⟩
 have fr : Below w.heap.size w W := by rw [hW]; exact ((((Below.refl _ _).alloc (Nat.le_refl _) _).alloc (by simp) _).alloc (by simp; omega) _)
 have pa : Arr W w.heap.size 65 (I64 x) := by
  rw [hW, hA0, hA1]
  have := ((Arr.new (w) (I64 x) 65).alloc (.cells (I64 y).toArray 65)).alloc (.cells #[.slice none 0 0, .slice none 0 0] 33)
  exact this
 have pb : Arr W (w.heap.size + 1) 65 (I64 y) := by
  rw [hW, hA0, hA1]
  have := (Arr.new (w.alloc (.cells (I64 x).toArray 65)) (I64 y) 65).alloc (.cells #[.slice none 0 0, .slice none 0 0] 33)
  rw [World.size_alloc] at this
  exact this
 have pr : Arr W (w.heap.size + 2) 33 ([.slice none 0 0, .slice none 0 0]) := by
  rw [hW, hA0, hA1]
  have := Arr.new ((w.alloc (.cells (I64 x).toArray 65)).alloc (.cells (I64 y).toArray 65)) ([.slice none 0 0, .slice none 0 0]) 33
  rw [World.size_alloc, World.size_alloc] at this
  exact this
 rw [← hA0, ← hA1]
 clear hA0 hA1
 go_enter Tryz.func44, Tryz.ntmps44
 go_upto_region 1 with fail
 rw [← hW]
 clear hW
 try simp only [Act.put]
 have bD : Below W.heap.size W W.drew := (Below.refl _ _).drew
 replace fr := fr.trans (bD.mono fr.size)
 replace pa := pa.kept bD
 replace pb := pb.kept bD
 replace pr := pr.kept bD
 clear bD
 refine wp_region_held_drew (S := fun W => W.rangeAt w.heap.size 0 (I64 x) ∧ W.rangeAt (w.heap.size + 1) 0 (I64 y)) (by kernel_rfl) ⟨arr_range pa, arr_range pb⟩ (fun hHeld => ?_)
 obtain ⟨D1, hD⟩ : ∃ V, V = W.drew := ⟨_, rfl⟩
 rw [← hD] at hHeld fr pa pb pr ⊢
 clear hD
 refine wpAnyH_take (i := 0) (oi := { dst := some 5, op := Op.load 65 (Operand.tmp 2), type := 65, pos := "l06_point.go:109", after := #[], guard := none }) (v := _) rfl (by kernel_rfl) (by kernel_rfl) (by kernel_rfl) (fun _ _ _ h => h) (yieldsIf_load_mid (by rfl) _ _ rfl _ _ rfl (I64 x) _ (fun _ h => h.1) hu rfl iix) (by assumption) ?_
 simp only [aP]
 refine wpAnyH_take (i := 3) (oi := { dst := some 8, op := Op.load 65 (Operand.tmp 3), type := 65, pos := "l06_point.go:109", after := #[], guard := none }) (v := _) rfl (by kernel_rfl) (by kernel_rfl) (by kernel_rfl) (fun _ _ _ h => h) (yieldsIf_load_mid (by rfl) _ _ rfl _ _ rfl (I64 y) _ (fun _ h => h.2) hu rfl iiy) (by assumption) ?_
 simp only [aP]
 refine wpAnyH_ready (rs := [1]) (by kernel_rfl) (by simp) (AllReadyH.cons (o := { dst := some 6, op := Op.call { callee := Callee.value (Operand.func 59), args := #[Operand.tmp 5], argTypes := #[65] }, type := 29, pos := "l06_point.go:109", after := #[{ on := 0, ground := Ground.data }], guard := none }) rfl (fun K hK => ?_) AllReadyH.nil)
 go_simp
 have hl1 : w.heap.size + 2 < D1.heap.size := pr.lt
 refine (implList x _ nx).mono ?_
 rintro e y2 ⟨a1, c1, rfl, o1, hb2⟩
 replace fr := fr.trans (hb2.mono fr.size)
 replace pa := pa.kept hb2
 replace pb := pb.kept hb2
 replace pr := pr.kept hb2
 clear hb2
 have i1 := In.of o1
 go_wp2_with fail
 refine hK.out _ _ ⟨arr_range pa, arr_range pb⟩ (fun hHeld => ?_)
 clear hK K
 refine wpAnyH_take (i := 2) (oi := { dst := some 7, op := Op.build 31 #[(0, Operand.tmp 6)], type := 31, pos := "l06_point.go:109", after := #[{ on := 1, ground := Ground.data }], guard := none }) (v := .agg #[.slice a1 16 c1]) rfl (by kernel_rfl) (by kernel_rfl) (by kernel_rfl) (fun _ _ _ h => h) (.inl ⟨by rfl, fun _ _ => by kernel_rfl⟩) (by assumption) ?_
 simp only [aP]
 refine wpAnyH_ready (rs := [4]) (by kernel_rfl) (by simp) (AllReadyH.cons (o := { dst := some 9, op := Op.call { callee := Callee.value (Operand.func 59), args := #[Operand.tmp 8], argTypes := #[65] }, type := 29, pos := "l06_point.go:109", after := #[{ on := 3, ground := Ground.data }, { on := 1, ground := Ground.chain }], guard := none }) rfl (fun K hK => ?_) AllReadyH.nil)
 go_simp
 have hl2 : w.heap.size + 2 < y2.heap.size := pr.lt
 refine (implList y _ ny).mono ?_
 rintro e y3 ⟨a2, c2, rfl, o2, hb3⟩
 replace fr := fr.trans (hb3.mono fr.size)
 replace pa := pa.kept hb3
 replace pb := pb.kept hb3
 replace pr := pr.kept hb3
 replace o1 := own_below o1 hb3
 clear hb3
 have i2 := In.of o2
 go_wp2_with fail
 refine hK.out _ _ ⟨arr_range pa, arr_range pb⟩ (fun hHeld => ?_)
 clear hK K
 refine wpAnyH_take (i := 5) (oi := { dst := some 10, op := Op.build 31 #[(0, Operand.tmp 9)], type := 31, pos := "l06_point.go:109", after := #[{ on := 4, ground := Ground.data }], guard := none }) (v := .agg #[.slice a2 16 c2]) rfl (by kernel_rfl) (by kernel_rfl) (by kernel_rfl) (fun _ _ _ h => h) (.inl ⟨by rfl, fun _ _ => by kernel_rfl⟩) (by assumption) ?_
 simp only [aP]
 refine wpAnyH_take (i := 6) (oi := { dst := some 11, op := Op.build 33 #[(0, Operand.tmp 7), (1, Operand.tmp 10)], type := 33, pos := "l06_point.go:109", after := #[{ on := 2, ground := Ground.data }, { on := 5, ground := Ground.data }], guard := none }) (v := _) rfl (by kernel_rfl) (by kernel_rfl) (by kernel_rfl) (fun _ _ _ h => h) (yieldsIf_pt (by rfl) _ _ rfl _ _ rfl rfl) (by assumption) ?_
 simp only [aP]
 refine wpAnyH_ready (rs := [7]) (by kernel_rfl) (by simp) (AllReadyH.cons (o := { dst := none, op := Op.store 33 (Operand.tmp 4) (Operand.tmp 11), type := 0, pos := "l06_point.go:109", after := #[{ on := 6, ground := Ground.data }, { on := 4, ground := Ground.chain }, { on := 0, ground := Ground.phase }, { on := 1, ground := Ground.phase }, { on := 2, ground := Ground.phase }, { on := 3, ground := Ground.phase }, { on := 4, ground := Ground.phase }, { on := 5, ground := Ground.phase }, { on := 6, ground := Ground.phase }], guard := none }) rfl (fun K hK => ?_) AllReadyH.nil)
 rw [if_pos (by rfl)]
 refine wp_store_mid _ _ _ rfl _ _ ([.slice a1 16 c1, .slice a2 16 c2]).toArray rfl rfl (by have := arr_there pr; simpa using this) infoPt (all_oneCell_toArray (by simp [Value.oneCell'])) ?_
 simp only [Act.put]
 replace fr := bel_sc fr (w.heap.size + 2) ([.slice a1 16 c1, .slice a2 16 c2]) (by omega)
 replace pa := pa.sc (w.heap.size + 2) ([.slice a1 16 c1, .slice a2 16 c2]) (by omega)
 replace pb := pb.sc (w.heap.size + 2) ([.slice a1 16 c1, .slice a2 16 c2]) (by omega)
 replace pr := pr.sc0 ([.slice a1 16 c1, .slice a2 16 c2]) (by simp)
 replace o1 : (y3.setCells (w.heap.size + 2) 0 ([.slice a1 16 c1, .slice a2 16 c2])).ownsRow D1.heap.size 65 1 (.slice a1 16 c1) 16 (I64 x) := own_setCells o1 i1 (.inl hl1) _
 replace o2 : (y3.setCells (w.heap.size + 2) 0 ([.slice a1 16 c1, .slice a2 16 c2])).ownsRow y2.heap.size 65 1 (.slice a2 16 c2) 16 (I64 y) := own_setCells o2 i2 (.inl hl2) _
 obtain ⟨V4, hVe⟩ : ∃ V, V = y3.setCells (w.heap.size + 2) 0 ([.slice a1 16 c1, .slice a2 16 c2]) := ⟨_, rfl⟩
 rw [← hVe] at fr pa pb pr o1 o2 ⊢
 clear hVe
 refine hK.out _ _ ⟨arr_range pa, arr_range pb⟩ (fun hHeld => ?_)
 clear hK K
 refine wpAnyH_done (by kernel_rfl) ?_ _
 go_wp2
 have hap : Apart (.slice a1 16 c1) (.slice a2 16 c2) := i1.apart i2 (.inl (by omega))
 exact bodyPost_ret (results_cell_row rfl _ _ (w.heap.size + 2) 33 #[.slice a1 16 c1, .slice a2 16 c2] (0, 0) _ rfl pr Tryz.underlying33 rfl infoPt) rfl ⟨_, rfl, ptT_16 nx ny (own_base o1 (by omega)) (own_base o2 (by omega)) hap, fr⟩

set_option maxHeartbeats 4000000 in
theorem implClosed (P : E4) (w : World) (hP : P.Ok) (hV : Vr w 4 (I64 PL)) :
  Calls Tryz.prog 65 #[.iface 67 (.agg (I64 P.cells).toArray)] w fun e w' => ∃ v, e = .returned v ∧ PtT 65 w w' v (flx P) (fly P) ∧ Below w.heap.size w w' := by
 obtain ⟨z, ez⟩ : ∃ x_, x_ = invF P.c := ⟨_, rfl⟩
 have kz : feOk z = true := by rw [ez]; exact inv_ok _
 obtain ⟨x, ex⟩ : ∃ x_, x_ = flx P := ⟨_, rfl⟩
 have kx : feOk x = true := by rw [ex]; exact ok_red _
 obtain ⟨y, ey⟩ : ∃ x_, x_ = fly P := ⟨_, rfl⟩
 have ky : feOk y = true := by rw [ey]; exact ok_red _
 have Hz : Hid (∀ Z, Vr Z 4 (I64 PL) → Calls Tryz.prog 101 #[.agg (I64 P.c).toArray] Z fun e w' => e = .returned (.agg (I64 z).toArray) ∧ Below Z.heap.size Z w') := by
  unfold Hid; intro Z hZ; rw [ez]; exact implInverse P.c Z hP.c hZ
 have Hx : Hid (∀ Z, Vr Z 4 (I64 PL) → Calls Tryz.prog 98 #[.agg (I64 P.a).toArray, .agg (I64 z).toArray] Z fun e w' => e = .returned (.agg (I64 x).toArray) ∧ Below Z.heap.size Z w') := by
  unfold Hid; intro Z hZ; rw [ex, show flx P = red (val P.a * val z) by rw [ez]; rfl]; exact mulI hP.a kz Z hZ
 have Hy : Hid (∀ Z, Vr Z 4 (I64 PL) → Calls Tryz.prog 98 #[.agg (I64 P.b).toArray, .agg (I64 z).toArray] Z fun e w' => e = .returned (.agg (I64 y).toArray) ∧ Below Z.heap.size Z w') := by
  unfold Hid; intro Z hZ; rw [ey, show fly P = red (val P.b * val z) by rw [ez]; rfl]; exact mulI hP.b kz Z hZ
 rw [← ex, ← ey]
 have jz := infoL' kz
 have iiz := infoLl kz
 have nz := feOk_len kz
 have uz := one_lm z
 have jx := infoL' kx
 have iix := infoLl kx
 have nx := feOk_len kx
 have ux := one_lm x
 have jy := infoL' ky
 have iiy := infoLl ky
 have ny := feOk_len ky
 have uy := one_lm y
 have iPa := infoLl hP.a
 have iPb := infoLl hP.b
 have iPc := infoLl hP.c
 have hiP := infoLp' hP
 have hPl := E4.len hP
 have hu : Tryz.prog.underlying 65 = some (.array 16 3) := Tryz.underlying65
 have has : ∀ (v : Value) (w : World), (Instr.typeAssert (.iface 67 v) 111 67 false).run Tryz.prog w = .ok v w := assert_lp
 obtain ⟨W, hW⟩ : ∃ W, W = w.alloc (.cells #[.slice none 0 0, .slice none 0 0] 33) := ⟨_, rfl⟩
 have fr : Below w.heap.size w W := by rw [hW]; exact ((Below.refl _ _).alloc (Nat.le_refl _) _)
 have pr : Arr W w.heap.size 33 ([.slice none 0 0, .slice none 0 0]) := by
  rw [hW]
  have := Arr.new (w) ([.slice none 0 0, .slice none 0 0]) 33
  exact this
 have h0P := hV.lt
 have vP := hV.kept fr
 clear hV
 clear ez ex ey kz kx ky
 go_enter Tryz.func65, Tryz.ntmps65
 go_upto_region 1 with fail
 rw [← hW]
 clear hW
 have hXq : w.heap.size < W.heap.size ∧ w.heap.size ≤ W.heap.size := ⟨pr.lt, fr.size⟩
 obtain ⟨bV, Aq, q1⟩ := laid_lp W P.cells
 replace fr := fr.trans (bV.mono fr.size)
 replace pr := pr.kept bV
 replace vP := vP.kept bV
 go_upto_region 2 with (refine wpList_store_row rfl 67 _ _ rfl W.heap.size (I64 P.cells).toArray rfl rfl 67 _ q1 hiP (by simp [hPl]) (by simp [Value.oneCell']) ?_)
 obtain ⟨V1, hVV⟩ : ∃ V, V = (W.alloc (.cells #[.int .i64 0, .int .i64 0, .int .i64 0, .int .i64 0, .int .i64 0, .int .i64 0, .int .i64 0, .int .i64 0, .int .i64 0, .int .i64 0, .int .i64 0, .int .i64 0, .int .i64 0, .int .i64 0, .int .i64 0, .int .i64 0, .int .i64 0, .int .i64 0, .int .i64 0, .int .i64 0, .int .i64 0, .int .i64 0, .int .i64 0, .int .i64 0, .int .i64 0, .int .i64 0, .int .i64 0, .int .i64 0, .int .i64 0, .int .i64 0, .int .i64 0, .int .i64 0, .int .i64 0, .int .i64 0, .int .i64 0, .int .i64 0, .int .i64 0, .int .i64 0, .int .i64 0, .int .i64 0, .int .i64 0, .int .i64 0, .int .i64 0, .int .i64 0, .int .i64 0, .int .i64 0, .int .i64 0, .int .i64 0, .int .i64 0, .int .i64 0, .int .i64 0, .int .i64 0, .int .i64 0, .int .i64 0, .int .i64 0, .int .i64 0, .int .i64 0, .int .i64 0, .int .i64 0, .int .i64 0, .int .i64 0, .int .i64 0, .int .i64 0, .int .i64 0] 67)).setRow W.heap.size (I64 P.cells).toArray := ⟨_, rfl⟩
 obtain ⟨Xq, hE⟩ : ∃ E, E = W.heap.size := ⟨_, rfl⟩
 rw [← hVV] at fr pr vP Aq ⊢
 rw [← hE] at Aq hXq ⊢
 clear hVV hE q1 bV
 go_wp2_with (refine wpList_load_mid rfl 65 _ rfl Xq 32 rfl (I64 P.c) _ (E4.rc hP Aq) Tryz.underlying65 rfl iPc ?_)
 refine (Hz.out _ vP).mono ?_
 rintro e y2 ⟨rfl, hb2⟩
 replace fr := fr.trans (hb2.mono fr.size)
 replace pr := pr.kept hb2
 replace vP := vP.kept hb2
 replace Aq := Aq.kept hb2
 clear hb2
 have hXz : w.heap.size < y2.heap.size ∧ Xq < y2.heap.size ∧ w.heap.size ≤ y2.heap.size := ⟨pr.lt, Aq.lt, fr.size⟩
 obtain ⟨bV, Az, q1⟩ := laid_lm y2 z
 replace fr := fr.trans (bV.mono fr.size)
 replace pr := pr.kept bV
 replace vP := vP.kept bV
 replace Aq := Aq.kept bV
 go_upto_region 3 with (refine wpList_store_row rfl 65 _ _ rfl y2.heap.size (I64 z).toArray rfl rfl 65 _ q1 jz (by simp [nz]) (by simp [Value.oneCell']) ?_)
 obtain ⟨V3, hVV⟩ : ∃ V, V = (y2.alloc (.cells zV 65)).setRow y2.heap.size (I64 z).toArray := ⟨_, rfl⟩
 obtain ⟨Xz, hE⟩ : ∃ E, E = y2.heap.size := ⟨_, rfl⟩
 rw [← hVV] at fr pr vP Aq Az ⊢
 rw [← hE] at Az hXz ⊢
 clear hVV hE q1 bV
 try simp only [Act.put]
 have bD : Below V3.heap.size V3 V3.drew := (Below.refl _ _).drew
 replace fr := fr.trans (bD.mono fr.size)
 replace pr := pr.kept bD
 replace vP := vP.kept bD
 replace Aq := Aq.kept bD
 replace Az := Az.kept bD
 clear bD
 refine wp_region_held_drew (S := fun W => W.rangeAt Xq 0 (I64 P.a) ∧ W.rangeAt Xq 16 (I64 P.b) ∧ W.rangeAt Xz 0 (I64 z)) (by kernel_rfl) ⟨E4.ra Aq, E4.rb hP Aq, arr_range Az⟩ (fun hHeld => ?_)
 obtain ⟨D4, hD⟩ : ∃ V, V = V3.drew := ⟨_, rfl⟩
 rw [← hD] at hHeld fr pr vP Aq Az ⊢
 clear hD
 refine wpAnyH_take (i := 0) (oi := { dst := some 10, op := Op.fieldAddr 67 (Operand.tmp 3) 0, type := 0, pos := "l06_point.go:125", after := #[], guard := none }) (v := .pointer (some ⟨Xq, 0, none⟩)) rfl (by kernel_rfl) (by kernel_rfl) (by kernel_rfl) (fun _ _ _ h => h) (.inl ⟨by rfl, fun _ _ => by rfl⟩) (by assumption) ?_
 simp only [aP]
 refine wpAnyH_take (i := 1) (oi := { dst := some 11, op := Op.load 65 (Operand.tmp 10), type := 65, pos := "l06_point.go:125", after := #[{ on := 0, ground := Ground.data }], guard := none }) (v := _) rfl (by kernel_rfl) (by kernel_rfl) (by kernel_rfl) (fun _ _ _ h => h) (yieldsIf_load_mid (by rfl) _ _ rfl _ _ rfl (I64 P.a) _ (fun _ h => h.1) hu rfl iPa) (by assumption) ?_
 simp only [aP]
 refine wpAnyH_take (i := 2) (oi := { dst := some 12, op := Op.load 65 (Operand.tmp 4), type := 65, pos := "l06_point.go:125", after := #[], guard := none }) (v := _) rfl (by kernel_rfl) (by kernel_rfl) (by kernel_rfl) (fun _ _ _ h => h) (yieldsIf_load_mid (by rfl) _ _ rfl _ _ rfl (I64 z) _ (fun _ h => h.2.2) hu rfl iiz) (by assumption) ?_
 simp only [aP]
 refine wpAnyH_take (i := 4) (oi := { dst := some 14, op := Op.fieldAddr 67 (Operand.tmp 3) 1, type := 0, pos := "l06_point.go:125", after := #[], guard := none }) (v := .pointer (some ⟨Xq, 16, none⟩)) rfl (by kernel_rfl) (by kernel_rfl) (by kernel_rfl) (fun _ _ _ h => h) (.inl ⟨by rfl, fun _ _ => by rfl⟩) (by assumption) ?_
 simp only [aP]
 refine wpAnyH_take (i := 5) (oi := { dst := some 15, op := Op.load 65 (Operand.tmp 14), type := 65, pos := "l06_point.go:125", after := #[{ on := 4, ground := Ground.data }], guard := none }) (v := _) rfl (by kernel_rfl) (by kernel_rfl) (by kernel_rfl) (fun _ _ _ h => h) (yieldsIf_load_mid (by rfl) _ _ rfl _ _ rfl (I64 P.b) _ (fun _ h => h.2.1) hu rfl iPb) (by assumption) ?_
 simp only [aP]
 refine wpAnyH_take (i := 6) (oi := { dst := some 16, op := Op.load 65 (Operand.tmp 4), type := 65, pos := "l06_point.go:125", after := #[], guard := none }) (v := _) rfl (by kernel_rfl) (by kernel_rfl) (by kernel_rfl) (fun _ _ _ h => h) (yieldsIf_load_mid (by rfl) _ _ rfl _ _ rfl (I64 z) _ (fun _ h => h.2.2) hu rfl iiz) (by assumption) ?_
 simp only [aP]
 refine wpAnyH_ready (rs := [3]) (by kernel_rfl) (by simp) (AllReadyH.cons (o := { dst := some 13, op := Op.call { callee := Callee.value (Operand.func 98), args := #[Operand.tmp 11, Operand.tmp 12], argTypes := #[65, 65] }, type := 65, pos := "l06_point.go:125", after := #[{ on := 1, ground := Ground.data }, { on := 2, ground := Ground.data }], guard := none }) rfl (fun K hK => ?_) AllReadyH.nil)
 go_simp
 refine (Hx.out _ vP).mono ?_
 rintro e y5 ⟨rfl, hb5⟩
 replace fr := fr.trans (hb5.mono fr.size)
 replace pr := pr.kept hb5
 replace vP := vP.kept hb5
 replace Aq := Aq.kept hb5
 replace Az := Az.kept hb5
 clear hb5
 go_wp2_with fail
 refine hK.out _ _ ⟨E4.ra Aq, E4.rb hP Aq, arr_range Az⟩ (fun hHeld => ?_)
 clear hK K
 refine wpAnyH_ready (rs := [7]) (by kernel_rfl) (by simp) (AllReadyH.cons (o := { dst := some 17, op := Op.call { callee := Callee.value (Operand.func 98), args := #[Operand.tmp 15, Operand.tmp 16], argTypes := #[65, 65] }, type := 65, pos := "l06_point.go:125", after := #[{ on := 5, ground := Ground.data }, { on := 6, ground := Ground.data }, { on := 3, ground := Ground.chain }], guard := none }) rfl (fun K hK => ?_) AllReadyH.nil)
 go_simp
 refine (Hy.out _ vP).mono ?_
 rintro e y6 ⟨rfl, hb6⟩
 replace fr := fr.trans (hb6.mono fr.size)
 replace pr := pr.kept hb6
 replace vP := vP.kept hb6
 replace Aq := Aq.kept hb6
 replace Az := Az.kept hb6
 clear hb6
 go_wp2_with fail
 refine hK.out _ _ ⟨E4.ra Aq, E4.rb hP Aq, arr_range Az⟩ (fun hHeld => ?_)
 clear hK K
 refine wpAnyH_ready (rs := [8]) (by kernel_rfl) (by simp) (AllReadyH.cons (o := { dst := some 18, op := Op.call { callee := Callee.value (Operand.func 44), args := #[Operand.tmp 13, Operand.tmp 17], argTypes := #[65, 65] }, type := 33, pos := "l06_point.go:125", after := #[{ on := 3, ground := Ground.data }, { on := 7, ground := Ground.data }, { on := 7, ground := Ground.chain }], guard := none }) rfl (fun K hK => ?_) AllReadyH.nil)
 go_simp
 have hl : w.heap.size < y6.heap.size := pr.lt
 refine (implPtOf x y _ nx ny).mono ?_
 rintro e y7 ⟨v, rfl, hpt, hb7⟩
 replace fr := fr.trans (hb7.mono fr.size)
 replace pr := pr.kept hb7
 replace vP := vP.kept hb7
 replace Aq := Aq.kept hb7
 replace Az := Az.kept hb7
 clear hb7
 obtain ⟨aa, ca, ab, cb, rfl, oa, ob, hap⟩ := hpt
 rw [nx, ny] at hap ⊢
 rw [nx] at oa
 rw [ny] at ob
 have ia := In.of oa
 have ib := In.of ob
 go_wp2_with fail
 refine hK.out _ _ ⟨E4.ra Aq, E4.rb hP Aq, arr_range Az⟩ (fun hHeld => ?_)
 clear hK K
 refine wpAnyH_ready (rs := [9]) (by kernel_rfl) (by simp) (AllReadyH.cons (o := { dst := none, op := Op.store 33 (Operand.tmp 2) (Operand.tmp 18), type := 0, pos := "l06_point.go:125", after := #[{ on := 8, ground := Ground.data }, { on := 8, ground := Ground.chain }, { on := 0, ground := Ground.phase }, { on := 1, ground := Ground.phase }, { on := 2, ground := Ground.phase }, { on := 3, ground := Ground.phase }, { on := 4, ground := Ground.phase }, { on := 5, ground := Ground.phase }, { on := 6, ground := Ground.phase }, { on := 7, ground := Ground.phase }, { on := 8, ground := Ground.phase }], guard := none }) rfl (fun K hK => ?_) AllReadyH.nil)
 rw [if_pos (by rfl)]
 refine wp_store_mid _ _ _ rfl _ _ ([.slice aa 16 ca, .slice ab 16 cb]).toArray rfl rfl (by have := arr_there pr; simpa using this) infoPt (all_oneCell_toArray (by simp [Value.oneCell'])) ?_
 simp only [Act.put]
 replace fr := bel_sc fr w.heap.size ([.slice aa 16 ca, .slice ab 16 cb]) (by omega)
 replace pr := pr.sc0 ([.slice aa 16 ca, .slice ab 16 cb]) (by simp)
 replace vP := vP.sc w.heap.size ([.slice aa 16 ca, .slice ab 16 cb]) (by omega)
 replace Aq := Aq.sc w.heap.size ([.slice aa 16 ca, .slice ab 16 cb]) (by omega)
 replace Az := Az.sc w.heap.size ([.slice aa 16 ca, .slice ab 16 cb]) (by omega)
 replace oa : (y7.setCells w.heap.size 0 ([.slice aa 16 ca, .slice ab 16 cb])).ownsRow y6.heap.size 65 1 (.slice aa 16 ca) 16 (I64 x) := own_setCells oa ia (.inl hl) _
 replace ob : (y7.setCells w.heap.size 0 ([.slice aa 16 ca, .slice ab 16 cb])).ownsRow y6.heap.size 65 1 (.slice ab 16 cb) 16 (I64 y) := own_setCells ob ib (.inl hl) _
 obtain ⟨V8, hVe⟩ : ∃ V, V = y7.setCells w.heap.size 0 ([.slice aa 16 ca, .slice ab 16 cb]) := ⟨_, rfl⟩
 rw [← hVe] at fr pr vP Aq Az oa ob ⊢
 clear hVe
 refine hK.out _ _ ⟨E4.ra Aq, E4.rb hP Aq, arr_range Az⟩ (fun hHeld => ?_)
 clear hK K
 refine wpAnyH_done (by kernel_rfl) ?_ _
 go_wp2
 exact bodyPost_ret (results_cell_row rfl _ _ w.heap.size 33 #[.slice aa 16 ca, .slice ab 16 cb] (0, 0) _ rfl pr Tryz.underlying33 rfl infoPt) rfl ⟨_, rfl, ptT_16 nx ny (own_base oa (by omega)) (own_base ob (by omega)) hap, fr⟩
set_option maxHeartbeats 4000000 in
theorem implPtBase (w : World) (hX : Vr w 0 (I64 BX)) (hY : Vr w 1 (I64 BY)) :
  Calls Tryz.prog 11 #[] w fun e w' => ∃ v, e = .returned v ∧ PtT 65 w w' v (BX) (BY) ∧ Below w.heap.size w w' := by
 have HC : Hid (∀ Z, Calls Tryz.prog 44 #[.agg (I64 BX).toArray, .agg (I64 BY).toArray] Z fun e w' => ∃ v, e = .returned v ∧ PtT 65 Z w' v BX BY ∧ Below Z.heap.size Z w') := by
  unfold Hid; intro Z; exact implPtOf BX BY Z rfl rfl
 have jX := infoL' BX_ok
 have jY := infoL' BY_ok
 obtain ⟨x, ex⟩ : ∃ x, x = BX := ⟨_, rfl⟩
 obtain ⟨y, ey⟩ : ∃ y, y = BY := ⟨_, rfl⟩
 have nx : x.length = 16 := by rw [ex]; rfl
 have ny : y.length = 16 := by rw [ey]; rfl
 rw [← ex, ← ey] at HC ⊢
 rw [← ex] at jX hX
 rw [← ey] at jY hY
 clear ex ey
 obtain ⟨W, hW⟩ : ∃ W, W = w.alloc (.cells #[.slice none 0 0, .slice none 0 0] 33) := ⟨_, rfl⟩
 have fr : Below w.heap.size w W := by rw [hW]; exact ((Below.refl _ _).alloc (Nat.le_refl _) _)
 have pr : Arr W w.heap.size 33 ([.slice none 0 0, .slice none 0 0]) := by
  rw [hW]
  have := Arr.new (w) ([.slice none 0 0, .slice none 0 0]) 33
  exact this
 have h0X := hX.lt
 have vX := hX.kept fr
 have h0Y := hY.lt
 have vY := hY.kept fr
 clear hX hY
 go_enter Tryz.func11, Tryz.ntmps11
 go_upto_region 1 with fail
 rw [← hW]
 clear hW
 obtain ⟨gt, gz, hg⟩ := vX
 obtain ⟨kt, kz, hk⟩ := vY
 go_wp2_with (first
   | (refine wpList_load_row rfl 65 _ rfl 0 rfl gt (I64 x).toArray gz _ hg Tryz.underlying65 rfl jX ?_)
   | (refine wpList_load_row rfl 65 _ rfl 1 rfl kt (I64 y).toArray kz _ hk Tryz.underlying65 rfl jY ?_))
 have hl : w.heap.size < W.heap.size := pr.lt
 refine (HC.out _).mono ?_
 rintro e y1 ⟨v, rfl, hpt, hb1⟩
 replace fr := fr.trans (hb1.mono fr.size)
 replace pr := pr.kept hb1
 clear hb1
 obtain ⟨aa, ca, ab, cb, rfl, oa, ob, hap⟩ := hpt
 rw [nx, ny] at hap ⊢
 rw [nx] at oa
 rw [ny] at ob
 have ia := In.of oa
 have ib := In.of ob
 have HB : Hid _ := setRow_below fr w.heap.size ([.slice aa 16 ca, .slice ab 16 cb]).toArray (by omega)
 have h2 := pr.row ([.slice aa 16 ca, .slice ab 16 cb])
 have oa2 := own_rowM oa ia (.inl hl) ([.slice aa 16 ca, .slice ab 16 cb]).toArray
 have ob2 := own_rowM ob ib (.inl hl) ([.slice aa 16 ca, .slice ab 16 cb]).toArray
 go_wp2_with (refine wpList_store_row rfl 33 _ _ rfl w.heap.size ([Value.slice aa 16 ca,  Value.slice ab 16 cb]).toArray rfl rfl 33 _ pr infoPt rfl (by simp [Value.oneCell']) ?_)
 exact bodyPost_ret (results_cell_row rfl _ _ w.heap.size 33 #[.slice aa 16 ca, .slice ab 16 cb] (0, 0) _ rfl h2 Tryz.underlying33 rfl infoPt) rfl ⟨_, rfl, ptT_16 nx ny (own_base oa2 (by omega)) (own_base ob2 (by omega)) hap, HB.out⟩
set_option maxHeartbeats 4000000
set_option linter.unusedSectionVars false

theorem BX_val : val BX = (bxN : Int) := by decide
theorem BY_val : val BY = (byN : Int) := by decide
section
variable [NeZero pN]
theorem base_lists : BX = cx baseK.1 ∧ BY = cx baseK.2 := by
 have h1 : fl BX = baseK.1 := by unfold fl; rw [BX_val]; rfl
 have h2 : fl BY = baseK.2 := by unfold fl; rw [BY_val]; rfl
 exact ⟨by rw [← h1, cx_fl BX_ok], by rw [← h2, cx_fl BY_ok]⟩
end
theorem own_otherS {w : World} {b e s n : Nat} {v : Value} {xs : List Value} (h : w.ownsRow b e s v n xs) (p : Addr) (u : Value) (hp : p.block < b) : (w.setCell p u).ownsRow b e s v n xs := by
 refine ⟨h.1, ?_⟩
 rcases h.2 with hn | ⟨g, cap, cur, rfl, hg, hgg, rest⟩
 ·exact .inl hn
 ·refine .inr ⟨g, cap, cur, rfl, hg, ?_, rest⟩
  rw [heap_setCell_other w p g u (by omega)]
  exact hgg


theorem infoSc : (Tryz.prog.info? 41).map (·.size) = some 1 := by kernel_rfl
set_option maxHeartbeats 1000000 in
theorem specOrder (w : World) :
  Calls Tryz.prog 52 #[] w fun e w' => e = .returned (.agg (I64 OL).toArray) ∧ Below w.heap.size w w' := by
 obtain ⟨W, hW⟩ : ∃ W, W = w.alloc (.cells (I64 Z16).toArray 80) := ⟨_, rfl⟩
 have g0 : Arr (w.alloc (.cells zV 80)) w.heap.size 80 (I64 Z16) := Arr.new w (I64 Z16) _
 have gB : Below w.heap.size w (w.alloc (.cells zV 80)) := (Below.refl _ _).alloc (Nat.le_refl _) _
 have g1 := g0.row (I64 OL)
 have gB1 := setRow_below gB w.heap.size (I64 OL).toArray (Nat.le_refl _)
 go_enter Tryz.func52, Tryz.ntmps52
 go_wp2_with (refine wpList_store_row rfl 80 _ _ rfl w.heap.size (I64 OL).toArray rfl rfl 80 _ g0 infoE rfl (by simp [OL, Value.oneCell']) ?_)
 exact bodyPost_ret (results_cell_row rfl _ _ w.heap.size 80 (I64 OL).toArray (0, 0) _ rfl g1 Tryz.underlying80 rfl infoE) rfl ⟨rfl, gB1⟩
structure Ek5 (w W : World) (g : Nat) (l : List Int) : Prop where
 fr : Below w.heap.size w W
 ar : Arr W g 80 (I64 l)
theorem Ek5.go {w A B : World} {g : Nat} {l : List Int} (h : Ek5 w A g l) (hb : Below A.heap.size A B) : Ek5 w B g l := ⟨h.fr.trans (hb.mono h.fr.size), h.ar.kept hb⟩
theorem Ek5.all {w W : World} {g : Nat} {l : List Int} (h : Ek5 w W g l) : W.rangeAt g 0 (I64 l) := arr_range h.ar
set_option maxHeartbeats 4000000 in
theorem specTwice (a : List Int) (b : Int) (w : World) (ha : a.length = 16) (la : Lm a) (va : val a < qO) (hb0 : 0 ≤ b) (hb1 : b ≤ 1) :
  Calls Tryz.prog 141 #[.agg (I64 a).toArray, .int .i64 b] w fun e w' => e = .returned (.agg (I64 (redO (2 * val a + b))).toArray) ∧ Below w.heap.size w w' := by
 obtain ⟨zs, hzs⟩ : ∃ zs, zs = a.map (fun x => 2 * x) := ⟨_, rfl⟩
 have hzl : zs.length = 16 := by rw [hzs]; simp [ha]
 have hzd : Dp zs := by rw [hzs]; exact dp_map la
 have hzv : val zs + b = 2 * val a + b := by rw [hzs]; rw [map2_val]
 have hzx : ∀ k, k < 16 → zs.getD k 0 = 2 * a.getD k 0 := by
  intro k hk
  rw [hzs]
  simp [List.getD, show k < a.length by omega]
 obtain ⟨t, ht⟩ : ∃ t, t = 2 * val a + b := ⟨_, rfl⟩
 have n0 := val_nonneg (fun x hx => (la x hx).1)
 skip
 have ht0 : 0 ≤ t := by rw [ht]; omega
 have ht1 : t < 2 * qO := by rw [ht]; omega
 have hFe : cps zs b = lim 16 t := by rw [cps_lim, hzl, hzv, ht]
 have hFl : (cps zs b).length = 16 := by rw [cps_len, hzl]
 have hFm : Lm (cps zs b) := by rw [hFe]; exact lim_lm _ _
 have hFv : val (cps zs b) = t := by rw [hFe]; exact val_lim16 ht0 ht1
 have hless := lessO ht0 ht1
 rw [← ht]
 have HY : Hid (t < qO → cps zs b = redO t) := by unfold Hid; intro h; rw [hFe]; exact hless.1 h
 have HN : Hid (¬ t < qO → tk16 (cps zs b) OL = redO t) := by unfold Hid; intro h; rw [tk16_lim hFl OL_len, hFv, OL_val]; exact hless.2 h
 have HZX : Hid _ := hzx
 have HFV : Hid _ := hFv
 have HZD : Hid _ := hzd
 clear hzs hzv hzx ht ht0 ht1 hFe hFv hless n0 hzd
 obtain ⟨W, hW⟩ : ∃ W, W = (w.alloc (.cells (I64 a).toArray 80)).alloc (.cells zV 80) := ⟨_, rfl⟩
 have h0 : Arr W w.heap.size 80 (I64 (cps (zs.take 0) b ++ a.drop 0)) := by rw [hW]; exact (Arr.new w (I64 a) _).alloc _
 have h2 : Arr W (w.heap.size + 1) 80 (I64 Z16) := by
  rw [hW]
  have := Arr.new (w.alloc (.cells (I64 a).toArray 80)) (I64 Z16) 80
  rw [World.size_alloc] at this
  exact this
 have hBl : Below w.heap.size w W := by rw [hW]; exact ((Below.refl _ _).alloc (Nat.le_refl _) _).alloc (by simp) _
 obtain ⟨A, hA⟩ : ∃ A, A = (I64 a).toArray := ⟨_, rfl⟩
 rw [← hA] at hW ⊢
 have HA : Hid _ := hA
 clear hA
 go_enter Tryz.func141, Tryz.ntmps141
 go_wp2
 rw [← hW]
 clear hW
 go_loopw [5, 6] (fun c i wr => ∃ (k : Nat) (d : Int), k ≤ 16 ∧ c = .int .i64 d ∧ d = cpc (zs.take k) b ∧ i = .int .i64 k ∧ Arr wr w.heap.size 80 (I64 (cps (zs.take k) b ++ a.drop k)) ∧ Arr wr (w.heap.size + 1) 80 (I64 Z16) ∧ Below w.heap.size w wr) (fun _ i _ => 16 - (intOf i).toNat)
 case atStart => exact ⟨0, b, by omega, rfl, by simp [cpc], rfl, h0, h2, hBl⟩
 case round =>
  clear h0 h2 hBl
  obtain ⟨k, d, hk, rfl, hd, rfl, h0, h2, hBl⟩ := hrel
  have hfl : (cps (zs.take k) b).length = k := by rw [cps_len]; simp; omega
  have hdb := cpc_one (l := zs.take k) (fun x hx => HZD.out x (List.mem_of_mem_take hx)) (c := b) hb0 hb1
  rw [← hd] at hdb
  by_cases hlt : k < 16
  ·obtain ⟨x, hx⟩ : ∃ x, x = a.getD k 0 := ⟨_, rfl⟩
   have cx : wr.cell? ⟨w.heap.size, k, none⟩ = some (.int .i64 x) := by
    rw [h0.i64 k (by rw [len_app hfl (by omega)]; omega), get_app hfl, hx]
   have bx := gD_lm la k
   rw [← hx] at bx
   have hz := HZX.out k hlt
   rw [← hx] at hz
   have hts := take_app zs k (by omega)
   rw [hz] at hts
   have hs1 : cps (zs.take (k + 1)) b = cps (zs.take k) b ++ [(2 * x + d) % 65536] := by rw [hts, cps_snoc, hd]
   have hs2 : cpc (zs.take (k + 1)) b = (2 * x + d) / 65536 := by rw [hts, cpc_snoc, hd]
   have hk16 : (k : Int) < 16 := by omega
   have hk0 : (0 : Int) ≤ (k : Int) := by omega
   have hfz := h0.frozen k
   have h0' := h0.set k (.int .i64 ((2 * x + d) % 65536))
   rw [set_app hfl (show k < a.length by omega), ← hs1] at h0'
   have h2' := h2.other ⟨w.heap.size, k, none⟩ (.int .i64 ((2 * x + d) % 65536)) (by simp)
   have hb' := hBl.setCell (p := ⟨w.heap.size, k, none⟩) (Nat.le_refl _) (.int .i64 ((2 * x + d) % 65536))
   have s0 : IntKind.i64.wrap (2 * x) = 2 * x := by rw [IntKind.wrap_i64]; omega
   have s1 : IntKind.i64.wrap (2 * x + d) = 2 * x + d := by rw [IntKind.wrap_i64]; omega
   have s2 : bits .and .i64 (2 * x + d) 65535 = (2 * x + d) % 65536 := i64_low16 (by omega) (by omega)
   have H0 : Hid _ := h0'
   have H2 : Hid _ := h2'
   have HB : Hid _ := hb'
   have HC : Hid _ := hs2
   clear h0' h2' hb' h0 h2 hBl hx hd hz hts hs1 hs2
   go_wp2
   go_roundw
   case rel => exact ⟨k + 1, (2 * x + d) / 65536, by omega, rfl, HC.out.symm, by go_num, H0.out, H2.out, HB.out⟩
   case measure => simp [intOf]; omega
  ·obtain rfl : k = 16 := by omega
   rw [List.take_of_length_le (by omega), List.drop_eq_nil_of_le (by omega), List.append_nil] at h0
   obtain ⟨F, hF⟩ : ∃ F, F = cps zs b := ⟨_, rfl⟩
   rw [← hF] at h0 hFl hFm HY HN HFV
   clear hF hd hdb hfl
   go_wp2_with fail
   refine (specOrder _).mono ?_
   rintro e w1 ⟨rfl, hb1⟩
   have hB1 := hBl.trans (hb1.mono hBl.size)
   have h01 := h0.kept hb1
   have h21 := h2.kept hb1
   have hsz1 := h21.lt
   clear h0 h2 hBl hb1
   obtain ⟨W2, hW2⟩ : ∃ W2, W2 = (w1.alloc (.cells zV 80)).setRow w1.heap.size (I64 OL).toArray := ⟨_, rfl⟩
   have hz1 : Arr (w1.alloc (.cells zV 80)) w1.heap.size 80 (I64 Z16) := Arr.new w1 (I64 Z16) _
   have hp2 : Arr W2 w1.heap.size 80 (I64 OL) := by rw [hW2]; exact hz1.row (I64 OL)
   have h02 : Arr W2 w.heap.size 80 (I64 F) := by rw [hW2]; exact (h01.alloc _).rowOther _ _ (by omega)
   have h22 : Arr W2 (w.heap.size + 1) 80 (I64 Z16) := by rw [hW2]; exact (h21.alloc _).rowOther _ _ (by omega)
   have hB2 : Below w.heap.size w W2 := by rw [hW2]; exact setRow_below (hB1.alloc hB1.size _) _ _ hB1.size
   have hiF : (Tryz.prog.info? 80).map (·.size) = some (I64 F).toArray.size := by simpa [hFl] using infoE
   have h02' := hW2 ▸ h02
   have hp2' := hW2 ▸ hp2
   have HW2 : Hid _ := hW2
   clear h01 h21 hB1 hW2
   go_wp2_with (first
    | (refine wpList_store_row rfl 80 _ _ rfl w1.heap.size (I64 OL).toArray rfl rfl 80 (I64 Z16).toArray hz1 infoE rfl (by simp [OL, Value.oneCell']) ?_)
    | (refine wpList_load_row rfl 80 _ rfl w.heap.size rfl 80 (I64 F).toArray (0, 0) _ h02' Tryz.underlying80 rfl hiF ?_)
    | (refine wpList_load_row rfl 80 _ rfl w1.heap.size rfl 80 (I64 OL).toArray (0, 0) _ hp2' Tryz.underlying80 rfl infoE ?_))
   rw [← HW2.out]
   clear HW2 h02' hp2' hz1
   refine (specLess F OL _ hFl OL_len hFm OL_lm).mono ?_
   rintro e w3 ⟨rfl, hb3⟩
   have h03 := h02.kept hb3
   have h23 := h22.kept hb3
   have hp3 := hp2.kept hb3
   have hB3 := hB2.trans (hb3.mono hB2.size)
   rw [OL_val, HFV.out]
   clear h02 h22 hp2 hB2 hb3
   by_cases hlp : t < qO
   ·have hd : decide (t < qO) = true := by simp [hlp]
    rw [hd]
    have hFR := HY.out hlp
    have h23' := h23.row (I64 F)
    have hb' := setRow_below hB3 (w.heap.size + 1) (I64 F).toArray (by omega)
    clear hd hlp
    go_wp2_with (first
     | (refine wpList_load_row rfl 80 _ rfl w.heap.size rfl 80 (I64 F).toArray (0, 0) _ h03 Tryz.underlying80 rfl hiF ?_)
     | (refine wpList_store_row rfl 80 _ _ rfl (w.heap.size + 1) (I64 F).toArray rfl rfl 80 _ h23 hiF (by simp [hFl]) (by simp [Value.oneCell']) ?_))
    exact bodyPost_ret (results_cell_row rfl _ _ (w.heap.size + 1) 80 (I64 F).toArray (0, 0) _ rfl h23' Tryz.underlying80 rfl hiF) rfl ⟨by rw [← hFR], hb'⟩
   ·have hd : decide (t < qO) = false := by simp [hlp]
    rw [hd]
    have hGR := HN.out (by omega)
    clear hd hlp
    go_wp2_with (first
     | (refine wpList_load_row rfl 80 _ rfl w.heap.size rfl 80 (I64 F).toArray (0, 0) _ h03 Tryz.underlying80 rfl hiF ?_)
     | (refine wpList_load_row rfl 80 _ rfl w1.heap.size rfl 80 (I64 OL).toArray (0, 0) _ hp3 Tryz.underlying80 rfl infoE ?_))
    refine (specTake F OL _ hFl OL_len hFm OL_lm).mono ?_
    rintro e w4 ⟨rfl, hb4⟩
    have h04 := h03.kept hb4
    have h24 := h23.kept hb4
    have hB4 := hB3.trans (hb4.mono hB3.size)
    have hGl : (tk16 F OL).length = 16 := by rw [tk16_lim hFl OL_len, lim_len]
    obtain ⟨G, hG⟩ : ∃ G, G = tk16 F OL := ⟨_, rfl⟩
    rw [← hG] at hGl hGR ⊢
    have hiG : (Tryz.prog.info? 80).map (·.size) = some (I64 G).toArray.size := by simpa [hGl] using infoE
    have HGR : Hid _ := hGR
    clear hGR h03 h23 hp3 hB3 hb4 hG
    have h05 := h04.row (I64 G)
    have h25 := h24.rowOther w.heap.size (I64 G).toArray (by omega)
    have hB5 := setRow_below hB4 w.heap.size (I64 G).toArray (Nat.le_refl _)
    have h26 := h25.row (I64 G)
    have hb' := setRow_below hB5 (w.heap.size + 1) (I64 G).toArray (by omega)
    go_wp2_with (first
     | (refine wpList_store_row rfl 80 _ _ rfl w.heap.size (I64 G).toArray rfl rfl 80 _ h04 hiG (by simp [hGl, hFl]) (by simp [Value.oneCell']) ?_)
     | (refine wpList_load_row rfl 80 _ rfl w.heap.size rfl 80 (I64 G).toArray (0, 0) _ h05 Tryz.underlying80 rfl hiG ?_)
     | (refine wpList_store_row rfl 80 _ _ rfl (w.heap.size + 1) (I64 G).toArray rfl rfl 80 _ h25 hiG (by simp [hGl]) (by simp [Value.oneCell']) ?_))
    exact bodyPost_ret (results_cell_row rfl _ _ (w.heap.size + 1) 80 (I64 G).toArray (0, 0) _ rfl h26 Tryz.underlying80 rfl hiG) rfl ⟨by rw [← HGR.out], hb'⟩
end Go.Proofs.YtihoaakbkffejaaGreatDoor
