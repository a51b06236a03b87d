/-
  What is proved here: bounds of the lists of an answer that is a point; plain facts on memory; the contract of the program's PtOk; where its variables hold the prime and d; the contract of the laws' sameInts at two equal slices; the contract of the laws' samePt on two points that are equal; points of the curve as lists in memory; what the program's PtOk answers there; where its variables hold the prime and d; contracts of the program's pointOf and pointClosed: a point as two lists of its own; where its variable holds the prime.
-/
import Derived.Test.YtihoaakbkffejaaDoorZXa
import Derived.Test.YtihoaakbkffejaaDoorZOg
import Derived.Test.YtihoaakbkffejaaDoorZYh
import Derived.Test.YtihoaakbkffejaaDoorZJa
import Derived.Test.YtihoaakbkffejaaDoorZArr
import Derived.Test.YtihoaakbkffejaaDoorZOb
import Derived.Test.YtihoaakbkffejaaDoorZJhi
namespace Go.Proofs.YtihoaakbkffejaaDoor
open Go.RowKit
set_option maxRecDepth 100000

end Go.Proofs.YtihoaakbkffejaaDoor
namespace Go.Proofs.YtihoaakbkffejaaDoor
open Go.RowKit
set_option maxRecDepth 100000

end Go.Proofs.YtihoaakbkffejaaDoor
namespace Go.Proofs.YtihoaakbkffejaaDoor
open Go.RowKit
set_option maxRecDepth 100000

end Go.Proofs.YtihoaakbkffejaaDoor
namespace Go.Proofs.YtihoaakbkffejaaDoor
open Go.RowKit
set_option maxRecDepth 100000

end Go.Proofs.YtihoaakbkffejaaDoor
namespace Go.Proofs.YtihoaakbkffejaaDoor
open Go.RowKit
set_option maxRecDepth 100000
set_option maxHeartbeats 4000000
set_option linter.unusedSectionVars false

theorem cx_len (k : KF) : (cx k).length = 16 := lim_len _ _
theorem cx_int (k : KF) : ∀ x ∈ cx k, -9223372036854775808 ≤ x ∧ x ≤ 9223372036854775807 := fun x hx => by have := lim_lm _ _ x hx; omega
/-- Two lists of sixteen parts that are a point. -/
structure PI (W : World) (a : Option Addr) (c : Nat) (b : Option Addr) (d : Nat) (P : KF × KF) : Prop where
  x : Is W a 16 c (cx P.1)
  y : Is W b 16 d (cx P.2)
theorem PI.below {A B : World} {a b : Option Addr} {c d : Nat} {P : KF × KF} (h : PI A a c b d P) (hb : Below A.heap.size A B) : PI B a c b d P := ⟨h.x.below hb, h.y.below hb⟩
/-- A point that a call has answered. -/
theorem PI.of {w W : World} {v : Value} {xs ys : List Int} {P : KF × KF} (h : PtT 81 w W v xs ys) (hx : xs = cx P.1) (hy : ys = cx P.2) : ∃ a c b d, v = .agg #[.slice a 16 c, .slice b 16 d] ∧ PI W a c b d P := by
  subst hx hy
  obtain ⟨a, c, b, d, rfl, o1, o2, _⟩ := h
  have i1 := is_of_own o1 (cx_int _)
  have i2 := is_of_own o2 (cx_int _)
  rw [cx_len] at i1 i2
  exact ⟨a, c, b, d, by rw [cx_len, cx_len], i1, i2⟩
section
variable [NeZero pN]
theorem okpt {P : KF × KF} (h : On dK P) : ptOk (cx P.1) (cx P.2) = true := pt_ok h
end
end Go.Proofs.YtihoaakbkffejaaDoor
namespace Go.Proofs.YtihoaakbkffejaaDoor
open Go.RowKit
set_option maxRecDepth 100000

set_option maxHeartbeats 4000000 in
theorem implPtOf (x y : List Int) (w : World) (nx : x.length = 16) (ny : y.length = 16) :
  Calls Tryd.prog 55 #[.agg (I64 x).toArray, .agg (I64 y).toArray] w fun e w' => ∃ v, e = .returned v ∧ PtT 81 w w' v x y ∧ Below w.heap.size w w' := by
 have iix : (Tryd.prog.info? 81).map (·.size) = some (I64 x).length := by simpa [nx] using infoL
 have iiy : (Tryd.prog.info? 81).map (·.size) = some (I64 y).length := by simpa [ny] using infoL
 have hu : Tryd.prog.underlying 81 = some (.array 16 3) := Tryd.underlying81
 obtain ⟨A0, hA0⟩ : ∃ A, A = (I64 x).toArray := ⟨_, rfl⟩
 obtain ⟨A1, hA1⟩ : ∃ A, A = (I64 y).toArray := ⟨_, rfl⟩
 obtain ⟨W, hW⟩ : ∃ W, W = ((w.alloc (.cells A0 81)).alloc (.cells A1 81)).alloc (.cells #[.slice none 0 0, .slice none 0 0] 60) := ⟨_, rfl⟩
 have fr : Below w.heap.size w W := by rw [hW]; exact ((((Below.refl _ _).alloc (Nat.le_refl _) _).alloc (by simp) _).alloc (by simp; omega) _)
 have pa : Arr W w.heap.size 81 (I64 x) := by
  rw [hW, hA0, hA1]
  have := ((Arr.new (w) (I64 x) 81).alloc (.cells (I64 y).toArray 81)).alloc (.cells #[.slice none 0 0, .slice none 0 0] 60)
  exact this
 have pb : Arr W (w.heap.size + 1) 81 (I64 y) := by
  rw [hW, hA0, hA1]
  have := (Arr.new (w.alloc (.cells (I64 x).toArray 81)) (I64 y) 81).alloc (.cells #[.slice none 0 0, .slice none 0 0] 60)
  rw [World.size_alloc] at this
  exact this
 have pr : Arr W (w.heap.size + 2) 60 ([.slice none 0 0, .slice none 0 0]) := by
  rw [hW, hA0, hA1]
  have := Arr.new ((w.alloc (.cells (I64 x).toArray 81)).alloc (.cells (I64 y).toArray 81)) ([.slice none 0 0, .slice none 0 0]) 60
  rw [World.size_alloc, World.size_alloc] at this
  exact this
 rw [← hA0, ← hA1]
 clear hA0 hA1
 go_enter Tryd.func55, Tryd.ntmps55
 go_upto_region 1 with fail
 rw [← hW]
 clear hW
 try simp only [Act.put]
 have bD : Below W.heap.size W W.drew := (Below.refl _ _).drew
 replace fr := fr.trans (bD.mono fr.size)
 replace pa := pa.kept bD
 replace pb := pb.kept bD
 replace pr := pr.kept bD
 clear bD
 refine wp_region_held_drew (S := fun W => W.rangeAt w.heap.size 0 (I64 x) ∧ W.rangeAt (w.heap.size + 1) 0 (I64 y)) (by kernel_rfl) ⟨arr_range pa, arr_range pb⟩ (fun hHeld => ?_)
 obtain ⟨D1, hD⟩ : ∃ V, V = W.drew := ⟨_, rfl⟩
 rw [← hD] at hHeld fr pa pb pr ⊢
 clear hD
 refine wpAnyH_take (i := 0) (oi := { dst := some 5, op := Op.load 81 (Operand.tmp 2), type := 81, pos := "l06_point.go:109", after := #[], guard := none }) (v := _) rfl (by kernel_rfl) (by kernel_rfl) (by kernel_rfl) (fun _ _ _ h => h) (yieldsIf_load_mid (by rfl) _ _ rfl _ _ rfl (I64 x) _ (fun _ h => h.1) hu rfl iix) (by assumption) ?_
 simp only [Act.put, List.setIfInBounds_toArray, List.set_cons_zero, List.set_cons_succ]
 refine wpAnyH_take (i := 3) (oi := { dst := some 8, op := Op.load 81 (Operand.tmp 3), type := 81, pos := "l06_point.go:109", after := #[], guard := none }) (v := _) rfl (by kernel_rfl) (by kernel_rfl) (by kernel_rfl) (fun _ _ _ h => h) (yieldsIf_load_mid (by rfl) _ _ rfl _ _ rfl (I64 y) _ (fun _ h => h.2) hu rfl iiy) (by assumption) ?_
 simp only [Act.put, List.setIfInBounds_toArray, List.set_cons_zero, List.set_cons_succ]
 refine wpAnyH_ready (rs := [1]) (by kernel_rfl) (by simp) (AllReadyH.cons (o := { dst := some 6, op := Op.call { callee := Callee.value (Operand.func 47), args := #[Operand.tmp 5], argTypes := #[81] }, type := 37, pos := "l06_point.go:109", after := #[{ on := 0, ground := Ground.data }], guard := none }) rfl (fun K hK => ?_) AllReadyH.nil)
 go_simp
 have hl1 : w.heap.size + 2 < D1.heap.size := pr.lt
 refine (implList x _ nx).mono ?_
 rintro e y2 ⟨a1, c1, rfl, o1, hb2⟩
 replace fr := fr.trans (hb2.mono fr.size)
 replace pa := pa.kept hb2
 replace pb := pb.kept hb2
 replace pr := pr.kept hb2
 clear hb2
 have i1 := In.of o1
 go_wp2_with fail
 refine hK.out _ _ ⟨arr_range pa, arr_range pb⟩ (fun hHeld => ?_)
 clear hK K
 refine wpAnyH_take (i := 2) (oi := { dst := some 7, op := Op.build 58 #[(0, Operand.tmp 6)], type := 58, pos := "l06_point.go:109", after := #[{ on := 1, ground := Ground.data }], guard := none }) (v := .agg #[.slice a1 16 c1]) rfl (by kernel_rfl) (by kernel_rfl) (by kernel_rfl) (fun _ _ _ h => h) (.inl ⟨by rfl, fun _ _ => by kernel_rfl⟩) (by assumption) ?_
 simp only [Act.put, List.setIfInBounds_toArray, List.set_cons_zero, List.set_cons_succ]
 refine wpAnyH_ready (rs := [4]) (by kernel_rfl) (by simp) (AllReadyH.cons (o := { dst := some 9, op := Op.call { callee := Callee.value (Operand.func 47), args := #[Operand.tmp 8], argTypes := #[81] }, type := 37, pos := "l06_point.go:109", after := #[{ on := 3, ground := Ground.data }, { on := 1, ground := Ground.chain }], guard := none }) rfl (fun K hK => ?_) AllReadyH.nil)
 go_simp
 have hl2 : w.heap.size + 2 < y2.heap.size := pr.lt
 refine (implList y _ ny).mono ?_
 rintro e y3 ⟨a2, c2, rfl, o2, hb3⟩
 replace fr := fr.trans (hb3.mono fr.size)
 replace pa := pa.kept hb3
 replace pb := pb.kept hb3
 replace pr := pr.kept hb3
 replace o1 := own_below o1 hb3
 clear hb3
 have i2 := In.of o2
 go_wp2_with fail
 refine hK.out _ _ ⟨arr_range pa, arr_range pb⟩ (fun hHeld => ?_)
 clear hK K
 refine wpAnyH_take (i := 5) (oi := { dst := some 10, op := Op.build 58 #[(0, Operand.tmp 9)], type := 58, pos := "l06_point.go:109", after := #[{ on := 4, ground := Ground.data }], guard := none }) (v := .agg #[.slice a2 16 c2]) rfl (by kernel_rfl) (by kernel_rfl) (by kernel_rfl) (fun _ _ _ h => h) (.inl ⟨by rfl, fun _ _ => by kernel_rfl⟩) (by assumption) ?_
 simp only [Act.put, List.setIfInBounds_toArray, List.set_cons_zero, List.set_cons_succ]
 refine wpAnyH_take (i := 6) (oi := { dst := some 11, op := Op.build 60 #[(0, Operand.tmp 7), (1, Operand.tmp 10)], type := 60, pos := "l06_point.go:109", after := #[{ on := 2, ground := Ground.data }, { on := 5, ground := Ground.data }], guard := none }) (v := _) rfl (by kernel_rfl) (by kernel_rfl) (by kernel_rfl) (fun _ _ _ h => h) (yieldsIf_pt (by rfl) _ _ rfl _ _ rfl rfl) (by assumption) ?_
 simp only [Act.put, List.setIfInBounds_toArray, List.set_cons_zero, List.set_cons_succ]
 refine wpAnyH_ready (rs := [7]) (by kernel_rfl) (by simp) (AllReadyH.cons (o := { dst := none, op := Op.store 60 (Operand.tmp 4) (Operand.tmp 11), type := 0, pos := "l06_point.go:109", after := #[{ on := 6, ground := Ground.data }, { on := 4, ground := Ground.chain }, { on := 0, ground := Ground.phase }, { on := 1, ground := Ground.phase }, { on := 2, ground := Ground.phase }, { on := 3, ground := Ground.phase }, { on := 4, ground := Ground.phase }, { on := 5, ground := Ground.phase }, { on := 6, ground := Ground.phase }], guard := none }) rfl (fun K hK => ?_) AllReadyH.nil)
 rw [if_pos (by rfl)]
 refine wp_store_mid _ _ _ rfl _ _ ([.slice a1 16 c1, .slice a2 16 c2]).toArray rfl rfl (by have := arr_there pr; simpa using this) infoPt (all_oneCell_toArray (by simp [Value.oneCell'])) ?_
 simp only [Act.put]
 replace fr := bel_sc fr (w.heap.size + 2) ([.slice a1 16 c1, .slice a2 16 c2]) (by omega)
 replace pa := pa.sc (w.heap.size + 2) ([.slice a1 16 c1, .slice a2 16 c2]) (by omega)
 replace pb := pb.sc (w.heap.size + 2) ([.slice a1 16 c1, .slice a2 16 c2]) (by omega)
 replace pr := pr.sc0 ([.slice a1 16 c1, .slice a2 16 c2]) (by simp)
 replace o1 : (y3.setCells (w.heap.size + 2) 0 ([.slice a1 16 c1, .slice a2 16 c2])).ownsRow D1.heap.size 81 1 (.slice a1 16 c1) 16 (I64 x) := own_setCells o1 i1 (.inl hl1) _
 replace o2 : (y3.setCells (w.heap.size + 2) 0 ([.slice a1 16 c1, .slice a2 16 c2])).ownsRow y2.heap.size 81 1 (.slice a2 16 c2) 16 (I64 y) := own_setCells o2 i2 (.inl hl2) _
 obtain ⟨V4, hVe⟩ : ∃ V, V = y3.setCells (w.heap.size + 2) 0 ([.slice a1 16 c1, .slice a2 16 c2]) := ⟨_, rfl⟩
 rw [← hVe] at fr pa pb pr o1 o2 ⊢
 clear hVe
 refine hK.out _ _ ⟨arr_range pa, arr_range pb⟩ (fun hHeld => ?_)
 clear hK K
 refine wpAnyH_done (by kernel_rfl) ?_ _
 go_wp2
 have hap : Apart (.slice a1 16 c1) (.slice a2 16 c2) := i1.apart i2 (.inl (by omega))
 exact bodyPost_ret (results_cell_row rfl _ _ (w.heap.size + 2) 60 #[.slice a1 16 c1, .slice a2 16 c2] (0, 0) _ rfl pr Tryd.underlying60 rfl infoPt) rfl ⟨_, rfl, ptT_16 nx ny (own_base o1 (by omega)) (own_base o2 (by omega)) hap, fr⟩

set_option maxHeartbeats 4000000 in
theorem implClosed (P : E4) (w : World) (hP : P.Ok) (hV : Vr w 6 (I64 PL)) :
  Calls Tryd.prog 52 #[.iface 92 (.agg (I64 P.cells).toArray)] w fun e w' => ∃ v, e = .returned v ∧ PtT 81 w w' v (flx P) (fly P) ∧ Below w.heap.size w w' := by
 obtain ⟨z, ez⟩ : ∃ x_, x_ = invF P.c := ⟨_, rfl⟩
 have kz : feOk z = true := by rw [ez]; exact inv_ok _
 obtain ⟨x, ex⟩ : ∃ x_, x_ = flx P := ⟨_, rfl⟩
 have kx : feOk x = true := by rw [ex]; exact ok_red _
 obtain ⟨y, ey⟩ : ∃ x_, x_ = fly P := ⟨_, rfl⟩
 have ky : feOk y = true := by rw [ey]; exact ok_red _
 have Hz : Hid (∀ Z, Vr Z 6 (I64 PL) → Calls Tryd.prog 72 #[.agg (I64 P.c).toArray] Z fun e w' => e = .returned (.agg (I64 z).toArray) ∧ Below Z.heap.size Z w') := by
  unfold Hid; intro Z hZ; rw [ez]; exact implInverse P.c Z hP.c hZ
 have Hx : Hid (∀ Z, Vr Z 6 (I64 PL) → Calls Tryd.prog 73 #[.agg (I64 P.a).toArray, .agg (I64 z).toArray] Z fun e w' => e = .returned (.agg (I64 x).toArray) ∧ Below Z.heap.size Z w') := by
  unfold Hid; intro Z hZ; rw [ex, show flx P = red (val P.a * val z) by rw [ez]; rfl]; exact mulI hP.a kz Z hZ
 have Hy : Hid (∀ Z, Vr Z 6 (I64 PL) → Calls Tryd.prog 73 #[.agg (I64 P.b).toArray, .agg (I64 z).toArray] Z fun e w' => e = .returned (.agg (I64 y).toArray) ∧ Below Z.heap.size Z w') := by
  unfold Hid; intro Z hZ; rw [ey, show fly P = red (val P.b * val z) by rw [ez]; rfl]; exact mulI hP.b kz Z hZ
 rw [← ex, ← ey]
 have jz := infoL' kz
 have iiz := infoLl kz
 have nz := feOk_len kz
 have uz := one_lm z
 have jx := infoL' kx
 have iix := infoLl kx
 have nx := feOk_len kx
 have ux := one_lm x
 have jy := infoL' ky
 have iiy := infoLl ky
 have ny := feOk_len ky
 have uy := one_lm y
 have iPa := infoLl hP.a
 have iPb := infoLl hP.b
 have iPc := infoLl hP.c
 have hiP := infoLp' hP
 have hPl := E4.len hP
 have hu : Tryd.prog.underlying 81 = some (.array 16 3) := Tryd.underlying81
 have has : ∀ (v : Value) (w : World), (Instr.typeAssert (.iface 92 v) 100 92 false).run Tryd.prog w = .ok v w := assert_lp
 obtain ⟨W, hW⟩ : ∃ W, W = w.alloc (.cells #[.slice none 0 0, .slice none 0 0] 60) := ⟨_, rfl⟩
 have fr : Below w.heap.size w W := by rw [hW]; exact ((Below.refl _ _).alloc (Nat.le_refl _) _)
 have pr : Arr W w.heap.size 60 ([.slice none 0 0, .slice none 0 0]) := by
  rw [hW]
  have := Arr.new (w) ([.slice none 0 0, .slice none 0 0]) 60
  exact this
 have h0P := hV.lt
 have vP := hV.kept fr
 clear hV
 clear ez ex ey kz kx ky
 go_enter Tryd.func52, Tryd.ntmps52
 go_upto_region 1 with fail
 rw [← hW]
 clear hW
 have hXq : w.heap.size < W.heap.size ∧ w.heap.size ≤ W.heap.size := ⟨pr.lt, fr.size⟩
 obtain ⟨bV, Aq, q1⟩ := laid_lp W P.cells
 replace fr := fr.trans (bV.mono fr.size)
 replace pr := pr.kept bV
 replace vP := vP.kept bV
 go_upto_region 2 with (refine wpList_store_row rfl 92 _ _ rfl W.heap.size (I64 P.cells).toArray rfl rfl 92 _ q1 hiP (by simp [hPl]) (by simp [Value.oneCell']) ?_)
 obtain ⟨V1, hVV⟩ : ∃ V, V = (W.alloc (.cells #[.int .i64 0, .int .i64 0, .int .i64 0, .int .i64 0, .int .i64 0, .int .i64 0, .int .i64 0, .int .i64 0, .int .i64 0, .int .i64 0, .int .i64 0, .int .i64 0, .int .i64 0, .int .i64 0, .int .i64 0, .int .i64 0, .int .i64 0, .int .i64 0, .int .i64 0, .int .i64 0, .int .i64 0, .int .i64 0, .int .i64 0, .int .i64 0, .int .i64 0, .int .i64 0, .int .i64 0, .int .i64 0, .int .i64 0, .int .i64 0, .int .i64 0, .int .i64 0, .int .i64 0, .int .i64 0, .int .i64 0, .int .i64 0, .int .i64 0, .int .i64 0, .int .i64 0, .int .i64 0, .int .i64 0, .int .i64 0, .int .i64 0, .int .i64 0, .int .i64 0, .int .i64 0, .int .i64 0, .int .i64 0, .int .i64 0, .int .i64 0, .int .i64 0, .int .i64 0, .int .i64 0, .int .i64 0, .int .i64 0, .int .i64 0, .int .i64 0, .int .i64 0, .int .i64 0, .int .i64 0, .int .i64 0, .int .i64 0, .int .i64 0, .int .i64 0] 92)).setRow W.heap.size (I64 P.cells).toArray := ⟨_, rfl⟩
 obtain ⟨Xq, hE⟩ : ∃ E, E = W.heap.size := ⟨_, rfl⟩
 rw [← hVV] at fr pr vP Aq ⊢
 rw [← hE] at Aq hXq ⊢
 clear hVV hE q1 bV
 go_wp2_with (refine wpList_load_mid rfl 81 _ rfl Xq 32 rfl (I64 P.c) _ (E4.rc hP Aq) Tryd.underlying81 rfl iPc ?_)
 refine (Hz.out _ vP).mono ?_
 rintro e y2 ⟨rfl, hb2⟩
 replace fr := fr.trans (hb2.mono fr.size)
 replace pr := pr.kept hb2
 replace vP := vP.kept hb2
 replace Aq := Aq.kept hb2
 clear hb2
 have hXz : w.heap.size < y2.heap.size ∧ Xq < y2.heap.size ∧ w.heap.size ≤ y2.heap.size := ⟨pr.lt, Aq.lt, fr.size⟩
 obtain ⟨bV, Az, q1⟩ := laid_lm y2 z
 replace fr := fr.trans (bV.mono fr.size)
 replace pr := pr.kept bV
 replace vP := vP.kept bV
 replace Aq := Aq.kept bV
 go_upto_region 3 with (refine wpList_store_row rfl 81 _ _ rfl y2.heap.size (I64 z).toArray rfl rfl 81 _ q1 jz (by simp [nz]) (by simp [Value.oneCell']) ?_)
 obtain ⟨V3, hVV⟩ : ∃ V, V = (y2.alloc (.cells #[.int .i64 0, .int .i64 0, .int .i64 0, .int .i64 0, .int .i64 0, .int .i64 0, .int .i64 0, .int .i64 0, .int .i64 0, .int .i64 0, .int .i64 0, .int .i64 0, .int .i64 0, .int .i64 0, .int .i64 0, .int .i64 0] 81)).setRow y2.heap.size (I64 z).toArray := ⟨_, rfl⟩
 obtain ⟨Xz, hE⟩ : ∃ E, E = y2.heap.size := ⟨_, rfl⟩
 rw [← hVV] at fr pr vP Aq Az ⊢
 rw [← hE] at Az hXz ⊢
 clear hVV hE q1 bV
 try simp only [Act.put]
 have bD : Below V3.heap.size V3 V3.drew := (Below.refl _ _).drew
 replace fr := fr.trans (bD.mono fr.size)
 replace pr := pr.kept bD
 replace vP := vP.kept bD
 replace Aq := Aq.kept bD
 replace Az := Az.kept bD
 clear bD
 refine wp_region_held_drew (S := fun W => W.rangeAt Xq 0 (I64 P.a) ∧ W.rangeAt Xq 16 (I64 P.b) ∧ W.rangeAt Xz 0 (I64 z)) (by kernel_rfl) ⟨E4.ra Aq, E4.rb hP Aq, arr_range Az⟩ (fun hHeld => ?_)
 obtain ⟨D4, hD⟩ : ∃ V, V = V3.drew := ⟨_, rfl⟩
 rw [← hD] at hHeld fr pr vP Aq Az ⊢
 clear hD
 refine wpAnyH_take (i := 0) (oi := { dst := some 10, op := Op.fieldAddr 92 (Operand.tmp 3) 0, type := 0, pos := "l06_point.go:125", after := #[], guard := none }) (v := .pointer (some ⟨Xq, 0, none⟩)) rfl (by kernel_rfl) (by kernel_rfl) (by kernel_rfl) (fun _ _ _ h => h) (.inl ⟨by rfl, fun _ _ => by rfl⟩) (by assumption) ?_
 simp only [Act.put, List.setIfInBounds_toArray, List.set_cons_zero, List.set_cons_succ]
 refine wpAnyH_take (i := 1) (oi := { dst := some 11, op := Op.load 81 (Operand.tmp 10), type := 81, pos := "l06_point.go:125", after := #[{ on := 0, ground := Ground.data }], guard := none }) (v := _) rfl (by kernel_rfl) (by kernel_rfl) (by kernel_rfl) (fun _ _ _ h => h) (yieldsIf_load_mid (by rfl) _ _ rfl _ _ rfl (I64 P.a) _ (fun _ h => h.1) hu rfl iPa) (by assumption) ?_
 simp only [Act.put, List.setIfInBounds_toArray, List.set_cons_zero, List.set_cons_succ]
 refine wpAnyH_take (i := 2) (oi := { dst := some 12, op := Op.load 81 (Operand.tmp 4), type := 81, pos := "l06_point.go:125", after := #[], guard := none }) (v := _) rfl (by kernel_rfl) (by kernel_rfl) (by kernel_rfl) (fun _ _ _ h => h) (yieldsIf_load_mid (by rfl) _ _ rfl _ _ rfl (I64 z) _ (fun _ h => h.2.2) hu rfl iiz) (by assumption) ?_
 simp only [Act.put, List.setIfInBounds_toArray, List.set_cons_zero, List.set_cons_succ]
 refine wpAnyH_take (i := 4) (oi := { dst := some 14, op := Op.fieldAddr 92 (Operand.tmp 3) 1, type := 0, pos := "l06_point.go:125", after := #[], guard := none }) (v := .pointer (some ⟨Xq, 16, none⟩)) rfl (by kernel_rfl) (by kernel_rfl) (by kernel_rfl) (fun _ _ _ h => h) (.inl ⟨by rfl, fun _ _ => by rfl⟩) (by assumption) ?_
 simp only [Act.put, List.setIfInBounds_toArray, List.set_cons_zero, List.set_cons_succ]
 refine wpAnyH_take (i := 5) (oi := { dst := some 15, op := Op.load 81 (Operand.tmp 14), type := 81, pos := "l06_point.go:125", after := #[{ on := 4, ground := Ground.data }], guard := none }) (v := _) rfl (by kernel_rfl) (by kernel_rfl) (by kernel_rfl) (fun _ _ _ h => h) (yieldsIf_load_mid (by rfl) _ _ rfl _ _ rfl (I64 P.b) _ (fun _ h => h.2.1) hu rfl iPb) (by assumption) ?_
 simp only [Act.put, List.setIfInBounds_toArray, List.set_cons_zero, List.set_cons_succ]
 refine wpAnyH_take (i := 6) (oi := { dst := some 16, op := Op.load 81 (Operand.tmp 4), type := 81, pos := "l06_point.go:125", after := #[], guard := none }) (v := _) rfl (by kernel_rfl) (by kernel_rfl) (by kernel_rfl) (fun _ _ _ h => h) (yieldsIf_load_mid (by rfl) _ _ rfl _ _ rfl (I64 z) _ (fun _ h => h.2.2) hu rfl iiz) (by assumption) ?_
 simp only [Act.put, List.setIfInBounds_toArray, List.set_cons_zero, List.set_cons_succ]
 refine wpAnyH_ready (rs := [3]) (by kernel_rfl) (by simp) (AllReadyH.cons (o := { dst := some 13, op := Op.call { callee := Callee.value (Operand.func 73), args := #[Operand.tmp 11, Operand.tmp 12], argTypes := #[81, 81] }, type := 81, pos := "l06_point.go:125", after := #[{ on := 1, ground := Ground.data }, { on := 2, ground := Ground.data }], guard := none }) rfl (fun K hK => ?_) AllReadyH.nil)
 go_simp
 refine (Hx.out _ vP).mono ?_
 rintro e y5 ⟨rfl, hb5⟩
 replace fr := fr.trans (hb5.mono fr.size)
 replace pr := pr.kept hb5
 replace vP := vP.kept hb5
 replace Aq := Aq.kept hb5
 replace Az := Az.kept hb5
 clear hb5
 go_wp2_with fail
 refine hK.out _ _ ⟨E4.ra Aq, E4.rb hP Aq, arr_range Az⟩ (fun hHeld => ?_)
 clear hK K
 refine wpAnyH_ready (rs := [7]) (by kernel_rfl) (by simp) (AllReadyH.cons (o := { dst := some 17, op := Op.call { callee := Callee.value (Operand.func 73), args := #[Operand.tmp 15, Operand.tmp 16], argTypes := #[81, 81] }, type := 81, pos := "l06_point.go:125", after := #[{ on := 5, ground := Ground.data }, { on := 6, ground := Ground.data }, { on := 3, ground := Ground.chain }], guard := none }) rfl (fun K hK => ?_) AllReadyH.nil)
 go_simp
 refine (Hy.out _ vP).mono ?_
 rintro e y6 ⟨rfl, hb6⟩
 replace fr := fr.trans (hb6.mono fr.size)
 replace pr := pr.kept hb6
 replace vP := vP.kept hb6
 replace Aq := Aq.kept hb6
 replace Az := Az.kept hb6
 clear hb6
 go_wp2_with fail
 refine hK.out _ _ ⟨E4.ra Aq, E4.rb hP Aq, arr_range Az⟩ (fun hHeld => ?_)
 clear hK K
 refine wpAnyH_ready (rs := [8]) (by kernel_rfl) (by simp) (AllReadyH.cons (o := { dst := some 18, op := Op.call { callee := Callee.value (Operand.func 55), args := #[Operand.tmp 13, Operand.tmp 17], argTypes := #[81, 81] }, type := 60, pos := "l06_point.go:125", after := #[{ on := 3, ground := Ground.data }, { on := 7, ground := Ground.data }, { on := 7, ground := Ground.chain }], guard := none }) rfl (fun K hK => ?_) AllReadyH.nil)
 go_simp
 have hl : w.heap.size < y6.heap.size := pr.lt
 refine (implPtOf x y _ nx ny).mono ?_
 rintro e y7 ⟨v, rfl, hpt, hb7⟩
 replace fr := fr.trans (hb7.mono fr.size)
 replace pr := pr.kept hb7
 replace vP := vP.kept hb7
 replace Aq := Aq.kept hb7
 replace Az := Az.kept hb7
 clear hb7
 obtain ⟨aa, ca, ab, cb, rfl, oa, ob, hap⟩ := hpt
 rw [nx, ny] at hap ⊢
 rw [nx] at oa
 rw [ny] at ob
 have ia := In.of oa
 have ib := In.of ob
 go_wp2_with fail
 refine hK.out _ _ ⟨E4.ra Aq, E4.rb hP Aq, arr_range Az⟩ (fun hHeld => ?_)
 clear hK K
 refine wpAnyH_ready (rs := [9]) (by kernel_rfl) (by simp) (AllReadyH.cons (o := { dst := none, op := Op.store 60 (Operand.tmp 2) (Operand.tmp 18), type := 0, pos := "l06_point.go:125", after := #[{ on := 8, ground := Ground.data }, { on := 8, ground := Ground.chain }, { on := 0, ground := Ground.phase }, { on := 1, ground := Ground.phase }, { on := 2, ground := Ground.phase }, { on := 3, ground := Ground.phase }, { on := 4, ground := Ground.phase }, { on := 5, ground := Ground.phase }, { on := 6, ground := Ground.phase }, { on := 7, ground := Ground.phase }, { on := 8, ground := Ground.phase }], guard := none }) rfl (fun K hK => ?_) AllReadyH.nil)
 rw [if_pos (by rfl)]
 refine wp_store_mid _ _ _ rfl _ _ ([.slice aa 16 ca, .slice ab 16 cb]).toArray rfl rfl (by have := arr_there pr; simpa using this) infoPt (all_oneCell_toArray (by simp [Value.oneCell'])) ?_
 simp only [Act.put]
 replace fr := bel_sc fr w.heap.size ([.slice aa 16 ca, .slice ab 16 cb]) (by omega)
 replace pr := pr.sc0 ([.slice aa 16 ca, .slice ab 16 cb]) (by simp)
 replace vP := vP.sc w.heap.size ([.slice aa 16 ca, .slice ab 16 cb]) (by omega)
 replace Aq := Aq.sc w.heap.size ([.slice aa 16 ca, .slice ab 16 cb]) (by omega)
 replace Az := Az.sc w.heap.size ([.slice aa 16 ca, .slice ab 16 cb]) (by omega)
 replace oa : (y7.setCells w.heap.size 0 ([.slice aa 16 ca, .slice ab 16 cb])).ownsRow y6.heap.size 81 1 (.slice aa 16 ca) 16 (I64 x) := own_setCells oa ia (.inl hl) _
 replace ob : (y7.setCells w.heap.size 0 ([.slice aa 16 ca, .slice ab 16 cb])).ownsRow y6.heap.size 81 1 (.slice ab 16 cb) 16 (I64 y) := own_setCells ob ib (.inl hl) _
 obtain ⟨V8, hVe⟩ : ∃ V, V = y7.setCells w.heap.size 0 ([.slice aa 16 ca, .slice ab 16 cb]) := ⟨_, rfl⟩
 rw [← hVe] at fr pr vP Aq Az oa ob ⊢
 clear hVe
 refine hK.out _ _ ⟨E4.ra Aq, E4.rb hP Aq, arr_range Az⟩ (fun hHeld => ?_)
 clear hK K
 refine wpAnyH_done (by kernel_rfl) ?_ _
 go_wp2
 exact bodyPost_ret (results_cell_row rfl _ _ w.heap.size 60 #[.slice aa 16 ca, .slice ab 16 cb] (0, 0) _ rfl pr Tryd.underlying60 rfl infoPt) rfl ⟨_, rfl, ptT_16 nx ny (own_base oa (by omega)) (own_base ob (by omega)) hap, fr⟩

end Go.Proofs.YtihoaakbkffejaaDoor
