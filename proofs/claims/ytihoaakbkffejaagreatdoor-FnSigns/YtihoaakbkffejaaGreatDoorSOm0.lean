/-
  What is proved here: points of the curve as lists in memory; what the program's PtOk answers there; where its variables hold the prime and d; contracts of the program's pointOf and pointClosed: a point as two lists of its own; where its variable holds the prime; the contract of the program's PtBase; where its variables hold the base; the program's PtBase answers the base; where its variables hold it; contracts of the specification's l5in and l5out: a multiplier out of a slice of ints and back into a new one; what an answer is; contracts of the specification's l5order, l5isOk and ScOk: whether a slice of ints is a multiplier; the contract of the specification's l5twice: twice a multiplier and a bit, modulo the order; the contract of the specification's l5mod: a number in at most 33 parts modulo the order; whether bytes are those of a multiplier, and which, as plain functions; the contract of the specification's ScRead: a multiplier out of its bytes; the contracts of the specification's l5wide and ScWide: 64 bytes modulo the order; plain mathematics on lists of numbers: what SHA-512 makes of eight words and a block of 128 bytes; no program is spoken of, no condition; contracts of the specification's l3turn, l3round and l3first; the contract of the specification's l3words: the 80 words that SHA-512 makes of a block of 128 bytes; the contract of the specification's l3block: what SHA-512 makes of eight words and a block of 128 bytes; the eight bytes of a length in bits; plain mathematics, no condition.
-/
import Derived.Test.YtihoaakbkffejaaGreatDoorSJio
import Derived.Test.YtihoaakbkffejaaGreatDoorSOb
import Derived.Test.YtihoaakbkffejaaGreatDoorSJg
import Derived.Test.YtihoaakbkffejaaGreatDoorSFyq
import Derived.Test.YtihoaakbkffejaaGreatDoorSJa
import Derived.Test.YtihoaakbkffejaaGreatDoorSFm
import Derived.Test.YtihoaakbkffejaaGreatDoorSYc
import Derived.Deep.RegionHeld3
import Derived.Test.YtihoaakbkffejaaGreatDoorSFr
import Derived.Deep.AppendLies
import Derived.Laws.BitsLemmas
import Derived.Test.YtihoaakbkffejaaGreatDoorProg
import Derived.Deep.QuietTactic
import Derived.BigQuiet
import Derived.Deep.Light
import Derived.Deep.RegionWith
import Derived.BigRegion
namespace Go.Proofs.YtihoaakbkffejaaGreatDoor
open Go.RowKit
set_option maxRecDepth 100000
set_option maxHeartbeats 4000000
set_option linter.unusedSectionVars false

theorem cx_len (k : KF) : (cx k).length = 16 := lim_len _ _
theorem cx_int (k : KF) : ∀ x ∈ cx k, -9223372036854775808 ≤ x ∧ x ≤ 9223372036854775807 := fun x hx => by have := lim_lm _ _ x hx; omega
/-- Two lists of sixteen parts that are a point. -/
structure PI (W : World) (a : Option Addr) (c : Nat) (b : Option Addr) (d : Nat) (P : KF × KF) : Prop where
  x : Is W a 16 c (cx P.1)
  y : Is W b 16 d (cx P.2)
theorem PI.below {A B : World} {a b : Option Addr} {c d : Nat} {P : KF × KF} (h : PI A a c b d P) (hb : Below A.heap.size A B) : PI B a c b d P := ⟨h.x.below hb, h.y.below hb⟩
/-- A point that a call has answered. -/
theorem PI.of {w W : World} {v : Value} {xs ys : List Int} {P : KF × KF} (h : PtT 65 w W v xs ys) (hx : xs = cx P.1) (hy : ys = cx P.2) : ∃ a c b d, v = .agg #[.slice a 16 c, .slice b 16 d] ∧ PI W a c b d P := by
  subst hx hy
  obtain ⟨a, c, b, d, rfl, o1, o2, _⟩ := h
  have i1 := is_of_own o1 (cx_int _)
  have i2 := is_of_own o2 (cx_int _)
  rw [cx_len] at i1 i2
  exact ⟨a, c, b, d, by rw [cx_len, cx_len], i1, i2⟩
section
variable [NeZero pN]
theorem okpt {P : KF × KF} (h : On dK P) : ptOk (cx P.1) (cx P.2) = true := pt_ok h
end
end Go.Proofs.YtihoaakbkffejaaGreatDoor
namespace Go.Proofs.YtihoaakbkffejaaGreatDoor
open Go.RowKit
set_option maxRecDepth 100000

set_option maxHeartbeats 4000000 in
theorem implPtOf (x y : List Int) (w : World) (nx : x.length = 16) (ny : y.length = 16) :
  Calls Tryz.prog 44 #[.agg (I64 x).toArray, .agg (I64 y).toArray] w fun e w' => ∃ v, e = .returned v ∧ PtT 65 w w' v x y ∧ Below w.heap.size w w' := by
 have iix : (Tryz.prog.info? 65).map (·.size) = some (I64 x).length := by simpa [nx] using infoL
 have iiy : (Tryz.prog.info? 65).map (·.size) = some (I64 y).length := by simpa [ny] using infoL
 have hu : Tryz.prog.underlying 65 = some (.array 16 3) := Tryz.underlying65
 obtain ⟨A0, hA0⟩ : ∃ A, A = (I64 x).toArray := ⟨_, rfl⟩
 obtain ⟨A1, hA1⟩ : ∃ A, A = (I64 y).toArray := ⟨_, rfl⟩
 obtain ⟨W, hW⟩ : ∃ W, W = ((w.alloc (.cells A0 65)).alloc (.cells A1 65)).alloc (.cells #[.slice none 0 0, .slice none 0 0] 33) := ⟨_, rfl⟩
 have fr : Below w.heap.size w W := by rw [hW]; exact ((((Below.refl _ _).alloc (Nat.le_refl _) _).alloc (by simp) _).alloc (by simp; omega) _)
 have pa : Arr W w.heap.size 65 (I64 x) := by
  rw [hW, hA0, hA1]
  have := ((Arr.new (w) (I64 x) 65).alloc (.cells (I64 y).toArray 65)).alloc (.cells #[.slice none 0 0, .slice none 0 0] 33)
  exact this
 have pb : Arr W (w.heap.size + 1) 65 (I64 y) := by
  rw [hW, hA0, hA1]
  have := (Arr.new (w.alloc (.cells (I64 x).toArray 65)) (I64 y) 65).alloc (.cells #[.slice none 0 0, .slice none 0 0] 33)
  rw [World.size_alloc] at this
  exact this
 have pr : Arr W (w.heap.size + 2) 33 ([.slice none 0 0, .slice none 0 0]) := by
  rw [hW, hA0, hA1]
  have := Arr.new ((w.alloc (.cells (I64 x).toArray 65)).alloc (.cells (I64 y).toArray 65)) ([.slice none 0 0, .slice none 0 0]) 33
  rw [World.size_alloc, World.size_alloc] at this
  exact this
 rw [← hA0, ← hA1]
 clear hA0 hA1
 go_enter Tryz.func44, Tryz.ntmps44
 go_upto_region 1 with fail
 rw [← hW]
 clear hW
 try simp only [Act.put]
 have bD : Below W.heap.size W W.drew := (Below.refl _ _).drew
 replace fr := fr.trans (bD.mono fr.size)
 replace pa := pa.kept bD
 replace pb := pb.kept bD
 replace pr := pr.kept bD
 clear bD
 refine wp_region_held_drew (S := fun W => W.rangeAt w.heap.size 0 (I64 x) ∧ W.rangeAt (w.heap.size + 1) 0 (I64 y)) (by kernel_rfl) ⟨arr_range pa, arr_range pb⟩ (fun hHeld => ?_)
 obtain ⟨D1, hD⟩ : ∃ V, V = W.drew := ⟨_, rfl⟩
 rw [← hD] at hHeld fr pa pb pr ⊢
 clear hD
 refine wpAnyH_take (i := 0) (oi := { dst := some 5, op := Op.load 65 (Operand.tmp 2), type := 65, pos := "l06_point.go:109", after := #[], guard := none }) (v := _) rfl (by kernel_rfl) (by kernel_rfl) (by kernel_rfl) (fun _ _ _ h => h) (yieldsIf_load_mid (by rfl) _ _ rfl _ _ rfl (I64 x) _ (fun _ h => h.1) hu rfl iix) (by assumption) ?_
 simp only [Act.put, List.setIfInBounds_toArray, List.set_cons_zero, List.set_cons_succ]
 refine wpAnyH_take (i := 3) (oi := { dst := some 8, op := Op.load 65 (Operand.tmp 3), type := 65, pos := "l06_point.go:109", after := #[], guard := none }) (v := _) rfl (by kernel_rfl) (by kernel_rfl) (by kernel_rfl) (fun _ _ _ h => h) (yieldsIf_load_mid (by rfl) _ _ rfl _ _ rfl (I64 y) _ (fun _ h => h.2) hu rfl iiy) (by assumption) ?_
 simp only [Act.put, List.setIfInBounds_toArray, List.set_cons_zero, List.set_cons_succ]
 refine wpAnyH_ready (rs := [1]) (by kernel_rfl) (by simp) (AllReadyH.cons (o := { dst := some 6, op := Op.call { callee := Callee.value (Operand.func 59), args := #[Operand.tmp 5], argTypes := #[65] }, type := 29, pos := "l06_point.go:109", after := #[{ on := 0, ground := Ground.data }], guard := none }) rfl (fun K hK => ?_) AllReadyH.nil)
 go_simp
 have hl1 : w.heap.size + 2 < D1.heap.size := pr.lt
 refine (implList x _ nx).mono ?_
 rintro e y2 ⟨a1, c1, rfl, o1, hb2⟩
 replace fr := fr.trans (hb2.mono fr.size)
 replace pa := pa.kept hb2
 replace pb := pb.kept hb2
 replace pr := pr.kept hb2
 clear hb2
 have i1 := In.of o1
 go_wp2_with fail
 refine hK.out _ _ ⟨arr_range pa, arr_range pb⟩ (fun hHeld => ?_)
 clear hK K
 refine wpAnyH_take (i := 2) (oi := { dst := some 7, op := Op.build 31 #[(0, Operand.tmp 6)], type := 31, pos := "l06_point.go:109", after := #[{ on := 1, ground := Ground.data }], guard := none }) (v := .agg #[.slice a1 16 c1]) rfl (by kernel_rfl) (by kernel_rfl) (by kernel_rfl) (fun _ _ _ h => h) (.inl ⟨by rfl, fun _ _ => by kernel_rfl⟩) (by assumption) ?_
 simp only [Act.put, List.setIfInBounds_toArray, List.set_cons_zero, List.set_cons_succ]
 refine wpAnyH_ready (rs := [4]) (by kernel_rfl) (by simp) (AllReadyH.cons (o := { dst := some 9, op := Op.call { callee := Callee.value (Operand.func 59), args := #[Operand.tmp 8], argTypes := #[65] }, type := 29, pos := "l06_point.go:109", after := #[{ on := 3, ground := Ground.data }, { on := 1, ground := Ground.chain }], guard := none }) rfl (fun K hK => ?_) AllReadyH.nil)
 go_simp
 have hl2 : w.heap.size + 2 < y2.heap.size := pr.lt
 refine (implList y _ ny).mono ?_
 rintro e y3 ⟨a2, c2, rfl, o2, hb3⟩
 replace fr := fr.trans (hb3.mono fr.size)
 replace pa := pa.kept hb3
 replace pb := pb.kept hb3
 replace pr := pr.kept hb3
 replace o1 := own_below o1 hb3
 clear hb3
 have i2 := In.of o2
 go_wp2_with fail
 refine hK.out _ _ ⟨arr_range pa, arr_range pb⟩ (fun hHeld => ?_)
 clear hK K
 refine wpAnyH_take (i := 5) (oi := { dst := some 10, op := Op.build 31 #[(0, Operand.tmp 9)], type := 31, pos := "l06_point.go:109", after := #[{ on := 4, ground := Ground.data }], guard := none }) (v := .agg #[.slice a2 16 c2]) rfl (by kernel_rfl) (by kernel_rfl) (by kernel_rfl) (fun _ _ _ h => h) (.inl ⟨by rfl, fun _ _ => by kernel_rfl⟩) (by assumption) ?_
 simp only [Act.put, List.setIfInBounds_toArray, List.set_cons_zero, List.set_cons_succ]
 refine wpAnyH_take (i := 6) (oi := { dst := some 11, op := Op.build 33 #[(0, Operand.tmp 7), (1, Operand.tmp 10)], type := 33, pos := "l06_point.go:109", after := #[{ on := 2, ground := Ground.data }, { on := 5, ground := Ground.data }], guard := none }) (v := _) rfl (by kernel_rfl) (by kernel_rfl) (by kernel_rfl) (fun _ _ _ h => h) (yieldsIf_pt (by rfl) _ _ rfl _ _ rfl rfl) (by assumption) ?_
 simp only [Act.put, List.setIfInBounds_toArray, List.set_cons_zero, List.set_cons_succ]
 refine wpAnyH_ready (rs := [7]) (by kernel_rfl) (by simp) (AllReadyH.cons (o := { dst := none, op := Op.store 33 (Operand.tmp 4) (Operand.tmp 11), type := 0, pos := "l06_point.go:109", after := #[{ on := 6, ground := Ground.data }, { on := 4, ground := Ground.chain }, { on := 0, ground := Ground.phase }, { on := 1, ground := Ground.phase }, { on := 2, ground := Ground.phase }, { on := 3, ground := Ground.phase }, { on := 4, ground := Ground.phase }, { on := 5, ground := Ground.phase }, { on := 6, ground := Ground.phase }], guard := none }) rfl (fun K hK => ?_) AllReadyH.nil)
 rw [if_pos (by rfl)]
 refine wp_store_mid _ _ _ rfl _ _ ([.slice a1 16 c1, .slice a2 16 c2]).toArray rfl rfl (by have := arr_there pr; simpa using this) infoPt (all_oneCell_toArray (by simp [Value.oneCell'])) ?_
 simp only [Act.put]
 replace fr := bel_sc fr (w.heap.size + 2) ([.slice a1 16 c1, .slice a2 16 c2]) (by omega)
 replace pa := pa.sc (w.heap.size + 2) ([.slice a1 16 c1, .slice a2 16 c2]) (by omega)
 replace pb := pb.sc (w.heap.size + 2) ([.slice a1 16 c1, .slice a2 16 c2]) (by omega)
 replace pr := pr.sc0 ([.slice a1 16 c1, .slice a2 16 c2]) (by simp)
 replace o1 : (y3.setCells (w.heap.size + 2) 0 ([.slice a1 16 c1, .slice a2 16 c2])).ownsRow D1.heap.size 65 1 (.slice a1 16 c1) 16 (I64 x) := own_setCells o1 i1 (.inl hl1) _
 replace o2 : (y3.setCells (w.heap.size + 2) 0 ([.slice a1 16 c1, .slice a2 16 c2])).ownsRow y2.heap.size 65 1 (.slice a2 16 c2) 16 (I64 y) := own_setCells o2 i2 (.inl hl2) _
 obtain ⟨V4, hVe⟩ : ∃ V, V = y3.setCells (w.heap.size + 2) 0 ([.slice a1 16 c1, .slice a2 16 c2]) := ⟨_, rfl⟩
 rw [← hVe] at fr pa pb pr o1 o2 ⊢
 clear hVe
 refine hK.out _ _ ⟨arr_range pa, arr_range pb⟩ (fun hHeld => ?_)
 clear hK K
 refine wpAnyH_done (by kernel_rfl) ?_ _
 go_wp2
 have hap : Apart (.slice a1 16 c1) (.slice a2 16 c2) := i1.apart i2 (.inl (by omega))
 exact bodyPost_ret (results_cell_row rfl _ _ (w.heap.size + 2) 33 #[.slice a1 16 c1, .slice a2 16 c2] (0, 0) _ rfl pr Tryz.underlying33 rfl infoPt) rfl ⟨_, rfl, ptT_16 nx ny (own_base o1 (by omega)) (own_base o2 (by omega)) hap, fr⟩

set_option maxHeartbeats 4000000 in
theorem implClosed (P : E4) (w : World) (hP : P.Ok) (hV : Vr w 4 (I64 PL)) :
  Calls Tryz.prog 65 #[.iface 67 (.agg (I64 P.cells).toArray)] w fun e w' => ∃ v, e = .returned v ∧ PtT 65 w w' v (flx P) (fly P) ∧ Below w.heap.size w w' := by
 obtain ⟨z, ez⟩ : ∃ x_, x_ = invF P.c := ⟨_, rfl⟩
 have kz : feOk z = true := by rw [ez]; exact inv_ok _
 obtain ⟨x, ex⟩ : ∃ x_, x_ = flx P := ⟨_, rfl⟩
 have kx : feOk x = true := by rw [ex]; exact ok_red _
 obtain ⟨y, ey⟩ : ∃ x_, x_ = fly P := ⟨_, rfl⟩
 have ky : feOk y = true := by rw [ey]; exact ok_red _
 have Hz : Hid (∀ Z, Vr Z 4 (I64 PL) → Calls Tryz.prog 101 #[.agg (I64 P.c).toArray] Z fun e w' => e = .returned (.agg (I64 z).toArray) ∧ Below Z.heap.size Z w') := by
  unfold Hid; intro Z hZ; rw [ez]; exact implInverse P.c Z hP.c hZ
 have Hx : Hid (∀ Z, Vr Z 4 (I64 PL) → Calls Tryz.prog 98 #[.agg (I64 P.a).toArray, .agg (I64 z).toArray] Z fun e w' => e = .returned (.agg (I64 x).toArray) ∧ Below Z.heap.size Z w') := by
  unfold Hid; intro Z hZ; rw [ex, show flx P = red (val P.a * val z) by rw [ez]; rfl]; exact mulI hP.a kz Z hZ
 have Hy : Hid (∀ Z, Vr Z 4 (I64 PL) → Calls Tryz.prog 98 #[.agg (I64 P.b).toArray, .agg (I64 z).toArray] Z fun e w' => e = .returned (.agg (I64 y).toArray) ∧ Below Z.heap.size Z w') := by
  unfold Hid; intro Z hZ; rw [ey, show fly P = red (val P.b * val z) by rw [ez]; rfl]; exact mulI hP.b kz Z hZ
 rw [← ex, ← ey]
 have jz := infoL' kz
 have iiz := infoLl kz
 have nz := feOk_len kz
 have uz := one_lm z
 have jx := infoL' kx
 have iix := infoLl kx
 have nx := feOk_len kx
 have ux := one_lm x
 have jy := infoL' ky
 have iiy := infoLl ky
 have ny := feOk_len ky
 have uy := one_lm y
 have iPa := infoLl hP.a
 have iPb := infoLl hP.b
 have iPc := infoLl hP.c
 have hiP := infoLp' hP
 have hPl := E4.len hP
 have hu : Tryz.prog.underlying 65 = some (.array 16 3) := Tryz.underlying65
 have has : ∀ (v : Value) (w : World), (Instr.typeAssert (.iface 67 v) 111 67 false).run Tryz.prog w = .ok v w := assert_lp
 obtain ⟨W, hW⟩ : ∃ W, W = w.alloc (.cells #[.slice none 0 0, .slice none 0 0] 33) := ⟨_, rfl⟩
 have fr : Below w.heap.size w W := by rw [hW]; exact ((Below.refl _ _).alloc (Nat.le_refl _) _)
 have pr : Arr W w.heap.size 33 ([.slice none 0 0, .slice none 0 0]) := by
  rw [hW]
  have := Arr.new (w) ([.slice none 0 0, .slice none 0 0]) 33
  exact this
 have h0P := hV.lt
 have vP := hV.kept fr
 clear hV
 clear ez ex ey kz kx ky
 go_enter Tryz.func65, Tryz.ntmps65
 go_upto_region 1 with fail
 rw [← hW]
 clear hW
 have hXq : w.heap.size < W.heap.size ∧ w.heap.size ≤ W.heap.size := ⟨pr.lt, fr.size⟩
 obtain ⟨bV, Aq, q1⟩ := laid_lp W P.cells
 replace fr := fr.trans (bV.mono fr.size)
 replace pr := pr.kept bV
 replace vP := vP.kept bV
 go_upto_region 2 with (refine wpList_store_row rfl 67 _ _ rfl W.heap.size (I64 P.cells).toArray rfl rfl 67 _ q1 hiP (by simp [hPl]) (by simp [Value.oneCell']) ?_)
 obtain ⟨V1, hVV⟩ : ∃ V, V = (W.alloc (.cells #[.int .i64 0, .int .i64 0, .int .i64 0, .int .i64 0, .int .i64 0, .int .i64 0, .int .i64 0, .int .i64 0, .int .i64 0, .int .i64 0, .int .i64 0, .int .i64 0, .int .i64 0, .int .i64 0, .int .i64 0, .int .i64 0, .int .i64 0, .int .i64 0, .int .i64 0, .int .i64 0, .int .i64 0, .int .i64 0, .int .i64 0, .int .i64 0, .int .i64 0, .int .i64 0, .int .i64 0, .int .i64 0, .int .i64 0, .int .i64 0, .int .i64 0, .int .i64 0, .int .i64 0, .int .i64 0, .int .i64 0, .int .i64 0, .int .i64 0, .int .i64 0, .int .i64 0, .int .i64 0, .int .i64 0, .int .i64 0, .int .i64 0, .int .i64 0, .int .i64 0, .int .i64 0, .int .i64 0, .int .i64 0, .int .i64 0, .int .i64 0, .int .i64 0, .int .i64 0, .int .i64 0, .int .i64 0, .int .i64 0, .int .i64 0, .int .i64 0, .int .i64 0, .int .i64 0, .int .i64 0, .int .i64 0, .int .i64 0, .int .i64 0, .int .i64 0] 67)).setRow W.heap.size (I64 P.cells).toArray := ⟨_, rfl⟩
 obtain ⟨Xq, hE⟩ : ∃ E, E = W.heap.size := ⟨_, rfl⟩
 rw [← hVV] at fr pr vP Aq ⊢
 rw [← hE] at Aq hXq ⊢
 clear hVV hE q1 bV
 go_wp2_with (refine wpList_load_mid rfl 65 _ rfl Xq 32 rfl (I64 P.c) _ (E4.rc hP Aq) Tryz.underlying65 rfl iPc ?_)
 refine (Hz.out _ vP).mono ?_
 rintro e y2 ⟨rfl, hb2⟩
 replace fr := fr.trans (hb2.mono fr.size)
 replace pr := pr.kept hb2
 replace vP := vP.kept hb2
 replace Aq := Aq.kept hb2
 clear hb2
 have hXz : w.heap.size < y2.heap.size ∧ Xq < y2.heap.size ∧ w.heap.size ≤ y2.heap.size := ⟨pr.lt, Aq.lt, fr.size⟩
 obtain ⟨bV, Az, q1⟩ := laid_lm y2 z
 replace fr := fr.trans (bV.mono fr.size)
 replace pr := pr.kept bV
 replace vP := vP.kept bV
 replace Aq := Aq.kept bV
 go_upto_region 3 with (refine wpList_store_row rfl 65 _ _ rfl y2.heap.size (I64 z).toArray rfl rfl 65 _ q1 jz (by simp [nz]) (by simp [Value.oneCell']) ?_)
 obtain ⟨V3, hVV⟩ : ∃ V, V = (y2.alloc (.cells #[.int .i64 0, .int .i64 0, .int .i64 0, .int .i64 0, .int .i64 0, .int .i64 0, .int .i64 0, .int .i64 0, .int .i64 0, .int .i64 0, .int .i64 0, .int .i64 0, .int .i64 0, .int .i64 0, .int .i64 0, .int .i64 0] 65)).setRow y2.heap.size (I64 z).toArray := ⟨_, rfl⟩
 obtain ⟨Xz, hE⟩ : ∃ E, E = y2.heap.size := ⟨_, rfl⟩
 rw [← hVV] at fr pr vP Aq Az ⊢
 rw [← hE] at Az hXz ⊢
 clear hVV hE q1 bV
 try simp only [Act.put]
 have bD : Below V3.heap.size V3 V3.drew := (Below.refl _ _).drew
 replace fr := fr.trans (bD.mono fr.size)
 replace pr := pr.kept bD
 replace vP := vP.kept bD
 replace Aq := Aq.kept bD
 replace Az := Az.kept bD
 clear bD
 refine wp_region_held_drew (S := fun W => W.rangeAt Xq 0 (I64 P.a) ∧ W.rangeAt Xq 16 (I64 P.b) ∧ W.rangeAt Xz 0 (I64 z)) (by kernel_rfl) ⟨E4.ra Aq, E4.rb hP Aq, arr_range Az⟩ (fun hHeld => ?_)
 obtain ⟨D4, hD⟩ : ∃ V, V = V3.drew := ⟨_, rfl⟩
 rw [← hD] at hHeld fr pr vP Aq Az ⊢
 clear hD
 refine wpAnyH_take (i := 0) (oi := { dst := some 10, op := Op.fieldAddr 67 (Operand.tmp 3) 0, type := 0, pos := "l06_point.go:125", after := #[], guard := none }) (v := .pointer (some ⟨Xq, 0, none⟩)) rfl (by kernel_rfl) (by kernel_rfl) (by kernel_rfl) (fun _ _ _ h => h) (.inl ⟨by rfl, fun _ _ => by rfl⟩) (by assumption) ?_
 simp only [Act.put, List.setIfInBounds_toArray, List.set_cons_zero, List.set_cons_succ]
 refine wpAnyH_take (i := 1) (oi := { dst := some 11, op := Op.load 65 (Operand.tmp 10), type := 65, pos := "l06_point.go:125", after := #[{ on := 0, ground := Ground.data }], guard := none }) (v := _) rfl (by kernel_rfl) (by kernel_rfl) (by kernel_rfl) (fun _ _ _ h => h) (yieldsIf_load_mid (by rfl) _ _ rfl _ _ rfl (I64 P.a) _ (fun _ h => h.1) hu rfl iPa) (by assumption) ?_
 simp only [Act.put, List.setIfInBounds_toArray, List.set_cons_zero, List.set_cons_succ]
 refine wpAnyH_take (i := 2) (oi := { dst := some 12, op := Op.load 65 (Operand.tmp 4), type := 65, pos := "l06_point.go:125", after := #[], guard := none }) (v := _) rfl (by kernel_rfl) (by kernel_rfl) (by kernel_rfl) (fun _ _ _ h => h) (yieldsIf_load_mid (by rfl) _ _ rfl _ _ rfl (I64 z) _ (fun _ h => h.2.2) hu rfl iiz) (by assumption) ?_
 simp only [Act.put, List.setIfInBounds_toArray, List.set_cons_zero, List.set_cons_succ]
 refine wpAnyH_take (i := 4) (oi := { dst := some 14, op := Op.fieldAddr 67 (Operand.tmp 3) 1, type := 0, pos := "l06_point.go:125", after := #[], guard := none }) (v := .pointer (some ⟨Xq, 16, none⟩)) rfl (by kernel_rfl) (by kernel_rfl) (by kernel_rfl) (fun _ _ _ h => h) (.inl ⟨by rfl, fun _ _ => by rfl⟩) (by assumption) ?_
 simp only [Act.put, List.setIfInBounds_toArray, List.set_cons_zero, List.set_cons_succ]
 refine wpAnyH_take (i := 5) (oi := { dst := some 15, op := Op.load 65 (Operand.tmp 14), type := 65, pos := "l06_point.go:125", after := #[{ on := 4, ground := Ground.data }], guard := none }) (v := _) rfl (by kernel_rfl) (by kernel_rfl) (by kernel_rfl) (fun _ _ _ h => h) (yieldsIf_load_mid (by rfl) _ _ rfl _ _ rfl (I64 P.b) _ (fun _ h => h.2.1) hu rfl iPb) (by assumption) ?_
 simp only [Act.put, List.setIfInBounds_toArray, List.set_cons_zero, List.set_cons_succ]
 refine wpAnyH_take (i := 6) (oi := { dst := some 16, op := Op.load 65 (Operand.tmp 4), type := 65, pos := "l06_point.go:125", after := #[], guard := none }) (v := _) rfl (by kernel_rfl) (by kernel_rfl) (by kernel_rfl) (fun _ _ _ h => h) (yieldsIf_load_mid (by rfl) _ _ rfl _ _ rfl (I64 z) _ (fun _ h => h.2.2) hu rfl iiz) (by assumption) ?_
 simp only [Act.put, List.setIfInBounds_toArray, List.set_cons_zero, List.set_cons_succ]
 refine wpAnyH_ready (rs := [3]) (by kernel_rfl) (by simp) (AllReadyH.cons (o := { dst := some 13, op := Op.call { callee := Callee.value (Operand.func 98), args := #[Operand.tmp 11, Operand.tmp 12], argTypes := #[65, 65] }, type := 65, pos := "l06_point.go:125", after := #[{ on := 1, ground := Ground.data }, { on := 2, ground := Ground.data }], guard := none }) rfl (fun K hK => ?_) AllReadyH.nil)
 go_simp
 refine (Hx.out _ vP).mono ?_
 rintro e y5 ⟨rfl, hb5⟩
 replace fr := fr.trans (hb5.mono fr.size)
 replace pr := pr.kept hb5
 replace vP := vP.kept hb5
 replace Aq := Aq.kept hb5
 replace Az := Az.kept hb5
 clear hb5
 go_wp2_with fail
 refine hK.out _ _ ⟨E4.ra Aq, E4.rb hP Aq, arr_range Az⟩ (fun hHeld => ?_)
 clear hK K
 refine wpAnyH_ready (rs := [7]) (by kernel_rfl) (by simp) (AllReadyH.cons (o := { dst := some 17, op := Op.call { callee := Callee.value (Operand.func 98), args := #[Operand.tmp 15, Operand.tmp 16], argTypes := #[65, 65] }, type := 65, pos := "l06_point.go:125", after := #[{ on := 5, ground := Ground.data }, { on := 6, ground := Ground.data }, { on := 3, ground := Ground.chain }], guard := none }) rfl (fun K hK => ?_) AllReadyH.nil)
 go_simp
 refine (Hy.out _ vP).mono ?_
 rintro e y6 ⟨rfl, hb6⟩
 replace fr := fr.trans (hb6.mono fr.size)
 replace pr := pr.kept hb6
 replace vP := vP.kept hb6
 replace Aq := Aq.kept hb6
 replace Az := Az.kept hb6
 clear hb6
 go_wp2_with fail
 refine hK.out _ _ ⟨E4.ra Aq, E4.rb hP Aq, arr_range Az⟩ (fun hHeld => ?_)
 clear hK K
 refine wpAnyH_ready (rs := [8]) (by kernel_rfl) (by simp) (AllReadyH.cons (o := { dst := some 18, op := Op.call { callee := Callee.value (Operand.func 44), args := #[Operand.tmp 13, Operand.tmp 17], argTypes := #[65, 65] }, type := 33, pos := "l06_point.go:125", after := #[{ on := 3, ground := Ground.data }, { on := 7, ground := Ground.data }, { on := 7, ground := Ground.chain }], guard := none }) rfl (fun K hK => ?_) AllReadyH.nil)
 go_simp
 have hl : w.heap.size < y6.heap.size := pr.lt
 refine (implPtOf x y _ nx ny).mono ?_
 rintro e y7 ⟨v, rfl, hpt, hb7⟩
 replace fr := fr.trans (hb7.mono fr.size)
 replace pr := pr.kept hb7
 replace vP := vP.kept hb7
 replace Aq := Aq.kept hb7
 replace Az := Az.kept hb7
 clear hb7
 obtain ⟨aa, ca, ab, cb, rfl, oa, ob, hap⟩ := hpt
 rw [nx, ny] at hap ⊢
 rw [nx] at oa
 rw [ny] at ob
 have ia := In.of oa
 have ib := In.of ob
 go_wp2_with fail
 refine hK.out _ _ ⟨E4.ra Aq, E4.rb hP Aq, arr_range Az⟩ (fun hHeld => ?_)
 clear hK K
 refine wpAnyH_ready (rs := [9]) (by kernel_rfl) (by simp) (AllReadyH.cons (o := { dst := none, op := Op.store 33 (Operand.tmp 2) (Operand.tmp 18), type := 0, pos := "l06_point.go:125", after := #[{ on := 8, ground := Ground.data }, { on := 8, ground := Ground.chain }, { on := 0, ground := Ground.phase }, { on := 1, ground := Ground.phase }, { on := 2, ground := Ground.phase }, { on := 3, ground := Ground.phase }, { on := 4, ground := Ground.phase }, { on := 5, ground := Ground.phase }, { on := 6, ground := Ground.phase }, { on := 7, ground := Ground.phase }, { on := 8, ground := Ground.phase }], guard := none }) rfl (fun K hK => ?_) AllReadyH.nil)
 rw [if_pos (by rfl)]
 refine wp_store_mid _ _ _ rfl _ _ ([.slice aa 16 ca, .slice ab 16 cb]).toArray rfl rfl (by have := arr_there pr; simpa using this) infoPt (all_oneCell_toArray (by simp [Value.oneCell'])) ?_
 simp only [Act.put]
 replace fr := bel_sc fr w.heap.size ([.slice aa 16 ca, .slice ab 16 cb]) (by omega)
 replace pr := pr.sc0 ([.slice aa 16 ca, .slice ab 16 cb]) (by simp)
 replace vP := vP.sc w.heap.size ([.slice aa 16 ca, .slice ab 16 cb]) (by omega)
 replace Aq := Aq.sc w.heap.size ([.slice aa 16 ca, .slice ab 16 cb]) (by omega)
 replace Az := Az.sc w.heap.size ([.slice aa 16 ca, .slice ab 16 cb]) (by omega)
 replace oa : (y7.setCells w.heap.size 0 ([.slice aa 16 ca, .slice ab 16 cb])).ownsRow y6.heap.size 65 1 (.slice aa 16 ca) 16 (I64 x) := own_setCells oa ia (.inl hl) _
 replace ob : (y7.setCells w.heap.size 0 ([.slice aa 16 ca, .slice ab 16 cb])).ownsRow y6.heap.size 65 1 (.slice ab 16 cb) 16 (I64 y) := own_setCells ob ib (.inl hl) _
 obtain ⟨V8, hVe⟩ : ∃ V, V = y7.setCells w.heap.size 0 ([.slice aa 16 ca, .slice ab 16 cb]) := ⟨_, rfl⟩
 rw [← hVe] at fr pr vP Aq Az oa ob ⊢
 clear hVe
 refine hK.out _ _ ⟨E4.ra Aq, E4.rb hP Aq, arr_range Az⟩ (fun hHeld => ?_)
 clear hK K
 refine wpAnyH_done (by kernel_rfl) ?_ _
 go_wp2
 exact bodyPost_ret (results_cell_row rfl _ _ w.heap.size 33 #[.slice aa 16 ca, .slice ab 16 cb] (0, 0) _ rfl pr Tryz.underlying33 rfl infoPt) rfl ⟨_, rfl, ptT_16 nx ny (own_base oa (by omega)) (own_base ob (by omega)) hap, fr⟩

end Go.Proofs.YtihoaakbkffejaaGreatDoor
namespace Go.Proofs.YtihoaakbkffejaaGreatDoor
open Go.RowKit
set_option maxRecDepth 100000

set_option maxHeartbeats 4000000 in
theorem implPtBase (w : World) (hX : Vr w 0 (I64 BX)) (hY : Vr w 1 (I64 BY)) :
    Calls Tryz.prog 11 #[] w fun e w' => ∃ v, e = .returned v ∧ PtT 65 w w' v (BX) (BY) ∧ Below w.heap.size w w' := by
  have HC : Hid (∀ Z, Calls Tryz.prog 44 #[.agg (I64 BX).toArray, .agg (I64 BY).toArray] Z fun e w' => ∃ v, e = .returned v ∧ PtT 65 Z w' v BX BY ∧ Below Z.heap.size Z w') := by
    unfold Hid; intro Z; exact implPtOf BX BY Z rfl rfl
  have jX := infoL' BX_ok
  have jY := infoL' BY_ok
  obtain ⟨x, ex⟩ : ∃ x, x = BX := ⟨_, rfl⟩
  obtain ⟨y, ey⟩ : ∃ y, y = BY := ⟨_, rfl⟩
  have nx : x.length = 16 := by rw [ex]; rfl
  have ny : y.length = 16 := by rw [ey]; rfl
  rw [← ex, ← ey] at HC ⊢
  rw [← ex] at jX hX
  rw [← ey] at jY hY
  clear ex ey
  obtain ⟨W, hW⟩ : ∃ W, W = w.alloc (.cells #[.slice none 0 0, .slice none 0 0] 33) := ⟨_, rfl⟩
  have fr : Below w.heap.size w W := by rw [hW]; exact ((Below.refl _ _).alloc (Nat.le_refl _) _)
  have pr : Arr W w.heap.size 33 ([.slice none 0 0, .slice none 0 0]) := by
    rw [hW]
    have := Arr.new (w) ([.slice none 0 0, .slice none 0 0]) 33
    exact this
  have h0X := hX.lt
  have vX := hX.kept fr
  have h0Y := hY.lt
  have vY := hY.kept fr
  clear hX hY
  go_enter Tryz.func11, Tryz.ntmps11
  go_upto_region 1 with fail
  rw [← hW]
  clear hW
  obtain ⟨gt, gz, hg⟩ := vX
  obtain ⟨kt, kz, hk⟩ := vY
  go_wp2_with (first
      | (refine wpList_load_row rfl 65 _ rfl 0 rfl gt (I64 x).toArray gz _ hg Tryz.underlying65 rfl jX ?_)
      | (refine wpList_load_row rfl 65 _ rfl 1 rfl kt (I64 y).toArray kz _ hk Tryz.underlying65 rfl jY ?_))
  have hl : w.heap.size < W.heap.size := pr.lt
  refine (HC.out _).mono ?_
  rintro e y1 ⟨v, rfl, hpt, hb1⟩
  replace fr := fr.trans (hb1.mono fr.size)
  replace pr := pr.kept hb1
  clear hb1
  obtain ⟨aa, ca, ab, cb, rfl, oa, ob, hap⟩ := hpt
  rw [nx, ny] at hap ⊢
  rw [nx] at oa
  rw [ny] at ob
  have ia := In.of oa
  have ib := In.of ob
  have HB : Hid _ := setRow_below fr w.heap.size ([.slice aa 16 ca, .slice ab 16 cb]).toArray (by omega)
  have h2 := pr.row ([.slice aa 16 ca, .slice ab 16 cb])
  have oa2 := own_rowM oa ia (.inl hl) ([.slice aa 16 ca, .slice ab 16 cb]).toArray
  have ob2 := own_rowM ob ib (.inl hl) ([.slice aa 16 ca, .slice ab 16 cb]).toArray
  go_wp2_with (refine wpList_store_row rfl 33 _ _ rfl w.heap.size ([Value.slice aa 16 ca,  Value.slice ab 16 cb]).toArray rfl rfl 33 _ pr infoPt rfl (by simp [Value.oneCell']) ?_)
  exact bodyPost_ret (results_cell_row rfl _ _ w.heap.size 33 #[.slice aa 16 ca, .slice ab 16 cb] (0, 0) _ rfl h2 Tryz.underlying33 rfl infoPt) rfl ⟨_, rfl, ptT_16 nx ny (own_base oa2 (by omega)) (own_base ob2 (by omega)) hap, HB.out⟩

end Go.Proofs.YtihoaakbkffejaaGreatDoor
namespace Go.Proofs.YtihoaakbkffejaaGreatDoor
open Go.RowKit
set_option maxRecDepth 100000
set_option maxHeartbeats 4000000
set_option linter.unusedSectionVars false

theorem BX_val : val BX = (bxN : Int) := by decide
theorem BY_val : val BY = (byN : Int) := by decide
section
variable [NeZero pN]
theorem base_lists : BX = cx baseK.1 ∧ BY = cx baseK.2 := by
  have h1 : fl BX = baseK.1 := by unfold fl; rw [BX_val]; rfl
  have h2 : fl BY = baseK.2 := by unfold fl; rw [BY_val]; rfl
  exact ⟨by rw [← h1, cx_fl BX_ok], by rw [← h2, cx_fl BY_ok]⟩
end
end Go.Proofs.YtihoaakbkffejaaGreatDoor
namespace Go.Proofs.YtihoaakbkffejaaGreatDoor
open Go.RowKit
set_option maxRecDepth 100000

theorem own_otherS {w : World} {b e s n : Nat} {v : Value} {xs : List Value} (h : w.ownsRow b e s v n xs) (p : Addr) (u : Value) (hp : p.block < b) : (w.setCell p u).ownsRow b e s v n xs := by
  refine ⟨h.1, ?_⟩
  rcases h.2 with hn | ⟨g, cap, cur, rfl, hg, hgg, rest⟩
  · exact .inl hn
  · refine .inr ⟨g, cap, cur, rfl, hg, ?_, rest⟩
    rw [heap_setCell_other w p g u (by omega)]
    exact hgg


theorem infoSc : (Tryz.prog.info? 41).map (·.size) = some 1 := by kernel_rfl
end Go.Proofs.YtihoaakbkffejaaGreatDoor
namespace Go.Proofs.YtihoaakbkffejaaGreatDoor
open Go.RowKit
set_option maxRecDepth 100000

/-- An array of sixteen, through whatever keeps what is there. -/
structure Ek5 (w W : World) (g : Nat) (l : List Int) : Prop where
  fr : Below w.heap.size w W
  ar : Arr W g 80 (I64 l)
theorem Ek5.go {w A B : World} {g : Nat} {l : List Int} (h : Ek5 w A g l) (hb : Below A.heap.size A B) : Ek5 w B g l := ⟨h.fr.trans (hb.mono h.fr.size), h.ar.kept hb⟩
theorem Ek5.all {w W : World} {g : Nat} {l : List Int} (h : Ek5 w W g l) : W.rangeAt g 0 (I64 l) := arr_range h.ar

end Go.Proofs.YtihoaakbkffejaaGreatDoor
namespace Go.Proofs.YtihoaakbkffejaaGreatDoor
open Go.RowKit
set_option maxRecDepth 100000

end Go.Proofs.YtihoaakbkffejaaGreatDoor
namespace Go.Proofs.YtihoaakbkffejaaGreatDoor
open Go.RowKit
set_option maxRecDepth 100000

/-- The cells of l5mod: the result's, and the number so far; the slice is older. -/
structure MP (w W : World) (r : List Int) : Prop where
  fr : Below w.heap.size w W
  pz : Arr W w.heap.size 80 (I64 Z16)
  pr : Arr W (w.heap.size + 1) 80 (I64 r)
theorem MP.go {w A B : World} {r : List Int} (h : MP w A r) (hb : Below A.heap.size A B) : MP w B r := ⟨h.fr.trans (hb.mono h.fr.size), h.pz.kept hb, h.pr.kept hb⟩
theorem MP.put {w W : World} {r : List Int} (h : MP w W r) (s : List Int) (hl : (I64 r).length = (I64 s).length) : MP w (W.setCells (w.heap.size + 1) 0 (I64 s)) s :=
  ⟨setCells_below (by omega) _ _ h.fr, Arr.setCellsO (by omega) _ _ h.pz, Arr.setCells0 h.pr hl⟩
end Go.Proofs.YtihoaakbkffejaaGreatDoor
namespace Go.Proofs.YtihoaakbkffejaaGreatDoor
open Go.RowKit
set_option maxRecDepth 100000

/-- Whether the bytes are those of a number, and which. -/
def rdOkO (bs : List Int) : Bool := decide (bs.length = 32) && decide (val (rdL bs) < qO)
def rdFO (bs : List Int) : List Int := if rdOkO bs = true then rdL bs else []
end Go.Proofs.YtihoaakbkffejaaGreatDoor
namespace Go.Proofs.YtihoaakbkffejaaGreatDoor
open Go.RowKit
set_option maxRecDepth 100000

/-- The result's cell alone. -/
structure S1 (w W : World) : Prop where
  fr : Below w.heap.size w W
  pr : Arr W w.heap.size 41 [.slice none 0 0]
theorem S1.go {w A B : World} (h : S1 w A) (hb : Below A.heap.size A B) : S1 w B := ⟨h.fr.trans (hb.mono h.fr.size), h.pr.kept hb⟩

end Go.Proofs.YtihoaakbkffejaaGreatDoor
namespace Go.Proofs.YtihoaakbkffejaaGreatDoor
open Go.RowKit
set_option maxRecDepth 100000

/-- The parts that 64 bytes make. -/
def wdL (bs : List Int) : List Int := (List.range 32).map fun i => bs.getD (2 * i) 0 + 256 * bs.getD (2 * i + 1) 0
theorem wdL_len (bs : List Int) : (wdL bs).length = 32 := by simp [wdL]
theorem wdL_get (bs : List Int) (k : Nat) (h : k < 32) : (wdL bs).getD k 0 = bs.getD (2 * k) 0 + 256 * bs.getD (2 * k + 1) 0 := by
  unfold wdL
  rw [List.getD, List.getElem?_map, List.getElem?_range h]
  rfl
/-- What 64 bytes come to; nothing of another number of bytes. -/
def wdOk (bs : List Int) : Bool := decide (bs.length = 64)
def wdF (bs : List Int) : List Int := if wdOk bs = true then redO (val (wdL bs)) else []

end Go.Proofs.YtihoaakbkffejaaGreatDoor
namespace Go.Proofs.YtihoaakbkffejaaGreatDoor
open Go.RowKit

abbrev U64 (xs : List Int) : List Value := xs.map (Value.int .u64)
theorem Arr.u64 {w : World} {g : Nat} {t : TypeId} {xs : List Int} (h : Arr w g t (U64 xs)) (j : Nat) (hj : j < xs.length) : w.cell? ⟨g, j, none⟩ = some (.int .u64 (xs.getD j 0)) := by
  rw [h.cell j]; simp [hj]
theorem Arr.setW {w : World} {g : Nat} {t : TypeId} {a0 a1 a2 a3 a4 a5 a6 a7 : Int} (h : Arr w g t (U64 [a0, a1, a2, a3, a4, a5, a6, a7])) (l0 l1 l2 l3 l4 l5 l6 l7 : Int) :
    Arr ((((((((w.setCell ⟨g, 0, none⟩ (.int .u64 l0)).setCell ⟨g, 1, none⟩ (.int .u64 l1)).setCell ⟨g, 2, none⟩ (.int .u64 l2)).setCell ⟨g, 3, none⟩ (.int .u64 l3)).setCell ⟨g, 4, none⟩ (.int .u64 l4)).setCell ⟨g, 5, none⟩ (.int .u64 l5)).setCell ⟨g, 6, none⟩ (.int .u64 l6)).setCell ⟨g, 7, none⟩ (.int .u64 l7))
      g t (U64 [l0, l1, l2, l3, l4, l5, l6, l7]) :=
  (((((((h.set 0 (.int .u64 l0)).set 1 (.int .u64 l1)).set 2 (.int .u64 l2)).set 3 (.int .u64 l3)).set 4 (.int .u64 l4)).set 5 (.int .u64 l5)).set 6 (.int .u64 l6)).set 7 (.int .u64 l7)

theorem wrap_u64 (n : Int) : IntKind.u64.wrap n = n % 18446744073709551616 := by simp [IntKind.wrap, IntKind.bits, IntKind.signed]
theorem wraps_u64 (n : Int) (h0 : 0 ≤ n) (h1 : n < 2 ^ 64) : IntKind.u64.wrap n = n := by rw [wrap_u64]; omega
theorem u64_or8 {x y : Int} (h0 : 0 ≤ x) (h1 : x < 18446744073709551616) (h2 : x % 256 = 0) (h3 : 0 ≤ y) (h4 : y < 256) : bits .or .u64 x y = x + y :=
  bits_join .u64 64 (by decide) wraps_u64 8 x y h0 (by simpa using h2) (by simpa using h1) h3 (by simpa using h4) (by omega)

/-- A word turned right by n. -/
def rotw (x : Int) (n : Nat) : Int := bits .or .u64 (x / 2 ^ n) (x * 2 ^ (64 - n) % 18446744073709551616)
def xrw (x y : Int) : Int := bits .xor .u64 x y
def ndw (x y : Int) : Int := bits .and .u64 x y
def tS0 (x : Int) : Int := xrw (xrw (rotw x 1) (rotw x 8)) (x / 2 ^ 7)
def tS1 (x : Int) : Int := xrw (xrw (rotw x 19) (rotw x 61)) (x / 2 ^ 6)
def cS0 (x : Int) : Int := xrw (xrw (rotw x 28) (rotw x 34)) (rotw x 39)
def cS1 (x : Int) : Int := xrw (xrw (rotw x 14) (rotw x 18)) (rotw x 41)
def chow (e f g : Int) : Int := xrw (ndw e f) (ndw (xrw IntKind.u64.max e) g)
def majw (a b c : Int) : Int := xrw (xrw (ndw a b) (ndw a c)) (ndw b c)

/-- The first m bytes of word j of a block. -/
def wvw (xs : List Int) (j : Nat) : Nat → Int
  | 0 => 0
  | m + 1 => wvw xs j m * 256 + xs.getD (8 * j + m) 0
/-- The word behind these. -/
def nextWw (xs l : List Int) : Int :=
  if l.length < 16 then wvw xs l.length 8
  else (l.getD (l.length - 16) 0 + tS0 (l.getD (l.length - 15) 0) + l.getD (l.length - 7) 0 + tS1 (l.getD (l.length - 2) 0)) % 18446744073709551616
def schedW (xs : List Int) : Nat → List Int
  | 0 => []
  | k + 1 => schedW xs k ++ [nextWw xs (schedW xs k)]
theorem schedW_len (xs : List Int) (k : Nat) : (schedW xs k).length = k := by
  induction k with
  | zero => rfl
  | succ k ih => simp [schedW, ih]

def KW : List Int := [4794697086780616226, 8158064640168781261, 13096744586834688815, 16840607885511220156, 4131703408338449720, 6480981068601479193, 10538285296894168987, 12329834152419229976, 15566598209576043074, 1334009975649890238, 2608012711638119052, 6128411473006802146, 8268148722764581231, 9286055187155687089, 11230858885718282805, 13951009754708518548, 16472876342353939154, 17275323862435702243, 1135362057144423861, 2597628984639134821, 3308224258029322869, 5365058923640841347, 6679025012923562964, 8573033837759648693, 10970295158949994411, 12119686244451234320, 12683024718118986047, 13788192230050041572, 14330467153632333762, 15395433587784984357, 489312712824947311, 1452737877330783856, 2861767655752347644, 3322285676063803686, 5560940570517711597, 5996557281743188959, 7280758554555802590, 8532644243296465576, 9350256976987008742, 10552545826968843579, 11727347734174303076, 12113106623233404929, 14000437183269869457, 14369950271660146224, 15101387698204529176, 15463397548674623760, 17586052441742319658, 1182934255886127544, 1847814050463011016, 2177327727835720531, 2830643537854262169, 3796741975233480872, 4115178125766777443, 5681478168544905931, 6601373596472566643, 7507060721942968483, 8399075790359081724, 8693463985226723168, 9568029438360202098, 10144078919501101548, 10430055236837252648, 11840083180663258601, 13761210420658862357, 14299343276471374635, 14566680578165727644, 15097957966210449927, 16922976911328602910, 17689382322260857208, 500013540394364858, 748580250866718886, 1242879168328830382, 1977374033974150939, 2944078676154940804, 3659926193048069267, 4368137639120453308, 4836135668995329356, 5532061633213252278, 6448918945643986474, 6902733635092675308, 7801388544844847127]
theorem getD_memW {xs : List Int} {k : Nat} (hk : k < xs.length) : xs.getD k 0 ∈ xs := by
  rw [List.getD_eq_getElem?_getD, List.getElem?_eq_getElem hk]; exact List.getElem_mem _
theorem KW_len : KW.length = 80 := rfl
def H0W : List Int := [7640891576956012808, 13503953896175478587, 4354685564936845355, 11912009170470909681, 5840696475078001361, 11170449401992604703, 2270897969802886507, 6620516959819538809]
theorem H0W_word : ∀ x ∈ H0W, 0 ≤ x ∧ x < 18446744073709551616 := by decide
theorem H0W_len : H0W.length = 8 := rfl

/-- One round, on the words and the round's word. -/
def stpw8 (a b c d e f g h kw : Int) : List Int :=
  [(h + cS1 e + chow e f g + kw + (cS0 a + majw a b c)) % 18446744073709551616, a, b, c, (d + (h + cS1 e + chow e f g + kw)) % 18446744073709551616, e, f, g]
def stpw (st : List Int) (kw : Int) : List Int :=
  match st with
  | [a, b, c, d, e, f, g, h] => stpw8 a b c d e f g h kw
  | _ => st
def rndw (ws ks st : List Int) : Nat → List Int
  | 0 => st
  | k + 1 => stpw (rndw ws ks st k) (ws.getD k 0 + ks.getD k 0)
theorem stpw_len {st : List Int} (h : st.length = 8) (kw : Int) : (stpw st kw).length = 8 := by
  obtain ⟨a, b, c, d, e, f, g, i, rfl⟩ := list8 h
  rfl
theorem rndw_len (ws ks : List Int) {st : List Int} (h : st.length = 8) (k : Nat) : (rndw ws ks st k).length = 8 := by
  induction k with
  | zero => exact h
  | succ k ih => exact stpw_len ih _
/-- What a block makes of eight words. -/
def blkw (h bs : List Int) : List Int := List.zipWith (fun x y => (x + y) % 18446744073709551616) h (rndw (schedW bs 80) KW h 80)
theorem blkw_len {h : List Int} (hh : h.length = 8) (bs : List Int) : (blkw h bs).length = 8 := by
  simp [blkw, rndw_len _ _ hh, hh]
theorem blkw_word (h bs : List Int) : ∀ x ∈ blkw h bs, 0 ≤ x ∧ x < 18446744073709551616 := by
  intro x hx
  simp only [blkw, List.mem_iff_getElem?] at hx
  obtain ⟨i, hi⟩ := hx
  rw [List.getElem?_zipWith] at hi
  split at hi
  · simp only [Option.some.injEq] at hi
    omega
  · cases hi
/-- The two halves of a word. -/
def hv2 (x : Int) : List Int := [x / 4294967296, x % 4294967296]
def halves (l : List Int) : List Int := l.flatMap hv2
end Go.Proofs.YtihoaakbkffejaaGreatDoor
namespace Go.Proofs.YtihoaakbkffejaaGreatDoor
open Go.RowKit

theorem zeroRun {P : Program} {t : TypeId} {z : Value} (h : (P.info? t).map (·.zero) = some (some z)) (w : World) : (zeroValue t).run P w = .ok z w := by
  cases hi : P.info? t with
  | none => rw [hi] at h; cases h
  | some i =>
    rw [hi] at h
    simp only [Option.map_some, Option.some.injEq] at h
    simp [zeroValue, typeInfo, hi, h]
end Go.Proofs.YtihoaakbkffejaaGreatDoor
namespace Go.Proofs.YtihoaakbkffejaaGreatDoor
open Go.RowKit

end Go.Proofs.YtihoaakbkffejaaGreatDoor
namespace Go.Proofs.YtihoaakbkffejaaGreatDoor
open Go.RowKit

abbrev Z8W : List Int := [0, 0, 0, 0, 0, 0, 0, 0]

/-- Where the rounds' loop stands. -/
structure BdW (w W : World) (P G : Nat) (hs ws st : List Int) : Prop where
  a2 : Arr W w.heap.size 100 (U64 hs)
  a4 : Arr W (w.heap.size + 1) 100 (U64 Z8W)
  a5 : Arr W P 160 (U64 ws)
  a12 : Arr W G 100 (U64 st)
  fr : Below w.heap.size w W
  ge : w.heap.size + 1 < P
  gg : P < G
theorem BdW.go {w W W' : World} {P G : Nat} {hs ws st : List Int} (h : BdW w W P G hs ws st) (hb : Below W.heap.size W W') : BdW w W' P G hs ws st :=
  ⟨h.a2.kept hb, h.a4.kept hb, h.a5.kept hb, h.a12.kept hb, h.fr.trans (hb.mono h.fr.size), h.ge, h.gg⟩
theorem BdW.cells {w W : World} {P G : Nat} {hs ws : List Int} {a0 a1 a2 a3 a4 a5 a6 a7 : Int} (h : BdW w W P G hs ws [a0, a1, a2, a3, a4, a5, a6, a7]) (k : Nat) (hk : k < ws.length) :
    W.cell? ⟨G, 0, none⟩ = some (.int .u64 a0) ∧ W.cell? ⟨G, 1, none⟩ = some (.int .u64 a1) ∧ W.cell? ⟨G, 2, none⟩ = some (.int .u64 a2) ∧ W.cell? ⟨G, 3, none⟩ = some (.int .u64 a3) ∧ W.cell? ⟨G, 4, none⟩ = some (.int .u64 a4) ∧
      W.cell? ⟨G, 5, none⟩ = some (.int .u64 a5) ∧ W.cell? ⟨G, 6, none⟩ = some (.int .u64 a6) ∧ W.cell? ⟨G, 7, none⟩ = some (.int .u64 a7) ∧ W.cell? ⟨P, k, none⟩ = some (.int .u64 (ws.getD k 0)) :=
  ⟨h.a12.u64 0 (by simp), h.a12.u64 1 (by simp), h.a12.u64 2 (by simp), h.a12.u64 3 (by simp), h.a12.u64 4 (by simp), h.a12.u64 5 (by simp), h.a12.u64 6 (by simp), h.a12.u64 7 (by simp), h.a5.u64 k hk⟩
theorem BdW.two {w W : World} {P G : Nat} {hs ws : List Int} {a0 a1 a2 a3 a4 a5 a6 a7 x : Int} (h : BdW w W P G hs ws [a0, a1, a2, a3, a4, a5, a6, a7]) {k : Nat} (hk : k < ws.length) (hx : x = ws.getD k 0) :
    W.cell? ⟨G, 7, none⟩ = some (.int .u64 a7) ∧ W.cell? ⟨P, k, none⟩ = some (.int .u64 x) := by
  subst hx
  exact ⟨h.a12.u64 7 (by simp), h.a5.u64 k hk⟩

end Go.Proofs.YtihoaakbkffejaaGreatDoor
namespace Go.Proofs.YtihoaakbkffejaaGreatDoor
open Go.RowKit

/-- The k-th byte of the length in bits, the greatest first. -/
def lenAt (N : Int) (k : Nat) : Int := 8 * N / 2 ^ (56 - 8 * k) % 256
def lenB (N : Int) (k : Nat) : List Int := (List.range k).map (lenAt N)
end Go.Proofs.YtihoaakbkffejaaGreatDoor
