/-
  What is proved here: contracts of the specification's l6flat; the contract of the specification's PtOk: whether two lists are a point; the laws of the points in lists: what is a point, sums, opposites; plain facts on rows that a call owns: how they lie apart, and how they; what an answer in parts in a row of a given type is; the contract of a helper of the exact laws (hold two slices of ints; contracts of two helpers of the exact laws (mark a slice of ints, look; plain facts on rows and cells beside a row that is marked, for the walks; the contract of the specification's l6out: a point in the long form as two; the lists of an answer that is a point; plain facts on a row that a call owns, as one block of memory; an owned row into which one cell is stored.
-/
import Derived.Test.YtihoaakbkffejaaGreatDoorVUd
import Derived.Test.YtihoaakbkffejaaGreatDoorVFd
import Derived.Test.YtihoaakbkffejaaGreatDoorVUc
import Derived.Test.YtihoaakbkffejaaGreatDoorVFm
import Derived.Laws.Rows
import Derived.Test.YtihoaakbkffejaaGreatDoorProg
import Derived.Deep.QuietTactic
import Derived.BigQuiet
import Derived.Test.YtihoaakbkffejaaGreatDoorVFu
import Derived.Deep.MidRow
import Derived.Deep.RegionHeld3
import Derived.Deep.CutRange
namespace Go.Proofs.YtihoaakbkffejaaGreatDoor
open Go.RowKit
set_option maxRecDepth 100000

theorem results_pair {P : Program} {fn : Func} {p q : Tmp} {ty : TypeId} {w : World} {g k : Nat} {t s : TypeId} {cs ds : List Value} {d : TypeDesc} {tmps : Array Value} (h : fn.results = #[.cell p ty, .cell q ty])
  (hp : tmps.getD p undef = .pointer (some ⟨g, 0, none⟩)) (hq : tmps.getD q undef = .pointer (some ⟨k, 0, none⟩)) (hg : Arr w g t cs) (hk : Arr w k s ds) (hu : P.underlying ty = some d) (hd : (match d with | .struct _ | .array _ _ => true | _ => false) = true) (hi : (P.info? ty).map (·.size) = some cs.length) (hj : (P.info? ty).map (·.size) = some ds.length) :
  (results fn tmps).run P w = .ok (.tuple #[.agg cs.toArray, .agg ds.toArray]) w := by
 have hl := run_loadVar_row (P := P) w g t ty cs.toArray (0, 0) d hg hu hd (by simpa using hi)
 have hm := run_loadVar_row (P := P) w k s ty ds.toArray (0, 0) d hk hu hd (by simpa using hj)
 have hp' : tmps[p]?.getD undef = .pointer (some ⟨g, 0, none⟩) := by simpa using hp
 have hq' : tmps[q]?.getD undef = .pointer (some ⟨k, 0, none⟩) := by simpa using hq
 simp only [results, h]
 simp [Sem.run_bind, hp', hq', asAddr, Result.andThen, hl, hm]
theorem inv_ok (l : List Int) : feOk (invF l) = true := ok_red _

set_option maxHeartbeats 4000000 in
theorem spec6flat (P : E4) (w : World) (hP : P.Ok) :
  Calls Tryz.prog 94 #[.agg (I64 P.cells).toArray] w fun e w' => e = .returned (.tuple #[.agg (I64 (flx P)).toArray, .agg (I64 (fly P)).toArray]) ∧ Below w.heap.size w w' := by
 obtain ⟨z, ez⟩ : ∃ z, z = invF P.c := ⟨_, rfl⟩
 have kz : feOk z = true := by rw [ez]; exact inv_ok _
 obtain ⟨x, ex⟩ : ∃ x, x = flx P := ⟨_, rfl⟩
 have kx : feOk x = true := by rw [ex]; exact ok_red _
 obtain ⟨y, ey⟩ : ∃ y, y = fly P := ⟨_, rfl⟩
 have ky : feOk y = true := by rw [ey]; exact ok_red _
 have Hz : Hid (∀ Z, Calls Tryz.prog 115 #[.agg (I64 P.c).toArray] Z fun e w' => e = .returned (.agg (I64 z).toArray) ∧ Below Z.heap.size Z w') := by
  unfold Hid; intro Z; rw [ez]; exact specInv P.c Z (feOk_len hP.c) (feOk_lm' hP.c)
 have Hx : Hid (∀ Z, Calls Tryz.prog 113 #[.agg (I64 P.a).toArray, .agg (I64 z).toArray] Z fun e w' => e = .returned (.agg (I64 x).toArray) ∧ Below Z.heap.size Z w') := by
  unfold Hid; intro Z; rw [ex]; unfold flx; rw [← ez]; exact mulC hP.a kz Z
 have Hy : Hid (∀ Z, Calls Tryz.prog 113 #[.agg (I64 P.b).toArray, .agg (I64 z).toArray] Z fun e w' => e = .returned (.agg (I64 y).toArray) ∧ Below Z.heap.size Z w') := by
  unfold Hid; intro Z; rw [ey]; unfold fly; rw [← ez]; exact mulC hP.b kz Z
 rw [← ex, ← ey]
 have iPa := infoEl hP.a
 have iPb := infoEl hP.b
 have iPc := infoEl hP.c
 have jz := infoE' kz
 have iiz := infoEl kz
 have nz := feOk_len kz
 have jx := infoE' kx
 have jy := infoE' ky
 have iix := infoEl kx
 have iiy := infoEl ky
 have nx := feOk_len kx
 have ny := feOk_len ky
 have ux := one_lm x
 have uy := one_lm y
 have hu : Tryz.prog.underlying 80 = some (.array 16 3) := Tryz.underlying80
 obtain ⟨A, hA⟩ : ∃ A, A = (I64 P.cells).toArray := ⟨_, rfl⟩
 obtain ⟨W, hW⟩ : ∃ W, W = ((w.alloc (.cells A 86)).alloc (.cells #[.int .i64 0, .int .i64 0, .int .i64 0, .int .i64 0, .int .i64 0, .int .i64 0, .int .i64 0, .int .i64 0, .int .i64 0, .int .i64 0, .int .i64 0, .int .i64 0, .int .i64 0, .int .i64 0, .int .i64 0, .int .i64 0] 80)).alloc (.cells #[.int .i64 0, .int .i64 0, .int .i64 0, .int .i64 0, .int .i64 0, .int .i64 0, .int .i64 0, .int .i64 0, .int .i64 0, .int .i64 0, .int .i64 0, .int .i64 0, .int .i64 0, .int .i64 0, .int .i64 0, .int .i64 0] 80) := ⟨_, rfl⟩
 have fr : Below w.heap.size w W := by rw [hW]; exact (((Below.refl _ _).alloc (Nat.le_refl _) _).alloc (by simp) _).alloc (by simp; omega) _
 have pa : Arr W w.heap.size 86 (I64 P.cells) := by rw [hW, hA]; exact ((Arr.new w (I64 P.cells) _).alloc _).alloc _
 have p1 : Arr W (w.heap.size + 1) 80 (I64 Z16) := by
  rw [hW]
  have := (Arr.new (w.alloc (.cells A 86)) (I64 Z16) 80).alloc (.cells (I64 Z16).toArray 80)
  rw [World.size_alloc] at this
  exact this
 have p2 : Arr W (w.heap.size + 2) 80 (I64 Z16) := by
  rw [hW]
  have := Arr.new ((w.alloc (.cells A 86)).alloc (.cells (I64 Z16).toArray 80)) (I64 Z16) 80
  rw [World.size_alloc, World.size_alloc] at this
  exact this
 rw [← hA]
 clear hA ez ex ey kz kx ky
 go_enter Tryz.func94, Tryz.ntmps94
 go_upto_region 1 with fail
 rw [← hW]
 clear hW
 go_wp2_with (refine wpList_load_mid rfl 80 _ rfl w.heap.size 32 rfl (I64 P.c) _ (E4.rc hP pa) Tryz.underlying80 rfl iPc ?_)
 refine (Hz.out _).mono ?_
 rintro e y1 ⟨rfl, hb1⟩
 replace fr := fr.trans (hb1.mono fr.size)
 replace pa := pa.kept hb1
 replace p1 := p1.kept hb1
 replace p2 := p2.kept hb1
 clear hb1
 have hzz : w.heap.size + 2 < y1.heap.size := p2.lt
 obtain ⟨bV, Az, q1⟩ := laid_e y1 z
 replace fr := fr.trans (bV.mono fr.size)
 replace pa := pa.kept bV
 replace p1 := p1.kept bV
 replace p2 := p2.kept bV
 go_wp2_with (refine wpList_store_row rfl 80 _ _ rfl y1.heap.size (I64 z).toArray rfl rfl 80 _ q1 jz (by simp [nz]) (by simp [Value.oneCell']) ?_)
 obtain ⟨V2, hVV⟩ : ∃ V, V = (y1.alloc (.cells #[.int .i64 0, .int .i64 0, .int .i64 0, .int .i64 0, .int .i64 0, .int .i64 0, .int .i64 0, .int .i64 0, .int .i64 0, .int .i64 0, .int .i64 0, .int .i64 0, .int .i64 0, .int .i64 0, .int .i64 0, .int .i64 0] 80)).setRow y1.heap.size (I64 z).toArray := ⟨_, rfl⟩
 obtain ⟨Xz, hE⟩ : ∃ E, E = y1.heap.size := ⟨_, rfl⟩
 rw [← hVV] at fr pa p1 p2 Az ⊢
 rw [← hE] at Az hzz ⊢
 clear hVV hE q1 bV
 try simp only [Act.put]
 have bD : Below V2.heap.size V2 V2.drew := (Below.refl _ _).drew
 replace fr := fr.trans (bD.mono fr.size)
 replace pa := pa.kept bD
 replace p1 := p1.kept bD
 replace p2 := p2.kept bD
 replace Az := Az.kept bD
 clear bD
 refine wp_region_held_drew (S := fun W => W.rangeAt w.heap.size 0 (I64 P.a) ∧ W.rangeAt w.heap.size 16 (I64 P.b) ∧ W.rangeAt Xz 0 (I64 z)) (by kernel_rfl) ⟨E4.ra pa, E4.rb hP pa, arr_range Az⟩ (fun hHeld => ?_)
 obtain ⟨D3, hD⟩ : ∃ V, V = V2.drew := ⟨_, rfl⟩
 rw [← hD] at hHeld fr pa p1 p2 Az ⊢
 clear hD
 refine wpAnyH_take (i := 0) (oi := { dst := some 8, op := Op.fieldAddr 86 (Operand.tmp 1) 0, type := 0, pos := "l06_point.go:69", after := #[], guard := none }) (v := .pointer (some ⟨w.heap.size, 0, none⟩)) rfl (by kernel_rfl) (by kernel_rfl) (by kernel_rfl) (fun _ _ _ h => h) (.inl ⟨by rfl, fun _ _ => by rfl⟩) (by assumption) ?_
 simp only [Act.put, List.setIfInBounds_toArray, List.set_cons_zero, List.set_cons_succ]
 refine wpAnyH_take (i := 1) (oi := { dst := some 9, op := Op.load 80 (Operand.tmp 8), type := 80, pos := "l06_point.go:69", after := #[{ on := 0, ground := Ground.data }], guard := none }) (v := _) rfl (by kernel_rfl) (by kernel_rfl) (by kernel_rfl) (fun _ _ _ h => h) (yieldsIf_load_mid (by rfl) _ _ rfl _ _ rfl (I64 P.a) _ (fun _ h => h.1) hu rfl iPa) (by assumption) ?_
 simp only [Act.put, List.setIfInBounds_toArray, List.set_cons_zero, List.set_cons_succ]
 refine wpAnyH_take (i := 2) (oi := { dst := some 10, op := Op.load 80 (Operand.tmp 4), type := 80, pos := "l06_point.go:69", after := #[], guard := none }) (v := _) rfl (by kernel_rfl) (by kernel_rfl) (by kernel_rfl) (fun _ _ _ h => h) (yieldsIf_load_mid (by rfl) _ _ rfl _ _ rfl (I64 z) _ (fun _ h => h.2.2) hu rfl iiz) (by assumption) ?_
 simp only [Act.put, List.setIfInBounds_toArray, List.set_cons_zero, List.set_cons_succ]
 refine wpAnyH_take (i := 4) (oi := { dst := some 12, op := Op.fieldAddr 86 (Operand.tmp 1) 1, type := 0, pos := "l06_point.go:69", after := #[], guard := none }) (v := .pointer (some ⟨w.heap.size, 16, none⟩)) rfl (by kernel_rfl) (by kernel_rfl) (by kernel_rfl) (fun _ _ _ h => h) (.inl ⟨by rfl, fun _ _ => by rfl⟩) (by assumption) ?_
 simp only [Act.put, List.setIfInBounds_toArray, List.set_cons_zero, List.set_cons_succ]
 refine wpAnyH_take (i := 5) (oi := { dst := some 13, op := Op.load 80 (Operand.tmp 12), type := 80, pos := "l06_point.go:69", after := #[{ on := 4, ground := Ground.data }], guard := none }) (v := _) rfl (by kernel_rfl) (by kernel_rfl) (by kernel_rfl) (fun _ _ _ h => h) (yieldsIf_load_mid (by rfl) _ _ rfl _ _ rfl (I64 P.b) _ (fun _ h => h.2.1) hu rfl iPb) (by assumption) ?_
 simp only [Act.put, List.setIfInBounds_toArray, List.set_cons_zero, List.set_cons_succ]
 refine wpAnyH_take (i := 6) (oi := { dst := some 14, op := Op.load 80 (Operand.tmp 4), type := 80, pos := "l06_point.go:69", after := #[], guard := none }) (v := _) rfl (by kernel_rfl) (by kernel_rfl) (by kernel_rfl) (fun _ _ _ h => h) (yieldsIf_load_mid (by rfl) _ _ rfl _ _ rfl (I64 z) _ (fun _ h => h.2.2) hu rfl iiz) (by assumption) ?_
 simp only [Act.put, List.setIfInBounds_toArray, List.set_cons_zero, List.set_cons_succ]
 refine wpAnyH_ready (rs := [3]) (by kernel_rfl) (by simp) (AllReadyH.cons (o := { dst := some 11, op := Op.call { callee := Callee.value (Operand.func 113), args := #[Operand.tmp 9, Operand.tmp 10], argTypes := #[80, 80] }, type := 80, pos := "l06_point.go:69", after := #[{ on := 1, ground := Ground.data }, { on := 2, ground := Ground.data }], guard := none }) rfl (fun K hK => ?_) AllReadyH.nil)
 go_simp
 refine (Hx.out _).mono ?_
 rintro e y4 ⟨rfl, hb4⟩
 replace fr := fr.trans (hb4.mono fr.size)
 replace pa := pa.kept hb4
 replace p1 := p1.kept hb4
 replace p2 := p2.kept hb4
 replace Az := Az.kept hb4
 clear hb4
 go_wp2_with fail
 refine hK.out _ _ ⟨E4.ra pa, E4.rb hP pa, arr_range Az⟩ (fun hHeld => ?_)
 clear hK K
 refine wpAnyH_ready (rs := [7]) (by kernel_rfl) (by simp) (AllReadyH.cons (o := { dst := some 15, op := Op.call { callee := Callee.value (Operand.func 113), args := #[Operand.tmp 13, Operand.tmp 14], argTypes := #[80, 80] }, type := 80, pos := "l06_point.go:69", after := #[{ on := 5, ground := Ground.data }, { on := 6, ground := Ground.data }, { on := 3, ground := Ground.chain }], guard := none }) rfl (fun K hK => ?_) AllReadyH.nil)
 go_simp
 refine (Hy.out _).mono ?_
 rintro e y5 ⟨rfl, hb5⟩
 replace fr := fr.trans (hb5.mono fr.size)
 replace pa := pa.kept hb5
 replace p1 := p1.kept hb5
 replace p2 := p2.kept hb5
 replace Az := Az.kept hb5
 clear hb5
 go_wp2_with fail
 refine hK.out _ _ ⟨E4.ra pa, E4.rb hP pa, arr_range Az⟩ (fun hHeld => ?_)
 clear hK K
 refine wpAnyH_ready (rs := [8]) (by kernel_rfl) (by simp) (AllReadyH.cons (o := { dst := none, op := Op.store 80 (Operand.tmp 2) (Operand.tmp 11), type := 0, pos := "l06_point.go:69", after := #[{ on := 3, ground := Ground.data }, { on := 7, ground := Ground.chain }, { on := 0, ground := Ground.phase }, { on := 1, ground := Ground.phase }, { on := 2, ground := Ground.phase }, { on := 3, ground := Ground.phase }, { on := 4, ground := Ground.textOnly Departure.lateStores }, { on := 5, ground := Ground.textOnly Departure.lateStores }, { on := 6, ground := Ground.textOnly Departure.lateStores }, { on := 7, ground := Ground.textOnly Departure.lateStoresUnsure }], guard := none }) rfl (fun K hK => ?_) AllReadyH.nil)
 rw [if_pos (by rfl)]
 refine wp_store_mid _ _ _ rfl _ _ (I64 x).toArray rfl rfl (by have := arr_there p1; simpa [nx] using this) jx (all_oneCell_toArray ux) ?_
 simp only [Act.put]
 obtain ⟨V6, hVe⟩ : ∃ V, V = y5.setCells (w.heap.size + 1) 0 (I64 x) := ⟨_, rfl⟩
 rw [← hVe]
 replace fr : Below w.heap.size w V6 := by rw [hVe]; exact setCells_below (by omega) _ _ fr
 replace pa : Arr V6 w.heap.size 86 (I64 P.cells) := by rw [hVe]; exact Arr.setCellsO (by omega) _ _ pa
 replace p1 : Arr V6 (w.heap.size + 1) 80 (I64 x) := by rw [hVe]; exact Arr.setCells0 p1 (by simp [nx])
 replace p2 : Arr V6 (w.heap.size + 2) 80 (I64 Z16) := by rw [hVe]; exact Arr.setCellsO (by omega) _ _ p2
 replace Az : Arr V6 Xz 80 (I64 z) := by rw [hVe]; exact Arr.setCellsO (by omega) _ _ Az
 clear hVe
 refine hK.out _ _ ⟨E4.ra pa, E4.rb hP pa, arr_range Az⟩ (fun hHeld => ?_)
 clear hK K
 refine wpAnyH_ready (rs := [9]) (by kernel_rfl) (by simp) (AllReadyH.cons (o := { dst := none, op := Op.store 80 (Operand.tmp 3) (Operand.tmp 15), type := 0, pos := "l06_point.go:69", after := #[{ on := 7, ground := Ground.data }, { on := 8, ground := Ground.chain }, { on := 0, ground := Ground.phase }, { on := 1, ground := Ground.phase }, { on := 2, ground := Ground.phase }, { on := 3, ground := Ground.phase }, { on := 4, ground := Ground.phase }, { on := 5, ground := Ground.phase }, { on := 6, ground := Ground.phase }, { on := 7, ground := Ground.phase }, { on := 8, ground := Ground.phase }], guard := none }) rfl (fun K hK => ?_) AllReadyH.nil)
 rw [if_pos (by rfl)]
 refine wp_store_mid _ _ _ rfl _ _ (I64 y).toArray rfl rfl (by have := arr_there p2; simpa [ny] using this) jy (all_oneCell_toArray uy) ?_
 simp only [Act.put]
 obtain ⟨V7, hVe⟩ : ∃ V, V = V6.setCells (w.heap.size + 2) 0 (I64 y) := ⟨_, rfl⟩
 rw [← hVe]
 replace fr : Below w.heap.size w V7 := by rw [hVe]; exact setCells_below (by omega) _ _ fr
 replace pa : Arr V7 w.heap.size 86 (I64 P.cells) := by rw [hVe]; exact Arr.setCellsO (by omega) _ _ pa
 replace p1 : Arr V7 (w.heap.size + 1) 80 (I64 x) := by rw [hVe]; exact Arr.setCellsO (by omega) _ _ p1
 replace p2 : Arr V7 (w.heap.size + 2) 80 (I64 y) := by rw [hVe]; exact Arr.setCells0 p2 (by simp [ny])
 replace Az : Arr V7 Xz 80 (I64 z) := by rw [hVe]; exact Arr.setCellsO (by omega) _ _ Az
 clear hVe
 refine hK.out _ _ ⟨E4.ra pa, E4.rb hP pa, arr_range Az⟩ (fun hHeld => ?_)
 clear hK K
 refine wpAnyH_done (by kernel_rfl) ?_ _
 go_wp2
 exact bodyPost_ret (results_pair (cs := I64 x) (ds := I64 y) rfl rfl rfl p1 p2 hu rfl iix iiy) rfl ⟨rfl, fr⟩

theorem infoPt : (Tryz.prog.info? 33).map (·.size) = some 2 := by kernel_rfl
def ptOk (xs ys : List Int) : Bool := feOk xs && feOk ys && onB xs ys
theorem ptOk_iff (xs ys : List Int) : ptOk xs ys = true ↔ feOk xs = true ∧ feOk ys = true ∧ onB xs ys = true := by
 unfold ptOk
 simp only [Bool.and_eq_true, and_assoc]
set_option maxHeartbeats 4000000
set_option linter.unusedSectionVars false

def pt (xs ys : List Int) : KF × KF := (fl xs, fl ys)
theorem pt_back (p : KF × KF) : pt (cx p.1) (cx p.2) = p := by unfold pt; rw [fl_cx, fl_cx]
theorem pt_cx {xs ys : List Int} (h : ptOk xs ys = true) : cx (pt xs ys).1 = xs ∧ cx (pt xs ys).2 = ys := by
 obtain ⟨h1, h2, _⟩ := (ptOk_iff xs ys).1 h
 exact ⟨cx_fl h1, cx_fl h2⟩
section
variable [NeZero pN]
theorem pt_on {xs ys : List Int} (h : ptOk xs ys = true) : On dK (pt xs ys) := (onB_iff xs ys).1 ((ptOk_iff xs ys).1 h).2.2
theorem pt_ok {p : KF × KF} (h : On dK p) : ptOk (cx p.1) (cx p.2) = true := by
 refine (ptOk_iff _ _).2 ⟨cx_ok _, cx_ok _, (onB_iff _ _).2 ?_⟩
 have := pt_back p
 unfold pt at this
 rw [this]
 exact h
theorem pt_add {xs ys us vs : List Int} (h : ptOk xs ys = true) (k : ptOk us vs = true) :
  flx (add6 (mk6 xs ys) (mk6 us vs)) = cx (pAdd dK ivK (pt xs ys) (pt us vs)).1 ∧ fly (add6 (mk6 xs ys) (mk6 us vs)) = cx (pAdd dK ivK (pt xs ys) (pt us vs)).2 :=
 ext6_flat (ext6_add (ext6_make xs ys) (ext6_make us vs) (pt_on h) (pt_on k))
theorem pt_neg (xs ys : List Int) : flx (neg6 (mk6 xs ys)) = cx (pNeg (pt xs ys)).1 ∧ fly (neg6 (mk6 xs ys)) = cx (pNeg (pt xs ys)).2 :=
 ext6_flat (ext6_neg (ext6_make xs ys))
theorem pt_mul {xs ys : List Int} (h : ptOk xs ys = true) (N : Nat) (hN : N < 2 ^ 256) :
  flx (mul6 (mk6 xs ys) N) = cx (pMul dK ivK N (pt xs ys)).1 ∧ fly (mul6 (mk6 xs ys) N) = cx (pMul dK ivK N (pt xs ys)).2 :=
 ext6_flat (ext6_mul (ext6_make xs ys) (pt_on h) N hN)
theorem one_nought (d y : KF) (h : 1 + d * (y * y) = 0) (hy : y = 0) : (1 : KF) = 0 := by
 have e : (1 : KF) = 0 - d * y * y := by grind
 have e2 : ∀ a b : KF, b = 0 → a - d * y * b = a := by intro a b hb; grind
 rw [e, e2 _ _ hy]
theorem sub_nought (a : KF) : a - a = 0 := by grind
end
end Go.Proofs.YtihoaakbkffejaaGreatDoor
namespace Go.Proofs.YtihoaakbkffejaaGreatDoor
open Go.RowKit

def Apart (u v : Value) : Prop := ∀ k, u.ownBlock = some k → v.ownBlock ≠ some k
theorem Apart.symm {u v : Value} (h : Apart u v) : Apart v u := fun k hk he => h k he hk
theorem is_of_own {W : World} {B n c e : Nat} {a : Option Addr} {l : List Int} (h : W.ownsRow B e 1 (.slice a n c) n (I64 l)) (hby : ∀ x ∈ l, -9223372036854775808 ≤ x ∧ x ≤ 9223372036854775807) : Is W a n c l := by
 obtain ⟨a', c', e, _, hb⟩ := Is.own h hby
 simp only [Value.slice.injEq, true_and] at e
 obtain ⟨rfl, rfl⟩ := e
 exact hb
theorem bs_of_own {W : World} {B n c : Nat} {a : Option Addr} {l : List Int} (h : W.ownsRow B 5 1 (.slice a n c) n (U8 l)) (hby : ∀ x ∈ l, 0 ≤ x ∧ x < 256) : Bs W a n c l := by
 obtain ⟨a', c', e, _, hb⟩ := Bs.own h hby
 simp only [Value.slice.injEq, true_and] at e
 obtain ⟨rfl, rfl⟩ := e
 exact hb

def In (v : Value) (lo hi : Nat) : Prop := ∀ k, v.ownBlock = some k → lo ≤ k ∧ k < hi
theorem In.of {W : World} {B e s n : Nat} {v : Value} {l : List Value} (h : W.ownsRow B e s v n l) : In v B W.heap.size := fun k hk => h.lt k hk
theorem In.apart {u v : Value} {a b c d : Nat} (h : In u a b) (h' : In v c d) (hl : b ≤ c ∨ d ≤ a) : Apart u v := fun k hk he => by
 have := h k hk
 have := h' k he
 omega
theorem In.ne {u : Value} {a b g : Nat} (h : In u a b) (hg : g < a ∨ b ≤ g) : u.ownBlock ≠ some g := fun he => by
 have := h g he
 omega
def FeT (ty : TypeId) (w w' : World) (v : Value) (l : List Int) : Prop := ∃ a c, v = .agg #[.slice a l.length c] ∧ w'.ownsRow w.heap.size ty 1 (.slice a l.length c) l.length (I64 l)
theorem feT_nil (ty : TypeId) (w w' : World) : FeT ty w w' (.agg #[.slice none 0 0]) [] := ⟨none, 0, rfl, World.ownsRow_nil _ _ _ _⟩
theorem feT_16 {ty : TypeId} {w w' : World} {a : Option Addr} {c : Nat} {l : List Int} (hl : l.length = 16) (h : w'.ownsRow w.heap.size ty 1 (.slice a 16 c) 16 (I64 l)) : FeT ty w w' (.agg #[.slice a 16 c]) l := ⟨a, c, by rw [hl], by rw [hl]; exact h⟩
end Go.Proofs.YtihoaakbkffejaaGreatDoor
namespace Go.Proofs.YtihoaakbkffejaaGreatDoor
open Go.RowKit
set_option maxRecDepth 100000

theorem heap_setCells_other {g k : Nat} (hne : k ≠ g) : ∀ (vs : List Value) {w : World} (j : Nat), (w.setCells g j vs).heap[k]? = w.heap[k]?
 | [], _, _ => rfl
 | v :: vs, w, j => (heap_setCells_other hne vs (j + 1)).trans (heap_setCell_other w ⟨g, j, none⟩ k v hne)
theorem own_setCells {W : World} {lo e s n hi E : Nat} {v : Value} {xs : List Value} (h : W.ownsRow lo e s v n xs) (i : In v lo hi) (hE : E < lo ∨ hi ≤ E) (cs : List Value) : (W.setCells E 0 cs).ownsRow lo e s v n xs := by
 refine ⟨h.1, ?_⟩
 rcases h.2 with hn | ⟨g, cap, cur, rfl, hg, hgg, rest⟩
 ·exact .inl hn
 ·have h1 := i g rfl
  exact .inr ⟨g, cap, cur, rfl, hg, (heap_setCells_other (by omega) cs 0).trans hgg, rest⟩
def PtT (ty : TypeId) (w w' : World) (v : Value) (xs ys : List Int) : Prop := ∃ a c b d, v = .agg #[.slice a xs.length c, .slice b ys.length d] ∧ w'.ownsRow w.heap.size ty 1 (.slice a xs.length c) xs.length (I64 xs) ∧ w'.ownsRow w.heap.size ty 1 (.slice b ys.length d) ys.length (I64 ys) ∧ Apart (.slice a xs.length c) (.slice b ys.length d)
theorem ptT_nil (ty : TypeId) (w w' : World) : PtT ty w w' (.agg #[.slice none 0 0, .slice none 0 0]) [] [] := ⟨none, 0, none, 0, rfl, World.ownsRow_nil _ _ _ _, World.ownsRow_nil _ _ _ _, fun k hk => by cases hk⟩
theorem ptT_16 {ty : TypeId} {w w' : World} {a b : Option Addr} {c d : Nat} {xs ys : List Int} (hx : xs.length = 16) (hy : ys.length = 16) (h : w'.ownsRow w.heap.size ty 1 (.slice a 16 c) 16 (I64 xs)) (h' : w'.ownsRow w.heap.size ty 1 (.slice b 16 d) 16 (I64 ys)) (hA : Apart (.slice a 16 c) (.slice b 16 d)) : PtT ty w w' (.agg #[.slice a 16 c, .slice b 16 d]) xs ys := ⟨a, c, b, d, by rw [hx, hy], by rw [hx]; exact h, by rw [hy]; exact h', by rw [hx, hy]; exact hA⟩
theorem build_pt (u v : Value) (w : World) : (Instr.build 33 #[(0, .agg #[u]), (1, .agg #[v])]).run Tryz.prog w = .ok (.agg #[u, v]) w := by kernel_rfl
theorem yieldsIf_pt {ops : Array Oper} {S : World → Prop} {op : Oper} {act : Act} (hw : Region.wanted op (yielded ops act.tmps) = true) (x y : Operand) (ho : op.op = .build 33 #[(0, x), (1, y)]) (u v : Value) (hx : act.eval x = .agg #[u]) (hy : act.eval y = .agg #[v]) : YieldsIf Tryz.prog ops S op (.agg #[u, v]) act :=
 .inl ⟨hw, fun w _ => by
  unfold execOp
  simp only [ho, hx, hy, Sem.run_bind, List.map_toArray, List.map_cons, List.map_nil, build_pt u v w, Sem.run_pure, Result.andThen_ok]⟩
theorem laid_e2 (w1 : World) (L M : List Int) :
  Below w1.heap.size w1 ((((w1.alloc (.cells #[.int .i64 0, .int .i64 0, .int .i64 0, .int .i64 0, .int .i64 0, .int .i64 0, .int .i64 0, .int .i64 0, .int .i64 0, .int .i64 0, .int .i64 0, .int .i64 0, .int .i64 0, .int .i64 0, .int .i64 0, .int .i64 0] 80)).alloc (.cells #[.int .i64 0, .int .i64 0, .int .i64 0, .int .i64 0, .int .i64 0, .int .i64 0, .int .i64 0, .int .i64 0, .int .i64 0, .int .i64 0, .int .i64 0, .int .i64 0, .int .i64 0, .int .i64 0, .int .i64 0, .int .i64 0] 80)).setRow w1.heap.size (I64 L).toArray).setRow (w1.heap.size + 1) (I64 M).toArray) ∧
  Arr ((((w1.alloc (.cells #[.int .i64 0, .int .i64 0, .int .i64 0, .int .i64 0, .int .i64 0, .int .i64 0, .int .i64 0, .int .i64 0, .int .i64 0, .int .i64 0, .int .i64 0, .int .i64 0, .int .i64 0, .int .i64 0, .int .i64 0, .int .i64 0] 80)).alloc (.cells #[.int .i64 0, .int .i64 0, .int .i64 0, .int .i64 0, .int .i64 0, .int .i64 0, .int .i64 0, .int .i64 0, .int .i64 0, .int .i64 0, .int .i64 0, .int .i64 0, .int .i64 0, .int .i64 0, .int .i64 0, .int .i64 0] 80)).setRow w1.heap.size (I64 L).toArray).setRow (w1.heap.size + 1) (I64 M).toArray) w1.heap.size 80 (I64 L) ∧
  Arr ((((w1.alloc (.cells #[.int .i64 0, .int .i64 0, .int .i64 0, .int .i64 0, .int .i64 0, .int .i64 0, .int .i64 0, .int .i64 0, .int .i64 0, .int .i64 0, .int .i64 0, .int .i64 0, .int .i64 0, .int .i64 0, .int .i64 0, .int .i64 0] 80)).alloc (.cells #[.int .i64 0, .int .i64 0, .int .i64 0, .int .i64 0, .int .i64 0, .int .i64 0, .int .i64 0, .int .i64 0, .int .i64 0, .int .i64 0, .int .i64 0, .int .i64 0, .int .i64 0, .int .i64 0, .int .i64 0, .int .i64 0] 80)).setRow w1.heap.size (I64 L).toArray).setRow (w1.heap.size + 1) (I64 M).toArray) (w1.heap.size + 1) 80 (I64 M) ∧
  Arr ((w1.alloc (.cells #[.int .i64 0, .int .i64 0, .int .i64 0, .int .i64 0, .int .i64 0, .int .i64 0, .int .i64 0, .int .i64 0, .int .i64 0, .int .i64 0, .int .i64 0, .int .i64 0, .int .i64 0, .int .i64 0, .int .i64 0, .int .i64 0] 80)).alloc (.cells #[.int .i64 0, .int .i64 0, .int .i64 0, .int .i64 0, .int .i64 0, .int .i64 0, .int .i64 0, .int .i64 0, .int .i64 0, .int .i64 0, .int .i64 0, .int .i64 0, .int .i64 0, .int .i64 0, .int .i64 0, .int .i64 0] 80)) w1.heap.size 80 (I64 Z16) ∧
  Arr (((w1.alloc (.cells #[.int .i64 0, .int .i64 0, .int .i64 0, .int .i64 0, .int .i64 0, .int .i64 0, .int .i64 0, .int .i64 0, .int .i64 0, .int .i64 0, .int .i64 0, .int .i64 0, .int .i64 0, .int .i64 0, .int .i64 0, .int .i64 0] 80)).alloc (.cells #[.int .i64 0, .int .i64 0, .int .i64 0, .int .i64 0, .int .i64 0, .int .i64 0, .int .i64 0, .int .i64 0, .int .i64 0, .int .i64 0, .int .i64 0, .int .i64 0, .int .i64 0, .int .i64 0, .int .i64 0, .int .i64 0] 80)).setRow w1.heap.size (I64 L).toArray) (w1.heap.size + 1) 80 (I64 Z16) := by
 have q1 : Arr ((w1.alloc (.cells #[.int .i64 0, .int .i64 0, .int .i64 0, .int .i64 0, .int .i64 0, .int .i64 0, .int .i64 0, .int .i64 0, .int .i64 0, .int .i64 0, .int .i64 0, .int .i64 0, .int .i64 0, .int .i64 0, .int .i64 0, .int .i64 0] 80)).alloc (.cells #[.int .i64 0, .int .i64 0, .int .i64 0, .int .i64 0, .int .i64 0, .int .i64 0, .int .i64 0, .int .i64 0, .int .i64 0, .int .i64 0, .int .i64 0, .int .i64 0, .int .i64 0, .int .i64 0, .int .i64 0, .int .i64 0] 80)) w1.heap.size 80 (I64 Z16) := (Arr.new w1 (I64 Z16) _).alloc _
 have q2 : Arr ((w1.alloc (.cells #[.int .i64 0, .int .i64 0, .int .i64 0, .int .i64 0, .int .i64 0, .int .i64 0, .int .i64 0, .int .i64 0, .int .i64 0, .int .i64 0, .int .i64 0, .int .i64 0, .int .i64 0, .int .i64 0, .int .i64 0, .int .i64 0] 80)).alloc (.cells #[.int .i64 0, .int .i64 0, .int .i64 0, .int .i64 0, .int .i64 0, .int .i64 0, .int .i64 0, .int .i64 0, .int .i64 0, .int .i64 0, .int .i64 0, .int .i64 0, .int .i64 0, .int .i64 0, .int .i64 0, .int .i64 0] 80)) (w1.heap.size + 1) 80 (I64 Z16) := by
  have := Arr.new (w1.alloc (.cells (I64 Z16).toArray 80)) (I64 Z16) 80
  rw [World.size_alloc] at this
  exact this
 have hb : Below w1.heap.size w1 ((w1.alloc (.cells #[.int .i64 0, .int .i64 0, .int .i64 0, .int .i64 0, .int .i64 0, .int .i64 0, .int .i64 0, .int .i64 0, .int .i64 0, .int .i64 0, .int .i64 0, .int .i64 0, .int .i64 0, .int .i64 0, .int .i64 0, .int .i64 0] 80)).alloc (.cells #[.int .i64 0, .int .i64 0, .int .i64 0, .int .i64 0, .int .i64 0, .int .i64 0, .int .i64 0, .int .i64 0, .int .i64 0, .int .i64 0, .int .i64 0, .int .i64 0, .int .i64 0, .int .i64 0, .int .i64 0, .int .i64 0] 80)) := ((Below.refl _ _).alloc (Nat.le_refl _) _).alloc (by simp) _
 exact ⟨setRow_below (setRow_below hb _ _ (Nat.le_refl _)) _ _ (by omega), (q1.row _).rowOther _ _ (by omega), (q2.rowOther _ _ (by omega)).row _, q1, q2.rowOther _ _ (by omega)⟩
def ptx (ok : Bool) (R : E4) : List Int := if ok = true then flx R else []
def pty (ok : Bool) (R : E4) : List Int := if ok = true then fly R else []
theorem own_rowM {W : World} {lo e s n hi E : Nat} {v : Value} {xs : List Value} (h : W.ownsRow lo e s v n xs) (i : In v lo hi) (hE : E < lo ∨ hi ≤ E) (cs : Array Value) : (W.setRow E cs).ownsRow lo e s v n xs := by
 refine ⟨h.1, ?_⟩
 rcases h.2 with hn | ⟨g, cap, cur, rfl, hg, hgg, rest⟩
 ·exact .inl hn
 ·have := i g rfl
  exact .inr ⟨g, cap, cur, rfl, hg, (setRow_other W E g cs (by omega)).trans hgg, rest⟩
end Go.Proofs.YtihoaakbkffejaaGreatDoor
namespace Go.Proofs.YtihoaakbkffejaaGreatDoor
open Go.RowKit

theorem own_same {A B : World} {b e s m : Nat} {g cap : Nat} {xs : List Value} (h : A.ownsRow b e s (.slice (some ⟨g, 0, none⟩) m cap) m xs) (hs : B.heap[g]? = A.heap[g]?) : B.ownsRow b e s (.slice (some ⟨g, 0, none⟩) m cap) m xs := by
 refine ⟨h.1, ?_⟩
 rcases h.2 with ⟨hn, _⟩ | ⟨g', cap', cur, he, hb, hg, rest⟩
 ·cases hn
 ·cases he
  exact .inr ⟨g, cap, cur, rfl, hb, hs.trans hg, rest⟩
theorem own_cell {A : World} {b e m : Nat} {g cap : Nat} {K : IntKind} {l : List Int} (h : A.ownsRow b e 1 (.slice (some ⟨g, 0, none⟩) m cap) m (l.map (Value.int K))) (j : Nat) (hj : j < l.length) : A.cell? ⟨g, j, none⟩ = some (.int K (l.getD j 0)) := by
 have hl : l.length = m := by simpa using h.1
 rcases h.2 with ⟨hn, _⟩ | ⟨g', cap', cur, he, hb, hg, h1, h2, h3, h4⟩
 ·cases hn
 ·cases he
  rw [cell_of_row A g j _ e _ hg]
  have e1 : cur.toList[j]? = (l.map (Value.int K))[j]? := by
   rw [← h4, List.getElem?_take]
   simp [show j < m by omega]
  rw [← Array.getElem?_toList, e1]
  simp [hj]
theorem own_cap {A : World} {b e s m : Nat} {g cap : Nat} {xs : List Value} (h : A.ownsRow b e s (.slice (some ⟨g, 0, none⟩) m cap) m xs) : m ≤ cap ∧ cap ≤ maxLen ∧ b ≤ g ∧ g < A.heap.size := by
 have hlt := h.lt g rfl
 rcases h.2 with ⟨hn, _⟩ | ⟨g', cap', cur, he, hb, hg, h1, h2, _⟩
 ·cases hn
 ·cases he
  exact ⟨h1, h2, hlt⟩
theorem own_of_arr {A : World} {b e g m : Nat} {xs : List Value} (h : Arr A g e xs) (hl : xs.length = m) (hb : b ≤ g) (hm : m ≤ maxLen) : A.ownsRow b e 1 (.slice (some ⟨g, 0, none⟩) m m) m xs := by
 subst hl
 exact ⟨by simp, .inr ⟨g, _, _, rfl, hb, h, Nat.le_refl _, hm, by simp, by simp⟩⟩
theorem grown_below {A B : World} (hb : Below A.heap.size A B) (r : Option Nat) : A.grownBy B r := ⟨hb.os, hb.tape, hb.output, hb.size, fun i hi _ => hb.block i hi⟩
theorem app_J {J : Nat → Nat → World → Prop} (hJ : ∀ k g g' A B, J k g A → A.grownBy B (some g) → (g' = g ∨ A.heap.size ≤ g') → J k g' B) {k g gg : Nat} {A B : World} {o : Obj} (h : J k g A) (hg : (A.alloc o).grownBy B (some g)) (hat : some g = some gg ∨ gg = A.heap.size + 1) : J k gg B := by
 refine hJ k g gg (A.alloc o) B (hJ k g g A _ h (grown_below ((Below.refl _ _).alloc (Nat.le_refl _) _) _) (.inl rfl)) hg ?_
 rcases hat with e | e
 ·left; cases e; rfl
 ·right; simp [e]
theorem own_at {W : World} {b e g n cap : Nat} {xs : List Value} (h : W.ownsRow b e 1 (.slice (some ⟨g, 0, none⟩) n cap) n xs) (j : Nat) (u : Value) : (W.setCell ⟨g, j, none⟩ u).ownsRow b e 1 (.slice (some ⟨g, 0, none⟩) n cap) n (xs.set j u) := by
 refine ⟨by simpa using h.1, ?_⟩
 rcases h.2 with ⟨hn, _⟩ | ⟨g', cap', cur, he, hg, hgg, h1, h2, h3, h4⟩
 ·cases hn
 ·cases he
  exact .inr ⟨g, cap, cur.setIfInBounds j u, rfl, hg, heap_setCell_same W g j cur e u hgg, h1, h2, by simpa using h3, by rw [Array.toList_setIfInBounds, List.take_set, h4]⟩
end Go.Proofs.YtihoaakbkffejaaGreatDoor
