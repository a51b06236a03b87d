/-
  What is proved here: contracts of the specification's l6flat; the contract of the specification's PtOk: whether two lists are a point; the laws of the points in lists: what is a point, sums, opposites; plain facts on rows that a call owns: how they lie apart, and how they; what an answer in parts in a row of a given type is; the contract of a helper of the exact laws (hold two slices of ints; contracts of two helpers of the exact laws (mark a slice of ints, look; plain facts on rows and cells beside a row that is marked, for the walks; the contract of the specification's l6out: a point in the long form as two; the lists of an answer that is a point; plain facts on a row that a call owns, as one block of memory; an owned row into which one cell is stored; plain mathematics on the program's limbs: carried with what is too much.
-/
import Derived.Test.YtihoaakbkffejaaGreatDoorFUd
import Derived.Test.YtihoaakbkffejaaGreatDoorFFc
import Derived.Test.YtihoaakbkffejaaGreatDoorFUc
import Derived.Test.YtihoaakbkffejaaGreatDoorFFm
import Derived.Laws.Rows
import Derived.Test.YtihoaakbkffejaaGreatDoorProg
import Derived.Deep.QuietTactic
import Derived.BigQuiet
import Derived.Test.YtihoaakbkffejaaGreatDoorFFsc
import Derived.Deep.MidRow
import Derived.Deep.RegionHeld3
import Derived.Deep.CutRange
import Derived.Laws.BitsLemmas
namespace Go.Proofs.YtihoaakbkffejaaGreatDoor
open Go.RowKit
set_option maxRecDepth 100000

theorem results_pair {P : Program} {fn : Func} {p q : Tmp} {ty : TypeId} {w : World} {g k : Nat} {t s : TypeId} {cs ds : List Value} {d : TypeDesc} {tmps : Array Value} (h : fn.results = #[.cell p ty, .cell q ty])
  (hp : tmps.getD p undef = .pointer (some ⟨g, 0, none⟩)) (hq : tmps.getD q undef = .pointer (some ⟨k, 0, none⟩)) (hg : Arr w g t cs) (hk : Arr w k s ds) (hu : P.underlying ty = some d) (hd : (match d with | .struct _ | .array _ _ => true | _ => false) = true) (hi : (P.info? ty).map (·.size) = some cs.length) (hj : (P.info? ty).map (·.size) = some ds.length) :
  (results fn tmps).run P w = .ok (.tuple #[.agg cs.toArray, .agg ds.toArray]) w := by
 have hl := run_loadVar_row (P := P) w g t ty cs.toArray (0, 0) d hg hu hd (by simpa using hi)
 have hm := run_loadVar_row (P := P) w k s ty ds.toArray (0, 0) d hk hu hd (by simpa using hj)
 have hp' : tmps[p]?.getD undef = .pointer (some ⟨g, 0, none⟩) := by simpa using hp
 have hq' : tmps[q]?.getD undef = .pointer (some ⟨k, 0, none⟩) := by simpa using hq
 simp only [results, h]
 simp [Sem.run_bind, hp', hq', asAddr, Result.andThen, hl, hm]
theorem inv_ok (l : List Int) : feOk (invF l) = true := ok_red _

set_option maxHeartbeats 4000000 in
theorem spec6flat (P : E4) (w : World) (hP : P.Ok) :
  Calls Tryz.prog 94 #[.agg (I64 P.cells).toArray] w fun e w' => e = .returned (.tuple #[.agg (I64 (flx P)).toArray, .agg (I64 (fly P)).toArray]) ∧ Below w.heap.size w w' := by
 obtain ⟨z, ez⟩ : ∃ z, z = invF P.c := ⟨_, rfl⟩
 have kz : feOk z = true := by rw [ez]; exact inv_ok _
 obtain ⟨x, ex⟩ : ∃ x, x = flx P := ⟨_, rfl⟩
 have kx : feOk x = true := by rw [ex]; exact ok_red _
 obtain ⟨y, ey⟩ : ∃ y, y = fly P := ⟨_, rfl⟩
 have ky : feOk y = true := by rw [ey]; exact ok_red _
 have Hz : Hid (∀ Z, Calls Tryz.prog 115 #[.agg (I64 P.c).toArray] Z fun e w' => e = .returned (.agg (I64 z).toArray) ∧ Below Z.heap.size Z w') := by
  unfold Hid; intro Z; rw [ez]; exact specInv P.c Z (feOk_len hP.c) (feOk_lm' hP.c)
 have Hx : Hid (∀ Z, Calls Tryz.prog 113 #[.agg (I64 P.a).toArray, .agg (I64 z).toArray] Z fun e w' => e = .returned (.agg (I64 x).toArray) ∧ Below Z.heap.size Z w') := by
  unfold Hid; intro Z; rw [ex]; unfold flx; rw [← ez]; exact mulC hP.a kz Z
 have Hy : Hid (∀ Z, Calls Tryz.prog 113 #[.agg (I64 P.b).toArray, .agg (I64 z).toArray] Z fun e w' => e = .returned (.agg (I64 y).toArray) ∧ Below Z.heap.size Z w') := by
  unfold Hid; intro Z; rw [ey]; unfold fly; rw [← ez]; exact mulC hP.b kz Z
 rw [← ex, ← ey]
 have iPa := infoEl hP.a
 have iPb := infoEl hP.b
 have iPc := infoEl hP.c
 have jz := infoE' kz
 have iiz := infoEl kz
 have nz := feOk_len kz
 have jx := infoE' kx
 have jy := infoE' ky
 have iix := infoEl kx
 have iiy := infoEl ky
 have nx := feOk_len kx
 have ny := feOk_len ky
 have ux := one_lm x
 have uy := one_lm y
 have hu : Tryz.prog.underlying 80 = some (.array 16 3) := Tryz.underlying80
 obtain ⟨A, hA⟩ : ∃ A, A = (I64 P.cells).toArray := ⟨_, rfl⟩
 obtain ⟨W, hW⟩ : ∃ W, W = ((w.alloc (.cells A 86)).alloc (.cells zV 80)).alloc (.cells zV 80) := ⟨_, rfl⟩
 have fr : Below w.heap.size w W := by rw [hW]; exact (((Below.refl _ _).alloc (Nat.le_refl _) _).alloc (by simp) _).alloc (by simp; omega) _
 have pa : Arr W w.heap.size 86 (I64 P.cells) := by rw [hW, hA]; exact ((Arr.new w (I64 P.cells) _).alloc _).alloc _
 have p1 : Arr W (w.heap.size + 1) 80 (I64 Z16) := by
  rw [hW]
  have := (Arr.new (w.alloc (.cells A 86)) (I64 Z16) 80).alloc (.cells (I64 Z16).toArray 80)
  rw [World.size_alloc] at this
  exact this
 have p2 : Arr W (w.heap.size + 2) 80 (I64 Z16) := by
  rw [hW]
  have := Arr.new ((w.alloc (.cells A 86)).alloc (.cells (I64 Z16).toArray 80)) (I64 Z16) 80
  rw [World.size_alloc, World.size_alloc] at this
  exact this
 rw [← hA]
 clear hA ez ex ey kz kx ky
 go_enter Tryz.func94, Tryz.ntmps94
 go_upto_region 1 with fail
 rw [← hW]
 clear hW
 go_wp2_with (refine wpList_load_mid rfl 80 _ rfl w.heap.size 32 rfl (I64 P.c) _ (E4.rc hP pa) Tryz.underlying80 rfl iPc ?_)
 refine (Hz.out _).mono ?_
 rintro e y1 ⟨rfl, hb1⟩
 replace fr := fr.trans (hb1.mono fr.size)
 replace pa := pa.kept hb1
 replace p1 := p1.kept hb1
 replace p2 := p2.kept hb1
 clear hb1
 have hzz : w.heap.size + 2 < y1.heap.size := p2.lt
 obtain ⟨bV, Az, q1⟩ := laid_e y1 z
 replace fr := fr.trans (bV.mono fr.size)
 replace pa := pa.kept bV
 replace p1 := p1.kept bV
 replace p2 := p2.kept bV
 go_wp2_with (refine wpList_store_row rfl 80 _ _ rfl y1.heap.size (I64 z).toArray rfl rfl 80 _ q1 jz (by simp [nz]) (by simp [Value.oneCell']) ?_)
 obtain ⟨V2, hVV⟩ : ∃ V, V = (y1.alloc (.cells zV 80)).setRow y1.heap.size (I64 z).toArray := ⟨_, rfl⟩
 obtain ⟨Xz, hE⟩ : ∃ E, E = y1.heap.size := ⟨_, rfl⟩
 rw [← hVV] at fr pa p1 p2 Az ⊢
 rw [← hE] at Az hzz ⊢
 clear hVV hE q1 bV
 try simp only [Act.put]
 have bD : Below V2.heap.size V2 V2.drew := (Below.refl _ _).drew
 replace fr := fr.trans (bD.mono fr.size)
 replace pa := pa.kept bD
 replace p1 := p1.kept bD
 replace p2 := p2.kept bD
 replace Az := Az.kept bD
 clear bD
 refine wp_region_held_drew (S := fun W => W.rangeAt w.heap.size 0 (I64 P.a) ∧ W.rangeAt w.heap.size 16 (I64 P.b) ∧ W.rangeAt Xz 0 (I64 z)) (by kernel_rfl) ⟨E4.ra pa, E4.rb hP pa, arr_range Az⟩ (fun hHeld => ?_)
 obtain ⟨D3, hD⟩ : ∃ V, V = V2.drew := ⟨_, rfl⟩
 rw [← hD] at hHeld fr pa p1 p2 Az ⊢
 clear hD
 refine wpAnyH_take (i := 0) (oi := { dst := some 8, op := Op.fieldAddr 86 (Operand.tmp 1) 0, type := 0, pos := "l06_point.go:69", after := #[], guard := none }) (v := .pointer (some ⟨w.heap.size, 0, none⟩)) rfl (by kernel_rfl) (by kernel_rfl) (by kernel_rfl) (fun _ _ _ h => h) (.inl ⟨by rfl, fun _ _ => by rfl⟩) (by assumption) ?_
 simp only [aP]
 refine wpAnyH_take (i := 1) (oi := { dst := some 9, op := Op.load 80 (Operand.tmp 8), type := 80, pos := "l06_point.go:69", after := #[{ on := 0, ground := Ground.data }], guard := none }) (v := _) rfl (by kernel_rfl) (by kernel_rfl) (by kernel_rfl) (fun _ _ _ h => h) (yieldsIf_load_mid (by rfl) _ _ rfl _ _ rfl (I64 P.a) _ (fun _ h => h.1) hu rfl iPa) (by assumption) ?_
 simp only [aP]
 refine wpAnyH_take (i := 2) (oi := { dst := some 10, op := Op.load 80 (Operand.tmp 4), type := 80, pos := "l06_point.go:69", after := #[], guard := none }) (v := _) rfl (by kernel_rfl) (by kernel_rfl) (by kernel_rfl) (fun _ _ _ h => h) (yieldsIf_load_mid (by rfl) _ _ rfl _ _ rfl (I64 z) _ (fun _ h => h.2.2) hu rfl iiz) (by assumption) ?_
 simp only [aP]
 refine wpAnyH_take (i := 4) (oi := { dst := some 12, op := Op.fieldAddr 86 (Operand.tmp 1) 1, type := 0, pos := "l06_point.go:69", after := #[], guard := none }) (v := .pointer (some ⟨w.heap.size, 16, none⟩)) rfl (by kernel_rfl) (by kernel_rfl) (by kernel_rfl) (fun _ _ _ h => h) (.inl ⟨by rfl, fun _ _ => by rfl⟩) (by assumption) ?_
 simp only [aP]
 refine wpAnyH_take (i := 5) (oi := { dst := some 13, op := Op.load 80 (Operand.tmp 12), type := 80, pos := "l06_point.go:69", after := #[{ on := 4, ground := Ground.data }], guard := none }) (v := _) rfl (by kernel_rfl) (by kernel_rfl) (by kernel_rfl) (fun _ _ _ h => h) (yieldsIf_load_mid (by rfl) _ _ rfl _ _ rfl (I64 P.b) _ (fun _ h => h.2.1) hu rfl iPb) (by assumption) ?_
 simp only [aP]
 refine wpAnyH_take (i := 6) (oi := { dst := some 14, op := Op.load 80 (Operand.tmp 4), type := 80, pos := "l06_point.go:69", after := #[], guard := none }) (v := _) rfl (by kernel_rfl) (by kernel_rfl) (by kernel_rfl) (fun _ _ _ h => h) (yieldsIf_load_mid (by rfl) _ _ rfl _ _ rfl (I64 z) _ (fun _ h => h.2.2) hu rfl iiz) (by assumption) ?_
 simp only [aP]
 refine wpAnyH_ready (rs := [3]) (by kernel_rfl) (by simp) (AllReadyH.cons (o := { dst := some 11, op := Op.call { callee := Callee.value (Operand.func 113), args := #[Operand.tmp 9, Operand.tmp 10], argTypes := #[80, 80] }, type := 80, pos := "l06_point.go:69", after := #[{ on := 1, ground := Ground.data }, { on := 2, ground := Ground.data }], guard := none }) rfl (fun K hK => ?_) AllReadyH.nil)
 go_simp
 refine (Hx.out _).mono ?_
 rintro e y4 ⟨rfl, hb4⟩
 replace fr := fr.trans (hb4.mono fr.size)
 replace pa := pa.kept hb4
 replace p1 := p1.kept hb4
 replace p2 := p2.kept hb4
 replace Az := Az.kept hb4
 clear hb4
 go_wp2_with fail
 refine hK.out _ _ ⟨E4.ra pa, E4.rb hP pa, arr_range Az⟩ (fun hHeld => ?_)
 clear hK K
 refine wpAnyH_ready (rs := [7]) (by kernel_rfl) (by simp) (AllReadyH.cons (o := { dst := some 15, op := Op.call { callee := Callee.value (Operand.func 113), args := #[Operand.tmp 13, Operand.tmp 14], argTypes := #[80, 80] }, type := 80, pos := "l06_point.go:69", after := #[{ on := 5, ground := Ground.data }, { on := 6, ground := Ground.data }, { on := 3, ground := Ground.chain }], guard := none }) rfl (fun K hK => ?_) AllReadyH.nil)
 go_simp
 refine (Hy.out _).mono ?_
 rintro e y5 ⟨rfl, hb5⟩
 replace fr := fr.trans (hb5.mono fr.size)
 replace pa := pa.kept hb5
 replace p1 := p1.kept hb5
 replace p2 := p2.kept hb5
 replace Az := Az.kept hb5
 clear hb5
 go_wp2_with fail
 refine hK.out _ _ ⟨E4.ra pa, E4.rb hP pa, arr_range Az⟩ (fun hHeld => ?_)
 clear hK K
 refine wpAnyH_ready (rs := [8]) (by kernel_rfl) (by simp) (AllReadyH.cons (o := { dst := none, op := Op.store 80 (Operand.tmp 2) (Operand.tmp 11), type := 0, pos := "l06_point.go:69", after := #[{ on := 3, ground := Ground.data }, { on := 7, ground := Ground.chain }, { on := 0, ground := Ground.phase }, { on := 1, ground := Ground.phase }, { on := 2, ground := Ground.phase }, { on := 3, ground := Ground.phase }, { on := 4, ground := Ground.textOnly Departure.lateStores }, { on := 5, ground := Ground.textOnly Departure.lateStores }, { on := 6, ground := Ground.textOnly Departure.lateStores }, { on := 7, ground := Ground.textOnly Departure.lateStoresUnsure }], guard := none }) rfl (fun K hK => ?_) AllReadyH.nil)
 rw [if_pos (by rfl)]
 refine wp_store_mid _ _ _ rfl _ _ (I64 x).toArray rfl rfl (by have := arr_there p1; simpa [nx] using this) jx (all_oneCell_toArray ux) ?_
 simp only [Act.put]
 obtain ⟨V6, hVe⟩ : ∃ V, V = y5.setCells (w.heap.size + 1) 0 (I64 x) := ⟨_, rfl⟩
 rw [← hVe]
 replace fr : Below w.heap.size w V6 := by rw [hVe]; exact setCells_below (by omega) _ _ fr
 replace pa : Arr V6 w.heap.size 86 (I64 P.cells) := by rw [hVe]; exact Arr.setCellsO (by omega) _ _ pa
 replace p1 : Arr V6 (w.heap.size + 1) 80 (I64 x) := by rw [hVe]; exact Arr.setCells0 p1 (by simp [nx])
 replace p2 : Arr V6 (w.heap.size + 2) 80 (I64 Z16) := by rw [hVe]; exact Arr.setCellsO (by omega) _ _ p2
 replace Az : Arr V6 Xz 80 (I64 z) := by rw [hVe]; exact Arr.setCellsO (by omega) _ _ Az
 clear hVe
 refine hK.out _ _ ⟨E4.ra pa, E4.rb hP pa, arr_range Az⟩ (fun hHeld => ?_)
 clear hK K
 refine wpAnyH_ready (rs := [9]) (by kernel_rfl) (by simp) (AllReadyH.cons (o := { dst := none, op := Op.store 80 (Operand.tmp 3) (Operand.tmp 15), type := 0, pos := "l06_point.go:69", after := #[{ on := 7, ground := Ground.data }, { on := 8, ground := Ground.chain }, { on := 0, ground := Ground.phase }, { on := 1, ground := Ground.phase }, { on := 2, ground := Ground.phase }, { on := 3, ground := Ground.phase }, { on := 4, ground := Ground.phase }, { on := 5, ground := Ground.phase }, { on := 6, ground := Ground.phase }, { on := 7, ground := Ground.phase }, { on := 8, ground := Ground.phase }], guard := none }) rfl (fun K hK => ?_) AllReadyH.nil)
 rw [if_pos (by rfl)]
 refine wp_store_mid _ _ _ rfl _ _ (I64 y).toArray rfl rfl (by have := arr_there p2; simpa [ny] using this) jy (all_oneCell_toArray uy) ?_
 simp only [Act.put]
 obtain ⟨V7, hVe⟩ : ∃ V, V = V6.setCells (w.heap.size + 2) 0 (I64 y) := ⟨_, rfl⟩
 rw [← hVe]
 replace fr : Below w.heap.size w V7 := by rw [hVe]; exact setCells_below (by omega) _ _ fr
 replace pa : Arr V7 w.heap.size 86 (I64 P.cells) := by rw [hVe]; exact Arr.setCellsO (by omega) _ _ pa
 replace p1 : Arr V7 (w.heap.size + 1) 80 (I64 x) := by rw [hVe]; exact Arr.setCellsO (by omega) _ _ p1
 replace p2 : Arr V7 (w.heap.size + 2) 80 (I64 y) := by rw [hVe]; exact Arr.setCells0 p2 (by simp [ny])
 replace Az : Arr V7 Xz 80 (I64 z) := by rw [hVe]; exact Arr.setCellsO (by omega) _ _ Az
 clear hVe
 refine hK.out _ _ ⟨E4.ra pa, E4.rb hP pa, arr_range Az⟩ (fun hHeld => ?_)
 clear hK K
 refine wpAnyH_done (by kernel_rfl) ?_ _
 go_wp2
 exact bodyPost_ret (results_pair (cs := I64 x) (ds := I64 y) rfl rfl rfl p1 p2 hu rfl iix iiy) rfl ⟨rfl, fr⟩

theorem infoPt : (Tryz.prog.info? 33).map (·.size) = some 2 := by kernel_rfl
def ptOk (xs ys : List Int) : Bool := feOk xs && feOk ys && onB xs ys
theorem ptOk_iff (xs ys : List Int) : ptOk xs ys = true ↔ feOk xs = true ∧ feOk ys = true ∧ onB xs ys = true := by
 unfold ptOk
 simp only [Bool.and_eq_true, and_assoc]
set_option maxHeartbeats 4000000
set_option linter.unusedSectionVars false

def pt (xs ys : List Int) : KF × KF := (fl xs, fl ys)
theorem pt_back (p : KF × KF) : pt (cx p.1) (cx p.2) = p := by unfold pt; rw [fl_cx, fl_cx]
theorem pt_cx {xs ys : List Int} (h : ptOk xs ys = true) : cx (pt xs ys).1 = xs ∧ cx (pt xs ys).2 = ys := by
 obtain ⟨h1, h2, _⟩ := (ptOk_iff xs ys).1 h
 exact ⟨cx_fl h1, cx_fl h2⟩
section
variable [NeZero pN]
theorem pt_on {xs ys : List Int} (h : ptOk xs ys = true) : On dK (pt xs ys) := (onB_iff xs ys).1 ((ptOk_iff xs ys).1 h).2.2
theorem pt_ok {p : KF × KF} (h : On dK p) : ptOk (cx p.1) (cx p.2) = true := by
 refine (ptOk_iff _ _).2 ⟨cx_ok _, cx_ok _, (onB_iff _ _).2 ?_⟩
 have := pt_back p
 unfold pt at this
 rw [this]
 exact h
theorem pt_add {xs ys us vs : List Int} (h : ptOk xs ys = true) (k : ptOk us vs = true) :
  flx (add6 (mk6 xs ys) (mk6 us vs)) = cx (pAdd dK ivK (pt xs ys) (pt us vs)).1 ∧ fly (add6 (mk6 xs ys) (mk6 us vs)) = cx (pAdd dK ivK (pt xs ys) (pt us vs)).2 :=
 ext6_flat (ext6_add (ext6_make xs ys) (ext6_make us vs) (pt_on h) (pt_on k))
theorem pt_neg (xs ys : List Int) : flx (neg6 (mk6 xs ys)) = cx (pNeg (pt xs ys)).1 ∧ fly (neg6 (mk6 xs ys)) = cx (pNeg (pt xs ys)).2 :=
 ext6_flat (ext6_neg (ext6_make xs ys))
theorem pt_mul {xs ys : List Int} (h : ptOk xs ys = true) (N : Nat) (hN : N < 2 ^ 256) :
  flx (mul6 (mk6 xs ys) N) = cx (pMul dK ivK N (pt xs ys)).1 ∧ fly (mul6 (mk6 xs ys) N) = cx (pMul dK ivK N (pt xs ys)).2 :=
 ext6_flat (ext6_mul (ext6_make xs ys) (pt_on h) N hN)
theorem one_nought (d y : KF) (h : 1 + d * (y * y) = 0) (hy : y = 0) : (1 : KF) = 0 := by
 have e : (1 : KF) = 0 - d * y * y := by grind
 have e2 : ∀ a b : KF, b = 0 → a - d * y * b = a := by intro a b hb; grind
 rw [e, e2 _ _ hy]
theorem sub_nought (a : KF) : a - a = 0 := by grind
theorem nz_K {a b : KF} (h : a * b = 0) : a = 0 ∨ b = 0 := by
 by_cases ha : a = 0
 ·exact .inl ha
 ·by_cases hb : b = 0
  ·exact .inr hb
  ·exact absurd h (crvK.nz_mul ha hb)
theorem roots_K {a b : KF} (h : a * a = b * b) : a = b ∨ a = 0 - b := by
 have : (a - b) * (a + b) = 0 := by grind
 rcases nz_K this with h | h
 ·exact .inl (by grind)
 ·exact .inr (by grind)
theorem neg_val {b : KF} (h : b ≠ 0) : ((0 - b : KF).val : Int) = P25519 - (b.val : Int) := by
 have hb := cx_lt b
 have e : (0 - b : KF) = fe (P25519 - (b.val : Int)) := by
  rw [fe_sub, fe_back]
  have : fe P25519 = 0 := fe_nz.2 (Int.emod_self)
  rw [this]
 have hz : (b.val : Int) ≠ 0 := fun e => h (by rw [← fe_back b, e, fe_zero])
 rw [e, fe_val]
 exact Int.emod_eq_of_lt (by omega) (by omega)
theorem root_one {a b : KF} (h : a * a = b * b) (hp : (a.val : Int) % 2 = (b.val : Int) % 2) : a = b := by
 rcases roots_K h with h | h
 ·exact h
 ·by_cases hb : b = 0
  ·rw [h, hb]; exact sub_nought 0
  ·have := neg_val hb
   rw [← h] at this
   have : P25519 % 2 = 1 := by unfold P25519; decide
   omega
end
end Go.Proofs.YtihoaakbkffejaaGreatDoor
namespace Go.Proofs.YtihoaakbkffejaaGreatDoor
open Go.RowKit

def Apart (u v : Value) : Prop := ∀ k, u.ownBlock = some k → v.ownBlock ≠ some k
theorem Apart.symm {u v : Value} (h : Apart u v) : Apart v u := fun k hk he => h k he hk
theorem is_of_own {W : World} {B n c e : Nat} {a : Option Addr} {l : List Int} (h : W.ownsRow B e 1 (.slice a n c) n (I64 l)) (hby : ∀ x ∈ l, -9223372036854775808 ≤ x ∧ x ≤ 9223372036854775807) : Is W a n c l := by
 obtain ⟨a', c', e, _, hb⟩ := Is.own h hby
 simp only [Value.slice.injEq, true_and] at e
 obtain ⟨rfl, rfl⟩ := e
 exact hb
theorem bs_of_own {W : World} {B n c : Nat} {a : Option Addr} {l : List Int} (h : W.ownsRow B 5 1 (.slice a n c) n (U8 l)) (hby : ∀ x ∈ l, 0 ≤ x ∧ x < 256) : Bs W a n c l := by
 obtain ⟨a', c', e, _, hb⟩ := Bs.own h hby
 simp only [Value.slice.injEq, true_and] at e
 obtain ⟨rfl, rfl⟩ := e
 exact hb

theorem own_kept {W W' : World} {B n e s : Nat} {u v : Value} {l : List Value} (h : W.ownsRow B e s v n l) (hg : W.grownBy W' u.ownBlock) (ha : Apart u v) : W'.ownsRow B e s v n l := by
 refine h.kept hg ?_
 cases hv : v.ownBlock with
 | none => exact .inl rfl
 | some k => exact .inr (fun e => ha k e.symm hv)

def In (v : Value) (lo hi : Nat) : Prop := ∀ k, v.ownBlock = some k → lo ≤ k ∧ k < hi
theorem In.of {W : World} {B e s n : Nat} {v : Value} {l : List Value} (h : W.ownsRow B e s v n l) : In v B W.heap.size := fun k hk => h.lt k hk
theorem In.apart {u v : Value} {a b c d : Nat} (h : In u a b) (h' : In v c d) (hl : b ≤ c ∨ d ≤ a) : Apart u v := fun k hk he => by
 have := h k hk
 have := h' k he
 omega
theorem In.ne {u : Value} {a b g : Nat} (h : In u a b) (hg : g < a ∨ b ≤ g) : u.ownBlock ≠ some g := fun he => by
 have := h g he
 omega
def FeT (ty : TypeId) (w w' : World) (v : Value) (l : List Int) : Prop := ∃ a c, v = .agg #[.slice a l.length c] ∧ w'.ownsRow w.heap.size ty 1 (.slice a l.length c) l.length (I64 l)
theorem feT_nil (ty : TypeId) (w w' : World) : FeT ty w w' (.agg #[.slice none 0 0]) [] := ⟨none, 0, rfl, World.ownsRow_nil _ _ _ _⟩
theorem feT_16 {ty : TypeId} {w w' : World} {a : Option Addr} {c : Nat} {l : List Int} (hl : l.length = 16) (h : w'.ownsRow w.heap.size ty 1 (.slice a 16 c) 16 (I64 l)) : FeT ty w w' (.agg #[.slice a 16 c]) l := ⟨a, c, by rw [hl], by rw [hl]; exact h⟩
end Go.Proofs.YtihoaakbkffejaaGreatDoor
namespace Go.Proofs.YtihoaakbkffejaaGreatDoor
open Go.RowKit
set_option maxRecDepth 100000

theorem heap_setCells_other {g k : Nat} (hne : k ≠ g) : ∀ (vs : List Value) {w : World} (j : Nat), (w.setCells g j vs).heap[k]? = w.heap[k]?
 | [], _, _ => rfl
 | v :: vs, w, j => (heap_setCells_other hne vs (j + 1)).trans (heap_setCell_other w ⟨g, j, none⟩ k v hne)
theorem own_setCells {W : World} {lo e s n hi E : Nat} {v : Value} {xs : List Value} (h : W.ownsRow lo e s v n xs) (i : In v lo hi) (hE : E < lo ∨ hi ≤ E) (cs : List Value) : (W.setCells E 0 cs).ownsRow lo e s v n xs := by
 refine ⟨h.1, ?_⟩
 rcases h.2 with hn | ⟨g, cap, cur, rfl, hg, hgg, rest⟩
 ·exact .inl hn
 ·have h1 := i g rfl
  exact .inr ⟨g, cap, cur, rfl, hg, (heap_setCells_other (by omega) cs 0).trans hgg, rest⟩
def PtT (ty : TypeId) (w w' : World) (v : Value) (xs ys : List Int) : Prop := ∃ a c b d, v = .agg #[.slice a xs.length c, .slice b ys.length d] ∧ w'.ownsRow w.heap.size ty 1 (.slice a xs.length c) xs.length (I64 xs) ∧ w'.ownsRow w.heap.size ty 1 (.slice b ys.length d) ys.length (I64 ys) ∧ Apart (.slice a xs.length c) (.slice b ys.length d)
theorem ptT_nil (ty : TypeId) (w w' : World) : PtT ty w w' (.agg #[.slice none 0 0, .slice none 0 0]) [] [] := ⟨none, 0, none, 0, rfl, World.ownsRow_nil _ _ _ _, World.ownsRow_nil _ _ _ _, fun k hk => by cases hk⟩
theorem ptT_16 {ty : TypeId} {w w' : World} {a b : Option Addr} {c d : Nat} {xs ys : List Int} (hx : xs.length = 16) (hy : ys.length = 16) (h : w'.ownsRow w.heap.size ty 1 (.slice a 16 c) 16 (I64 xs)) (h' : w'.ownsRow w.heap.size ty 1 (.slice b 16 d) 16 (I64 ys)) (hA : Apart (.slice a 16 c) (.slice b 16 d)) : PtT ty w w' (.agg #[.slice a 16 c, .slice b 16 d]) xs ys := ⟨a, c, b, d, by rw [hx, hy], by rw [hx]; exact h, by rw [hy]; exact h', by rw [hx, hy]; exact hA⟩
theorem build_pt (u v : Value) (w : World) : (Instr.build 33 #[(0, .agg #[u]), (1, .agg #[v])]).run Tryz.prog w = .ok (.agg #[u, v]) w := by kernel_rfl
theorem yieldsIf_pt {ops : Array Oper} {S : World → Prop} {op : Oper} {act : Act} (hw : Region.wanted op (yielded ops act.tmps) = true) (x y : Operand) (ho : op.op = .build 33 #[(0, x), (1, y)]) (u v : Value) (hx : act.eval x = .agg #[u]) (hy : act.eval y = .agg #[v]) : YieldsIf Tryz.prog ops S op (.agg #[u, v]) act :=
 .inl ⟨hw, fun w _ => by
  unfold execOp
  simp only [ho, hx, hy, Sem.run_bind, List.map_toArray, List.map_cons, List.map_nil, build_pt u v w, Sem.run_pure, Result.andThen_ok]⟩
theorem laid_e2 (w1 : World) (L M : List Int) :
  Below w1.heap.size w1 ((((w1.alloc (.cells zV 80)).alloc (.cells zV 80)).setRow w1.heap.size (I64 L).toArray).setRow (w1.heap.size + 1) (I64 M).toArray) ∧
  Arr ((((w1.alloc (.cells zV 80)).alloc (.cells zV 80)).setRow w1.heap.size (I64 L).toArray).setRow (w1.heap.size + 1) (I64 M).toArray) w1.heap.size 80 (I64 L) ∧
  Arr ((((w1.alloc (.cells zV 80)).alloc (.cells zV 80)).setRow w1.heap.size (I64 L).toArray).setRow (w1.heap.size + 1) (I64 M).toArray) (w1.heap.size + 1) 80 (I64 M) ∧
  Arr ((w1.alloc (.cells zV 80)).alloc (.cells zV 80)) w1.heap.size 80 (I64 Z16) ∧
  Arr (((w1.alloc (.cells zV 80)).alloc (.cells zV 80)).setRow w1.heap.size (I64 L).toArray) (w1.heap.size + 1) 80 (I64 Z16) := by
 have q1 : Arr ((w1.alloc (.cells zV 80)).alloc (.cells zV 80)) w1.heap.size 80 (I64 Z16) := (Arr.new w1 (I64 Z16) _).alloc _
 have q2 : Arr ((w1.alloc (.cells zV 80)).alloc (.cells zV 80)) (w1.heap.size + 1) 80 (I64 Z16) := by
  have := Arr.new (w1.alloc (.cells (I64 Z16).toArray 80)) (I64 Z16) 80
  rw [World.size_alloc] at this
  exact this
 have hb : Below w1.heap.size w1 ((w1.alloc (.cells zV 80)).alloc (.cells zV 80)) := ((Below.refl _ _).alloc (Nat.le_refl _) _).alloc (by simp) _
 exact ⟨setRow_below (setRow_below hb _ _ (Nat.le_refl _)) _ _ (by omega), (q1.row _).rowOther _ _ (by omega), (q2.rowOther _ _ (by omega)).row _, q1, q2.rowOther _ _ (by omega)⟩
def ptx (ok : Bool) (R : E4) : List Int := if ok = true then flx R else []
def pty (ok : Bool) (R : E4) : List Int := if ok = true then fly R else []
theorem own_rowM {W : World} {lo e s n hi E : Nat} {v : Value} {xs : List Value} (h : W.ownsRow lo e s v n xs) (i : In v lo hi) (hE : E < lo ∨ hi ≤ E) (cs : Array Value) : (W.setRow E cs).ownsRow lo e s v n xs := by
 refine ⟨h.1, ?_⟩
 rcases h.2 with hn | ⟨g, cap, cur, rfl, hg, hgg, rest⟩
 ·exact .inl hn
 ·have := i g rfl
  exact .inr ⟨g, cap, cur, rfl, hg, (setRow_other W E g cs (by omega)).trans hgg, rest⟩
end Go.Proofs.YtihoaakbkffejaaGreatDoor
namespace Go.Proofs.YtihoaakbkffejaaGreatDoor
open Go.RowKit

theorem own_same {A B : World} {b e s m : Nat} {g cap : Nat} {xs : List Value} (h : A.ownsRow b e s (.slice (some ⟨g, 0, none⟩) m cap) m xs) (hs : B.heap[g]? = A.heap[g]?) : B.ownsRow b e s (.slice (some ⟨g, 0, none⟩) m cap) m xs := by
 refine ⟨h.1, ?_⟩
 rcases h.2 with ⟨hn, _⟩ | ⟨g', cap', cur, he, hb, hg, rest⟩
 ·cases hn
 ·cases he
  exact .inr ⟨g, cap, cur, rfl, hb, hs.trans hg, rest⟩
theorem own_cell {A : World} {b e m : Nat} {g cap : Nat} {K : IntKind} {l : List Int} (h : A.ownsRow b e 1 (.slice (some ⟨g, 0, none⟩) m cap) m (l.map (Value.int K))) (j : Nat) (hj : j < l.length) : A.cell? ⟨g, j, none⟩ = some (.int K (l.getD j 0)) := by
 have hl : l.length = m := by simpa using h.1
 rcases h.2 with ⟨hn, _⟩ | ⟨g', cap', cur, he, hb, hg, h1, h2, h3, h4⟩
 ·cases hn
 ·cases he
  rw [cell_of_row A g j _ e _ hg]
  have e1 : cur.toList[j]? = (l.map (Value.int K))[j]? := by
   rw [← h4, List.getElem?_take]
   simp [show j < m by omega]
  rw [← Array.getElem?_toList, e1]
  simp [hj]
theorem own_cap {A : World} {b e s m : Nat} {g cap : Nat} {xs : List Value} (h : A.ownsRow b e s (.slice (some ⟨g, 0, none⟩) m cap) m xs) : m ≤ cap ∧ cap ≤ maxLen ∧ b ≤ g ∧ g < A.heap.size := by
 have hlt := h.lt g rfl
 rcases h.2 with ⟨hn, _⟩ | ⟨g', cap', cur, he, hb, hg, h1, h2, _⟩
 ·cases hn
 ·cases he
  exact ⟨h1, h2, hlt⟩
theorem own_of_arr {A : World} {b e g m : Nat} {xs : List Value} (h : Arr A g e xs) (hl : xs.length = m) (hb : b ≤ g) (hm : m ≤ maxLen) : A.ownsRow b e 1 (.slice (some ⟨g, 0, none⟩) m m) m xs := by
 subst hl
 exact ⟨by simp, .inr ⟨g, _, _, rfl, hb, h, Nat.le_refl _, hm, by simp, by simp⟩⟩
theorem grown_below {A B : World} (hb : Below A.heap.size A B) (r : Option Nat) : A.grownBy B r := ⟨hb.os, hb.tape, hb.output, hb.size, fun i hi _ => hb.block i hi⟩
theorem app_J {J : Nat → Nat → World → Prop} (hJ : ∀ k g g' A B, J k g A → A.grownBy B (some g) → (g' = g ∨ A.heap.size ≤ g') → J k g' B) {k g gg : Nat} {A B : World} {o : Obj} (h : J k g A) (hg : (A.alloc o).grownBy B (some g)) (hat : some g = some gg ∨ gg = A.heap.size + 1) : J k gg B := by
 refine hJ k g gg (A.alloc o) B (hJ k g g A _ h (grown_below ((Below.refl _ _).alloc (Nat.le_refl _) _) _) (.inl rfl)) hg ?_
 rcases hat with e | e
 ·left; cases e; rfl
 ·right; simp [e]
theorem own_at {W : World} {b e g n cap : Nat} {xs : List Value} (h : W.ownsRow b e 1 (.slice (some ⟨g, 0, none⟩) n cap) n xs) (j : Nat) (u : Value) : (W.setCell ⟨g, j, none⟩ u).ownsRow b e 1 (.slice (some ⟨g, 0, none⟩) n cap) n (xs.set j u) := by
 refine ⟨by simpa using h.1, ?_⟩
 rcases h.2 with ⟨hn, _⟩ | ⟨g', cap', cur, he, hg, hgg, h1, h2, h3, h4⟩
 ·cases hn
 ·cases he
  exact .inr ⟨g, cap, cur.setIfInBounds j u, rfl, hg, heap_setCell_same W g j cur e u hgg, h1, h2, by simpa using h3, by rw [Array.toList_setIfInBounds, List.take_set, h4]⟩
end Go.Proofs.YtihoaakbkffejaaGreatDoor
namespace Go.Proofs.YtihoaakbkffejaaGreatDoor
open Go.RowKit
set_option maxRecDepth 100000

theorem i64_and16 (x : Int) : bits .and .i64 x 65535 = x % 65536 := by
 have h1 : BitVec.ofInt 64 x = BitVec.ofInt 64 (x % 18446744073709551616) := by
  apply BitVec.eq_of_toInt_eq
  rw [BitVec.toInt_ofInt, BitVec.toInt_ofInt]
  exact (Int.emod_bmod x (2 ^ 64)).symm
 have h2 : bits .and .i64 x 65535 = bits .and .i64 (x % 18446744073709551616) 65535 := by
  unfold bits
  simp only [IntKind.bits]
  rw [h1]
 rw [h2]
 obtain ⟨a, ha⟩ := Int.eq_ofNat_of_zero_le (Int.emod_nonneg x (show (18446744073709551616 : Int) ≠ 0 by decide))
 rw [ha]
 have h3 : bits .and .i64 (a : Int) 65535 = IntKind.i64.wrap (((a % 18446744073709551616) &&& 65535 : Nat) : Int) := by
  unfold bits
  simp only [IntKind.bits, BitVec.ofInt_natCast]
  rfl
 rw [h3, show (65535 : Nat) = 2 ^ 16 - 1 from rfl, Nat.and_two_pow_sub_one_eq_mod, IntKind.wrap_i64]
 omega

theorem lim_emod (n : Nat) (x : Int) : lim n (x % 65536 ^ n) = lim n x := by
 have := lim_val (lim n x) (lim_lm n x)
 rw [lim_len, val_lim] at this
 exact this
theorem lim_congr {n : Nat} {x y : Int} (h : x % 65536 ^ n = y % 65536 ^ n) : lim n x = lim n y := by
 rw [← lim_emod n x, ← lim_emod n y, h]

def crd (l : List Int) : List Int := cps (l.take 15) 0 ++ [l.getD 15 0 + cpc (l.take 15) 0]
theorem val_last {l : List Int} (h : l.length = 16) : val l = val (l.take 15) + 65536 ^ 15 * l.getD 15 0 := by
 have := val_split l 15 (by omega)
 rw [List.drop_eq_nil_of_le (by omega : l.length ≤ 15 + 1)] at this
 simp only [val] at this
 omega
theorem crd_eq {l : List Int} (h : l.length = 16) : crd l = lim 15 (val l) ++ [val l / 65536 ^ 15] := by
 have hl : (l.take 15).length = 15 := by simp [h]
 unfold crd
 rw [cps_lim, cpc_div, hl, val_last h, Int.add_zero]
 congr 1
 ·apply lim_congr
  rw [Int.add_mul_emod_self_left]
 ·rw [Int.add_mul_ediv_left _ _ (Int.ne_of_gt (pow_pos16 15)), Int.add_comm]
theorem crd_len {l : List Int} (h : l.length = 16) : (crd l).length = 16 := by rw [crd_eq h]; simp [lim_len]
theorem crd_lim {l : List Int} (h : l.length = 16) (h0 : 0 ≤ val l) (h1 : val l < 115792089237316195423570985008687907853269984665640564039457584007913129639936) : crd l = lim 16 (val l) := by
 have e : ∀ n x, lim (n + 1) x = lim n x ++ [x / 65536 ^ n % 65536] := by
  intro n
  induction n with
  | zero => intro x; simp [lim]
  | succ n ih =>
   intro x
   rw [lim, ih, lim]
   simp only [List.cons_append]
   rw [Int.pow_succ, Int.mul_comm (65536 ^ n) 65536, ← Int.ediv_ediv_of_nonneg (by omega)]
 rw [crd_eq h, e 15, p240]
 congr 2
 omega

def cra (l : List Int) (k : Nat) : List Int := cps (l.take k) 0 ++ ((l.getD k 0 + cpc (l.take k) 0) :: l.drop (k + 1))
theorem cra_zero {l : List Int} (h : l.length = 16) : cra l 0 = l := by
 cases l with
 | nil => simp at h
 | cons x l => simp [cra, cps, cpc]
theorem cra_end {l : List Int} (h : l.length = 16) : cra l 15 = crd l := by
 unfold cra crd
 rw [List.drop_eq_nil_of_le (by omega : l.length ≤ 15 + 1)]
theorem take_one (a : List Int) (k : Nat) (h : k < a.length) : a.take (k + 1) = a.take k ++ [a.getD k 0] := by
 rw [List.take_add_one, List.getD, List.getElem?_eq_getElem h]; rfl
theorem drop_one (a : List Int) (k : Nat) (h : k < a.length) : a.drop k = a.getD k 0 :: a.drop (k + 1) := by
 rw [List.drop_eq_getElem_cons h]; simp [h]
theorem cra_len {l : List Int} {k : Nat} (h : l.length = 16) (hk : k < 16) : (cra l k).length = 16 := by
 unfold cra
 simp [cps_len, h]; omega
def crx (l : List Int) (k : Nat) : Int := l.getD k 0 + cpc (l.take k) 0
theorem cra_at {l : List Int} {k : Nat} (h : l.length = 16) (hk : k < 15) : (cra l k).getD k 0 = crx l k ∧ (cra l k).getD (k + 1) 0 = l.getD (k + 1) 0 := by
 have hl : (cps (l.take k) 0).length = k := by rw [cps_len]; simp [h]; omega
 have hd := drop_one l (k + 1) (by omega)
 unfold cra crx
 constructor
 ·simp [List.getD, hl]
 ·rw [hd]
  simp [List.getD, hl]
theorem crx_next {l : List Int} {k : Nat} (h : l.length = 16) (hk : k < 15) : crx l (k + 1) = l.getD (k + 1) 0 + crx l k / 65536 := by
 unfold crx
 rw [take_one l k (by omega), cpc_snoc]
theorem cra_step {l : List Int} {k : Nat} (h : l.length = 16) (hk : k < 15) : ((I64 (cra l k)).set (k + 1) (.int .i64 (l.getD (k + 1) 0 + crx l k / 65536))).set k (.int .i64 (crx l k % 65536)) = I64 (cra l (k + 1)) := by
 have hl : (cps (l.take k) 0).length = k := by rw [cps_len]; simp [h]; omega
 have hd := drop_one l (k + 1) (by omega)
 have hn := crx_next h hk
 have h2 : cra l (k + 1) = cps (l.take k) 0 ++ (crx l k % 65536 :: crx l (k + 1) :: l.drop (k + 1 + 1)) := by
  unfold cra
  rw [take_one l k (by omega), cps_snoc, cpc_snoc]
  unfold crx
  rw [take_one l k (by omega), cpc_snoc]
  simp
 have h1 : cra l k = cps (l.take k) 0 ++ (crx l k :: l.getD (k + 1) 0 :: l.drop (k + 1 + 1)) := by
  unfold cra crx
  rw [← hd]
 rw [h1, h2, hn]
 generalize cps (l.take k) 0 = f at hl ⊢
 subst hl
 simp [List.set_append_right]
def Cb (l : List Int) : Prop := ∀ k, k < 16 → -9223372036854775808 ≤ crx l k ∧ crx l k < 9223372036854775808
theorem cpc_small {l : List Int} (h : ∀ x ∈ l, -4611686018427387904 ≤ x ∧ x < 4611686018427387904) : ∀ {c : Int}, -140737488355328 ≤ c → c ≤ 140737488355328 → -140737488355328 ≤ cpc l c ∧ cpc l c ≤ 140737488355328 := by
 induction l with
 | nil => intro c h0 h1; exact ⟨h0, h1⟩
 | cons x l ih =>
  intro c h0 h1
  have hx := h x (by simp)
  exact ih (fun y hy => h y (by simp [hy])) (by omega) (by omega)
theorem getD_of {l : List Int} {p : Int → Prop} (h : ∀ x ∈ l, p x) (h0 : p 0) (k : Nat) : p (l.getD k 0) := by
 by_cases hk : k < l.length
 ·have : l.getD k 0 ∈ l := by rw [List.getD_eq_getElem?_getD, List.getElem?_eq_getElem hk]; exact List.getElem_mem _
  exact h _ this
 ·rw [List.getD_eq_getElem?_getD, List.getElem?_eq_none (by omega)]; exact h0
theorem cb_of {l : List Int} (h : ∀ x ∈ l, -4611686018427387904 ≤ x ∧ x < 4611686018427387904) : Cb l := by
 intro k _
 have h1 := cpc_small (l := l.take k) (fun x hx => h x (List.mem_of_mem_take hx)) (c := 0) (by omega) (by omega)
 have h2 := getD_of h (by omega) k
 unfold crx
 omega
structure Tq (a b t : List Int) (i k : Nat) : Prop where
 len : t.length = 32
 vl : val t = prodAt a b i k
 le : ∀ x ∈ t, 0 ≤ x ∧ x ≤ (16 * (i : Int) + (k : Int)) * 4294836225
theorem Tq.get {a b t : List Int} {i k : Nat} (h : Tq a b t i k) (j : Nat) : 0 ≤ t.getD j 0 ∧ t.getD j 0 ≤ (16 * (i : Int) + (k : Int)) * 4294836225 :=
 getD_of (p := fun x => 0 ≤ x ∧ x ≤ (16 * (i : Int) + (k : Int)) * 4294836225) h.le (by omega) j
theorem Tq.step {a b t : List Int} {i k : Nat} (h : Tq a b t i k) (hi : i < 16) (hk : k < b.length) (hk16 : k < 16) {p : Int} (hp : p = a.getD i 0 * b.getD k 0) (hp0 : 0 ≤ p) (hp1 : p ≤ 4294836225) : Tq a b (t.set (i + k) (t.getD (i + k) 0 + p)) i (k + 1) := by
 have hl := h.len
 have hg := h.get (i + k)
 refine ⟨by simp [hl], ?_, ?_⟩
 ·rw [val_set t (i + k) (by omega), h.vl, prodAt_step a b i k hk, hp]
  congr 2
  omega
 ·intro x hx
  rcases List.mem_or_eq_of_mem_set hx with h1 | h1
  ·have := h.le x h1
   simp only [Int.natCast_add, Int.natCast_one]
   omega
  ·subst h1
   simp only [Int.natCast_add, Int.natCast_one]
   omega
theorem Tq.row {a b t : List Int} {i : Nat} (h : Tq a b t i 16) (hb : b.length = 16) (hi : i < a.length) : Tq a b t (i + 1) 0 := by
 refine ⟨h.len, ?_, fun x hx => ?_⟩
 ·rw [h.vl, ← prodAt_row a b i hi, hb]
 ·have := h.le x hx
  simp only [Int.natCast_add, Int.natCast_one] at this ⊢
  omega
abbrev Z32 : List Int := [0, 0, 0, 0, 0, 0, 0, 0, 0, 0, 0, 0, 0, 0, 0, 0, 0, 0, 0, 0, 0, 0, 0, 0, 0, 0, 0, 0, 0, 0, 0, 0]
theorem Tq.zero (a b : List Int) : Tq a b Z32 0 0 := by
 refine ⟨rfl, ?_, ?_⟩
 ·simp [prodAt, val]
 ·intro x hx
  have : x = 0 := by simpa using hx
  omega
theorem zipJ_val : ∀ (a b : List Int), a.length = b.length → val (List.zipWith (fun x y => x + 38 * y) a b) = val a + 38 * val b
 | [], [], _ => by simp [val]
 | x :: a, y :: b, h => by
  have := zipJ_val a b (by simpa using h)
  simp only [List.zipWith_cons_cons, val, this]
  omega
 | [], _ :: _, h => by simp at h
 | _ :: _, [], h => by simp at h
def fo32 (t : List Int) : List Int := List.zipWith (fun x y => x + 38 * y) (t.take 16) (t.drop 16)
theorem fo32_len {t : List Int} (h : t.length = 32) : (fo32 t).length = 16 := by simp [fo32, h]
theorem fo32_get {t : List Int} (h : t.length = 32) (j : Nat) (hj : j < 16) : (fo32 t).getD j 0 = t.getD j 0 + 38 * t.getD (16 + j) 0 := by
 unfold fo32
 have e1 : (t.take 16)[j]? = some (t.getD j 0) := by
  rw [List.getElem?_take]
  simp [hj, show j < t.length by omega]
 have e2 : (t.drop 16)[j]? = some (t.getD (16 + j) 0) := by
  rw [List.getElem?_drop]
  simp [show 16 + j < t.length by omega]
 rw [List.getD, List.getElem?_zipWith, e1, e2]
 rfl
theorem fo32_mod {t : List Int} (h : t.length = 32) : val (fo32 t) % P25519 = val t % P25519 := by
 have e : val t = val (t.take 16) + 65536 ^ 16 * val (t.drop 16) := by
  conv => lhs; rw [← List.take_append_drop 16 t]
  rw [val_append]
  simp [h]
 unfold fo32
 rw [zipJ_val _ _ (by simp [h]), e, p256]
 unfold P25519
 omega
def Gq (l : List Int) : Prop := ∀ x ∈ l, 0 ≤ x ∧ x < 70368744177664
theorem fo32_gq {a b t : List Int} (h : Tq a b t 16 0) : Gq (fo32 t) := by
 intro x hx
 obtain ⟨j, hj⟩ := List.mem_iff_getElem?.1 hx
 have hjl := (List.getElem?_eq_some_iff.1 hj).1
 rw [fo32_len h.len] at hjl
 have e := fo32_get h.len j hjl
 rw [List.getD, hj] at e
 simp only [Option.getD_some] at e
 have h1 := h.get j
 have h2 := h.get (16 + j)
 subst e
 omega
theorem gq_val {l : List Int} (hl : l.length = 16) (h : Gq l) : 0 ≤ val l ∧ val l < 124332706268983421881201578354193775436344928461980494889141621375654012992588213059584 := by
 refine ⟨val_nonneg (fun x hx => (h x hx).1), ?_⟩
 have key : ∀ (m : List Int), Gq m → 65535 * val m ≤ 70368744177663 * (65536 ^ m.length - 1) := by
  intro m
  induction m with
  | nil => intro _; simp [val]
  | cons x m ih =>
   intro hm
   have hx := hm x (by simp)
   have := ih (fun y hy => hm y (by simp [hy]))
   simp only [val, List.length_cons, Int.pow_succ]
   omega
 have := key l h
 rw [hl, p256] at this
 omega
theorem gq_cb {l : List Int} (h : Gq l) : Cb l := cb_of (fun x hx => by have := h x hx; omega)

def tops (l : List Int) : List Int := (l.set 0 (l.getD 0 0 + 19 * (l.getD 15 0 / 32768))).set 15 (l.getD 15 0 % 32768)
theorem tops_len (l : List Int) : (tops l).length = l.length := by simp [tops]
theorem tops_val {l : List Int} (hl : l.length = 16) (h : Gq l) : val (tops (crd l)) = fold5 (val l) := by
 have hc := crd_len hl
 have hv : val (crd l) = val l := by
  rw [crd_eq hl, val_append, lim_len, val_lim]
  simp only [val]
  have := Int.emod_add_mul_ediv (val l) (65536 ^ 15)
  omega
 have hg : (crd l).getD 15 0 = val l / 65536 ^ 15 := by
  rw [crd_eq hl]
  simp [List.getD, lim_len]
 have hs : ((crd l).set 0 ((crd l).getD 0 0 + 19 * ((crd l).getD 15 0 / 32768))).getD 15 0 = (crd l).getD 15 0 := by simp [List.getD]
 unfold tops
 rw [val_set _ 15 (by simp [hc]), hs, val_set _ 0 (by omega), hv, hg, p240]
 unfold fold5
 simp only [Int.pow_zero, Int.one_mul]
 have := gq_val hl h
 omega
theorem crd_bd {l : List Int} (hl : l.length = 16) (h : Gq l) : ∀ x ∈ crd l, 0 ≤ x ∧ x < 70370891661312 := by
 have hv := gq_val hl h
 rw [crd_eq hl, p240]
 intro x hx
 rcases List.mem_append.1 hx with hx | hx
 ·have := lim_lm 15 _ x hx; omega
 ·simp only [List.mem_singleton] at hx
  subst hx
  omega
theorem tops_bd {l : List Int} (hl : l.length = 16) (h : Gq l) : ∀ x ∈ tops (crd l), 0 ≤ x ∧ x < 4611686018427387904 := by
 have hb := crd_bd hl h
 have h0 := getD_of hb (by omega) 0
 have h15 := getD_of hb (by omega) 15
 intro x hx
 unfold tops at hx
 rcases List.mem_or_eq_of_mem_set hx with h1 | h1
 ·rcases List.mem_or_eq_of_mem_set h1 with h2 | h2
  ·have := hb x h2; omega
  ·omega
 ·omega
def stl (l : List Int) : List Int := crd (tops (crd l))
theorem stl_lim {l : List Int} (hl : l.length = 16) (h : Gq l) : stl l = lim 16 (fold5 (val l)) ∧ 0 ≤ fold5 (val l) ∧ fold5 (val l) < 2 * P25519 ∧ fold5 (val l) % P25519 = val l % P25519 := by
 have hv := gq_val hl h
 have ht : (tops (crd l)).length = 16 := by rw [tops_len, crd_len hl]
 have hb : 0 ≤ fold5 (val l) ∧ fold5 (val l) < 2 * P25519 ∧ fold5 (val l) % P25519 = val l % P25519 := by
  unfold fold5 P25519
  omega
 refine ⟨?_, hb⟩
 unfold stl
 have e := tops_val hl h
 rw [crd_lim ht (by rw [e]; exact hb.1) (by rw [e]; have := hb.2.1; unfold P25519 at this; omega), e]
theorem less_red {x v : Int} (h0 : 0 ≤ x) (h1 : x < 2 * P25519) (h2 : x % P25519 = v % P25519) : (x < P25519 → lim 16 x = red v) ∧ (¬ x < P25519 → lim 16 (x - P25519) = red v) := by
 unfold red
 rw [← h2]
 constructor
 ·intro h; rw [Int.emod_eq_of_lt h0 h]
 ·intro h
  rw [show x % P25519 = x - P25519 by unfold P25519 at *; omega]

theorem red_pow_sq (x : Int) (i : Nat) : red (val (red (x ^ 2 ^ i)) * val (red (x ^ 2 ^ i))) = red (x ^ 2 ^ (i + 1)) := by
 rw [val_red, red, red, ← Int.mul_emod, ← Int.pow_add, Nat.pow_succ]
 congr 3
 omega
theorem red_pow_bit (x : Int) (N i : Nat) (h : N / 2 ^ i % 2 = 1) : red (val (red (x ^ (N % 2 ^ i))) * val (red (x ^ 2 ^ i))) = red (x ^ (N % 2 ^ (i + 1))) := by
 rw [val_red, val_red, red, red, ← Int.mul_emod, ← Int.pow_add]
 congr 3
 rw [Nat.pow_succ, Nat.mod_mul, h]
 omega
theorem pow_nobit (N i : Nat) (h : N / 2 ^ i % 2 = 0) : N % 2 ^ i = N % 2 ^ (i + 1) := by
 rw [Nat.pow_succ, Nat.mod_mul, h]
 omega
end Go.Proofs.YtihoaakbkffejaaGreatDoor
