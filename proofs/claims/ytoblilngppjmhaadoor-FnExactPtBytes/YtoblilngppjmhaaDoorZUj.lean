/-
  What is proved here: contracts of the specification's PtAdd, PtTwice, PtNeg and PtMul.
-/
import Derived.Test.YtoblilngppjmhaaDoorZUg
import Derived.Test.YtoblilngppjmhaaDoorZUh
import Derived.Test.YtoblilngppjmhaaDoorZUi
import Derived.Test.YtoblilngppjmhaaDoorZUf
import Derived.Test.YtoblilngppjmhaaDoorZKc
import Derived.Test.YtoblilngppjmhaaDoorZKb
import Derived.Test.YtoblilngppjmhaaDoorZJa
namespace Go.Proofs.YtoblilngppjmhaaDoor
open Go.RowKit
set_option maxRecDepth 100000

set_option maxHeartbeats 4000000 in
theorem specPtAdd (a1 : Option Addr) (n1 c1 : Nat) (xs1 : List Int) (b1 : Option Addr) (m1 d1 : Nat) (ys1 : List Int) (a2 : Option Addr) (n2 c2 : Nat) (xs2 : List Int) (b2 : Option Addr) (m2 d2 : Nat) (ys2 : List Int) (w : World) (hx1 : Is w a1 n1 c1 xs1) (hy1 : Is w b1 m1 d1 ys1) (hx2 : Is w a2 n2 c2 xs2) (hy2 : Is w b2 m2 d2 ys2) :
  Calls Tryd.prog 39 #[.agg #[.slice a1 n1 c1, .slice b1 m1 d1], .agg #[.slice a2 n2 c2, .slice b2 m2 d2]] w fun e w' => ∃ v, e = .returned (.tuple #[v, .bool (ptOk xs1 ys1 && ptOk xs2 ys2)]) ∧ PtT 3 w w' v (ptx (ptOk xs1 ys1 && ptOk xs2 ys2) (add6 (mk6 xs1 ys1) (mk6 xs2 ys2))) (pty (ptOk xs1 ys1 && ptOk xs2 ys2) (add6 (mk6 xs1 ys1) (mk6 xs2 ys2))) ∧ Below w.heap.size w w' := by
 obtain ⟨p, hp⟩ : ∃ p, p = ptOk xs1 ys1 := ⟨_, rfl⟩
 have HP : Hid (∀ Z, Below w.heap.size w Z → Calls Tryd.prog 17 #[.agg #[.slice a1 n1 c1, .slice b1 m1 d1]] Z fun e w' => e = .returned (.bool p) ∧ Below Z.heap.size Z w') := by
  unfold Hid; intro Z hZ; rw [hp]; exact specPtOk a1 n1 c1 xs1 b1 m1 d1 ys1 Z (hx1.below hZ) (hy1.below hZ)
 obtain ⟨q, hq⟩ : ∃ q, q = ptOk xs2 ys2 := ⟨_, rfl⟩
 have HQ : Hid (∀ Z, Below w.heap.size w Z → Calls Tryd.prog 17 #[.agg #[.slice a2 n2 c2, .slice b2 m2 d2]] Z fun e w' => e = .returned (.bool q) ∧ Below Z.heap.size Z w') := by
  unfold Hid; intro Z hZ; rw [hq]; exact specPtOk a2 n2 c2 xs2 b2 m2 d2 ys2 Z (hx2.below hZ) (hy2.below hZ)
 have HI1 : Hid (p = true → ∀ Z, Below w.heap.size w Z → Calls Tryd.prog 91 #[.agg #[.slice a1 n1 c1, .slice b1 m1 d1]] Z fun e w' => e = .returned (.agg (I64 (mk6 xs1 ys1).cells).toArray) ∧ Below Z.heap.size Z w') := by
  unfold Hid; intro h Z hZ
  rw [hp] at h
  obtain ⟨k1, k2, _⟩ := (ptOk_iff _ _).1 h
  have e1 : n1 = 16 := by rw [← hx1.2.1]; exact feOk_len k1
  have e2 : m1 = 16 := by rw [← hy1.2.1]; exact feOk_len k2
  subst e1 e2
  exact spec6in a1 c1 xs1 b1 d1 ys1 Z (hx1.below hZ) (hy1.below hZ) k1 k2
 have HI2 : Hid (q = true → ∀ Z, Below w.heap.size w Z → Calls Tryd.prog 91 #[.agg #[.slice a2 n2 c2, .slice b2 m2 d2]] Z fun e w' => e = .returned (.agg (I64 (mk6 xs2 ys2).cells).toArray) ∧ Below Z.heap.size Z w') := by
  unfold Hid; intro h Z hZ
  rw [hq] at h
  obtain ⟨k1, k2, _⟩ := (ptOk_iff _ _).1 h
  have e1 : n2 = 16 := by rw [← hx2.2.1]; exact feOk_len k1
  have e2 : m2 = 16 := by rw [← hy2.2.1]; exact feOk_len k2
  subst e1 e2
  exact spec6in a2 c2 xs2 b2 d2 ys2 Z (hx2.below hZ) (hy2.below hZ) k1 k2
 obtain ⟨R, hR⟩ : ∃ R, R = add6 (mk6 xs1 ys1) (mk6 xs2 ys2) := ⟨_, rfl⟩
 have HRO : Hid (p = true → q = true → R.Ok) := by
  unfold Hid; intro h h2; rw [hR]
  exact add6_ok _ _
 have HM : Hid (p = true → q = true → ∀ Z, Calls Tryd.prog 90 #[.agg (I64 (mk6 xs1 ys1).cells).toArray, .agg (I64 (mk6 xs2 ys2).cells).toArray] Z fun e w' => e = .returned (.agg (I64 R.cells).toArray) ∧ Below Z.heap.size Z w') := by
  unfold Hid; intro h h2 Z; rw [hR]
  rw [hp] at h
  obtain ⟨k1, k2, _⟩ := (ptOk_iff _ _).1 h
  rw [hq] at h2
  obtain ⟨k3, k4, _⟩ := (ptOk_iff _ _).1 h2
  exact spec6add _ _ Z (mk6_ok k1 k2) (mk6_ok k3 k4)
 have HF : Hid (p = true → q = true → ∀ Z, Calls Tryd.prog 86 #[.agg (I64 R.cells).toArray] Z fun e w' => ∃ v, e = .returned v ∧ PtT 3 Z w' v (flx R) (fly R) ∧ Below Z.heap.size Z w') := by
  unfold Hid; intro h h2 Z; exact spec6out R Z (HRO.out h h2)
 rw [← hp, ← hq, ← hR]
 obtain ⟨P, hPe⟩ : ∃ P, P = mk6 xs1 ys1 := ⟨_, rfl⟩
 obtain ⟨Q, hQe⟩ : ∃ P, P = mk6 xs2 ys2 := ⟨_, rfl⟩
 rw [← hPe] at HI1 HM
 rw [← hQe] at HI2 HM
 have hu : Tryd.prog.underlying 27 = some _ := Tryd.underlying27
 obtain ⟨W, hW⟩ : ∃ W, W = ((w.alloc (.cells #[.slice a1 n1 c1, .slice b1 m1 d1] 27)).alloc (.cells #[.slice a2 n2 c2, .slice b2 m2 d2] 27)).alloc (.cells #[.slice none 0 0, .slice none 0 0] 27) := ⟨_, rfl⟩
 have fr : Below w.heap.size w W := by rw [hW]; exact (((Below.refl _ _).alloc (Nat.le_refl _) _).alloc (by simp) _).alloc (by simp; omega) _
 have pa1 : Arr W w.heap.size 27 ([.slice a1 n1 c1, .slice b1 m1 d1]) := by
  rw [hW]
  have := (((Arr.new (w) [.slice a1 n1 c1, .slice b1 m1 d1] 27).alloc (.cells #[.slice a2 n2 c2, .slice b2 m2 d2] 27)).alloc (.cells #[.slice none 0 0, .slice none 0 0] 27))
  exact this
 have pa2 : Arr W (w.heap.size + 1) 27 ([.slice a2 n2 c2, .slice b2 m2 d2]) := by
  rw [hW]
  have := ((Arr.new (w.alloc (.cells #[.slice a1 n1 c1, .slice b1 m1 d1] 27)) [.slice a2 n2 c2, .slice b2 m2 d2] 27).alloc (.cells #[.slice none 0 0, .slice none 0 0] 27))
  rw [World.size_alloc] at this
  exact this
 have pr : Arr W (w.heap.size + 2) 27 ([.slice none 0 0, .slice none 0 0]) := by
  rw [hW]
  have := (Arr.new ((w.alloc (.cells #[.slice a1 n1 c1, .slice b1 m1 d1] 27)).alloc (.cells #[.slice a2 n2 c2, .slice b2 m2 d2] 27)) [.slice none 0 0, .slice none 0 0] 27)
  rw [World.size_alloc, World.size_alloc] at this
  exact this
 clear hp hq hR hPe hQe hx1 hy1 hx2 hy2
 go_enter Tryd.func39, Tryd.ntmps39
 go_upto_region 1 with fail
 rw [← hW]
 clear hW
 go_wp2_with (refine wpList_load_row rfl 27 _ rfl w.heap.size rfl 27 ([Value.slice a1 n1 c1,  Value.slice b1 m1 d1]).toArray (0, 0) _ pa1 Tryd.underlying27 rfl infoPt ?_)
 refine (HP.out _ fr).mono ?_
 rintro e y1 ⟨rfl, hb1⟩
 replace fr := fr.trans (hb1.mono fr.size)
 replace pa1 := pa1.kept hb1
 replace pa2 := pa2.kept hb1
 replace pr := pr.kept hb1
 clear hb1
 cases p with
 | false =>
  have HB : Hid _ := setRow_below fr (w.heap.size + 2) ([.slice none 0 0, .slice none 0 0]).toArray (by omega)
  have h2 := pr.row ([.slice none 0 0, .slice none 0 0])
  go_wp2_with (refine wpList_store_row rfl 27 _ _ rfl (w.heap.size + 2) ([Value.slice none 0 0,  Value.slice none 0 0]).toArray rfl rfl 27 _ pr infoPt rfl (by simp [Value.oneCell']) ?_)
  exact bodyPost_ret (results_row_tmp (v := .bool false) (cs := [.slice none 0 0, .slice none 0 0]) rfl rfl rfl h2 Tryd.underlying27 rfl infoPt) rfl ⟨_, rfl, ptT_nil _ _ _, HB.out⟩
 | true =>
  go_wp2_with (refine wpList_load_rowW rfl 27 _ rfl (w.heap.size + 1) rfl 27 ([Value.slice a2 n2 c2,  Value.slice b2 m2 d2]).toArray (0, 0) _ pa2 Tryd.underlying27 rfl infoPt ?_)
  refine (HQ.out _ fr).mono ?_
  rintro e y2 ⟨rfl, hb2⟩
  replace fr := fr.trans (hb2.mono fr.size)
  replace pa1 := pa1.kept hb2
  replace pa2 := pa2.kept hb2
  replace pr := pr.kept hb2
  clear hb2
  cases q with
  | false =>
   have HB : Hid _ := setRow_below fr (w.heap.size + 2) ([.slice none 0 0, .slice none 0 0]).toArray (by omega)
   have h2 := pr.row ([.slice none 0 0, .slice none 0 0])
   go_wp2_with (refine wpList_store_row rfl 27 _ _ rfl (w.heap.size + 2) ([Value.slice none 0 0,  Value.slice none 0 0]).toArray rfl rfl 27 _ pr infoPt rfl (by simp [Value.oneCell']) ?_)
   exact bodyPost_ret (results_row_tmp (v := .bool false) (cs := [.slice none 0 0, .slice none 0 0]) rfl rfl rfl h2 Tryd.underlying27 rfl infoPt) rfl ⟨_, rfl, ptT_nil _ _ _, HB.out⟩
  | true =>
   go_upto_region 3 with fail
   try simp only [Act.put]
   have bD : Below y2.heap.size y2 y2.drew := (Below.refl _ _).drew
   replace fr := fr.trans (bD.mono fr.size)
   replace pa1 := pa1.kept bD
   replace pa2 := pa2.kept bD
   replace pr := pr.kept bD
   clear bD
   refine wp_region_held_drew (S := fun W => W.rangeAt w.heap.size 0 [.slice a1 n1 c1, .slice b1 m1 d1] ∧ W.rangeAt (w.heap.size + 1) 0 [.slice a2 n2 c2, .slice b2 m2 d2]) (by kernel_rfl) ⟨arr_range pa1, arr_range pa2⟩ (fun hHeld => ?_)
   obtain ⟨D3, hD⟩ : ∃ V, V = y2.drew := ⟨_, rfl⟩
   rw [← hD] at hHeld fr pa1 pa2 pr ⊢
   clear hD
   refine wpAnyH_take (i := 0) (oi := { dst := some 15, op := Op.load 27 (Operand.tmp 2), type := 27, pos := "l06_point.go:89", after := #[], guard := none }) (v := _) rfl (by kernel_rfl) (by kernel_rfl) (by kernel_rfl) (fun _ _ _ h => h) (yieldsIf_load_mid (by rfl) _ _ rfl _ _ rfl ([.slice a1 n1 c1, .slice b1 m1 d1]) _ (fun _ h => h.1) hu rfl infoPt) (by assumption) ?_
   simp only [Act.put, List.setIfInBounds_toArray, List.set_cons_zero, List.set_cons_succ]
   refine wpAnyH_take (i := 2) (oi := { dst := some 17, op := Op.load 27 (Operand.tmp 3), type := 27, pos := "l06_point.go:89", after := #[], guard := none }) (v := _) rfl (by kernel_rfl) (by kernel_rfl) (by kernel_rfl) (fun _ _ _ h => h) (yieldsIf_load_mid (by rfl) _ _ rfl _ _ rfl ([.slice a2 n2 c2, .slice b2 m2 d2]) _ (fun _ h => h.2) hu rfl infoPt) (by assumption) ?_
   simp only [Act.put, List.setIfInBounds_toArray, List.set_cons_zero, List.set_cons_succ]
   refine wpAnyH_ready (rs := [1]) (by kernel_rfl) (by simp) (AllReadyH.cons (o := { dst := some 16, op := Op.call { callee := Callee.value (Operand.func 91), args := #[Operand.tmp 15], argTypes := #[27] }, type := 108, pos := "l06_point.go:89", after := #[{ on := 0, ground := Ground.data }], guard := none }) rfl (fun K hK => ?_) AllReadyH.nil)
   go_simp
   refine (HI1.out (by simp) _ fr).mono ?_
   rintro e y4 ⟨rfl, hb4⟩
   replace fr := fr.trans (hb4.mono fr.size)
   replace pa1 := pa1.kept hb4
   replace pa2 := pa2.kept hb4
   replace pr := pr.kept hb4
   clear hb4
   go_wp2_with fail
   refine hK.out _ _ ⟨arr_range pa1, arr_range pa2⟩ (fun hHeld => ?_)
   clear hK K
   refine wpAnyH_ready (rs := [3]) (by kernel_rfl) (by simp) (AllReadyH.cons (o := { dst := some 18, op := Op.call { callee := Callee.value (Operand.func 91), args := #[Operand.tmp 17], argTypes := #[27] }, type := 108, pos := "l06_point.go:89", after := #[{ on := 2, ground := Ground.data }, { on := 1, ground := Ground.chain }], guard := none }) rfl (fun K hK => ?_) AllReadyH.nil)
   go_simp
   refine (HI2.out (by simp) _ fr).mono ?_
   rintro e y5 ⟨rfl, hb5⟩
   replace fr := fr.trans (hb5.mono fr.size)
   replace pa1 := pa1.kept hb5
   replace pa2 := pa2.kept hb5
   replace pr := pr.kept hb5
   clear hb5
   go_wp2_with fail
   refine hK.out _ _ ⟨arr_range pa1, arr_range pa2⟩ (fun hHeld => ?_)
   clear hK K
   refine wpAnyH_ready (rs := [4]) (by kernel_rfl) (by simp) (AllReadyH.cons (o := { dst := some 19, op := Op.call { callee := Callee.value (Operand.func 90), args := #[Operand.tmp 16, Operand.tmp 18], argTypes := #[108, 108] }, type := 108, pos := "l06_point.go:89", after := #[{ on := 1, ground := Ground.data }, { on := 3, ground := Ground.data }, { on := 3, ground := Ground.chain }], guard := none }) rfl (fun K hK => ?_) AllReadyH.nil)
   go_simp
   refine (HM.out (by simp) (by simp) _).mono ?_
   rintro e y6 ⟨rfl, hb6⟩
   replace fr := fr.trans (hb6.mono fr.size)
   replace pa1 := pa1.kept hb6
   replace pa2 := pa2.kept hb6
   replace pr := pr.kept hb6
   clear hb6
   go_wp2_with fail
   refine hK.out _ _ ⟨arr_range pa1, arr_range pa2⟩ (fun hHeld => ?_)
   clear hK K
   refine wpAnyH_ready (rs := [5]) (by kernel_rfl) (by simp) (AllReadyH.cons (o := { dst := some 20, op := Op.call { callee := Callee.value (Operand.func 86), args := #[Operand.tmp 19], argTypes := #[108] }, type := 27, pos := "l06_point.go:89", after := #[{ on := 4, ground := Ground.data }, { on := 4, ground := Ground.chain }], guard := none }) rfl (fun K hK => ?_) AllReadyH.nil)
   go_simp
   have hl : w.heap.size + 2 < y6.heap.size := pr.lt
   refine (HF.out (by simp) (by simp) _).mono ?_
   rintro e y7 ⟨v, rfl, hpt, hb7⟩
   replace fr := fr.trans (hb7.mono fr.size)
   replace pa1 := pa1.kept hb7
   replace pa2 := pa2.kept hb7
   replace pr := pr.kept hb7
   clear hb7
   obtain ⟨aa, ca, ab, cb, rfl, oa, ob, hap⟩ := hpt
   rw [flx_len, fly_len] at hap ⊢
   rw [flx_len] at oa
   rw [fly_len] at ob
   have ia := In.of oa
   have ib := In.of ob
   go_wp2_with fail
   refine hK.out _ _ ⟨arr_range pa1, arr_range pa2⟩ (fun hHeld => ?_)
   clear hK K
   refine wpAnyH_ready (rs := [6]) (by kernel_rfl) (by simp) (AllReadyH.cons (o := { dst := none, op := Op.store 27 (Operand.tmp 4) (Operand.tmp 20), type := 0, pos := "l06_point.go:89", after := #[{ on := 5, ground := Ground.data }, { on := 5, ground := Ground.chain }, { on := 0, ground := Ground.phase }, { on := 1, ground := Ground.phase }, { on := 2, ground := Ground.phase }, { on := 3, ground := Ground.phase }, { on := 4, ground := Ground.phase }, { on := 5, ground := Ground.phase }], guard := none }) rfl (fun K hK => ?_) AllReadyH.nil)
   rw [if_pos (by rfl)]
   refine wp_store_mid _ _ _ rfl _ _ ([.slice aa 16 ca, .slice ab 16 cb]).toArray rfl rfl (by have := arr_there pr; simpa using this) infoPt (all_oneCell_toArray (by simp [Value.oneCell'])) ?_
   simp only [Act.put]
   obtain ⟨V8, hVe⟩ : ∃ V, V = y7.setCells (w.heap.size + 2) 0 ([.slice aa 16 ca, .slice ab 16 cb]) := ⟨_, rfl⟩
   rw [← hVe]
   replace fr : Below w.heap.size w V8 := by rw [hVe]; exact setCells_below (by omega) _ _ fr
   replace pa1 : Arr V8 w.heap.size 27 ([.slice a1 n1 c1, .slice b1 m1 d1]) := by rw [hVe]; exact Arr.setCellsO (by omega) _ _ pa1
   replace pa2 : Arr V8 (w.heap.size + 1) 27 ([.slice a2 n2 c2, .slice b2 m2 d2]) := by rw [hVe]; exact Arr.setCellsO (by omega) _ _ pa2
   replace pr : Arr V8 (w.heap.size + 2) 27 ([.slice aa 16 ca, .slice ab 16 cb]) := by rw [hVe]; exact Arr.setCells0 pr (by simp)
   replace oa : V8.ownsRow y6.heap.size 3 1 (.slice aa 16 ca) 16 (I64 (flx R)) := by rw [hVe]; exact own_setCells oa ia (.inl hl) _
   replace ob : V8.ownsRow y6.heap.size 3 1 (.slice ab 16 cb) 16 (I64 (fly R)) := by rw [hVe]; exact own_setCells ob ib (.inl hl) _
   clear hVe
   refine hK.out _ _ ⟨arr_range pa1, arr_range pa2⟩ (fun hHeld => ?_)
   clear hK K
   refine wpAnyH_ready (rs := [7]) (by kernel_rfl) (by simp) (AllReadyH.cons (o := { dst := some 5, op := Op.assign (Operand.const (Value.bool true)), type := 4, pos := "l06_point.go:89", after := #[{ on := 6, ground := Ground.chain }, { on := 0, ground := Ground.phase }, { on := 1, ground := Ground.phase }, { on := 2, ground := Ground.phase }, { on := 3, ground := Ground.phase }, { on := 4, ground := Ground.phase }, { on := 5, ground := Ground.phase }, { on := 6, ground := Ground.phase }], guard := none }) rfl (fun K hK => ?_) AllReadyH.nil)
   go_simp
   refine hK.out _ _ ⟨arr_range pa1, arr_range pa2⟩ (fun hHeld => ?_)
   clear hK K
   refine wpAnyH_done (by kernel_rfl) ?_ _
   go_wp2
   exact bodyPost_ret (results_row_tmp (v := .bool true) (cs := [.slice aa 16 ca, .slice ab 16 cb]) rfl rfl rfl pr Tryd.underlying27 rfl infoPt) rfl ⟨_, rfl, ptT_16 (flx_len R) (fly_len R) (own_base oa (by omega)) (own_base ob (by omega)) hap, fr⟩

set_option maxHeartbeats 4000000 in
theorem specPtTwice (a1 : Option Addr) (n1 c1 : Nat) (xs1 : List Int) (b1 : Option Addr) (m1 d1 : Nat) (ys1 : List Int) (w : World) (hx1 : Is w a1 n1 c1 xs1) (hy1 : Is w b1 m1 d1 ys1) :
  Calls Tryd.prog 52 #[.agg #[.slice a1 n1 c1, .slice b1 m1 d1]] w fun e w' => ∃ v, e = .returned (.tuple #[v, .bool (ptOk xs1 ys1)]) ∧ PtT 3 w w' v (ptx (ptOk xs1 ys1) (add6 (mk6 xs1 ys1) (mk6 xs1 ys1))) (pty (ptOk xs1 ys1) (add6 (mk6 xs1 ys1) (mk6 xs1 ys1))) ∧ Below w.heap.size w w' := by
 obtain ⟨p, hp⟩ : ∃ p, p = ptOk xs1 ys1 := ⟨_, rfl⟩
 have HP : Hid (∀ Z, Below w.heap.size w Z → Calls Tryd.prog 17 #[.agg #[.slice a1 n1 c1, .slice b1 m1 d1]] Z fun e w' => e = .returned (.bool p) ∧ Below Z.heap.size Z w') := by
  unfold Hid; intro Z hZ; rw [hp]; exact specPtOk a1 n1 c1 xs1 b1 m1 d1 ys1 Z (hx1.below hZ) (hy1.below hZ)
 have HI1 : Hid (p = true → ∀ Z, Below w.heap.size w Z → Calls Tryd.prog 91 #[.agg #[.slice a1 n1 c1, .slice b1 m1 d1]] Z fun e w' => e = .returned (.agg (I64 (mk6 xs1 ys1).cells).toArray) ∧ Below Z.heap.size Z w') := by
  unfold Hid; intro h Z hZ
  rw [hp] at h
  obtain ⟨k1, k2, _⟩ := (ptOk_iff _ _).1 h
  have e1 : n1 = 16 := by rw [← hx1.2.1]; exact feOk_len k1
  have e2 : m1 = 16 := by rw [← hy1.2.1]; exact feOk_len k2
  subst e1 e2
  exact spec6in a1 c1 xs1 b1 d1 ys1 Z (hx1.below hZ) (hy1.below hZ) k1 k2
 obtain ⟨R, hR⟩ : ∃ R, R = add6 (mk6 xs1 ys1) (mk6 xs1 ys1) := ⟨_, rfl⟩
 have HRO : Hid (p = true → R.Ok) := by
  unfold Hid; intro h; rw [hR]
  exact add6_ok _ _
 have HM : Hid (p = true → ∀ Z, Calls Tryd.prog 90 #[.agg (I64 (mk6 xs1 ys1).cells).toArray, .agg (I64 (mk6 xs1 ys1).cells).toArray] Z fun e w' => e = .returned (.agg (I64 R.cells).toArray) ∧ Below Z.heap.size Z w') := by
  unfold Hid; intro h Z; rw [hR]
  rw [hp] at h
  obtain ⟨k1, k2, _⟩ := (ptOk_iff _ _).1 h
  exact spec6add _ _ Z (mk6_ok k1 k2) (mk6_ok k1 k2)
 have HF : Hid (p = true → ∀ Z, Calls Tryd.prog 86 #[.agg (I64 R.cells).toArray] Z fun e w' => ∃ v, e = .returned v ∧ PtT 3 Z w' v (flx R) (fly R) ∧ Below Z.heap.size Z w') := by
  unfold Hid; intro h Z; exact spec6out R Z (HRO.out h)
 rw [← hp, ← hR]
 obtain ⟨P, hPe⟩ : ∃ P, P = mk6 xs1 ys1 := ⟨_, rfl⟩
 rw [← hPe] at HI1 HM
 have hu : Tryd.prog.underlying 27 = some _ := Tryd.underlying27
 obtain ⟨W, hW⟩ : ∃ W, W = (w.alloc (.cells #[.slice a1 n1 c1, .slice b1 m1 d1] 27)).alloc (.cells #[.slice none 0 0, .slice none 0 0] 27) := ⟨_, rfl⟩
 have fr : Below w.heap.size w W := by rw [hW]; exact ((Below.refl _ _).alloc (Nat.le_refl _) _).alloc (by simp) _
 have pa1 : Arr W w.heap.size 27 ([.slice a1 n1 c1, .slice b1 m1 d1]) := by
  rw [hW]
  have := ((Arr.new (w) [.slice a1 n1 c1, .slice b1 m1 d1] 27).alloc (.cells #[.slice none 0 0, .slice none 0 0] 27))
  exact this
 have pr : Arr W (w.heap.size + 1) 27 ([.slice none 0 0, .slice none 0 0]) := by
  rw [hW]
  have := (Arr.new (w.alloc (.cells #[.slice a1 n1 c1, .slice b1 m1 d1] 27)) [.slice none 0 0, .slice none 0 0] 27)
  rw [World.size_alloc] at this
  exact this
 clear hp hR hPe hx1 hy1
 go_enter Tryd.func52, Tryd.ntmps52
 go_upto_region 1 with fail
 rw [← hW]
 clear hW
 go_wp2_with (refine wpList_load_row rfl 27 _ rfl w.heap.size rfl 27 ([Value.slice a1 n1 c1,  Value.slice b1 m1 d1]).toArray (0, 0) _ pa1 Tryd.underlying27 rfl infoPt ?_)
 refine (HP.out _ fr).mono ?_
 rintro e y1 ⟨rfl, hb1⟩
 replace fr := fr.trans (hb1.mono fr.size)
 replace pa1 := pa1.kept hb1
 replace pr := pr.kept hb1
 clear hb1
 cases p with
 | false =>
  have HB : Hid _ := setRow_below fr (w.heap.size + 1) ([.slice none 0 0, .slice none 0 0]).toArray (by omega)
  have h2 := pr.row ([.slice none 0 0, .slice none 0 0])
  go_wp2_with (refine wpList_store_row rfl 27 _ _ rfl (w.heap.size + 1) ([Value.slice none 0 0,  Value.slice none 0 0]).toArray rfl rfl 27 _ pr infoPt rfl (by simp [Value.oneCell']) ?_)
  exact bodyPost_ret (results_row_tmp (v := .bool false) (cs := [.slice none 0 0, .slice none 0 0]) rfl rfl rfl h2 Tryd.underlying27 rfl infoPt) rfl ⟨_, rfl, ptT_nil _ _ _, HB.out⟩
 | true =>
  go_upto_region 3 with fail
  try simp only [Act.put]
  have bD : Below y1.heap.size y1 y1.drew := (Below.refl _ _).drew
  replace fr := fr.trans (bD.mono fr.size)
  replace pa1 := pa1.kept bD
  replace pr := pr.kept bD
  clear bD
  refine wp_region_held_drew (S := fun W => W.rangeAt w.heap.size 0 [.slice a1 n1 c1, .slice b1 m1 d1]) (by kernel_rfl) (arr_range pa1) (fun hHeld => ?_)
  obtain ⟨D2, hD⟩ : ∃ V, V = y1.drew := ⟨_, rfl⟩
  rw [← hD] at hHeld fr pa1 pr ⊢
  clear hD
  refine wpAnyH_take (i := 0) (oi := { dst := some 8, op := Op.load 27 (Operand.tmp 1), type := 27, pos := "l06_point.go:218", after := #[], guard := none }) (v := _) rfl (by kernel_rfl) (by kernel_rfl) (by kernel_rfl) (fun _ _ _ h => h) (yieldsIf_load_mid (by rfl) _ _ rfl _ _ rfl ([.slice a1 n1 c1, .slice b1 m1 d1]) _ (fun _ h => h) hu rfl infoPt) (by assumption) ?_
  simp only [Act.put, List.setIfInBounds_toArray, List.set_cons_zero, List.set_cons_succ]
  refine wpAnyH_take (i := 2) (oi := { dst := some 10, op := Op.load 27 (Operand.tmp 1), type := 27, pos := "l06_point.go:218", after := #[], guard := none }) (v := _) rfl (by kernel_rfl) (by kernel_rfl) (by kernel_rfl) (fun _ _ _ h => h) (yieldsIf_load_mid (by rfl) _ _ rfl _ _ rfl ([.slice a1 n1 c1, .slice b1 m1 d1]) _ (fun _ h => h) hu rfl infoPt) (by assumption) ?_
  simp only [Act.put, List.setIfInBounds_toArray, List.set_cons_zero, List.set_cons_succ]
  refine wpAnyH_ready (rs := [1]) (by kernel_rfl) (by simp) (AllReadyH.cons (o := { dst := some 9, op := Op.call { callee := Callee.value (Operand.func 91), args := #[Operand.tmp 8], argTypes := #[27] }, type := 108, pos := "l06_point.go:218", after := #[{ on := 0, ground := Ground.data }], guard := none }) rfl (fun K hK => ?_) AllReadyH.nil)
  go_simp
  refine (HI1.out (by simp) _ fr).mono ?_
  rintro e y3 ⟨rfl, hb3⟩
  replace fr := fr.trans (hb3.mono fr.size)
  replace pa1 := pa1.kept hb3
  replace pr := pr.kept hb3
  clear hb3
  go_wp2_with fail
  refine hK.out _ _ (arr_range pa1) (fun hHeld => ?_)
  clear hK K
  refine wpAnyH_ready (rs := [3]) (by kernel_rfl) (by simp) (AllReadyH.cons (o := { dst := some 11, op := Op.call { callee := Callee.value (Operand.func 91), args := #[Operand.tmp 10], argTypes := #[27] }, type := 108, pos := "l06_point.go:218", after := #[{ on := 2, ground := Ground.data }, { on := 1, ground := Ground.chain }], guard := none }) rfl (fun K hK => ?_) AllReadyH.nil)
  go_simp
  refine (HI1.out (by simp) _ fr).mono ?_
  rintro e y4 ⟨rfl, hb4⟩
  replace fr := fr.trans (hb4.mono fr.size)
  replace pa1 := pa1.kept hb4
  replace pr := pr.kept hb4
  clear hb4
  go_wp2_with fail
  refine hK.out _ _ (arr_range pa1) (fun hHeld => ?_)
  clear hK K
  refine wpAnyH_ready (rs := [4]) (by kernel_rfl) (by simp) (AllReadyH.cons (o := { dst := some 12, op := Op.call { callee := Callee.value (Operand.func 90), args := #[Operand.tmp 9, Operand.tmp 11], argTypes := #[108, 108] }, type := 108, pos := "l06_point.go:218", after := #[{ on := 1, ground := Ground.data }, { on := 3, ground := Ground.data }, { on := 3, ground := Ground.chain }], guard := none }) rfl (fun K hK => ?_) AllReadyH.nil)
  go_simp
  refine (HM.out (by simp) _).mono ?_
  rintro e y5 ⟨rfl, hb5⟩
  replace fr := fr.trans (hb5.mono fr.size)
  replace pa1 := pa1.kept hb5
  replace pr := pr.kept hb5
  clear hb5
  go_wp2_with fail
  refine hK.out _ _ (arr_range pa1) (fun hHeld => ?_)
  clear hK K
  refine wpAnyH_ready (rs := [5]) (by kernel_rfl) (by simp) (AllReadyH.cons (o := { dst := some 13, op := Op.call { callee := Callee.value (Operand.func 86), args := #[Operand.tmp 12], argTypes := #[108] }, type := 27, pos := "l06_point.go:218", after := #[{ on := 4, ground := Ground.data }, { on := 4, ground := Ground.chain }], guard := none }) rfl (fun K hK => ?_) AllReadyH.nil)
  go_simp
  have hl : w.heap.size + 1 < y5.heap.size := pr.lt
  refine (HF.out (by simp) _).mono ?_
  rintro e y6 ⟨v, rfl, hpt, hb6⟩
  replace fr := fr.trans (hb6.mono fr.size)
  replace pa1 := pa1.kept hb6
  replace pr := pr.kept hb6
  clear hb6
  obtain ⟨aa, ca, ab, cb, rfl, oa, ob, hap⟩ := hpt
  rw [flx_len, fly_len] at hap ⊢
  rw [flx_len] at oa
  rw [fly_len] at ob
  have ia := In.of oa
  have ib := In.of ob
  go_wp2_with fail
  refine hK.out _ _ (arr_range pa1) (fun hHeld => ?_)
  clear hK K
  refine wpAnyH_ready (rs := [6]) (by kernel_rfl) (by simp) (AllReadyH.cons (o := { dst := none, op := Op.store 27 (Operand.tmp 2) (Operand.tmp 13), type := 0, pos := "l06_point.go:218", after := #[{ on := 5, ground := Ground.data }, { on := 5, ground := Ground.chain }, { on := 0, ground := Ground.phase }, { on := 1, ground := Ground.phase }, { on := 2, ground := Ground.phase }, { on := 3, ground := Ground.phase }, { on := 4, ground := Ground.phase }, { on := 5, ground := Ground.phase }], guard := none }) rfl (fun K hK => ?_) AllReadyH.nil)
  rw [if_pos (by rfl)]
  refine wp_store_mid _ _ _ rfl _ _ ([.slice aa 16 ca, .slice ab 16 cb]).toArray rfl rfl (by have := arr_there pr; simpa using this) infoPt (all_oneCell_toArray (by simp [Value.oneCell'])) ?_
  simp only [Act.put]
  obtain ⟨V7, hVe⟩ : ∃ V, V = y6.setCells (w.heap.size + 1) 0 ([.slice aa 16 ca, .slice ab 16 cb]) := ⟨_, rfl⟩
  rw [← hVe]
  replace fr : Below w.heap.size w V7 := by rw [hVe]; exact setCells_below (by omega) _ _ fr
  replace pa1 : Arr V7 w.heap.size 27 ([.slice a1 n1 c1, .slice b1 m1 d1]) := by rw [hVe]; exact Arr.setCellsO (by omega) _ _ pa1
  replace pr : Arr V7 (w.heap.size + 1) 27 ([.slice aa 16 ca, .slice ab 16 cb]) := by rw [hVe]; exact Arr.setCells0 pr (by simp)
  replace oa : V7.ownsRow y5.heap.size 3 1 (.slice aa 16 ca) 16 (I64 (flx R)) := by rw [hVe]; exact own_setCells oa ia (.inl hl) _
  replace ob : V7.ownsRow y5.heap.size 3 1 (.slice ab 16 cb) 16 (I64 (fly R)) := by rw [hVe]; exact own_setCells ob ib (.inl hl) _
  clear hVe
  refine hK.out _ _ (arr_range pa1) (fun hHeld => ?_)
  clear hK K
  refine wpAnyH_ready (rs := [7]) (by kernel_rfl) (by simp) (AllReadyH.cons (o := { dst := some 3, op := Op.assign (Operand.const (Value.bool true)), type := 4, pos := "l06_point.go:218", after := #[{ on := 6, ground := Ground.chain }, { on := 0, ground := Ground.phase }, { on := 1, ground := Ground.phase }, { on := 2, ground := Ground.phase }, { on := 3, ground := Ground.phase }, { on := 4, ground := Ground.phase }, { on := 5, ground := Ground.phase }, { on := 6, ground := Ground.phase }], guard := none }) rfl (fun K hK => ?_) AllReadyH.nil)
  go_simp
  refine hK.out _ _ (arr_range pa1) (fun hHeld => ?_)
  clear hK K
  refine wpAnyH_done (by kernel_rfl) ?_ _
  go_wp2
  exact bodyPost_ret (results_row_tmp (v := .bool true) (cs := [.slice aa 16 ca, .slice ab 16 cb]) rfl rfl rfl pr Tryd.underlying27 rfl infoPt) rfl ⟨_, rfl, ptT_16 (flx_len R) (fly_len R) (own_base oa (by omega)) (own_base ob (by omega)) hap, fr⟩

set_option maxHeartbeats 4000000 in
theorem specPtNeg (a1 : Option Addr) (n1 c1 : Nat) (xs1 : List Int) (b1 : Option Addr) (m1 d1 : Nat) (ys1 : List Int) (w : World) (hx1 : Is w a1 n1 c1 xs1) (hy1 : Is w b1 m1 d1 ys1) :
  Calls Tryd.prog 40 #[.agg #[.slice a1 n1 c1, .slice b1 m1 d1]] w fun e w' => ∃ v, e = .returned (.tuple #[v, .bool (ptOk xs1 ys1)]) ∧ PtT 3 w w' v (ptx (ptOk xs1 ys1) (neg6 (mk6 xs1 ys1))) (pty (ptOk xs1 ys1) (neg6 (mk6 xs1 ys1))) ∧ Below w.heap.size w w' := by
 obtain ⟨p, hp⟩ : ∃ p, p = ptOk xs1 ys1 := ⟨_, rfl⟩
 have HP : Hid (∀ Z, Below w.heap.size w Z → Calls Tryd.prog 17 #[.agg #[.slice a1 n1 c1, .slice b1 m1 d1]] Z fun e w' => e = .returned (.bool p) ∧ Below Z.heap.size Z w') := by
  unfold Hid; intro Z hZ; rw [hp]; exact specPtOk a1 n1 c1 xs1 b1 m1 d1 ys1 Z (hx1.below hZ) (hy1.below hZ)
 have HI1 : Hid (p = true → ∀ Z, Below w.heap.size w Z → Calls Tryd.prog 91 #[.agg #[.slice a1 n1 c1, .slice b1 m1 d1]] Z fun e w' => e = .returned (.agg (I64 (mk6 xs1 ys1).cells).toArray) ∧ Below Z.heap.size Z w') := by
  unfold Hid; intro h Z hZ
  rw [hp] at h
  obtain ⟨k1, k2, _⟩ := (ptOk_iff _ _).1 h
  have e1 : n1 = 16 := by rw [← hx1.2.1]; exact feOk_len k1
  have e2 : m1 = 16 := by rw [← hy1.2.1]; exact feOk_len k2
  subst e1 e2
  exact spec6in a1 c1 xs1 b1 d1 ys1 Z (hx1.below hZ) (hy1.below hZ) k1 k2
 obtain ⟨R, hR⟩ : ∃ R, R = neg6 (mk6 xs1 ys1) := ⟨_, rfl⟩
 have HRO : Hid (p = true → R.Ok) := by
  unfold Hid; intro h; rw [hR]
  rw [hp] at h
  obtain ⟨k1, k2, _⟩ := (ptOk_iff _ _).1 h
  exact neg6_ok (mk6_ok k1 k2)
 have HM : Hid (p = true → ∀ Z, Calls Tryd.prog 92 #[.agg (I64 (mk6 xs1 ys1).cells).toArray] Z fun e w' => e = .returned (.agg (I64 R.cells).toArray) ∧ Below Z.heap.size Z w') := by
  unfold Hid; intro h Z; rw [hR]
  rw [hp] at h
  obtain ⟨k1, k2, _⟩ := (ptOk_iff _ _).1 h
  exact spec6neg _ Z (mk6_ok k1 k2)
 have HF : Hid (p = true → ∀ Z, Calls Tryd.prog 86 #[.agg (I64 R.cells).toArray] Z fun e w' => ∃ v, e = .returned v ∧ PtT 3 Z w' v (flx R) (fly R) ∧ Below Z.heap.size Z w') := by
  unfold Hid; intro h Z; exact spec6out R Z (HRO.out h)
 rw [← hp, ← hR]
 obtain ⟨P, hPe⟩ : ∃ P, P = mk6 xs1 ys1 := ⟨_, rfl⟩
 rw [← hPe] at HI1 HM
 have hu : Tryd.prog.underlying 27 = some _ := Tryd.underlying27
 obtain ⟨W, hW⟩ : ∃ W, W = (w.alloc (.cells #[.slice a1 n1 c1, .slice b1 m1 d1] 27)).alloc (.cells #[.slice none 0 0, .slice none 0 0] 27) := ⟨_, rfl⟩
 have fr : Below w.heap.size w W := by rw [hW]; exact ((Below.refl _ _).alloc (Nat.le_refl _) _).alloc (by simp) _
 have pa1 : Arr W w.heap.size 27 ([.slice a1 n1 c1, .slice b1 m1 d1]) := by
  rw [hW]
  have := ((Arr.new (w) [.slice a1 n1 c1, .slice b1 m1 d1] 27).alloc (.cells #[.slice none 0 0, .slice none 0 0] 27))
  exact this
 have pr : Arr W (w.heap.size + 1) 27 ([.slice none 0 0, .slice none 0 0]) := by
  rw [hW]
  have := (Arr.new (w.alloc (.cells #[.slice a1 n1 c1, .slice b1 m1 d1] 27)) [.slice none 0 0, .slice none 0 0] 27)
  rw [World.size_alloc] at this
  exact this
 clear hp hR hPe hx1 hy1
 go_enter Tryd.func40, Tryd.ntmps40
 go_upto_region 1 with fail
 rw [← hW]
 clear hW
 go_wp2_with (refine wpList_load_row rfl 27 _ rfl w.heap.size rfl 27 ([Value.slice a1 n1 c1,  Value.slice b1 m1 d1]).toArray (0, 0) _ pa1 Tryd.underlying27 rfl infoPt ?_)
 refine (HP.out _ fr).mono ?_
 rintro e y1 ⟨rfl, hb1⟩
 replace fr := fr.trans (hb1.mono fr.size)
 replace pa1 := pa1.kept hb1
 replace pr := pr.kept hb1
 clear hb1
 cases p with
 | false =>
  have HB : Hid _ := setRow_below fr (w.heap.size + 1) ([.slice none 0 0, .slice none 0 0]).toArray (by omega)
  have h2 := pr.row ([.slice none 0 0, .slice none 0 0])
  go_wp2_with (refine wpList_store_row rfl 27 _ _ rfl (w.heap.size + 1) ([Value.slice none 0 0,  Value.slice none 0 0]).toArray rfl rfl 27 _ pr infoPt rfl (by simp [Value.oneCell']) ?_)
  exact bodyPost_ret (results_row_tmp (v := .bool false) (cs := [.slice none 0 0, .slice none 0 0]) rfl rfl rfl h2 Tryd.underlying27 rfl infoPt) rfl ⟨_, rfl, ptT_nil _ _ _, HB.out⟩
 | true =>
  go_wp2_with (refine wpList_load_row rfl 27 _ rfl w.heap.size rfl 27 ([Value.slice a1 n1 c1,  Value.slice b1 m1 d1]).toArray (0, 0) _ pa1 Tryd.underlying27 rfl infoPt ?_)
  refine (HI1.out (by simp) _ fr).mono ?_
  rintro e y2 ⟨rfl, hb2⟩
  replace fr := fr.trans (hb2.mono fr.size)
  replace pa1 := pa1.kept hb2
  replace pr := pr.kept hb2
  clear hb2
  go_wp2_with fail
  refine (HM.out (by simp) _).mono ?_
  rintro e y3 ⟨rfl, hb3⟩
  replace fr := fr.trans (hb3.mono fr.size)
  replace pa1 := pa1.kept hb3
  replace pr := pr.kept hb3
  clear hb3
  go_wp2_with fail
  have hl : w.heap.size + 1 < y3.heap.size := pr.lt
  refine (HF.out (by simp) _).mono ?_
  rintro e y4 ⟨v, rfl, hpt, hb4⟩
  replace fr := fr.trans (hb4.mono fr.size)
  replace pa1 := pa1.kept hb4
  replace pr := pr.kept hb4
  clear hb4
  obtain ⟨aa, ca, ab, cb, rfl, oa, ob, hap⟩ := hpt
  rw [flx_len, fly_len] at hap ⊢
  rw [flx_len] at oa
  rw [fly_len] at ob
  have ia := In.of oa
  have ib := In.of ob
  have HB : Hid _ := setRow_below fr (w.heap.size + 1) ([.slice aa 16 ca, .slice ab 16 cb]).toArray (by omega)
  have h2 := pr.row ([.slice aa 16 ca, .slice ab 16 cb])
  have oa2 := own_rowM oa ia (.inl hl) ([.slice aa 16 ca, .slice ab 16 cb]).toArray
  have ob2 := own_rowM ob ib (.inl hl) ([.slice aa 16 ca, .slice ab 16 cb]).toArray
  go_wp2_with (refine wpList_store_row rfl 27 _ _ rfl (w.heap.size + 1) ([Value.slice aa 16 ca,  Value.slice ab 16 cb]).toArray rfl rfl 27 _ pr infoPt rfl (by simp [Value.oneCell']) ?_)
  exact bodyPost_ret (results_row_tmp (v := .bool true) (cs := [.slice aa 16 ca, .slice ab 16 cb]) rfl rfl rfl h2 Tryd.underlying27 rfl infoPt) rfl ⟨_, rfl, ptT_16 (flx_len R) (fly_len R) (own_base oa2 (by omega)) (own_base ob2 (by omega)) hap, HB.out⟩

set_option maxHeartbeats 4000000 in
theorem specPtMul (a1 : Option Addr) (n1 c1 : Nat) (xs1 : List Int) (b1 : Option Addr) (m1 d1 : Nat) (ys1 : List Int) (ak : Option Addr) (nk ck : Nat) (ks : List Int) (w : World) (hx1 : Is w a1 n1 c1 xs1) (hy1 : Is w b1 m1 d1 ys1) (hk : Is w ak nk ck ks) :
  Calls Tryd.prog 42 #[.agg #[.slice a1 n1 c1, .slice b1 m1 d1], .agg #[.slice ak nk ck]] w fun e w' => ∃ v, e = .returned (.tuple #[v, .bool (ptOk xs1 ys1 && scOk ks)]) ∧ PtT 3 w w' v (ptx (ptOk xs1 ys1 && scOk ks) (mul6 (mk6 xs1 ys1) (val ks).toNat)) (pty (ptOk xs1 ys1 && scOk ks) (mul6 (mk6 xs1 ys1) (val ks).toNat)) ∧ Below w.heap.size w w' := by
 obtain ⟨p, hp⟩ : ∃ p, p = ptOk xs1 ys1 := ⟨_, rfl⟩
 have HP : Hid (∀ Z, Below w.heap.size w Z → Calls Tryd.prog 17 #[.agg #[.slice a1 n1 c1, .slice b1 m1 d1]] Z fun e w' => e = .returned (.bool p) ∧ Below Z.heap.size Z w') := by
  unfold Hid; intro Z hZ; rw [hp]; exact specPtOk a1 n1 c1 xs1 b1 m1 d1 ys1 Z (hx1.below hZ) (hy1.below hZ)
 obtain ⟨q, hq⟩ : ∃ q, q = scOk ks := ⟨_, rfl⟩
 have HQ : Hid (∀ Z, Below w.heap.size w Z → Calls Tryd.prog 24 #[.agg #[.slice ak nk ck]] Z fun e w' => e = .returned (.bool q) ∧ Below Z.heap.size Z w') := by
  unfold Hid; intro Z hZ; rw [hq]; exact specScOk ak nk ck ks Z (hk.below hZ)
 have HI1 : Hid (p = true → ∀ Z, Below w.heap.size w Z → Calls Tryd.prog 91 #[.agg #[.slice a1 n1 c1, .slice b1 m1 d1]] Z fun e w' => e = .returned (.agg (I64 (mk6 xs1 ys1).cells).toArray) ∧ Below Z.heap.size Z w') := by
  unfold Hid; intro h Z hZ
  rw [hp] at h
  obtain ⟨k1, k2, _⟩ := (ptOk_iff _ _).1 h
  have e1 : n1 = 16 := by rw [← hx1.2.1]; exact feOk_len k1
  have e2 : m1 = 16 := by rw [← hy1.2.1]; exact feOk_len k2
  subst e1 e2
  exact spec6in a1 c1 xs1 b1 d1 ys1 Z (hx1.below hZ) (hy1.below hZ) k1 k2
 have HI2 : Hid (q = true → ∀ Z, Below w.heap.size w Z → Calls Tryd.prog 95 #[.agg #[.slice ak nk ck]] Z fun e w' => e = .returned (.agg (I64 ks).toArray) ∧ Below Z.heap.size Z w') := by
  unfold Hid; intro h Z hZ
  rw [hq] at h
  have e1 : nk = 16 := by rw [← hk.2.1]; exact ((scOk_iff _).1 h).1
  subst e1
  exact specScIn ak ck ks Z (hk.below hZ)
 obtain ⟨R, hR⟩ : ∃ R, R = mul6 (mk6 xs1 ys1) (val ks).toNat := ⟨_, rfl⟩
 have HRO : Hid (p = true → q = true → R.Ok) := by
  unfold Hid; intro h h2; rw [hR]
  exact mst_ok _ _ _
 have HM : Hid (p = true → q = true → ∀ Z, Calls Tryd.prog 94 #[.agg (I64 (mk6 xs1 ys1).cells).toArray, .agg (I64 ks).toArray] Z fun e w' => e = .returned (.agg (I64 R.cells).toArray) ∧ Below Z.heap.size Z w') := by
  unfold Hid; intro h h2 Z; rw [hR]
  rw [hp] at h
  obtain ⟨k1, k2, _⟩ := (ptOk_iff _ _).1 h
  rw [hq] at h2
  obtain ⟨k3, k4, _⟩ := (scOk_iff _).1 h2
  exact spec6mul _ ks Z (mk6_ok k1 k2) k3 k4
 have HF : Hid (p = true → q = true → ∀ Z, Calls Tryd.prog 86 #[.agg (I64 R.cells).toArray] Z fun e w' => ∃ v, e = .returned v ∧ PtT 3 Z w' v (flx R) (fly R) ∧ Below Z.heap.size Z w') := by
  unfold Hid; intro h h2 Z; exact spec6out R Z (HRO.out h h2)
 rw [← hp, ← hq, ← hR]
 obtain ⟨P, hPe⟩ : ∃ P, P = mk6 xs1 ys1 := ⟨_, rfl⟩
 rw [← hPe] at HI1 HM
 have hu : Tryd.prog.underlying 27 = some _ := Tryd.underlying27
 have huS : Tryd.prog.underlying 37 = some _ := Tryd.underlying37
 obtain ⟨W, hW⟩ : ∃ W, W = ((w.alloc (.cells #[.slice a1 n1 c1, .slice b1 m1 d1] 27)).alloc (.cells #[.slice ak nk ck] 37)).alloc (.cells #[.slice none 0 0, .slice none 0 0] 27) := ⟨_, rfl⟩
 have fr : Below w.heap.size w W := by rw [hW]; exact (((Below.refl _ _).alloc (Nat.le_refl _) _).alloc (by simp) _).alloc (by simp; omega) _
 have pa1 : Arr W w.heap.size 27 ([.slice a1 n1 c1, .slice b1 m1 d1]) := by
  rw [hW]
  have := (((Arr.new (w) [.slice a1 n1 c1, .slice b1 m1 d1] 27).alloc (.cells #[.slice ak nk ck] 37)).alloc (.cells #[.slice none 0 0, .slice none 0 0] 27))
  exact this
 have pak : Arr W (w.heap.size + 1) 37 ([.slice ak nk ck]) := by
  rw [hW]
  have := ((Arr.new (w.alloc (.cells #[.slice a1 n1 c1, .slice b1 m1 d1] 27)) [.slice ak nk ck] 37).alloc (.cells #[.slice none 0 0, .slice none 0 0] 27))
  rw [World.size_alloc] at this
  exact this
 have pr : Arr W (w.heap.size + 2) 27 ([.slice none 0 0, .slice none 0 0]) := by
  rw [hW]
  have := (Arr.new ((w.alloc (.cells #[.slice a1 n1 c1, .slice b1 m1 d1] 27)).alloc (.cells #[.slice ak nk ck] 37)) [.slice none 0 0, .slice none 0 0] 27)
  rw [World.size_alloc, World.size_alloc] at this
  exact this
 clear hp hq hR hPe hx1 hy1 hk
 go_enter Tryd.func42, Tryd.ntmps42
 go_upto_region 1 with fail
 rw [← hW]
 clear hW
 go_wp2_with (refine wpList_load_row rfl 27 _ rfl w.heap.size rfl 27 ([Value.slice a1 n1 c1,  Value.slice b1 m1 d1]).toArray (0, 0) _ pa1 Tryd.underlying27 rfl infoPt ?_)
 refine (HP.out _ fr).mono ?_
 rintro e y1 ⟨rfl, hb1⟩
 replace fr := fr.trans (hb1.mono fr.size)
 replace pa1 := pa1.kept hb1
 replace pak := pak.kept hb1
 replace pr := pr.kept hb1
 clear hb1
 cases p with
 | false =>
  have HB : Hid _ := setRow_below fr (w.heap.size + 2) ([.slice none 0 0, .slice none 0 0]).toArray (by omega)
  have h2 := pr.row ([.slice none 0 0, .slice none 0 0])
  go_wp2_with (refine wpList_store_row rfl 27 _ _ rfl (w.heap.size + 2) ([Value.slice none 0 0,  Value.slice none 0 0]).toArray rfl rfl 27 _ pr infoPt rfl (by simp [Value.oneCell']) ?_)
  exact bodyPost_ret (results_row_tmp (v := .bool false) (cs := [.slice none 0 0, .slice none 0 0]) rfl rfl rfl h2 Tryd.underlying27 rfl infoPt) rfl ⟨_, rfl, ptT_nil _ _ _, HB.out⟩
 | true =>
  go_wp2_with (refine wpList_load_rowW rfl 37 _ rfl (w.heap.size + 1) rfl 37 ([Value.slice ak nk ck]).toArray (0, 0) _ pak Tryd.underlying37 rfl infoSc ?_)
  refine (HQ.out _ fr).mono ?_
  rintro e y2 ⟨rfl, hb2⟩
  replace fr := fr.trans (hb2.mono fr.size)
  replace pa1 := pa1.kept hb2
  replace pak := pak.kept hb2
  replace pr := pr.kept hb2
  clear hb2
  cases q with
  | false =>
   have HB : Hid _ := setRow_below fr (w.heap.size + 2) ([.slice none 0 0, .slice none 0 0]).toArray (by omega)
   have h2 := pr.row ([.slice none 0 0, .slice none 0 0])
   go_wp2_with (refine wpList_store_row rfl 27 _ _ rfl (w.heap.size + 2) ([Value.slice none 0 0,  Value.slice none 0 0]).toArray rfl rfl 27 _ pr infoPt rfl (by simp [Value.oneCell']) ?_)
   exact bodyPost_ret (results_row_tmp (v := .bool false) (cs := [.slice none 0 0, .slice none 0 0]) rfl rfl rfl h2 Tryd.underlying27 rfl infoPt) rfl ⟨_, rfl, ptT_nil _ _ _, HB.out⟩
  | true =>
   go_upto_region 3 with fail
   try simp only [Act.put]
   have bD : Below y2.heap.size y2 y2.drew := (Below.refl _ _).drew
   replace fr := fr.trans (bD.mono fr.size)
   replace pa1 := pa1.kept bD
   replace pak := pak.kept bD
   replace pr := pr.kept bD
   clear bD
   refine wp_region_held_drew (S := fun W => W.rangeAt w.heap.size 0 [.slice a1 n1 c1, .slice b1 m1 d1] ∧ W.rangeAt (w.heap.size + 1) 0 [.slice ak nk ck]) (by kernel_rfl) ⟨arr_range pa1, arr_range pak⟩ (fun hHeld => ?_)
   obtain ⟨D3, hD⟩ : ∃ V, V = y2.drew := ⟨_, rfl⟩
   rw [← hD] at hHeld fr pa1 pak pr ⊢
   clear hD
   refine wpAnyH_take (i := 0) (oi := { dst := some 15, op := Op.load 27 (Operand.tmp 2), type := 27, pos := "l06_point.go:103", after := #[], guard := none }) (v := _) rfl (by kernel_rfl) (by kernel_rfl) (by kernel_rfl) (fun _ _ _ h => h) (yieldsIf_load_mid (by rfl) _ _ rfl _ _ rfl ([.slice a1 n1 c1, .slice b1 m1 d1]) _ (fun _ h => h.1) hu rfl infoPt) (by assumption) ?_
   simp only [Act.put, List.setIfInBounds_toArray, List.set_cons_zero, List.set_cons_succ]
   refine wpAnyH_take (i := 2) (oi := { dst := some 17, op := Op.load 37 (Operand.tmp 3), type := 37, pos := "l06_point.go:103", after := #[], guard := none }) (v := _) rfl (by kernel_rfl) (by kernel_rfl) (by kernel_rfl) (fun _ _ _ h => h) (yieldsIf_load_mid (by rfl) _ _ rfl _ _ rfl ([.slice ak nk ck]) _ (fun _ h => h.2) huS rfl infoSc) (by assumption) ?_
   simp only [Act.put, List.setIfInBounds_toArray, List.set_cons_zero, List.set_cons_succ]
   refine wpAnyH_ready (rs := [1]) (by kernel_rfl) (by simp) (AllReadyH.cons (o := { dst := some 16, op := Op.call { callee := Callee.value (Operand.func 91), args := #[Operand.tmp 15], argTypes := #[27] }, type := 108, pos := "l06_point.go:103", after := #[{ on := 0, ground := Ground.data }], guard := none }) rfl (fun K hK => ?_) AllReadyH.nil)
   go_simp
   refine (HI1.out (by simp) _ fr).mono ?_
   rintro e y4 ⟨rfl, hb4⟩
   replace fr := fr.trans (hb4.mono fr.size)
   replace pa1 := pa1.kept hb4
   replace pak := pak.kept hb4
   replace pr := pr.kept hb4
   clear hb4
   go_wp2_with fail
   refine hK.out _ _ ⟨arr_range pa1, arr_range pak⟩ (fun hHeld => ?_)
   clear hK K
   refine wpAnyH_ready (rs := [3]) (by kernel_rfl) (by simp) (AllReadyH.cons (o := { dst := some 18, op := Op.call { callee := Callee.value (Operand.func 95), args := #[Operand.tmp 17], argTypes := #[37] }, type := 82, pos := "l06_point.go:103", after := #[{ on := 2, ground := Ground.data }, { on := 1, ground := Ground.chain }], guard := none }) rfl (fun K hK => ?_) AllReadyH.nil)
   go_simp
   refine (HI2.out (by simp) _ fr).mono ?_
   rintro e y5 ⟨rfl, hb5⟩
   replace fr := fr.trans (hb5.mono fr.size)
   replace pa1 := pa1.kept hb5
   replace pak := pak.kept hb5
   replace pr := pr.kept hb5
   clear hb5
   go_wp2_with fail
   refine hK.out _ _ ⟨arr_range pa1, arr_range pak⟩ (fun hHeld => ?_)
   clear hK K
   refine wpAnyH_ready (rs := [4]) (by kernel_rfl) (by simp) (AllReadyH.cons (o := { dst := some 19, op := Op.call { callee := Callee.value (Operand.func 94), args := #[Operand.tmp 16, Operand.tmp 18], argTypes := #[108, 82] }, type := 108, pos := "l06_point.go:103", after := #[{ on := 1, ground := Ground.data }, { on := 3, ground := Ground.data }, { on := 3, ground := Ground.chain }], guard := none }) rfl (fun K hK => ?_) AllReadyH.nil)
   go_simp
   refine (HM.out (by simp) (by simp) _).mono ?_
   rintro e y6 ⟨rfl, hb6⟩
   replace fr := fr.trans (hb6.mono fr.size)
   replace pa1 := pa1.kept hb6
   replace pak := pak.kept hb6
   replace pr := pr.kept hb6
   clear hb6
   go_wp2_with fail
   refine hK.out _ _ ⟨arr_range pa1, arr_range pak⟩ (fun hHeld => ?_)
   clear hK K
   refine wpAnyH_ready (rs := [5]) (by kernel_rfl) (by simp) (AllReadyH.cons (o := { dst := some 20, op := Op.call { callee := Callee.value (Operand.func 86), args := #[Operand.tmp 19], argTypes := #[108] }, type := 27, pos := "l06_point.go:103", after := #[{ on := 4, ground := Ground.data }, { on := 4, ground := Ground.chain }], guard := none }) rfl (fun K hK => ?_) AllReadyH.nil)
   go_simp
   have hl : w.heap.size + 2 < y6.heap.size := pr.lt
   refine (HF.out (by simp) (by simp) _).mono ?_
   rintro e y7 ⟨v, rfl, hpt, hb7⟩
   replace fr := fr.trans (hb7.mono fr.size)
   replace pa1 := pa1.kept hb7
   replace pak := pak.kept hb7
   replace pr := pr.kept hb7
   clear hb7
   obtain ⟨aa, ca, ab, cb, rfl, oa, ob, hap⟩ := hpt
   rw [flx_len, fly_len] at hap ⊢
   rw [flx_len] at oa
   rw [fly_len] at ob
   have ia := In.of oa
   have ib := In.of ob
   go_wp2_with fail
   refine hK.out _ _ ⟨arr_range pa1, arr_range pak⟩ (fun hHeld => ?_)
   clear hK K
   refine wpAnyH_ready (rs := [6]) (by kernel_rfl) (by simp) (AllReadyH.cons (o := { dst := none, op := Op.store 27 (Operand.tmp 4) (Operand.tmp 20), type := 0, pos := "l06_point.go:103", after := #[{ on := 5, ground := Ground.data }, { on := 5, ground := Ground.chain }, { on := 0, ground := Ground.phase }, { on := 1, ground := Ground.phase }, { on := 2, ground := Ground.phase }, { on := 3, ground := Ground.phase }, { on := 4, ground := Ground.phase }, { on := 5, ground := Ground.phase }], guard := none }) rfl (fun K hK => ?_) AllReadyH.nil)
   rw [if_pos (by rfl)]
   refine wp_store_mid _ _ _ rfl _ _ ([.slice aa 16 ca, .slice ab 16 cb]).toArray rfl rfl (by have := arr_there pr; simpa using this) infoPt (all_oneCell_toArray (by simp [Value.oneCell'])) ?_
   simp only [Act.put]
   obtain ⟨V8, hVe⟩ : ∃ V, V = y7.setCells (w.heap.size + 2) 0 ([.slice aa 16 ca, .slice ab 16 cb]) := ⟨_, rfl⟩
   rw [← hVe]
   replace fr : Below w.heap.size w V8 := by rw [hVe]; exact setCells_below (by omega) _ _ fr
   replace pa1 : Arr V8 w.heap.size 27 ([.slice a1 n1 c1, .slice b1 m1 d1]) := by rw [hVe]; exact Arr.setCellsO (by omega) _ _ pa1
   replace pak : Arr V8 (w.heap.size + 1) 37 ([.slice ak nk ck]) := by rw [hVe]; exact Arr.setCellsO (by omega) _ _ pak
   replace pr : Arr V8 (w.heap.size + 2) 27 ([.slice aa 16 ca, .slice ab 16 cb]) := by rw [hVe]; exact Arr.setCells0 pr (by simp)
   replace oa : V8.ownsRow y6.heap.size 3 1 (.slice aa 16 ca) 16 (I64 (flx R)) := by rw [hVe]; exact own_setCells oa ia (.inl hl) _
   replace ob : V8.ownsRow y6.heap.size 3 1 (.slice ab 16 cb) 16 (I64 (fly R)) := by rw [hVe]; exact own_setCells ob ib (.inl hl) _
   clear hVe
   refine hK.out _ _ ⟨arr_range pa1, arr_range pak⟩ (fun hHeld => ?_)
   clear hK K
   refine wpAnyH_ready (rs := [7]) (by kernel_rfl) (by simp) (AllReadyH.cons (o := { dst := some 5, op := Op.assign (Operand.const (Value.bool true)), type := 4, pos := "l06_point.go:103", after := #[{ on := 6, ground := Ground.chain }, { on := 0, ground := Ground.phase }, { on := 1, ground := Ground.phase }, { on := 2, ground := Ground.phase }, { on := 3, ground := Ground.phase }, { on := 4, ground := Ground.phase }, { on := 5, ground := Ground.phase }, { on := 6, ground := Ground.phase }], guard := none }) rfl (fun K hK => ?_) AllReadyH.nil)
   go_simp
   refine hK.out _ _ ⟨arr_range pa1, arr_range pak⟩ (fun hHeld => ?_)
   clear hK K
   refine wpAnyH_done (by kernel_rfl) ?_ _
   go_wp2
   exact bodyPost_ret (results_row_tmp (v := .bool true) (cs := [.slice aa 16 ca, .slice ab 16 cb]) rfl rfl rfl pr Tryd.underlying27 rfl infoPt) rfl ⟨_, rfl, ptT_16 (flx_len R) (fly_len R) (own_base oa (by omega)) (own_base ob (by omega)) hap, fr⟩

end Go.Proofs.YtoblilngppjmhaaDoor
