/-
  What is proved here: the contract of the program's baseTimes: the bytes of a multiple of the base; where its variables hold what its text lays; the contract of the program's Clamp.
-/
import Derived.Test.YtihoaakbkffejaaDoorZGpw
import Derived.Test.YtihoaakbkffejaaDoorZOhb
import Derived.Test.YtihoaakbkffejaaDoorZRbg
import Derived.Test.YtihoaakbkffejaaDoorZBx
import Derived.Test.YtihoaakbkffejaaDoorZXa
import Derived.Deep.CutRange
namespace Go.Proofs.YtihoaakbkffejaaDoor
open Go.RowKit
set_option maxRecDepth 100000
abbrev qVg0 : Oper := { dst := some 5, op := Op.move (Operand.tmp 8), type := 61, pos := "l07_sign.go:117", after := #[{ on := 2, ground := Ground.data }], guard := none }
abbrev qVg1 : Oper := { dst := some 9, op := Op.extract (Operand.tmp 5) 0, type := 60, pos := "l07_sign.go:117", after := #[{ on := 3, ground := Ground.data }], guard := none }
abbrev qVg2 : Oper := { dst := some 10, op := Op.extract (Operand.tmp 5) 1, type := 4, pos := "l07_sign.go:117", after := #[{ on := 3, ground := Ground.data }, { on := 7, ground := Ground.gcOnly Departure.lateStores }], guard := none }
abbrev qVg3 : Oper := { dst := none, op := Op.store 60 (Operand.tmp 3) (Operand.tmp 9), type := 0, pos := "l07_sign.go:117", after := #[{ on := 6, ground := Ground.data }, { on := 4, ground := Ground.data }, { on := 2, ground := Ground.chain }, { on := 0, ground := Ground.phase }, { on := 1, ground := Ground.phase }, { on := 2, ground := Ground.phase }, { on := 3, ground := Ground.phase }, { on := 4, ground := Ground.phase }, { on := 5, ground := Ground.textOnly Departure.lateStores }, { on := 6, ground := Ground.phase }], guard := none }

section
variable [NeZero pN]
set_option maxHeartbeats 4000000 in
theorem implBaseTimes (ak : Option Addr) (ck : Nat) (ks : List Int) (w : World) (hk : Is w ak 16 ck ks) (hs : scOk ks = true) (hG : VarsOk w) :
  Calls Tryd.prog 16 #[.agg #[.slice ak 16 ck]] w fun e w' => ∃ v, e = .returned v ∧ w'.ownsRow w.heap.size 5 1 v 32 (U8 (baseB (val ks).toNat)) ∧ Below w.heap.size w w' := by
 have H0 : Hid (∀ Z, Below w.heap.size w Z → Calls Tryd.prog 30 #[] Z fun e w' => ∃ a c b d, e = .returned (.agg #[.slice a 16 c, .slice b 16 d]) ∧ PO w' Z.heap.size a c b d baseK ∧ Below Z.heap.size Z w') := by unfold Hid; intro Z hZ; exact oPBase Z (hG.kept hZ)
 obtain ⟨R, hR⟩ : ∃ R, R = pMul dK ivK (val ks).toNat baseK := ⟨_, rfl⟩
 have hRo : On dK R := by rw [hR]; exact crvK.on_mul on_base _
 have H2 : Hid (∀ a c b d Z, PI Z a c b d baseK → Below w.heap.size w Z → Calls Tryd.prog 29 #[.agg #[.slice a 16 c, .slice b 16 d], .agg #[.slice ak 16 ck]] Z fun e w' => ∃ a1 c1 b1 d1, e = .returned (.tuple #[.agg #[.slice a1 16 c1, .slice b1 16 d1], .bool true]) ∧ PO w' Z.heap.size a1 c1 b1 d1 R ∧ Below Z.heap.size Z w') := by unfold Hid; intro a c b d Z h hZ; rw [hR]; exact oPMul a c b d baseK ak ck ks Z h (hk.below hZ) on_base hs (hG.kept hZ)
 have H3 : Hid (∀ a c b d Z, PI Z a c b d R → Below w.heap.size w Z → Calls Tryd.prog 31 #[.agg #[.slice a 16 c, .slice b 16 d]] Z fun e w' => ∃ v, e = .returned v ∧ w'.ownsRow Z.heap.size 5 1 v 32 (U8 (enc R)) ∧ Below Z.heap.size Z w') := by unfold Hid; intro a c b d Z h hZ; exact oPBytes a c b d R Z h hRo (hG.kept hZ)
 have hE : baseB (val ks).toNat = enc R := by rw [hR]; rfl
 rw [hE]
 have huS : Tryd.prog.underlying 39 = some _ := Tryd.underlying39
 obtain ⟨W, hW⟩ : ∃ W, W = w.alloc (.cells #[.slice ak 16 ck] 39) := ⟨_, rfl⟩
 have fr : Below w.heap.size w W := by rw [hW]; exact ((Below.refl _ _).alloc (Nat.le_refl _) _)
 have pa : Arr W w.heap.size 39 ([.slice ak 16 ck]) := by
  rw [hW]
  have := Arr.new (w) ([.slice ak 16 ck]) 39
  exact this
 clear hR hE hRo hG hk
 go_enter Tryd.func16, Tryd.ntmps16
 go_upto_region 1 with fail
 rw [← hW]
 clear hW
 try simp only [Act.put]
 have bD : Below W.heap.size W W.drew := (Below.refl _ _).drew
 replace fr := fr.trans (bD.mono fr.size)
 replace pa := pa.kept bD
 clear bD
 refine wp_region_held_drew (S := fun W => W.rangeAt w.heap.size 0 [.slice ak 16 ck]) (by kernel_rfl) (arr_range pa) (fun hHeld => ?_)
 obtain ⟨D1, hD⟩ : ∃ V, V = W.drew := ⟨_, rfl⟩
 rw [← hD] at hHeld fr pa ⊢
 clear hD
 refine wpAnyH_take (i := 1) (oi := { dst := some 7, op := Op.load 39 (Operand.tmp 1), type := 39, pos := "l07_sign.go:117", after := #[], guard := none }) (v := _) rfl (by kernel_rfl) (by kernel_rfl) (by kernel_rfl) (fun _ _ _ h => h) (yieldsIf_load_mid (by rfl) _ _ rfl _ _ rfl ([.slice ak 16 ck]) _ (fun _ h => h) huS rfl infoSc) (by assumption) ?_
 simp only [Act.put, List.setIfInBounds_toArray, List.set_cons_zero, List.set_cons_succ]
 refine wpAnyH_ready (rs := [0, 6]) (by kernel_rfl) (by simp) (AllReadyH.cons (o := { dst := some 6, op := Op.call { callee := Callee.value (Operand.func 30), args := #[], argTypes := #[] }, type := 60, pos := "l07_sign.go:117", after := #[], guard := none }) rfl (fun K hK => ?_) (AllReadyH.cons (o := { dst := some 3, op := Op.alloc 60, type := 0, pos := "l07_sign.go:117", after := #[], guard := none }) rfl (fun K hK => ?_) AllReadyH.nil))
 ·skip
  go_simp
  refine (H0.out _ fr).mono ?_
  rintro e y2 ⟨a1, c1, b1, d1, rfl, p1, hb2⟩
  replace fr := fr.trans (hb2.mono fr.size)
  replace pa := pa.kept hb2
  clear hb2
  go_wp2_with fail
  refine hK.out _ _ (arr_range pa) (fun hHeld => ?_)
  clear hK K
  refine wpAnyH_ready (rs := [2, 6]) (by kernel_rfl) (by simp) (AllReadyH.cons (o := { dst := some 8, op := Op.call { callee := Callee.value (Operand.func 29), args := #[Operand.tmp 6, Operand.tmp 7], argTypes := #[60, 39] }, type := 61, pos := "l07_sign.go:117", after := #[{ on := 0, ground := Ground.data }, { on := 1, ground := Ground.data }, { on := 0, ground := Ground.chain }], guard := none }) rfl (fun K hK => ?_) (AllReadyH.cons (o := { dst := some 3, op := Op.alloc 60, type := 0, pos := "l07_sign.go:117", after := #[], guard := none }) rfl (fun K hK => ?_) AllReadyH.nil))
  ·skip
   go_simp
   have hl2 : w.heap.size < y2.heap.size := pa.lt
   refine (H2.out _ _ _ _ _ p1.pi fr).mono ?_
   rintro e y3 ⟨a2, c2, b2, d2, rfl, p2, hb3⟩
   replace fr := fr.trans (hb3.mono fr.size)
   replace pa := pa.kept hb3
   replace p1 := p1.below hb3
   clear hb3
   clear p1
   have i1 := In.of p2.x
   have i2 := In.of p2.y
   go_wp2_with fail
   refine hK.out _ _ (arr_range pa) (fun hHeld => ?_)
   clear hK K
   refine wpAnyH_take (i := 3) (oi := qVg0) (v := .tuple #[.agg #[.slice a2 16 c2, .slice b2 16 d2], .bool true]) rfl (by kernel_rfl) (by kernel_rfl) (by kernel_rfl) (fun _ _ _ h => h) (.inl ⟨by rfl, fun _ _ => by rfl⟩) (by assumption) ?_
   simp only [Act.put, List.setIfInBounds_toArray, List.set_cons_zero, List.set_cons_succ]
   refine wpAnyH_take (i := 4) (oi := qVg1) (v := .agg #[.slice a2 16 c2, .slice b2 16 d2]) rfl (by kernel_rfl) (by kernel_rfl) (by kernel_rfl) (fun _ _ _ h => h) (.inl ⟨by rfl, fun _ _ => by rfl⟩) (by assumption) ?_
   simp only [Act.put, List.setIfInBounds_toArray, List.set_cons_zero, List.set_cons_succ]
   refine wpAnyH_take (i := 5) (oi := qVg2) (v := .bool true) rfl (by kernel_rfl) (by kernel_rfl) (by kernel_rfl) (fun _ _ _ h => h) (.inl ⟨by rfl, fun _ _ => by rfl⟩) (by assumption) ?_
   simp only [Act.put, List.setIfInBounds_toArray, List.set_cons_zero, List.set_cons_succ]
   refine wpAnyH_ready (rs := [6]) (by kernel_rfl) (by simp) (AllReadyH.cons (o := { dst := some 3, op := Op.alloc 60, type := 0, pos := "l07_sign.go:117", after := #[], guard := none }) rfl (fun K hK => ?_) AllReadyH.nil)
   go_simp
   obtain ⟨V4, hVe⟩ : ∃ V, V = y3.alloc (.cells #[.slice none 0 0, .slice none 0 0] 60) := ⟨_, rfl⟩
   have bV : Below y3.heap.size y3 V4 := by rw [hVe]; exact (Below.refl _ _).alloc (Nat.le_refl _) _
   have Ap : Arr V4 y3.heap.size 60 ([.slice none 0 0, .slice none 0 0]) := by rw [hVe]; exact Arr.new _ ([.slice none 0 0, .slice none 0 0]) _
   have hXp : w.heap.size < y3.heap.size ∧ True := ⟨pa.lt, trivial⟩
   obtain ⟨Xp, hXe⟩ : ∃ X, X = y3.heap.size := ⟨_, rfl⟩
   have sXp : y3.heap.size ≤ Xp := Nat.le_of_eq hXe.symm
   replace fr := fr.trans (bV.mono fr.size)
   replace pa := pa.kept bV
   replace p2 := p2.below bV
   rw [← hVe]
   rw [← hXe] at Ap hXp ⊢
   clear hVe hXe bV
   refine hK.out _ _ (arr_range pa) (fun hHeld => ?_)
   clear hK K
   refine wpAnyH_ready (rs := [7]) (by kernel_rfl) (by simp) (AllReadyH.cons (o := qVg3) rfl (fun K hK => ?_) AllReadyH.nil)
   rw [if_pos (by rfl)]
   refine wp_store_mid _ _ _ rfl _ _ ([.slice a2 16 c2, .slice b2 16 d2]).toArray rfl rfl (by have := arr_there Ap; simpa using this) infoPt (all_oneCell_toArray (by simp [Value.oneCell'])) ?_
   simp only [Act.put]
   replace p2 := p2.sc i1 i2 (E := Xp) (by omega) ([.slice a2 16 c2, .slice b2 16 d2])
   replace Ap := Ap.sc0 ([.slice a2 16 c2, .slice b2 16 d2]) (by simp)
   replace fr := bel_sc fr Xp ([.slice a2 16 c2, .slice b2 16 d2]) (by omega)
   replace pa := pa.sc Xp ([.slice a2 16 c2, .slice b2 16 d2]) (by omega)
   obtain ⟨V5, hVe⟩ : ∃ V, V = V4.setCells Xp 0 ([.slice a2 16 c2, .slice b2 16 d2]) := ⟨_, rfl⟩
   rw [← hVe] at p2 Ap fr pa ⊢
   clear hVe
   refine hK.out _ _ (arr_range pa) (fun hHeld => ?_)
   clear hK K
   refine wpAnyH_ready (rs := [8]) (by kernel_rfl) (by simp) (AllReadyH.cons (o := { dst := some 4, op := Op.assign (Operand.tmp 10), type := 4, pos := "l07_sign.go:117", after := #[{ on := 5, ground := Ground.data }, { on := 7, ground := Ground.chain }, { on := 0, ground := Ground.phase }, { on := 1, ground := Ground.phase }, { on := 2, ground := Ground.phase }, { on := 3, ground := Ground.phase }, { on := 4, ground := Ground.phase }, { on := 5, ground := Ground.phase }, { on := 6, ground := Ground.phase }, { on := 7, ground := Ground.phase }], guard := none }) rfl (fun K hK => ?_) AllReadyH.nil)
   go_simp
   refine hK.out _ _ (arr_range pa) (fun hHeld => ?_)
   clear hK K
   refine wpAnyH_done (by kernel_rfl) ?_ _
   have c0 := Ap.cell 0
   have c1 := Ap.cell 1
   simp at c0 c1
   go_wp2_with fail
   refine (H3.out _ _ _ _ _ p2.pi fr).mono ?_
   rintro e z ⟨v, rfl, ho, hb⟩
   go_wp2
   go_ret
   exact ⟨v, rfl, own_base ho fr.size, fr.trans (hb.mono fr.size)⟩
  ·skip
   go_simp
   obtain ⟨V6, hVe⟩ : ∃ V, V = y2.alloc (.cells #[.slice none 0 0, .slice none 0 0] 60) := ⟨_, rfl⟩
   have bV : Below y2.heap.size y2 V6 := by rw [hVe]; exact (Below.refl _ _).alloc (Nat.le_refl _) _
   have Ap : Arr V6 y2.heap.size 60 ([.slice none 0 0, .slice none 0 0]) := by rw [hVe]; exact Arr.new _ ([.slice none 0 0, .slice none 0 0]) _
   have hXp : w.heap.size < y2.heap.size ∧ True := ⟨pa.lt, trivial⟩
   obtain ⟨Xp, hXe⟩ : ∃ X, X = y2.heap.size := ⟨_, rfl⟩
   have sXp : y2.heap.size ≤ Xp := Nat.le_of_eq hXe.symm
   replace fr := fr.trans (bV.mono fr.size)
   replace pa := pa.kept bV
   replace p1 := p1.below bV
   rw [← hVe]
   rw [← hXe] at Ap hXp ⊢
   clear hVe hXe bV
   refine hK.out _ _ (arr_range pa) (fun hHeld => ?_)
   clear hK K
   refine wpAnyH_ready (rs := [2]) (by kernel_rfl) (by simp) (AllReadyH.cons (o := { dst := some 8, op := Op.call { callee := Callee.value (Operand.func 29), args := #[Operand.tmp 6, Operand.tmp 7], argTypes := #[60, 39] }, type := 61, pos := "l07_sign.go:117", after := #[{ on := 0, ground := Ground.data }, { on := 1, ground := Ground.data }, { on := 0, ground := Ground.chain }], guard := none }) rfl (fun K hK => ?_) AllReadyH.nil)
   go_simp
   have hl2 : w.heap.size < V6.heap.size := pa.lt
   have hl3 := Ap.lt
   refine (H2.out _ _ _ _ _ p1.pi fr).mono ?_
   rintro e y7 ⟨a2, c2, b2, d2, rfl, p2, hb7⟩
   replace fr := fr.trans (hb7.mono fr.size)
   replace pa := pa.kept hb7
   replace p1 := p1.below hb7
   replace Ap := Ap.kept hb7
   clear hb7
   clear p1
   have i1 := In.of p2.x
   have i2 := In.of p2.y
   go_wp2_with fail
   refine hK.out _ _ (arr_range pa) (fun hHeld => ?_)
   clear hK K
   refine wpAnyH_take (i := 3) (oi := qVg0) (v := .tuple #[.agg #[.slice a2 16 c2, .slice b2 16 d2], .bool true]) rfl (by kernel_rfl) (by kernel_rfl) (by kernel_rfl) (fun _ _ _ h => h) (.inl ⟨by rfl, fun _ _ => by rfl⟩) (by assumption) ?_
   simp only [Act.put, List.setIfInBounds_toArray, List.set_cons_zero, List.set_cons_succ]
   refine wpAnyH_take (i := 4) (oi := qVg1) (v := .agg #[.slice a2 16 c2, .slice b2 16 d2]) rfl (by kernel_rfl) (by kernel_rfl) (by kernel_rfl) (fun _ _ _ h => h) (.inl ⟨by rfl, fun _ _ => by rfl⟩) (by assumption) ?_
   simp only [Act.put, List.setIfInBounds_toArray, List.set_cons_zero, List.set_cons_succ]
   refine wpAnyH_take (i := 5) (oi := qVg2) (v := .bool true) rfl (by kernel_rfl) (by kernel_rfl) (by kernel_rfl) (fun _ _ _ h => h) (.inl ⟨by rfl, fun _ _ => by rfl⟩) (by assumption) ?_
   simp only [Act.put, List.setIfInBounds_toArray, List.set_cons_zero, List.set_cons_succ]
   refine wpAnyH_ready (rs := [7]) (by kernel_rfl) (by simp) (AllReadyH.cons (o := qVg3) rfl (fun K hK => ?_) AllReadyH.nil)
   rw [if_pos (by rfl)]
   refine wp_store_mid _ _ _ rfl _ _ ([.slice a2 16 c2, .slice b2 16 d2]).toArray rfl rfl (by have := arr_there Ap; simpa using this) infoPt (all_oneCell_toArray (by simp [Value.oneCell'])) ?_
   simp only [Act.put]
   replace p2 := p2.sc i1 i2 (E := Xp) (by omega) ([.slice a2 16 c2, .slice b2 16 d2])
   replace Ap := Ap.sc0 ([.slice a2 16 c2, .slice b2 16 d2]) (by simp)
   replace fr := bel_sc fr Xp ([.slice a2 16 c2, .slice b2 16 d2]) (by omega)
   replace pa := pa.sc Xp ([.slice a2 16 c2, .slice b2 16 d2]) (by omega)
   obtain ⟨V8, hVe⟩ : ∃ V, V = y7.setCells Xp 0 ([.slice a2 16 c2, .slice b2 16 d2]) := ⟨_, rfl⟩
   rw [← hVe] at p2 Ap fr pa ⊢
   clear hVe
   refine hK.out _ _ (arr_range pa) (fun hHeld => ?_)
   clear hK K
   refine wpAnyH_ready (rs := [8]) (by kernel_rfl) (by simp) (AllReadyH.cons (o := { dst := some 4, op := Op.assign (Operand.tmp 10), type := 4, pos := "l07_sign.go:117", after := #[{ on := 5, ground := Ground.data }, { on := 7, ground := Ground.chain }, { on := 0, ground := Ground.phase }, { on := 1, ground := Ground.phase }, { on := 2, ground := Ground.phase }, { on := 3, ground := Ground.phase }, { on := 4, ground := Ground.phase }, { on := 5, ground := Ground.phase }, { on := 6, ground := Ground.phase }, { on := 7, ground := Ground.phase }], guard := none }) rfl (fun K hK => ?_) AllReadyH.nil)
   go_simp
   refine hK.out _ _ (arr_range pa) (fun hHeld => ?_)
   clear hK K
   refine wpAnyH_done (by kernel_rfl) ?_ _
   have c0 := Ap.cell 0
   have c1 := Ap.cell 1
   simp at c0 c1
   go_wp2_with fail
   refine (H3.out _ _ _ _ _ p2.pi fr).mono ?_
   rintro e z ⟨v, rfl, ho, hb⟩
   go_wp2
   go_ret
   exact ⟨v, rfl, own_base ho fr.size, fr.trans (hb.mono fr.size)⟩
 ·skip
  go_simp
  obtain ⟨V9, hVe⟩ : ∃ V, V = D1.alloc (.cells #[.slice none 0 0, .slice none 0 0] 60) := ⟨_, rfl⟩
  have bV : Below D1.heap.size D1 V9 := by rw [hVe]; exact (Below.refl _ _).alloc (Nat.le_refl _) _
  have Ap : Arr V9 D1.heap.size 60 ([.slice none 0 0, .slice none 0 0]) := by rw [hVe]; exact Arr.new _ ([.slice none 0 0, .slice none 0 0]) _
  have hXp : w.heap.size < D1.heap.size ∧ True := ⟨pa.lt, trivial⟩
  obtain ⟨Xp, hXe⟩ : ∃ X, X = D1.heap.size := ⟨_, rfl⟩
  have sXp : D1.heap.size ≤ Xp := Nat.le_of_eq hXe.symm
  replace fr := fr.trans (bV.mono fr.size)
  replace pa := pa.kept bV
  rw [← hVe]
  rw [← hXe] at Ap hXp ⊢
  clear hVe hXe bV
  refine hK.out _ _ (arr_range pa) (fun hHeld => ?_)
  clear hK K
  refine wpAnyH_ready (rs := [0]) (by kernel_rfl) (by simp) (AllReadyH.cons (o := { dst := some 6, op := Op.call { callee := Callee.value (Operand.func 30), args := #[], argTypes := #[] }, type := 60, pos := "l07_sign.go:117", after := #[], guard := none }) rfl (fun K hK => ?_) AllReadyH.nil)
  go_simp
  refine (H0.out _ fr).mono ?_
  rintro e y10 ⟨a1, c1, b1, d1, rfl, p1, hb10⟩
  replace fr := fr.trans (hb10.mono fr.size)
  replace pa := pa.kept hb10
  replace Ap := Ap.kept hb10
  clear hb10
  go_wp2_with fail
  refine hK.out _ _ (arr_range pa) (fun hHeld => ?_)
  clear hK K
  refine wpAnyH_ready (rs := [2]) (by kernel_rfl) (by simp) (AllReadyH.cons (o := { dst := some 8, op := Op.call { callee := Callee.value (Operand.func 29), args := #[Operand.tmp 6, Operand.tmp 7], argTypes := #[60, 39] }, type := 61, pos := "l07_sign.go:117", after := #[{ on := 0, ground := Ground.data }, { on := 1, ground := Ground.data }, { on := 0, ground := Ground.chain }], guard := none }) rfl (fun K hK => ?_) AllReadyH.nil)
  go_simp
  have hl2 : w.heap.size < y10.heap.size := pa.lt
  have hl3 := Ap.lt
  refine (H2.out _ _ _ _ _ p1.pi fr).mono ?_
  rintro e y11 ⟨a2, c2, b2, d2, rfl, p2, hb11⟩
  replace fr := fr.trans (hb11.mono fr.size)
  replace pa := pa.kept hb11
  replace Ap := Ap.kept hb11
  replace p1 := p1.below hb11
  clear hb11
  clear p1
  have i1 := In.of p2.x
  have i2 := In.of p2.y
  go_wp2_with fail
  refine hK.out _ _ (arr_range pa) (fun hHeld => ?_)
  clear hK K
  refine wpAnyH_take (i := 3) (oi := qVg0) (v := .tuple #[.agg #[.slice a2 16 c2, .slice b2 16 d2], .bool true]) rfl (by kernel_rfl) (by kernel_rfl) (by kernel_rfl) (fun _ _ _ h => h) (.inl ⟨by rfl, fun _ _ => by rfl⟩) (by assumption) ?_
  simp only [Act.put, List.setIfInBounds_toArray, List.set_cons_zero, List.set_cons_succ]
  refine wpAnyH_take (i := 4) (oi := qVg1) (v := .agg #[.slice a2 16 c2, .slice b2 16 d2]) rfl (by kernel_rfl) (by kernel_rfl) (by kernel_rfl) (fun _ _ _ h => h) (.inl ⟨by rfl, fun _ _ => by rfl⟩) (by assumption) ?_
  simp only [Act.put, List.setIfInBounds_toArray, List.set_cons_zero, List.set_cons_succ]
  refine wpAnyH_take (i := 5) (oi := qVg2) (v := .bool true) rfl (by kernel_rfl) (by kernel_rfl) (by kernel_rfl) (fun _ _ _ h => h) (.inl ⟨by rfl, fun _ _ => by rfl⟩) (by assumption) ?_
  simp only [Act.put, List.setIfInBounds_toArray, List.set_cons_zero, List.set_cons_succ]
  refine wpAnyH_ready (rs := [7]) (by kernel_rfl) (by simp) (AllReadyH.cons (o := qVg3) rfl (fun K hK => ?_) AllReadyH.nil)
  rw [if_pos (by rfl)]
  refine wp_store_mid _ _ _ rfl _ _ ([.slice a2 16 c2, .slice b2 16 d2]).toArray rfl rfl (by have := arr_there Ap; simpa using this) infoPt (all_oneCell_toArray (by simp [Value.oneCell'])) ?_
  simp only [Act.put]
  replace p2 := p2.sc i1 i2 (E := Xp) (by omega) ([.slice a2 16 c2, .slice b2 16 d2])
  replace Ap := Ap.sc0 ([.slice a2 16 c2, .slice b2 16 d2]) (by simp)
  replace fr := bel_sc fr Xp ([.slice a2 16 c2, .slice b2 16 d2]) (by omega)
  replace pa := pa.sc Xp ([.slice a2 16 c2, .slice b2 16 d2]) (by omega)
  obtain ⟨V12, hVe⟩ : ∃ V, V = y11.setCells Xp 0 ([.slice a2 16 c2, .slice b2 16 d2]) := ⟨_, rfl⟩
  rw [← hVe] at p2 Ap fr pa ⊢
  clear hVe
  refine hK.out _ _ (arr_range pa) (fun hHeld => ?_)
  clear hK K
  refine wpAnyH_ready (rs := [8]) (by kernel_rfl) (by simp) (AllReadyH.cons (o := { dst := some 4, op := Op.assign (Operand.tmp 10), type := 4, pos := "l07_sign.go:117", after := #[{ on := 5, ground := Ground.data }, { on := 7, ground := Ground.chain }, { on := 0, ground := Ground.phase }, { on := 1, ground := Ground.phase }, { on := 2, ground := Ground.phase }, { on := 3, ground := Ground.phase }, { on := 4, ground := Ground.phase }, { on := 5, ground := Ground.phase }, { on := 6, ground := Ground.phase }, { on := 7, ground := Ground.phase }], guard := none }) rfl (fun K hK => ?_) AllReadyH.nil)
  go_simp
  refine hK.out _ _ (arr_range pa) (fun hHeld => ?_)
  clear hK K
  refine wpAnyH_done (by kernel_rfl) ?_ _
  have c0 := Ap.cell 0
  have c1 := Ap.cell 1
  simp at c0 c1
  go_wp2_with fail
  refine (H3.out _ _ _ _ _ p2.pi fr).mono ?_
  rintro e z ⟨v, rfl, ho, hb⟩
  go_wp2
  go_ret
  exact ⟨v, rfl, own_base ho fr.size, fr.trans (hb.mono fr.size)⟩
end

end Go.Proofs.YtihoaakbkffejaaDoor
namespace Go.Proofs.YtihoaakbkffejaaDoor
open Go.RowKit
set_option maxRecDepth 100000

set_option maxHeartbeats 2000000 in
theorem implClamp (a : Option Addr) (n c : Nat) (bs : List Int) (w : World) (hx : Bs w a n c bs) :
    Calls Tryd.prog 26 #[.slice a n c] w fun e w' => ∃ v, e = .returned (.tuple #[v, .bool (cpOk bs)]) ∧ w'.ownsRow w.heap.size 5 1 v (cpL bs).length (U8 (cpL bs)) ∧ Below w.heap.size w w' := by
  have hn : bs.length = n := hx.2.1
  by_cases h : n = 32
  · subst h
    have hok : cpOk bs = true := by unfold cpOk; exact decide_eq_true hn
    have hL : cpL bs = clB bs := by unfold cpL; rw [if_pos hok]
    rw [hok, hL, clB_len, hn]
    have b0 := gD_u8 hx.2.2.2.1 0
    have b31 := gD_u8 hx.2.2.2.1 31
    obtain ⟨x, ex⟩ : ∃ x, x = bs.getD 0 0 := ⟨_, rfl⟩
    obtain ⟨y, ey⟩ : ∃ y, y = bs.getD 31 0 := ⟨_, rfl⟩
    rw [← ex] at b0
    rw [← ey] at b31
    have a1 := and_248' b0.1 b0.2
    have a2 := top_64' b31.1 b31.2
    have HC : Hid (((U8 bs).set 0 (.int .u8 (x / 8 * 8))).set 31 (.int .u8 (y % 64 + 64)) = U8 (clB bs)) := by
      unfold Hid clB; rw [ex, ey]; simp only [U8, List.map_set]
    have HK : Hid (Calls Tryd.prog 43 #[.slice a 32 c] w fun e w' => ∃ v, e = .returned v ∧ w'.ownsRow w.heap.size 5 1 v 32 (U8 bs) ∧ Below w.heap.size w w') := by unfold Hid; exact cloneB a 32 c bs w hx (by omega)
    have hb := hx.2.2.2.1
    have HBB : Hid _ := hb
    clear hok hL hb
    go_enter Tryd.func26, Tryd.ntmps26
    go_wp2_with fail
    refine HK.out.mono ?_
    rintro e w1 ⟨v, rfl, ow, hb1⟩
    obtain ⟨g, cap, rfl, hgW⟩ : ∃ g cap, v = .slice (some ⟨g, 0, none⟩) 32 cap ∧ w.heap.size ≤ g := by
      rcases ow.2 with ⟨_, hv⟩ | ⟨g, cap, cu, hv, hg, _⟩
      · omega
      · exact ⟨g, cap, hv, hg⟩
    have c0 : w1.cell? ⟨g, 0, none⟩ = some (.int .u8 x) := by rw [own_cell ow 0 (by omega), ex]
    have fz := ow.frozenAt 0
    have ow' := own_at ow 0 (.int .u8 (x / 8 * 8))
    have B' := hb1.setCell (p := ⟨g, 0, none⟩) hgW (.int .u8 (x / 8 * 8))
    clear HK ex
    go_upto_region 5 with fail
    obtain ⟨w2, h2⟩ : ∃ Z, Z = w1.setCell ⟨g, 0, none⟩ (.int .u8 (x / 8 * 8)) := ⟨_, rfl⟩
    rw [← h2] at ow' B' ⊢
    clear h2 fz c0 ow hb1
    have c31 : w2.cell? ⟨g, 31, none⟩ = some (.int .u8 y) := by
      have := own_cell (l := bs.set 0 (x / 8 * 8)) (K := .u8) (by simpa only [U8, List.map_set] using ow') 31 (by simp [hn])
      rw [this, getD_set _ _ _ _ (by omega), if_neg (by omega), ey]
    have fz := ow'.frozenAt 31
    have ow2 := own_at ow' 31 (.int .u8 (y % 64 + 64))
    have B2 := B'.setCell (p := ⟨g, 31, none⟩) hgW (.int .u8 (y % 64 + 64))
    rw [HC.out] at ow2
    clear ey
    go_upto_region 6 with fail
    obtain ⟨w3, h3⟩ : ∃ Z, Z = w2.setCell ⟨g, 31, none⟩ (.int .u8 (y % 64 + 64)) := ⟨_, rfl⟩
    rw [← h3] at ow2 B2 ⊢
    clear h3
    go_wp2
    go_ret2
    exact ⟨_, rfl, ow2, B2⟩
  · have hok : cpOk bs = false := by unfold cpOk; exact decide_eq_false (by omega)
    have hL : cpL bs = [] := by unfold cpL; rw [if_neg (by simp [hok])]
    rw [hok, hL]
    have hne : ((n : Int) != 32) = true := by simp; omega
    go_enter Tryd.func26, Tryd.ntmps26
    go_wp2
    go_ret2
    exact ⟨_, rfl, World.ownsRow_nil _ _ _ _, Below.refl _ _⟩
end Go.Proofs.YtihoaakbkffejaaDoor
