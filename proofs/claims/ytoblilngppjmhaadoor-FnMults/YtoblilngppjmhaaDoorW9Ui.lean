/-
  What is proved here: the contract of the specification's PtOk: whether two lists are a point.
-/
import Derived.Test.YtoblilngppjmhaaDoorW9Ue
import Derived.Test.YtoblilngppjmhaaDoorW9Uff
namespace Go.Proofs.YtoblilngppjmhaaDoor
open Go.RowKit
set_option maxRecDepth 100000
abbrev qUi0 : Oper := { dst := some 3, op := Op.fieldAddr 27 (Operand.tmp 1) 0, type := 0, pos := "l06_point.go:77", after := #[], guard := none }
abbrev qUi1 : Oper := { dst := some 4, op := Op.load 25 (Operand.tmp 3), type := 25, pos := "l06_point.go:77", after := #[{ on := 0, ground := Ground.data }], guard := none }
abbrev qUi2 : Oper := { dst := some 13, op := Op.load 25 (Operand.tmp 12), type := 25, pos := "l06_point.go:77", after := #[{ on := 9, ground := Ground.data }, { on := 8, ground := Ground.guard }], guard := some (8, true) }
abbrev qUi3 : Oper := { dst := some 14, op := Op.call { callee := Callee.value (Operand.func 61), args := #[Operand.tmp 13], argTypes := #[25] }, type := 82, pos := "l06_point.go:77", after := #[{ on := 10, ground := Ground.data }, { on := 8, ground := Ground.chain }, { on := 8, ground := Ground.guard }], guard := some (8, true) }
abbrev qUi4 : Oper := { dst := some 15, op := Op.fieldAddr 27 (Operand.tmp 1) 1, type := 0, pos := "l06_point.go:77", after := #[{ on := 8, ground := Ground.guard }], guard := some (8, true) }
abbrev qUi5 : Oper := { dst := some 16, op := Op.load 25 (Operand.tmp 15), type := 25, pos := "l06_point.go:77", after := #[{ on := 12, ground := Ground.data }, { on := 8, ground := Ground.guard }], guard := some (8, true) }
abbrev qUi6 : Oper := { dst := some 17, op := Op.call { callee := Callee.value (Operand.func 61), args := #[Operand.tmp 16], argTypes := #[25] }, type := 82, pos := "l06_point.go:77", after := #[{ on := 13, ground := Ground.data }, { on := 11, ground := Ground.chain }, { on := 8, ground := Ground.guard }], guard := some (8, true) }
abbrev qUi7 : Oper := { dst := some 18, op := Op.call { callee := Callee.value (Operand.func 60), args := #[Operand.tmp 14, Operand.tmp 17], argTypes := #[82, 82] }, type := 4, pos := "l06_point.go:77", after := #[{ on := 11, ground := Ground.data }, { on := 14, ground := Ground.data }, { on := 14, ground := Ground.chain }, { on := 8, ground := Ground.guard }], guard := some (8, true) }
abbrev qUi8 : Oper := { dst := some 19, op := Op.pick (Operand.tmp 11) (Operand.tmp 18) (Operand.const (Value.bool false)), type := 4, pos := "l06_point.go:77", after := #[{ on := 8, ground := Ground.data }, { on := 15, ground := Ground.data }], guard := none }
abbrev qUi9 : Oper := { dst := some 6, op := Op.move (Operand.tmp 5), type := 4, pos := "l06_point.go:77", after := #[{ on := 2, ground := Ground.data }, { on := 2, ground := Ground.chain }], guard := none }
abbrev qUi10 : Oper := { dst := some 7, op := Op.fieldAddr 27 (Operand.tmp 1) 1, type := 0, pos := "l06_point.go:77", after := #[{ on := 3, ground := Ground.guard }], guard := some (3, true) }
abbrev qUi11 : Oper := { dst := some 8, op := Op.load 25 (Operand.tmp 7), type := 25, pos := "l06_point.go:77", after := #[{ on := 4, ground := Ground.data }, { on := 3, ground := Ground.guard }], guard := some (3, true) }
abbrev qUi12 : Oper := { dst := some 10, op := Op.pick (Operand.tmp 6) (Operand.tmp 9) (Operand.const (Value.bool false)), type := 4, pos := "l06_point.go:77", after := #[{ on := 3, ground := Ground.data }, { on := 6, ground := Ground.data }], guard := none }
abbrev qUi13 : Oper := { dst := some 11, op := Op.move (Operand.tmp 10), type := 4, pos := "l06_point.go:77", after := #[{ on := 7, ground := Ground.data }, { on := 6, ground := Ground.chain }], guard := none }
abbrev qUi14 : Oper := { dst := some 12, op := Op.fieldAddr 27 (Operand.tmp 1) 0, type := 0, pos := "l06_point.go:77", after := #[{ on := 8, ground := Ground.guard }], guard := some (8, true) }

/-- Whether two lists are a point. -/
def ptOk (xs ys : List Int) : Bool := feOk xs && feOk ys && onB xs ys
theorem ptOk_iff (xs ys : List Int) : ptOk xs ys = true ↔ feOk xs = true ∧ feOk ys = true ∧ onB xs ys = true := by
 unfold ptOk
 simp only [Bool.and_eq_true, and_assoc]

set_option maxHeartbeats 4000000 in
theorem specPtOk (a : Option Addr) (n c : Nat) (xs : List Int) (b : Option Addr) (m d : Nat) (ys : List Int) (w : World) (hx : Is w a n c xs) (hy : Is w b m d ys) :
  Calls Tryd.prog 17 #[.agg #[.slice a n c, .slice b m d]] w fun e w' => e = .returned (.bool (ptOk xs ys)) ∧ Below w.heap.size w w' := by
 have Hx : Hid (∀ Z, Below w.heap.size w Z → Calls Tryd.prog 59 #[.agg #[.slice a n c]] Z fun e w' => e = .returned (.bool (feOk xs)) ∧ Below Z.heap.size Z w') := by
  unfold Hid; intro Z hZ; exact specFeOk a n c xs Z (hx.below hZ)
 have Hy : Hid (∀ Z, Below w.heap.size w Z → Calls Tryd.prog 59 #[.agg #[.slice b m d]] Z fun e w' => e = .returned (.bool (feOk ys)) ∧ Below Z.heap.size Z w') := by
  unfold Hid; intro Z hZ; exact specFeOk b m d ys Z (hy.below hZ)
 have Hix : Hid (feOk xs = true → ∀ Z, Below w.heap.size w Z → Calls Tryd.prog 61 #[.agg #[.slice a n c]] Z fun e w' => e = .returned (.agg (I64 xs).toArray) ∧ Below Z.heap.size Z w') := by
  unfold Hid; intro h Z hZ
  have e : n = 16 := by rw [← hx.2.1]; exact feOk_len h
  subst e
  exact specIn a c xs Z (hx.below hZ)
 have Hiy : Hid (feOk ys = true → ∀ Z, Below w.heap.size w Z → Calls Tryd.prog 61 #[.agg #[.slice b m d]] Z fun e w' => e = .returned (.agg (I64 ys).toArray) ∧ Below Z.heap.size Z w') := by
  unfold Hid; intro h Z hZ
  have e : m = 16 := by rw [← hy.2.1]; exact feOk_len h
  subst e
  exact specIn b d ys Z (hy.below hZ)
 have Hon : Hid (feOk xs = true → feOk ys = true → ∀ Z, Calls Tryd.prog 60 #[.agg (I64 xs).toArray, .agg (I64 ys).toArray] Z fun e w' => e = .returned (.bool (onB xs ys)) ∧ Below Z.heap.size Z w') := by
  unfold Hid; intro h h' Z; exact spec6on xs ys Z h h'
 obtain ⟨p, hp⟩ : ∃ p, p = feOk xs := ⟨_, rfl⟩
 obtain ⟨q, hq⟩ : ∃ q, q = feOk ys := ⟨_, rfl⟩
 obtain ⟨t, ht⟩ : ∃ t, t = onB xs ys := ⟨_, rfl⟩
 have hr : ptOk xs ys = (p && q && t) := by rw [hp, hq, ht]; rfl
 rw [← hp] at Hx Hix Hon
 rw [← hq] at Hy Hiy Hon
 rw [← ht] at Hon
 rw [hr]
 have hu : Tryd.prog.underlying 25 = some _ := Tryd.underlying25
 obtain ⟨W, hW⟩ : ∃ W, W = w.alloc (.cells #[.slice a n c, .slice b m d] 27) := ⟨_, rfl⟩
 have fr : Below w.heap.size w W := by rw [hW]; exact (Below.refl _ _).alloc (Nat.le_refl _) _
 have pa : Arr W w.heap.size 27 ([.slice a n c, .slice b m d]) := by rw [hW]; exact Arr.new w [.slice a n c, .slice b m d] _
 clear hr hp hq ht hx hy
 go_enter Tryd.func17, Tryd.ntmps17
 go_upto_region 1 with fail
 rw [← hW]
 clear hW
 cases p with
 | false =>
  try simp only [Act.put]
  have bD : Below W.heap.size W W.drew := (Below.refl _ _).drew
  replace fr := fr.trans (bD.mono fr.size)
  replace pa := pa.kept bD
  clear bD
  refine wp_region_held_drew (S := fun W => W.rangeAt w.heap.size 0 [.slice a n c] ∧ W.rangeAt w.heap.size 1 [.slice b m d]) (by kernel_rfl) ⟨range2a pa, range2b pa⟩ (fun hHeld => ?_)
  obtain ⟨D1, hD⟩ : ∃ V, V = W.drew := ⟨_, rfl⟩
  rw [← hD] at hHeld fr pa ⊢
  clear hD
  refine wpAnyH_take (i := 0) (oi := qUi0) (v := .pointer (some ⟨w.heap.size, 0, none⟩)) rfl (by kernel_rfl) (by kernel_rfl) (by kernel_rfl) (fun _ _ _ h => h) (.inl ⟨by rfl, fun _ _ => by rfl⟩) (by assumption) ?_
  simp only [Act.put, List.setIfInBounds_toArray, List.set_cons_zero, List.set_cons_succ]
  refine wpAnyH_take (i := 1) (oi := qUi1) (v := _) rfl (by kernel_rfl) (by kernel_rfl) (by kernel_rfl) (fun _ _ _ h => h) (yieldsIf_load_mid (by rfl) _ _ rfl _ _ rfl ([.slice a n c]) _ (fun _ h => h.1) hu rfl infoFe1) (by assumption) ?_
  simp only [Act.put, List.setIfInBounds_toArray, List.set_cons_zero, List.set_cons_succ]
  refine wpAnyH_ready (rs := [2]) (by kernel_rfl) (by simp) (AllReadyH.cons (o := { dst := some 5, op := Op.call { callee := Callee.value (Operand.func 59), args := #[Operand.tmp 4], argTypes := #[25] }, type := 4, pos := "l06_point.go:77", after := #[{ on := 1, ground := Ground.data }], guard := none }) rfl (fun K hK => ?_) AllReadyH.nil)
  go_simp
  refine (Hx.out _ fr).mono ?_
  rintro e y2 ⟨rfl, hb2⟩
  replace fr := fr.trans (hb2.mono fr.size)
  replace pa := pa.kept hb2
  clear hb2
  go_wp2_with fail
  refine hK.out _ _ ⟨range2a pa, range2b pa⟩ (fun hHeld => ?_)
  clear hK K
  refine wpAnyH_take (i := 3) (oi := qUi9) (v := .bool false) rfl (by kernel_rfl) (by kernel_rfl) (by kernel_rfl) (fun _ _ _ h => h) (.inl ⟨by rfl, fun _ _ => by rfl⟩) (by assumption) ?_
  simp only [Act.put, List.setIfInBounds_toArray, List.set_cons_zero, List.set_cons_succ]
  refine wpAnyH_take (i := 4) (oi := qUi10) (v := undef) rfl (by kernel_rfl) (by kernel_rfl) (by kernel_rfl) (fun _ _ _ h => h) (.inr ⟨by rfl, rfl⟩) (by assumption) ?_
  simp only [Act.put, List.setIfInBounds_toArray, List.set_cons_zero, List.set_cons_succ]
  refine wpAnyH_take (i := 5) (oi := qUi11) (v := undef) rfl (by kernel_rfl) (by kernel_rfl) (by kernel_rfl) (fun _ _ _ h => h) (.inr ⟨by rfl, rfl⟩) (by assumption) ?_
  simp only [Act.put, List.setIfInBounds_toArray, List.set_cons_zero, List.set_cons_succ]
  refine wpAnyH_take (i := 6) (oi := { dst := some 9, op := Op.call { callee := Callee.value (Operand.func 59), args := #[Operand.tmp 8], argTypes := #[25] }, type := 4, pos := "l06_point.go:77", after := #[{ on := 5, ground := Ground.data }, { on := 3, ground := Ground.chain }, { on := 3, ground := Ground.guard }], guard := some (3, true) }) (v := undef) rfl (by kernel_rfl) (by kernel_rfl) (by kernel_rfl) (fun _ _ _ h => h) (.inr ⟨by rfl, rfl⟩) (by assumption) ?_
  simp only [Act.put, List.setIfInBounds_toArray, List.set_cons_zero, List.set_cons_succ]
  refine wpAnyH_take (i := 7) (oi := qUi12) (v := .bool false) rfl (by kernel_rfl) (by kernel_rfl) (by kernel_rfl) (fun _ _ _ h => h) (.inl ⟨by rfl, fun _ _ => by rfl⟩) (by assumption) ?_
  simp only [Act.put, List.setIfInBounds_toArray, List.set_cons_zero, List.set_cons_succ]
  refine wpAnyH_take (i := 8) (oi := qUi13) (v := .bool false) rfl (by kernel_rfl) (by kernel_rfl) (by kernel_rfl) (fun _ _ _ h => h) (.inl ⟨by rfl, fun _ _ => by rfl⟩) (by assumption) ?_
  simp only [Act.put, List.setIfInBounds_toArray, List.set_cons_zero, List.set_cons_succ]
  refine wpAnyH_take (i := 9) (oi := qUi14) (v := undef) rfl (by kernel_rfl) (by kernel_rfl) (by kernel_rfl) (fun _ _ _ h => h) (.inr ⟨by rfl, rfl⟩) (by assumption) ?_
  simp only [Act.put, List.setIfInBounds_toArray, List.set_cons_zero, List.set_cons_succ]
  refine wpAnyH_take (i := 10) (oi := qUi2) (v := undef) rfl (by kernel_rfl) (by kernel_rfl) (by kernel_rfl) (fun _ _ _ h => h) (.inr ⟨by rfl, rfl⟩) (by assumption) ?_
  simp only [Act.put, List.setIfInBounds_toArray, List.set_cons_zero, List.set_cons_succ]
  refine wpAnyH_take (i := 11) (oi := qUi3) (v := undef) rfl (by kernel_rfl) (by kernel_rfl) (by kernel_rfl) (fun _ _ _ h => h) (.inr ⟨by rfl, rfl⟩) (by assumption) ?_
  simp only [Act.put, List.setIfInBounds_toArray, List.set_cons_zero, List.set_cons_succ]
  refine wpAnyH_take (i := 12) (oi := qUi4) (v := undef) rfl (by kernel_rfl) (by kernel_rfl) (by kernel_rfl) (fun _ _ _ h => h) (.inr ⟨by rfl, rfl⟩) (by assumption) ?_
  simp only [Act.put, List.setIfInBounds_toArray, List.set_cons_zero, List.set_cons_succ]
  refine wpAnyH_take (i := 13) (oi := qUi5) (v := undef) rfl (by kernel_rfl) (by kernel_rfl) (by kernel_rfl) (fun _ _ _ h => h) (.inr ⟨by rfl, rfl⟩) (by assumption) ?_
  simp only [Act.put, List.setIfInBounds_toArray, List.set_cons_zero, List.set_cons_succ]
  refine wpAnyH_take (i := 14) (oi := qUi6) (v := undef) rfl (by kernel_rfl) (by kernel_rfl) (by kernel_rfl) (fun _ _ _ h => h) (.inr ⟨by rfl, rfl⟩) (by assumption) ?_
  simp only [Act.put, List.setIfInBounds_toArray, List.set_cons_zero, List.set_cons_succ]
  refine wpAnyH_take (i := 15) (oi := qUi7) (v := undef) rfl (by kernel_rfl) (by kernel_rfl) (by kernel_rfl) (fun _ _ _ h => h) (.inr ⟨by rfl, rfl⟩) (by assumption) ?_
  simp only [Act.put, List.setIfInBounds_toArray, List.set_cons_zero, List.set_cons_succ]
  refine wpAnyH_take (i := 16) (oi := qUi8) (v := .bool false) rfl (by kernel_rfl) (by kernel_rfl) (by kernel_rfl) (fun _ _ _ h => h) (.inl ⟨by rfl, fun _ _ => by rfl⟩) (by assumption) ?_
  simp only [Act.put, List.setIfInBounds_toArray, List.set_cons_zero, List.set_cons_succ]
  refine wpAnyH_ready (rs := [17]) (by kernel_rfl) (by simp) (AllReadyH.cons (o := { dst := some 2, op := Op.assign (Operand.tmp 19), type := 4, pos := "l06_point.go:77", after := #[{ on := 16, ground := Ground.data }, { on := 15, ground := Ground.chain }, { on := 0, ground := Ground.phase }, { on := 1, ground := Ground.phase }, { on := 2, ground := Ground.phase }, { on := 3, ground := Ground.phase }, { on := 4, ground := Ground.phase }, { on := 5, ground := Ground.phase }, { on := 6, ground := Ground.phase }, { on := 7, ground := Ground.phase }, { on := 8, ground := Ground.phase }, { on := 9, ground := Ground.phase }, { on := 10, ground := Ground.phase }, { on := 11, ground := Ground.phase }, { on := 12, ground := Ground.phase }, { on := 13, ground := Ground.phase }, { on := 14, ground := Ground.phase }, { on := 15, ground := Ground.phase }, { on := 16, ground := Ground.phase }], guard := none }) rfl (fun K hK => ?_) AllReadyH.nil)
  go_simp
  refine hK.out _ _ ⟨range2a pa, range2b pa⟩ (fun hHeld => ?_)
  clear hK K
  refine wpAnyH_done (by kernel_rfl) ?_ _
  go_wp2
  go_ret
  exact ⟨rfl, fr⟩
 | true =>
  cases q with
  | false =>
   try simp only [Act.put]
   have bD : Below W.heap.size W W.drew := (Below.refl _ _).drew
   replace fr := fr.trans (bD.mono fr.size)
   replace pa := pa.kept bD
   clear bD
   refine wp_region_held_drew (S := fun W => W.rangeAt w.heap.size 0 [.slice a n c] ∧ W.rangeAt w.heap.size 1 [.slice b m d]) (by kernel_rfl) ⟨range2a pa, range2b pa⟩ (fun hHeld => ?_)
   obtain ⟨D1, hD⟩ : ∃ V, V = W.drew := ⟨_, rfl⟩
   rw [← hD] at hHeld fr pa ⊢
   clear hD
   refine wpAnyH_take (i := 0) (oi := qUi0) (v := .pointer (some ⟨w.heap.size, 0, none⟩)) rfl (by kernel_rfl) (by kernel_rfl) (by kernel_rfl) (fun _ _ _ h => h) (.inl ⟨by rfl, fun _ _ => by rfl⟩) (by assumption) ?_
   simp only [Act.put, List.setIfInBounds_toArray, List.set_cons_zero, List.set_cons_succ]
   refine wpAnyH_take (i := 1) (oi := qUi1) (v := _) rfl (by kernel_rfl) (by kernel_rfl) (by kernel_rfl) (fun _ _ _ h => h) (yieldsIf_load_mid (by rfl) _ _ rfl _ _ rfl ([.slice a n c]) _ (fun _ h => h.1) hu rfl infoFe1) (by assumption) ?_
   simp only [Act.put, List.setIfInBounds_toArray, List.set_cons_zero, List.set_cons_succ]
   refine wpAnyH_ready (rs := [2]) (by kernel_rfl) (by simp) (AllReadyH.cons (o := { dst := some 5, op := Op.call { callee := Callee.value (Operand.func 59), args := #[Operand.tmp 4], argTypes := #[25] }, type := 4, pos := "l06_point.go:77", after := #[{ on := 1, ground := Ground.data }], guard := none }) rfl (fun K hK => ?_) AllReadyH.nil)
   go_simp
   refine (Hx.out _ fr).mono ?_
   rintro e y2 ⟨rfl, hb2⟩
   replace fr := fr.trans (hb2.mono fr.size)
   replace pa := pa.kept hb2
   clear hb2
   go_wp2_with fail
   refine hK.out _ _ ⟨range2a pa, range2b pa⟩ (fun hHeld => ?_)
   clear hK K
   refine wpAnyH_take (i := 3) (oi := qUi9) (v := .bool true) rfl (by kernel_rfl) (by kernel_rfl) (by kernel_rfl) (fun _ _ _ h => h) (.inl ⟨by rfl, fun _ _ => by rfl⟩) (by assumption) ?_
   simp only [Act.put, List.setIfInBounds_toArray, List.set_cons_zero, List.set_cons_succ]
   refine wpAnyH_take (i := 4) (oi := qUi10) (v := .pointer (some ⟨w.heap.size, 1, none⟩)) rfl (by kernel_rfl) (by kernel_rfl) (by kernel_rfl) (fun _ _ _ h => h) (.inl ⟨by rfl, fun _ _ => by rfl⟩) (by assumption) ?_
   simp only [Act.put, List.setIfInBounds_toArray, List.set_cons_zero, List.set_cons_succ]
   refine wpAnyH_take (i := 5) (oi := qUi11) (v := _) rfl (by kernel_rfl) (by kernel_rfl) (by kernel_rfl) (fun _ _ _ h => h) (yieldsIf_load_mid (by rfl) _ _ rfl _ _ rfl ([.slice b m d]) _ (fun _ h => h.2) hu rfl infoFe1) (by assumption) ?_
   simp only [Act.put, List.setIfInBounds_toArray, List.set_cons_zero, List.set_cons_succ]
   refine wpAnyH_ready (rs := [6]) (by kernel_rfl) (by simp) (AllReadyH.cons (o := { dst := some 9, op := Op.call { callee := Callee.value (Operand.func 59), args := #[Operand.tmp 8], argTypes := #[25] }, type := 4, pos := "l06_point.go:77", after := #[{ on := 5, ground := Ground.data }, { on := 3, ground := Ground.chain }, { on := 3, ground := Ground.guard }], guard := some (3, true) }) rfl (fun K hK => ?_) AllReadyH.nil)
   go_simp
   refine (Hy.out _ fr).mono ?_
   rintro e y3 ⟨rfl, hb3⟩
   replace fr := fr.trans (hb3.mono fr.size)
   replace pa := pa.kept hb3
   clear hb3
   go_wp2_with fail
   refine hK.out _ _ ⟨range2a pa, range2b pa⟩ (fun hHeld => ?_)
   clear hK K
   refine wpAnyH_take (i := 7) (oi := qUi12) (v := .bool false) rfl (by kernel_rfl) (by kernel_rfl) (by kernel_rfl) (fun _ _ _ h => h) (.inl ⟨by rfl, fun _ _ => by rfl⟩) (by assumption) ?_
   simp only [Act.put, List.setIfInBounds_toArray, List.set_cons_zero, List.set_cons_succ]
   refine wpAnyH_take (i := 8) (oi := qUi13) (v := .bool false) rfl (by kernel_rfl) (by kernel_rfl) (by kernel_rfl) (fun _ _ _ h => h) (.inl ⟨by rfl, fun _ _ => by rfl⟩) (by assumption) ?_
   simp only [Act.put, List.setIfInBounds_toArray, List.set_cons_zero, List.set_cons_succ]
   refine wpAnyH_take (i := 9) (oi := qUi14) (v := undef) rfl (by kernel_rfl) (by kernel_rfl) (by kernel_rfl) (fun _ _ _ h => h) (.inr ⟨by rfl, rfl⟩) (by assumption) ?_
   simp only [Act.put, List.setIfInBounds_toArray, List.set_cons_zero, List.set_cons_succ]
   refine wpAnyH_take (i := 10) (oi := qUi2) (v := undef) rfl (by kernel_rfl) (by kernel_rfl) (by kernel_rfl) (fun _ _ _ h => h) (.inr ⟨by rfl, rfl⟩) (by assumption) ?_
   simp only [Act.put, List.setIfInBounds_toArray, List.set_cons_zero, List.set_cons_succ]
   refine wpAnyH_take (i := 11) (oi := qUi3) (v := undef) rfl (by kernel_rfl) (by kernel_rfl) (by kernel_rfl) (fun _ _ _ h => h) (.inr ⟨by rfl, rfl⟩) (by assumption) ?_
   simp only [Act.put, List.setIfInBounds_toArray, List.set_cons_zero, List.set_cons_succ]
   refine wpAnyH_take (i := 12) (oi := qUi4) (v := undef) rfl (by kernel_rfl) (by kernel_rfl) (by kernel_rfl) (fun _ _ _ h => h) (.inr ⟨by rfl, rfl⟩) (by assumption) ?_
   simp only [Act.put, List.setIfInBounds_toArray, List.set_cons_zero, List.set_cons_succ]
   refine wpAnyH_take (i := 13) (oi := qUi5) (v := undef) rfl (by kernel_rfl) (by kernel_rfl) (by kernel_rfl) (fun _ _ _ h => h) (.inr ⟨by rfl, rfl⟩) (by assumption) ?_
   simp only [Act.put, List.setIfInBounds_toArray, List.set_cons_zero, List.set_cons_succ]
   refine wpAnyH_take (i := 14) (oi := qUi6) (v := undef) rfl (by kernel_rfl) (by kernel_rfl) (by kernel_rfl) (fun _ _ _ h => h) (.inr ⟨by rfl, rfl⟩) (by assumption) ?_
   simp only [Act.put, List.setIfInBounds_toArray, List.set_cons_zero, List.set_cons_succ]
   refine wpAnyH_take (i := 15) (oi := qUi7) (v := undef) rfl (by kernel_rfl) (by kernel_rfl) (by kernel_rfl) (fun _ _ _ h => h) (.inr ⟨by rfl, rfl⟩) (by assumption) ?_
   simp only [Act.put, List.setIfInBounds_toArray, List.set_cons_zero, List.set_cons_succ]
   refine wpAnyH_take (i := 16) (oi := qUi8) (v := .bool false) rfl (by kernel_rfl) (by kernel_rfl) (by kernel_rfl) (fun _ _ _ h => h) (.inl ⟨by rfl, fun _ _ => by rfl⟩) (by assumption) ?_
   simp only [Act.put, List.setIfInBounds_toArray, List.set_cons_zero, List.set_cons_succ]
   refine wpAnyH_ready (rs := [17]) (by kernel_rfl) (by simp) (AllReadyH.cons (o := { dst := some 2, op := Op.assign (Operand.tmp 19), type := 4, pos := "l06_point.go:77", after := #[{ on := 16, ground := Ground.data }, { on := 15, ground := Ground.chain }, { on := 0, ground := Ground.phase }, { on := 1, ground := Ground.phase }, { on := 2, ground := Ground.phase }, { on := 3, ground := Ground.phase }, { on := 4, ground := Ground.phase }, { on := 5, ground := Ground.phase }, { on := 6, ground := Ground.phase }, { on := 7, ground := Ground.phase }, { on := 8, ground := Ground.phase }, { on := 9, ground := Ground.phase }, { on := 10, ground := Ground.phase }, { on := 11, ground := Ground.phase }, { on := 12, ground := Ground.phase }, { on := 13, ground := Ground.phase }, { on := 14, ground := Ground.phase }, { on := 15, ground := Ground.phase }, { on := 16, ground := Ground.phase }], guard := none }) rfl (fun K hK => ?_) AllReadyH.nil)
   go_simp
   refine hK.out _ _ ⟨range2a pa, range2b pa⟩ (fun hHeld => ?_)
   clear hK K
   refine wpAnyH_done (by kernel_rfl) ?_ _
   go_wp2
   go_ret
   exact ⟨rfl, fr⟩
  | true =>
   try simp only [Act.put]
   have bD : Below W.heap.size W W.drew := (Below.refl _ _).drew
   replace fr := fr.trans (bD.mono fr.size)
   replace pa := pa.kept bD
   clear bD
   refine wp_region_held_drew (S := fun W => W.rangeAt w.heap.size 0 [.slice a n c] ∧ W.rangeAt w.heap.size 1 [.slice b m d]) (by kernel_rfl) ⟨range2a pa, range2b pa⟩ (fun hHeld => ?_)
   obtain ⟨D1, hD⟩ : ∃ V, V = W.drew := ⟨_, rfl⟩
   rw [← hD] at hHeld fr pa ⊢
   clear hD
   refine wpAnyH_take (i := 0) (oi := qUi0) (v := .pointer (some ⟨w.heap.size, 0, none⟩)) rfl (by kernel_rfl) (by kernel_rfl) (by kernel_rfl) (fun _ _ _ h => h) (.inl ⟨by rfl, fun _ _ => by rfl⟩) (by assumption) ?_
   simp only [Act.put, List.setIfInBounds_toArray, List.set_cons_zero, List.set_cons_succ]
   refine wpAnyH_take (i := 1) (oi := qUi1) (v := _) rfl (by kernel_rfl) (by kernel_rfl) (by kernel_rfl) (fun _ _ _ h => h) (yieldsIf_load_mid (by rfl) _ _ rfl _ _ rfl ([.slice a n c]) _ (fun _ h => h.1) hu rfl infoFe1) (by assumption) ?_
   simp only [Act.put, List.setIfInBounds_toArray, List.set_cons_zero, List.set_cons_succ]
   refine wpAnyH_ready (rs := [2]) (by kernel_rfl) (by simp) (AllReadyH.cons (o := { dst := some 5, op := Op.call { callee := Callee.value (Operand.func 59), args := #[Operand.tmp 4], argTypes := #[25] }, type := 4, pos := "l06_point.go:77", after := #[{ on := 1, ground := Ground.data }], guard := none }) rfl (fun K hK => ?_) AllReadyH.nil)
   go_simp
   refine (Hx.out _ fr).mono ?_
   rintro e y2 ⟨rfl, hb2⟩
   replace fr := fr.trans (hb2.mono fr.size)
   replace pa := pa.kept hb2
   clear hb2
   go_wp2_with fail
   refine hK.out _ _ ⟨range2a pa, range2b pa⟩ (fun hHeld => ?_)
   clear hK K
   refine wpAnyH_take (i := 3) (oi := qUi9) (v := .bool true) rfl (by kernel_rfl) (by kernel_rfl) (by kernel_rfl) (fun _ _ _ h => h) (.inl ⟨by rfl, fun _ _ => by rfl⟩) (by assumption) ?_
   simp only [Act.put, List.setIfInBounds_toArray, List.set_cons_zero, List.set_cons_succ]
   refine wpAnyH_take (i := 4) (oi := qUi10) (v := .pointer (some ⟨w.heap.size, 1, none⟩)) rfl (by kernel_rfl) (by kernel_rfl) (by kernel_rfl) (fun _ _ _ h => h) (.inl ⟨by rfl, fun _ _ => by rfl⟩) (by assumption) ?_
   simp only [Act.put, List.setIfInBounds_toArray, List.set_cons_zero, List.set_cons_succ]
   refine wpAnyH_take (i := 5) (oi := qUi11) (v := _) rfl (by kernel_rfl) (by kernel_rfl) (by kernel_rfl) (fun _ _ _ h => h) (yieldsIf_load_mid (by rfl) _ _ rfl _ _ rfl ([.slice b m d]) _ (fun _ h => h.2) hu rfl infoFe1) (by assumption) ?_
   simp only [Act.put, List.setIfInBounds_toArray, List.set_cons_zero, List.set_cons_succ]
   refine wpAnyH_ready (rs := [6]) (by kernel_rfl) (by simp) (AllReadyH.cons (o := { dst := some 9, op := Op.call { callee := Callee.value (Operand.func 59), args := #[Operand.tmp 8], argTypes := #[25] }, type := 4, pos := "l06_point.go:77", after := #[{ on := 5, ground := Ground.data }, { on := 3, ground := Ground.chain }, { on := 3, ground := Ground.guard }], guard := some (3, true) }) rfl (fun K hK => ?_) AllReadyH.nil)
   go_simp
   refine (Hy.out _ fr).mono ?_
   rintro e y3 ⟨rfl, hb3⟩
   replace fr := fr.trans (hb3.mono fr.size)
   replace pa := pa.kept hb3
   clear hb3
   go_wp2_with fail
   refine hK.out _ _ ⟨range2a pa, range2b pa⟩ (fun hHeld => ?_)
   clear hK K
   refine wpAnyH_take (i := 7) (oi := qUi12) (v := .bool true) rfl (by kernel_rfl) (by kernel_rfl) (by kernel_rfl) (fun _ _ _ h => h) (.inl ⟨by rfl, fun _ _ => by rfl⟩) (by assumption) ?_
   simp only [Act.put, List.setIfInBounds_toArray, List.set_cons_zero, List.set_cons_succ]
   refine wpAnyH_take (i := 8) (oi := qUi13) (v := .bool true) rfl (by kernel_rfl) (by kernel_rfl) (by kernel_rfl) (fun _ _ _ h => h) (.inl ⟨by rfl, fun _ _ => by rfl⟩) (by assumption) ?_
   simp only [Act.put, List.setIfInBounds_toArray, List.set_cons_zero, List.set_cons_succ]
   refine wpAnyH_take (i := 9) (oi := qUi14) (v := .pointer (some ⟨w.heap.size, 0, none⟩)) rfl (by kernel_rfl) (by kernel_rfl) (by kernel_rfl) (fun _ _ _ h => h) (.inl ⟨by rfl, fun _ _ => by rfl⟩) (by assumption) ?_
   simp only [Act.put, List.setIfInBounds_toArray, List.set_cons_zero, List.set_cons_succ]
   refine wpAnyH_take (i := 10) (oi := qUi2) (v := _) rfl (by kernel_rfl) (by kernel_rfl) (by kernel_rfl) (fun _ _ _ h => h) (yieldsIf_load_mid (by rfl) _ _ rfl _ _ rfl ([.slice a n c]) _ (fun _ h => h.1) hu rfl infoFe1) (by assumption) ?_
   simp only [Act.put, List.setIfInBounds_toArray, List.set_cons_zero, List.set_cons_succ]
   refine wpAnyH_take (i := 12) (oi := qUi4) (v := .pointer (some ⟨w.heap.size, 1, none⟩)) rfl (by kernel_rfl) (by kernel_rfl) (by kernel_rfl) (fun _ _ _ h => h) (.inl ⟨by rfl, fun _ _ => by rfl⟩) (by assumption) ?_
   simp only [Act.put, List.setIfInBounds_toArray, List.set_cons_zero, List.set_cons_succ]
   refine wpAnyH_take (i := 13) (oi := qUi5) (v := _) rfl (by kernel_rfl) (by kernel_rfl) (by kernel_rfl) (fun _ _ _ h => h) (yieldsIf_load_mid (by rfl) _ _ rfl _ _ rfl ([.slice b m d]) _ (fun _ h => h.2) hu rfl infoFe1) (by assumption) ?_
   simp only [Act.put, List.setIfInBounds_toArray, List.set_cons_zero, List.set_cons_succ]
   refine wpAnyH_ready (rs := [11]) (by kernel_rfl) (by simp) (AllReadyH.cons (o := { dst := some 14, op := Op.call { callee := Callee.value (Operand.func 61), args := #[Operand.tmp 13], argTypes := #[25] }, type := 82, pos := "l06_point.go:77", after := #[{ on := 10, ground := Ground.data }, { on := 8, ground := Ground.chain }, { on := 8, ground := Ground.guard }], guard := some (8, true) }) rfl (fun K hK => ?_) AllReadyH.nil)
   go_simp
   refine (Hix.out (by simp) _ fr).mono ?_
   rintro e y4 ⟨rfl, hb4⟩
   replace fr := fr.trans (hb4.mono fr.size)
   replace pa := pa.kept hb4
   clear hb4
   go_wp2_with fail
   refine hK.out _ _ ⟨range2a pa, range2b pa⟩ (fun hHeld => ?_)
   clear hK K
   refine wpAnyH_ready (rs := [14]) (by kernel_rfl) (by simp) (AllReadyH.cons (o := { dst := some 17, op := Op.call { callee := Callee.value (Operand.func 61), args := #[Operand.tmp 16], argTypes := #[25] }, type := 82, pos := "l06_point.go:77", after := #[{ on := 13, ground := Ground.data }, { on := 11, ground := Ground.chain }, { on := 8, ground := Ground.guard }], guard := some (8, true) }) rfl (fun K hK => ?_) AllReadyH.nil)
   go_simp
   refine (Hiy.out (by simp) _ fr).mono ?_
   rintro e y5 ⟨rfl, hb5⟩
   replace fr := fr.trans (hb5.mono fr.size)
   replace pa := pa.kept hb5
   clear hb5
   go_wp2_with fail
   refine hK.out _ _ ⟨range2a pa, range2b pa⟩ (fun hHeld => ?_)
   clear hK K
   refine wpAnyH_ready (rs := [15]) (by kernel_rfl) (by simp) (AllReadyH.cons (o := { dst := some 18, op := Op.call { callee := Callee.value (Operand.func 60), args := #[Operand.tmp 14, Operand.tmp 17], argTypes := #[82, 82] }, type := 4, pos := "l06_point.go:77", after := #[{ on := 11, ground := Ground.data }, { on := 14, ground := Ground.data }, { on := 14, ground := Ground.chain }, { on := 8, ground := Ground.guard }], guard := some (8, true) }) rfl (fun K hK => ?_) AllReadyH.nil)
   go_simp
   refine (Hon.out (by simp) (by simp) _).mono ?_
   rintro e y6 ⟨rfl, hb6⟩
   replace fr := fr.trans (hb6.mono fr.size)
   replace pa := pa.kept hb6
   clear hb6
   go_wp2_with fail
   refine hK.out _ _ ⟨range2a pa, range2b pa⟩ (fun hHeld => ?_)
   clear hK K
   refine wpAnyH_take (i := 16) (oi := qUi8) (v := .bool t) rfl (by kernel_rfl) (by kernel_rfl) (by kernel_rfl) (fun _ _ _ h => h) (.inl ⟨by rfl, fun _ _ => by rfl⟩) (by assumption) ?_
   simp only [Act.put, List.setIfInBounds_toArray, List.set_cons_zero, List.set_cons_succ]
   refine wpAnyH_ready (rs := [17]) (by kernel_rfl) (by simp) (AllReadyH.cons (o := { dst := some 2, op := Op.assign (Operand.tmp 19), type := 4, pos := "l06_point.go:77", after := #[{ on := 16, ground := Ground.data }, { on := 15, ground := Ground.chain }, { on := 0, ground := Ground.phase }, { on := 1, ground := Ground.phase }, { on := 2, ground := Ground.phase }, { on := 3, ground := Ground.phase }, { on := 4, ground := Ground.phase }, { on := 5, ground := Ground.phase }, { on := 6, ground := Ground.phase }, { on := 7, ground := Ground.phase }, { on := 8, ground := Ground.phase }, { on := 9, ground := Ground.phase }, { on := 10, ground := Ground.phase }, { on := 11, ground := Ground.phase }, { on := 12, ground := Ground.phase }, { on := 13, ground := Ground.phase }, { on := 14, ground := Ground.phase }, { on := 15, ground := Ground.phase }, { on := 16, ground := Ground.phase }], guard := none }) rfl (fun K hK => ?_) AllReadyH.nil)
   go_simp
   refine hK.out _ _ ⟨range2a pa, range2b pa⟩ (fun hHeld => ?_)
   clear hK K
   refine wpAnyH_done (by kernel_rfl) ?_ _
   go_wp2
   go_ret
   exact ⟨rfl, fr⟩
end Go.Proofs.YtoblilngppjmhaaDoor
