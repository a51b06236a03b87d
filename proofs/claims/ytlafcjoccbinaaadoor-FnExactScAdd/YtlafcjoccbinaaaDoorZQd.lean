/-
  What is proved here: the contract of the program's method longer: a column put below a multiplier; where the program's variable holds the order.
-/
import Derived.Test.YtlafcjoccbinaaaDoorZW
import Derived.Laws.CopyRow
import Derived.Shelf.Spec.SlicesInsert
namespace Go.Proofs.YtlafcjoccbinaaaDoor
open Go.RowKit
set_option maxRecDepth 100000

/-- The multiplier, the result's cell, the limbs that are made, and the program's order. -/
structure M5 (w W : World) (n : List Int) (l : List Int) : Prop where
  fr : Below w.heap.size w W
  pa : Arr W w.heap.size 51 (I64 n)
  pr : Arr W (w.heap.size + 1) 51 (I64 Z16)
  pm : Arr W (w.heap.size + 2) 49 (I64 l)
  vr : Vr W 0 (I64 OL)
theorem M5.go {w A B : World} {n l : List Int} (h : M5 w A n l) (hb : Below A.heap.size A B) : M5 w B n l := ⟨h.fr.trans (hb.mono h.fr.size), h.pa.kept hb, h.pr.kept hb, h.pm.kept hb, h.vr.kept hb⟩
theorem M5.new {w : World} (n : List Int) (h : Vr w 0 (I64 OL)) : M5 w (((w.alloc (.cells (I64 n).toArray 51)).alloc (.cells (I64 Z16).toArray 51)).alloc (.cells (I64 Z16).toArray 49)) n Z16 := by
  have hb : Below w.heap.size w (((w.alloc (.cells (I64 n).toArray 51)).alloc (.cells (I64 Z16).toArray 51)).alloc (.cells (I64 Z16).toArray 49)) := (((Below.refl _ _).alloc (Nat.le_refl _) _).alloc (by simp) _).alloc (by simp; omega) _
  refine ⟨hb, ((Arr.new w (I64 n) _).alloc _).alloc _, ?_, ?_, h.kept hb⟩
  · have := (Arr.new (w.alloc (.cells (I64 n).toArray 51)) (I64 Z16) 51).alloc (.cells (I64 Z16).toArray 49)
    rw [World.size_alloc] at this
    exact this
  · have := Arr.new ((w.alloc (.cells (I64 n).toArray 51)).alloc (.cells (I64 Z16).toArray 51)) (I64 Z16) 49
    rw [World.size_alloc, World.size_alloc] at this
    exact this
theorem M5.row {w W : World} {n l : List Int} (h : M5 w W n l) (m : List Int) : M5 w (W.setRow (w.heap.size + 2) (I64 m).toArray) n m := by
  have hg := h.pa.lt
  exact ⟨setRow_below h.fr _ _ (by omega), h.pa.rowOther _ _ (by omega), h.pr.rowOther _ _ (by omega), h.pm.row _, h.vr.rowOther _ (by omega)⟩
/-- Behind the copy. -/
def cpd (c : Int) (n : List Int) : List Int := c :: n.take 15
theorem cpd_len {c : Int} {n : List Int} (h : n.length = 16) : (cpd c n).length = 16 := by simp [cpd, h]
theorem cpd_mvd {c : Int} {n : List Int} (h : n.length = 16) : (I64 (cpd c n)).set 15 (.int .i64 (n.getD 14 0 + n.getD 15 0 * 65536)) = I64 (mvd c n) := by
  obtain ⟨a0, a1, a2, a3, a4, a5, a6, a7, a8, a9, a10, a11, a12, a13, a14, a15, rfl⟩ := list16 h
  rfl
theorem cpd_15 {c : Int} {n : List Int} (h : n.length = 16) : (cpd c n).getD 15 0 = n.getD 14 0 := by
  obtain ⟨a0, a1, a2, a3, a4, a5, a6, a7, a8, a9, a10, a11, a12, a13, a14, a15, rfl⟩ := list16 h
  rfl
/-- The copy itself. -/
theorem run_cpd {w W : World} {n : List Int} {c : Int} (E : M5 w W n (c :: List.replicate 15 0)) (hl : n.length = 16) (ty : TypeId) :
    (Builtin.copy_ #[23, 23] ty #[.slice (some ⟨w.heap.size + 2, 1, none⟩) 15 15, .slice (some ⟨w.heap.size, 0, none⟩) 15 16]).run Tryd.prog W = .ok (goInt 15) (W.setRow (w.heap.size + 2) (I64 (cpd c n)).toArray) := by
  have h := run_copy_row (P := Tryd.prog) W 23 23 ty 3 (w.heap.size + 2) 1 15 15 ⟨w.heap.size, 0, none⟩ 15 16 (I64 (c :: List.replicate 15 0)).toArray 49 (I64 (n.take 15)) Tryd.underlying23 (by kernel_rfl) E.pm (by simp [hl])
    (fun j v hv => by
      have hadd : (⟨w.heap.size, 0, none⟩ : Addr).add j = ⟨w.heap.size, j, none⟩ := by unfold Addr.add; split <;> simp_all
      rw [hadd, E.pa.cell j, ← hv]
      have hj : j < 15 := by have := (List.getElem?_eq_some_iff.1 hv).1; simp [hl] at this; omega
      simp [hj]) (by simp [hl]) (fun v hv => by obtain ⟨x, _, rfl⟩ := List.mem_map.1 hv; rfl)
  have e : ((I64 (c :: List.replicate 15 0)).toArray.toList.take 1 ++ I64 (n.take 15) ++ (I64 (c :: List.replicate 15 0)).toArray.toList.drop (1 + (I64 (n.take 15)).length)) = I64 (cpd c n) := by
    rw [List.drop_eq_nil_of_le (by simp [hl]), List.append_nil]
    simp [cpd, I64]
  rw [e] at h
  have e2 : (I64 (n.take 15)).length = 15 := by simp [hl]
  rw [e2] at h
  exact h

set_option maxHeartbeats 2000000 in
theorem implLonger (n : List Int) (c : Int) (w : World) (hn : scOk n = true) (hc : Cq c) (hV : Vr w 0 (I64 OL)) :
    Calls Tryd.prog 74 #[.agg (I64 n).toArray, .int .i64 c] w fun e w' => e = .returned (.agg (I64 (redO (c + 65536 * val n))).toArray) ∧ Below w.heap.size w w' := by
  have hl := ((scOk_iff n).1 hn).1
  have hlm := ((scOk_iff n).1 hn).2.1
  obtain ⟨m, hm⟩ : ∃ m, m = mvd c n := ⟨_, rfl⟩
  have hml : m.length = 16 := by rw [hm]; exact mvd_len hl
  have hmv : val m = c + 65536 * val n := by rw [hm]; exact mvd_val hl
  have hmq : Sq (val m) := by rw [hmv]; exact longer_sq hc hn
  have hmc : Cb m := by rw [hm]; exact cb_of (mvd_bd hc hn)
  obtain ⟨R, hR⟩ : ∃ R, R = redO (c + 65536 * val n) := ⟨_, rfl⟩
  have hRl : R.length = 16 := by rw [hR]; exact redO_len _
  obtain ⟨T, hT⟩ : ∃ T, T = crd m := ⟨_, rfl⟩
  have HCR : Hid (∀ Z, Calls Tryd.prog 79 #[.agg (I64 m).toArray] Z fun e w' => e = .returned (.agg (I64 T).toArray) ∧ Below Z.heap.size Z w') := by
    unfold Hid; intro Z; rw [hT]; exact implCarried m Z hml hmc
  have HOS : Hid (∀ Z, Vr Z 0 (I64 OL) → Calls Tryd.prog 82 #[.agg (I64 T).toArray] Z fun e w' => e = .returned (.agg (I64 R).toArray) ∧ Below Z.heap.size Z w') := by
    unfold Hid; intro Z hZ; rw [hT, hR, ← hmv]; exact implOrderSettled m Z hml hmq hZ
  rw [← hR]
  have h15 := sc_last hn
  have h14 := gD_lm hlm 14
  have hset := cpd_mvd (c := c) hl
  have h15c := cpd_15 (c := c) hl
  have hcl := cpd_len (c := c) hl
  rw [← hm] at hset
  obtain ⟨x, hx⟩ : ∃ x, x = n.getD 14 0 := ⟨_, rfl⟩
  obtain ⟨y, hy⟩ : ∃ y, y = n.getD 15 0 := ⟨_, rfl⟩
  rw [← hx] at h14 hset h15c
  rw [← hy] at h15 hset
  obtain ⟨W, hW⟩ : ∃ W, W = ((w.alloc (.cells (I64 n).toArray 51)).alloc (.cells #[.int .i64 0, .int .i64 0, .int .i64 0, .int .i64 0, .int .i64 0, .int .i64 0, .int .i64 0, .int .i64 0, .int .i64 0, .int .i64 0, .int .i64 0, .int .i64 0, .int .i64 0, .int .i64 0, .int .i64 0, .int .i64 0] 51)).alloc (.cells #[.int .i64 0, .int .i64 0, .int .i64 0, .int .i64 0, .int .i64 0, .int .i64 0, .int .i64 0, .int .i64 0, .int .i64 0, .int .i64 0, .int .i64 0, .int .i64 0, .int .i64 0, .int .i64 0, .int .i64 0, .int .i64 0] 49) := ⟨_, rfl⟩
  have E0 : M5 w W n Z16 := by rw [hW]; exact M5.new n hV
  have E1 : M5 w (W.setRow (w.heap.size + 2) (I64 (c :: List.replicate 15 0)).toArray) n (c :: List.replicate 15 0) := E0.row _
  have hz0 := E0.pm
  have hcpy : ∀ ty, _ := fun ty => run_cpd (E1.go (Below.refl _ _).drew) hl ty
  have E2 := (E1.go (Below.refl _ _).drew).row (cpd c n)
  obtain ⟨V, hVV⟩ : ∃ V, V = W.setRow (w.heap.size + 2) (I64 (c :: List.replicate 15 0)).toArray := ⟨_, rfl⟩
  rw [← hVV] at E2 hcpy
  obtain ⟨U, hU⟩ : ∃ U, U = V.drew.setRow (w.heap.size + 2) (I64 (cpd c n)).toArray := ⟨_, rfl⟩
  rw [← hU] at E2 hcpy
  have HVV : Hid _ := hVV
  have HW : Hid _ := hW
  rw [hW] at hz0
  have hw0 := hV.lt
  have cx : U.cell? ⟨w.heap.size + 2, 15, none⟩ = some (.int .i64 x) := by rw [E2.pm.i64 15 (by omega), h15c]
  have cy : U.cell? ⟨w.heap.size, 15, none⟩ = some (.int .i64 y) := by rw [E2.pa.i64 15 (by omega), hy]
  have hfz := E2.pm.frozen 15
  have sy : IntKind.i64.wrap (y * 65536) = y * 65536 := by rw [IntKind.wrap_i64]; omega
  have sxy : IntKind.i64.wrap (x + y * 65536) = x + y * 65536 := by rw [IntKind.wrap_i64]; omega
  have E3 : M5 w (U.setCell ⟨w.heap.size + 2, 15, none⟩ (.int .i64 (x + y * 65536))) n m := by
    have hs := E2.pm.set 15 (.int .i64 (x + y * 65536))
    rw [hset] at hs
    exact ⟨E2.fr.setCell (p := ⟨w.heap.size + 2, 15, none⟩) (by simp only; omega) _, E2.pa.other _ _ (by simp), E2.pr.other _ _ (by simp), hs, E2.vr.other _ _ (by simp)⟩
  have hil : (Tryd.prog.info? 49).map (·.size) = some (I64 m).toArray.size := by simpa [hml] using infoL
  have hir : (Tryd.prog.info? 51).map (·.size) = some (I64 R).toArray.size := by simpa [hRl] using infoM
  obtain ⟨A, hA⟩ : ∃ A, A = (I64 n).toArray := ⟨_, rfl⟩
  rw [← hA] at hz0 ⊢
  replace HW : Hid (W = ((w.alloc (.cells A 51)).alloc (.cells #[.int .i64 0, .int .i64 0, .int .i64 0, .int .i64 0, .int .i64 0, .int .i64 0, .int .i64 0, .int .i64 0, .int .i64 0, .int .i64 0, .int .i64 0, .int .i64 0, .int .i64 0, .int .i64 0, .int .i64 0, .int .i64 0] 51)).alloc (.cells #[.int .i64 0, .int .i64 0, .int .i64 0, .int .i64 0, .int .i64 0, .int .i64 0, .int .i64 0, .int .i64 0, .int .i64 0, .int .i64 0, .int .i64 0, .int .i64 0, .int .i64 0, .int .i64 0, .int .i64 0, .int .i64 0] 49)) := by unfold Hid; rw [hA]; exact hW
  have hic : (Tryd.prog.info? 49).map (·.size) = some (I64 (c :: List.replicate 15 0)).toArray.size := by simpa using infoL
  clear hm hmv hmq hmc hR hT hn hlm hx hy hset h15c E0 E1 E2 hV hA hW hVV hU
  go_enter Tryd.func74, Tryd.ntmps74
  go_wp2_with (refine wpList_store_row rfl 49 _ _ rfl (w.heap.size + 2) (I64 (c :: List.replicate 15 0)).toArray rfl rfl 49 _ hz0 hic rfl (by simp [Value.oneCell']) ?_)
  rw [← HW.out, ← HVV.out]
  refine wp_region_held_drew (S := fun W => True) (by kernel_rfl) trivial (fun hHeld => ?_)
  refine wpAnyH_take (i := 0) (oi := { dst := some 8, op := Op.slice 49 (Operand.tmp 5) (some (Operand.const (Value.int IntKind.i64 1))) none none, type := 23, pos := "l05_scalar.go:110", after := #[], guard := none }) (v := .slice (some ⟨w.heap.size + 2, 1, none⟩) 15 15) rfl (by kernel_rfl) (by kernel_rfl) (by kernel_rfl) (fun _ _ _ h => h) (.inl ⟨by rfl, fun _ _ => by rfl⟩) (by assumption) ?_
  simp only [Act.put, List.setIfInBounds_toArray, List.set_cons_zero, List.set_cons_succ]
  refine wpAnyH_take (i := 1) (oi := { dst := some 9, op := Op.fieldAddr 51 (Operand.tmp 2) 0, type := 0, pos := "l05_scalar.go:110", after := #[], guard := none }) (v := .pointer (some ⟨w.heap.size, 0, none⟩)) rfl (by kernel_rfl) (by kernel_rfl) (by kernel_rfl) (fun _ _ _ h => h) (.inl ⟨by rfl, fun _ _ => by rfl⟩) (by assumption) ?_
  simp only [Act.put, List.setIfInBounds_toArray, List.set_cons_zero, List.set_cons_succ]
  refine wpAnyH_take (i := 2) (oi := { dst := some 10, op := Op.slice 49 (Operand.tmp 9) none (some (Operand.const (Value.int IntKind.i64 15))) none, type := 23, pos := "l05_scalar.go:110", after := #[{ on := 1, ground := Ground.data }], guard := none }) (v := .slice (some ⟨w.heap.size, 0, none⟩) 15 16) rfl (by kernel_rfl) (by kernel_rfl) (by kernel_rfl) (fun _ _ _ h => h) (.inl ⟨by rfl, fun _ _ => by rfl⟩) (by assumption) ?_
  simp only [Act.put, List.setIfInBounds_toArray, List.set_cons_zero, List.set_cons_succ]
  refine wpAnyH_ready (rs := [3]) (by kernel_rfl) (by simp) (AllReadyH.cons (o := { dst := some 11, op := Op.call { callee := Callee.builtin Builtin.copy, args := #[Operand.tmp 8, Operand.tmp 10], argTypes := #[23, 23] }, type := 3, pos := "l05_scalar.go:110", after := #[{ on := 0, ground := Ground.data }, { on := 2, ground := Ground.data }], guard := none }) rfl (fun K hK => ?_) AllReadyH.nil)
  rw [if_pos (by rfl)]
  refine Go.Proofs.wp_copy_runI _ _ _ _ _ rfl _ _ rfl rfl (hcpy _) ?_
  simp only [Act.put]
  refine hK.out _ _ trivial (fun hHeld => ?_)
  clear hK K hHeld
  refine wpAnyH_done (by kernel_rfl) ?_ _
  clear hcpy hz0 HW HVV
  obtain ⟨X, hX⟩ : ∃ X, X = U.setCell ⟨w.heap.size + 2, 15, none⟩ (.int .i64 (x + y * 65536)) := ⟨_, rfl⟩
  have HX : Hid _ := hX
  have hp3 := E3.pm
  rw [← hX] at E3
  clear hX
  go_wp2_with (refine wpList_load_row rfl 49 _ rfl (w.heap.size + 2) rfl 49 (I64 m).toArray (0, 0) _ hp3 Tryd.underlying49 rfl hil ?_)
  rw [← HX.out]
  clear HX hp3 cx cy hfz sy sxy
  refine (HCR.out _).mono ?_
  rintro e w1 ⟨rfl, hb1⟩
  replace E3 := E3.go hb1
  clear hb1
  go_wp2_with fail
  refine (HOS.out _ E3.vr).mono ?_
  rintro e w2 ⟨rfl, hb2⟩
  replace E3 := E3.go hb2
  clear hb2
  have h1 := E3.pr
  have h2 := E3.pr.row (I64 R)
  have HB : Hid _ := setRow_below E3.fr (w.heap.size + 1) (I64 R).toArray (by omega)
  clear E3
  go_wp2_with (refine wpList_store_row rfl 51 _ _ rfl (w.heap.size + 1) (I64 R).toArray rfl rfl 51 _ h1 hir (by simp [hRl]) (by simp [Value.oneCell']) ?_)
  exact bodyPost_ret (results_cell_row rfl _ _ (w.heap.size + 1) 51 (I64 R).toArray (0, 0) _ rfl h2 Tryd.underlying51 rfl hir) rfl ⟨rfl, HB.out⟩
end Go.Proofs.YtlafcjoccbinaaaDoor
