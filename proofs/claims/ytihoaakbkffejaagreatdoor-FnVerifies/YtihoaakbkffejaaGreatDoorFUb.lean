/-
  What is proved here: contracts of the specification's l6d, l6make, l6zero and l6base.
-/
import Derived.Test.YtihoaakbkffejaaGreatDoorFFsc
import Derived.Deep.CutRange
namespace Go.Proofs.YtihoaakbkffejaaGreatDoor
open Go.RowKit
set_option maxRecDepth 100000

abbrev Z64 : List Int := Z16 ++ Z16 ++ Z16 ++ Z16
structure Mk (n : Nat) : Prop where
 t : True
theorem Mk.up {n : Nat} (h : Mk n) (k : Nat) : Mk (n + k) := ⟨h.t⟩
theorem Mk.at {n : Nat} (_ : Mk n) (k : Nat) (_ : n = k) : True := trivial
theorem bel_sc {n : Nat} {w W : World} (h : Below n w W) (X : Nat) (vs : List Value) (hX : n ≤ X) : Below n w (W.setCells X 0 vs) := setCells_below hX _ _ h
theorem Arr.sc {W : World} {k : Nat} {t : TypeId} {cs : List Value} (h : Arr W k t cs) (X : Nat) (vs : List Value) (hne : k ≠ X) : Arr (W.setCells X 0 vs) k t cs := Arr.setCellsO hne _ _ h
theorem Arr.sc0 {W : World} {k : Nat} {t : TypeId} {cs : List Value} (h : Arr W k t cs) (vs : List Value) (hl : cs.length = vs.length) : Arr (W.setCells k 0 vs) k t vs := Arr.setCells0 h hl
theorem Vr.sc {W : World} {k : Nat} {cs : List Value} (h : Vr W k cs) (X : Nat) (vs : List Value) (hne : k ≠ X) : Vr (W.setCells X 0 vs) k cs := Vr.setCellsO hne h
theorem laid_e (w1 : World) (L : List Int) : Below w1.heap.size w1 ((w1.alloc (.cells zV 80)).setRow w1.heap.size (I64 L).toArray) ∧ Arr ((w1.alloc (.cells zV 80)).setRow w1.heap.size (I64 L).toArray) w1.heap.size 80 (I64 L) ∧ Arr (w1.alloc (.cells zV 80)) w1.heap.size 80 (I64 Z16) := by
 have q : Arr (w1.alloc (.cells zV 80)) w1.heap.size 80 (I64 Z16) := Arr.new w1 (I64 Z16) _
 exact ⟨setRow_below ((Below.refl _ _).alloc (Nat.le_refl _) _) _ _ (Nat.le_refl _), q.row _, q⟩
theorem infoE' {l : List Int} (h : feOk l = true) : (Tryz.prog.info? 80).map (·.size) = some (I64 l).toArray.size := by simpa [feOk_len h] using infoE
theorem infoEl {l : List Int} (h : feOk l = true) : (Tryz.prog.info? 80).map (·.size) = some (I64 l).length := by simpa [feOk_len h] using infoE
theorem infoP' {P : E4} (h : P.Ok) : (Tryz.prog.info? 86).map (·.size) = some (I64 P.cells).toArray.size := by simpa [E4.len h] using infoP6

set_option maxHeartbeats 1000000 in
theorem spec6d (w : World) : Calls Tryz.prog 117 #[] w fun e w' => e = .returned (.agg (I64 DL).toArray) ∧ Below w.heap.size w w' := by
 have hA : Arr (w.alloc (.cells zV 80)) w.heap.size 80 (I64 Z16) := Arr.new w (I64 Z16) _
 have hA2 := hA.row (I64 DL)
 have hB : Below w.heap.size w (w.alloc (.cells zV 80)) := (Below.refl _ _).alloc (Nat.le_refl _) _
 have HB : Hid _ := setRow_below hB w.heap.size (I64 DL).toArray (Nat.le_refl _)
 clear hB
 go_enter Tryz.func117, Tryz.ntmps117
 go_wp2_with (refine wpList_store_row rfl 80 _ _ rfl w.heap.size (I64 DL).toArray rfl rfl 80 _ hA infoE rfl (by simp [Value.oneCell']) ?_)
 exact bodyPost_ret (results_cell_row rfl _ _ w.heap.size 80 (I64 DL).toArray (0, 0) _ rfl hA2 Tryz.underlying80 rfl infoE) rfl ⟨rfl, HB.out⟩

set_option maxHeartbeats 2000000 in
theorem spec6make (x y : List Int) (w : World) (hx : feOk x = true) (hy : feOk y = true) :
  Calls Tryz.prog 95 #[.agg (I64 x).toArray, .agg (I64 y).toArray] w fun e w' => e = .returned (.agg (I64 (mk6 x y).cells).toArray) ∧ Below w.heap.size w w' := by
 have hP := mk6_ok hx hy
 have hPl := E4.len hP
 obtain ⟨P, hPe⟩ : ∃ P, P = mk6 x y := ⟨_, rfl⟩
 have p1 : P.a = x := by rw [hPe]; rfl
 have p2 : P.b = y := by rw [hPe]; rfl
 have p3 : lim 16 1 = P.c := by rw [hPe]; rfl
 have p4 : red (val x * val y) = P.t := by rw [hPe]; rfl
 have HS : Hid (∀ Z, Calls Tryz.prog 96 #[.int .i64 1] Z fun e w' => e = .returned (.agg (I64 P.c).toArray) ∧ Below Z.heap.size Z w') := by
  unfold Hid; intro Z; rw [← p3]; exact specSmall 1 Z (by omega) (by omega)
 have HM : Hid (∀ Z, Calls Tryz.prog 113 #[.agg (I64 x).toArray, .agg (I64 y).toArray] Z fun e w' => e = .returned (.agg (I64 P.t).toArray) ∧ Below Z.heap.size Z w') := by
  unfold Hid; intro Z; rw [← p4]; exact specMul16 x y Z (feOk_len hx) (feOk_len hy) (feOk_lm' hx) (feOk_lm' hy)
 rw [← hPe] at hP hPl ⊢
 have hix := infoEl hx
 have hiy := infoEl hy
 have hip := infoP' hP
 have hone := one_lm P.cells
 have hu : Tryz.prog.underlying 80 = some (.array 16 3) := Tryz.underlying80
 obtain ⟨A, hA⟩ : ∃ A, A = (I64 x).toArray := ⟨_, rfl⟩
 obtain ⟨B, hB⟩ : ∃ B, B = (I64 y).toArray := ⟨_, rfl⟩
 obtain ⟨W, hW⟩ : ∃ W, W = ((w.alloc (.cells A 80)).alloc (.cells B 80)).alloc (.cells #[.int .i64 0, .int .i64 0, .int .i64 0, .int .i64 0, .int .i64 0, .int .i64 0, .int .i64 0, .int .i64 0, .int .i64 0, .int .i64 0, .int .i64 0, .int .i64 0, .int .i64 0, .int .i64 0, .int .i64 0, .int .i64 0, .int .i64 0, .int .i64 0, .int .i64 0, .int .i64 0, .int .i64 0, .int .i64 0, .int .i64 0, .int .i64 0, .int .i64 0, .int .i64 0, .int .i64 0, .int .i64 0, .int .i64 0, .int .i64 0, .int .i64 0, .int .i64 0, .int .i64 0, .int .i64 0, .int .i64 0, .int .i64 0, .int .i64 0, .int .i64 0, .int .i64 0, .int .i64 0, .int .i64 0, .int .i64 0, .int .i64 0, .int .i64 0, .int .i64 0, .int .i64 0, .int .i64 0, .int .i64 0, .int .i64 0, .int .i64 0, .int .i64 0, .int .i64 0, .int .i64 0, .int .i64 0, .int .i64 0, .int .i64 0, .int .i64 0, .int .i64 0, .int .i64 0, .int .i64 0, .int .i64 0, .int .i64 0, .int .i64 0, .int .i64 0] 86) := ⟨_, rfl⟩
 have fr : Below w.heap.size w W := by rw [hW]; exact (((Below.refl _ _).alloc (Nat.le_refl _) _).alloc (by simp) _).alloc (by simp; omega) _
 have pa : Arr W w.heap.size 80 (I64 x) := by rw [hW, hA]; exact ((Arr.new w (I64 x) _).alloc _).alloc _
 have pb : Arr W (w.heap.size + 1) 80 (I64 y) := by
  rw [hW, hB]
  have := (Arr.new (w.alloc (.cells A 80)) (I64 y) 80).alloc (.cells (I64 Z64).toArray 86)
  rw [World.size_alloc] at this
  exact this
 have pr : Arr W (w.heap.size + 2) 86 (I64 Z64) := by
  rw [hW]
  have := Arr.new ((w.alloc (.cells A 80)).alloc (.cells B 80)) (I64 Z64) 86
  rw [World.size_alloc, World.size_alloc] at this
  exact this
 rw [← hA, ← hB]
 clear hA hB hx hy p3 p4 hPe
 go_enter Tryz.func95, Tryz.ntmps95
 go_wp2
 rw [← hW]
 clear hW
 try simp only [Act.put]
 have bD : Below W.heap.size W W.drew := (Below.refl _ _).drew
 replace fr := fr.trans (bD.mono fr.size)
 replace pa := pa.kept bD
 replace pb := pb.kept bD
 replace pr := pr.kept bD
 clear bD
 refine wp_region_held_drew (S := fun W => W.rangeAt w.heap.size 0 (I64 x) ∧ W.rangeAt (w.heap.size + 1) 0 (I64 y)) (by kernel_rfl) ⟨arr_range pa, arr_range pb⟩ (fun hHeld => ?_)
 obtain ⟨D1, hD⟩ : ∃ V, V = W.drew := ⟨_, rfl⟩
 rw [← hD] at hHeld fr pa pb pr ⊢
 clear hD
 refine wpAnyH_take (i := 0) (oi := { dst := some 5, op := Op.load 80 (Operand.tmp 2), type := 80, pos := "l06_point.go:17", after := #[], guard := none }) (v := _) rfl (by kernel_rfl) (by kernel_rfl) (by kernel_rfl) (fun _ _ _ h => h) (yieldsIf_load_mid (by rfl) _ _ rfl _ _ rfl (I64 x) _ (fun _ h => h.1) hu rfl hix) (by assumption) ?_
 simp only [aP]
 refine wpAnyH_take (i := 1) (oi := { dst := some 6, op := Op.load 80 (Operand.tmp 3), type := 80, pos := "l06_point.go:17", after := #[], guard := none }) (v := _) rfl (by kernel_rfl) (by kernel_rfl) (by kernel_rfl) (fun _ _ _ h => h) (yieldsIf_load_mid (by rfl) _ _ rfl _ _ rfl (I64 y) _ (fun _ h => h.2) hu rfl hiy) (by assumption) ?_
 simp only [aP]
 refine wpAnyH_take (i := 3) (oi := { dst := some 8, op := Op.load 80 (Operand.tmp 2), type := 80, pos := "l06_point.go:17", after := #[], guard := none }) (v := _) rfl (by kernel_rfl) (by kernel_rfl) (by kernel_rfl) (fun _ _ _ h => h) (yieldsIf_load_mid (by rfl) _ _ rfl _ _ rfl (I64 x) _ (fun _ h => h.1) hu rfl hix) (by assumption) ?_
 simp only [aP]
 refine wpAnyH_take (i := 4) (oi := { dst := some 9, op := Op.load 80 (Operand.tmp 3), type := 80, pos := "l06_point.go:17", after := #[], guard := none }) (v := _) rfl (by kernel_rfl) (by kernel_rfl) (by kernel_rfl) (fun _ _ _ h => h) (yieldsIf_load_mid (by rfl) _ _ rfl _ _ rfl (I64 y) _ (fun _ h => h.2) hu rfl hiy) (by assumption) ?_
 simp only [aP]
 refine wpAnyH_ready (rs := [2]) (by kernel_rfl) (by simp) (AllReadyH.cons (o := { dst := some 7, op := Op.call { callee := Callee.value (Operand.func 96), args := #[Operand.const (Value.int IntKind.i64 1)], argTypes := #[3] }, type := 80, pos := "l06_point.go:17", after := #[], guard := none }) rfl (fun K hK => ?_) AllReadyH.nil)
 go_simp
 refine (HS.out _).mono ?_
 rintro e y2 ⟨rfl, hb2⟩
 replace fr := fr.trans (hb2.mono fr.size)
 replace pa := pa.kept hb2
 replace pb := pb.kept hb2
 replace pr := pr.kept hb2
 clear hb2
 go_wp2_with fail
 refine hK.out _ _ ⟨arr_range pa, arr_range pb⟩ (fun hHeld => ?_)
 clear hK K
 refine wpAnyH_ready (rs := [5]) (by kernel_rfl) (by simp) (AllReadyH.cons (o := { dst := some 10, op := Op.call { callee := Callee.value (Operand.func 113), args := #[Operand.tmp 8, Operand.tmp 9], argTypes := #[80, 80] }, type := 80, pos := "l06_point.go:17", after := #[{ on := 3, ground := Ground.data }, { on := 4, ground := Ground.data }, { on := 2, ground := Ground.chain }], guard := none }) rfl (fun K hK => ?_) AllReadyH.nil)
 go_simp
 refine (HM.out _).mono ?_
 rintro e y3 ⟨rfl, hb3⟩
 replace fr := fr.trans (hb3.mono fr.size)
 replace pa := pa.kept hb3
 replace pb := pb.kept hb3
 replace pr := pr.kept hb3
 clear hb3
 go_wp2_with fail
 refine hK.out _ _ ⟨arr_range pa, arr_range pb⟩ (fun hHeld => ?_)
 clear hK K
 refine wpAnyH_take (i := 6) (oi := { dst := some 11, op := Op.build 86 #[(0, Operand.tmp 5), (1, Operand.tmp 6), (2, Operand.tmp 7), (3, Operand.tmp 10)], type := 86, pos := "l06_point.go:17", after := #[{ on := 0, ground := Ground.data }, { on := 1, ground := Ground.data }, { on := 2, ground := Ground.data }, { on := 5, ground := Ground.data }], guard := none }) (v := _) rfl (by kernel_rfl) (by kernel_rfl) (by kernel_rfl) (fun _ _ _ h => h) (yieldsIf_p6 (by rfl) _ _ _ _ rfl P hP (by rw [p1]; rfl) (by rw [p2]; rfl) rfl rfl) (by assumption) ?_
 simp only [aP]
 refine wpAnyH_ready (rs := [7]) (by kernel_rfl) (by simp) (AllReadyH.cons (o := { dst := none, op := Op.store 86 (Operand.tmp 4) (Operand.tmp 11), type := 0, pos := "l06_point.go:17", after := #[{ on := 6, ground := Ground.data }, { on := 5, ground := Ground.chain }, { on := 0, ground := Ground.phase }, { on := 1, ground := Ground.phase }, { on := 2, ground := Ground.phase }, { on := 3, ground := Ground.phase }, { on := 4, ground := Ground.phase }, { on := 5, ground := Ground.phase }, { on := 6, ground := Ground.phase }], guard := none }) rfl (fun K hK => ?_) AllReadyH.nil)
 rw [if_pos (by rfl)]
 refine wp_store_mid _ _ _ rfl _ _ (I64 P.cells).toArray rfl rfl (by have := arr_there pr; simpa [hPl] using this) hip (all_oneCell_toArray hone) ?_
 simp only [Act.put]
 obtain ⟨V4, hVe⟩ : ∃ V, V = y3.setCells (w.heap.size + 2) 0 (I64 P.cells) := ⟨_, rfl⟩
 rw [← hVe]
 replace fr : Below w.heap.size w V4 := by rw [hVe]; exact setCells_below (by omega) _ _ fr
 replace pa : Arr V4 w.heap.size 80 (I64 x) := by rw [hVe]; exact Arr.setCellsO (by omega) _ _ pa
 replace pb : Arr V4 (w.heap.size + 1) 80 (I64 y) := by rw [hVe]; exact Arr.setCellsO (by omega) _ _ pb
 replace pr : Arr V4 (w.heap.size + 2) 86 (I64 P.cells) := by rw [hVe]; exact Arr.setCells0 pr (by simp [hPl])
 clear hVe
 refine hK.out _ _ ⟨arr_range pa, arr_range pb⟩ (fun hHeld => ?_)
 clear hK K
 refine wpAnyH_done (by kernel_rfl) ?_ _
 go_wp2
 exact bodyPost_ret (results_cell_row rfl _ _ (w.heap.size + 2) 86 (I64 P.cells).toArray (0, 0) _ rfl pr Tryz.underlying86 rfl hip) rfl ⟨rfl, fr⟩
end Go.Proofs.YtihoaakbkffejaaGreatDoor
