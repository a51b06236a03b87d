/-
  What is proved here: what the specification's TornProgram, Program, TornErase and Erase answer.
-/
import Derived.Test.YtcnlpdpbkkjkoaaF9m
import Derived.Deep.CutRange
namespace Go.Proofs.Ytcnlpdpbkkjkoaa
set_option maxRecDepth 100000
set_option maxHeartbeats 4000000
open Go.RowKit
set_option linter.unusedVariables false

theorem IsFl.of {w W : World} {a a' : Option Addr} {nB c nW c' : Nat} {bs ws : List Int} (h : OwnFl w.heap.size W a nB c a' nW c' bs ws) : IsFl w W (flV a nB c a' nW c') bs ws := by
  have e1 : bs.length = nB := (own_shape h.ob).1
  have e2 : ws.length = nW := (own_shapeI h.ow).1
  subst e1
  subst e2
  exact ⟨_, _, _, _, rfl, h⟩
theorem OwnFl.nil (lo : Nat) (W : World) : OwnFl lo W none 0 0 none 0 0 [] [] := ⟨World.ownsRow_nil _ _ _ _, World.ownsRow_nil _ _ _ _, fun _ h => by cases h⟩
theorem OwnFl.setO {lo : Nat} {W : World} {g nB c g' nW c' : Nat} {bs ws : List Int} (h : OwnFl lo W (some ⟨g, 0, none⟩) nB c (some ⟨g', 0, none⟩) nW c' bs ws) (R k : Nat) (v : Value) (h1 : R < lo) : OwnFl lo (W.setCell ⟨R, k, none⟩ v) (some ⟨g, 0, none⟩) nB c (some ⟨g', 0, none⟩) nW c' bs ws := by
  have n1 := (h.ob.lt g rfl).1
  have n2 := (h.ow.lt g' rfl).1
  exact ⟨own_otherS h.ob _ _ (by simp [Value.ownBlock]; omega), own_otherS h.ow _ _ (by simp [Value.ownBlock]; omega), h.ap⟩
theorem Arr.grown {W W' : World} {g q : Nat} {t : TypeId} {cs : List Value} (h : Arr W g t cs) (hg : W.grownBy W' (some q)) (hne : g ≠ q) : Arr W' g t cs := by
  unfold Arr
  rw [hg.block g h.lt (fun e => hne (Option.some.inj e))]
  exact h

theorem tornProgram_s (aB : Option Addr) (nB cB : Nat) (aW : Option Addr) (nW cW : Nat) (bs ws : List Int) (i : Int) (ab : Option Addr) (nb cb : Nat) (xs : List Int) (am : Option Addr) (nm cm : Nat) (ms : List Int) (w : World) (hB : Bs w aB nB cB bs) (hW : Is w aW nW cW ws) (hn : nB ≤ 2097152) (hm : nW ≤ 2097152) (hl : -9223372036854775808 ≤ i) (hu : i ≤ 9223372036854775807) (hb : Bs w ab nb cb xs) (hbn : nb ≤ 2097152) (hmm : Bs w am nm cm ms) (hmn : nm ≤ 2097152) :
    Calls Try.prog 47 #[flV aB nB cB aW nW cW, .int .i64 i, .slice ab nb cb, .slice am nm cm] w fun e w' => ∃ v, e = .returned (.tuple #[v, .int .i64 (tpC bs ws i xs ms)]) ∧ IsFl w w' v (tpB bs ws i xs ms) (tpW bs ws ms) ∧ Below w.heap.size w w' := by
  obtain ⟨V, hV⟩ : ∃ V, V = (w.alloc (.cells #[.slice aB nB cB, .slice aW nW cW] 25)).alloc (.cells #[.slice none 0 0, .slice none 0 0] 25) := ⟨_, rfl⟩
  have B : Below w.heap.size w V := by rw [hV]; exact ((Below.refl _ _).alloc (Nat.le_refl _) _).alloc (by simp) _
  have A0 : Arr V w.heap.size 25 [.slice aB nB cB, .slice aW nW cW] := by rw [hV]; exact (Arr.new w _ _).alloc _
  have A1 : Arr V (w.heap.size + 1) 25 [.slice none 0 0, .slice none 0 0] := by
    rw [hV]
    have := Arr.new (w.alloc (.cells #[.slice aB nB cB, .slice aW nW cW] 25)) [.slice none 0 0, .slice none 0 0] 25
    simpa using this
  have z : w.heap.size + 2 ≤ V.heap.size := by rw [hV]; simp
  have hml := hmm.2.1
  have hxl := hb.2.1
  obtain ⟨C, hC⟩ : ∃ C, C = tpC bs ws i xs ms := ⟨_, rfl⟩
  obtain ⟨LB, hLB⟩ : ∃ L, L = tpB bs ws i xs ms := ⟨_, rfl⟩
  obtain ⟨LW, hLW⟩ : ∃ L, L = tpW bs ws ms := ⟨_, rfl⟩
  rw [← hC, ← hLB, ← hLW]
  have HC : Hid _ := hC
  have HLB : Hid _ := hLB
  have HLW : Hid _ := hLW
  clear hC hLB hLW
  have c0 := arr2 A0
  rw [hV] at c0
  go_enter Try.func47, Try.ntmps47
  go_wp2_with fail
  rw [← hV]
  clear hV c0
  refine (specFlashOk aB nB cB aW nW cW bs ws _ (hB.below B) (hW.below B) hn hm).mono ?_
  rintro e w1 ⟨rfl, b1⟩
  replace A0 := A0.kept b1
  replace A1 := A1.kept b1
  replace B := B.trans (b1.mono B.size)
  have z1 : w.heap.size + 2 ≤ w1.heap.size := Nat.le_trans z b1.size
  clear b1 z
  have hf : flOk bs ws = false ∨ flOk bs ws = true := by cases flOk bs ws <;> simp
  obtain ⟨f, hf'⟩ : ∃ f, f = flOk bs ws := ⟨_, rfl⟩
  rw [← hf'] at hf ⊢
  have HFl : Hid _ := hf'
  clear hf'
  rcases hf with rfl | rfl
  · have tN : tOk bs ws ms = false := by unfold tOk; rw [← HFl.out]; rfl
    have : C = 4 := by rw [HC.out]; unfold tpC; rw [tN]; rfl
    subst this
    have : LB = [] := by rw [HLB.out]; unfold tpB; rw [tN]; rfl
    subst this
    have : LW = [] := by rw [HLW.out]; unfold tpW; rw [tN]; rfl
    subst this
    have dR := arr2 A1
    have fR := A1.frozen
    have lR := A1.lt
    have K : Arr ((w1.setCell ⟨w.heap.size + 1, 0, none⟩ (.slice none 0 0)).setCell ⟨w.heap.size + 1, 1, none⟩ (.slice none 0 0)) (w.heap.size + 1) 25 [.slice none 0 0, .slice none 0 0] := (A1.set 0 _).set 1 _
    have BF : Below w.heap.size w ((w1.setCell ⟨w.heap.size + 1, 0, none⟩ (.slice none 0 0)).setCell ⟨w.heap.size + 1, 1, none⟩ (.slice none 0 0)) := (B.setCell (by simp) _).setCell (by simp) _
    have OF : OwnFl w.heap.size ((w1.setCell ⟨w.heap.size + 1, 0, none⟩ (.slice none 0 0)).setCell ⟨w.heap.size + 1, 1, none⟩ (.slice none 0 0)) none 0 0 none 0 0 [] [] := OwnFl.nil _ _
    have HK : Hid _ := K
    have HBF : Hid _ := BF
    have HOF : Hid _ := OF
    clear K BF OF
    go_wp2
    exact bodyPost_ret (results_row_tmp (v := .int .i64 4) (t := 25) (cs := [.slice none 0 0, .slice none 0 0]) rfl rfl rfl HK.out Try.underlying25 rfl (by kernel_rfl)) rfl ⟨_, rfl, IsFl.of HOF.out, HBF.out⟩
  by_cases h256 : 256 < (nm : Int)
  · have tN : tOk bs ws ms = false := by unfold tOk; rw [← HFl.out]; rw [decide_eq_false (by omega)]; rfl
    have : C = 4 := by rw [HC.out]; unfold tpC; rw [tN]; rfl
    subst this
    have : LB = [] := by rw [HLB.out]; unfold tpB; rw [tN]; rfl
    subst this
    have : LW = [] := by rw [HLW.out]; unfold tpW; rw [tN]; rfl
    subst this
    have dR := arr2 A1
    have fR := A1.frozen
    have lR := A1.lt
    have K : Arr ((w1.setCell ⟨w.heap.size + 1, 0, none⟩ (.slice none 0 0)).setCell ⟨w.heap.size + 1, 1, none⟩ (.slice none 0 0)) (w.heap.size + 1) 25 [.slice none 0 0, .slice none 0 0] := (A1.set 0 _).set 1 _
    have BF : Below w.heap.size w ((w1.setCell ⟨w.heap.size + 1, 0, none⟩ (.slice none 0 0)).setCell ⟨w.heap.size + 1, 1, none⟩ (.slice none 0 0)) := (B.setCell (by simp) _).setCell (by simp) _
    have OF : OwnFl w.heap.size ((w1.setCell ⟨w.heap.size + 1, 0, none⟩ (.slice none 0 0)).setCell ⟨w.heap.size + 1, 1, none⟩ (.slice none 0 0)) none 0 0 none 0 0 [] [] := OwnFl.nil _ _
    have HK : Hid _ := K
    have HBF : Hid _ := BF
    have HOF : Hid _ := OF
    clear K BF OF
    go_wp2
    exact bodyPost_ret (results_row_tmp (v := .int .i64 4) (t := 25) (cs := [.slice none 0 0, .slice none 0 0]) rfl rfl rfl HK.out Try.underlying25 rfl (by kernel_rfl)) rfl ⟨_, rfl, IsFl.of HOF.out, HBF.out⟩
  have tY : tOk bs ws ms = true := by unfold tOk; rw [← HFl.out, decide_eq_true (by omega)]; rfl
  obtain ⟨l1, l2, l3, _⟩ := tOk_len tY
  have hbl := hB.2.1
  have hwl := hW.2.1
  have c0 := arr2 A0
  go_wp2_with fail
  clear c0
  refine (ownIt_s aB nB cB aW nW cW bs ws _ (hB.below B) (hW.below B) hn hm (by omega) (by omega)).mono ?_
  rintro e w2 ⟨g, c, g', c', rfl, O, b2⟩
  replace A0 := A0.kept b2
  replace A1 := A1.kept b2
  replace B := B.trans (b2.mono B.size)
  have z2 := b2.size
  clear b2
  have ng := (O.ob.lt g rfl)
  have ng' := (O.ow.lt g' rfl)
  obtain ⟨W, hW3⟩ : ∃ W, W = w2.alloc (.cells #[.slice (some ⟨g, 0, none⟩) nB c, .slice (some ⟨g', 0, none⟩) nW c'] 25) := ⟨_, rfl⟩
  have AQ : Arr W w2.heap.size 25 [.slice (some ⟨g, 0, none⟩) nB c, .slice (some ⟨g', 0, none⟩) nW c'] := by rw [hW3]; exact Arr.new _ _ _
  have bq : Below w2.heap.size w2 W := by rw [hW3]; exact (Below.refl _ _).alloc (Nat.le_refl _) _
  replace O := O.below bq
  replace A0 := A0.kept bq
  replace A1 := A1.kept bq
  replace B := B.trans (bq.mono B.size)
  have OW : OwnFl w.heap.size W (some ⟨g, 0, none⟩) nB c (some ⟨g', 0, none⟩) nW c' bs ws := O.base (by omega)
  have z3 := bq.size
  clear bq
  go_wp2_with fail
  rw [← hW3]
  clear hW3
  refine (specMay i nb _ hl hu (by omega) (by omega)).mono ?_
  rintro e w3 ⟨rfl, hw⟩
  rw [hw]
  clear hw
  have hCC : C = mayC i nb := by rw [HC.out]; unfold tpC; rw [tY, if_pos rfl, hxl]
  rw [← hCC]
  by_cases h0 : C = 0
  · have hz : mayC i nb = 0 := by rw [← hCC]; exact h0
    obtain ⟨q1, q2⟩ := mayC_zero hz
    obtain ⟨j1, j2, j3⟩ := inF_iff.1 q1
    obtain ⟨I, rfl⟩ : ∃ I : Nat, i = (I : Int) := ⟨i.toNat, by omega⟩
    have hLB : LB = tn (pf xs ms) bs I nb := by rw [HLB.out]; unfold tpB; rw [tY, if_pos rfl, hxl, if_pos hz]; simp
    subst hLB
    have : LW = ws := by rw [HLW.out]; unfold tpW; rw [tY, if_pos rfl]
    subst this
    subst h0
    have hx3 := hb.below B
    have hm3 := hmm.below B
    clear hCC hz
    go_wp2_with fail
    refine (specProgramB w1.heap.size w2.heap.size g nB c _ bs I ab nb cb xs am nm cm ms _ AQ (by omega) O.ob hx3 hm3 (hb.off (by omega)) (hmm.off (by omega)) (by omega) hn hmn).mono ?_
    rintro e w5 ⟨⟨v, rfl⟩, o5, g5⟩
    have O5 : OwnFl w1.heap.size w5 (some ⟨g, 0, none⟩) nB c (some ⟨g', 0, none⟩) nW c' (tn (pf xs ms) bs I nb) LW := ⟨o5, own_kept (u := .slice (some ⟨g, 0, none⟩) nB c) O.ow g5 O.ap, O.ap⟩
    have B5 : Below w.heap.size w w5 := B.grown g5 B.size (fun k hk => by cases hk; omega)
    have A15 := A1.grown g5 (by omega)
    have AQ5 := AQ.grown g5 (by omega)
    clear o5 g5 O OW A1 AQ A0 B
    have dR := arr2 A15
    have fR := A15.frozen
    have dQ := arr2 AQ5
    have lQ := AQ5.lt
    have lR := A15.lt
    have K : Arr ((w5.setCell ⟨w.heap.size + 1, 0, none⟩ (.slice (some ⟨g, 0, none⟩) nB c)).setCell ⟨w.heap.size + 1, 1, none⟩ (.slice (some ⟨g', 0, none⟩) nW c')) (w.heap.size + 1) 25 [.slice (some ⟨g, 0, none⟩) nB c, .slice (some ⟨g', 0, none⟩) nW c'] := (A15.set 0 _).set 1 _
    have BF : Below w.heap.size w ((w5.setCell ⟨w.heap.size + 1, 0, none⟩ (.slice (some ⟨g, 0, none⟩) nB c)).setCell ⟨w.heap.size + 1, 1, none⟩ (.slice (some ⟨g', 0, none⟩) nW c')) := (B5.setCell (by simp) _).setCell (by simp) _
    have OF : OwnFl w.heap.size ((w5.setCell ⟨w.heap.size + 1, 0, none⟩ (.slice (some ⟨g, 0, none⟩) nB c)).setCell ⟨w.heap.size + 1, 1, none⟩ (.slice (some ⟨g', 0, none⟩) nW c')) (some ⟨g, 0, none⟩) nB c (some ⟨g', 0, none⟩) nW c' (tn (pf xs ms) bs I nb) LW := (O5.setO (w.heap.size + 1) 0 _ (by omega)).setO (w.heap.size + 1) 1 _ (by omega) |>.base (by omega)
    have HK : Hid _ := K
    have HBF : Hid _ := BF
    have HOF : Hid _ := OF
    clear K BF OF
    go_wp2
    exact bodyPost_ret (results_row_tmp (v := .int .i64 0) (t := 25) (cs := [.slice (some ⟨g, 0, none⟩) nB c, .slice (some ⟨g', 0, none⟩) nW c']) rfl rfl rfl HK.out Try.underlying25 rfl (by kernel_rfl)) rfl ⟨_, rfl, IsFl.of HOF.out, HBF.out⟩
  · have hne : mayC i xs.length ≠ 0 := by rw [hxl, ← hCC]; exact h0
    have h0' : (C == 0) = false := by simpa using h0
    clear hCC
    have : LB = bs := by rw [HLB.out]; unfold tpB; rw [tY, if_pos rfl, if_neg (hne)]
    subst this
    have : LW = ws := by rw [HLW.out]; unfold tpW; rw [tY, if_pos rfl]
    subst this
    have dR := arr2 A1
    have fR := A1.frozen
    have dQ := arr2 AQ
    have lQ := AQ.lt
    have lR := A1.lt
    have K : Arr ((W.setCell ⟨w.heap.size + 1, 0, none⟩ (.slice (some ⟨g, 0, none⟩) nB c)).setCell ⟨w.heap.size + 1, 1, none⟩ (.slice (some ⟨g', 0, none⟩) nW c')) (w.heap.size + 1) 25 [.slice (some ⟨g, 0, none⟩) nB c, .slice (some ⟨g', 0, none⟩) nW c'] := (A1.set 0 _).set 1 _
    have BF : Below w.heap.size w ((W.setCell ⟨w.heap.size + 1, 0, none⟩ (.slice (some ⟨g, 0, none⟩) nB c)).setCell ⟨w.heap.size + 1, 1, none⟩ (.slice (some ⟨g', 0, none⟩) nW c')) := (B.setCell (by simp) _).setCell (by simp) _
    have OF : OwnFl w.heap.size ((W.setCell ⟨w.heap.size + 1, 0, none⟩ (.slice (some ⟨g, 0, none⟩) nB c)).setCell ⟨w.heap.size + 1, 1, none⟩ (.slice (some ⟨g', 0, none⟩) nW c')) (some ⟨g, 0, none⟩) nB c (some ⟨g', 0, none⟩) nW c' LB LW := (O.setO (w.heap.size + 1) 0 _ (by omega)).setO (w.heap.size + 1) 1 _ (by omega) |>.base (by omega)
    have HK : Hid _ := K
    have HBF : Hid _ := BF
    have HOF : Hid _ := OF
    clear K BF OF
    go_wp2
    exact bodyPost_ret (results_row_tmp (v := .int .i64 C) (t := 25) (cs := [.slice (some ⟨g, 0, none⟩) nB c, .slice (some ⟨g', 0, none⟩) nW c']) rfl rfl rfl HK.out Try.underlying25 rfl (by kernel_rfl)) rfl ⟨_, rfl, IsFl.of HOF.out, HBF.out⟩

theorem tornErase_s (aB : Option Addr) (nB cB : Nat) (aW : Option Addr) (nW cW : Nat) (bs ws : List Int) (i : Int) (am : Option Addr) (nm cm : Nat) (ms : List Int) (w : World) (hB : Bs w aB nB cB bs) (hW : Is w aW nW cW ws) (hn : nB ≤ 2097152) (hm : nW ≤ 2097152) (hl : -9223372036854775808 ≤ i) (hu : i ≤ 9223372036854775807) (hmm : Bs w am nm cm ms) (hmn : nm ≤ 2097152) :
    Calls Try.prog 48 #[flV aB nB cB aW nW cW, .int .i64 i, .slice am nm cm] w fun e w' => ∃ v, e = .returned (.tuple #[v, .int .i64 (teC bs ws i ms)]) ∧ IsFl w w' v (teB bs ws i ms) (teW bs ws i ms) ∧ Below w.heap.size w w' := by
  obtain ⟨V, hV⟩ : ∃ V, V = (w.alloc (.cells #[.slice aB nB cB, .slice aW nW cW] 25)).alloc (.cells #[.slice none 0 0, .slice none 0 0] 25) := ⟨_, rfl⟩
  have B : Below w.heap.size w V := by rw [hV]; exact ((Below.refl _ _).alloc (Nat.le_refl _) _).alloc (by simp) _
  have A0 : Arr V w.heap.size 25 [.slice aB nB cB, .slice aW nW cW] := by rw [hV]; exact (Arr.new w _ _).alloc _
  have A1 : Arr V (w.heap.size + 1) 25 [.slice none 0 0, .slice none 0 0] := by
    rw [hV]
    have := Arr.new (w.alloc (.cells #[.slice aB nB cB, .slice aW nW cW] 25)) [.slice none 0 0, .slice none 0 0] 25
    simpa using this
  have z : w.heap.size + 2 ≤ V.heap.size := by rw [hV]; simp
  have hml := hmm.2.1
  obtain ⟨C, hC⟩ : ∃ C, C = teC bs ws i ms := ⟨_, rfl⟩
  obtain ⟨LB, hLB⟩ : ∃ L, L = teB bs ws i ms := ⟨_, rfl⟩
  obtain ⟨LW, hLW⟩ : ∃ L, L = teW bs ws i ms := ⟨_, rfl⟩
  rw [← hC, ← hLB, ← hLW]
  have HC : Hid _ := hC
  have HLB : Hid _ := hLB
  have HLW : Hid _ := hLW
  clear hC hLB hLW
  have c0 := arr2 A0
  rw [hV] at c0
  go_enter Try.func48, Try.ntmps48
  go_wp2_with fail
  rw [← hV]
  clear hV c0
  refine (specFlashOk aB nB cB aW nW cW bs ws _ (hB.below B) (hW.below B) hn hm).mono ?_
  rintro e w1 ⟨rfl, b1⟩
  replace A0 := A0.kept b1
  replace A1 := A1.kept b1
  replace B := B.trans (b1.mono B.size)
  have z1 : w.heap.size + 2 ≤ w1.heap.size := Nat.le_trans z b1.size
  clear b1 z
  have hf : flOk bs ws = false ∨ flOk bs ws = true := by cases flOk bs ws <;> simp
  obtain ⟨f, hf'⟩ : ∃ f, f = flOk bs ws := ⟨_, rfl⟩
  rw [← hf'] at hf ⊢
  have HFl : Hid _ := hf'
  clear hf'
  rcases hf with rfl | rfl
  · have tN : tOk bs ws ms = false := by unfold tOk; rw [← HFl.out]; rfl
    have : C = 4 := by rw [HC.out]; unfold teC; rw [tN]; rfl
    subst this
    have : LB = [] := by rw [HLB.out]; unfold teB; rw [tN]; rfl
    subst this
    have : LW = [] := by rw [HLW.out]; unfold teW; rw [tN]; rfl
    subst this
    have dR := arr2 A1
    have fR := A1.frozen
    have lR := A1.lt
    have K : Arr ((w1.setCell ⟨w.heap.size + 1, 0, none⟩ (.slice none 0 0)).setCell ⟨w.heap.size + 1, 1, none⟩ (.slice none 0 0)) (w.heap.size + 1) 25 [.slice none 0 0, .slice none 0 0] := (A1.set 0 _).set 1 _
    have BF : Below w.heap.size w ((w1.setCell ⟨w.heap.size + 1, 0, none⟩ (.slice none 0 0)).setCell ⟨w.heap.size + 1, 1, none⟩ (.slice none 0 0)) := (B.setCell (by simp) _).setCell (by simp) _
    have OF : OwnFl w.heap.size ((w1.setCell ⟨w.heap.size + 1, 0, none⟩ (.slice none 0 0)).setCell ⟨w.heap.size + 1, 1, none⟩ (.slice none 0 0)) none 0 0 none 0 0 [] [] := OwnFl.nil _ _
    have HK : Hid _ := K
    have HBF : Hid _ := BF
    have HOF : Hid _ := OF
    clear K BF OF
    go_wp2
    exact bodyPost_ret (results_row_tmp (v := .int .i64 4) (t := 25) (cs := [.slice none 0 0, .slice none 0 0]) rfl rfl rfl HK.out Try.underlying25 rfl (by kernel_rfl)) rfl ⟨_, rfl, IsFl.of HOF.out, HBF.out⟩
  by_cases h256 : 256 < (nm : Int)
  · have tN : tOk bs ws ms = false := by unfold tOk; rw [← HFl.out]; rw [decide_eq_false (by omega)]; rfl
    have : C = 4 := by rw [HC.out]; unfold teC; rw [tN]; rfl
    subst this
    have : LB = [] := by rw [HLB.out]; unfold teB; rw [tN]; rfl
    subst this
    have : LW = [] := by rw [HLW.out]; unfold teW; rw [tN]; rfl
    subst this
    have dR := arr2 A1
    have fR := A1.frozen
    have lR := A1.lt
    have K : Arr ((w1.setCell ⟨w.heap.size + 1, 0, none⟩ (.slice none 0 0)).setCell ⟨w.heap.size + 1, 1, none⟩ (.slice none 0 0)) (w.heap.size + 1) 25 [.slice none 0 0, .slice none 0 0] := (A1.set 0 _).set 1 _
    have BF : Below w.heap.size w ((w1.setCell ⟨w.heap.size + 1, 0, none⟩ (.slice none 0 0)).setCell ⟨w.heap.size + 1, 1, none⟩ (.slice none 0 0)) := (B.setCell (by simp) _).setCell (by simp) _
    have OF : OwnFl w.heap.size ((w1.setCell ⟨w.heap.size + 1, 0, none⟩ (.slice none 0 0)).setCell ⟨w.heap.size + 1, 1, none⟩ (.slice none 0 0)) none 0 0 none 0 0 [] [] := OwnFl.nil _ _
    have HK : Hid _ := K
    have HBF : Hid _ := BF
    have HOF : Hid _ := OF
    clear K BF OF
    go_wp2
    exact bodyPost_ret (results_row_tmp (v := .int .i64 4) (t := 25) (cs := [.slice none 0 0, .slice none 0 0]) rfl rfl rfl HK.out Try.underlying25 rfl (by kernel_rfl)) rfl ⟨_, rfl, IsFl.of HOF.out, HBF.out⟩
  have tY : tOk bs ws ms = true := by unfold tOk; rw [← HFl.out, decide_eq_true (by omega)]; rfl
  obtain ⟨l1, l2, l3, _⟩ := tOk_len tY
  have hbl := hB.2.1
  have hwl := hW.2.1
  have c0 := arr2 A0
  go_wp2_with fail
  clear c0
  refine (ownIt_s aB nB cB aW nW cW bs ws _ (hB.below B) (hW.below B) hn hm (by omega) (by omega)).mono ?_
  rintro e w2 ⟨g, c, g', c', rfl, O, b2⟩
  replace A0 := A0.kept b2
  replace A1 := A1.kept b2
  replace B := B.trans (b2.mono B.size)
  have z2 := b2.size
  clear b2
  have ng := (O.ob.lt g rfl)
  have ng' := (O.ow.lt g' rfl)
  obtain ⟨W, hW3⟩ : ∃ W, W = w2.alloc (.cells #[.slice (some ⟨g, 0, none⟩) nB c, .slice (some ⟨g', 0, none⟩) nW c'] 25) := ⟨_, rfl⟩
  have AQ : Arr W w2.heap.size 25 [.slice (some ⟨g, 0, none⟩) nB c, .slice (some ⟨g', 0, none⟩) nW c'] := by rw [hW3]; exact Arr.new _ _ _
  have bq : Below w2.heap.size w2 W := by rw [hW3]; exact (Below.refl _ _).alloc (Nat.le_refl _) _
  replace O := O.below bq
  replace A0 := A0.kept bq
  replace A1 := A1.kept bq
  replace B := B.trans (bq.mono B.size)
  have OW : OwnFl w.heap.size W (some ⟨g, 0, none⟩) nB c (some ⟨g', 0, none⟩) nW c' bs ws := O.base (by omega)
  have z3 := bq.size
  clear bq
  have c0 := arr2 A0
  have cQ := arr2 AQ
  have hW3' := hW.below B
  obtain ⟨b, o, rfl, hbw, hcw⟩ : ∃ b o, aW = some ⟨b, o, none⟩ ∧ b < W.heap.size ∧ ∀ j, j < nW → W.cell? ⟨b, o + j, none⟩ = some (.int .i64 (ws.getD j 0)) := by
    rcases hW3'.2.2.2.2 with h | ⟨b, o, e, h1, h2⟩
    · omega
    · exact ⟨b, o, e, h1, h2⟩
  rw [hW3] at c0 cQ
  have HC3 : Hid _ := hW3
  by_cases hi : 0 ≤ i ∧ i < 48
  case neg =>
    have hCC : C = 1 := by rw [HC.out]; unfold teC; rw [tY, if_pos rfl, if_neg hi]
    have hne : teC bs ws i ms ≠ 0 := by rw [← HC.out, hCC]; decide
    subst hCC
    clear c0 cQ
    have hi' : i < 0 ∨ 48 ≤ i := by omega
    rcases hi' with hi' | hi'
    all_goals
      go_upto_region 5 with fail
      rw [← HC3.out]
      clear hW3 HC3
      have : LB = bs := by rw [HLB.out]; unfold teB; rw [tY, if_pos rfl, if_neg (hne)]
      subst this
      have : LW = ws := by rw [HLW.out]; unfold teW; rw [tY, if_pos rfl, if_neg (hne)]
      subst this
      have dR := arr2 A1
      have fR := A1.frozen
      have dQ := arr2 AQ
      have lQ := AQ.lt
      have lR := A1.lt
      have K : Arr ((W.setCell ⟨w.heap.size + 1, 0, none⟩ (.slice (some ⟨g, 0, none⟩) nB c)).setCell ⟨w.heap.size + 1, 1, none⟩ (.slice (some ⟨g', 0, none⟩) nW c')) (w.heap.size + 1) 25 [.slice (some ⟨g, 0, none⟩) nB c, .slice (some ⟨g', 0, none⟩) nW c'] := (A1.set 0 _).set 1 _
      have BF : Below w.heap.size w ((W.setCell ⟨w.heap.size + 1, 0, none⟩ (.slice (some ⟨g, 0, none⟩) nB c)).setCell ⟨w.heap.size + 1, 1, none⟩ (.slice (some ⟨g', 0, none⟩) nW c')) := (B.setCell (by simp) _).setCell (by simp) _
      have OF : OwnFl w.heap.size ((W.setCell ⟨w.heap.size + 1, 0, none⟩ (.slice (some ⟨g, 0, none⟩) nB c)).setCell ⟨w.heap.size + 1, 1, none⟩ (.slice (some ⟨g', 0, none⟩) nW c')) (some ⟨g, 0, none⟩) nB c (some ⟨g', 0, none⟩) nW c' LB LW := (O.setO (w.heap.size + 1) 0 _ (by omega)).setO (w.heap.size + 1) 1 _ (by omega) |>.base (by omega)
      have HK : Hid _ := K
      have HBF : Hid _ := BF
      have HOF : Hid _ := OF
      clear K BF OF
      go_wp2
      exact bodyPost_ret (results_row_tmp (v := .int .i64 1) (t := 25) (cs := [.slice (some ⟨g, 0, none⟩) nB c, .slice (some ⟨g', 0, none⟩) nW c']) rfl rfl rfl HK.out Try.underlying25 rfl (by kernel_rfl)) rfl ⟨_, rfl, IsFl.of HOF.out, HBF.out⟩
  obtain ⟨S, rfl⟩ : ∃ S : Nat, i = (S : Int) := ⟨i.toNat, by omega⟩
  obtain ⟨x, ex⟩ : ∃ x, x = ws.getD S 0 := ⟨_, rfl⟩
  have hx := wr_get l3 (k := S) (by omega)
  rw [← ex] at hx
  have cx : W.cell? ⟨b, o + S, none⟩ = some (.int .i64 x) := by rw [ex]; exact hcw S (by omega)
  rw [hW3] at cx
  have hS48 : (S : Int) < 48 := by omega
  have hSn : (S : Int) < (nW : Int) := by omega
  have hCC : C = if x = 200 then 3 else 0 := by rw [HC.out]; unfold teC; rw [tY, if_pos rfl, if_pos hi]; simp [ex]
  have EX : Hid _ := ex
  clear ex hcw
  by_cases h2 : x = 200
  case pos =>
    rw [if_pos h2] at hCC
    have hne : teC bs ws S ms ≠ 0 := by rw [← HC.out, hCC]; decide
    subst hCC
    have hx2 : 200 ≤ x := by omega
    clear h2 cQ
    go_upto_region 7 with fail
    rw [← HC3.out]
    clear hW3 HC3 c0 cx
    have : LB = bs := by rw [HLB.out]; unfold teB; rw [tY, if_pos rfl, if_neg (hne)]
    subst this
    have : LW = ws := by rw [HLW.out]; unfold teW; rw [tY, if_pos rfl, if_neg (hne)]
    subst this
    have dR := arr2 A1
    have fR := A1.frozen
    have dQ := arr2 AQ
    have lQ := AQ.lt
    have lR := A1.lt
    have K : Arr ((W.setCell ⟨w.heap.size + 1, 0, none⟩ (.slice (some ⟨g, 0, none⟩) nB c)).setCell ⟨w.heap.size + 1, 1, none⟩ (.slice (some ⟨g', 0, none⟩) nW c')) (w.heap.size + 1) 25 [.slice (some ⟨g, 0, none⟩) nB c, .slice (some ⟨g', 0, none⟩) nW c'] := (A1.set 0 _).set 1 _
    have BF : Below w.heap.size w ((W.setCell ⟨w.heap.size + 1, 0, none⟩ (.slice (some ⟨g, 0, none⟩) nB c)).setCell ⟨w.heap.size + 1, 1, none⟩ (.slice (some ⟨g', 0, none⟩) nW c')) := (B.setCell (by simp) _).setCell (by simp) _
    have OF : OwnFl w.heap.size ((W.setCell ⟨w.heap.size + 1, 0, none⟩ (.slice (some ⟨g, 0, none⟩) nB c)).setCell ⟨w.heap.size + 1, 1, none⟩ (.slice (some ⟨g', 0, none⟩) nW c')) (some ⟨g, 0, none⟩) nB c (some ⟨g', 0, none⟩) nW c' LB LW := (O.setO (w.heap.size + 1) 0 _ (by omega)).setO (w.heap.size + 1) 1 _ (by omega) |>.base (by omega)
    have HK : Hid _ := K
    have HBF : Hid _ := BF
    have HOF : Hid _ := OF
    clear K BF OF
    go_wp2
    exact bodyPost_ret (results_row_tmp (v := .int .i64 3) (t := 25) (cs := [.slice (some ⟨g, 0, none⟩) nB c, .slice (some ⟨g', 0, none⟩) nW c']) rfl rfl rfl HK.out Try.underlying25 rfl (by kernel_rfl)) rfl ⟨_, rfl, IsFl.of HOF.out, HBF.out⟩
  rw [if_neg h2] at hCC
  have hz : teC bs ws S ms = 0 := by rw [← HC.out, hCC]
  have hx2 : ¬ 200 ≤ x := by omega
  have hLB : LB = tn (ef ms) bs (S * 64) 64 := by rw [HLB.out]; unfold teB; rw [tY, if_pos rfl, if_pos hz]; simp
  subst hLB
  have hLW : LW = ws.set S (x + 1) := by rw [HLW.out]; unfold teW; rw [tY, if_pos rfl, if_pos hz]; simp [EX.out]
  subst hLW
  subst hCC
  have hm3 := hmm.below B
  clear h2 hz cQ
  go_wp2_with fail
  rw [← HC3.out]
  clear hW3 HC3 c0 cx
  refine (specEraseB w1.heap.size w2.heap.size g nB c g' nW c' bs ws S am nm cm ms _ AQ (by omega) (by omega) (fun e => O.ap g rfl (by rw [e]; rfl)) O.ob O.ow hm3 (hmm.off (by omega)) (hmm.off (by omega)) (by omega) hn (by omega) hmn (by rw [← EX.out]; omega) (by rw [← EX.out]; omega)).mono ?_
  rintro e w5 ⟨⟨v, rfl⟩, o5, p5, g5⟩
  rw [← EX.out] at p5
  have O5 : OwnFl w1.heap.size w5 (some ⟨g, 0, none⟩) nB c (some ⟨g', 0, none⟩) nW c' (tn (ef ms) bs (S * 64) 64) (ws.set S (x + 1)) := ⟨o5, p5, O.ap⟩
  have B5 : Below w.heap.size w w5 := g5.below B (fun k hk => by cases hk; omega) (fun k hk => by cases hk; omega)
  have A15 := g5.arr A1 (by intro h; cases h; omega) (by intro h; cases h; omega)
  have AQ5 := g5.arr AQ (by intro h; cases h; omega) (by intro h; cases h; omega)
  clear o5 p5 g5 O OW A1 AQ A0 B
  have dR := arr2 A15
  have fR := A15.frozen
  have dQ := arr2 AQ5
  have lQ := AQ5.lt
  have lR := A15.lt
  have K : Arr ((w5.setCell ⟨w.heap.size + 1, 0, none⟩ (.slice (some ⟨g, 0, none⟩) nB c)).setCell ⟨w.heap.size + 1, 1, none⟩ (.slice (some ⟨g', 0, none⟩) nW c')) (w.heap.size + 1) 25 [.slice (some ⟨g, 0, none⟩) nB c, .slice (some ⟨g', 0, none⟩) nW c'] := (A15.set 0 _).set 1 _
  have BF : Below w.heap.size w ((w5.setCell ⟨w.heap.size + 1, 0, none⟩ (.slice (some ⟨g, 0, none⟩) nB c)).setCell ⟨w.heap.size + 1, 1, none⟩ (.slice (some ⟨g', 0, none⟩) nW c')) := (B5.setCell (by simp) _).setCell (by simp) _
  have OF : OwnFl w.heap.size ((w5.setCell ⟨w.heap.size + 1, 0, none⟩ (.slice (some ⟨g, 0, none⟩) nB c)).setCell ⟨w.heap.size + 1, 1, none⟩ (.slice (some ⟨g', 0, none⟩) nW c')) (some ⟨g, 0, none⟩) nB c (some ⟨g', 0, none⟩) nW c' (tn (ef ms) bs (S * 64) 64) (ws.set S (x + 1)) := (O5.setO (w.heap.size + 1) 0 _ (by omega)).setO (w.heap.size + 1) 1 _ (by omega) |>.base (by omega)
  have HK : Hid _ := K
  have HBF : Hid _ := BF
  have HOF : Hid _ := OF
  clear K BF OF
  go_wp2
  exact bodyPost_ret (results_row_tmp (v := .int .i64 0) (t := 25) (cs := [.slice (some ⟨g, 0, none⟩) nB c, .slice (some ⟨g', 0, none⟩) nW c']) rfl rfl rfl HK.out Try.underlying25 rfl (by kernel_rfl)) rfl ⟨_, rfl, IsFl.of HOF.out, HBF.out⟩

theorem program_s (aB : Option Addr) (nB cB : Nat) (aW : Option Addr) (nW cW : Nat) (bs ws : List Int) (i : Int) (ab : Option Addr) (nb cb : Nat) (xs : List Int) (w : World) (hB : Bs w aB nB cB bs) (hW : Is w aW nW cW ws) (hn : nB ≤ 2097152) (hm : nW ≤ 2097152) (hl : -9223372036854775808 ≤ i) (hu : i ≤ 9223372036854775807) (hb : Bs w ab nb cb xs) (hbn : nb ≤ 2097152) :
    Calls Try.prog 44 #[flV aB nB cB aW nW cW, .int .i64 i, .slice ab nb cb] w fun e w' => ∃ v, e = .returned (.tuple #[v, .int .i64 (tpC bs ws i xs [255])]) ∧ IsFl w w' v (tpB bs ws i xs [255]) (tpW bs ws [255]) ∧ Below w.heap.size w w' := by
  obtain ⟨V, hV⟩ : ∃ V, V = (w.alloc (.cells #[.slice aB nB cB, .slice aW nW cW] 25)).alloc (.cells #[.slice none 0 0, .slice none 0 0] 25) := ⟨_, rfl⟩
  have B : Below w.heap.size w V := by rw [hV]; exact ((Below.refl _ _).alloc (Nat.le_refl _) _).alloc (by simp) _
  have A0 : Arr V w.heap.size 25 [.slice aB nB cB, .slice aW nW cW] := by rw [hV]; exact (Arr.new w _ _).alloc _
  have A1 : Arr V (w.heap.size + 1) 25 [.slice none 0 0, .slice none 0 0] := by
    rw [hV]
    have := Arr.new (w.alloc (.cells #[.slice aB nB cB, .slice aW nW cW] 25)) [.slice none 0 0, .slice none 0 0] 25
    simpa using this
  have z : w.heap.size + 2 ≤ V.heap.size := by rw [hV]; simp
  have h255 : Bs (V.alloc (.cells #[.int .u8 255] 5)) (some ⟨V.heap.size, 0, none⟩) 1 1 [255] := Bs.one V 255 (by omega) (by omega)
  have bm : Below V.heap.size V (V.alloc (.cells #[.int .u8 255] 5)) := (Below.refl _ _).alloc (Nat.le_refl _) _
  have zm : V.heap.size < (V.alloc (.cells #[.int .u8 255] 5)).heap.size := by simp
  obtain ⟨M, hM⟩ : ∃ M, M = V.alloc (.cells #[.int .u8 255] 5) := ⟨_, rfl⟩
  rw [← hM] at h255 bm zm
  have A1M := A1.kept bm
  have BM := B.trans (bm.mono B.size)
  have e1 : V.heap.size = w.heap.size + 1 + 1 := by rw [hV]; simp
  rw [e1] at h255
  obtain ⟨C, hC⟩ : ∃ C, C = tpC bs ws i xs [255] := ⟨_, rfl⟩
  obtain ⟨LB, hLB⟩ : ∃ L, L = tpB bs ws i xs [255] := ⟨_, rfl⟩
  obtain ⟨LW, hLW⟩ : ∃ L, L = tpW bs ws [255] := ⟨_, rfl⟩
  have HT : Calls Try.prog 47 #[flV aB nB cB aW nW cW, .int .i64 i, .slice ab nb cb, .slice (some ⟨w.heap.size + 1 + 1, 0, none⟩) 1 1] M fun e w' => ∃ v, e = .returned (.tuple #[v, .int .i64 C]) ∧ IsFl M w' v LB LW ∧ Below M.heap.size M w' := by
    rw [hC, hLB, hLW]
    exact tornProgram_s aB nB cB aW nW cW bs ws i ab nb cb xs (some ⟨w.heap.size + 1 + 1, 0, none⟩) 1 1 [255] M (hB.below BM) (hW.below BM) hn hm hl hu (hb.below BM) hbn h255 (by omega)
  rw [← hC, ← hLB, ← hLW]
  clear bm hC hLB hLW
  have c0 := arr2 A0
  rw [hV] at c0 hM
  have z9 : w.heap.size + 2 ≤ M.heap.size := by omega
  clear e1 zm z h255 A0 A1 B hV
  go_enter Try.func44, Try.ntmps44
  go_wp2_with fail
  rw [← hM]
  clear hM c0
  refine HT.mono ?_
  rintro e w5 ⟨v, rfl, hv, b5⟩
  obtain ⟨a, c, a', c', rfl, O⟩ := hv
  have B5 := BM.trans (b5.mono BM.size)
  have A15 := A1M.kept b5
  have o1 : In (.slice a LB.length c) M.heap.size w5.heap.size := In.of O.ob
  have o2 : In (.slice a' LW.length c') M.heap.size w5.heap.size := In.of O.ow
  clear HT b5 A1M BM
  have dR := arr2 A15
  have fR := A15.frozen
  have lR := A15.lt
  have K : Arr ((w5.setCell ⟨w.heap.size + 1, 0, none⟩ (.slice a LB.length c)).setCell ⟨w.heap.size + 1, 1, none⟩ (.slice a' LW.length c')) (w.heap.size + 1) 25 [.slice a LB.length c, .slice a' LW.length c'] := (A15.set 0 _).set 1 _
  have BF : Below w.heap.size w ((w5.setCell ⟨w.heap.size + 1, 0, none⟩ (.slice a LB.length c)).setCell ⟨w.heap.size + 1, 1, none⟩ (.slice a' LW.length c')) := (B5.setCell (by simp) _).setCell (by simp) _
  have OF : OwnFl w.heap.size ((w5.setCell ⟨w.heap.size + 1, 0, none⟩ (.slice a LB.length c)).setCell ⟨w.heap.size + 1, 1, none⟩ (.slice a' LW.length c')) a LB.length c a' LW.length c' LB LW := ⟨own_otherS (own_otherS (own_base O.ob (by omega)) _ _ (o1.ne (by simp; omega))) _ _ (o1.ne (by simp; omega)), own_otherS (own_otherS (own_base O.ow (by omega)) _ _ (o2.ne (by simp; omega))) _ _ (o2.ne (by simp; omega)), O.ap⟩
  have HK : Hid _ := K
  have HBF : Hid _ := BF
  have HOF : Hid _ := OF
  clear K BF OF
  go_wp2
  exact bodyPost_ret (results_row_tmp (v := .int .i64 C) (t := 25) (cs := [.slice a LB.length c, .slice a' LW.length c']) rfl rfl rfl HK.out Try.underlying25 rfl (by kernel_rfl)) rfl ⟨_, rfl, IsFl.of HOF.out, HBF.out⟩

theorem erase_s (aB : Option Addr) (nB cB : Nat) (aW : Option Addr) (nW cW : Nat) (bs ws : List Int) (i : Int)  (w : World) (hB : Bs w aB nB cB bs) (hW : Is w aW nW cW ws) (hn : nB ≤ 2097152) (hm : nW ≤ 2097152) (hl : -9223372036854775808 ≤ i) (hu : i ≤ 9223372036854775807)  :
    Calls Try.prog 46 #[flV aB nB cB aW nW cW, .int .i64 i] w fun e w' => ∃ v, e = .returned (.tuple #[v, .int .i64 (teC bs ws i [255])]) ∧ IsFl w w' v (teB bs ws i [255]) (teW bs ws i [255]) ∧ Below w.heap.size w w' := by
  obtain ⟨V, hV⟩ : ∃ V, V = (w.alloc (.cells #[.slice aB nB cB, .slice aW nW cW] 25)).alloc (.cells #[.slice none 0 0, .slice none 0 0] 25) := ⟨_, rfl⟩
  have B : Below w.heap.size w V := by rw [hV]; exact ((Below.refl _ _).alloc (Nat.le_refl _) _).alloc (by simp) _
  have A0 : Arr V w.heap.size 25 [.slice aB nB cB, .slice aW nW cW] := by rw [hV]; exact (Arr.new w _ _).alloc _
  have A1 : Arr V (w.heap.size + 1) 25 [.slice none 0 0, .slice none 0 0] := by
    rw [hV]
    have := Arr.new (w.alloc (.cells #[.slice aB nB cB, .slice aW nW cW] 25)) [.slice none 0 0, .slice none 0 0] 25
    simpa using this
  have z : w.heap.size + 2 ≤ V.heap.size := by rw [hV]; simp
  have h255 : Bs (V.alloc (.cells #[.int .u8 255] 5)) (some ⟨V.heap.size, 0, none⟩) 1 1 [255] := Bs.one V 255 (by omega) (by omega)
  have bm : Below V.heap.size V (V.alloc (.cells #[.int .u8 255] 5)) := (Below.refl _ _).alloc (Nat.le_refl _) _
  have zm : V.heap.size < (V.alloc (.cells #[.int .u8 255] 5)).heap.size := by simp
  obtain ⟨M, hM⟩ : ∃ M, M = V.alloc (.cells #[.int .u8 255] 5) := ⟨_, rfl⟩
  rw [← hM] at h255 bm zm
  have A1M := A1.kept bm
  have BM := B.trans (bm.mono B.size)
  have e1 : V.heap.size = w.heap.size + 1 + 1 := by rw [hV]; simp
  rw [e1] at h255
  obtain ⟨C, hC⟩ : ∃ C, C = teC bs ws i [255] := ⟨_, rfl⟩
  obtain ⟨LB, hLB⟩ : ∃ L, L = teB bs ws i [255] := ⟨_, rfl⟩
  obtain ⟨LW, hLW⟩ : ∃ L, L = teW bs ws i [255] := ⟨_, rfl⟩
  have HT : Calls Try.prog 48 #[flV aB nB cB aW nW cW, .int .i64 i, .slice (some ⟨w.heap.size + 1 + 1, 0, none⟩) 1 1] M fun e w' => ∃ v, e = .returned (.tuple #[v, .int .i64 C]) ∧ IsFl M w' v LB LW ∧ Below M.heap.size M w' := by
    rw [hC, hLB, hLW]
    exact tornErase_s aB nB cB aW nW cW bs ws i  (some ⟨w.heap.size + 1 + 1, 0, none⟩) 1 1 [255] M (hB.below BM) (hW.below BM) hn hm hl hu  h255 (by omega)
  rw [← hC, ← hLB, ← hLW]
  clear bm hC hLB hLW
  have c0 := arr2 A0
  rw [hV] at c0 hM
  have z9 : w.heap.size + 2 ≤ M.heap.size := by omega
  clear e1 zm z h255 A0 A1 B hV
  go_enter Try.func46, Try.ntmps46
  go_wp2_with fail
  rw [← hM]
  clear hM c0
  refine HT.mono ?_
  rintro e w5 ⟨v, rfl, hv, b5⟩
  obtain ⟨a, c, a', c', rfl, O⟩ := hv
  have B5 := BM.trans (b5.mono BM.size)
  have A15 := A1M.kept b5
  have o1 : In (.slice a LB.length c) M.heap.size w5.heap.size := In.of O.ob
  have o2 : In (.slice a' LW.length c') M.heap.size w5.heap.size := In.of O.ow
  clear HT b5 A1M BM
  have dR := arr2 A15
  have fR := A15.frozen
  have lR := A15.lt
  have K : Arr ((w5.setCell ⟨w.heap.size + 1, 0, none⟩ (.slice a LB.length c)).setCell ⟨w.heap.size + 1, 1, none⟩ (.slice a' LW.length c')) (w.heap.size + 1) 25 [.slice a LB.length c, .slice a' LW.length c'] := (A15.set 0 _).set 1 _
  have BF : Below w.heap.size w ((w5.setCell ⟨w.heap.size + 1, 0, none⟩ (.slice a LB.length c)).setCell ⟨w.heap.size + 1, 1, none⟩ (.slice a' LW.length c')) := (B5.setCell (by simp) _).setCell (by simp) _
  have OF : OwnFl w.heap.size ((w5.setCell ⟨w.heap.size + 1, 0, none⟩ (.slice a LB.length c)).setCell ⟨w.heap.size + 1, 1, none⟩ (.slice a' LW.length c')) a LB.length c a' LW.length c' LB LW := ⟨own_otherS (own_otherS (own_base O.ob (by omega)) _ _ (o1.ne (by simp; omega))) _ _ (o1.ne (by simp; omega)), own_otherS (own_otherS (own_base O.ow (by omega)) _ _ (o2.ne (by simp; omega))) _ _ (o2.ne (by simp; omega)), O.ap⟩
  have HK : Hid _ := K
  have HBF : Hid _ := BF
  have HOF : Hid _ := OF
  clear K BF OF
  go_wp2
  exact bodyPost_ret (results_row_tmp (v := .int .i64 C) (t := 25) (cs := [.slice a LB.length c, .slice a' LW.length c']) rfl rfl rfl HK.out Try.underlying25 rfl (by kernel_rfl)) rfl ⟨_, rfl, IsFl.of HOF.out, HBF.out⟩
end Go.Proofs.Ytcnlpdpbkkjkoaa
