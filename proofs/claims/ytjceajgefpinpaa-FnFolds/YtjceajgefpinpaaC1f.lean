/-
  What is proved here: what the program's Summary answers.
-/
import Derived.Test.YtjceajgefpinpaaC1e
import Derived.Test.YtjceajgefpinpaaC0y
namespace Go.Proofs.Ytjceajgefpinpaa
set_option maxRecDepth 100000
set_option maxHeartbeats 4000000
open Go.RowKit
set_option linter.unusedVariables false

theorem implSummary (b n f : Int) (t : Bool) (i o : Int) (w : World) :
    Calls Try.prog 19 #[btV b n f t i o] w fun e w' => ∃ v, e = .returned v ∧ w'.ownsRow w.heap.size 29 4 v (smL b n f t i o).length (FL (smL b n f t i o)) ∧ Below w.heap.size w w' := by
  obtain ⟨L, hL⟩ : ∃ L, smL b n f t i o = L := ⟨_, rfl⟩
  rw [hL]
  unfold smL at hL
  obtain ⟨W, hW⟩ : ∃ W, W = w.alloc (.cells #[.int .i64 b, .int .i64 n, .int .i64 f, .bool t, .int .i64 i, .int .i64 o] 35) := ⟨_, rfl⟩
  have B : Below w.heap.size w W := by rw [hW]; exact (Below.refl _ _).alloc (Nat.le_refl _) _
  have A : Arr W w.heap.size 35 [.int .i64 b, .int .i64 n, .int .i64 f, .bool t, .int .i64 i, .int .i64 o] := by rw [hW]; exact Arr.new _ _ _
  go_enter Try.func19, Try.ntmps19
  go_upto_region 1 with fail
  rw [← hW]
  clear hW
  have c0 := A.cell 0
  have c1 := A.cell 1
  have c2 := A.cell 2
  have c3 := A.cell 3
  have c4 := A.cell 4
  have c5 := A.cell 5
  simp at c0 c1 c2 c3 c4 c5
  go_wp2_with fail
  refine (implBootOk b n f t i o _).mono ?_
  rintro e w1 ⟨rfl, hb1⟩
  replace A := A.kept hb1
  replace B := B.trans (hb1.mono B.size)
  clear hb1 c0 c1 c2 c3 c4 c5
  by_cases hok : btOk b n f t i o
  case neg =>
    rw [decide_eq_false hok]
    rw [if_neg hok] at hL
    have HL : Hid _ := hL
    clear hL hok
    go_wp2
    go_ret
    rw [← HL.out]
    exact ⟨_, rfl, World.ownsRow_nil _ _ _ _, B⟩
  rw [decide_eq_true hok]
  rw [if_pos hok] at hL
  have hb := hok.1
  have hi : 0 ≤ i ∧ i ≤ 3 := by have := hok.2.2.2; revert this; cases t <;> simp <;> omega
  unfold smR at hL
  clear hok
  generalize hW1 : w1 = W1 at A B ⊢
  clear hW1
  have c0 := A.cell 0
  have c1 := A.cell 1
  have c2 := A.cell 2
  have c3 := A.cell 3
  have c4 := A.cell 4
  have c5 := A.cell 5
  simp at c0 c1 c2 c3 c4 c5
  cases t
  · rw [if_pos rfl] at hL
    have HL : Hid _ := hL
    clear hL
    have HO : Hid _ := World.ownsRow_lit (base := w.heap.size) (e := 29) (size := 4) W1 (FL [⟨2, b, n, f⟩]).toArray 1 B.size (by unfold maxLen; omega) rfl
    have HB : Hid _ := B.alloc B.size (.cells (FL [⟨2, b, n, f⟩]).toArray 29)
    go_wp2
    go_ret
    rw [← HL.out]
    exact ⟨_, rfl, HO.out, HB.out⟩
  · rw [if_neg (by simp)] at hL
    have HL : Hid _ := hL
    clear hL
    go_wp2
    try simp only [Act.put]
    refine tame [kc 18 (.pointer (some ⟨w.heap.size, 0, none⟩)), kc 19 (.int .i64 b), kc 20 (.int .i64 (1 - b)), kc 21 (.pointer (some ⟨w.heap.size, 5, none⟩)), kc 22 (.int .i64 o), kc 23 (.pointer (some ⟨w.heap.size, 2, none⟩)), kc 24 (.int .i64 f), kc 25 (.agg #[.int .i64 2, .int .i64 (1 - b), .int .i64 o, .int .i64 f]), kc 26 (.pointer (some ⟨w.heap.size, 0, none⟩)), kc 27 (.int .i64 b), kc 28 (.pointer (some ⟨w.heap.size, 1, none⟩)), kc 29 (.int .i64 n), kc 30 (.agg #[.int .i64 3, .int .i64 b, .int .i64 n, .int .i64 0])] 13 (by kernel_rfl) (by kernel_rfl) (by kernel_rfl) (by repeat' first | exact trivial | apply kc_keeps | constructor) 2 (by kernel_rfl) (fun vv ll hh yW bW => ?_) (fun vv ll hh yW bW F ivh aph => ?_)
    · have x0 := (bW.cell (p := ⟨w.heap.size, 0, none⟩) A.lt).trans c0
      have x1 := (bW.cell (p := ⟨w.heap.size, 1, none⟩) A.lt).trans c1
      have x2 := (bW.cell (p := ⟨w.heap.size, 2, none⟩) A.lt).trans c2
      have x3 := (bW.cell (p := ⟨w.heap.size, 3, none⟩) A.lt).trans c3
      have x4 := (bW.cell (p := ⟨w.heap.size, 4, none⟩) A.lt).trans c4
      have x5 := (bW.cell (p := ⟨w.heap.size, 5, none⟩) A.lt).trans c5
      refine ⟨tp (by kernel_rfl), tp ?_, tc ((implOther b _ hb).mono (by rintro e w9 ⟨rfl, rfl⟩; exact ⟨rfl, Below.refl _ _⟩)) (by kernel_rfl), tp (by kernel_rfl), tp ?_, tp (by kernel_rfl), tp ?_, tp (by kernel_rfl), tp (by kernel_rfl), tp ?_, tp (by kernel_rfl), tp ?_, tp (by kernel_rfl), trivial⟩
      all_goals
        simp only [fillK, putT, List.setIfInBounds_toArray, List.set_cons_zero, List.set_cons_succ]
        unfold execOp
        try go_simp
    clear F ivh aph
    obtain ⟨y, hy⟩ : ∃ z, z = yW := ⟨_, rfl⟩
    rw [← hy] at bW ⊢
    clear hy
    replace A := A.kept bW
    replace B := B.trans (bW.mono B.size)
    clear bW c0 c1 c2 c3 c4 c5
    refine st_val (i := 13) (o := { dst := some 31, op := Op.buildSlice 24 2 #[(0, Operand.tmp 25), (1, Operand.tmp 30)], type := 24, pos := "l10_log.go:158", after := #[{ on := 7, ground := Ground.data }, { on := 12, ground := Ground.data }], guard := none }) (by kernel_rfl) rfl rfl (v := .slice (some ⟨y.heap.size, 0, none⟩) 2 2) (w' := y.alloc (.cells #[.int .i64 2, .int .i64 (1 - b), .int .i64 o, .int .i64 f, .int .i64 3, .int .i64 b, .int .i64 n, .int .i64 0] 29)) ?_ ?_
    · simp only [fillK, putT, List.setIfInBounds_toArray, List.set_cons_zero, List.set_cons_succ]
      unfold execOp
      go_simp
    refine st_set (i := 14) (by kernel_rfl) rfl rfl (v := .slice (some ⟨y.heap.size, 0, none⟩) 2 2) (by kernel_rfl) ?_
    refine wpAny_done (by kernel_rfl) ?_ _
    simp only [fillK, putT, List.setIfInBounds_toArray, List.set_cons_zero, List.set_cons_succ]
    try simp only [Act.put]
    try simp only [List.setIfInBounds_toArray, List.set_cons_zero, List.set_cons_succ]
    obtain ⟨R0, hR0⟩ : ∃ R0 : List Rc, R0 = [⟨2, 1 - b, o, f⟩, ⟨3, b, n, 0⟩] := ⟨_, rfl⟩
    have zy : w.heap.size < y.heap.size := A.lt
    have O1 : (y.alloc (.cells #[.int .i64 2, .int .i64 (1 - b), .int .i64 o, .int .i64 f, .int .i64 3, .int .i64 b, .int .i64 n, .int .i64 0] 29)).ownsRow y.heap.size 29 4 (.slice (some ⟨y.heap.size, 0, none⟩) 2 2) 2 (FL R0) := by
      rw [hR0]; exact World.ownsRow_lit y _ 2 (Nat.le_refl _) (by unfold maxLen; omega) rfl
    have HR0 : Hid (R0.length = 2) := by unfold Hid; rw [hR0]; rfl
    rw [← hR0] at HL
    clear hR0
    have A1 := A.alloc (.cells #[.int .i64 2, .int .i64 (1 - b), .int .i64 o, .int .i64 f, .int .i64 3, .int .i64 b, .int .i64 n, .int .i64 0] 29)
    have B1 := B.alloc B.size (.cells #[.int .i64 2, .int .i64 (1 - b), .int .i64 o, .int .i64 f, .int .i64 3, .int .i64 b, .int .i64 n, .int .i64 0] 29)
    have z1 : y.heap.size + 1 = (y.alloc (.cells #[.int .i64 2, .int .i64 (1 - b), .int .i64 o, .int .i64 f, .int .i64 3, .int .i64 b, .int .i64 n, .int .i64 0] 29)).heap.size := by simp
    generalize y.alloc (.cells #[.int .i64 2, .int .i64 (1 - b), .int .i64 o, .int .i64 f, .int .i64 3, .int .i64 b, .int .i64 n, .int .i64 0] 29) = Y at O1 A1 B1 z1 ⊢
    generalize y.heap.size = g at O1 z1 zy ⊢
    clear A B
    obtain ⟨I, rfl⟩ : ∃ I : Nat, i = (I : Int) := ⟨i.toNat, by omega⟩
    obtain ⟨V, hV⟩ : ∃ V, V = Y.alloc (.cells #[.int .i64 4, .int .i64 0, .int .i64 0, .int .i64 0] 29) := ⟨_, rfl⟩
    have bV : Below Y.heap.size Y V := by rw [hV]; exact (Below.refl _ _).alloc (Nat.le_refl _) _
    have RV : Rs V (some ⟨Y.heap.size, 0, none⟩) 1 1 [rTry] := by rw [hV]; exact Rs.one Y rTry
    have O2 := own_below O1 bV
    have A2 := A1.kept bV
    have B2 := B1.trans (bV.mono B1.size)
    have z2 := bV.size
    have c4 : (Y.alloc (.cells #[.int .i64 4, .int .i64 0, .int .i64 0, .int .i64 0] 29)).cell? ⟨w.heap.size, 4, none⟩ = some (.int .i64 I) := (A1.alloc _).cell 4
    clear O1 A1 B1 bV
    go_wp2_with fail
    rw [← hV]
    clear hV c4
    refine (repRec Y.heap.size 0 1 I V RV (by omega)).mono ?_
    rintro e w4 ⟨v4, rfl, O4, b4⟩
    replace O2 := own_below O2 b4
    have B4 := B2.trans (b4.mono B2.size)
    obtain ⟨a4, k4, rfl, _, R4⟩ := Rs.own O4
    have z4 := b4.size
    clear A2 B2 b4 RV
    have HO : Hid _ := O2
    have HR : Hid _ := R4
    clear O2 R4
    go_wp2_with (at_builtin; refine wpl_append_rs rfl _ _ rfl g _ 2 R0 rfl a4 I k4 (List.replicate I rTry) rfl HO.out HR.out ?_ ?_ ?_)
    · omega
    · omega
    intro v5 w5 O5 g5
    have B5 : Below w.heap.size w w5 := B4.grown g5 (by omega) (fun k hk => by have := (World.ownsRow.lt HO.out k hk).1; omega)
    clear HO HR g5 B4 O4
    go_wp2
    go_ret
    refine ⟨_, rfl, ?_, B5⟩
    rw [← HL.out]
    have e : (R0 ++ List.replicate (Int.toNat (I : Int)) rTry).length = 2 + I := by simp [HR0.out]
    rw [e]
    exact own_base O5 (by omega)
end Go.Proofs.Ytjceajgefpinpaa
