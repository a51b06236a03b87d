/-
  What is proved here: what a draw of a bent record (the specification's l10bentRec) answers.
-/
import Derived.Test.YtjceajgefpinpaaZb0
import Derived.Deep.CutRange
import Derived.Deep.RegionHeld3
import Derived.BigRegion
namespace Go.Proofs.Ytjceajgefpinpaa
open Go.RowKit
set_option maxRecDepth 100000
set_option maxHeartbeats 4000000
set_option linter.unusedVariables false

theorem curBentRec (p : Nat) (a : Option Addr) (n c : Nat) (xs : List Int) (w : World) (hcur : Cur w p a n c) (hcode : Coded w p a n c xs) :
    Calls Try.prog 54 #[.pointer (some ⟨p, 0, none⟩)] w fun e w' => ∃ r : Rc, e = .returned (rcV r.k r.b r.n r.f) ∧ Rcb r ∧ Cur w' p a n c ∧ w.grownBy w' (some p) := by
  have hp0 := cur_lt hcur
  obtain ⟨V, hV⟩ : ∃ V, V = w.alloc (.cells #[.int .i64 0, .int .i64 0, .int .i64 0, .int .i64 0] 29) := ⟨_, rfl⟩
  have AQ : Arr V w.heap.size 29 [.int .i64 0, .int .i64 0, .int .i64 0, .int .i64 0] := by rw [hV]; exact Arr.new _ _ _
  have D : Dz0 w V p a n c := by rw [hV]; exact (show Dz0 w w p a n c from ⟨hcur, World.grownBy.refl _ _⟩).alloc _
  go_enter Try.func54, Try.ntmps54
  go_upto_region 1 with fail
  rw [← hV]
  clear hV hcur
  go_wp2_with fail
  refine (curRec p a n c xs _ D.cu (hcode.grown D.gr)).mono ?_
  rintro e w1 ⟨⟨rk, rb, rn, rf⟩, rfl, hr, _, hc, hg⟩
  replace D := D.draw hc hg
  replace AQ := arr_p AQ hg (by omega)
  dsimp only [Rcb] at hr
  dsimp only
  obtain ⟨X, hX⟩ : ∃ X, X = w1.alloc (.cells #[.int .i64 rk, .int .i64 rb, .int .i64 rn, .int .i64 rf] 29) := ⟨_, rfl⟩
  have AL : Arr X w1.heap.size 29 [.int .i64 rk, .int .i64 rb, .int .i64 rn, .int .i64 rf] := by rw [hX]; exact Arr.new _ _ _
  replace D : Dz0 w X p a n c := by rw [hX]; exact D.alloc _
  have lQ1 := AQ.lt
  replace AQ : Arr X w.heap.size 29 [.int .i64 0, .int .i64 0, .int .i64 0, .int .i64 0] := by rw [hX]; exact AQ.alloc _
  obtain ⟨L, hL⟩ : ∃ L, L = w1.heap.size := ⟨_, rfl⟩
  have hLq : w.heap.size < L := by rw [hL]; exact lQ1
  go_upto_region 2 with fail
  rw [← hX]
  rw [← hL] at AL ⊢
  clear hX hL hc hg lQ1
  go_wp2_with fail
  refine (curOnce p a n c xs _ _ D.cu (hcode.grown D.gr) (by omega)).mono ?_
  rintro e w_q8 ⟨q8, rfl, hc, hg⟩
  replace D := D.draw hc hg
  replace AQ := arr_p AQ hg (by omega)
  replace AL := arr_p AL hg (by omega)
  clear hc hg
  cases q8
  case false =>
    go_wp2_with fail
    refine (curOnce p a n c xs _ _ D.cu (hcode.grown D.gr) (by omega)).mono ?_
    rintro e w_q6 ⟨q6, rfl, hc, hg⟩
    replace D := D.draw hc hg
    replace AQ := arr_p AQ hg (by omega)
    replace AL := arr_p AL hg (by omega)
    clear hc hg
    cases q6
    case false =>
      have l0 := AL.cell 0
      have l1 := AL.cell 1
      have l2 := AL.cell 2
      have l3 := AL.cell 3
      simp at l0 l1 l2 l3
      have fQ := AQ.frozen
      have lQ := AQ.lt
      have q0 := AQ.cell 0
      have q1 := AQ.cell 1
      have q2 := AQ.cell 2
      have q3 := AQ.cell 3
      simp at q0 q1 q2 q3
      have HD : Hid _ := (((D.set (Nat.le_refl w.heap.size) hp0 0 (.int .i64 (rk))).set (Nat.le_refl w.heap.size) hp0 1 (.int .i64 (rb))).set (Nat.le_refl w.heap.size) hp0 2 (.int .i64 (rn))).set (Nat.le_refl w.heap.size) hp0 3 (.int .i64 (rf))
      have HQ : Hid _ := set4z AQ (.int .i64 (rk)) (.int .i64 (rb)) (.int .i64 (rn)) (.int .i64 (rf))
      clear D AQ AL
      go_wp2
      exact bodyPost_ret (results_cell_row rfl _ _ w.heap.size 29 _ (0, 0) _ rfl HQ.out Try.underlying29 rfl (by kernel_rfl)) rfl ⟨⟨rk, rb, rn, rf⟩, rfl, ⟨by dsimp only; omega, by dsimp only; omega, by dsimp only; omega, by dsimp only; omega⟩, HD.out.cu, HD.out.gr⟩
    case true =>
      go_wp2_with fail
      refine (curBelow p a n c xs _ _ D.cu (hcode.grown D.gr) (by omega)).mono ?_
      rintro e w_y ⟨y, rfl, h0_y, h1_y, _, hc, hg⟩
      replace h1_y := h1_y (by omega)
      replace D := D.draw hc hg
      replace AQ := arr_p AQ hg (by omega)
      replace AL := arr_p AL hg (by omega)
      clear hc hg
      have hy : y = 0 ∨ y = 1 ∨ y = 2 ∨ y = 3 := by omega
      rcases hy with rfl | rfl | rfl | rfl
      · go_wp2_with fail
        refine (curBelow p a n c xs _ _ D.cu (hcode.grown D.gr) (by omega)).mono ?_
        rintro e w_z ⟨z, rfl, h0_z, h1_z, _, hc, hg⟩
        replace h1_z := h1_z (by omega)
        replace D := D.draw hc hg
        replace AQ := arr_p AQ hg (by omega)
        replace AL := arr_p AL hg (by omega)
        clear hc hg
        have l0 := AL.cell 0
        have l1 := AL.cell 1
        have l2 := AL.cell 2
        have l3 := AL.cell 3
        simp at l0 l1 l2 l3
        have fL := AL.frozen
        have lL := AL.lt
        go_upto_region 13 with fail
        obtain ⟨Y, hY⟩ : ∃ Y, Y = w_z.setCell ⟨L, 0, none⟩ (.int .i64 (z - 1)) := ⟨_, rfl⟩
        rw [← hY]
        replace D : Dz0 w Y p a n c := by rw [hY]; exact D.set (by omega) hp0 0 _
        replace AQ : Arr Y w.heap.size 29 [.int .i64 0, .int .i64 0, .int .i64 0, .int .i64 0] := by rw [hY]; exact AQ.other ⟨L, 0, none⟩ _ (by show w.heap.size ≠ L; omega)
        replace AL : Arr Y L 29 [.int .i64 (z - 1), .int .i64 (rb), .int .i64 (rn), .int .i64 (rf)] := by rw [hY]; exact AL.set 0 _
        clear hY l0 l1 l2 l3 fL lL
        have l0 := AL.cell 0
        have l1 := AL.cell 1
        have l2 := AL.cell 2
        have l3 := AL.cell 3
        simp at l0 l1 l2 l3
        have fQ := AQ.frozen
        have lQ := AQ.lt
        have q0 := AQ.cell 0
        have q1 := AQ.cell 1
        have q2 := AQ.cell 2
        have q3 := AQ.cell 3
        simp at q0 q1 q2 q3
        have HD : Hid _ := (((D.set (Nat.le_refl w.heap.size) hp0 0 (.int .i64 (z - 1))).set (Nat.le_refl w.heap.size) hp0 1 (.int .i64 (rb))).set (Nat.le_refl w.heap.size) hp0 2 (.int .i64 (rn))).set (Nat.le_refl w.heap.size) hp0 3 (.int .i64 (rf))
        have HQ : Hid _ := set4z AQ (.int .i64 (z - 1)) (.int .i64 (rb)) (.int .i64 (rn)) (.int .i64 (rf))
        clear D AQ AL
        go_wp2
        exact bodyPost_ret (results_cell_row rfl _ _ w.heap.size 29 _ (0, 0) _ rfl HQ.out Try.underlying29 rfl (by kernel_rfl)) rfl ⟨⟨z - 1, rb, rn, rf⟩, rfl, ⟨by dsimp only; omega, by dsimp only; omega, by dsimp only; omega, by dsimp only; omega⟩, HD.out.cu, HD.out.gr⟩
      · go_wp2_with fail
        refine (curBelow p a n c xs _ _ D.cu (hcode.grown D.gr) (by omega)).mono ?_
        rintro e w_z ⟨z, rfl, h0_z, h1_z, _, hc, hg⟩
        replace h1_z := h1_z (by omega)
        replace D := D.draw hc hg
        replace AQ := arr_p AQ hg (by omega)
        replace AL := arr_p AL hg (by omega)
        clear hc hg
        have l0 := AL.cell 0
        have l1 := AL.cell 1
        have l2 := AL.cell 2
        have l3 := AL.cell 3
        simp at l0 l1 l2 l3
        have fL := AL.frozen
        have lL := AL.lt
        go_upto_region 13 with fail
        obtain ⟨Y, hY⟩ : ∃ Y, Y = w_z.setCell ⟨L, 1, none⟩ (.int .i64 (z - 1)) := ⟨_, rfl⟩
        rw [← hY]
        replace D : Dz0 w Y p a n c := by rw [hY]; exact D.set (by omega) hp0 1 _
        replace AQ : Arr Y w.heap.size 29 [.int .i64 0, .int .i64 0, .int .i64 0, .int .i64 0] := by rw [hY]; exact AQ.other ⟨L, 1, none⟩ _ (by show w.heap.size ≠ L; omega)
        replace AL : Arr Y L 29 [.int .i64 (rk), .int .i64 (z - 1), .int .i64 (rn), .int .i64 (rf)] := by rw [hY]; exact AL.set 1 _
        clear hY l0 l1 l2 l3 fL lL
        have l0 := AL.cell 0
        have l1 := AL.cell 1
        have l2 := AL.cell 2
        have l3 := AL.cell 3
        simp at l0 l1 l2 l3
        have fQ := AQ.frozen
        have lQ := AQ.lt
        have q0 := AQ.cell 0
        have q1 := AQ.cell 1
        have q2 := AQ.cell 2
        have q3 := AQ.cell 3
        simp at q0 q1 q2 q3
        have HD : Hid _ := (((D.set (Nat.le_refl w.heap.size) hp0 0 (.int .i64 (rk))).set (Nat.le_refl w.heap.size) hp0 1 (.int .i64 (z - 1))).set (Nat.le_refl w.heap.size) hp0 2 (.int .i64 (rn))).set (Nat.le_refl w.heap.size) hp0 3 (.int .i64 (rf))
        have HQ : Hid _ := set4z AQ (.int .i64 (rk)) (.int .i64 (z - 1)) (.int .i64 (rn)) (.int .i64 (rf))
        clear D AQ AL
        go_wp2
        exact bodyPost_ret (results_cell_row rfl _ _ w.heap.size 29 _ (0, 0) _ rfl HQ.out Try.underlying29 rfl (by kernel_rfl)) rfl ⟨⟨rk, z - 1, rn, rf⟩, rfl, ⟨by dsimp only; omega, by dsimp only; omega, by dsimp only; omega, by dsimp only; omega⟩, HD.out.cu, HD.out.gr⟩
      · go_wp2_with fail
        have cl := cells_arr w_y [0, -1, 1000, 1001] 3
        refine (curPick p a n c xs _ 4 [0, -1, 1000, 1001] _ (cur_keep D.cu (grown_alloc _ _ none) (by simp)) ((hcode.grown D.gr).grown (grown_alloc _ _ _)) rfl (by omega) (by omega) (by have := cur_lt D.cu; omega) (fun j hj => cl j hj)).mono ?_
        rintro e w_z ⟨z, rfl, hm_z, hc, hg⟩
        simp at hm_z
        replace D := (D.alloc _).draw hc hg
        replace AQ := arr_p (AQ.alloc _) hg (by omega)
        replace AL := arr_p (AL.alloc _) hg (by omega)
        clear hc hg cl
        have l0 := AL.cell 0
        have l1 := AL.cell 1
        have l2 := AL.cell 2
        have l3 := AL.cell 3
        simp at l0 l1 l2 l3
        have fL := AL.frozen
        have lL := AL.lt
        go_upto_region 13 with fail
        obtain ⟨Y, hY⟩ : ∃ Y, Y = w_z.setCell ⟨L, 2, none⟩ (.int .i64 (z)) := ⟨_, rfl⟩
        rw [← hY]
        replace D : Dz0 w Y p a n c := by rw [hY]; exact D.set (by omega) hp0 2 _
        replace AQ : Arr Y w.heap.size 29 [.int .i64 0, .int .i64 0, .int .i64 0, .int .i64 0] := by rw [hY]; exact AQ.other ⟨L, 2, none⟩ _ (by show w.heap.size ≠ L; omega)
        replace AL : Arr Y L 29 [.int .i64 (rk), .int .i64 (rb), .int .i64 (z), .int .i64 (rf)] := by rw [hY]; exact AL.set 2 _
        clear hY l0 l1 l2 l3 fL lL
        have l0 := AL.cell 0
        have l1 := AL.cell 1
        have l2 := AL.cell 2
        have l3 := AL.cell 3
        simp at l0 l1 l2 l3
        have fQ := AQ.frozen
        have lQ := AQ.lt
        have q0 := AQ.cell 0
        have q1 := AQ.cell 1
        have q2 := AQ.cell 2
        have q3 := AQ.cell 3
        simp at q0 q1 q2 q3
        have HD : Hid _ := (((D.set (Nat.le_refl w.heap.size) hp0 0 (.int .i64 (rk))).set (Nat.le_refl w.heap.size) hp0 1 (.int .i64 (rb))).set (Nat.le_refl w.heap.size) hp0 2 (.int .i64 (z))).set (Nat.le_refl w.heap.size) hp0 3 (.int .i64 (rf))
        have HQ : Hid _ := set4z AQ (.int .i64 (rk)) (.int .i64 (rb)) (.int .i64 (z)) (.int .i64 (rf))
        clear D AQ AL
        go_wp2
        exact bodyPost_ret (results_cell_row rfl _ _ w.heap.size 29 _ (0, 0) _ rfl HQ.out Try.underlying29 rfl (by kernel_rfl)) rfl ⟨⟨rk, rb, z, rf⟩, rfl, ⟨by dsimp only; omega, by dsimp only; omega, by dsimp only; omega, by dsimp only; omega⟩, HD.out.cu, HD.out.gr⟩
      · go_wp2_with fail
        have cl := cells_arr w_y [-1, 1, 1000, 1001] 3
        refine (curPick p a n c xs _ 4 [-1, 1, 1000, 1001] _ (cur_keep D.cu (grown_alloc _ _ none) (by simp)) ((hcode.grown D.gr).grown (grown_alloc _ _ _)) rfl (by omega) (by omega) (by have := cur_lt D.cu; omega) (fun j hj => cl j hj)).mono ?_
        rintro e w_z ⟨z, rfl, hm_z, hc, hg⟩
        simp at hm_z
        replace D := (D.alloc _).draw hc hg
        replace AQ := arr_p (AQ.alloc _) hg (by omega)
        replace AL := arr_p (AL.alloc _) hg (by omega)
        clear hc hg cl
        have l0 := AL.cell 0
        have l1 := AL.cell 1
        have l2 := AL.cell 2
        have l3 := AL.cell 3
        simp at l0 l1 l2 l3
        have fL := AL.frozen
        have lL := AL.lt
        go_upto_region 13 with fail
        obtain ⟨Y, hY⟩ : ∃ Y, Y = w_z.setCell ⟨L, 3, none⟩ (.int .i64 (z)) := ⟨_, rfl⟩
        rw [← hY]
        replace D : Dz0 w Y p a n c := by rw [hY]; exact D.set (by omega) hp0 3 _
        replace AQ : Arr Y w.heap.size 29 [.int .i64 0, .int .i64 0, .int .i64 0, .int .i64 0] := by rw [hY]; exact AQ.other ⟨L, 3, none⟩ _ (by show w.heap.size ≠ L; omega)
        replace AL : Arr Y L 29 [.int .i64 (rk), .int .i64 (rb), .int .i64 (rn), .int .i64 (z)] := by rw [hY]; exact AL.set 3 _
        clear hY l0 l1 l2 l3 fL lL
        have l0 := AL.cell 0
        have l1 := AL.cell 1
        have l2 := AL.cell 2
        have l3 := AL.cell 3
        simp at l0 l1 l2 l3
        have fQ := AQ.frozen
        have lQ := AQ.lt
        have q0 := AQ.cell 0
        have q1 := AQ.cell 1
        have q2 := AQ.cell 2
        have q3 := AQ.cell 3
        simp at q0 q1 q2 q3
        have HD : Hid _ := (((D.set (Nat.le_refl w.heap.size) hp0 0 (.int .i64 (rk))).set (Nat.le_refl w.heap.size) hp0 1 (.int .i64 (rb))).set (Nat.le_refl w.heap.size) hp0 2 (.int .i64 (rn))).set (Nat.le_refl w.heap.size) hp0 3 (.int .i64 (z))
        have HQ : Hid _ := set4z AQ (.int .i64 (rk)) (.int .i64 (rb)) (.int .i64 (rn)) (.int .i64 (z))
        clear D AQ AL
        go_wp2
        exact bodyPost_ret (results_cell_row rfl _ _ w.heap.size 29 _ (0, 0) _ rfl HQ.out Try.underlying29 rfl (by kernel_rfl)) rfl ⟨⟨rk, rb, rn, z⟩, rfl, ⟨by dsimp only; omega, by dsimp only; omega, by dsimp only; omega, by dsimp only; omega⟩, HD.out.cu, HD.out.gr⟩
  case true =>
    go_wp2_with fail
    refine (curBelow p a n c xs _ _ D.cu (hcode.grown D.gr) (by omega)).mono ?_
    rintro e w_h ⟨h, rfl, h0_h, h1_h, _, hc, hg⟩
    replace h1_h := h1_h (by omega)
    replace D := D.draw hc hg
    replace AQ := arr_p AQ hg (by omega)
    replace AL := arr_p AL hg (by omega)
    clear hc hg
    have l0 := AL.cell 0
    have l1 := AL.cell 1
    have l2 := AL.cell 2
    have l3 := AL.cell 3
    simp at l0 l1 l2 l3
    have fL := AL.frozen
    have lL := AL.lt
    go_upto_region 4 with fail
    obtain ⟨Z, hZ⟩ : ∃ Z, Z = (((w_h.setCell ⟨L, 0, none⟩ (.int .i64 1)).setCell ⟨L, 1, none⟩ (.int .i64 0)).setCell ⟨L, 2, none⟩ (.int .i64 h)).setCell ⟨L, 3, none⟩ (.int .i64 0) := ⟨_, rfl⟩
    rw [← hZ]
    replace D : Dz0 w Z p a n c := by rw [hZ]; exact (((D.set (by omega) hp0 0 _).set (by omega) hp0 1 _).set (by omega) hp0 2 _).set (by omega) hp0 3 _
    replace AQ : Arr Z w.heap.size 29 [.int .i64 0, .int .i64 0, .int .i64 0, .int .i64 0] := by rw [hZ]; exact (((AQ.other ⟨L, 0, none⟩ _ (by show w.heap.size ≠ L; omega)).other ⟨L, 1, none⟩ _ (by show w.heap.size ≠ L; omega)).other ⟨L, 2, none⟩ _ (by show w.heap.size ≠ L; omega)).other ⟨L, 3, none⟩ _ (by show w.heap.size ≠ L; omega)
    replace AL : Arr Z L 29 [.int .i64 1, .int .i64 0, .int .i64 h, .int .i64 0] := by rw [hZ]; exact set4z AL _ _ _ _
    clear hZ l0 l1 l2 l3 fL lL
    go_wp2_with fail
    refine (curOnce p a n c xs _ _ D.cu (hcode.grown D.gr) (by omega)).mono ?_
    rintro e w_q6 ⟨q6, rfl, hc, hg⟩
    replace D := D.draw hc hg
    replace AQ := arr_p AQ hg (by omega)
    replace AL := arr_p AL hg (by omega)
    clear hc hg
    cases q6
    case false =>
      have l0 := AL.cell 0
      have l1 := AL.cell 1
      have l2 := AL.cell 2
      have l3 := AL.cell 3
      simp at l0 l1 l2 l3
      have fQ := AQ.frozen
      have lQ := AQ.lt
      have q0 := AQ.cell 0
      have q1 := AQ.cell 1
      have q2 := AQ.cell 2
      have q3 := AQ.cell 3
      simp at q0 q1 q2 q3
      have HD : Hid _ := (((D.set (Nat.le_refl w.heap.size) hp0 0 (.int .i64 (1))).set (Nat.le_refl w.heap.size) hp0 1 (.int .i64 (0))).set (Nat.le_refl w.heap.size) hp0 2 (.int .i64 (h))).set (Nat.le_refl w.heap.size) hp0 3 (.int .i64 (0))
      have HQ : Hid _ := set4z AQ (.int .i64 (1)) (.int .i64 (0)) (.int .i64 (h)) (.int .i64 (0))
      clear D AQ AL
      go_wp2
      exact bodyPost_ret (results_cell_row rfl _ _ w.heap.size 29 _ (0, 0) _ rfl HQ.out Try.underlying29 rfl (by kernel_rfl)) rfl ⟨⟨1, 0, h, 0⟩, rfl, ⟨by dsimp only; omega, by dsimp only; omega, by dsimp only; omega, by dsimp only; omega⟩, HD.out.cu, HD.out.gr⟩
    case true =>
      go_wp2_with fail
      refine (curBelow p a n c xs _ _ D.cu (hcode.grown D.gr) (by omega)).mono ?_
      rintro e w_y ⟨y, rfl, h0_y, h1_y, _, hc, hg⟩
      replace h1_y := h1_y (by omega)
      replace D := D.draw hc hg
      replace AQ := arr_p AQ hg (by omega)
      replace AL := arr_p AL hg (by omega)
      clear hc hg
      have hy : y = 0 ∨ y = 1 ∨ y = 2 ∨ y = 3 := by omega
      rcases hy with rfl | rfl | rfl | rfl
      · go_wp2_with fail
        refine (curBelow p a n c xs _ _ D.cu (hcode.grown D.gr) (by omega)).mono ?_
        rintro e w_z ⟨z, rfl, h0_z, h1_z, _, hc, hg⟩
        replace h1_z := h1_z (by omega)
        replace D := D.draw hc hg
        replace AQ := arr_p AQ hg (by omega)
        replace AL := arr_p AL hg (by omega)
        clear hc hg
        have l0 := AL.cell 0
        have l1 := AL.cell 1
        have l2 := AL.cell 2
        have l3 := AL.cell 3
        simp at l0 l1 l2 l3
        have fL := AL.frozen
        have lL := AL.lt
        go_upto_region 13 with fail
        obtain ⟨Y, hY⟩ : ∃ Y, Y = w_z.setCell ⟨L, 0, none⟩ (.int .i64 (z - 1)) := ⟨_, rfl⟩
        rw [← hY]
        replace D : Dz0 w Y p a n c := by rw [hY]; exact D.set (by omega) hp0 0 _
        replace AQ : Arr Y w.heap.size 29 [.int .i64 0, .int .i64 0, .int .i64 0, .int .i64 0] := by rw [hY]; exact AQ.other ⟨L, 0, none⟩ _ (by show w.heap.size ≠ L; omega)
        replace AL : Arr Y L 29 [.int .i64 (z - 1), .int .i64 (0), .int .i64 (h), .int .i64 (0)] := by rw [hY]; exact AL.set 0 _
        clear hY l0 l1 l2 l3 fL lL
        have l0 := AL.cell 0
        have l1 := AL.cell 1
        have l2 := AL.cell 2
        have l3 := AL.cell 3
        simp at l0 l1 l2 l3
        have fQ := AQ.frozen
        have lQ := AQ.lt
        have q0 := AQ.cell 0
        have q1 := AQ.cell 1
        have q2 := AQ.cell 2
        have q3 := AQ.cell 3
        simp at q0 q1 q2 q3
        have HD : Hid _ := (((D.set (Nat.le_refl w.heap.size) hp0 0 (.int .i64 (z - 1))).set (Nat.le_refl w.heap.size) hp0 1 (.int .i64 (0))).set (Nat.le_refl w.heap.size) hp0 2 (.int .i64 (h))).set (Nat.le_refl w.heap.size) hp0 3 (.int .i64 (0))
        have HQ : Hid _ := set4z AQ (.int .i64 (z - 1)) (.int .i64 (0)) (.int .i64 (h)) (.int .i64 (0))
        clear D AQ AL
        go_wp2
        exact bodyPost_ret (results_cell_row rfl _ _ w.heap.size 29 _ (0, 0) _ rfl HQ.out Try.underlying29 rfl (by kernel_rfl)) rfl ⟨⟨z - 1, 0, h, 0⟩, rfl, ⟨by dsimp only; omega, by dsimp only; omega, by dsimp only; omega, by dsimp only; omega⟩, HD.out.cu, HD.out.gr⟩
      · go_wp2_with fail
        refine (curBelow p a n c xs _ _ D.cu (hcode.grown D.gr) (by omega)).mono ?_
        rintro e w_z ⟨z, rfl, h0_z, h1_z, _, hc, hg⟩
        replace h1_z := h1_z (by omega)
        replace D := D.draw hc hg
        replace AQ := arr_p AQ hg (by omega)
        replace AL := arr_p AL hg (by omega)
        clear hc hg
        have l0 := AL.cell 0
        have l1 := AL.cell 1
        have l2 := AL.cell 2
        have l3 := AL.cell 3
        simp at l0 l1 l2 l3
        have fL := AL.frozen
        have lL := AL.lt
        go_upto_region 13 with fail
        obtain ⟨Y, hY⟩ : ∃ Y, Y = w_z.setCell ⟨L, 1, none⟩ (.int .i64 (z - 1)) := ⟨_, rfl⟩
        rw [← hY]
        replace D : Dz0 w Y p a n c := by rw [hY]; exact D.set (by omega) hp0 1 _
        replace AQ : Arr Y w.heap.size 29 [.int .i64 0, .int .i64 0, .int .i64 0, .int .i64 0] := by rw [hY]; exact AQ.other ⟨L, 1, none⟩ _ (by show w.heap.size ≠ L; omega)
        replace AL : Arr Y L 29 [.int .i64 (1), .int .i64 (z - 1), .int .i64 (h), .int .i64 (0)] := by rw [hY]; exact AL.set 1 _
        clear hY l0 l1 l2 l3 fL lL
        have l0 := AL.cell 0
        have l1 := AL.cell 1
        have l2 := AL.cell 2
        have l3 := AL.cell 3
        simp at l0 l1 l2 l3
        have fQ := AQ.frozen
        have lQ := AQ.lt
        have q0 := AQ.cell 0
        have q1 := AQ.cell 1
        have q2 := AQ.cell 2
        have q3 := AQ.cell 3
        simp at q0 q1 q2 q3
        have HD : Hid _ := (((D.set (Nat.le_refl w.heap.size) hp0 0 (.int .i64 (1))).set (Nat.le_refl w.heap.size) hp0 1 (.int .i64 (z - 1))).set (Nat.le_refl w.heap.size) hp0 2 (.int .i64 (h))).set (Nat.le_refl w.heap.size) hp0 3 (.int .i64 (0))
        have HQ : Hid _ := set4z AQ (.int .i64 (1)) (.int .i64 (z - 1)) (.int .i64 (h)) (.int .i64 (0))
        clear D AQ AL
        go_wp2
        exact bodyPost_ret (results_cell_row rfl _ _ w.heap.size 29 _ (0, 0) _ rfl HQ.out Try.underlying29 rfl (by kernel_rfl)) rfl ⟨⟨1, z - 1, h, 0⟩, rfl, ⟨by dsimp only; omega, by dsimp only; omega, by dsimp only; omega, by dsimp only; omega⟩, HD.out.cu, HD.out.gr⟩
      · go_wp2_with fail
        have cl := cells_arr w_y [0, -1, 1000, 1001] 3
        refine (curPick p a n c xs _ 4 [0, -1, 1000, 1001] _ (cur_keep D.cu (grown_alloc _ _ none) (by simp)) ((hcode.grown D.gr).grown (grown_alloc _ _ _)) rfl (by omega) (by omega) (by have := cur_lt D.cu; omega) (fun j hj => cl j hj)).mono ?_
        rintro e w_z ⟨z, rfl, hm_z, hc, hg⟩
        simp at hm_z
        replace D := (D.alloc _).draw hc hg
        replace AQ := arr_p (AQ.alloc _) hg (by omega)
        replace AL := arr_p (AL.alloc _) hg (by omega)
        clear hc hg cl
        have l0 := AL.cell 0
        have l1 := AL.cell 1
        have l2 := AL.cell 2
        have l3 := AL.cell 3
        simp at l0 l1 l2 l3
        have fL := AL.frozen
        have lL := AL.lt
        go_upto_region 13 with fail
        obtain ⟨Y, hY⟩ : ∃ Y, Y = w_z.setCell ⟨L, 2, none⟩ (.int .i64 (z)) := ⟨_, rfl⟩
        rw [← hY]
        replace D : Dz0 w Y p a n c := by rw [hY]; exact D.set (by omega) hp0 2 _
        replace AQ : Arr Y w.heap.size 29 [.int .i64 0, .int .i64 0, .int .i64 0, .int .i64 0] := by rw [hY]; exact AQ.other ⟨L, 2, none⟩ _ (by show w.heap.size ≠ L; omega)
        replace AL : Arr Y L 29 [.int .i64 (1), .int .i64 (0), .int .i64 (z), .int .i64 (0)] := by rw [hY]; exact AL.set 2 _
        clear hY l0 l1 l2 l3 fL lL
        have l0 := AL.cell 0
        have l1 := AL.cell 1
        have l2 := AL.cell 2
        have l3 := AL.cell 3
        simp at l0 l1 l2 l3
        have fQ := AQ.frozen
        have lQ := AQ.lt
        have q0 := AQ.cell 0
        have q1 := AQ.cell 1
        have q2 := AQ.cell 2
        have q3 := AQ.cell 3
        simp at q0 q1 q2 q3
        have HD : Hid _ := (((D.set (Nat.le_refl w.heap.size) hp0 0 (.int .i64 (1))).set (Nat.le_refl w.heap.size) hp0 1 (.int .i64 (0))).set (Nat.le_refl w.heap.size) hp0 2 (.int .i64 (z))).set (Nat.le_refl w.heap.size) hp0 3 (.int .i64 (0))
        have HQ : Hid _ := set4z AQ (.int .i64 (1)) (.int .i64 (0)) (.int .i64 (z)) (.int .i64 (0))
        clear D AQ AL
        go_wp2
        exact bodyPost_ret (results_cell_row rfl _ _ w.heap.size 29 _ (0, 0) _ rfl HQ.out Try.underlying29 rfl (by kernel_rfl)) rfl ⟨⟨1, 0, z, 0⟩, rfl, ⟨by dsimp only; omega, by dsimp only; omega, by dsimp only; omega, by dsimp only; omega⟩, HD.out.cu, HD.out.gr⟩
      · go_wp2_with fail
        have cl := cells_arr w_y [-1, 1, 1000, 1001] 3
        refine (curPick p a n c xs _ 4 [-1, 1, 1000, 1001] _ (cur_keep D.cu (grown_alloc _ _ none) (by simp)) ((hcode.grown D.gr).grown (grown_alloc _ _ _)) rfl (by omega) (by omega) (by have := cur_lt D.cu; omega) (fun j hj => cl j hj)).mono ?_
        rintro e w_z ⟨z, rfl, hm_z, hc, hg⟩
        simp at hm_z
        replace D := (D.alloc _).draw hc hg
        replace AQ := arr_p (AQ.alloc _) hg (by omega)
        replace AL := arr_p (AL.alloc _) hg (by omega)
        clear hc hg cl
        have l0 := AL.cell 0
        have l1 := AL.cell 1
        have l2 := AL.cell 2
        have l3 := AL.cell 3
        simp at l0 l1 l2 l3
        have fL := AL.frozen
        have lL := AL.lt
        go_upto_region 13 with fail
        obtain ⟨Y, hY⟩ : ∃ Y, Y = w_z.setCell ⟨L, 3, none⟩ (.int .i64 (z)) := ⟨_, rfl⟩
        rw [← hY]
        replace D : Dz0 w Y p a n c := by rw [hY]; exact D.set (by omega) hp0 3 _
        replace AQ : Arr Y w.heap.size 29 [.int .i64 0, .int .i64 0, .int .i64 0, .int .i64 0] := by rw [hY]; exact AQ.other ⟨L, 3, none⟩ _ (by show w.heap.size ≠ L; omega)
        replace AL : Arr Y L 29 [.int .i64 (1), .int .i64 (0), .int .i64 (h), .int .i64 (z)] := by rw [hY]; exact AL.set 3 _
        clear hY l0 l1 l2 l3 fL lL
        have l0 := AL.cell 0
        have l1 := AL.cell 1
        have l2 := AL.cell 2
        have l3 := AL.cell 3
        simp at l0 l1 l2 l3
        have fQ := AQ.frozen
        have lQ := AQ.lt
        have q0 := AQ.cell 0
        have q1 := AQ.cell 1
        have q2 := AQ.cell 2
        have q3 := AQ.cell 3
        simp at q0 q1 q2 q3
        have HD : Hid _ := (((D.set (Nat.le_refl w.heap.size) hp0 0 (.int .i64 (1))).set (Nat.le_refl w.heap.size) hp0 1 (.int .i64 (0))).set (Nat.le_refl w.heap.size) hp0 2 (.int .i64 (h))).set (Nat.le_refl w.heap.size) hp0 3 (.int .i64 (z))
        have HQ : Hid _ := set4z AQ (.int .i64 (1)) (.int .i64 (0)) (.int .i64 (h)) (.int .i64 (z))
        clear D AQ AL
        go_wp2
        exact bodyPost_ret (results_cell_row rfl _ _ w.heap.size 29 _ (0, 0) _ rfl HQ.out Try.underlying29 rfl (by kernel_rfl)) rfl ⟨⟨1, 0, h, z⟩, rfl, ⟨by dsimp only; omega, by dsimp only; omega, by dsimp only; omega, by dsimp only; omega⟩, HD.out.cu, HD.out.gr⟩
end Go.Proofs.Ytjceajgefpinpaa
