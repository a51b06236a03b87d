/-
  What is proved here: what a draw of a record (the specification's l10drawRec) answers.
-/
import Derived.Test.YtjceajgefpinpaaJN1
import Derived.Test.YtjceajgefpinpaaJN2
import Derived.Deep.CutRange
import Derived.Deep.RegionHeld3
import Derived.BigRegion
namespace Go.Proofs.Ytjceajgefpinpaa
open Go.RowKit
set_option maxRecDepth 100000
set_option maxHeartbeats 4000000
set_option linter.unusedVariables false


/-- Where a draw stands: the cursor at p, nothing else turned. -/
structure Dz0 (w W : World) (p : Nat) (a : Option Addr) (n c : Nat) : Prop where
  cu : Cur W p a n c
  gr : w.grownBy W (some p)
section
variable {w W W' : World} {p : Nat} {a : Option Addr} {n c : Nat}
theorem gr_p (h : w.grownBy W (some p)) (k : W.grownBy W' (some p)) : w.grownBy W' (some p) := grown_into h k (fun k hk => .inr (by injection hk with hk; exact hk.symm))
theorem Dz0.draw (h : Dz0 w W p a n c) (hc : Cur W' p a n c) (hg : W.grownBy W' (some p)) : Dz0 w W' p a n c := ⟨hc, gr_p h.gr hg⟩
theorem Dz0.alloc (h : Dz0 w W p a n c) (o : Obj) : Dz0 w (W.alloc o) p a n c := ⟨cur_keep h.cu (grown_alloc W o none) (by simp), gr_p h.gr (grown_alloc W o _)⟩
theorem Dz0.below (h : Dz0 w W p a n c) (hb : Below W.heap.size W W') : Dz0 w W' p a n c := ⟨cur_keep h.cu (row := none) ⟨hb.os, hb.tape, hb.output, hb.size, fun i hi _ => hb.block i hi⟩ (by simp), gr_p h.gr ⟨hb.os, hb.tape, hb.output, hb.size, fun i hi _ => hb.block i hi⟩⟩
theorem Dz0.set (h : Dz0 w W p a n c) {g : Nat} (hg : w.heap.size ≤ g) (hp : p < w.heap.size) (j : Nat) (v : Value) : Dz0 w (W.setCell ⟨g, j, none⟩ v) p a n c :=
  ⟨cur_keep h.cu (cur_grown2 W g v j) (by intro e; injection e with e; omega), grown_into h.gr (cur_grown2 W g v j) (fun k hk => .inl (by injection hk with hk; omega))⟩
theorem arr_p {g : Nat} {t : TypeId} {cs : List Value} (h : Arr W g t cs) (hg : W.grownBy W' (some p)) (hne : g ≠ p) : Arr W' g t cs := by
  unfold Arr
  rw [hg.block g h.lt (fun e => by injection e with e; exact hne e)]
  exact h
end
/-- What a drawn record may hold. -/
abbrev Rcb (r : Rc) : Prop := (-1 ≤ r.k ∧ r.k ≤ 1001) ∧ (-1 ≤ r.b ∧ r.b ≤ 1001) ∧ (-1 ≤ r.n ∧ r.n ≤ 1001) ∧ (-1 ≤ r.f ∧ r.f ≤ 1001)

theorem set4z {W : World} {g : Nat} {t : TypeId} {a b c d : Value} (h : Arr W g t [a, b, c, d]) (a' b' c' d' : Value) :
    Arr ((((W.setCell ⟨g, 0, none⟩ a').setCell ⟨g, 1, none⟩ b').setCell ⟨g, 2, none⟩ c').setCell ⟨g, 3, none⟩ d') g t [a', b', c', d'] := (((h.set 0 a').set 1 b').set 2 c').set 3 d'
theorem curRec (p : Nat) (a : Option Addr) (n c : Nat) (xs : List Int) (w : World) (hcur : Cur w p a n c) (hcode : Coded w p a n c xs) :
    Calls Try.prog 75 #[.pointer (some ⟨p, 0, none⟩)] w fun e w' => ∃ r : Rc, e = .returned (rcV r.k r.b r.n r.f) ∧ Rcb r ∧ r.Ok ∧ Cur w' p a n c ∧ w.grownBy w' (some p) := by
  have hp0 := cur_lt hcur
  obtain ⟨V, hV⟩ : ∃ V, V = w.alloc (.cells #[.int .i64 0, .int .i64 0, .int .i64 0, .int .i64 0] 29) := ⟨_, rfl⟩
  have AQ : Arr V w.heap.size 29 [.int .i64 0, .int .i64 0, .int .i64 0, .int .i64 0] := by rw [hV]; exact Arr.new _ _ _
  have D : Dz0 w V p a n c := by rw [hV]; exact (show Dz0 w w p a n c from ⟨hcur, World.grownBy.refl _ _⟩).alloc _
  go_enter Try.func75, Try.ntmps75
  go_upto_region 1 with fail
  rw [← hV]
  clear hV hcur
  go_wp2_with fail
  refine (curBelow p a n c xs _ _ D.cu (hcode.grown D.gr) (by omega)).mono ?_
  rintro e w_x ⟨x, rfl, h0_x, h1_x, _, hc, hg⟩
  replace h1_x := h1_x (by omega)
  replace D := D.draw hc hg
  replace AQ := arr_p AQ hg (by omega)
  clear hc hg
  have hx : x = 0 ∨ x = 1 ∨ x = 2 ∨ x = 3 ∨ x = 4 ∨ x = 5 := by omega
  rcases hx with rfl | rfl | rfl | rfl | rfl | rfl
  · go_wp2_with fail
    refine (curBelow p a n c xs _ _ D.cu (hcode.grown D.gr) (by omega)).mono ?_
    rintro e w_y ⟨y, rfl, h0_y, h1_y, _, hc, hg⟩
    replace h1_y := h1_y (by omega)
    replace D := D.draw hc hg
    replace AQ := arr_p AQ hg (by omega)
    clear hc hg
    go_wp2_with fail
    refine (curBelow p a n c xs _ _ D.cu (hcode.grown D.gr) (by omega)).mono ?_
    rintro e w_z ⟨z, rfl, h0_z, h1_z, _, hc, hg⟩
    replace h1_z := h1_z (by omega)
    replace D := D.draw hc hg
    replace AQ := arr_p AQ hg (by omega)
    clear hc hg
    go_wp2_with fail
    refine (curBelow p a n c xs _ _ D.cu (hcode.grown D.gr) (by omega)).mono ?_
    rintro e w_u ⟨u, rfl, h0_u, h1_u, _, hc, hg⟩
    replace h1_u := h1_u (by omega)
    replace D := D.draw hc hg
    replace AQ := arr_p AQ hg (by omega)
    clear hc hg
    have fQ := AQ.frozen
    have lQ := AQ.lt
    have q0 := AQ.cell 0
    have q1 := AQ.cell 1
    have q2 := AQ.cell 2
    have q3 := AQ.cell 3
    simp at q0 q1 q2 q3
    have HD : Hid _ := (((D.set (Nat.le_refl w.heap.size) hp0 0 (.int .i64 (2))).set (Nat.le_refl w.heap.size) hp0 1 (.int .i64 (y))).set (Nat.le_refl w.heap.size) hp0 2 (.int .i64 (1 + z))).set (Nat.le_refl w.heap.size) hp0 3 (.int .i64 (u))
    have HQ : Hid _ := set4z AQ (.int .i64 (2)) (.int .i64 (y)) (.int .i64 (1 + z)) (.int .i64 (u))
    clear D AQ
    go_wp2
    exact bodyPost_ret (results_cell_row rfl _ _ w.heap.size 29 _ (0, 0) _ rfl HQ.out Try.underlying29 rfl (by kernel_rfl)) rfl ⟨⟨2, y, 1 + z, u⟩, rfl, ⟨by dsimp only; omega, by dsimp only; omega, by dsimp only; omega, by dsimp only; omega⟩, (by show rcOk _ _ _ _; unfold rcOk; dsimp only; omega), HD.out.cu, HD.out.gr⟩
  · go_wp2_with fail
    refine (curBelow p a n c xs _ _ D.cu (hcode.grown D.gr) (by omega)).mono ?_
    rintro e w_y ⟨y, rfl, h0_y, h1_y, _, hc, hg⟩
    replace h1_y := h1_y (by omega)
    replace D := D.draw hc hg
    replace AQ := arr_p AQ hg (by omega)
    clear hc hg
    go_wp2_with fail
    refine (curBelow p a n c xs _ _ D.cu (hcode.grown D.gr) (by omega)).mono ?_
    rintro e w_z ⟨z, rfl, h0_z, h1_z, _, hc, hg⟩
    replace h1_z := h1_z (by omega)
    replace D := D.draw hc hg
    replace AQ := arr_p AQ hg (by omega)
    clear hc hg
    have fQ := AQ.frozen
    have lQ := AQ.lt
    have q0 := AQ.cell 0
    have q1 := AQ.cell 1
    have q2 := AQ.cell 2
    have q3 := AQ.cell 3
    simp at q0 q1 q2 q3
    have HD : Hid _ := (((D.set (Nat.le_refl w.heap.size) hp0 0 (.int .i64 (3))).set (Nat.le_refl w.heap.size) hp0 1 (.int .i64 (y))).set (Nat.le_refl w.heap.size) hp0 2 (.int .i64 (1 + z))).set (Nat.le_refl w.heap.size) hp0 3 (.int .i64 (0))
    have HQ : Hid _ := set4z AQ (.int .i64 (3)) (.int .i64 (y)) (.int .i64 (1 + z)) (.int .i64 (0))
    clear D AQ
    go_wp2
    exact bodyPost_ret (results_cell_row rfl _ _ w.heap.size 29 _ (0, 0) _ rfl HQ.out Try.underlying29 rfl (by kernel_rfl)) rfl ⟨⟨3, y, 1 + z, 0⟩, rfl, ⟨by dsimp only; omega, by dsimp only; omega, by dsimp only; omega, by dsimp only; omega⟩, (by show rcOk _ _ _ _; unfold rcOk; dsimp only; omega), HD.out.cu, HD.out.gr⟩
  · go_wp2_with fail
    refine (curBelow p a n c xs _ _ D.cu (hcode.grown D.gr) (by omega)).mono ?_
    rintro e w_u ⟨u, rfl, h0_u, h1_u, _, hc, hg⟩
    replace h1_u := h1_u (by omega)
    replace D := D.draw hc hg
    replace AQ := arr_p AQ hg (by omega)
    clear hc hg
    have fQ := AQ.frozen
    have lQ := AQ.lt
    have q0 := AQ.cell 0
    have q1 := AQ.cell 1
    have q2 := AQ.cell 2
    have q3 := AQ.cell 3
    simp at q0 q1 q2 q3
    have HD : Hid _ := (((D.set (Nat.le_refl w.heap.size) hp0 0 (.int .i64 (5))).set (Nat.le_refl w.heap.size) hp0 1 (.int .i64 (0))).set (Nat.le_refl w.heap.size) hp0 2 (.int .i64 (0))).set (Nat.le_refl w.heap.size) hp0 3 (.int .i64 (u))
    have HQ : Hid _ := set4z AQ (.int .i64 (5)) (.int .i64 (0)) (.int .i64 (0)) (.int .i64 (u))
    clear D AQ
    go_wp2
    exact bodyPost_ret (results_cell_row rfl _ _ w.heap.size 29 _ (0, 0) _ rfl HQ.out Try.underlying29 rfl (by kernel_rfl)) rfl ⟨⟨5, 0, 0, u⟩, rfl, ⟨by dsimp only; omega, by dsimp only; omega, by dsimp only; omega, by dsimp only; omega⟩, (by show rcOk _ _ _ _; unfold rcOk; dsimp only; omega), HD.out.cu, HD.out.gr⟩
  · have fQ := AQ.frozen
    have lQ := AQ.lt
    have q0 := AQ.cell 0
    have q1 := AQ.cell 1
    have q2 := AQ.cell 2
    have q3 := AQ.cell 3
    simp at q0 q1 q2 q3
    have HD : Hid _ := (((D.set (Nat.le_refl w.heap.size) hp0 0 (.int .i64 (6))).set (Nat.le_refl w.heap.size) hp0 1 (.int .i64 (0))).set (Nat.le_refl w.heap.size) hp0 2 (.int .i64 (0))).set (Nat.le_refl w.heap.size) hp0 3 (.int .i64 (0))
    have HQ : Hid _ := set4z AQ (.int .i64 (6)) (.int .i64 (0)) (.int .i64 (0)) (.int .i64 (0))
    clear D AQ
    go_wp2
    exact bodyPost_ret (results_cell_row rfl _ _ w.heap.size 29 _ (0, 0) _ rfl HQ.out Try.underlying29 rfl (by kernel_rfl)) rfl ⟨⟨6, 0, 0, 0⟩, rfl, ⟨by dsimp only; omega, by dsimp only; omega, by dsimp only; omega, by dsimp only; omega⟩, (by show rcOk _ _ _ _; unfold rcOk; dsimp only; omega), HD.out.cu, HD.out.gr⟩
  · have fQ := AQ.frozen
    have lQ := AQ.lt
    have q0 := AQ.cell 0
    have q1 := AQ.cell 1
    have q2 := AQ.cell 2
    have q3 := AQ.cell 3
    simp at q0 q1 q2 q3
    have HD : Hid _ := (((D.set (Nat.le_refl w.heap.size) hp0 0 (.int .i64 (4))).set (Nat.le_refl w.heap.size) hp0 1 (.int .i64 (0))).set (Nat.le_refl w.heap.size) hp0 2 (.int .i64 (0))).set (Nat.le_refl w.heap.size) hp0 3 (.int .i64 (0))
    have HQ : Hid _ := set4z AQ (.int .i64 (4)) (.int .i64 (0)) (.int .i64 (0)) (.int .i64 (0))
    clear D AQ
    go_wp2
    exact bodyPost_ret (results_cell_row rfl _ _ w.heap.size 29 _ (0, 0) _ rfl HQ.out Try.underlying29 rfl (by kernel_rfl)) rfl ⟨⟨4, 0, 0, 0⟩, rfl, ⟨by dsimp only; omega, by dsimp only; omega, by dsimp only; omega, by dsimp only; omega⟩, (by show rcOk _ _ _ _; unfold rcOk; dsimp only; omega), HD.out.cu, HD.out.gr⟩
  · have fQ := AQ.frozen
    have lQ := AQ.lt
    have q0 := AQ.cell 0
    have q1 := AQ.cell 1
    have q2 := AQ.cell 2
    have q3 := AQ.cell 3
    simp at q0 q1 q2 q3
    have HD : Hid _ := (((D.set (Nat.le_refl w.heap.size) hp0 0 (.int .i64 (4))).set (Nat.le_refl w.heap.size) hp0 1 (.int .i64 (0))).set (Nat.le_refl w.heap.size) hp0 2 (.int .i64 (0))).set (Nat.le_refl w.heap.size) hp0 3 (.int .i64 (0))
    have HQ : Hid _ := set4z AQ (.int .i64 (4)) (.int .i64 (0)) (.int .i64 (0)) (.int .i64 (0))
    clear D AQ
    go_wp2
    exact bodyPost_ret (results_cell_row rfl _ _ w.heap.size 29 _ (0, 0) _ rfl HQ.out Try.underlying29 rfl (by kernel_rfl)) rfl ⟨⟨4, 0, 0, 0⟩, rfl, ⟨by dsimp only; omega, by dsimp only; omega, by dsimp only; omega, by dsimp only; omega⟩, (by show rcOk _ _ _ _; unfold rcOk; dsimp only; omega), HD.out.cu, HD.out.gr⟩
end Go.Proofs.Ytjceajgefpinpaa
