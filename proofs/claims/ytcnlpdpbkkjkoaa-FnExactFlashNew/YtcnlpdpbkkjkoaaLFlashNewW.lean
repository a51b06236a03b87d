/-
  What is proved here: the exact law of FlashNew returns true, and writes into nothing that was there.
-/
import Derived.Test.YtcnlpdpbkkjkoaaF9y
namespace Go.Proofs.Ytcnlpdpbkkjkoaa
set_option maxRecDepth 100000
open Go.RowKit

set_option maxHeartbeats 4000000 in
theorem walk_fnExactFlashNew (w : World) :
    Calls Try.prog 6 #[] w fun e w' => e = .returned (.bool true) ∧ Below w.heap.size w w' := by
  have HB1 : Hid (∀ x ∈ List.replicate 3072 (255 : Int), 0 ≤ x ∧ x < 256) := by intro x hx; rw [List.mem_replicate] at hx; omega
  have HB2 : Hid (∀ x ∈ List.replicate 48 (0 : Int), -9223372036854775808 ≤ x ∧ x ≤ 9223372036854775807) := by intro x hx; rw [List.mem_replicate] at hx; omega
  have HS : Hid (∀ W, Calls Try.prog 35 #[] W fun e w' => ∃ v, e = .returned v ∧ IsFl W w' v (List.replicate 3072 255) (List.replicate 48 0) ∧ Below W.heap.size W w') := fun W => flashNew_s W
  have HI : Hid (∀ W, Calls Try.prog 36 #[] W fun e w' => ∃ g g' c', e = .returned (flV (some ⟨g, 0, none⟩) 3072 3072 (some ⟨g', 0, none⟩) 48 c') ∧ OwnP w' W.heap.size g 3072 (List.replicate 3072 255) ∧ w'.ownsRow W.heap.size 3 1 (.slice (some ⟨g', 0, none⟩) 48 c') 48 (I64 (List.replicate 48 0)) ∧ g ≠ g' ∧ Below W.heap.size W w') := fun W => flashNew_i W
  have l1 : (List.replicate 3072 (255 : Int)).length = 3072 := List.length_replicate
  have l2 : (List.replicate 48 (0 : Int)).length = 48 := List.length_replicate
  generalize List.replicate 3072 (255 : Int) = LB at HB1 HS HI l1
  generalize List.replicate 48 (0 : Int) = LW at HB2 HS HI l2
  have HL1 : Hid _ := l1
  have HL2 : Hid _ := l2
  clear l1 l2
  have HM1 : Hid _ := marks_byte 1 3072
  have HM2 : Hid _ := marksI_int 3073 48 (by omega) (by omega) (by omega)
  go_enter Try.func6, Try.ntmps6
  go_wp2_with fail
  refine Calls.mono (HS.out _) ?_
  rintro e w1 ⟨v, rfl, f, b1⟩
  obtain ⟨a, c, a', c', rfl, O⟩ := f
  rw [HL1.out, HL2.out] at O ⊢
  have B := b1
  have z1 := b1.size
  have S0 : Fa (w1.alloc (.cells #[.slice a 3072 c, .slice a' 48 c'] 25)) w.heap.size w1.heap.size a 3072 c a' 48 c' LB LW := Fa.new O (by omega)
  obtain ⟨W, hW⟩ : ∃ W, W = w1.alloc (.cells #[.slice a 3072 c, .slice a' 48 c'] 25) := ⟨_, rfl⟩
  rw [← hW] at S0
  have p1 : w1.heap.size < W.heap.size := by rw [hW]; simp
  replace B : Below w.heap.size w W := by rw [hW]; exact B.alloc B.size _
  clear O b1
  go_wp2_with fail
  rw [← hW]
  clear hW
  refine Calls.mono (HI.out _) ?_
  rintro e w2 ⟨g, g', d', rfl, ob, ow, ne, b2⟩
  have S1 := S0.chg (.of_below b2 0) (.inr (.inr (Nat.le_refl _)))
  replace B := B.trans (b2.mono B.size)
  have z2 := b2.size
  have T : Fp (w2.alloc (.cells #[.slice (some ⟨g, 0, none⟩) 3072 3072, .slice (some ⟨g', 0, none⟩) 48 d'] 25)) W.heap.size w2.heap.size g g' d' LB LW := Fp.new ob ow ne
  obtain ⟨X, hX⟩ : ∃ X, X = w2.alloc (.cells #[.slice (some ⟨g, 0, none⟩) 3072 3072, .slice (some ⟨g', 0, none⟩) 48 d'] 25) := ⟨_, rfl⟩
  rw [← hX] at T
  have p2 : w2.heap.size < X.heap.size := by rw [hX]; simp
  have bX : Below w2.heap.size w2 X := by rw [hX]; exact (Below.refl _ _).alloc (Nat.le_refl _) _
  have S2 := S1.chg (.of_below bX 0) (.inr (.inr (Nat.le_refl _)))
  replace B := B.trans (bX.mono B.size)
  clear b2 bX S0 S1 ob ow
  have c1 := S2.cells
  have c2 := arr2 T.p
  rw [hX] at c1 c2
  go_wp2_with fail
  rw [← hX]
  clear hX c1 c2
  refine (eqFlashC (some ⟨g, 0, none⟩) 3072 3072 (some ⟨g', 0, none⟩) 48 d' a c a' c' LB LW _ (T.ob.bs HB1.out) (is_of_own T.ow HB2.out) (bs_of_own S2.o.ob HB1.out) (is_of_own S2.o.ow HB2.out) (by omega) (by omega)).mono ?_
  rintro e w3 ⟨rfl, b3⟩
  replace S2 := S2.chg (.of_below b3 0) (.inr (.inr (Nat.le_refl _)))
  replace T := T.below b3
  replace B := B.trans (b3.mono B.size)
  have z3 := b3.size
  clear b3
  have c2 := arr2 T.p
  go_wp2_with fail
  clear c2
  refine (markFlashP W.heap.size w2.heap.size g g' d' LB LW _ T).mono ?_
  rintro e w4 ⟨rfl, T4, g4⟩
  have lo1 := T.ob.lo
  have lo2 := (T.ow.lt g' rfl).1
  have hi1 := T.gb
  have hi2 := T.gw
  have ch : Chg w3 w4 W.heap.size w2.heap.size := ⟨g4.os, g4.tape, g4.output, g4.size, fun i hi hj => g4.block i hi (fun e => by injection e with e; omega) (fun e => by injection e with e; omega)⟩
  replace S2 := S2.chg ch (by omega)
  replace B := ch.bel B (by omega)
  have z4 := ch.size
  clear ch g4 T
  have c2 := arr2 T4.p
  go_wp2_with fail
  clear c2
  refine (heldFlashC (some ⟨g, 0, none⟩) 3072 3072 (some ⟨g', 0, none⟩) 48 d' 1 _ (T4.ob.bs HM1.out) (is_of_own T4.ow HM2.out) (by omega) (by omega) (by omega) (by omega)).mono ?_
  rintro e w5 ⟨rfl, b5⟩
  replace S2 := S2.chg (.of_below b5 0) (.inr (.inr (Nat.le_refl _)))
  replace T4 := T4.below b5
  replace B := B.trans (b5.mono B.size)
  have z5 := b5.size
  clear b5
  go_wp2_with fail
  refine Calls.mono (HI.out _) ?_
  rintro e w6 ⟨h, h', k', rfl, ob, ow, ne6, b6⟩
  replace S2 := S2.chg (.of_below b6 0) (.inr (.inr (Nat.le_refl _)))
  replace T4 := T4.below b6
  replace B := B.trans (b6.mono B.size)
  have z6 := b6.size
  have U : Fp (w6.alloc (.cells #[.slice (some ⟨h, 0, none⟩) 3072 3072, .slice (some ⟨h', 0, none⟩) 48 k'] 25)) w5.heap.size w6.heap.size h h' k' LB LW := Fp.new ob ow ne6
  obtain ⟨Y, hY⟩ : ∃ Y, Y = w6.alloc (.cells #[.slice (some ⟨h, 0, none⟩) 3072 3072, .slice (some ⟨h', 0, none⟩) 48 k'] 25) := ⟨_, rfl⟩
  rw [← hY] at U
  have bY : Below w6.heap.size w6 Y := by rw [hY]; exact (Below.refl _ _).alloc (Nat.le_refl _) _
  replace S2 := S2.chg (.of_below bY 0) (.inr (.inr (Nat.le_refl _)))
  replace T4 := T4.below bY
  replace B := B.trans (bY.mono B.size)
  clear b6 bY ob ow
  have c1 := S2.cells
  have c2 := arr2 U.p
  rw [hY] at c1 c2
  go_wp2_with fail
  rw [← hY]
  clear hY c1 c2
  refine (eqFlashC (some ⟨h, 0, none⟩) 3072 3072 (some ⟨h', 0, none⟩) 48 k' a c a' c' LB LW _ (U.ob.bs HB1.out) (is_of_own U.ow HB2.out) (bs_of_own S2.o.ob HB1.out) (is_of_own S2.o.ow HB2.out) (by omega) (by omega)).mono ?_
  rintro e w7 ⟨rfl, b7⟩
  replace T4 := T4.below b7
  replace B := B.trans (b7.mono B.size)
  clear b7 U S2
  have c2 := arr2 T4.p
  go_wp2_with fail
  clear c2
  refine (heldFlashC (some ⟨g, 0, none⟩) 3072 3072 (some ⟨g', 0, none⟩) 48 d' 1 _ (T4.ob.bs HM1.out) (is_of_own T4.ow HM2.out) (by omega) (by omega) (by omega) (by omega)).mono ?_
  rintro e w8 ⟨rfl, b8⟩
  replace B := B.trans (b8.mono B.size)
  clear b8 T4
  go_wp2
  go_ret
  exact ⟨rfl, B⟩
end Go.Proofs.Ytcnlpdpbkkjkoaa
