/-
  What is proved here: the exact law of Common returns true at every two slices, and writes into nothing that was there.
-/
import Derived.Test.YtjgoliajgfeehaaCom
namespace Go.Proofs.Ytjgoliajgfeehaa
open Go.RowKit

set_option maxHeartbeats 400000 in
theorem walk_fnExactCommon (w : World) (a0 : Option Addr) (n0 c0 : Nat) (xs : List Int) (h0 : Bs w a0 n0 c0 xs) (a1 : Option Addr) (n1 c1 : Nat) (ys : List Int) (h1 : Bs w a1 n1 c1 ys) :
    Calls Try.prog 12 #[.slice a0 n0 c0, .slice a1 n1 c1] w fun e w' => e = .returned (.bool true) ∧ Below w.heap.size w w' := by
  by_cases hb0 : 1048576 < (n0 : Int)
  · go_enter Try.func12, Try.ntmps12
    go_wp2
    go_ret
    exact ⟨rfl, Below.refl _ _⟩
  by_cases hb1 : 1048576 < (n1 : Int)
  · go_enter Try.func12, Try.ntmps12
    go_wp2
    go_ret
    exact ⟨rfl, Below.refl _ _⟩
  go_enter Try.func12, Try.ntmps12
  go_wp2_with fail
  refine (toS a0 n0 c0 xs _ h0 (by omega)).mono ?_
  rintro e w1 ⟨x1, k1, rfl, _, hx1, b1⟩
  go_wp2_with fail
  refine (toS a1 n1 c1 ys _ (h1.below b1) (by omega)).mono ?_
  rintro e w2 ⟨x2, k2, rfl, _, hx2, b2⟩
  go_wp2_with fail
  refine (specCom x1 x2 n0 n1 k1 k2 xs ys _ (hx1.below b2) hx2 (by omega) (by omega)).mono ?_
  rintro e w3 ⟨c, q3, rfl, hcom, rfl⟩
  have g2 := b1.trans (b2.mono b1.size)
  have g3 := g2.trans ((bel_drewN w2 q3).mono g2.size)
  clear hx1 hx2 b1 b2 g2
  go_wp2_with fail
  refine (toS a0 n0 c0 xs _ (h0.below g3) (by omega)).mono ?_
  rintro e w4 ⟨x4, k4, rfl, _, hx4, b4⟩
  have g4 := g3.trans (b4.mono g3.size)
  clear g3
  go_wp2_with fail
  refine (toS a1 n1 c1 ys _ (h1.below g4) (by omega)).mono ?_
  rintro e w5 ⟨x5, k5, rfl, _, hx5, b5⟩
  have g5 := g4.trans (b5.mono g4.size)
  have hx4' := hx4.below b5
  clear g4 hx4 b4 b5
  go_wp2_with fail
  refine (implCom x4 x5 n0 n1 k4 k5 xs ys _ hx4' hx5 (by omega) (by omega)).mono ?_
  rintro e w6 ⟨d, q6, rfl, hcom', rfl⟩
  have g6 := g5.trans ((bel_drewN w5 q6).mono g5.size)
  have hx4'' := hx4'.below (bel_drewN w5 q6)
  have hx5'' := hx5.below (bel_drewN w5 q6)
  have hcd := hcom.uniq hcom'
  subst hcd
  have hne : ((c : Int) != (c : Int)) = false := by simp
  clear g5 hx4' hx5 hcom hcom'
  go_wp2_with fail
  refine (toS a0 n0 c0 xs _ (h0.below g6) (by omega)).mono ?_
  rintro e w7 ⟨x7, k7, rfl, _, hx7, b7⟩
  have g7 := g6.trans (b7.mono g6.size)
  have hx4 := hx4''.below b7
  have hx5 := hx5''.below b7
  clear g6 b7 hx4'' hx5''
  go_wp2_with fail
  refine (eqB x4 x7 n0 k4 k7 xs _ hx4 hx7 (by omega)).mono ?_
  rintro e w8 ⟨q8, rfl, rfl⟩
  have g8 := g7.trans ((bel_drewN w7 q8).mono g7.size)
  have hx5' := hx5.below (bel_drewN w7 q8)
  clear g7 hx4 hx5 hx7
  go_wp2_with fail
  refine (toS a1 n1 c1 ys _ (h1.below g8) (by omega)).mono ?_
  rintro e w9 ⟨x9, k9, rfl, _, hx9, b9⟩
  have g9 := g8.trans (b9.mono g8.size)
  have hx5 := hx5'.below b9
  clear g8 b9 hx5'
  go_wp2_with fail
  refine (eqB x5 x9 n1 k5 k9 ys _ hx5 hx9 (by omega)).mono ?_
  rintro e w10 ⟨q10, rfl, rfl⟩
  have g10 := g9.trans ((bel_drewN w9 q10).mono g9.size)
  clear g9 hx5 hx9
  go_wp2
  go_ret
  exact ⟨rfl, g10⟩
end Go.Proofs.Ytjgoliajgfeehaa
