/-
  What is proved here: the exact law of GetNum returns true at every slice and every number, and writes into nothing that was there.
-/
import Derived.Test.YtjgoliajgfeehaaGet2
namespace Go.Proofs.Ytjgoliajgfeehaa
open Go.RowKit
open Ma

theorem i64_wf {n : Int} (h : (Lit.int .i64 n).wf = true) : -9223372036854775808 ≤ n ∧ n ≤ 9223372036854775807 := by
  have h1 : IntKind.i64.min ≤ n ∧ n ≤ IntKind.i64.max := by simpa [Lit.wf] using h
  simp [IntKind.min, IntKind.max, IntKind.signed, IntKind.bits] at h1
  omega

set_option maxHeartbeats 400000 in
theorem walk_fnExactGetNum (w : World) (a0 : Option Addr) (n0 c0 : Nat) (xs : List Int) (h0 : Bs w a0 n0 c0 xs) (P : Int) (hP : (Lit.int .i64 P).wf = true) :
    Calls Try.prog 7 #[.slice a0 n0 c0, .int .i64 P] w fun e w' => e = .returned (.bool true) ∧ Below w.heap.size w w' := by
  obtain ⟨_, hPm⟩ := i64_wf hP
  clear hP
  by_cases hb0 : 1048576 < (n0 : Int)
  · go_enter Try.func7, Try.ntmps7
    go_wp2
    go_ret
    exact ⟨rfl, Below.refl _ _⟩
  have HS := fun a n cap w h hn => specGet a n cap xs P w h hn hPm
  have HI := fun a n cap w h hn => implGet a n cap xs P w h hn hPm
  generalize getN xs P = r at HS HI
  obtain ⟨r1, r2⟩ := r
  have hne1 : (r1 != r1) = false := by simp
  have hne2 : (r2 != r2) = false := by simp
  have HS' : Hid _ := HS
  have HI' : Hid _ := HI
  clear HS HI hPm
  go_enter Try.func7, Try.ntmps7
  go_wp2_with fail
  refine (toS a0 n0 c0 xs _ h0 (by omega)).mono ?_
  rintro e w1 ⟨x1, k1, rfl, _, hx1, b1⟩
  go_wp2_with fail
  refine (HS'.out x1 n0 k1 _ hx1 (by omega)).mono ?_
  rintro e w2 ⟨rfl, rfl⟩
  clear hx1
  go_wp2_with fail
  refine (toS a0 n0 c0 xs _ (h0.below b1) (by omega)).mono ?_
  rintro e w3 ⟨x3, k3, rfl, _, hx3, b3⟩
  have g3 := b1.trans (b3.mono b1.size)
  clear b1 b3
  go_wp2_with fail
  refine (HI'.out x3 n0 k3 _ hx3 (by omega)).mono ?_
  rintro e w4 ⟨rfl, rfl⟩
  go_wp2_with fail
  refine (toS a0 n0 c0 xs _ (h0.below g3) (by omega)).mono ?_
  rintro e w5 ⟨x5, k5, rfl, _, hx5, b5⟩
  have g5 := g3.trans (b5.mono g3.size)
  have hx3' := hx3.below b5
  clear g3 b5 hx3
  go_wp2_with fail
  refine (eqB x3 x5 n0 k3 k5 xs _ hx3' hx5 (by omega)).mono ?_
  rintro e w6 ⟨q6, rfl, rfl⟩
  have g6 := g5.trans ((bel_drewN w5 q6).mono g5.size)
  clear g5 hx3' hx5
  go_wp2
  go_ret
  exact ⟨rfl, g6⟩
end Go.Proofs.Ytjgoliajgfeehaa
