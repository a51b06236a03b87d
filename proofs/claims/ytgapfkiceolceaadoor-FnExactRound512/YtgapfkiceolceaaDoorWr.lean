/-
  What is proved here: the contract of the specification's Round512.
-/
import Derived.Test.YtgapfkiceolceaaDoorWt
namespace Go.Proofs.YtgapfkiceolceaaDoor
open Go.RowKit

set_option maxHeartbeats 1000000 in
theorem specRound512 (i : Int) (w : World) :
    Calls Tryd.prog 51 #[.int .i64 i] w fun e w' => e = .returned (.tuple #[.int .i64 (r5h i), .int .i64 (r5l i), .bool (r5o i)]) ∧ Below w.heap.size w w' := by
  by_cases h0 : i < 0
  · have hd : r5h i = 0 ∧ r5l i = 0 ∧ r5o i = false := r5_no (by omega)
    have HD : Hid _ := hd
    clear hd
    go_enter Tryd.func51, Tryd.ntmps51
    go_wp2
    go_ret3
    exact ⟨by rw [HD.out.1, HD.out.2.1, HD.out.2.2]; rfl, Below.refl _ _⟩
  by_cases h1 : 80 ≤ i
  · have hd : r5h i = 0 ∧ r5l i = 0 ∧ r5o i = false := r5_no (by omega)
    have HD : Hid _ := hd
    clear hd
    go_enter Tryd.func51, Tryd.ntmps51
    go_wp2
    go_ret3
    exact ⟨by rw [HD.out.1, HD.out.2.1, HD.out.2.2]; rfl, Below.refl _ _⟩
  obtain ⟨k, rfl⟩ := Int.eq_ofNat_of_zero_le (show 0 ≤ i by omega)
  obtain ⟨y, hy⟩ : ∃ y, y = KW.getD k 0 := ⟨_, rfl⟩
  have hyr : 0 ≤ y ∧ y < 18446744073709551616 := by
    rw [hy]
    exact KW_word _ (getD_memW (by rw [KW_len]; omega))
  have hd : r5h (k : Int) = y / 4294967296 ∧ r5l (k : Int) = y % 4294967296 ∧ r5o (k : Int) = true := by
    have e : r5o (k : Int) = true := by unfold r5o; simp only [decide_eq_true_eq]; omega
    unfold r5h r5l
    rw [e, hy]
    exact ⟨rfl, rfl, rfl⟩
  have HD : Hid _ := hd
  have HY : Hid _ := hy
  obtain ⟨hy0, hy1⟩ := hyr
  have hlow := u64_low hy0 hy1
  have hw1 : IntKind.i64.wrap (y / 4294967296) = y / 4294967296 := by rw [IntKind.wrap_i64]; omega
  have hw2 : IntKind.i64.wrap (y % 4294967296) = y % 4294967296 := by rw [IntKind.wrap_i64]; omega
  clear hd hy
  go_enter Tryd.func51, Tryd.ntmps51
  go_wp2_with fail
  refine (specRoundW k (by omega) _).mono ?_
  rintro e w1 ⟨rfl, b1⟩
  rw [← HY.out]
  go_wp2
  go_ret3
  refine ⟨?_, b1⟩
  rw [HD.out.1, HD.out.2.1, HD.out.2.2]
  rfl
end Go.Proofs.YtgapfkiceolceaaDoor
