/-
  What is proved here: contracts of the program's halvesOf, Round512 and Sha512, at every argument; where the program's variables hold what its text lays into them.
-/
import Derived.Test.YtgapfkiceolceaaDoorGzw
namespace Go.Proofs.YtgapfkiceolceaaDoor
open Go.RowKit
set_option maxRecDepth 100000

set_option maxHeartbeats 400000 in
theorem halvesC (x : Int) (h0 : 0 ≤ x) (h1 : x < 18446744073709551616) (w : World) :
    Calls Tryd.prog 70 #[.int .u64 x] w fun e w' => e = .returned (.tuple #[.int .i64 (x / 4294967296), .int .i64 (x % 4294967296)]) ∧ w' = w := by
  have e1 : IntKind.i64.wrap (x / 4294967296) = x / 4294967296 := by rw [IntKind.wrap_i64]; omega
  have e2 : bits .and .u64 x 4294967295 = x % 4294967296 := u64_low h0 h1
  have e3 : IntKind.i64.wrap (x % 4294967296) = x % 4294967296 := by rw [IntKind.wrap_i64]; omega
  go_enter Tryd.func70, Tryd.ntmps70
  go_wp2
  go_ret2
  exact ⟨rfl, rfl⟩

set_option maxHeartbeats 1000000 in
theorem implRound512 (i : Int) (w : World) (ht : Vr w 2 (U64 KW)) :
    Calls Tryd.prog 31 #[.int .i64 i] w fun e w' => e = .returned (.tuple #[.int .i64 (r5h i), .int .i64 (r5l i), .bool (r5o i)]) ∧ Below w.heap.size w w' := by
  by_cases hin : 0 ≤ i ∧ i < 80
  · obtain ⟨k, rfl⟩ : ∃ k : Nat, i = (k : Int) := ⟨i.toNat, by omega⟩
    have hk : k < 80 := by omega
    obtain ⟨x, hx⟩ : ∃ x, x = KW.getD k 0 := ⟨_, rfl⟩
    have hc : w.cell? ⟨2, k, none⟩ = some (.int .u64 x) := by rw [hx]; exact ht.int k (by rw [KW_len]; exact hk)
    have hxb : 0 ≤ x ∧ x < 18446744073709551616 := by rw [hx]; exact KW_word _ (getD_memW (by rw [KW_len]; exact hk))
    have ro : r5o (k : Int) = true := by unfold r5o; simp; omega
    have rh : r5h (k : Int) = x / 4294967296 := by unfold r5h; rw [if_pos ro, hx]; simp
    have rl : r5l (k : Int) = x % 4294967296 := by unfold r5l; rw [if_pos ro, hx]; simp
    rw [ro, rh, rl]
    clear ro rh rl hx ht
    have h80 : ¬ ((80 : Int) ≤ (k : Int)) := by omega
    have hk80 : (k : Int) < 80 := by omega
    have hk0 : ¬ ((k : Int) < 0) := by omega
    go_enter Tryd.func31, Tryd.ntmps31
    go_wp2_with fail
    refine (halvesC x hxb.1 hxb.2 _).mono ?_
    rintro e w' ⟨rfl, hw'⟩
    rw [hw']
    clear hw' w'
    go_wp2
    go_ret3
    exact ⟨rfl, Below.refl _ _⟩
  · obtain ⟨rh, rl, ro⟩ := r5_no hin
    rw [ro, rh, rl]
    clear ro rh rl ht
    go_enter Tryd.func31, Tryd.ntmps31
    by_cases h0 : i < 0
    · go_wp2
      go_ret3
      exact ⟨rfl, Below.refl _ _⟩
    · have h80 : (80 : Int) ≤ i := by omega
      go_wp2
      go_ret3
      exact ⟨rfl, Below.refl _ _⟩
end Go.Proofs.YtgapfkiceolceaaDoor
