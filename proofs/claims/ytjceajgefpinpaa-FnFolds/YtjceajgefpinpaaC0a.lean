/-
  What is proved here: what the laws' eqRec, eqBoot and both sides' small tests of numbers answer.
-/
import Derived.Test.YtjceajgefpinpaaRv
import Derived.Test.YtjceajgefpinpaaCin
import Derived.Deep.CutRange
namespace Go.Proofs.Ytjceajgefpinpaa
open Go.RowKit
set_option maxRecDepth 100000
set_option maxHeartbeats 1000000

theorem eqRecC (k b n f : Int) (w : World) : Calls Try.prog 31 #[rcV k b n f, rcV k b n f] w fun e w' => e = .returned (.bool true) ∧ Below w.heap.size w w' := by
  have B : Hid (∀ o1 o2 : Obj, Below w.heap.size w ((w.alloc o1).alloc o2)) := fun o1 o2 => ((Below.refl _ _).alloc (Nat.le_refl _) _).alloc (by simp) _
  have h1 : (k != k) = false := by simp
  have h2 : (b != b) = false := by simp
  have h3 : (n != n) = false := by simp
  have h4 : (f != f) = false := by simp
  go_enter Try.func31, Try.ntmps31
  go_wp2
  go_ret
  exact ⟨rfl, B.out _ _⟩
theorem eqBootC (b n f : Int) (t : Bool) (i o : Int) (w : World) : Calls Try.prog 40 #[btV b n f t i o, btV b n f t i o] w fun e w' => e = .returned (.bool true) ∧ Below w.heap.size w w' := by
  have B : Hid (∀ o1 o2 : Obj, Below w.heap.size w ((w.alloc o1).alloc o2)) := fun o1 o2 => ((Below.refl _ _).alloc (Nat.le_refl _) _).alloc (by simp) _
  have h1 : (i != i) = false := by simp
  have h2 : (b != b) = false := by simp
  have h3 : (n != n) = false := by simp
  have h4 : (f != f) = false := by simp
  have h5 : (o != o) = false := by simp
  have h6 : (t != t) = false := by simp
  go_enter Try.func40, Try.ntmps40
  go_wp2
  go_ret
  exact ⟨rfl, B.out _ _⟩
theorem spec8ver (n : Int) (w : World) : Calls Try.prog 62 #[.int .i64 n] w fun e w' => e = .returned (.bool (decide (0 ≤ n ∧ n ≤ 1000))) ∧ w' = w := by
  obtain ⟨R, hR, HT, HF⟩ := by_dec0 (0 ≤ n ∧ n ≤ 1000)
  rw [hR]
  clear hR
  by_cases h1 : 0 ≤ n
  · by_cases h2 : n ≤ 1000
    all_goals
      go_enter Try.func62, Try.ntmps62
      go_wp2
      go_ret
      exact ⟨by first | (rw [HF.out (by omega)]; rfl) | (rw [HT.out (by omega)]; rfl), rfl⟩
  · go_enter Try.func62, Try.ntmps62
    go_wp2
    go_ret
    exact ⟨by first | (rw [HF.out (by omega)]; rfl) | (rw [HT.out (by omega)]; rfl), rfl⟩
theorem implIsVer (n : Int) (w : World) : Calls Try.prog 58 #[.int .i64 n] w fun e w' => e = .returned (.bool (decide (0 ≤ n ∧ n ≤ 1000))) ∧ w' = w := by
  obtain ⟨R, hR⟩ : ∃ R, decide (0 ≤ n ∧ n ≤ 1000) = R := ⟨_, rfl⟩
  rw [hR]
  have HR : Hid _ := hR
  clear hR
  go_enter Try.func58, Try.ntmps58
  go_wp2_with fail
  refine (implIsIn n 0 1000 _).mono ?_
  rintro e w1 ⟨rfl, hw⟩
  rw [hw, HR.out]
  go_wp2
  go_ret
  exact ⟨rfl, rfl⟩
theorem implIsNum (n : Int) (w : World) : Calls Try.prog 60 #[.int .i64 n] w fun e w' => e = .returned (.bool (decide (1 ≤ n ∧ n ≤ 1000))) ∧ w' = w := by
  obtain ⟨R, hR⟩ : ∃ R, decide (1 ≤ n ∧ n ≤ 1000) = R := ⟨_, rfl⟩
  rw [hR]
  have HR : Hid _ := hR
  clear hR
  go_enter Try.func60, Try.ntmps60
  go_wp2_with fail
  refine (implIsIn n 1 1000 _).mono ?_
  rintro e w1 ⟨rfl, hw⟩
  rw [hw, HR.out]
  go_wp2
  go_ret
  exact ⟨rfl, rfl⟩
theorem implIsBank (n : Int) (w : World) : Calls Try.prog 59 #[.int .i64 n] w fun e w' => e = .returned (.bool (decide (0 ≤ n ∧ n ≤ 1))) ∧ w' = w := by
  obtain ⟨R, hR⟩ : ∃ R, decide (0 ≤ n ∧ n ≤ 1) = R := ⟨_, rfl⟩
  rw [hR]
  have HR : Hid _ := hR
  clear hR
  go_enter Try.func59, Try.ntmps59
  go_wp2_with fail
  refine (implIsIn n 0 1 _).mono ?_
  rintro e w1 ⟨rfl, hw⟩
  rw [hw, HR.out]
  go_wp2
  go_ret
  exact ⟨rfl, rfl⟩
end Go.Proofs.Ytjceajgefpinpaa
