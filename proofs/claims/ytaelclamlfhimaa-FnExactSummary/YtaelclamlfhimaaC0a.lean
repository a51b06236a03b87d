/-
  What is proved here: records and states as plain data; what the laws' toRec, eqRec, toBoot, eqBoot and both sides' RecOk and BootOk answer.
-/
import Derived.Test.YtaelclamlfhimaaArr
import Derived.Test.YtaelclamlfhimaaApp
import Derived.Test.YtaelclamlfhimaaCin
import Derived.Deep.CutRange
namespace Go.Proofs.Ytaelclamlfhimaa
open Go.RowKit
set_option maxRecDepth 100000
set_option maxHeartbeats 1000000

theorem by_dec0 (P : Prop) [Decidable P] : ∃ R : Bool, decide P = R ∧ Hid (P → R = true) ∧ Hid (¬ P → R = false) := ⟨_, rfl, decide_eq_true, decide_eq_false⟩
/-- A record that may be. -/
abbrev rcOk (k b n f : Int) : Prop := (k = 1 ∧ b = 0 ∧ (0 ≤ n ∧ n ≤ 1000) ∧ f = 0) ∨ (k = 2 ∧ (0 ≤ b ∧ b ≤ 1) ∧ (1 ≤ n ∧ n ≤ 1000) ∧ (0 ≤ f ∧ f ≤ 1000)) ∨
  (k = 3 ∧ (0 ≤ b ∧ b ≤ 1) ∧ (1 ≤ n ∧ n ≤ 1000) ∧ f = 0) ∨ (k = 5 ∧ b = 0 ∧ n = 0 ∧ (0 ≤ f ∧ f ≤ 1000)) ∨ ((k = 4 ∨ k = 6) ∧ b = 0 ∧ n = 0 ∧ f = 0)
/-- A state that may be. -/
abbrev btOk (b n f : Int) (t : Bool) (i o : Int) : Prop := (0 ≤ b ∧ b ≤ 1) ∧ (1 ≤ n ∧ n ≤ 1000) ∧ (0 ≤ f ∧ f ≤ 1000) ∧ (if t = true then (0 ≤ i ∧ i ≤ 3) ∧ (1 ≤ o ∧ o ≤ 1000) else i = 0 ∧ o = 0)
abbrev rcV (k b n f : Int) : Value := .agg #[.int .i64 k, .int .i64 b, .int .i64 n, .int .i64 f]
abbrev btV (b n f : Int) (t : Bool) (i o : Int) : Value := .agg #[.int .i64 b, .int .i64 n, .int .i64 f, .bool t, .int .i64 i, .int .i64 o]

theorem heap_mid (w : World) (a b c : Obj) : (((w.alloc a).alloc b).alloc c).heap[w.heap.size + 1]? = some b := by
  rw [heap_alloc_old _ _ (by simp)]
  have := heap_alloc_new (w.alloc a) b
  simpa using this
theorem toRecC (k b n f : Int) (w : World) : Calls Try.prog 23 #[rcV k b n f] w fun e w' => e = .returned (rcV k b n f) ∧ Below w.heap.size w w' := by
  have B : Hid (∀ o1 o2 o3 : Obj, Below w.heap.size w (((w.alloc o1).alloc o2).alloc o3)) := fun o1 o2 o3 => (((Below.refl _ _).alloc (Nat.le_refl _) _).alloc (by simp) _).alloc (by simp; omega) _
  go_enter Try.func23, Try.ntmps23
  go_wp2
  exact bodyPost_ret (results_cell_row rfl _ _ (w.heap.size + 1) 29 _ (0, 0) _ rfl (heap_mid _ _ _ _) Try.underlying29 rfl (by kernel_rfl)) rfl ⟨rfl, B.out _ _ _⟩
theorem toBootC (b n f : Int) (t : Bool) (i o : Int) (w : World) : Calls Try.prog 37 #[btV b n f t i o] w fun e w' => e = .returned (btV b n f t i o) ∧ Below w.heap.size w w' := by
  have B : Hid (∀ o1 o2 o3 : Obj, Below w.heap.size w (((w.alloc o1).alloc o2).alloc o3)) := fun o1 o2 o3 => (((Below.refl _ _).alloc (Nat.le_refl _) _).alloc (by simp) _).alloc (by simp; omega) _
  go_enter Try.func37, Try.ntmps37
  go_wp2
  exact bodyPost_ret (results_cell_row rfl _ _ (w.heap.size + 1) 35 _ (0, 0) _ rfl (heap_mid _ _ _ _) Try.underlying35 rfl (by kernel_rfl)) rfl ⟨rfl, B.out _ _ _⟩
theorem eqRecC (k b n f : Int) (w : World) : Calls Try.prog 31 #[rcV k b n f, rcV k b n f] w fun e w' => e = .returned (.bool true) ∧ Below w.heap.size w w' := by
  have B : Hid (∀ o1 o2 : Obj, Below w.heap.size w ((w.alloc o1).alloc o2)) := fun o1 o2 => ((Below.refl _ _).alloc (Nat.le_refl _) _).alloc (by simp) _
  have h1 : (k != k) = false := by simp
  have h2 : (b != b) = false := by simp
  have h3 : (n != n) = false := by simp
  have h4 : (f != f) = false := by simp
  go_enter Try.func31, Try.ntmps31
  go_wp2
  go_ret
  exact ⟨rfl, B.out _ _⟩
theorem eqBootC (b n f : Int) (t : Bool) (i o : Int) (w : World) : Calls Try.prog 40 #[btV b n f t i o, btV b n f t i o] w fun e w' => e = .returned (.bool true) ∧ Below w.heap.size w w' := by
  have B : Hid (∀ o1 o2 : Obj, Below w.heap.size w ((w.alloc o1).alloc o2)) := fun o1 o2 => ((Below.refl _ _).alloc (Nat.le_refl _) _).alloc (by simp) _
  have h1 : (i != i) = false := by simp
  have h2 : (b != b) = false := by simp
  have h3 : (n != n) = false := by simp
  have h4 : (f != f) = false := by simp
  have h5 : (o != o) = false := by simp
  have h6 : (t != t) = false := by simp
  go_enter Try.func40, Try.ntmps40
  go_wp2
  go_ret
  exact ⟨rfl, B.out _ _⟩
theorem spec8ver (n : Int) (w : World) : Calls Try.prog 62 #[.int .i64 n] w fun e w' => e = .returned (.bool (decide (0 ≤ n ∧ n ≤ 1000))) ∧ w' = w := by
  obtain ⟨R, hR, HT, HF⟩ := by_dec0 (0 ≤ n ∧ n ≤ 1000)
  rw [hR]
  clear hR
  by_cases h1 : 0 ≤ n
  · by_cases h2 : n ≤ 1000
    all_goals
      go_enter Try.func62, Try.ntmps62
      go_wp2
      go_ret
      exact ⟨by first | (rw [HF.out (by omega)]; rfl) | (rw [HT.out (by omega)]; rfl), rfl⟩
  · go_enter Try.func62, Try.ntmps62
    go_wp2
    go_ret
    exact ⟨by first | (rw [HF.out (by omega)]; rfl) | (rw [HT.out (by omega)]; rfl), rfl⟩
theorem implIsVer (n : Int) (w : World) : Calls Try.prog 58 #[.int .i64 n] w fun e w' => e = .returned (.bool (decide (0 ≤ n ∧ n ≤ 1000))) ∧ w' = w := by
  obtain ⟨R, hR⟩ : ∃ R, decide (0 ≤ n ∧ n ≤ 1000) = R := ⟨_, rfl⟩
  rw [hR]
  have HR : Hid _ := hR
  clear hR
  go_enter Try.func58, Try.ntmps58
  go_wp2_with fail
  refine (implIsIn n 0 1000 _).mono ?_
  rintro e w1 ⟨rfl, hw⟩
  rw [hw, HR.out]
  go_wp2
  go_ret
  exact ⟨rfl, rfl⟩
theorem implIsNum (n : Int) (w : World) : Calls Try.prog 60 #[.int .i64 n] w fun e w' => e = .returned (.bool (decide (1 ≤ n ∧ n ≤ 1000))) ∧ w' = w := by
  obtain ⟨R, hR⟩ : ∃ R, decide (1 ≤ n ∧ n ≤ 1000) = R := ⟨_, rfl⟩
  rw [hR]
  have HR : Hid _ := hR
  clear hR
  go_enter Try.func60, Try.ntmps60
  go_wp2_with fail
  refine (implIsIn n 1 1000 _).mono ?_
  rintro e w1 ⟨rfl, hw⟩
  rw [hw, HR.out]
  go_wp2
  go_ret
  exact ⟨rfl, rfl⟩
theorem implIsBank (n : Int) (w : World) : Calls Try.prog 59 #[.int .i64 n] w fun e w' => e = .returned (.bool (decide (0 ≤ n ∧ n ≤ 1))) ∧ w' = w := by
  obtain ⟨R, hR⟩ : ∃ R, decide (0 ≤ n ∧ n ≤ 1) = R := ⟨_, rfl⟩
  rw [hR]
  have HR : Hid _ := hR
  clear hR
  go_enter Try.func59, Try.ntmps59
  go_wp2_with fail
  refine (implIsIn n 0 1 _).mono ?_
  rintro e w1 ⟨rfl, hw⟩
  rw [hw, HR.out]
  go_wp2
  go_ret
  exact ⟨rfl, rfl⟩
end Go.Proofs.Ytaelclamlfhimaa
