/-
  What is proved here: what the program's functions that only read a flash answer: isNoWear, isWritten, isPlace, isAcross, maskAt, slices.IndexFunc and slices.ContainsFunc at them, FlashOk.
-/
import Derived.Test.YtgfjbaigmkdbcaaF9b
import Derived.Test.YtgfjbaigmkdbcaaCin
namespace Go.Proofs.Ytgfjbaigmkdbcaa
set_option maxRecDepth 100000
open Go.RowKit
set_option maxHeartbeats 1000000

theorem implNoWear (n : Int) (w : World) : Calls Try.prog 147 #[.int .i64 n] w fun e w' => e = .returned (.bool (!decide (0 ≤ n ∧ n ≤ 200))) ∧ w' = w := by
  obtain ⟨R, hR⟩ : ∃ R, decide (0 ≤ n ∧ n ≤ 200) = R := ⟨_, rfl⟩
  rw [hR]
  have HR : Hid _ := hR
  clear hR
  go_enter Try.func147, Try.ntmps147
  go_wp2_with fail
  refine (implIsIn n 0 200 _).mono ?_
  rintro e w1 ⟨rfl, hw⟩
  rw [hw, HR.out]
  go_wp2
  go_ret
  exact ⟨rfl, rfl⟩
theorem implWritten (n : Int) (w : World) : Calls Try.prog 143 #[.int .u8 n] w fun e w' => e = .returned (.bool (n != 255)) ∧ w' = w := by
  go_enter Try.func143, Try.ntmps143
  go_wp2
  go_ret
  exact ⟨rfl, rfl⟩
theorem indexWear (a : Option Addr) (n c : Nat) (xs : List Int) (w : World) (h : Is w a n c xs) (hn : n ≤ 2097152) :
    Calls Try.prog 158 #[.slice a n c, .func (.func 147) #[] #[]] w fun e w' => ∃ r : Int, e = .returned (.int .i64 r) ∧ decide (0 ≤ r) = !wrOk xs ∧ w' = w := by
  obtain ⟨_, hl, hc, _, h⟩ := h
  go_enter Try.func158, Try.ntmps158
  go_wp2
  go_loop [8] (fun i => ∃ k : Nat, k ≤ n ∧ i = .int .i64 k ∧ ∀ x ∈ xs.take k, 0 ≤ x ∧ x ≤ 200) (fun i => n - (intOf i).toNat)
  case atStart => exact ⟨0, Nat.zero_le _, rfl, by simp⟩
  case round =>
    obtain ⟨k, hk, rfl, hall⟩ := hrel
    have HL : Hid _ := hall
    clear hall
    by_cases hlt : k < n
    · rcases h with h | ⟨b, o, rfl, hbs, hcell⟩
      · omega
      obtain ⟨x, hx⟩ : ∃ x, x = xs.getD k 0 := ⟨_, rfl⟩
      have hck : w.cell? ⟨b, o + k, none⟩ = some (.int .i64 x) := by rw [hx]; exact hcell k hlt
      have HX : Hid _ := hx
      clear hx hcell
      go_wp2_with fail
      refine (implNoWear x _).mono ?_
      rintro e w1 ⟨rfl, hw⟩
      rw [hw]
      clear hw
      by_cases g1 : 0 ≤ x ∧ x ≤ 200
      · rw [decide_eq_true g1]
        have G1 : Hid _ := g1
        clear g1
        go_wp2
        go_round
        case rel => exact ⟨k + 1, by omega, by go_num, all_take HL.out (by omega) (by rw [← HX.out]; exact G1.out)⟩
        case measure => simp [intOf]; omega
      · rw [decide_eq_false g1]
        have : wrOk xs = false := by
          unfold wrOk; rw [decide_eq_false_iff_not]
          exact not_all (k := k) (by omega) (by rw [← HX.out]; exact g1)
        go_wp2
        go_ret
        exact ⟨k, rfl, by rw [this]; simp, rfl⟩
    · have hkn : k = n := by omega
      subst hkn
      have : wrOk xs = true := by
        unfold wrOk; rw [decide_eq_true_eq]
        have := HL.out
        rwa [List.take_of_length_le (by omega)] at this
      go_wp2
      go_ret
      exact ⟨-1, rfl, by omega, rfl⟩
theorem indexWritten (a : Option Addr) (n c : Nat) (xs : List Int) (w : World) (h : Bs w a n c xs) (hn : n ≤ 2097152) :
    Calls Try.prog 158 #[.slice a n c, .func (.func 143) #[] #[]] w fun e w' => ∃ r : Int, e = .returned (.int .i64 r) ∧ decide (0 ≤ r) = !blk xs ∧ w' = w := by
  obtain ⟨_, hl, hc, _, h⟩ := h
  go_enter Try.func158, Try.ntmps158
  go_wp2
  go_loop [8] (fun i => ∃ k : Nat, k ≤ n ∧ i = .int .i64 k ∧ ∀ x ∈ xs.take k, x = 255) (fun i => n - (intOf i).toNat)
  case atStart => exact ⟨0, Nat.zero_le _, rfl, by simp⟩
  case round =>
    obtain ⟨k, hk, rfl, hall⟩ := hrel
    have HL : Hid _ := hall
    clear hall
    by_cases hlt : k < n
    · rcases h with h | ⟨b, o, rfl, hbs, hcell⟩
      · omega
      obtain ⟨x, hx⟩ : ∃ x, x = xs.getD k 0 := ⟨_, rfl⟩
      have hck : w.cell? ⟨b, o + k, none⟩ = some (.int .u8 x) := by rw [hx]; exact hcell k hlt
      have HX : Hid _ := hx
      clear hx hcell
      go_wp2_with fail
      refine (implWritten x _).mono ?_
      rintro e w1 ⟨rfl, hw⟩
      rw [hw]
      clear hw
      by_cases g1 : x = 255
      · rw [show (x != 255) = false by simpa using g1]
        have G1 : Hid _ := g1
        clear g1
        go_wp2
        go_round
        case rel => exact ⟨k + 1, by omega, by go_num, all_take HL.out (by omega) (by rw [← HX.out]; exact G1.out)⟩
        case measure => simp [intOf]; omega
      · rw [show (x != 255) = true by simpa using g1]
        have : blk xs = false := by
          unfold blk; rw [decide_eq_false_iff_not]
          exact not_all (k := k) (by omega) (by rw [← HX.out]; exact g1)
        go_wp2
        go_ret
        exact ⟨k, rfl, by rw [this]; simp, rfl⟩
    · have hkn : k = n := by omega
      subst hkn
      have : blk xs = true := by
        unfold blk; rw [decide_eq_true_eq]
        have := HL.out
        rwa [List.take_of_length_le (by omega)] at this
      go_wp2
      go_ret
      exact ⟨-1, rfl, by omega, rfl⟩
theorem hasWear (a : Option Addr) (n c : Nat) (xs : List Int) (w : World) (h : Is w a n c xs) (hn : n ≤ 2097152) :
    Calls Try.prog 146 #[.slice a n c, .func (.func 147) #[] #[]] w fun e w' => e = .returned (.bool (!wrOk xs)) ∧ w' = w := by
  go_enter Try.func146, Try.ntmps146
  go_wp2_with fail
  refine (indexWear a n c xs _ h hn).mono ?_
  rintro e w1 ⟨r, rfl, hr, hw⟩
  rw [hw]
  have HR : Hid _ := hr
  clear hw hr
  go_wp2
  go_ret
  exact ⟨by rw [← HR.out]; rfl, rfl⟩
theorem hasWritten (a : Option Addr) (n c : Nat) (xs : List Int) (w : World) (h : Bs w a n c xs) (hn : n ≤ 2097152) :
    Calls Try.prog 146 #[.slice a n c, .func (.func 143) #[] #[]] w fun e w' => e = .returned (.bool (!blk xs)) ∧ w' = w := by
  go_enter Try.func146, Try.ntmps146
  go_wp2_with fail
  refine (indexWritten a n c xs _ h hn).mono ?_
  rintro e w1 ⟨r, rfl, hr, hw⟩
  rw [hw]
  have HR : Hid _ := hr
  clear hw hr
  go_wp2
  go_ret
  exact ⟨by rw [← HR.out]; rfl, rfl⟩
theorem implFlashOk (aB : Option Addr) (nB cB : Nat) (aW : Option Addr) (nW cW : Nat) (bs ws : List Int) (w : World) (hB : Bs w aB nB cB bs) (hW : Is w aW nW cW ws) (hn : nB ≤ 2097152) (hm : nW ≤ 2097152) :
    Calls Try.prog 115 #[flV aB nB cB aW nW cW] w fun e w' => e = .returned (.bool (flOk bs ws)) ∧ Below w.heap.size w w' := by
  have hbl := hB.2.1
  have hwl := hW.2.1
  have HB : Hid (Below w.heap.size w (w.alloc (.cells #[.slice aB nB cB, .slice aW nW cW] 68))) := (Below.refl _ _).alloc (Nat.le_refl _) _
  have hW' := hW.below HB.out
  clear hB hW
  by_cases h1 : nB = 3072
  · have h1' : ((nB : Int) == 3072) = true := by subst h1; rfl
    by_cases h2 : nW = 48
    · have h2' : ((nW : Int) == 48) = true := by subst h2; rfl
      have HE : Hid (flOk bs ws = wrOk ws) := by unfold Hid flOk; simp [hbl, hwl, h1, h2]
      clear h1 h2
      go_enter Try.func115, Try.ntmps115
      go_wp2_with fail
      refine (hasWear aW nW cW ws _ hW' hm).mono ?_
      rintro e w1 ⟨rfl, hw⟩
      rw [hw]
      clear hw
      go_wp2
      go_ret
      exact ⟨by rw [HE.out]; simp, HB.out⟩
    · have h2' : ((nW : Int) == 48) = false := by simp; omega
      have HE : Hid (flOk bs ws = false) := by unfold Hid flOk; simp [hbl, hwl, h1, h2]
      clear h1 h2
      go_enter Try.func115, Try.ntmps115
      go_wp2
      go_ret
      exact ⟨by rw [HE.out]; rfl, HB.out⟩
  · have h1' : ((nB : Int) == 3072) = false := by simp; omega
    have HE : Hid (flOk bs ws = false) := by unfold Hid flOk; simp [hbl, h1]
    go_enter Try.func115, Try.ntmps115
    go_wp2
    go_ret
    exact ⟨by rw [HE.out]; rfl, HB.out⟩
end Go.Proofs.Ytgfjbaigmkdbcaa
