/-
  What is proved here: what the program's functions that only read a flash answer: isNoWear, isWritten, isPlace, isAcross, maskAt, slices.IndexFunc and slices.ContainsFunc at them, FlashOk.
-/
import Derived.Test.YtcnlpdpbkkjkoaaF9b
import Derived.Test.YtcnlpdpbkkjkoaaCin
namespace Go.Proofs.Ytcnlpdpbkkjkoaa
set_option maxRecDepth 100000
open Go.RowKit
set_option maxHeartbeats 1000000

theorem implNoWear (n : Int) (w : World) : Calls Try.prog 78 #[.int .i64 n] w fun e w' => e = .returned (.bool (!decide (0 ≤ n ∧ n ≤ 200))) ∧ w' = w := by
  obtain ⟨R, hR⟩ : ∃ R, decide (0 ≤ n ∧ n ≤ 200) = R := ⟨_, rfl⟩
  rw [hR]
  have HR : Hid _ := hR
  clear hR
  go_enter Try.func78, Try.ntmps78
  go_wp2_with fail
  refine (implIsIn n 0 200 _).mono ?_
  rintro e w1 ⟨rfl, hw⟩
  rw [hw, HR.out]
  go_wp2
  go_ret
  exact ⟨rfl, rfl⟩
theorem implWritten (n : Int) (w : World) : Calls Try.prog 64 #[.int .u8 n] w fun e w' => e = .returned (.bool (n != 255)) ∧ w' = w := by
  go_enter Try.func64, Try.ntmps64
  go_wp2
  go_ret
  exact ⟨rfl, rfl⟩
theorem indexWear (a : Option Addr) (n c : Nat) (xs : List Int) (w : World) (h : Is w a n c xs) (hn : n ≤ 2097152) :
    Calls Try.prog 95 #[.slice a n c, .func (.func 78) #[] #[]] w fun e w' => ∃ r : Int, e = .returned (.int .i64 r) ∧ decide (0 ≤ r) = !wrOk xs ∧ w' = w := by
  obtain ⟨_, hl, hc, _, h⟩ := h
  go_enter Try.func95, Try.ntmps95
  go_wp2
  go_loop [8] (fun i => ∃ k : Nat, k ≤ n ∧ i = .int .i64 k ∧ ∀ x ∈ xs.take k, 0 ≤ x ∧ x ≤ 200) (fun i => n - (intOf i).toNat)
  case atStart => exact ⟨0, Nat.zero_le _, rfl, by simp⟩
  case round =>
    obtain ⟨k, hk, rfl, hall⟩ := hrel
    have HL : Hid _ := hall
    clear hall
    by_cases hlt : k < n
    · rcases h with h | ⟨b, o, rfl, hbs, hcell⟩
      · omega
      obtain ⟨x, hx⟩ : ∃ x, x = xs.getD k 0 := ⟨_, rfl⟩
      have hck : w.cell? ⟨b, o + k, none⟩ = some (.int .i64 x) := by rw [hx]; exact hcell k hlt
      have HX : Hid _ := hx
      clear hx hcell
      go_wp2_with fail
      refine (implNoWear x _).mono ?_
      rintro e w1 ⟨rfl, hw⟩
      rw [hw]
      clear hw
      by_cases g1 : 0 ≤ x ∧ x ≤ 200
      · rw [decide_eq_true g1]
        have G1 : Hid _ := g1
        clear g1
        go_wp2
        go_round
        case rel => exact ⟨k + 1, by omega, by go_num, all_take HL.out (by omega) (by rw [← HX.out]; exact G1.out)⟩
        case measure => simp [intOf]; omega
      · rw [decide_eq_false g1]
        have : wrOk xs = false := by
          unfold wrOk; rw [decide_eq_false_iff_not]
          exact not_all (k := k) (by omega) (by rw [← HX.out]; exact g1)
        go_wp2
        go_ret
        exact ⟨k, rfl, by rw [this]; simp, rfl⟩
    · have hkn : k = n := by omega
      subst hkn
      have : wrOk xs = true := by
        unfold wrOk; rw [decide_eq_true_eq]
        have := HL.out
        rwa [List.take_of_length_le (by omega)] at this
      go_wp2
      go_ret
      exact ⟨-1, rfl, by omega, rfl⟩
theorem indexWritten (a : Option Addr) (n c : Nat) (xs : List Int) (w : World) (h : Bs w a n c xs) (hn : n ≤ 2097152) :
    Calls Try.prog 89 #[.slice a n c, .func (.func 64) #[] #[]] w fun e w' => ∃ r : Int, e = .returned (.int .i64 r) ∧ decide (0 ≤ r) = !blk xs ∧ w' = w := by
  obtain ⟨_, hl, hc, _, h⟩ := h
  go_enter Try.func89, Try.ntmps89
  go_wp2
  go_loop [8] (fun i => ∃ k : Nat, k ≤ n ∧ i = .int .i64 k ∧ ∀ x ∈ xs.take k, x = 255) (fun i => n - (intOf i).toNat)
  case atStart => exact ⟨0, Nat.zero_le _, rfl, by simp⟩
  case round =>
    obtain ⟨k, hk, rfl, hall⟩ := hrel
    have HL : Hid _ := hall
    clear hall
    by_cases hlt : k < n
    · rcases h with h | ⟨b, o, rfl, hbs, hcell⟩
      · omega
      obtain ⟨x, hx⟩ : ∃ x, x = xs.getD k 0 := ⟨_, rfl⟩
      have hck : w.cell? ⟨b, o + k, none⟩ = some (.int .u8 x) := by rw [hx]; exact hcell k hlt
      have HX : Hid _ := hx
      clear hx hcell
      go_wp2_with fail
      refine (implWritten x _).mono ?_
      rintro e w1 ⟨rfl, hw⟩
      rw [hw]
      clear hw
      by_cases g1 : x = 255
      · rw [show (x != 255) = false by simpa using g1]
        have G1 : Hid _ := g1
        clear g1
        go_wp2
        go_round
        case rel => exact ⟨k + 1, by omega, by go_num, all_take HL.out (by omega) (by rw [← HX.out]; exact G1.out)⟩
        case measure => simp [intOf]; omega
      · rw [show (x != 255) = true by simpa using g1]
        have : blk xs = false := by
          unfold blk; rw [decide_eq_false_iff_not]
          exact not_all (k := k) (by omega) (by rw [← HX.out]; exact g1)
        go_wp2
        go_ret
        exact ⟨k, rfl, by rw [this]; simp, rfl⟩
    · have hkn : k = n := by omega
      subst hkn
      have : blk xs = true := by
        unfold blk; rw [decide_eq_true_eq]
        have := HL.out
        rwa [List.take_of_length_le (by omega)] at this
      go_wp2
      go_ret
      exact ⟨-1, rfl, by omega, rfl⟩
theorem hasWear (a : Option Addr) (n c : Nat) (xs : List Int) (w : World) (h : Is w a n c xs) (hn : n ≤ 2097152) :
    Calls Try.prog 77 #[.slice a n c, .func (.func 78) #[] #[]] w fun e w' => e = .returned (.bool (!wrOk xs)) ∧ w' = w := by
  go_enter Try.func77, Try.ntmps77
  go_wp2_with fail
  refine (indexWear a n c xs _ h hn).mono ?_
  rintro e w1 ⟨r, rfl, hr, hw⟩
  rw [hw]
  have HR : Hid _ := hr
  clear hw hr
  go_wp2
  go_ret
  exact ⟨by rw [← HR.out]; rfl, rfl⟩
theorem hasWritten (a : Option Addr) (n c : Nat) (xs : List Int) (w : World) (h : Bs w a n c xs) (hn : n ≤ 2097152) :
    Calls Try.prog 63 #[.slice a n c, .func (.func 64) #[] #[]] w fun e w' => e = .returned (.bool (!blk xs)) ∧ w' = w := by
  go_enter Try.func63, Try.ntmps63
  go_wp2_with fail
  refine (indexWritten a n c xs _ h hn).mono ?_
  rintro e w1 ⟨r, rfl, hr, hw⟩
  rw [hw]
  have HR : Hid _ := hr
  clear hw hr
  go_wp2
  go_ret
  exact ⟨by rw [← HR.out]; rfl, rfl⟩
theorem implFlashOk (aB : Option Addr) (nB cB : Nat) (aW : Option Addr) (nW cW : Nat) (bs ws : List Int) (w : World) (hB : Bs w aB nB cB bs) (hW : Is w aW nW cW ws) (hn : nB ≤ 2097152) (hm : nW ≤ 2097152) :
    Calls Try.prog 33 #[flV aB nB cB aW nW cW] w fun e w' => e = .returned (.bool (flOk bs ws)) ∧ Below w.heap.size w w' := by
  have hbl := hB.2.1
  have hwl := hW.2.1
  have HB : Hid (Below w.heap.size w (w.alloc (.cells #[.slice aB nB cB, .slice aW nW cW] 25))) := (Below.refl _ _).alloc (Nat.le_refl _) _
  have hW' := hW.below HB.out
  clear hB hW
  by_cases h1 : nB = 3072
  · have h1' : ((nB : Int) == 3072) = true := by subst h1; rfl
    by_cases h2 : nW = 48
    · have h2' : ((nW : Int) == 48) = true := by subst h2; rfl
      have HE : Hid (flOk bs ws = wrOk ws) := by unfold Hid flOk; simp [hbl, hwl, h1, h2]
      clear h1 h2
      go_enter Try.func33, Try.ntmps33
      go_wp2_with fail
      refine (hasWear aW nW cW ws _ hW' hm).mono ?_
      rintro e w1 ⟨rfl, hw⟩
      rw [hw]
      clear hw
      go_wp2
      go_ret
      exact ⟨by rw [HE.out]; simp, HB.out⟩
    · have h2' : ((nW : Int) == 48) = false := by simp; omega
      have HE : Hid (flOk bs ws = false) := by unfold Hid flOk; simp [hbl, hwl, h1, h2]
      clear h1 h2
      go_enter Try.func33, Try.ntmps33
      go_wp2
      go_ret
      exact ⟨by rw [HE.out]; rfl, HB.out⟩
  · have h1' : ((nB : Int) == 3072) = false := by simp; omega
    have HE : Hid (flOk bs ws = false) := by unfold Hid flOk; simp [hbl, h1]
    go_enter Try.func33, Try.ntmps33
    go_wp2
    go_ret
    exact ⟨by rw [HE.out]; rfl, HB.out⟩
set_option linter.unusedVariables false in
theorem implPlace (i n : Int) (w : World) (h0 : -9223372036854775808 ≤ i) (h1 : i ≤ 9223372036854775807) (h2 : -9223372036854775808 ≤ n) (h3 : n ≤ 9223372036854775807) :
    Calls Try.prog 62 #[.int .i64 i, .int .i64 n] w fun e w' => e = .returned (.bool (inF i n)) ∧ w' = w := by
  by_cases g0 : 0 ≤ i
  · by_cases g1 : 0 ≤ n
    · have e : inF i n = decide (n ≤ 3072 - i) := by unfold inF; simp [g0, g1]
      rw [e]
      have hw : wrap64 (3072 - i) = 3072 - i := by unfold wrap64; omega
      go_enter Try.func62, Try.ntmps62
      go_wp2
      go_ret
      exact ⟨by simp, rfl⟩
    · have e : inF i n = false := by unfold inF; simp [g1]
      rw [e]
      go_enter Try.func62, Try.ntmps62
      go_wp2
      go_ret
      exact ⟨rfl, rfl⟩
  · have e : inF i n = false := by unfold inF; simp [g0]
    rw [e]
    go_enter Try.func62, Try.ntmps62
    go_wp2
    go_ret
    exact ⟨rfl, rfl⟩
theorem implMaskAt (a : Option Addr) (n cap : Nat) (xs : List Int) (i : Nat) (w : World) (h : Bs w a n cap xs) (hn : n ≤ 2097152) (hi : i ≤ 2097152) :
    Calls Try.prog 92 #[.slice a n cap, .int .i64 i] w fun e w' => e = .returned (.int .u8 (mk xs i)) ∧ w' = w := by
  obtain ⟨_, hl, hc, _, h⟩ := h
  by_cases h0 : n = 0
  · subst h0
    have e : mk xs i = 0 := by unfold mk; simp [hl]
    rw [e]
    go_enter Try.func92, Try.ntmps92
    go_wp2
    go_ret
    exact ⟨rfl, rfl⟩
  · rcases h with h | ⟨b, o, rfl, hbs, hcell⟩
    · exact absurd h h0
    have hr : (i : Int).tmod (n : Int) = ((i % n : Nat) : Int) := by rw [Int.tmod_eq_emod_of_nonneg (by omega)]; rfl
    have hlt : i % n < n := Nat.mod_lt _ (by omega)
    have e : mk xs i = xs.getD (i % n) 0 := by unfold mk; rw [if_neg (by omega), hl]
    have hck : w.cell? ⟨b, o + i % n, none⟩ = some (.int .u8 (mk xs i)) := by rw [e]; exact hcell (i % n) hlt
    clear e
    have h0' : ((n : Int) == 0) = false := by simp; omega
    have h0'' : (n : Int) ≠ 0 := by omega
    clear hcell
    generalize mk xs i = y at *
    generalize i % n = j at *
    go_enter Try.func92, Try.ntmps92
    go_wp2
    go_ret
    exact ⟨rfl, rfl⟩
end Go.Proofs.Ytcnlpdpbkkjkoaa
