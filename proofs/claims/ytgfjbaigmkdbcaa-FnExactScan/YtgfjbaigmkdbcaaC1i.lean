/-
  What is proved here: what the program's usedPlaces answers.
-/
import Derived.Test.YtgfjbaigmkdbcaaC1h
namespace Go.Proofs.Ytgfjbaigmkdbcaa
set_option maxRecDepth 100000
set_option maxHeartbeats 4000000
open Go.RowKit
set_option linter.unusedVariables false

theorem blk_pl {xs : List Int} {k : Nat} (h : xs.length = 256) (hk : k < 32) : blk (pl xs k) = true ↔ ∀ j, j < 8 → xs.getD (8 * k + j) 0 = 255 := by
  unfold blk
  rw [decide_eq_true_eq]
  constructor
  · intro ha j hj
    rw [← pl_get hj]
    have hl := pl_len h hk
    have e : (pl xs k).getD j 0 = (pl xs k)[j] := by simp [hl, hj]
    rw [e]
    exact ha _ (List.getElem_mem _)
  · intro ha x hx
    obtain ⟨j, hj, rfl⟩ := List.mem_iff_getElem.1 hx
    have hl := pl_len h hk
    have hj8 : j < 8 := by omega
    have := ha j hj8
    rw [← pl_get hj8] at this
    simpa [hj] using this
theorem scU_of {xs : List Int} {u : Nat} : ∀ K, (∀ k, u ≤ k → k < K → blk (pl xs k) = true) → (u = 0 ∨ (u ≤ K ∧ blk (pl xs (u - 1)) = false)) → scU xs K = u
  | 0, _, h => by rcases h with h | ⟨h, _⟩ <;> simp [scU] <;> omega
  | K + 1, ha, h => by
    unfold scU
    by_cases hb : blk (pl xs K) = true
    · rw [if_pos hb]
      refine scU_of K (fun k h1 h2 => ha k h1 (by omega)) ?_
      rcases h with h | ⟨h, h'⟩
      · exact .inl h
      · by_cases e : u = K + 1
        · rw [e] at h'
          simp at h'
          rw [hb] at h'
          cases h'
        · exact .inr ⟨by omega, h'⟩
    · rw [if_neg hb]
      by_cases hu : u ≤ K
      · exact absurd (ha K hu (by omega)) hb
      · rcases h with h | ⟨h, _⟩ <;> omega
theorem used_eq {xs : List Int} {E : Nat} (hl : xs.length = 256) (hE : E ≤ 256) (ha : ∀ j, E ≤ j → j < 256 → xs.getD j 0 = 255) (he : E = 0 ∨ xs.getD (E - 1) 0 ≠ 255) : scU xs 32 = (E + 7) / 8 := by
  refine scU_of 32 (fun k h1 h2 => (blk_pl hl h2).2 fun j hj => ha _ (by omega) (by omega)) ?_
  by_cases h0 : E = 0
  · exact .inl (by omega)
  · refine .inr ⟨by omega, ?_⟩
    have hne := he.resolve_left h0
    cases hx : blk (pl xs ((E + 7) / 8 - 1)) with
    | false => rfl
    | true =>
      have := (blk_pl hl (by omega)).1 hx ((E - 1) % 8) (by omega)
      rw [show 8 * ((E + 7) / 8 - 1) + (E - 1) % 8 = E - 1 by omega] at this
      exact absurd this hne

theorem implIsWritten (x : Int) (w : World) : Calls Try.prog 143 #[.int .u8 x] w fun e w' => e = .returned (.bool (x != 255)) ∧ w' = w := by
  go_enter Try.func143, Try.ntmps143
  go_wp2
  go_ret
  exact ⟨rfl, rfl⟩
theorem implUsed (a : Option Addr) (c : Nat) (xs : List Int) (w : World) (h : Bs w a 256 c xs) :
    Calls Try.prog 110 #[.slice a 256 c] w fun e w' => e = .returned (.int .i64 ((scU xs 32 : Nat) : Int)) ∧ w' = w := by
  have hl := h.2.1
  have hby := h.2.2.2.1
  rcases h.2.2.2.2 with h0 | ⟨b, o, rfl, hlt, hcell⟩
  · omega
  go_enter Try.func110, Try.ntmps110
  go_wp2
  go_loopw [3] (fun e wr => ∃ k : Nat, k ≤ 256 ∧ e = .int .i64 k ∧ Hid (∀ j, k ≤ j → j < 256 → xs.getD j 0 = 255) ∧ wr = w) (fun e _ => (intOf e).toNat)
  case atStart => exact ⟨256, by omega, rfl, (fun j h1 h2 => by omega), rfl⟩
  case round =>
    obtain ⟨k, hk, rfl, HA, rfl⟩ := hrel
    by_cases h0 : k = 0
    · have h0' : ¬ ((0 : Int) < (k : Int)) := by omega
      have HE : Hid (scU xs 32 = (k + 7) / 8) := used_eq hl hk HA.out (.inl h0)
      have w1 : IntKind.i64.wrap ((k : Int) + 8) = (k : Int) + 8 := wr64 (by omega) (by omega)
      have w2 : IntKind.i64.wrap ((k : Int) + 8 - 1) = (k : Int) + 8 - 1 := wr64 (by omega) (by omega)
      have hq : ((k : Int) + 8 - 1).tdiv 8 = (((k + 7) / 8 : Nat) : Int) := by rw [Int.tdiv_eq_ediv_of_nonneg (by omega)]; omega
      have w2b : IntKind.i64.wrap ((k : Int) + 7) = (k : Int) + 7 := wr64 (by omega) (by omega)
      have hqb : ((k : Int) + 7).tdiv 8 = (((k + 7) / 8 : Nat) : Int) := by rw [Int.tdiv_eq_ediv_of_nonneg (by omega)]; omega
      have w3 : IntKind.i64.wrap ((((k + 7) / 8 : Nat) : Int)) = (((k + 7) / 8 : Nat) : Int) := wr64 (by omega) (by omega)
      generalize (k + 7) / 8 = q at hq hqb w3 HE
      clear h0
      go_wp2
      go_ret
      exact ⟨by rw [HE.out]; first | rfl | (simp; done) | (simp only [w1, w2, w2b, hq, hqb, w3]; done), rfl⟩
    · obtain ⟨m, rfl⟩ : ∃ m, k = m + 1 := ⟨k - 1, by omega⟩
      have h1 : (0 : Int) < ((m + 1 : Nat) : Int) := by omega
      obtain ⟨x, hx⟩ : ∃ x, x = xs.getD m 0 := ⟨_, rfl⟩
      have hc := hcell m (by omega)
      rw [← hx] at hc
      have HX : Hid _ := hx
      clear hx h0
      obtain ⟨K, hK⟩ : ∃ K : Int, K = ((m + 1 : Nat) : Int) := ⟨_, rfl⟩
      rw [← hK] at h1 ⊢
      have s1 : IntKind.i64.wrap (K - 1) = (m : Int) := by rw [hK, show (((m + 1 : Nat) : Int) - 1) = (m : Int) by omega]; exact wr64 (by omega) (by omega)
      have hm256 : (m : Int) < 256 := by omega
      by_cases hx5 : x = 255
      · have hb : (x != 255) = false := by simpa using hx5
        have HA2 : Hid (∀ j, m ≤ j → j < 256 → xs.getD j 0 = 255) := fun j h1 h2 => by
          by_cases e : j = m
          · subst e; rw [← HX.out]; exact hx5
          · exact HA.out j (by omega) h2
        have HK : Hid _ := hK
        clear hK hx5 HA
        go_wp2_with fail
        refine (implIsWritten x _).mono ?_
        rintro e w2 ⟨rfl, hw2⟩
        rw [hw2, hb]
        clear hw2
        go_wp2
        go_roundw
        case rel => exact ⟨m, by omega, rfl, HA2, by first | rfl | trivial⟩
        case measure => have := HK.out; simp [intOf]; omega
      · have hb : (x != 255) = true := by simpa using hx5
        have HE : Hid (scU xs 32 = (m + 1 + 7) / 8) := used_eq hl hk HA.out (.inr (by simp only [Nat.add_sub_cancel]; rw [← HX.out]; exact hx5))
        have w1 : IntKind.i64.wrap (K + 8) = K + 8 := wr64 (by omega) (by omega)
        have w2 : IntKind.i64.wrap (K + 8 - 1) = K + 8 - 1 := wr64 (by omega) (by omega)
        have hq : (K + 8 - 1).tdiv 8 = (((m + 1 + 7) / 8 : Nat) : Int) := by rw [hK, Int.tdiv_eq_ediv_of_nonneg (by omega)]; omega
        have w2b : IntKind.i64.wrap (K + 7) = K + 7 := wr64 (by omega) (by omega)
        have hqb : (K + 7).tdiv 8 = (((m + 1 + 7) / 8 : Nat) : Int) := by rw [hK, Int.tdiv_eq_ediv_of_nonneg (by omega)]; omega
        have w3 : IntKind.i64.wrap ((((m + 1 + 7) / 8 : Nat) : Int)) = (((m + 1 + 7) / 8 : Nat) : Int) := wr64 (by omega) (by omega)
        generalize (m + 1 + 7) / 8 = q at hq hqb w3 HE
        clear hK hx5 HA
        go_wp2_with fail
        refine (implIsWritten x _).mono ?_
        rintro e w2 ⟨rfl, hw2⟩
        rw [hw2, hb]
        clear hw2
        go_wp2
        go_ret
        exact ⟨by rw [HE.out]; first | rfl | (simp; done) | (simp only [w1, w2, w2b, hq, hqb, w3]; done), rfl⟩
end Go.Proofs.Ytgfjbaigmkdbcaa
