/-
  What is proved here: plain mathematics on the words of a block: how they fill up byte by byte, and then word by word; no condition.
-/
import Derived.Test.YtgapfkiceolceaaDoorShaM
namespace Go.Proofs.YtgapfkiceolceaaDoor
open Go.RowKit

/-- The words behind i bytes. -/
def pl (xs : List Int) (i : Nat) : List Int := (List.range 64).map (fun j => wv xs j (min 4 (i - 4 * j)))
theorem pl_len (xs : List Int) (i : Nat) : (pl xs i).length = 64 := by simp [pl]
theorem pl_get (xs : List Int) (i j : Nat) (h : j < 64) : (pl xs i).getD j 0 = wv xs j (min 4 (i - 4 * j)) := by simp [pl, h]
theorem pl_zero (xs : List Int) : pl xs 0 = List.replicate 64 0 := by
  have e : pl xs 0 = (List.range 64).map (fun _ => (0 : Int)) := by simp only [pl, Nat.zero_sub, Nat.min_zero, wv]
  rw [e]; rfl

theorem wv_byte (xs : List Int) (hb : ∀ x ∈ xs, 0 ≤ x ∧ x < 256) (j m : Nat) : 0 ≤ wv xs j m ∧ wv xs j m < 256 ^ m := by
  induction m with
  | zero => simp [wv]
  | succ m ih =>
    have hx : 0 ≤ xs.getD (4 * j + m) 0 ∧ xs.getD (4 * j + m) 0 < 256 := by
      by_cases h : 4 * j + m < xs.length
      · exact hb _ (getD_mem h)
      · have : xs.getD (4 * j + m) 0 = 0 := by simp [Nat.le_of_not_lt h]
        rw [this]; omega
    simp only [wv, Int.pow_succ]
    omega

theorem pl_set (xs : List Int) (i : Nat) (v : Int) (hv : v = wv xs (i / 4) (i % 4)) :
    (U32 (pl xs i)).set (i / 4) (.int .u32 (v * 256 + xs.getD i 0)) = U32 (pl xs (i + 1)) := by
  subst hv
  apply List.ext_getElem
  · simp [pl_len]
  · intro j h1 h2
    have hj : j < 64 := by simpa [pl_len] using h2
    rw [List.getElem_set]
    have e1 : ∀ (k : Nat) (hk : j < (U32 (pl xs k)).length), (U32 (pl xs k))[j] = .int .u32 (wv xs j (min 4 (k - 4 * j))) := by intro k hk; simp [pl]
    rw [e1 (i + 1)]
    split
    · rename_i e
      subst e
      have e2 : min 4 (i + 1 - 4 * (i / 4)) = i % 4 + 1 := by omega
      have e3 : 4 * (i / 4) + i % 4 = i := by omega
      rw [e2]
      simp only [wv, e3]
    · rename_i e
      rw [e1 i]
      have e2 : min 4 (i + 1 - 4 * j) = min 4 (i - 4 * j) := by omega
      rw [e2]

theorem schedL_snoc (xs : List Int) (k : Nat) : schedL xs (k + 1) = schedL xs k ++ [nextW xs (schedL xs k)] := rfl

theorem schedL_low (xs : List Int) (k j : Nat) (hj : j < k) (hk : k ≤ 16) : (schedL xs k).getD j 0 = wv xs j 4 := by
  induction k with
  | zero => omega
  | succ k ih =>
    rw [schedL_snoc]
    by_cases e : j = k
    · subst e
      have hl := schedL_len xs j
      have h2 : (schedL xs j ++ [nextW xs (schedL xs j)]).getD j 0 = nextW xs (schedL xs j) := by
        simp [List.getD, hl]
      rw [h2]
      unfold nextW
      rw [if_pos (by omega), hl]
    · have hl := schedL_len xs k
      have h2 : (schedL xs k ++ [nextW xs (schedL xs k)]).getD j 0 = (schedL xs k).getD j 0 := by
        simp [List.getD, List.getElem?_append_left, hl, show j < k by omega]
      rw [h2]
      exact ih (by omega) (by omega)

theorem pl_end (xs : List Int) : pl xs 64 = schedL xs 16 ++ List.replicate (64 - 16) 0 := by
  apply List.ext_getElem
  · simp [pl_len, schedL_len]
  · intro j h1 h2
    have hj : j < 64 := by simpa [pl_len] using h1
    have e1 : ∀ h : j < (pl xs 64).length, (pl xs 64)[j] = wv xs j (min 4 (64 - 4 * j)) := by intro h; simp [pl]
    rw [e1 h1, List.getElem_append]
    split
    · rename_i h
      have h' : j < 16 := by simpa [schedL_len] using h
      have := schedL_low xs 16 j h' (by omega)
      rw [show min 4 (64 - 4 * j) = 4 by omega, ← this]
      simp [schedL_len, h']
    · rename_i h
      have h' : ¬ j < 16 := by simpa [schedL_len] using h
      rw [show min 4 (64 - 4 * j) = 0 by omega, List.getElem_replicate]
      rfl

theorem set_sched (xs : List Int) (k : Nat) (h : k < 64) (v : Int) (hv : v = nextW xs (schedL xs k)) :
    (U32 (schedL xs k ++ List.replicate (64 - k) 0)).set k (.int .u32 v) = U32 (schedL xs (k + 1) ++ List.replicate (64 - (k + 1)) 0) := by
  subst hv
  have e : 64 - k = (64 - (k + 1)) + 1 := by omega
  rw [schedL_snoc, e, List.replicate_succ]
  simp only [U32, List.map_append, List.map_cons]
  rw [List.set_append_right _ _ (by simp [schedL_len])]
  simp [schedL_len]

theorem sched_get (xs : List Int) (k j m : Nat) (h : j < k) : (schedL xs k ++ List.replicate m 0).getD j 0 = (schedL xs k).getD j 0 := by
  simp [List.getD, List.getElem?_append_left, schedL_len, h]

theorem nextW_high (xs : List Int) (k : Nat) (hk : 16 ≤ k) : nextW xs (schedL xs k) = ((schedL xs k).getD (k - 16) 0 + sS0 ((schedL xs k).getD (k - 15) 0) + (schedL xs k).getD (k - 7) 0 + sS1 ((schedL xs k).getD (k - 2) 0)) % 4294967296 := by
  unfold nextW
  rw [schedL_len, if_neg (by omega)]
end Go.Proofs.YtgapfkiceolceaaDoor
