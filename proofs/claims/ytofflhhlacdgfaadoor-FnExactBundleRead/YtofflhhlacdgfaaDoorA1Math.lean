/-
  What is proved here: plain facts on lists of integers about the number code of chapter 1 (a number's one to five bytes); no program is spoken of, no condition.
-/
namespace Go.Proofs.YtofflhhlacdgfaaDoor.Ma

/-- The bytes of a number. -/
def numB (n : Int) : List Int :=
  if n < 0 ∨ 2147483647 < n then []
  else if n < 128 then [n]
  else if n < 16384 then [n % 128 + 128, n / 128]
  else if n < 2097152 then [n % 128 + 128, n / 128 % 128 + 128, n / 16384]
  else if n < 268435456 then [n % 128 + 128, n / 128 % 128 + 128, n / 16384 % 128 + 128, n / 2097152]
  else [n % 128 + 128, n / 128 % 128 + 128, n / 16384 % 128 + 128, n / 2097152 % 128 + 128, n / 268435456]

theorem numB_no (n : Int) (h : n < 0 ∨ 2147483647 < n) : numB n = [] := by unfold numB; rw [if_pos h]

theorem numB_one (n : Int) (h0 : 0 ≤ n) (h : n < 128) : numB n = [n] := by
  unfold numB; rw [if_neg (by omega), if_pos h]

theorem numB_step (n : Int) (h0 : 128 ≤ n) (h : n ≤ 2147483647) : numB n = (n % 128 + 128) :: numB (n / 128) := by
  have e1 : n / 128 / 128 = n / 16384 := by omega
  have e2 : n / 128 / 16384 = n / 2097152 := by omega
  have e3 : n / 128 / 2097152 = n / 268435456 := by omega
  unfold numB
  rw [if_neg (by omega), if_neg (by omega), if_neg (show ¬ (n / 128 < 0 ∨ 2147483647 < n / 128) by omega)]
  by_cases a1 : n < 16384
  · rw [if_pos a1, if_pos (show n / 128 < 128 by omega)]
  · rw [if_neg a1, if_neg (show ¬ n / 128 < 128 by omega)]
    by_cases a2 : n < 2097152
    · rw [if_pos a2, if_pos (show n / 128 < 16384 by omega), e1]
    · rw [if_neg a2, if_neg (show ¬ n / 128 < 16384 by omega)]
      by_cases a3 : n < 268435456
      · rw [if_pos a3, if_pos (show n / 128 < 2097152 by omega), e1, e2]
      · rw [if_neg a3, if_neg (show ¬ n / 128 < 2097152 by omega), if_pos (show n / 128 < 268435456 by omega), e1, e2, e3]

theorem numB_len (n : Int) : (numB n).length ≤ 5 := by
  unfold numB; repeat' split
  all_goals simp

theorem numB_byte (n : Int) : ∀ x ∈ numB n, 0 ≤ x ∧ x < 256 := by
  unfold numB
  intro x hx
  split at hx
  · cases hx
  · repeat' split at hx
    all_goals simp only [List.mem_cons, List.not_mem_nil, or_false] at hx
    all_goals omega

theorem numB_pos (n : Int) (h0 : 0 ≤ n) (h : n ≤ 2147483647) : 0 < (numB n).length := by
  unfold numB; rw [if_neg (by omega)]; repeat' split
  all_goals simp

end Go.Proofs.YtofflhhlacdgfaaDoor.Ma
