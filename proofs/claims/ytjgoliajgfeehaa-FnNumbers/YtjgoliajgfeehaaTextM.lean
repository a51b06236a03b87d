/-
  What is proved here: plain facts on how texts are put behind bytes and read from them (chapter 1); no program is spoken of, no condition.
-/
import Derived.Test.YtjgoliajgfeehaaGetM
namespace Go.Proofs.Ytjgoliajgfeehaa.Ma

theorem scan_bounds (xs : List Int) (p : Nat) (hx : ∀ x ∈ xs, 0 ≤ x ∧ x < 256) : ∀ (f i : Nat) (n s : Int), 0 ≤ n → 0 ≤ s →
    scan xs p f i n s = (0, -1) ∨ (0 ≤ (scan xs p f i n s).1 ∧ (scan xs p f i n s).1 ≤ 2147483647 ∧ 0 < (scan xs p f i n s).2 ∧ (scan xs p f i n s).2 ≤ xs.length)
  | 0, _, _, _, _, _ => .inl rfl
  | f + 1, i, n, s, hn, hs => by
    have hm : 0 ≤ xs.getD (p + i) 0 % 128 * s := Int.mul_nonneg (by omega) hs
    by_cases h : p + i < xs.length
    · by_cases hx2 : xs.getD (p + i) 0 < 128
      · by_cases hb : (xs.getD (p + i) 0 = 0 ∧ 0 < i) ∨ 2147483647 < n + xs.getD (p + i) 0 % 128 * s
        · exact .inl (scan_bad xs p f i n s _ h rfl hx2 hb)
        · rw [scan_good xs p f i n s _ h rfl hx2 hb]
          refine .inr ⟨by show 0 ≤ n + _; omega, by show n + _ ≤ _; omega, by show (0 : Int) < (p : Int) + i + 1; omega, by show (p : Int) + i + 1 ≤ _; omega⟩
      · rw [scan_more xs p f i n s _ h rfl hx2]
        exact scan_bounds xs p hx f (i + 1) _ _ (by omega) (by omega)
    · exact .inl (scan_out xs p (f + 1) i n s h)

theorem getN_bounds (xs : List Int) (P : Int) (hx : ∀ x ∈ xs, 0 ≤ x ∧ x < 256) : getN xs P = (0, -1) ∨ (0 ≤ (getN xs P).1 ∧ (getN xs P).1 ≤ 2147483647 ∧ 0 < (getN xs P).2 ∧ (getN xs P).2 ≤ xs.length) := by
  by_cases h : P < 0
  · exact .inl (getN_neg xs P h)
  · obtain ⟨p, rfl⟩ := Int.eq_ofNat_of_zero_le (show 0 ≤ P by omega)
    rw [getN_nat]
    exact scan_bounds xs p hx 5 0 0 1 (by omega) (by omega)

/-- A text's bytes behind others. -/
def putT (xs ts : List Int) : List Int := if 64 < ts.length then xs else xs ++ numB ts.length ++ ts

/-- A text that is read, and the place behind it. -/
def getT (xs : List Int) (P : Int) : List Int × Int :=
  if (getN xs P).2 < 0 ∨ 64 < (getN xs P).1 ∨ (xs.length : Int) - (getN xs P).2 < (getN xs P).1 then ([], -1)
  else ((xs.drop (getN xs P).2.toNat).take (getN xs P).1.toNat, (getN xs P).2 + (getN xs P).1)

end Go.Proofs.Ytjgoliajgfeehaa.Ma
