/-
  What is proved here: plain facts on how a number is read from bytes (chapter 1); no program is spoken of, no condition.
-/
import Derived.Test.YtofflhhlacdgfaaDoorA1Math
namespace Go.Proofs.YtofflhhlacdgfaaDoor.Ma

/-- How a number is read from the place p on: f bytes more at most, i are read, n is what they come to, s is the next byte's worth. -/
def scan (xs : List Int) (p : Nat) : Nat → Nat → Int → Int → Int × Int
  | 0, _, _, _ => (0, -1)
  | f + 1, i, n, s =>
    if p + i < xs.length then
      if xs.getD (p + i) 0 < 128 then
        if (xs.getD (p + i) 0 = 0 ∧ 0 < i) ∨ 2147483647 < n + xs.getD (p + i) 0 % 128 * s then (0, -1) else (n + xs.getD (p + i) 0 % 128 * s, (p : Int) + i + 1)
      else scan xs p f (i + 1) (n + xs.getD (p + i) 0 % 128 * s) (s * 128)
    else (0, -1)

def getN (xs : List Int) (a : Int) : Int × Int := if a < 0 then (0, -1) else scan xs a.toNat 5 0 0 1

theorem getN_neg (xs : List Int) (a : Int) (h : a < 0) : getN xs a = (0, -1) := by simp [getN, h]
theorem getN_nat (xs : List Int) (p : Nat) : getN xs (p : Int) = scan xs p 5 0 0 1 := by
  unfold getN; rw [if_neg (by omega)]; rfl

theorem scan_zero (xs : List Int) (p i : Nat) (n s : Int) : scan xs p 0 i n s = (0, -1) := rfl
theorem scan_out (xs : List Int) (p f i : Nat) (n s : Int) (h : ¬ p + i < xs.length) : scan xs p f i n s = (0, -1) := by
  cases f with
  | zero => rfl
  | succ f => rw [scan, if_neg h]
theorem scan_bad (xs : List Int) (p f i : Nat) (n s x : Int) (h : p + i < xs.length) (e : x = xs.getD (p + i) 0) (hx : x < 128) (hb : (x = 0 ∧ 0 < i) ∨ 2147483647 < n + x % 128 * s) :
    scan xs p (f + 1) i n s = (0, -1) := by
  subst e
  rw [scan, if_pos h, if_pos hx, if_pos hb]
theorem scan_good (xs : List Int) (p f i : Nat) (n s x : Int) (h : p + i < xs.length) (e : x = xs.getD (p + i) 0) (hx : x < 128) (hb : ¬ ((x = 0 ∧ 0 < i) ∨ 2147483647 < n + x % 128 * s)) :
    scan xs p (f + 1) i n s = (n + x % 128 * s, (p : Int) + i + 1) := by
  subst e
  rw [scan, if_pos h, if_pos hx, if_neg hb]
theorem scan_more (xs : List Int) (p f i : Nat) (n s x : Int) (h : p + i < xs.length) (e : x = xs.getD (p + i) 0) (hx : ¬ x < 128) :
    scan xs p (f + 1) i n s = scan xs p f (i + 1) (n + x % 128 * s) (s * 128) := by
  subst e
  rw [scan, if_pos h, if_neg hx]

end Go.Proofs.YtofflhhlacdgfaaDoor.Ma
