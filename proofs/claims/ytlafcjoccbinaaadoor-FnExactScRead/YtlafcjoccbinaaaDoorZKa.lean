/-
  What is proved here: plain mathematics on numbers modulo the order of the base: its parts, what is brought below it, bits of a number in parts; no program is spoken of, no condition.
-/
import Derived.Test.YtlafcjoccbinaaaDoorZD
import Derived.Test.YtlafcjoccbinaaaDoorZA
namespace Go.Proofs.YtlafcjoccbinaaaDoor
open Go.RowKit
set_option maxRecDepth 100000

/-- The order. -/
def qO : Int := 7237005577332262213973186563042994240857116359379907606001950938285454250989
/-- Its parts. -/
def OL : List Int := [54253, 23797, 25370, 22546, 40150, 41719, 63966, 5342, 0, 0, 0, 0, 0, 0, 0, 4096]
theorem OL_len : OL.length = 16 := rfl
theorem OL_val : val OL = qO := by decide
theorem OL_lm : Lm OL := by unfold Lm OL; decide
/-- What a number comes to, below the order. -/
def redO (v : Int) : List Int := lim 16 (v % qO)
theorem redO_lt (v : Int) : 0 ≤ v % qO ∧ v % qO < qO := by unfold qO; omega
theorem val_redO (v : Int) : val (redO v) = v % qO := by
  unfold redO
  have := redO_lt v
  rw [val_lim, p256]
  unfold qO at *
  omega
theorem redO_len (v : Int) : (redO v).length = 16 := lim_len _ _
theorem redO_lm (v : Int) : Lm (redO v) := lim_lm _ _
/-- A list of sixteen parts that is a multiplier. -/
def scOk (l : List Int) : Bool := decide (l.length = 16) && l.all (fun x => decide (0 ≤ x ∧ x < 65536)) && decide (val l < qO)
theorem scOk_iff (l : List Int) : scOk l = true ↔ l.length = 16 ∧ Lm l ∧ val l < qO := by
  unfold scOk Lm
  simp only [Bool.and_eq_true, decide_eq_true_eq, List.all_eq_true, and_assoc]
theorem redO_ok (v : Int) : scOk (redO v) = true := (scOk_iff _).2 ⟨redO_len v, redO_lm v, by rw [val_redO]; exact (redO_lt v).2⟩
theorem redO_val {l : List Int} (h : scOk l = true) : redO (val l) = l := by
  obtain ⟨h1, h2, h3⟩ := (scOk_iff l).1 h
  have h0 := val_nonneg (fun x hx => (h2 x hx).1)
  unfold redO
  rw [Int.emod_eq_of_lt h0 h3, ← h1]
  exact lim_val l h2
theorem lessO {x : Int} (h0 : 0 ≤ x) (h1 : x < 2 * qO) : (x < qO → lim 16 x = redO x) ∧ (¬ x < qO → lim 16 (x - qO) = redO x) := by
  unfold redO
  constructor
  · intro h; rw [Int.emod_eq_of_lt h0 h]
  · intro h
    rw [show x % qO = x - qO by unfold qO at *; omega]
theorem val_lim16 {x : Int} (h0 : 0 ≤ x) (h1 : x < 2 * qO) : val (lim 16 x) = x := by
  rw [val_lim, p256]
  unfold qO at h1
  omega
theorem map2_val : ∀ a : List Int, val (a.map (fun x => 2 * x)) = 2 * val a
  | [] => by simp [val]
  | x :: a => by simp only [List.map_cons, val, map2_val a]; omega
/-- Parts that carry at most one. -/
def Dp (l : List Int) : Prop := ∀ x ∈ l, 0 ≤ x ∧ x ≤ 131070
theorem cpc_one {l : List Int} (h : Dp l) : ∀ {c : Int}, 0 ≤ c → c ≤ 1 → 0 ≤ cpc l c ∧ cpc l c ≤ 1 := by
  induction l with
  | nil => intro c h0 h1; exact ⟨h0, h1⟩
  | cons x l ih =>
    intro c h0 h1
    have hx := h x (by simp)
    exact ih (fun y hy => h y (by simp [hy])) (by omega) (by omega)
theorem dp_map {a : List Int} (h : Lm a) : Dp (a.map (fun x => 2 * x)) := by
  intro x hx
  obtain ⟨y, hy, rfl⟩ := List.mem_map.1 hx
  have := h y hy
  omega
theorem dp_zip {a b : List Int} (ha : Lm a) (hb : Lm b) : Dp (List.zipWith (fun x y => x + y) a b) := by
  intro x hx
  obtain ⟨i, hi⟩ := List.mem_iff_getElem?.1 hx
  rw [List.getElem?_zipWith] at hi
  split at hi
  · rename_i p q h1 h2
    have := ha _ (List.mem_of_getElem? h1)
    have := hb _ (List.mem_of_getElem? h2)
    simp only [Option.some.injEq] at hi
    omega
  · cases hi
theorem bitO_low (x r : Nat) (h : r < 16) : x % 65536 / 2 ^ r % 2 = x / 2 ^ r % 2 := by
  have : r = 0 ∨ r = 1 ∨ r = 2 ∨ r = 3 ∨ r = 4 ∨ r = 5 ∨ r = 6 ∨ r = 7 ∨ r = 8 ∨ r = 9 ∨ r = 10 ∨ r = 11 ∨ r = 12 ∨ r = 13 ∨ r = 14 ∨ r = 15 := by omega
  rcases this with rfl | rfl | rfl | rfl | rfl | rfl | rfl | rfl | rfl | rfl | rfl | rfl | rfl | rfl | rfl | rfl <;> omega
/-- A bit of a number in parts. -/
theorem bitO {n : List Int} {m : Nat} (hl : n.length = m) (hm : Lm n) (j : Nat) (hj : j < 16 * m) : n.getD (j / 16) 0 / 2 ^ (j % 16) % 2 = (((val n).toNat / 2 ^ j % 2 : Nat) : Int) := by
  have h0 := val_nonneg (fun x hx => (hm x hx).1)
  have h1 := lim_val n hm
  rw [hl] at h1
  obtain ⟨N, hN⟩ := Int.eq_ofNat_of_zero_le h0
  have h2 := lim_get m (val n) (j / 16) (by omega)
  rw [h1, hN] at h2
  rw [h2, hN, Int.toNat_natCast]
  have h3 : N / 65536 ^ (j / 16) % 65536 / 2 ^ (j % 16) % 2 = N / 2 ^ j % 2 := by
    rw [bitO_low _ _ (by omega), show 65536 = 2 ^ 16 from rfl, ← Nat.pow_mul, Nat.div_div_eq_div_mul, ← Nat.pow_add, Nat.div_add_mod]
  rw [← h3]
  simp only [Int.natCast_ediv, Int.natCast_emod, Int.natCast_pow]
  rfl
/-- Twice what is left of a number above a bit, and the bit. -/
theorem redO_twice (N j : Nat) : redO (2 * val (redO ((N / 2 ^ (j + 1) : Nat) : Int)) + ((N / 2 ^ j % 2 : Nat) : Int)) = redO ((N / 2 ^ j : Nat) : Int) := by
  rw [val_redO]
  have e : ((N / 2 ^ j : Nat) : Int) = 2 * ((N / 2 ^ (j + 1) : Nat) : Int) + ((N / 2 ^ j % 2 : Nat) : Int) := by
    have h : N / 2 ^ (j + 1) = N / 2 ^ j / 2 := by rw [Nat.pow_succ, Nat.div_div_eq_div_mul]
    rw [h]
    omega
  unfold redO
  rw [e]
  congr 1
  generalize ((N / 2 ^ (j + 1) : Nat) : Int) = x
  generalize ((N / 2 ^ j % 2 : Nat) : Int) = b
  unfold qO
  omega
end Go.Proofs.YtlafcjoccbinaaaDoor
