/-
  What is proved here: plain mathematics on numbers in parts of sixteen bits: carried, compared, taken from each other, multiplied, raised to a power, modulo 2^255 - 19; no program is spoken of, no condition.
-/
import Derived.Test.YtihoaakbkffejaaFm
namespace Go.Proofs.Ytihoaakbkffejaa
open Go.RowKit
set_option maxRecDepth 100000

theorem carry_lt {v : Int} (h0 : 0 ≤ v) (h1 : v < 1989292945639146568621528992587283360401824603189390869761855907572637988050133502132224) :
    (fold5 (fold (fold v)) < P25519 → fold5 (fold (fold v)) = v % P25519) ∧ (¬ fold5 (fold (fold v)) < P25519 → fold5 (fold (fold v)) - P25519 = v % P25519) ∧ 0 ≤ fold5 (fold (fold v)) ∧ fold5 (fold (fold v)) < P25519 + 38 := by
  have hb := fold_twice h0 h1
  have h5 := fold5_mod hb.1 hb.2
  have hm : fold5 (fold (fold v)) % P25519 = v % P25519 := by rw [h5.1, fold_mod, fold_mod]
  obtain ⟨x, hx⟩ : ∃ x, x = fold5 (fold (fold v)) := ⟨_, rfl⟩
  rw [← hx] at hm h5 ⊢
  rw [← hm]
  unfold P25519 at *
  omega
/-- The parts behind all carrying, ahead of the last comparison. -/
def pre5 (l : List Int) : List Int := cps (top5 (rnd16 (rnd16 (rnd16 l)))) 0
theorem pre5_lim {l : List Int} (hl : l.length = 16) (h0 : ∀ x ∈ l, 0 ≤ x) (h1 : val l < 1989292945639146568621528992587283360401824603189390869761855907572637988050133502132224) : pre5 l = lim 16 (fold5 (fold (fold (val l)))) := by
  have hb := fold_twice (val_nonneg h0) h1
  unfold pre5
  rw [rnd3 hl h0 h1, cps_lim, top5_len, lim_len, top5_val hb.1 hb.2, Int.add_zero]
theorem pre5_val {l : List Int} (hl : l.length = 16) (h0 : ∀ x ∈ l, 0 ≤ x) (h1 : val l < 1989292945639146568621528992587283360401824603189390869761855907572637988050133502132224) : val (pre5 l) = fold5 (fold (fold (val l))) := by
  have h2 := carry_lt (val_nonneg h0) h1
  rw [pre5_lim hl h0 h1, val_lim, p256]
  obtain ⟨x, hx⟩ : ∃ x, x = fold5 (fold (fold (val l))) := ⟨_, rfl⟩
  rw [← hx] at h2 ⊢
  unfold P25519 at h2
  omega

theorem zipSub_val : ∀ (a b : List Int), a.length = b.length → val (List.zipWith (fun x y => x - y) a b) = val a - val b
  | [], [], _ => by simp [val]
  | x :: a, y :: b, h => by
    have := zipSub_val a b (by simpa using h)
    simp only [List.zipWith_cons_cons, val, this]
    omega
  | [], _ :: _, h => by simp at h
  | _ :: _, [], h => by simp at h
/-- A difference, part by part. -/
def tk16 (a b : List Int) : List Int := cps (List.zipWith (fun x y => x - y) a b) 0
theorem tk16_lim {a b : List Int} (ha : a.length = 16) (hb : b.length = 16) : tk16 a b = lim 16 (val a - val b) := by
  unfold tk16
  rw [cps_lim, zipSub_val a b (by omega), Int.add_zero]
  simp [ha, hb]
theorem zipAdd_val : ∀ (a b : List Int), a.length = b.length → val (List.zipWith (fun x y => x + y) a b) = val a + val b
  | [], [], _ => by simp [val]
  | x :: a, y :: b, h => by
    have := zipAdd_val a b (by simpa using h)
    simp only [List.zipWith_cons_cons, val, this]
    omega
  | [], _ :: _, h => by simp at h
  | _ :: _, [], h => by simp at h

theorem val_split (l : List Int) (i : Nat) (h : i < l.length) : val l = val (l.take i) + 65536 ^ i * l.getD i 0 + 65536 ^ (i + 1) * val (l.drop (i + 1)) := by
  have e : l = l.take i ++ (l.getD i 0 :: l.drop (i + 1)) := by
    have : l.drop i = l.getD i 0 :: l.drop (i + 1) := by
      rw [List.drop_eq_getElem_cons h]; simp [h]
    rw [← this, List.take_append_drop]
  have hl : (l.take i).length = i := by simp; omega
  conv => lhs; rw [e]
  rw [val_append, hl]
  simp only [val]
  rw [Int.mul_add, Int.pow_succ, ← Int.mul_assoc]
  omega
theorem lt_at {a b : List Int} {n i : Nat} (ha : a.length = n) (hb : b.length = n) (la : Lm a) (lb : Lm b) (hi : i < n) (hd : a.drop (i + 1) = b.drop (i + 1)) (hne : a.getD i 0 ≠ b.getD i 0) : (a.getD i 0 < b.getD i 0) ↔ val a < val b := by
  have va := val_split a i (by omega)
  have vb := val_split b i (by omega)
  rw [hd] at va
  have ta : val (a.take i) < 65536 ^ i := by
    have := val_lt (l := a.take i) (fun x hx => la x (List.mem_of_mem_take hx))
    simpa [show min i a.length = i by omega] using this
  have tb : val (b.take i) < 65536 ^ i := by
    have := val_lt (l := b.take i) (fun x hx => lb x (List.mem_of_mem_take hx))
    simpa [show min i b.length = i by omega] using this
  have na := val_nonneg (l := a.take i) (fun x hx => (la x (List.mem_of_mem_take hx)).1)
  have nb := val_nonneg (l := b.take i) (fun x hx => (lb x (List.mem_of_mem_take hx)).1)
  obtain ⟨p, hp⟩ : ∃ p : Int, p = 65536 ^ i := ⟨_, rfl⟩
  have pp : 0 < p := by rw [hp]; exact pow_pos16 i
  rw [← hp] at va vb ta tb
  generalize 65536 ^ (i + 1) * val (b.drop (i + 1)) = R at va vb
  generalize a.getD i 0 = x at *
  generalize b.getD i 0 = y at *
  constructor
  · intro h
    have : p * (x + 1) ≤ p * y := Int.mul_le_mul_of_nonneg_left (by omega) (by omega)
    rw [Int.mul_add] at this
    omega
  · intro h
    by_cases hlt : x < y
    · exact hlt
    · have : p * (y + 1) ≤ p * x := Int.mul_le_mul_of_nonneg_left (by omega) (by omega)
      rw [Int.mul_add] at this
      omega

theorem val_take_succ (l : List Int) (i : Nat) (h : i < l.length) : val (l.take (i + 1)) = val (l.take i) + 65536 ^ i * l.getD i 0 := by
  have e : l.take (i + 1) = l.take i ++ [l.getD i 0] := by
    rw [List.take_add_one, List.getD, List.getElem?_eq_getElem h]; rfl
  have hl : (l.take i).length = i := by simp; omega
  rw [e, val_append, hl]
  simp [val]
/-- What the table of a product is worth when i whole rows and k parts of the next are in. -/
def prodAt (a b : List Int) (i k : Nat) : Int := val (a.take i) * val b + 65536 ^ i * a.getD i 0 * val (b.take k)
theorem prodAt_step (a b : List Int) (i k : Nat) (hk : k < b.length) : prodAt a b i (k + 1) = prodAt a b i k + 65536 ^ (i + k) * (a.getD i 0 * b.getD k 0) := by
  unfold prodAt
  rw [val_take_succ b k hk, Int.mul_add, Int.pow_add, ← Int.add_assoc]
  congr 1
  simp only [Int.mul_assoc]
  congr 1
  rw [← Int.mul_assoc, Int.mul_comm (a.getD i 0) (65536 ^ k), Int.mul_assoc]
theorem prodAt_row (a b : List Int) (i : Nat) (hi : i < a.length) : prodAt a b i b.length = prodAt a b (i + 1) 0 := by
  unfold prodAt
  rw [List.take_of_length_le (Nat.le_refl _), val_take_succ a i hi, Int.add_mul]
  simp [val]
theorem prodAt_end (a b : List Int) (h : a.length = 16) : prodAt a b 16 0 = val a * val b := by
  unfold prodAt
  rw [List.take_of_length_le (by omega)]
  simp [val]
end Go.Proofs.Ytihoaakbkffejaa
