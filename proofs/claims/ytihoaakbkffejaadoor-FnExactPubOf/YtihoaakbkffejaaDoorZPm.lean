/-
  What is proved here: plain arithmetic: Fermat's little theorem, Pocklington's test, and that 2^255 - 19 is prime; plain arithmetic modulo 2^255 - 19: a number times its power p - 2 is one, and a square has a root that is one of two powers; plain mathematics: whole numbers modulo 2^255 - 19 as residues, their inverses, and that the number d of the curve is no square; no program is spoken of.
-/
import Derived.Test.YtihoaakbkffejaaDoorZFm
import Derived.Test.YtihoaakbkffejaaDoorZRbg
namespace Go.Proofs.YtihoaakbkffejaaDoor

def Pri (p : Nat) : Prop := 1 < p ∧ ∀ m, m ∣ p → m = 1 ∨ m = p

theorem Pri.cop {p a : Nat} (hp : Pri p) (h : ¬ p ∣ a) : Nat.gcd p a = 1 := by
  rcases hp.2 _ (Nat.gcd_dvd_left p a) with h1 | h1
  · exact h1
  · exact absurd (h1 ▸ Nat.gcd_dvd_right p a) h
theorem Pri.dvd_mul {p a b : Nat} (hp : Pri p) (h : p ∣ a * b) : p ∣ a ∨ p ∣ b := by
  by_cases ha : p ∣ a
  · exact .inl ha
  · exact .inr (Nat.Coprime.dvd_of_dvd_mul_left (hp.cop ha) h)

/-- The number of ways to take k of n. -/
def ch : Nat → Nat → Nat
  | _, 0 => 1
  | 0, _ + 1 => 0
  | n + 1, k + 1 => ch n k + ch n (k + 1)
theorem ch_zero (n : Nat) : ch n 0 = 1 := by cases n <;> rfl
theorem ch_big : ∀ (n k : Nat), n < k → ch n k = 0
  | 0, k + 1, _ => rfl
  | n + 1, k + 1, h => by rw [ch, ch_big n k (by omega), ch_big n (k + 1) (by omega)]
theorem ch_self : ∀ n : Nat, ch n n = 1
  | 0 => rfl
  | n + 1 => by rw [ch, ch_self n, ch_big n (n + 1) (by omega)]
theorem ch_mul : ∀ (n k : Nat), (k + 1) * ch (n + 1) (k + 1) = (n + 1) * ch n k
  | 0, 0 => rfl
  | 0, k + 1 => by
    rw [ch_big 1 (k + 2) (by omega), ch_big 0 (k + 1) (by omega)]; simp
  | n + 1, 0 => by
    have h1 := ch_mul n 0
    have h2 : ch (n + 1 + 1) (0 + 1) = ch (n + 1) 0 + ch (n + 1) (0 + 1) := rfl
    rw [h2, ch_zero]
    rw [ch_zero] at h1
    omega
  | n + 1, k + 1 => by
    have h1 := ch_mul n k
    have h2 := ch_mul n (k + 1)
    rw [ch]
    have h3 : ch (n + 1) (k + 1) = ch n k + ch n (k + 1) := rfl
    generalize ch (n + 1) (k + 1) = x at *
    generalize ch (n + 1) (k + 1 + 1) = y at *
    rw [Nat.mul_add, Nat.succ_mul (k + 1) x, h1, h2, Nat.succ_mul (n + 1) x, h3, Nat.mul_add]
    omega
/-- The first j parts of (x + 1) to the n. -/
def bsum (n x : Nat) : Nat → Nat
  | 0 => 0
  | j + 1 => bsum n x j + ch n j * x ^ j
theorem bsum_up (n x : Nat) : ∀ j, bsum (n + 1) x (j + 1) = bsum n x (j + 1) + x * bsum n x j
  | 0 => by simp [bsum, ch_zero]
  | j + 1 => by
    have h := bsum_up n x j
    rw [bsum, h]
    have h1 : bsum n x (j + 1 + 1) = bsum n x (j + 1) + ch n (j + 1) * x ^ (j + 1) := rfl
    have h2 : bsum n x (j + 1) = bsum n x j + ch n j * x ^ j := rfl
    have h3 : ch (n + 1) (j + 1) = ch n j + ch n (j + 1) := rfl
    rw [h1, h3, Nat.add_mul, show x * bsum n x (j + 1) = x * bsum n x j + ch n j * x ^ (j + 1) by rw [h2, Nat.mul_add, Nat.pow_succ]; congr 1; rw [Nat.mul_left_comm, Nat.mul_comm x (x ^ j)]]
    omega
theorem binom (x : Nat) : ∀ n, (x + 1) ^ n = bsum n x (n + 1)
  | 0 => by simp [bsum, ch]
  | n + 1 => by
    have h := bsum_up n x (n + 1)
    have h1 : bsum n x (n + 1 + 1) = bsum n x (n + 1) + ch n (n + 1) * x ^ (n + 1) := rfl
    rw [ch_big n (n + 1) (by omega), Nat.zero_mul, Nat.add_zero] at h1
    rw [h, h1, Nat.pow_succ, binom x n, Nat.mul_add, Nat.mul_one, Nat.mul_comm]
    omega
theorem Pri.ch {p : Nat} (hp : Pri p) (k : Nat) (h0 : 0 < k) (h1 : k < p) : p ∣ ch p k := by
  obtain ⟨q, rfl⟩ : ∃ q, p = q + 1 := ⟨p - 1, by omega⟩
  obtain ⟨j, rfl⟩ : ∃ j, k = j + 1 := ⟨k - 1, by omega⟩
  have := ch_mul q j
  rcases hp.dvd_mul (a := j + 1) (b := Go.Proofs.YtihoaakbkffejaaDoor.ch (q + 1) (j + 1)) ⟨_, this⟩ with h | h
  · exact absurd (Nat.le_of_dvd (by omega) h) (by omega)
  · exact h
theorem Pri.bsum {p : Nat} (hp : Pri p) (x : Nat) : ∀ j, 0 < j → j ≤ p → bsum p x j % p = 1
  | 0, h, _ => by omega
  | 1, _, _ => by
    have := hp.1
    simp [Go.Proofs.YtihoaakbkffejaaDoor.bsum, ch_zero, Nat.mod_eq_of_lt this]
  | j + 2, _, h => by
    have h1 := hp.bsum x (j + 1) (by omega) (by omega)
    obtain ⟨c, hc⟩ := hp.ch (j + 1) (by omega) (by omega)
    rw [Go.Proofs.YtihoaakbkffejaaDoor.bsum, hc, Nat.mul_assoc, Nat.add_mul_mod_self_left, h1]
theorem Pri.frob {p : Nat} (hp : Pri p) (x : Nat) : (x + 1) ^ p % p = (x ^ p + 1) % p := by
  rw [binom, Go.Proofs.YtihoaakbkffejaaDoor.bsum, ch_self, Nat.one_mul, Nat.add_comm, Nat.add_mod, hp.bsum x p (by have := hp.1; omega) (Nat.le_refl _), Nat.mod_add_mod]
theorem Pri.fermat {p : Nat} (hp : Pri p) : ∀ x : Nat, x ^ p % p = x % p
  | 0 => by rw [Nat.zero_pow (by have := hp.1; omega)]
  | x + 1 => by rw [hp.frob, Nat.add_mod, hp.fermat x, ← Nat.add_mod]
/-- Fermat's little theorem. -/
theorem Pri.one {p : Nat} (hp : Pri p) {x : Nat} (hx : ¬ p ∣ x) : x ^ (p - 1) % p = 1 := by
  have h1 := hp.1
  have hx0 : 0 < x := by
    rcases Nat.eq_zero_or_pos x with rfl | h
    · exact absurd (Nat.dvd_zero p) hx
    · exact h
  have hpos : 0 < x ^ (p - 1) := Nat.pow_pos hx0
  have h2 : p ∣ x ^ p - x := (Nat.sub_mod_eq_zero_of_mod_eq (hp.fermat x)) |> Nat.dvd_of_mod_eq_zero
  have h3 : x ^ p - x = x * (x ^ (p - 1) - 1) := by
    rw [Nat.mul_sub, Nat.mul_one, ← Nat.pow_succ', show (p - 1).succ = p by omega]
  rw [h3] at h2
  rcases hp.dvd_mul h2 with h | h
  · exact absurd h hx
  · obtain ⟨c, hc⟩ := h
    rw [show x ^ (p - 1) = 1 + p * c by omega, Nat.add_mul_mod_self_left, Nat.mod_eq_of_lt h1]

theorem pow_mod_one {d b x : Nat} (hd : 1 < d) (h : b ^ x % d = 1) (c : Nat) : b ^ (x * c) % d = 1 := by
  rw [Nat.pow_mul, Nat.pow_mod, h, Nat.one_pow, Nat.mod_eq_of_lt hd]
theorem pow_gcd {d b : Nat} (hd : 1 < d) (x y : Nat) : b ^ x % d = 1 → b ^ y % d = 1 → b ^ (Nat.gcd x y) % d = 1 := by
  induction x, y using Nat.gcd.induction with
  | H0 y => intro _ h; rw [Nat.gcd_zero_left]; exact h
  | H1 x y _ ih =>
    intro hx hy
    rw [Nat.gcd_rec]
    refine ih ?_ hx
    have h1 := pow_mod_one hd hx (y / x)
    rw [← Nat.div_add_mod y x, Nat.pow_add, Nat.mul_mod, h1, Nat.one_mul, Nat.mod_mod] at hy
    exact hy
theorem pri_dvd : ∀ n : Nat, 1 < n → ∃ d, Pri d ∧ d ∣ n := by
  intro n
  induction n using Nat.strongRecOn with
  | ind n ih =>
    intro h
    by_cases hp : Pri n
    · exact ⟨n, hp, Nat.dvd_refl _⟩
    · have : ∃ m, m ∣ n ∧ m ≠ 1 ∧ m ≠ n := by
        refine Classical.byContradiction fun hc => hp ⟨h, fun m hm => ?_⟩
        refine Classical.byContradiction fun h2 => hc ⟨m, hm, fun e => h2 (.inl e), fun e => h2 (.inr e)⟩
      obtain ⟨m, hm, h1, h2⟩ := this
      have hl := Nat.le_of_dvd (by omega) hm
      have h0 : m ≠ 0 := by rintro rfl; have := Nat.eq_zero_of_zero_dvd hm; omega
      obtain ⟨d, hd, hdm⟩ := ih m (by omega) (by omega)
      exact ⟨d, hd, Nat.dvd_trans hdm hm⟩
/-- Who has no prime divisor up to its root is prime. -/
theorem pri_of {n : Nat} (h1 : 1 < n) (h : ∀ d, Pri d → d ∣ n → n < d * d) : Pri n := by
  refine ⟨h1, fun m hm => ?_⟩
  obtain ⟨c, hc⟩ := hm
  refine Classical.byContradiction fun hne => ?_
  have hm1 : m ≠ 1 := fun e => hne (.inl e)
  have hmn : m ≠ n := fun e => hne (.inr e)
  have hm0 : m ≠ 0 := by rintro rfl; simp at hc; omega
  have hc0 : c ≠ 0 := by rintro rfl; simp at hc; omega
  have hc1 : c ≠ 1 := by rintro rfl; simp at hc; omega
  have key : ∀ u v : Nat, 1 < u → n = u * v → u ≤ v → False := by
    intro u v hu hn huv
    obtain ⟨d, hd, hdu⟩ := pri_dvd u hu
    have hdl := Nat.le_of_dvd (by omega) hdu
    have h2 := h d hd (hn ▸ Nat.dvd_trans hdu (Nat.dvd_mul_right u v))
    have h3 : d * d ≤ u * v := Nat.mul_le_mul hdl (by omega)
    omega
  rcases Nat.le_total m c with h2 | h2
  · exact key m c (by omega) hc h2
  · exact key c m (by omega) (by rw [Nat.mul_comm]; exact hc) h2

/-- A witness: q divides d - 1 for every prime d that divides n. -/
theorem wit {n d q m a : Nat} (hn0 : 0 < n) (hd : Pri d) (hdn : d ∣ n) (hq : Pri q) (hn : n - 1 = m * q) (h1 : a ^ (n - 1) % n = 1) (h2 : Nat.gcd (a ^ m % n + (n - 1)) n = 1) : q ∣ d - 1 := by
  refine Classical.byContradiction fun hnd => ?_
  have hd1 := hd.1
  have hb : a ^ (m * q) % d = 1 := by
    rw [← hn, ← Nat.mod_mod_of_dvd _ hdn, h1, Nat.mod_eq_of_lt hd1]
  have hda : ¬ d ∣ a ^ m := by
    intro h
    rw [Nat.pow_mul, Nat.pow_mod, Nat.mod_eq_zero_of_dvd h, Nat.zero_pow (by have := hq.1; omega)] at hb
    simp at hb
  have h3 := pow_gcd hd1 q (d - 1) (by rw [← Nat.pow_mul]; exact hb) (hd.one hda)
  rw [hq.cop hnd, Nat.pow_one] at h3
  have h4 : d ∣ a ^ m % n + (n - 1) := by
    refine Nat.dvd_of_mod_eq_zero ?_
    rw [Nat.add_mod, Nat.mod_mod_of_dvd _ hdn, h3, Nat.add_mod_mod, show 1 + (n - 1) = n by omega]
    exact Nat.mod_eq_zero_of_dvd hdn
  have h5 : d ∣ 1 := h2 ▸ Nat.dvd_gcd h4 hdn
  have := Nat.le_of_dvd (by omega) h5
  omega

/-- a to the e modulo n, for e below 2 to the f. -/
def pw (n a : Nat) : Nat → Nat → Nat
  | 0, _ => 1
  | f + 1, e => (pw n a f (e / 2)) ^ 2 * a ^ (e % 2) % n
theorem pw_eq {n a : Nat} (hn : 1 < n) : ∀ f e : Nat, e < 2 ^ f → pw n a f e = a ^ e % n
  | 0, e, h => by
    have : e = 0 := by simpa using h
    subst this
    simp [pw, Nat.mod_eq_of_lt hn]
  | f + 1, e, h => by
    rw [pw, pw_eq hn f (e / 2) (by rw [Nat.pow_succ] at h; omega)]
    conv => rhs; rw [← Nat.div_add_mod e 2, Nat.pow_add, Nat.mul_comm 2, Nat.pow_mul, Nat.mul_mod, Nat.pow_mod (a ^ (e / 2))]
    rw [Nat.mul_mod]

def noDiv (n : Nat) : Nat → Bool
  | 0 => true
  | k + 1 => (n % (k + 2) != 0) && noDiv n k
theorem noDiv_at {n : Nat} : ∀ k, noDiv n k = true → ∀ m, 2 ≤ m → m ≤ k + 1 → ¬ m ∣ n
  | 0, _, m, h1, h2 => by omega
  | k + 1, h, m, h1, h2 => by
    simp only [noDiv, Bool.and_eq_true, bne_iff_ne] at h
    by_cases e : m = k + 2
    · subst e; intro hd; exact h.1 (Nat.mod_eq_zero_of_dvd hd)
    · exact noDiv_at k h.2 m h1 (by omega)
theorem pri_small {n k : Nat} (h1 : 1 < n) (h : noDiv n k = true) (hk : n < (k + 2) * (k + 2)) : Pri n := by
  refine pri_of h1 fun d hd hdn => ?_
  by_cases hl : d ≤ k + 1
  · exact absurd hdn (noDiv_at k h d hd.1 hl)
  · have := Nat.mul_le_mul (show k + 2 ≤ d by omega) (show k + 2 ≤ d by omega)
    omega

/-- What a witness is checked for. -/
def isWit (n q a f : Nat) : Bool := (n - 1) % q == 0 && pw n a f (n - 1) == 1 && Nat.gcd (pw n a f ((n - 1) / q) + (n - 1)) n == 1
theorem isWit_dvd {n q a f d : Nat} (hn : 1 < n) (hf : n < 2 ^ f) (hq : Pri q) (h : isWit n q a f = true) (hd : Pri d) (hdn : d ∣ n) : q ∣ d - 1 := by
  simp only [isWit, Bool.and_eq_true, beq_iff_eq] at h
  obtain ⟨⟨h1, h2⟩, h3⟩ := h
  have hle : (n - 1) / q ≤ n - 1 := Nat.div_le_self _ _
  rw [pw_eq hn f _ (by omega)] at h2 h3
  exact wit (by omega) hd hdn hq (Nat.div_mul_cancel (Nat.dvd_of_mod_eq_zero h1)).symm h2 h3
theorem pock1 {n q a f : Nat} (hn : 1 < n) (hf : n < 2 ^ f) (hq : Pri q) (h : isWit n q a f = true) (hF : n < q * q) : Pri n := by
  refine pri_of hn fun d hd hdn => ?_
  have h1 := isWit_dvd hn hf hq h hd hdn
  have := hd.1
  have h2 := Nat.le_of_dvd (by omega) h1
  have := Nat.mul_le_mul (show q ≤ d by omega) (show q ≤ d by omega)
  omega
theorem pock2 {n q r a b f : Nat} (hn : 1 < n) (hf : n < 2 ^ f) (hq : Pri q) (hr : Pri r) (hqr : Nat.gcd q r = 1) (h : isWit n q a f = true) (h' : isWit n r b f = true) (hF : n < (q * r) * (q * r)) : Pri n := by
  refine pri_of hn fun d hd hdn => ?_
  have h1 := Nat.Coprime.mul_dvd_of_dvd_of_dvd hqr (isWit_dvd hn hf hq h hd hdn) (isWit_dvd hn hf hr h' hd hdn)
  have := hd.1
  have h2 := Nat.le_of_dvd (by omega) h1
  have := Nat.mul_le_mul (show q * r ≤ d by omega) (show q * r ≤ d by omega)
  omega

set_option maxRecDepth 100000
theorem pri_127 : Pri 127 := pri_small (k := 11) (by decide) (by decide +kernel) (by decide)
theorem pri_75707 : Pri 75707 := pri_small (k := 275) (by decide) (by decide +kernel) (by decide)
theorem pri_1923133 : Pri 1923133 := pri_small (k := 1386) (by decide) (by decide +kernel) (by decide)
theorem pri_8574133 : Pri 8574133 := pri_small (k := 2928) (by decide) (by decide +kernel) (by decide)
theorem pri_c : Pri 1919519569386763 := pock2 (q := 8574133) (r := 127) (a := 2) (b := 2) (f := 51) (by decide) (by decide) pri_8574133 pri_127 (by decide) (by decide +kernel) (by decide +kernel) (by decide)
theorem pri_b : Pri 75445702479781427272750846543864801 := pock2 (q := 1919519569386763) (r := 75707) (a := 2) (b := 2) (f := 116) (by decide) (by decide) pri_c pri_75707 (by decide) (by decide +kernel) (by decide +kernel) (by decide)
theorem pri_a : Pri 74058212732561358302231226437062788676166966415465897661863160754340907 := pock2 (q := 75445702479781427272750846543864801) (r := 1923133) (a := 2) (b := 2) (f := 236) (by decide) (by decide) pri_b pri_1923133 (by decide) (by decide +kernel) (by decide +kernel) (by decide)
theorem pri_p : Pri (2 ^ 255 - 19) := pock1 (q := 74058212732561358302231226437062788676166966415465897661863160754340907) (a := 2) (f := 256) (by decide) (by decide) pri_a (by decide +kernel) (by decide)
end Go.Proofs.YtihoaakbkffejaaDoor
namespace Go.Proofs.YtihoaakbkffejaaDoor

theorem inv_nat {p a : Nat} (hp : Pri p) (h : ¬ p ∣ a) : a * a ^ (p - 2) % p = 1 := by
  have := hp.1
  rw [← Nat.pow_succ', show (p - 2).succ = p - 1 by omega]
  exact hp.one h
/-- The prime, as a natural number. -/
def pN : Nat := 57896044618658097711785492504343953926634992332820282019728792003956564819949
theorem pri_pN : Pri pN := pri_p
theorem pN_int : (pN : Int) = P25519 := rfl
/-- A root of the opposite of one. -/
def qN : Nat := 19681161376707505956807079304988542015446066515923890162744021073123829784752
/-- The exponent of the inverse, the exponent of a root. -/
def eInv : Nat := 57896044618658097711785492504343953926634992332820282019728792003956564819947
theorem inv_pN {a : Nat} (h : ¬ pN ∣ a) : a * a ^ eInv % pN = 1 := inv_nat pri_pN h
theorem inv_int {a : Int} (h0 : 0 < a) (h1 : a < P25519) : a * a ^ eInv % P25519 = 1 := by
  obtain ⟨n, rfl⟩ := Int.eq_ofNat_of_zero_le (show 0 ≤ a by omega)
  have hn : ¬ pN ∣ n := by
    intro h
    have := Nat.le_of_dvd (by omega) h
    rw [← pN_int] at h1
    omega
  have := inv_pN hn
  rw [← pN_int]
  exact_mod_cast congrArg (Nat.cast (R := Int)) this
end Go.Proofs.YtihoaakbkffejaaDoor
namespace Go.Proofs.YtihoaakbkffejaaDoor
set_option maxRecDepth 100000
set_option maxHeartbeats 4000000

/-- The field's numbers, as residues. -/
abbrev KF := Fin pN
theorem pN_ne : pN ≠ 0 := by unfold pN; decide
theorem nzP : NeZero pN := ⟨pN_ne⟩
/-- A whole number as one of the field. -/
def fe (x : Int) : KF := ⟨(x % P25519).toNat, by
  have h0 := Int.emod_nonneg x (show P25519 ≠ 0 by unfold P25519; decide)
  have h1 := Int.emod_lt_of_pos x (show 0 < P25519 by unfold P25519; decide)
  have h2 : ((x % P25519).toNat : Int) < (pN : Int) := by rw [pN_int]; omega
  exact Int.ofNat_lt.1 h2⟩
theorem fe_val (x : Int) : ((fe x).val : Int) = x % P25519 := by
  have h0 := Int.emod_nonneg x (show P25519 ≠ 0 by unfold P25519; decide)
  show ((x % P25519).toNat : Int) = _
  omega
theorem kf_ext {a b : KF} (h : ((a.val : Nat) : Int) = ((b.val : Nat) : Int)) : a = b := Fin.ext (Int.ofNat.inj h)
theorem fe_eq {x y : Int} : fe x = fe y ↔ x % P25519 = y % P25519 := by
  constructor
  · intro h; rw [← fe_val, ← fe_val, h]
  · intro h; apply kf_ext; rw [fe_val, fe_val, h]
theorem fe_add (x y : Int) : fe (x + y) = fe x + fe y := by
  apply kf_ext
  rw [fe_val, Fin.val_add]
  rw [Int.natCast_emod, Int.natCast_add, fe_val, fe_val, pN_int, ← Int.add_emod]
theorem fe_mul (x y : Int) : fe (x * y) = fe x * fe y := by
  apply kf_ext
  rw [fe_val, Fin.val_mul]
  rw [Int.natCast_emod, Int.natCast_mul, fe_val, fe_val, pN_int, ← Int.mul_emod]
theorem fe_mod (x : Int) : fe (x % P25519) = fe x := fe_eq.2 (Int.emod_emod _ _)
theorem fe_back (a : KF) : fe (a.val : Int) = a := by
  apply kf_ext
  rw [fe_val, ← pN_int]
  exact Int.emod_eq_of_lt (Int.natCast_nonneg _) (Int.ofNat_lt.2 a.isLt)
theorem fe_pow (x : Int) : ∀ n : Nat, fe (x ^ n) = fe ((x % P25519) ^ n)
  | 0 => by rw [Int.pow_zero, Int.pow_zero]
  | n + 1 => by rw [Int.pow_succ, Int.pow_succ, fe_mul, fe_mul, fe_pow x n, fe_mod]
/-- The inverse, as a power. -/
def ivK (a : KF) : KF := fe ((a.val : Int) ^ eInv)
theorem ivK_fe (x : Int) : ivK (fe x) = fe (x ^ eInv) := by
  unfold ivK
  rw [fe_val, ← fe_pow]
/-- The number d of the curve, and a root of the opposite of one. -/
def dN : Nat := 37095705934669439343138083508754565189542113879843219016388785533085940283555
def dK : KF := fe (dN : Int)
def iK : KF := fe (qN : Int)
theorem two_gen {x : Int} (h0 : 0 ≤ x) (h1 : x < P25519) (h : (x + x) % P25519 = 0) : x = 0 := by
  have hp : 0 < P25519 := by unfold P25519; decide
  have e := Int.emod_add_mul_ediv (x + x) P25519
  have k0 : 0 ≤ (x + x) / P25519 := Int.ediv_nonneg (by omega) (by omega)
  have k1 : (x + x) / P25519 < 2 := Int.ediv_lt_of_lt_mul hp (by omega)
  rw [h, Int.zero_add] at e
  have hk : (x + x) / P25519 = 0 ∨ (x + x) / P25519 = 1 := by omega
  rcases hk with hk | hk
  · rw [hk] at e; omega
  · rw [hk, Int.mul_one] at e
    have hodd : P25519 % 2 = 1 := by decide
    omega
theorem nsq_gen {p D H s t : Nat} (hp : Pri p) (hH : p - 1 = 2 * H) (hD : D ^ H % p = p - 1) (h2p : 2 < p) (ht : ¬ p ∣ t) (h : s * s % p = D * (t * t) % p) : False := by
  have pw2 : ∀ s : Nat, (s * s) ^ H = s ^ (p - 1) := fun s => by rw [hH, Nat.pow_mul, Nat.pow_two]
  have h2 : (s * s) ^ H % p = (D * (t * t)) ^ H % p := by rw [Nat.pow_mod, h, ← Nat.pow_mod]
  rw [pw2 s, Nat.mul_pow D, pw2 t, Nat.mul_mod, hp.one ht, hD, Nat.mul_one, Nat.mod_eq_of_lt (show p - 1 < p by omega)] at h2
  by_cases hs : p ∣ s
  · have h3 : s ^ (p - 1) % p = 0 := by
      obtain ⟨k, hk⟩ := hs
      rw [hk, show p - 1 = (p - 2) + 1 by omega, Nat.pow_succ, Nat.mul_comm, Nat.mul_assoc, Nat.mul_mod_right]
    omega
  · have := hp.one hs
    omega
/-- d to the power (p - 1) / 2 is the opposite of one. -/
def hP : Nat := 28948022309329048855892746252171976963317496166410141009864396001978282409974
theorem pw_gen {n a f e r : Nat} (h1 : 1 < n) (h2 : e < 2 ^ f) (h : pw n a f e = r) : a ^ e % n = r := (pw_eq h1 f e h2).symm.trans h
theorem one_lt_pN : 1 < pN := by unfold pN; decide
theorem two_lt_pN : 2 < pN := by unfold pN; decide
theorem hP_lt : hP < 2 ^ 255 := by unfold hP; decide
theorem hP_two : pN - 1 = 2 * hP := by unfold pN hP; decide
theorem dN_pw : pw pN dN 255 hP = pN - 1 := by decide +kernel
theorem dN_half : dN ^ hP % pN = pN - 1 := pw_gen one_lt_pN hP_lt dN_pw
theorem dK_val : dK.val = dN := by
  apply Int.ofNat.inj
  show ((fe (dN : Int)).val : Int) = (dN : Int)
  rw [fe_val]
  decide
section
variable [NeZero pN]
theorem fe_zero : fe 0 = 0 := by
  apply kf_ext
  rw [fe_val]
  rfl
theorem fe_one : fe 1 = 1 := by
  apply kf_ext
  rw [fe_val]
  rfl
theorem fe_sub (x y : Int) : fe (x - y) = fe x - fe y := by
  have h : fe (x - y) + fe y = fe x := by rw [← fe_add]; congr 1; omega
  rw [← h]
  grind
theorem fe_nz {x : Int} : fe x = 0 ↔ x % P25519 = 0 := by
  rw [← fe_zero, fe_eq]
  rfl
theorem ivK_inv (a : KF) (h : a ≠ 0) : a * ivK a = 1 := by
  have h0 : 0 < (a.val : Int) := by
    have : a.val ≠ 0 := fun e => h (Fin.ext (by rw [e]; rfl))
    omega
  have h1 : (a.val : Int) < P25519 := by rw [← pN_int]; exact Int.ofNat_lt.2 a.isLt
  have h2 := inv_int h0 h1
  have h3 : fe ((a.val : Int) * (a.val : Int) ^ eInv) = fe 1 := fe_eq.2 (by rw [h2]; rfl)
  rw [fe_mul, fe_back, fe_one] at h3
  exact h3
theorem im_K : iK * iK + 1 = 0 := by
  unfold iK
  rw [← fe_mul, ← fe_one, ← fe_add, fe_nz]
  decide +kernel
theorem one_K : (1 : KF) ≠ 0 := by
  rw [← fe_one, Ne, fe_nz]
  decide
theorem two_K (a : KF) (h : a + a = 0) : a = 0 := by
  have h1 : (a.val : Int) < P25519 := by rw [← pN_int]; exact Int.ofNat_lt.2 a.isLt
  have h2 := Int.natCast_nonneg a.val
  have h3 : ((a.val : Int) + (a.val : Int)) % P25519 = 0 := by
    rw [← fe_nz, fe_add, fe_back]
    exact h
  have h4 := two_gen h2 h1 h3
  rw [← fe_back a, h4, fe_zero]
theorem nsq_K (s t : KF) (h : s * s = dK * (t * t)) : t = 0 := by
  apply Classical.byContradiction
  intro ht
  have htv : ¬ pN ∣ t.val := fun e => ht (Fin.ext (by
    have := Nat.eq_zero_of_dvd_of_lt e t.isLt
    rw [this]; rfl))
  have h1 : s.val * s.val % pN = dN * (t.val * t.val) % pN := by
    have := congrArg Fin.val h
    rw [Fin.val_mul, Fin.val_mul, Fin.val_mul, dK_val, Nat.mul_mod_mod] at this
    exact this
  exact nsq_gen pri_pN hP_two dN_half two_lt_pN htv h1
theorem crvK : Crv dK iK ivK := ⟨im_K, one_K, two_K, nsq_K, ivK_inv⟩
end
end Go.Proofs.YtihoaakbkffejaaDoor
