/-
  What is proved here: plain mathematics of a twisted Edwards curve: its sum may be bracketed as one likes; no program is spoken of; plain mathematics of a twisted Edwards curve: so many times a point, by doubling and adding; the long form of a point; no program is spoken of; plain arithmetic: Fermat's little theorem, Pocklington's test, and that 2^255 - 19 is prime; plain arithmetic modulo 2^255 - 19: a number times its power p - 2 is one, and a square has a root that is one of two powers; plain mathematics: whole numbers modulo 2^255 - 19 as residues, their inverses, and that the number d of the curve is no square; no program is spoken of; contracts of the specification's l4small and l4sub: a small number in parts, and the difference of two numbers of the field; a law for the walk on 'append' where the first slice is a row of ints that the call itself owns and the second is any slice of ints; the two together hold at most 2^40 ints; the contract of the specification's l4out: a number of the field into a new slice of ints; the contract of the specification's l4less: which of two numbers is less; the contract of the specification's l4prime: the prime in sixteen parts; the contract of the specification's l4take: a difference, part by part; nothing of its own: the specification's l4prime, l4less and l4take are brought together; the contract of the specification's l4carry: parts that may be great come to the number modulo 2^255 - 19; the parts are not negative and below 2^46; the contract of the specification's l4add: the sum of two numbers of the field; the contract of the specification's l4mul: the product of two numbers of the field.
-/
import Derived.Test.YtihoaakbkffejaaGreatDoorSFm
import Derived.Deep.RegionHeld3
import Derived.Laws.AppendOwnNone
namespace Go.Proofs.YtihoaakbkffejaaGreatDoor
set_option maxRecDepth 100000
set_option maxHeartbeats 4000000

section
variable {p : Nat} [NeZero p] {d i : Fin p} {iv : Fin p → Fin p}
theorem assocX (x1 y1 x2 y2 x3 y3 d : Fin p) (h1 : y1*y1 - x1*x1 = 1 + d*(x1*x1)*(y1*y1)) (h2 : y2*y2 - x2*x2 = 1 + d*(x2*x2)*(y2*y2)) (h3 : y3*y3 - x3*x3 = 1 + d*(x3*x3)*(y3*y3)) :
  ((x1*y2+y1*x2)*(1-d*(x1*x2*y1*y2))*y3 + (y1*y2+x1*x2)*(1+d*(x1*x2*y1*y2))*x3) * ((1+d*(x2*x3*y2*y3))*(1-d*(x2*x3*y2*y3)) + d*x1*y1*(x2*y3+y2*x3)*(y2*y3+x2*x3))
  = (x1*(y2*y3+x2*x3)*(1+d*(x2*x3*y2*y3)) + y1*(x2*y3+y2*x3)*(1-d*(x2*x3*y2*y3))) * ((1+d*(x1*x2*y1*y2))*(1-d*(x1*x2*y1*y2)) + d*(x1*y2+y1*x2)*(y1*y2+x1*x2)*x3*y3) := by grind
theorem assocY (x1 y1 x2 y2 x3 y3 d : Fin p) (h1 : y1*y1 - x1*x1 = 1 + d*(x1*x1)*(y1*y1)) (h2 : y2*y2 - x2*x2 = 1 + d*(x2*x2)*(y2*y2)) (h3 : y3*y3 - x3*x3 = 1 + d*(x3*x3)*(y3*y3)) :
  ((y1*y2+x1*x2)*(1+d*(x1*x2*y1*y2))*y3 + (x1*y2+y1*x2)*(1-d*(x1*x2*y1*y2))*x3) * ((1+d*(x2*x3*y2*y3))*(1-d*(x2*x3*y2*y3)) - d*x1*y1*(x2*y3+y2*x3)*(y2*y3+x2*x3))
  = (y1*(y2*y3+x2*x3)*(1+d*(x2*x3*y2*y3)) + x1*(x2*y3+y2*x3)*(1-d*(x2*x3*y2*y3))) * ((1+d*(x1*x2*y1*y2))*(1-d*(x1*x2*y1*y2)) - d*(x1*y2+y1*x2)*(y1*y2+x1*x2)*x3*y3) := by grind
/-- A fraction of fractions. -/
theorem frac {A B al be u v w x y s : Fin p} (hu : al * u = 1) (hv : be * v = 1) (hw : (1 + s * (A * u * x * (B * v) * y)) * w = 1) :
    (A * u * y + B * v * x) * w * (al * be + s * A * B * x * y) = A * be * y + B * al * x ∧ (al * be + s * A * B * x * y) * (u * v * w) = 1 := by
  constructor
  · grind
  · grind
theorem cancel {L R M N n1 n2 : Fin p} {a b : Fin p} (h1 : L * M = a) (h2 : R * N = b) (n1h : M * n1 = 1) (n2h : N * n2 = 1) (h : a * N = b * M) : L = R := by grind
theorem perm1 (x a y b : Fin p) : x * a * y * b = a * x * b * y := by grind
theorem perm2 (d a x b y w : Fin p) (h : (1 - d * (a * x * b * y)) * w = 1) : (1 + (0 - d) * (b * x * a * y)) * w = 1 := by grind
theorem Crv.assoc (C : Crv d i iv) {P Q R : Fin p × Fin p} (h1 : On d P) (h2 : On d Q) (h3 : On d R) : pAdd d iv (pAdd d iv P Q) R = pAdd d iv P (pAdd d iv Q R) := by
  have g12 := C.on_add h1 h2
  have g23 := C.on_add h2 h3
  obtain ⟨x1, y1⟩ := P
  obtain ⟨x2, y2⟩ := Q
  obtain ⟨x3, y3⟩ := R
  have n12 := C.ne h1 h2
  have n23 := C.ne h2 h3
  have nL := C.ne g12 h3
  have nR := C.ne h1 g23
  have u12 := C.inv _ n12.1
  have v12 := C.inv _ n12.2
  have u23 := C.inv _ n23.1
  have v23 := C.inv _ n23.2
  have uL := C.inv _ nL.1
  have vL := C.inv _ nL.2
  have uR := C.inv _ nR.1
  have vR := C.inv _ nR.2
  have aX := assocX x1 y1 x2 y2 x3 y3 d h1 h2 h3
  have aY := assocY x1 y1 x2 y2 x3 y3 d h1 h2 h3
  simp only [pAdd] at uL vL uR vR ⊢
  clear g12 g23 nL nR n12 n23 h1 h2 h3
  generalize iv (1 + d * (x1 * x2 * y1 * y2)) = u at *
  generalize iv (1 - d * (x1 * x2 * y1 * y2)) = v at *
  generalize iv (1 + d * (x2 * x3 * y2 * y3)) = u' at *
  generalize iv (1 - d * (x2 * x3 * y2 * y3)) = v' at *
  generalize 1 + d * (x1 * x2 * y1 * y2) = al at *
  generalize 1 - d * (x1 * x2 * y1 * y2) = be at *
  generalize 1 + d * (x2 * x3 * y2 * y3) = al' at *
  generalize 1 - d * (x2 * x3 * y2 * y3) = be' at *
  generalize x1 * y2 + y1 * x2 = A at *
  generalize y1 * y2 + x1 * x2 = B at *
  generalize x2 * y3 + y2 * x3 = A' at *
  generalize y2 * y3 + x2 * x3 = B' at *
  generalize iv (1 + d * (A * u * x3 * (B * v) * y3)) = wL at *
  generalize iv (1 - d * (A * u * x3 * (B * v) * y3)) = zL at *
  generalize iv (1 + d * (x1 * (A' * u') * y1 * (B' * v'))) = wR at *
  generalize iv (1 - d * (x1 * (A' * u') * y1 * (B' * v'))) = zR at *
  have f1 := frac (s := d) (x := x3) (y := y3) (w := wL) u12 v12 uL
  have f2 := frac (s := d) (x := x1) (y := y1) (w := wR) (A := A') (B := B') u23 v23 (by rw [← perm1]; exact uR)
  have f3 := frac (s := 0 - d) (x := x3) (y := y3) (w := zL) (A := B) (B := A) v12 u12 (perm2 _ _ _ _ _ _ vL)
  have f4 := frac (s := 0 - d) (x := x1) (y := y1) (w := zR) (A := B') (B := A') v23 u23 (perm2 _ _ _ _ _ _ (by rw [← perm1]; exact vR))
  have eX : (A * u * y3 + B * v * x3) * wL = (x1 * (B' * v') + y1 * (A' * u')) * wR := by
    refine cancel f1.1 (b := x1 * B' * al' + y1 * A' * be') (N := al' * be' + d * A' * B' * x1 * y1) ?_ f1.2 f2.2 ?_
    · have := f2.1
      clear aX aY f1 f2 f3 f4
      grind
    · clear f1 f2 f3 f4 uL vL uR vR u12 v12 u23 v23 aY
      grind
  have eY : (B * v * y3 + A * u * x3) * zL = (y1 * (B' * v') + x1 * (A' * u')) * zR := by
    refine cancel f3.1 (b := y1 * B' * al' + x1 * A' * be') (N := be' * al' + (0 - d) * B' * A' * x1 * y1) ?_ f3.2 f4.2 ?_
    · have := f4.1
      clear aX aY f1 f2 f3 f4
      grind
    · clear f1 f2 f3 f4 uL vL uR vR u12 v12 u23 v23 aX
      grind
  rw [eX, eY]
end
end Go.Proofs.YtihoaakbkffejaaGreatDoor
namespace Go.Proofs.YtihoaakbkffejaaGreatDoor
set_option maxRecDepth 100000
set_option maxHeartbeats 4000000

section
variable {p : Nat} [NeZero p] {d i : Fin p} {iv : Fin p → Fin p}
/-- So many times a point. -/
def pMul (d : Fin p) (iv : Fin p → Fin p) : Nat → Fin p × Fin p → Fin p × Fin p
  | 0, _ => pZero
  | n + 1, P => pAdd d iv (pMul d iv n P) P
theorem Crv.on_mul (C : Crv d i iv) {P : Fin p × Fin p} (h : On d P) : ∀ n, On d (pMul d iv n P)
  | 0 => on_zero
  | n + 1 => C.on_add (C.on_mul h n) h
theorem Crv.mul_add (C : Crv d i iv) {P : Fin p × Fin p} (h : On d P) (m : Nat) : ∀ n, pMul d iv (m + n) P = pAdd d iv (pMul d iv m P) (pMul d iv n P)
  | 0 => (C.add_zero _).symm
  | n + 1 => by
    show pAdd d iv (pMul d iv (m + n) P) P = pAdd d iv (pMul d iv m P) (pAdd d iv (pMul d iv n P) P)
    rw [C.mul_add h m n, C.assoc (C.on_mul h m) (C.on_mul h n) h]
theorem Crv.mul_one (C : Crv d i iv) (P : Fin p × Fin p) : pMul d iv 1 P = P := C.zero_add P
/-- One step of doubling and adding. -/
theorem Crv.mul_bit (C : Crv d i iv) {P : Fin p × Fin p} (h : On d P) (N j : Nat) :
    pMul d iv (N / 2 ^ j) P = (if N / 2 ^ j % 2 = 1 then pAdd d iv (pAdd d iv (pMul d iv (N / 2 ^ (j + 1)) P) (pMul d iv (N / 2 ^ (j + 1)) P)) P else pAdd d iv (pMul d iv (N / 2 ^ (j + 1)) P) (pMul d iv (N / 2 ^ (j + 1)) P)) := by
  have e : N / 2 ^ (j + 1) = N / 2 ^ j / 2 := by rw [Nat.pow_succ, Nat.div_div_eq_div_mul]
  rw [e, ← C.mul_add h]
  split
  · rename_i h1
    show _ = pMul d iv (N / 2 ^ j / 2 + N / 2 ^ j / 2 + 1) P
    congr 1
    omega
  · congr 1
    omega
/-- Four numbers that stand for a point: x is a/c, y is b/c, x y is t/c. -/
structure Ext (a b c t : Fin p) (P : Fin p × Fin p) : Prop where
  ha : a = P.1 * c
  hb : b = P.2 * c
  ht : t = P.1 * P.2 * c
  hc : c ≠ 0
theorem Crv.nz_mul (C : Crv d i iv) {a b : Fin p} (ha : a ≠ 0) (hb : b ≠ 0) : a * b ≠ 0 := fun h => by
  have h1 := C.inv a ha
  have h2 := C.inv b hb
  exact C.one (by grind)
theorem Crv.two_ne (C : Crv d i iv) : (1 : Fin p) + 1 ≠ 0 := fun h => C.one (C.two 1 h)
theorem Ext.make (C : Crv d i iv) (x y : Fin p) : Ext x y 1 (x * y) (x, y) := ⟨by grind, by grind, by grind, C.one⟩
theorem Ext.flat (C : Crv d i iv) {a b c t : Fin p} {P : Fin p × Fin p} (h : Ext a b c t P) : a * iv c = P.1 ∧ b * iv c = P.2 := by
  have hi := C.inv c h.hc
  have h1 := h.ha
  have h2 := h.hb
  constructor <;> grind
theorem Ext.neg {a b c t : Fin p} {P : Fin p × Fin p} (h : Ext a b c t P) : Ext (0 - a) b c (0 - t) (pNeg P) := by
  have h1 := h.ha
  have h2 := h.hb
  have h3 := h.ht
  refine ⟨?_, ?_, ?_, h.hc⟩ <;> simp only [pNeg] <;> grind
theorem extG (x1 y1 c1 x2 y2 c2 d : Fin p) : c1 * (c2 + c2) - x1 * y1 * c1 * (x2 * y2 * c2) * (d + d) = c1 * c2 * (1 + 1) * (1 - d * (x1 * x2 * y1 * y2)) := by grind
theorem extH (x1 y1 c1 x2 y2 c2 d : Fin p) : c1 * (c2 + c2) + x1 * y1 * c1 * (x2 * y2 * c2) * (d + d) = c1 * c2 * (1 + 1) * (1 + d * (x1 * x2 * y1 * y2)) := by grind
theorem extF (x1 y1 c1 x2 y2 c2 : Fin p) : (y1 * c1 + x1 * c1) * (y2 * c2 + x2 * c2) - (y1 * c1 - x1 * c1) * (y2 * c2 - x2 * c2) = c1 * c2 * (1 + 1) * (x1 * y2 + y1 * x2) := by grind
theorem extK (x1 y1 c1 x2 y2 c2 : Fin p) : (y1 * c1 + x1 * c1) * (y2 * c2 + x2 * c2) + (y1 * c1 - x1 * c1) * (y2 * c2 - x2 * c2) = c1 * c2 * (1 + 1) * (y1 * y2 + x1 * x2) := by grind
theorem ext1 {g u : Fin p} (hu : g * u = 1) (k a f : Fin p) : k * a * (k * f) = a * u * (k * f * (k * g)) := by grind
theorem ext2 {f v : Fin p} (hv : f * v = 1) (k b g : Fin p) : k * g * (k * b) = b * v * (k * f * (k * g)) := by grind
theorem ext3 {f g u v : Fin p} (hu : g * u = 1) (hv : f * v = 1) (k a b : Fin p) : k * a * (k * b) = a * u * (b * v) * (k * f * (k * g)) := by grind
/-- The sum in the long form. -/
theorem Ext.add (C : Crv d i iv) {a1 b1 c1 t1 a2 b2 c2 t2 : Fin p} {P Q : Fin p × Fin p} (h1 : Ext a1 b1 c1 t1 P) (h2 : Ext a2 b2 c2 t2 Q) (o1 : On d P) (o2 : On d Q)
    {A B D E F G H K : Fin p} (hA : A = (b1 - a1) * (b2 - a2)) (hB : B = (b1 + a1) * (b2 + a2)) (hD : D = t1 * t2 * (d + d)) (hE : E = c1 * (c2 + c2))
    (hF : F = B - A) (hG : G = E - D) (hH : H = E + D) (hK : K = B + A) : Ext (F * G) (H * K) (G * H) (F * K) (pAdd d iv P Q) := by
  obtain ⟨x1, y1⟩ := P
  obtain ⟨x2, y2⟩ := Q
  have hn := C.ne o1 o2
  have hu := C.inv _ hn.1
  have hv := C.inv _ hn.2
  obtain ⟨q1, q2, q3, q4⟩ := h1
  obtain ⟨r1, r2, r3, r4⟩ := h2
  simp only at q1 q2 q3 r1 r2 r3
  have hG' : G = c1 * c2 * (1 + 1) * (1 - d * (x1 * x2 * y1 * y2)) := by rw [hG, hE, hD, q3, r3]; exact extG ..
  have hH' : H = c1 * c2 * (1 + 1) * (1 + d * (x1 * x2 * y1 * y2)) := by rw [hH, hE, hD, q3, r3]; exact extH ..
  have hF' : F = c1 * c2 * (1 + 1) * (x1 * y2 + y1 * x2) := by rw [hF, hB, hA, q1, q2, r1, r2]; exact extF ..
  have hK' : K = c1 * c2 * (1 + 1) * (y1 * y2 + x1 * x2) := by rw [hK, hB, hA, q1, q2, r1, r2]; exact extK ..
  have hcc : c1 * c2 * (1 + 1) ≠ 0 := C.nz_mul (C.nz_mul q4 r4) C.two_ne
  have hz : G * H ≠ 0 := by
    rw [hG', hH']
    exact C.nz_mul (C.nz_mul hcc hn.2) (C.nz_mul hcc hn.1)
  clear hA hB hD hE hF hG hH hK q1 q2 q3 r1 r2 r3 hn o1 o2
  simp only [pAdd]
  generalize iv (1 + d * (x1 * x2 * y1 * y2)) = u at *
  generalize iv (1 - d * (x1 * x2 * y1 * y2)) = v at *
  refine ⟨?_, ?_, ?_, hz⟩
  · rw [hF', hG', hH']; exact ext1 hu _ _ _
  · rw [hK', hG', hH']; exact ext2 hv _ _ _
  · rw [hF', hK', hG', hH']; exact ext3 hu hv _ _ _
end
end Go.Proofs.YtihoaakbkffejaaGreatDoor
namespace Go.Proofs.YtihoaakbkffejaaGreatDoor

def Pri (p : Nat) : Prop := 1 < p ∧ ∀ m, m ∣ p → m = 1 ∨ m = p

theorem Pri.cop {p a : Nat} (hp : Pri p) (h : ¬ p ∣ a) : Nat.gcd p a = 1 := by
  rcases hp.2 _ (Nat.gcd_dvd_left p a) with h1 | h1
  · exact h1
  · exact absurd (h1 ▸ Nat.gcd_dvd_right p a) h
theorem Pri.dvd_mul {p a b : Nat} (hp : Pri p) (h : p ∣ a * b) : p ∣ a ∨ p ∣ b := by
  by_cases ha : p ∣ a
  · exact .inl ha
  · exact .inr (Nat.Coprime.dvd_of_dvd_mul_left (hp.cop ha) h)

/-- The number of ways to take k of n. -/
def ch : Nat → Nat → Nat
  | _, 0 => 1
  | 0, _ + 1 => 0
  | n + 1, k + 1 => ch n k + ch n (k + 1)
theorem ch_zero (n : Nat) : ch n 0 = 1 := by cases n <;> rfl
theorem ch_big : ∀ (n k : Nat), n < k → ch n k = 0
  | 0, k + 1, _ => rfl
  | n + 1, k + 1, h => by rw [ch, ch_big n k (by omega), ch_big n (k + 1) (by omega)]
theorem ch_self : ∀ n : Nat, ch n n = 1
  | 0 => rfl
  | n + 1 => by rw [ch, ch_self n, ch_big n (n + 1) (by omega)]
theorem ch_mul : ∀ (n k : Nat), (k + 1) * ch (n + 1) (k + 1) = (n + 1) * ch n k
  | 0, 0 => rfl
  | 0, k + 1 => by
    rw [ch_big 1 (k + 2) (by omega), ch_big 0 (k + 1) (by omega)]; simp
  | n + 1, 0 => by
    have h1 := ch_mul n 0
    have h2 : ch (n + 1 + 1) (0 + 1) = ch (n + 1) 0 + ch (n + 1) (0 + 1) := rfl
    rw [h2, ch_zero]
    rw [ch_zero] at h1
    omega
  | n + 1, k + 1 => by
    have h1 := ch_mul n k
    have h2 := ch_mul n (k + 1)
    rw [ch]
    have h3 : ch (n + 1) (k + 1) = ch n k + ch n (k + 1) := rfl
    generalize ch (n + 1) (k + 1) = x at *
    generalize ch (n + 1) (k + 1 + 1) = y at *
    rw [Nat.mul_add, Nat.succ_mul (k + 1) x, h1, h2, Nat.succ_mul (n + 1) x, h3, Nat.mul_add]
    omega
/-- The first j parts of (x + 1) to the n. -/
def bsum (n x : Nat) : Nat → Nat
  | 0 => 0
  | j + 1 => bsum n x j + ch n j * x ^ j
theorem bsum_up (n x : Nat) : ∀ j, bsum (n + 1) x (j + 1) = bsum n x (j + 1) + x * bsum n x j
  | 0 => by simp [bsum, ch_zero]
  | j + 1 => by
    have h := bsum_up n x j
    rw [bsum, h]
    have h1 : bsum n x (j + 1 + 1) = bsum n x (j + 1) + ch n (j + 1) * x ^ (j + 1) := rfl
    have h2 : bsum n x (j + 1) = bsum n x j + ch n j * x ^ j := rfl
    have h3 : ch (n + 1) (j + 1) = ch n j + ch n (j + 1) := rfl
    rw [h1, h3, Nat.add_mul, show x * bsum n x (j + 1) = x * bsum n x j + ch n j * x ^ (j + 1) by rw [h2, Nat.mul_add, Nat.pow_succ]; congr 1; rw [Nat.mul_left_comm, Nat.mul_comm x (x ^ j)]]
    omega
theorem binom (x : Nat) : ∀ n, (x + 1) ^ n = bsum n x (n + 1)
  | 0 => by simp [bsum, ch]
  | n + 1 => by
    have h := bsum_up n x (n + 1)
    have h1 : bsum n x (n + 1 + 1) = bsum n x (n + 1) + ch n (n + 1) * x ^ (n + 1) := rfl
    rw [ch_big n (n + 1) (by omega), Nat.zero_mul, Nat.add_zero] at h1
    rw [h, h1, Nat.pow_succ, binom x n, Nat.mul_add, Nat.mul_one, Nat.mul_comm]
    omega
theorem Pri.ch {p : Nat} (hp : Pri p) (k : Nat) (h0 : 0 < k) (h1 : k < p) : p ∣ ch p k := by
  obtain ⟨q, rfl⟩ : ∃ q, p = q + 1 := ⟨p - 1, by omega⟩
  obtain ⟨j, rfl⟩ : ∃ j, k = j + 1 := ⟨k - 1, by omega⟩
  have := ch_mul q j
  rcases hp.dvd_mul (a := j + 1) (b := Go.Proofs.YtihoaakbkffejaaGreatDoor.ch (q + 1) (j + 1)) ⟨_, this⟩ with h | h
  · exact absurd (Nat.le_of_dvd (by omega) h) (by omega)
  · exact h
theorem Pri.bsum {p : Nat} (hp : Pri p) (x : Nat) : ∀ j, 0 < j → j ≤ p → bsum p x j % p = 1
  | 0, h, _ => by omega
  | 1, _, _ => by
    have := hp.1
    simp [Go.Proofs.YtihoaakbkffejaaGreatDoor.bsum, ch_zero, Nat.mod_eq_of_lt this]
  | j + 2, _, h => by
    have h1 := hp.bsum x (j + 1) (by omega) (by omega)
    obtain ⟨c, hc⟩ := hp.ch (j + 1) (by omega) (by omega)
    rw [Go.Proofs.YtihoaakbkffejaaGreatDoor.bsum, hc, Nat.mul_assoc, Nat.add_mul_mod_self_left, h1]
theorem Pri.frob {p : Nat} (hp : Pri p) (x : Nat) : (x + 1) ^ p % p = (x ^ p + 1) % p := by
  rw [binom, Go.Proofs.YtihoaakbkffejaaGreatDoor.bsum, ch_self, Nat.one_mul, Nat.add_comm, Nat.add_mod, hp.bsum x p (by have := hp.1; omega) (Nat.le_refl _), Nat.mod_add_mod]
theorem Pri.fermat {p : Nat} (hp : Pri p) : ∀ x : Nat, x ^ p % p = x % p
  | 0 => by rw [Nat.zero_pow (by have := hp.1; omega)]
  | x + 1 => by rw [hp.frob, Nat.add_mod, hp.fermat x, ← Nat.add_mod]
/-- Fermat's little theorem. -/
theorem Pri.one {p : Nat} (hp : Pri p) {x : Nat} (hx : ¬ p ∣ x) : x ^ (p - 1) % p = 1 := by
  have h1 := hp.1
  have hx0 : 0 < x := by
    rcases Nat.eq_zero_or_pos x with rfl | h
    · exact absurd (Nat.dvd_zero p) hx
    · exact h
  have hpos : 0 < x ^ (p - 1) := Nat.pow_pos hx0
  have h2 : p ∣ x ^ p - x := (Nat.sub_mod_eq_zero_of_mod_eq (hp.fermat x)) |> Nat.dvd_of_mod_eq_zero
  have h3 : x ^ p - x = x * (x ^ (p - 1) - 1) := by
    rw [Nat.mul_sub, Nat.mul_one, ← Nat.pow_succ', show (p - 1).succ = p by omega]
  rw [h3] at h2
  rcases hp.dvd_mul h2 with h | h
  · exact absurd h hx
  · obtain ⟨c, hc⟩ := h
    rw [show x ^ (p - 1) = 1 + p * c by omega, Nat.add_mul_mod_self_left, Nat.mod_eq_of_lt h1]

theorem pow_mod_one {d b x : Nat} (hd : 1 < d) (h : b ^ x % d = 1) (c : Nat) : b ^ (x * c) % d = 1 := by
  rw [Nat.pow_mul, Nat.pow_mod, h, Nat.one_pow, Nat.mod_eq_of_lt hd]
theorem pow_gcd {d b : Nat} (hd : 1 < d) (x y : Nat) : b ^ x % d = 1 → b ^ y % d = 1 → b ^ (Nat.gcd x y) % d = 1 := by
  induction x, y using Nat.gcd.induction with
  | H0 y => intro _ h; rw [Nat.gcd_zero_left]; exact h
  | H1 x y _ ih =>
    intro hx hy
    rw [Nat.gcd_rec]
    refine ih ?_ hx
    have h1 := pow_mod_one hd hx (y / x)
    rw [← Nat.div_add_mod y x, Nat.pow_add, Nat.mul_mod, h1, Nat.one_mul, Nat.mod_mod] at hy
    exact hy
theorem pri_dvd : ∀ n : Nat, 1 < n → ∃ d, Pri d ∧ d ∣ n := by
  intro n
  induction n using Nat.strongRecOn with
  | ind n ih =>
    intro h
    by_cases hp : Pri n
    · exact ⟨n, hp, Nat.dvd_refl _⟩
    · have : ∃ m, m ∣ n ∧ m ≠ 1 ∧ m ≠ n := by
        refine Classical.byContradiction fun hc => hp ⟨h, fun m hm => ?_⟩
        refine Classical.byContradiction fun h2 => hc ⟨m, hm, fun e => h2 (.inl e), fun e => h2 (.inr e)⟩
      obtain ⟨m, hm, h1, h2⟩ := this
      have hl := Nat.le_of_dvd (by omega) hm
      have h0 : m ≠ 0 := by rintro rfl; have := Nat.eq_zero_of_zero_dvd hm; omega
      obtain ⟨d, hd, hdm⟩ := ih m (by omega) (by omega)
      exact ⟨d, hd, Nat.dvd_trans hdm hm⟩
/-- Who has no prime divisor up to its root is prime. -/
theorem pri_of {n : Nat} (h1 : 1 < n) (h : ∀ d, Pri d → d ∣ n → n < d * d) : Pri n := by
  refine ⟨h1, fun m hm => ?_⟩
  obtain ⟨c, hc⟩ := hm
  refine Classical.byContradiction fun hne => ?_
  have hm1 : m ≠ 1 := fun e => hne (.inl e)
  have hmn : m ≠ n := fun e => hne (.inr e)
  have hm0 : m ≠ 0 := by rintro rfl; simp at hc; omega
  have hc0 : c ≠ 0 := by rintro rfl; simp at hc; omega
  have hc1 : c ≠ 1 := by rintro rfl; simp at hc; omega
  have key : ∀ u v : Nat, 1 < u → n = u * v → u ≤ v → False := by
    intro u v hu hn huv
    obtain ⟨d, hd, hdu⟩ := pri_dvd u hu
    have hdl := Nat.le_of_dvd (by omega) hdu
    have h2 := h d hd (hn ▸ Nat.dvd_trans hdu (Nat.dvd_mul_right u v))
    have h3 : d * d ≤ u * v := Nat.mul_le_mul hdl (by omega)
    omega
  rcases Nat.le_total m c with h2 | h2
  · exact key m c (by omega) hc h2
  · exact key c m (by omega) (by rw [Nat.mul_comm]; exact hc) h2

/-- A witness: q divides d - 1 for every prime d that divides n. -/
theorem wit {n d q m a : Nat} (hn0 : 0 < n) (hd : Pri d) (hdn : d ∣ n) (hq : Pri q) (hn : n - 1 = m * q) (h1 : a ^ (n - 1) % n = 1) (h2 : Nat.gcd (a ^ m % n + (n - 1)) n = 1) : q ∣ d - 1 := by
  refine Classical.byContradiction fun hnd => ?_
  have hd1 := hd.1
  have hb : a ^ (m * q) % d = 1 := by
    rw [← hn, ← Nat.mod_mod_of_dvd _ hdn, h1, Nat.mod_eq_of_lt hd1]
  have hda : ¬ d ∣ a ^ m := by
    intro h
    rw [Nat.pow_mul, Nat.pow_mod, Nat.mod_eq_zero_of_dvd h, Nat.zero_pow (by have := hq.1; omega)] at hb
    simp at hb
  have h3 := pow_gcd hd1 q (d - 1) (by rw [← Nat.pow_mul]; exact hb) (hd.one hda)
  rw [hq.cop hnd, Nat.pow_one] at h3
  have h4 : d ∣ a ^ m % n + (n - 1) := by
    refine Nat.dvd_of_mod_eq_zero ?_
    rw [Nat.add_mod, Nat.mod_mod_of_dvd _ hdn, h3, Nat.add_mod_mod, show 1 + (n - 1) = n by omega]
    exact Nat.mod_eq_zero_of_dvd hdn
  have h5 : d ∣ 1 := h2 ▸ Nat.dvd_gcd h4 hdn
  have := Nat.le_of_dvd (by omega) h5
  omega

/-- a to the e modulo n, for e below 2 to the f. -/
def pw (n a : Nat) : Nat → Nat → Nat
  | 0, _ => 1
  | f + 1, e => (pw n a f (e / 2)) ^ 2 * a ^ (e % 2) % n
theorem pw_eq {n a : Nat} (hn : 1 < n) : ∀ f e : Nat, e < 2 ^ f → pw n a f e = a ^ e % n
  | 0, e, h => by
    have : e = 0 := by simpa using h
    subst this
    simp [pw, Nat.mod_eq_of_lt hn]
  | f + 1, e, h => by
    rw [pw, pw_eq hn f (e / 2) (by rw [Nat.pow_succ] at h; omega)]
    conv => rhs; rw [← Nat.div_add_mod e 2, Nat.pow_add, Nat.mul_comm 2, Nat.pow_mul, Nat.mul_mod, Nat.pow_mod (a ^ (e / 2))]
    rw [Nat.mul_mod]

def noDiv (n : Nat) : Nat → Bool
  | 0 => true
  | k + 1 => (n % (k + 2) != 0) && noDiv n k
theorem noDiv_at {n : Nat} : ∀ k, noDiv n k = true → ∀ m, 2 ≤ m → m ≤ k + 1 → ¬ m ∣ n
  | 0, _, m, h1, h2 => by omega
  | k + 1, h, m, h1, h2 => by
    simp only [noDiv, Bool.and_eq_true, bne_iff_ne] at h
    by_cases e : m = k + 2
    · subst e; intro hd; exact h.1 (Nat.mod_eq_zero_of_dvd hd)
    · exact noDiv_at k h.2 m h1 (by omega)
theorem pri_small {n k : Nat} (h1 : 1 < n) (h : noDiv n k = true) (hk : n < (k + 2) * (k + 2)) : Pri n := by
  refine pri_of h1 fun d hd hdn => ?_
  by_cases hl : d ≤ k + 1
  · exact absurd hdn (noDiv_at k h d hd.1 hl)
  · have := Nat.mul_le_mul (show k + 2 ≤ d by omega) (show k + 2 ≤ d by omega)
    omega

/-- What a witness is checked for. -/
def isWit (n q a f : Nat) : Bool := (n - 1) % q == 0 && pw n a f (n - 1) == 1 && Nat.gcd (pw n a f ((n - 1) / q) + (n - 1)) n == 1
theorem isWit_dvd {n q a f d : Nat} (hn : 1 < n) (hf : n < 2 ^ f) (hq : Pri q) (h : isWit n q a f = true) (hd : Pri d) (hdn : d ∣ n) : q ∣ d - 1 := by
  simp only [isWit, Bool.and_eq_true, beq_iff_eq] at h
  obtain ⟨⟨h1, h2⟩, h3⟩ := h
  have hle : (n - 1) / q ≤ n - 1 := Nat.div_le_self _ _
  rw [pw_eq hn f _ (by omega)] at h2 h3
  exact wit (by omega) hd hdn hq (Nat.div_mul_cancel (Nat.dvd_of_mod_eq_zero h1)).symm h2 h3
theorem pock1 {n q a f : Nat} (hn : 1 < n) (hf : n < 2 ^ f) (hq : Pri q) (h : isWit n q a f = true) (hF : n < q * q) : Pri n := by
  refine pri_of hn fun d hd hdn => ?_
  have h1 := isWit_dvd hn hf hq h hd hdn
  have := hd.1
  have h2 := Nat.le_of_dvd (by omega) h1
  have := Nat.mul_le_mul (show q ≤ d by omega) (show q ≤ d by omega)
  omega
theorem pock2 {n q r a b f : Nat} (hn : 1 < n) (hf : n < 2 ^ f) (hq : Pri q) (hr : Pri r) (hqr : Nat.gcd q r = 1) (h : isWit n q a f = true) (h' : isWit n r b f = true) (hF : n < (q * r) * (q * r)) : Pri n := by
  refine pri_of hn fun d hd hdn => ?_
  have h1 := Nat.Coprime.mul_dvd_of_dvd_of_dvd hqr (isWit_dvd hn hf hq h hd hdn) (isWit_dvd hn hf hr h' hd hdn)
  have := hd.1
  have h2 := Nat.le_of_dvd (by omega) h1
  have := Nat.mul_le_mul (show q * r ≤ d by omega) (show q * r ≤ d by omega)
  omega

set_option maxRecDepth 100000
theorem pri_127 : Pri 127 := pri_small (k := 11) (by decide) (by decide +kernel) (by decide)
theorem pri_75707 : Pri 75707 := pri_small (k := 275) (by decide) (by decide +kernel) (by decide)
theorem pri_1923133 : Pri 1923133 := pri_small (k := 1386) (by decide) (by decide +kernel) (by decide)
theorem pri_8574133 : Pri 8574133 := pri_small (k := 2928) (by decide) (by decide +kernel) (by decide)
theorem pri_c : Pri 1919519569386763 := pock2 (q := 8574133) (r := 127) (a := 2) (b := 2) (f := 51) (by decide) (by decide) pri_8574133 pri_127 (by decide) (by decide +kernel) (by decide +kernel) (by decide)
theorem pri_b : Pri 75445702479781427272750846543864801 := pock2 (q := 1919519569386763) (r := 75707) (a := 2) (b := 2) (f := 116) (by decide) (by decide) pri_c pri_75707 (by decide) (by decide +kernel) (by decide +kernel) (by decide)
theorem pri_a : Pri 74058212732561358302231226437062788676166966415465897661863160754340907 := pock2 (q := 75445702479781427272750846543864801) (r := 1923133) (a := 2) (b := 2) (f := 236) (by decide) (by decide) pri_b pri_1923133 (by decide) (by decide +kernel) (by decide +kernel) (by decide)
theorem pri_p : Pri (2 ^ 255 - 19) := pock1 (q := 74058212732561358302231226437062788676166966415465897661863160754340907) (a := 2) (f := 256) (by decide) (by decide) pri_a (by decide +kernel) (by decide)
end Go.Proofs.YtihoaakbkffejaaGreatDoor
namespace Go.Proofs.YtihoaakbkffejaaGreatDoor

theorem inv_nat {p a : Nat} (hp : Pri p) (h : ¬ p ∣ a) : a * a ^ (p - 2) % p = 1 := by
  have := hp.1
  rw [← Nat.pow_succ', show (p - 2).succ = p - 1 by omega]
  exact hp.one h
theorem sq_one {p h : Nat} (hp : Pri p) (hh : h * h % p = 1) : h % p = 1 ∨ p ∣ h + 1 := by
  have h1 := hp.1
  obtain ⟨k, rfl⟩ : ∃ k, h = k + 1 := by
    cases h with
    | zero => simp at hh
    | succ k => exact ⟨k, rfl⟩
  have h2 : p ∣ (k + 1) * (k + 1) - 1 := Nat.dvd_of_mod_eq_zero (Nat.sub_mod_eq_zero_of_mod_eq (by rw [hh, Nat.mod_eq_of_lt h1]))
  rw [show (k + 1) * (k + 1) - 1 = k * (k + 1 + 1) by rw [Nat.mul_add (k + 1), Nat.add_mul, Nat.mul_add k, Nat.mul_add k]; omega] at h2
  rcases hp.dvd_mul h2 with h | h
  · obtain ⟨c, rfl⟩ := h
    exact .inl (by rw [Nat.mul_add_mod, Nat.mod_eq_of_lt h1])
  · exact .inr h
/-- A square has a root: one of two powers. -/
theorem root_nat {p b s e h : Nat} (hp : Pri p) (hs : p ∣ s * s + 1) (hh : p - 1 = h * 2) (he : e * 4 = h + 2) :
    (b * b) ^ e * (b * b) ^ e % p = b * b % p ∨ (b * b) ^ e * s * ((b * b) ^ e * s) % p = b * b % p := by
  have h1 := hp.1
  have hr : (b * b) ^ e * (b * b) ^ e = b ^ h * (b * b) := by
    rw [show b * b = b ^ 2 from (Nat.pow_two b).symm, ← Nat.pow_mul, ← Nat.pow_add, ← Nat.pow_add]
    congr 1
    omega
  by_cases hb : p ∣ b
  · refine .inl ?_
    rw [hr, Nat.mod_eq_zero_of_dvd (Nat.dvd_trans hb (Nat.dvd_mul_right b b)), Nat.mod_eq_zero_of_dvd (Nat.dvd_trans (Nat.dvd_trans hb (Nat.dvd_mul_right b b)) (Nat.dvd_mul_left _ _))]
  · have hH : b ^ h * b ^ h % p = 1 := by
      rw [← Nat.pow_add, show h + h = p - 1 by omega]
      exact hp.one hb
    rcases sq_one hp hH with h2 | h2
    · refine .inl ?_
      rw [hr, Nat.mul_mod, h2, Nat.one_mul, Nat.mod_mod]
    · refine .inr ?_
      rw [show (b * b) ^ e * s * ((b * b) ^ e * s) = (b * b) ^ e * (b * b) ^ e * (s * s) by ac_rfl, hr]
      generalize b ^ h = H at *
      have hHs : H * (s * s) % p = 1 := by
        obtain ⟨c, hc⟩ := h2
        obtain ⟨d, hd⟩ := hs
        have h3 : H * (s * s) + p * (c + d) = 1 + p * (c * (p * d)) := by
          have h4 : (H + 1) * (s * s + 1) = H * (s * s) + (H + 1) + s * s := by rw [Nat.mul_add, Nat.add_mul, Nat.one_mul, Nat.mul_one]; omega
          rw [hc, hd, show p * c * (p * d) = p * (c * (p * d)) by ac_rfl] at h4
          rw [Nat.mul_add]
          omega
        have h5 := congrArg (· % p) h3
        simpa [Nat.mod_eq_of_lt h1] using h5
      rw [show H * (b * b) * (s * s) = H * (s * s) * (b * b) by ac_rfl, Nat.mul_mod, hHs, Nat.one_mul, Nat.mod_mod]

/-- The prime, as a natural number. -/
def pN : Nat := 57896044618658097711785492504343953926634992332820282019728792003956564819949
theorem pri_pN : Pri pN := pri_p
theorem pN_int : (pN : Int) = P25519 := rfl
/-- A root of the opposite of one. -/
def qN : Nat := 19681161376707505956807079304988542015446066515923890162744021073123829784752
theorem qN_sq : pN ∣ qN * qN + 1 := Nat.dvd_of_mod_eq_zero (by decide +kernel)
theorem pN_half : pN - 1 = 28948022309329048855892746252171976963317496166410141009864396001978282409974 * 2 := by decide
theorem pN_eighth : 7237005577332262213973186563042994240829374041602535252466099000494570602494 * 4 = 28948022309329048855892746252171976963317496166410141009864396001978282409974 + 2 := by decide
/-- The exponent of the inverse, the exponent of a root. -/
def eInv : Nat := 57896044618658097711785492504343953926634992332820282019728792003956564819947
def eRt : Nat := 7237005577332262213973186563042994240829374041602535252466099000494570602494
theorem inv_pN {a : Nat} (h : ¬ pN ∣ a) : a * a ^ eInv % pN = 1 := inv_nat pri_pN h
theorem root_pN (b : Nat) : (b * b) ^ eRt * (b * b) ^ eRt % pN = b * b % pN ∨ (b * b) ^ eRt * qN * ((b * b) ^ eRt * qN) % pN = b * b % pN := root_nat pri_pN qN_sq pN_half pN_eighth

theorem inv_int {a : Int} (h0 : 0 < a) (h1 : a < P25519) : a * a ^ eInv % P25519 = 1 := by
  obtain ⟨n, rfl⟩ := Int.eq_ofNat_of_zero_le (show 0 ≤ a by omega)
  have hn : ¬ pN ∣ n := by
    intro h
    have := Nat.le_of_dvd (by omega) h
    rw [← pN_int] at h1
    omega
  have := inv_pN hn
  rw [← pN_int]
  exact_mod_cast congrArg (Nat.cast (R := Int)) this
theorem root_int {b : Int} (h0 : 0 ≤ b) : (b * b) ^ eRt * (b * b) ^ eRt % P25519 = b * b % P25519 ∨ (b * b) ^ eRt * qN * ((b * b) ^ eRt * qN) % P25519 = b * b % P25519 := by
  obtain ⟨n, rfl⟩ := Int.eq_ofNat_of_zero_le h0
  rw [← pN_int]
  rcases root_pN n with h | h
  · exact .inl (by exact_mod_cast congrArg (Nat.cast (R := Int)) h)
  · exact .inr (by exact_mod_cast congrArg (Nat.cast (R := Int)) h)
end Go.Proofs.YtihoaakbkffejaaGreatDoor
namespace Go.Proofs.YtihoaakbkffejaaGreatDoor
set_option maxRecDepth 100000
set_option maxHeartbeats 4000000

/-- The field's numbers, as residues. -/
abbrev KF := Fin pN
theorem pN_ne : pN ≠ 0 := by unfold pN; decide
theorem nzP : NeZero pN := ⟨pN_ne⟩
/-- A whole number as one of the field. -/
def fe (x : Int) : KF := ⟨(x % P25519).toNat, by
  have h0 := Int.emod_nonneg x (show P25519 ≠ 0 by unfold P25519; decide)
  have h1 := Int.emod_lt_of_pos x (show 0 < P25519 by unfold P25519; decide)
  have h2 : ((x % P25519).toNat : Int) < (pN : Int) := by rw [pN_int]; omega
  exact Int.ofNat_lt.1 h2⟩
theorem fe_val (x : Int) : ((fe x).val : Int) = x % P25519 := by
  have h0 := Int.emod_nonneg x (show P25519 ≠ 0 by unfold P25519; decide)
  show ((x % P25519).toNat : Int) = _
  omega
theorem kf_ext {a b : KF} (h : ((a.val : Nat) : Int) = ((b.val : Nat) : Int)) : a = b := Fin.ext (Int.ofNat.inj h)
theorem fe_eq {x y : Int} : fe x = fe y ↔ x % P25519 = y % P25519 := by
  constructor
  · intro h; rw [← fe_val, ← fe_val, h]
  · intro h; apply kf_ext; rw [fe_val, fe_val, h]
theorem fe_add (x y : Int) : fe (x + y) = fe x + fe y := by
  apply kf_ext
  rw [fe_val, Fin.val_add]
  rw [Int.natCast_emod, Int.natCast_add, fe_val, fe_val, pN_int, ← Int.add_emod]
theorem fe_mul (x y : Int) : fe (x * y) = fe x * fe y := by
  apply kf_ext
  rw [fe_val, Fin.val_mul]
  rw [Int.natCast_emod, Int.natCast_mul, fe_val, fe_val, pN_int, ← Int.mul_emod]
theorem fe_mod (x : Int) : fe (x % P25519) = fe x := fe_eq.2 (Int.emod_emod _ _)
theorem fe_back (a : KF) : fe (a.val : Int) = a := by
  apply kf_ext
  rw [fe_val, ← pN_int]
  exact Int.emod_eq_of_lt (Int.natCast_nonneg _) (Int.ofNat_lt.2 a.isLt)
theorem fe_pow (x : Int) : ∀ n : Nat, fe (x ^ n) = fe ((x % P25519) ^ n)
  | 0 => by rw [Int.pow_zero, Int.pow_zero]
  | n + 1 => by rw [Int.pow_succ, Int.pow_succ, fe_mul, fe_mul, fe_pow x n, fe_mod]
/-- The inverse, as a power. -/
def ivK (a : KF) : KF := fe ((a.val : Int) ^ eInv)
theorem ivK_fe (x : Int) : ivK (fe x) = fe (x ^ eInv) := by
  unfold ivK
  rw [fe_val, ← fe_pow]
/-- The number d of the curve, and a root of the opposite of one. -/
def dN : Nat := 37095705934669439343138083508754565189542113879843219016388785533085940283555
def dK : KF := fe (dN : Int)
def iK : KF := fe (qN : Int)
theorem two_gen {x : Int} (h0 : 0 ≤ x) (h1 : x < P25519) (h : (x + x) % P25519 = 0) : x = 0 := by
  have hp : 0 < P25519 := by unfold P25519; decide
  have e := Int.emod_add_mul_ediv (x + x) P25519
  have k0 : 0 ≤ (x + x) / P25519 := Int.ediv_nonneg (by omega) (by omega)
  have k1 : (x + x) / P25519 < 2 := Int.ediv_lt_of_lt_mul hp (by omega)
  rw [h, Int.zero_add] at e
  have hk : (x + x) / P25519 = 0 ∨ (x + x) / P25519 = 1 := by omega
  rcases hk with hk | hk
  · rw [hk] at e; omega
  · rw [hk, Int.mul_one] at e
    have hodd : P25519 % 2 = 1 := by decide
    omega
theorem nsq_gen {p D H s t : Nat} (hp : Pri p) (hH : p - 1 = 2 * H) (hD : D ^ H % p = p - 1) (h2p : 2 < p) (ht : ¬ p ∣ t) (h : s * s % p = D * (t * t) % p) : False := by
  have pw2 : ∀ s : Nat, (s * s) ^ H = s ^ (p - 1) := fun s => by rw [hH, Nat.pow_mul, Nat.pow_two]
  have h2 : (s * s) ^ H % p = (D * (t * t)) ^ H % p := by rw [Nat.pow_mod, h, ← Nat.pow_mod]
  rw [pw2 s, Nat.mul_pow D, pw2 t, Nat.mul_mod, hp.one ht, hD, Nat.mul_one, Nat.mod_eq_of_lt (show p - 1 < p by omega)] at h2
  by_cases hs : p ∣ s
  · have h3 : s ^ (p - 1) % p = 0 := by
      obtain ⟨k, hk⟩ := hs
      rw [hk, show p - 1 = (p - 2) + 1 by omega, Nat.pow_succ, Nat.mul_comm, Nat.mul_assoc, Nat.mul_mod_right]
    omega
  · have := hp.one hs
    omega
/-- d to the power (p - 1) / 2 is the opposite of one. -/
def hP : Nat := 28948022309329048855892746252171976963317496166410141009864396001978282409974
theorem pw_gen {n a f e r : Nat} (h1 : 1 < n) (h2 : e < 2 ^ f) (h : pw n a f e = r) : a ^ e % n = r := (pw_eq h1 f e h2).symm.trans h
theorem one_lt_pN : 1 < pN := by unfold pN; decide
theorem two_lt_pN : 2 < pN := by unfold pN; decide
theorem hP_lt : hP < 2 ^ 255 := by unfold hP; decide
theorem hP_two : pN - 1 = 2 * hP := by unfold pN hP; decide
theorem dN_pw : pw pN dN 255 hP = pN - 1 := by decide +kernel
theorem dN_half : dN ^ hP % pN = pN - 1 := pw_gen one_lt_pN hP_lt dN_pw
theorem dK_val : dK.val = dN := by
  apply Int.ofNat.inj
  show ((fe (dN : Int)).val : Int) = (dN : Int)
  rw [fe_val]
  decide
section
variable [NeZero pN]
theorem fe_zero : fe 0 = 0 := by
  apply kf_ext
  rw [fe_val]
  rfl
theorem fe_one : fe 1 = 1 := by
  apply kf_ext
  rw [fe_val]
  rfl
theorem fe_sub (x y : Int) : fe (x - y) = fe x - fe y := by
  have h : fe (x - y) + fe y = fe x := by rw [← fe_add]; congr 1; omega
  rw [← h]
  grind
theorem fe_nz {x : Int} : fe x = 0 ↔ x % P25519 = 0 := by
  rw [← fe_zero, fe_eq]
  rfl
theorem ivK_inv (a : KF) (h : a ≠ 0) : a * ivK a = 1 := by
  have h0 : 0 < (a.val : Int) := by
    have : a.val ≠ 0 := fun e => h (Fin.ext (by rw [e]; rfl))
    omega
  have h1 : (a.val : Int) < P25519 := by rw [← pN_int]; exact Int.ofNat_lt.2 a.isLt
  have h2 := inv_int h0 h1
  have h3 : fe ((a.val : Int) * (a.val : Int) ^ eInv) = fe 1 := fe_eq.2 (by rw [h2]; rfl)
  rw [fe_mul, fe_back, fe_one] at h3
  exact h3
theorem im_K : iK * iK + 1 = 0 := by
  unfold iK
  rw [← fe_mul, ← fe_one, ← fe_add, fe_nz]
  decide +kernel
theorem one_K : (1 : KF) ≠ 0 := by
  rw [← fe_one, Ne, fe_nz]
  decide
theorem two_K (a : KF) (h : a + a = 0) : a = 0 := by
  have h1 : (a.val : Int) < P25519 := by rw [← pN_int]; exact Int.ofNat_lt.2 a.isLt
  have h2 := Int.natCast_nonneg a.val
  have h3 : ((a.val : Int) + (a.val : Int)) % P25519 = 0 := by
    rw [← fe_nz, fe_add, fe_back]
    exact h
  have h4 := two_gen h2 h1 h3
  rw [← fe_back a, h4, fe_zero]
theorem nsq_K (s t : KF) (h : s * s = dK * (t * t)) : t = 0 := by
  apply Classical.byContradiction
  intro ht
  have htv : ¬ pN ∣ t.val := fun e => ht (Fin.ext (by
    have := Nat.eq_zero_of_dvd_of_lt e t.isLt
    rw [this]; rfl))
  have h1 : s.val * s.val % pN = dN * (t.val * t.val) % pN := by
    have := congrArg Fin.val h
    rw [Fin.val_mul, Fin.val_mul, Fin.val_mul, dK_val, Nat.mul_mod_mod] at this
    exact this
  exact nsq_gen pri_pN hP_two dN_half two_lt_pN htv h1
theorem crvK : Crv dK iK ivK := ⟨im_K, one_K, two_K, nsq_K, ivK_inv⟩
end
end Go.Proofs.YtihoaakbkffejaaGreatDoor
namespace Go.Proofs.YtihoaakbkffejaaGreatDoor
open Go.RowKit
set_option maxRecDepth 100000

theorem list16 {l : List Int} (h : l.length = 16) : ∃ a0 a1 a2 a3 a4 a5 a6 a7 a8 a9 a10 a11 a12 a13 a14 a15, l = [a0, a1, a2, a3, a4, a5, a6, a7, a8, a9, a10, a11, a12, a13, a14, a15] := by
  match l, h with
  | [a0, a1, a2, a3, a4, a5, a6, a7, a8, a9, a10, a11, a12, a13, a14, a15], _ => exact ⟨a0, a1, a2, a3, a4, a5, a6, a7, a8, a9, a10, a11, a12, a13, a14, a15, rfl⟩
end Go.Proofs.YtihoaakbkffejaaGreatDoor
namespace Go.Proofs.YtihoaakbkffejaaGreatDoor
open Go.RowKit

theorem wpl_append_is {w : World} {ops : Array Oper} {rest : List Oper} {o : Oper} {a : Act} {Q : Exit → Act → World → Prop} (hgd : o.guard = none) (s x : Operand)
    (ho : o.op = .call { callee := .builtin .append, args := #[s, x], argTypes := #[29, 29] })
    (base : Nat) (v : Value) (n : Nat) (xs : List Int) (hs : a.eval s = v) (ao : Option Addr) (m c : Nat) (ys : List Int) (hx : a.eval x = .slice ao m c)
    (hown : w.ownsRow base 3 1 v n (I64 xs)) (hb : Is w ao m c ys) (hlen : n + m ≤ 1099511627776) (hbase : base ≤ w.heap.size)
    (h : ∀ v' w', w'.ownsRow base 3 1 v' (n + m) (I64 (xs ++ ys)) → w.grownBy w' v.ownBlock → (v' = .slice none 0 0 ↔ v = .slice none 0 0 ∧ m = 0) → wpList Tryz.prog ops Q rest (a.put o.dst v') w') :
    wpList Tryz.prog ops Q (o :: rest) a w := by
  obtain ⟨i0, hi, hz0, hz1, hz2⟩ := info_parts Tryz.info3
  obtain ⟨hcap, hl, hc, _, hb⟩ := hb
  cases ao with
  | none =>
    have hc0 := hcap rfl
    subst hc0
    have hm : m = 0 := by omega
    subst hm
    have hy : ys = [] := List.eq_nil_of_length_eq_zero hl
    subst hy
    exact wpList_append_own_none hgd s x 29 ho base 3 i0 1 Tryz.underlying29 hi v n (I64 xs) hs hown hx
      (h v w (by simpa using hown) (World.grownBy.refl _ _) (by simp))
  | some ad =>
    refine wpList_append_own w hgd s x 29 ho base 3 i0 (.int .i64 0) 1 8 Tryz.underlying29 hi hz0 hz1 hz2 rfl (by decide) v n (I64 xs) hs hown ad m c (I64 ys) hx (by simp [hl]) ?_ (ints_oneCell _ _)
      (by unfold maxLen; omega) (by omega) hbase ?_
    · rcases hb with hb | ⟨b, off, ha, _, hcell⟩
      · intro j u hj
        have hy : ys = [] := List.eq_nil_of_length_eq_zero (by omega)
        subst hy
        simp at hj
      · obtain rfl := Option.some.inj ha
        intro j u hj
        have hjl : j < m := by
          have := (List.getElem?_eq_some_iff.1 hj).1
          simpa [hl] using this
        rw [Addr.add_lit, hcell j hjl]
        have e : (I64 ys)[j]? = some (.int .i64 (ys.getD j 0)) := by simp [show j < ys.length by omega]
        rw [e] at hj
        exact hj
    · intro v' w' h1 h2 h3
      exact h v' w' (by simpa using h1) h2 h3

theorem below_appI0 {B n : Nat} {w wr w' : World} {v : Value} {xs : List Value} (hb : Below B w wr) (hB : B ≤ wr.heap.size) (hown : wr.ownsRow B 3 1 v n xs) (hg : wr.grownBy w' v.ownBlock) : Below B w w' :=
  hb.grown hg hB (fun k hk => (hown.lt k hk).1)

/-- One new cell, as a slice of one int. -/
theorem Is.one (w : World) (x : Int) (h0 : -9223372036854775808 ≤ x) (h1 : x ≤ 9223372036854775807) : Is (w.alloc (.cells #[.int .i64 x] 3)) (some ⟨w.heap.size, 0, none⟩) 1 1 [x] := by
  refine ⟨(fun h => by cases h), rfl, Nat.le_refl _, ?_, .inr ⟨w.heap.size, 0, rfl, by simp, ?_⟩⟩
  · intro y hy; simp at hy; omega
  · intro j hj
    have : j = 0 := by omega
    subst this
    rw [World.cell?_alloc_at _ _ _ _ rfl]; rfl

end Go.Proofs.YtihoaakbkffejaaGreatDoor
namespace Go.Proofs.YtihoaakbkffejaaGreatDoor
open Go.RowKit
set_option maxRecDepth 100000

theorem own_other' {w : World} {b e s n : Nat} {v : Value} {xs : List Value} (h : w.ownsRow b e s v n xs) (p : Addr) (u : Value) (hp : p.block < b) : (w.setCell p u).ownsRow b e s v n xs := by
  refine ⟨h.1, ?_⟩
  rcases h.2 with hn | ⟨g, cap, cur, rfl, hg, hgg, rest⟩
  · exact .inl hn
  · refine .inr ⟨g, cap, cur, rfl, hg, ?_, rest⟩
    rw [heap_setCell_other w p g u (by omega)]
    exact hgg


end Go.Proofs.YtihoaakbkffejaaGreatDoor
namespace Go.Proofs.YtihoaakbkffejaaGreatDoor
open Go.RowKit
set_option maxRecDepth 100000

end Go.Proofs.YtihoaakbkffejaaGreatDoor
namespace Go.Proofs.YtihoaakbkffejaaGreatDoor
open Go.RowKit
set_option maxRecDepth 100000

end Go.Proofs.YtihoaakbkffejaaGreatDoor
namespace Go.Proofs.YtihoaakbkffejaaGreatDoor
open Go.RowKit
set_option maxRecDepth 100000

end Go.Proofs.YtihoaakbkffejaaGreatDoor
namespace Go.Proofs.YtihoaakbkffejaaGreatDoor
open Go.RowKit
set_option maxRecDepth 100000

end Go.Proofs.YtihoaakbkffejaaGreatDoor
namespace Go.Proofs.YtihoaakbkffejaaGreatDoor
open Go.RowKit
set_option maxRecDepth 100000

/-- Parts that may be carried: not negative, below 2^46. -/
def Gp (l : List Int) : Prop := ∀ x ∈ l, 0 ≤ x ∧ x < 70368744177664
theorem Gp.get {l : List Int} (h : Gp l) (k : Nat) : 0 ≤ l.getD k 0 ∧ l.getD k 0 < 70368744177664 := by
  by_cases hk : k < l.length
  · have : l.getD k 0 ∈ l := by rw [List.getD_eq_getElem?_getD, List.getElem?_eq_getElem hk]; exact List.getElem_mem _
    exact h _ this
  · rw [List.getD_eq_getElem?_getD, List.getElem?_eq_none (by omega)]; simp
theorem Gp.take {l : List Int} (h : Gp l) (k : Nat) : Gp (l.take k) := fun x hx => h x (List.mem_of_mem_take hx)
end Go.Proofs.YtihoaakbkffejaaGreatDoor
namespace Go.Proofs.YtihoaakbkffejaaGreatDoor
open Go.RowKit
set_option maxRecDepth 100000

end Go.Proofs.YtihoaakbkffejaaGreatDoor
namespace Go.Proofs.YtihoaakbkffejaaGreatDoor
open Go.RowKit
set_option maxRecDepth 100000

/-- The table of a product: its worth, and how great its parts may be. -/
structure Tp (a b t : List Int) (i k : Nat) : Prop where
  len : t.length = 31
  vl : val t = prodAt a b i k
  le : ∀ x ∈ t, 0 ≤ x ∧ x ≤ (16 * (i : Int) + (k : Int)) * 4294836225
theorem Tp.get {a b t : List Int} {i k : Nat} (h : Tp a b t i k) (j : Nat) : 0 ≤ t.getD j 0 ∧ t.getD j 0 ≤ (16 * (i : Int) + (k : Int)) * 4294836225 := by
  by_cases hj : j < t.length
  · have : t.getD j 0 ∈ t := by rw [List.getD_eq_getElem?_getD, List.getElem?_eq_getElem hj]; exact List.getElem_mem _
    exact h.le _ this
  · rw [List.getD_eq_getElem?_getD, List.getElem?_eq_none (by omega)]; simp; omega
theorem Tp.step {a b t : List Int} {i k : Nat} (h : Tp a b t i k) (hi : i < 16) (hk : k < b.length) (hk16 : k < 16) {p : Int} (hp : p = a.getD i 0 * b.getD k 0) (hp0 : 0 ≤ p) (hp1 : p ≤ 4294836225) : Tp a b (t.set (i + k) (t.getD (i + k) 0 + p)) i (k + 1) := by
  have hl := h.len
  have hg := h.get (i + k)
  refine ⟨by simp [hl], ?_, ?_⟩
  · rw [val_set t (i + k) (by omega), h.vl, prodAt_step a b i k hk, hp]
    congr 2
    omega
  · intro x hx
    rcases List.mem_or_eq_of_mem_set hx with h1 | h1
    · have := h.le x h1
      simp only [Int.natCast_add, Int.natCast_one]
      omega
    · subst h1
      simp only [Int.natCast_add, Int.natCast_one]
      omega
theorem Tp.row {a b t : List Int} {i : Nat} (h : Tp a b t i 16) (hb : b.length = 16) (hi : i < a.length) : Tp a b t (i + 1) 0 := by
  refine ⟨h.len, ?_, fun x hx => ?_⟩
  · rw [h.vl, ← prodAt_row a b i hi, hb]
  · have := h.le x hx
    simp only [Int.natCast_add, Int.natCast_one] at this ⊢
    omega

abbrev Z31 : List Int := [0, 0, 0, 0, 0, 0, 0, 0, 0, 0, 0, 0, 0, 0, 0, 0, 0, 0, 0, 0, 0, 0, 0, 0, 0, 0, 0, 0, 0, 0, 0]
theorem Tp.zero (a b : List Int) : Tp a b Z31 0 0 := by
  refine ⟨rfl, ?_, ?_⟩
  · simp [prodAt, val]
  · intro x hx
    have : x = 0 := by simpa using hx
    omega

end Go.Proofs.YtihoaakbkffejaaGreatDoor
