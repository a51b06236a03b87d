/-
  What is proved here: the bytes of parts, one by one; no condition; plain facts on what a clamped number is: its parts and its bytes; no program is spoken of, no condition; plain mathematics of a twisted Edwards curve over the residues of a prime: its sum has no exceptions, stays on the curve, has a zero and opposites; no program is spoken of; plain mathematics of a twisted Edwards curve: its sum may be bracketed as one likes; no program is spoken of; plain mathematics of a twisted Edwards curve: so many times a point, by doubling and adding; the long form of a point; no program is spoken of.
-/
import Derived.Test.YtihoaakbkffejaaDoorZArr
import Derived.Test.YtihoaakbkffejaaDoorZFm
namespace Go.Proofs.YtihoaakbkffejaaDoor
open Go.RowKit
set_option maxRecDepth 100000

theorem btL_get : ∀ (l : List Int) (i : Nat), i < l.length → (btL l).getD (2 * i) 0 = l.getD i 0 % 256 ∧ (btL l).getD (2 * i + 1) 0 = l.getD i 0 / 256
  | x :: l, 0, _ => by simp [btL]
  | x :: l, i + 1, h => by
    have := btL_get l i (by simpa using h)
    have e : btL (x :: l) = x % 256 :: x / 256 :: btL l := by simp [btL]
    rw [e]
    have e1 : 2 * (i + 1) = (2 * i + 1) + 1 := by omega
    have e2 : 2 * (i + 1) + 1 = (2 * i + 1 + 1) + 1 := by omega
    rw [e1, List.getD_cons_succ, List.getD_cons_succ, List.getD_cons_succ, List.getD_cons_succ]
    exact this
end Go.Proofs.YtihoaakbkffejaaDoor
namespace Go.Proofs.YtihoaakbkffejaaDoor
open Go.RowKit
set_option maxRecDepth 100000

/-- The parts of a clamped number. -/
def clL (l : List Int) : List Int := (l.set 0 (l.getD 0 0 / 8 * 8)).set 15 (l.getD 15 0 % 16384 + 16384)
theorem clL_len {l : List Int} (h : l.length = 16) : (clL l).length = 16 := by simp [clL, h]
theorem clL_lm {l : List Int} (h : Lm l) : Lm (clL l) := by
  have h0 := gD_lm h 0
  have h15 := gD_lm h 15
  intro x hx
  rcases List.mem_or_eq_of_mem_set hx with hx | rfl
  · rcases List.mem_or_eq_of_mem_set hx with hx | rfl
    · exact h x hx
    · omega
  · omega
/-- Its bytes. -/
def clB (bs : List Int) : List Int := (bs.set 0 (bs.getD 0 0 / 8 * 8)).set 31 (bs.getD 31 0 % 64 + 64)
theorem clB_len (bs : List Int) : (clB bs).length = bs.length := by simp [clB]
theorem clB_byte {bs : List Int} (h : ∀ x ∈ bs, 0 ≤ x ∧ x < 256) : ∀ x ∈ clB bs, 0 ≤ x ∧ x < 256 := by
  have h0 := gD_u8 h 0
  have h31 := gD_u8 h 31
  intro x hx
  rcases List.mem_or_eq_of_mem_set hx with hx | rfl
  · rcases List.mem_or_eq_of_mem_set hx with hx | rfl
    · exact h x hx
    · omega
  · omega
theorem getD_set (l : List Int) (i j : Nat) (v : Int) (hi : i < l.length) : (l.set i v).getD j 0 = if i = j then v else l.getD j 0 := by
  simp only [List.getD, List.getElem?_set, hi, if_true]
  split <;> rfl
theorem clB_get {bs : List Int} (hl : bs.length = 32) (j : Nat) : (clB bs).getD j 0 = if 31 = j then bs.getD 31 0 % 64 + 64 else if 0 = j then bs.getD 0 0 / 8 * 8 else bs.getD j 0 := by
  unfold clB
  rw [getD_set _ _ _ _ (by simp [hl]), getD_set _ _ _ _ (by omega)]
theorem clL_get {l : List Int} (hl : l.length = 16) (j : Nat) : (clL l).getD j 0 = if 15 = j then l.getD 15 0 % 16384 + 16384 else if 0 = j then l.getD 0 0 / 8 * 8 else l.getD j 0 := by
  unfold clL
  rw [getD_set _ _ _ _ (by simp [hl]), getD_set _ _ _ _ (by omega)]
/-- Clamped bytes are read as the clamped parts. -/
theorem rdL_clB {bs : List Int} (hl : bs.length = 32) (h : ∀ x ∈ bs, 0 ≤ x ∧ x < 256) : rdL (clB bs) = clL (rdL bs) := by
  apply List.ext_getElem?
  intro i
  by_cases hi : i < 16
  · have e : ∀ l : List Int, l.length = 16 → l[i]? = some (l.getD i 0) := fun l hl => by simp [List.getD, List.getElem?_eq_getElem (show i < l.length by omega)]
    have r0 : (rdL bs).getD 0 0 = bs.getD 0 0 + 256 * bs.getD 1 0 := rdL_get _ 0 (by omega)
    have r15 : (rdL bs).getD 15 0 = bs.getD 30 0 + 256 * bs.getD 31 0 := rdL_get _ 15 (by omega)
    rw [e _ (rdL_len _), e _ (clL_len (rdL_len _)), rdL_get _ i hi, clL_get (rdL_len _), clB_get hl, clB_get hl, r0, r15, rdL_get _ i hi]
    have h0 := gD_u8 h 0
    have h1 := gD_u8 h 1
    have h30 := gD_u8 h 30
    have h31 := gD_u8 h 31
    congr 1
    by_cases h15 : i = 15
    · subst h15
      rw [if_neg (by omega), if_neg (by omega), if_pos rfl, if_pos rfl, show (2 * 15 : Nat) = 30 from rfl]
      omega
    · by_cases hz : i = 0
      · subst hz
        rw [if_neg (by omega), if_pos rfl, if_neg (by omega), if_neg (by omega), if_neg (by omega), if_pos rfl, show (2 * 0 + 1 : Nat) = 1 from rfl]
        omega
      · rw [if_neg (by omega), if_neg (by omega), if_neg (by omega), if_neg (by omega), if_neg (by omega), if_neg (by omega)]
  · rw [List.getElem?_eq_none (by rw [rdL_len]; omega), List.getElem?_eq_none (by rw [clL_len (rdL_len _)]; omega)]
/-- What Clamp answers. -/
def cpOk (bs : List Int) : Bool := decide (bs.length = 32)
def cpL (bs : List Int) : List Int := if cpOk bs = true then clB bs else []
/-! The bits. -/
theorem and_248 : ∀ t : Fin 256, bits .and .u8 ((t.val : Nat) : Int) 248 = ((t.val : Nat) : Int) / 8 * 8 := by decide
theorem and_248' {t : Int} (h0 : 0 ≤ t) (h1 : t < 256) : bits .and .u8 t 248 = t / 8 * 8 := by
  obtain ⟨n, rfl⟩ := Int.eq_ofNat_of_zero_le h0
  exact and_248 ⟨n, by omega⟩
theorem top_64 : ∀ t : Fin 256, bits .or .u8 (bits .and .u8 ((t.val : Nat) : Int) 127) 64 = ((t.val : Nat) : Int) % 64 + 64 := by decide
theorem top_64' {t : Int} (h0 : 0 ≤ t) (h1 : t < 256) : bits .or .u8 (bits .and .u8 t 127) 64 = t % 64 + 64 := by
  obtain ⟨n, rfl⟩ := Int.eq_ofNat_of_zero_le h0
  exact top_64 ⟨n, by omega⟩
theorem nat_and8 (a : Nat) (h : a < 65536) : a &&& 65528 = a / 8 * 8 := by
  have e : a &&& 65528 = (a >>> 3 &&& (2 ^ 13 - 1)) <<< 3 := by
    apply Nat.eq_of_testBit_eq
    intro i
    rw [show (65528 : Nat) = (2 ^ 13 - 1) <<< 3 by decide]
    by_cases hi : i < 3
    · simp only [Nat.testBit_and, Nat.testBit_shiftLeft, Nat.not_le.2 hi, decide_false, Bool.false_and, Bool.and_false]
    · have h3 : 3 ≤ i := by omega
      simp only [Nat.testBit_and, Nat.testBit_shiftLeft, Nat.testBit_shiftRight, h3, decide_true, Bool.true_and]
      rw [show 3 + (i - 3) = i by omega]
  rw [e, Nat.and_two_pow_sub_one_eq_mod, Nat.shiftLeft_eq, Nat.shiftRight_eq_div_pow]
  have : a / 2 ^ 3 % 2 ^ 13 = a / 2 ^ 3 := Nat.mod_eq_of_lt (by omega)
  rw [this]
theorem and_65528 {x : Int} (h0 : 0 ≤ x) (h1 : x < 65536) : bits .and .i64 x 65528 = x / 8 * 8 := by
  obtain ⟨n, rfl⟩ := Int.eq_ofNat_of_zero_le h0
  have := (bits_nat .i64 63 (by decide) (fun n a b => by rw [IntKind.wrap_i64]; omega) n 65528 (by omega) (by decide)).1
  rw [nat_and8 n (by omega)] at this
  simpa using this
theorem bits_comm_or (x y : Int) : bits .or .i64 x y = bits .or .i64 y x := by
  unfold bits
  simp only [BitVec.or_comm]
theorem top_16384 {x : Int} (h0 : 0 ≤ x) (h1 : x < 65536) : bits .or .i64 (bits .and .i64 x 16383) 16384 = x % 16384 + 16384 := by
  have e : bits .and .i64 x 16383 = x % 16384 := bits_mask .i64 63 (by decide) (fun n a b => by rw [IntKind.wrap_i64]; omega) 14 (by decide) x h0 (by omega)
  rw [e]
  rw [Int.add_comm, bits_comm_or]
  exact bits_join .i64 63 (by decide) (fun n a b => by rw [IntKind.wrap_i64]; omega) 14 16384 (x % 16384) (by omega) (by decide) (by decide) (by omega) (by omega) (by omega)
end Go.Proofs.YtihoaakbkffejaaDoor
namespace Go.Proofs.YtihoaakbkffejaaDoor
set_option maxRecDepth 100000
set_option maxHeartbeats 4000000

/-- The curve's numbers: a root of the opposite of one, inverses, and a number that is no square. -/
structure Crv {p : Nat} [NeZero p] (d i : Fin p) (iv : Fin p → Fin p) : Prop where
  im : i * i + 1 = 0
  one : (1 : Fin p) ≠ 0
  two : ∀ a : Fin p, a + a = 0 → a = 0
  nsq : ∀ s t : Fin p, s * s = d * (t * t) → t = 0
  inv : ∀ a : Fin p, a ≠ 0 → a * iv a = 1
/-- A point of the curve. -/
def On {p : Nat} [NeZero p] (d : Fin p) (P : Fin p × Fin p) : Prop := P.2 * P.2 - P.1 * P.1 = 1 + d * (P.1 * P.1) * (P.2 * P.2)
section
variable {p : Nat} [NeZero p] {d i : Fin p} {iv : Fin p → Fin p}
theorem Crv.full (C : Crv d i iv) {x1 y1 x2 y2 : Fin p} (h1 : On d (x1, y1)) (h2 : On d (x2, y2)) {e : Fin p} (he : e = d * (x1 * x2 * y1 * y2)) (h : e * e = 1) : False := by
  have him := C.im
  simp only [On] at h1 h2
  have e1 : (i * x1 + e * y1) * (i * x1 + e * y1) = d * (x1 * y1 * (i * x2 + y2) * (x1 * y1 * (i * x2 + y2))) := by grind
  have e2 : (i * x1 - e * y1) * (i * x1 - e * y1) = d * (x1 * y1 * (i * x2 - y2) * (x1 * y1 * (i * x2 - y2))) := by grind
  have z1 := C.nsq _ _ e1
  have z2 := C.nsq _ _ e2
  have z3 : e + e = 0 := by grind
  have z4 := C.two e z3
  rw [z4] at h
  exact C.one (by grind)
theorem Crv.ne (C : Crv d i iv) {x1 y1 x2 y2 : Fin p} (h1 : On d (x1, y1)) (h2 : On d (x2, y2)) : 1 + d * (x1 * x2 * y1 * y2) ≠ 0 ∧ 1 - d * (x1 * x2 * y1 * y2) ≠ 0 :=
  ⟨fun h => C.full h1 h2 rfl (by grind), fun h => C.full h1 h2 rfl (by grind)⟩
/-- The sum of two points. -/
def pAdd (d : Fin p) (iv : Fin p → Fin p) (P Q : Fin p × Fin p) : Fin p × Fin p :=
  ((P.1 * Q.2 + P.2 * Q.1) * iv (1 + d * (P.1 * Q.1 * P.2 * Q.2)), (P.2 * Q.2 + P.1 * Q.1) * iv (1 - d * (P.1 * Q.1 * P.2 * Q.2)))
theorem pAdd_comm (P Q : Fin p × Fin p) : pAdd d iv P Q = pAdd d iv Q P := by
  obtain ⟨x1, y1⟩ := P
  obtain ⟨x2, y2⟩ := Q
  simp only [pAdd]
  have e1 : x1 * y2 + y1 * x2 = x2 * y1 + y2 * x1 := by grind
  have e2 : x1 * x2 * y1 * y2 = x2 * x1 * y2 * y1 := by grind
  have e3 : y1 * y2 + x1 * x2 = y2 * y1 + x2 * x1 := by grind
  rw [e1, e2, e3]
theorem Crv.on_add (C : Crv d i iv) {P Q : Fin p × Fin p} (h1 : On d P) (h2 : On d Q) : On d (pAdd d iv P Q) := by
  obtain ⟨x1, y1⟩ := P
  obtain ⟨x2, y2⟩ := Q
  have hn := C.ne h1 h2
  have hu := C.inv _ hn.1
  have hv := C.inv _ hn.2
  simp only [On, pAdd] at *
  generalize iv (1 + d * (x1 * x2 * y1 * y2)) = u at *
  generalize iv (1 - d * (x1 * x2 * y1 * y2)) = v at *
  have hid : ((y1*y2+x1*x2)*(1+d*(x1*x2*y1*y2)))^2 - ((x1*y2+y1*x2)*(1-d*(x1*x2*y1*y2)))^2 = ((1+d*(x1*x2*y1*y2))*(1-d*(x1*x2*y1*y2)))^2 + d*((y1*y2+x1*x2)*(x1*y2+y1*x2))^2 := by grind
  generalize d*(x1*x2*y1*y2) = e at *
  generalize y1*y2+x1*x2 = B at *
  generalize x1*y2+y1*x2 = A at *
  clear h1 h2 hn
  grind
/-- The zero and the opposite. -/
def pZero : Fin p × Fin p := (0, 1)
theorem on_zero : On d (pZero : Fin p × Fin p) := by simp only [On, pZero]; grind
theorem Crv.iv_one (C : Crv d i iv) : iv 1 = 1 := by have := C.inv 1 C.one; grind
theorem Crv.add_zero (C : Crv d i iv) (P : Fin p × Fin p) : pAdd d iv P pZero = P := by
  obtain ⟨x, y⟩ := P
  simp only [pAdd, pZero]
  have e1 : 1 + d * (x * 0 * y * 1) = 1 := by grind
  have e2 : 1 - d * (x * 0 * y * 1) = 1 := by grind
  rw [e1, e2, C.iv_one]
  have e3 : (x * 1 + y * 0) * 1 = x := by grind
  have e4 : (y * 1 + x * 0) * 1 = y := by grind
  rw [e3, e4]
theorem Crv.zero_add (C : Crv d i iv) (P : Fin p × Fin p) : pAdd d iv pZero P = P := by rw [pAdd_comm, C.add_zero]
end
end Go.Proofs.YtihoaakbkffejaaDoor
namespace Go.Proofs.YtihoaakbkffejaaDoor
set_option maxRecDepth 100000
set_option maxHeartbeats 4000000

section
variable {p : Nat} [NeZero p] {d i : Fin p} {iv : Fin p → Fin p}
theorem assocX (x1 y1 x2 y2 x3 y3 d : Fin p) (h1 : y1*y1 - x1*x1 = 1 + d*(x1*x1)*(y1*y1)) (h2 : y2*y2 - x2*x2 = 1 + d*(x2*x2)*(y2*y2)) (h3 : y3*y3 - x3*x3 = 1 + d*(x3*x3)*(y3*y3)) :
  ((x1*y2+y1*x2)*(1-d*(x1*x2*y1*y2))*y3 + (y1*y2+x1*x2)*(1+d*(x1*x2*y1*y2))*x3) * ((1+d*(x2*x3*y2*y3))*(1-d*(x2*x3*y2*y3)) + d*x1*y1*(x2*y3+y2*x3)*(y2*y3+x2*x3))
  = (x1*(y2*y3+x2*x3)*(1+d*(x2*x3*y2*y3)) + y1*(x2*y3+y2*x3)*(1-d*(x2*x3*y2*y3))) * ((1+d*(x1*x2*y1*y2))*(1-d*(x1*x2*y1*y2)) + d*(x1*y2+y1*x2)*(y1*y2+x1*x2)*x3*y3) := by grind
theorem assocY (x1 y1 x2 y2 x3 y3 d : Fin p) (h1 : y1*y1 - x1*x1 = 1 + d*(x1*x1)*(y1*y1)) (h2 : y2*y2 - x2*x2 = 1 + d*(x2*x2)*(y2*y2)) (h3 : y3*y3 - x3*x3 = 1 + d*(x3*x3)*(y3*y3)) :
  ((y1*y2+x1*x2)*(1+d*(x1*x2*y1*y2))*y3 + (x1*y2+y1*x2)*(1-d*(x1*x2*y1*y2))*x3) * ((1+d*(x2*x3*y2*y3))*(1-d*(x2*x3*y2*y3)) - d*x1*y1*(x2*y3+y2*x3)*(y2*y3+x2*x3))
  = (y1*(y2*y3+x2*x3)*(1+d*(x2*x3*y2*y3)) + x1*(x2*y3+y2*x3)*(1-d*(x2*x3*y2*y3))) * ((1+d*(x1*x2*y1*y2))*(1-d*(x1*x2*y1*y2)) - d*(x1*y2+y1*x2)*(y1*y2+x1*x2)*x3*y3) := by grind
/-- A fraction of fractions. -/
theorem frac {A B al be u v w x y s : Fin p} (hu : al * u = 1) (hv : be * v = 1) (hw : (1 + s * (A * u * x * (B * v) * y)) * w = 1) :
    (A * u * y + B * v * x) * w * (al * be + s * A * B * x * y) = A * be * y + B * al * x ∧ (al * be + s * A * B * x * y) * (u * v * w) = 1 := by
  constructor
  · grind
  · grind
theorem cancel {L R M N n1 n2 : Fin p} {a b : Fin p} (h1 : L * M = a) (h2 : R * N = b) (n1h : M * n1 = 1) (n2h : N * n2 = 1) (h : a * N = b * M) : L = R := by grind
theorem perm1 (x a y b : Fin p) : x * a * y * b = a * x * b * y := by grind
theorem perm2 (d a x b y w : Fin p) (h : (1 - d * (a * x * b * y)) * w = 1) : (1 + (0 - d) * (b * x * a * y)) * w = 1 := by grind
theorem Crv.assoc (C : Crv d i iv) {P Q R : Fin p × Fin p} (h1 : On d P) (h2 : On d Q) (h3 : On d R) : pAdd d iv (pAdd d iv P Q) R = pAdd d iv P (pAdd d iv Q R) := by
  have g12 := C.on_add h1 h2
  have g23 := C.on_add h2 h3
  obtain ⟨x1, y1⟩ := P
  obtain ⟨x2, y2⟩ := Q
  obtain ⟨x3, y3⟩ := R
  have n12 := C.ne h1 h2
  have n23 := C.ne h2 h3
  have nL := C.ne g12 h3
  have nR := C.ne h1 g23
  have u12 := C.inv _ n12.1
  have v12 := C.inv _ n12.2
  have u23 := C.inv _ n23.1
  have v23 := C.inv _ n23.2
  have uL := C.inv _ nL.1
  have vL := C.inv _ nL.2
  have uR := C.inv _ nR.1
  have vR := C.inv _ nR.2
  have aX := assocX x1 y1 x2 y2 x3 y3 d h1 h2 h3
  have aY := assocY x1 y1 x2 y2 x3 y3 d h1 h2 h3
  simp only [pAdd] at uL vL uR vR ⊢
  clear g12 g23 nL nR n12 n23 h1 h2 h3
  generalize iv (1 + d * (x1 * x2 * y1 * y2)) = u at *
  generalize iv (1 - d * (x1 * x2 * y1 * y2)) = v at *
  generalize iv (1 + d * (x2 * x3 * y2 * y3)) = u' at *
  generalize iv (1 - d * (x2 * x3 * y2 * y3)) = v' at *
  generalize 1 + d * (x1 * x2 * y1 * y2) = al at *
  generalize 1 - d * (x1 * x2 * y1 * y2) = be at *
  generalize 1 + d * (x2 * x3 * y2 * y3) = al' at *
  generalize 1 - d * (x2 * x3 * y2 * y3) = be' at *
  generalize x1 * y2 + y1 * x2 = A at *
  generalize y1 * y2 + x1 * x2 = B at *
  generalize x2 * y3 + y2 * x3 = A' at *
  generalize y2 * y3 + x2 * x3 = B' at *
  generalize iv (1 + d * (A * u * x3 * (B * v) * y3)) = wL at *
  generalize iv (1 - d * (A * u * x3 * (B * v) * y3)) = zL at *
  generalize iv (1 + d * (x1 * (A' * u') * y1 * (B' * v'))) = wR at *
  generalize iv (1 - d * (x1 * (A' * u') * y1 * (B' * v'))) = zR at *
  have f1 := frac (s := d) (x := x3) (y := y3) (w := wL) u12 v12 uL
  have f2 := frac (s := d) (x := x1) (y := y1) (w := wR) (A := A') (B := B') u23 v23 (by rw [← perm1]; exact uR)
  have f3 := frac (s := 0 - d) (x := x3) (y := y3) (w := zL) (A := B) (B := A) v12 u12 (perm2 _ _ _ _ _ _ vL)
  have f4 := frac (s := 0 - d) (x := x1) (y := y1) (w := zR) (A := B') (B := A') v23 u23 (perm2 _ _ _ _ _ _ (by rw [← perm1]; exact vR))
  have eX : (A * u * y3 + B * v * x3) * wL = (x1 * (B' * v') + y1 * (A' * u')) * wR := by
    refine cancel f1.1 (b := x1 * B' * al' + y1 * A' * be') (N := al' * be' + d * A' * B' * x1 * y1) ?_ f1.2 f2.2 ?_
    · have := f2.1
      clear aX aY f1 f2 f3 f4
      grind
    · clear f1 f2 f3 f4 uL vL uR vR u12 v12 u23 v23 aY
      grind
  have eY : (B * v * y3 + A * u * x3) * zL = (y1 * (B' * v') + x1 * (A' * u')) * zR := by
    refine cancel f3.1 (b := y1 * B' * al' + x1 * A' * be') (N := be' * al' + (0 - d) * B' * A' * x1 * y1) ?_ f3.2 f4.2 ?_
    · have := f4.1
      clear aX aY f1 f2 f3 f4
      grind
    · clear f1 f2 f3 f4 uL vL uR vR u12 v12 u23 v23 aX
      grind
  rw [eX, eY]
end
end Go.Proofs.YtihoaakbkffejaaDoor
namespace Go.Proofs.YtihoaakbkffejaaDoor
set_option maxRecDepth 100000
set_option maxHeartbeats 4000000

section
variable {p : Nat} [NeZero p] {d i : Fin p} {iv : Fin p → Fin p}
/-- So many times a point. -/
def pMul (d : Fin p) (iv : Fin p → Fin p) : Nat → Fin p × Fin p → Fin p × Fin p
  | 0, _ => pZero
  | n + 1, P => pAdd d iv (pMul d iv n P) P
theorem Crv.on_mul (C : Crv d i iv) {P : Fin p × Fin p} (h : On d P) : ∀ n, On d (pMul d iv n P)
  | 0 => on_zero
  | n + 1 => C.on_add (C.on_mul h n) h
theorem Crv.mul_add (C : Crv d i iv) {P : Fin p × Fin p} (h : On d P) (m : Nat) : ∀ n, pMul d iv (m + n) P = pAdd d iv (pMul d iv m P) (pMul d iv n P)
  | 0 => (C.add_zero _).symm
  | n + 1 => by
    show pAdd d iv (pMul d iv (m + n) P) P = pAdd d iv (pMul d iv m P) (pAdd d iv (pMul d iv n P) P)
    rw [C.mul_add h m n, C.assoc (C.on_mul h m) (C.on_mul h n) h]
theorem Crv.mul_one (C : Crv d i iv) (P : Fin p × Fin p) : pMul d iv 1 P = P := C.zero_add P
/-- One step of doubling and adding. -/
theorem Crv.mul_bit (C : Crv d i iv) {P : Fin p × Fin p} (h : On d P) (N j : Nat) :
    pMul d iv (N / 2 ^ j) P = (if N / 2 ^ j % 2 = 1 then pAdd d iv (pAdd d iv (pMul d iv (N / 2 ^ (j + 1)) P) (pMul d iv (N / 2 ^ (j + 1)) P)) P else pAdd d iv (pMul d iv (N / 2 ^ (j + 1)) P) (pMul d iv (N / 2 ^ (j + 1)) P)) := by
  have e : N / 2 ^ (j + 1) = N / 2 ^ j / 2 := by rw [Nat.pow_succ, Nat.div_div_eq_div_mul]
  rw [e, ← C.mul_add h]
  split
  · rename_i h1
    show _ = pMul d iv (N / 2 ^ j / 2 + N / 2 ^ j / 2 + 1) P
    congr 1
    omega
  · congr 1
    omega
/-- Four numbers that stand for a point: x is a/c, y is b/c, x y is t/c. -/
structure Ext (a b c t : Fin p) (P : Fin p × Fin p) : Prop where
  ha : a = P.1 * c
  hb : b = P.2 * c
  ht : t = P.1 * P.2 * c
  hc : c ≠ 0
theorem Crv.nz_mul (C : Crv d i iv) {a b : Fin p} (ha : a ≠ 0) (hb : b ≠ 0) : a * b ≠ 0 := fun h => by
  have h1 := C.inv a ha
  have h2 := C.inv b hb
  exact C.one (by grind)
theorem Crv.two_ne (C : Crv d i iv) : (1 : Fin p) + 1 ≠ 0 := fun h => C.one (C.two 1 h)
theorem Ext.make (C : Crv d i iv) (x y : Fin p) : Ext x y 1 (x * y) (x, y) := ⟨by grind, by grind, by grind, C.one⟩
theorem Ext.flat (C : Crv d i iv) {a b c t : Fin p} {P : Fin p × Fin p} (h : Ext a b c t P) : a * iv c = P.1 ∧ b * iv c = P.2 := by
  have hi := C.inv c h.hc
  have h1 := h.ha
  have h2 := h.hb
  constructor <;> grind
theorem extG (x1 y1 c1 x2 y2 c2 d : Fin p) : c1 * (c2 + c2) - x1 * y1 * c1 * (x2 * y2 * c2) * (d + d) = c1 * c2 * (1 + 1) * (1 - d * (x1 * x2 * y1 * y2)) := by grind
theorem extH (x1 y1 c1 x2 y2 c2 d : Fin p) : c1 * (c2 + c2) + x1 * y1 * c1 * (x2 * y2 * c2) * (d + d) = c1 * c2 * (1 + 1) * (1 + d * (x1 * x2 * y1 * y2)) := by grind
theorem extF (x1 y1 c1 x2 y2 c2 : Fin p) : (y1 * c1 + x1 * c1) * (y2 * c2 + x2 * c2) - (y1 * c1 - x1 * c1) * (y2 * c2 - x2 * c2) = c1 * c2 * (1 + 1) * (x1 * y2 + y1 * x2) := by grind
theorem extK (x1 y1 c1 x2 y2 c2 : Fin p) : (y1 * c1 + x1 * c1) * (y2 * c2 + x2 * c2) + (y1 * c1 - x1 * c1) * (y2 * c2 - x2 * c2) = c1 * c2 * (1 + 1) * (y1 * y2 + x1 * x2) := by grind
theorem ext1 {g u : Fin p} (hu : g * u = 1) (k a f : Fin p) : k * a * (k * f) = a * u * (k * f * (k * g)) := by grind
theorem ext2 {f v : Fin p} (hv : f * v = 1) (k b g : Fin p) : k * g * (k * b) = b * v * (k * f * (k * g)) := by grind
theorem ext3 {f g u v : Fin p} (hu : g * u = 1) (hv : f * v = 1) (k a b : Fin p) : k * a * (k * b) = a * u * (b * v) * (k * f * (k * g)) := by grind
/-- The sum in the long form. -/
theorem Ext.add (C : Crv d i iv) {a1 b1 c1 t1 a2 b2 c2 t2 : Fin p} {P Q : Fin p × Fin p} (h1 : Ext a1 b1 c1 t1 P) (h2 : Ext a2 b2 c2 t2 Q) (o1 : On d P) (o2 : On d Q)
    {A B D E F G H K : Fin p} (hA : A = (b1 - a1) * (b2 - a2)) (hB : B = (b1 + a1) * (b2 + a2)) (hD : D = t1 * t2 * (d + d)) (hE : E = c1 * (c2 + c2))
    (hF : F = B - A) (hG : G = E - D) (hH : H = E + D) (hK : K = B + A) : Ext (F * G) (H * K) (G * H) (F * K) (pAdd d iv P Q) := by
  obtain ⟨x1, y1⟩ := P
  obtain ⟨x2, y2⟩ := Q
  have hn := C.ne o1 o2
  have hu := C.inv _ hn.1
  have hv := C.inv _ hn.2
  obtain ⟨q1, q2, q3, q4⟩ := h1
  obtain ⟨r1, r2, r3, r4⟩ := h2
  simp only at q1 q2 q3 r1 r2 r3
  have hG' : G = c1 * c2 * (1 + 1) * (1 - d * (x1 * x2 * y1 * y2)) := by rw [hG, hE, hD, q3, r3]; exact extG ..
  have hH' : H = c1 * c2 * (1 + 1) * (1 + d * (x1 * x2 * y1 * y2)) := by rw [hH, hE, hD, q3, r3]; exact extH ..
  have hF' : F = c1 * c2 * (1 + 1) * (x1 * y2 + y1 * x2) := by rw [hF, hB, hA, q1, q2, r1, r2]; exact extF ..
  have hK' : K = c1 * c2 * (1 + 1) * (y1 * y2 + x1 * x2) := by rw [hK, hB, hA, q1, q2, r1, r2]; exact extK ..
  have hcc : c1 * c2 * (1 + 1) ≠ 0 := C.nz_mul (C.nz_mul q4 r4) C.two_ne
  have hz : G * H ≠ 0 := by
    rw [hG', hH']
    exact C.nz_mul (C.nz_mul hcc hn.2) (C.nz_mul hcc hn.1)
  clear hA hB hD hE hF hG hH hK q1 q2 q3 r1 r2 r3 hn o1 o2
  simp only [pAdd]
  generalize iv (1 + d * (x1 * x2 * y1 * y2)) = u at *
  generalize iv (1 - d * (x1 * x2 * y1 * y2)) = v at *
  refine ⟨?_, ?_, ?_, hz⟩
  · rw [hF', hG', hH']; exact ext1 hu _ _ _
  · rw [hK', hG', hH']; exact ext2 hv _ _ _
  · rw [hF', hK', hG', hH']; exact ext3 hu hv _ _ _
end
end Go.Proofs.YtihoaakbkffejaaDoor
