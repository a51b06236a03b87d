/-
  What is proved here: the contract of the specification's l4bytes: 32 bytes out of sixteen parts; the bytes of parts, one by one; plain facts on what a clamped number is: its parts and its bytes; plain mathematics of a twisted Edwards curve over the residues of a prime; plain mathematics of a twisted Edwards curve: its sum may be bracketed as; plain mathematics of a twisted Edwards curve: so many times a point, by; plain arithmetic: Fermat's little theorem, Pocklington's test, and that; plain arithmetic modulo 2^255 - 19: a number times its power p - 2 is one.
-/
import Derived.Test.YtihoaakbkffejaaGreatDoorFFm
import Derived.Deep.RegionHeld3
import Derived.Deep.AppendLies
namespace Go.Proofs.YtihoaakbkffejaaGreatDoor
open Go.RowKit
set_option maxRecDepth 100000

def btL (l : List Int) : List Int := l.flatMap (fun x => [x % 256, x / 256])
theorem btL_len (l : List Int) : (btL l).length = 2 * l.length := by
  induction l with
  | nil => rfl
  | cons x xs ih => simp only [btL, List.flatMap_cons, List.length_append, List.length_cons, List.length_nil] at ih ⊢; omega
theorem btL_snoc (l : List Int) (k : Nat) (h : k < l.length) : btL (l.take (k + 1)) = btL (l.take k) ++ [l.getD k 0 % 256, l.getD k 0 / 256] := by
  rw [take_app l k h]; simp [btL]
theorem btL_byte {l : List Int} (h : Lm l) : ∀ y ∈ btL l, 0 ≤ y ∧ y < 256 := by
  intro y hy
  simp only [btL, List.mem_flatMap, List.mem_cons, List.not_mem_nil, or_false] at hy
  obtain ⟨x, hx, hy⟩ := hy
  have := h x hx
  rcases hy with rfl | rfl <;> omega

set_option maxHeartbeats 2000000 in
theorem specBytes16 (l : List Int) (w : World) (hl : l.length = 16) (hm : Lm l) :
    Calls Tryz.prog 53 #[.agg (I64 l).toArray] w fun e w' => ∃ v, e = .returned v ∧ w'.ownsRow w.heap.size 5 1 v 32 (U8 (btL l)) ∧ Below w.heap.size w w' := by
  obtain ⟨i0, hi, hz0, hz1, hz2⟩ := info_parts Tryz.info5
  obtain ⟨A, hA⟩ : ∃ A, A = (I64 l).toArray := ⟨_, rfl⟩
  rw [← hA]
  obtain ⟨W, hW⟩ : ∃ W, W = w.alloc (.cells A 80) := ⟨_, rfl⟩
  have g0 : Arr W w.heap.size 80 (I64 l) := by rw [hW, hA]; exact Arr.new w (I64 l) _
  have gB : Below w.heap.size w W := by rw [hW]; exact (Below.refl _ _).alloc (Nat.le_refl _) _
  have gs : w.heap.size + 1 ≤ W.heap.size := by rw [hW]; simp
  clear hA
  go_enter Tryz.func53, Tryz.ntmps53
  go_wp2
  go_loopw [3, 4] (fun v i wr => ∃ k : Nat, k ≤ 16 ∧ i = .int .i64 k ∧ wr.ownsRow (w.heap.size + 1) 5 1 v (2 * k) (U8 (btL (l.take k))) ∧ Arr wr w.heap.size 80 (I64 l) ∧ Below w.heap.size w wr ∧ w.heap.size + 1 ≤ wr.heap.size) (fun _ i _ => 16 - (intOf i).toNat)
  case atStart => exact ⟨0, by omega, rfl, by simpa [btL] using World.ownsRow_nil _ _ _ _, hW ▸ g0, hW ▸ gB, by simp⟩
  case round =>
    clear g0 gB gs hW
    obtain ⟨k, hk, rfl, hown, g0, gB, gs⟩ := hrel
    by_cases hlt : k < 16
    · obtain ⟨x, hx⟩ : ∃ x, x = l.getD k 0 := ⟨_, rfl⟩
      have hck := g0.i64 k (by omega)
      rw [← hx] at hck
      have hxb := gD_lm hm k
      rw [← hx] at hxb
      obtain ⟨hx0, hx1⟩ := hxb
      have hnx := btL_snoc l k (by omega)
      rw [← hx] at hnx
      have HN : Hid _ := hnx
      clear hx hnx
      have s1 : IntKind.u8.wrap x = x % 256 := by rw [IntKind.wrap_u8]
      have s2 : IntKind.u8.wrap (x / 256) = x / 256 := by rw [IntKind.wrap_u8]; omega
      have hk16 : (k : Int) < 16 := by omega
      have hk0 : (0 : Int) ≤ (k : Int) := by omega
      go_wp2
      go_region_held3 (fun W => W.cell? ⟨w.heap.size, k, none⟩ = some (.int .i64 x)) (first | exact hS9 | go_keep)
        ((refine step_append_lies _ (by rfl) _ _ _ (by rfl) (w.heap.size + 1) 5 i0 _ 1 1 Tryz.underlying22 hi hz0 hz1 hz2 rfl (by omega) u3 (2 * k) (U8 (btL (l.take k))) (by rfl) ((hown.alloc _).drew)
            ⟨wr.heap.size, 0, none⟩ 2 2 (U8 [x % 256, x / 256]) (by rfl) (by rfl) (World.news_of_block (cs := #[.int .u8 (x % 256), .int .u8 (x / 256)]) (t := 5) (fr := (0, 0)) (heap_alloc_new wr _)) (by simp [Value.oneCell'])
            (by omega) (by unfold maxLen; omega) (by omega) (by simp; omega) (wr.heap.size + 1) (by simp) ?_; intro gg cap w1 hown1 hgrow hat hltg; have hbA : Below (w.heap.size + 1) wr w1 := (((Below.refl _ _).alloc (by omega) _).drew).grown hgrow (by simp; omega) (fun j hj => (hown.lt j hj).1); have hS9 : w1.cell? ⟨w.heap.size, k, none⟩ = some (.int .i64 x) := (hbA.cell (p := ⟨w.heap.size, k, none⟩) (by show w.heap.size < w.heap.size + 1; omega)).trans hck))
      all_goals
        have g0' := g0.below hbA (by omega)
        have gB' := gB.trans (hbA.mono (by omega))
        have gs' := Nat.le_trans gs hbA.size
        have HR : Hid (w1.ownsRow (w.heap.size + 1) 5 1 (.slice (some ⟨gg, 0, none⟩) (2 * k + 2) cap) (2 * (k + 1)) (U8 (btL (l.take (k + 1))))) := by
          unfold Hid
          rw [HN.out]
          have e2 : 2 * (k + 1) = 2 * k + 2 := by omega
          rw [e2]
          simpa using hown1
        clear hown1 hgrow hown hbA hat hltg g0 gB gs hck hS9
        go_wp2
        exact ⟨⟨k + 1, by omega, by go_num, HR.out, g0', gB', gs'⟩, by simp [intOf]; omega⟩
    · obtain rfl : k = 16 := by omega
      rw [List.take_of_length_le (by omega)] at hown
      have HO : Hid _ := own_base hown (show w.heap.size ≤ w.heap.size + 1 by omega)
      clear hown g0
      go_wp2
      go_ret
      exact ⟨_, rfl, HO.out, gB⟩
theorem btL_get : ∀ (l : List Int) (i : Nat), i < l.length → (btL l).getD (2 * i) 0 = l.getD i 0 % 256 ∧ (btL l).getD (2 * i + 1) 0 = l.getD i 0 / 256
 | x :: l, 0, _ => by simp [btL]
 | x :: l, i + 1, h => by
  have := btL_get l i (by simpa using h)
  have e : btL (x :: l) = x % 256 :: x / 256 :: btL l := by simp [btL]
  rw [e]
  have e1 : 2 * (i + 1) = (2 * i + 1) + 1 := by omega
  have e2 : 2 * (i + 1) + 1 = (2 * i + 1 + 1) + 1 := by omega
  rw [e1, List.getD_cons_succ, List.getD_cons_succ, List.getD_cons_succ, List.getD_cons_succ]
  exact this
def clL (l : List Int) : List Int := (l.set 0 (l.getD 0 0 / 8 * 8)).set 15 (l.getD 15 0 % 16384 + 16384)
theorem clL_len {l : List Int} (h : l.length = 16) : (clL l).length = 16 := by simp [clL, h]
theorem clL_lm {l : List Int} (h : Lm l) : Lm (clL l) := by
 have h0 := gD_lm h 0
 have h15 := gD_lm h 15
 intro x hx
 rcases List.mem_or_eq_of_mem_set hx with hx | rfl
 ·rcases List.mem_or_eq_of_mem_set hx with hx | rfl
  ·exact h x hx
  ·omega
 ·omega
theorem nat_and8 (a : Nat) (h : a < 65536) : a &&& 65528 = a / 8 * 8 := by
 have e : a &&& 65528 = (a >>> 3 &&& (2 ^ 13 - 1)) <<< 3 := by
  apply Nat.eq_of_testBit_eq
  intro i
  rw [show (65528 : Nat) = (2 ^ 13 - 1) <<< 3 by decide]
  by_cases hi : i < 3
  ·simp only [Nat.testBit_and, Nat.testBit_shiftLeft, Nat.not_le.2 hi, decide_false, Bool.false_and, Bool.and_false]
  ·have h3 : 3 ≤ i := by omega
   simp only [Nat.testBit_and, Nat.testBit_shiftLeft, Nat.testBit_shiftRight, h3, decide_true, Bool.true_and]
   rw [show 3 + (i - 3) = i by omega]
 rw [e, Nat.and_two_pow_sub_one_eq_mod, Nat.shiftLeft_eq, Nat.shiftRight_eq_div_pow]
 have : a / 2 ^ 3 % 2 ^ 13 = a / 2 ^ 3 := Nat.mod_eq_of_lt (by omega)
 rw [this]
theorem and_65528 {x : Int} (h0 : 0 ≤ x) (h1 : x < 65536) : bits .and .i64 x 65528 = x / 8 * 8 := by
 obtain ⟨n, rfl⟩ := Int.eq_ofNat_of_zero_le h0
 have := (bits_nat .i64 63 (by decide) (fun n a b => by rw [IntKind.wrap_i64]; omega) n 65528 (by omega) (by decide)).1
 rw [nat_and8 n (by omega)] at this
 simpa using this
theorem bits_comm_or (x y : Int) : bits .or .i64 x y = bits .or .i64 y x := by
 unfold bits
 simp only [BitVec.or_comm]
theorem top_16384 {x : Int} (h0 : 0 ≤ x) (h1 : x < 65536) : bits .or .i64 (bits .and .i64 x 16383) 16384 = x % 16384 + 16384 := by
 have e : bits .and .i64 x 16383 = x % 16384 := bits_mask .i64 63 (by decide) (fun n a b => by rw [IntKind.wrap_i64]; omega) 14 (by decide) x h0 (by omega)
 rw [e]
 rw [Int.add_comm, bits_comm_or]
 exact bits_join .i64 63 (by decide) (fun n a b => by rw [IntKind.wrap_i64]; omega) 14 16384 (x % 16384) (by omega) (by decide) (by decide) (by omega) (by omega) (by omega)
end Go.Proofs.YtihoaakbkffejaaGreatDoor
namespace Go.Proofs.YtihoaakbkffejaaGreatDoor
set_option maxRecDepth 100000
set_option maxHeartbeats 4000000

structure Crv {p : Nat} [NeZero p] (d i : Fin p) (iv : Fin p → Fin p) : Prop where
 im : i * i + 1 = 0
 one : (1 : Fin p) ≠ 0
 two : ∀ a : Fin p, a + a = 0 → a = 0
 nsq : ∀ s t : Fin p, s * s = d * (t * t) → t = 0
 inv : ∀ a : Fin p, a ≠ 0 → a * iv a = 1
def On {p : Nat} [NeZero p] (d : Fin p) (P : Fin p × Fin p) : Prop := P.2 * P.2 - P.1 * P.1 = 1 + d * (P.1 * P.1) * (P.2 * P.2)
section
variable {p : Nat} [NeZero p] {d i : Fin p} {iv : Fin p → Fin p}
theorem Crv.full (C : Crv d i iv) {x1 y1 x2 y2 : Fin p} (h1 : On d (x1, y1)) (h2 : On d (x2, y2)) {e : Fin p} (he : e = d * (x1 * x2 * y1 * y2)) (h : e * e = 1) : False := by
 have him := C.im
 simp only [On] at h1 h2
 have e1 : (i * x1 + e * y1) * (i * x1 + e * y1) = d * (x1 * y1 * (i * x2 + y2) * (x1 * y1 * (i * x2 + y2))) := by grind
 have e2 : (i * x1 - e * y1) * (i * x1 - e * y1) = d * (x1 * y1 * (i * x2 - y2) * (x1 * y1 * (i * x2 - y2))) := by grind
 have z1 := C.nsq _ _ e1
 have z2 := C.nsq _ _ e2
 have z3 : e + e = 0 := by grind
 have z4 := C.two e z3
 rw [z4] at h
 exact C.one (by grind)
theorem Crv.ne (C : Crv d i iv) {x1 y1 x2 y2 : Fin p} (h1 : On d (x1, y1)) (h2 : On d (x2, y2)) : 1 + d * (x1 * x2 * y1 * y2) ≠ 0 ∧ 1 - d * (x1 * x2 * y1 * y2) ≠ 0 :=
 ⟨fun h => C.full h1 h2 rfl (by grind), fun h => C.full h1 h2 rfl (by grind)⟩
def pAdd (d : Fin p) (iv : Fin p → Fin p) (P Q : Fin p × Fin p) : Fin p × Fin p :=
 ((P.1 * Q.2 + P.2 * Q.1) * iv (1 + d * (P.1 * Q.1 * P.2 * Q.2)), (P.2 * Q.2 + P.1 * Q.1) * iv (1 - d * (P.1 * Q.1 * P.2 * Q.2)))
theorem pAdd_comm (P Q : Fin p × Fin p) : pAdd d iv P Q = pAdd d iv Q P := by
 obtain ⟨x1, y1⟩ := P
 obtain ⟨x2, y2⟩ := Q
 simp only [pAdd]
 have e1 : x1 * y2 + y1 * x2 = x2 * y1 + y2 * x1 := by grind
 have e2 : x1 * x2 * y1 * y2 = x2 * x1 * y2 * y1 := by grind
 have e3 : y1 * y2 + x1 * x2 = y2 * y1 + x2 * x1 := by grind
 rw [e1, e2, e3]
theorem Crv.on_add (C : Crv d i iv) {P Q : Fin p × Fin p} (h1 : On d P) (h2 : On d Q) : On d (pAdd d iv P Q) := by
 obtain ⟨x1, y1⟩ := P
 obtain ⟨x2, y2⟩ := Q
 have hn := C.ne h1 h2
 have hu := C.inv _ hn.1
 have hv := C.inv _ hn.2
 simp only [On, pAdd] at *
 generalize iv (1 + d * (x1 * x2 * y1 * y2)) = u at *
 generalize iv (1 - d * (x1 * x2 * y1 * y2)) = v at *
 have hid : ((y1*y2+x1*x2)*(1+d*(x1*x2*y1*y2)))^2 - ((x1*y2+y1*x2)*(1-d*(x1*x2*y1*y2)))^2 = ((1+d*(x1*x2*y1*y2))*(1-d*(x1*x2*y1*y2)))^2 + d*((y1*y2+x1*x2)*(x1*y2+y1*x2))^2 := by grind
 generalize d*(x1*x2*y1*y2) = e at *
 generalize y1*y2+x1*x2 = B at *
 generalize x1*y2+y1*x2 = A at *
 clear h1 h2 hn
 grind
def pZero : Fin p × Fin p := (0, 1)
def pNeg (P : Fin p × Fin p) : Fin p × Fin p := (0 - P.1, P.2)
theorem on_zero : On d (pZero : Fin p × Fin p) := by simp only [On, pZero]; grind
theorem on_neg {P : Fin p × Fin p} (h : On d P) : On d (pNeg P) := by simp only [On, pNeg] at *; grind
theorem Crv.iv_one (C : Crv d i iv) : iv 1 = 1 := by have := C.inv 1 C.one; grind
theorem Crv.add_zero (C : Crv d i iv) (P : Fin p × Fin p) : pAdd d iv P pZero = P := by
 obtain ⟨x, y⟩ := P
 simp only [pAdd, pZero]
 have e1 : 1 + d * (x * 0 * y * 1) = 1 := by grind
 have e2 : 1 - d * (x * 0 * y * 1) = 1 := by grind
 rw [e1, e2, C.iv_one]
 have e3 : (x * 1 + y * 0) * 1 = x := by grind
 have e4 : (y * 1 + x * 0) * 1 = y := by grind
 rw [e3, e4]
theorem Crv.zero_add (C : Crv d i iv) (P : Fin p × Fin p) : pAdd d iv pZero P = P := by rw [pAdd_comm, C.add_zero]
theorem Crv.add_neg (C : Crv d i iv) {P : Fin p × Fin p} (h : On d P) : pAdd d iv P (pNeg P) = pZero := by
 have hn := (C.ne (x1 := P.1) (y1 := P.2) (x2 := (pNeg P).1) (y2 := (pNeg P).2) h (on_neg h)).2
 have hv := C.inv _ hn
 obtain ⟨x, y⟩ := P
 simp only [pAdd, pNeg, pZero, On] at *
 generalize iv (1 - d * (x * (0 - x) * y * y)) = v at *
 have e1 : (x * y + y * (0 - x)) * iv (1 + d * (x * (0 - x) * y * y)) = 0 := by
  generalize iv (1 + d * (x * (0 - x) * y * y)) = u
  grind
 have e2 : (y * y + x * (0 - x)) * v = 1 := by grind
 rw [e1, e2]
end
set_option maxHeartbeats 4000000

section
variable {p : Nat} [NeZero p] {d i : Fin p} {iv : Fin p → Fin p}
theorem assocX (x1 y1 x2 y2 x3 y3 d : Fin p) (h1 : y1*y1 - x1*x1 = 1 + d*(x1*x1)*(y1*y1)) (h2 : y2*y2 - x2*x2 = 1 + d*(x2*x2)*(y2*y2)) (h3 : y3*y3 - x3*x3 = 1 + d*(x3*x3)*(y3*y3)) :
 ((x1*y2+y1*x2)*(1-d*(x1*x2*y1*y2))*y3 + (y1*y2+x1*x2)*(1+d*(x1*x2*y1*y2))*x3) * ((1+d*(x2*x3*y2*y3))*(1-d*(x2*x3*y2*y3)) + d*x1*y1*(x2*y3+y2*x3)*(y2*y3+x2*x3))
 = (x1*(y2*y3+x2*x3)*(1+d*(x2*x3*y2*y3)) + y1*(x2*y3+y2*x3)*(1-d*(x2*x3*y2*y3))) * ((1+d*(x1*x2*y1*y2))*(1-d*(x1*x2*y1*y2)) + d*(x1*y2+y1*x2)*(y1*y2+x1*x2)*x3*y3) := by grind
theorem assocY (x1 y1 x2 y2 x3 y3 d : Fin p) (h1 : y1*y1 - x1*x1 = 1 + d*(x1*x1)*(y1*y1)) (h2 : y2*y2 - x2*x2 = 1 + d*(x2*x2)*(y2*y2)) (h3 : y3*y3 - x3*x3 = 1 + d*(x3*x3)*(y3*y3)) :
 ((y1*y2+x1*x2)*(1+d*(x1*x2*y1*y2))*y3 + (x1*y2+y1*x2)*(1-d*(x1*x2*y1*y2))*x3) * ((1+d*(x2*x3*y2*y3))*(1-d*(x2*x3*y2*y3)) - d*x1*y1*(x2*y3+y2*x3)*(y2*y3+x2*x3))
 = (y1*(y2*y3+x2*x3)*(1+d*(x2*x3*y2*y3)) + x1*(x2*y3+y2*x3)*(1-d*(x2*x3*y2*y3))) * ((1+d*(x1*x2*y1*y2))*(1-d*(x1*x2*y1*y2)) - d*(x1*y2+y1*x2)*(y1*y2+x1*x2)*x3*y3) := by grind
theorem frac {A B al be u v w x y s : Fin p} (hu : al * u = 1) (hv : be * v = 1) (hw : (1 + s * (A * u * x * (B * v) * y)) * w = 1) :
  (A * u * y + B * v * x) * w * (al * be + s * A * B * x * y) = A * be * y + B * al * x ∧ (al * be + s * A * B * x * y) * (u * v * w) = 1 := by
 constructor
 ·grind
 ·grind
theorem cancel {L R M N n1 n2 : Fin p} {a b : Fin p} (h1 : L * M = a) (h2 : R * N = b) (n1h : M * n1 = 1) (n2h : N * n2 = 1) (h : a * N = b * M) : L = R := by grind
theorem perm1 (x a y b : Fin p) : x * a * y * b = a * x * b * y := by grind
theorem perm2 (d a x b y w : Fin p) (h : (1 - d * (a * x * b * y)) * w = 1) : (1 + (0 - d) * (b * x * a * y)) * w = 1 := by grind
theorem Crv.assoc (C : Crv d i iv) {P Q R : Fin p × Fin p} (h1 : On d P) (h2 : On d Q) (h3 : On d R) : pAdd d iv (pAdd d iv P Q) R = pAdd d iv P (pAdd d iv Q R) := by
 have g12 := C.on_add h1 h2
 have g23 := C.on_add h2 h3
 obtain ⟨x1, y1⟩ := P
 obtain ⟨x2, y2⟩ := Q
 obtain ⟨x3, y3⟩ := R
 have n12 := C.ne h1 h2
 have n23 := C.ne h2 h3
 have nL := C.ne g12 h3
 have nR := C.ne h1 g23
 have u12 := C.inv _ n12.1
 have v12 := C.inv _ n12.2
 have u23 := C.inv _ n23.1
 have v23 := C.inv _ n23.2
 have uL := C.inv _ nL.1
 have vL := C.inv _ nL.2
 have uR := C.inv _ nR.1
 have vR := C.inv _ nR.2
 have aX := assocX x1 y1 x2 y2 x3 y3 d h1 h2 h3
 have aY := assocY x1 y1 x2 y2 x3 y3 d h1 h2 h3
 simp only [pAdd] at uL vL uR vR ⊢
 clear g12 g23 nL nR n12 n23 h1 h2 h3
 generalize iv (1 + d * (x1 * x2 * y1 * y2)) = u at *
 generalize iv (1 - d * (x1 * x2 * y1 * y2)) = v at *
 generalize iv (1 + d * (x2 * x3 * y2 * y3)) = u' at *
 generalize iv (1 - d * (x2 * x3 * y2 * y3)) = v' at *
 generalize 1 + d * (x1 * x2 * y1 * y2) = al at *
 generalize 1 - d * (x1 * x2 * y1 * y2) = be at *
 generalize 1 + d * (x2 * x3 * y2 * y3) = al' at *
 generalize 1 - d * (x2 * x3 * y2 * y3) = be' at *
 generalize x1 * y2 + y1 * x2 = A at *
 generalize y1 * y2 + x1 * x2 = B at *
 generalize x2 * y3 + y2 * x3 = A' at *
 generalize y2 * y3 + x2 * x3 = B' at *
 generalize iv (1 + d * (A * u * x3 * (B * v) * y3)) = wL at *
 generalize iv (1 - d * (A * u * x3 * (B * v) * y3)) = zL at *
 generalize iv (1 + d * (x1 * (A' * u') * y1 * (B' * v'))) = wR at *
 generalize iv (1 - d * (x1 * (A' * u') * y1 * (B' * v'))) = zR at *
 have f1 := frac (s := d) (x := x3) (y := y3) (w := wL) u12 v12 uL
 have f2 := frac (s := d) (x := x1) (y := y1) (w := wR) (A := A') (B := B') u23 v23 (by rw [← perm1]; exact uR)
 have f3 := frac (s := 0 - d) (x := x3) (y := y3) (w := zL) (A := B) (B := A) v12 u12 (perm2 _ _ _ _ _ _ vL)
 have f4 := frac (s := 0 - d) (x := x1) (y := y1) (w := zR) (A := B') (B := A') v23 u23 (perm2 _ _ _ _ _ _ (by rw [← perm1]; exact vR))
 have eX : (A * u * y3 + B * v * x3) * wL = (x1 * (B' * v') + y1 * (A' * u')) * wR := by
  refine cancel f1.1 (b := x1 * B' * al' + y1 * A' * be') (N := al' * be' + d * A' * B' * x1 * y1) ?_ f1.2 f2.2 ?_
  ·have := f2.1
   clear aX aY f1 f2 f3 f4
   grind
  ·clear f1 f2 f3 f4 uL vL uR vR u12 v12 u23 v23 aY
   grind
 have eY : (B * v * y3 + A * u * x3) * zL = (y1 * (B' * v') + x1 * (A' * u')) * zR := by
  refine cancel f3.1 (b := y1 * B' * al' + x1 * A' * be') (N := be' * al' + (0 - d) * B' * A' * x1 * y1) ?_ f3.2 f4.2 ?_
  ·have := f4.1
   clear aX aY f1 f2 f3 f4
   grind
  ·clear f1 f2 f3 f4 uL vL uR vR u12 v12 u23 v23 aX
   grind
 rw [eX, eY]
end
set_option maxHeartbeats 4000000

section
variable {p : Nat} [NeZero p] {d i : Fin p} {iv : Fin p → Fin p}
def pMul (d : Fin p) (iv : Fin p → Fin p) : Nat → Fin p × Fin p → Fin p × Fin p
 | 0, _ => pZero
 | n + 1, P => pAdd d iv (pMul d iv n P) P
theorem Crv.on_mul (C : Crv d i iv) {P : Fin p × Fin p} (h : On d P) : ∀ n, On d (pMul d iv n P)
 | 0 => on_zero
 | n + 1 => C.on_add (C.on_mul h n) h
theorem Crv.mul_add (C : Crv d i iv) {P : Fin p × Fin p} (h : On d P) (m : Nat) : ∀ n, pMul d iv (m + n) P = pAdd d iv (pMul d iv m P) (pMul d iv n P)
 | 0 => (C.add_zero _).symm
 | n + 1 => by
  show pAdd d iv (pMul d iv (m + n) P) P = pAdd d iv (pMul d iv m P) (pAdd d iv (pMul d iv n P) P)
  rw [C.mul_add h m n, C.assoc (C.on_mul h m) (C.on_mul h n) h]
theorem Crv.mul_one (C : Crv d i iv) (P : Fin p × Fin p) : pMul d iv 1 P = P := C.zero_add P
theorem Crv.mul_bit (C : Crv d i iv) {P : Fin p × Fin p} (h : On d P) (N j : Nat) :
  pMul d iv (N / 2 ^ j) P = (if N / 2 ^ j % 2 = 1 then pAdd d iv (pAdd d iv (pMul d iv (N / 2 ^ (j + 1)) P) (pMul d iv (N / 2 ^ (j + 1)) P)) P else pAdd d iv (pMul d iv (N / 2 ^ (j + 1)) P) (pMul d iv (N / 2 ^ (j + 1)) P)) := by
 have e : N / 2 ^ (j + 1) = N / 2 ^ j / 2 := by rw [Nat.pow_succ, Nat.div_div_eq_div_mul]
 rw [e, ← C.mul_add h]
 split
 ·rename_i h1
  show _ = pMul d iv (N / 2 ^ j / 2 + N / 2 ^ j / 2 + 1) P
  congr 1
  omega
 ·congr 1
  omega
structure Ext (a b c t : Fin p) (P : Fin p × Fin p) : Prop where
 ha : a = P.1 * c
 hb : b = P.2 * c
 ht : t = P.1 * P.2 * c
 hc : c ≠ 0
theorem Crv.nz_mul (C : Crv d i iv) {a b : Fin p} (ha : a ≠ 0) (hb : b ≠ 0) : a * b ≠ 0 := fun h => by
 have h1 := C.inv a ha
 have h2 := C.inv b hb
 exact C.one (by grind)
theorem Crv.two_ne (C : Crv d i iv) : (1 : Fin p) + 1 ≠ 0 := fun h => C.one (C.two 1 h)
theorem Ext.make (C : Crv d i iv) (x y : Fin p) : Ext x y 1 (x * y) (x, y) := ⟨by grind, by grind, by grind, C.one⟩
theorem Ext.flat (C : Crv d i iv) {a b c t : Fin p} {P : Fin p × Fin p} (h : Ext a b c t P) : a * iv c = P.1 ∧ b * iv c = P.2 := by
 have hi := C.inv c h.hc
 have h1 := h.ha
 have h2 := h.hb
 constructor <;> grind
theorem Ext.neg {a b c t : Fin p} {P : Fin p × Fin p} (h : Ext a b c t P) : Ext (0 - a) b c (0 - t) (pNeg P) := by
 have h1 := h.ha
 have h2 := h.hb
 have h3 := h.ht
 refine ⟨?_, ?_, ?_, h.hc⟩ <;> simp only [pNeg] <;> grind
theorem extG (x1 y1 c1 x2 y2 c2 d : Fin p) : c1 * (c2 + c2) - x1 * y1 * c1 * (x2 * y2 * c2) * (d + d) = c1 * c2 * (1 + 1) * (1 - d * (x1 * x2 * y1 * y2)) := by grind
theorem extH (x1 y1 c1 x2 y2 c2 d : Fin p) : c1 * (c2 + c2) + x1 * y1 * c1 * (x2 * y2 * c2) * (d + d) = c1 * c2 * (1 + 1) * (1 + d * (x1 * x2 * y1 * y2)) := by grind
theorem extF (x1 y1 c1 x2 y2 c2 : Fin p) : (y1 * c1 + x1 * c1) * (y2 * c2 + x2 * c2) - (y1 * c1 - x1 * c1) * (y2 * c2 - x2 * c2) = c1 * c2 * (1 + 1) * (x1 * y2 + y1 * x2) := by grind
theorem extK (x1 y1 c1 x2 y2 c2 : Fin p) : (y1 * c1 + x1 * c1) * (y2 * c2 + x2 * c2) + (y1 * c1 - x1 * c1) * (y2 * c2 - x2 * c2) = c1 * c2 * (1 + 1) * (y1 * y2 + x1 * x2) := by grind
theorem ext1 {g u : Fin p} (hu : g * u = 1) (k a f : Fin p) : k * a * (k * f) = a * u * (k * f * (k * g)) := by grind
theorem ext2 {f v : Fin p} (hv : f * v = 1) (k b g : Fin p) : k * g * (k * b) = b * v * (k * f * (k * g)) := by grind
theorem ext3 {f g u v : Fin p} (hu : g * u = 1) (hv : f * v = 1) (k a b : Fin p) : k * a * (k * b) = a * u * (b * v) * (k * f * (k * g)) := by grind
theorem Ext.add (C : Crv d i iv) {a1 b1 c1 t1 a2 b2 c2 t2 : Fin p} {P Q : Fin p × Fin p} (h1 : Ext a1 b1 c1 t1 P) (h2 : Ext a2 b2 c2 t2 Q) (o1 : On d P) (o2 : On d Q)
  {A B D E F G H K : Fin p} (hA : A = (b1 - a1) * (b2 - a2)) (hB : B = (b1 + a1) * (b2 + a2)) (hD : D = t1 * t2 * (d + d)) (hE : E = c1 * (c2 + c2))
  (hF : F = B - A) (hG : G = E - D) (hH : H = E + D) (hK : K = B + A) : Ext (F * G) (H * K) (G * H) (F * K) (pAdd d iv P Q) := by
 obtain ⟨x1, y1⟩ := P
 obtain ⟨x2, y2⟩ := Q
 have hn := C.ne o1 o2
 have hu := C.inv _ hn.1
 have hv := C.inv _ hn.2
 obtain ⟨q1, q2, q3, q4⟩ := h1
 obtain ⟨r1, r2, r3, r4⟩ := h2
 simp only at q1 q2 q3 r1 r2 r3
 have hG' : G = c1 * c2 * (1 + 1) * (1 - d * (x1 * x2 * y1 * y2)) := by rw [hG, hE, hD, q3, r3]; exact extG ..
 have hH' : H = c1 * c2 * (1 + 1) * (1 + d * (x1 * x2 * y1 * y2)) := by rw [hH, hE, hD, q3, r3]; exact extH ..
 have hF' : F = c1 * c2 * (1 + 1) * (x1 * y2 + y1 * x2) := by rw [hF, hB, hA, q1, q2, r1, r2]; exact extF ..
 have hK' : K = c1 * c2 * (1 + 1) * (y1 * y2 + x1 * x2) := by rw [hK, hB, hA, q1, q2, r1, r2]; exact extK ..
 have hcc : c1 * c2 * (1 + 1) ≠ 0 := C.nz_mul (C.nz_mul q4 r4) C.two_ne
 have hz : G * H ≠ 0 := by
  rw [hG', hH']
  exact C.nz_mul (C.nz_mul hcc hn.2) (C.nz_mul hcc hn.1)
 clear hA hB hD hE hF hG hH hK q1 q2 q3 r1 r2 r3 hn o1 o2
 simp only [pAdd]
 generalize iv (1 + d * (x1 * x2 * y1 * y2)) = u at *
 generalize iv (1 - d * (x1 * x2 * y1 * y2)) = v at *
 refine ⟨?_, ?_, ?_, hz⟩
 ·rw [hF', hG', hH']; exact ext1 hu _ _ _
 ·rw [hK', hG', hH']; exact ext2 hv _ _ _
 ·rw [hF', hK', hG', hH']; exact ext3 hu hv _ _ _
end
end Go.Proofs.YtihoaakbkffejaaGreatDoor
namespace Go.Proofs.YtihoaakbkffejaaGreatDoor

def Pri (p : Nat) : Prop := 1 < p ∧ ∀ m, m ∣ p → m = 1 ∨ m = p

theorem Pri.cop {p a : Nat} (hp : Pri p) (h : ¬ p ∣ a) : Nat.gcd p a = 1 := by
 rcases hp.2 _ (Nat.gcd_dvd_left p a) with h1 | h1
 ·exact h1
 ·exact absurd (h1 ▸ Nat.gcd_dvd_right p a) h
theorem Pri.dvd_mul {p a b : Nat} (hp : Pri p) (h : p ∣ a * b) : p ∣ a ∨ p ∣ b := by
 by_cases ha : p ∣ a
 ·exact .inl ha
 ·exact .inr (Nat.Coprime.dvd_of_dvd_mul_left (hp.cop ha) h)

def ch : Nat → Nat → Nat
 | _, 0 => 1
 | 0, _ + 1 => 0
 | n + 1, k + 1 => ch n k + ch n (k + 1)
theorem ch_zero (n : Nat) : ch n 0 = 1 := by cases n <;> rfl
theorem ch_big : ∀ (n k : Nat), n < k → ch n k = 0
 | 0, k + 1, _ => rfl
 | n + 1, k + 1, h => by rw [ch, ch_big n k (by omega), ch_big n (k + 1) (by omega)]
theorem ch_self : ∀ n : Nat, ch n n = 1
 | 0 => rfl
 | n + 1 => by rw [ch, ch_self n, ch_big n (n + 1) (by omega)]
theorem ch_mul : ∀ (n k : Nat), (k + 1) * ch (n + 1) (k + 1) = (n + 1) * ch n k
 | 0, 0 => rfl
 | 0, k + 1 => by
  rw [ch_big 1 (k + 2) (by omega), ch_big 0 (k + 1) (by omega)]; simp
 | n + 1, 0 => by
  have h1 := ch_mul n 0
  have h2 : ch (n + 1 + 1) (0 + 1) = ch (n + 1) 0 + ch (n + 1) (0 + 1) := rfl
  rw [h2, ch_zero]
  rw [ch_zero] at h1
  omega
 | n + 1, k + 1 => by
  have h1 := ch_mul n k
  have h2 := ch_mul n (k + 1)
  rw [ch]
  have h3 : ch (n + 1) (k + 1) = ch n k + ch n (k + 1) := rfl
  generalize ch (n + 1) (k + 1) = x at *
  generalize ch (n + 1) (k + 1 + 1) = y at *
  rw [Nat.mul_add, Nat.succ_mul (k + 1) x, h1, h2, Nat.succ_mul (n + 1) x, h3, Nat.mul_add]
  omega
def bsum (n x : Nat) : Nat → Nat
 | 0 => 0
 | j + 1 => bsum n x j + ch n j * x ^ j
theorem bsum_up (n x : Nat) : ∀ j, bsum (n + 1) x (j + 1) = bsum n x (j + 1) + x * bsum n x j
 | 0 => by simp [bsum, ch_zero]
 | j + 1 => by
  have h := bsum_up n x j
  rw [bsum, h]
  have h1 : bsum n x (j + 1 + 1) = bsum n x (j + 1) + ch n (j + 1) * x ^ (j + 1) := rfl
  have h2 : bsum n x (j + 1) = bsum n x j + ch n j * x ^ j := rfl
  have h3 : ch (n + 1) (j + 1) = ch n j + ch n (j + 1) := rfl
  rw [h1, h3, Nat.add_mul, show x * bsum n x (j + 1) = x * bsum n x j + ch n j * x ^ (j + 1) by rw [h2, Nat.mul_add, Nat.pow_succ]; congr 1; rw [Nat.mul_left_comm, Nat.mul_comm x (x ^ j)]]
  omega
theorem binom (x : Nat) : ∀ n, (x + 1) ^ n = bsum n x (n + 1)
 | 0 => by simp [bsum, ch]
 | n + 1 => by
  have h := bsum_up n x (n + 1)
  have h1 : bsum n x (n + 1 + 1) = bsum n x (n + 1) + ch n (n + 1) * x ^ (n + 1) := rfl
  rw [ch_big n (n + 1) (by omega), Nat.zero_mul, Nat.add_zero] at h1
  rw [h, h1, Nat.pow_succ, binom x n, Nat.mul_add, Nat.mul_one, Nat.mul_comm]
  omega
theorem Pri.ch {p : Nat} (hp : Pri p) (k : Nat) (h0 : 0 < k) (h1 : k < p) : p ∣ ch p k := by
 obtain ⟨q, rfl⟩ : ∃ q, p = q + 1 := ⟨p - 1, by omega⟩
 obtain ⟨j, rfl⟩ : ∃ j, k = j + 1 := ⟨k - 1, by omega⟩
 have := ch_mul q j
 rcases hp.dvd_mul (a := j + 1) (b := Go.Proofs.YtihoaakbkffejaaGreatDoor.ch (q + 1) (j + 1)) ⟨_, this⟩ with h | h
 ·exact absurd (Nat.le_of_dvd (by omega) h) (by omega)
 ·exact h
theorem Pri.bsum {p : Nat} (hp : Pri p) (x : Nat) : ∀ j, 0 < j → j ≤ p → bsum p x j % p = 1
 | 0, h, _ => by omega
 | 1, _, _ => by
  have := hp.1
  simp [Go.Proofs.YtihoaakbkffejaaGreatDoor.bsum, ch_zero, Nat.mod_eq_of_lt this]
 | j + 2, _, h => by
  have h1 := hp.bsum x (j + 1) (by omega) (by omega)
  obtain ⟨c, hc⟩ := hp.ch (j + 1) (by omega) (by omega)
  rw [Go.Proofs.YtihoaakbkffejaaGreatDoor.bsum, hc, Nat.mul_assoc, Nat.add_mul_mod_self_left, h1]
theorem Pri.frob {p : Nat} (hp : Pri p) (x : Nat) : (x + 1) ^ p % p = (x ^ p + 1) % p := by
 rw [binom, Go.Proofs.YtihoaakbkffejaaGreatDoor.bsum, ch_self, Nat.one_mul, Nat.add_comm, Nat.add_mod, hp.bsum x p (by have := hp.1; omega) (Nat.le_refl _), Nat.mod_add_mod]
theorem Pri.fermat {p : Nat} (hp : Pri p) : ∀ x : Nat, x ^ p % p = x % p
 | 0 => by rw [Nat.zero_pow (by have := hp.1; omega)]
 | x + 1 => by rw [hp.frob, Nat.add_mod, hp.fermat x, ← Nat.add_mod]
theorem Pri.one {p : Nat} (hp : Pri p) {x : Nat} (hx : ¬ p ∣ x) : x ^ (p - 1) % p = 1 := by
 have h1 := hp.1
 have hx0 : 0 < x := by
  rcases Nat.eq_zero_or_pos x with rfl | h
  ·exact absurd (Nat.dvd_zero p) hx
  ·exact h
 have hpos : 0 < x ^ (p - 1) := Nat.pow_pos hx0
 have h2 : p ∣ x ^ p - x := (Nat.sub_mod_eq_zero_of_mod_eq (hp.fermat x)) |> Nat.dvd_of_mod_eq_zero
 have h3 : x ^ p - x = x * (x ^ (p - 1) - 1) := by
  rw [Nat.mul_sub, Nat.mul_one, ← Nat.pow_succ', show (p - 1).succ = p by omega]
 rw [h3] at h2
 rcases hp.dvd_mul h2 with h | h
 ·exact absurd h hx
 ·obtain ⟨c, hc⟩ := h
  rw [show x ^ (p - 1) = 1 + p * c by omega, Nat.add_mul_mod_self_left, Nat.mod_eq_of_lt h1]

theorem pow_mod_one {d b x : Nat} (hd : 1 < d) (h : b ^ x % d = 1) (c : Nat) : b ^ (x * c) % d = 1 := by
 rw [Nat.pow_mul, Nat.pow_mod, h, Nat.one_pow, Nat.mod_eq_of_lt hd]
theorem pow_gcd {d b : Nat} (hd : 1 < d) (x y : Nat) : b ^ x % d = 1 → b ^ y % d = 1 → b ^ (Nat.gcd x y) % d = 1 := by
 induction x, y using Nat.gcd.induction with
 | H0 y => intro _ h; rw [Nat.gcd_zero_left]; exact h
 | H1 x y _ ih =>
  intro hx hy
  rw [Nat.gcd_rec]
  refine ih ?_ hx
  have h1 := pow_mod_one hd hx (y / x)
  rw [← Nat.div_add_mod y x, Nat.pow_add, Nat.mul_mod, h1, Nat.one_mul, Nat.mod_mod] at hy
  exact hy
theorem pri_dvd : ∀ n : Nat, 1 < n → ∃ d, Pri d ∧ d ∣ n := by
 intro n
 induction n using Nat.strongRecOn with
 | ind n ih =>
  intro h
  by_cases hp : Pri n
  ·exact ⟨n, hp, Nat.dvd_refl _⟩
  ·have : ∃ m, m ∣ n ∧ m ≠ 1 ∧ m ≠ n := by
    refine Classical.byContradiction fun hc => hp ⟨h, fun m hm => ?_⟩
    refine Classical.byContradiction fun h2 => hc ⟨m, hm, fun e => h2 (.inl e), fun e => h2 (.inr e)⟩
   obtain ⟨m, hm, h1, h2⟩ := this
   have hl := Nat.le_of_dvd (by omega) hm
   have h0 : m ≠ 0 := by rintro rfl; have := Nat.eq_zero_of_zero_dvd hm; omega
   obtain ⟨d, hd, hdm⟩ := ih m (by omega) (by omega)
   exact ⟨d, hd, Nat.dvd_trans hdm hm⟩
theorem pri_of {n : Nat} (h1 : 1 < n) (h : ∀ d, Pri d → d ∣ n → n < d * d) : Pri n := by
 refine ⟨h1, fun m hm => ?_⟩
 obtain ⟨c, hc⟩ := hm
 refine Classical.byContradiction fun hne => ?_
 have hm1 : m ≠ 1 := fun e => hne (.inl e)
 have hmn : m ≠ n := fun e => hne (.inr e)
 have hm0 : m ≠ 0 := by rintro rfl; simp at hc; omega
 have hc0 : c ≠ 0 := by rintro rfl; simp at hc; omega
 have hc1 : c ≠ 1 := by rintro rfl; simp at hc; omega
 have key : ∀ u v : Nat, 1 < u → n = u * v → u ≤ v → False := by
  intro u v hu hn huv
  obtain ⟨d, hd, hdu⟩ := pri_dvd u hu
  have hdl := Nat.le_of_dvd (by omega) hdu
  have h2 := h d hd (hn ▸ Nat.dvd_trans hdu (Nat.dvd_mul_right u v))
  have h3 : d * d ≤ u * v := Nat.mul_le_mul hdl (by omega)
  omega
 rcases Nat.le_total m c with h2 | h2
 ·exact key m c (by omega) hc h2
 ·exact key c m (by omega) (by rw [Nat.mul_comm]; exact hc) h2

theorem wit {n d q m a : Nat} (hn0 : 0 < n) (hd : Pri d) (hdn : d ∣ n) (hq : Pri q) (hn : n - 1 = m * q) (h1 : a ^ (n - 1) % n = 1) (h2 : Nat.gcd (a ^ m % n + (n - 1)) n = 1) : q ∣ d - 1 := by
 refine Classical.byContradiction fun hnd => ?_
 have hd1 := hd.1
 have hb : a ^ (m * q) % d = 1 := by
  rw [← hn, ← Nat.mod_mod_of_dvd _ hdn, h1, Nat.mod_eq_of_lt hd1]
 have hda : ¬ d ∣ a ^ m := by
  intro h
  rw [Nat.pow_mul, Nat.pow_mod, Nat.mod_eq_zero_of_dvd h, Nat.zero_pow (by have := hq.1; omega)] at hb
  simp at hb
 have h3 := pow_gcd hd1 q (d - 1) (by rw [← Nat.pow_mul]; exact hb) (hd.one hda)
 rw [hq.cop hnd, Nat.pow_one] at h3
 have h4 : d ∣ a ^ m % n + (n - 1) := by
  refine Nat.dvd_of_mod_eq_zero ?_
  rw [Nat.add_mod, Nat.mod_mod_of_dvd _ hdn, h3, Nat.add_mod_mod, show 1 + (n - 1) = n by omega]
  exact Nat.mod_eq_zero_of_dvd hdn
 have h5 : d ∣ 1 := h2 ▸ Nat.dvd_gcd h4 hdn
 have := Nat.le_of_dvd (by omega) h5
 omega

def pw (n a : Nat) : Nat → Nat → Nat
 | 0, _ => 1
 | f + 1, e => (pw n a f (e / 2)) ^ 2 * a ^ (e % 2) % n
theorem pw_eq {n a : Nat} (hn : 1 < n) : ∀ f e : Nat, e < 2 ^ f → pw n a f e = a ^ e % n
 | 0, e, h => by
  have : e = 0 := by simpa using h
  subst this
  simp [pw, Nat.mod_eq_of_lt hn]
 | f + 1, e, h => by
  rw [pw, pw_eq hn f (e / 2) (by rw [Nat.pow_succ] at h; omega)]
  conv => rhs; rw [← Nat.div_add_mod e 2, Nat.pow_add, Nat.mul_comm 2, Nat.pow_mul, Nat.mul_mod, Nat.pow_mod (a ^ (e / 2))]
  rw [Nat.mul_mod]

def noDiv (n : Nat) : Nat → Bool
 | 0 => true
 | k + 1 => (n % (k + 2) != 0) && noDiv n k
theorem noDiv_at {n : Nat} : ∀ k, noDiv n k = true → ∀ m, 2 ≤ m → m ≤ k + 1 → ¬ m ∣ n
 | 0, _, m, h1, h2 => by omega
 | k + 1, h, m, h1, h2 => by
  simp only [noDiv, Bool.and_eq_true, bne_iff_ne] at h
  by_cases e : m = k + 2
  ·subst e; intro hd; exact h.1 (Nat.mod_eq_zero_of_dvd hd)
  ·exact noDiv_at k h.2 m h1 (by omega)
theorem pri_small {n k : Nat} (h1 : 1 < n) (h : noDiv n k = true) (hk : n < (k + 2) * (k + 2)) : Pri n := by
 refine pri_of h1 fun d hd hdn => ?_
 by_cases hl : d ≤ k + 1
 ·exact absurd hdn (noDiv_at k h d hd.1 hl)
 ·have := Nat.mul_le_mul (show k + 2 ≤ d by omega) (show k + 2 ≤ d by omega)
  omega

def isWit (n q a f : Nat) : Bool := (n - 1) % q == 0 && pw n a f (n - 1) == 1 && Nat.gcd (pw n a f ((n - 1) / q) + (n - 1)) n == 1
theorem isWit_dvd {n q a f d : Nat} (hn : 1 < n) (hf : n < 2 ^ f) (hq : Pri q) (h : isWit n q a f = true) (hd : Pri d) (hdn : d ∣ n) : q ∣ d - 1 := by
 simp only [isWit, Bool.and_eq_true, beq_iff_eq] at h
 obtain ⟨⟨h1, h2⟩, h3⟩ := h
 have hle : (n - 1) / q ≤ n - 1 := Nat.div_le_self _ _
 rw [pw_eq hn f _ (by omega)] at h2 h3
 exact wit (by omega) hd hdn hq (Nat.div_mul_cancel (Nat.dvd_of_mod_eq_zero h1)).symm h2 h3
theorem pock1 {n q a f : Nat} (hn : 1 < n) (hf : n < 2 ^ f) (hq : Pri q) (h : isWit n q a f = true) (hF : n < q * q) : Pri n := by
 refine pri_of hn fun d hd hdn => ?_
 have h1 := isWit_dvd hn hf hq h hd hdn
 have := hd.1
 have h2 := Nat.le_of_dvd (by omega) h1
 have := Nat.mul_le_mul (show q ≤ d by omega) (show q ≤ d by omega)
 omega
theorem pock2 {n q r a b f : Nat} (hn : 1 < n) (hf : n < 2 ^ f) (hq : Pri q) (hr : Pri r) (hqr : Nat.gcd q r = 1) (h : isWit n q a f = true) (h' : isWit n r b f = true) (hF : n < (q * r) * (q * r)) : Pri n := by
 refine pri_of hn fun d hd hdn => ?_
 have h1 := Nat.Coprime.mul_dvd_of_dvd_of_dvd hqr (isWit_dvd hn hf hq h hd hdn) (isWit_dvd hn hf hr h' hd hdn)
 have := hd.1
 have h2 := Nat.le_of_dvd (by omega) h1
 have := Nat.mul_le_mul (show q * r ≤ d by omega) (show q * r ≤ d by omega)
 omega

set_option maxRecDepth 100000
theorem pri_127 : Pri 127 := pri_small (k := 11) (by decide) (by decide +kernel) (by decide)
theorem pri_75707 : Pri 75707 := pri_small (k := 275) (by decide) (by decide +kernel) (by decide)
theorem pri_1923133 : Pri 1923133 := pri_small (k := 1386) (by decide) (by decide +kernel) (by decide)
theorem pri_8574133 : Pri 8574133 := pri_small (k := 2928) (by decide) (by decide +kernel) (by decide)
theorem pri_c : Pri 1919519569386763 := pock2 (q := 8574133) (r := 127) (a := 2) (b := 2) (f := 51) (by decide) (by decide) pri_8574133 pri_127 (by decide) (by decide +kernel) (by decide +kernel) (by decide)
theorem pri_b : Pri 75445702479781427272750846543864801 := pock2 (q := 1919519569386763) (r := 75707) (a := 2) (b := 2) (f := 116) (by decide) (by decide) pri_c pri_75707 (by decide) (by decide +kernel) (by decide +kernel) (by decide)
theorem pri_a : Pri 74058212732561358302231226437062788676166966415465897661863160754340907 := pock2 (q := 75445702479781427272750846543864801) (r := 1923133) (a := 2) (b := 2) (f := 236) (by decide) (by decide) pri_b pri_1923133 (by decide) (by decide +kernel) (by decide +kernel) (by decide)
theorem pri_p : Pri (2 ^ 255 - 19) := pock1 (q := 74058212732561358302231226437062788676166966415465897661863160754340907) (a := 2) (f := 256) (by decide) (by decide) pri_a (by decide +kernel) (by decide)
theorem inv_nat {p a : Nat} (hp : Pri p) (h : ¬ p ∣ a) : a * a ^ (p - 2) % p = 1 := by
 have := hp.1
 rw [← Nat.pow_succ', show (p - 2).succ = p - 1 by omega]
 exact hp.one h
theorem sq_one {p h : Nat} (hp : Pri p) (hh : h * h % p = 1) : h % p = 1 ∨ p ∣ h + 1 := by
 have h1 := hp.1
 obtain ⟨k, rfl⟩ : ∃ k, h = k + 1 := by
  cases h with
  | zero => simp at hh
  | succ k => exact ⟨k, rfl⟩
 have h2 : p ∣ (k + 1) * (k + 1) - 1 := Nat.dvd_of_mod_eq_zero (Nat.sub_mod_eq_zero_of_mod_eq (by rw [hh, Nat.mod_eq_of_lt h1]))
 rw [show (k + 1) * (k + 1) - 1 = k * (k + 1 + 1) by rw [Nat.mul_add (k + 1), Nat.add_mul, Nat.mul_add k, Nat.mul_add k]; omega] at h2
 rcases hp.dvd_mul h2 with h | h
 ·obtain ⟨c, rfl⟩ := h
  exact .inl (by rw [Nat.mul_add_mod, Nat.mod_eq_of_lt h1])
 ·exact .inr h
theorem root_nat {p b s e h : Nat} (hp : Pri p) (hs : p ∣ s * s + 1) (hh : p - 1 = h * 2) (he : e * 4 = h + 2) :
  (b * b) ^ e * (b * b) ^ e % p = b * b % p ∨ (b * b) ^ e * s * ((b * b) ^ e * s) % p = b * b % p := by
 have h1 := hp.1
 have hr : (b * b) ^ e * (b * b) ^ e = b ^ h * (b * b) := by
  rw [show b * b = b ^ 2 from (Nat.pow_two b).symm, ← Nat.pow_mul, ← Nat.pow_add, ← Nat.pow_add]
  congr 1
  omega
 by_cases hb : p ∣ b
 ·refine .inl ?_
  rw [hr, Nat.mod_eq_zero_of_dvd (Nat.dvd_trans hb (Nat.dvd_mul_right b b)), Nat.mod_eq_zero_of_dvd (Nat.dvd_trans (Nat.dvd_trans hb (Nat.dvd_mul_right b b)) (Nat.dvd_mul_left _ _))]
 ·have hH : b ^ h * b ^ h % p = 1 := by
   rw [← Nat.pow_add, show h + h = p - 1 by omega]
   exact hp.one hb
  rcases sq_one hp hH with h2 | h2
  ·refine .inl ?_
   rw [hr, Nat.mul_mod, h2, Nat.one_mul, Nat.mod_mod]
  ·refine .inr ?_
   rw [show (b * b) ^ e * s * ((b * b) ^ e * s) = (b * b) ^ e * (b * b) ^ e * (s * s) by ac_rfl, hr]
   generalize b ^ h = H at *
   have hHs : H * (s * s) % p = 1 := by
    obtain ⟨c, hc⟩ := h2
    obtain ⟨d, hd⟩ := hs
    have h3 : H * (s * s) + p * (c + d) = 1 + p * (c * (p * d)) := by
     have h4 : (H + 1) * (s * s + 1) = H * (s * s) + (H + 1) + s * s := by rw [Nat.mul_add, Nat.add_mul, Nat.one_mul, Nat.mul_one]; omega
     rw [hc, hd, show p * c * (p * d) = p * (c * (p * d)) by ac_rfl] at h4
     rw [Nat.mul_add]
     omega
    have h5 := congrArg (· % p) h3
    simpa [Nat.mod_eq_of_lt h1] using h5
   rw [show H * (b * b) * (s * s) = H * (s * s) * (b * b) by ac_rfl, Nat.mul_mod, hHs, Nat.one_mul, Nat.mod_mod]

def pN : Nat := 57896044618658097711785492504343953926634992332820282019728792003956564819949
theorem pri_pN : Pri pN := pri_p
theorem pN_int : (pN : Int) = P25519 := rfl
def qN : Nat := 19681161376707505956807079304988542015446066515923890162744021073123829784752
theorem qN_sq : pN ∣ qN * qN + 1 := Nat.dvd_of_mod_eq_zero (by decide +kernel)
theorem pN_half : pN - 1 = 28948022309329048855892746252171976963317496166410141009864396001978282409974 * 2 := by decide
theorem pN_eighth : 7237005577332262213973186563042994240829374041602535252466099000494570602494 * 4 = 28948022309329048855892746252171976963317496166410141009864396001978282409974 + 2 := by decide
def eInv : Nat := 57896044618658097711785492504343953926634992332820282019728792003956564819947
def eRt : Nat := 7237005577332262213973186563042994240829374041602535252466099000494570602494
theorem inv_pN {a : Nat} (h : ¬ pN ∣ a) : a * a ^ eInv % pN = 1 := inv_nat pri_pN h
theorem root_pN (b : Nat) : (b * b) ^ eRt * (b * b) ^ eRt % pN = b * b % pN ∨ (b * b) ^ eRt * qN * ((b * b) ^ eRt * qN) % pN = b * b % pN := root_nat pri_pN qN_sq pN_half pN_eighth

theorem inv_int {a : Int} (h0 : 0 < a) (h1 : a < P25519) : a * a ^ eInv % P25519 = 1 := by
 obtain ⟨n, rfl⟩ := Int.eq_ofNat_of_zero_le (show 0 ≤ a by omega)
 have hn : ¬ pN ∣ n := by
  intro h
  have := Nat.le_of_dvd (by omega) h
  rw [← pN_int] at h1
  omega
 have := inv_pN hn
 rw [← pN_int]
 exact_mod_cast congrArg (Nat.cast (R := Int)) this
theorem root_int {b : Int} (h0 : 0 ≤ b) : (b * b) ^ eRt * (b * b) ^ eRt % P25519 = b * b % P25519 ∨ (b * b) ^ eRt * qN * ((b * b) ^ eRt * qN) % P25519 = b * b % P25519 := by
 obtain ⟨n, rfl⟩ := Int.eq_ofNat_of_zero_le h0
 rw [← pN_int]
 rcases root_pN n with h | h
 ·exact .inl (by exact_mod_cast congrArg (Nat.cast (R := Int)) h)
 ·exact .inr (by exact_mod_cast congrArg (Nat.cast (R := Int)) h)
end Go.Proofs.YtihoaakbkffejaaGreatDoor
