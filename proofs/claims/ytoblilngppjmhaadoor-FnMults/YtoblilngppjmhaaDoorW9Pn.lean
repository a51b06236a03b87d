/-
  What is proved here: plain arithmetic modulo 2^255 - 19: a number times its power p - 2 is one, and a square has a root that is one of two powers; contracts of the specification's l4inv and l4zero: the inverse of a number of the field, and whether it is none; plain mathematics of a twisted Edwards curve over the residues of a prime: its sum has no exceptions, stays on the curve, has a zero and opposites; no program is spoken of; plain mathematics of a twisted Edwards curve: its sum may be bracketed as one likes; no program is spoken of; plain mathematics of a twisted Edwards curve: so many times a point, by doubling and adding; the long form of a point; no program is spoken of.
-/
import Derived.Test.YtoblilngppjmhaaDoorW9Fu
import Derived.Test.YtoblilngppjmhaaDoorW9Fs
import Derived.Test.YtoblilngppjmhaaDoorW9Fm
namespace Go.Proofs.YtoblilngppjmhaaDoor

theorem inv_nat {p a : Nat} (hp : Pri p) (h : ¬ p ∣ a) : a * a ^ (p - 2) % p = 1 := by
  have := hp.1
  rw [← Nat.pow_succ', show (p - 2).succ = p - 1 by omega]
  exact hp.one h
/-- The prime, as a natural number. -/
def pN : Nat := 57896044618658097711785492504343953926634992332820282019728792003956564819949
theorem pri_pN : Pri pN := pri_p
theorem pN_int : (pN : Int) = P25519 := rfl
/-- A root of the opposite of one. -/
def qN : Nat := 19681161376707505956807079304988542015446066515923890162744021073123829784752
/-- The exponent of the inverse, the exponent of a root. -/
def eInv : Nat := 57896044618658097711785492504343953926634992332820282019728792003956564819947
theorem inv_pN {a : Nat} (h : ¬ pN ∣ a) : a * a ^ eInv % pN = 1 := inv_nat pri_pN h
theorem inv_int {a : Int} (h0 : 0 < a) (h1 : a < P25519) : a * a ^ eInv % P25519 = 1 := by
  obtain ⟨n, rfl⟩ := Int.eq_ofNat_of_zero_le (show 0 ≤ a by omega)
  have hn : ¬ pN ∣ n := by
    intro h
    have := Nat.le_of_dvd (by omega) h
    rw [← pN_int] at h1
    omega
  have := inv_pN hn
  rw [← pN_int]
  exact_mod_cast congrArg (Nat.cast (R := Int)) this
end Go.Proofs.YtoblilngppjmhaaDoor
namespace Go.Proofs.YtoblilngppjmhaaDoor
open Go.RowKit
set_option maxRecDepth 100000

/-- An array that is read and one that is written, through whatever keeps what is there. -/
structure E2 (w W : World) (a : List Int) : Prop where
  fr : Below w.heap.size w W
  pa : Arr W w.heap.size 82 (I64 a)
  pr : Arr W (w.heap.size + 1) 82 (I64 Z16)
theorem E2.go {w A B : World} {a : List Int} (h : E2 w A a) (hb : Below A.heap.size A B) : E2 w B a := ⟨h.fr.trans (hb.mono h.fr.size), h.pa.kept hb, h.pr.kept hb⟩
theorem E2.one {w W : World} {a : List Int} (h : E2 w W a) : W.rangeAt w.heap.size 0 (I64 a) := arr_range h.pa
theorem E2.new (w : World) (a : List Int) : E2 w ((w.alloc (.cells (I64 a).toArray 82)).alloc (.cells (I64 Z16).toArray 82)) a := by
  refine ⟨((Below.refl _ _).alloc (Nat.le_refl _) _).alloc (by simp) _, (Arr.new w (I64 a) _).alloc _, ?_⟩
  have := Arr.new (w.alloc (.cells (I64 a).toArray 82)) (I64 Z16) 82
  rw [World.size_alloc] at this
  exact this

theorem two_len : (lim 16 2).length = 16 := lim_len _ _
theorem tk_two : (tk16 PL (lim 16 2)).length = 16 ∧ Lm (tk16 PL (lim 16 2)) ∧ (val (tk16 PL (lim 16 2))).toNat = eInv := by
  have htk : tk16 PL (lim 16 2) = lim 16 (P25519 - 2) := by
    rw [tk16_lim PL_len two_len, PL_val, val_lim]
    rfl
  rw [htk]
  exact ⟨lim_len _ _, lim_lm _ _, by rw [val_lim]; rfl⟩

/-- The inverse. -/
def invF (a : List Int) : List Int := red (val a ^ eInv)

set_option maxHeartbeats 2000000 in
theorem specInv (a : List Int) (w : World) (ha : a.length = 16) (la : Lm a) :
    Calls Tryd.prog 132 #[.agg (I64 a).toArray] w fun e w' => e = .returned (.agg (I64 (invF a)).toArray) ∧ Below w.heap.size w w' := by
  obtain ⟨tl, tm, tv⟩ := tk_two
  obtain ⟨R, hR⟩ : ∃ R, R = invF a := ⟨_, rfl⟩
  have hRl : R.length = 16 := by rw [hR]; exact red_len _
  have HSM : Hid (∀ Z, Calls Tryd.prog 112 #[.int .i64 2] Z fun e w' => e = .returned (.agg (I64 (lim 16 2)).toArray) ∧ Below Z.heap.size Z w') := by
    unfold Hid; intro Z; exact specSmall 2 Z (by omega) (by omega)
  have HTK : Hid (∀ Z, Calls Tryd.prog 127 #[.agg (I64 PL).toArray, .agg (I64 (lim 16 2)).toArray] Z fun e w' => e = .returned (.agg (I64 (tk16 PL (lim 16 2))).toArray) ∧ Below Z.heap.size Z w') := by
    unfold Hid; intro Z; exact specTake PL _ Z PL_len two_len PL_lm (lim_lm _ _)
  have HPW : Hid (∀ Z, Calls Tryd.prog 144 #[.agg (I64 a).toArray, .agg (I64 (tk16 PL (lim 16 2))).toArray] Z fun e w' => e = .returned (.agg (I64 R).toArray) ∧ Below Z.heap.size Z w') := by
    unfold Hid; intro Z
    have := specPow a _ Z ha tl la tm
    rw [tv] at this
    rw [hR]
    exact this
  obtain ⟨D, hD⟩ : ∃ D, D = lim 16 2 := ⟨_, rfl⟩
  obtain ⟨T, hT⟩ : ∃ T, T = tk16 PL D := ⟨_, rfl⟩
  rw [← hD] at HSM HTK HPW
  rw [← hT] at HTK HPW
  obtain ⟨L, hL⟩ : ∃ L, L = PL := ⟨_, rfl⟩
  have HPR : Hid (∀ Z, Calls Tryd.prog 128 #[] Z fun e w' => e = .returned (.agg (I64 L).toArray) ∧ Below Z.heap.size Z w') := by
    unfold Hid; intro Z; rw [hL]; exact specPrime Z
  rw [← hL] at HTK
  rw [← hR]
  obtain ⟨A, hA⟩ : ∃ A, A = (I64 a).toArray := ⟨_, rfl⟩
  obtain ⟨W, hW⟩ : ∃ W, W = (w.alloc (.cells A 82)).alloc (.cells #[.int .i64 0, .int .i64 0, .int .i64 0, .int .i64 0, .int .i64 0, .int .i64 0, .int .i64 0, .int .i64 0, .int .i64 0, .int .i64 0, .int .i64 0, .int .i64 0, .int .i64 0, .int .i64 0, .int .i64 0, .int .i64 0] 82) := ⟨_, rfl⟩
  have EE : E2 w W a := by rw [hW, hA]; exact E2.new w a
  have EE' : E2 w W.drew a := EE.go (Below.refl _ _).drew
  rw [← hA]
  have hone : ∀ v ∈ I64 R, v.oneCell' = true := by
    intro v hv
    obtain ⟨x, _, rfl⟩ := List.mem_map.1 hv
    rfl
  have hu : Tryd.prog.underlying 82 = some (.array 16 3) := Tryd.underlying82
  have hia : (Tryd.prog.info? 82).map (·.size) = some (I64 a).length := by simpa [ha] using infoE
  have hir : (Tryd.prog.info? 82).map (·.size) = some (I64 R).length := by simpa [hRl] using infoE
  clear hA hR hD hT hL tl tm tv EE ha la
  go_enter Tryd.func132, Tryd.ntmps132
  go_wp2
  rw [← hW]
  clear hW
  go_region_held3 (fun W => W.rangeAt w.heap.size 0 (I64 a))
    (first
      | exact EE'.one
      | exact hS5)
    ((first
      | (go_at_call 128; refine (HPR.out _).mono ?_; rintro e w1 ⟨rfl, hb1⟩; replace EE' := EE'.go hb1; clear hb1)
      | (go_at_call 112; refine (HSM.out _).mono ?_; rintro e w2 ⟨rfl, hb2⟩; replace EE' := EE'.go hb2; clear hb2)
      | (go_at_call 127; refine (HTK.out _).mono ?_; rintro e w3 ⟨rfl, hb3⟩; replace EE' := EE'.go hb3; clear hb3)
      | (go_at_call 144; refine (HPW.out _).mono ?_; rintro e w4 ⟨rfl, hb4⟩; replace EE' := EE'.go hb4; clear hb4; have hth : w4.there (w.heap.size + 1) 0 (I64 R).length := (by simpa [hRl] using arr_there EE'.pr); have hS5 : (w4.setCells (w.heap.size + 1) 0 (I64 R)).rangeAt w.heap.size 0 (I64 a) := arr_range (Arr.setCellsO (by omega) _ _ EE'.pa))))
  all_goals
    have hA5 : Arr (w4.setCells (w.heap.size + 1) 0 (I64 R)) (w.heap.size + 1) 82 (I64 R) := Arr.setCells0 EE'.pr (by simp [hRl])
    have hB5 : Below w.heap.size w (w4.setCells (w.heap.size + 1) 0 (I64 R)) := setCells_below (by omega) _ _ EE'.fr
    go_wp2
    exact bodyPost_ret (results_cell_row rfl _ _ (w.heap.size + 1) 82 (I64 R).toArray (0, 0) _ rfl hA5 Tryd.underlying82 rfl (by simpa [hRl] using infoE)) rfl ⟨rfl, hB5⟩
end Go.Proofs.YtoblilngppjmhaaDoor
namespace Go.Proofs.YtoblilngppjmhaaDoor
set_option maxRecDepth 100000
set_option maxHeartbeats 4000000

/-- The curve's numbers: a root of the opposite of one, inverses, and a number that is no square. -/
structure Crv {p : Nat} [NeZero p] (d i : Fin p) (iv : Fin p → Fin p) : Prop where
  im : i * i + 1 = 0
  one : (1 : Fin p) ≠ 0
  two : ∀ a : Fin p, a + a = 0 → a = 0
  nsq : ∀ s t : Fin p, s * s = d * (t * t) → t = 0
  inv : ∀ a : Fin p, a ≠ 0 → a * iv a = 1
/-- A point of the curve. -/
def On {p : Nat} [NeZero p] (d : Fin p) (P : Fin p × Fin p) : Prop := P.2 * P.2 - P.1 * P.1 = 1 + d * (P.1 * P.1) * (P.2 * P.2)
section
variable {p : Nat} [NeZero p] {d i : Fin p} {iv : Fin p → Fin p}
theorem Crv.full (C : Crv d i iv) {x1 y1 x2 y2 : Fin p} (h1 : On d (x1, y1)) (h2 : On d (x2, y2)) {e : Fin p} (he : e = d * (x1 * x2 * y1 * y2)) (h : e * e = 1) : False := by
  have him := C.im
  simp only [On] at h1 h2
  have e1 : (i * x1 + e * y1) * (i * x1 + e * y1) = d * (x1 * y1 * (i * x2 + y2) * (x1 * y1 * (i * x2 + y2))) := by grind
  have e2 : (i * x1 - e * y1) * (i * x1 - e * y1) = d * (x1 * y1 * (i * x2 - y2) * (x1 * y1 * (i * x2 - y2))) := by grind
  have z1 := C.nsq _ _ e1
  have z2 := C.nsq _ _ e2
  have z3 : e + e = 0 := by grind
  have z4 := C.two e z3
  rw [z4] at h
  exact C.one (by grind)
theorem Crv.ne (C : Crv d i iv) {x1 y1 x2 y2 : Fin p} (h1 : On d (x1, y1)) (h2 : On d (x2, y2)) : 1 + d * (x1 * x2 * y1 * y2) ≠ 0 ∧ 1 - d * (x1 * x2 * y1 * y2) ≠ 0 :=
  ⟨fun h => C.full h1 h2 rfl (by grind), fun h => C.full h1 h2 rfl (by grind)⟩
/-- The sum of two points. -/
def pAdd (d : Fin p) (iv : Fin p → Fin p) (P Q : Fin p × Fin p) : Fin p × Fin p :=
  ((P.1 * Q.2 + P.2 * Q.1) * iv (1 + d * (P.1 * Q.1 * P.2 * Q.2)), (P.2 * Q.2 + P.1 * Q.1) * iv (1 - d * (P.1 * Q.1 * P.2 * Q.2)))
theorem pAdd_comm (P Q : Fin p × Fin p) : pAdd d iv P Q = pAdd d iv Q P := by
  obtain ⟨x1, y1⟩ := P
  obtain ⟨x2, y2⟩ := Q
  simp only [pAdd]
  have e1 : x1 * y2 + y1 * x2 = x2 * y1 + y2 * x1 := by grind
  have e2 : x1 * x2 * y1 * y2 = x2 * x1 * y2 * y1 := by grind
  have e3 : y1 * y2 + x1 * x2 = y2 * y1 + x2 * x1 := by grind
  rw [e1, e2, e3]
theorem Crv.on_add (C : Crv d i iv) {P Q : Fin p × Fin p} (h1 : On d P) (h2 : On d Q) : On d (pAdd d iv P Q) := by
  obtain ⟨x1, y1⟩ := P
  obtain ⟨x2, y2⟩ := Q
  have hn := C.ne h1 h2
  have hu := C.inv _ hn.1
  have hv := C.inv _ hn.2
  simp only [On, pAdd] at *
  generalize iv (1 + d * (x1 * x2 * y1 * y2)) = u at *
  generalize iv (1 - d * (x1 * x2 * y1 * y2)) = v at *
  have hid : ((y1*y2+x1*x2)*(1+d*(x1*x2*y1*y2)))^2 - ((x1*y2+y1*x2)*(1-d*(x1*x2*y1*y2)))^2 = ((1+d*(x1*x2*y1*y2))*(1-d*(x1*x2*y1*y2)))^2 + d*((y1*y2+x1*x2)*(x1*y2+y1*x2))^2 := by grind
  generalize d*(x1*x2*y1*y2) = e at *
  generalize y1*y2+x1*x2 = B at *
  generalize x1*y2+y1*x2 = A at *
  clear h1 h2 hn
  grind
/-- The zero and the opposite. -/
def pZero : Fin p × Fin p := (0, 1)
theorem on_zero : On d (pZero : Fin p × Fin p) := by simp only [On, pZero]; grind
theorem Crv.iv_one (C : Crv d i iv) : iv 1 = 1 := by have := C.inv 1 C.one; grind
theorem Crv.add_zero (C : Crv d i iv) (P : Fin p × Fin p) : pAdd d iv P pZero = P := by
  obtain ⟨x, y⟩ := P
  simp only [pAdd, pZero]
  have e1 : 1 + d * (x * 0 * y * 1) = 1 := by grind
  have e2 : 1 - d * (x * 0 * y * 1) = 1 := by grind
  rw [e1, e2, C.iv_one]
  have e3 : (x * 1 + y * 0) * 1 = x := by grind
  have e4 : (y * 1 + x * 0) * 1 = y := by grind
  rw [e3, e4]
theorem Crv.zero_add (C : Crv d i iv) (P : Fin p × Fin p) : pAdd d iv pZero P = P := by rw [pAdd_comm, C.add_zero]
end
end Go.Proofs.YtoblilngppjmhaaDoor
namespace Go.Proofs.YtoblilngppjmhaaDoor
set_option maxRecDepth 100000
set_option maxHeartbeats 4000000

section
variable {p : Nat} [NeZero p] {d i : Fin p} {iv : Fin p → Fin p}
theorem assocX (x1 y1 x2 y2 x3 y3 d : Fin p) (h1 : y1*y1 - x1*x1 = 1 + d*(x1*x1)*(y1*y1)) (h2 : y2*y2 - x2*x2 = 1 + d*(x2*x2)*(y2*y2)) (h3 : y3*y3 - x3*x3 = 1 + d*(x3*x3)*(y3*y3)) :
  ((x1*y2+y1*x2)*(1-d*(x1*x2*y1*y2))*y3 + (y1*y2+x1*x2)*(1+d*(x1*x2*y1*y2))*x3) * ((1+d*(x2*x3*y2*y3))*(1-d*(x2*x3*y2*y3)) + d*x1*y1*(x2*y3+y2*x3)*(y2*y3+x2*x3))
  = (x1*(y2*y3+x2*x3)*(1+d*(x2*x3*y2*y3)) + y1*(x2*y3+y2*x3)*(1-d*(x2*x3*y2*y3))) * ((1+d*(x1*x2*y1*y2))*(1-d*(x1*x2*y1*y2)) + d*(x1*y2+y1*x2)*(y1*y2+x1*x2)*x3*y3) := by grind
theorem assocY (x1 y1 x2 y2 x3 y3 d : Fin p) (h1 : y1*y1 - x1*x1 = 1 + d*(x1*x1)*(y1*y1)) (h2 : y2*y2 - x2*x2 = 1 + d*(x2*x2)*(y2*y2)) (h3 : y3*y3 - x3*x3 = 1 + d*(x3*x3)*(y3*y3)) :
  ((y1*y2+x1*x2)*(1+d*(x1*x2*y1*y2))*y3 + (x1*y2+y1*x2)*(1-d*(x1*x2*y1*y2))*x3) * ((1+d*(x2*x3*y2*y3))*(1-d*(x2*x3*y2*y3)) - d*x1*y1*(x2*y3+y2*x3)*(y2*y3+x2*x3))
  = (y1*(y2*y3+x2*x3)*(1+d*(x2*x3*y2*y3)) + x1*(x2*y3+y2*x3)*(1-d*(x2*x3*y2*y3))) * ((1+d*(x1*x2*y1*y2))*(1-d*(x1*x2*y1*y2)) - d*(x1*y2+y1*x2)*(y1*y2+x1*x2)*x3*y3) := by grind
/-- A fraction of fractions. -/
theorem frac {A B al be u v w x y s : Fin p} (hu : al * u = 1) (hv : be * v = 1) (hw : (1 + s * (A * u * x * (B * v) * y)) * w = 1) :
    (A * u * y + B * v * x) * w * (al * be + s * A * B * x * y) = A * be * y + B * al * x ∧ (al * be + s * A * B * x * y) * (u * v * w) = 1 := by
  constructor
  · grind
  · grind
theorem cancel {L R M N n1 n2 : Fin p} {a b : Fin p} (h1 : L * M = a) (h2 : R * N = b) (n1h : M * n1 = 1) (n2h : N * n2 = 1) (h : a * N = b * M) : L = R := by grind
theorem perm1 (x a y b : Fin p) : x * a * y * b = a * x * b * y := by grind
theorem perm2 (d a x b y w : Fin p) (h : (1 - d * (a * x * b * y)) * w = 1) : (1 + (0 - d) * (b * x * a * y)) * w = 1 := by grind
theorem Crv.assoc (C : Crv d i iv) {P Q R : Fin p × Fin p} (h1 : On d P) (h2 : On d Q) (h3 : On d R) : pAdd d iv (pAdd d iv P Q) R = pAdd d iv P (pAdd d iv Q R) := by
  have g12 := C.on_add h1 h2
  have g23 := C.on_add h2 h3
  obtain ⟨x1, y1⟩ := P
  obtain ⟨x2, y2⟩ := Q
  obtain ⟨x3, y3⟩ := R
  have n12 := C.ne h1 h2
  have n23 := C.ne h2 h3
  have nL := C.ne g12 h3
  have nR := C.ne h1 g23
  have u12 := C.inv _ n12.1
  have v12 := C.inv _ n12.2
  have u23 := C.inv _ n23.1
  have v23 := C.inv _ n23.2
  have uL := C.inv _ nL.1
  have vL := C.inv _ nL.2
  have uR := C.inv _ nR.1
  have vR := C.inv _ nR.2
  have aX := assocX x1 y1 x2 y2 x3 y3 d h1 h2 h3
  have aY := assocY x1 y1 x2 y2 x3 y3 d h1 h2 h3
  simp only [pAdd] at uL vL uR vR ⊢
  clear g12 g23 nL nR n12 n23 h1 h2 h3
  generalize iv (1 + d * (x1 * x2 * y1 * y2)) = u at *
  generalize iv (1 - d * (x1 * x2 * y1 * y2)) = v at *
  generalize iv (1 + d * (x2 * x3 * y2 * y3)) = u' at *
  generalize iv (1 - d * (x2 * x3 * y2 * y3)) = v' at *
  generalize 1 + d * (x1 * x2 * y1 * y2) = al at *
  generalize 1 - d * (x1 * x2 * y1 * y2) = be at *
  generalize 1 + d * (x2 * x3 * y2 * y3) = al' at *
  generalize 1 - d * (x2 * x3 * y2 * y3) = be' at *
  generalize x1 * y2 + y1 * x2 = A at *
  generalize y1 * y2 + x1 * x2 = B at *
  generalize x2 * y3 + y2 * x3 = A' at *
  generalize y2 * y3 + x2 * x3 = B' at *
  generalize iv (1 + d * (A * u * x3 * (B * v) * y3)) = wL at *
  generalize iv (1 - d * (A * u * x3 * (B * v) * y3)) = zL at *
  generalize iv (1 + d * (x1 * (A' * u') * y1 * (B' * v'))) = wR at *
  generalize iv (1 - d * (x1 * (A' * u') * y1 * (B' * v'))) = zR at *
  have f1 := frac (s := d) (x := x3) (y := y3) (w := wL) u12 v12 uL
  have f2 := frac (s := d) (x := x1) (y := y1) (w := wR) (A := A') (B := B') u23 v23 (by rw [← perm1]; exact uR)
  have f3 := frac (s := 0 - d) (x := x3) (y := y3) (w := zL) (A := B) (B := A) v12 u12 (perm2 _ _ _ _ _ _ vL)
  have f4 := frac (s := 0 - d) (x := x1) (y := y1) (w := zR) (A := B') (B := A') v23 u23 (perm2 _ _ _ _ _ _ (by rw [← perm1]; exact vR))
  have eX : (A * u * y3 + B * v * x3) * wL = (x1 * (B' * v') + y1 * (A' * u')) * wR := by
    refine cancel f1.1 (b := x1 * B' * al' + y1 * A' * be') (N := al' * be' + d * A' * B' * x1 * y1) ?_ f1.2 f2.2 ?_
    · have := f2.1
      clear aX aY f1 f2 f3 f4
      grind
    · clear f1 f2 f3 f4 uL vL uR vR u12 v12 u23 v23 aY
      grind
  have eY : (B * v * y3 + A * u * x3) * zL = (y1 * (B' * v') + x1 * (A' * u')) * zR := by
    refine cancel f3.1 (b := y1 * B' * al' + x1 * A' * be') (N := be' * al' + (0 - d) * B' * A' * x1 * y1) ?_ f3.2 f4.2 ?_
    · have := f4.1
      clear aX aY f1 f2 f3 f4
      grind
    · clear f1 f2 f3 f4 uL vL uR vR u12 v12 u23 v23 aX
      grind
  rw [eX, eY]
end
end Go.Proofs.YtoblilngppjmhaaDoor
namespace Go.Proofs.YtoblilngppjmhaaDoor
set_option maxRecDepth 100000
set_option maxHeartbeats 4000000

section
variable {p : Nat} [NeZero p] {d i : Fin p} {iv : Fin p → Fin p}
/-- So many times a point. -/
def pMul (d : Fin p) (iv : Fin p → Fin p) : Nat → Fin p × Fin p → Fin p × Fin p
  | 0, _ => pZero
  | n + 1, P => pAdd d iv (pMul d iv n P) P
theorem Crv.on_mul (C : Crv d i iv) {P : Fin p × Fin p} (h : On d P) : ∀ n, On d (pMul d iv n P)
  | 0 => on_zero
  | n + 1 => C.on_add (C.on_mul h n) h
theorem Crv.mul_add (C : Crv d i iv) {P : Fin p × Fin p} (h : On d P) (m : Nat) : ∀ n, pMul d iv (m + n) P = pAdd d iv (pMul d iv m P) (pMul d iv n P)
  | 0 => (C.add_zero _).symm
  | n + 1 => by
    show pAdd d iv (pMul d iv (m + n) P) P = pAdd d iv (pMul d iv m P) (pAdd d iv (pMul d iv n P) P)
    rw [C.mul_add h m n, C.assoc (C.on_mul h m) (C.on_mul h n) h]
theorem Crv.mul_one (C : Crv d i iv) (P : Fin p × Fin p) : pMul d iv 1 P = P := C.zero_add P
/-- One step of doubling and adding. -/
theorem Crv.mul_bit (C : Crv d i iv) {P : Fin p × Fin p} (h : On d P) (N j : Nat) :
    pMul d iv (N / 2 ^ j) P = (if N / 2 ^ j % 2 = 1 then pAdd d iv (pAdd d iv (pMul d iv (N / 2 ^ (j + 1)) P) (pMul d iv (N / 2 ^ (j + 1)) P)) P else pAdd d iv (pMul d iv (N / 2 ^ (j + 1)) P) (pMul d iv (N / 2 ^ (j + 1)) P)) := by
  have e : N / 2 ^ (j + 1) = N / 2 ^ j / 2 := by rw [Nat.pow_succ, Nat.div_div_eq_div_mul]
  rw [e, ← C.mul_add h]
  split
  · rename_i h1
    show _ = pMul d iv (N / 2 ^ j / 2 + N / 2 ^ j / 2 + 1) P
    congr 1
    omega
  · congr 1
    omega
/-- Four numbers that stand for a point: x is a/c, y is b/c, x y is t/c. -/
structure Ext (a b c t : Fin p) (P : Fin p × Fin p) : Prop where
  ha : a = P.1 * c
  hb : b = P.2 * c
  ht : t = P.1 * P.2 * c
  hc : c ≠ 0
theorem Crv.nz_mul (C : Crv d i iv) {a b : Fin p} (ha : a ≠ 0) (hb : b ≠ 0) : a * b ≠ 0 := fun h => by
  have h1 := C.inv a ha
  have h2 := C.inv b hb
  exact C.one (by grind)
theorem Crv.two_ne (C : Crv d i iv) : (1 : Fin p) + 1 ≠ 0 := fun h => C.one (C.two 1 h)
theorem Ext.make (C : Crv d i iv) (x y : Fin p) : Ext x y 1 (x * y) (x, y) := ⟨by grind, by grind, by grind, C.one⟩
theorem Ext.flat (C : Crv d i iv) {a b c t : Fin p} {P : Fin p × Fin p} (h : Ext a b c t P) : a * iv c = P.1 ∧ b * iv c = P.2 := by
  have hi := C.inv c h.hc
  have h1 := h.ha
  have h2 := h.hb
  constructor <;> grind
theorem extG (x1 y1 c1 x2 y2 c2 d : Fin p) : c1 * (c2 + c2) - x1 * y1 * c1 * (x2 * y2 * c2) * (d + d) = c1 * c2 * (1 + 1) * (1 - d * (x1 * x2 * y1 * y2)) := by grind
theorem extH (x1 y1 c1 x2 y2 c2 d : Fin p) : c1 * (c2 + c2) + x1 * y1 * c1 * (x2 * y2 * c2) * (d + d) = c1 * c2 * (1 + 1) * (1 + d * (x1 * x2 * y1 * y2)) := by grind
theorem extF (x1 y1 c1 x2 y2 c2 : Fin p) : (y1 * c1 + x1 * c1) * (y2 * c2 + x2 * c2) - (y1 * c1 - x1 * c1) * (y2 * c2 - x2 * c2) = c1 * c2 * (1 + 1) * (x1 * y2 + y1 * x2) := by grind
theorem extK (x1 y1 c1 x2 y2 c2 : Fin p) : (y1 * c1 + x1 * c1) * (y2 * c2 + x2 * c2) + (y1 * c1 - x1 * c1) * (y2 * c2 - x2 * c2) = c1 * c2 * (1 + 1) * (y1 * y2 + x1 * x2) := by grind
theorem ext1 {g u : Fin p} (hu : g * u = 1) (k a f : Fin p) : k * a * (k * f) = a * u * (k * f * (k * g)) := by grind
theorem ext2 {f v : Fin p} (hv : f * v = 1) (k b g : Fin p) : k * g * (k * b) = b * v * (k * f * (k * g)) := by grind
theorem ext3 {f g u v : Fin p} (hu : g * u = 1) (hv : f * v = 1) (k a b : Fin p) : k * a * (k * b) = a * u * (b * v) * (k * f * (k * g)) := by grind
/-- The sum in the long form. -/
theorem Ext.add (C : Crv d i iv) {a1 b1 c1 t1 a2 b2 c2 t2 : Fin p} {P Q : Fin p × Fin p} (h1 : Ext a1 b1 c1 t1 P) (h2 : Ext a2 b2 c2 t2 Q) (o1 : On d P) (o2 : On d Q)
    {A B D E F G H K : Fin p} (hA : A = (b1 - a1) * (b2 - a2)) (hB : B = (b1 + a1) * (b2 + a2)) (hD : D = t1 * t2 * (d + d)) (hE : E = c1 * (c2 + c2))
    (hF : F = B - A) (hG : G = E - D) (hH : H = E + D) (hK : K = B + A) : Ext (F * G) (H * K) (G * H) (F * K) (pAdd d iv P Q) := by
  obtain ⟨x1, y1⟩ := P
  obtain ⟨x2, y2⟩ := Q
  have hn := C.ne o1 o2
  have hu := C.inv _ hn.1
  have hv := C.inv _ hn.2
  obtain ⟨q1, q2, q3, q4⟩ := h1
  obtain ⟨r1, r2, r3, r4⟩ := h2
  simp only at q1 q2 q3 r1 r2 r3
  have hG' : G = c1 * c2 * (1 + 1) * (1 - d * (x1 * x2 * y1 * y2)) := by rw [hG, hE, hD, q3, r3]; exact extG ..
  have hH' : H = c1 * c2 * (1 + 1) * (1 + d * (x1 * x2 * y1 * y2)) := by rw [hH, hE, hD, q3, r3]; exact extH ..
  have hF' : F = c1 * c2 * (1 + 1) * (x1 * y2 + y1 * x2) := by rw [hF, hB, hA, q1, q2, r1, r2]; exact extF ..
  have hK' : K = c1 * c2 * (1 + 1) * (y1 * y2 + x1 * x2) := by rw [hK, hB, hA, q1, q2, r1, r2]; exact extK ..
  have hcc : c1 * c2 * (1 + 1) ≠ 0 := C.nz_mul (C.nz_mul q4 r4) C.two_ne
  have hz : G * H ≠ 0 := by
    rw [hG', hH']
    exact C.nz_mul (C.nz_mul hcc hn.2) (C.nz_mul hcc hn.1)
  clear hA hB hD hE hF hG hH hK q1 q2 q3 r1 r2 r3 hn o1 o2
  simp only [pAdd]
  generalize iv (1 + d * (x1 * x2 * y1 * y2)) = u at *
  generalize iv (1 - d * (x1 * x2 * y1 * y2)) = v at *
  refine ⟨?_, ?_, ?_, hz⟩
  · rw [hF', hG', hH']; exact ext1 hu _ _ _
  · rw [hK', hG', hH']; exact ext2 hv _ _ _
  · rw [hF', hK', hG', hH']; exact ext3 hu hv _ _ _
end
end Go.Proofs.YtoblilngppjmhaaDoor
