/-
  What is proved here: plain mathematics of a twisted Edwards curve: its sum may be bracketed as one likes; no program is spoken of; plain mathematics of a twisted Edwards curve: so many times a point, by doubling and adding; the long form of a point; no program is spoken of; a point in the long form as the specification keeps it in memory: how it is built and read; what it makes of points, as plain functions; what a variable of the program holds stays through stores elsewhere; plain facts on memory; contracts of the specification's l6d, l6make, l6zero and l6base; the contract of the specification's l6add: the sum of two points in the long form; contracts of the specification's l6flat; plain facts on memory.
-/
import Derived.Test.YtoblilngppjmhaaZFsc
import Derived.Test.YtoblilngppjmhaaZKit
import Derived.Deep.CutRange
import Derived.Test.YtoblilngppjmhaaZFc
namespace Go.Proofs.Ytoblilngppjmhaa
set_option maxRecDepth 100000
set_option maxHeartbeats 4000000

section
variable {p : Nat} [NeZero p] {d i : Fin p} {iv : Fin p → Fin p}
theorem assocX (x1 y1 x2 y2 x3 y3 d : Fin p) (h1 : y1*y1 - x1*x1 = 1 + d*(x1*x1)*(y1*y1)) (h2 : y2*y2 - x2*x2 = 1 + d*(x2*x2)*(y2*y2)) (h3 : y3*y3 - x3*x3 = 1 + d*(x3*x3)*(y3*y3)) :
  ((x1*y2+y1*x2)*(1-d*(x1*x2*y1*y2))*y3 + (y1*y2+x1*x2)*(1+d*(x1*x2*y1*y2))*x3) * ((1+d*(x2*x3*y2*y3))*(1-d*(x2*x3*y2*y3)) + d*x1*y1*(x2*y3+y2*x3)*(y2*y3+x2*x3))
  = (x1*(y2*y3+x2*x3)*(1+d*(x2*x3*y2*y3)) + y1*(x2*y3+y2*x3)*(1-d*(x2*x3*y2*y3))) * ((1+d*(x1*x2*y1*y2))*(1-d*(x1*x2*y1*y2)) + d*(x1*y2+y1*x2)*(y1*y2+x1*x2)*x3*y3) := by grind
theorem assocY (x1 y1 x2 y2 x3 y3 d : Fin p) (h1 : y1*y1 - x1*x1 = 1 + d*(x1*x1)*(y1*y1)) (h2 : y2*y2 - x2*x2 = 1 + d*(x2*x2)*(y2*y2)) (h3 : y3*y3 - x3*x3 = 1 + d*(x3*x3)*(y3*y3)) :
  ((y1*y2+x1*x2)*(1+d*(x1*x2*y1*y2))*y3 + (x1*y2+y1*x2)*(1-d*(x1*x2*y1*y2))*x3) * ((1+d*(x2*x3*y2*y3))*(1-d*(x2*x3*y2*y3)) - d*x1*y1*(x2*y3+y2*x3)*(y2*y3+x2*x3))
  = (y1*(y2*y3+x2*x3)*(1+d*(x2*x3*y2*y3)) + x1*(x2*y3+y2*x3)*(1-d*(x2*x3*y2*y3))) * ((1+d*(x1*x2*y1*y2))*(1-d*(x1*x2*y1*y2)) - d*(x1*y2+y1*x2)*(y1*y2+x1*x2)*x3*y3) := by grind
/-- A fraction of fractions. -/
theorem frac {A B al be u v w x y s : Fin p} (hu : al * u = 1) (hv : be * v = 1) (hw : (1 + s * (A * u * x * (B * v) * y)) * w = 1) :
    (A * u * y + B * v * x) * w * (al * be + s * A * B * x * y) = A * be * y + B * al * x ∧ (al * be + s * A * B * x * y) * (u * v * w) = 1 := by
  constructor
  · grind
  · grind
theorem cancel {L R M N n1 n2 : Fin p} {a b : Fin p} (h1 : L * M = a) (h2 : R * N = b) (n1h : M * n1 = 1) (n2h : N * n2 = 1) (h : a * N = b * M) : L = R := by grind
theorem perm1 (x a y b : Fin p) : x * a * y * b = a * x * b * y := by grind
theorem perm2 (d a x b y w : Fin p) (h : (1 - d * (a * x * b * y)) * w = 1) : (1 + (0 - d) * (b * x * a * y)) * w = 1 := by grind
theorem Crv.assoc (C : Crv d i iv) {P Q R : Fin p × Fin p} (h1 : On d P) (h2 : On d Q) (h3 : On d R) : pAdd d iv (pAdd d iv P Q) R = pAdd d iv P (pAdd d iv Q R) := by
  have g12 := C.on_add h1 h2
  have g23 := C.on_add h2 h3
  obtain ⟨x1, y1⟩ := P
  obtain ⟨x2, y2⟩ := Q
  obtain ⟨x3, y3⟩ := R
  have n12 := C.ne h1 h2
  have n23 := C.ne h2 h3
  have nL := C.ne g12 h3
  have nR := C.ne h1 g23
  have u12 := C.inv _ n12.1
  have v12 := C.inv _ n12.2
  have u23 := C.inv _ n23.1
  have v23 := C.inv _ n23.2
  have uL := C.inv _ nL.1
  have vL := C.inv _ nL.2
  have uR := C.inv _ nR.1
  have vR := C.inv _ nR.2
  have aX := assocX x1 y1 x2 y2 x3 y3 d h1 h2 h3
  have aY := assocY x1 y1 x2 y2 x3 y3 d h1 h2 h3
  simp only [pAdd] at uL vL uR vR ⊢
  clear g12 g23 nL nR n12 n23 h1 h2 h3
  generalize iv (1 + d * (x1 * x2 * y1 * y2)) = u at *
  generalize iv (1 - d * (x1 * x2 * y1 * y2)) = v at *
  generalize iv (1 + d * (x2 * x3 * y2 * y3)) = u' at *
  generalize iv (1 - d * (x2 * x3 * y2 * y3)) = v' at *
  generalize 1 + d * (x1 * x2 * y1 * y2) = al at *
  generalize 1 - d * (x1 * x2 * y1 * y2) = be at *
  generalize 1 + d * (x2 * x3 * y2 * y3) = al' at *
  generalize 1 - d * (x2 * x3 * y2 * y3) = be' at *
  generalize x1 * y2 + y1 * x2 = A at *
  generalize y1 * y2 + x1 * x2 = B at *
  generalize x2 * y3 + y2 * x3 = A' at *
  generalize y2 * y3 + x2 * x3 = B' at *
  generalize iv (1 + d * (A * u * x3 * (B * v) * y3)) = wL at *
  generalize iv (1 - d * (A * u * x3 * (B * v) * y3)) = zL at *
  generalize iv (1 + d * (x1 * (A' * u') * y1 * (B' * v'))) = wR at *
  generalize iv (1 - d * (x1 * (A' * u') * y1 * (B' * v'))) = zR at *
  have f1 := frac (s := d) (x := x3) (y := y3) (w := wL) u12 v12 uL
  have f2 := frac (s := d) (x := x1) (y := y1) (w := wR) (A := A') (B := B') u23 v23 (by rw [← perm1]; exact uR)
  have f3 := frac (s := 0 - d) (x := x3) (y := y3) (w := zL) (A := B) (B := A) v12 u12 (perm2 _ _ _ _ _ _ vL)
  have f4 := frac (s := 0 - d) (x := x1) (y := y1) (w := zR) (A := B') (B := A') v23 u23 (perm2 _ _ _ _ _ _ (by rw [← perm1]; exact vR))
  have eX : (A * u * y3 + B * v * x3) * wL = (x1 * (B' * v') + y1 * (A' * u')) * wR := by
    refine cancel f1.1 (b := x1 * B' * al' + y1 * A' * be') (N := al' * be' + d * A' * B' * x1 * y1) ?_ f1.2 f2.2 ?_
    · have := f2.1
      clear aX aY f1 f2 f3 f4
      grind
    · clear f1 f2 f3 f4 uL vL uR vR u12 v12 u23 v23 aY
      grind
  have eY : (B * v * y3 + A * u * x3) * zL = (y1 * (B' * v') + x1 * (A' * u')) * zR := by
    refine cancel f3.1 (b := y1 * B' * al' + x1 * A' * be') (N := be' * al' + (0 - d) * B' * A' * x1 * y1) ?_ f3.2 f4.2 ?_
    · have := f4.1
      clear aX aY f1 f2 f3 f4
      grind
    · clear f1 f2 f3 f4 uL vL uR vR u12 v12 u23 v23 aX
      grind
  rw [eX, eY]
end
end Go.Proofs.Ytoblilngppjmhaa
namespace Go.Proofs.Ytoblilngppjmhaa
set_option maxRecDepth 100000
set_option maxHeartbeats 4000000

section
variable {p : Nat} [NeZero p] {d i : Fin p} {iv : Fin p → Fin p}
/-- So many times a point. -/
def pMul (d : Fin p) (iv : Fin p → Fin p) : Nat → Fin p × Fin p → Fin p × Fin p
  | 0, _ => pZero
  | n + 1, P => pAdd d iv (pMul d iv n P) P
theorem Crv.on_mul (C : Crv d i iv) {P : Fin p × Fin p} (h : On d P) : ∀ n, On d (pMul d iv n P)
  | 0 => on_zero
  | n + 1 => C.on_add (C.on_mul h n) h
theorem Crv.mul_add (C : Crv d i iv) {P : Fin p × Fin p} (h : On d P) (m : Nat) : ∀ n, pMul d iv (m + n) P = pAdd d iv (pMul d iv m P) (pMul d iv n P)
  | 0 => (C.add_zero _).symm
  | n + 1 => by
    show pAdd d iv (pMul d iv (m + n) P) P = pAdd d iv (pMul d iv m P) (pAdd d iv (pMul d iv n P) P)
    rw [C.mul_add h m n, C.assoc (C.on_mul h m) (C.on_mul h n) h]
theorem Crv.mul_one (C : Crv d i iv) (P : Fin p × Fin p) : pMul d iv 1 P = P := C.zero_add P
/-- Four numbers that stand for a point: x is a/c, y is b/c, x y is t/c. -/
structure Ext (a b c t : Fin p) (P : Fin p × Fin p) : Prop where
  ha : a = P.1 * c
  hb : b = P.2 * c
  ht : t = P.1 * P.2 * c
  hc : c ≠ 0
theorem Crv.nz_mul (C : Crv d i iv) {a b : Fin p} (ha : a ≠ 0) (hb : b ≠ 0) : a * b ≠ 0 := fun h => by
  have h1 := C.inv a ha
  have h2 := C.inv b hb
  exact C.one (by grind)
theorem Ext.make (C : Crv d i iv) (x y : Fin p) : Ext x y 1 (x * y) (x, y) := ⟨by grind, by grind, by grind, C.one⟩
theorem Ext.flat (C : Crv d i iv) {a b c t : Fin p} {P : Fin p × Fin p} (h : Ext a b c t P) : a * iv c = P.1 ∧ b * iv c = P.2 := by
  have hi := C.inv c h.hc
  have h1 := h.ha
  have h2 := h.hb
  constructor <;> grind
theorem ext1 {g u : Fin p} (hu : g * u = 1) (k a f : Fin p) : k * a * (k * f) = a * u * (k * f * (k * g)) := by grind
theorem ext3 {f g u v : Fin p} (hu : g * u = 1) (hv : f * v = 1) (k a b : Fin p) : k * a * (k * b) = a * u * (b * v) * (k * f * (k * g)) := by grind
end
end Go.Proofs.Ytoblilngppjmhaa
namespace Go.Proofs.Ytoblilngppjmhaa
open Go.RowKit
set_option maxRecDepth 100000
set_option maxHeartbeats 4000000

/-- The four numbers of a point in the long form. -/
structure E4 where
  a : List Int
  b : List Int
  c : List Int
  t : List Int
/-- As they lie in memory. -/
def E4.cells (P : E4) : List Int := P.a ++ P.b ++ P.c ++ P.t
/-- All four are numbers of the field. -/
structure E4.Ok (P : E4) : Prop where
  a : feOk P.a = true
  b : feOk P.b = true
  c : feOk P.c = true
  t : feOk P.t = true
theorem feOk_len {l : List Int} (h : feOk l = true) : l.length = 16 := ((feOk_iff l).1 h).1
theorem feOk_lm' {l : List Int} (h : feOk l = true) : Lm l := ((feOk_iff l).1 h).2.1
theorem E4.len {P : E4} (h : P.Ok) : P.cells.length = 64 := by
  unfold E4.cells
  simp [feOk_len h.a, feOk_len h.b, feOk_len h.c, feOk_len h.t]
theorem infoP6 : (Try.prog.info? 35).map (·.size) = some 64 := by kernel_rfl
theorem build_p6 {a b c t : List Int} (ha : a.length = 16) (hb : b.length = 16) (hc : c.length = 16) (ht : t.length = 16) (w : World) : (Instr.build 35 #[(0, .agg (I64 a).toArray), (1, .agg (I64 b).toArray), (2, .agg (I64 c).toArray), (3, .agg (I64 t).toArray)]).run Try.prog w = .ok (.agg (I64 (a ++ b ++ c ++ t)).toArray) w := by
  obtain ⟨a0, a1, a2, a3, a4, a5, a6, a7, a8, a9, a10, a11, a12, a13, a14, a15, rfl⟩ := list16 ha
  obtain ⟨b0, b1, b2, b3, b4, b5, b6, b7, b8, b9, b10, b11, b12, b13, b14, b15, rfl⟩ := list16 hb
  obtain ⟨c0, c1, c2, c3, c4, c5, c6, c7, c8, c9, c10, c11, c12, c13, c14, c15, rfl⟩ := list16 hc
  obtain ⟨t0, t1, t2, t3, t4, t5, t6, t7, t8, t9, t10, t11, t12, t13, t14, t15, rfl⟩ := list16 ht
  kernel_rfl
theorem yieldsIf_p6 {ops : Array Oper} {S : World → Prop} {op : Oper} {act : Act} (hw : Region.wanted op (yielded ops act.tmps) = true) (x y z u : Operand) (ho : op.op = .build 35 #[(0, x), (1, y), (2, z), (3, u)]) (P : E4) (hP : P.Ok)
    (hx : act.eval x = .agg (I64 P.a).toArray) (hy : act.eval y = .agg (I64 P.b).toArray) (hz : act.eval z = .agg (I64 P.c).toArray) (hu : act.eval u = .agg (I64 P.t).toArray) : YieldsIf Try.prog ops S op (.agg (I64 P.cells).toArray) act :=
  .inl ⟨hw, fun w _ => by
    unfold execOp
    simp only [ho, hx, hy, hz, hu, Sem.run_bind, List.map_toArray, List.map_cons, List.map_nil, build_p6 (feOk_len hP.a) (feOk_len hP.b) (feOk_len hP.c) (feOk_len hP.t) w, Sem.run_pure, Result.andThen_ok]
    rfl⟩
/-- A part of a row. -/
theorem range_part {W : World} {g : Nat} {t : TypeId} {p q r : List Int} {n : Nat} (h : Arr W g t (I64 (p ++ q ++ r))) (hp : p.length = n) : W.rangeAt g n (I64 q) := by
  intro j v hj
  rw [h.cell (n + j)]
  have hjl := (List.getElem?_eq_some_iff.1 hj).1
  simp only [List.length_map] at hjl
  simp only [I64, List.map_append]
  rw [List.append_assoc, List.getElem?_append_right (by simp [hp]), List.length_map, hp, Nat.add_sub_cancel_left, List.getElem?_append_left (by simpa using hjl)]
  exact hj
theorem E4.ra {W : World} {g : Nat} {t : TypeId} {P : E4} (h : Arr W g t (I64 P.cells)) : W.rangeAt g 0 (I64 P.a) :=
  range_part (p := []) (q := P.a) (r := P.b ++ P.c ++ P.t) (by simpa [E4.cells] using h) rfl
theorem E4.rb {W : World} {g : Nat} {t : TypeId} {P : E4} (hP : P.Ok) (h : Arr W g t (I64 P.cells)) : W.rangeAt g 16 (I64 P.b) :=
  range_part (p := P.a) (q := P.b) (r := P.c ++ P.t) (by simpa [E4.cells] using h) (feOk_len hP.a)
theorem E4.rc {W : World} {g : Nat} {t : TypeId} {P : E4} (hP : P.Ok) (h : Arr W g t (I64 P.cells)) : W.rangeAt g 32 (I64 P.c) :=
  range_part (p := P.a ++ P.b) (q := P.c) (r := P.t) (by simpa [E4.cells] using h) (by simp [feOk_len hP.a, feOk_len hP.b])
/-- What the specification makes of two numbers, and of two points. -/
def mk6 (x y : List Int) : E4 := ⟨x, y, lim 16 1, red (val x * val y)⟩
theorem ok_red (v : Int) : feOk (red v) = true := (feOk_iff _).2 ⟨red_len v, red_lm v, by rw [val_red]; exact (red_lt v).2⟩
theorem one_ok : feOk (lim 16 1) = true := by decide
theorem zero_ok : feOk (lim 16 0) = true := by decide
theorem mk6_ok {x y : List Int} (hx : feOk x = true) (hy : feOk y = true) : (mk6 x y).Ok := ⟨hx, hy, one_ok, ok_red _⟩
def flx (P : E4) : List Int := red (val P.a * val (invF P.c))
def fly (P : E4) : List Int := red (val P.b * val (invF P.c))
end Go.Proofs.Ytoblilngppjmhaa
namespace Go.Proofs.Ytoblilngppjmhaa
open Go.RowKit
set_option maxRecDepth 100000

theorem vr_range {W : World} {g : Nat} {cs : List Value} (h : Vr W g cs) : W.rangeAt g 0 cs := by
  intro j v hj
  rw [Nat.zero_add, h.cell j]
  exact hj
theorem one_lm (l : List Int) : ∀ v ∈ I64 l, v.oneCell' = true := by
  intro v hv
  obtain ⟨x, _, rfl⟩ := List.mem_map.1 hv
  rfl
theorem Vr.setCellsO {g k : Nat} {cs : List Value} (hne : k ≠ g) {vs : List Value} {w : World} {j : Nat} (h : Vr w k cs) : Vr (w.setCells g j vs) k cs := by
  obtain ⟨t, z, h⟩ := h
  refine ⟨t, z, ?_⟩
  induction vs generalizing w j with
  | nil => exact h
  | cons v vs ih => exact ih (by rw [heap_setCell_other _ _ _ _ hne]; exact h)
theorem Vr.rowOther {w : World} {g k : Nat} {cs : List Value} (h : Vr w g cs) (ds : Array Value) (hne : g ≠ k) : Vr (w.setRow k ds) g cs := by
  obtain ⟨t, z, h⟩ := h
  exact ⟨t, z, (setRow_other w k g ds hne).trans h⟩
theorem Vr.other {w : World} {g : Nat} {cs : List Value} (h : Vr w g cs) (p : Addr) (v : Value) (hne : g ≠ p.block) : Vr (w.setCell p v) g cs := by
  obtain ⟨t, z, h⟩ := h
  exact ⟨t, z, (heap_setCell_other w p g v hne).trans h⟩
end Go.Proofs.Ytoblilngppjmhaa
namespace Go.Proofs.Ytoblilngppjmhaa
open Go.RowKit
set_option maxRecDepth 100000

abbrev Z64 : List Int := Z16 ++ Z16 ++ Z16 ++ Z16
theorem bel_sc {n : Nat} {w W : World} (h : Below n w W) (X : Nat) (vs : List Value) (hX : n ≤ X) : Below n w (W.setCells X 0 vs) := setCells_below hX _ _ h
theorem Arr.sc {W : World} {k : Nat} {t : TypeId} {cs : List Value} (h : Arr W k t cs) (X : Nat) (vs : List Value) (hne : k ≠ X) : Arr (W.setCells X 0 vs) k t cs := Arr.setCellsO hne _ _ h
theorem Arr.sc0 {W : World} {k : Nat} {t : TypeId} {cs : List Value} (h : Arr W k t cs) (vs : List Value) (hl : cs.length = vs.length) : Arr (W.setCells k 0 vs) k t vs := Arr.setCells0 h hl
theorem Vr.sc {W : World} {k : Nat} {cs : List Value} (h : Vr W k cs) (X : Nat) (vs : List Value) (hne : k ≠ X) : Vr (W.setCells X 0 vs) k cs := Vr.setCellsO hne h
/-- A number is laid into a new cell. -/
theorem laid_e (w1 : World) (L : List Int) : Below w1.heap.size w1 ((w1.alloc (.cells #[.int .i64 0, .int .i64 0, .int .i64 0, .int .i64 0, .int .i64 0, .int .i64 0, .int .i64 0, .int .i64 0, .int .i64 0, .int .i64 0, .int .i64 0, .int .i64 0, .int .i64 0, .int .i64 0, .int .i64 0, .int .i64 0] 33)).setRow w1.heap.size (I64 L).toArray) ∧ Arr ((w1.alloc (.cells #[.int .i64 0, .int .i64 0, .int .i64 0, .int .i64 0, .int .i64 0, .int .i64 0, .int .i64 0, .int .i64 0, .int .i64 0, .int .i64 0, .int .i64 0, .int .i64 0, .int .i64 0, .int .i64 0, .int .i64 0, .int .i64 0] 33)).setRow w1.heap.size (I64 L).toArray) w1.heap.size 33 (I64 L) ∧ Arr (w1.alloc (.cells #[.int .i64 0, .int .i64 0, .int .i64 0, .int .i64 0, .int .i64 0, .int .i64 0, .int .i64 0, .int .i64 0, .int .i64 0, .int .i64 0, .int .i64 0, .int .i64 0, .int .i64 0, .int .i64 0, .int .i64 0, .int .i64 0] 33)) w1.heap.size 33 (I64 Z16) := by
  have q : Arr (w1.alloc (.cells #[.int .i64 0, .int .i64 0, .int .i64 0, .int .i64 0, .int .i64 0, .int .i64 0, .int .i64 0, .int .i64 0, .int .i64 0, .int .i64 0, .int .i64 0, .int .i64 0, .int .i64 0, .int .i64 0, .int .i64 0, .int .i64 0] 33)) w1.heap.size 33 (I64 Z16) := Arr.new w1 (I64 Z16) _
  exact ⟨setRow_below ((Below.refl _ _).alloc (Nat.le_refl _) _) _ _ (Nat.le_refl _), q.row _, q⟩
theorem infoE' {l : List Int} (h : feOk l = true) : (Try.prog.info? 33).map (·.size) = some (I64 l).toArray.size := by simpa [feOk_len h] using infoE
theorem infoEl {l : List Int} (h : feOk l = true) : (Try.prog.info? 33).map (·.size) = some (I64 l).length := by simpa [feOk_len h] using infoE
theorem infoP' {P : E4} (h : P.Ok) : (Try.prog.info? 35).map (·.size) = some (I64 P.cells).toArray.size := by simpa [E4.len h] using infoP6

set_option maxHeartbeats 2000000 in
theorem spec6make (x y : List Int) (w : World) (hx : feOk x = true) (hy : feOk y = true) :
    Calls Try.prog 17 #[.agg (I64 x).toArray, .agg (I64 y).toArray] w fun e w' => e = .returned (.agg (I64 (mk6 x y).cells).toArray) ∧ Below w.heap.size w w' := by
  have hP := mk6_ok hx hy
  have hPl := E4.len hP
  obtain ⟨P, hPe⟩ : ∃ P, P = mk6 x y := ⟨_, rfl⟩
  have p1 : P.a = x := by rw [hPe]; rfl
  have p2 : P.b = y := by rw [hPe]; rfl
  have p3 : lim 16 1 = P.c := by rw [hPe]; rfl
  have p4 : red (val x * val y) = P.t := by rw [hPe]; rfl
  have HS : Hid (∀ Z, Calls Try.prog 18 #[.int .i64 1] Z fun e w' => e = .returned (.agg (I64 P.c).toArray) ∧ Below Z.heap.size Z w') := by
    unfold Hid; intro Z; rw [← p3]; exact specSmall 1 Z (by omega) (by omega)
  have HM : Hid (∀ Z, Calls Try.prog 24 #[.agg (I64 x).toArray, .agg (I64 y).toArray] Z fun e w' => e = .returned (.agg (I64 P.t).toArray) ∧ Below Z.heap.size Z w') := by
    unfold Hid; intro Z; rw [← p4]; exact specMul16 x y Z (feOk_len hx) (feOk_len hy) (feOk_lm' hx) (feOk_lm' hy)
  rw [← hPe] at hP hPl ⊢
  have hix := infoEl hx
  have hiy := infoEl hy
  have hip := infoP' hP
  have hone := one_lm P.cells
  have hu : Try.prog.underlying 33 = some (.array 16 3) := Try.underlying33
  obtain ⟨A, hA⟩ : ∃ A, A = (I64 x).toArray := ⟨_, rfl⟩
  obtain ⟨B, hB⟩ : ∃ B, B = (I64 y).toArray := ⟨_, rfl⟩
  obtain ⟨W, hW⟩ : ∃ W, W = ((w.alloc (.cells A 33)).alloc (.cells B 33)).alloc (.cells #[.int .i64 0, .int .i64 0, .int .i64 0, .int .i64 0, .int .i64 0, .int .i64 0, .int .i64 0, .int .i64 0, .int .i64 0, .int .i64 0, .int .i64 0, .int .i64 0, .int .i64 0, .int .i64 0, .int .i64 0, .int .i64 0, .int .i64 0, .int .i64 0, .int .i64 0, .int .i64 0, .int .i64 0, .int .i64 0, .int .i64 0, .int .i64 0, .int .i64 0, .int .i64 0, .int .i64 0, .int .i64 0, .int .i64 0, .int .i64 0, .int .i64 0, .int .i64 0, .int .i64 0, .int .i64 0, .int .i64 0, .int .i64 0, .int .i64 0, .int .i64 0, .int .i64 0, .int .i64 0, .int .i64 0, .int .i64 0, .int .i64 0, .int .i64 0, .int .i64 0, .int .i64 0, .int .i64 0, .int .i64 0, .int .i64 0, .int .i64 0, .int .i64 0, .int .i64 0, .int .i64 0, .int .i64 0, .int .i64 0, .int .i64 0, .int .i64 0, .int .i64 0, .int .i64 0, .int .i64 0, .int .i64 0, .int .i64 0, .int .i64 0, .int .i64 0] 35) := ⟨_, rfl⟩
  have fr : Below w.heap.size w W := by rw [hW]; exact (((Below.refl _ _).alloc (Nat.le_refl _) _).alloc (by simp) _).alloc (by simp; omega) _
  have pa : Arr W w.heap.size 33 (I64 x) := by rw [hW, hA]; exact ((Arr.new w (I64 x) _).alloc _).alloc _
  have pb : Arr W (w.heap.size + 1) 33 (I64 y) := by
    rw [hW, hB]
    have := (Arr.new (w.alloc (.cells A 33)) (I64 y) 33).alloc (.cells (I64 Z64).toArray 35)
    rw [World.size_alloc] at this
    exact this
  have pr : Arr W (w.heap.size + 2) 35 (I64 Z64) := by
    rw [hW]
    have := Arr.new ((w.alloc (.cells A 33)).alloc (.cells B 33)) (I64 Z64) 35
    rw [World.size_alloc, World.size_alloc] at this
    exact this
  rw [← hA, ← hB]
  clear hA hB hx hy p3 p4 hPe
  go_enter Try.func17, Try.ntmps17
  go_wp2
  rw [← hW]
  clear hW
  try simp only [Act.put]
  have bD : Below W.heap.size W W.drew := (Below.refl _ _).drew
  replace fr := fr.trans (bD.mono fr.size)
  replace pa := pa.kept bD
  replace pb := pb.kept bD
  replace pr := pr.kept bD
  clear bD
  refine wp_region_held_drew (S := fun W => W.rangeAt w.heap.size 0 (I64 x) ∧ W.rangeAt (w.heap.size + 1) 0 (I64 y)) (by kernel_rfl) ⟨arr_range pa, arr_range pb⟩ (fun hHeld => ?_)
  obtain ⟨D1, hD⟩ : ∃ V, V = W.drew := ⟨_, rfl⟩
  rw [← hD] at hHeld fr pa pb pr ⊢
  clear hD
  refine wpAnyH_take (i := 0) (oi := { dst := some 5, op := Op.load 33 (Operand.tmp 2), type := 33, pos := "l06_point.go:17", after := #[], guard := none }) (v := _) rfl (by kernel_rfl) (by kernel_rfl) (by kernel_rfl) (fun _ _ _ h => h) (yieldsIf_load_mid (by rfl) _ _ rfl _ _ rfl (I64 x) _ (fun _ h => h.1) hu rfl hix) (by assumption) ?_
  simp only [Act.put, List.setIfInBounds_toArray, List.set_cons_zero, List.set_cons_succ]
  refine wpAnyH_take (i := 1) (oi := { dst := some 6, op := Op.load 33 (Operand.tmp 3), type := 33, pos := "l06_point.go:17", after := #[], guard := none }) (v := _) rfl (by kernel_rfl) (by kernel_rfl) (by kernel_rfl) (fun _ _ _ h => h) (yieldsIf_load_mid (by rfl) _ _ rfl _ _ rfl (I64 y) _ (fun _ h => h.2) hu rfl hiy) (by assumption) ?_
  simp only [Act.put, List.setIfInBounds_toArray, List.set_cons_zero, List.set_cons_succ]
  refine wpAnyH_take (i := 3) (oi := { dst := some 8, op := Op.load 33 (Operand.tmp 2), type := 33, pos := "l06_point.go:17", after := #[], guard := none }) (v := _) rfl (by kernel_rfl) (by kernel_rfl) (by kernel_rfl) (fun _ _ _ h => h) (yieldsIf_load_mid (by rfl) _ _ rfl _ _ rfl (I64 x) _ (fun _ h => h.1) hu rfl hix) (by assumption) ?_
  simp only [Act.put, List.setIfInBounds_toArray, List.set_cons_zero, List.set_cons_succ]
  refine wpAnyH_take (i := 4) (oi := { dst := some 9, op := Op.load 33 (Operand.tmp 3), type := 33, pos := "l06_point.go:17", after := #[], guard := none }) (v := _) rfl (by kernel_rfl) (by kernel_rfl) (by kernel_rfl) (fun _ _ _ h => h) (yieldsIf_load_mid (by rfl) _ _ rfl _ _ rfl (I64 y) _ (fun _ h => h.2) hu rfl hiy) (by assumption) ?_
  simp only [Act.put, List.setIfInBounds_toArray, List.set_cons_zero, List.set_cons_succ]
  refine wpAnyH_ready (rs := [2]) (by kernel_rfl) (by simp) (AllReadyH.cons (o := { dst := some 7, op := Op.call { callee := Callee.value (Operand.func 18), args := #[Operand.const (Value.int IntKind.i64 1)], argTypes := #[3] }, type := 33, pos := "l06_point.go:17", after := #[], guard := none }) rfl (fun K hK => ?_) AllReadyH.nil)
  go_simp
  refine (HS.out _).mono ?_
  rintro e y2 ⟨rfl, hb2⟩
  replace fr := fr.trans (hb2.mono fr.size)
  replace pa := pa.kept hb2
  replace pb := pb.kept hb2
  replace pr := pr.kept hb2
  clear hb2
  go_wp2_with fail
  refine hK.out _ _ ⟨arr_range pa, arr_range pb⟩ (fun hHeld => ?_)
  clear hK K
  refine wpAnyH_ready (rs := [5]) (by kernel_rfl) (by simp) (AllReadyH.cons (o := { dst := some 10, op := Op.call { callee := Callee.value (Operand.func 24), args := #[Operand.tmp 8, Operand.tmp 9], argTypes := #[33, 33] }, type := 33, pos := "l06_point.go:17", after := #[{ on := 3, ground := Ground.data }, { on := 4, ground := Ground.data }, { on := 2, ground := Ground.chain }], guard := none }) rfl (fun K hK => ?_) AllReadyH.nil)
  go_simp
  refine (HM.out _).mono ?_
  rintro e y3 ⟨rfl, hb3⟩
  replace fr := fr.trans (hb3.mono fr.size)
  replace pa := pa.kept hb3
  replace pb := pb.kept hb3
  replace pr := pr.kept hb3
  clear hb3
  go_wp2_with fail
  refine hK.out _ _ ⟨arr_range pa, arr_range pb⟩ (fun hHeld => ?_)
  clear hK K
  refine wpAnyH_take (i := 6) (oi := { dst := some 11, op := Op.build 35 #[(0, Operand.tmp 5), (1, Operand.tmp 6), (2, Operand.tmp 7), (3, Operand.tmp 10)], type := 35, pos := "l06_point.go:17", after := #[{ on := 0, ground := Ground.data }, { on := 1, ground := Ground.data }, { on := 2, ground := Ground.data }, { on := 5, ground := Ground.data }], guard := none }) (v := _) rfl (by kernel_rfl) (by kernel_rfl) (by kernel_rfl) (fun _ _ _ h => h) (yieldsIf_p6 (by rfl) _ _ _ _ rfl P hP (by rw [p1]; rfl) (by rw [p2]; rfl) rfl rfl) (by assumption) ?_
  simp only [Act.put, List.setIfInBounds_toArray, List.set_cons_zero, List.set_cons_succ]
  refine wpAnyH_ready (rs := [7]) (by kernel_rfl) (by simp) (AllReadyH.cons (o := { dst := none, op := Op.store 35 (Operand.tmp 4) (Operand.tmp 11), type := 0, pos := "l06_point.go:17", after := #[{ on := 6, ground := Ground.data }, { on := 5, ground := Ground.chain }, { on := 0, ground := Ground.phase }, { on := 1, ground := Ground.phase }, { on := 2, ground := Ground.phase }, { on := 3, ground := Ground.phase }, { on := 4, ground := Ground.phase }, { on := 5, ground := Ground.phase }, { on := 6, ground := Ground.phase }], guard := none }) rfl (fun K hK => ?_) AllReadyH.nil)
  rw [if_pos (by rfl)]
  refine wp_store_mid _ _ _ rfl _ _ (I64 P.cells).toArray rfl rfl (by have := arr_there pr; simpa [hPl] using this) hip (all_oneCell_toArray hone) ?_
  simp only [Act.put]
  obtain ⟨V4, hVe⟩ : ∃ V, V = y3.setCells (w.heap.size + 2) 0 (I64 P.cells) := ⟨_, rfl⟩
  rw [← hVe]
  replace fr : Below w.heap.size w V4 := by rw [hVe]; exact setCells_below (by omega) _ _ fr
  replace pa : Arr V4 w.heap.size 33 (I64 x) := by rw [hVe]; exact Arr.setCellsO (by omega) _ _ pa
  replace pb : Arr V4 (w.heap.size + 1) 33 (I64 y) := by rw [hVe]; exact Arr.setCellsO (by omega) _ _ pb
  replace pr : Arr V4 (w.heap.size + 2) 35 (I64 P.cells) := by rw [hVe]; exact Arr.setCells0 pr (by simp [hPl])
  clear hVe
  refine hK.out _ _ ⟨arr_range pa, arr_range pb⟩ (fun hHeld => ?_)
  clear hK K
  refine wpAnyH_done (by kernel_rfl) ?_ _
  go_wp2
  exact bodyPost_ret (results_cell_row rfl _ _ (w.heap.size + 2) 35 (I64 P.cells).toArray (0, 0) _ rfl pr Try.underlying35 rfl hip) rfl ⟨rfl, fr⟩
end Go.Proofs.Ytoblilngppjmhaa
namespace Go.Proofs.Ytoblilngppjmhaa
open Go.RowKit
set_option maxRecDepth 100000

theorem mulC {x y : List Int} (hx : feOk x = true) (hy : feOk y = true) (Z : World) : Calls Try.prog 24 #[.agg (I64 x).toArray, .agg (I64 y).toArray] Z fun e w' => e = .returned (.agg (I64 (red (val x * val y))).toArray) ∧ Below Z.heap.size Z w' := specMul16 x y Z (feOk_len hx) (feOk_len hy) (feOk_lm' hx) (feOk_lm' hy)

end Go.Proofs.Ytoblilngppjmhaa
namespace Go.Proofs.Ytoblilngppjmhaa
open Go.RowKit
set_option maxRecDepth 100000

theorem results_pair {P : Program} {fn : Func} {p q : Tmp} {ty : TypeId} {w : World} {g k : Nat} {t s : TypeId} {cs ds : List Value} {d : TypeDesc} {tmps : Array Value} (h : fn.results = #[.cell p ty, .cell q ty])
  (hp : tmps.getD p undef = .pointer (some ⟨g, 0, none⟩)) (hq : tmps.getD q undef = .pointer (some ⟨k, 0, none⟩)) (hg : Arr w g t cs) (hk : Arr w k s ds) (hu : P.underlying ty = some d) (hd : (match d with | .struct _ | .array _ _ => true | _ => false) = true) (hi : (P.info? ty).map (·.size) = some cs.length) (hj : (P.info? ty).map (·.size) = some ds.length) :
  (results fn tmps).run P w = .ok (.tuple #[.agg cs.toArray, .agg ds.toArray]) w := by
 have hl := run_loadVar_row (P := P) w g t ty cs.toArray (0, 0) d hg hu hd (by simpa using hi)
 have hm := run_loadVar_row (P := P) w k s ty ds.toArray (0, 0) d hk hu hd (by simpa using hj)
 have hp' : tmps[p]?.getD undef = .pointer (some ⟨g, 0, none⟩) := by simpa using hp
 have hq' : tmps[q]?.getD undef = .pointer (some ⟨k, 0, none⟩) := by simpa using hq
 simp only [results, h]
 simp [Sem.run_bind, hp', hq', asAddr, Result.andThen, hl, hm]
theorem inv_ok (l : List Int) : feOk (invF l) = true := ok_red _

set_option maxHeartbeats 4000000 in
theorem spec6flat (P : E4) (w : World) (hP : P.Ok) :
  Calls Try.prog 15 #[.agg (I64 P.cells).toArray] w fun e w' => e = .returned (.tuple #[.agg (I64 (flx P)).toArray, .agg (I64 (fly P)).toArray]) ∧ Below w.heap.size w w' := by
 obtain ⟨z, ez⟩ : ∃ z, z = invF P.c := ⟨_, rfl⟩
 have kz : feOk z = true := by rw [ez]; exact inv_ok _
 obtain ⟨x, ex⟩ : ∃ x, x = flx P := ⟨_, rfl⟩
 have kx : feOk x = true := by rw [ex]; exact ok_red _
 obtain ⟨y, ey⟩ : ∃ y, y = fly P := ⟨_, rfl⟩
 have ky : feOk y = true := by rw [ey]; exact ok_red _
 have Hz : Hid (∀ Z, Calls Try.prog 23 #[.agg (I64 P.c).toArray] Z fun e w' => e = .returned (.agg (I64 z).toArray) ∧ Below Z.heap.size Z w') := by
  unfold Hid; intro Z; rw [ez]; exact specInv P.c Z (feOk_len hP.c) (feOk_lm' hP.c)
 have Hx : Hid (∀ Z, Calls Try.prog 24 #[.agg (I64 P.a).toArray, .agg (I64 z).toArray] Z fun e w' => e = .returned (.agg (I64 x).toArray) ∧ Below Z.heap.size Z w') := by
  unfold Hid; intro Z; rw [ex]; unfold flx; rw [← ez]; exact mulC hP.a kz Z
 have Hy : Hid (∀ Z, Calls Try.prog 24 #[.agg (I64 P.b).toArray, .agg (I64 z).toArray] Z fun e w' => e = .returned (.agg (I64 y).toArray) ∧ Below Z.heap.size Z w') := by
  unfold Hid; intro Z; rw [ey]; unfold fly; rw [← ez]; exact mulC hP.b kz Z
 rw [← ex, ← ey]
 have iPa := infoEl hP.a
 have iPb := infoEl hP.b
 have iPc := infoEl hP.c
 have jz := infoE' kz
 have iiz := infoEl kz
 have nz := feOk_len kz
 have jx := infoE' kx
 have jy := infoE' ky
 have iix := infoEl kx
 have iiy := infoEl ky
 have nx := feOk_len kx
 have ny := feOk_len ky
 have ux := one_lm x
 have uy := one_lm y
 have hu : Try.prog.underlying 33 = some (.array 16 3) := Try.underlying33
 obtain ⟨A, hA⟩ : ∃ A, A = (I64 P.cells).toArray := ⟨_, rfl⟩
 obtain ⟨W, hW⟩ : ∃ W, W = ((w.alloc (.cells A 35)).alloc (.cells #[.int .i64 0, .int .i64 0, .int .i64 0, .int .i64 0, .int .i64 0, .int .i64 0, .int .i64 0, .int .i64 0, .int .i64 0, .int .i64 0, .int .i64 0, .int .i64 0, .int .i64 0, .int .i64 0, .int .i64 0, .int .i64 0] 33)).alloc (.cells #[.int .i64 0, .int .i64 0, .int .i64 0, .int .i64 0, .int .i64 0, .int .i64 0, .int .i64 0, .int .i64 0, .int .i64 0, .int .i64 0, .int .i64 0, .int .i64 0, .int .i64 0, .int .i64 0, .int .i64 0, .int .i64 0] 33) := ⟨_, rfl⟩
 have fr : Below w.heap.size w W := by rw [hW]; exact (((Below.refl _ _).alloc (Nat.le_refl _) _).alloc (by simp) _).alloc (by simp; omega) _
 have pa : Arr W w.heap.size 35 (I64 P.cells) := by rw [hW, hA]; exact ((Arr.new w (I64 P.cells) _).alloc _).alloc _
 have p1 : Arr W (w.heap.size + 1) 33 (I64 Z16) := by
  rw [hW]
  have := (Arr.new (w.alloc (.cells A 35)) (I64 Z16) 33).alloc (.cells (I64 Z16).toArray 33)
  rw [World.size_alloc] at this
  exact this
 have p2 : Arr W (w.heap.size + 2) 33 (I64 Z16) := by
  rw [hW]
  have := Arr.new ((w.alloc (.cells A 35)).alloc (.cells (I64 Z16).toArray 33)) (I64 Z16) 33
  rw [World.size_alloc, World.size_alloc] at this
  exact this
 rw [← hA]
 clear hA ez ex ey kz kx ky
 go_enter Try.func15, Try.ntmps15
 go_upto_region 1 with fail
 rw [← hW]
 clear hW
 go_wp2_with (refine wpList_load_mid rfl 33 _ rfl w.heap.size 32 rfl (I64 P.c) _ (E4.rc hP pa) Try.underlying33 rfl iPc ?_)
 refine (Hz.out _).mono ?_
 rintro e y1 ⟨rfl, hb1⟩
 replace fr := fr.trans (hb1.mono fr.size)
 replace pa := pa.kept hb1
 replace p1 := p1.kept hb1
 replace p2 := p2.kept hb1
 clear hb1
 have hzz : w.heap.size + 2 < y1.heap.size := p2.lt
 obtain ⟨bV, Az, q1⟩ := laid_e y1 z
 replace fr := fr.trans (bV.mono fr.size)
 replace pa := pa.kept bV
 replace p1 := p1.kept bV
 replace p2 := p2.kept bV
 go_wp2_with (refine wpList_store_row rfl 33 _ _ rfl y1.heap.size (I64 z).toArray rfl rfl 33 _ q1 jz (by simp [nz]) (by simp [Value.oneCell']) ?_)
 obtain ⟨V2, hVV⟩ : ∃ V, V = (y1.alloc (.cells #[.int .i64 0, .int .i64 0, .int .i64 0, .int .i64 0, .int .i64 0, .int .i64 0, .int .i64 0, .int .i64 0, .int .i64 0, .int .i64 0, .int .i64 0, .int .i64 0, .int .i64 0, .int .i64 0, .int .i64 0, .int .i64 0] 33)).setRow y1.heap.size (I64 z).toArray := ⟨_, rfl⟩
 obtain ⟨Xz, hE⟩ : ∃ E, E = y1.heap.size := ⟨_, rfl⟩
 rw [← hVV] at fr pa p1 p2 Az ⊢
 rw [← hE] at Az hzz ⊢
 clear hVV hE q1 bV
 try simp only [Act.put]
 have bD : Below V2.heap.size V2 V2.drew := (Below.refl _ _).drew
 replace fr := fr.trans (bD.mono fr.size)
 replace pa := pa.kept bD
 replace p1 := p1.kept bD
 replace p2 := p2.kept bD
 replace Az := Az.kept bD
 clear bD
 refine wp_region_held_drew (S := fun W => W.rangeAt w.heap.size 0 (I64 P.a) ∧ W.rangeAt w.heap.size 16 (I64 P.b) ∧ W.rangeAt Xz 0 (I64 z)) (by kernel_rfl) ⟨E4.ra pa, E4.rb hP pa, arr_range Az⟩ (fun hHeld => ?_)
 obtain ⟨D3, hD⟩ : ∃ V, V = V2.drew := ⟨_, rfl⟩
 rw [← hD] at hHeld fr pa p1 p2 Az ⊢
 clear hD
 refine wpAnyH_take (i := 0) (oi := { dst := some 8, op := Op.fieldAddr 35 (Operand.tmp 1) 0, type := 0, pos := "l06_point.go:69", after := #[], guard := none }) (v := .pointer (some ⟨w.heap.size, 0, none⟩)) rfl (by kernel_rfl) (by kernel_rfl) (by kernel_rfl) (fun _ _ _ h => h) (.inl ⟨by rfl, fun _ _ => by rfl⟩) (by assumption) ?_
 simp only [Act.put, List.setIfInBounds_toArray, List.set_cons_zero, List.set_cons_succ]
 refine wpAnyH_take (i := 1) (oi := { dst := some 9, op := Op.load 33 (Operand.tmp 8), type := 33, pos := "l06_point.go:69", after := #[{ on := 0, ground := Ground.data }], guard := none }) (v := _) rfl (by kernel_rfl) (by kernel_rfl) (by kernel_rfl) (fun _ _ _ h => h) (yieldsIf_load_mid (by rfl) _ _ rfl _ _ rfl (I64 P.a) _ (fun _ h => h.1) hu rfl iPa) (by assumption) ?_
 simp only [Act.put, List.setIfInBounds_toArray, List.set_cons_zero, List.set_cons_succ]
 refine wpAnyH_take (i := 2) (oi := { dst := some 10, op := Op.load 33 (Operand.tmp 4), type := 33, pos := "l06_point.go:69", after := #[], guard := none }) (v := _) rfl (by kernel_rfl) (by kernel_rfl) (by kernel_rfl) (fun _ _ _ h => h) (yieldsIf_load_mid (by rfl) _ _ rfl _ _ rfl (I64 z) _ (fun _ h => h.2.2) hu rfl iiz) (by assumption) ?_
 simp only [Act.put, List.setIfInBounds_toArray, List.set_cons_zero, List.set_cons_succ]
 refine wpAnyH_take (i := 4) (oi := { dst := some 12, op := Op.fieldAddr 35 (Operand.tmp 1) 1, type := 0, pos := "l06_point.go:69", after := #[], guard := none }) (v := .pointer (some ⟨w.heap.size, 16, none⟩)) rfl (by kernel_rfl) (by kernel_rfl) (by kernel_rfl) (fun _ _ _ h => h) (.inl ⟨by rfl, fun _ _ => by rfl⟩) (by assumption) ?_
 simp only [Act.put, List.setIfInBounds_toArray, List.set_cons_zero, List.set_cons_succ]
 refine wpAnyH_take (i := 5) (oi := { dst := some 13, op := Op.load 33 (Operand.tmp 12), type := 33, pos := "l06_point.go:69", after := #[{ on := 4, ground := Ground.data }], guard := none }) (v := _) rfl (by kernel_rfl) (by kernel_rfl) (by kernel_rfl) (fun _ _ _ h => h) (yieldsIf_load_mid (by rfl) _ _ rfl _ _ rfl (I64 P.b) _ (fun _ h => h.2.1) hu rfl iPb) (by assumption) ?_
 simp only [Act.put, List.setIfInBounds_toArray, List.set_cons_zero, List.set_cons_succ]
 refine wpAnyH_take (i := 6) (oi := { dst := some 14, op := Op.load 33 (Operand.tmp 4), type := 33, pos := "l06_point.go:69", after := #[], guard := none }) (v := _) rfl (by kernel_rfl) (by kernel_rfl) (by kernel_rfl) (fun _ _ _ h => h) (yieldsIf_load_mid (by rfl) _ _ rfl _ _ rfl (I64 z) _ (fun _ h => h.2.2) hu rfl iiz) (by assumption) ?_
 simp only [Act.put, List.setIfInBounds_toArray, List.set_cons_zero, List.set_cons_succ]
 refine wpAnyH_ready (rs := [3]) (by kernel_rfl) (by simp) (AllReadyH.cons (o := { dst := some 11, op := Op.call { callee := Callee.value (Operand.func 24), args := #[Operand.tmp 9, Operand.tmp 10], argTypes := #[33, 33] }, type := 33, pos := "l06_point.go:69", after := #[{ on := 1, ground := Ground.data }, { on := 2, ground := Ground.data }], guard := none }) rfl (fun K hK => ?_) AllReadyH.nil)
 go_simp
 refine (Hx.out _).mono ?_
 rintro e y4 ⟨rfl, hb4⟩
 replace fr := fr.trans (hb4.mono fr.size)
 replace pa := pa.kept hb4
 replace p1 := p1.kept hb4
 replace p2 := p2.kept hb4
 replace Az := Az.kept hb4
 clear hb4
 go_wp2_with fail
 refine hK.out _ _ ⟨E4.ra pa, E4.rb hP pa, arr_range Az⟩ (fun hHeld => ?_)
 clear hK K
 refine wpAnyH_ready (rs := [7]) (by kernel_rfl) (by simp) (AllReadyH.cons (o := { dst := some 15, op := Op.call { callee := Callee.value (Operand.func 24), args := #[Operand.tmp 13, Operand.tmp 14], argTypes := #[33, 33] }, type := 33, pos := "l06_point.go:69", after := #[{ on := 5, ground := Ground.data }, { on := 6, ground := Ground.data }, { on := 3, ground := Ground.chain }], guard := none }) rfl (fun K hK => ?_) AllReadyH.nil)
 go_simp
 refine (Hy.out _).mono ?_
 rintro e y5 ⟨rfl, hb5⟩
 replace fr := fr.trans (hb5.mono fr.size)
 replace pa := pa.kept hb5
 replace p1 := p1.kept hb5
 replace p2 := p2.kept hb5
 replace Az := Az.kept hb5
 clear hb5
 go_wp2_with fail
 refine hK.out _ _ ⟨E4.ra pa, E4.rb hP pa, arr_range Az⟩ (fun hHeld => ?_)
 clear hK K
 refine wpAnyH_ready (rs := [8]) (by kernel_rfl) (by simp) (AllReadyH.cons (o := { dst := none, op := Op.store 33 (Operand.tmp 2) (Operand.tmp 11), type := 0, pos := "l06_point.go:69", after := #[{ on := 3, ground := Ground.data }, { on := 7, ground := Ground.chain }, { on := 0, ground := Ground.phase }, { on := 1, ground := Ground.phase }, { on := 2, ground := Ground.phase }, { on := 3, ground := Ground.phase }, { on := 4, ground := Ground.textOnly Departure.lateStores }, { on := 5, ground := Ground.textOnly Departure.lateStores }, { on := 6, ground := Ground.textOnly Departure.lateStores }, { on := 7, ground := Ground.textOnly Departure.lateStoresUnsure }], guard := none }) rfl (fun K hK => ?_) AllReadyH.nil)
 rw [if_pos (by rfl)]
 refine wp_store_mid _ _ _ rfl _ _ (I64 x).toArray rfl rfl (by have := arr_there p1; simpa [nx] using this) jx (all_oneCell_toArray ux) ?_
 simp only [Act.put]
 obtain ⟨V6, hVe⟩ : ∃ V, V = y5.setCells (w.heap.size + 1) 0 (I64 x) := ⟨_, rfl⟩
 rw [← hVe]
 replace fr : Below w.heap.size w V6 := by rw [hVe]; exact setCells_below (by omega) _ _ fr
 replace pa : Arr V6 w.heap.size 35 (I64 P.cells) := by rw [hVe]; exact Arr.setCellsO (by omega) _ _ pa
 replace p1 : Arr V6 (w.heap.size + 1) 33 (I64 x) := by rw [hVe]; exact Arr.setCells0 p1 (by simp [nx])
 replace p2 : Arr V6 (w.heap.size + 2) 33 (I64 Z16) := by rw [hVe]; exact Arr.setCellsO (by omega) _ _ p2
 replace Az : Arr V6 Xz 33 (I64 z) := by rw [hVe]; exact Arr.setCellsO (by omega) _ _ Az
 clear hVe
 refine hK.out _ _ ⟨E4.ra pa, E4.rb hP pa, arr_range Az⟩ (fun hHeld => ?_)
 clear hK K
 refine wpAnyH_ready (rs := [9]) (by kernel_rfl) (by simp) (AllReadyH.cons (o := { dst := none, op := Op.store 33 (Operand.tmp 3) (Operand.tmp 15), type := 0, pos := "l06_point.go:69", after := #[{ on := 7, ground := Ground.data }, { on := 8, ground := Ground.chain }, { on := 0, ground := Ground.phase }, { on := 1, ground := Ground.phase }, { on := 2, ground := Ground.phase }, { on := 3, ground := Ground.phase }, { on := 4, ground := Ground.phase }, { on := 5, ground := Ground.phase }, { on := 6, ground := Ground.phase }, { on := 7, ground := Ground.phase }, { on := 8, ground := Ground.phase }], guard := none }) rfl (fun K hK => ?_) AllReadyH.nil)
 rw [if_pos (by rfl)]
 refine wp_store_mid _ _ _ rfl _ _ (I64 y).toArray rfl rfl (by have := arr_there p2; simpa [ny] using this) jy (all_oneCell_toArray uy) ?_
 simp only [Act.put]
 obtain ⟨V7, hVe⟩ : ∃ V, V = V6.setCells (w.heap.size + 2) 0 (I64 y) := ⟨_, rfl⟩
 rw [← hVe]
 replace fr : Below w.heap.size w V7 := by rw [hVe]; exact setCells_below (by omega) _ _ fr
 replace pa : Arr V7 w.heap.size 35 (I64 P.cells) := by rw [hVe]; exact Arr.setCellsO (by omega) _ _ pa
 replace p1 : Arr V7 (w.heap.size + 1) 33 (I64 x) := by rw [hVe]; exact Arr.setCellsO (by omega) _ _ p1
 replace p2 : Arr V7 (w.heap.size + 2) 33 (I64 y) := by rw [hVe]; exact Arr.setCells0 p2 (by simp [ny])
 replace Az : Arr V7 Xz 33 (I64 z) := by rw [hVe]; exact Arr.setCellsO (by omega) _ _ Az
 clear hVe
 refine hK.out _ _ ⟨E4.ra pa, E4.rb hP pa, arr_range Az⟩ (fun hHeld => ?_)
 clear hK K
 refine wpAnyH_done (by kernel_rfl) ?_ _
 go_wp2
 exact bodyPost_ret (results_pair (cs := I64 x) (ds := I64 y) rfl rfl rfl p1 p2 hu rfl iix iiy) rfl ⟨rfl, fr⟩

theorem infoPt : (Try.prog.info? 26).map (·.size) = some 2 := by kernel_rfl
end Go.Proofs.Ytoblilngppjmhaa
