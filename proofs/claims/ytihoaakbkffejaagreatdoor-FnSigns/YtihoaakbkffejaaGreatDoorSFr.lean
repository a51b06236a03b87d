/-
  What is proved here: contracts of the specification's l4in, l4out, l4isOk and FeOk: a number of the field out of a slice of ints and back into a new one, and whether a slice is one; contracts of the specification's l4isOk, FeOk and l4sub: whether a slice of ints is a number of the field, and the difference of two; plain facts on cells that are set one behind the other; no condition; the contract of the specification's l4sub: the difference of two numbers of the field; and plain facts on cells that are set one behind the other; the contract of the specification's l4pow: a power of a number of the field; what an answer of the field is; no condition; contracts of the specification's l4inv and l4zero: the inverse of a number of the field, and whether it is none; a point in the long form as the specification keeps it in memory: how it is built and read; what it makes of points, as plain functions; plain facts on worlds of which one block may have turned, and on reading a part of an array value; no program is spoken of, no condition; plain facts on a variable's block; no condition; what a variable of the program holds stays through stores elsewhere; plain facts on memory; contracts of the specification's l6d, l6make, l6zero and l6base.
-/
import Derived.Test.YtihoaakbkffejaaGreatDoorSYc
import Derived.Deep.RegionHeld3
import Derived.Test.YtihoaakbkffejaaGreatDoorSFm
import Derived.BigRegion
import Derived.Deep.CutRange
namespace Go.Proofs.YtihoaakbkffejaaGreatDoor
open Go.RowKit
set_option maxRecDepth 100000

end Go.Proofs.YtihoaakbkffejaaGreatDoor
namespace Go.Proofs.YtihoaakbkffejaaGreatDoor
open Go.RowKit
set_option maxRecDepth 100000

/-- An array of sixteen, through whatever keeps what is there. -/
structure Ek (w W : World) (g : Nat) (l : List Int) : Prop where
  fr : Below w.heap.size w W
  ar : Arr W g 80 (I64 l)
theorem Ek.go {w A B : World} {g : Nat} {l : List Int} (h : Ek w A g l) (hb : Below A.heap.size A B) : Ek w B g l := ⟨h.fr.trans (hb.mono h.fr.size), h.ar.kept hb⟩
theorem Ek.all {w W : World} {g : Nat} {l : List Int} (h : Ek w W g l) : W.rangeAt g 0 (I64 l) := arr_range h.ar

end Go.Proofs.YtihoaakbkffejaaGreatDoor
namespace Go.Proofs.YtihoaakbkffejaaGreatDoor
open Go.RowKit
set_option maxRecDepth 100000

def setV (cs : List Value) : Nat → List Value → List Value
  | _, [] => cs
  | j, v :: vs => setV (cs.set j v) (j + 1) vs
theorem setV_eq : ∀ (vs pre : List Value) (cs : List Value), cs.length = vs.length → setV (pre ++ cs) pre.length vs = pre ++ vs
  | [], pre, cs, h => by
    have : cs = [] := List.eq_nil_of_length_eq_zero (by simpa using h)
    simp [setV, this]
  | v :: vs, pre, c :: cs, h => by
    have := setV_eq vs (pre ++ [v]) cs (by simpa using h)
    simp only [setV]
    rw [show (pre ++ c :: cs).set pre.length v = (pre ++ [v]) ++ cs by simp]
    simpa using this
  | _ :: _, _, [], h => by simp at h
theorem Arr.setCells {g : Nat} {t : TypeId} : ∀ (vs : List Value) {w : World} {cs : List Value} (j : Nat), Arr w g t cs → Arr (w.setCells g j vs) g t (setV cs j vs)
  | [], _, _, _, h => h
  | v :: vs, _, _, j, h => Arr.setCells vs (j + 1) (h.set j v)
theorem Arr.setCells0 {w : World} {g : Nat} {t : TypeId} {cs vs : List Value} (h : Arr w g t cs) (hl : cs.length = vs.length) : Arr (w.setCells g 0 vs) g t vs := by
  have := Arr.setCells vs 0 h
  rw [show setV cs 0 vs = vs from setV_eq vs [] cs hl] at this
  exact this
theorem Arr.setCellsO {g k : Nat} {t : TypeId} (hne : k ≠ g) : ∀ (vs : List Value) {w : World} {cs : List Value} (j : Nat), Arr w k t cs → Arr (w.setCells g j vs) k t cs
  | [], _, _, _, h => h
  | v :: vs, _, _, j, h => Arr.setCellsO hne vs (j + 1) (h.other ⟨g, j, none⟩ v hne)
theorem setCells_below {B g : Nat} {w0 : World} (hg : B ≤ g) : ∀ (vs : List Value) {w : World} (j : Nat), Below B w0 w → Below B w0 (w.setCells g j vs)
  | [], _, _, h => h
  | v :: vs, _, j, h => setCells_below hg vs (j + 1) (h.setCell (p := ⟨g, j, none⟩) hg v)
theorem arr_there {W : World} {g : Nat} {t : TypeId} {cs : List Value} (h : Arr W g t cs) : W.there g 0 cs.length := by
  intro j hj
  rw [Nat.zero_add]
  refine ⟨?_, h.frozen j⟩
  rw [h.cell j, List.getElem?_eq_getElem hj]
  rfl

end Go.Proofs.YtihoaakbkffejaaGreatDoor
namespace Go.Proofs.YtihoaakbkffejaaGreatDoor
open Go.RowKit
set_option maxRecDepth 100000

/-- Two arrays that are read and one that is written, through whatever keeps what is there. -/
structure E3 (w W : World) (a b : List Int) : Prop where
  fr : Below w.heap.size w W
  pa : Arr W w.heap.size 80 (I64 a)
  pb : Arr W (w.heap.size + 1) 80 (I64 b)
  pr : Arr W (w.heap.size + 2) 80 (I64 Z16)
theorem E3.go {w A B : World} {a b : List Int} (h : E3 w A a b) (hb : Below A.heap.size A B) : E3 w B a b := ⟨h.fr.trans (hb.mono h.fr.size), h.pa.kept hb, h.pb.kept hb, h.pr.kept hb⟩
/-- What the loads read. -/
theorem E3.both {w W : World} {a b : List Int} (h : E3 w W a b) : W.rangeAt w.heap.size 0 (I64 a) ∧ W.rangeAt (w.heap.size + 1) 0 (I64 b) := ⟨arr_range h.pa, arr_range h.pb⟩

end Go.Proofs.YtihoaakbkffejaaGreatDoor
namespace Go.Proofs.YtihoaakbkffejaaGreatDoor
open Go.RowKit
set_option maxRecDepth 100000

theorem bit_low (x r : Nat) (h : r < 16) : x % 65536 / 2 ^ r % 2 = x / 2 ^ r % 2 := by
  have : r = 0 ∨ r = 1 ∨ r = 2 ∨ r = 3 ∨ r = 4 ∨ r = 5 ∨ r = 6 ∨ r = 7 ∨ r = 8 ∨ r = 9 ∨ r = 10 ∨ r = 11 ∨ r = 12 ∨ r = 13 ∨ r = 14 ∨ r = 15 := by omega
  rcases this with rfl | rfl | rfl | rfl | rfl | rfl | rfl | rfl | rfl | rfl | rfl | rfl | rfl | rfl | rfl | rfl <;> omega
theorem bit_at {n : List Int} (hl : n.length = 16) (hm : Lm n) (j : Nat) (hj : j < 256) : n.getD (j / 16) 0 / 2 ^ (j % 16) % 2 = (((val n).toNat / 2 ^ j % 2 : Nat) : Int) := by
  have h0 := val_nonneg (fun x hx => (hm x hx).1)
  have h1 := lim_val n hm
  rw [hl] at h1
  obtain ⟨N, hN⟩ := Int.eq_ofNat_of_zero_le h0
  have h2 := lim_get 16 (val n) (j / 16) (by omega)
  rw [h1, hN] at h2
  rw [h2, hN, Int.toNat_natCast]
  have h3 : N / 65536 ^ (j / 16) % 65536 / 2 ^ (j % 16) % 2 = N / 2 ^ j % 2 := by
    rw [bit_low _ _ (by omega), show 65536 = 2 ^ 16 from rfl, ← Nat.pow_mul, Nat.div_div_eq_div_mul, ← Nat.pow_add, Nat.div_add_mod]
  rw [← h3]
  simp only [Int.natCast_ediv, Int.natCast_emod, Int.natCast_pow]
  rfl
theorem i64_low1 {x : Int} (h0 : 0 ≤ x) (h1 : x < 9223372036854775808) : bits .and .i64 x 1 = x % 2 :=
  bits_mask .i64 63 (by decide) (fun n a b => by rw [IntKind.wrap_i64]; omega) 1 (by decide) x h0 h1
/-- The arrays of l4pow: the base, the exponent, the result's cell, the power so far. -/
structure EP (w W : World) (E : Nat) (a n r : List Int) : Prop where
  fr : Below w.heap.size w W
  pa : Arr W w.heap.size 80 (I64 a)
  pn : Arr W (w.heap.size + 1) 80 (I64 n)
  pz : Arr W (w.heap.size + 2) 80 (I64 Z16)
  pr : Arr W E 80 (I64 r)
  lt : w.heap.size + 2 < E
theorem EP.go {w A B : World} {E : Nat} {a n r : List Int} (h : EP w A E a n r) (hb : Below A.heap.size A B) : EP w B E a n r := ⟨h.fr.trans (hb.mono h.fr.size), h.pa.kept hb, h.pn.kept hb, h.pz.kept hb, h.pr.kept hb, h.lt⟩
theorem EP.put {w W : World} {E : Nat} {a n r : List Int} (h : EP w W E a n r) (s : List Int) : EP w (W.setRow E (I64 s).toArray) E a n s :=
  ⟨setRow_below h.fr E _ (by have := h.lt; omega), h.pa.rowOther E _ (by have := h.lt; omega), h.pn.rowOther E _ (by have := h.lt; omega), h.pz.rowOther E _ (by have := h.lt; omega), h.pr.row _, h.lt⟩

end Go.Proofs.YtihoaakbkffejaaGreatDoor
namespace Go.Proofs.YtihoaakbkffejaaGreatDoor
open Go.RowKit
set_option maxRecDepth 100000

end Go.Proofs.YtihoaakbkffejaaGreatDoor
namespace Go.Proofs.YtihoaakbkffejaaGreatDoor
open Go.RowKit
set_option maxRecDepth 100000

/-- An array that is read and one that is written, through whatever keeps what is there. -/
structure E2 (w W : World) (a : List Int) : Prop where
  fr : Below w.heap.size w W
  pa : Arr W w.heap.size 80 (I64 a)
  pr : Arr W (w.heap.size + 1) 80 (I64 Z16)
theorem E2.go {w A B : World} {a : List Int} (h : E2 w A a) (hb : Below A.heap.size A B) : E2 w B a := ⟨h.fr.trans (hb.mono h.fr.size), h.pa.kept hb, h.pr.kept hb⟩
theorem E2.one {w W : World} {a : List Int} (h : E2 w W a) : W.rangeAt w.heap.size 0 (I64 a) := arr_range h.pa
theorem E2.new (w : World) (a : List Int) : E2 w ((w.alloc (.cells (I64 a).toArray 80)).alloc (.cells (I64 Z16).toArray 80)) a := by
  refine ⟨((Below.refl _ _).alloc (Nat.le_refl _) _).alloc (by simp) _, (Arr.new w (I64 a) _).alloc _, ?_⟩
  have := Arr.new (w.alloc (.cells (I64 a).toArray 80)) (I64 Z16) 80
  rw [World.size_alloc] at this
  exact this

theorem two_len : (lim 16 2).length = 16 := lim_len _ _
theorem tk_two : (tk16 PL (lim 16 2)).length = 16 ∧ Lm (tk16 PL (lim 16 2)) ∧ (val (tk16 PL (lim 16 2))).toNat = eInv := by
  have htk : tk16 PL (lim 16 2) = lim 16 (P25519 - 2) := by
    rw [tk16_lim PL_len two_len, PL_val, val_lim]
    rfl
  rw [htk]
  exact ⟨lim_len _ _, lim_lm _ _, by rw [val_lim]; rfl⟩

/-- The inverse. -/
def invF (a : List Int) : List Int := red (val a ^ eInv)

end Go.Proofs.YtihoaakbkffejaaGreatDoor
namespace Go.Proofs.YtihoaakbkffejaaGreatDoor
open Go.RowKit
set_option maxRecDepth 100000
set_option maxHeartbeats 4000000

/-- The four numbers of a point in the long form. -/
structure E4 where
  a : List Int
  b : List Int
  c : List Int
  t : List Int
/-- As they lie in memory. -/
def E4.cells (P : E4) : List Int := P.a ++ P.b ++ P.c ++ P.t
/-- All four are numbers of the field. -/
structure E4.Ok (P : E4) : Prop where
  a : feOk P.a = true
  b : feOk P.b = true
  c : feOk P.c = true
  t : feOk P.t = true
theorem feOk_len {l : List Int} (h : feOk l = true) : l.length = 16 := ((feOk_iff l).1 h).1
theorem feOk_lm' {l : List Int} (h : feOk l = true) : Lm l := ((feOk_iff l).1 h).2.1
theorem E4.len {P : E4} (h : P.Ok) : P.cells.length = 64 := by
  unfold E4.cells
  simp [feOk_len h.a, feOk_len h.b, feOk_len h.c, feOk_len h.t]
/-- A part of a row. -/
theorem range_part {W : World} {g : Nat} {t : TypeId} {p q r : List Int} {n : Nat} (h : Arr W g t (I64 (p ++ q ++ r))) (hp : p.length = n) : W.rangeAt g n (I64 q) := by
  intro j v hj
  rw [h.cell (n + j)]
  have hjl := (List.getElem?_eq_some_iff.1 hj).1
  simp only [List.length_map] at hjl
  simp only [I64, List.map_append]
  rw [List.append_assoc, List.getElem?_append_right (by simp [hp]), List.length_map, hp, Nat.add_sub_cancel_left, List.getElem?_append_left (by simpa using hjl)]
  exact hj
theorem E4.ra {W : World} {g : Nat} {t : TypeId} {P : E4} (h : Arr W g t (I64 P.cells)) : W.rangeAt g 0 (I64 P.a) :=
  range_part (p := []) (q := P.a) (r := P.b ++ P.c ++ P.t) (by simpa [E4.cells] using h) rfl
theorem E4.rb {W : World} {g : Nat} {t : TypeId} {P : E4} (hP : P.Ok) (h : Arr W g t (I64 P.cells)) : W.rangeAt g 16 (I64 P.b) :=
  range_part (p := P.a) (q := P.b) (r := P.c ++ P.t) (by simpa [E4.cells] using h) (feOk_len hP.a)
theorem E4.rc {W : World} {g : Nat} {t : TypeId} {P : E4} (hP : P.Ok) (h : Arr W g t (I64 P.cells)) : W.rangeAt g 32 (I64 P.c) :=
  range_part (p := P.a ++ P.b) (q := P.c) (r := P.t) (by simpa [E4.cells] using h) (by simp [feOk_len hP.a, feOk_len hP.b])
theorem E4.rt {W : World} {g : Nat} {t : TypeId} {P : E4} (hP : P.Ok) (h : Arr W g t (I64 P.cells)) : W.rangeAt g 48 (I64 P.t) :=
  range_part (p := P.a ++ P.b ++ P.c) (q := P.t) (r := []) (by simpa [E4.cells] using h) (by simp [feOk_len hP.a, feOk_len hP.b, feOk_len hP.c])
/-- The parts of d, and of the base. -/
def DL : List Int := [30883, 4953, 19914, 30187, 55467, 16705, 2637, 112, 59544, 30585, 16505, 36039, 65139, 11119, 27886, 20995]
def BX : List Int := [54554, 36645, 11616, 51542, 42930, 38181, 51040, 26924, 56412, 64982, 57905, 49316, 21502, 52590, 14035, 8553]
def BY : List Int := [26200, 26214, 26214, 26214, 26214, 26214, 26214, 26214, 26214, 26214, 26214, 26214, 26214, 26214, 26214, 26214]
theorem DL_ok : feOk DL = true := by decide
theorem BX_ok : feOk BX = true := by decide
theorem BY_ok : feOk BY = true := by decide
/-- What the specification makes of two numbers, and of two points. -/
def mk6 (x y : List Int) : E4 := ⟨x, y, lim 16 1, red (val x * val y)⟩
theorem ok_red (v : Int) : feOk (red v) = true := (feOk_iff _).2 ⟨red_len v, red_lm v, by rw [val_red]; exact (red_lt v).2⟩
theorem one_ok : feOk (lim 16 1) = true := by decide
theorem zero_ok : feOk (lim 16 0) = true := by decide
theorem mk6_ok {x y : List Int} (hx : feOk x = true) (hy : feOk y = true) : (mk6 x y).Ok := ⟨hx, hy, one_ok, ok_red _⟩
def add6 (P Q : E4) : E4 :=
  let a := red (val (red (val P.b - val P.a)) * val (red (val Q.b - val Q.a)))
  let b := red (val (red (val P.b + val P.a)) * val (red (val Q.b + val Q.a)))
  let c := red (val (red (val P.t * val Q.t)) * val (red (val DL + val DL)))
  let d := red (val P.c * val (red (val Q.c + val Q.c)))
  let e := red (val b - val a)
  let f := red (val d - val c)
  let g := red (val d + val c)
  let h := red (val b + val a)
  ⟨red (val e * val f), red (val g * val h), red (val f * val g), red (val e * val h)⟩
def neg6 (P : E4) : E4 := ⟨red (val (lim 16 0) - val P.a), P.b, P.c, red (val (lim 16 0) - val P.t)⟩
def flx (P : E4) : List Int := red (val P.a * val (invF P.c))
def fly (P : E4) : List Int := red (val P.b * val (invF P.c))
end Go.Proofs.YtihoaakbkffejaaGreatDoor
namespace Go.Proofs.YtihoaakbkffejaaGreatDoor
open Go.RowKit
set_option linter.unusedSimpArgs false

theorem grown_set {w0 w : World} {g : Nat} (h : w0.grownBy w (some g)) (j : Nat) (v : Value) : w0.grownBy (w.setCell ⟨g, j, none⟩ v) (some g) :=
  ⟨h.os, h.tape, h.output, by simpa using h.size, fun i hi hne => (heap_setCell_other _ _ _ _ (fun e => hne (by rw [e]))).trans (h.block i hi hne)⟩

theorem grown_set8 {w0 w : World} {g : Nat} (h : w0.grownBy w (some g)) (l0 l1 l2 l3 l4 l5 l6 l7 : Value) :
    w0.grownBy ((((((((w.setCell ⟨g, 0, none⟩ l0).setCell ⟨g, 1, none⟩ l1).setCell ⟨g, 2, none⟩ l2).setCell ⟨g, 3, none⟩ l3).setCell ⟨g, 4, none⟩ l4).setCell ⟨g, 5, none⟩ l5).setCell ⟨g, 6, none⟩ l6).setCell ⟨g, 7, none⟩ l7) (some g) :=
  grown_set (grown_set (grown_set (grown_set (grown_set (grown_set (grown_set (grown_set h 0 l0) 1 l1) 2 l2) 3 l3) 4 l4) 5 l5) 6 l6) 7 l7

theorem grown_of_below {w w' : World} (h : Below w.heap.size w w') (r : Option Nat) : w.grownBy w' r := ⟨h.os, h.tape, h.output, h.size, fun i hi _ => h.block i hi⟩

theorem index_arr {P : Program} {t e : TypeId} {n : Nat} {K : IntKind} (hu : P.underlying t = some (.array n e)) (he : P.underlying e = some (.int K)) (hs : (P.info? e).map (·.size) = some 1) (xs : List Int) (hl : xs.length = n) (k : Nat) (hk : k < n) (w : World) :
    (Instr.index t (.agg (xs.map (Value.int K)).toArray) (.int .i64 (k : Int))).run P w = .ok (.int K (xs.getD k 0)) w := by
  cases hq : P.info? e with
  | none => simp [hq] at hs
  | some i =>
    have hz : i.size = 1 := by simpa [hq] using hs
    have hk' : (k : Int) < (n : Int) := by omega
    have hkx : k < xs.length := by omega
    simp [Instr.index, run_underlying hu, run_underlying he, asIntOf, part, isAgg, sizeOf, typeInfo, hq, hz, hk', hkx, go_sem]
    intro h
    omega

theorem grown_drew {w w' : World} {r : Option Nat} (h : w.grownBy w' r) : w.grownBy w'.drew r := ⟨h.os, h.tape, h.output, h.size, h.block⟩

end Go.Proofs.YtihoaakbkffejaaGreatDoor
namespace Go.Proofs.YtihoaakbkffejaaGreatDoor
open Go.RowKit

/-- A variable's block holds these cells. -/
def Vr (w : World) (g : Nat) (cs : List Value) : Prop := ∃ t z, w.heap[g]? = some (.cells cs.toArray t z)
theorem Vr.lt {w : World} {g : Nat} {cs : List Value} (h : Vr w g cs) : g < w.heap.size := by
  obtain ⟨t, z, h⟩ := h
  exact (Array.getElem?_eq_some_iff.1 h).1
theorem Vr.below {w w' : World} {B g : Nat} {cs : List Value} (h : Vr w g cs) (hb : Below B w w') (hg : g < B) : Vr w' g cs := by
  obtain ⟨t, z, h⟩ := h
  exact ⟨t, z, (hb.block g hg).trans h⟩
theorem Vr.kept {w w' : World} {g : Nat} {cs : List Value} (h : Vr w g cs) (hb : Below w.heap.size w w') : Vr w' g cs := h.below hb h.lt
theorem Vr.cell {w : World} {g : Nat} {cs : List Value} (h : Vr w g cs) (j : Nat) : w.cell? ⟨g, j, none⟩ = cs[j]? := by
  obtain ⟨t, z, h⟩ := h
  rw [cell_of_row w g j _ t _ h]; simp
theorem Vr.int {w : World} {g : Nat} {K : IntKind} {xs : List Int} (h : Vr w g (xs.map (Value.int K))) (j : Nat) (hj : j < xs.length) : w.cell? ⟨g, j, none⟩ = some (.int K (xs.getD j 0)) := by
  rw [h.cell j]; simp [hj]

/-- The cells of block g from j on, set one by one. -/
def setAll (w : World) (g : Nat) : Nat → List Value → World
  | _, [] => w
  | j, v :: vs => setAll (w.setCell ⟨g, j, none⟩ v) g (j + 1) vs
def setL (cs : List Value) : Nat → List Value → List Value
  | _, [] => cs
  | j, v :: vs => setL (cs.set j v) (j + 1) vs
theorem Arr.setAll {g : Nat} {t : TypeId} (vs : List Value) : ∀ {w : World} {cs : List Value} (j : Nat), Arr w g t cs → Arr (setAll w g j vs) g t (setL cs j vs) := by
  induction vs with
  | nil => intro w cs j h; exact h
  | cons v vs ih => intro w cs j h; exact ih (j + 1) (h.set j v)
theorem Arr.setAllOther {g k : Nat} {t : TypeId} (hne : k ≠ g) (vs : List Value) : ∀ {w : World} {cs : List Value} (j : Nat), Arr w k t cs → Arr (Go.Proofs.YtihoaakbkffejaaGreatDoor.setAll w g j vs) k t cs := by
  induction vs with
  | nil => intro w cs j h; exact h
  | cons v vs ih => intro w cs j h; exact ih (j + 1) (h.other ⟨g, j, none⟩ v hne)
theorem setAll_below {B g : Nat} {w0 : World} (hg : B ≤ g) (vs : List Value) : ∀ {w : World} (j : Nat), Below B w0 w → Below B w0 (setAll w g j vs) := by
  induction vs with
  | nil => intro w j h; exact h
  | cons v vs ih => intro w j h; exact ih (j + 1) (h.setCell (p := ⟨g, j, none⟩) hg v)
end Go.Proofs.YtihoaakbkffejaaGreatDoor
namespace Go.Proofs.YtihoaakbkffejaaGreatDoor
open Go.RowKit
set_option maxRecDepth 100000

theorem vr_range {W : World} {g : Nat} {cs : List Value} (h : Vr W g cs) : W.rangeAt g 0 cs := by
  intro j v hj
  rw [Nat.zero_add, h.cell j]
  exact hj
theorem one_lm (l : List Int) : ∀ v ∈ I64 l, v.oneCell' = true := by
  intro v hv
  obtain ⟨x, _, rfl⟩ := List.mem_map.1 hv
  rfl
theorem Vr.setCellsO {g k : Nat} {cs : List Value} (hne : k ≠ g) {vs : List Value} {w : World} {j : Nat} (h : Vr w k cs) : Vr (w.setCells g j vs) k cs := by
  obtain ⟨t, z, h⟩ := h
  refine ⟨t, z, ?_⟩
  induction vs generalizing w j with
  | nil => exact h
  | cons v vs ih => exact ih (by rw [heap_setCell_other _ _ _ _ hne]; exact h)
theorem val_pl {x : Int} (h0 : 0 ≤ x) (h1 : x < 115792089237316195423570985008687907853269984665640564039457584007913129639936) : val (lim 16 x) = x := by
  rw [val_lim, p256, Int.emod_eq_of_lt h0 h1]
theorem Vr.rowOther {w : World} {g k : Nat} {cs : List Value} (h : Vr w g cs) (ds : Array Value) (hne : g ≠ k) : Vr (w.setRow k ds) g cs := by
  obtain ⟨t, z, h⟩ := h
  exact ⟨t, z, (setRow_other w k g ds hne).trans h⟩
theorem Vr.other {w : World} {g : Nat} {cs : List Value} (h : Vr w g cs) (p : Addr) (v : Value) (hne : g ≠ p.block) : Vr (w.setCell p v) g cs := by
  obtain ⟨t, z, h⟩ := h
  exact ⟨t, z, (heap_setCell_other w p g v hne).trans h⟩
end Go.Proofs.YtihoaakbkffejaaGreatDoor
namespace Go.Proofs.YtihoaakbkffejaaGreatDoor
open Go.RowKit
set_option maxRecDepth 100000

abbrev Z64 : List Int := Z16 ++ Z16 ++ Z16 ++ Z16
/-- Which operations of a drawn region are done, as a number. -/
structure Mk (n : Nat) : Prop where
  t : True
theorem Mk.up {n : Nat} (h : Mk n) (k : Nat) : Mk (n + k) := ⟨h.t⟩
theorem Mk.at {n : Nat} (_ : Mk n) (k : Nat) (_ : n = k) : True := trivial
theorem bel_sc {n : Nat} {w W : World} (h : Below n w W) (X : Nat) (vs : List Value) (hX : n ≤ X) : Below n w (W.setCells X 0 vs) := setCells_below hX _ _ h
theorem Arr.sc {W : World} {k : Nat} {t : TypeId} {cs : List Value} (h : Arr W k t cs) (X : Nat) (vs : List Value) (hne : k ≠ X) : Arr (W.setCells X 0 vs) k t cs := Arr.setCellsO hne _ _ h
theorem Arr.sc0 {W : World} {k : Nat} {t : TypeId} {cs : List Value} (h : Arr W k t cs) (vs : List Value) (hl : cs.length = vs.length) : Arr (W.setCells k 0 vs) k t vs := Arr.setCells0 h hl
theorem Vr.sc {W : World} {k : Nat} {cs : List Value} (h : Vr W k cs) (X : Nat) (vs : List Value) (hne : k ≠ X) : Vr (W.setCells X 0 vs) k cs := Vr.setCellsO hne h
end Go.Proofs.YtihoaakbkffejaaGreatDoor
