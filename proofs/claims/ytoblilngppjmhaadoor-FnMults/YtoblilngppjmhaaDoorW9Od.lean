/-
  What is proved here: the statement of the program's method doubled that makes four products at once, in whatever order it is carried out; where its variable holds the prime.
-/
import Derived.Test.YtoblilngppjmhaaDoorW9Ob
namespace Go.Proofs.YtoblilngppjmhaaDoor
open Go.RowKit
set_option maxRecDepth 100000

theorem wpAnyH_cast {P : Program} {md : Region.Mode} {ops : Array Oper} {Q : Exit → Act → World → Prop} {S : World → Prop} {fuel : Nat} {l l' : Array Bool} {a a' : Act} {w : World} (h : l = l') (ha : a = a') (H : wpAnyH P md ops Q S fuel l' a' w) : wpAnyH P md ops Q S fuel l a w := by
 subst h ha
 exact H
/-- The statement that makes the four products at once. -/
def dblOps : Array Oper := #[{ dst := some 8, op := Op.fieldAddr 72 (Operand.tmp 1) 0, type := 0, pos := "l06_point.go:173", after := #[], guard := none }, { dst := some 9, op := Op.load 70 (Operand.tmp 8), type := 70, pos := "l06_point.go:173", after := #[{ on := 0, ground := Ground.data }], guard := none }, { dst := some 10, op := Op.fieldAddr 72 (Operand.tmp 1) 0, type := 0, pos := "l06_point.go:173", after := #[], guard := none }, { dst := some 11, op := Op.load 70 (Operand.tmp 10), type := 70, pos := "l06_point.go:173", after := #[{ on := 2, ground := Ground.data }], guard := none }, { dst := some 12, op := Op.call { callee := Callee.value (Operand.func 104), args := #[Operand.tmp 9, Operand.tmp 11], argTypes := #[70, 70] }, type := 70, pos := "l06_point.go:173", after := #[{ on := 1, ground := Ground.data }, { on := 3, ground := Ground.data }], guard := none }, { dst := some 13, op := Op.fieldAddr 72 (Operand.tmp 1) 1, type := 0, pos := "l06_point.go:173", after := #[], guard := none }, { dst := some 14, op := Op.load 70 (Operand.tmp 13), type := 70, pos := "l06_point.go:173", after := #[{ on := 5, ground := Ground.data }], guard := none }, { dst := some 15, op := Op.fieldAddr 72 (Operand.tmp 1) 1, type := 0, pos := "l06_point.go:173", after := #[], guard := none }, { dst := some 16, op := Op.load 70 (Operand.tmp 15), type := 70, pos := "l06_point.go:173", after := #[{ on := 7, ground := Ground.data }], guard := none }, { dst := some 17, op := Op.call { callee := Callee.value (Operand.func 104), args := #[Operand.tmp 14, Operand.tmp 16], argTypes := #[70, 70] }, type := 70, pos := "l06_point.go:173", after := #[{ on := 6, ground := Ground.data }, { on := 8, ground := Ground.data }, { on := 4, ground := Ground.chain }], guard := none }, { dst := some 18, op := Op.fieldAddr 72 (Operand.tmp 1) 2, type := 0, pos := "l06_point.go:173", after := #[], guard := none }, { dst := some 19, op := Op.load 70 (Operand.tmp 18), type := 70, pos := "l06_point.go:173", after := #[{ on := 10, ground := Ground.data }], guard := none }, { dst := some 20, op := Op.fieldAddr 72 (Operand.tmp 1) 2, type := 0, pos := "l06_point.go:173", after := #[], guard := none }, { dst := some 21, op := Op.load 70 (Operand.tmp 20), type := 70, pos := "l06_point.go:173", after := #[{ on := 12, ground := Ground.data }], guard := none }, { dst := some 22, op := Op.call { callee := Callee.value (Operand.func 104), args := #[Operand.tmp 19, Operand.tmp 21], argTypes := #[70, 70] }, type := 70, pos := "l06_point.go:173", after := #[{ on := 11, ground := Ground.data }, { on := 13, ground := Ground.data }, { on := 9, ground := Ground.chain }], guard := none }, { dst := some 23, op := Op.fieldAddr 72 (Operand.tmp 1) 0, type := 0, pos := "l06_point.go:173", after := #[], guard := none }, { dst := some 24, op := Op.load 70 (Operand.tmp 23), type := 70, pos := "l06_point.go:173", after := #[{ on := 15, ground := Ground.data }], guard := none }, { dst := some 25, op := Op.fieldAddr 72 (Operand.tmp 1) 1, type := 0, pos := "l06_point.go:173", after := #[], guard := none }, { dst := some 26, op := Op.load 70 (Operand.tmp 25), type := 70, pos := "l06_point.go:173", after := #[{ on := 17, ground := Ground.data }], guard := none }, { dst := some 27, op := Op.call { callee := Callee.value (Operand.func 104), args := #[Operand.tmp 24, Operand.tmp 26], argTypes := #[70, 70] }, type := 70, pos := "l06_point.go:173", after := #[{ on := 16, ground := Ground.data }, { on := 18, ground := Ground.data }, { on := 14, ground := Ground.chain }], guard := none }, { dst := some 3, op := Op.alloc 70, type := 0, pos := "l06_point.go:173", after := #[], guard := none }, { dst := some 4, op := Op.alloc 70, type := 0, pos := "l06_point.go:173", after := #[], guard := none }, { dst := some 5, op := Op.alloc 70, type := 0, pos := "l06_point.go:173", after := #[], guard := none }, { dst := some 6, op := Op.alloc 70, type := 0, pos := "l06_point.go:173", after := #[], guard := none }, { dst := none, op := Op.store 70 (Operand.tmp 3) (Operand.tmp 12), type := 0, pos := "l06_point.go:173", after := #[{ on := 20, ground := Ground.data }, { on := 4, ground := Ground.data }, { on := 19, ground := Ground.chain }, { on := 0, ground := Ground.phase }, { on := 1, ground := Ground.phase }, { on := 2, ground := Ground.phase }, { on := 3, ground := Ground.phase }, { on := 4, ground := Ground.phase }, { on := 5, ground := Ground.textOnly Departure.lateStores }, { on := 6, ground := Ground.textOnly Departure.lateStores }, { on := 7, ground := Ground.textOnly Departure.lateStores }, { on := 8, ground := Ground.textOnly Departure.lateStores }, { on := 9, ground := Ground.textOnly Departure.lateStoresUnsure }, { on := 10, ground := Ground.textOnly Departure.lateStores }, { on := 11, ground := Ground.textOnly Departure.lateStores }, { on := 12, ground := Ground.textOnly Departure.lateStores }, { on := 13, ground := Ground.textOnly Departure.lateStores }, { on := 14, ground := Ground.textOnly Departure.lateStoresUnsure }, { on := 15, ground := Ground.textOnly Departure.lateStores }, { on := 16, ground := Ground.textOnly Departure.lateStores }, { on := 17, ground := Ground.textOnly Departure.lateStores }, { on := 18, ground := Ground.textOnly Departure.lateStores }, { on := 19, ground := Ground.textOnly Departure.lateStoresUnsure }, { on := 20, ground := Ground.phase }, { on := 21, ground := Ground.phase }, { on := 22, ground := Ground.phase }, { on := 23, ground := Ground.phase }], guard := none }, { dst := none, op := Op.store 70 (Operand.tmp 4) (Operand.tmp 17), type := 0, pos := "l06_point.go:173", after := #[{ on := 21, ground := Ground.data }, { on := 9, ground := Ground.data }, { on := 24, ground := Ground.chain }, { on := 0, ground := Ground.phase }, { on := 1, ground := Ground.phase }, { on := 2, ground := Ground.phase }, { on := 3, ground := Ground.phase }, { on := 4, ground := Ground.phase }, { on := 5, ground := Ground.phase }, { on := 6, ground := Ground.phase }, { on := 7, ground := Ground.phase }, { on := 8, ground := Ground.phase }, { on := 9, ground := Ground.phase }, { on := 10, ground := Ground.textOnly Departure.lateStores }, { on := 11, ground := Ground.textOnly Departure.lateStores }, { on := 12, ground := Ground.textOnly Departure.lateStores }, { on := 13, ground := Ground.textOnly Departure.lateStores }, { on := 14, ground := Ground.textOnly Departure.lateStoresUnsure }, { on := 15, ground := Ground.textOnly Departure.lateStores }, { on := 16, ground := Ground.textOnly Departure.lateStores }, { on := 17, ground := Ground.textOnly Departure.lateStores }, { on := 18, ground := Ground.textOnly Departure.lateStores }, { on := 19, ground := Ground.textOnly Departure.lateStoresUnsure }, { on := 20, ground := Ground.phase }, { on := 21, ground := Ground.phase }, { on := 22, ground := Ground.phase }, { on := 23, ground := Ground.phase }, { on := 24, ground := Ground.phase }], guard := none }, { dst := none, op := Op.store 70 (Operand.tmp 5) (Operand.tmp 22), type := 0, pos := "l06_point.go:173", after := #[{ on := 22, ground := Ground.data }, { on := 14, ground := Ground.data }, { on := 25, ground := Ground.chain }, { on := 0, ground := Ground.phase }, { on := 1, ground := Ground.phase }, { on := 2, ground := Ground.phase }, { on := 3, ground := Ground.phase }, { on := 4, ground := Ground.phase }, { on := 5, ground := Ground.phase }, { on := 6, ground := Ground.phase }, { on := 7, ground := Ground.phase }, { on := 8, ground := Ground.phase }, { on := 9, ground := Ground.phase }, { on := 10, ground := Ground.phase }, { on := 11, ground := Ground.phase }, { on := 12, ground := Ground.phase }, { on := 13, ground := Ground.phase }, { on := 14, ground := Ground.phase }, { on := 15, ground := Ground.textOnly Departure.lateStores }, { on := 16, ground := Ground.textOnly Departure.lateStores }, { on := 17, ground := Ground.textOnly Departure.lateStores }, { on := 18, ground := Ground.textOnly Departure.lateStores }, { on := 19, ground := Ground.textOnly Departure.lateStoresUnsure }, { on := 20, ground := Ground.phase }, { on := 21, ground := Ground.phase }, { on := 22, ground := Ground.phase }, { on := 23, ground := Ground.phase }, { on := 24, ground := Ground.phase }, { on := 25, ground := Ground.phase }], guard := none }, { dst := none, op := Op.store 70 (Operand.tmp 6) (Operand.tmp 27), type := 0, pos := "l06_point.go:173", after := #[{ on := 23, ground := Ground.data }, { on := 19, ground := Ground.data }, { on := 26, ground := Ground.chain }, { on := 0, ground := Ground.phase }, { on := 1, ground := Ground.phase }, { on := 2, ground := Ground.phase }, { on := 3, ground := Ground.phase }, { on := 4, ground := Ground.phase }, { on := 5, ground := Ground.phase }, { on := 6, ground := Ground.phase }, { on := 7, ground := Ground.phase }, { on := 8, ground := Ground.phase }, { on := 9, ground := Ground.phase }, { on := 10, ground := Ground.phase }, { on := 11, ground := Ground.phase }, { on := 12, ground := Ground.phase }, { on := 13, ground := Ground.phase }, { on := 14, ground := Ground.phase }, { on := 15, ground := Ground.phase }, { on := 16, ground := Ground.phase }, { on := 17, ground := Ground.phase }, { on := 18, ground := Ground.phase }, { on := 19, ground := Ground.phase }, { on := 20, ground := Ground.phase }, { on := 21, ground := Ground.phase }, { on := 22, ground := Ground.phase }, { on := 23, ground := Ground.phase }, { on := 24, ground := Ground.phase }, { on := 25, ground := Ground.phase }, { on := 26, ground := Ground.phase }], guard := none }]
/-- What lies there meanwhile. -/
structure DB (w W : World) (P : E4) : Prop where
 fr : Below w.heap.size w W
 pa : Arr W w.heap.size 72 (I64 P.cells)
 vr : Vr W 4 (I64 PL)
 g0 : 4 < w.heap.size
theorem DB.go {w A B : World} {P : E4} (h : DB w A P) (hb : Below A.heap.size A B) : DB w B P := ⟨h.fr.trans (hb.mono h.fr.size), h.pa.kept hb, h.vr.kept hb, h.g0⟩
theorem DB.put {w W : World} {P : E4} {X : Nat} (h : DB w W P) (hX : w.heap.size < X) (cs : List Value) : DB w (W.setCells X 0 cs) P := by
 have := h.g0
 exact ⟨setCells_below (by omega) _ _ h.fr, Arr.setCellsO (by omega) _ _ h.pa, Vr.setCellsO (by omega) h.vr, h.g0⟩
theorem DB.all {w W : World} {P : E4} (h : DB w W P) (hP : P.Ok) : W.rangeAt w.heap.size 0 (I64 P.a) ∧ W.rangeAt w.heap.size 16 (I64 P.b) ∧ W.rangeAt w.heap.size 32 (I64 P.c) := ⟨E4.ra h.pa, E4.rb hP h.pa, E4.rc hP h.pa⟩
/-- A new cell that still holds nothing. -/
structure NC (w W : World) (X : Nat) (l : List Int) : Prop where
 a : Arr W X 70 (I64 l)
 lt : w.heap.size < X
theorem NC.go {w A B : World} {X : Nat} {l : List Int} (h : NC w A X l) (hb : Below A.heap.size A B) : NC w B X l := ⟨h.a.kept hb, h.lt⟩
theorem NC.put {w A : World} {X Y : Nat} {l : List Int} (h : NC w A X l) (hn : X ≠ Y) (cs : List Value) : NC w (A.setCells Y 0 cs) X l := ⟨Arr.setCellsO hn _ _ h.a, h.lt⟩
theorem NC.new {w W : World} {P : E4} (h : DB w W P) : NC w (W.alloc (.cells #[.int .i64 0, .int .i64 0, .int .i64 0, .int .i64 0, .int .i64 0, .int .i64 0, .int .i64 0, .int .i64 0, .int .i64 0, .int .i64 0, .int .i64 0, .int .i64 0, .int .i64 0, .int .i64 0, .int .i64 0, .int .i64 0] 70)) W.heap.size Z16 := ⟨Arr.new _ (I64 Z16) _, h.pa.lt⟩
theorem DB.al {w W : World} {P : E4} (h : DB w W P) : DB w (W.alloc (.cells #[.int .i64 0, .int .i64 0, .int .i64 0, .int .i64 0, .int .i64 0, .int .i64 0, .int .i64 0, .int .i64 0, .int .i64 0, .int .i64 0, .int .i64 0, .int .i64 0, .int .i64 0, .int .i64 0, .int .i64 0, .int .i64 0] 70)) P := h.go ((Below.refl _ _).alloc (Nat.le_refl _) _)
theorem NC.al {w W : World} {X : Nat} {l : List Int} (h : NC w W X l) : NC w (W.alloc (.cells #[.int .i64 0, .int .i64 0, .int .i64 0, .int .i64 0, .int .i64 0, .int .i64 0, .int .i64 0, .int .i64 0, .int .i64 0, .int .i64 0, .int .i64 0, .int .i64 0, .int .i64 0, .int .i64 0, .int .i64 0, .int .i64 0] 70)) X l := h.go ((Below.refl _ _).alloc (Nat.le_refl _) _)
theorem NC.far {w W : World} {X : Nat} {l : List Int} (h : NC w W X l) : X ≠ W.heap.size := Nat.ne_of_lt h.a.lt

abbrev dop4 : Oper := { dst := some 12, op := Op.call { callee := Callee.value (Operand.func 104), args := #[Operand.tmp 9, Operand.tmp 11], argTypes := #[70, 70] }, type := 70, pos := "l06_point.go:173", after := #[{ on := 1, ground := Ground.data }, { on := 3, ground := Ground.data }], guard := none }
abbrev dop9 : Oper := { dst := some 17, op := Op.call { callee := Callee.value (Operand.func 104), args := #[Operand.tmp 14, Operand.tmp 16], argTypes := #[70, 70] }, type := 70, pos := "l06_point.go:173", after := #[{ on := 6, ground := Ground.data }, { on := 8, ground := Ground.data }, { on := 4, ground := Ground.chain }], guard := none }
abbrev dop14 : Oper := { dst := some 22, op := Op.call { callee := Callee.value (Operand.func 104), args := #[Operand.tmp 19, Operand.tmp 21], argTypes := #[70, 70] }, type := 70, pos := "l06_point.go:173", after := #[{ on := 11, ground := Ground.data }, { on := 13, ground := Ground.data }, { on := 9, ground := Ground.chain }], guard := none }
abbrev dop19 : Oper := { dst := some 27, op := Op.call { callee := Callee.value (Operand.func 104), args := #[Operand.tmp 24, Operand.tmp 26], argTypes := #[70, 70] }, type := 70, pos := "l06_point.go:173", after := #[{ on := 16, ground := Ground.data }, { on := 18, ground := Ground.data }, { on := 14, ground := Ground.chain }], guard := none }
abbrev dop20 : Oper := { dst := some 3, op := Op.alloc 70, type := 0, pos := "l06_point.go:173", after := #[], guard := none }
abbrev dop21 : Oper := { dst := some 4, op := Op.alloc 70, type := 0, pos := "l06_point.go:173", after := #[], guard := none }
abbrev dop22 : Oper := { dst := some 5, op := Op.alloc 70, type := 0, pos := "l06_point.go:173", after := #[], guard := none }
abbrev dop23 : Oper := { dst := some 6, op := Op.alloc 70, type := 0, pos := "l06_point.go:173", after := #[], guard := none }
abbrev dop24 : Oper := { dst := none, op := Op.store 70 (Operand.tmp 3) (Operand.tmp 12), type := 0, pos := "l06_point.go:173", after := #[{ on := 20, ground := Ground.data }, { on := 4, ground := Ground.data }, { on := 19, ground := Ground.chain }, { on := 0, ground := Ground.phase }, { on := 1, ground := Ground.phase }, { on := 2, ground := Ground.phase }, { on := 3, ground := Ground.phase }, { on := 4, ground := Ground.phase }, { on := 5, ground := Ground.textOnly Departure.lateStores }, { on := 6, ground := Ground.textOnly Departure.lateStores }, { on := 7, ground := Ground.textOnly Departure.lateStores }, { on := 8, ground := Ground.textOnly Departure.lateStores }, { on := 9, ground := Ground.textOnly Departure.lateStoresUnsure }, { on := 10, ground := Ground.textOnly Departure.lateStores }, { on := 11, ground := Ground.textOnly Departure.lateStores }, { on := 12, ground := Ground.textOnly Departure.lateStores }, { on := 13, ground := Ground.textOnly Departure.lateStores }, { on := 14, ground := Ground.textOnly Departure.lateStoresUnsure }, { on := 15, ground := Ground.textOnly Departure.lateStores }, { on := 16, ground := Ground.textOnly Departure.lateStores }, { on := 17, ground := Ground.textOnly Departure.lateStores }, { on := 18, ground := Ground.textOnly Departure.lateStores }, { on := 19, ground := Ground.textOnly Departure.lateStoresUnsure }, { on := 20, ground := Ground.phase }, { on := 21, ground := Ground.phase }, { on := 22, ground := Ground.phase }, { on := 23, ground := Ground.phase }], guard := none }
abbrev dop25 : Oper := { dst := none, op := Op.store 70 (Operand.tmp 4) (Operand.tmp 17), type := 0, pos := "l06_point.go:173", after := #[{ on := 21, ground := Ground.data }, { on := 9, ground := Ground.data }, { on := 24, ground := Ground.chain }, { on := 0, ground := Ground.phase }, { on := 1, ground := Ground.phase }, { on := 2, ground := Ground.phase }, { on := 3, ground := Ground.phase }, { on := 4, ground := Ground.phase }, { on := 5, ground := Ground.phase }, { on := 6, ground := Ground.phase }, { on := 7, ground := Ground.phase }, { on := 8, ground := Ground.phase }, { on := 9, ground := Ground.phase }, { on := 10, ground := Ground.textOnly Departure.lateStores }, { on := 11, ground := Ground.textOnly Departure.lateStores }, { on := 12, ground := Ground.textOnly Departure.lateStores }, { on := 13, ground := Ground.textOnly Departure.lateStores }, { on := 14, ground := Ground.textOnly Departure.lateStoresUnsure }, { on := 15, ground := Ground.textOnly Departure.lateStores }, { on := 16, ground := Ground.textOnly Departure.lateStores }, { on := 17, ground := Ground.textOnly Departure.lateStores }, { on := 18, ground := Ground.textOnly Departure.lateStores }, { on := 19, ground := Ground.textOnly Departure.lateStoresUnsure }, { on := 20, ground := Ground.phase }, { on := 21, ground := Ground.phase }, { on := 22, ground := Ground.phase }, { on := 23, ground := Ground.phase }, { on := 24, ground := Ground.phase }], guard := none }
abbrev dop26 : Oper := { dst := none, op := Op.store 70 (Operand.tmp 5) (Operand.tmp 22), type := 0, pos := "l06_point.go:173", after := #[{ on := 22, ground := Ground.data }, { on := 14, ground := Ground.data }, { on := 25, ground := Ground.chain }, { on := 0, ground := Ground.phase }, { on := 1, ground := Ground.phase }, { on := 2, ground := Ground.phase }, { on := 3, ground := Ground.phase }, { on := 4, ground := Ground.phase }, { on := 5, ground := Ground.phase }, { on := 6, ground := Ground.phase }, { on := 7, ground := Ground.phase }, { on := 8, ground := Ground.phase }, { on := 9, ground := Ground.phase }, { on := 10, ground := Ground.phase }, { on := 11, ground := Ground.phase }, { on := 12, ground := Ground.phase }, { on := 13, ground := Ground.phase }, { on := 14, ground := Ground.phase }, { on := 15, ground := Ground.textOnly Departure.lateStores }, { on := 16, ground := Ground.textOnly Departure.lateStores }, { on := 17, ground := Ground.textOnly Departure.lateStores }, { on := 18, ground := Ground.textOnly Departure.lateStores }, { on := 19, ground := Ground.textOnly Departure.lateStoresUnsure }, { on := 20, ground := Ground.phase }, { on := 21, ground := Ground.phase }, { on := 22, ground := Ground.phase }, { on := 23, ground := Ground.phase }, { on := 24, ground := Ground.phase }, { on := 25, ground := Ground.phase }], guard := none }
abbrev dop27 : Oper := { dst := none, op := Op.store 70 (Operand.tmp 6) (Operand.tmp 27), type := 0, pos := "l06_point.go:173", after := #[{ on := 23, ground := Ground.data }, { on := 19, ground := Ground.data }, { on := 26, ground := Ground.chain }, { on := 0, ground := Ground.phase }, { on := 1, ground := Ground.phase }, { on := 2, ground := Ground.phase }, { on := 3, ground := Ground.phase }, { on := 4, ground := Ground.phase }, { on := 5, ground := Ground.phase }, { on := 6, ground := Ground.phase }, { on := 7, ground := Ground.phase }, { on := 8, ground := Ground.phase }, { on := 9, ground := Ground.phase }, { on := 10, ground := Ground.phase }, { on := 11, ground := Ground.phase }, { on := 12, ground := Ground.phase }, { on := 13, ground := Ground.phase }, { on := 14, ground := Ground.phase }, { on := 15, ground := Ground.phase }, { on := 16, ground := Ground.phase }, { on := 17, ground := Ground.phase }, { on := 18, ground := Ground.phase }, { on := 19, ground := Ground.phase }, { on := 20, ground := Ground.phase }, { on := 21, ground := Ground.phase }, { on := 22, ground := Ground.phase }, { on := 23, ground := Ground.phase }, { on := 24, ground := Ground.phase }, { on := 25, ground := Ground.phase }, { on := 26, ground := Ground.phase }], guard := none }
/-- The slots, and which operations have come up. -/
def dAct (w : World) (P : E4) (A0 : Array Value) (u3 u4 u5 u6 u12 u17 u22 u27 : Value) : Act := { tmps := #[.agg A0, .pointer (some ⟨w.heap.size, 0, none⟩), .nilIface, u3, u4, u5, u6, undef, .pointer (some ⟨w.heap.size, 0, none⟩), .agg (I64 P.a).toArray, .pointer (some ⟨w.heap.size, 0, none⟩), .agg (I64 P.a).toArray, u12, .pointer (some ⟨w.heap.size, 16, none⟩), .agg (I64 P.b).toArray, .pointer (some ⟨w.heap.size, 16, none⟩), .agg (I64 P.b).toArray, u17, .pointer (some ⟨w.heap.size, 32, none⟩), .agg (I64 P.c).toArray, .pointer (some ⟨w.heap.size, 32, none⟩), .agg (I64 P.c).toArray, u22, .pointer (some ⟨w.heap.size, 0, none⟩), .agg (I64 P.a).toArray, .pointer (some ⟨w.heap.size, 16, none⟩), .agg (I64 P.b).toArray, u27, undef, undef, undef, undef, undef, undef, undef, undef, undef, undef, undef, undef, undef, undef, undef, undef, undef], defers := [] }
def dLst (c0 c1 c2 c3 a0 a1 a2 a3 : Bool) : Array Bool := #[true, true, true, true, c0, true, true, true, true, c1, true, true, true, true, c2, true, true, true, true, c3, a0, a1, a2, a3, false, false, false, false]
def dS (w : World) (P : E4) (W : World) : Prop := W.rangeAt w.heap.size 0 (I64 P.a) ∧ W.rangeAt w.heap.size 16 (I64 P.b) ∧ W.rangeAt w.heap.size 32 (I64 P.c)

set_option maxHeartbeats 16000000 in
theorem dblRegion {Q' : Exit → Act → World → Prop} (w : World) (P : E4) (A0 : Array Value) (xx yy oo xy : List Int) (hP : P.Ok) (Hxx : Hid (∀ Z, Vr Z 4 (I64 PL) → Calls Tryd.prog 104 #[.agg (I64 P.a).toArray, .agg (I64 P.a).toArray] Z fun e w' => e = .returned (.agg (I64 xx).toArray) ∧ Below Z.heap.size Z w')) (Hyy : Hid (∀ Z, Vr Z 4 (I64 PL) → Calls Tryd.prog 104 #[.agg (I64 P.b).toArray, .agg (I64 P.b).toArray] Z fun e w' => e = .returned (.agg (I64 yy).toArray) ∧ Below Z.heap.size Z w')) (Hoo : Hid (∀ Z, Vr Z 4 (I64 PL) → Calls Tryd.prog 104 #[.agg (I64 P.c).toArray, .agg (I64 P.c).toArray] Z fun e w' => e = .returned (.agg (I64 oo).toArray) ∧ Below Z.heap.size Z w')) (Hxy : Hid (∀ Z, Vr Z 4 (I64 PL) → Calls Tryd.prog 104 #[.agg (I64 P.a).toArray, .agg (I64 P.b).toArray] Z fun e w' => e = .returned (.agg (I64 xy).toArray) ∧ Below Z.heap.size Z w')) (kxx : feOk xx = true) (kyy : feOk yy = true) (koo : feOk oo = true) (kxy : feOk xy = true)
  (HQ : ∀ (X3 X4 X5 X6 : Nat) (V : World), DB w V P → NC w V X3 xx → NC w V X4 yy → NC w V X5 oo → NC w V X6 xy → Q' .normal (dAct w P A0 (.pointer (some ⟨X3, 0, none⟩)) (.pointer (some ⟨X4, 0, none⟩)) (.pointer (some ⟨X5, 0, none⟩)) (.pointer (some ⟨X6, 0, none⟩)) (.agg (I64 xx).toArray) (.agg (I64 yy).toArray) (.agg (I64 oo).toArray) (.agg (I64 xy).toArray)) V)
  (hQp : ∀ c (a : Act) (d : Option Tmp) (v : Value) (w : World), Q' (.panic c) (a.put d v) w → Q' (.panic c) a w)
  (W : World) (B : DB w W P) : (Code.region 1 dblOps true).wp Tryd.prog Q' { tmps := #[.agg A0, .pointer (some ⟨w.heap.size, 0, none⟩), .nilIface, undef, undef, undef, undef, undef, undef, undef, undef, undef, undef, undef, undef, undef, undef, undef, undef, undef, undef, undef, undef, undef, undef, undef, undef, undef, undef, undef, undef, undef, undef, undef, undef, undef, undef, undef, undef, undef, undef, undef, undef, undef, undef], defers := [] } W := by
 have jxx := infoL' kxx
 have iixx := infoLl kxx
 have nxx := feOk_len kxx
 have uxx := one_lm xx
 have jyy := infoL' kyy
 have iiyy := infoLl kyy
 have nyy := feOk_len kyy
 have uyy := one_lm yy
 have joo := infoL' koo
 have iioo := infoLl koo
 have noo := feOk_len koo
 have uoo := one_lm oo
 have jxy := infoL' kxy
 have iixy := infoLl kxy
 have nxy := feOk_len kxy
 have uxy := one_lm xy
 have iPa := infoLl hP.a
 have iPb := infoLl hP.b
 have iPc := infoLl hP.c
 have hu : Tryd.prog.underlying 70 = some (.array 16 3) := Tryd.underlying70
 have HQQ : Hid _ := HQ
 clear HQ
 have s4_3456 : ∀ (X3 : Nat) (X4 : Nat) (X5 : Nat) (X6 : Nat) (V : World), DB w V P → NC w V X3 Z16 → NC w V X4 Z16 → NC w V X5 Z16 → NC w V X6 Z16 → X3 ≠ X4 → X3 ≠ X5 → X3 ≠ X6 → X4 ≠ X5 → X4 ≠ X6 → X5 ≠ X6 → wpAnyH Tryd.prog .any dblOps Q' (dS w P) 4 (dLst true true true true true true true true) (dAct w P A0 (.pointer (some ⟨X3, 0, none⟩)) (.pointer (some ⟨X4, 0, none⟩)) (.pointer (some ⟨X5, 0, none⟩)) (.pointer (some ⟨X6, 0, none⟩)) (.agg (I64 xx).toArray) (.agg (I64 yy).toArray) (.agg (I64 oo).toArray) (.agg (I64 xy).toArray)) V := by
  intro X3 X4 X5 X6 V B c3 c4 c5 c6 d34 d35 d36 d45 d46 d56
  unfold dAct
  refine wpAnyH_ready (rs := [24]) (by kernel_rfl) (by simp) (AllReadyH.cons (o := dop24) rfl (fun K hK => ?_) AllReadyH.nil)
  rw [if_pos (by rfl)]
  refine wp_store_mid _ _ _ rfl _ _ (I64 xx).toArray rfl rfl (by have := arr_there c3.a; simpa [nxx] using this) jxx (all_oneCell_toArray uxx) ?_
  simp only [Act.put]
  obtain ⟨U0, hU⟩ : ∃ V_, V_ = V.setCells X3 0 (I64 xx) := ⟨_, rfl⟩
  rw [← hU]
  replace B : DB w U0 P := by rw [hU]; exact B.put c3.lt _
  have t3 : NC w U0 X3 xx := by rw [hU]; exact ⟨Arr.setCells0 c3.a (by simp [nxx]), c3.lt⟩
  have t4 : NC w U0 X4 Z16 := by rw [hU]; exact c4.put d34.symm _
  have t5 : NC w U0 X5 Z16 := by rw [hU]; exact c5.put d35.symm _
  have t6 : NC w U0 X6 Z16 := by rw [hU]; exact c6.put d36.symm _
  clear hU c3 c4 c5 c6
  have c3 := t3
  have c4 := t4
  have c5 := t5
  have c6 := t6
  clear t3 t4 t5 t6
  refine hK.out _ _ (B.all hP) (fun _ => ?_)
  clear hK K
  refine wpAnyH_ready (rs := [25]) (by kernel_rfl) (by simp) (AllReadyH.cons (o := dop25) rfl (fun K hK => ?_) AllReadyH.nil)
  rw [if_pos (by rfl)]
  refine wp_store_mid _ _ _ rfl _ _ (I64 yy).toArray rfl rfl (by have := arr_there c4.a; simpa [nyy] using this) jyy (all_oneCell_toArray uyy) ?_
  simp only [Act.put]
  obtain ⟨U1, hU⟩ : ∃ V_, V_ = U0.setCells X4 0 (I64 yy) := ⟨_, rfl⟩
  rw [← hU]
  replace B : DB w U1 P := by rw [hU]; exact B.put c4.lt _
  have t3 : NC w U1 X3 xx := by rw [hU]; exact c3.put d34 _
  have t4 : NC w U1 X4 yy := by rw [hU]; exact ⟨Arr.setCells0 c4.a (by simp [nyy]), c4.lt⟩
  have t5 : NC w U1 X5 Z16 := by rw [hU]; exact c5.put d45.symm _
  have t6 : NC w U1 X6 Z16 := by rw [hU]; exact c6.put d46.symm _
  clear hU c3 c4 c5 c6
  have c3 := t3
  have c4 := t4
  have c5 := t5
  have c6 := t6
  clear t3 t4 t5 t6
  refine hK.out _ _ (B.all hP) (fun _ => ?_)
  clear hK K
  refine wpAnyH_ready (rs := [26]) (by kernel_rfl) (by simp) (AllReadyH.cons (o := dop26) rfl (fun K hK => ?_) AllReadyH.nil)
  rw [if_pos (by rfl)]
  refine wp_store_mid _ _ _ rfl _ _ (I64 oo).toArray rfl rfl (by have := arr_there c5.a; simpa [noo] using this) joo (all_oneCell_toArray uoo) ?_
  simp only [Act.put]
  obtain ⟨U2, hU⟩ : ∃ V_, V_ = U1.setCells X5 0 (I64 oo) := ⟨_, rfl⟩
  rw [← hU]
  replace B : DB w U2 P := by rw [hU]; exact B.put c5.lt _
  have t3 : NC w U2 X3 xx := by rw [hU]; exact c3.put d35 _
  have t4 : NC w U2 X4 yy := by rw [hU]; exact c4.put d45 _
  have t5 : NC w U2 X5 oo := by rw [hU]; exact ⟨Arr.setCells0 c5.a (by simp [noo]), c5.lt⟩
  have t6 : NC w U2 X6 Z16 := by rw [hU]; exact c6.put d56.symm _
  clear hU c3 c4 c5 c6
  have c3 := t3
  have c4 := t4
  have c5 := t5
  have c6 := t6
  clear t3 t4 t5 t6
  refine hK.out _ _ (B.all hP) (fun _ => ?_)
  clear hK K
  refine wpAnyH_ready (rs := [27]) (by kernel_rfl) (by simp) (AllReadyH.cons (o := dop27) rfl (fun K hK => ?_) AllReadyH.nil)
  rw [if_pos (by rfl)]
  refine wp_store_mid _ _ _ rfl _ _ (I64 xy).toArray rfl rfl (by have := arr_there c6.a; simpa [nxy] using this) jxy (all_oneCell_toArray uxy) ?_
  simp only [Act.put]
  obtain ⟨U3, hU⟩ : ∃ V_, V_ = U2.setCells X6 0 (I64 xy) := ⟨_, rfl⟩
  rw [← hU]
  replace B : DB w U3 P := by rw [hU]; exact B.put c6.lt _
  have t3 : NC w U3 X3 xx := by rw [hU]; exact c3.put d36 _
  have t4 : NC w U3 X4 yy := by rw [hU]; exact c4.put d46 _
  have t5 : NC w U3 X5 oo := by rw [hU]; exact c5.put d56 _
  have t6 : NC w U3 X6 xy := by rw [hU]; exact ⟨Arr.setCells0 c6.a (by simp [nxy]), c6.lt⟩
  clear hU c3 c4 c5 c6
  have c3 := t3
  have c4 := t4
  have c5 := t5
  have c6 := t6
  clear t3 t4 t5 t6
  refine hK.out _ _ (B.all hP) (fun _ => ?_)
  clear hK K
  refine wpAnyH_done (by kernel_rfl) ?_ _
  exact HQQ.out X3 X4 X5 X6 U3 B c3 c4 c5 c6
 have s3_3456 : ∀ (X3 : Nat) (X4 : Nat) (X5 : Nat) (X6 : Nat) (V : World), DB w V P → NC w V X3 Z16 → NC w V X4 Z16 → NC w V X5 Z16 → NC w V X6 Z16 → X3 ≠ X4 → X3 ≠ X5 → X3 ≠ X6 → X4 ≠ X5 → X4 ≠ X6 → X5 ≠ X6 → wpAnyH Tryd.prog .any dblOps Q' (dS w P) 5 (dLst true true true false true true true true) (dAct w P A0 (.pointer (some ⟨X3, 0, none⟩)) (.pointer (some ⟨X4, 0, none⟩)) (.pointer (some ⟨X5, 0, none⟩)) (.pointer (some ⟨X6, 0, none⟩)) (.agg (I64 xx).toArray) (.agg (I64 yy).toArray) (.agg (I64 oo).toArray) undef) V := by
  intro X3 X4 X5 X6 V B c3 c4 c5 c6 d34 d35 d36 d45 d46 d56
  unfold dAct
  refine wpAnyH_ready (rs := [19]) (by kernel_rfl) (by simp) (AllReadyH.cons (o := dop19) rfl (fun K hK => ?_) AllReadyH.nil)
  ·unfold dop19
   go_simp
   refine (Hxy.out _ B.vr).mono ?_
   rintro e y ⟨rfl, hb⟩
   go_wp2_with fail
   refine hK.out _ _ ((B.go hb).all hP) (fun _ => ?_)
   exact wpAnyH_cast (by kernel_rfl) rfl (s4_3456 X3 X4 X5 X6 y (B.go hb) (c3.go hb) (c4.go hb) (c5.go hb) (c6.go hb) d34 d35 d36 d45 d46 d56)
 have s2_3456 : ∀ (X3 : Nat) (X4 : Nat) (X5 : Nat) (X6 : Nat) (V : World), DB w V P → NC w V X3 Z16 → NC w V X4 Z16 → NC w V X5 Z16 → NC w V X6 Z16 → X3 ≠ X4 → X3 ≠ X5 → X3 ≠ X6 → X4 ≠ X5 → X4 ≠ X6 → X5 ≠ X6 → wpAnyH Tryd.prog .any dblOps Q' (dS w P) 6 (dLst true true false false true true true true) (dAct w P A0 (.pointer (some ⟨X3, 0, none⟩)) (.pointer (some ⟨X4, 0, none⟩)) (.pointer (some ⟨X5, 0, none⟩)) (.pointer (some ⟨X6, 0, none⟩)) (.agg (I64 xx).toArray) (.agg (I64 yy).toArray) undef undef) V := by
  intro X3 X4 X5 X6 V B c3 c4 c5 c6 d34 d35 d36 d45 d46 d56
  unfold dAct
  refine wpAnyH_ready (rs := [14]) (by kernel_rfl) (by simp) (AllReadyH.cons (o := dop14) rfl (fun K hK => ?_) AllReadyH.nil)
  ·unfold dop14
   go_simp
   refine (Hoo.out _ B.vr).mono ?_
   rintro e y ⟨rfl, hb⟩
   go_wp2_with fail
   refine hK.out _ _ ((B.go hb).all hP) (fun _ => ?_)
   exact wpAnyH_cast (by kernel_rfl) rfl (s3_3456 X3 X4 X5 X6 y (B.go hb) (c3.go hb) (c4.go hb) (c5.go hb) (c6.go hb) d34 d35 d36 d45 d46 d56)
 have s1_3456 : ∀ (X3 : Nat) (X4 : Nat) (X5 : Nat) (X6 : Nat) (V : World), DB w V P → NC w V X3 Z16 → NC w V X4 Z16 → NC w V X5 Z16 → NC w V X6 Z16 → X3 ≠ X4 → X3 ≠ X5 → X3 ≠ X6 → X4 ≠ X5 → X4 ≠ X6 → X5 ≠ X6 → wpAnyH Tryd.prog .any dblOps Q' (dS w P) 7 (dLst true false false false true true true true) (dAct w P A0 (.pointer (some ⟨X3, 0, none⟩)) (.pointer (some ⟨X4, 0, none⟩)) (.pointer (some ⟨X5, 0, none⟩)) (.pointer (some ⟨X6, 0, none⟩)) (.agg (I64 xx).toArray) undef undef undef) V := by
  intro X3 X4 X5 X6 V B c3 c4 c5 c6 d34 d35 d36 d45 d46 d56
  unfold dAct
  refine wpAnyH_ready (rs := [9]) (by kernel_rfl) (by simp) (AllReadyH.cons (o := dop9) rfl (fun K hK => ?_) AllReadyH.nil)
  ·unfold dop9
   go_simp
   refine (Hyy.out _ B.vr).mono ?_
   rintro e y ⟨rfl, hb⟩
   go_wp2_with fail
   refine hK.out _ _ ((B.go hb).all hP) (fun _ => ?_)
   exact wpAnyH_cast (by kernel_rfl) rfl (s2_3456 X3 X4 X5 X6 y (B.go hb) (c3.go hb) (c4.go hb) (c5.go hb) (c6.go hb) d34 d35 d36 d45 d46 d56)
 have s0_3456 : ∀ (X3 : Nat) (X4 : Nat) (X5 : Nat) (X6 : Nat) (V : World), DB w V P → NC w V X3 Z16 → NC w V X4 Z16 → NC w V X5 Z16 → NC w V X6 Z16 → X3 ≠ X4 → X3 ≠ X5 → X3 ≠ X6 → X4 ≠ X5 → X4 ≠ X6 → X5 ≠ X6 → wpAnyH Tryd.prog .any dblOps Q' (dS w P) 8 (dLst false false false false true true true true) (dAct w P A0 (.pointer (some ⟨X3, 0, none⟩)) (.pointer (some ⟨X4, 0, none⟩)) (.pointer (some ⟨X5, 0, none⟩)) (.pointer (some ⟨X6, 0, none⟩)) undef undef undef undef) V := by
  intro X3 X4 X5 X6 V B c3 c4 c5 c6 d34 d35 d36 d45 d46 d56
  unfold dAct
  refine wpAnyH_ready (rs := [4]) (by kernel_rfl) (by simp) (AllReadyH.cons (o := dop4) rfl (fun K hK => ?_) AllReadyH.nil)
  ·unfold dop4
   go_simp
   refine (Hxx.out _ B.vr).mono ?_
   rintro e y ⟨rfl, hb⟩
   go_wp2_with fail
   refine hK.out _ _ ((B.go hb).all hP) (fun _ => ?_)
   exact wpAnyH_cast (by kernel_rfl) rfl (s1_3456 X3 X4 X5 X6 y (B.go hb) (c3.go hb) (c4.go hb) (c5.go hb) (c6.go hb) d34 d35 d36 d45 d46 d56)
 have s4_345 : ∀ (X3 : Nat) (X4 : Nat) (X5 : Nat) (V : World), DB w V P → NC w V X3 Z16 → NC w V X4 Z16 → NC w V X5 Z16 → X3 ≠ X4 → X3 ≠ X5 → X4 ≠ X5 → wpAnyH Tryd.prog .any dblOps Q' (dS w P) 5 (dLst true true true true true true true false) (dAct w P A0 (.pointer (some ⟨X3, 0, none⟩)) (.pointer (some ⟨X4, 0, none⟩)) (.pointer (some ⟨X5, 0, none⟩)) undef (.agg (I64 xx).toArray) (.agg (I64 yy).toArray) (.agg (I64 oo).toArray) (.agg (I64 xy).toArray)) V := by
  intro X3 X4 X5 V B c3 c4 c5 d34 d35 d45
  unfold dAct
  refine wpAnyH_ready (rs := [23]) (by kernel_rfl) (by simp) (AllReadyH.cons (o := dop23) rfl (fun K hK => ?_) AllReadyH.nil)
  ·unfold dop23
   go_simp
   refine hK.out _ _ (B.al.all hP) (fun _ => ?_)
   exact wpAnyH_cast (by kernel_rfl) rfl (s4_3456 X3 X4 X5 V.heap.size _ B.al c3.al c4.al c5.al (NC.new B) d34 d35 c3.far d45 c4.far c5.far)
 have s4_346 : ∀ (X3 : Nat) (X4 : Nat) (X6 : Nat) (V : World), DB w V P → NC w V X3 Z16 → NC w V X4 Z16 → NC w V X6 Z16 → X3 ≠ X4 → X3 ≠ X6 → X4 ≠ X6 → wpAnyH Tryd.prog .any dblOps Q' (dS w P) 5 (dLst true true true true true true false true) (dAct w P A0 (.pointer (some ⟨X3, 0, none⟩)) (.pointer (some ⟨X4, 0, none⟩)) undef (.pointer (some ⟨X6, 0, none⟩)) (.agg (I64 xx).toArray) (.agg (I64 yy).toArray) (.agg (I64 oo).toArray) (.agg (I64 xy).toArray)) V := by
  intro X3 X4 X6 V B c3 c4 c6 d34 d36 d46
  unfold dAct
  refine wpAnyH_ready (rs := [22]) (by kernel_rfl) (by simp) (AllReadyH.cons (o := dop22) rfl (fun K hK => ?_) AllReadyH.nil)
  ·unfold dop22
   go_simp
   refine hK.out _ _ (B.al.all hP) (fun _ => ?_)
   exact wpAnyH_cast (by kernel_rfl) rfl (s4_3456 X3 X4 V.heap.size X6 _ B.al c3.al c4.al (NC.new B) c6.al d34 c3.far d36 c4.far d46 c6.far.symm)
 have s4_356 : ∀ (X3 : Nat) (X5 : Nat) (X6 : Nat) (V : World), DB w V P → NC w V X3 Z16 → NC w V X5 Z16 → NC w V X6 Z16 → X3 ≠ X5 → X3 ≠ X6 → X5 ≠ X6 → wpAnyH Tryd.prog .any dblOps Q' (dS w P) 5 (dLst true true true true true false true true) (dAct w P A0 (.pointer (some ⟨X3, 0, none⟩)) undef (.pointer (some ⟨X5, 0, none⟩)) (.pointer (some ⟨X6, 0, none⟩)) (.agg (I64 xx).toArray) (.agg (I64 yy).toArray) (.agg (I64 oo).toArray) (.agg (I64 xy).toArray)) V := by
  intro X3 X5 X6 V B c3 c5 c6 d35 d36 d56
  unfold dAct
  refine wpAnyH_ready (rs := [21]) (by kernel_rfl) (by simp) (AllReadyH.cons (o := dop21) rfl (fun K hK => ?_) AllReadyH.nil)
  ·unfold dop21
   go_simp
   refine hK.out _ _ (B.al.all hP) (fun _ => ?_)
   exact wpAnyH_cast (by kernel_rfl) rfl (s4_3456 X3 V.heap.size X5 X6 _ B.al c3.al (NC.new B) c5.al c6.al c3.far d35 d36 c5.far.symm c6.far.symm d56)
 have s4_456 : ∀ (X4 : Nat) (X5 : Nat) (X6 : Nat) (V : World), DB w V P → NC w V X4 Z16 → NC w V X5 Z16 → NC w V X6 Z16 → X4 ≠ X5 → X4 ≠ X6 → X5 ≠ X6 → wpAnyH Tryd.prog .any dblOps Q' (dS w P) 5 (dLst true true true true false true true true) (dAct w P A0 undef (.pointer (some ⟨X4, 0, none⟩)) (.pointer (some ⟨X5, 0, none⟩)) (.pointer (some ⟨X6, 0, none⟩)) (.agg (I64 xx).toArray) (.agg (I64 yy).toArray) (.agg (I64 oo).toArray) (.agg (I64 xy).toArray)) V := by
  intro X4 X5 X6 V B c4 c5 c6 d45 d46 d56
  unfold dAct
  refine wpAnyH_ready (rs := [20]) (by kernel_rfl) (by simp) (AllReadyH.cons (o := dop20) rfl (fun K hK => ?_) AllReadyH.nil)
  ·unfold dop20
   go_simp
   refine hK.out _ _ (B.al.all hP) (fun _ => ?_)
   exact wpAnyH_cast (by kernel_rfl) rfl (s4_3456 V.heap.size X4 X5 X6 _ B.al (NC.new B) c4.al c5.al c6.al c4.far.symm c5.far.symm c6.far.symm d45 d46 d56)
 have s3_345 : ∀ (X3 : Nat) (X4 : Nat) (X5 : Nat) (V : World), DB w V P → NC w V X3 Z16 → NC w V X4 Z16 → NC w V X5 Z16 → X3 ≠ X4 → X3 ≠ X5 → X4 ≠ X5 → wpAnyH Tryd.prog .any dblOps Q' (dS w P) 6 (dLst true true true false true true true false) (dAct w P A0 (.pointer (some ⟨X3, 0, none⟩)) (.pointer (some ⟨X4, 0, none⟩)) (.pointer (some ⟨X5, 0, none⟩)) undef (.agg (I64 xx).toArray) (.agg (I64 yy).toArray) (.agg (I64 oo).toArray) undef) V := by
  intro X3 X4 X5 V B c3 c4 c5 d34 d35 d45
  unfold dAct
  refine wpAnyH_ready (rs := [19, 23]) (by kernel_rfl) (by simp) (AllReadyH.cons (o := dop19) rfl (fun K hK => ?_) (AllReadyH.cons (o := dop23) rfl (fun K hK => ?_) AllReadyH.nil))
  ·unfold dop19
   go_simp
   refine (Hxy.out _ B.vr).mono ?_
   rintro e y ⟨rfl, hb⟩
   go_wp2_with fail
   refine hK.out _ _ ((B.go hb).all hP) (fun _ => ?_)
   exact wpAnyH_cast (by kernel_rfl) rfl (s4_345 X3 X4 X5 y (B.go hb) (c3.go hb) (c4.go hb) (c5.go hb) d34 d35 d45)
  ·unfold dop23
   go_simp
   refine hK.out _ _ (B.al.all hP) (fun _ => ?_)
   exact wpAnyH_cast (by kernel_rfl) rfl (s3_3456 X3 X4 X5 V.heap.size _ B.al c3.al c4.al c5.al (NC.new B) d34 d35 c3.far d45 c4.far c5.far)
 have s3_346 : ∀ (X3 : Nat) (X4 : Nat) (X6 : Nat) (V : World), DB w V P → NC w V X3 Z16 → NC w V X4 Z16 → NC w V X6 Z16 → X3 ≠ X4 → X3 ≠ X6 → X4 ≠ X6 → wpAnyH Tryd.prog .any dblOps Q' (dS w P) 6 (dLst true true true false true true false true) (dAct w P A0 (.pointer (some ⟨X3, 0, none⟩)) (.pointer (some ⟨X4, 0, none⟩)) undef (.pointer (some ⟨X6, 0, none⟩)) (.agg (I64 xx).toArray) (.agg (I64 yy).toArray) (.agg (I64 oo).toArray) undef) V := by
  intro X3 X4 X6 V B c3 c4 c6 d34 d36 d46
  unfold dAct
  refine wpAnyH_ready (rs := [19, 22]) (by kernel_rfl) (by simp) (AllReadyH.cons (o := dop19) rfl (fun K hK => ?_) (AllReadyH.cons (o := dop22) rfl (fun K hK => ?_) AllReadyH.nil))
  ·unfold dop19
   go_simp
   refine (Hxy.out _ B.vr).mono ?_
   rintro e y ⟨rfl, hb⟩
   go_wp2_with fail
   refine hK.out _ _ ((B.go hb).all hP) (fun _ => ?_)
   exact wpAnyH_cast (by kernel_rfl) rfl (s4_346 X3 X4 X6 y (B.go hb) (c3.go hb) (c4.go hb) (c6.go hb) d34 d36 d46)
  ·unfold dop22
   go_simp
   refine hK.out _ _ (B.al.all hP) (fun _ => ?_)
   exact wpAnyH_cast (by kernel_rfl) rfl (s3_3456 X3 X4 V.heap.size X6 _ B.al c3.al c4.al (NC.new B) c6.al d34 c3.far d36 c4.far d46 c6.far.symm)
 have s3_356 : ∀ (X3 : Nat) (X5 : Nat) (X6 : Nat) (V : World), DB w V P → NC w V X3 Z16 → NC w V X5 Z16 → NC w V X6 Z16 → X3 ≠ X5 → X3 ≠ X6 → X5 ≠ X6 → wpAnyH Tryd.prog .any dblOps Q' (dS w P) 6 (dLst true true true false true false true true) (dAct w P A0 (.pointer (some ⟨X3, 0, none⟩)) undef (.pointer (some ⟨X5, 0, none⟩)) (.pointer (some ⟨X6, 0, none⟩)) (.agg (I64 xx).toArray) (.agg (I64 yy).toArray) (.agg (I64 oo).toArray) undef) V := by
  intro X3 X5 X6 V B c3 c5 c6 d35 d36 d56
  unfold dAct
  refine wpAnyH_ready (rs := [19, 21]) (by kernel_rfl) (by simp) (AllReadyH.cons (o := dop19) rfl (fun K hK => ?_) (AllReadyH.cons (o := dop21) rfl (fun K hK => ?_) AllReadyH.nil))
  ·unfold dop19
   go_simp
   refine (Hxy.out _ B.vr).mono ?_
   rintro e y ⟨rfl, hb⟩
   go_wp2_with fail
   refine hK.out _ _ ((B.go hb).all hP) (fun _ => ?_)
   exact wpAnyH_cast (by kernel_rfl) rfl (s4_356 X3 X5 X6 y (B.go hb) (c3.go hb) (c5.go hb) (c6.go hb) d35 d36 d56)
  ·unfold dop21
   go_simp
   refine hK.out _ _ (B.al.all hP) (fun _ => ?_)
   exact wpAnyH_cast (by kernel_rfl) rfl (s3_3456 X3 V.heap.size X5 X6 _ B.al c3.al (NC.new B) c5.al c6.al c3.far d35 d36 c5.far.symm c6.far.symm d56)
 have s3_456 : ∀ (X4 : Nat) (X5 : Nat) (X6 : Nat) (V : World), DB w V P → NC w V X4 Z16 → NC w V X5 Z16 → NC w V X6 Z16 → X4 ≠ X5 → X4 ≠ X6 → X5 ≠ X6 → wpAnyH Tryd.prog .any dblOps Q' (dS w P) 6 (dLst true true true false false true true true) (dAct w P A0 undef (.pointer (some ⟨X4, 0, none⟩)) (.pointer (some ⟨X5, 0, none⟩)) (.pointer (some ⟨X6, 0, none⟩)) (.agg (I64 xx).toArray) (.agg (I64 yy).toArray) (.agg (I64 oo).toArray) undef) V := by
  intro X4 X5 X6 V B c4 c5 c6 d45 d46 d56
  unfold dAct
  refine wpAnyH_ready (rs := [19, 20]) (by kernel_rfl) (by simp) (AllReadyH.cons (o := dop19) rfl (fun K hK => ?_) (AllReadyH.cons (o := dop20) rfl (fun K hK => ?_) AllReadyH.nil))
  ·unfold dop19
   go_simp
   refine (Hxy.out _ B.vr).mono ?_
   rintro e y ⟨rfl, hb⟩
   go_wp2_with fail
   refine hK.out _ _ ((B.go hb).all hP) (fun _ => ?_)
   exact wpAnyH_cast (by kernel_rfl) rfl (s4_456 X4 X5 X6 y (B.go hb) (c4.go hb) (c5.go hb) (c6.go hb) d45 d46 d56)
  ·unfold dop20
   go_simp
   refine hK.out _ _ (B.al.all hP) (fun _ => ?_)
   exact wpAnyH_cast (by kernel_rfl) rfl (s3_3456 V.heap.size X4 X5 X6 _ B.al (NC.new B) c4.al c5.al c6.al c4.far.symm c5.far.symm c6.far.symm d45 d46 d56)
 have s2_345 : ∀ (X3 : Nat) (X4 : Nat) (X5 : Nat) (V : World), DB w V P → NC w V X3 Z16 → NC w V X4 Z16 → NC w V X5 Z16 → X3 ≠ X4 → X3 ≠ X5 → X4 ≠ X5 → wpAnyH Tryd.prog .any dblOps Q' (dS w P) 7 (dLst true true false false true true true false) (dAct w P A0 (.pointer (some ⟨X3, 0, none⟩)) (.pointer (some ⟨X4, 0, none⟩)) (.pointer (some ⟨X5, 0, none⟩)) undef (.agg (I64 xx).toArray) (.agg (I64 yy).toArray) undef undef) V := by
  intro X3 X4 X5 V B c3 c4 c5 d34 d35 d45
  unfold dAct
  refine wpAnyH_ready (rs := [14, 23]) (by kernel_rfl) (by simp) (AllReadyH.cons (o := dop14) rfl (fun K hK => ?_) (AllReadyH.cons (o := dop23) rfl (fun K hK => ?_) AllReadyH.nil))
  ·unfold dop14
   go_simp
   refine (Hoo.out _ B.vr).mono ?_
   rintro e y ⟨rfl, hb⟩
   go_wp2_with fail
   refine hK.out _ _ ((B.go hb).all hP) (fun _ => ?_)
   exact wpAnyH_cast (by kernel_rfl) rfl (s3_345 X3 X4 X5 y (B.go hb) (c3.go hb) (c4.go hb) (c5.go hb) d34 d35 d45)
  ·unfold dop23
   go_simp
   refine hK.out _ _ (B.al.all hP) (fun _ => ?_)
   exact wpAnyH_cast (by kernel_rfl) rfl (s2_3456 X3 X4 X5 V.heap.size _ B.al c3.al c4.al c5.al (NC.new B) d34 d35 c3.far d45 c4.far c5.far)
 have s2_346 : ∀ (X3 : Nat) (X4 : Nat) (X6 : Nat) (V : World), DB w V P → NC w V X3 Z16 → NC w V X4 Z16 → NC w V X6 Z16 → X3 ≠ X4 → X3 ≠ X6 → X4 ≠ X6 → wpAnyH Tryd.prog .any dblOps Q' (dS w P) 7 (dLst true true false false true true false true) (dAct w P A0 (.pointer (some ⟨X3, 0, none⟩)) (.pointer (some ⟨X4, 0, none⟩)) undef (.pointer (some ⟨X6, 0, none⟩)) (.agg (I64 xx).toArray) (.agg (I64 yy).toArray) undef undef) V := by
  intro X3 X4 X6 V B c3 c4 c6 d34 d36 d46
  unfold dAct
  refine wpAnyH_ready (rs := [14, 22]) (by kernel_rfl) (by simp) (AllReadyH.cons (o := dop14) rfl (fun K hK => ?_) (AllReadyH.cons (o := dop22) rfl (fun K hK => ?_) AllReadyH.nil))
  ·unfold dop14
   go_simp
   refine (Hoo.out _ B.vr).mono ?_
   rintro e y ⟨rfl, hb⟩
   go_wp2_with fail
   refine hK.out _ _ ((B.go hb).all hP) (fun _ => ?_)
   exact wpAnyH_cast (by kernel_rfl) rfl (s3_346 X3 X4 X6 y (B.go hb) (c3.go hb) (c4.go hb) (c6.go hb) d34 d36 d46)
  ·unfold dop22
   go_simp
   refine hK.out _ _ (B.al.all hP) (fun _ => ?_)
   exact wpAnyH_cast (by kernel_rfl) rfl (s2_3456 X3 X4 V.heap.size X6 _ B.al c3.al c4.al (NC.new B) c6.al d34 c3.far d36 c4.far d46 c6.far.symm)
 have s2_356 : ∀ (X3 : Nat) (X5 : Nat) (X6 : Nat) (V : World), DB w V P → NC w V X3 Z16 → NC w V X5 Z16 → NC w V X6 Z16 → X3 ≠ X5 → X3 ≠ X6 → X5 ≠ X6 → wpAnyH Tryd.prog .any dblOps Q' (dS w P) 7 (dLst true true false false true false true true) (dAct w P A0 (.pointer (some ⟨X3, 0, none⟩)) undef (.pointer (some ⟨X5, 0, none⟩)) (.pointer (some ⟨X6, 0, none⟩)) (.agg (I64 xx).toArray) (.agg (I64 yy).toArray) undef undef) V := by
  intro X3 X5 X6 V B c3 c5 c6 d35 d36 d56
  unfold dAct
  refine wpAnyH_ready (rs := [14, 21]) (by kernel_rfl) (by simp) (AllReadyH.cons (o := dop14) rfl (fun K hK => ?_) (AllReadyH.cons (o := dop21) rfl (fun K hK => ?_) AllReadyH.nil))
  ·unfold dop14
   go_simp
   refine (Hoo.out _ B.vr).mono ?_
   rintro e y ⟨rfl, hb⟩
   go_wp2_with fail
   refine hK.out _ _ ((B.go hb).all hP) (fun _ => ?_)
   exact wpAnyH_cast (by kernel_rfl) rfl (s3_356 X3 X5 X6 y (B.go hb) (c3.go hb) (c5.go hb) (c6.go hb) d35 d36 d56)
  ·unfold dop21
   go_simp
   refine hK.out _ _ (B.al.all hP) (fun _ => ?_)
   exact wpAnyH_cast (by kernel_rfl) rfl (s2_3456 X3 V.heap.size X5 X6 _ B.al c3.al (NC.new B) c5.al c6.al c3.far d35 d36 c5.far.symm c6.far.symm d56)
 have s2_456 : ∀ (X4 : Nat) (X5 : Nat) (X6 : Nat) (V : World), DB w V P → NC w V X4 Z16 → NC w V X5 Z16 → NC w V X6 Z16 → X4 ≠ X5 → X4 ≠ X6 → X5 ≠ X6 → wpAnyH Tryd.prog .any dblOps Q' (dS w P) 7 (dLst true true false false false true true true) (dAct w P A0 undef (.pointer (some ⟨X4, 0, none⟩)) (.pointer (some ⟨X5, 0, none⟩)) (.pointer (some ⟨X6, 0, none⟩)) (.agg (I64 xx).toArray) (.agg (I64 yy).toArray) undef undef) V := by
  intro X4 X5 X6 V B c4 c5 c6 d45 d46 d56
  unfold dAct
  refine wpAnyH_ready (rs := [14, 20]) (by kernel_rfl) (by simp) (AllReadyH.cons (o := dop14) rfl (fun K hK => ?_) (AllReadyH.cons (o := dop20) rfl (fun K hK => ?_) AllReadyH.nil))
  ·unfold dop14
   go_simp
   refine (Hoo.out _ B.vr).mono ?_
   rintro e y ⟨rfl, hb⟩
   go_wp2_with fail
   refine hK.out _ _ ((B.go hb).all hP) (fun _ => ?_)
   exact wpAnyH_cast (by kernel_rfl) rfl (s3_456 X4 X5 X6 y (B.go hb) (c4.go hb) (c5.go hb) (c6.go hb) d45 d46 d56)
  ·unfold dop20
   go_simp
   refine hK.out _ _ (B.al.all hP) (fun _ => ?_)
   exact wpAnyH_cast (by kernel_rfl) rfl (s2_3456 V.heap.size X4 X5 X6 _ B.al (NC.new B) c4.al c5.al c6.al c4.far.symm c5.far.symm c6.far.symm d45 d46 d56)
 have s1_345 : ∀ (X3 : Nat) (X4 : Nat) (X5 : Nat) (V : World), DB w V P → NC w V X3 Z16 → NC w V X4 Z16 → NC w V X5 Z16 → X3 ≠ X4 → X3 ≠ X5 → X4 ≠ X5 → wpAnyH Tryd.prog .any dblOps Q' (dS w P) 8 (dLst true false false false true true true false) (dAct w P A0 (.pointer (some ⟨X3, 0, none⟩)) (.pointer (some ⟨X4, 0, none⟩)) (.pointer (some ⟨X5, 0, none⟩)) undef (.agg (I64 xx).toArray) undef undef undef) V := by
  intro X3 X4 X5 V B c3 c4 c5 d34 d35 d45
  unfold dAct
  refine wpAnyH_ready (rs := [9, 23]) (by kernel_rfl) (by simp) (AllReadyH.cons (o := dop9) rfl (fun K hK => ?_) (AllReadyH.cons (o := dop23) rfl (fun K hK => ?_) AllReadyH.nil))
  ·unfold dop9
   go_simp
   refine (Hyy.out _ B.vr).mono ?_
   rintro e y ⟨rfl, hb⟩
   go_wp2_with fail
   refine hK.out _ _ ((B.go hb).all hP) (fun _ => ?_)
   exact wpAnyH_cast (by kernel_rfl) rfl (s2_345 X3 X4 X5 y (B.go hb) (c3.go hb) (c4.go hb) (c5.go hb) d34 d35 d45)
  ·unfold dop23
   go_simp
   refine hK.out _ _ (B.al.all hP) (fun _ => ?_)
   exact wpAnyH_cast (by kernel_rfl) rfl (s1_3456 X3 X4 X5 V.heap.size _ B.al c3.al c4.al c5.al (NC.new B) d34 d35 c3.far d45 c4.far c5.far)
 have s1_346 : ∀ (X3 : Nat) (X4 : Nat) (X6 : Nat) (V : World), DB w V P → NC w V X3 Z16 → NC w V X4 Z16 → NC w V X6 Z16 → X3 ≠ X4 → X3 ≠ X6 → X4 ≠ X6 → wpAnyH Tryd.prog .any dblOps Q' (dS w P) 8 (dLst true false false false true true false true) (dAct w P A0 (.pointer (some ⟨X3, 0, none⟩)) (.pointer (some ⟨X4, 0, none⟩)) undef (.pointer (some ⟨X6, 0, none⟩)) (.agg (I64 xx).toArray) undef undef undef) V := by
  intro X3 X4 X6 V B c3 c4 c6 d34 d36 d46
  unfold dAct
  refine wpAnyH_ready (rs := [9, 22]) (by kernel_rfl) (by simp) (AllReadyH.cons (o := dop9) rfl (fun K hK => ?_) (AllReadyH.cons (o := dop22) rfl (fun K hK => ?_) AllReadyH.nil))
  ·unfold dop9
   go_simp
   refine (Hyy.out _ B.vr).mono ?_
   rintro e y ⟨rfl, hb⟩
   go_wp2_with fail
   refine hK.out _ _ ((B.go hb).all hP) (fun _ => ?_)
   exact wpAnyH_cast (by kernel_rfl) rfl (s2_346 X3 X4 X6 y (B.go hb) (c3.go hb) (c4.go hb) (c6.go hb) d34 d36 d46)
  ·unfold dop22
   go_simp
   refine hK.out _ _ (B.al.all hP) (fun _ => ?_)
   exact wpAnyH_cast (by kernel_rfl) rfl (s1_3456 X3 X4 V.heap.size X6 _ B.al c3.al c4.al (NC.new B) c6.al d34 c3.far d36 c4.far d46 c6.far.symm)
 have s1_356 : ∀ (X3 : Nat) (X5 : Nat) (X6 : Nat) (V : World), DB w V P → NC w V X3 Z16 → NC w V X5 Z16 → NC w V X6 Z16 → X3 ≠ X5 → X3 ≠ X6 → X5 ≠ X6 → wpAnyH Tryd.prog .any dblOps Q' (dS w P) 8 (dLst true false false false true false true true) (dAct w P A0 (.pointer (some ⟨X3, 0, none⟩)) undef (.pointer (some ⟨X5, 0, none⟩)) (.pointer (some ⟨X6, 0, none⟩)) (.agg (I64 xx).toArray) undef undef undef) V := by
  intro X3 X5 X6 V B c3 c5 c6 d35 d36 d56
  unfold dAct
  refine wpAnyH_ready (rs := [9, 21]) (by kernel_rfl) (by simp) (AllReadyH.cons (o := dop9) rfl (fun K hK => ?_) (AllReadyH.cons (o := dop21) rfl (fun K hK => ?_) AllReadyH.nil))
  ·unfold dop9
   go_simp
   refine (Hyy.out _ B.vr).mono ?_
   rintro e y ⟨rfl, hb⟩
   go_wp2_with fail
   refine hK.out _ _ ((B.go hb).all hP) (fun _ => ?_)
   exact wpAnyH_cast (by kernel_rfl) rfl (s2_356 X3 X5 X6 y (B.go hb) (c3.go hb) (c5.go hb) (c6.go hb) d35 d36 d56)
  ·unfold dop21
   go_simp
   refine hK.out _ _ (B.al.all hP) (fun _ => ?_)
   exact wpAnyH_cast (by kernel_rfl) rfl (s1_3456 X3 V.heap.size X5 X6 _ B.al c3.al (NC.new B) c5.al c6.al c3.far d35 d36 c5.far.symm c6.far.symm d56)
 have s1_456 : ∀ (X4 : Nat) (X5 : Nat) (X6 : Nat) (V : World), DB w V P → NC w V X4 Z16 → NC w V X5 Z16 → NC w V X6 Z16 → X4 ≠ X5 → X4 ≠ X6 → X5 ≠ X6 → wpAnyH Tryd.prog .any dblOps Q' (dS w P) 8 (dLst true false false false false true true true) (dAct w P A0 undef (.pointer (some ⟨X4, 0, none⟩)) (.pointer (some ⟨X5, 0, none⟩)) (.pointer (some ⟨X6, 0, none⟩)) (.agg (I64 xx).toArray) undef undef undef) V := by
  intro X4 X5 X6 V B c4 c5 c6 d45 d46 d56
  unfold dAct
  refine wpAnyH_ready (rs := [9, 20]) (by kernel_rfl) (by simp) (AllReadyH.cons (o := dop9) rfl (fun K hK => ?_) (AllReadyH.cons (o := dop20) rfl (fun K hK => ?_) AllReadyH.nil))
  ·unfold dop9
   go_simp
   refine (Hyy.out _ B.vr).mono ?_
   rintro e y ⟨rfl, hb⟩
   go_wp2_with fail
   refine hK.out _ _ ((B.go hb).all hP) (fun _ => ?_)
   exact wpAnyH_cast (by kernel_rfl) rfl (s2_456 X4 X5 X6 y (B.go hb) (c4.go hb) (c5.go hb) (c6.go hb) d45 d46 d56)
  ·unfold dop20
   go_simp
   refine hK.out _ _ (B.al.all hP) (fun _ => ?_)
   exact wpAnyH_cast (by kernel_rfl) rfl (s1_3456 V.heap.size X4 X5 X6 _ B.al (NC.new B) c4.al c5.al c6.al c4.far.symm c5.far.symm c6.far.symm d45 d46 d56)
 have s0_345 : ∀ (X3 : Nat) (X4 : Nat) (X5 : Nat) (V : World), DB w V P → NC w V X3 Z16 → NC w V X4 Z16 → NC w V X5 Z16 → X3 ≠ X4 → X3 ≠ X5 → X4 ≠ X5 → wpAnyH Tryd.prog .any dblOps Q' (dS w P) 9 (dLst false false false false true true true false) (dAct w P A0 (.pointer (some ⟨X3, 0, none⟩)) (.pointer (some ⟨X4, 0, none⟩)) (.pointer (some ⟨X5, 0, none⟩)) undef undef undef undef undef) V := by
  intro X3 X4 X5 V B c3 c4 c5 d34 d35 d45
  unfold dAct
  refine wpAnyH_ready (rs := [4, 23]) (by kernel_rfl) (by simp) (AllReadyH.cons (o := dop4) rfl (fun K hK => ?_) (AllReadyH.cons (o := dop23) rfl (fun K hK => ?_) AllReadyH.nil))
  ·unfold dop4
   go_simp
   refine (Hxx.out _ B.vr).mono ?_
   rintro e y ⟨rfl, hb⟩
   go_wp2_with fail
   refine hK.out _ _ ((B.go hb).all hP) (fun _ => ?_)
   exact wpAnyH_cast (by kernel_rfl) rfl (s1_345 X3 X4 X5 y (B.go hb) (c3.go hb) (c4.go hb) (c5.go hb) d34 d35 d45)
  ·unfold dop23
   go_simp
   refine hK.out _ _ (B.al.all hP) (fun _ => ?_)
   exact wpAnyH_cast (by kernel_rfl) rfl (s0_3456 X3 X4 X5 V.heap.size _ B.al c3.al c4.al c5.al (NC.new B) d34 d35 c3.far d45 c4.far c5.far)
 have s0_346 : ∀ (X3 : Nat) (X4 : Nat) (X6 : Nat) (V : World), DB w V P → NC w V X3 Z16 → NC w V X4 Z16 → NC w V X6 Z16 → X3 ≠ X4 → X3 ≠ X6 → X4 ≠ X6 → wpAnyH Tryd.prog .any dblOps Q' (dS w P) 9 (dLst false false false false true true false true) (dAct w P A0 (.pointer (some ⟨X3, 0, none⟩)) (.pointer (some ⟨X4, 0, none⟩)) undef (.pointer (some ⟨X6, 0, none⟩)) undef undef undef undef) V := by
  intro X3 X4 X6 V B c3 c4 c6 d34 d36 d46
  unfold dAct
  refine wpAnyH_ready (rs := [4, 22]) (by kernel_rfl) (by simp) (AllReadyH.cons (o := dop4) rfl (fun K hK => ?_) (AllReadyH.cons (o := dop22) rfl (fun K hK => ?_) AllReadyH.nil))
  ·unfold dop4
   go_simp
   refine (Hxx.out _ B.vr).mono ?_
   rintro e y ⟨rfl, hb⟩
   go_wp2_with fail
   refine hK.out _ _ ((B.go hb).all hP) (fun _ => ?_)
   exact wpAnyH_cast (by kernel_rfl) rfl (s1_346 X3 X4 X6 y (B.go hb) (c3.go hb) (c4.go hb) (c6.go hb) d34 d36 d46)
  ·unfold dop22
   go_simp
   refine hK.out _ _ (B.al.all hP) (fun _ => ?_)
   exact wpAnyH_cast (by kernel_rfl) rfl (s0_3456 X3 X4 V.heap.size X6 _ B.al c3.al c4.al (NC.new B) c6.al d34 c3.far d36 c4.far d46 c6.far.symm)
 have s0_356 : ∀ (X3 : Nat) (X5 : Nat) (X6 : Nat) (V : World), DB w V P → NC w V X3 Z16 → NC w V X5 Z16 → NC w V X6 Z16 → X3 ≠ X5 → X3 ≠ X6 → X5 ≠ X6 → wpAnyH Tryd.prog .any dblOps Q' (dS w P) 9 (dLst false false false false true false true true) (dAct w P A0 (.pointer (some ⟨X3, 0, none⟩)) undef (.pointer (some ⟨X5, 0, none⟩)) (.pointer (some ⟨X6, 0, none⟩)) undef undef undef undef) V := by
  intro X3 X5 X6 V B c3 c5 c6 d35 d36 d56
  unfold dAct
  refine wpAnyH_ready (rs := [4, 21]) (by kernel_rfl) (by simp) (AllReadyH.cons (o := dop4) rfl (fun K hK => ?_) (AllReadyH.cons (o := dop21) rfl (fun K hK => ?_) AllReadyH.nil))
  ·unfold dop4
   go_simp
   refine (Hxx.out _ B.vr).mono ?_
   rintro e y ⟨rfl, hb⟩
   go_wp2_with fail
   refine hK.out _ _ ((B.go hb).all hP) (fun _ => ?_)
   exact wpAnyH_cast (by kernel_rfl) rfl (s1_356 X3 X5 X6 y (B.go hb) (c3.go hb) (c5.go hb) (c6.go hb) d35 d36 d56)
  ·unfold dop21
   go_simp
   refine hK.out _ _ (B.al.all hP) (fun _ => ?_)
   exact wpAnyH_cast (by kernel_rfl) rfl (s0_3456 X3 V.heap.size X5 X6 _ B.al c3.al (NC.new B) c5.al c6.al c3.far d35 d36 c5.far.symm c6.far.symm d56)
 have s0_456 : ∀ (X4 : Nat) (X5 : Nat) (X6 : Nat) (V : World), DB w V P → NC w V X4 Z16 → NC w V X5 Z16 → NC w V X6 Z16 → X4 ≠ X5 → X4 ≠ X6 → X5 ≠ X6 → wpAnyH Tryd.prog .any dblOps Q' (dS w P) 9 (dLst false false false false false true true true) (dAct w P A0 undef (.pointer (some ⟨X4, 0, none⟩)) (.pointer (some ⟨X5, 0, none⟩)) (.pointer (some ⟨X6, 0, none⟩)) undef undef undef undef) V := by
  intro X4 X5 X6 V B c4 c5 c6 d45 d46 d56
  unfold dAct
  refine wpAnyH_ready (rs := [4, 20]) (by kernel_rfl) (by simp) (AllReadyH.cons (o := dop4) rfl (fun K hK => ?_) (AllReadyH.cons (o := dop20) rfl (fun K hK => ?_) AllReadyH.nil))
  ·unfold dop4
   go_simp
   refine (Hxx.out _ B.vr).mono ?_
   rintro e y ⟨rfl, hb⟩
   go_wp2_with fail
   refine hK.out _ _ ((B.go hb).all hP) (fun _ => ?_)
   exact wpAnyH_cast (by kernel_rfl) rfl (s1_456 X4 X5 X6 y (B.go hb) (c4.go hb) (c5.go hb) (c6.go hb) d45 d46 d56)
  ·unfold dop20
   go_simp
   refine hK.out _ _ (B.al.all hP) (fun _ => ?_)
   exact wpAnyH_cast (by kernel_rfl) rfl (s0_3456 V.heap.size X4 X5 X6 _ B.al (NC.new B) c4.al c5.al c6.al c4.far.symm c5.far.symm c6.far.symm d45 d46 d56)
 have s4_34 : ∀ (X3 : Nat) (X4 : Nat) (V : World), DB w V P → NC w V X3 Z16 → NC w V X4 Z16 → X3 ≠ X4 → wpAnyH Tryd.prog .any dblOps Q' (dS w P) 6 (dLst true true true true true true false false) (dAct w P A0 (.pointer (some ⟨X3, 0, none⟩)) (.pointer (some ⟨X4, 0, none⟩)) undef undef (.agg (I64 xx).toArray) (.agg (I64 yy).toArray) (.agg (I64 oo).toArray) (.agg (I64 xy).toArray)) V := by
  intro X3 X4 V B c3 c4 d34
  unfold dAct
  refine wpAnyH_ready (rs := [22, 23]) (by kernel_rfl) (by simp) (AllReadyH.cons (o := dop22) rfl (fun K hK => ?_) (AllReadyH.cons (o := dop23) rfl (fun K hK => ?_) AllReadyH.nil))
  ·unfold dop22
   go_simp
   refine hK.out _ _ (B.al.all hP) (fun _ => ?_)
   exact wpAnyH_cast (by kernel_rfl) rfl (s4_345 X3 X4 V.heap.size _ B.al c3.al c4.al (NC.new B) d34 c3.far c4.far)
  ·unfold dop23
   go_simp
   refine hK.out _ _ (B.al.all hP) (fun _ => ?_)
   exact wpAnyH_cast (by kernel_rfl) rfl (s4_346 X3 X4 V.heap.size _ B.al c3.al c4.al (NC.new B) d34 c3.far c4.far)
 have s4_35 : ∀ (X3 : Nat) (X5 : Nat) (V : World), DB w V P → NC w V X3 Z16 → NC w V X5 Z16 → X3 ≠ X5 → wpAnyH Tryd.prog .any dblOps Q' (dS w P) 6 (dLst true true true true true false true false) (dAct w P A0 (.pointer (some ⟨X3, 0, none⟩)) undef (.pointer (some ⟨X5, 0, none⟩)) undef (.agg (I64 xx).toArray) (.agg (I64 yy).toArray) (.agg (I64 oo).toArray) (.agg (I64 xy).toArray)) V := by
  intro X3 X5 V B c3 c5 d35
  unfold dAct
  refine wpAnyH_ready (rs := [21, 23]) (by kernel_rfl) (by simp) (AllReadyH.cons (o := dop21) rfl (fun K hK => ?_) (AllReadyH.cons (o := dop23) rfl (fun K hK => ?_) AllReadyH.nil))
  ·unfold dop21
   go_simp
   refine hK.out _ _ (B.al.all hP) (fun _ => ?_)
   exact wpAnyH_cast (by kernel_rfl) rfl (s4_345 X3 V.heap.size X5 _ B.al c3.al (NC.new B) c5.al c3.far d35 c5.far.symm)
  ·unfold dop23
   go_simp
   refine hK.out _ _ (B.al.all hP) (fun _ => ?_)
   exact wpAnyH_cast (by kernel_rfl) rfl (s4_356 X3 X5 V.heap.size _ B.al c3.al c5.al (NC.new B) d35 c3.far c5.far)
 have s4_36 : ∀ (X3 : Nat) (X6 : Nat) (V : World), DB w V P → NC w V X3 Z16 → NC w V X6 Z16 → X3 ≠ X6 → wpAnyH Tryd.prog .any dblOps Q' (dS w P) 6 (dLst true true true true true false false true) (dAct w P A0 (.pointer (some ⟨X3, 0, none⟩)) undef undef (.pointer (some ⟨X6, 0, none⟩)) (.agg (I64 xx).toArray) (.agg (I64 yy).toArray) (.agg (I64 oo).toArray) (.agg (I64 xy).toArray)) V := by
  intro X3 X6 V B c3 c6 d36
  unfold dAct
  refine wpAnyH_ready (rs := [21, 22]) (by kernel_rfl) (by simp) (AllReadyH.cons (o := dop21) rfl (fun K hK => ?_) (AllReadyH.cons (o := dop22) rfl (fun K hK => ?_) AllReadyH.nil))
  ·unfold dop21
   go_simp
   refine hK.out _ _ (B.al.all hP) (fun _ => ?_)
   exact wpAnyH_cast (by kernel_rfl) rfl (s4_346 X3 V.heap.size X6 _ B.al c3.al (NC.new B) c6.al c3.far d36 c6.far.symm)
  ·unfold dop22
   go_simp
   refine hK.out _ _ (B.al.all hP) (fun _ => ?_)
   exact wpAnyH_cast (by kernel_rfl) rfl (s4_356 X3 V.heap.size X6 _ B.al c3.al (NC.new B) c6.al c3.far d36 c6.far.symm)
 have s4_45 : ∀ (X4 : Nat) (X5 : Nat) (V : World), DB w V P → NC w V X4 Z16 → NC w V X5 Z16 → X4 ≠ X5 → wpAnyH Tryd.prog .any dblOps Q' (dS w P) 6 (dLst true true true true false true true false) (dAct w P A0 undef (.pointer (some ⟨X4, 0, none⟩)) (.pointer (some ⟨X5, 0, none⟩)) undef (.agg (I64 xx).toArray) (.agg (I64 yy).toArray) (.agg (I64 oo).toArray) (.agg (I64 xy).toArray)) V := by
  intro X4 X5 V B c4 c5 d45
  unfold dAct
  refine wpAnyH_ready (rs := [20, 23]) (by kernel_rfl) (by simp) (AllReadyH.cons (o := dop20) rfl (fun K hK => ?_) (AllReadyH.cons (o := dop23) rfl (fun K hK => ?_) AllReadyH.nil))
  ·unfold dop20
   go_simp
   refine hK.out _ _ (B.al.all hP) (fun _ => ?_)
   exact wpAnyH_cast (by kernel_rfl) rfl (s4_345 V.heap.size X4 X5 _ B.al (NC.new B) c4.al c5.al c4.far.symm c5.far.symm d45)
  ·unfold dop23
   go_simp
   refine hK.out _ _ (B.al.all hP) (fun _ => ?_)
   exact wpAnyH_cast (by kernel_rfl) rfl (s4_456 X4 X5 V.heap.size _ B.al c4.al c5.al (NC.new B) d45 c4.far c5.far)
 have s4_46 : ∀ (X4 : Nat) (X6 : Nat) (V : World), DB w V P → NC w V X4 Z16 → NC w V X6 Z16 → X4 ≠ X6 → wpAnyH Tryd.prog .any dblOps Q' (dS w P) 6 (dLst true true true true false true false true) (dAct w P A0 undef (.pointer (some ⟨X4, 0, none⟩)) undef (.pointer (some ⟨X6, 0, none⟩)) (.agg (I64 xx).toArray) (.agg (I64 yy).toArray) (.agg (I64 oo).toArray) (.agg (I64 xy).toArray)) V := by
  intro X4 X6 V B c4 c6 d46
  unfold dAct
  refine wpAnyH_ready (rs := [20, 22]) (by kernel_rfl) (by simp) (AllReadyH.cons (o := dop20) rfl (fun K hK => ?_) (AllReadyH.cons (o := dop22) rfl (fun K hK => ?_) AllReadyH.nil))
  ·unfold dop20
   go_simp
   refine hK.out _ _ (B.al.all hP) (fun _ => ?_)
   exact wpAnyH_cast (by kernel_rfl) rfl (s4_346 V.heap.size X4 X6 _ B.al (NC.new B) c4.al c6.al c4.far.symm c6.far.symm d46)
  ·unfold dop22
   go_simp
   refine hK.out _ _ (B.al.all hP) (fun _ => ?_)
   exact wpAnyH_cast (by kernel_rfl) rfl (s4_456 X4 V.heap.size X6 _ B.al c4.al (NC.new B) c6.al c4.far d46 c6.far.symm)
 have s4_56 : ∀ (X5 : Nat) (X6 : Nat) (V : World), DB w V P → NC w V X5 Z16 → NC w V X6 Z16 → X5 ≠ X6 → wpAnyH Tryd.prog .any dblOps Q' (dS w P) 6 (dLst true true true true false false true true) (dAct w P A0 undef undef (.pointer (some ⟨X5, 0, none⟩)) (.pointer (some ⟨X6, 0, none⟩)) (.agg (I64 xx).toArray) (.agg (I64 yy).toArray) (.agg (I64 oo).toArray) (.agg (I64 xy).toArray)) V := by
  intro X5 X6 V B c5 c6 d56
  unfold dAct
  refine wpAnyH_ready (rs := [20, 21]) (by kernel_rfl) (by simp) (AllReadyH.cons (o := dop20) rfl (fun K hK => ?_) (AllReadyH.cons (o := dop21) rfl (fun K hK => ?_) AllReadyH.nil))
  ·unfold dop20
   go_simp
   refine hK.out _ _ (B.al.all hP) (fun _ => ?_)
   exact wpAnyH_cast (by kernel_rfl) rfl (s4_356 V.heap.size X5 X6 _ B.al (NC.new B) c5.al c6.al c5.far.symm c6.far.symm d56)
  ·unfold dop21
   go_simp
   refine hK.out _ _ (B.al.all hP) (fun _ => ?_)
   exact wpAnyH_cast (by kernel_rfl) rfl (s4_456 V.heap.size X5 X6 _ B.al (NC.new B) c5.al c6.al c5.far.symm c6.far.symm d56)
 have s3_34 : ∀ (X3 : Nat) (X4 : Nat) (V : World), DB w V P → NC w V X3 Z16 → NC w V X4 Z16 → X3 ≠ X4 → wpAnyH Tryd.prog .any dblOps Q' (dS w P) 7 (dLst true true true false true true false false) (dAct w P A0 (.pointer (some ⟨X3, 0, none⟩)) (.pointer (some ⟨X4, 0, none⟩)) undef undef (.agg (I64 xx).toArray) (.agg (I64 yy).toArray) (.agg (I64 oo).toArray) undef) V := by
  intro X3 X4 V B c3 c4 d34
  unfold dAct
  refine wpAnyH_ready (rs := [19, 22, 23]) (by kernel_rfl) (by simp) (AllReadyH.cons (o := dop19) rfl (fun K hK => ?_) (AllReadyH.cons (o := dop22) rfl (fun K hK => ?_) (AllReadyH.cons (o := dop23) rfl (fun K hK => ?_) AllReadyH.nil)))
  ·unfold dop19
   go_simp
   refine (Hxy.out _ B.vr).mono ?_
   rintro e y ⟨rfl, hb⟩
   go_wp2_with fail
   refine hK.out _ _ ((B.go hb).all hP) (fun _ => ?_)
   exact wpAnyH_cast (by kernel_rfl) rfl (s4_34 X3 X4 y (B.go hb) (c3.go hb) (c4.go hb) d34)
  ·unfold dop22
   go_simp
   refine hK.out _ _ (B.al.all hP) (fun _ => ?_)
   exact wpAnyH_cast (by kernel_rfl) rfl (s3_345 X3 X4 V.heap.size _ B.al c3.al c4.al (NC.new B) d34 c3.far c4.far)
  ·unfold dop23
   go_simp
   refine hK.out _ _ (B.al.all hP) (fun _ => ?_)
   exact wpAnyH_cast (by kernel_rfl) rfl (s3_346 X3 X4 V.heap.size _ B.al c3.al c4.al (NC.new B) d34 c3.far c4.far)
 have s3_35 : ∀ (X3 : Nat) (X5 : Nat) (V : World), DB w V P → NC w V X3 Z16 → NC w V X5 Z16 → X3 ≠ X5 → wpAnyH Tryd.prog .any dblOps Q' (dS w P) 7 (dLst true true true false true false true false) (dAct w P A0 (.pointer (some ⟨X3, 0, none⟩)) undef (.pointer (some ⟨X5, 0, none⟩)) undef (.agg (I64 xx).toArray) (.agg (I64 yy).toArray) (.agg (I64 oo).toArray) undef) V := by
  intro X3 X5 V B c3 c5 d35
  unfold dAct
  refine wpAnyH_ready (rs := [19, 21, 23]) (by kernel_rfl) (by simp) (AllReadyH.cons (o := dop19) rfl (fun K hK => ?_) (AllReadyH.cons (o := dop21) rfl (fun K hK => ?_) (AllReadyH.cons (o := dop23) rfl (fun K hK => ?_) AllReadyH.nil)))
  ·unfold dop19
   go_simp
   refine (Hxy.out _ B.vr).mono ?_
   rintro e y ⟨rfl, hb⟩
   go_wp2_with fail
   refine hK.out _ _ ((B.go hb).all hP) (fun _ => ?_)
   exact wpAnyH_cast (by kernel_rfl) rfl (s4_35 X3 X5 y (B.go hb) (c3.go hb) (c5.go hb) d35)
  ·unfold dop21
   go_simp
   refine hK.out _ _ (B.al.all hP) (fun _ => ?_)
   exact wpAnyH_cast (by kernel_rfl) rfl (s3_345 X3 V.heap.size X5 _ B.al c3.al (NC.new B) c5.al c3.far d35 c5.far.symm)
  ·unfold dop23
   go_simp
   refine hK.out _ _ (B.al.all hP) (fun _ => ?_)
   exact wpAnyH_cast (by kernel_rfl) rfl (s3_356 X3 X5 V.heap.size _ B.al c3.al c5.al (NC.new B) d35 c3.far c5.far)
 have s3_36 : ∀ (X3 : Nat) (X6 : Nat) (V : World), DB w V P → NC w V X3 Z16 → NC w V X6 Z16 → X3 ≠ X6 → wpAnyH Tryd.prog .any dblOps Q' (dS w P) 7 (dLst true true true false true false false true) (dAct w P A0 (.pointer (some ⟨X3, 0, none⟩)) undef undef (.pointer (some ⟨X6, 0, none⟩)) (.agg (I64 xx).toArray) (.agg (I64 yy).toArray) (.agg (I64 oo).toArray) undef) V := by
  intro X3 X6 V B c3 c6 d36
  unfold dAct
  refine wpAnyH_ready (rs := [19, 21, 22]) (by kernel_rfl) (by simp) (AllReadyH.cons (o := dop19) rfl (fun K hK => ?_) (AllReadyH.cons (o := dop21) rfl (fun K hK => ?_) (AllReadyH.cons (o := dop22) rfl (fun K hK => ?_) AllReadyH.nil)))
  ·unfold dop19
   go_simp
   refine (Hxy.out _ B.vr).mono ?_
   rintro e y ⟨rfl, hb⟩
   go_wp2_with fail
   refine hK.out _ _ ((B.go hb).all hP) (fun _ => ?_)
   exact wpAnyH_cast (by kernel_rfl) rfl (s4_36 X3 X6 y (B.go hb) (c3.go hb) (c6.go hb) d36)
  ·unfold dop21
   go_simp
   refine hK.out _ _ (B.al.all hP) (fun _ => ?_)
   exact wpAnyH_cast (by kernel_rfl) rfl (s3_346 X3 V.heap.size X6 _ B.al c3.al (NC.new B) c6.al c3.far d36 c6.far.symm)
  ·unfold dop22
   go_simp
   refine hK.out _ _ (B.al.all hP) (fun _ => ?_)
   exact wpAnyH_cast (by kernel_rfl) rfl (s3_356 X3 V.heap.size X6 _ B.al c3.al (NC.new B) c6.al c3.far d36 c6.far.symm)
 have s3_45 : ∀ (X4 : Nat) (X5 : Nat) (V : World), DB w V P → NC w V X4 Z16 → NC w V X5 Z16 → X4 ≠ X5 → wpAnyH Tryd.prog .any dblOps Q' (dS w P) 7 (dLst true true true false false true true false) (dAct w P A0 undef (.pointer (some ⟨X4, 0, none⟩)) (.pointer (some ⟨X5, 0, none⟩)) undef (.agg (I64 xx).toArray) (.agg (I64 yy).toArray) (.agg (I64 oo).toArray) undef) V := by
  intro X4 X5 V B c4 c5 d45
  unfold dAct
  refine wpAnyH_ready (rs := [19, 20, 23]) (by kernel_rfl) (by simp) (AllReadyH.cons (o := dop19) rfl (fun K hK => ?_) (AllReadyH.cons (o := dop20) rfl (fun K hK => ?_) (AllReadyH.cons (o := dop23) rfl (fun K hK => ?_) AllReadyH.nil)))
  ·unfold dop19
   go_simp
   refine (Hxy.out _ B.vr).mono ?_
   rintro e y ⟨rfl, hb⟩
   go_wp2_with fail
   refine hK.out _ _ ((B.go hb).all hP) (fun _ => ?_)
   exact wpAnyH_cast (by kernel_rfl) rfl (s4_45 X4 X5 y (B.go hb) (c4.go hb) (c5.go hb) d45)
  ·unfold dop20
   go_simp
   refine hK.out _ _ (B.al.all hP) (fun _ => ?_)
   exact wpAnyH_cast (by kernel_rfl) rfl (s3_345 V.heap.size X4 X5 _ B.al (NC.new B) c4.al c5.al c4.far.symm c5.far.symm d45)
  ·unfold dop23
   go_simp
   refine hK.out _ _ (B.al.all hP) (fun _ => ?_)
   exact wpAnyH_cast (by kernel_rfl) rfl (s3_456 X4 X5 V.heap.size _ B.al c4.al c5.al (NC.new B) d45 c4.far c5.far)
 have s3_46 : ∀ (X4 : Nat) (X6 : Nat) (V : World), DB w V P → NC w V X4 Z16 → NC w V X6 Z16 → X4 ≠ X6 → wpAnyH Tryd.prog .any dblOps Q' (dS w P) 7 (dLst true true true false false true false true) (dAct w P A0 undef (.pointer (some ⟨X4, 0, none⟩)) undef (.pointer (some ⟨X6, 0, none⟩)) (.agg (I64 xx).toArray) (.agg (I64 yy).toArray) (.agg (I64 oo).toArray) undef) V := by
  intro X4 X6 V B c4 c6 d46
  unfold dAct
  refine wpAnyH_ready (rs := [19, 20, 22]) (by kernel_rfl) (by simp) (AllReadyH.cons (o := dop19) rfl (fun K hK => ?_) (AllReadyH.cons (o := dop20) rfl (fun K hK => ?_) (AllReadyH.cons (o := dop22) rfl (fun K hK => ?_) AllReadyH.nil)))
  ·unfold dop19
   go_simp
   refine (Hxy.out _ B.vr).mono ?_
   rintro e y ⟨rfl, hb⟩
   go_wp2_with fail
   refine hK.out _ _ ((B.go hb).all hP) (fun _ => ?_)
   exact wpAnyH_cast (by kernel_rfl) rfl (s4_46 X4 X6 y (B.go hb) (c4.go hb) (c6.go hb) d46)
  ·unfold dop20
   go_simp
   refine hK.out _ _ (B.al.all hP) (fun _ => ?_)
   exact wpAnyH_cast (by kernel_rfl) rfl (s3_346 V.heap.size X4 X6 _ B.al (NC.new B) c4.al c6.al c4.far.symm c6.far.symm d46)
  ·unfold dop22
   go_simp
   refine hK.out _ _ (B.al.all hP) (fun _ => ?_)
   exact wpAnyH_cast (by kernel_rfl) rfl (s3_456 X4 V.heap.size X6 _ B.al c4.al (NC.new B) c6.al c4.far d46 c6.far.symm)
 have s3_56 : ∀ (X5 : Nat) (X6 : Nat) (V : World), DB w V P → NC w V X5 Z16 → NC w V X6 Z16 → X5 ≠ X6 → wpAnyH Tryd.prog .any dblOps Q' (dS w P) 7 (dLst true true true false false false true true) (dAct w P A0 undef undef (.pointer (some ⟨X5, 0, none⟩)) (.pointer (some ⟨X6, 0, none⟩)) (.agg (I64 xx).toArray) (.agg (I64 yy).toArray) (.agg (I64 oo).toArray) undef) V := by
  intro X5 X6 V B c5 c6 d56
  unfold dAct
  refine wpAnyH_ready (rs := [19, 20, 21]) (by kernel_rfl) (by simp) (AllReadyH.cons (o := dop19) rfl (fun K hK => ?_) (AllReadyH.cons (o := dop20) rfl (fun K hK => ?_) (AllReadyH.cons (o := dop21) rfl (fun K hK => ?_) AllReadyH.nil)))
  ·unfold dop19
   go_simp
   refine (Hxy.out _ B.vr).mono ?_
   rintro e y ⟨rfl, hb⟩
   go_wp2_with fail
   refine hK.out _ _ ((B.go hb).all hP) (fun _ => ?_)
   exact wpAnyH_cast (by kernel_rfl) rfl (s4_56 X5 X6 y (B.go hb) (c5.go hb) (c6.go hb) d56)
  ·unfold dop20
   go_simp
   refine hK.out _ _ (B.al.all hP) (fun _ => ?_)
   exact wpAnyH_cast (by kernel_rfl) rfl (s3_356 V.heap.size X5 X6 _ B.al (NC.new B) c5.al c6.al c5.far.symm c6.far.symm d56)
  ·unfold dop21
   go_simp
   refine hK.out _ _ (B.al.all hP) (fun _ => ?_)
   exact wpAnyH_cast (by kernel_rfl) rfl (s3_456 V.heap.size X5 X6 _ B.al (NC.new B) c5.al c6.al c5.far.symm c6.far.symm d56)
 have s2_34 : ∀ (X3 : Nat) (X4 : Nat) (V : World), DB w V P → NC w V X3 Z16 → NC w V X4 Z16 → X3 ≠ X4 → wpAnyH Tryd.prog .any dblOps Q' (dS w P) 8 (dLst true true false false true true false false) (dAct w P A0 (.pointer (some ⟨X3, 0, none⟩)) (.pointer (some ⟨X4, 0, none⟩)) undef undef (.agg (I64 xx).toArray) (.agg (I64 yy).toArray) undef undef) V := by
  intro X3 X4 V B c3 c4 d34
  unfold dAct
  refine wpAnyH_ready (rs := [14, 22, 23]) (by kernel_rfl) (by simp) (AllReadyH.cons (o := dop14) rfl (fun K hK => ?_) (AllReadyH.cons (o := dop22) rfl (fun K hK => ?_) (AllReadyH.cons (o := dop23) rfl (fun K hK => ?_) AllReadyH.nil)))
  ·unfold dop14
   go_simp
   refine (Hoo.out _ B.vr).mono ?_
   rintro e y ⟨rfl, hb⟩
   go_wp2_with fail
   refine hK.out _ _ ((B.go hb).all hP) (fun _ => ?_)
   exact wpAnyH_cast (by kernel_rfl) rfl (s3_34 X3 X4 y (B.go hb) (c3.go hb) (c4.go hb) d34)
  ·unfold dop22
   go_simp
   refine hK.out _ _ (B.al.all hP) (fun _ => ?_)
   exact wpAnyH_cast (by kernel_rfl) rfl (s2_345 X3 X4 V.heap.size _ B.al c3.al c4.al (NC.new B) d34 c3.far c4.far)
  ·unfold dop23
   go_simp
   refine hK.out _ _ (B.al.all hP) (fun _ => ?_)
   exact wpAnyH_cast (by kernel_rfl) rfl (s2_346 X3 X4 V.heap.size _ B.al c3.al c4.al (NC.new B) d34 c3.far c4.far)
 have s2_35 : ∀ (X3 : Nat) (X5 : Nat) (V : World), DB w V P → NC w V X3 Z16 → NC w V X5 Z16 → X3 ≠ X5 → wpAnyH Tryd.prog .any dblOps Q' (dS w P) 8 (dLst true true false false true false true false) (dAct w P A0 (.pointer (some ⟨X3, 0, none⟩)) undef (.pointer (some ⟨X5, 0, none⟩)) undef (.agg (I64 xx).toArray) (.agg (I64 yy).toArray) undef undef) V := by
  intro X3 X5 V B c3 c5 d35
  unfold dAct
  refine wpAnyH_ready (rs := [14, 21, 23]) (by kernel_rfl) (by simp) (AllReadyH.cons (o := dop14) rfl (fun K hK => ?_) (AllReadyH.cons (o := dop21) rfl (fun K hK => ?_) (AllReadyH.cons (o := dop23) rfl (fun K hK => ?_) AllReadyH.nil)))
  ·unfold dop14
   go_simp
   refine (Hoo.out _ B.vr).mono ?_
   rintro e y ⟨rfl, hb⟩
   go_wp2_with fail
   refine hK.out _ _ ((B.go hb).all hP) (fun _ => ?_)
   exact wpAnyH_cast (by kernel_rfl) rfl (s3_35 X3 X5 y (B.go hb) (c3.go hb) (c5.go hb) d35)
  ·unfold dop21
   go_simp
   refine hK.out _ _ (B.al.all hP) (fun _ => ?_)
   exact wpAnyH_cast (by kernel_rfl) rfl (s2_345 X3 V.heap.size X5 _ B.al c3.al (NC.new B) c5.al c3.far d35 c5.far.symm)
  ·unfold dop23
   go_simp
   refine hK.out _ _ (B.al.all hP) (fun _ => ?_)
   exact wpAnyH_cast (by kernel_rfl) rfl (s2_356 X3 X5 V.heap.size _ B.al c3.al c5.al (NC.new B) d35 c3.far c5.far)
 have s2_36 : ∀ (X3 : Nat) (X6 : Nat) (V : World), DB w V P → NC w V X3 Z16 → NC w V X6 Z16 → X3 ≠ X6 → wpAnyH Tryd.prog .any dblOps Q' (dS w P) 8 (dLst true true false false true false false true) (dAct w P A0 (.pointer (some ⟨X3, 0, none⟩)) undef undef (.pointer (some ⟨X6, 0, none⟩)) (.agg (I64 xx).toArray) (.agg (I64 yy).toArray) undef undef) V := by
  intro X3 X6 V B c3 c6 d36
  unfold dAct
  refine wpAnyH_ready (rs := [14, 21, 22]) (by kernel_rfl) (by simp) (AllReadyH.cons (o := dop14) rfl (fun K hK => ?_) (AllReadyH.cons (o := dop21) rfl (fun K hK => ?_) (AllReadyH.cons (o := dop22) rfl (fun K hK => ?_) AllReadyH.nil)))
  ·unfold dop14
   go_simp
   refine (Hoo.out _ B.vr).mono ?_
   rintro e y ⟨rfl, hb⟩
   go_wp2_with fail
   refine hK.out _ _ ((B.go hb).all hP) (fun _ => ?_)
   exact wpAnyH_cast (by kernel_rfl) rfl (s3_36 X3 X6 y (B.go hb) (c3.go hb) (c6.go hb) d36)
  ·unfold dop21
   go_simp
   refine hK.out _ _ (B.al.all hP) (fun _ => ?_)
   exact wpAnyH_cast (by kernel_rfl) rfl (s2_346 X3 V.heap.size X6 _ B.al c3.al (NC.new B) c6.al c3.far d36 c6.far.symm)
  ·unfold dop22
   go_simp
   refine hK.out _ _ (B.al.all hP) (fun _ => ?_)
   exact wpAnyH_cast (by kernel_rfl) rfl (s2_356 X3 V.heap.size X6 _ B.al c3.al (NC.new B) c6.al c3.far d36 c6.far.symm)
 have s2_45 : ∀ (X4 : Nat) (X5 : Nat) (V : World), DB w V P → NC w V X4 Z16 → NC w V X5 Z16 → X4 ≠ X5 → wpAnyH Tryd.prog .any dblOps Q' (dS w P) 8 (dLst true true false false false true true false) (dAct w P A0 undef (.pointer (some ⟨X4, 0, none⟩)) (.pointer (some ⟨X5, 0, none⟩)) undef (.agg (I64 xx).toArray) (.agg (I64 yy).toArray) undef undef) V := by
  intro X4 X5 V B c4 c5 d45
  unfold dAct
  refine wpAnyH_ready (rs := [14, 20, 23]) (by kernel_rfl) (by simp) (AllReadyH.cons (o := dop14) rfl (fun K hK => ?_) (AllReadyH.cons (o := dop20) rfl (fun K hK => ?_) (AllReadyH.cons (o := dop23) rfl (fun K hK => ?_) AllReadyH.nil)))
  ·unfold dop14
   go_simp
   refine (Hoo.out _ B.vr).mono ?_
   rintro e y ⟨rfl, hb⟩
   go_wp2_with fail
   refine hK.out _ _ ((B.go hb).all hP) (fun _ => ?_)
   exact wpAnyH_cast (by kernel_rfl) rfl (s3_45 X4 X5 y (B.go hb) (c4.go hb) (c5.go hb) d45)
  ·unfold dop20
   go_simp
   refine hK.out _ _ (B.al.all hP) (fun _ => ?_)
   exact wpAnyH_cast (by kernel_rfl) rfl (s2_345 V.heap.size X4 X5 _ B.al (NC.new B) c4.al c5.al c4.far.symm c5.far.symm d45)
  ·unfold dop23
   go_simp
   refine hK.out _ _ (B.al.all hP) (fun _ => ?_)
   exact wpAnyH_cast (by kernel_rfl) rfl (s2_456 X4 X5 V.heap.size _ B.al c4.al c5.al (NC.new B) d45 c4.far c5.far)
 have s2_46 : ∀ (X4 : Nat) (X6 : Nat) (V : World), DB w V P → NC w V X4 Z16 → NC w V X6 Z16 → X4 ≠ X6 → wpAnyH Tryd.prog .any dblOps Q' (dS w P) 8 (dLst true true false false false true false true) (dAct w P A0 undef (.pointer (some ⟨X4, 0, none⟩)) undef (.pointer (some ⟨X6, 0, none⟩)) (.agg (I64 xx).toArray) (.agg (I64 yy).toArray) undef undef) V := by
  intro X4 X6 V B c4 c6 d46
  unfold dAct
  refine wpAnyH_ready (rs := [14, 20, 22]) (by kernel_rfl) (by simp) (AllReadyH.cons (o := dop14) rfl (fun K hK => ?_) (AllReadyH.cons (o := dop20) rfl (fun K hK => ?_) (AllReadyH.cons (o := dop22) rfl (fun K hK => ?_) AllReadyH.nil)))
  ·unfold dop14
   go_simp
   refine (Hoo.out _ B.vr).mono ?_
   rintro e y ⟨rfl, hb⟩
   go_wp2_with fail
   refine hK.out _ _ ((B.go hb).all hP) (fun _ => ?_)
   exact wpAnyH_cast (by kernel_rfl) rfl (s3_46 X4 X6 y (B.go hb) (c4.go hb) (c6.go hb) d46)
  ·unfold dop20
   go_simp
   refine hK.out _ _ (B.al.all hP) (fun _ => ?_)
   exact wpAnyH_cast (by kernel_rfl) rfl (s2_346 V.heap.size X4 X6 _ B.al (NC.new B) c4.al c6.al c4.far.symm c6.far.symm d46)
  ·unfold dop22
   go_simp
   refine hK.out _ _ (B.al.all hP) (fun _ => ?_)
   exact wpAnyH_cast (by kernel_rfl) rfl (s2_456 X4 V.heap.size X6 _ B.al c4.al (NC.new B) c6.al c4.far d46 c6.far.symm)
 have s2_56 : ∀ (X5 : Nat) (X6 : Nat) (V : World), DB w V P → NC w V X5 Z16 → NC w V X6 Z16 → X5 ≠ X6 → wpAnyH Tryd.prog .any dblOps Q' (dS w P) 8 (dLst true true false false false false true true) (dAct w P A0 undef undef (.pointer (some ⟨X5, 0, none⟩)) (.pointer (some ⟨X6, 0, none⟩)) (.agg (I64 xx).toArray) (.agg (I64 yy).toArray) undef undef) V := by
  intro X5 X6 V B c5 c6 d56
  unfold dAct
  refine wpAnyH_ready (rs := [14, 20, 21]) (by kernel_rfl) (by simp) (AllReadyH.cons (o := dop14) rfl (fun K hK => ?_) (AllReadyH.cons (o := dop20) rfl (fun K hK => ?_) (AllReadyH.cons (o := dop21) rfl (fun K hK => ?_) AllReadyH.nil)))
  ·unfold dop14
   go_simp
   refine (Hoo.out _ B.vr).mono ?_
   rintro e y ⟨rfl, hb⟩
   go_wp2_with fail
   refine hK.out _ _ ((B.go hb).all hP) (fun _ => ?_)
   exact wpAnyH_cast (by kernel_rfl) rfl (s3_56 X5 X6 y (B.go hb) (c5.go hb) (c6.go hb) d56)
  ·unfold dop20
   go_simp
   refine hK.out _ _ (B.al.all hP) (fun _ => ?_)
   exact wpAnyH_cast (by kernel_rfl) rfl (s2_356 V.heap.size X5 X6 _ B.al (NC.new B) c5.al c6.al c5.far.symm c6.far.symm d56)
  ·unfold dop21
   go_simp
   refine hK.out _ _ (B.al.all hP) (fun _ => ?_)
   exact wpAnyH_cast (by kernel_rfl) rfl (s2_456 V.heap.size X5 X6 _ B.al (NC.new B) c5.al c6.al c5.far.symm c6.far.symm d56)
 have s1_34 : ∀ (X3 : Nat) (X4 : Nat) (V : World), DB w V P → NC w V X3 Z16 → NC w V X4 Z16 → X3 ≠ X4 → wpAnyH Tryd.prog .any dblOps Q' (dS w P) 9 (dLst true false false false true true false false) (dAct w P A0 (.pointer (some ⟨X3, 0, none⟩)) (.pointer (some ⟨X4, 0, none⟩)) undef undef (.agg (I64 xx).toArray) undef undef undef) V := by
  intro X3 X4 V B c3 c4 d34
  unfold dAct
  refine wpAnyH_ready (rs := [9, 22, 23]) (by kernel_rfl) (by simp) (AllReadyH.cons (o := dop9) rfl (fun K hK => ?_) (AllReadyH.cons (o := dop22) rfl (fun K hK => ?_) (AllReadyH.cons (o := dop23) rfl (fun K hK => ?_) AllReadyH.nil)))
  ·unfold dop9
   go_simp
   refine (Hyy.out _ B.vr).mono ?_
   rintro e y ⟨rfl, hb⟩
   go_wp2_with fail
   refine hK.out _ _ ((B.go hb).all hP) (fun _ => ?_)
   exact wpAnyH_cast (by kernel_rfl) rfl (s2_34 X3 X4 y (B.go hb) (c3.go hb) (c4.go hb) d34)
  ·unfold dop22
   go_simp
   refine hK.out _ _ (B.al.all hP) (fun _ => ?_)
   exact wpAnyH_cast (by kernel_rfl) rfl (s1_345 X3 X4 V.heap.size _ B.al c3.al c4.al (NC.new B) d34 c3.far c4.far)
  ·unfold dop23
   go_simp
   refine hK.out _ _ (B.al.all hP) (fun _ => ?_)
   exact wpAnyH_cast (by kernel_rfl) rfl (s1_346 X3 X4 V.heap.size _ B.al c3.al c4.al (NC.new B) d34 c3.far c4.far)
 have s1_35 : ∀ (X3 : Nat) (X5 : Nat) (V : World), DB w V P → NC w V X3 Z16 → NC w V X5 Z16 → X3 ≠ X5 → wpAnyH Tryd.prog .any dblOps Q' (dS w P) 9 (dLst true false false false true false true false) (dAct w P A0 (.pointer (some ⟨X3, 0, none⟩)) undef (.pointer (some ⟨X5, 0, none⟩)) undef (.agg (I64 xx).toArray) undef undef undef) V := by
  intro X3 X5 V B c3 c5 d35
  unfold dAct
  refine wpAnyH_ready (rs := [9, 21, 23]) (by kernel_rfl) (by simp) (AllReadyH.cons (o := dop9) rfl (fun K hK => ?_) (AllReadyH.cons (o := dop21) rfl (fun K hK => ?_) (AllReadyH.cons (o := dop23) rfl (fun K hK => ?_) AllReadyH.nil)))
  ·unfold dop9
   go_simp
   refine (Hyy.out _ B.vr).mono ?_
   rintro e y ⟨rfl, hb⟩
   go_wp2_with fail
   refine hK.out _ _ ((B.go hb).all hP) (fun _ => ?_)
   exact wpAnyH_cast (by kernel_rfl) rfl (s2_35 X3 X5 y (B.go hb) (c3.go hb) (c5.go hb) d35)
  ·unfold dop21
   go_simp
   refine hK.out _ _ (B.al.all hP) (fun _ => ?_)
   exact wpAnyH_cast (by kernel_rfl) rfl (s1_345 X3 V.heap.size X5 _ B.al c3.al (NC.new B) c5.al c3.far d35 c5.far.symm)
  ·unfold dop23
   go_simp
   refine hK.out _ _ (B.al.all hP) (fun _ => ?_)
   exact wpAnyH_cast (by kernel_rfl) rfl (s1_356 X3 X5 V.heap.size _ B.al c3.al c5.al (NC.new B) d35 c3.far c5.far)
 have s1_36 : ∀ (X3 : Nat) (X6 : Nat) (V : World), DB w V P → NC w V X3 Z16 → NC w V X6 Z16 → X3 ≠ X6 → wpAnyH Tryd.prog .any dblOps Q' (dS w P) 9 (dLst true false false false true false false true) (dAct w P A0 (.pointer (some ⟨X3, 0, none⟩)) undef undef (.pointer (some ⟨X6, 0, none⟩)) (.agg (I64 xx).toArray) undef undef undef) V := by
  intro X3 X6 V B c3 c6 d36
  unfold dAct
  refine wpAnyH_ready (rs := [9, 21, 22]) (by kernel_rfl) (by simp) (AllReadyH.cons (o := dop9) rfl (fun K hK => ?_) (AllReadyH.cons (o := dop21) rfl (fun K hK => ?_) (AllReadyH.cons (o := dop22) rfl (fun K hK => ?_) AllReadyH.nil)))
  ·unfold dop9
   go_simp
   refine (Hyy.out _ B.vr).mono ?_
   rintro e y ⟨rfl, hb⟩
   go_wp2_with fail
   refine hK.out _ _ ((B.go hb).all hP) (fun _ => ?_)
   exact wpAnyH_cast (by kernel_rfl) rfl (s2_36 X3 X6 y (B.go hb) (c3.go hb) (c6.go hb) d36)
  ·unfold dop21
   go_simp
   refine hK.out _ _ (B.al.all hP) (fun _ => ?_)
   exact wpAnyH_cast (by kernel_rfl) rfl (s1_346 X3 V.heap.size X6 _ B.al c3.al (NC.new B) c6.al c3.far d36 c6.far.symm)
  ·unfold dop22
   go_simp
   refine hK.out _ _ (B.al.all hP) (fun _ => ?_)
   exact wpAnyH_cast (by kernel_rfl) rfl (s1_356 X3 V.heap.size X6 _ B.al c3.al (NC.new B) c6.al c3.far d36 c6.far.symm)
 have s1_45 : ∀ (X4 : Nat) (X5 : Nat) (V : World), DB w V P → NC w V X4 Z16 → NC w V X5 Z16 → X4 ≠ X5 → wpAnyH Tryd.prog .any dblOps Q' (dS w P) 9 (dLst true false false false false true true false) (dAct w P A0 undef (.pointer (some ⟨X4, 0, none⟩)) (.pointer (some ⟨X5, 0, none⟩)) undef (.agg (I64 xx).toArray) undef undef undef) V := by
  intro X4 X5 V B c4 c5 d45
  unfold dAct
  refine wpAnyH_ready (rs := [9, 20, 23]) (by kernel_rfl) (by simp) (AllReadyH.cons (o := dop9) rfl (fun K hK => ?_) (AllReadyH.cons (o := dop20) rfl (fun K hK => ?_) (AllReadyH.cons (o := dop23) rfl (fun K hK => ?_) AllReadyH.nil)))
  ·unfold dop9
   go_simp
   refine (Hyy.out _ B.vr).mono ?_
   rintro e y ⟨rfl, hb⟩
   go_wp2_with fail
   refine hK.out _ _ ((B.go hb).all hP) (fun _ => ?_)
   exact wpAnyH_cast (by kernel_rfl) rfl (s2_45 X4 X5 y (B.go hb) (c4.go hb) (c5.go hb) d45)
  ·unfold dop20
   go_simp
   refine hK.out _ _ (B.al.all hP) (fun _ => ?_)
   exact wpAnyH_cast (by kernel_rfl) rfl (s1_345 V.heap.size X4 X5 _ B.al (NC.new B) c4.al c5.al c4.far.symm c5.far.symm d45)
  ·unfold dop23
   go_simp
   refine hK.out _ _ (B.al.all hP) (fun _ => ?_)
   exact wpAnyH_cast (by kernel_rfl) rfl (s1_456 X4 X5 V.heap.size _ B.al c4.al c5.al (NC.new B) d45 c4.far c5.far)
 have s1_46 : ∀ (X4 : Nat) (X6 : Nat) (V : World), DB w V P → NC w V X4 Z16 → NC w V X6 Z16 → X4 ≠ X6 → wpAnyH Tryd.prog .any dblOps Q' (dS w P) 9 (dLst true false false false false true false true) (dAct w P A0 undef (.pointer (some ⟨X4, 0, none⟩)) undef (.pointer (some ⟨X6, 0, none⟩)) (.agg (I64 xx).toArray) undef undef undef) V := by
  intro X4 X6 V B c4 c6 d46
  unfold dAct
  refine wpAnyH_ready (rs := [9, 20, 22]) (by kernel_rfl) (by simp) (AllReadyH.cons (o := dop9) rfl (fun K hK => ?_) (AllReadyH.cons (o := dop20) rfl (fun K hK => ?_) (AllReadyH.cons (o := dop22) rfl (fun K hK => ?_) AllReadyH.nil)))
  ·unfold dop9
   go_simp
   refine (Hyy.out _ B.vr).mono ?_
   rintro e y ⟨rfl, hb⟩
   go_wp2_with fail
   refine hK.out _ _ ((B.go hb).all hP) (fun _ => ?_)
   exact wpAnyH_cast (by kernel_rfl) rfl (s2_46 X4 X6 y (B.go hb) (c4.go hb) (c6.go hb) d46)
  ·unfold dop20
   go_simp
   refine hK.out _ _ (B.al.all hP) (fun _ => ?_)
   exact wpAnyH_cast (by kernel_rfl) rfl (s1_346 V.heap.size X4 X6 _ B.al (NC.new B) c4.al c6.al c4.far.symm c6.far.symm d46)
  ·unfold dop22
   go_simp
   refine hK.out _ _ (B.al.all hP) (fun _ => ?_)
   exact wpAnyH_cast (by kernel_rfl) rfl (s1_456 X4 V.heap.size X6 _ B.al c4.al (NC.new B) c6.al c4.far d46 c6.far.symm)
 have s1_56 : ∀ (X5 : Nat) (X6 : Nat) (V : World), DB w V P → NC w V X5 Z16 → NC w V X6 Z16 → X5 ≠ X6 → wpAnyH Tryd.prog .any dblOps Q' (dS w P) 9 (dLst true false false false false false true true) (dAct w P A0 undef undef (.pointer (some ⟨X5, 0, none⟩)) (.pointer (some ⟨X6, 0, none⟩)) (.agg (I64 xx).toArray) undef undef undef) V := by
  intro X5 X6 V B c5 c6 d56
  unfold dAct
  refine wpAnyH_ready (rs := [9, 20, 21]) (by kernel_rfl) (by simp) (AllReadyH.cons (o := dop9) rfl (fun K hK => ?_) (AllReadyH.cons (o := dop20) rfl (fun K hK => ?_) (AllReadyH.cons (o := dop21) rfl (fun K hK => ?_) AllReadyH.nil)))
  ·unfold dop9
   go_simp
   refine (Hyy.out _ B.vr).mono ?_
   rintro e y ⟨rfl, hb⟩
   go_wp2_with fail
   refine hK.out _ _ ((B.go hb).all hP) (fun _ => ?_)
   exact wpAnyH_cast (by kernel_rfl) rfl (s2_56 X5 X6 y (B.go hb) (c5.go hb) (c6.go hb) d56)
  ·unfold dop20
   go_simp
   refine hK.out _ _ (B.al.all hP) (fun _ => ?_)
   exact wpAnyH_cast (by kernel_rfl) rfl (s1_356 V.heap.size X5 X6 _ B.al (NC.new B) c5.al c6.al c5.far.symm c6.far.symm d56)
  ·unfold dop21
   go_simp
   refine hK.out _ _ (B.al.all hP) (fun _ => ?_)
   exact wpAnyH_cast (by kernel_rfl) rfl (s1_456 V.heap.size X5 X6 _ B.al (NC.new B) c5.al c6.al c5.far.symm c6.far.symm d56)
 have s0_34 : ∀ (X3 : Nat) (X4 : Nat) (V : World), DB w V P → NC w V X3 Z16 → NC w V X4 Z16 → X3 ≠ X4 → wpAnyH Tryd.prog .any dblOps Q' (dS w P) 10 (dLst false false false false true true false false) (dAct w P A0 (.pointer (some ⟨X3, 0, none⟩)) (.pointer (some ⟨X4, 0, none⟩)) undef undef undef undef undef undef) V := by
  intro X3 X4 V B c3 c4 d34
  unfold dAct
  refine wpAnyH_ready (rs := [4, 22, 23]) (by kernel_rfl) (by simp) (AllReadyH.cons (o := dop4) rfl (fun K hK => ?_) (AllReadyH.cons (o := dop22) rfl (fun K hK => ?_) (AllReadyH.cons (o := dop23) rfl (fun K hK => ?_) AllReadyH.nil)))
  ·unfold dop4
   go_simp
   refine (Hxx.out _ B.vr).mono ?_
   rintro e y ⟨rfl, hb⟩
   go_wp2_with fail
   refine hK.out _ _ ((B.go hb).all hP) (fun _ => ?_)
   exact wpAnyH_cast (by kernel_rfl) rfl (s1_34 X3 X4 y (B.go hb) (c3.go hb) (c4.go hb) d34)
  ·unfold dop22
   go_simp
   refine hK.out _ _ (B.al.all hP) (fun _ => ?_)
   exact wpAnyH_cast (by kernel_rfl) rfl (s0_345 X3 X4 V.heap.size _ B.al c3.al c4.al (NC.new B) d34 c3.far c4.far)
  ·unfold dop23
   go_simp
   refine hK.out _ _ (B.al.all hP) (fun _ => ?_)
   exact wpAnyH_cast (by kernel_rfl) rfl (s0_346 X3 X4 V.heap.size _ B.al c3.al c4.al (NC.new B) d34 c3.far c4.far)
 have s0_35 : ∀ (X3 : Nat) (X5 : Nat) (V : World), DB w V P → NC w V X3 Z16 → NC w V X5 Z16 → X3 ≠ X5 → wpAnyH Tryd.prog .any dblOps Q' (dS w P) 10 (dLst false false false false true false true false) (dAct w P A0 (.pointer (some ⟨X3, 0, none⟩)) undef (.pointer (some ⟨X5, 0, none⟩)) undef undef undef undef undef) V := by
  intro X3 X5 V B c3 c5 d35
  unfold dAct
  refine wpAnyH_ready (rs := [4, 21, 23]) (by kernel_rfl) (by simp) (AllReadyH.cons (o := dop4) rfl (fun K hK => ?_) (AllReadyH.cons (o := dop21) rfl (fun K hK => ?_) (AllReadyH.cons (o := dop23) rfl (fun K hK => ?_) AllReadyH.nil)))
  ·unfold dop4
   go_simp
   refine (Hxx.out _ B.vr).mono ?_
   rintro e y ⟨rfl, hb⟩
   go_wp2_with fail
   refine hK.out _ _ ((B.go hb).all hP) (fun _ => ?_)
   exact wpAnyH_cast (by kernel_rfl) rfl (s1_35 X3 X5 y (B.go hb) (c3.go hb) (c5.go hb) d35)
  ·unfold dop21
   go_simp
   refine hK.out _ _ (B.al.all hP) (fun _ => ?_)
   exact wpAnyH_cast (by kernel_rfl) rfl (s0_345 X3 V.heap.size X5 _ B.al c3.al (NC.new B) c5.al c3.far d35 c5.far.symm)
  ·unfold dop23
   go_simp
   refine hK.out _ _ (B.al.all hP) (fun _ => ?_)
   exact wpAnyH_cast (by kernel_rfl) rfl (s0_356 X3 X5 V.heap.size _ B.al c3.al c5.al (NC.new B) d35 c3.far c5.far)
 have s0_36 : ∀ (X3 : Nat) (X6 : Nat) (V : World), DB w V P → NC w V X3 Z16 → NC w V X6 Z16 → X3 ≠ X6 → wpAnyH Tryd.prog .any dblOps Q' (dS w P) 10 (dLst false false false false true false false true) (dAct w P A0 (.pointer (some ⟨X3, 0, none⟩)) undef undef (.pointer (some ⟨X6, 0, none⟩)) undef undef undef undef) V := by
  intro X3 X6 V B c3 c6 d36
  unfold dAct
  refine wpAnyH_ready (rs := [4, 21, 22]) (by kernel_rfl) (by simp) (AllReadyH.cons (o := dop4) rfl (fun K hK => ?_) (AllReadyH.cons (o := dop21) rfl (fun K hK => ?_) (AllReadyH.cons (o := dop22) rfl (fun K hK => ?_) AllReadyH.nil)))
  ·unfold dop4
   go_simp
   refine (Hxx.out _ B.vr).mono ?_
   rintro e y ⟨rfl, hb⟩
   go_wp2_with fail
   refine hK.out _ _ ((B.go hb).all hP) (fun _ => ?_)
   exact wpAnyH_cast (by kernel_rfl) rfl (s1_36 X3 X6 y (B.go hb) (c3.go hb) (c6.go hb) d36)
  ·unfold dop21
   go_simp
   refine hK.out _ _ (B.al.all hP) (fun _ => ?_)
   exact wpAnyH_cast (by kernel_rfl) rfl (s0_346 X3 V.heap.size X6 _ B.al c3.al (NC.new B) c6.al c3.far d36 c6.far.symm)
  ·unfold dop22
   go_simp
   refine hK.out _ _ (B.al.all hP) (fun _ => ?_)
   exact wpAnyH_cast (by kernel_rfl) rfl (s0_356 X3 V.heap.size X6 _ B.al c3.al (NC.new B) c6.al c3.far d36 c6.far.symm)
 have s0_45 : ∀ (X4 : Nat) (X5 : Nat) (V : World), DB w V P → NC w V X4 Z16 → NC w V X5 Z16 → X4 ≠ X5 → wpAnyH Tryd.prog .any dblOps Q' (dS w P) 10 (dLst false false false false false true true false) (dAct w P A0 undef (.pointer (some ⟨X4, 0, none⟩)) (.pointer (some ⟨X5, 0, none⟩)) undef undef undef undef undef) V := by
  intro X4 X5 V B c4 c5 d45
  unfold dAct
  refine wpAnyH_ready (rs := [4, 20, 23]) (by kernel_rfl) (by simp) (AllReadyH.cons (o := dop4) rfl (fun K hK => ?_) (AllReadyH.cons (o := dop20) rfl (fun K hK => ?_) (AllReadyH.cons (o := dop23) rfl (fun K hK => ?_) AllReadyH.nil)))
  ·unfold dop4
   go_simp
   refine (Hxx.out _ B.vr).mono ?_
   rintro e y ⟨rfl, hb⟩
   go_wp2_with fail
   refine hK.out _ _ ((B.go hb).all hP) (fun _ => ?_)
   exact wpAnyH_cast (by kernel_rfl) rfl (s1_45 X4 X5 y (B.go hb) (c4.go hb) (c5.go hb) d45)
  ·unfold dop20
   go_simp
   refine hK.out _ _ (B.al.all hP) (fun _ => ?_)
   exact wpAnyH_cast (by kernel_rfl) rfl (s0_345 V.heap.size X4 X5 _ B.al (NC.new B) c4.al c5.al c4.far.symm c5.far.symm d45)
  ·unfold dop23
   go_simp
   refine hK.out _ _ (B.al.all hP) (fun _ => ?_)
   exact wpAnyH_cast (by kernel_rfl) rfl (s0_456 X4 X5 V.heap.size _ B.al c4.al c5.al (NC.new B) d45 c4.far c5.far)
 have s0_46 : ∀ (X4 : Nat) (X6 : Nat) (V : World), DB w V P → NC w V X4 Z16 → NC w V X6 Z16 → X4 ≠ X6 → wpAnyH Tryd.prog .any dblOps Q' (dS w P) 10 (dLst false false false false false true false true) (dAct w P A0 undef (.pointer (some ⟨X4, 0, none⟩)) undef (.pointer (some ⟨X6, 0, none⟩)) undef undef undef undef) V := by
  intro X4 X6 V B c4 c6 d46
  unfold dAct
  refine wpAnyH_ready (rs := [4, 20, 22]) (by kernel_rfl) (by simp) (AllReadyH.cons (o := dop4) rfl (fun K hK => ?_) (AllReadyH.cons (o := dop20) rfl (fun K hK => ?_) (AllReadyH.cons (o := dop22) rfl (fun K hK => ?_) AllReadyH.nil)))
  ·unfold dop4
   go_simp
   refine (Hxx.out _ B.vr).mono ?_
   rintro e y ⟨rfl, hb⟩
   go_wp2_with fail
   refine hK.out _ _ ((B.go hb).all hP) (fun _ => ?_)
   exact wpAnyH_cast (by kernel_rfl) rfl (s1_46 X4 X6 y (B.go hb) (c4.go hb) (c6.go hb) d46)
  ·unfold dop20
   go_simp
   refine hK.out _ _ (B.al.all hP) (fun _ => ?_)
   exact wpAnyH_cast (by kernel_rfl) rfl (s0_346 V.heap.size X4 X6 _ B.al (NC.new B) c4.al c6.al c4.far.symm c6.far.symm d46)
  ·unfold dop22
   go_simp
   refine hK.out _ _ (B.al.all hP) (fun _ => ?_)
   exact wpAnyH_cast (by kernel_rfl) rfl (s0_456 X4 V.heap.size X6 _ B.al c4.al (NC.new B) c6.al c4.far d46 c6.far.symm)
 have s0_56 : ∀ (X5 : Nat) (X6 : Nat) (V : World), DB w V P → NC w V X5 Z16 → NC w V X6 Z16 → X5 ≠ X6 → wpAnyH Tryd.prog .any dblOps Q' (dS w P) 10 (dLst false false false false false false true true) (dAct w P A0 undef undef (.pointer (some ⟨X5, 0, none⟩)) (.pointer (some ⟨X6, 0, none⟩)) undef undef undef undef) V := by
  intro X5 X6 V B c5 c6 d56
  unfold dAct
  refine wpAnyH_ready (rs := [4, 20, 21]) (by kernel_rfl) (by simp) (AllReadyH.cons (o := dop4) rfl (fun K hK => ?_) (AllReadyH.cons (o := dop20) rfl (fun K hK => ?_) (AllReadyH.cons (o := dop21) rfl (fun K hK => ?_) AllReadyH.nil)))
  ·unfold dop4
   go_simp
   refine (Hxx.out _ B.vr).mono ?_
   rintro e y ⟨rfl, hb⟩
   go_wp2_with fail
   refine hK.out _ _ ((B.go hb).all hP) (fun _ => ?_)
   exact wpAnyH_cast (by kernel_rfl) rfl (s1_56 X5 X6 y (B.go hb) (c5.go hb) (c6.go hb) d56)
  ·unfold dop20
   go_simp
   refine hK.out _ _ (B.al.all hP) (fun _ => ?_)
   exact wpAnyH_cast (by kernel_rfl) rfl (s0_356 V.heap.size X5 X6 _ B.al (NC.new B) c5.al c6.al c5.far.symm c6.far.symm d56)
  ·unfold dop21
   go_simp
   refine hK.out _ _ (B.al.all hP) (fun _ => ?_)
   exact wpAnyH_cast (by kernel_rfl) rfl (s0_456 V.heap.size X5 X6 _ B.al (NC.new B) c5.al c6.al c5.far.symm c6.far.symm d56)
 have s4_3 : ∀ (X3 : Nat) (V : World), DB w V P → NC w V X3 Z16 → wpAnyH Tryd.prog .any dblOps Q' (dS w P) 7 (dLst true true true true true false false false) (dAct w P A0 (.pointer (some ⟨X3, 0, none⟩)) undef undef undef (.agg (I64 xx).toArray) (.agg (I64 yy).toArray) (.agg (I64 oo).toArray) (.agg (I64 xy).toArray)) V := by
  intro X3 V B c3 
  unfold dAct
  refine wpAnyH_ready (rs := [21, 22, 23]) (by kernel_rfl) (by simp) (AllReadyH.cons (o := dop21) rfl (fun K hK => ?_) (AllReadyH.cons (o := dop22) rfl (fun K hK => ?_) (AllReadyH.cons (o := dop23) rfl (fun K hK => ?_) AllReadyH.nil)))
  ·unfold dop21
   go_simp
   refine hK.out _ _ (B.al.all hP) (fun _ => ?_)
   exact wpAnyH_cast (by kernel_rfl) rfl (s4_34 X3 V.heap.size _ B.al c3.al (NC.new B) c3.far)
  ·unfold dop22
   go_simp
   refine hK.out _ _ (B.al.all hP) (fun _ => ?_)
   exact wpAnyH_cast (by kernel_rfl) rfl (s4_35 X3 V.heap.size _ B.al c3.al (NC.new B) c3.far)
  ·unfold dop23
   go_simp
   refine hK.out _ _ (B.al.all hP) (fun _ => ?_)
   exact wpAnyH_cast (by kernel_rfl) rfl (s4_36 X3 V.heap.size _ B.al c3.al (NC.new B) c3.far)
 have s4_4 : ∀ (X4 : Nat) (V : World), DB w V P → NC w V X4 Z16 → wpAnyH Tryd.prog .any dblOps Q' (dS w P) 7 (dLst true true true true false true false false) (dAct w P A0 undef (.pointer (some ⟨X4, 0, none⟩)) undef undef (.agg (I64 xx).toArray) (.agg (I64 yy).toArray) (.agg (I64 oo).toArray) (.agg (I64 xy).toArray)) V := by
  intro X4 V B c4 
  unfold dAct
  refine wpAnyH_ready (rs := [20, 22, 23]) (by kernel_rfl) (by simp) (AllReadyH.cons (o := dop20) rfl (fun K hK => ?_) (AllReadyH.cons (o := dop22) rfl (fun K hK => ?_) (AllReadyH.cons (o := dop23) rfl (fun K hK => ?_) AllReadyH.nil)))
  ·unfold dop20
   go_simp
   refine hK.out _ _ (B.al.all hP) (fun _ => ?_)
   exact wpAnyH_cast (by kernel_rfl) rfl (s4_34 V.heap.size X4 _ B.al (NC.new B) c4.al c4.far.symm)
  ·unfold dop22
   go_simp
   refine hK.out _ _ (B.al.all hP) (fun _ => ?_)
   exact wpAnyH_cast (by kernel_rfl) rfl (s4_45 X4 V.heap.size _ B.al c4.al (NC.new B) c4.far)
  ·unfold dop23
   go_simp
   refine hK.out _ _ (B.al.all hP) (fun _ => ?_)
   exact wpAnyH_cast (by kernel_rfl) rfl (s4_46 X4 V.heap.size _ B.al c4.al (NC.new B) c4.far)
 have s4_5 : ∀ (X5 : Nat) (V : World), DB w V P → NC w V X5 Z16 → wpAnyH Tryd.prog .any dblOps Q' (dS w P) 7 (dLst true true true true false false true false) (dAct w P A0 undef undef (.pointer (some ⟨X5, 0, none⟩)) undef (.agg (I64 xx).toArray) (.agg (I64 yy).toArray) (.agg (I64 oo).toArray) (.agg (I64 xy).toArray)) V := by
  intro X5 V B c5 
  unfold dAct
  refine wpAnyH_ready (rs := [20, 21, 23]) (by kernel_rfl) (by simp) (AllReadyH.cons (o := dop20) rfl (fun K hK => ?_) (AllReadyH.cons (o := dop21) rfl (fun K hK => ?_) (AllReadyH.cons (o := dop23) rfl (fun K hK => ?_) AllReadyH.nil)))
  ·unfold dop20
   go_simp
   refine hK.out _ _ (B.al.all hP) (fun _ => ?_)
   exact wpAnyH_cast (by kernel_rfl) rfl (s4_35 V.heap.size X5 _ B.al (NC.new B) c5.al c5.far.symm)
  ·unfold dop21
   go_simp
   refine hK.out _ _ (B.al.all hP) (fun _ => ?_)
   exact wpAnyH_cast (by kernel_rfl) rfl (s4_45 V.heap.size X5 _ B.al (NC.new B) c5.al c5.far.symm)
  ·unfold dop23
   go_simp
   refine hK.out _ _ (B.al.all hP) (fun _ => ?_)
   exact wpAnyH_cast (by kernel_rfl) rfl (s4_56 X5 V.heap.size _ B.al c5.al (NC.new B) c5.far)
 have s4_6 : ∀ (X6 : Nat) (V : World), DB w V P → NC w V X6 Z16 → wpAnyH Tryd.prog .any dblOps Q' (dS w P) 7 (dLst true true true true false false false true) (dAct w P A0 undef undef undef (.pointer (some ⟨X6, 0, none⟩)) (.agg (I64 xx).toArray) (.agg (I64 yy).toArray) (.agg (I64 oo).toArray) (.agg (I64 xy).toArray)) V := by
  intro X6 V B c6 
  unfold dAct
  refine wpAnyH_ready (rs := [20, 21, 22]) (by kernel_rfl) (by simp) (AllReadyH.cons (o := dop20) rfl (fun K hK => ?_) (AllReadyH.cons (o := dop21) rfl (fun K hK => ?_) (AllReadyH.cons (o := dop22) rfl (fun K hK => ?_) AllReadyH.nil)))
  ·unfold dop20
   go_simp
   refine hK.out _ _ (B.al.all hP) (fun _ => ?_)
   exact wpAnyH_cast (by kernel_rfl) rfl (s4_36 V.heap.size X6 _ B.al (NC.new B) c6.al c6.far.symm)
  ·unfold dop21
   go_simp
   refine hK.out _ _ (B.al.all hP) (fun _ => ?_)
   exact wpAnyH_cast (by kernel_rfl) rfl (s4_46 V.heap.size X6 _ B.al (NC.new B) c6.al c6.far.symm)
  ·unfold dop22
   go_simp
   refine hK.out _ _ (B.al.all hP) (fun _ => ?_)
   exact wpAnyH_cast (by kernel_rfl) rfl (s4_56 V.heap.size X6 _ B.al (NC.new B) c6.al c6.far.symm)
 have s3_3 : ∀ (X3 : Nat) (V : World), DB w V P → NC w V X3 Z16 → wpAnyH Tryd.prog .any dblOps Q' (dS w P) 8 (dLst true true true false true false false false) (dAct w P A0 (.pointer (some ⟨X3, 0, none⟩)) undef undef undef (.agg (I64 xx).toArray) (.agg (I64 yy).toArray) (.agg (I64 oo).toArray) undef) V := by
  intro X3 V B c3 
  unfold dAct
  refine wpAnyH_ready (rs := [19, 21, 22, 23]) (by kernel_rfl) (by simp) (AllReadyH.cons (o := dop19) rfl (fun K hK => ?_) (AllReadyH.cons (o := dop21) rfl (fun K hK => ?_) (AllReadyH.cons (o := dop22) rfl (fun K hK => ?_) (AllReadyH.cons (o := dop23) rfl (fun K hK => ?_) AllReadyH.nil))))
  ·unfold dop19
   go_simp
   refine (Hxy.out _ B.vr).mono ?_
   rintro e y ⟨rfl, hb⟩
   go_wp2_with fail
   refine hK.out _ _ ((B.go hb).all hP) (fun _ => ?_)
   exact wpAnyH_cast (by kernel_rfl) rfl (s4_3 X3 y (B.go hb) (c3.go hb) )
  ·unfold dop21
   go_simp
   refine hK.out _ _ (B.al.all hP) (fun _ => ?_)
   exact wpAnyH_cast (by kernel_rfl) rfl (s3_34 X3 V.heap.size _ B.al c3.al (NC.new B) c3.far)
  ·unfold dop22
   go_simp
   refine hK.out _ _ (B.al.all hP) (fun _ => ?_)
   exact wpAnyH_cast (by kernel_rfl) rfl (s3_35 X3 V.heap.size _ B.al c3.al (NC.new B) c3.far)
  ·unfold dop23
   go_simp
   refine hK.out _ _ (B.al.all hP) (fun _ => ?_)
   exact wpAnyH_cast (by kernel_rfl) rfl (s3_36 X3 V.heap.size _ B.al c3.al (NC.new B) c3.far)
 have s3_4 : ∀ (X4 : Nat) (V : World), DB w V P → NC w V X4 Z16 → wpAnyH Tryd.prog .any dblOps Q' (dS w P) 8 (dLst true true true false false true false false) (dAct w P A0 undef (.pointer (some ⟨X4, 0, none⟩)) undef undef (.agg (I64 xx).toArray) (.agg (I64 yy).toArray) (.agg (I64 oo).toArray) undef) V := by
  intro X4 V B c4 
  unfold dAct
  refine wpAnyH_ready (rs := [19, 20, 22, 23]) (by kernel_rfl) (by simp) (AllReadyH.cons (o := dop19) rfl (fun K hK => ?_) (AllReadyH.cons (o := dop20) rfl (fun K hK => ?_) (AllReadyH.cons (o := dop22) rfl (fun K hK => ?_) (AllReadyH.cons (o := dop23) rfl (fun K hK => ?_) AllReadyH.nil))))
  ·unfold dop19
   go_simp
   refine (Hxy.out _ B.vr).mono ?_
   rintro e y ⟨rfl, hb⟩
   go_wp2_with fail
   refine hK.out _ _ ((B.go hb).all hP) (fun _ => ?_)
   exact wpAnyH_cast (by kernel_rfl) rfl (s4_4 X4 y (B.go hb) (c4.go hb) )
  ·unfold dop20
   go_simp
   refine hK.out _ _ (B.al.all hP) (fun _ => ?_)
   exact wpAnyH_cast (by kernel_rfl) rfl (s3_34 V.heap.size X4 _ B.al (NC.new B) c4.al c4.far.symm)
  ·unfold dop22
   go_simp
   refine hK.out _ _ (B.al.all hP) (fun _ => ?_)
   exact wpAnyH_cast (by kernel_rfl) rfl (s3_45 X4 V.heap.size _ B.al c4.al (NC.new B) c4.far)
  ·unfold dop23
   go_simp
   refine hK.out _ _ (B.al.all hP) (fun _ => ?_)
   exact wpAnyH_cast (by kernel_rfl) rfl (s3_46 X4 V.heap.size _ B.al c4.al (NC.new B) c4.far)
 have s3_5 : ∀ (X5 : Nat) (V : World), DB w V P → NC w V X5 Z16 → wpAnyH Tryd.prog .any dblOps Q' (dS w P) 8 (dLst true true true false false false true false) (dAct w P A0 undef undef (.pointer (some ⟨X5, 0, none⟩)) undef (.agg (I64 xx).toArray) (.agg (I64 yy).toArray) (.agg (I64 oo).toArray) undef) V := by
  intro X5 V B c5 
  unfold dAct
  refine wpAnyH_ready (rs := [19, 20, 21, 23]) (by kernel_rfl) (by simp) (AllReadyH.cons (o := dop19) rfl (fun K hK => ?_) (AllReadyH.cons (o := dop20) rfl (fun K hK => ?_) (AllReadyH.cons (o := dop21) rfl (fun K hK => ?_) (AllReadyH.cons (o := dop23) rfl (fun K hK => ?_) AllReadyH.nil))))
  ·unfold dop19
   go_simp
   refine (Hxy.out _ B.vr).mono ?_
   rintro e y ⟨rfl, hb⟩
   go_wp2_with fail
   refine hK.out _ _ ((B.go hb).all hP) (fun _ => ?_)
   exact wpAnyH_cast (by kernel_rfl) rfl (s4_5 X5 y (B.go hb) (c5.go hb) )
  ·unfold dop20
   go_simp
   refine hK.out _ _ (B.al.all hP) (fun _ => ?_)
   exact wpAnyH_cast (by kernel_rfl) rfl (s3_35 V.heap.size X5 _ B.al (NC.new B) c5.al c5.far.symm)
  ·unfold dop21
   go_simp
   refine hK.out _ _ (B.al.all hP) (fun _ => ?_)
   exact wpAnyH_cast (by kernel_rfl) rfl (s3_45 V.heap.size X5 _ B.al (NC.new B) c5.al c5.far.symm)
  ·unfold dop23
   go_simp
   refine hK.out _ _ (B.al.all hP) (fun _ => ?_)
   exact wpAnyH_cast (by kernel_rfl) rfl (s3_56 X5 V.heap.size _ B.al c5.al (NC.new B) c5.far)
 have s3_6 : ∀ (X6 : Nat) (V : World), DB w V P → NC w V X6 Z16 → wpAnyH Tryd.prog .any dblOps Q' (dS w P) 8 (dLst true true true false false false false true) (dAct w P A0 undef undef undef (.pointer (some ⟨X6, 0, none⟩)) (.agg (I64 xx).toArray) (.agg (I64 yy).toArray) (.agg (I64 oo).toArray) undef) V := by
  intro X6 V B c6 
  unfold dAct
  refine wpAnyH_ready (rs := [19, 20, 21, 22]) (by kernel_rfl) (by simp) (AllReadyH.cons (o := dop19) rfl (fun K hK => ?_) (AllReadyH.cons (o := dop20) rfl (fun K hK => ?_) (AllReadyH.cons (o := dop21) rfl (fun K hK => ?_) (AllReadyH.cons (o := dop22) rfl (fun K hK => ?_) AllReadyH.nil))))
  ·unfold dop19
   go_simp
   refine (Hxy.out _ B.vr).mono ?_
   rintro e y ⟨rfl, hb⟩
   go_wp2_with fail
   refine hK.out _ _ ((B.go hb).all hP) (fun _ => ?_)
   exact wpAnyH_cast (by kernel_rfl) rfl (s4_6 X6 y (B.go hb) (c6.go hb) )
  ·unfold dop20
   go_simp
   refine hK.out _ _ (B.al.all hP) (fun _ => ?_)
   exact wpAnyH_cast (by kernel_rfl) rfl (s3_36 V.heap.size X6 _ B.al (NC.new B) c6.al c6.far.symm)
  ·unfold dop21
   go_simp
   refine hK.out _ _ (B.al.all hP) (fun _ => ?_)
   exact wpAnyH_cast (by kernel_rfl) rfl (s3_46 V.heap.size X6 _ B.al (NC.new B) c6.al c6.far.symm)
  ·unfold dop22
   go_simp
   refine hK.out _ _ (B.al.all hP) (fun _ => ?_)
   exact wpAnyH_cast (by kernel_rfl) rfl (s3_56 V.heap.size X6 _ B.al (NC.new B) c6.al c6.far.symm)
 have s2_3 : ∀ (X3 : Nat) (V : World), DB w V P → NC w V X3 Z16 → wpAnyH Tryd.prog .any dblOps Q' (dS w P) 9 (dLst true true false false true false false false) (dAct w P A0 (.pointer (some ⟨X3, 0, none⟩)) undef undef undef (.agg (I64 xx).toArray) (.agg (I64 yy).toArray) undef undef) V := by
  intro X3 V B c3 
  unfold dAct
  refine wpAnyH_ready (rs := [14, 21, 22, 23]) (by kernel_rfl) (by simp) (AllReadyH.cons (o := dop14) rfl (fun K hK => ?_) (AllReadyH.cons (o := dop21) rfl (fun K hK => ?_) (AllReadyH.cons (o := dop22) rfl (fun K hK => ?_) (AllReadyH.cons (o := dop23) rfl (fun K hK => ?_) AllReadyH.nil))))
  ·unfold dop14
   go_simp
   refine (Hoo.out _ B.vr).mono ?_
   rintro e y ⟨rfl, hb⟩
   go_wp2_with fail
   refine hK.out _ _ ((B.go hb).all hP) (fun _ => ?_)
   exact wpAnyH_cast (by kernel_rfl) rfl (s3_3 X3 y (B.go hb) (c3.go hb) )
  ·unfold dop21
   go_simp
   refine hK.out _ _ (B.al.all hP) (fun _ => ?_)
   exact wpAnyH_cast (by kernel_rfl) rfl (s2_34 X3 V.heap.size _ B.al c3.al (NC.new B) c3.far)
  ·unfold dop22
   go_simp
   refine hK.out _ _ (B.al.all hP) (fun _ => ?_)
   exact wpAnyH_cast (by kernel_rfl) rfl (s2_35 X3 V.heap.size _ B.al c3.al (NC.new B) c3.far)
  ·unfold dop23
   go_simp
   refine hK.out _ _ (B.al.all hP) (fun _ => ?_)
   exact wpAnyH_cast (by kernel_rfl) rfl (s2_36 X3 V.heap.size _ B.al c3.al (NC.new B) c3.far)
 have s2_4 : ∀ (X4 : Nat) (V : World), DB w V P → NC w V X4 Z16 → wpAnyH Tryd.prog .any dblOps Q' (dS w P) 9 (dLst true true false false false true false false) (dAct w P A0 undef (.pointer (some ⟨X4, 0, none⟩)) undef undef (.agg (I64 xx).toArray) (.agg (I64 yy).toArray) undef undef) V := by
  intro X4 V B c4 
  unfold dAct
  refine wpAnyH_ready (rs := [14, 20, 22, 23]) (by kernel_rfl) (by simp) (AllReadyH.cons (o := dop14) rfl (fun K hK => ?_) (AllReadyH.cons (o := dop20) rfl (fun K hK => ?_) (AllReadyH.cons (o := dop22) rfl (fun K hK => ?_) (AllReadyH.cons (o := dop23) rfl (fun K hK => ?_) AllReadyH.nil))))
  ·unfold dop14
   go_simp
   refine (Hoo.out _ B.vr).mono ?_
   rintro e y ⟨rfl, hb⟩
   go_wp2_with fail
   refine hK.out _ _ ((B.go hb).all hP) (fun _ => ?_)
   exact wpAnyH_cast (by kernel_rfl) rfl (s3_4 X4 y (B.go hb) (c4.go hb) )
  ·unfold dop20
   go_simp
   refine hK.out _ _ (B.al.all hP) (fun _ => ?_)
   exact wpAnyH_cast (by kernel_rfl) rfl (s2_34 V.heap.size X4 _ B.al (NC.new B) c4.al c4.far.symm)
  ·unfold dop22
   go_simp
   refine hK.out _ _ (B.al.all hP) (fun _ => ?_)
   exact wpAnyH_cast (by kernel_rfl) rfl (s2_45 X4 V.heap.size _ B.al c4.al (NC.new B) c4.far)
  ·unfold dop23
   go_simp
   refine hK.out _ _ (B.al.all hP) (fun _ => ?_)
   exact wpAnyH_cast (by kernel_rfl) rfl (s2_46 X4 V.heap.size _ B.al c4.al (NC.new B) c4.far)
 have s2_5 : ∀ (X5 : Nat) (V : World), DB w V P → NC w V X5 Z16 → wpAnyH Tryd.prog .any dblOps Q' (dS w P) 9 (dLst true true false false false false true false) (dAct w P A0 undef undef (.pointer (some ⟨X5, 0, none⟩)) undef (.agg (I64 xx).toArray) (.agg (I64 yy).toArray) undef undef) V := by
  intro X5 V B c5 
  unfold dAct
  refine wpAnyH_ready (rs := [14, 20, 21, 23]) (by kernel_rfl) (by simp) (AllReadyH.cons (o := dop14) rfl (fun K hK => ?_) (AllReadyH.cons (o := dop20) rfl (fun K hK => ?_) (AllReadyH.cons (o := dop21) rfl (fun K hK => ?_) (AllReadyH.cons (o := dop23) rfl (fun K hK => ?_) AllReadyH.nil))))
  ·unfold dop14
   go_simp
   refine (Hoo.out _ B.vr).mono ?_
   rintro e y ⟨rfl, hb⟩
   go_wp2_with fail
   refine hK.out _ _ ((B.go hb).all hP) (fun _ => ?_)
   exact wpAnyH_cast (by kernel_rfl) rfl (s3_5 X5 y (B.go hb) (c5.go hb) )
  ·unfold dop20
   go_simp
   refine hK.out _ _ (B.al.all hP) (fun _ => ?_)
   exact wpAnyH_cast (by kernel_rfl) rfl (s2_35 V.heap.size X5 _ B.al (NC.new B) c5.al c5.far.symm)
  ·unfold dop21
   go_simp
   refine hK.out _ _ (B.al.all hP) (fun _ => ?_)
   exact wpAnyH_cast (by kernel_rfl) rfl (s2_45 V.heap.size X5 _ B.al (NC.new B) c5.al c5.far.symm)
  ·unfold dop23
   go_simp
   refine hK.out _ _ (B.al.all hP) (fun _ => ?_)
   exact wpAnyH_cast (by kernel_rfl) rfl (s2_56 X5 V.heap.size _ B.al c5.al (NC.new B) c5.far)
 have s2_6 : ∀ (X6 : Nat) (V : World), DB w V P → NC w V X6 Z16 → wpAnyH Tryd.prog .any dblOps Q' (dS w P) 9 (dLst true true false false false false false true) (dAct w P A0 undef undef undef (.pointer (some ⟨X6, 0, none⟩)) (.agg (I64 xx).toArray) (.agg (I64 yy).toArray) undef undef) V := by
  intro X6 V B c6 
  unfold dAct
  refine wpAnyH_ready (rs := [14, 20, 21, 22]) (by kernel_rfl) (by simp) (AllReadyH.cons (o := dop14) rfl (fun K hK => ?_) (AllReadyH.cons (o := dop20) rfl (fun K hK => ?_) (AllReadyH.cons (o := dop21) rfl (fun K hK => ?_) (AllReadyH.cons (o := dop22) rfl (fun K hK => ?_) AllReadyH.nil))))
  ·unfold dop14
   go_simp
   refine (Hoo.out _ B.vr).mono ?_
   rintro e y ⟨rfl, hb⟩
   go_wp2_with fail
   refine hK.out _ _ ((B.go hb).all hP) (fun _ => ?_)
   exact wpAnyH_cast (by kernel_rfl) rfl (s3_6 X6 y (B.go hb) (c6.go hb) )
  ·unfold dop20
   go_simp
   refine hK.out _ _ (B.al.all hP) (fun _ => ?_)
   exact wpAnyH_cast (by kernel_rfl) rfl (s2_36 V.heap.size X6 _ B.al (NC.new B) c6.al c6.far.symm)
  ·unfold dop21
   go_simp
   refine hK.out _ _ (B.al.all hP) (fun _ => ?_)
   exact wpAnyH_cast (by kernel_rfl) rfl (s2_46 V.heap.size X6 _ B.al (NC.new B) c6.al c6.far.symm)
  ·unfold dop22
   go_simp
   refine hK.out _ _ (B.al.all hP) (fun _ => ?_)
   exact wpAnyH_cast (by kernel_rfl) rfl (s2_56 V.heap.size X6 _ B.al (NC.new B) c6.al c6.far.symm)
 have s1_3 : ∀ (X3 : Nat) (V : World), DB w V P → NC w V X3 Z16 → wpAnyH Tryd.prog .any dblOps Q' (dS w P) 10 (dLst true false false false true false false false) (dAct w P A0 (.pointer (some ⟨X3, 0, none⟩)) undef undef undef (.agg (I64 xx).toArray) undef undef undef) V := by
  intro X3 V B c3 
  unfold dAct
  refine wpAnyH_ready (rs := [9, 21, 22, 23]) (by kernel_rfl) (by simp) (AllReadyH.cons (o := dop9) rfl (fun K hK => ?_) (AllReadyH.cons (o := dop21) rfl (fun K hK => ?_) (AllReadyH.cons (o := dop22) rfl (fun K hK => ?_) (AllReadyH.cons (o := dop23) rfl (fun K hK => ?_) AllReadyH.nil))))
  ·unfold dop9
   go_simp
   refine (Hyy.out _ B.vr).mono ?_
   rintro e y ⟨rfl, hb⟩
   go_wp2_with fail
   refine hK.out _ _ ((B.go hb).all hP) (fun _ => ?_)
   exact wpAnyH_cast (by kernel_rfl) rfl (s2_3 X3 y (B.go hb) (c3.go hb) )
  ·unfold dop21
   go_simp
   refine hK.out _ _ (B.al.all hP) (fun _ => ?_)
   exact wpAnyH_cast (by kernel_rfl) rfl (s1_34 X3 V.heap.size _ B.al c3.al (NC.new B) c3.far)
  ·unfold dop22
   go_simp
   refine hK.out _ _ (B.al.all hP) (fun _ => ?_)
   exact wpAnyH_cast (by kernel_rfl) rfl (s1_35 X3 V.heap.size _ B.al c3.al (NC.new B) c3.far)
  ·unfold dop23
   go_simp
   refine hK.out _ _ (B.al.all hP) (fun _ => ?_)
   exact wpAnyH_cast (by kernel_rfl) rfl (s1_36 X3 V.heap.size _ B.al c3.al (NC.new B) c3.far)
 have s1_4 : ∀ (X4 : Nat) (V : World), DB w V P → NC w V X4 Z16 → wpAnyH Tryd.prog .any dblOps Q' (dS w P) 10 (dLst true false false false false true false false) (dAct w P A0 undef (.pointer (some ⟨X4, 0, none⟩)) undef undef (.agg (I64 xx).toArray) undef undef undef) V := by
  intro X4 V B c4 
  unfold dAct
  refine wpAnyH_ready (rs := [9, 20, 22, 23]) (by kernel_rfl) (by simp) (AllReadyH.cons (o := dop9) rfl (fun K hK => ?_) (AllReadyH.cons (o := dop20) rfl (fun K hK => ?_) (AllReadyH.cons (o := dop22) rfl (fun K hK => ?_) (AllReadyH.cons (o := dop23) rfl (fun K hK => ?_) AllReadyH.nil))))
  ·unfold dop9
   go_simp
   refine (Hyy.out _ B.vr).mono ?_
   rintro e y ⟨rfl, hb⟩
   go_wp2_with fail
   refine hK.out _ _ ((B.go hb).all hP) (fun _ => ?_)
   exact wpAnyH_cast (by kernel_rfl) rfl (s2_4 X4 y (B.go hb) (c4.go hb) )
  ·unfold dop20
   go_simp
   refine hK.out _ _ (B.al.all hP) (fun _ => ?_)
   exact wpAnyH_cast (by kernel_rfl) rfl (s1_34 V.heap.size X4 _ B.al (NC.new B) c4.al c4.far.symm)
  ·unfold dop22
   go_simp
   refine hK.out _ _ (B.al.all hP) (fun _ => ?_)
   exact wpAnyH_cast (by kernel_rfl) rfl (s1_45 X4 V.heap.size _ B.al c4.al (NC.new B) c4.far)
  ·unfold dop23
   go_simp
   refine hK.out _ _ (B.al.all hP) (fun _ => ?_)
   exact wpAnyH_cast (by kernel_rfl) rfl (s1_46 X4 V.heap.size _ B.al c4.al (NC.new B) c4.far)
 have s1_5 : ∀ (X5 : Nat) (V : World), DB w V P → NC w V X5 Z16 → wpAnyH Tryd.prog .any dblOps Q' (dS w P) 10 (dLst true false false false false false true false) (dAct w P A0 undef undef (.pointer (some ⟨X5, 0, none⟩)) undef (.agg (I64 xx).toArray) undef undef undef) V := by
  intro X5 V B c5 
  unfold dAct
  refine wpAnyH_ready (rs := [9, 20, 21, 23]) (by kernel_rfl) (by simp) (AllReadyH.cons (o := dop9) rfl (fun K hK => ?_) (AllReadyH.cons (o := dop20) rfl (fun K hK => ?_) (AllReadyH.cons (o := dop21) rfl (fun K hK => ?_) (AllReadyH.cons (o := dop23) rfl (fun K hK => ?_) AllReadyH.nil))))
  ·unfold dop9
   go_simp
   refine (Hyy.out _ B.vr).mono ?_
   rintro e y ⟨rfl, hb⟩
   go_wp2_with fail
   refine hK.out _ _ ((B.go hb).all hP) (fun _ => ?_)
   exact wpAnyH_cast (by kernel_rfl) rfl (s2_5 X5 y (B.go hb) (c5.go hb) )
  ·unfold dop20
   go_simp
   refine hK.out _ _ (B.al.all hP) (fun _ => ?_)
   exact wpAnyH_cast (by kernel_rfl) rfl (s1_35 V.heap.size X5 _ B.al (NC.new B) c5.al c5.far.symm)
  ·unfold dop21
   go_simp
   refine hK.out _ _ (B.al.all hP) (fun _ => ?_)
   exact wpAnyH_cast (by kernel_rfl) rfl (s1_45 V.heap.size X5 _ B.al (NC.new B) c5.al c5.far.symm)
  ·unfold dop23
   go_simp
   refine hK.out _ _ (B.al.all hP) (fun _ => ?_)
   exact wpAnyH_cast (by kernel_rfl) rfl (s1_56 X5 V.heap.size _ B.al c5.al (NC.new B) c5.far)
 have s1_6 : ∀ (X6 : Nat) (V : World), DB w V P → NC w V X6 Z16 → wpAnyH Tryd.prog .any dblOps Q' (dS w P) 10 (dLst true false false false false false false true) (dAct w P A0 undef undef undef (.pointer (some ⟨X6, 0, none⟩)) (.agg (I64 xx).toArray) undef undef undef) V := by
  intro X6 V B c6 
  unfold dAct
  refine wpAnyH_ready (rs := [9, 20, 21, 22]) (by kernel_rfl) (by simp) (AllReadyH.cons (o := dop9) rfl (fun K hK => ?_) (AllReadyH.cons (o := dop20) rfl (fun K hK => ?_) (AllReadyH.cons (o := dop21) rfl (fun K hK => ?_) (AllReadyH.cons (o := dop22) rfl (fun K hK => ?_) AllReadyH.nil))))
  ·unfold dop9
   go_simp
   refine (Hyy.out _ B.vr).mono ?_
   rintro e y ⟨rfl, hb⟩
   go_wp2_with fail
   refine hK.out _ _ ((B.go hb).all hP) (fun _ => ?_)
   exact wpAnyH_cast (by kernel_rfl) rfl (s2_6 X6 y (B.go hb) (c6.go hb) )
  ·unfold dop20
   go_simp
   refine hK.out _ _ (B.al.all hP) (fun _ => ?_)
   exact wpAnyH_cast (by kernel_rfl) rfl (s1_36 V.heap.size X6 _ B.al (NC.new B) c6.al c6.far.symm)
  ·unfold dop21
   go_simp
   refine hK.out _ _ (B.al.all hP) (fun _ => ?_)
   exact wpAnyH_cast (by kernel_rfl) rfl (s1_46 V.heap.size X6 _ B.al (NC.new B) c6.al c6.far.symm)
  ·unfold dop22
   go_simp
   refine hK.out _ _ (B.al.all hP) (fun _ => ?_)
   exact wpAnyH_cast (by kernel_rfl) rfl (s1_56 V.heap.size X6 _ B.al (NC.new B) c6.al c6.far.symm)
 have s0_3 : ∀ (X3 : Nat) (V : World), DB w V P → NC w V X3 Z16 → wpAnyH Tryd.prog .any dblOps Q' (dS w P) 11 (dLst false false false false true false false false) (dAct w P A0 (.pointer (some ⟨X3, 0, none⟩)) undef undef undef undef undef undef undef) V := by
  intro X3 V B c3 
  unfold dAct
  refine wpAnyH_ready (rs := [4, 21, 22, 23]) (by kernel_rfl) (by simp) (AllReadyH.cons (o := dop4) rfl (fun K hK => ?_) (AllReadyH.cons (o := dop21) rfl (fun K hK => ?_) (AllReadyH.cons (o := dop22) rfl (fun K hK => ?_) (AllReadyH.cons (o := dop23) rfl (fun K hK => ?_) AllReadyH.nil))))
  ·unfold dop4
   go_simp
   refine (Hxx.out _ B.vr).mono ?_
   rintro e y ⟨rfl, hb⟩
   go_wp2_with fail
   refine hK.out _ _ ((B.go hb).all hP) (fun _ => ?_)
   exact wpAnyH_cast (by kernel_rfl) rfl (s1_3 X3 y (B.go hb) (c3.go hb) )
  ·unfold dop21
   go_simp
   refine hK.out _ _ (B.al.all hP) (fun _ => ?_)
   exact wpAnyH_cast (by kernel_rfl) rfl (s0_34 X3 V.heap.size _ B.al c3.al (NC.new B) c3.far)
  ·unfold dop22
   go_simp
   refine hK.out _ _ (B.al.all hP) (fun _ => ?_)
   exact wpAnyH_cast (by kernel_rfl) rfl (s0_35 X3 V.heap.size _ B.al c3.al (NC.new B) c3.far)
  ·unfold dop23
   go_simp
   refine hK.out _ _ (B.al.all hP) (fun _ => ?_)
   exact wpAnyH_cast (by kernel_rfl) rfl (s0_36 X3 V.heap.size _ B.al c3.al (NC.new B) c3.far)
 have s0_4 : ∀ (X4 : Nat) (V : World), DB w V P → NC w V X4 Z16 → wpAnyH Tryd.prog .any dblOps Q' (dS w P) 11 (dLst false false false false false true false false) (dAct w P A0 undef (.pointer (some ⟨X4, 0, none⟩)) undef undef undef undef undef undef) V := by
  intro X4 V B c4 
  unfold dAct
  refine wpAnyH_ready (rs := [4, 20, 22, 23]) (by kernel_rfl) (by simp) (AllReadyH.cons (o := dop4) rfl (fun K hK => ?_) (AllReadyH.cons (o := dop20) rfl (fun K hK => ?_) (AllReadyH.cons (o := dop22) rfl (fun K hK => ?_) (AllReadyH.cons (o := dop23) rfl (fun K hK => ?_) AllReadyH.nil))))
  ·unfold dop4
   go_simp
   refine (Hxx.out _ B.vr).mono ?_
   rintro e y ⟨rfl, hb⟩
   go_wp2_with fail
   refine hK.out _ _ ((B.go hb).all hP) (fun _ => ?_)
   exact wpAnyH_cast (by kernel_rfl) rfl (s1_4 X4 y (B.go hb) (c4.go hb) )
  ·unfold dop20
   go_simp
   refine hK.out _ _ (B.al.all hP) (fun _ => ?_)
   exact wpAnyH_cast (by kernel_rfl) rfl (s0_34 V.heap.size X4 _ B.al (NC.new B) c4.al c4.far.symm)
  ·unfold dop22
   go_simp
   refine hK.out _ _ (B.al.all hP) (fun _ => ?_)
   exact wpAnyH_cast (by kernel_rfl) rfl (s0_45 X4 V.heap.size _ B.al c4.al (NC.new B) c4.far)
  ·unfold dop23
   go_simp
   refine hK.out _ _ (B.al.all hP) (fun _ => ?_)
   exact wpAnyH_cast (by kernel_rfl) rfl (s0_46 X4 V.heap.size _ B.al c4.al (NC.new B) c4.far)
 have s0_5 : ∀ (X5 : Nat) (V : World), DB w V P → NC w V X5 Z16 → wpAnyH Tryd.prog .any dblOps Q' (dS w P) 11 (dLst false false false false false false true false) (dAct w P A0 undef undef (.pointer (some ⟨X5, 0, none⟩)) undef undef undef undef undef) V := by
  intro X5 V B c5 
  unfold dAct
  refine wpAnyH_ready (rs := [4, 20, 21, 23]) (by kernel_rfl) (by simp) (AllReadyH.cons (o := dop4) rfl (fun K hK => ?_) (AllReadyH.cons (o := dop20) rfl (fun K hK => ?_) (AllReadyH.cons (o := dop21) rfl (fun K hK => ?_) (AllReadyH.cons (o := dop23) rfl (fun K hK => ?_) AllReadyH.nil))))
  ·unfold dop4
   go_simp
   refine (Hxx.out _ B.vr).mono ?_
   rintro e y ⟨rfl, hb⟩
   go_wp2_with fail
   refine hK.out _ _ ((B.go hb).all hP) (fun _ => ?_)
   exact wpAnyH_cast (by kernel_rfl) rfl (s1_5 X5 y (B.go hb) (c5.go hb) )
  ·unfold dop20
   go_simp
   refine hK.out _ _ (B.al.all hP) (fun _ => ?_)
   exact wpAnyH_cast (by kernel_rfl) rfl (s0_35 V.heap.size X5 _ B.al (NC.new B) c5.al c5.far.symm)
  ·unfold dop21
   go_simp
   refine hK.out _ _ (B.al.all hP) (fun _ => ?_)
   exact wpAnyH_cast (by kernel_rfl) rfl (s0_45 V.heap.size X5 _ B.al (NC.new B) c5.al c5.far.symm)
  ·unfold dop23
   go_simp
   refine hK.out _ _ (B.al.all hP) (fun _ => ?_)
   exact wpAnyH_cast (by kernel_rfl) rfl (s0_56 X5 V.heap.size _ B.al c5.al (NC.new B) c5.far)
 have s0_6 : ∀ (X6 : Nat) (V : World), DB w V P → NC w V X6 Z16 → wpAnyH Tryd.prog .any dblOps Q' (dS w P) 11 (dLst false false false false false false false true) (dAct w P A0 undef undef undef (.pointer (some ⟨X6, 0, none⟩)) undef undef undef undef) V := by
  intro X6 V B c6 
  unfold dAct
  refine wpAnyH_ready (rs := [4, 20, 21, 22]) (by kernel_rfl) (by simp) (AllReadyH.cons (o := dop4) rfl (fun K hK => ?_) (AllReadyH.cons (o := dop20) rfl (fun K hK => ?_) (AllReadyH.cons (o := dop21) rfl (fun K hK => ?_) (AllReadyH.cons (o := dop22) rfl (fun K hK => ?_) AllReadyH.nil))))
  ·unfold dop4
   go_simp
   refine (Hxx.out _ B.vr).mono ?_
   rintro e y ⟨rfl, hb⟩
   go_wp2_with fail
   refine hK.out _ _ ((B.go hb).all hP) (fun _ => ?_)
   exact wpAnyH_cast (by kernel_rfl) rfl (s1_6 X6 y (B.go hb) (c6.go hb) )
  ·unfold dop20
   go_simp
   refine hK.out _ _ (B.al.all hP) (fun _ => ?_)
   exact wpAnyH_cast (by kernel_rfl) rfl (s0_36 V.heap.size X6 _ B.al (NC.new B) c6.al c6.far.symm)
  ·unfold dop21
   go_simp
   refine hK.out _ _ (B.al.all hP) (fun _ => ?_)
   exact wpAnyH_cast (by kernel_rfl) rfl (s0_46 V.heap.size X6 _ B.al (NC.new B) c6.al c6.far.symm)
  ·unfold dop22
   go_simp
   refine hK.out _ _ (B.al.all hP) (fun _ => ?_)
   exact wpAnyH_cast (by kernel_rfl) rfl (s0_56 V.heap.size X6 _ B.al (NC.new B) c6.al c6.far.symm)
 have s4_ : ∀  (V : World), DB w V P → wpAnyH Tryd.prog .any dblOps Q' (dS w P) 8 (dLst true true true true false false false false) (dAct w P A0 undef undef undef undef (.agg (I64 xx).toArray) (.agg (I64 yy).toArray) (.agg (I64 oo).toArray) (.agg (I64 xy).toArray)) V := by
  intro  V B  
  unfold dAct
  refine wpAnyH_ready (rs := [20, 21, 22, 23]) (by kernel_rfl) (by simp) (AllReadyH.cons (o := dop20) rfl (fun K hK => ?_) (AllReadyH.cons (o := dop21) rfl (fun K hK => ?_) (AllReadyH.cons (o := dop22) rfl (fun K hK => ?_) (AllReadyH.cons (o := dop23) rfl (fun K hK => ?_) AllReadyH.nil))))
  ·unfold dop20
   go_simp
   refine hK.out _ _ (B.al.all hP) (fun _ => ?_)
   exact wpAnyH_cast (by kernel_rfl) rfl (s4_3 V.heap.size _ B.al (NC.new B) )
  ·unfold dop21
   go_simp
   refine hK.out _ _ (B.al.all hP) (fun _ => ?_)
   exact wpAnyH_cast (by kernel_rfl) rfl (s4_4 V.heap.size _ B.al (NC.new B) )
  ·unfold dop22
   go_simp
   refine hK.out _ _ (B.al.all hP) (fun _ => ?_)
   exact wpAnyH_cast (by kernel_rfl) rfl (s4_5 V.heap.size _ B.al (NC.new B) )
  ·unfold dop23
   go_simp
   refine hK.out _ _ (B.al.all hP) (fun _ => ?_)
   exact wpAnyH_cast (by kernel_rfl) rfl (s4_6 V.heap.size _ B.al (NC.new B) )
 have s3_ : ∀  (V : World), DB w V P → wpAnyH Tryd.prog .any dblOps Q' (dS w P) 9 (dLst true true true false false false false false) (dAct w P A0 undef undef undef undef (.agg (I64 xx).toArray) (.agg (I64 yy).toArray) (.agg (I64 oo).toArray) undef) V := by
  intro  V B  
  unfold dAct
  refine wpAnyH_ready (rs := [19, 20, 21, 22, 23]) (by kernel_rfl) (by simp) (AllReadyH.cons (o := dop19) rfl (fun K hK => ?_) (AllReadyH.cons (o := dop20) rfl (fun K hK => ?_) (AllReadyH.cons (o := dop21) rfl (fun K hK => ?_) (AllReadyH.cons (o := dop22) rfl (fun K hK => ?_) (AllReadyH.cons (o := dop23) rfl (fun K hK => ?_) AllReadyH.nil)))))
  ·unfold dop19
   go_simp
   refine (Hxy.out _ B.vr).mono ?_
   rintro e y ⟨rfl, hb⟩
   go_wp2_with fail
   refine hK.out _ _ ((B.go hb).all hP) (fun _ => ?_)
   exact wpAnyH_cast (by kernel_rfl) rfl (s4_  y (B.go hb)  )
  ·unfold dop20
   go_simp
   refine hK.out _ _ (B.al.all hP) (fun _ => ?_)
   exact wpAnyH_cast (by kernel_rfl) rfl (s3_3 V.heap.size _ B.al (NC.new B) )
  ·unfold dop21
   go_simp
   refine hK.out _ _ (B.al.all hP) (fun _ => ?_)
   exact wpAnyH_cast (by kernel_rfl) rfl (s3_4 V.heap.size _ B.al (NC.new B) )
  ·unfold dop22
   go_simp
   refine hK.out _ _ (B.al.all hP) (fun _ => ?_)
   exact wpAnyH_cast (by kernel_rfl) rfl (s3_5 V.heap.size _ B.al (NC.new B) )
  ·unfold dop23
   go_simp
   refine hK.out _ _ (B.al.all hP) (fun _ => ?_)
   exact wpAnyH_cast (by kernel_rfl) rfl (s3_6 V.heap.size _ B.al (NC.new B) )
 have s2_ : ∀  (V : World), DB w V P → wpAnyH Tryd.prog .any dblOps Q' (dS w P) 10 (dLst true true false false false false false false) (dAct w P A0 undef undef undef undef (.agg (I64 xx).toArray) (.agg (I64 yy).toArray) undef undef) V := by
  intro  V B  
  unfold dAct
  refine wpAnyH_ready (rs := [14, 20, 21, 22, 23]) (by kernel_rfl) (by simp) (AllReadyH.cons (o := dop14) rfl (fun K hK => ?_) (AllReadyH.cons (o := dop20) rfl (fun K hK => ?_) (AllReadyH.cons (o := dop21) rfl (fun K hK => ?_) (AllReadyH.cons (o := dop22) rfl (fun K hK => ?_) (AllReadyH.cons (o := dop23) rfl (fun K hK => ?_) AllReadyH.nil)))))
  ·unfold dop14
   go_simp
   refine (Hoo.out _ B.vr).mono ?_
   rintro e y ⟨rfl, hb⟩
   go_wp2_with fail
   refine hK.out _ _ ((B.go hb).all hP) (fun _ => ?_)
   exact wpAnyH_cast (by kernel_rfl) rfl (s3_  y (B.go hb)  )
  ·unfold dop20
   go_simp
   refine hK.out _ _ (B.al.all hP) (fun _ => ?_)
   exact wpAnyH_cast (by kernel_rfl) rfl (s2_3 V.heap.size _ B.al (NC.new B) )
  ·unfold dop21
   go_simp
   refine hK.out _ _ (B.al.all hP) (fun _ => ?_)
   exact wpAnyH_cast (by kernel_rfl) rfl (s2_4 V.heap.size _ B.al (NC.new B) )
  ·unfold dop22
   go_simp
   refine hK.out _ _ (B.al.all hP) (fun _ => ?_)
   exact wpAnyH_cast (by kernel_rfl) rfl (s2_5 V.heap.size _ B.al (NC.new B) )
  ·unfold dop23
   go_simp
   refine hK.out _ _ (B.al.all hP) (fun _ => ?_)
   exact wpAnyH_cast (by kernel_rfl) rfl (s2_6 V.heap.size _ B.al (NC.new B) )
 have s1_ : ∀  (V : World), DB w V P → wpAnyH Tryd.prog .any dblOps Q' (dS w P) 11 (dLst true false false false false false false false) (dAct w P A0 undef undef undef undef (.agg (I64 xx).toArray) undef undef undef) V := by
  intro  V B  
  unfold dAct
  refine wpAnyH_ready (rs := [9, 20, 21, 22, 23]) (by kernel_rfl) (by simp) (AllReadyH.cons (o := dop9) rfl (fun K hK => ?_) (AllReadyH.cons (o := dop20) rfl (fun K hK => ?_) (AllReadyH.cons (o := dop21) rfl (fun K hK => ?_) (AllReadyH.cons (o := dop22) rfl (fun K hK => ?_) (AllReadyH.cons (o := dop23) rfl (fun K hK => ?_) AllReadyH.nil)))))
  ·unfold dop9
   go_simp
   refine (Hyy.out _ B.vr).mono ?_
   rintro e y ⟨rfl, hb⟩
   go_wp2_with fail
   refine hK.out _ _ ((B.go hb).all hP) (fun _ => ?_)
   exact wpAnyH_cast (by kernel_rfl) rfl (s2_  y (B.go hb)  )
  ·unfold dop20
   go_simp
   refine hK.out _ _ (B.al.all hP) (fun _ => ?_)
   exact wpAnyH_cast (by kernel_rfl) rfl (s1_3 V.heap.size _ B.al (NC.new B) )
  ·unfold dop21
   go_simp
   refine hK.out _ _ (B.al.all hP) (fun _ => ?_)
   exact wpAnyH_cast (by kernel_rfl) rfl (s1_4 V.heap.size _ B.al (NC.new B) )
  ·unfold dop22
   go_simp
   refine hK.out _ _ (B.al.all hP) (fun _ => ?_)
   exact wpAnyH_cast (by kernel_rfl) rfl (s1_5 V.heap.size _ B.al (NC.new B) )
  ·unfold dop23
   go_simp
   refine hK.out _ _ (B.al.all hP) (fun _ => ?_)
   exact wpAnyH_cast (by kernel_rfl) rfl (s1_6 V.heap.size _ B.al (NC.new B) )
 have s0_ : ∀  (V : World), DB w V P → wpAnyH Tryd.prog .any dblOps Q' (dS w P) 12 (dLst false false false false false false false false) (dAct w P A0 undef undef undef undef undef undef undef undef) V := by
  intro  V B  
  unfold dAct
  refine wpAnyH_ready (rs := [4, 20, 21, 22, 23]) (by kernel_rfl) (by simp) (AllReadyH.cons (o := dop4) rfl (fun K hK => ?_) (AllReadyH.cons (o := dop20) rfl (fun K hK => ?_) (AllReadyH.cons (o := dop21) rfl (fun K hK => ?_) (AllReadyH.cons (o := dop22) rfl (fun K hK => ?_) (AllReadyH.cons (o := dop23) rfl (fun K hK => ?_) AllReadyH.nil)))))
  ·unfold dop4
   go_simp
   refine (Hxx.out _ B.vr).mono ?_
   rintro e y ⟨rfl, hb⟩
   go_wp2_with fail
   refine hK.out _ _ ((B.go hb).all hP) (fun _ => ?_)
   exact wpAnyH_cast (by kernel_rfl) rfl (s1_  y (B.go hb)  )
  ·unfold dop20
   go_simp
   refine hK.out _ _ (B.al.all hP) (fun _ => ?_)
   exact wpAnyH_cast (by kernel_rfl) rfl (s0_3 V.heap.size _ B.al (NC.new B) )
  ·unfold dop21
   go_simp
   refine hK.out _ _ (B.al.all hP) (fun _ => ?_)
   exact wpAnyH_cast (by kernel_rfl) rfl (s0_4 V.heap.size _ B.al (NC.new B) )
  ·unfold dop22
   go_simp
   refine hK.out _ _ (B.al.all hP) (fun _ => ?_)
   exact wpAnyH_cast (by kernel_rfl) rfl (s0_5 V.heap.size _ B.al (NC.new B) )
  ·unfold dop23
   go_simp
   refine hK.out _ _ (B.al.all hP) (fun _ => ?_)
   exact wpAnyH_cast (by kernel_rfl) rfl (s0_6 V.heap.size _ B.al (NC.new B) )
 have bD : Below W.heap.size W W.drew := (Below.refl _ _).drew
 replace B := B.go bD
 clear bD
 refine wp_region_held_drew (S := dS w P) (by kernel_rfl) (B.all hP) (fun hHeld => ?_)
 obtain ⟨D1, hD⟩ : ∃ V, V = W.drew := ⟨_, rfl⟩
 rw [← hD] at hHeld B ⊢
 clear hD
 simp only [dblOps]
 refine wpAnyH_take (i := 0) (oi := { dst := some 8, op := Op.fieldAddr 72 (Operand.tmp 1) 0, type := 0, pos := "l06_point.go:173", after := #[], guard := none }) (v := .pointer (some ⟨w.heap.size, 0, none⟩)) rfl (by kernel_rfl) (by kernel_rfl) (by kernel_rfl) (fun c a w h => hQp c a _ _ w h) (.inl ⟨by rfl, fun _ _ => by rfl⟩) (by assumption) ?_
 simp only [Act.put, List.setIfInBounds_toArray, List.set_cons_zero, List.set_cons_succ]
 refine wpAnyH_take (i := 1) (oi := { dst := some 9, op := Op.load 70 (Operand.tmp 8), type := 70, pos := "l06_point.go:173", after := #[{ on := 0, ground := Ground.data }], guard := none }) (v := _) rfl (by kernel_rfl) (by kernel_rfl) (by kernel_rfl) (fun c a w h => hQp c a _ _ w h) (yieldsIf_load_mid (by rfl) _ _ rfl _ _ rfl (I64 P.a) _ (fun _ h => h.1) hu rfl iPa) (by assumption) ?_
 simp only [Act.put, List.setIfInBounds_toArray, List.set_cons_zero, List.set_cons_succ]
 refine wpAnyH_take (i := 2) (oi := { dst := some 10, op := Op.fieldAddr 72 (Operand.tmp 1) 0, type := 0, pos := "l06_point.go:173", after := #[], guard := none }) (v := .pointer (some ⟨w.heap.size, 0, none⟩)) rfl (by kernel_rfl) (by kernel_rfl) (by kernel_rfl) (fun c a w h => hQp c a _ _ w h) (.inl ⟨by rfl, fun _ _ => by rfl⟩) (by assumption) ?_
 simp only [Act.put, List.setIfInBounds_toArray, List.set_cons_zero, List.set_cons_succ]
 refine wpAnyH_take (i := 3) (oi := { dst := some 11, op := Op.load 70 (Operand.tmp 10), type := 70, pos := "l06_point.go:173", after := #[{ on := 2, ground := Ground.data }], guard := none }) (v := _) rfl (by kernel_rfl) (by kernel_rfl) (by kernel_rfl) (fun c a w h => hQp c a _ _ w h) (yieldsIf_load_mid (by rfl) _ _ rfl _ _ rfl (I64 P.a) _ (fun _ h => h.1) hu rfl iPa) (by assumption) ?_
 simp only [Act.put, List.setIfInBounds_toArray, List.set_cons_zero, List.set_cons_succ]
 refine wpAnyH_take (i := 5) (oi := { dst := some 13, op := Op.fieldAddr 72 (Operand.tmp 1) 1, type := 0, pos := "l06_point.go:173", after := #[], guard := none }) (v := .pointer (some ⟨w.heap.size, 16, none⟩)) rfl (by kernel_rfl) (by kernel_rfl) (by kernel_rfl) (fun c a w h => hQp c a _ _ w h) (.inl ⟨by rfl, fun _ _ => by rfl⟩) (by assumption) ?_
 simp only [Act.put, List.setIfInBounds_toArray, List.set_cons_zero, List.set_cons_succ]
 refine wpAnyH_take (i := 6) (oi := { dst := some 14, op := Op.load 70 (Operand.tmp 13), type := 70, pos := "l06_point.go:173", after := #[{ on := 5, ground := Ground.data }], guard := none }) (v := _) rfl (by kernel_rfl) (by kernel_rfl) (by kernel_rfl) (fun c a w h => hQp c a _ _ w h) (yieldsIf_load_mid (by rfl) _ _ rfl _ _ rfl (I64 P.b) _ (fun _ h => h.2.1) hu rfl iPb) (by assumption) ?_
 simp only [Act.put, List.setIfInBounds_toArray, List.set_cons_zero, List.set_cons_succ]
 refine wpAnyH_take (i := 7) (oi := { dst := some 15, op := Op.fieldAddr 72 (Operand.tmp 1) 1, type := 0, pos := "l06_point.go:173", after := #[], guard := none }) (v := .pointer (some ⟨w.heap.size, 16, none⟩)) rfl (by kernel_rfl) (by kernel_rfl) (by kernel_rfl) (fun c a w h => hQp c a _ _ w h) (.inl ⟨by rfl, fun _ _ => by rfl⟩) (by assumption) ?_
 simp only [Act.put, List.setIfInBounds_toArray, List.set_cons_zero, List.set_cons_succ]
 refine wpAnyH_take (i := 8) (oi := { dst := some 16, op := Op.load 70 (Operand.tmp 15), type := 70, pos := "l06_point.go:173", after := #[{ on := 7, ground := Ground.data }], guard := none }) (v := _) rfl (by kernel_rfl) (by kernel_rfl) (by kernel_rfl) (fun c a w h => hQp c a _ _ w h) (yieldsIf_load_mid (by rfl) _ _ rfl _ _ rfl (I64 P.b) _ (fun _ h => h.2.1) hu rfl iPb) (by assumption) ?_
 simp only [Act.put, List.setIfInBounds_toArray, List.set_cons_zero, List.set_cons_succ]
 refine wpAnyH_take (i := 10) (oi := { dst := some 18, op := Op.fieldAddr 72 (Operand.tmp 1) 2, type := 0, pos := "l06_point.go:173", after := #[], guard := none }) (v := .pointer (some ⟨w.heap.size, 32, none⟩)) rfl (by kernel_rfl) (by kernel_rfl) (by kernel_rfl) (fun c a w h => hQp c a _ _ w h) (.inl ⟨by rfl, fun _ _ => by rfl⟩) (by assumption) ?_
 simp only [Act.put, List.setIfInBounds_toArray, List.set_cons_zero, List.set_cons_succ]
 refine wpAnyH_take (i := 11) (oi := { dst := some 19, op := Op.load 70 (Operand.tmp 18), type := 70, pos := "l06_point.go:173", after := #[{ on := 10, ground := Ground.data }], guard := none }) (v := _) rfl (by kernel_rfl) (by kernel_rfl) (by kernel_rfl) (fun c a w h => hQp c a _ _ w h) (yieldsIf_load_mid (by rfl) _ _ rfl _ _ rfl (I64 P.c) _ (fun _ h => h.2.2) hu rfl iPc) (by assumption) ?_
 simp only [Act.put, List.setIfInBounds_toArray, List.set_cons_zero, List.set_cons_succ]
 refine wpAnyH_take (i := 12) (oi := { dst := some 20, op := Op.fieldAddr 72 (Operand.tmp 1) 2, type := 0, pos := "l06_point.go:173", after := #[], guard := none }) (v := .pointer (some ⟨w.heap.size, 32, none⟩)) rfl (by kernel_rfl) (by kernel_rfl) (by kernel_rfl) (fun c a w h => hQp c a _ _ w h) (.inl ⟨by rfl, fun _ _ => by rfl⟩) (by assumption) ?_
 simp only [Act.put, List.setIfInBounds_toArray, List.set_cons_zero, List.set_cons_succ]
 refine wpAnyH_take (i := 13) (oi := { dst := some 21, op := Op.load 70 (Operand.tmp 20), type := 70, pos := "l06_point.go:173", after := #[{ on := 12, ground := Ground.data }], guard := none }) (v := _) rfl (by kernel_rfl) (by kernel_rfl) (by kernel_rfl) (fun c a w h => hQp c a _ _ w h) (yieldsIf_load_mid (by rfl) _ _ rfl _ _ rfl (I64 P.c) _ (fun _ h => h.2.2) hu rfl iPc) (by assumption) ?_
 simp only [Act.put, List.setIfInBounds_toArray, List.set_cons_zero, List.set_cons_succ]
 refine wpAnyH_take (i := 15) (oi := { dst := some 23, op := Op.fieldAddr 72 (Operand.tmp 1) 0, type := 0, pos := "l06_point.go:173", after := #[], guard := none }) (v := .pointer (some ⟨w.heap.size, 0, none⟩)) rfl (by kernel_rfl) (by kernel_rfl) (by kernel_rfl) (fun c a w h => hQp c a _ _ w h) (.inl ⟨by rfl, fun _ _ => by rfl⟩) (by assumption) ?_
 simp only [Act.put, List.setIfInBounds_toArray, List.set_cons_zero, List.set_cons_succ]
 refine wpAnyH_take (i := 16) (oi := { dst := some 24, op := Op.load 70 (Operand.tmp 23), type := 70, pos := "l06_point.go:173", after := #[{ on := 15, ground := Ground.data }], guard := none }) (v := _) rfl (by kernel_rfl) (by kernel_rfl) (by kernel_rfl) (fun c a w h => hQp c a _ _ w h) (yieldsIf_load_mid (by rfl) _ _ rfl _ _ rfl (I64 P.a) _ (fun _ h => h.1) hu rfl iPa) (by assumption) ?_
 simp only [Act.put, List.setIfInBounds_toArray, List.set_cons_zero, List.set_cons_succ]
 refine wpAnyH_take (i := 17) (oi := { dst := some 25, op := Op.fieldAddr 72 (Operand.tmp 1) 1, type := 0, pos := "l06_point.go:173", after := #[], guard := none }) (v := .pointer (some ⟨w.heap.size, 16, none⟩)) rfl (by kernel_rfl) (by kernel_rfl) (by kernel_rfl) (fun c a w h => hQp c a _ _ w h) (.inl ⟨by rfl, fun _ _ => by rfl⟩) (by assumption) ?_
 simp only [Act.put, List.setIfInBounds_toArray, List.set_cons_zero, List.set_cons_succ]
 refine wpAnyH_take (i := 18) (oi := { dst := some 26, op := Op.load 70 (Operand.tmp 25), type := 70, pos := "l06_point.go:173", after := #[{ on := 17, ground := Ground.data }], guard := none }) (v := _) rfl (by kernel_rfl) (by kernel_rfl) (by kernel_rfl) (fun c a w h => hQp c a _ _ w h) (yieldsIf_load_mid (by rfl) _ _ rfl _ _ rfl (I64 P.b) _ (fun _ h => h.2.1) hu rfl iPb) (by assumption) ?_
 simp only [Act.put, List.setIfInBounds_toArray, List.set_cons_zero, List.set_cons_succ]
 exact wpAnyH_cast (by kernel_rfl) rfl (s0_ D1 B)

end Go.Proofs.YtoblilngppjmhaaDoor
