/-
  What is proved here: contracts of the specification's l4inv and l4zero: the inverse of a number of the field, and whether it is none; a point in the long form as the specification keeps it in memory: how it is built and read; what it makes of points, as plain functions; plain facts on worlds of which one block may have turned, and on reading a part of an array value; no program is spoken of, no condition; plain facts on a variable's block; no condition; what a variable of the program holds stays through stores elsewhere; plain facts on memory.
-/
import Derived.Test.YtihoaakbkffejaaDoorZFt
import Derived.Test.YtihoaakbkffejaaDoorZFp
import Derived.Test.YtihoaakbkffejaaDoorZPm
import Derived.Test.YtihoaakbkffejaaDoorZRbg
import Derived.Test.YtihoaakbkffejaaDoorZArr
import Derived.Deep.RegionHeld3
import Derived.BigRegion
import Derived.Test.YtihoaakbkffejaaDoorZFm
namespace Go.Proofs.YtihoaakbkffejaaDoor
open Go.RowKit
set_option maxRecDepth 100000

/-- An array that is read and one that is written, through whatever keeps what is there. -/
structure E2 (w W : World) (a : List Int) : Prop where
  fr : Below w.heap.size w W
  pa : Arr W w.heap.size 31 (I64 a)
  pr : Arr W (w.heap.size + 1) 31 (I64 Z16)
theorem E2.go {w A B : World} {a : List Int} (h : E2 w A a) (hb : Below A.heap.size A B) : E2 w B a := ⟨h.fr.trans (hb.mono h.fr.size), h.pa.kept hb, h.pr.kept hb⟩
theorem E2.one {w W : World} {a : List Int} (h : E2 w W a) : W.rangeAt w.heap.size 0 (I64 a) := arr_range h.pa
theorem E2.new (w : World) (a : List Int) : E2 w ((w.alloc (.cells (I64 a).toArray 31)).alloc (.cells (I64 Z16).toArray 31)) a := by
  refine ⟨((Below.refl _ _).alloc (Nat.le_refl _) _).alloc (by simp) _, (Arr.new w (I64 a) _).alloc _, ?_⟩
  have := Arr.new (w.alloc (.cells (I64 a).toArray 31)) (I64 Z16) 31
  rw [World.size_alloc] at this
  exact this

theorem two_len : (lim 16 2).length = 16 := lim_len _ _
theorem tk_two : (tk16 PL (lim 16 2)).length = 16 ∧ Lm (tk16 PL (lim 16 2)) ∧ (val (tk16 PL (lim 16 2))).toNat = eInv := by
  have htk : tk16 PL (lim 16 2) = lim 16 (P25519 - 2) := by
    rw [tk16_lim PL_len two_len, PL_val, val_lim]
    rfl
  rw [htk]
  exact ⟨lim_len _ _, lim_lm _ _, by rw [val_lim]; rfl⟩

/-- The inverse. -/
def invF (a : List Int) : List Int := red (val a ^ eInv)

set_option maxHeartbeats 2000000 in
theorem specInv (a : List Int) (w : World) (ha : a.length = 16) (la : Lm a) :
    Calls Tryd.prog 32 #[.agg (I64 a).toArray] w fun e w' => e = .returned (.agg (I64 (invF a)).toArray) ∧ Below w.heap.size w w' := by
  obtain ⟨tl, tm, tv⟩ := tk_two
  obtain ⟨R, hR⟩ : ∃ R, R = invF a := ⟨_, rfl⟩
  have hRl : R.length = 16 := by rw [hR]; exact red_len _
  have HSM : Hid (∀ Z, Calls Tryd.prog 34 #[.int .i64 2] Z fun e w' => e = .returned (.agg (I64 (lim 16 2)).toArray) ∧ Below Z.heap.size Z w') := by
    unfold Hid; intro Z; exact specSmall 2 Z (by omega) (by omega)
  have HTK : Hid (∀ Z, Calls Tryd.prog 59 #[.agg (I64 PL).toArray, .agg (I64 (lim 16 2)).toArray] Z fun e w' => e = .returned (.agg (I64 (tk16 PL (lim 16 2))).toArray) ∧ Below Z.heap.size Z w') := by
    unfold Hid; intro Z; exact specTake PL _ Z PL_len two_len PL_lm (lim_lm _ _)
  have HPW : Hid (∀ Z, Calls Tryd.prog 58 #[.agg (I64 a).toArray, .agg (I64 (tk16 PL (lim 16 2))).toArray] Z fun e w' => e = .returned (.agg (I64 R).toArray) ∧ Below Z.heap.size Z w') := by
    unfold Hid; intro Z
    have := specPow a _ Z ha tl la tm
    rw [tv] at this
    rw [hR]
    exact this
  obtain ⟨D, hD⟩ : ∃ D, D = lim 16 2 := ⟨_, rfl⟩
  obtain ⟨T, hT⟩ : ∃ T, T = tk16 PL D := ⟨_, rfl⟩
  rw [← hD] at HSM HTK HPW
  rw [← hT] at HTK HPW
  obtain ⟨L, hL⟩ : ∃ L, L = PL := ⟨_, rfl⟩
  have HPR : Hid (∀ Z, Calls Tryd.prog 60 #[] Z fun e w' => e = .returned (.agg (I64 L).toArray) ∧ Below Z.heap.size Z w') := by
    unfold Hid; intro Z; rw [hL]; exact specPrime Z
  rw [← hL] at HTK
  rw [← hR]
  obtain ⟨A, hA⟩ : ∃ A, A = (I64 a).toArray := ⟨_, rfl⟩
  obtain ⟨W, hW⟩ : ∃ W, W = (w.alloc (.cells A 31)).alloc (.cells #[.int .i64 0, .int .i64 0, .int .i64 0, .int .i64 0, .int .i64 0, .int .i64 0, .int .i64 0, .int .i64 0, .int .i64 0, .int .i64 0, .int .i64 0, .int .i64 0, .int .i64 0, .int .i64 0, .int .i64 0, .int .i64 0] 31) := ⟨_, rfl⟩
  have EE : E2 w W a := by rw [hW, hA]; exact E2.new w a
  have EE' : E2 w W.drew a := EE.go (Below.refl _ _).drew
  rw [← hA]
  have hone : ∀ v ∈ I64 R, v.oneCell' = true := by
    intro v hv
    obtain ⟨x, _, rfl⟩ := List.mem_map.1 hv
    rfl
  have hu : Tryd.prog.underlying 31 = some (.array 16 3) := Tryd.underlying31
  have hia : (Tryd.prog.info? 31).map (·.size) = some (I64 a).length := by simpa [ha] using infoE
  have hir : (Tryd.prog.info? 31).map (·.size) = some (I64 R).length := by simpa [hRl] using infoE
  clear hA hR hD hT hL tl tm tv EE ha la
  go_enter Tryd.func32, Tryd.ntmps32
  go_wp2
  rw [← hW]
  clear hW
  go_region_held3 (fun W => W.rangeAt w.heap.size 0 (I64 a))
    (first
      | exact EE'.one
      | exact hS5)
    ((first
      | (go_at_call 60; refine (HPR.out _).mono ?_; rintro e w1 ⟨rfl, hb1⟩; replace EE' := EE'.go hb1; clear hb1)
      | (go_at_call 34; refine (HSM.out _).mono ?_; rintro e w2 ⟨rfl, hb2⟩; replace EE' := EE'.go hb2; clear hb2)
      | (go_at_call 59; refine (HTK.out _).mono ?_; rintro e w3 ⟨rfl, hb3⟩; replace EE' := EE'.go hb3; clear hb3)
      | (go_at_call 58; refine (HPW.out _).mono ?_; rintro e w4 ⟨rfl, hb4⟩; replace EE' := EE'.go hb4; clear hb4; have hth : w4.there (w.heap.size + 1) 0 (I64 R).length := (by simpa [hRl] using arr_there EE'.pr); have hS5 : (w4.setCells (w.heap.size + 1) 0 (I64 R)).rangeAt w.heap.size 0 (I64 a) := arr_range (Arr.setCellsO (by omega) _ _ EE'.pa))))
  all_goals
    have hA5 : Arr (w4.setCells (w.heap.size + 1) 0 (I64 R)) (w.heap.size + 1) 31 (I64 R) := Arr.setCells0 EE'.pr (by simp [hRl])
    have hB5 : Below w.heap.size w (w4.setCells (w.heap.size + 1) 0 (I64 R)) := setCells_below (by omega) _ _ EE'.fr
    go_wp2
    exact bodyPost_ret (results_cell_row rfl _ _ (w.heap.size + 1) 31 (I64 R).toArray (0, 0) _ rfl hA5 Tryd.underlying31 rfl (by simpa [hRl] using infoE)) rfl ⟨rfl, hB5⟩
end Go.Proofs.YtihoaakbkffejaaDoor
namespace Go.Proofs.YtihoaakbkffejaaDoor
open Go.RowKit
set_option maxRecDepth 100000
set_option maxHeartbeats 4000000

/-- The four numbers of a point in the long form. -/
structure E4 where
  a : List Int
  b : List Int
  c : List Int
  t : List Int
/-- As they lie in memory. -/
def E4.cells (P : E4) : List Int := P.a ++ P.b ++ P.c ++ P.t
/-- All four are numbers of the field. -/
structure E4.Ok (P : E4) : Prop where
  a : feOk P.a = true
  b : feOk P.b = true
  c : feOk P.c = true
  t : feOk P.t = true
theorem feOk_len {l : List Int} (h : feOk l = true) : l.length = 16 := ((feOk_iff l).1 h).1
theorem feOk_lm' {l : List Int} (h : feOk l = true) : Lm l := ((feOk_iff l).1 h).2.1
theorem E4.len {P : E4} (h : P.Ok) : P.cells.length = 64 := by
  unfold E4.cells
  simp [feOk_len h.a, feOk_len h.b, feOk_len h.c, feOk_len h.t]
theorem infoP6 : (Tryd.prog.info? 33).map (·.size) = some 64 := by kernel_rfl
theorem build_p6 {a b c t : List Int} (ha : a.length = 16) (hb : b.length = 16) (hc : c.length = 16) (ht : t.length = 16) (w : World) : (Instr.build 33 #[(0, .agg (I64 a).toArray), (1, .agg (I64 b).toArray), (2, .agg (I64 c).toArray), (3, .agg (I64 t).toArray)]).run Tryd.prog w = .ok (.agg (I64 (a ++ b ++ c ++ t)).toArray) w := by
  obtain ⟨a0, a1, a2, a3, a4, a5, a6, a7, a8, a9, a10, a11, a12, a13, a14, a15, rfl⟩ := list16 ha
  obtain ⟨b0, b1, b2, b3, b4, b5, b6, b7, b8, b9, b10, b11, b12, b13, b14, b15, rfl⟩ := list16 hb
  obtain ⟨c0, c1, c2, c3, c4, c5, c6, c7, c8, c9, c10, c11, c12, c13, c14, c15, rfl⟩ := list16 hc
  obtain ⟨t0, t1, t2, t3, t4, t5, t6, t7, t8, t9, t10, t11, t12, t13, t14, t15, rfl⟩ := list16 ht
  kernel_rfl
theorem yieldsIf_p6 {ops : Array Oper} {S : World → Prop} {op : Oper} {act : Act} (hw : Region.wanted op (yielded ops act.tmps) = true) (x y z u : Operand) (ho : op.op = .build 33 #[(0, x), (1, y), (2, z), (3, u)]) (P : E4) (hP : P.Ok)
    (hx : act.eval x = .agg (I64 P.a).toArray) (hy : act.eval y = .agg (I64 P.b).toArray) (hz : act.eval z = .agg (I64 P.c).toArray) (hu : act.eval u = .agg (I64 P.t).toArray) : YieldsIf Tryd.prog ops S op (.agg (I64 P.cells).toArray) act :=
  .inl ⟨hw, fun w _ => by
    unfold execOp
    simp only [ho, hx, hy, hz, hu, Sem.run_bind, List.map_toArray, List.map_cons, List.map_nil, build_p6 (feOk_len hP.a) (feOk_len hP.b) (feOk_len hP.c) (feOk_len hP.t) w, Sem.run_pure, Result.andThen_ok]
    rfl⟩
/-- A part of a row. -/
theorem range_part {W : World} {g : Nat} {t : TypeId} {p q r : List Int} {n : Nat} (h : Arr W g t (I64 (p ++ q ++ r))) (hp : p.length = n) : W.rangeAt g n (I64 q) := by
  intro j v hj
  rw [h.cell (n + j)]
  have hjl := (List.getElem?_eq_some_iff.1 hj).1
  simp only [List.length_map] at hjl
  simp only [I64, List.map_append]
  rw [List.append_assoc, List.getElem?_append_right (by simp [hp]), List.length_map, hp, Nat.add_sub_cancel_left, List.getElem?_append_left (by simpa using hjl)]
  exact hj
theorem E4.ra {W : World} {g : Nat} {t : TypeId} {P : E4} (h : Arr W g t (I64 P.cells)) : W.rangeAt g 0 (I64 P.a) :=
  range_part (p := []) (q := P.a) (r := P.b ++ P.c ++ P.t) (by simpa [E4.cells] using h) rfl
theorem E4.rb {W : World} {g : Nat} {t : TypeId} {P : E4} (hP : P.Ok) (h : Arr W g t (I64 P.cells)) : W.rangeAt g 16 (I64 P.b) :=
  range_part (p := P.a) (q := P.b) (r := P.c ++ P.t) (by simpa [E4.cells] using h) (feOk_len hP.a)
theorem E4.rc {W : World} {g : Nat} {t : TypeId} {P : E4} (hP : P.Ok) (h : Arr W g t (I64 P.cells)) : W.rangeAt g 32 (I64 P.c) :=
  range_part (p := P.a ++ P.b) (q := P.c) (r := P.t) (by simpa [E4.cells] using h) (by simp [feOk_len hP.a, feOk_len hP.b])
theorem E4.rt {W : World} {g : Nat} {t : TypeId} {P : E4} (hP : P.Ok) (h : Arr W g t (I64 P.cells)) : W.rangeAt g 48 (I64 P.t) :=
  range_part (p := P.a ++ P.b ++ P.c) (q := P.t) (r := []) (by simpa [E4.cells] using h) (by simp [feOk_len hP.a, feOk_len hP.b, feOk_len hP.c])
/-- The parts of d, and of the base. -/
def DL : List Int := [30883, 4953, 19914, 30187, 55467, 16705, 2637, 112, 59544, 30585, 16505, 36039, 65139, 11119, 27886, 20995]
def BX : List Int := [54554, 36645, 11616, 51542, 42930, 38181, 51040, 26924, 56412, 64982, 57905, 49316, 21502, 52590, 14035, 8553]
def BY : List Int := [26200, 26214, 26214, 26214, 26214, 26214, 26214, 26214, 26214, 26214, 26214, 26214, 26214, 26214, 26214, 26214]
theorem DL_ok : feOk DL = true := by decide
theorem BX_ok : feOk BX = true := by decide
theorem BY_ok : feOk BY = true := by decide
/-- What the specification makes of two numbers, and of two points. -/
def mk6 (x y : List Int) : E4 := ⟨x, y, lim 16 1, red (val x * val y)⟩
theorem ok_red (v : Int) : feOk (red v) = true := (feOk_iff _).2 ⟨red_len v, red_lm v, by rw [val_red]; exact (red_lt v).2⟩
theorem one_ok : feOk (lim 16 1) = true := by decide
theorem zero_ok : feOk (lim 16 0) = true := by decide
theorem mk6_ok {x y : List Int} (hx : feOk x = true) (hy : feOk y = true) : (mk6 x y).Ok := ⟨hx, hy, one_ok, ok_red _⟩
def add6 (P Q : E4) : E4 :=
  let a := red (val (red (val P.b - val P.a)) * val (red (val Q.b - val Q.a)))
  let b := red (val (red (val P.b + val P.a)) * val (red (val Q.b + val Q.a)))
  let c := red (val (red (val P.t * val Q.t)) * val (red (val DL + val DL)))
  let d := red (val P.c * val (red (val Q.c + val Q.c)))
  let e := red (val b - val a)
  let f := red (val d - val c)
  let g := red (val d + val c)
  let h := red (val b + val a)
  ⟨red (val e * val f), red (val g * val h), red (val f * val g), red (val e * val h)⟩
theorem add6_ok (P Q : E4) : (add6 P Q).Ok := ⟨ok_red _, ok_red _, ok_red _, ok_red _⟩
def flx (P : E4) : List Int := red (val P.a * val (invF P.c))
def fly (P : E4) : List Int := red (val P.b * val (invF P.c))
end Go.Proofs.YtihoaakbkffejaaDoor
namespace Go.Proofs.YtihoaakbkffejaaDoor
open Go.RowKit
set_option linter.unusedSimpArgs false

theorem grown_set {w0 w : World} {g : Nat} (h : w0.grownBy w (some g)) (j : Nat) (v : Value) : w0.grownBy (w.setCell ⟨g, j, none⟩ v) (some g) :=
  ⟨h.os, h.tape, h.output, by simpa using h.size, fun i hi hne => (heap_setCell_other _ _ _ _ (fun e => hne (by rw [e]))).trans (h.block i hi hne)⟩

theorem grown_set8 {w0 w : World} {g : Nat} (h : w0.grownBy w (some g)) (l0 l1 l2 l3 l4 l5 l6 l7 : Value) :
    w0.grownBy ((((((((w.setCell ⟨g, 0, none⟩ l0).setCell ⟨g, 1, none⟩ l1).setCell ⟨g, 2, none⟩ l2).setCell ⟨g, 3, none⟩ l3).setCell ⟨g, 4, none⟩ l4).setCell ⟨g, 5, none⟩ l5).setCell ⟨g, 6, none⟩ l6).setCell ⟨g, 7, none⟩ l7) (some g) :=
  grown_set (grown_set (grown_set (grown_set (grown_set (grown_set (grown_set (grown_set h 0 l0) 1 l1) 2 l2) 3 l3) 4 l4) 5 l5) 6 l6) 7 l7

theorem grown_of_below {w w' : World} (h : Below w.heap.size w w') (r : Option Nat) : w.grownBy w' r := ⟨h.os, h.tape, h.output, h.size, fun i hi _ => h.block i hi⟩

theorem index_arr {P : Program} {t e : TypeId} {n : Nat} {K : IntKind} (hu : P.underlying t = some (.array n e)) (he : P.underlying e = some (.int K)) (hs : (P.info? e).map (·.size) = some 1) (xs : List Int) (hl : xs.length = n) (k : Nat) (hk : k < n) (w : World) :
    (Instr.index t (.agg (xs.map (Value.int K)).toArray) (.int .i64 (k : Int))).run P w = .ok (.int K (xs.getD k 0)) w := by
  cases hq : P.info? e with
  | none => simp [hq] at hs
  | some i =>
    have hz : i.size = 1 := by simpa [hq] using hs
    have hk' : (k : Int) < (n : Int) := by omega
    have hkx : k < xs.length := by omega
    simp [Instr.index, run_underlying hu, run_underlying he, asIntOf, part, isAgg, sizeOf, typeInfo, hq, hz, hk', hkx, go_sem]
    intro h
    omega

theorem grown_drew {w w' : World} {r : Option Nat} (h : w.grownBy w' r) : w.grownBy w'.drew r := ⟨h.os, h.tape, h.output, h.size, h.block⟩

end Go.Proofs.YtihoaakbkffejaaDoor
namespace Go.Proofs.YtihoaakbkffejaaDoor
open Go.RowKit

/-- A variable's block holds these cells. -/
def Vr (w : World) (g : Nat) (cs : List Value) : Prop := ∃ t z, w.heap[g]? = some (.cells cs.toArray t z)
theorem Vr.lt {w : World} {g : Nat} {cs : List Value} (h : Vr w g cs) : g < w.heap.size := by
  obtain ⟨t, z, h⟩ := h
  exact (Array.getElem?_eq_some_iff.1 h).1
theorem Vr.below {w w' : World} {B g : Nat} {cs : List Value} (h : Vr w g cs) (hb : Below B w w') (hg : g < B) : Vr w' g cs := by
  obtain ⟨t, z, h⟩ := h
  exact ⟨t, z, (hb.block g hg).trans h⟩
theorem Vr.kept {w w' : World} {g : Nat} {cs : List Value} (h : Vr w g cs) (hb : Below w.heap.size w w') : Vr w' g cs := h.below hb h.lt
theorem Vr.cell {w : World} {g : Nat} {cs : List Value} (h : Vr w g cs) (j : Nat) : w.cell? ⟨g, j, none⟩ = cs[j]? := by
  obtain ⟨t, z, h⟩ := h
  rw [cell_of_row w g j _ t _ h]; simp
theorem Vr.int {w : World} {g : Nat} {K : IntKind} {xs : List Int} (h : Vr w g (xs.map (Value.int K))) (j : Nat) (hj : j < xs.length) : w.cell? ⟨g, j, none⟩ = some (.int K (xs.getD j 0)) := by
  rw [h.cell j]; simp [hj]

/-- The cells of block g from j on, set one by one. -/
def setAll (w : World) (g : Nat) : Nat → List Value → World
  | _, [] => w
  | j, v :: vs => setAll (w.setCell ⟨g, j, none⟩ v) g (j + 1) vs
def setL (cs : List Value) : Nat → List Value → List Value
  | _, [] => cs
  | j, v :: vs => setL (cs.set j v) (j + 1) vs
theorem Arr.setAll {g : Nat} {t : TypeId} (vs : List Value) : ∀ {w : World} {cs : List Value} (j : Nat), Arr w g t cs → Arr (setAll w g j vs) g t (setL cs j vs) := by
  induction vs with
  | nil => intro w cs j h; exact h
  | cons v vs ih => intro w cs j h; exact ih (j + 1) (h.set j v)
theorem Arr.setAllOther {g k : Nat} {t : TypeId} (hne : k ≠ g) (vs : List Value) : ∀ {w : World} {cs : List Value} (j : Nat), Arr w k t cs → Arr (Go.Proofs.YtihoaakbkffejaaDoor.setAll w g j vs) k t cs := by
  induction vs with
  | nil => intro w cs j h; exact h
  | cons v vs ih => intro w cs j h; exact ih (j + 1) (h.other ⟨g, j, none⟩ v hne)
theorem setAll_below {B g : Nat} {w0 : World} (hg : B ≤ g) (vs : List Value) : ∀ {w : World} (j : Nat), Below B w0 w → Below B w0 (setAll w g j vs) := by
  induction vs with
  | nil => intro w j h; exact h
  | cons v vs ih => intro w j h; exact ih (j + 1) (h.setCell (p := ⟨g, j, none⟩) hg v)
end Go.Proofs.YtihoaakbkffejaaDoor
namespace Go.Proofs.YtihoaakbkffejaaDoor
open Go.RowKit
set_option maxRecDepth 100000

theorem vr_range {W : World} {g : Nat} {cs : List Value} (h : Vr W g cs) : W.rangeAt g 0 cs := by
  intro j v hj
  rw [Nat.zero_add, h.cell j]
  exact hj
theorem one_lm (l : List Int) : ∀ v ∈ I64 l, v.oneCell' = true := by
  intro v hv
  obtain ⟨x, _, rfl⟩ := List.mem_map.1 hv
  rfl
theorem Vr.setCellsO {g k : Nat} {cs : List Value} (hne : k ≠ g) {vs : List Value} {w : World} {j : Nat} (h : Vr w k cs) : Vr (w.setCells g j vs) k cs := by
  obtain ⟨t, z, h⟩ := h
  refine ⟨t, z, ?_⟩
  induction vs generalizing w j with
  | nil => exact h
  | cons v vs ih => exact ih (by rw [heap_setCell_other _ _ _ _ hne]; exact h)
theorem val_pl {x : Int} (h0 : 0 ≤ x) (h1 : x < 115792089237316195423570985008687907853269984665640564039457584007913129639936) : val (lim 16 x) = x := by
  rw [val_lim, p256, Int.emod_eq_of_lt h0 h1]
theorem Vr.rowOther {w : World} {g k : Nat} {cs : List Value} (h : Vr w g cs) (ds : Array Value) (hne : g ≠ k) : Vr (w.setRow k ds) g cs := by
  obtain ⟨t, z, h⟩ := h
  exact ⟨t, z, (setRow_other w k g ds hne).trans h⟩
theorem Vr.other {w : World} {g : Nat} {cs : List Value} (h : Vr w g cs) (p : Addr) (v : Value) (hne : g ≠ p.block) : Vr (w.setCell p v) g cs := by
  obtain ⟨t, z, h⟩ := h
  exact ⟨t, z, (heap_setCell_other w p g v hne).trans h⟩
end Go.Proofs.YtihoaakbkffejaaDoor
