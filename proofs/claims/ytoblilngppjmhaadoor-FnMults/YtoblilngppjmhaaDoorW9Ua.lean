/-
  What is proved here: a point in the long form as the specification keeps it in memory: how it is built and read; what it makes of points, as plain functions; plain facts on worlds of which one block may have turned, and on reading a part of an array value; no program is spoken of, no condition; plain facts on a variable's block; no condition; what a variable of the program holds stays through stores elsewhere; plain facts on memory; contracts of the specification's l6d, l6make, l6zero and l6base.
-/
import Derived.Test.YtoblilngppjmhaaDoorW9Pn
import Derived.Test.YtoblilngppjmhaaDoorW9Arr
import Derived.Deep.RegionHeld3
import Derived.BigRegion
import Derived.Test.YtoblilngppjmhaaDoorW9Fs
import Derived.Test.YtoblilngppjmhaaDoorW9Fm
import Derived.Deep.CutRange
namespace Go.Proofs.YtoblilngppjmhaaDoor
open Go.RowKit
set_option maxRecDepth 100000
set_option maxHeartbeats 4000000

/-- The four numbers of a point in the long form. -/
structure E4 where
  a : List Int
  b : List Int
  c : List Int
  t : List Int
/-- As they lie in memory. -/
def E4.cells (P : E4) : List Int := P.a ++ P.b ++ P.c ++ P.t
/-- All four are numbers of the field. -/
structure E4.Ok (P : E4) : Prop where
  a : feOk P.a = true
  b : feOk P.b = true
  c : feOk P.c = true
  t : feOk P.t = true
theorem feOk_len {l : List Int} (h : feOk l = true) : l.length = 16 := ((feOk_iff l).1 h).1
theorem feOk_lm' {l : List Int} (h : feOk l = true) : Lm l := ((feOk_iff l).1 h).2.1
theorem E4.len {P : E4} (h : P.Ok) : P.cells.length = 64 := by
  unfold E4.cells
  simp [feOk_len h.a, feOk_len h.b, feOk_len h.c, feOk_len h.t]
theorem infoP6 : (Tryd.prog.info? 108).map (·.size) = some 64 := by kernel_rfl
theorem build_p6 {a b c t : List Int} (ha : a.length = 16) (hb : b.length = 16) (hc : c.length = 16) (ht : t.length = 16) (w : World) : (Instr.build 108 #[(0, .agg (I64 a).toArray), (1, .agg (I64 b).toArray), (2, .agg (I64 c).toArray), (3, .agg (I64 t).toArray)]).run Tryd.prog w = .ok (.agg (I64 (a ++ b ++ c ++ t)).toArray) w := by
  obtain ⟨a0, a1, a2, a3, a4, a5, a6, a7, a8, a9, a10, a11, a12, a13, a14, a15, rfl⟩ := list16 ha
  obtain ⟨b0, b1, b2, b3, b4, b5, b6, b7, b8, b9, b10, b11, b12, b13, b14, b15, rfl⟩ := list16 hb
  obtain ⟨c0, c1, c2, c3, c4, c5, c6, c7, c8, c9, c10, c11, c12, c13, c14, c15, rfl⟩ := list16 hc
  obtain ⟨t0, t1, t2, t3, t4, t5, t6, t7, t8, t9, t10, t11, t12, t13, t14, t15, rfl⟩ := list16 ht
  kernel_rfl
theorem yieldsIf_p6 {ops : Array Oper} {S : World → Prop} {op : Oper} {act : Act} (hw : Region.wanted op (yielded ops act.tmps) = true) (x y z u : Operand) (ho : op.op = .build 108 #[(0, x), (1, y), (2, z), (3, u)]) (P : E4) (hP : P.Ok)
    (hx : act.eval x = .agg (I64 P.a).toArray) (hy : act.eval y = .agg (I64 P.b).toArray) (hz : act.eval z = .agg (I64 P.c).toArray) (hu : act.eval u = .agg (I64 P.t).toArray) : YieldsIf Tryd.prog ops S op (.agg (I64 P.cells).toArray) act :=
  .inl ⟨hw, fun w _ => by
    unfold execOp
    simp only [ho, hx, hy, hz, hu, Sem.run_bind, List.map_toArray, List.map_cons, List.map_nil, build_p6 (feOk_len hP.a) (feOk_len hP.b) (feOk_len hP.c) (feOk_len hP.t) w, Sem.run_pure, Result.andThen_ok]
    rfl⟩
/-- A part of a row. -/
theorem range_part {W : World} {g : Nat} {t : TypeId} {p q r : List Int} {n : Nat} (h : Arr W g t (I64 (p ++ q ++ r))) (hp : p.length = n) : W.rangeAt g n (I64 q) := by
  intro j v hj
  rw [h.cell (n + j)]
  have hjl := (List.getElem?_eq_some_iff.1 hj).1
  simp only [List.length_map] at hjl
  simp only [I64, List.map_append]
  rw [List.append_assoc, List.getElem?_append_right (by simp [hp]), List.length_map, hp, Nat.add_sub_cancel_left, List.getElem?_append_left (by simpa using hjl)]
  exact hj
theorem E4.ra {W : World} {g : Nat} {t : TypeId} {P : E4} (h : Arr W g t (I64 P.cells)) : W.rangeAt g 0 (I64 P.a) :=
  range_part (p := []) (q := P.a) (r := P.b ++ P.c ++ P.t) (by simpa [E4.cells] using h) rfl
theorem E4.rb {W : World} {g : Nat} {t : TypeId} {P : E4} (hP : P.Ok) (h : Arr W g t (I64 P.cells)) : W.rangeAt g 16 (I64 P.b) :=
  range_part (p := P.a) (q := P.b) (r := P.c ++ P.t) (by simpa [E4.cells] using h) (feOk_len hP.a)
theorem E4.rc {W : World} {g : Nat} {t : TypeId} {P : E4} (hP : P.Ok) (h : Arr W g t (I64 P.cells)) : W.rangeAt g 32 (I64 P.c) :=
  range_part (p := P.a ++ P.b) (q := P.c) (r := P.t) (by simpa [E4.cells] using h) (by simp [feOk_len hP.a, feOk_len hP.b])
theorem E4.rt {W : World} {g : Nat} {t : TypeId} {P : E4} (hP : P.Ok) (h : Arr W g t (I64 P.cells)) : W.rangeAt g 48 (I64 P.t) :=
  range_part (p := P.a ++ P.b ++ P.c) (q := P.t) (r := []) (by simpa [E4.cells] using h) (by simp [feOk_len hP.a, feOk_len hP.b, feOk_len hP.c])
/-- The parts of d, and of the base. -/
def DL : List Int := [30883, 4953, 19914, 30187, 55467, 16705, 2637, 112, 59544, 30585, 16505, 36039, 65139, 11119, 27886, 20995]
def BX : List Int := [54554, 36645, 11616, 51542, 42930, 38181, 51040, 26924, 56412, 64982, 57905, 49316, 21502, 52590, 14035, 8553]
def BY : List Int := [26200, 26214, 26214, 26214, 26214, 26214, 26214, 26214, 26214, 26214, 26214, 26214, 26214, 26214, 26214, 26214]
theorem DL_ok : feOk DL = true := by decide
theorem BX_ok : feOk BX = true := by decide
theorem BY_ok : feOk BY = true := by decide
/-- What the specification makes of two numbers, and of two points. -/
def mk6 (x y : List Int) : E4 := ⟨x, y, lim 16 1, red (val x * val y)⟩
theorem ok_red (v : Int) : feOk (red v) = true := (feOk_iff _).2 ⟨red_len v, red_lm v, by rw [val_red]; exact (red_lt v).2⟩
theorem one_ok : feOk (lim 16 1) = true := by decide
theorem zero_ok : feOk (lim 16 0) = true := by decide
theorem mk6_ok {x y : List Int} (hx : feOk x = true) (hy : feOk y = true) : (mk6 x y).Ok := ⟨hx, hy, one_ok, ok_red _⟩
def add6 (P Q : E4) : E4 :=
  let a := red (val (red (val P.b - val P.a)) * val (red (val Q.b - val Q.a)))
  let b := red (val (red (val P.b + val P.a)) * val (red (val Q.b + val Q.a)))
  let c := red (val (red (val P.t * val Q.t)) * val (red (val DL + val DL)))
  let d := red (val P.c * val (red (val Q.c + val Q.c)))
  let e := red (val b - val a)
  let f := red (val d - val c)
  let g := red (val d + val c)
  let h := red (val b + val a)
  ⟨red (val e * val f), red (val g * val h), red (val f * val g), red (val e * val h)⟩
theorem add6_ok (P Q : E4) : (add6 P Q).Ok := ⟨ok_red _, ok_red _, ok_red _, ok_red _⟩
def flx (P : E4) : List Int := red (val P.a * val (invF P.c))
def fly (P : E4) : List Int := red (val P.b * val (invF P.c))
end Go.Proofs.YtoblilngppjmhaaDoor
namespace Go.Proofs.YtoblilngppjmhaaDoor
open Go.RowKit
set_option linter.unusedSimpArgs false

theorem index_arr {P : Program} {t e : TypeId} {n : Nat} {K : IntKind} (hu : P.underlying t = some (.array n e)) (he : P.underlying e = some (.int K)) (hs : (P.info? e).map (·.size) = some 1) (xs : List Int) (hl : xs.length = n) (k : Nat) (hk : k < n) (w : World) :
    (Instr.index t (.agg (xs.map (Value.int K)).toArray) (.int .i64 (k : Int))).run P w = .ok (.int K (xs.getD k 0)) w := by
  cases hq : P.info? e with
  | none => simp [hq] at hs
  | some i =>
    have hz : i.size = 1 := by simpa [hq] using hs
    have hk' : (k : Int) < (n : Int) := by omega
    have hkx : k < xs.length := by omega
    simp [Instr.index, run_underlying hu, run_underlying he, asIntOf, part, isAgg, sizeOf, typeInfo, hq, hz, hk', hkx, go_sem]
    intro h
    omega

end Go.Proofs.YtoblilngppjmhaaDoor
namespace Go.Proofs.YtoblilngppjmhaaDoor
open Go.RowKit

/-- A variable's block holds these cells. -/
def Vr (w : World) (g : Nat) (cs : List Value) : Prop := ∃ t z, w.heap[g]? = some (.cells cs.toArray t z)
theorem Vr.lt {w : World} {g : Nat} {cs : List Value} (h : Vr w g cs) : g < w.heap.size := by
  obtain ⟨t, z, h⟩ := h
  exact (Array.getElem?_eq_some_iff.1 h).1
theorem Vr.below {w w' : World} {B g : Nat} {cs : List Value} (h : Vr w g cs) (hb : Below B w w') (hg : g < B) : Vr w' g cs := by
  obtain ⟨t, z, h⟩ := h
  exact ⟨t, z, (hb.block g hg).trans h⟩
theorem Vr.kept {w w' : World} {g : Nat} {cs : List Value} (h : Vr w g cs) (hb : Below w.heap.size w w') : Vr w' g cs := h.below hb h.lt
theorem Vr.cell {w : World} {g : Nat} {cs : List Value} (h : Vr w g cs) (j : Nat) : w.cell? ⟨g, j, none⟩ = cs[j]? := by
  obtain ⟨t, z, h⟩ := h
  rw [cell_of_row w g j _ t _ h]; simp
theorem Vr.int {w : World} {g : Nat} {K : IntKind} {xs : List Int} (h : Vr w g (xs.map (Value.int K))) (j : Nat) (hj : j < xs.length) : w.cell? ⟨g, j, none⟩ = some (.int K (xs.getD j 0)) := by
  rw [h.cell j]; simp [hj]

end Go.Proofs.YtoblilngppjmhaaDoor
namespace Go.Proofs.YtoblilngppjmhaaDoor
open Go.RowKit
set_option maxRecDepth 100000

theorem vr_range {W : World} {g : Nat} {cs : List Value} (h : Vr W g cs) : W.rangeAt g 0 cs := by
  intro j v hj
  rw [Nat.zero_add, h.cell j]
  exact hj
theorem one_lm (l : List Int) : ∀ v ∈ I64 l, v.oneCell' = true := by
  intro v hv
  obtain ⟨x, _, rfl⟩ := List.mem_map.1 hv
  rfl
theorem Vr.setCellsO {g k : Nat} {cs : List Value} (hne : k ≠ g) {vs : List Value} {w : World} {j : Nat} (h : Vr w k cs) : Vr (w.setCells g j vs) k cs := by
  obtain ⟨t, z, h⟩ := h
  refine ⟨t, z, ?_⟩
  induction vs generalizing w j with
  | nil => exact h
  | cons v vs ih => exact ih (by rw [heap_setCell_other _ _ _ _ hne]; exact h)
theorem val_pl {x : Int} (h0 : 0 ≤ x) (h1 : x < 115792089237316195423570985008687907853269984665640564039457584007913129639936) : val (lim 16 x) = x := by
  rw [val_lim, p256, Int.emod_eq_of_lt h0 h1]
theorem Vr.rowOther {w : World} {g k : Nat} {cs : List Value} (h : Vr w g cs) (ds : Array Value) (hne : g ≠ k) : Vr (w.setRow k ds) g cs := by
  obtain ⟨t, z, h⟩ := h
  exact ⟨t, z, (setRow_other w k g ds hne).trans h⟩
theorem Vr.other {w : World} {g : Nat} {cs : List Value} (h : Vr w g cs) (p : Addr) (v : Value) (hne : g ≠ p.block) : Vr (w.setCell p v) g cs := by
  obtain ⟨t, z, h⟩ := h
  exact ⟨t, z, (heap_setCell_other w p g v hne).trans h⟩
end Go.Proofs.YtoblilngppjmhaaDoor
namespace Go.Proofs.YtoblilngppjmhaaDoor
open Go.RowKit
set_option maxRecDepth 100000

abbrev Z64 : List Int := Z16 ++ Z16 ++ Z16 ++ Z16
theorem bel_sc {n : Nat} {w W : World} (h : Below n w W) (X : Nat) (vs : List Value) (hX : n ≤ X) : Below n w (W.setCells X 0 vs) := setCells_below hX _ _ h
theorem Arr.sc {W : World} {k : Nat} {t : TypeId} {cs : List Value} (h : Arr W k t cs) (X : Nat) (vs : List Value) (hne : k ≠ X) : Arr (W.setCells X 0 vs) k t cs := Arr.setCellsO hne _ _ h
theorem Arr.sc0 {W : World} {k : Nat} {t : TypeId} {cs : List Value} (h : Arr W k t cs) (vs : List Value) (hl : cs.length = vs.length) : Arr (W.setCells k 0 vs) k t vs := Arr.setCells0 h hl
theorem Vr.sc {W : World} {k : Nat} {cs : List Value} (h : Vr W k cs) (X : Nat) (vs : List Value) (hne : k ≠ X) : Vr (W.setCells X 0 vs) k cs := Vr.setCellsO hne h
/-- A number is laid into a new cell. -/
theorem laid_e (w1 : World) (L : List Int) : Below w1.heap.size w1 ((w1.alloc (.cells #[.int .i64 0, .int .i64 0, .int .i64 0, .int .i64 0, .int .i64 0, .int .i64 0, .int .i64 0, .int .i64 0, .int .i64 0, .int .i64 0, .int .i64 0, .int .i64 0, .int .i64 0, .int .i64 0, .int .i64 0, .int .i64 0] 82)).setRow w1.heap.size (I64 L).toArray) ∧ Arr ((w1.alloc (.cells #[.int .i64 0, .int .i64 0, .int .i64 0, .int .i64 0, .int .i64 0, .int .i64 0, .int .i64 0, .int .i64 0, .int .i64 0, .int .i64 0, .int .i64 0, .int .i64 0, .int .i64 0, .int .i64 0, .int .i64 0, .int .i64 0] 82)).setRow w1.heap.size (I64 L).toArray) w1.heap.size 82 (I64 L) ∧ Arr (w1.alloc (.cells #[.int .i64 0, .int .i64 0, .int .i64 0, .int .i64 0, .int .i64 0, .int .i64 0, .int .i64 0, .int .i64 0, .int .i64 0, .int .i64 0, .int .i64 0, .int .i64 0, .int .i64 0, .int .i64 0, .int .i64 0, .int .i64 0] 82)) w1.heap.size 82 (I64 Z16) := by
  have q : Arr (w1.alloc (.cells #[.int .i64 0, .int .i64 0, .int .i64 0, .int .i64 0, .int .i64 0, .int .i64 0, .int .i64 0, .int .i64 0, .int .i64 0, .int .i64 0, .int .i64 0, .int .i64 0, .int .i64 0, .int .i64 0, .int .i64 0, .int .i64 0] 82)) w1.heap.size 82 (I64 Z16) := Arr.new w1 (I64 Z16) _
  exact ⟨setRow_below ((Below.refl _ _).alloc (Nat.le_refl _) _) _ _ (Nat.le_refl _), q.row _, q⟩
theorem infoE' {l : List Int} (h : feOk l = true) : (Tryd.prog.info? 82).map (·.size) = some (I64 l).toArray.size := by simpa [feOk_len h] using infoE
theorem infoEl {l : List Int} (h : feOk l = true) : (Tryd.prog.info? 82).map (·.size) = some (I64 l).length := by simpa [feOk_len h] using infoE
theorem infoP' {P : E4} (h : P.Ok) : (Tryd.prog.info? 108).map (·.size) = some (I64 P.cells).toArray.size := by simpa [E4.len h] using infoP6

set_option maxHeartbeats 1000000 in
theorem spec6d (w : World) : Calls Tryd.prog 113 #[] w fun e w' => e = .returned (.agg (I64 DL).toArray) ∧ Below w.heap.size w w' := by
  have hA : Arr (w.alloc (.cells #[.int .i64 0, .int .i64 0, .int .i64 0, .int .i64 0, .int .i64 0, .int .i64 0, .int .i64 0, .int .i64 0, .int .i64 0, .int .i64 0, .int .i64 0, .int .i64 0, .int .i64 0, .int .i64 0, .int .i64 0, .int .i64 0] 82)) w.heap.size 82 (I64 Z16) := Arr.new w (I64 Z16) _
  have hA2 := hA.row (I64 DL)
  have hB : Below w.heap.size w (w.alloc (.cells #[.int .i64 0, .int .i64 0, .int .i64 0, .int .i64 0, .int .i64 0, .int .i64 0, .int .i64 0, .int .i64 0, .int .i64 0, .int .i64 0, .int .i64 0, .int .i64 0, .int .i64 0, .int .i64 0, .int .i64 0, .int .i64 0] 82)) := (Below.refl _ _).alloc (Nat.le_refl _) _
  have HB : Hid _ := setRow_below hB w.heap.size (I64 DL).toArray (Nat.le_refl _)
  clear hB
  go_enter Tryd.func113, Tryd.ntmps113
  go_wp2_with (refine wpList_store_row rfl 82 _ _ rfl w.heap.size (I64 DL).toArray rfl rfl 82 _ hA infoE rfl (by simp [Value.oneCell']) ?_)
  exact bodyPost_ret (results_cell_row rfl _ _ w.heap.size 82 (I64 DL).toArray (0, 0) _ rfl hA2 Tryd.underlying82 rfl infoE) rfl ⟨rfl, HB.out⟩

set_option maxHeartbeats 2000000 in
theorem spec6make (x y : List Int) (w : World) (hx : feOk x = true) (hy : feOk y = true) :
    Calls Tryd.prog 126 #[.agg (I64 x).toArray, .agg (I64 y).toArray] w fun e w' => e = .returned (.agg (I64 (mk6 x y).cells).toArray) ∧ Below w.heap.size w w' := by
  have hP := mk6_ok hx hy
  have hPl := E4.len hP
  obtain ⟨P, hPe⟩ : ∃ P, P = mk6 x y := ⟨_, rfl⟩
  have p1 : P.a = x := by rw [hPe]; rfl
  have p2 : P.b = y := by rw [hPe]; rfl
  have p3 : lim 16 1 = P.c := by rw [hPe]; rfl
  have p4 : red (val x * val y) = P.t := by rw [hPe]; rfl
  have HS : Hid (∀ Z, Calls Tryd.prog 112 #[.int .i64 1] Z fun e w' => e = .returned (.agg (I64 P.c).toArray) ∧ Below Z.heap.size Z w') := by
    unfold Hid; intro Z; rw [← p3]; exact specSmall 1 Z (by omega) (by omega)
  have HM : Hid (∀ Z, Calls Tryd.prog 109 #[.agg (I64 x).toArray, .agg (I64 y).toArray] Z fun e w' => e = .returned (.agg (I64 P.t).toArray) ∧ Below Z.heap.size Z w') := by
    unfold Hid; intro Z; rw [← p4]; exact specMul16 x y Z (feOk_len hx) (feOk_len hy) (feOk_lm' hx) (feOk_lm' hy)
  rw [← hPe] at hP hPl ⊢
  have hix := infoEl hx
  have hiy := infoEl hy
  have hip := infoP' hP
  have hone := one_lm P.cells
  have hu : Tryd.prog.underlying 82 = some (.array 16 3) := Tryd.underlying82
  obtain ⟨A, hA⟩ : ∃ A, A = (I64 x).toArray := ⟨_, rfl⟩
  obtain ⟨B, hB⟩ : ∃ B, B = (I64 y).toArray := ⟨_, rfl⟩
  obtain ⟨W, hW⟩ : ∃ W, W = ((w.alloc (.cells A 82)).alloc (.cells B 82)).alloc (.cells #[.int .i64 0, .int .i64 0, .int .i64 0, .int .i64 0, .int .i64 0, .int .i64 0, .int .i64 0, .int .i64 0, .int .i64 0, .int .i64 0, .int .i64 0, .int .i64 0, .int .i64 0, .int .i64 0, .int .i64 0, .int .i64 0, .int .i64 0, .int .i64 0, .int .i64 0, .int .i64 0, .int .i64 0, .int .i64 0, .int .i64 0, .int .i64 0, .int .i64 0, .int .i64 0, .int .i64 0, .int .i64 0, .int .i64 0, .int .i64 0, .int .i64 0, .int .i64 0, .int .i64 0, .int .i64 0, .int .i64 0, .int .i64 0, .int .i64 0, .int .i64 0, .int .i64 0, .int .i64 0, .int .i64 0, .int .i64 0, .int .i64 0, .int .i64 0, .int .i64 0, .int .i64 0, .int .i64 0, .int .i64 0, .int .i64 0, .int .i64 0, .int .i64 0, .int .i64 0, .int .i64 0, .int .i64 0, .int .i64 0, .int .i64 0, .int .i64 0, .int .i64 0, .int .i64 0, .int .i64 0, .int .i64 0, .int .i64 0, .int .i64 0, .int .i64 0] 108) := ⟨_, rfl⟩
  have fr : Below w.heap.size w W := by rw [hW]; exact (((Below.refl _ _).alloc (Nat.le_refl _) _).alloc (by simp) _).alloc (by simp; omega) _
  have pa : Arr W w.heap.size 82 (I64 x) := by rw [hW, hA]; exact ((Arr.new w (I64 x) _).alloc _).alloc _
  have pb : Arr W (w.heap.size + 1) 82 (I64 y) := by
    rw [hW, hB]
    have := (Arr.new (w.alloc (.cells A 82)) (I64 y) 82).alloc (.cells (I64 Z64).toArray 108)
    rw [World.size_alloc] at this
    exact this
  have pr : Arr W (w.heap.size + 2) 108 (I64 Z64) := by
    rw [hW]
    have := Arr.new ((w.alloc (.cells A 82)).alloc (.cells B 82)) (I64 Z64) 108
    rw [World.size_alloc, World.size_alloc] at this
    exact this
  rw [← hA, ← hB]
  clear hA hB hx hy p3 p4 hPe
  go_enter Tryd.func126, Tryd.ntmps126
  go_wp2
  rw [← hW]
  clear hW
  try simp only [Act.put]
  have bD : Below W.heap.size W W.drew := (Below.refl _ _).drew
  replace fr := fr.trans (bD.mono fr.size)
  replace pa := pa.kept bD
  replace pb := pb.kept bD
  replace pr := pr.kept bD
  clear bD
  refine wp_region_held_drew (S := fun W => W.rangeAt w.heap.size 0 (I64 x) ∧ W.rangeAt (w.heap.size + 1) 0 (I64 y)) (by kernel_rfl) ⟨arr_range pa, arr_range pb⟩ (fun hHeld => ?_)
  obtain ⟨D1, hD⟩ : ∃ V, V = W.drew := ⟨_, rfl⟩
  rw [← hD] at hHeld fr pa pb pr ⊢
  clear hD
  refine wpAnyH_take (i := 0) (oi := { dst := some 5, op := Op.load 82 (Operand.tmp 2), type := 82, pos := "l06_point.go:17", after := #[], guard := none }) (v := _) rfl (by kernel_rfl) (by kernel_rfl) (by kernel_rfl) (fun _ _ _ h => h) (yieldsIf_load_mid (by rfl) _ _ rfl _ _ rfl (I64 x) _ (fun _ h => h.1) hu rfl hix) (by assumption) ?_
  simp only [Act.put, List.setIfInBounds_toArray, List.set_cons_zero, List.set_cons_succ]
  refine wpAnyH_take (i := 1) (oi := { dst := some 6, op := Op.load 82 (Operand.tmp 3), type := 82, pos := "l06_point.go:17", after := #[], guard := none }) (v := _) rfl (by kernel_rfl) (by kernel_rfl) (by kernel_rfl) (fun _ _ _ h => h) (yieldsIf_load_mid (by rfl) _ _ rfl _ _ rfl (I64 y) _ (fun _ h => h.2) hu rfl hiy) (by assumption) ?_
  simp only [Act.put, List.setIfInBounds_toArray, List.set_cons_zero, List.set_cons_succ]
  refine wpAnyH_take (i := 3) (oi := { dst := some 8, op := Op.load 82 (Operand.tmp 2), type := 82, pos := "l06_point.go:17", after := #[], guard := none }) (v := _) rfl (by kernel_rfl) (by kernel_rfl) (by kernel_rfl) (fun _ _ _ h => h) (yieldsIf_load_mid (by rfl) _ _ rfl _ _ rfl (I64 x) _ (fun _ h => h.1) hu rfl hix) (by assumption) ?_
  simp only [Act.put, List.setIfInBounds_toArray, List.set_cons_zero, List.set_cons_succ]
  refine wpAnyH_take (i := 4) (oi := { dst := some 9, op := Op.load 82 (Operand.tmp 3), type := 82, pos := "l06_point.go:17", after := #[], guard := none }) (v := _) rfl (by kernel_rfl) (by kernel_rfl) (by kernel_rfl) (fun _ _ _ h => h) (yieldsIf_load_mid (by rfl) _ _ rfl _ _ rfl (I64 y) _ (fun _ h => h.2) hu rfl hiy) (by assumption) ?_
  simp only [Act.put, List.setIfInBounds_toArray, List.set_cons_zero, List.set_cons_succ]
  refine wpAnyH_ready (rs := [2]) (by kernel_rfl) (by simp) (AllReadyH.cons (o := { dst := some 7, op := Op.call { callee := Callee.value (Operand.func 112), args := #[Operand.const (Value.int IntKind.i64 1)], argTypes := #[3] }, type := 82, pos := "l06_point.go:17", after := #[], guard := none }) rfl (fun K hK => ?_) AllReadyH.nil)
  go_simp
  refine (HS.out _).mono ?_
  rintro e y2 ⟨rfl, hb2⟩
  replace fr := fr.trans (hb2.mono fr.size)
  replace pa := pa.kept hb2
  replace pb := pb.kept hb2
  replace pr := pr.kept hb2
  clear hb2
  go_wp2_with fail
  refine hK.out _ _ ⟨arr_range pa, arr_range pb⟩ (fun hHeld => ?_)
  clear hK K
  refine wpAnyH_ready (rs := [5]) (by kernel_rfl) (by simp) (AllReadyH.cons (o := { dst := some 10, op := Op.call { callee := Callee.value (Operand.func 109), args := #[Operand.tmp 8, Operand.tmp 9], argTypes := #[82, 82] }, type := 82, pos := "l06_point.go:17", after := #[{ on := 3, ground := Ground.data }, { on := 4, ground := Ground.data }, { on := 2, ground := Ground.chain }], guard := none }) rfl (fun K hK => ?_) AllReadyH.nil)
  go_simp
  refine (HM.out _).mono ?_
  rintro e y3 ⟨rfl, hb3⟩
  replace fr := fr.trans (hb3.mono fr.size)
  replace pa := pa.kept hb3
  replace pb := pb.kept hb3
  replace pr := pr.kept hb3
  clear hb3
  go_wp2_with fail
  refine hK.out _ _ ⟨arr_range pa, arr_range pb⟩ (fun hHeld => ?_)
  clear hK K
  refine wpAnyH_take (i := 6) (oi := { dst := some 11, op := Op.build 108 #[(0, Operand.tmp 5), (1, Operand.tmp 6), (2, Operand.tmp 7), (3, Operand.tmp 10)], type := 108, pos := "l06_point.go:17", after := #[{ on := 0, ground := Ground.data }, { on := 1, ground := Ground.data }, { on := 2, ground := Ground.data }, { on := 5, ground := Ground.data }], guard := none }) (v := _) rfl (by kernel_rfl) (by kernel_rfl) (by kernel_rfl) (fun _ _ _ h => h) (yieldsIf_p6 (by rfl) _ _ _ _ rfl P hP (by rw [p1]; rfl) (by rw [p2]; rfl) rfl rfl) (by assumption) ?_
  simp only [Act.put, List.setIfInBounds_toArray, List.set_cons_zero, List.set_cons_succ]
  refine wpAnyH_ready (rs := [7]) (by kernel_rfl) (by simp) (AllReadyH.cons (o := { dst := none, op := Op.store 108 (Operand.tmp 4) (Operand.tmp 11), type := 0, pos := "l06_point.go:17", after := #[{ on := 6, ground := Ground.data }, { on := 5, ground := Ground.chain }, { on := 0, ground := Ground.phase }, { on := 1, ground := Ground.phase }, { on := 2, ground := Ground.phase }, { on := 3, ground := Ground.phase }, { on := 4, ground := Ground.phase }, { on := 5, ground := Ground.phase }, { on := 6, ground := Ground.phase }], guard := none }) rfl (fun K hK => ?_) AllReadyH.nil)
  rw [if_pos (by rfl)]
  refine wp_store_mid _ _ _ rfl _ _ (I64 P.cells).toArray rfl rfl (by have := arr_there pr; simpa [hPl] using this) hip (all_oneCell_toArray hone) ?_
  simp only [Act.put]
  obtain ⟨V4, hVe⟩ : ∃ V, V = y3.setCells (w.heap.size + 2) 0 (I64 P.cells) := ⟨_, rfl⟩
  rw [← hVe]
  replace fr : Below w.heap.size w V4 := by rw [hVe]; exact setCells_below (by omega) _ _ fr
  replace pa : Arr V4 w.heap.size 82 (I64 x) := by rw [hVe]; exact Arr.setCellsO (by omega) _ _ pa
  replace pb : Arr V4 (w.heap.size + 1) 82 (I64 y) := by rw [hVe]; exact Arr.setCellsO (by omega) _ _ pb
  replace pr : Arr V4 (w.heap.size + 2) 108 (I64 P.cells) := by rw [hVe]; exact Arr.setCells0 pr (by simp [hPl])
  clear hVe
  refine hK.out _ _ ⟨arr_range pa, arr_range pb⟩ (fun hHeld => ?_)
  clear hK K
  refine wpAnyH_done (by kernel_rfl) ?_ _
  go_wp2
  exact bodyPost_ret (results_cell_row rfl _ _ (w.heap.size + 2) 108 (I64 P.cells).toArray (0, 0) _ rfl pr Tryd.underlying108 rfl hip) rfl ⟨rfl, fr⟩
end Go.Proofs.YtoblilngppjmhaaDoor
