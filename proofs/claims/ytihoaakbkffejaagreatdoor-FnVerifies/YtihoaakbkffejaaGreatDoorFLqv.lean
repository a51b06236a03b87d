/-
  What is proved here: what a row's list of laid variables gives the walks of chapter 7; a slice of bytes that is handed over holds at most as many bytes as memory.
-/
import Derived.Test.YtihoaakbkffejaaGreatDoorFSap
import Derived.Test.YtihoaakbkffejaaGreatDoorFVt
import Derived.Stop.LaidErr
import Derived.Test.YtihoaakbkffejaaGreatDoorProg
import Derived.SizedLaws
import Derived.Lib.SmallJoins
namespace Go.Proofs.YtihoaakbkffejaaGreatDoor
open Go.ChangeShapes Go.WideShapes Go.ChangeAt Go.RowKit Go.Extern.Stop Go.Stop Go.Extern
set_option maxRecDepth 100000

theorem gWFirst : Tryz.prog.globalNamed "loop.example/g00412/impl.wideFirst" = some 3 := by kernel_rfl
theorem tWFirst : (Tryz.prog.globals[3]?).map (·.type) = some 100 := by kernel_rfl
theorem gWRounds : Tryz.prog.globalNamed "loop.example/g00412/impl.wideRoundWords" = some 7 := by kernel_rfl
theorem tWRounds : (Tryz.prog.globals[7]?).map (·.type) = some 160 := by kernel_rfl
theorem gWTurns : Tryz.prog.globalNamed "loop.example/g00412/impl.wideTurns" = some 8 := by kernel_rfl
theorem tWTurns : (Tryz.prog.globals[8]?).map (·.type) = some 103 := by kernel_rfl
theorem gErr : Tryz.prog.globalNamed "loop.example/g00412/impl.errNotSigned" = some 2 := by kernel_rfl
theorem tErr : (Tryz.prog.globals[2]?).map (·.type) = some 76 := by kernel_rfl
theorem starErr : "*" ++ "errors.errorString" = "*errors.errorString" := by decide
theorem rowErr (u : TypeId) (h : Tryz.prog.typeName? 3 u = some "*errors.errorString") : u = 202 :=
 typeName_ptr_named (nm := "errors.errorString") (by rw [starErr]; kernel_rfl) (by kernel_rfl) (by decide) u (by rw [starErr]; exact h)
theorem vErr {W : World} {x : Value} (hv : W.var? Tryz.prog "loop.example/g00412/impl.errNotSigned" = some #[x]) : 2 < W.heap.size ∧ W.cell? ⟨2, 0, none⟩ = some x := by
 have h := vr_of gErr hv (l := [x]) rfl
 exact ⟨h.lt, by simpa using World.var?_cell gErr hv 0⟩
theorem wturns_of {H : Type} {enc : TypeId × Value → H} {W : World} {sp : Nat → Bool} {held : Bool} {f : Nat} {cs : List Value} {p : List MemPlace}
  (h : DataW.trod enc Tryz.prog W 0 sp held f 103 cs = some (Rows.laid_loop_example_g00412_impl_wideTurns, p)) : cs = [28, 34, 39, 14, 18, 41, 1, 8, 7, 19, 61, 6].map (Value.int .i64) := by
 obtain ⟨xs, m, _, hx, hlen, hn, hel⟩ := DataW.trod_array Tryz.underlying103 h
 have c88 : Tryz.prog.cellsOf 102 = 3 := by kernel_rfl
 have c89 : Tryz.prog.cellsOf 103 = 12 := by kernel_rfl
 have c3 : Tryz.prog.cellsOf 3 = 1 := by kernel_rfl
 rw [c89] at hlen
 match xs, hn with
 | [x0, x1, x2, x3], _ =>
  have h0 := hel 0 (by decide)
  have h1 := hel 1 (by decide)
  have h2 := hel 2 (by decide)
  have h3 := hel 3 (by decide)
  simp only [c88] at h0 h1 h2 h3
  have hx' := congrArg Prod.fst hx
  simp only [Rows.laid_loop_example_g00412_impl_wideTurns, List.map_cons, List.map_nil, DataW.agg.injEq, List.cons.injEq, and_true] at hx'
  obtain ⟨e0, e1, e2, e3⟩ := hx'
  have row : ∀ (x : DataW H × List MemPlace) (l : List Value) (zs : List Int), DataW.trod enc Tryz.prog W 0 sp held m 102 l = some x → Lib.tabData .i64 zs = x.1 → l = zs.map (Value.int .i64) := by
   intro x l zs hh he
   have : x = (Lib.tabData .i64 zs, x.2) := by rw [he]
   rw [this] at hh
   exact Lib.cells_of_tab Tryz.underlying102 Tryz.underlying3 c3 c88 hh
  have r0 := row x0 _ [28, 34, 39] h0 e0
  have r1 := row x1 _ [14, 18, 41] h1 e1
  have r2 := row x2 _ [1, 8, 7] h2 e2
  have r3 := row x3 _ [19, 61, 6] h3 e3
  have hcs : cs = (cs.drop (0 * 3)).take 3 ++ ((cs.drop (1 * 3)).take 3 ++ ((cs.drop (2 * 3)).take 3 ++ (cs.drop (3 * 3)).take 3)) := by
   match cs, hlen with
   | [a0, a1, a2, a3, a4, a5, a6, a7, a8, a9, a10, a11], _ => rfl
  rw [hcs, r0, r1, r2, r3]
  rfl

theorem vWFirst {H : Type} {enc : TypeId × Value → H} {W : World} {sp : Nat → Bool} {held : Bool} {f : Nat} {cs : Array Value} {p : List MemPlace} (hv : W.var? Tryz.prog "loop.example/g00412/impl.wideFirst" = some cs) (h : DataW.trod enc Tryz.prog W 0 sp held f 100 cs.toList = some (Rows.laid_loop_example_g00412_impl_wideFirst, p)) : Vr W 3 (H0W.map (Value.int .u64)) :=
 vr_of gWFirst hv (Lib.cells_of_tab (zs := H0W) Tryz.underlying100 Tryz.underlying99 (by kernel_rfl) (by kernel_rfl) h)
theorem vWRounds {H : Type} {enc : TypeId × Value → H} {W : World} {sp : Nat → Bool} {held : Bool} {f : Nat} {cs : Array Value} {p : List MemPlace} (hv : W.var? Tryz.prog "loop.example/g00412/impl.wideRoundWords" = some cs) (h : DataW.trod enc Tryz.prog W 0 sp held f 160 cs.toList = some (Rows.laid_loop_example_g00412_impl_wideRoundWords, p)) : Vr W 7 (KW.map (Value.int .u64)) :=
 vr_of gWRounds hv (Lib.cells_of_tab (zs := KW) Tryz.underlying160 Tryz.underlying99 (by kernel_rfl) (by kernel_rfl) h)
theorem vWTurns {H : Type} {enc : TypeId × Value → H} {W : World} {sp : Nat → Bool} {held : Bool} {f : Nat} {cs : Array Value} {p : List MemPlace} (hv : W.var? Tryz.prog "loop.example/g00412/impl.wideTurns" = some cs) (h : DataW.trod enc Tryz.prog W 0 sp held f 103 cs.toList = some (Rows.laid_loop_example_g00412_impl_wideTurns, p)) : Vr W 8 ([28, 34, 39, 14, 18, 41, 1, 8, 7, 19, 61, 6].map (Value.int .i64)) :=
 vr_of gWTurns hv (wturns_of h)
theorem laid_varsV {W : World} (h : laidMetH Tryz.prog [("loop.example/g00412/impl.wideTurns", Rows.laid_loop_example_g00412_impl_wideTurns), ("loop.example/g00412/impl.wideFirst", Rows.laid_loop_example_g00412_impl_wideFirst), ("loop.example/g00412/impl.wideRoundWords", Rows.laid_loop_example_g00412_impl_wideRoundWords), ("loop.example/g00412/impl.fieldPrime", Rows.laid_loop_example_g00412_impl_fieldPrime), ("loop.example/g00412/impl.rootOfMinusOne", Rows.laid_loop_example_g00412_impl_rootOfMinusOne), ("loop.example/g00412/impl.groupOrder", Rows.laid_loop_example_g00412_impl_groupOrder), ("loop.example/g00412/impl.curveD", Rows.laid_loop_example_g00412_impl_curveD), ("loop.example/g00412/impl.curveBaseX", Rows.laid_loop_example_g00412_impl_curveBaseX), ("loop.example/g00412/impl.curveBaseY", Rows.laid_loop_example_g00412_impl_curveBaseY), ("loop.example/g00412/impl.errNotSigned", Rows.laid_loop_example_g00412_impl_errNotSigned)] W) : ∃ be, VarsV W be := by
 rw [MakeChecks.laidMetH_plain _ _ _ (by kernel_rfl)] at h
 obtain ⟨be, _, hE, _, _, _⟩ := laid_sentinel h.tail.tail.tail.tail.tail.tail.tail.tail.tail gErr tErr Tryz.underlying76 rowErr Tryz.underlying202 Tryz.underlying227 rfl rfl Tryz.underlying9 (by kernel_rfl) (by kernel_rfl)
 obtain ⟨e0, e1⟩ := vErr hE
 obtain ⟨ps, ⟨g0, t0, cs0, f0, p0, q0, hg0, ht0, hv0, hd0, ⟨g1, t1, cs1, f1, p1, q1, hg1, ht1, hv1, hd1, ⟨g2, t2, cs2, f2, p2, q2, hg2, ht2, hv2, hd2, ⟨g3, t3, cs3, f3, p3, q3, hg3, ht3, hv3, hd3, ⟨g4, t4, cs4, f4, p4, q4, hg4, ht4, hv4, hd4, ⟨g5, t5, cs5, f5, p5, q5, hg5, ht5, hv5, hd5, ⟨g6, t6, cs6, f6, p6, q6, hg6, ht6, hv6, hd6, ⟨g7, t7, cs7, f7, p7, q7, hg7, ht7, hv7, hd7, ⟨g8, t8, cs8, f8, p8, q8, hg8, ht8, hv8, hd8, _, _⟩, _⟩, _⟩, _⟩, _⟩, _⟩, _⟩, _⟩, _⟩, _, _⟩ := h
 obtain rfl := Option.some.inj (gWTurns.symm.trans hg0)
 obtain rfl := Option.some.inj (tWTurns.symm.trans ht0)
 obtain rfl := Option.some.inj (gWFirst.symm.trans hg1)
 obtain rfl := Option.some.inj (tWFirst.symm.trans ht1)
 obtain rfl := Option.some.inj (gWRounds.symm.trans hg2)
 obtain rfl := Option.some.inj (tWRounds.symm.trans ht2)
 obtain rfl := Option.some.inj (gPrime.symm.trans hg3)
 obtain rfl := Option.some.inj (tPrime.symm.trans ht3)
 obtain rfl := Option.some.inj (gMinus.symm.trans hg4)
 obtain rfl := Option.some.inj (tMinus.symm.trans ht4)
 obtain rfl := Option.some.inj (gOrder.symm.trans hg5)
 obtain rfl := Option.some.inj (tOrder.symm.trans ht5)
 obtain rfl := Option.some.inj (gD.symm.trans hg6)
 obtain rfl := Option.some.inj (tD.symm.trans ht6)
 obtain rfl := Option.some.inj (gBX.symm.trans hg7)
 obtain rfl := Option.some.inj (tBX.symm.trans ht7)
 obtain rfl := Option.some.inj (gBY.symm.trans hg8)
 obtain rfl := Option.some.inj (tBY.symm.trans ht8)
 exact ⟨be, ⟨vPrime hv3 hd3, vD hv6 hd6, vOrder hv5 hd5, vBX hv7 hd7, vBY hv8 hd8, ⟨vWTurns hv0 hd0, vWRounds hv2 hd2⟩, vWFirst hv1 hd1⟩, vMinus hv4 hd4, e0, e1⟩
end Go.Proofs.YtihoaakbkffejaaGreatDoor
namespace Go.Proofs.YtihoaakbkffejaaGreatDoor

theorem reach_of {H : Type} {d : DataW H} {ts : List TypeId} {ds : List (DataW H)} (h : (DataW.weightsEach Tryz.prog (22 :: ts) (d :: ds)).all (· ≤ reachBytes) = true) : Joins.sliceLen d ≤ 140737488351232 := by
 cases d with
 | slice el sp =>
  have h1 := sized_slice h (j := 0) (t := 22) (e := 5) rfl rfl Tryz.underlying22
  rw [show Tryz.prog.bytesOf 5 = 1 by kernel_rfl] at h1
  simp only [Joins.sliceLen, reachBytes] at h1 ⊢
  omega
 | _ => simp [Joins.sliceLen]
end Go.Proofs.YtihoaakbkffejaaGreatDoor
