/-
  What is proved here: what a row's list of laid variables gives the walks, that the named variables read again as they did where nothing old has turned, and how arguments of the laws' own Pt and Sc types lie in memory; no condition; a slice of bytes that is handed over holds at most as many bytes as memory bears.
-/
import Derived.Test.YtoblilngppjmhaaDoorRows
import Derived.Test.YtoblilngppjmhaaDoorW9Ua
import Derived.Test.YtoblilngppjmhaaDoorW9Jhi
import Derived.Test.YtoblilngppjmhaaDoorW9Uc
import Derived.ProofKit
import Derived.WalkKit
import Derived.LaidMore
import Derived.OpenShut
import Derived.Stop.Joined
import Derived.Lib.LaidTab
import Derived.ChangeOld
import Derived.ChangeSame
import Derived.Below
import Derived.Test.YtoblilngppjmhaaDoorProg
import Derived.SizedLaws
import Derived.Lib.SmallJoins
namespace Go.Proofs.YtoblilngppjmhaaDoor
open Go.ChangeShapes Go.WideShapes Go.ChangeAt Go.RowKit
set_option maxRecDepth 100000

theorem own : ownKnob Tryd.prog.godebug = none := by kernel_rfl
theorem laidOut : laidOutB Tryd.prog = true := by kernel_rfl
theorem gPrime : Tryd.prog.globalNamed "loop.example/g00412/impl.fieldPrime" = some 4 := by kernel_rfl
theorem tPrime : (Tryd.prog.globals[4]?).map (·.type) = some 70 := by kernel_rfl
theorem gOrder : Tryd.prog.globalNamed "loop.example/g00412/impl.groupOrder" = some 3 := by kernel_rfl
theorem tOrder : (Tryd.prog.globals[3]?).map (·.type) = some 70 := by kernel_rfl
theorem gD : Tryd.prog.globalNamed "loop.example/g00412/impl.curveD" = some 2 := by kernel_rfl
theorem tD : (Tryd.prog.globals[2]?).map (·.type) = some 70 := by kernel_rfl
theorem gBX : Tryd.prog.globalNamed "loop.example/g00412/impl.curveBaseX" = some 0 := by kernel_rfl
theorem tBX : (Tryd.prog.globals[0]?).map (·.type) = some 70 := by kernel_rfl
theorem gBY : Tryd.prog.globalNamed "loop.example/g00412/impl.curveBaseY" = some 1 := by kernel_rfl
theorem tBY : (Tryd.prog.globals[1]?).map (·.type) = some 70 := by kernel_rfl

theorem vr_of {W : World} {n : String} {g : Nat} {cs : Array Value} {l : List Value} (hg : Tryd.prog.globalNamed n = some g) (hv : W.var? Tryd.prog n = some cs) (hl : cs.toList = l) : Vr W g l := by
  unfold World.var? at hv
  rw [hg] at hv
  simp only [Option.bind_some] at hv
  split at hv
  · rename_i cs' t z he
    cases hv
    exact ⟨t, z, by rw [he, ← hl]⟩
  · cases hv
theorem vPrime {H : Type} {enc : TypeId × Value → H} {W : World} {sp : Nat → Bool} {held : Bool} {f : Nat} {cs : Array Value} {p : List MemPlace} (hv : W.var? Tryd.prog "loop.example/g00412/impl.fieldPrime" = some cs) (h : DataW.trod enc Tryd.prog W 0 sp held f 70 cs.toList = some (Rows.laid_loop_example_g00412_impl_fieldPrime, p)) : Vr W 4 (I64 PL) :=
  vr_of gPrime hv (Lib.cells_of_tab (zs := PL) Tryd.underlying70 Tryd.underlying3 (by kernel_rfl) (by kernel_rfl) h)
theorem vOrder {H : Type} {enc : TypeId × Value → H} {W : World} {sp : Nat → Bool} {held : Bool} {f : Nat} {cs : Array Value} {p : List MemPlace} (hv : W.var? Tryd.prog "loop.example/g00412/impl.groupOrder" = some cs) (h : DataW.trod enc Tryd.prog W 0 sp held f 70 cs.toList = some (Rows.laid_loop_example_g00412_impl_groupOrder, p)) : Vr W 3 (I64 OL) :=
  vr_of gOrder hv (Lib.cells_of_tab (zs := OL) Tryd.underlying70 Tryd.underlying3 (by kernel_rfl) (by kernel_rfl) h)
theorem vD {H : Type} {enc : TypeId × Value → H} {W : World} {sp : Nat → Bool} {held : Bool} {f : Nat} {cs : Array Value} {p : List MemPlace} (hv : W.var? Tryd.prog "loop.example/g00412/impl.curveD" = some cs) (h : DataW.trod enc Tryd.prog W 0 sp held f 70 cs.toList = some (Rows.laid_loop_example_g00412_impl_curveD, p)) : Vr W 2 (I64 DL) :=
  vr_of gD hv (Lib.cells_of_tab (zs := DL) Tryd.underlying70 Tryd.underlying3 (by kernel_rfl) (by kernel_rfl) h)
theorem vBX {H : Type} {enc : TypeId × Value → H} {W : World} {sp : Nat → Bool} {held : Bool} {f : Nat} {cs : Array Value} {p : List MemPlace} (hv : W.var? Tryd.prog "loop.example/g00412/impl.curveBaseX" = some cs) (h : DataW.trod enc Tryd.prog W 0 sp held f 70 cs.toList = some (Rows.laid_loop_example_g00412_impl_curveBaseX, p)) : Vr W 0 (I64 BX) :=
  vr_of gBX hv (Lib.cells_of_tab (zs := BX) Tryd.underlying70 Tryd.underlying3 (by kernel_rfl) (by kernel_rfl) h)
theorem vBY {H : Type} {enc : TypeId × Value → H} {W : World} {sp : Nat → Bool} {held : Bool} {f : Nat} {cs : Array Value} {p : List MemPlace} (hv : W.var? Tryd.prog "loop.example/g00412/impl.curveBaseY" = some cs) (h : DataW.trod enc Tryd.prog W 0 sp held f 70 cs.toList = some (Rows.laid_loop_example_g00412_impl_curveBaseY, p)) : Vr W 1 (I64 BY) :=
  vr_of gBY hv (Lib.cells_of_tab (zs := BY) Tryd.underlying70 Tryd.underlying3 (by kernel_rfl) (by kernel_rfl) h)
theorem laid_PODXY {W : World} (h : laidMetH Tryd.prog [("loop.example/g00412/impl.fieldPrime", Rows.laid_loop_example_g00412_impl_fieldPrime), ("loop.example/g00412/impl.groupOrder", Rows.laid_loop_example_g00412_impl_groupOrder), ("loop.example/g00412/impl.curveD", Rows.laid_loop_example_g00412_impl_curveD), ("loop.example/g00412/impl.curveBaseX", Rows.laid_loop_example_g00412_impl_curveBaseX), ("loop.example/g00412/impl.curveBaseY", Rows.laid_loop_example_g00412_impl_curveBaseY)] W) : Vr W 4 (I64 PL) ∧ Vr W 3 (I64 OL) ∧ Vr W 2 (I64 DL) ∧ Vr W 0 (I64 BX) ∧ Vr W 1 (I64 BY) := by
  rw [MakeChecks.laidMetH_plain _ _ _ (by kernel_rfl)] at h
  obtain ⟨ps, ⟨g0, t0, cs0, f0, p0, q0, hg0, ht0, hv0, hd0, ⟨g1, t1, cs1, f1, p1, q1, hg1, ht1, hv1, hd1, ⟨g2, t2, cs2, f2, p2, q2, hg2, ht2, hv2, hd2, ⟨g3, t3, cs3, f3, p3, q3, hg3, ht3, hv3, hd3, ⟨g4, t4, cs4, f4, p4, q4, hg4, ht4, hv4, hd4, _, _⟩, _⟩, _⟩, _⟩, _⟩, _, _⟩ := h
  obtain rfl := Option.some.inj (gPrime.symm.trans hg0)
  obtain rfl := Option.some.inj (tPrime.symm.trans ht0)
  obtain rfl := Option.some.inj (gOrder.symm.trans hg1)
  obtain rfl := Option.some.inj (tOrder.symm.trans ht1)
  obtain rfl := Option.some.inj (gD.symm.trans hg2)
  obtain rfl := Option.some.inj (tD.symm.trans ht2)
  obtain rfl := Option.some.inj (gBX.symm.trans hg3)
  obtain rfl := Option.some.inj (tBX.symm.trans ht3)
  obtain rfl := Option.some.inj (gBY.symm.trans hg4)
  obtain rfl := Option.some.inj (tBY.symm.trans ht4)
  exact ⟨vPrime hv0 hd0, vOrder hv1 hd1, vD hv2 hd2, vBX hv3 hd3, vBY hv4 hd4⟩
theorem var_below {W W' : World} {n : String} {cs : Array Value} (hb : Below W.heap.size W W') (h : W.var? Tryd.prog n = some cs) : W'.var? Tryd.prog n = some cs := by
  unfold World.var? at h ⊢
  cases hg : Tryd.prog.globalNamed n with
  | none => rw [hg] at h; cases h
  | some g =>
    rw [hg] at h
    simp only [Option.bind_some] at h ⊢
    by_cases hlt : g < W.heap.size
    · rw [hb.block g hlt]; exact h
    · rw [Array.getElem?_eq_none (by omega)] at h
      cases h
theorem vars_carry {H : Type} {enc : TypeId × Value → H} {W W' : World} (hb : Below W.heap.size W W') : ∀ {ns : List String} {gs : List (DataW H)} {ps : List MemPlace},
    (∀ n ∈ ns, ∀ g t, Tryd.prog.globalNamed n = some g → (Tryd.prog.globals[g]?).map (·.type) = some t → Tryd.prog.readableRec t = true ∧ t < Tryd.prog.types.size) →
    DataW.TrodVars enc Tryd.prog W (fun _ => true) ns gs ps → DataW.TrodVars enc Tryd.prog W' (fun b => decide (b < W.heap.size)) ns gs ps
  | [], [], _, _, h => h
  | n :: ns, d :: ds, ps, hr, h => by
    obtain ⟨g, t, cs, fuel, p, q, h1, h2, h3, h4, hs, e⟩ := h
    obtain ⟨r1, r2⟩ := hr n (by simp) g t h1 h2
    have hT : DataW.Trod enc Tryd.prog W 0 (fun _ => true) true t (.agg cs) d p := ⟨fuel, h4⟩
    obtain ⟨fuel', h4'⟩ := Below.trod laidOut r1 r2 hT hb (DataW.trod_lt _ _ _ _ h4)
    exact ⟨g, t, cs, fuel', p, q, h1, h2, var_below hb h3, h4', vars_carry hb (fun n hn => hr n (by simp [hn])) hs, e⟩
  | [], _ :: _, _, _, h => by cases h
  | _ :: _, [], _, _, h => by cases h

end Go.Proofs.YtoblilngppjmhaaDoor
namespace Go.Proofs.YtoblilngppjmhaaDoor

theorem reach_of {H : Type} {d : DataW H} {ts : List TypeId} {ds : List (DataW H)} (h : (DataW.weightsEach Tryd.prog (22 :: ts) (d :: ds)).all (· ≤ reachBytes) = true) : Joins.sliceLen d ≤ 140737488351232 := by
  cases d with
  | slice el sp =>
    have h1 := sized_slice h (j := 0) (t := 22) (e := 5) rfl rfl Tryd.underlying22
    rw [show Tryd.prog.bytesOf 5 = 1 by kernel_rfl] at h1
    simp only [Joins.sliceLen, reachBytes] at h1 ⊢
    omega
  | _ => simp [Joins.sliceLen]
end Go.Proofs.YtoblilngppjmhaaDoor
