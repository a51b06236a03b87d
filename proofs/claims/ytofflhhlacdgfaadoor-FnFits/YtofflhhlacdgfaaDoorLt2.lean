/-
  What is proved here: what a row's list of laid variables gives the walks (the program's tables hold what its text lays into them), and that the named variables read again as they did where nothing old has turned; no condition.
-/
import Derived.Test.YtofflhhlacdgfaaDoorRows
import Derived.Test.YtofflhhlacdgfaaDoorJP3
import Derived.Test.YtofflhhlacdgfaaDoorJP7
import Derived.ProofKit
import Derived.LaidMore
import Derived.OpenShut
import Derived.Stop.Joined
import Derived.Lib.LaidTab
import Derived.ChangeOld
import Derived.Below
namespace Go.Proofs.YtofflhhlacdgfaaDoor
open Go.ChangeShapes Go.WideShapes Go.ChangeAt Go.RowKit
set_option maxRecDepth 100000

theorem own : ownKnob Tryd.prog.godebug = none := by kernel_rfl
theorem laidOut : laidOutB Tryd.prog = true := by kernel_rfl
theorem gFirst : Tryd.prog.globalNamed "loop.example/g00412/impl.shaFirst" = some 1 := by kernel_rfl
theorem tFirst : (Tryd.prog.globals[1]?).map (·.type) = some 133 := by kernel_rfl
theorem gRounds : Tryd.prog.globalNamed "loop.example/g00412/impl.shaRoundWords" = some 2 := by kernel_rfl
theorem tRounds : (Tryd.prog.globals[2]?).map (·.type) = some 158 := by kernel_rfl
theorem gTurns : Tryd.prog.globalNamed "loop.example/g00412/impl.shaTurns" = some 3 := by kernel_rfl
theorem tTurns : (Tryd.prog.globals[3]?).map (·.type) = some 139 := by kernel_rfl

theorem vr_of {W : World} {n : String} {g : Nat} {cs : Array Value} {l : List Value} (hg : Tryd.prog.globalNamed n = some g) (hv : W.var? Tryd.prog n = some cs) (hl : cs.toList = l) : Vr W g l := by
  unfold World.var? at hv
  rw [hg] at hv
  simp only [Option.bind_some] at hv
  split at hv
  · rename_i cs' t z he
    cases hv
    exact ⟨t, z, by rw [he, ← hl]⟩
  · cases hv

theorem turns_of {H : Type} {enc : TypeId × Value → H} {W : World} {sp : Nat → Bool} {held : Bool} {f : Nat} {cs : List Value} {p : List MemPlace}
    (h : DataW.trod enc Tryd.prog W 0 sp held f 139 cs = some (Rows.laid_loop_example_g00412_impl_shaTurns, p)) : cs = [2, 13, 22, 6, 11, 25, 7, 18, 3, 17, 19, 10].map (Value.int .i64) := by
  obtain ⟨xs, m, _, hx, hlen, hn, hel⟩ := DataW.trod_array Tryd.underlying139 h
  have c88 : Tryd.prog.cellsOf 138 = 3 := by kernel_rfl
  have c89 : Tryd.prog.cellsOf 139 = 12 := by kernel_rfl
  have c3 : Tryd.prog.cellsOf 3 = 1 := by kernel_rfl
  rw [c89] at hlen
  match xs, hn with
  | [x0, x1, x2, x3], _ =>
    have h0 := hel 0 (by decide)
    have h1 := hel 1 (by decide)
    have h2 := hel 2 (by decide)
    have h3 := hel 3 (by decide)
    simp only [c88] at h0 h1 h2 h3
    have hx' := congrArg Prod.fst hx
    simp only [Rows.laid_loop_example_g00412_impl_shaTurns, List.map_cons, List.map_nil, DataW.agg.injEq, List.cons.injEq, and_true] at hx'
    obtain ⟨e0, e1, e2, e3⟩ := hx'
    have row : ∀ (x : DataW H × List MemPlace) (l : List Value) (zs : List Int), DataW.trod enc Tryd.prog W 0 sp held m 138 l = some x → Lib.tabData .i64 zs = x.1 → l = zs.map (Value.int .i64) := by
      intro x l zs hh he
      have : x = (Lib.tabData .i64 zs, x.2) := by rw [he]
      rw [this] at hh
      exact Lib.cells_of_tab Tryd.underlying138 Tryd.underlying3 c3 c88 hh
    have r0 := row x0 _ [2, 13, 22] h0 e0
    have r1 := row x1 _ [6, 11, 25] h1 e1
    have r2 := row x2 _ [7, 18, 3] h2 e2
    have r3 := row x3 _ [17, 19, 10] h3 e3
    have hcs : cs = (cs.drop (0 * 3)).take 3 ++ ((cs.drop (1 * 3)).take 3 ++ ((cs.drop (2 * 3)).take 3 ++ (cs.drop (3 * 3)).take 3)) := by
      match cs, hlen with
      | [a0, a1, a2, a3, a4, a5, a6, a7, a8, a9, a10, a11], _ => rfl
    rw [hcs, r0, r1, r2, r3]
    rfl

theorem vFirst {H : Type} {enc : TypeId × Value → H} {W : World} {sp : Nat → Bool} {held : Bool} {f : Nat} {cs : Array Value} {p : List MemPlace} (hv : W.var? Tryd.prog "loop.example/g00412/impl.shaFirst" = some cs) (h : DataW.trod enc Tryd.prog W 0 sp held f 133 cs.toList = some (Rows.laid_loop_example_g00412_impl_shaFirst, p)) : Vr W 1 (H0.map (Value.int .u32)) :=
  vr_of gFirst hv (Lib.cells_of_tab (zs := H0) Tryd.underlying133 Tryd.underlying132 (by kernel_rfl) (by kernel_rfl) h)
theorem vRounds {H : Type} {enc : TypeId × Value → H} {W : World} {sp : Nat → Bool} {held : Bool} {f : Nat} {cs : Array Value} {p : List MemPlace} (hv : W.var? Tryd.prog "loop.example/g00412/impl.shaRoundWords" = some cs) (h : DataW.trod enc Tryd.prog W 0 sp held f 158 cs.toList = some (Rows.laid_loop_example_g00412_impl_shaRoundWords, p)) : Vr W 2 (KS.map (Value.int .u32)) :=
  vr_of gRounds hv (Lib.cells_of_tab (zs := KS) Tryd.underlying158 Tryd.underlying132 (by kernel_rfl) (by kernel_rfl) h)
theorem vTurns {H : Type} {enc : TypeId × Value → H} {W : World} {sp : Nat → Bool} {held : Bool} {f : Nat} {cs : Array Value} {p : List MemPlace} (hv : W.var? Tryd.prog "loop.example/g00412/impl.shaTurns" = some cs) (h : DataW.trod enc Tryd.prog W 0 sp held f 139 cs.toList = some (Rows.laid_loop_example_g00412_impl_shaTurns, p)) : Vr W 3 ([2, 13, 22, 6, 11, 25, 7, 18, 3, 17, 19, 10].map (Value.int .i64)) :=
  vr_of gTurns hv (turns_of h)
theorem tabs_PartOf {W : World} (h : laidMetH Tryd.prog Rows.fnExactPartOfRow.laid W) : Tabs W ∧ TabF W := by
  rw [MakeChecks.laidMetH_plain _ _ _ (by kernel_rfl)] at h
  obtain ⟨ps, ⟨g0, t0, cs0, f0, p0, q0, hg0, ht0, hv0, hd0, ⟨g1, t1, cs1, f1, p1, q1, hg1, ht1, hv1, hd1, ⟨g2, t2, cs2, f2, p2, q2, hg2, ht2, hv2, hd2, _, _⟩, _⟩, _⟩, _, _⟩ := h
  obtain rfl := Option.some.inj (gTurns.symm.trans hg0)
  obtain rfl := Option.some.inj (tTurns.symm.trans ht0)
  obtain rfl := Option.some.inj (gFirst.symm.trans hg1)
  obtain rfl := Option.some.inj (tFirst.symm.trans ht1)
  obtain rfl := Option.some.inj (gRounds.symm.trans hg2)
  obtain rfl := Option.some.inj (tRounds.symm.trans ht2)
  exact ⟨⟨vTurns hv0 hd0, vRounds hv2 hd2⟩, vFirst hv1 hd1⟩
theorem tabs_Fits {W : World} (h : laidMetH Tryd.prog Rows.fnExactFitsRow.laid W) : Tabs W ∧ TabF W := by
  rw [MakeChecks.laidMetH_plain _ _ _ (by kernel_rfl)] at h
  obtain ⟨ps, ⟨g0, t0, cs0, f0, p0, q0, hg0, ht0, hv0, hd0, ⟨g1, t1, cs1, f1, p1, q1, hg1, ht1, hv1, hd1, ⟨g2, t2, cs2, f2, p2, q2, hg2, ht2, hv2, hd2, _, _⟩, _⟩, _⟩, _, _⟩ := h
  obtain rfl := Option.some.inj (gTurns.symm.trans hg0)
  obtain rfl := Option.some.inj (tTurns.symm.trans ht0)
  obtain rfl := Option.some.inj (gFirst.symm.trans hg1)
  obtain rfl := Option.some.inj (tFirst.symm.trans ht1)
  obtain rfl := Option.some.inj (gRounds.symm.trans hg2)
  obtain rfl := Option.some.inj (tRounds.symm.trans ht2)
  exact ⟨⟨vTurns hv0 hd0, vRounds hv2 hd2⟩, vFirst hv1 hd1⟩
theorem tabs_FnFits {W : World} (h : laidMetH Tryd.prog Rows.fnFitsRow.laid W) : Tabs W ∧ TabF W := by
  rw [MakeChecks.laidMetH_plain _ _ _ (by kernel_rfl)] at h
  obtain ⟨ps, ⟨g0, t0, cs0, f0, p0, q0, hg0, ht0, hv0, hd0, ⟨g1, t1, cs1, f1, p1, q1, hg1, ht1, hv1, hd1, ⟨g2, t2, cs2, f2, p2, q2, hg2, ht2, hv2, hd2, _, _⟩, _⟩, _⟩, _, _⟩ := h
  obtain rfl := Option.some.inj (gTurns.symm.trans hg0)
  obtain rfl := Option.some.inj (tTurns.symm.trans ht0)
  obtain rfl := Option.some.inj (gFirst.symm.trans hg1)
  obtain rfl := Option.some.inj (tFirst.symm.trans ht1)
  obtain rfl := Option.some.inj (gRounds.symm.trans hg2)
  obtain rfl := Option.some.inj (tRounds.symm.trans ht2)
  exact ⟨⟨vTurns hv0 hd0, vRounds hv2 hd2⟩, vFirst hv1 hd1⟩
theorem tabs_FnKeys {W : World} (h : laidMetH Tryd.prog Rows.fnKeysRow.laid W) : Tabs W ∧ TabF W := by
  rw [MakeChecks.laidMetH_plain _ _ _ (by kernel_rfl)] at h
  obtain ⟨ps, ⟨g0, t0, cs0, f0, p0, q0, hg0, ht0, hv0, hd0, ⟨g1, t1, cs1, f1, p1, q1, hg1, ht1, hv1, hd1, ⟨g2, t2, cs2, f2, p2, q2, hg2, ht2, hv2, hd2, _, _⟩, _⟩, _⟩, _, _⟩ := h
  obtain rfl := Option.some.inj (gTurns.symm.trans hg0)
  obtain rfl := Option.some.inj (tTurns.symm.trans ht0)
  obtain rfl := Option.some.inj (gFirst.symm.trans hg1)
  obtain rfl := Option.some.inj (tFirst.symm.trans ht1)
  obtain rfl := Option.some.inj (gRounds.symm.trans hg2)
  obtain rfl := Option.some.inj (tRounds.symm.trans ht2)
  exact ⟨⟨vTurns hv0 hd0, vRounds hv2 hd2⟩, vFirst hv1 hd1⟩
theorem tabs_FnMeets {W : World} (h : laidMetH Tryd.prog Rows.fnMeetsRow.laid W) : Tabs W ∧ TabF W := by
  rw [MakeChecks.laidMetH_plain _ _ _ (by kernel_rfl)] at h
  obtain ⟨ps, ⟨g0, t0, cs0, f0, p0, q0, hg0, ht0, hv0, hd0, ⟨g1, t1, cs1, f1, p1, q1, hg1, ht1, hv1, hd1, ⟨g2, t2, cs2, f2, p2, q2, hg2, ht2, hv2, hd2, _, _⟩, _⟩, _⟩, _, _⟩ := h
  obtain rfl := Option.some.inj (gTurns.symm.trans hg0)
  obtain rfl := Option.some.inj (tTurns.symm.trans ht0)
  obtain rfl := Option.some.inj (gFirst.symm.trans hg1)
  obtain rfl := Option.some.inj (tFirst.symm.trans ht1)
  obtain rfl := Option.some.inj (gRounds.symm.trans hg2)
  obtain rfl := Option.some.inj (tRounds.symm.trans ht2)
  exact ⟨⟨vTurns hv0 hd0, vRounds hv2 hd2⟩, vFirst hv1 hd1⟩
theorem var_below {W W' : World} {n : String} {cs : Array Value} (hb : Below W.heap.size W W') (h : W.var? Tryd.prog n = some cs) : W'.var? Tryd.prog n = some cs := by
  unfold World.var? at h ⊢
  cases hg : Tryd.prog.globalNamed n with
  | none => rw [hg] at h; cases h
  | some g =>
    rw [hg] at h
    simp only [Option.bind_some] at h ⊢
    by_cases hlt : g < W.heap.size
    · rw [hb.block g hlt]; exact h
    · rw [Array.getElem?_eq_none (by omega)] at h
      cases h

theorem vars_carry {H : Type} {enc : TypeId × Value → H} {W W' : World} (hb : Below W.heap.size W W') : ∀ {ns : List String} {gs : List (DataW H)} {ps : List MemPlace},
    (∀ n ∈ ns, ∀ g t, Tryd.prog.globalNamed n = some g → (Tryd.prog.globals[g]?).map (·.type) = some t → Tryd.prog.readableRec t = true ∧ t < Tryd.prog.types.size) →
    DataW.TrodVars enc Tryd.prog W (fun _ => true) ns gs ps → DataW.TrodVars enc Tryd.prog W' (fun b => decide (b < W.heap.size)) ns gs ps
  | [], [], _, _, h => h
  | n :: ns, d :: ds, ps, hr, h => by
    obtain ⟨g, t, cs, fuel, p, q, h1, h2, h3, h4, hs, e⟩ := h
    obtain ⟨r1, r2⟩ := hr n (by simp) g t h1 h2
    have hT : DataW.Trod enc Tryd.prog W 0 (fun _ => true) true t (.agg cs) d p := ⟨fuel, h4⟩
    obtain ⟨fuel', h4'⟩ := Below.trod laidOut r1 r2 hT hb (DataW.trod_lt _ _ _ _ h4)
    exact ⟨g, t, cs, fuel', p, q, h1, h2, var_below hb h3, h4', vars_carry hb (fun n hn => hr n (by simp [hn])) hs, e⟩
  | [], _ :: _, _, _, h => by cases h
  | _ :: _, [], _, _, h => by cases h
end Go.Proofs.YtofflhhlacdgfaaDoor
