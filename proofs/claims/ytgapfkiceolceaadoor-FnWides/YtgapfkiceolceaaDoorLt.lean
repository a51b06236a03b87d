/-
  What is proved here: what a row's list of laid variables gives the walks (the program's tables hold what its text lays into them), and that the named variables read again as they did where nothing old has turned; no condition.
-/
import Derived.Test.YtgapfkiceolceaaDoorRows
import Derived.Test.YtgapfkiceolceaaDoorQ7
import Derived.ProofKit
import Derived.LaidMore
import Derived.OpenShut
import Derived.Stop.Joined
import Derived.Lib.LaidTab
import Derived.ChangeOld
import Derived.Below
namespace Go.Proofs.YtgapfkiceolceaaDoor
open Go.ChangeShapes Go.WideShapes Go.ChangeAt Go.RowKit
set_option maxRecDepth 100000

theorem own : ownKnob Tryd.prog.godebug = none := by kernel_rfl
theorem laidOut : laidOutB Tryd.prog = true := by kernel_rfl
theorem gFirst : Tryd.prog.globalNamed "loop.example/g00412/impl.shaFirst" = some 0 := by kernel_rfl
theorem tFirst : (Tryd.prog.globals[0]?).map (·.type) = some 64 := by kernel_rfl
theorem gWFirst : Tryd.prog.globalNamed "loop.example/g00412/impl.wideFirst" = some 1 := by kernel_rfl
theorem tWFirst : (Tryd.prog.globals[1]?).map (·.type) = some 94 := by kernel_rfl
theorem gWRounds : Tryd.prog.globalNamed "loop.example/g00412/impl.wideRoundWords" = some 2 := by kernel_rfl
theorem tWRounds : (Tryd.prog.globals[2]?).map (·.type) = some 44 := by kernel_rfl
theorem gRounds : Tryd.prog.globalNamed "loop.example/g00412/impl.shaRoundWords" = some 3 := by kernel_rfl
theorem tRounds : (Tryd.prog.globals[3]?).map (·.type) = some 111 := by kernel_rfl
theorem gTurns : Tryd.prog.globalNamed "loop.example/g00412/impl.shaTurns" = some 4 := by kernel_rfl
theorem tTurns : (Tryd.prog.globals[4]?).map (·.type) = some 71 := by kernel_rfl
theorem gWTurns : Tryd.prog.globalNamed "loop.example/g00412/impl.wideTurns" = some 5 := by kernel_rfl
theorem tWTurns : (Tryd.prog.globals[5]?).map (·.type) = some 71 := by kernel_rfl

theorem vr_of {W : World} {n : String} {g : Nat} {cs : Array Value} {l : List Value} (hg : Tryd.prog.globalNamed n = some g) (hv : W.var? Tryd.prog n = some cs) (hl : cs.toList = l) : Vr W g l := by
  unfold World.var? at hv
  rw [hg] at hv
  simp only [Option.bind_some] at hv
  split at hv
  · rename_i cs' t z he
    cases hv
    exact ⟨t, z, by rw [he, ← hl]⟩
  · cases hv

theorem turns_of {H : Type} {enc : TypeId × Value → H} {W : World} {sp : Nat → Bool} {held : Bool} {f : Nat} {cs : List Value} {p : List MemPlace}
    (h : DataW.trod enc Tryd.prog W 0 sp held f 71 cs = some (Rows.laid_loop_example_g00412_impl_shaTurns, p)) : cs = [2, 13, 22, 6, 11, 25, 7, 18, 3, 17, 19, 10].map (Value.int .i64) := by
  obtain ⟨xs, m, _, hx, hlen, hn, hel⟩ := DataW.trod_array Tryd.underlying71 h
  have c88 : Tryd.prog.cellsOf 70 = 3 := by kernel_rfl
  have c89 : Tryd.prog.cellsOf 71 = 12 := by kernel_rfl
  have c3 : Tryd.prog.cellsOf 3 = 1 := by kernel_rfl
  rw [c89] at hlen
  match xs, hn with
  | [x0, x1, x2, x3], _ =>
    have h0 := hel 0 (by decide)
    have h1 := hel 1 (by decide)
    have h2 := hel 2 (by decide)
    have h3 := hel 3 (by decide)
    simp only [c88] at h0 h1 h2 h3
    have hx' := congrArg Prod.fst hx
    simp only [Rows.laid_loop_example_g00412_impl_shaTurns, List.map_cons, List.map_nil, DataW.agg.injEq, List.cons.injEq, and_true] at hx'
    obtain ⟨e0, e1, e2, e3⟩ := hx'
    have row : ∀ (x : DataW H × List MemPlace) (l : List Value) (zs : List Int), DataW.trod enc Tryd.prog W 0 sp held m 70 l = some x → Lib.tabData .i64 zs = x.1 → l = zs.map (Value.int .i64) := by
      intro x l zs hh he
      have : x = (Lib.tabData .i64 zs, x.2) := by rw [he]
      rw [this] at hh
      exact Lib.cells_of_tab Tryd.underlying70 Tryd.underlying3 c3 c88 hh
    have r0 := row x0 _ [2, 13, 22] h0 e0
    have r1 := row x1 _ [6, 11, 25] h1 e1
    have r2 := row x2 _ [7, 18, 3] h2 e2
    have r3 := row x3 _ [17, 19, 10] h3 e3
    have hcs : cs = (cs.drop (0 * 3)).take 3 ++ ((cs.drop (1 * 3)).take 3 ++ ((cs.drop (2 * 3)).take 3 ++ (cs.drop (3 * 3)).take 3)) := by
      match cs, hlen with
      | [a0, a1, a2, a3, a4, a5, a6, a7, a8, a9, a10, a11], _ => rfl
    rw [hcs, r0, r1, r2, r3]
    rfl

theorem wturns_of {H : Type} {enc : TypeId × Value → H} {W : World} {sp : Nat → Bool} {held : Bool} {f : Nat} {cs : List Value} {p : List MemPlace}
    (h : DataW.trod enc Tryd.prog W 0 sp held f 71 cs = some (Rows.laid_loop_example_g00412_impl_wideTurns, p)) : cs = [28, 34, 39, 14, 18, 41, 1, 8, 7, 19, 61, 6].map (Value.int .i64) := by
  obtain ⟨xs, m, _, hx, hlen, hn, hel⟩ := DataW.trod_array Tryd.underlying71 h
  have c88 : Tryd.prog.cellsOf 70 = 3 := by kernel_rfl
  have c89 : Tryd.prog.cellsOf 71 = 12 := by kernel_rfl
  have c3 : Tryd.prog.cellsOf 3 = 1 := by kernel_rfl
  rw [c89] at hlen
  match xs, hn with
  | [x0, x1, x2, x3], _ =>
    have h0 := hel 0 (by decide)
    have h1 := hel 1 (by decide)
    have h2 := hel 2 (by decide)
    have h3 := hel 3 (by decide)
    simp only [c88] at h0 h1 h2 h3
    have hx' := congrArg Prod.fst hx
    simp only [Rows.laid_loop_example_g00412_impl_wideTurns, List.map_cons, List.map_nil, DataW.agg.injEq, List.cons.injEq, and_true] at hx'
    obtain ⟨e0, e1, e2, e3⟩ := hx'
    have row : ∀ (x : DataW H × List MemPlace) (l : List Value) (zs : List Int), DataW.trod enc Tryd.prog W 0 sp held m 70 l = some x → Lib.tabData .i64 zs = x.1 → l = zs.map (Value.int .i64) := by
      intro x l zs hh he
      have : x = (Lib.tabData .i64 zs, x.2) := by rw [he]
      rw [this] at hh
      exact Lib.cells_of_tab Tryd.underlying70 Tryd.underlying3 c3 c88 hh
    have r0 := row x0 _ [28, 34, 39] h0 e0
    have r1 := row x1 _ [14, 18, 41] h1 e1
    have r2 := row x2 _ [1, 8, 7] h2 e2
    have r3 := row x3 _ [19, 61, 6] h3 e3
    have hcs : cs = (cs.drop (0 * 3)).take 3 ++ ((cs.drop (1 * 3)).take 3 ++ ((cs.drop (2 * 3)).take 3 ++ (cs.drop (3 * 3)).take 3)) := by
      match cs, hlen with
      | [a0, a1, a2, a3, a4, a5, a6, a7, a8, a9, a10, a11], _ => rfl
    rw [hcs, r0, r1, r2, r3]
    rfl

theorem vFirst {H : Type} {enc : TypeId × Value → H} {W : World} {sp : Nat → Bool} {held : Bool} {f : Nat} {cs : Array Value} {p : List MemPlace} (hv : W.var? Tryd.prog "loop.example/g00412/impl.shaFirst" = some cs) (h : DataW.trod enc Tryd.prog W 0 sp held f 64 cs.toList = some (Rows.laid_loop_example_g00412_impl_shaFirst, p)) : Vr W 0 (H0.map (Value.int .u32)) :=
  vr_of gFirst hv (Lib.cells_of_tab (zs := H0) Tryd.underlying64 Tryd.underlying63 (by kernel_rfl) (by kernel_rfl) h)
theorem vWFirst {H : Type} {enc : TypeId × Value → H} {W : World} {sp : Nat → Bool} {held : Bool} {f : Nat} {cs : Array Value} {p : List MemPlace} (hv : W.var? Tryd.prog "loop.example/g00412/impl.wideFirst" = some cs) (h : DataW.trod enc Tryd.prog W 0 sp held f 94 cs.toList = some (Rows.laid_loop_example_g00412_impl_wideFirst, p)) : Vr W 1 (H0W.map (Value.int .u64)) :=
  vr_of gWFirst hv (Lib.cells_of_tab (zs := H0W) Tryd.underlying94 Tryd.underlying43 (by kernel_rfl) (by kernel_rfl) h)
theorem vRounds {H : Type} {enc : TypeId × Value → H} {W : World} {sp : Nat → Bool} {held : Bool} {f : Nat} {cs : Array Value} {p : List MemPlace} (hv : W.var? Tryd.prog "loop.example/g00412/impl.shaRoundWords" = some cs) (h : DataW.trod enc Tryd.prog W 0 sp held f 111 cs.toList = some (Rows.laid_loop_example_g00412_impl_shaRoundWords, p)) : Vr W 3 (KS.map (Value.int .u32)) :=
  vr_of gRounds hv (Lib.cells_of_tab (zs := KS) Tryd.underlying111 Tryd.underlying63 (by kernel_rfl) (by kernel_rfl) h)
theorem vWRounds {H : Type} {enc : TypeId × Value → H} {W : World} {sp : Nat → Bool} {held : Bool} {f : Nat} {cs : Array Value} {p : List MemPlace} (hv : W.var? Tryd.prog "loop.example/g00412/impl.wideRoundWords" = some cs) (h : DataW.trod enc Tryd.prog W 0 sp held f 44 cs.toList = some (Rows.laid_loop_example_g00412_impl_wideRoundWords, p)) : Vr W 2 (KW.map (Value.int .u64)) :=
  vr_of gWRounds hv (Lib.cells_of_tab (zs := KW) Tryd.underlying44 Tryd.underlying43 (by kernel_rfl) (by kernel_rfl) h)
theorem vTurns {H : Type} {enc : TypeId × Value → H} {W : World} {sp : Nat → Bool} {held : Bool} {f : Nat} {cs : Array Value} {p : List MemPlace} (hv : W.var? Tryd.prog "loop.example/g00412/impl.shaTurns" = some cs) (h : DataW.trod enc Tryd.prog W 0 sp held f 71 cs.toList = some (Rows.laid_loop_example_g00412_impl_shaTurns, p)) : Vr W 4 ([2, 13, 22, 6, 11, 25, 7, 18, 3, 17, 19, 10].map (Value.int .i64)) :=
  vr_of gTurns hv (turns_of h)
theorem vWTurns {H : Type} {enc : TypeId × Value → H} {W : World} {sp : Nat → Bool} {held : Bool} {f : Nat} {cs : Array Value} {p : List MemPlace} (hv : W.var? Tryd.prog "loop.example/g00412/impl.wideTurns" = some cs) (h : DataW.trod enc Tryd.prog W 0 sp held f 71 cs.toList = some (Rows.laid_loop_example_g00412_impl_wideTurns, p)) : Vr W 5 ([28, 34, 39, 14, 18, 41, 1, 8, 7, 19, 61, 6].map (Value.int .i64)) :=
  vr_of gWTurns hv (wturns_of h)

theorem round_of {W : World} (h : laidMetH Tryd.prog Rows.fnExactRound512Row.laid W) : Vr W 2 (U64 KW) := by
  rw [MakeChecks.laidMetH_plain _ _ _ (by kernel_rfl)] at h
  obtain ⟨ps, ⟨g0, t0, cs0, f0, p0, q0, hg0, ht0, hv0, hd0, _, _⟩, _, _⟩ := h
  obtain rfl := Option.some.inj (gWRounds.symm.trans hg0)
  obtain rfl := Option.some.inj (tWRounds.symm.trans ht0)
  exact vWRounds hv0 hd0
theorem wide_of {W : World} (h : laidMetH Tryd.prog Rows.fnExactWideRow.laid W) : Tabw W := by
  rw [MakeChecks.laidMetH_plain _ _ _ (by kernel_rfl)] at h
  obtain ⟨ps, ⟨g0, t0, cs0, f0, p0, q0, hg0, ht0, hv0, hd0, ⟨g1, t1, cs1, f1, p1, q1, hg1, ht1, hv1, hd1, _, _⟩, _⟩, _, _⟩ := h
  obtain rfl := Option.some.inj (gWTurns.symm.trans hg0)
  obtain rfl := Option.some.inj (tWTurns.symm.trans ht0)
  obtain rfl := Option.some.inj (gWRounds.symm.trans hg1)
  obtain rfl := Option.some.inj (tWRounds.symm.trans ht1)
  exact ⟨vWTurns hv0 hd0, vWRounds hv1 hd1⟩
theorem sum_of {W : World} (h : laidMetH Tryd.prog Rows.fnExactSha512Row.laid W) : Tabw W ∧ Vr W 1 (U64 H0W) := by
  rw [MakeChecks.laidMetH_plain _ _ _ (by kernel_rfl)] at h
  obtain ⟨ps, ⟨g0, t0, cs0, f0, p0, q0, hg0, ht0, hv0, hd0, ⟨g1, t1, cs1, f1, p1, q1, hg1, ht1, hv1, hd1, ⟨g2, t2, cs2, f2, p2, q2, hg2, ht2, hv2, hd2, _, _⟩, _⟩, _⟩, _, _⟩ := h
  obtain rfl := Option.some.inj (gWTurns.symm.trans hg0)
  obtain rfl := Option.some.inj (tWTurns.symm.trans ht0)
  obtain rfl := Option.some.inj (gWFirst.symm.trans hg1)
  obtain rfl := Option.some.inj (tWFirst.symm.trans ht1)
  obtain rfl := Option.some.inj (gWRounds.symm.trans hg2)
  obtain rfl := Option.some.inj (tWRounds.symm.trans ht2)
  exact ⟨⟨vWTurns hv0 hd0, vWRounds hv2 hd2⟩, vWFirst hv1 hd1⟩
theorem wides_of {W : World} (h : laidMetH Tryd.prog Rows.fnWidesRow.laid W) : (Tabn W ∧ Vr W 0 (U32 H0)) ∧ Tabw W ∧ Vr W 1 (U64 H0W) := by
  rw [MakeChecks.laidMetH_plain _ _ _ (by kernel_rfl)] at h
  obtain ⟨ps, ⟨g0, t0, cs0, f0, p0, q0, hg0, ht0, hv0, hd0, ⟨g1, t1, cs1, f1, p1, q1, hg1, ht1, hv1, hd1, ⟨g2, t2, cs2, f2, p2, q2, hg2, ht2, hv2, hd2, ⟨g3, t3, cs3, f3, p3, q3, hg3, ht3, hv3, hd3, ⟨g4, t4, cs4, f4, p4, q4, hg4, ht4, hv4, hd4, ⟨g5, t5, cs5, f5, p5, q5, hg5, ht5, hv5, hd5, _, _⟩, _⟩, _⟩, _⟩, _⟩, _⟩, _, _⟩ := h
  obtain rfl := Option.some.inj (gTurns.symm.trans hg0)
  obtain rfl := Option.some.inj (tTurns.symm.trans ht0)
  obtain rfl := Option.some.inj (gFirst.symm.trans hg1)
  obtain rfl := Option.some.inj (tFirst.symm.trans ht1)
  obtain rfl := Option.some.inj (gRounds.symm.trans hg2)
  obtain rfl := Option.some.inj (tRounds.symm.trans ht2)
  obtain rfl := Option.some.inj (gWTurns.symm.trans hg3)
  obtain rfl := Option.some.inj (tWTurns.symm.trans ht3)
  obtain rfl := Option.some.inj (gWFirst.symm.trans hg4)
  obtain rfl := Option.some.inj (tWFirst.symm.trans ht4)
  obtain rfl := Option.some.inj (gWRounds.symm.trans hg5)
  obtain rfl := Option.some.inj (tWRounds.symm.trans ht5)
  exact ⟨⟨⟨vTurns hv0 hd0, vRounds hv2 hd2⟩, vFirst hv1 hd1⟩, ⟨vWTurns hv3 hd3, vWRounds hv5 hd5⟩, vWFirst hv4 hd4⟩
theorem tabs_of {W : World} (h : laidMetH Tryd.prog Rows.fnExactShaBlockRow.laid W) : Tabn W := by
  rw [MakeChecks.laidMetH_plain _ _ _ (by kernel_rfl)] at h
  obtain ⟨ps, ⟨g0, t0, cs0, f0, p0, q0, hg0, ht0, hv0, hd0, ⟨g1, t1, cs1, f1, p1, q1, hg1, ht1, hv1, hd1, _, _⟩, _⟩, _, _⟩ := h
  obtain rfl := Option.some.inj (gTurns.symm.trans hg0)
  obtain rfl := Option.some.inj (tTurns.symm.trans ht0)
  obtain rfl := Option.some.inj (gRounds.symm.trans hg1)
  obtain rfl := Option.some.inj (tRounds.symm.trans ht1)
  exact ⟨vTurns hv0 hd0, vRounds hv1 hd1⟩
theorem tabf_of {W : World} (h : laidMetH Tryd.prog Rows.fnExactShaNewRow.laid W) : Vr W 0 (U32 H0) := by
  rw [MakeChecks.laidMetH_plain _ _ _ (by kernel_rfl)] at h
  obtain ⟨ps, ⟨g0, t0, cs0, f0, p0, q0, hg0, ht0, hv0, hd0, _, _⟩, _, _⟩ := h
  obtain rfl := Option.some.inj (gFirst.symm.trans hg0)
  obtain rfl := Option.some.inj (tFirst.symm.trans ht0)
  exact vFirst hv0 hd0
theorem tabs3_of {W : World} (h : laidMetH Tryd.prog Rows.fnExactSha256Row.laid W) : Tabn W ∧ Vr W 0 (U32 H0) := by
  rw [MakeChecks.laidMetH_plain _ _ _ (by kernel_rfl)] at h
  obtain ⟨ps, ⟨g0, t0, cs0, f0, p0, q0, hg0, ht0, hv0, hd0, ⟨g1, t1, cs1, f1, p1, q1, hg1, ht1, hv1, hd1, ⟨g2, t2, cs2, f2, p2, q2, hg2, ht2, hv2, hd2, _, _⟩, _⟩, _⟩, _, _⟩ := h
  obtain rfl := Option.some.inj (gTurns.symm.trans hg0)
  obtain rfl := Option.some.inj (tTurns.symm.trans ht0)
  obtain rfl := Option.some.inj (gFirst.symm.trans hg1)
  obtain rfl := Option.some.inj (tFirst.symm.trans ht1)
  obtain rfl := Option.some.inj (gRounds.symm.trans hg2)
  obtain rfl := Option.some.inj (tRounds.symm.trans ht2)
  exact ⟨⟨vTurns hv0 hd0, vRounds hv2 hd2⟩, vFirst hv1 hd1⟩

theorem var_below {W W' : World} {n : String} {cs : Array Value} (hb : Below W.heap.size W W') (h : W.var? Tryd.prog n = some cs) : W'.var? Tryd.prog n = some cs := by
  unfold World.var? at h ⊢
  cases hg : Tryd.prog.globalNamed n with
  | none => rw [hg] at h; cases h
  | some g =>
    rw [hg] at h
    simp only [Option.bind_some] at h ⊢
    by_cases hlt : g < W.heap.size
    · rw [hb.block g hlt]; exact h
    · rw [Array.getElem?_eq_none (by omega)] at h
      cases h

theorem vars_carry {H : Type} {enc : TypeId × Value → H} {W W' : World} (hb : Below W.heap.size W W') : ∀ {ns : List String} {gs : List (DataW H)} {ps : List MemPlace},
    (∀ n ∈ ns, ∀ g t, Tryd.prog.globalNamed n = some g → (Tryd.prog.globals[g]?).map (·.type) = some t → Tryd.prog.readableRec t = true ∧ t < Tryd.prog.types.size) →
    DataW.TrodVars enc Tryd.prog W (fun _ => true) ns gs ps → DataW.TrodVars enc Tryd.prog W' (fun b => decide (b < W.heap.size)) ns gs ps
  | [], [], _, _, h => h
  | n :: ns, d :: ds, ps, hr, h => by
    obtain ⟨g, t, cs, fuel, p, q, h1, h2, h3, h4, hs, e⟩ := h
    obtain ⟨r1, r2⟩ := hr n (by simp) g t h1 h2
    have hT : DataW.Trod enc Tryd.prog W 0 (fun _ => true) true t (.agg cs) d p := ⟨fuel, h4⟩
    obtain ⟨fuel', h4'⟩ := Below.trod laidOut r1 r2 hT hb (DataW.trod_lt _ _ _ _ h4)
    exact ⟨g, t, cs, fuel', p, q, h1, h2, var_below hb h3, h4', vars_carry hb (fun n hn => hr n (by simp [hn])) hs, e⟩
  | [], _ :: _, _, _, h => by cases h
  | _ :: _, [], _, _, h => by cases h
end Go.Proofs.YtgapfkiceolceaaDoor
