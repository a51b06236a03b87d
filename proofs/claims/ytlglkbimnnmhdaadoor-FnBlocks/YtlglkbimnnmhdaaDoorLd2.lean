/-
  What is proved here: what a row's list of laid variables gives the walks (the program's tables hold what its text lays into them), and that the named variables read again as they did where nothing old has turned; no condition.
-/
import Derived.Test.YtlglkbimnnmhdaaDoorRows
import Derived.Test.YtlglkbimnnmhdaaDoorTn
import Derived.ProofKit
import Derived.LaidMore
import Derived.OpenShut
import Derived.Stop.Joined
import Derived.Lib.LaidTab
import Derived.ChangeOld
import Derived.Below
namespace Go.Proofs.YtlglkbimnnmhdaaDoor
open Go.ChangeShapes Go.WideShapes Go.ChangeAt Go.RowKit

theorem own : ownKnob Tryd.prog.godebug = none := by kernel_rfl
theorem laidOut : laidOutB Tryd.prog = true := by kernel_rfl
theorem gFirst : Tryd.prog.globalNamed "loop.example/g00412/impl.shaFirst" = some 0 := by kernel_rfl
theorem gRounds : Tryd.prog.globalNamed "loop.example/g00412/impl.shaRoundWords" = some 1 := by kernel_rfl
theorem gTurns : Tryd.prog.globalNamed "loop.example/g00412/impl.shaTurns" = some 2 := by kernel_rfl
theorem tFirst : (Tryd.prog.globals[0]?).map (·.type) = some 58 := by kernel_rfl
theorem tRounds : (Tryd.prog.globals[1]?).map (·.type) = some 83 := by kernel_rfl
theorem tTurns : (Tryd.prog.globals[2]?).map (·.type) = some 89 := by kernel_rfl

theorem turns_of {H : Type} {enc : TypeId × Value → H} {W : World} {sp : Nat → Bool} {held : Bool} {f : Nat} {cs : List Value} {p : List MemPlace}
    (h : DataW.trod enc Tryd.prog W 0 sp held f 89 cs = some (Rows.laid_loop_example_g00412_impl_shaTurns, p)) : cs = [2, 13, 22, 6, 11, 25, 7, 18, 3, 17, 19, 10].map (Value.int .i64) := by
  obtain ⟨xs, m, _, hx, hlen, hn, hel⟩ := DataW.trod_array Tryd.underlying89 h
  have c88 : Tryd.prog.cellsOf 88 = 3 := by kernel_rfl
  have c89 : Tryd.prog.cellsOf 89 = 12 := by kernel_rfl
  have c3 : Tryd.prog.cellsOf 3 = 1 := by kernel_rfl
  rw [c89] at hlen
  match xs, hn with
  | [x0, x1, x2, x3], _ =>
    have h0 := hel 0 (by decide)
    have h1 := hel 1 (by decide)
    have h2 := hel 2 (by decide)
    have h3 := hel 3 (by decide)
    simp only [c88] at h0 h1 h2 h3
    have hx' := congrArg Prod.fst hx
    simp only [Rows.laid_loop_example_g00412_impl_shaTurns, List.map_cons, List.map_nil, DataW.agg.injEq, List.cons.injEq, and_true] at hx'
    obtain ⟨e0, e1, e2, e3⟩ := hx'
    have row : ∀ (x : DataW H × List MemPlace) (l : List Value) (zs : List Int), DataW.trod enc Tryd.prog W 0 sp held m 88 l = some x → Lib.tabData .i64 zs = x.1 → l = zs.map (Value.int .i64) := by
      intro x l zs hh he
      have : x = (Lib.tabData .i64 zs, x.2) := by rw [he]
      rw [this] at hh
      exact Lib.cells_of_tab Tryd.underlying88 Tryd.underlying3 c3 c88 hh
    have r0 := row x0 _ [2, 13, 22] h0 e0
    have r1 := row x1 _ [6, 11, 25] h1 e1
    have r2 := row x2 _ [7, 18, 3] h2 e2
    have r3 := row x3 _ [17, 19, 10] h3 e3
    have hcs : cs = (cs.drop (0 * 3)).take 3 ++ ((cs.drop (1 * 3)).take 3 ++ ((cs.drop (2 * 3)).take 3 ++ (cs.drop (3 * 3)).take 3)) := by
      match cs, hlen with
      | [a0, a1, a2, a3, a4, a5, a6, a7, a8, a9, a10, a11], _ => rfl
    rw [hcs, r0, r1, r2, r3]
    rfl

theorem tabs_cells {H : Type} {enc : TypeId × Value → H} {W : World} {sp sp' : Nat → Bool} {held held' : Bool} {f0 f1 : Nat} {cs0 cs1 : Array Value} {p0 p1 : List MemPlace}
    (hg0 : Tryd.prog.globalNamed "loop.example/g00412/impl.shaTurns" = some 2) (hv0 : W.var? Tryd.prog "loop.example/g00412/impl.shaTurns" = some cs0) (hd0 : DataW.trod enc Tryd.prog W 0 sp held f0 89 cs0.toList = some (Rows.laid_loop_example_g00412_impl_shaTurns, p0))
    (hg1 : Tryd.prog.globalNamed "loop.example/g00412/impl.shaRoundWords" = some 1) (hv1 : W.var? Tryd.prog "loop.example/g00412/impl.shaRoundWords" = some cs1) (hd1 : DataW.trod enc Tryd.prog W 0 sp' held' f1 83 cs1.toList = some (Rows.laid_loop_example_g00412_impl_shaRoundWords, p1)) : Tabs W := by
  have e0 := turns_of hd0
  have e1 : cs1.toList = KS.map (Value.int .u32) := Lib.cells_of_tab (zs := KS) Tryd.underlying83 Tryd.underlying56 (by kernel_rfl) (by kernel_rfl) hd1
  constructor
  · intro j hj
    rw [World.var?_cell hg0 hv0 j, ← Array.getElem?_toList, e0]
    simp only [List.getElem?_map, List.getD]
    rw [List.getElem?_eq_getElem (by simpa using hj)]
    rfl
  · intro j hj
    rw [World.var?_cell hg1 hv1 j, ← Array.getElem?_toList, e1]
    simp only [List.getElem?_map, List.getD]
    rw [List.getElem?_eq_getElem (by rw [KS_len]; exact hj)]
    rfl

theorem tabs_of {W : World} (h : laidMetH Tryd.prog Rows.fnExactShaBlockRow.laid W) : Tabs W := by
  rw [MakeChecks.laidMetH_plain _ _ _ (by kernel_rfl)] at h
  obtain ⟨ps, ⟨g0, t0, cs0, f0, p0, q0, hg0, ht0, hv0, hd0, ⟨g1, t1, cs1, f1, p1, q1, hg1, ht1, hv1, hd1, _, _⟩, _⟩, _, _⟩ := h
  obtain rfl := Option.some.inj (gTurns.symm.trans hg0)
  obtain rfl := Option.some.inj (gRounds.symm.trans hg1)
  obtain rfl := Option.some.inj (tTurns.symm.trans ht0)
  obtain rfl := Option.some.inj (tRounds.symm.trans ht1)
  exact tabs_cells hg0 hv0 hd0 hg1 hv1 hd1

theorem var_below {W W' : World} {n : String} {cs : Array Value} (hb : Below W.heap.size W W') (h : W.var? Tryd.prog n = some cs) : W'.var? Tryd.prog n = some cs := by
  unfold World.var? at h ⊢
  cases hg : Tryd.prog.globalNamed n with
  | none => rw [hg] at h; cases h
  | some g =>
    rw [hg] at h
    simp only [Option.bind_some] at h ⊢
    by_cases hlt : g < W.heap.size
    · rw [hb.block g hlt]; exact h
    · rw [Array.getElem?_eq_none (by omega)] at h
      cases h

theorem vars_carry {H : Type} {enc : TypeId × Value → H} {W W' : World} (hb : Below W.heap.size W W') : ∀ {ns : List String} {gs : List (DataW H)} {ps : List MemPlace},
    (∀ n ∈ ns, ∀ g t, Tryd.prog.globalNamed n = some g → (Tryd.prog.globals[g]?).map (·.type) = some t → Tryd.prog.readableRec t = true ∧ t < Tryd.prog.types.size) →
    DataW.TrodVars enc Tryd.prog W (fun _ => true) ns gs ps → DataW.TrodVars enc Tryd.prog W' (fun b => decide (b < W.heap.size)) ns gs ps
  | [], [], _, _, h => h
  | n :: ns, d :: ds, ps, hr, h => by
    obtain ⟨g, t, cs, fuel, p, q, h1, h2, h3, h4, hs, e⟩ := h
    obtain ⟨r1, r2⟩ := hr n (by simp) g t h1 h2
    have hT : DataW.Trod enc Tryd.prog W 0 (fun _ => true) true t (.agg cs) d p := ⟨fuel, h4⟩
    obtain ⟨fuel', h4'⟩ := Below.trod laidOut r1 r2 hT hb (DataW.trod_lt _ _ _ _ h4)
    exact ⟨g, t, cs, fuel', p, q, h1, h2, var_below hb h3, h4', vars_carry hb (fun n hn => hr n (by simp [hn])) hs, e⟩
  | [], _ :: _, _, _, h => by cases h
  | _ :: _, [], _, _, h => by cases h
end Go.Proofs.YtlglkbimnnmhdaaDoor
