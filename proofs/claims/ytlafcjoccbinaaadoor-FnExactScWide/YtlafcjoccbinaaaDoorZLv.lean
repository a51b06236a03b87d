/-
  What is proved here: what a row's list of laid variables gives the walks (the program's order), that the named variables read again as they did where nothing old has turned, and how an argument of the laws' own Sc type lies in memory; no condition.
-/
import Derived.Test.YtlafcjoccbinaaaDoorRows
import Derived.Test.YtlafcjoccbinaaaDoorZA
import Derived.Test.YtlafcjoccbinaaaDoorZKa
import Derived.Test.YtlafcjoccbinaaaDoorZS
import Derived.ProofKit
import Derived.WalkKit
import Derived.LaidMore
import Derived.OpenShut
import Derived.Stop.Joined
import Derived.Lib.LaidTab
import Derived.ChangeOld
import Derived.ChangeSame
import Derived.Below
namespace Go.Proofs.YtlafcjoccbinaaaDoor
open Go.ChangeShapes Go.WideShapes Go.ChangeAt Go.RowKit
set_option maxRecDepth 100000

theorem own : ownKnob Tryd.prog.godebug = none := by kernel_rfl
theorem laidOut : laidOutB Tryd.prog = true := by kernel_rfl
theorem gOrder : Tryd.prog.globalNamed "loop.example/g00412/impl.groupOrder" = some 0 := by kernel_rfl
theorem tOrder : (Tryd.prog.globals[0]?).map (·.type) = some 49 := by kernel_rfl

theorem vr_of {W : World} {n : String} {g : Nat} {cs : Array Value} {l : List Value} (hg : Tryd.prog.globalNamed n = some g) (hv : W.var? Tryd.prog n = some cs) (hl : cs.toList = l) : Vr W g l := by
  unfold World.var? at hv
  rw [hg] at hv
  simp only [Option.bind_some] at hv
  split at hv
  · rename_i cs' t z he
    cases hv
    exact ⟨t, z, by rw [he, ← hl]⟩
  · cases hv
theorem vOrder {H : Type} {enc : TypeId × Value → H} {W : World} {sp : Nat → Bool} {held : Bool} {f : Nat} {cs : Array Value} {p : List MemPlace} (hv : W.var? Tryd.prog "loop.example/g00412/impl.groupOrder" = some cs) (h : DataW.trod enc Tryd.prog W 0 sp held f 49 cs.toList = some (Rows.laid_loop_example_g00412_impl_groupOrder, p)) : Vr W 0 (I64 OL) :=
  vr_of gOrder hv (Lib.cells_of_tab (zs := OL) Tryd.underlying49 Tryd.underlying3 (by kernel_rfl) (by kernel_rfl) h)
theorem order_of {W : World} (h : laidMetH Tryd.prog [("loop.example/g00412/impl.groupOrder", Rows.laid_loop_example_g00412_impl_groupOrder)] W) : Vr W 0 (I64 OL) := by
  rw [MakeChecks.laidMetH_plain _ _ _ (by kernel_rfl)] at h
  obtain ⟨ps, ⟨g0, t0, cs0, f0, p0, q0, hg0, ht0, hv0, hd0, _, _⟩, _, _⟩ := h
  obtain rfl := Option.some.inj (gOrder.symm.trans hg0)
  obtain rfl := Option.some.inj (tOrder.symm.trans ht0)
  exact vOrder hv0 hd0

theorem var_below {W W' : World} {n : String} {cs : Array Value} (hb : Below W.heap.size W W') (h : W.var? Tryd.prog n = some cs) : W'.var? Tryd.prog n = some cs := by
  unfold World.var? at h ⊢
  cases hg : Tryd.prog.globalNamed n with
  | none => rw [hg] at h; cases h
  | some g =>
    rw [hg] at h
    simp only [Option.bind_some] at h ⊢
    by_cases hlt : g < W.heap.size
    · rw [hb.block g hlt]; exact h
    · rw [Array.getElem?_eq_none (by omega)] at h
      cases h
theorem vars_carry {H : Type} {enc : TypeId × Value → H} {W W' : World} (hb : Below W.heap.size W W') : ∀ {ns : List String} {gs : List (DataW H)} {ps : List MemPlace},
    (∀ n ∈ ns, ∀ g t, Tryd.prog.globalNamed n = some g → (Tryd.prog.globals[g]?).map (·.type) = some t → Tryd.prog.readableRec t = true ∧ t < Tryd.prog.types.size) →
    DataW.TrodVars enc Tryd.prog W (fun _ => true) ns gs ps → DataW.TrodVars enc Tryd.prog W' (fun b => decide (b < W.heap.size)) ns gs ps
  | [], [], _, _, h => h
  | n :: ns, d :: ds, ps, hr, h => by
    obtain ⟨g, t, cs, fuel, p, q, h1, h2, h3, h4, hs, e⟩ := h
    obtain ⟨r1, r2⟩ := hr n (by simp) g t h1 h2
    have hT : DataW.Trod enc Tryd.prog W 0 (fun _ => true) true t (.agg cs) d p := ⟨fuel, h4⟩
    obtain ⟨fuel', h4'⟩ := Below.trod laidOut r1 r2 hT hb (DataW.trod_lt _ _ _ _ h4)
    exact ⟨g, t, cs, fuel', p, q, h1, h2, var_below hb h3, h4', vars_carry hb (fun n hn => hr n (by simp [hn])) hs, e⟩
  | [], _ :: _, _, _, h => by cases h
  | _ :: _, [], _, _, h => by cases h

theorem arg_sc {H : Type} {enc : TypeId × Value → H} {W : World} {base : Nat} {held : Bool} {r : Reach} {v : Value} {x : DataW H × List MemPlace} (hv : Value.okWide Tryd.prog W r base 37 v)
    (h : ∃ fuel, DataW.trod enc Tryd.prog W 0 (fun _ => true) held fuel 37 v.cells.toList = some x) :
    ∃ a n c xs, v = .agg #[.slice a n c] ∧ Is W a n c xs ∧ n ≤ 9223372036854775807 := by
  obtain ⟨cs, rfl, hsz⟩ := okWide_struct Tryd.underlying37 hv
  have h3 : Tryd.prog.cellsOf 37 = 1 := by kernel_rfl
  have hc0 : Tryd.prog.cellsOf 23 = 1 := by kernel_rfl
  have hc1 : Tryd.prog.cellsOf 3 = 1 := by kernel_rfl
  obtain ⟨v0, rfl⟩ : ∃ v0, cs = #[v0] := by
    rw [h3] at hsz
    match cs, hsz with
    | ⟨[v0]⟩, _ => exact ⟨v0, rfl⟩
  obtain ⟨fuel, hf⟩ := h
  obtain ⟨y0, n, _, _, g0⟩ := trod_struct1 Tryd.underlying37 hf
  have g1 : DataW.trod enc Tryd.prog W 0 (fun _ => true) held n 23 [v0] = some y0 := g0
  rcases open_ints Tryd.underlying23 Tryd.underlying3 hc1 g1 with ⟨hcs, _⟩ | ⟨a, l, c, zs, hcs, _, hl, hm, hz, _, hcell, hwz⟩
  · simp only [List.cons.injEq, and_true] at hcs
    exact ⟨none, 0, 0, [], by rw [hcs], ⟨fun _ => rfl, rfl, Nat.le_refl _, by simp, .inl rfl⟩, by omega⟩
  · simp only [List.cons.injEq, and_true] at hcs
    exact ⟨some a, l, c, zs.take l, by rw [hcs], is_of_arg hl (by simpa using hz) hcell hwz, by unfold maxLen at hm; omega⟩
end Go.Proofs.YtlafcjoccbinaaaDoor
