/-
  What is proved here: contracts of the specification's l3turn, l3round and l3first.
-/
import Derived.Test.YtgapfkiceolceaaDoorWm
import Derived.Test.YtgapfkiceolceaaDoorProg
import Derived.Deep.QuietTactic
import Derived.BigQuiet
import Derived.Deep.Light
import Derived.Deep.RegionWith
namespace Go.Proofs.YtgapfkiceolceaaDoor
open Go.RowKit

set_option maxHeartbeats 400000 in
theorem specTurnW (x : Int) (n : Nat) (hn : 0 < n) (hn2 : n < 64) (m : Int) (hm : m = (n : Int)) (w : World) :
    Calls Tryd.prog 103 #[.int .u64 x, .int .i64 m] w fun e w' => e = .returned (.int .u64 (rotw x n)) ∧ ∃ q, w' = w.drewN q := by
  subst hm
  go_enter Tryd.func103, Tryd.ntmps103
  go_wp2
  go_quiet (fail)
  go_wp2
  go_ret
  exact ⟨rfl, _, rfl⟩
abbrev Z80 : List Int := [0, 0, 0, 0, 0, 0, 0, 0, 0, 0, 0, 0, 0, 0, 0, 0, 0, 0, 0, 0, 0, 0, 0, 0, 0, 0, 0, 0, 0, 0, 0, 0, 0, 0, 0, 0, 0, 0, 0, 0, 0, 0, 0, 0, 0, 0, 0, 0, 0, 0, 0, 0, 0, 0, 0, 0, 0, 0, 0, 0, 0, 0, 0, 0, 0, 0, 0, 0, 0, 0, 0, 0, 0, 0, 0, 0, 0, 0, 0, 0]

theorem zeroRun {P : Program} {t : TypeId} {z : Value} (h : (P.info? t).map (·.zero) = some (some z)) (w : World) : (zeroValue t).run P w = .ok z w := by
  cases hi : P.info? t with
  | none => rw [hi] at h; cases h
  | some i =>
    rw [hi] at h
    simp only [Option.map_some, Option.some.injEq] at h
    simp [zeroValue, typeInfo, hi, h]
theorem zero80 (w : World) : (zeroValue 44).run Tryd.prog w = .ok (.agg #[.int .u64 0, .int .u64 0, .int .u64 0, .int .u64 0, .int .u64 0, .int .u64 0, .int .u64 0, .int .u64 0, .int .u64 0, .int .u64 0, .int .u64 0, .int .u64 0, .int .u64 0, .int .u64 0, .int .u64 0, .int .u64 0, .int .u64 0, .int .u64 0, .int .u64 0, .int .u64 0, .int .u64 0, .int .u64 0, .int .u64 0, .int .u64 0, .int .u64 0, .int .u64 0, .int .u64 0, .int .u64 0, .int .u64 0, .int .u64 0, .int .u64 0, .int .u64 0, .int .u64 0, .int .u64 0, .int .u64 0, .int .u64 0, .int .u64 0, .int .u64 0, .int .u64 0, .int .u64 0, .int .u64 0, .int .u64 0, .int .u64 0, .int .u64 0, .int .u64 0, .int .u64 0, .int .u64 0, .int .u64 0, .int .u64 0, .int .u64 0, .int .u64 0, .int .u64 0, .int .u64 0, .int .u64 0, .int .u64 0, .int .u64 0, .int .u64 0, .int .u64 0, .int .u64 0, .int .u64 0, .int .u64 0, .int .u64 0, .int .u64 0, .int .u64 0, .int .u64 0, .int .u64 0, .int .u64 0, .int .u64 0, .int .u64 0, .int .u64 0, .int .u64 0, .int .u64 0, .int .u64 0, .int .u64 0, .int .u64 0, .int .u64 0, .int .u64 0, .int .u64 0, .int .u64 0, .int .u64 0]) w := zeroRun (by kernel_rfl) w

theorem wpList_buildTo {P : Program} {ops : Array Oper} {rest : List Oper} {o : Oper} {a : Act} {w : World} {Q : Exit → Act → World → Prop} (hg : o.guard = none) (t : TypeId) (parts : Array (Nat × Operand)) (ho : o.op = .build t parts) (cells : Array Value)
    (hc : P.built t (parts.map fun (i, x) => (i, a.eval x)).toList = some cells) (h : wpList P ops Q rest (a.put o.dst (.agg cells)) w) : wpList P ops Q (o :: rest) a w :=
  wpList_build hg t parts ho (by rw [hc]; rfl) (by rw [hc]; exact h)

set_option maxHeartbeats 1000000 in
theorem specRoundW (k : Nat) (hk : k < 80) (w : World) :
    Calls Tryd.prog 85 #[.int .i64 (k : Int)] w fun e w' => e = .returned (.int .u64 (KW.getD k 0)) ∧ Below w.heap.size w w' := by
  have hA := Arr.new w (U64 Z80) 44
  have hB : Below w.heap.size w (w.alloc (.cells (U64 Z80).toArray 44)) := (Below.refl _ _).alloc (Nat.le_refl _) _
  have hA2 := hA.row (U64 KW)
  have hB2 := setRow_below hB w.heap.size (U64 KW).toArray (Nat.le_refl _)
  have hck := hA2.u64 k (by rw [KW_len]; exact hk)
  obtain ⟨y, hy⟩ : ∃ y, y = KW.getD k 0 := ⟨_, rfl⟩
  rw [← hy] at hck
  have hck2 : ((w.alloc (.cells #[.int .u64 0, .int .u64 0, .int .u64 0, .int .u64 0, .int .u64 0, .int .u64 0, .int .u64 0, .int .u64 0, .int .u64 0, .int .u64 0, .int .u64 0, .int .u64 0, .int .u64 0, .int .u64 0, .int .u64 0, .int .u64 0, .int .u64 0, .int .u64 0, .int .u64 0, .int .u64 0, .int .u64 0, .int .u64 0, .int .u64 0, .int .u64 0, .int .u64 0, .int .u64 0, .int .u64 0, .int .u64 0, .int .u64 0, .int .u64 0, .int .u64 0, .int .u64 0, .int .u64 0, .int .u64 0, .int .u64 0, .int .u64 0, .int .u64 0, .int .u64 0, .int .u64 0, .int .u64 0, .int .u64 0, .int .u64 0, .int .u64 0, .int .u64 0, .int .u64 0, .int .u64 0, .int .u64 0, .int .u64 0, .int .u64 0, .int .u64 0, .int .u64 0, .int .u64 0, .int .u64 0, .int .u64 0, .int .u64 0, .int .u64 0, .int .u64 0, .int .u64 0, .int .u64 0, .int .u64 0, .int .u64 0, .int .u64 0, .int .u64 0, .int .u64 0, .int .u64 0, .int .u64 0, .int .u64 0, .int .u64 0, .int .u64 0, .int .u64 0, .int .u64 0, .int .u64 0, .int .u64 0, .int .u64 0, .int .u64 0, .int .u64 0, .int .u64 0, .int .u64 0, .int .u64 0, .int .u64 0] 44)).setRow w.heap.size (U64 KW).toArray).cell? ⟨w.heap.size, k, none⟩ = some (.int .u64 y) := hck
  have HY : Hid _ := hy
  have HB : Hid _ := hB2
  clear hy hA2 hB2 hB hck
  have hk80 : (k : Int) < 80 := by omega
  have hz80 := zero80
  go_enter Tryd.func85, Tryd.ntmps85
  go_wp2_with (first
    | (refine wpList_buildTo rfl 44 _ rfl (U64 KW).toArray (by kernel_rfl) ?_)
    | (refine wpList_store_row rfl 44 _ _ rfl w.heap.size (U64 KW).toArray rfl rfl 44 (U64 Z80).toArray hA (by kernel_rfl) (by kernel_rfl) (by kernel_rfl) ?_))
  go_ret
  refine ⟨?_, HB.out⟩
  show Ending.returned (.int .u64 y) = _
  rw [HY.out]
  rfl

set_option maxHeartbeats 1000000 in
theorem specFirstW (w : World) :
    Calls Tryd.prog 99 #[] w fun e w' => e = .returned (.agg (U64 H0W).toArray) ∧ Below w.heap.size w w' := by
  go_enter Tryd.func99, Tryd.ntmps99
  go_wp2
  exact bodyPost_ret (results_cell_row rfl _ _ w.heap.size 94 _ (0, 0) _ rfl (heap_alloc_new w _) Tryd.underlying94 rfl (by kernel_rfl)) rfl ⟨rfl, (Below.refl _ _).alloc (Nat.le_refl _) _⟩

end Go.Proofs.YtgapfkiceolceaaDoor
