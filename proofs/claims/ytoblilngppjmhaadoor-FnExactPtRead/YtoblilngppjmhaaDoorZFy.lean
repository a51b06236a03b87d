/-
  What is proved here: contracts of the specification's l4zero and l4eighth; when two arrays of ints are equal.
-/
import Derived.Test.YtoblilngppjmhaaDoorZPn
import Derived.ChangeKeysEq
import Derived.Test.YtoblilngppjmhaaDoorZUg
import Derived.Test.YtoblilngppjmhaaDoorZJhi
namespace Go.Proofs.YtoblilngppjmhaaDoor
open Go.RowKit
set_option maxRecDepth 100000

set_option maxHeartbeats 1000000 in
theorem specZero (a : List Int) (w : World) (ha : a.length = 16) :
    Calls Tryd.prog 134 #[.agg (I64 a).toArray] w fun e w' => e = .returned (.bool (decide (a = Z16))) ∧ Below w.heap.size w w' := by
  obtain ⟨r, hr⟩ : ∃ r, r = decide (a = Z16) := ⟨_, rfl⟩
  have hq : (Op.equalIn 10000 82 (.agg (I64 a).toArray) (.agg #[.int .i64 0, .int .i64 0, .int .i64 0, .int .i64 0, .int .i64 0, .int .i64 0, .int .i64 0, .int .i64 0, .int .i64 0, .int .i64 0, .int .i64 0, .int .i64 0, .int .i64 0, .int .i64 0, .int .i64 0, .int .i64 0])).run Tryd.prog (w.alloc (.cells (I64 a).toArray 82)) = .ok r (w.alloc (.cells (I64 a).toArray 82)) := by
    rw [hr]; exact run_eq16 a Z16 _ ha rfl
  rw [← hr]
  have g0 : Arr (w.alloc (.cells (I64 a).toArray 82)) w.heap.size 82 (I64 a) := Arr.new _ _ _
  have gB : Below w.heap.size w (w.alloc (.cells (I64 a).toArray 82)) := (Below.refl _ _).alloc (Nat.le_refl _) _
  clear hr
  go_enter Tryd.func134, Tryd.ntmps134
  go_wp2_with (refine wpList_load_row rfl 82 _ rfl w.heap.size rfl 82 (I64 a).toArray (0, 0) _ g0 Tryd.underlying82 rfl (by simpa [ha] using infoE) ?_)
  go_ret
  exact ⟨rfl, gB⟩

/-- The exponent of a root, in parts. -/
def E8 : List Int := [65534, 65535, 65535, 65535, 65535, 65535, 65535, 65535, 65535, 65535, 65535, 65535, 65535, 65535, 65535, 4095]
theorem E8_val : (val E8).toNat = eRt := by decide
theorem QL_val : val QL = (qN : Int) := by decide

set_option maxHeartbeats 2000000 in
theorem specEighth (w : World) :
    Calls Tryd.prog 145 #[] w fun e w' => e = .returned (.agg (I64 E8).toArray) ∧ Below w.heap.size w w' := by
  obtain ⟨W, hW⟩ : ∃ W, W = (w.alloc (.cells (I64 Z16).toArray 82)).alloc (.cells (I64 Z16).toArray 82) := ⟨_, rfl⟩
  have g0 : Arr W w.heap.size 82 (I64 Z16) := by rw [hW]; exact (Arr.new w (I64 Z16) _).alloc _
  have g1 : Arr W (w.heap.size + 1) 82 (I64 (List.replicate 0 65535 ++ Z16.drop 0)) := by
    rw [hW]
    have := Arr.new (w.alloc (.cells (I64 Z16).toArray 82)) (I64 Z16) 82
    rw [World.size_alloc] at this
    exact this
  have gB : Below w.heap.size w W := by rw [hW]; exact ((Below.refl _ _).alloc (Nat.le_refl _) _).alloc (by simp) _
  go_enter Tryd.func145, Tryd.ntmps145
  go_wp2
  go_loopw [2] (fun i wr => ∃ k : Nat, k ≤ 16 ∧ i = .int .i64 k ∧ Arr wr w.heap.size 82 (I64 Z16) ∧ Arr wr (w.heap.size + 1) 82 (I64 (List.replicate k 65535 ++ Z16.drop k)) ∧ Below w.heap.size w wr) (fun i _ => 16 - (intOf i).toNat)
  case atStart => exact ⟨0, by omega, rfl, hW ▸ g0, hW ▸ g1, hW ▸ gB⟩
  case round =>
    clear g0 g1 gB hW
    obtain ⟨k, hk, rfl, g0, g1, gB⟩ := hrel
    have hfl : (List.replicate k (65535 : Int)).length = k := by simp
    by_cases hlt : k < 16
    · obtain ⟨u, hu⟩ : ∃ u, wr.cell? ⟨w.heap.size + 1, k, none⟩ = some u := by
        rw [g1.cell k]
        exact ⟨_, List.getElem?_eq_getElem (by simp; omega)⟩
      have hfz := g1.frozen k
      have g1' := g1.set k (.int .i64 65535)
      rw [set_app hfl (show k < Z16.length from hlt), ← List.replicate_succ'] at g1'
      have g0' := g0.other ⟨w.heap.size + 1, k, none⟩ (.int .i64 65535) (by simp)
      have gB' := gB.setCell (p := ⟨w.heap.size + 1, k, none⟩) (by simp) (.int .i64 65535)
      have hk16 : (k : Int) < 16 := by omega
      have hk0 : (0 : Int) ≤ (k : Int) := by omega
      have H0 : Hid _ := g0'
      have H1 : Hid _ := g1'
      have HB : Hid _ := gB'
      clear g0' g1' gB' g0 g1 gB
      go_wp2
      go_roundw
      case rel => exact ⟨k + 1, by omega, by go_num, H0.out, H1.out, HB.out⟩
      case measure => simp [intOf]; omega
    · obtain rfl : k = 16 := by omega
      have c0 := g1.cell 0
      have f0 := g1.frozen 0
      have g2 := g1.set 0 (.int .i64 65534)
      have c15 := g2.cell 15
      have f15 := g2.frozen 15
      have g3 := g2.set 15 (.int .i64 4095)
      have gB2 := (gB.setCell (p := ⟨w.heap.size + 1, 0, none⟩) (by simp) (.int .i64 65534)).setCell (p := ⟨w.heap.size + 1, 15, none⟩) (by simp) (.int .i64 4095)
      have g4 := (g0.other ⟨w.heap.size + 1, 0, none⟩ (.int .i64 65534) (by simp)).other ⟨w.heap.size + 1, 15, none⟩ (.int .i64 4095) (by simp)
      replace g3 : Arr ((wr.setCell ⟨w.heap.size + 1, 0, none⟩ (.int .i64 65534)).setCell ⟨w.heap.size + 1, 15, none⟩ (.int .i64 4095)) (w.heap.size + 1) 82 (I64 E8) := g3
      replace c0 : wr.cell? ⟨w.heap.size + 1, 0, none⟩ = some (.int .i64 65535) := c0
      replace c15 : (wr.setCell ⟨w.heap.size + 1, 0, none⟩ (.int .i64 65534)).cell? ⟨w.heap.size + 1, 15, none⟩ = some (.int .i64 65535) := c15
      have g5 := g4.row (I64 E8)
      have gB5 := setRow_below gB2 w.heap.size (I64 E8).toArray (Nat.le_refl _)
      clear g0 g1 g2 gB gB2 hfl
      go_wp2_with (first
        | (refine wpList_load_row rfl 82 _ rfl (w.heap.size + 1) rfl 82 (I64 E8).toArray (0, 0) _ g3 Tryd.underlying82 rfl infoE ?_)
        | (refine wpList_store_row rfl 82 _ _ rfl w.heap.size (I64 E8).toArray rfl rfl 82 _ g4 infoE rfl (by simp [E8, Value.oneCell']) ?_))
      exact bodyPost_ret (results_cell_row rfl _ _ w.heap.size 82 (I64 E8).toArray (0, 0) _ rfl g5 Tryd.underlying82 rfl infoE) rfl ⟨rfl, gB5⟩
end Go.Proofs.YtoblilngppjmhaaDoor
