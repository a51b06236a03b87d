/-
  What is proved here: contracts of the specification's l4small and l4sub: a small number in parts, and the difference of two numbers of the field.
-/
import Derived.Test.YtlafcjoccbinaaaDoorZE
import Derived.Deep.RegionHeld3
namespace Go.Proofs.YtlafcjoccbinaaaDoor
open Go.RowKit
set_option maxRecDepth 100000

theorem list16 {l : List Int} (h : l.length = 16) : ∃ a0 a1 a2 a3 a4 a5 a6 a7 a8 a9 a10 a11 a12 a13 a14 a15, l = [a0, a1, a2, a3, a4, a5, a6, a7, a8, a9, a10, a11, a12, a13, a14, a15] := by
  match l, h with
  | [a0, a1, a2, a3, a4, a5, a6, a7, a8, a9, a10, a11, a12, a13, a14, a15], _ => exact ⟨a0, a1, a2, a3, a4, a5, a6, a7, a8, a9, a10, a11, a12, a13, a14, a15, rfl⟩
theorem lim_snoc (k : Nat) (x : Int) : lim (k + 1) x = lim k x ++ [x / 65536 ^ k % 65536] := by
  induction k generalizing x with
  | zero => simp [lim]
  | succ k ih =>
    rw [lim, ih, lim, Int.pow_succ, Int.mul_comm (65536 ^ k) 65536, ← Int.ediv_ediv_of_nonneg (by omega)]
    rfl
theorem lim_add (m n : Nat) (x : Int) : lim (m + n) x = lim m x ++ lim n (x / 65536 ^ m) := by
  induction m generalizing x with
  | zero => simp [lim]
  | succ m ih =>
    rw [Nat.add_right_comm, lim, ih, lim, Int.pow_succ, Int.mul_comm (65536 ^ m) 65536, ← Int.ediv_ediv_of_nonneg (by omega)]
    rfl
theorem lim_small {n : Int} (h0 : 0 ≤ n) (h1 : n < 18446744073709551616) : lim 4 n ++ Z16.drop 4 = lim 16 n := by
  rw [show 16 = 4 + 12 from rfl, lim_add, show n / 65536 ^ 4 = 0 from Int.ediv_eq_zero_of_lt h0 (by simpa using h1)]
  rfl

set_option maxHeartbeats 1000000 in
theorem specSmall (n : Int) (w : World) (h0 : 0 ≤ n) (h1 : n < 9223372036854775808) :
    Calls Tryd.prog 76 #[.int .i64 n] w fun e w' => e = .returned (.agg (I64 (lim 16 n)).toArray) ∧ Below w.heap.size w w' := by
  have hls := lim_small h0 (by omega)
  obtain ⟨W, hW⟩ : ∃ W, W = (w.alloc (.cells (I64 Z16).toArray 66)).alloc (.cells (I64 Z16).toArray 66) := ⟨_, rfl⟩
  have g0 : Arr W w.heap.size 66 (I64 Z16) := by rw [hW]; exact (Arr.new w (I64 Z16) _).alloc _
  have g1 : Arr W (w.heap.size + 1) 66 (I64 (lim 0 n ++ Z16.drop 0)) := by
    rw [hW]
    have := Arr.new (w.alloc (.cells (I64 Z16).toArray 66)) (I64 Z16) 66
    rw [World.size_alloc] at this
    exact this
  have gB : Below w.heap.size w W := by rw [hW]; exact ((Below.refl _ _).alloc (Nat.le_refl _) _).alloc (by simp) _
  have HLS : Hid _ := hls
  clear hls
  go_enter Tryd.func76, Tryd.ntmps76
  go_wp2
  go_loopw [0, 4] (fun v i wr => ∃ (k : Nat) (m : Int), k ≤ 4 ∧ v = .int .i64 m ∧ m = n / 65536 ^ k ∧ i = .int .i64 k ∧ Arr wr w.heap.size 66 (I64 Z16) ∧ Arr wr (w.heap.size + 1) 66 (I64 (lim k n ++ Z16.drop k)) ∧ Below w.heap.size w wr) (fun _ i _ => 4 - (intOf i).toNat)
  case atStart => exact ⟨0, n, by omega, rfl, by simp, rfl, hW ▸ g0, hW ▸ g1, hW ▸ gB⟩
  case round =>
    clear g0 g1 gB hW
    obtain ⟨k, m, hk, rfl, hm, rfl, g0, g1, gB⟩ := hrel
    have hfl := lim_len k n
    have hm0 : 0 ≤ m ∧ m ≤ n := by
      rw [hm]
      exact ⟨Int.ediv_nonneg h0 (Int.le_of_lt (pow_pos16 k)), Int.ediv_le_self _ h0⟩
    by_cases hlt : k < 4
    · obtain ⟨u, hu⟩ : ∃ u, wr.cell? ⟨w.heap.size + 1, k, none⟩ = some u := by
        rw [g1.cell k]
        exact ⟨_, List.getElem?_eq_getElem (by simp [hfl]; omega)⟩
      have hfz := g1.frozen k
      have g1' := g1.set k (.int .i64 (m % 65536))
      rw [set_app hfl (show k < Z16.length by show k < 16; omega), hm, ← lim_snoc, ← hm] at g1'
      have g0' := g0.other ⟨w.heap.size + 1, k, none⟩ (.int .i64 (m % 65536)) (by simp)
      have gB' := gB.setCell (p := ⟨w.heap.size + 1, k, none⟩) (by simp) (.int .i64 (m % 65536))
      have s1 : bits .and .i64 m 65535 = m % 65536 := i64_low16 hm0.1 (by omega)
      have hmn : m / 65536 = n / 65536 ^ (k + 1) := by rw [hm, Int.pow_succ, ← Int.ediv_ediv_of_nonneg (Int.le_of_lt (pow_pos16 k))]
      have hk4 : (k : Int) < 4 := by omega
      have hk16 : (k : Int) < 16 := by omega
      have H0 : Hid _ := g0'
      have H1 : Hid _ := g1'
      have HB : Hid _ := gB'
      have HM : Hid _ := hmn
      clear g0' g1' gB' hmn g0 g1 gB hm
      go_wp2
      go_roundw
      case rel => exact ⟨k + 1, m / 65536, by omega, rfl, HM.out, by go_num, H0.out, H1.out, HB.out⟩
      case measure => simp [intOf]; omega
    · obtain rfl : k = 4 := by omega
      rw [HLS.out] at g1
      have hl : (lim 16 n).length = 16 := lim_len _ _
      obtain ⟨y, hy⟩ : ∃ y, y = lim 16 n := ⟨_, rfl⟩
      rw [← hy] at g1 hl
      have HY : Hid _ := hy
      have g0' := g0.row (I64 y)
      have gB' := setRow_below gB w.heap.size (I64 y).toArray (Nat.le_refl _)
      clear hy hm hfl
      go_wp2_with (first
        | (refine wpList_load_row rfl 66 _ rfl (w.heap.size + 1) rfl 66 (I64 y).toArray (0, 0) _ g1 Tryd.underlying66 rfl (by simpa [hl] using infoE) ?_)
        | (refine wpList_store_row rfl 66 _ _ rfl w.heap.size (I64 y).toArray rfl rfl 66 _ g0 (by simpa [hl] using infoE) (by simp [hl]) (by simp [Value.oneCell']) ?_))
      exact bodyPost_ret (results_cell_row rfl _ _ w.heap.size 66 (I64 y).toArray (0, 0) _ rfl g0' Tryd.underlying66 rfl (by simpa [hl] using infoE)) rfl ⟨by rw [HY.out], gB'⟩
end Go.Proofs.YtlafcjoccbinaaaDoor
