/-
  What is proved here: the contract of the program's narrowRules: the table of turns, and a new copy of the table of round words; where the program's variables hold what its text lays into them.
-/
import Derived.Test.YtgapfkiceolceaaDoorGv
import Derived.Test.YtgapfkiceolceaaDoorShaM
import Derived.Test.YtgapfkiceolceaaDoorWt
import Derived.Deep.QuietTactic
import Derived.BigQuiet
import Derived.Deep.Light
import Derived.Deep.RegionWith
namespace Go.Proofs.YtgapfkiceolceaaDoor
open Go.RowKit
set_option maxRecDepth 100000

/-- The program's two tables for words of 32 bits hold what its text lays into them. -/
structure Tabn (w : World) : Prop where
  tt : Vr w 4 (I64 [2, 13, 22, 6, 11, 25, 7, 18, 3, 17, 19, 10])
  tk : Vr w 3 (U32 KS)
theorem Tabn.kept {w w' : World} (h : Tabn w) (hb : Below w.heap.size w w') : Tabn w' := ⟨h.tt.kept hb, h.tk.kept hb⟩

/-- The rules that the program hands on: the turns, and the round words in block rb. -/
abbrev rulesVn (rb : Nat) : Value := .agg #[.int .i64 2, .int .i64 13, .int .i64 22, .int .i64 6, .int .i64 11, .int .i64 25, .int .i64 7, .int .i64 18, .int .i64 3, .int .i64 17, .int .i64 19, .int .i64 10, .slice (some ⟨rb, 0, none⟩) 64 64]

theorem infoKn : (Tryd.prog.info? 111).map (·.size) = some 64 := by kernel_rfl
def zkn : Array Value := (U32 (List.replicate 64 0)).toArray
theorem zeroKn (w : World) : (zeroValue 111).run Tryd.prog w = .ok (.agg zkn) w := zeroRun (by kernel_rfl) w

set_option maxHeartbeats 2000000 in
theorem rulesCn (w : World) (ht : Tabn w) :
    Calls Tryd.prog 57 #[] w fun e w' => ∃ rb, e = .returned (rulesVn rb) ∧ Arr w' rb 111 (U32 KS) ∧ w.heap.size ≤ rb ∧ Below w.heap.size w w' := by
  obtain ⟨t0, z0, hk⟩ := ht.tk
  obtain ⟨W, hW⟩ : ∃ W, W = (w.alloc (.cells #[.int .i64 0, .int .i64 0, .int .i64 0, .int .i64 0, .int .i64 0, .int .i64 0, .int .i64 0, .int .i64 0, .int .i64 0, .int .i64 0, .int .i64 0, .int .i64 0, .slice none 0 0] 74)).alloc (.cells zkn 111) := ⟨_, rfl⟩
  have hA : Arr W (w.heap.size + 1) 111 (U32 (List.replicate 64 0)) := by
    rw [hW]; have := Arr.new (w.alloc (.cells #[.int .i64 0, .int .i64 0, .int .i64 0, .int .i64 0, .int .i64 0, .int .i64 0, .int .i64 0, .int .i64 0, .int .i64 0, .int .i64 0, .int .i64 0, .int .i64 0, .slice none 0 0] 74)) (U32 (List.replicate 64 0)) 111
    rw [World.size_alloc] at this
    exact this
  have hS : Arr W w.heap.size 74 [.int .i64 0, .int .i64 0, .int .i64 0, .int .i64 0, .int .i64 0, .int .i64 0, .int .i64 0, .int .i64 0, .int .i64 0, .int .i64 0, .int .i64 0, .int .i64 0, .slice none 0 0] := by
    rw [hW]; exact (Arr.new w [.int .i64 0, .int .i64 0, .int .i64 0, .int .i64 0, .int .i64 0, .int .i64 0, .int .i64 0, .int .i64 0, .int .i64 0, .int .i64 0, .int .i64 0, .int .i64 0, .slice none 0 0] _).alloc _
  have hB : Below w.heap.size w W := by rw [hW]; exact ((Below.refl _ _).alloc (Nat.le_refl _) _).alloc (by simp) _
  obtain ⟨W2, hW2⟩ : ∃ W2, W2 = W.setRow (w.heap.size + 1) (U32 KS).toArray := ⟨_, rfl⟩
  have hB2 : Below w.heap.size w W2 := by rw [hW2]; exact setRow_below hB _ _ (by omega)
  have hA2 : Arr W2 (w.heap.size + 1) 111 (U32 KS) := by rw [hW2]; exact hA.row _
  have hS2 : Arr W2 w.heap.size 74 [.int .i64 0, .int .i64 0, .int .i64 0, .int .i64 0, .int .i64 0, .int .i64 0, .int .i64 0, .int .i64 0, .int .i64 0, .int .i64 0, .int .i64 0, .int .i64 0, .slice none 0 0] := by rw [hW2]; exact hS.rowOther _ _ (by omega)
  have hT2 := ht.tt.kept hB2
  have hzk := zeroKn
  have hk1 : (w.alloc (.cells #[.int .i64 0, .int .i64 0, .int .i64 0, .int .i64 0, .int .i64 0, .int .i64 0, .int .i64 0, .int .i64 0, .int .i64 0, .int .i64 0, .int .i64 0, .int .i64 0, .slice none 0 0] 74)).heap[(3 : Nat)]? = some (.cells (U32 KS).toArray t0 z0) := (heap_alloc_old w _ ht.tk.lt).trans hk
  go_enter Tryd.func57, Tryd.ntmps57
  go_wp2_with (first
    | (refine wpList_load_row rfl 111 _ rfl 3 rfl t0 (U32 KS).toArray z0 _ hk1 Tryd.underlying111 rfl (by kernel_rfl) ?_)
    | (refine wpList_store_row rfl 111 _ _ rfl (w.heap.size + 1) (U32 KS).toArray rfl rfl 111 _ (by first | exact hA | exact hW ▸ hA) (by kernel_rfl) (by kernel_rfl) (by kernel_rfl) ?_))
  rw [← hW, ← hW2]
  clear hW hW2 hk1 hk hA hS hB
  have u0 := hT2.int 0 (by simp)
  have u1 := hT2.int 1 (by simp)
  have u2 := hT2.int 2 (by simp)
  have u3 := hT2.int 3 (by simp)
  have u4 := hT2.int 4 (by simp)
  have u5 := hT2.int 5 (by simp)
  have u6 := hT2.int 6 (by simp)
  have u7 := hT2.int 7 (by simp)
  have u8 := hT2.int 8 (by simp)
  have u9 := hT2.int 9 (by simp)
  have u10 := hT2.int 10 (by simp)
  have u11 := hT2.int 11 (by simp)
  have c0 := hS2.cell 0
  have c1 := hS2.cell 1
  have c2 := hS2.cell 2
  have c3 := hS2.cell 3
  have c4 := hS2.cell 4
  have c5 := hS2.cell 5
  have c6 := hS2.cell 6
  have c7 := hS2.cell 7
  have c8 := hS2.cell 8
  have c9 := hS2.cell 9
  have c10 := hS2.cell 10
  have c11 := hS2.cell 11
  have c12 := hS2.cell 12
  simp at u0 u1 u2 u3 u4 u5 u6 u7 u8 u9 u10 u11 c0 c1 c2 c3 c4 c5 c6 c7 c8 c9 c10 c11 c12
  have hf := hS2.frozen
  clear hzk
  have hS3 := Arr.setAll [.int .i64 2, .int .i64 13, .int .i64 22, .int .i64 6, .int .i64 11, .int .i64 25, .int .i64 7, .int .i64 18, .int .i64 3, .int .i64 17, .int .i64 19, .int .i64 10, .slice (some ⟨w.heap.size + 1, 0, none⟩) 64 64] 0 hS2
  have hA3 := Arr.setAllOther (g := w.heap.size) (by omega) [.int .i64 2, .int .i64 13, .int .i64 22, .int .i64 6, .int .i64 11, .int .i64 25, .int .i64 7, .int .i64 18, .int .i64 3, .int .i64 17, .int .i64 19, .int .i64 10, .slice (some ⟨w.heap.size + 1, 0, none⟩) 64 64] 0 hA2
  have hB3 := setAll_below (B := w.heap.size) (g := w.heap.size) (Nat.le_refl _) [.int .i64 2, .int .i64 13, .int .i64 22, .int .i64 6, .int .i64 11, .int .i64 25, .int .i64 7, .int .i64 18, .int .i64 3, .int .i64 17, .int .i64 19, .int .i64 10, .slice (some ⟨w.heap.size + 1, 0, none⟩) 64 64] 0 hB2
  rw [show setL [.int .i64 0, .int .i64 0, .int .i64 0, .int .i64 0, .int .i64 0, .int .i64 0, .int .i64 0, .int .i64 0, .int .i64 0, .int .i64 0, .int .i64 0, .int .i64 0, .slice none 0 0] 0 [.int .i64 2, .int .i64 13, .int .i64 22, .int .i64 6, .int .i64 11, .int .i64 25, .int .i64 7, .int .i64 18, .int .i64 3, .int .i64 17, .int .i64 19, .int .i64 10, .slice (some ⟨w.heap.size + 1, 0, none⟩) 64 64] = [.int .i64 2, .int .i64 13, .int .i64 22, .int .i64 6, .int .i64 11, .int .i64 25, .int .i64 7, .int .i64 18, .int .i64 3, .int .i64 17, .int .i64 19, .int .i64 10, .slice (some ⟨w.heap.size + 1, 0, none⟩) 64 64] from rfl] at hS3
  obtain ⟨W3, hW3⟩ : ∃ W3, W3 = setAll W2 w.heap.size 0 [.int .i64 2, .int .i64 13, .int .i64 22, .int .i64 6, .int .i64 11, .int .i64 25, .int .i64 7, .int .i64 18, .int .i64 3, .int .i64 17, .int .i64 19, .int .i64 10, .slice (some ⟨w.heap.size + 1, 0, none⟩) 64 64] := ⟨_, rfl⟩
  rw [← hW3] at hS3 hA3 hB3
  simp only [setAll, Nat.zero_add, Nat.reduceAdd] at hW3
  have HS3 : Hid _ := hS3.drew
  have HA3 : Hid _ := hA3.drew
  have HB3 : Hid _ := hB3.drew
  have HW3 : Hid _ := hW3
  clear hW3 hS3 hA3 hB3 hS2 hA2 hB2 hT2 ht
  go_region
  go_wp2
  rw [← HW3.out]
  clear HW3
  have hq := fun tmps h => results_cell_row (P := Tryd.prog) (fn := Tryd.f57) (p := 0) (ty := 74) rfl tmps _ w.heap.size 74 _ (0, 0) _ h HS3.out Tryd.underlying74 rfl (by kernel_rfl)
  exact bodyPost_ret (hq _ rfl) rfl ⟨w.heap.size + 1, rfl, HA3.out, by omega, HB3.out⟩
end Go.Proofs.YtgapfkiceolceaaDoor
