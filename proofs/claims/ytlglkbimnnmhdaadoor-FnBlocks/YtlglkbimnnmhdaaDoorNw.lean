/-
  What is proved here: contracts of both ShaNews; where the program's table of first words holds what its text lays into it.
-/
import Derived.Test.YtlglkbimnnmhdaaDoorNb
import Derived.Test.YtlglkbimnnmhdaaDoorTl
namespace Go.Proofs.YtlglkbimnnmhdaaDoor
open Go.RowKit

theorem H0_words : ∀ x ∈ H0, 0 ≤ x ∧ x < 4294967296 := by decide

set_option maxHeartbeats 1000000 in
theorem specShaNew (w : World) :
    Calls Tryd.prog 22 #[] w fun e w' => ∃ aH cH, e = .returned (shaV aH 8 cH 0 none 0 0) ∧ w'.ownsRow w.heap.size 3 1 (.slice aH 8 cH) 8 (I64 H0) ∧ Below w.heap.size w w' := by
  have HA : Hid (Arr (w.alloc (.cells #[.slice none 0 0, .int .i64 0, .slice none 0 0] 27)) w.heap.size 27 [.slice none 0 0, .int .i64 0, .slice none 0 0]) := Arr.new _ _ _
  have HB : Hid (Below w.heap.size w (w.alloc (.cells #[.slice none 0 0, .int .i64 0, .slice none 0 0] 27))) := (Below.refl _ _).alloc (Nat.le_refl _) _
  go_enter Tryd.func22, Tryd.ntmps22
  go_wp2_with fail
  refine (specFirst _).mono ?_
  rintro e w1 ⟨rfl, hb1⟩
  have B1 := HB.out.trans (hb1.mono HB.out.size)
  have A1 := Arr.kept HA.out hb1
  have hgs := A1.lt
  clear hb1 HA HB
  go_wp2_with fail
  refine (specWords H0 _ rfl H0_words).mono ?_
  rintro e w2 ⟨v2, rfl, ho2, hb2⟩
  obtain ⟨aH, cH, rfl, _, _⟩ := Is.own ho2 (words_int H0_words)
  have B2 := B1.trans (hb2.mono B1.size)
  have A2 := A1.kept hb2
  have o3 := own_base (own_other (own_other (own_other ho2 ⟨w.heap.size, 0, none⟩ (.slice aH 8 cH) hgs) ⟨w.heap.size, 1, none⟩ (.int .i64 0) hgs) ⟨w.heap.size, 2, none⟩ (.slice none 0 0) hgs) B1.size
  have A3 := ((A2.set 0 (.slice aH 8 cH)).set 1 (.int .i64 0)).set 2 (.slice none 0 0)
  have B3 := ((B2.setCell (p := ⟨w.heap.size, 0, none⟩) (Nat.le_refl _) (.slice aH 8 cH)).setCell (p := ⟨w.heap.size, 1, none⟩) (Nat.le_refl _) (.int .i64 0)).setCell (p := ⟨w.heap.size, 2, none⟩) (Nat.le_refl _) (.slice none 0 0)
  have c0 := A2.cell 0
  have c1 := A2.cell 1
  have c2 := A2.cell 2
  have f2 := A2.frozen
  simp at c0 c1 c2
  have O3 : Hid _ := o3
  have HA3 : Hid _ := A3
  have HB3 : Hid _ := B3
  clear o3 A3 B3 ho2 hb2 B1 A1 A2 B2
  go_wp2
  exact bodyPost_ret (results_cell_row rfl _ _ w.heap.size 27 _ (0, 0) _ rfl HA3.out Tryd.underlying27 rfl (by kernel_rfl)) rfl ⟨aH, cH, rfl, O3.out, HB3.out⟩

/-- The table of first words holds what the text lays into it. -/
def TabF (w : World) : Prop := ∀ j, j < 8 → w.cell? ⟨0, j, none⟩ = some (.int .u32 (H0.getD j 0))
theorem TabF.size {w : World} (h : TabF w) : 0 < w.heap.size := World.block_lt_of_cell? w _ (h 0 (by omega))
theorem TabF.below {w w' : World} (h : TabF w) (hb : Below w.heap.size w w') : TabF w' := fun j hj => (hb.cell (p := ⟨0, j, none⟩) h.size).trans (h j hj)

set_option maxHeartbeats 1000000 in
theorem implShaNew (w : World) (hf : TabF w) :
    Calls Tryd.prog 13 #[] w fun e w' => ∃ aH cH, e = .returned (shaV aH 8 cH 0 none 0 0) ∧ w'.ownsRow w.heap.size 3 1 (.slice aH 8 cH) 8 (I64 H0) ∧ Below w.heap.size w w' := by
  obtain ⟨W, hW⟩ : ∃ W, W = (w.alloc (.cells #[.slice none 0 0, .int .i64 0, .slice none 0 0] 27)).alloc (.cells (U32 H0).toArray 58) := ⟨_, rfl⟩
  have A0 : Arr W w.heap.size 27 [.slice none 0 0, .int .i64 0, .slice none 0 0] := by rw [hW]; exact (Arr.new _ _ _).alloc _
  have A1 : Arr W (w.heap.size + 1) 58 (U32 H0) := by
    rw [hW]
    have := Arr.new (w.alloc (.cells #[.slice none 0 0, .int .i64 0, .slice none 0 0] 27)) (U32 H0) 58
    rw [show (w.alloc (.cells #[.slice none 0 0, .int .i64 0, .slice none 0 0] 27)).heap.size = w.heap.size + 1 by simp] at this
    exact this
  have B1 : Below w.heap.size w W := by rw [hW]; exact ((Below.refl _ _).alloc (Nat.le_refl _) _).alloc (by simp) _
  have c0 := hf 0 (by omega)
  have c1 := hf 1 (by omega)
  have c2 := hf 2 (by omega)
  have c3 := hf 3 (by omega)
  have c4 := hf 4 (by omega)
  have c5 := hf 5 (by omega)
  have c6 := hf 6 (by omega)
  have c7 := hf 7 (by omega)
  simp [H0] at c0 c1 c2 c3 c4 c5 c6 c7
  have hsz := hf.size
  have hgs := A0.lt
  go_enter Tryd.func13, Tryd.ntmps13
  go_wp2_with fail
  rw [show (w.alloc (.cells #[.slice none 0 0, .int .i64 0, .slice none 0 0] 27)).alloc (.cells #[.int .u32 1779033703, .int .u32 3144134277, .int .u32 1013904242, .int .u32 2773480762, .int .u32 1359893119, .int .u32 2600822924, .int .u32 528734635, .int .u32 1541459225] 58) = W from hW.symm]
  refine (numbersC (w.heap.size + 1) H0 _ A1 rfl H0_words).mono ?_
  rintro e w2 ⟨v2, rfl, ho2, hb2⟩
  obtain ⟨aH, cH, rfl, _, _⟩ := Is.own ho2 (words_int H0_words)
  have B2 := B1.trans (hb2.mono B1.size)
  have A2 := A0.kept hb2
  have o3 := own_base (own_other (own_other (own_other ho2 ⟨w.heap.size, 0, none⟩ (.slice aH 8 cH) hgs) ⟨w.heap.size, 1, none⟩ (.int .i64 0) hgs) ⟨w.heap.size, 2, none⟩ (.slice none 0 0) hgs) B1.size
  have A3 := ((A2.set 0 (.slice aH 8 cH)).set 1 (.int .i64 0)).set 2 (.slice none 0 0)
  have B3 := ((B2.setCell (p := ⟨w.heap.size, 0, none⟩) (Nat.le_refl _) (.slice aH 8 cH)).setCell (p := ⟨w.heap.size, 1, none⟩) (Nat.le_refl _) (.int .i64 0)).setCell (p := ⟨w.heap.size, 2, none⟩) (Nat.le_refl _) (.slice none 0 0)
  clear c0 c1 c2 c3 c4 c5 c6 c7
  have c0 := A2.cell 0
  have c1 := A2.cell 1
  have c2 := A2.cell 2
  have f2 := A2.frozen
  simp at c0 c1 c2
  have O3 : Hid _ := o3
  have HA3 : Hid _ := A3
  have HB3 : Hid _ := B3
  clear o3 A3 B3 ho2 hb2 B1 A0 A1 A2 B2 hW
  go_wp2
  exact bodyPost_ret (results_cell_row rfl _ _ w.heap.size 27 _ (0, 0) _ rfl HA3.out Tryd.underlying27 rfl (by kernel_rfl)) rfl ⟨aH, cH, rfl, O3.out, HB3.out⟩
end Go.Proofs.YtlglkbimnnmhdaaDoor
