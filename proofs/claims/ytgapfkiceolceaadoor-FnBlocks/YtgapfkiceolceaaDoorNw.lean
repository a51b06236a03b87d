/-
  What is proved here: contracts of both ShaNews; where the program's table of first words holds what its text lays into it.
-/
import Derived.Test.YtgapfkiceolceaaDoorNb
import Derived.Test.YtgapfkiceolceaaDoorQ9
namespace Go.Proofs.YtgapfkiceolceaaDoor
set_option maxRecDepth 100000
open Go.RowKit

theorem H0_words : ∀ x ∈ H0, 0 ≤ x ∧ x < 4294967296 := by decide

set_option maxHeartbeats 1000000 in
theorem specShaNew (w : World) :
    Calls Tryd.prog 32 #[] w fun e w' => ∃ aH cH, e = .returned (shaV aH 8 cH 0 none 0 0) ∧ w'.ownsRow w.heap.size 3 1 (.slice aH 8 cH) 8 (I64 H0) ∧ Below w.heap.size w w' := by
  have HA : Hid (Arr (w.alloc (.cells #[.slice none 0 0, .int .i64 0, .slice none 0 0] 27)) w.heap.size 27 [.slice none 0 0, .int .i64 0, .slice none 0 0]) := Arr.new _ _ _
  have HB : Hid (Below w.heap.size w (w.alloc (.cells #[.slice none 0 0, .int .i64 0, .slice none 0 0] 27))) := (Below.refl _ _).alloc (Nat.le_refl _) _
  go_enter Tryd.func32, Tryd.ntmps32
  go_wp2_with fail
  refine (specFirst _).mono ?_
  rintro e w1 ⟨rfl, hb1⟩
  have B1 := HB.out.trans (hb1.mono HB.out.size)
  have A1 := Arr.kept HA.out hb1
  have hgs := A1.lt
  clear hb1 HA HB
  go_wp2_with fail
  refine (specWords H0 _ rfl H0_words).mono ?_
  rintro e w2 ⟨v2, rfl, ho2, hb2⟩
  obtain ⟨aH, cH, rfl, _, _⟩ := Is.own ho2 (words_int H0_words)
  have B2 := B1.trans (hb2.mono B1.size)
  have A2 := A1.kept hb2
  have o3 := own_base (own_other (own_other (own_other ho2 ⟨w.heap.size, 0, none⟩ (.slice aH 8 cH) hgs) ⟨w.heap.size, 1, none⟩ (.int .i64 0) hgs) ⟨w.heap.size, 2, none⟩ (.slice none 0 0) hgs) B1.size
  have A3 := ((A2.set 0 (.slice aH 8 cH)).set 1 (.int .i64 0)).set 2 (.slice none 0 0)
  have B3 := ((B2.setCell (p := ⟨w.heap.size, 0, none⟩) (Nat.le_refl _) (.slice aH 8 cH)).setCell (p := ⟨w.heap.size, 1, none⟩) (Nat.le_refl _) (.int .i64 0)).setCell (p := ⟨w.heap.size, 2, none⟩) (Nat.le_refl _) (.slice none 0 0)
  have c0 := A2.cell 0
  have c1 := A2.cell 1
  have c2 := A2.cell 2
  have f2 := A2.frozen
  simp at c0 c1 c2
  have O3 : Hid _ := o3
  have HA3 : Hid _ := A3
  have HB3 : Hid _ := B3
  clear o3 A3 B3 ho2 hb2 B1 A1 A2 B2
  go_wp2
  exact bodyPost_ret (results_cell_row rfl _ _ w.heap.size 27 _ (0, 0) _ rfl HA3.out Tryd.underlying27 rfl (by kernel_rfl)) rfl ⟨aH, cH, rfl, O3.out, HB3.out⟩

set_option maxHeartbeats 1000000 in
theorem implShaNew (w : World) (hf : TabF w) :
    Calls Tryd.prog 17 #[] w fun e w' => ∃ aH cH, e = .returned (shaV aH 8 cH 0 none 0 0) ∧ w'.ownsRow w.heap.size 3 1 (.slice aH 8 cH) 8 (I64 H0) ∧ Below w.heap.size w w' := by
  obtain ⟨l0, l1, l2, l3, l4, l5, l6, l7, hH⟩ : ∃ l0 l1 l2 l3 l4 l5 l6 l7, H0 = [l0, l1, l2, l3, l4, l5, l6, l7] := ⟨_, _, _, _, _, _, _, _, rfl⟩
  have hwd := H0_words
  unfold TabF at hf
  rw [hH] at hf hwd
  rw [hH]
  clear hH
  obtain ⟨W, hW⟩ : ∃ W, W = (w.alloc (.cells #[.slice none 0 0, .int .i64 0, .slice none 0 0] 27)).alloc (.cells #[.int .u32 l0, .int .u32 l1, .int .u32 l2, .int .u32 l3, .int .u32 l4, .int .u32 l5, .int .u32 l6, .int .u32 l7] 65) := ⟨_, rfl⟩
  have A0 : Arr W w.heap.size 27 [.slice none 0 0, .int .i64 0, .slice none 0 0] := by rw [hW]; exact (Arr.new _ _ _).alloc _
  have B1 : Below w.heap.size w W := by rw [hW]; exact ((Below.refl _ _).alloc (Nat.le_refl _) _).alloc (by simp) _
  have c0 : w.cell? ⟨0, 0, none⟩ = some (.int .u32 l0) := hf.cell 0
  have c1 : w.cell? ⟨0, 1, none⟩ = some (.int .u32 l1) := hf.cell 1
  have c2 : w.cell? ⟨0, 2, none⟩ = some (.int .u32 l2) := hf.cell 2
  have c3 : w.cell? ⟨0, 3, none⟩ = some (.int .u32 l3) := hf.cell 3
  have c4 : w.cell? ⟨0, 4, none⟩ = some (.int .u32 l4) := hf.cell 4
  have c5 : w.cell? ⟨0, 5, none⟩ = some (.int .u32 l5) := hf.cell 5
  have c6 : w.cell? ⟨0, 6, none⟩ = some (.int .u32 l6) := hf.cell 6
  have c7 : w.cell? ⟨0, 7, none⟩ = some (.int .u32 l7) := hf.cell 7
  have hsz := hf.lt
  have hgs := A0.lt
  go_enter Tryd.func17, Tryd.ntmps17
  go_wp2_with fail
  rw [← hW]
  refine (numbersC8 l0 l1 l2 l3 l4 l5 l6 l7 _ hwd).mono ?_
  rintro e w2 ⟨v2, rfl, ho2, hb2⟩
  obtain ⟨aH, cH, rfl, _, _⟩ := Is.own ho2 (words_int hwd)
  have B2 := B1.trans (hb2.mono B1.size)
  have A2 := A0.kept hb2
  have o3 := own_base (own_other (own_other (own_other ho2 ⟨w.heap.size, 0, none⟩ (.slice aH 8 cH) hgs) ⟨w.heap.size, 1, none⟩ (.int .i64 0) hgs) ⟨w.heap.size, 2, none⟩ (.slice none 0 0) hgs) B1.size
  have A3 := ((A2.set 0 (.slice aH 8 cH)).set 1 (.int .i64 0)).set 2 (.slice none 0 0)
  have B3 := ((B2.setCell (p := ⟨w.heap.size, 0, none⟩) (Nat.le_refl _) (.slice aH 8 cH)).setCell (p := ⟨w.heap.size, 1, none⟩) (Nat.le_refl _) (.int .i64 0)).setCell (p := ⟨w.heap.size, 2, none⟩) (Nat.le_refl _) (.slice none 0 0)
  clear c0 c1 c2 c3 c4 c5 c6 c7
  have c0 := A2.cell 0
  have c1 := A2.cell 1
  have c2 := A2.cell 2
  have f2 := A2.frozen
  simp at c0 c1 c2
  have O3 : Hid _ := o3
  have HA3 : Hid _ := A3
  have HB3 : Hid _ := B3
  clear o3 A3 B3 ho2 hb2 B1 A0 A2 B2 hW
  go_wp2
  exact bodyPost_ret (results_cell_row rfl _ _ w.heap.size 27 _ (0, 0) _ rfl HA3.out Tryd.underlying27 rfl (by kernel_rfl)) rfl ⟨aH, cH, rfl, O3.out, HB3.out⟩
end Go.Proofs.YtgapfkiceolceaaDoor
