/-
  What is proved here: contracts of the program's method numbers and of the specification's l2words, l2from and l2first: eight words as a slice of ints, and back.
-/
import Derived.Test.YtgapfkiceolceaaDoorQ3
import Derived.Test.YtgapfkiceolceaaDoorQ8
namespace Go.Proofs.YtgapfkiceolceaaDoor
set_option maxRecDepth 100000
open Go.RowKit

theorem words_int {l : List Int} (h : ∀ x ∈ l, 0 ≤ x ∧ x < 4294967296) : ∀ x ∈ l, -9223372036854775808 ≤ x ∧ x ≤ 9223372036854775807 := fun x hx => by have := h x hx; omega

set_option maxHeartbeats 1000000 in
theorem numbersC (hs : List Int) (w : World) (hl : hs.length = 8) (hw : ∀ x ∈ hs, 0 ≤ x ∧ x < 4294967296) :
    Calls Tryd.prog 58 #[.agg (U32 hs).toArray] w fun e w' => ∃ v, e = .returned v ∧ w'.ownsRow w.heap.size 3 1 v 8 (I64 hs) ∧ Below w.heap.size w w' := by
  obtain ⟨i0, hi, hz0, hz1, hz2⟩ := info_parts Tryd.info3
  obtain ⟨W, hW⟩ : ∃ W, W = w.alloc (.cells (U32 hs).toArray 65) := ⟨_, rfl⟩
  have hA : Arr W w.heap.size 65 (U32 hs) := by rw [hW]; exact Arr.new w _ _
  have hB : Below w.heap.size w W := by rw [hW]; exact (Below.refl _ _).alloc (Nat.le_refl _) _
  have hsz : (Tryd.prog.info? 65).map (·.size) = some 8 := by kernel_rfl
  have hinf : (Tryd.prog.info? 63).map (·.size) = some 1 := by kernel_rfl
  obtain ⟨l0, l1, l2, l3, l4, l5, l6, l7, hhs⟩ := list8 hl
  rw [hhs, show (U32 [l0, l1, l2, l3, l4, l5, l6, l7]).toArray = #[.int .u32 l0, .int .u32 l1, .int .u32 l2, .int .u32 l3, .int .u32 l4, .int .u32 l5, .int .u32 l6, .int .u32 l7] from rfl] at hW
  go_enter Tryd.func58, Tryd.ntmps58
  rw [show (Value.agg (U32 hs).toArray) = Value.agg #[.int .u32 l0, .int .u32 l1, .int .u32 l2, .int .u32 l3, .int .u32 l4, .int .u32 l5, .int .u32 l6, .int .u32 l7] by rw [hhs]; rfl]
  have HHS : Hid _ := hhs
  clear hhs
  go_wp2_with (first
    | (at_make; rw [← hW]; refine wpList_make_own _ rfl _ _ 25 rfl W.heap.size 3 i0 (.int .i64 0) 1 Tryd.underlying25 hi hz0 hz1 .i64 .i64 8 8 rfl rfl (by omega) (by rw [hz2]; omega) (by unfold maxLen; omega) (Nat.le_refl _) ?_; intro w1 hown1 hgrow1; have hbel1 : Below W.heap.size W w1 := (Below.refl _ _).grown hgrow1 (Nat.le_refl _) (by intro k hk; cases hk); have hA1 := hA.kept hbel1)
    | (refine wpList_load_row rfl 65 _ rfl w.heap.size rfl 65 (U32 hs).toArray (0, 0) _ hA1 Tryd.underlying65 rfl (by simpa [hl] using hsz) ?_))
  have hlt := hA.lt
  have hWs : W.heap.size = w.heap.size + 1 := by rw [hW]; simp
  clear hgrow1 hW hA
  go_loopw [3, 8] (fun v i wr => ∃ k : Nat, k ≤ 8 ∧ i = .int .i64 k ∧ wr.ownsRow W.heap.size 3 1 v k (I64 (hs.take k)) ∧ Below W.heap.size W wr) (fun _ i _ => 8 - (intOf i).toNat)
  case atStart => exact ⟨0, by omega, rfl, by simpa [hWs] using hown1, hbel1⟩
  case round =>
    clear hown1 hbel1 hA1 hWs
    obtain ⟨k, hk, rfl, hown, hb⟩ := hrel
    by_cases hlt8 : k < 8
    · have ix := fun w => index_arr Tryd.underlying65 Tryd.underlying63 hinf hs hl k hlt8 w
      obtain ⟨x, hx⟩ : ∃ x, x = hs.getD k 0 := ⟨_, rfl⟩
      rw [← hx] at ix
      obtain ⟨hx0, hx1⟩ : 0 ≤ x ∧ x < 4294967296 := by rw [hx]; exact hw _ (getD_mem (by omega))
      have hsn := take_snoc hs k (by omega)
      rw [← hx] at hsn
      have HN : Hid _ := hsn
      clear hx hsn
      have hcv : IntKind.i64.wrap x = x := by rw [IntKind.wrap_i64]; omega
      have hk8 : (k : Int) < 8 := by omega
      have hszw := hb.size
      go_wp2_with (at_builtin; refine wpl_append_is rfl _ _ rfl W.heap.size _ k (hs.take k) rfl (some ⟨wr.heap.size, 0, none⟩) 1 1 [x] rfl (hown.alloc _) ?_ ?_ ?_ ?_)
      · exact Is.one _ _ (by omega) (by omega)
      · omega
      · first | omega | (simp; omega)
      intro v' w' h1 h2 _
      have hb2 := below_appI hb (by omega) hown h2
      have HR : Hid (w'.ownsRow W.heap.size 3 1 v' (k + 1) (I64 (hs.take (k + 1)))) := by
        unfold Hid
        rw [HN.out]; simpa using h1
      clear h1 h2 hown hb HN
      go_wp2
      go_roundw
      case rel => exact ⟨k + 1, by omega, by go_num, HR.out, hb2⟩
      case measure => simp [intOf]; omega
    · have hkn : k = 8 := by omega
      subst hkn
      rw [List.take_of_length_le (show hs.length ≤ 8 by omega)] at hown
      go_wp2
      go_ret
      exact ⟨_, rfl, own_base hown hB.size, hB.trans (hb.mono hB.size)⟩
theorem numbersC8 (l0 l1 l2 l3 l4 l5 l6 l7 : Int) (w : World) (hw : ∀ x ∈ [l0, l1, l2, l3, l4, l5, l6, l7], 0 ≤ x ∧ x < 4294967296) :
    Calls Tryd.prog 58 #[.agg #[.int .u32 l0, .int .u32 l1, .int .u32 l2, .int .u32 l3, .int .u32 l4, .int .u32 l5, .int .u32 l6, .int .u32 l7]] w fun e w' => ∃ v, e = .returned v ∧ w'.ownsRow w.heap.size 3 1 v 8 (I64 [l0, l1, l2, l3, l4, l5, l6, l7]) ∧ Below w.heap.size w w' :=
  numbersC [l0, l1, l2, l3, l4, l5, l6, l7] w rfl hw

set_option maxHeartbeats 1000000 in
theorem specWords (hs : List Int) (w : World) (hl : hs.length = 8) (hw : ∀ x ∈ hs, 0 ≤ x ∧ x < 4294967296) :
    Calls Tryd.prog 73 #[.agg (U32 hs).toArray] w fun e w' => ∃ v, e = .returned v ∧ w'.ownsRow w.heap.size 3 1 v 8 (I64 hs) ∧ Below w.heap.size w w' := by
  obtain ⟨W, hW⟩ : ∃ W, W = w.alloc (.cells (U32 hs).toArray 64) := ⟨_, rfl⟩
  have hA : Arr W w.heap.size 64 (U32 hs) := by rw [hW]; exact Arr.new w _ _
  have hB : Below w.heap.size w W := by rw [hW]; exact (Below.refl _ _).alloc (Nat.le_refl _) _
  obtain ⟨l0, l1, l2, l3, l4, l5, l6, l7, hhs⟩ := list8 hl
  rw [hhs] at hW
  go_enter Tryd.func73, Tryd.ntmps73
  rw [show (Value.agg (U32 hs).toArray) = Value.agg #[.int .u32 l0, .int .u32 l1, .int .u32 l2, .int .u32 l3, .int .u32 l4, .int .u32 l5, .int .u32 l6, .int .u32 l7] by rw [hhs]; rfl]
  clear hhs
  go_wp2
  go_loopw [3, 4] (fun v i wr => ∃ k : Nat, k ≤ 8 ∧ i = .int .i64 k ∧ Arr wr w.heap.size 64 (U32 hs) ∧ wr.ownsRow (w.heap.size + 1) 3 1 v k (I64 (hs.take k)) ∧ Below w.heap.size w wr) (fun _ i _ => 8 - (intOf i).toNat)
  case atStart => exact ⟨0, by omega, rfl, hW ▸ hA, World.ownsRow_nil _ _ _ _, hW ▸ hB⟩
  case round =>
    clear hA hB hW
    obtain ⟨k, hk, rfl, hA, hown, hb⟩ := hrel
    by_cases hlt : k < 8
    · obtain ⟨x, hx⟩ : ∃ x, x = hs.getD k 0 := ⟨_, rfl⟩
      have hck := hA.u32 k (by omega)
      rw [← hx] at hck
      obtain ⟨hx0, hx1⟩ : 0 ≤ x ∧ x < 4294967296 := by rw [hx]; exact hw _ (getD_mem (by omega))
      have hsn := take_snoc hs k (by omega)
      rw [← hx] at hsn
      have HN : Hid _ := hsn
      clear hx hsn
      have hcv : IntKind.i64.wrap x = x := by rw [IntKind.wrap_i64]; omega
      have hk8 : (k : Int) < 8 := by omega
      have hsz := hA.lt
      go_wp2_with (at_builtin; refine wpl_append_is rfl _ _ rfl (w.heap.size + 1) _ k (hs.take k) rfl (some ⟨wr.heap.size, 0, none⟩) 1 1 [x] rfl (hown.alloc _) ?_ ?_ ?_ ?_)
      · exact Is.one _ _ (by omega) (by omega)
      · omega
      · first | omega | (simp; omega)
      intro v' w' h1 h2 _
      have hb2 := below_appI hb (by omega) (own_base hown (by omega)) h2
      have hbA : Below (w.heap.size + 1) wr w' := ((Below.refl _ _).alloc (by omega) _).grown h2 (by simp; omega) (fun j hj => (hown.lt j hj).1)
      have hA' := hA.below hbA (by omega)
      have HR : Hid (w'.ownsRow (w.heap.size + 1) 3 1 v' (k + 1) (I64 (hs.take (k + 1)))) := by
        unfold Hid
        rw [HN.out]; simpa using h1
      clear h1 h2 hown hb HN hA hbA
      go_wp2
      go_roundw
      case rel => exact ⟨k + 1, by omega, by go_num, hA', HR.out, hb2⟩
      case measure => simp [intOf]; omega
    · have hkn : k = 8 := by omega
      subst hkn
      go_wp2
      go_ret
      refine ⟨_, rfl, ?_, hb⟩
      have := own_base hown (show w.heap.size ≤ w.heap.size + 1 by omega)
      simpa [List.take_of_length_le (show hs.length ≤ 8 by omega)] using this
end Go.Proofs.YtgapfkiceolceaaDoor
