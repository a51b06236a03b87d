/-
  What is proved here: the contract of the specification's l4bytes: 32 bytes out of sixteen parts.
-/
import Derived.Test.YtihoaakbkffejaaFnb
import Derived.Test.YtihoaakbkffejaaApp
import Derived.Deep.RegionHeld3
import Derived.Deep.AppendLies
namespace Go.Proofs.Ytihoaakbkffejaa
open Go.RowKit
set_option maxRecDepth 100000

/-- The bytes of parts: two of each, the low one first. -/
def btL (l : List Int) : List Int := l.flatMap (fun x => [x % 256, x / 256])
theorem btL_len (l : List Int) : (btL l).length = 2 * l.length := by
  induction l with
  | nil => rfl
  | cons x xs ih => simp only [btL, List.flatMap_cons, List.length_append, List.length_cons, List.length_nil] at ih ⊢; omega
theorem btL_snoc (l : List Int) (k : Nat) (h : k < l.length) : btL (l.take (k + 1)) = btL (l.take k) ++ [l.getD k 0 % 256, l.getD k 0 / 256] := by
  rw [take_app l k h]; simp [btL]
theorem btL_byte {l : List Int} (h : Lm l) : ∀ y ∈ btL l, 0 ≤ y ∧ y < 256 := by
  intro y hy
  simp only [btL, List.mem_flatMap, List.mem_cons, List.not_mem_nil, or_false] at hy
  obtain ⟨x, hx, hy⟩ := hy
  have := h x hx
  rcases hy with rfl | rfl <;> omega

set_option maxHeartbeats 2000000 in
theorem specBytes16 (l : List Int) (w : World) (hl : l.length = 16) (hm : Lm l) :
    Calls Try.prog 10 #[.agg (I64 l).toArray] w fun e w' => ∃ v, e = .returned v ∧ w'.ownsRow w.heap.size 5 1 v 32 (U8 (btL l)) ∧ Below w.heap.size w w' := by
  obtain ⟨i0, hi, hz0, hz1, hz2⟩ := info_parts Try.info5
  obtain ⟨A, hA⟩ : ∃ A, A = (I64 l).toArray := ⟨_, rfl⟩
  rw [← hA]
  obtain ⟨W, hW⟩ : ∃ W, W = w.alloc (.cells A 31) := ⟨_, rfl⟩
  have g0 : Arr W w.heap.size 31 (I64 l) := by rw [hW, hA]; exact Arr.new w (I64 l) _
  have gB : Below w.heap.size w W := by rw [hW]; exact (Below.refl _ _).alloc (Nat.le_refl _) _
  have gs : w.heap.size + 1 ≤ W.heap.size := by rw [hW]; simp
  clear hA
  go_enter Try.func10, Try.ntmps10
  go_wp2
  go_loopw [3, 4] (fun v i wr => ∃ k : Nat, k ≤ 16 ∧ i = .int .i64 k ∧ wr.ownsRow (w.heap.size + 1) 5 1 v (2 * k) (U8 (btL (l.take k))) ∧ Arr wr w.heap.size 31 (I64 l) ∧ Below w.heap.size w wr ∧ w.heap.size + 1 ≤ wr.heap.size) (fun _ i _ => 16 - (intOf i).toNat)
  case atStart => exact ⟨0, by omega, rfl, by simpa [btL] using World.ownsRow_nil _ _ _ _, hW ▸ g0, hW ▸ gB, by simp⟩
  case round =>
    clear g0 gB gs hW
    obtain ⟨k, hk, rfl, hown, g0, gB, gs⟩ := hrel
    by_cases hlt : k < 16
    · obtain ⟨x, hx⟩ : ∃ x, x = l.getD k 0 := ⟨_, rfl⟩
      have hck := g0.i64 k (by omega)
      rw [← hx] at hck
      have hxb := gD_lm hm k
      rw [← hx] at hxb
      obtain ⟨hx0, hx1⟩ := hxb
      have hnx := btL_snoc l k (by omega)
      rw [← hx] at hnx
      have HN : Hid _ := hnx
      clear hx hnx
      have s1 : IntKind.u8.wrap x = x % 256 := by rw [IntKind.wrap_u8]
      have s2 : IntKind.u8.wrap (x / 256) = x / 256 := by rw [IntKind.wrap_u8]; omega
      have hk16 : (k : Int) < 16 := by omega
      have hk0 : (0 : Int) ≤ (k : Int) := by omega
      go_wp2
      go_region_held3 (fun W => W.cell? ⟨w.heap.size, k, none⟩ = some (.int .i64 x)) (first | exact hS9 | go_keep)
        ((refine step_append_lies _ (by rfl) _ _ _ (by rfl) (w.heap.size + 1) 5 i0 _ 1 1 Try.underlying22 hi hz0 hz1 hz2 rfl (by omega) u3 (2 * k) (U8 (btL (l.take k))) (by rfl) ((hown.alloc _).drew)
            ⟨wr.heap.size, 0, none⟩ 2 2 (U8 [x % 256, x / 256]) (by rfl) (by rfl) (World.news_of_block (cs := #[.int .u8 (x % 256), .int .u8 (x / 256)]) (t := 5) (fr := (0, 0)) (heap_alloc_new wr _)) (by simp [Value.oneCell'])
            (by omega) (by unfold maxLen; omega) (by omega) (by simp; omega) (wr.heap.size + 1) (by simp) ?_; intro gg cap w1 hown1 hgrow hat hltg; have hbA : Below (w.heap.size + 1) wr w1 := (((Below.refl _ _).alloc (by omega) _).drew).grown hgrow (by simp; omega) (fun j hj => (hown.lt j hj).1); have hS9 : w1.cell? ⟨w.heap.size, k, none⟩ = some (.int .i64 x) := (hbA.cell (p := ⟨w.heap.size, k, none⟩) (by show w.heap.size < w.heap.size + 1; omega)).trans hck))
      all_goals
        have g0' := g0.below hbA (by omega)
        have gB' := gB.trans (hbA.mono (by omega))
        have gs' := Nat.le_trans gs hbA.size
        have HR : Hid (w1.ownsRow (w.heap.size + 1) 5 1 (.slice (some ⟨gg, 0, none⟩) (2 * k + 2) cap) (2 * (k + 1)) (U8 (btL (l.take (k + 1))))) := by
          unfold Hid
          rw [HN.out]
          have e2 : 2 * (k + 1) = 2 * k + 2 := by omega
          rw [e2]
          simpa using hown1
        clear hown1 hgrow hown hbA hat hltg g0 gB gs hck hS9
        go_wp2
        exact ⟨⟨k + 1, by omega, by go_num, HR.out, g0', gB', gs'⟩, by simp [intOf]; omega⟩
    · obtain rfl : k = 16 := by omega
      rw [List.take_of_length_le (by omega)] at hown
      have HO : Hid _ := own_base hown (show w.heap.size ≤ w.heap.size + 1 by omega)
      clear hown g0
      go_wp2
      go_ret
      exact ⟨_, rfl, HO.out, gB⟩

end Go.Proofs.Ytihoaakbkffejaa
