/-
  What is proved here: the bytes of eight words and of a length, and the contract of the program's method sum.
-/
import Derived.Test.YtlglkbimnnmhdaaDoorSa
namespace Go.Proofs.YtlglkbimnnmhdaaDoor
open Go.RowKit

/-- The four bytes of a word, the greatest first. -/
def b4 (x : Int) : List Int := [x / 16777216 % 256, x / 65536 % 256, x / 256 % 256, x % 256]
def sumB (l : List Int) : List Int := l.flatMap b4
theorem sumB_len (l : List Int) : (sumB l).length = 4 * l.length := by
  induction l with
  | nil => rfl
  | cons x l ih => simp only [sumB, List.flatMap_cons, List.length_append, List.length_cons] at ih ⊢; rw [ih]; simp [b4]; omega
theorem b4_byte (x : Int) : ∀ y ∈ b4 x, 0 ≤ y ∧ y < 256 := by
  intro y hy
  simp only [b4, List.mem_cons, List.not_mem_nil, or_false] at hy
  rcases hy with rfl | rfl | rfl | rfl <;> omega
theorem sumB_byte (l : List Int) : ∀ y ∈ sumB l, 0 ≤ y ∧ y < 256 := by
  intro y hy
  obtain ⟨x, _, h⟩ := List.mem_flatMap.1 hy
  exact b4_byte x y h
theorem sumB_snoc {l : List Int} {k : Nat} {x : Int} (h : l.take (k + 1) = l.take k ++ [x]) : sumB (l.take (k + 1)) = sumB (l.take k) ++ b4 x := by
  rw [h]; simp [sumB]

/-- Four new cells, as a slice of bytes. -/
theorem Bs.four (w : World) (x y z t : Int) (h : ∀ u ∈ [x, y, z, t], 0 ≤ u ∧ u < 256) : Bs (w.alloc (.cells #[.int .u8 x, .int .u8 y, .int .u8 z, .int .u8 t] 5)) (some ⟨w.heap.size, 0, none⟩) 4 4 [x, y, z, t] := by
  refine ⟨(fun h => by cases h), rfl, Nat.le_refl _, h, .inr ⟨w.heap.size, 0, rfl, by simp, ?_⟩⟩
  intro j hj
  rw [World.cell?_alloc_at _ _ _ _ rfl]
  match j, hj with
  | 0, _ => rfl
  | 1, _ => rfl
  | 2, _ => rfl
  | 3, _ => rfl

set_option maxHeartbeats 1000000 in
theorem implSum (g : Nat) (hs : List Int) (w : World) (hA : Arr w g 58 (U32 hs)) (hl : hs.length = 8) (hw : ∀ x ∈ hs, 0 ≤ x ∧ x < 4294967296) :
    Calls Tryd.prog 48 #[.pointer (some ⟨g, 0, none⟩)] w fun e w' => ∃ v, e = .returned v ∧ w'.ownsRow w.heap.size 5 1 v 32 (U8 (sumB hs)) ∧ Below w.heap.size w w' := by
  obtain ⟨i0, hi, hz0, hz1, hz2⟩ := info_parts Tryd.info5
  go_enter Tryd.func48, Tryd.ntmps48
  go_wp2_with (at_make; refine wpList_make_own _ rfl _ _ 22 rfl w.heap.size 5 i0 (.int .u8 0) 1 Tryd.underlying22 hi hz0 hz1 .i64 .i64 32 32 rfl rfl (by omega) (by rw [hz2]; omega) (by unfold maxLen; omega) (Nat.le_refl _) ?_; intro w1 hown1 hgrow1)
  have hbel1 : Below w.heap.size w w1 := (Below.refl _ _).grown hgrow1 (Nat.le_refl _) (by intro k hk; cases hk)
  clear hgrow1
  go_loopw [3, 8] (fun v i wr => ∃ k m : Nat, m = 4 * k ∧ k ≤ 8 ∧ i = .int .i64 k ∧ wr.ownsRow w.heap.size 5 1 v m (U8 (sumB (hs.take k))) ∧ Below w.heap.size w wr) (fun _ i _ => 8 - (intOf i).toNat)
  case atStart => exact ⟨0, 0, rfl, by omega, rfl, by simpa [sumB] using hown1, hbel1⟩
  case round =>
    clear hown1 hbel1
    obtain ⟨k, m, hm, hk, rfl, hown, hb⟩ := hrel
    by_cases hlt : k < 8
    · obtain ⟨x, hx⟩ : ∃ x, x = hs.getD k 0 := ⟨_, rfl⟩
      have hck := (hA.kept hb).u32 k (by omega)
      rw [← hx] at hck
      obtain ⟨hx0, hx1⟩ : 0 ≤ x ∧ x < 4294967296 := by rw [hx]; exact hw _ (getD_mem (by omega))
      have hsn := take_snoc hs k (by omega)
      rw [← hx] at hsn
      have HN : Hid _ := sumB_snoc hsn
      have HM : Hid _ := hm
      clear hx hsn hm
      have hk8 : (k : Int) < 8 := by omega
      have hm28 : m ≤ 28 := by have := HM.out; omega
      have hsz := hb.size
      go_wp2_with (at_builtin; refine wpl_append_bs rfl _ _ rfl w.heap.size _ m (sumB (hs.take k)) rfl (some ⟨wr.heap.size, 0, none⟩) 4 4 (b4 x) rfl (hown.alloc _) ?_ ?_ ?_ ?_)
      · have := Bs.four wr (x / 16777216 % 256) (x / 65536 % 256) (x / 256 % 256) (x % 256) (b4_byte x)
        have e : x / 16777216 % 256 = x / 16777216 := by omega
        rw [e] at this
        simpa [b4, e] using this
      · omega
      · first | omega | (simp; omega)
      intro v' w' h1 h2 _
      have hb2 := below_app hb (by omega) hown h2
      have HR : Hid (w'.ownsRow w.heap.size 5 1 v' (m + 4) (U8 (sumB (hs.take (k + 1))))) := by
        unfold Hid
        rw [HN.out]; simpa using h1
      clear h1 h2 hown hb HN
      go_wp2
      go_roundw
      case rel => exact ⟨k + 1, m + 4, by have := HM.out; omega, by omega, by go_num, HR.out, hb2⟩
      case measure => simp [intOf]; omega
    · have hkn : k = 8 := by omega
      subst hkn
      obtain rfl : m = 32 := hm
      rw [List.take_of_length_le (show hs.length ≤ 8 by omega)] at hown
      go_wp2
      go_ret
      exact ⟨_, rfl, hown, hb⟩
end Go.Proofs.YtlglkbimnnmhdaaDoor
