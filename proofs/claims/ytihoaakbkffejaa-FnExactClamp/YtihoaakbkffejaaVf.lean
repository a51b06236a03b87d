/-
  What is proved here: the contract of the program's Clamp.
-/
import Derived.Test.YtihoaakbkffejaaVa
import Derived.Test.YtihoaakbkffejaaCtc
import Derived.Test.YtihoaakbkffejaaXu
import Derived.Deep.CutRange
namespace Go.Proofs.Ytihoaakbkffejaa
open Go.RowKit
set_option maxRecDepth 100000

set_option maxHeartbeats 2000000 in
theorem implClamp (a : Option Addr) (n c : Nat) (bs : List Int) (w : World) (hx : Bs w a n c bs) :
    Calls Try.prog 6 #[.slice a n c] w fun e w' => ∃ v, e = .returned (.tuple #[v, .bool (cpOk bs)]) ∧ w'.ownsRow w.heap.size 5 1 v (cpL bs).length (U8 (cpL bs)) ∧ Below w.heap.size w w' := by
  have hn : bs.length = n := hx.2.1
  by_cases h : n = 32
  · subst h
    have hok : cpOk bs = true := by unfold cpOk; exact decide_eq_true hn
    have hL : cpL bs = clB bs := by unfold cpL; rw [if_pos hok]
    rw [hok, hL, clB_len, hn]
    have b0 := gD_u8 hx.2.2.2.1 0
    have b31 := gD_u8 hx.2.2.2.1 31
    obtain ⟨x, ex⟩ : ∃ x, x = bs.getD 0 0 := ⟨_, rfl⟩
    obtain ⟨y, ey⟩ : ∃ y, y = bs.getD 31 0 := ⟨_, rfl⟩
    rw [← ex] at b0
    rw [← ey] at b31
    have a1 := and_248' b0.1 b0.2
    have a2 := top_64' b31.1 b31.2
    have HC : Hid (((U8 bs).set 0 (.int .u8 (x / 8 * 8))).set 31 (.int .u8 (y % 64 + 64)) = U8 (clB bs)) := by
      unfold Hid clB; rw [ex, ey]; simp only [U8, List.map_set]
    have HK : Hid (Calls Try.prog 12 #[.slice a 32 c] w fun e w' => ∃ v, e = .returned v ∧ w'.ownsRow w.heap.size 5 1 v 32 (U8 bs) ∧ Below w.heap.size w w') := by unfold Hid; exact cloneB a 32 c bs w hx (by omega)
    have hb := hx.2.2.2.1
    have HBB : Hid _ := hb
    clear hok hL hb
    go_enter Try.func6, Try.ntmps6
    go_wp2_with fail
    refine HK.out.mono ?_
    rintro e w1 ⟨v, rfl, ow, hb1⟩
    obtain ⟨g, cap, rfl, hgW⟩ : ∃ g cap, v = .slice (some ⟨g, 0, none⟩) 32 cap ∧ w.heap.size ≤ g := by
      rcases ow.2 with ⟨_, hv⟩ | ⟨g, cap, cu, hv, hg, _⟩
      · omega
      · exact ⟨g, cap, hv, hg⟩
    have c0 : w1.cell? ⟨g, 0, none⟩ = some (.int .u8 x) := by rw [own_cell ow 0 (by omega), ex]
    have fz := ow.frozenAt 0
    have ow' := own_at ow 0 (.int .u8 (x / 8 * 8))
    have B' := hb1.setCell (p := ⟨g, 0, none⟩) hgW (.int .u8 (x / 8 * 8))
    clear HK ex
    go_upto_region 5 with fail
    obtain ⟨w2, h2⟩ : ∃ Z, Z = w1.setCell ⟨g, 0, none⟩ (.int .u8 (x / 8 * 8)) := ⟨_, rfl⟩
    rw [← h2] at ow' B' ⊢
    clear h2 fz c0 ow hb1
    have c31 : w2.cell? ⟨g, 31, none⟩ = some (.int .u8 y) := by
      have := own_cell (l := bs.set 0 (x / 8 * 8)) (K := .u8) (by simpa only [U8, List.map_set] using ow') 31 (by simp [hn])
      rw [this, getD_set _ _ _ _ (by omega), if_neg (by omega), ey]
    have fz := ow'.frozenAt 31
    have ow2 := own_at ow' 31 (.int .u8 (y % 64 + 64))
    have B2 := B'.setCell (p := ⟨g, 31, none⟩) hgW (.int .u8 (y % 64 + 64))
    rw [HC.out] at ow2
    clear ey
    go_upto_region 6 with fail
    obtain ⟨w3, h3⟩ : ∃ Z, Z = w2.setCell ⟨g, 31, none⟩ (.int .u8 (y % 64 + 64)) := ⟨_, rfl⟩
    rw [← h3] at ow2 B2 ⊢
    clear h3
    go_wp2
    go_ret2
    exact ⟨_, rfl, ow2, B2⟩
  · have hok : cpOk bs = false := by unfold cpOk; exact decide_eq_false (by omega)
    have hL : cpL bs = [] := by unfold cpL; rw [if_neg (by simp [hok])]
    rw [hok, hL]
    have hne : ((n : Int) != 32) = true := by simp; omega
    go_enter Try.func6, Try.ntmps6
    go_wp2
    go_ret2
    exact ⟨_, rfl, World.ownsRow_nil _ _ _ _, Below.refl _ _⟩
end Go.Proofs.Ytihoaakbkffejaa
