/-
  What is proved here: the contract of the specification's FeOf.
-/
import Derived.Test.YtpchdfdeomhakaaFvb
import Derived.Test.YtpchdfdeomhakaaFq
namespace Go.Proofs.Ytpchdfdeomhakaa
open Go.RowKit
set_option maxRecDepth 100000

set_option maxHeartbeats 1000000 in
theorem specFeOf (n : Int) (w : World) (h1 : n < 9223372036854775808) :
    Calls Try.prog 4 #[.int .i64 n] w fun e w' => ∃ v, e = .returned (.tuple #[v, .bool (decide (0 ≤ n))]) ∧ FeIs w w' v (ofN n) ∧ Below w.heap.size w w' := by
  obtain ⟨W, hW⟩ : ∃ W, W = w.alloc (.cells #[.slice none 0 0] 24) := ⟨_, rfl⟩
  have g0 : Arr W w.heap.size 24 [.slice none 0 0] := by rw [hW]; exact Arr.new _ _ _
  have gB : Below w.heap.size w W := by rw [hW]; exact (Below.refl _ _).alloc (Nat.le_refl _) _
  by_cases hn : n < 0
  · have hd : decide (0 ≤ n) = false := by simp; omega
    rw [hd, show ofN n = [] by unfold ofN; rw [if_pos hn]]
    have hB2 : Below w.heap.size w (w.alloc (.cells #[.slice none 0 0] 24)) := hW ▸ gB
    clear gB g0 hW
    have HA : Hid _ := Arr.new w [.slice none 0 0] 24
    have HB : Hid _ := hB2
    clear hB2
    go_enter Try.func4, Try.ntmps4
    go_wp2
    exact bodyPost_ret (results_row_tmp (v := .bool false) (cs := [.slice none 0 0]) rfl rfl rfl HA.out Try.underlying24 rfl infoFe) rfl ⟨_, rfl, feIs_nil _ _, HB.out⟩
  · have hd : decide (0 ≤ n) = true := by simp; omega
    obtain ⟨L, hL⟩ : ∃ L, L = lim 16 n := ⟨_, rfl⟩
    rw [hd, show ofN n = L by unfold ofN; rw [if_neg hn, hL]]
    have hLl : L.length = 16 := by rw [hL]; exact lim_len _ _
    have hLm : Lm L := by rw [hL]; exact lim_lm _ _
    have HLL : Hid _ := hL
    clear hL
    go_enter Try.func4, Try.ntmps4
    go_wp2_with fail
    rw [← hW]
    clear hW
    refine (specSmall n _ (by omega) h1).mono ?_
    rintro e w1 ⟨rfl, hb1⟩
    rw [← HLL.out]
    have g1 := g0.kept hb1
    have gB1 := gB.trans (hb1.mono gB.size)
    clear g0 gB hb1
    go_wp2_with fail
    refine (specOut L _ hLl hLm).mono ?_
    rintro e w2 ⟨a, c, rfl, ho, hb2⟩
    have g2 := g1.kept hb2
    have gB2 := gB1.trans (hb2.mono gB1.size)
    have hsz := g1.lt
    have c1 : w2.cell? ⟨w.heap.size, 0, none⟩ = some (.slice none 0 0) := g2.cell 0
    have hf1 := g2.frozen 0
    have g3 := g2.set 0 (.slice a 16 c)
    have GB : Hid _ := gB2.setCell (p := ⟨w.heap.size, 0, none⟩) (Nat.le_refl _) (.slice a 16 c)
    have HO : Hid _ := own_base (own_other' ho ⟨w.heap.size, 0, none⟩ (.slice a 16 c) hsz) gB1.size
    have c2 : (w2.setCell ⟨w.heap.size, 0, none⟩ (.slice a 16 c)).cell? ⟨w.heap.size, 0, none⟩ = some (.slice a 16 c) := g3.cell 0
    clear g1 gB1 hb2 g2 gB2 ho c2
    have G3 : Hid _ := g3
    clear g3
    go_wp2
    exact bodyPost_ret (results_row_tmp (v := .bool true) (cs := [.slice a 16 c]) rfl rfl rfl G3.out Try.underlying24 rfl infoFe) rfl ⟨_, rfl, feIs_16 hLl HO.out, GB.out⟩

end Go.Proofs.Ytpchdfdeomhakaa
