/-
  What is proved here: the contract of the program's FeOf.
-/
import Derived.Test.YtpchdfdeomhakaaDoorZL
import Derived.Test.YtpchdfdeomhakaaDoorZE
namespace Go.Proofs.YtpchdfdeomhakaaDoor
open Go.RowKit
set_option maxRecDepth 100000

theorem one_crd {n : Int} (h0 : 0 ≤ n) (h1 : n < 9223372036854775808) : crd (n :: List.replicate 15 0) = lim 16 n := by
  have hv : val (n :: List.replicate 15 0) = n := by
    have : val (List.replicate 15 (0 : Int)) = 0 := by decide
    simp only [val, this]; omega
  rw [crd_lim rfl (by rw [hv]; exact h0) (by rw [hv]; omega), hv]

set_option maxHeartbeats 1000000 in
theorem implFeOf (n : Int) (w : World) (h1 : n < 9223372036854775808) :
    Calls Tryd.prog 25 #[.int .i64 n] w fun e w' => ∃ v, e = .returned (.tuple #[v, .bool (decide (0 ≤ n))]) ∧ FeT 57 w w' v (ofN n) ∧ Below w.heap.size w w' := by
  obtain ⟨W, hW⟩ : ∃ W, W = w.alloc (.cells #[.slice none 0 0] 25) := ⟨_, rfl⟩
  have g0 : Arr W w.heap.size 25 [.slice none 0 0] := by rw [hW]; exact Arr.new _ _ _
  have gB : Below w.heap.size w W := by rw [hW]; exact (Below.refl _ _).alloc (Nat.le_refl _) _
  by_cases hn : n < 0
  · have hd : decide (0 ≤ n) = false := by simp; omega
    rw [hd, show ofN n = [] by unfold ofN; rw [if_pos hn]]
    have hB2 : Below w.heap.size w (w.alloc (.cells #[.slice none 0 0] 25)) := hW ▸ gB
    clear gB g0 hW
    have HA : Hid _ := Arr.new w [.slice none 0 0] 25
    have HB : Hid _ := hB2
    clear hB2
    go_enter Tryd.func25, Tryd.ntmps25
    go_wp2
    exact bodyPost_ret (results_row_tmp (v := .bool false) (cs := [.slice none 0 0]) rfl rfl rfl HA.out Tryd.underlying25 rfl infoFe) rfl ⟨_, rfl, feT_nil _ _ _, HB.out⟩
  · have hd : decide (0 ≤ n) = true := by simp; omega
    obtain ⟨L, hL⟩ : ∃ L, L = lim 16 n := ⟨_, rfl⟩
    rw [hd, show ofN n = L by unfold ofN; rw [if_neg hn, hL]]
    have hLl : L.length = 16 := by rw [hL]; exact lim_len _ _
    have HC : Hid (∀ Z, Calls Tryd.prog 59 #[.agg #[.int .i64 n, .int .i64 0, .int .i64 0, .int .i64 0, .int .i64 0, .int .i64 0, .int .i64 0, .int .i64 0, .int .i64 0, .int .i64 0, .int .i64 0, .int .i64 0, .int .i64 0, .int .i64 0, .int .i64 0, .int .i64 0]] Z fun e w' => e = .returned (.agg (I64 L).toArray) ∧ Below Z.heap.size Z w') := by
      unfold Hid; intro Z
      have := implCarried (n :: List.replicate 15 0) Z rfl (cb_one (by omega) h1)
      rw [one_crd (by omega) h1, ← hL] at this
      exact this
    clear hL
    go_enter Tryd.func25, Tryd.ntmps25
    go_wp2_with fail
    rw [← hW]
    clear hW
    refine (HC.out _).mono ?_
    rintro e w1 ⟨rfl, hb1⟩
    have g1 := g0.kept hb1
    have gB1 := gB.trans (hb1.mono gB.size)
    clear g0 gB hb1 HC
    go_wp2_with fail
    refine (implList L _ hLl).mono ?_
    rintro e w2 ⟨a, c, rfl, ho, hb2⟩
    have g2 := g1.kept hb2
    have gB2 := gB1.trans (hb2.mono gB1.size)
    have hsz := g1.lt
    have c1 : w2.cell? ⟨w.heap.size, 0, none⟩ = some (.slice none 0 0) := g2.cell 0
    have hf1 := g2.frozen 0
    have g3 := g2.set 0 (.slice a 16 c)
    have GB : Hid _ := gB2.setCell (p := ⟨w.heap.size, 0, none⟩) (Nat.le_refl _) (.slice a 16 c)
    have HO : Hid _ := own_base (own_other' ho ⟨w.heap.size, 0, none⟩ (.slice a 16 c) hsz) gB1.size
    clear g1 gB1 hb2 g2 gB2 ho
    have G3 : Hid _ := g3
    clear g3
    go_wp2
    exact bodyPost_ret (results_row_tmp (v := .bool true) (cs := [.slice a 16 c]) rfl rfl rfl G3.out Tryd.underlying25 rfl infoFe) rfl ⟨_, rfl, feT_16 hLl HO.out, GB.out⟩
end Go.Proofs.YtpchdfdeomhakaaDoor
