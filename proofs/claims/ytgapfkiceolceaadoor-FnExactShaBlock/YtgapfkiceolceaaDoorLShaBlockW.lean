/-
  What is proved here: the exact law of ShaBlock returns true at every two slices, and writes into nothing that was there; where the program's two tables hold what its text lays into them.
-/
import Derived.Test.YtgapfkiceolceaaDoorTl
import Derived.Test.YtgapfkiceolceaaDoorNb
namespace Go.Proofs.YtgapfkiceolceaaDoor
set_option maxRecDepth 100000
open Go.RowKit

theorem sbOf_int (hs xs : List Int) : ∀ x ∈ sbOf hs xs, -9223372036854775808 ≤ x ∧ x ≤ 9223372036854775807 := by
  unfold sbOf
  split
  · exact words_int (blk_word hs xs)
  · simp
theorem sbOf_len (hs xs : List Int) : (sbOf hs xs).length ≤ 8 := by
  unfold sbOf
  split
  · rename_i h
    unfold sbOk at h
    simp only [Bool.and_eq_true, decide_eq_true_eq] at h
    rw [blk_len ((isW_iff hs).1 h.1).1]
    exact Nat.le_refl _
  · simp

set_option maxHeartbeats 2000000 in
theorem walk_fnExactShaBlock (w : World) (aH : Option Addr) (nH cH : Nat) (hs : List Int) (hH : Is w aH nH cH hs) (aT : Option Addr) (nT cT : Nat) (ts : List Int) (hT : Bs w aT nT cT ts) (ht : Tabs w) :
    Calls Tryd.prog 7 #[.slice aH nH cH, .slice aT nT cT] w fun e w' => e = .returned (.bool true) ∧ Below w.heap.size w w' := by
  by_cases hb0 : 1048576 < (nH : Int)
  · go_enter Tryd.func7, Tryd.ntmps7
    go_wp2
    go_ret
    exact ⟨rfl, Below.refl _ _⟩
  by_cases hb1 : 1048576 < (nT : Int)
  · go_enter Tryd.func7, Tryd.ntmps7
    go_wp2
    go_ret
    exact ⟨rfl, Below.refl _ _⟩
  have hhb := hH.2.2.2.1
  have htb := hT.2.2.2.1
  have hlb := sbOf_int hs ts
  have hm2 := sbOf_len hs ts
  have HS := fun aH nH cH aT nT cT w h h' hn => specShaBlock aH nH cH hs aT nT cT ts w h h' hn
  have HI := fun aH nH cH aT nT cT w h h' ht => implShaBlock aH nH cH hs aT nT cT ts w h h' ht
  generalize sbOf hs ts = LW at HS HI hlb hm2
  generalize sbOk hs ts = R at HS HI
  obtain ⟨m, hm⟩ : ∃ m, m = LW.length := ⟨_, rfl⟩
  rw [← hm] at HS HI hm2
  clear hm
  have hRR : (R != R) = false := by simp
  have HS' : Hid _ := HS
  have HI' : Hid _ := HI
  have HHB : Hid _ := hhb
  have HTB : Hid _ := htb
  have HLB : Hid _ := hlb
  clear HS HI hhb htb hlb
  go_enter Tryd.func7, Tryd.ntmps7
  go_wp2_with fail
  refine (toSI aH nH cH hs _ hH (by omega)).mono ?_
  rintro e w1 ⟨x1, k1, rfl, _, hx1, b1⟩
  go_wp2_with fail
  refine (toS aT nT cT ts _ (hT.below b1) (by omega)).mono ?_
  rintro e w1' ⟨y1, j1, rfl, _, hy1, b1'⟩
  have hx1' := hx1.below b1'
  have f1 := b1.trans (b1'.mono b1.size)
  go_wp2_with fail
  refine (HS'.out x1 nH k1 y1 nT j1 _ hx1' hy1 (by omega)).mono ?_
  rintro e w2 ⟨v2, rfl, ho2, b2⟩
  obtain ⟨a0, c0, rfl, _, _⟩ := Is.own ho2 HLB.out
  have g2 := f1.trans (b2.mono f1.size)
  have o2 := own_base ho2 f1.size
  clear hx1 hy1 hx1' b1 b1' f1 b2 ho2 HS'
  go_wp2_with fail
  refine (toSI aH nH cH hs _ (hH.below g2) (by omega)).mono ?_
  rintro e w3 ⟨ax, cx, rfl, ho3, hx3, b3⟩
  have dx := apart_of o2 ho3 (Nat.le_refl _)
  have o2' := own_below o2 b3
  have g3 := g2.trans (b3.mono g2.size)
  have o3 := own_base ho3 g2.size
  clear o2 b3 g2 ho3
  go_wp2_with fail
  refine (toS aT nT cT ts _ (hT.below g3) (by omega)).mono ?_
  rintro e w4 ⟨ay, cy, rfl, ho4, hy4, b4⟩
  have d0y := apart_of o2' ho4 (Nat.le_refl _)
  have dxy := apart_of o3 ho4 (Nat.le_refl _)
  have o2'' := own_below o2' b4
  have o3' := own_below o3 b4
  have hx4 := hx3.below b4
  have g4 := g3.trans (b4.mono g3.size)
  have o4 := own_base ho4 g3.size
  clear o2' o3 b4 g3 ho4 hx3
  go_wp2_with fail
  refine (HI'.out ax nH cx ay nT cy _ hx4 hy4 (ht.below g4)).mono ?_
  rintro e w5 ⟨v5, rfl, ho5, b5⟩
  obtain ⟨ag, cg, rfl, _, _⟩ := Is.own ho5 HLB.out
  have S5 : S4 w w5 (.slice a0 m c0) (.slice ax nH cx) (.slice ay nT cy) (.slice ag m cg) m nH nT m LW hs ts LW :=
    ⟨g4.trans (b5.mono g4.size), own_below o2'' b5, own_below o3' b5, own_below o4 b5, own_base ho5 g4.size, dx, d0y, apart_of o2'' ho5 (Nat.le_refl _), dxy, apart_of o3' ho5 (Nat.le_refl _), apart_of o4 ho5 (Nat.le_refl _)⟩
  clear g4 b5 o2'' o3' o4 ho5 dx d0y dxy hx4 hy4
  go_wp2_with fail
  refine (eqI ag a0 m cg c0 LW _ (is_of_own S5.og HLB.out) (is_of_own S5.o0 HLB.out) (by omega)).mono ?_
  rintro e w6 ⟨q6, rfl, rfl⟩
  have S6 := S5.below (bel_drewN w5 q6)
  clear S5
  go_wp2_with fail
  refine (toSI aH nH cH hs _ (hH.below S6.fr) (by omega)).mono ?_
  rintro e w7 ⟨x7, k7, rfl, _, hx7, b7⟩
  have S7 := S6.below b7
  clear S6 b7
  go_wp2_with fail
  refine (eqI ax x7 nH cx k7 hs _ (is_of_own S7.ox HHB.out) hx7 (by omega)).mono ?_
  rintro e w8 ⟨q8, rfl, rfl⟩
  have S8 := S7.below (bel_drewN w7 q8)
  clear S7 hx7
  go_wp2_with fail
  refine (toS aT nT cT ts _ (hT.below S8.fr) (by omega)).mono ?_
  rintro e w9 ⟨x9, k9, rfl, _, hx9, b9⟩
  have S9 := S8.below b9
  clear S8 b9
  go_wp2_with fail
  refine (eqB ay x9 nT cy k9 ts _ (bs_of_own S9.oy HTB.out) hx9 (by omega)).mono ?_
  rintro e w10 ⟨q10, rfl, rfl⟩
  have S10 := S9.below (bel_drewN w9 q10)
  clear S9 hx9
  go_wp2_with fail
  refine (markI w.heap.size nH _ 1 hs _ S10.ox (by omega) (by omega) (by omega)).mono ?_
  rintro e w11 ⟨rfl, ho11, hg11⟩
  have S11 := S10.markx ho11 hg11
  clear S10 ho11 hg11
  go_wp2_with fail
  refine (markB w.heap.size nT _ (1 + (nH : Int)) ts _ S11.oy (by omega) (by omega) (by omega)).mono ?_
  rintro e w12 ⟨rfl, ho12, hg12⟩
  have S12 := S11.marky ho12 hg12
  clear S11 ho12 hg12
  have hk0 : ¬ ((1 : Int) + (nH : Int) + (nT : Int) < 0) := by omega
  go_wp2_with fail
  refine (eqI ag a0 m cg c0 LW _ (is_of_own S12.og HLB.out) (is_of_own S12.o0 HLB.out) (by omega)).mono ?_
  rintro e w13 ⟨q13, rfl, rfl⟩
  have S13 := S12.below (bel_drewN w12 q13)
  clear S12
  go_wp2_with fail
  refine (markI w.heap.size m _ 1 LW _ S13.og (by omega) (by omega) (by omega)).mono ?_
  rintro e w14 ⟨rfl, ho14, hg14⟩
  have S14 := S13.markg ho14 hg14
  clear S13 ho14 hg14
  have hm0 : ¬ ((1 : Int) + (m : Int) < 0) := by omega
  have hmm : ((1 : Int) + (m : Int) != 1 + (m : Int)) = false := by simp
  have HMI := marksI_int 1 m (by omega) (by omega) (by omega)
  have HM : Hid _ := HMI
  clear HMI
  go_wp2_with fail
  refine (heldI ag m cg 1 _ (is_of_own S14.og HM.out) (by omega) (by omega) (by omega)).mono ?_
  rintro e w15 ⟨rfl, rfl⟩
  go_wp2_with fail
  refine (toSI aH nH cH hs _ (hH.below S14.fr) (by omega)).mono ?_
  rintro e w16 ⟨x16, k16, rfl, _, hx16, b16⟩
  have S16 := S14.below b16
  clear S14 b16
  go_wp2_with fail
  refine (toS aT nT cT ts _ (hT.below S16.fr) (by omega)).mono ?_
  rintro e w17 ⟨x17, k17, rfl, _, hx17, b17⟩
  have S17 := S16.below b17
  have hx16' := hx16.below b17
  clear S16 b17 hx16
  go_wp2_with fail
  refine (HI'.out x16 nH k16 x17 nT k17 _ hx16' hx17 (ht.below S17.fr)).mono ?_
  rintro e w18 ⟨v18, rfl, ho18, b18⟩
  obtain ⟨ah, ch, rfl, _, hb18⟩ := Is.own ho18 HLB.out
  have S18 := S17.below b18
  clear S17 b18 ho18 hx16' hx17
  go_wp2_with fail
  refine (eqI ah a0 m ch c0 LW _ hb18 (is_of_own S18.o0 HLB.out) (by omega)).mono ?_
  rintro e w19 ⟨q19, rfl, rfl⟩
  have S19 := S18.below (bel_drewN w18 q19)
  clear S18 hb18
  go_wp2_with fail
  refine (heldI ag m cg 1 _ (is_of_own S19.og HM.out) (by omega) (by omega) (by omega)).mono ?_
  rintro e w20 ⟨rfl, rfl⟩
  have fr := S19.fr
  clear S19
  go_wp2
  go_ret
  exact ⟨rfl, fr⟩
end Go.Proofs.YtgapfkiceolceaaDoor
