/-
  What is proved here: the exact law of FeOf returns true at every argument, and writes into nothing that was there.
-/
import Derived.Test.YtpchdfdeomhakaaXa
import Derived.Test.YtpchdfdeomhakaaXc
import Derived.Test.YtpchdfdeomhakaaFvo
import Derived.Test.YtpchdfdeomhakaaJm
namespace Go.Proofs.Ytpchdfdeomhakaa
open Go.RowKit
set_option maxRecDepth 100000

set_option maxHeartbeats 8000000 in
theorem walk_fnExactFeOf (w : World) (xA : Int) (hA : xA < 9223372036854775808)  :
    Calls Try.prog 3 #[.int .i64 xA] w fun e w' => e = .returned (.bool true) ∧ Below w.heap.size w w' := by
  obtain ⟨R, hR⟩ : ∃ R, R = decide (0 ≤ xA) := ⟨_, rfl⟩
  obtain ⟨L, hL⟩ : ∃ L, L = ofN xA := ⟨_, rfl⟩
  have HS : Hid (∀  (Z : World), Calls Try.prog 4 #[.int .i64 xA] Z fun e w' => ∃ v, e = .returned (.tuple #[v, .bool R]) ∧ FeIs Z w' v L ∧ Below Z.heap.size Z w') := by
    unfold Hid; intro  Z ; rw [hR, hL]; exact specFeOf xA Z  hA
  have HI : Hid (∀  (Z : World), Calls Try.prog 5 #[.int .i64 xA] Z fun e w' => ∃ v, e = .returned (.tuple #[v, .bool R]) ∧ FeT 34 Z w' v L ∧ Below Z.heap.size Z w') := by
    unfold Hid; intro  Z  ; rw [hR, hL]; exact implFeOf xA Z  hA 
  have HLb : Hid (∀ x ∈ L, -9223372036854775808 ≤ x ∧ x ≤ 9223372036854775807) := by unfold Hid; rw [hL]; exact ofN_int xA
  have hml : L.length ≤ 32 := by rw [hL]; exact ofN_le xA
  obtain ⟨m, hm⟩ : ∃ m, m = L.length := ⟨_, rfl⟩
  rw [← hm] at hml
  have HM : Hid (L.length = m) := hm.symm
  have hRR : (R != R) = false := by simp
  clear hR hL hm
  have B : Below w.heap.size w w := Below.refl _ _
  go_enter Try.func3, Try.ntmps3
  go_wp2_with fail
  refine (HS.out _).mono ?_
  rintro e w1 ⟨v6, rfl, ⟨a6, c6, rfl, o6⟩, hb1⟩
  have z1 := hb1.size
  replace B := B.trans (hb1.mono B.size)
  clear hb1
  rw [HM.out] at o6 ⊢
  have io6 := In.of o6
  obtain ⟨V2, hV2⟩ : ∃ V, V = w1.alloc (.cells #[.slice a6 m c6] 24) := ⟨_, rfl⟩
  have bV : Below w1.heap.size w1 V2 := by rw [hV2]; exact (Below.refl _ _).alloc (Nat.le_refl _) _
  have z2 : V2.heap.size = w1.heap.size + 1 := by rw [hV2]; simp
  have E6 : Arr V2 w1.heap.size 24 [.slice a6 m c6] := by rw [hV2]; exact Arr.new w1 [.slice a6 m c6] _
  replace B := B.trans (bV.mono B.size)
  replace o6 := own_below o6 bV
  clear bV
  clear HS
  go_wp2_with fail
  rw [← hV2]
  clear hV2
  refine (HI.out  _  ).mono ?_
  rintro e w3 ⟨v10, rfl, ⟨a10, c10, rfl, o10⟩, hb3⟩
  have z3 := hb3.size
  replace B := B.trans (hb3.mono B.size)
  replace o6 := own_below o6 hb3
  replace E6 := E6.kept hb3
  clear hb3
  rw [HM.out] at o10 ⊢
  have io10 := In.of o10
  obtain ⟨V4, hV4⟩ : ∃ V, V = w3.alloc (.cells #[.slice a10 m c10] 24) := ⟨_, rfl⟩
  have bV : Below w3.heap.size w3 V4 := by rw [hV4]; exact (Below.refl _ _).alloc (Nat.le_refl _) _
  have z4 : V4.heap.size = w3.heap.size + 1 := by rw [hV4]; simp
  have E10 : Arr V4 w3.heap.size 24 [.slice a10 m c10] := by rw [hV4]; exact Arr.new w3 [.slice a10 m c10] _
  replace B := B.trans (bV.mono B.size)
  replace o6 := own_below o6 bV
  replace E6 := E6.kept bV
  replace o10 := own_below o10 bV
  clear bV
  have cE10 := cell1 E10
  rw [hV4] at cE10
  have cE6 := cell1 E6
  rw [hV4] at cE6
  go_wp2_with fail
  rw [← hV4]
  clear cE10 cE6 hV4
  refine (eqFeC a10 a6 m c10 c6 L _ (is_of_own o10 HLb.out) (is_of_own o6 HLb.out) (by omega)).mono ?_
  rintro e w5 ⟨rfl, hb5⟩
  have z5 := hb5.size
  replace B := B.trans (hb5.mono B.size)
  replace o6 := own_below o6 hb5
  replace E6 := E6.kept hb5
  replace o10 := own_below o10 hb5
  replace E10 := E10.kept hb5
  clear hb5
  have cE10 := cell1 E10
  go_wp2_with fail
  clear cE10
  refine (markFeC _ m _ 1 L _ o10 (by omega) (by omega) (by omega)).mono ?_
  rintro e w6 ⟨rfl, mo10, g6⟩
  have z6 := g6.size
  replace B := B.grown g6 B.size (fun k hk => by have := (io10 k hk).1; omega)
  replace o6 := own_kept o6 g6 (io10.apart io6 (by omega))
  replace E6 := arr_mark E6 g6 io10 (by omega)
  replace E10 := arr_mark E10 g6 io10 (by omega)
  clear g6
  replace o10 := mo10
  clear mo10
  have hm0 : ¬ ((1 : Int) + (m : Int) < 0) := by omega
  have hmm : ((1 : Int) + (m : Int) != 1 + (m : Int)) = false := by simp
  have HMB : Hid _ := marksI_int 1 m (by omega) (by omega) (by omega)
  have cE10 := cell1 E10
  go_wp2_with fail
  clear cE10
  refine (heldFeC a10 m c10 1 _ (is_of_own o10 HMB.out) (by omega) (by omega) (by omega)).mono ?_
  rintro e w7 ⟨rfl, hb7⟩
  have z7 := hb7.size
  replace B := B.trans (hb7.mono B.size)
  replace o6 := own_below o6 hb7
  replace E6 := E6.kept hb7
  replace o10 := own_below o10 hb7
  replace E10 := E10.kept hb7
  clear hb7
  go_wp2_with fail
  refine (HI.out _).mono ?_
  rintro e w8 ⟨v15, rfl, ⟨a15, c15, rfl, o15⟩, hb8⟩
  have z8 := hb8.size
  replace B := B.trans (hb8.mono B.size)
  replace o6 := own_below o6 hb8
  replace E6 := E6.kept hb8
  replace o10 := own_below o10 hb8
  replace E10 := E10.kept hb8
  clear hb8
  rw [HM.out] at o15 ⊢
  have io15 := In.of o15
  obtain ⟨V9, hV9⟩ : ∃ V, V = w8.alloc (.cells #[.slice a15 m c15] 24) := ⟨_, rfl⟩
  have bV : Below w8.heap.size w8 V9 := by rw [hV9]; exact (Below.refl _ _).alloc (Nat.le_refl _) _
  have z9 : V9.heap.size = w8.heap.size + 1 := by rw [hV9]; simp
  have E15 : Arr V9 w8.heap.size 24 [.slice a15 m c15] := by rw [hV9]; exact Arr.new w8 [.slice a15 m c15] _
  replace B := B.trans (bV.mono B.size)
  replace o6 := own_below o6 bV
  replace E6 := E6.kept bV
  replace o10 := own_below o10 bV
  replace E10 := E10.kept bV
  replace o15 := own_below o15 bV
  clear bV
  have cE15 := cell1 E15
  rw [hV9] at cE15
  have cE6 := cell1 E6
  rw [hV9] at cE6
  go_wp2_with fail
  rw [← hV9]
  clear cE15 cE6 hV9
  refine (eqFeC a15 a6 m c15 c6 L _ (is_of_own o15 HLb.out) (is_of_own o6 HLb.out) (by omega)).mono ?_
  rintro e w10 ⟨rfl, hb10⟩
  have z10 := hb10.size
  replace B := B.trans (hb10.mono B.size)
  replace o6 := own_below o6 hb10
  replace E6 := E6.kept hb10
  replace o10 := own_below o10 hb10
  replace E10 := E10.kept hb10
  replace o15 := own_below o15 hb10
  replace E15 := E15.kept hb10
  clear hb10
  have cE10 := cell1 E10
  go_wp2_with fail
  clear cE10
  refine (heldFeC a10 m c10 1 _ (is_of_own o10 HMB.out) (by omega) (by omega) (by omega)).mono ?_
  rintro e w11 ⟨rfl, hb11⟩
  have z11 := hb11.size
  replace B := B.trans (hb11.mono B.size)
  replace o6 := own_below o6 hb11
  replace E6 := E6.kept hb11
  replace o10 := own_below o10 hb11
  replace E10 := E10.kept hb11
  replace o15 := own_below o15 hb11
  replace E15 := E15.kept hb11
  clear hb11
  go_wp2
  go_ret
  exact ⟨rfl, B⟩
end Go.Proofs.Ytpchdfdeomhakaa
