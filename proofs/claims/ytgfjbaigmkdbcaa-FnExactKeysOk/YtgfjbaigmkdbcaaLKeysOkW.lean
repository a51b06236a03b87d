/-
  What is proved here: the exact law of KeysOk returns true at every argument, and writes into nothing that was there.
-/
import Derived.Test.YtgfjbaigmkdbcaaK1
namespace Go.Proofs.Ytgfjbaigmkdbcaa
set_option maxRecDepth 100000
open Go.RowKit
set_option linter.unusedVariables false

set_option maxHeartbeats 4000000 in
theorem walk_fnExactKeysOk (w : World) (a : Option Addr) (n c : Nat) (ks : List KeyM) (h : Ks w a n c ks) (hn : n ≤ 9223372036854775807) (hq : ∀ q, q < n → (ks.getD q kz).p.length ≤ 9223372036854775807) :
    Calls Try.prog 6 #[.slice a n c] w fun e w' => e = .returned (.bool true) ∧ Below w.heap.size w w' := by
  obtain ⟨R, hR⟩ : ∃ R, kOk ks = R := ⟨_, rfl⟩
  have hRR : (R != R) = false := by simp
  have HR : Hid _ := hR
  have HH : Hid (Ks w a n c ks) := h
  have hy := h.by_
  have HQ : Hid _ := hq
  clear hR hq h
  go_enter Try.func6, Try.ntmps6
  go_wp2_with fail
  refine (szKeySC a n c ks 1048576 _ HH.out (by omega) (by omega) hn HQ.out).mono ?_
  rintro e w1 ⟨x, rfl, hx, B⟩
  rcases hx with rfl | ⟨x0, x1, hs⟩
  · go_wp2
    go_ret
    exact ⟨rfl, B⟩
  have hx' : ¬ x < 0 := by omega
  have HS : Hid (KqSm n ks) := hs
  clear hs HQ
  go_wp2_with fail
  refine (toKeySC a n c ks _ (HH.out.below B) HS.out).mono ?_
  rintro e w2 ⟨a2, c2, rfl, o2, hb⟩
  replace B := B.trans (hb.mono B.size)
  clear hb
  go_wp2_with fail
  refine (spec8KeysOk a2 n c2 ks _ (o2.rd hy)).mono ?_
  rintro e w3 ⟨rfl, hb⟩
  rw [HR.out]
  replace B := B.trans (hb.mono B.size)
  clear hb o2
  go_wp2_with fail
  refine (toKeySC a n c ks _ (HH.out.below B) HS.out).mono ?_
  rintro e w4 ⟨a4, c4, rfl, o4, hb⟩
  replace B := B.trans (hb.mono B.size)
  clear hb
  go_wp2_with fail
  refine (implKeysOk a4 n c4 ks _ (o4.rd hy)).mono ?_
  rintro e w5 ⟨rfl, hb⟩
  rw [HR.out]
  replace B := B.trans (hb.mono B.size)
  replace o4 := o4.below hb
  clear hb
  go_wp2_with fail
  refine (toKeySC a n c ks _ (HH.out.below B) HS.out).mono ?_
  rintro e w6 ⟨a6, c6, rfl, o6, hb⟩
  replace B := B.trans (hb.mono B.size)
  replace o4 := o4.below hb
  clear hb
  go_wp2_with fail
  refine (eqKeySC a4 a6 n c4 c6 ks _ (o4.rd hy) (o6.rd hy) HS.out).mono ?_
  rintro e w7 ⟨rfl, hb⟩
  replace B := B.trans (hb.mono B.size)
  clear hb o4 o6
  go_wp2
  go_ret
  exact ⟨rfl, B⟩
end Go.Proofs.Ytgfjbaigmkdbcaa
