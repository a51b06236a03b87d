/-
  What is proved here: contracts of the laws' helpers on a multiplier: hold two against each other, mark, held.
-/
import Derived.Test.YtlafcjoccbinaaaDoorZA
import Derived.Test.YtlafcjoccbinaaaDoorZC
namespace Go.Proofs.YtlafcjoccbinaaaDoor
open Go.RowKit

set_option maxHeartbeats 1000000 in
theorem eqScC (a a' : Option Addr) (n c c' : Nat) (xs : List Int) (w : World) (h : Is w a n c xs) (h' : Is w a' n c' xs) (hn : n ≤ 2097152) :
    Calls Tryd.prog 25 #[.agg #[.slice a n c], .agg #[.slice a' n c']] w fun e w' => e = .returned (.bool true) ∧ Below w.heap.size w w' := by
  have HB : Hid (Below w.heap.size w ((w.alloc (.cells #[.slice a n c] 25)).alloc (.cells #[.slice a' n c'] 25))) := ((Below.refl _ _).alloc (Nat.le_refl _) _).alloc (by simp) _
  go_enter Tryd.func25, Tryd.ntmps25
  go_wp2_with fail
  refine (eqI a a' n c c' xs _ (h.below HB.out) (h'.below HB.out) hn).mono ?_
  rintro e w1 ⟨q, rfl, rfl⟩
  go_wp2
  go_ret
  exact ⟨rfl, bel_dN HB.out q⟩

set_option maxHeartbeats 1000000 in
theorem markScC {ty : Nat} (B n : Nat) (v : Value) (k0 : Int) (xs : List Int) (w : World) (ho : w.ownsRow B ty 1 v n (I64 xs)) (hn : n ≤ 2097152) (h0 : 0 ≤ k0) (h1 : k0 ≤ 10000000) :
    Calls Tryd.prog 30 #[.agg #[v], .int .i64 k0] w fun e w' => e = .returned (.int .i64 (k0 + n)) ∧ w'.ownsRow B ty 1 v n (I64 (marksI k0 n)) ∧ w.grownBy w' v.ownBlock := by
  go_enter Tryd.func30, Tryd.ntmps30
  go_wp2_with fail
  refine (markI B n v k0 xs _ (ho.alloc _) hn h0 h1).mono ?_
  rintro e w1 ⟨rfl, o1, g1⟩
  have GG : Hid (w.grownBy w1 v.ownBlock) := by
    unfold Hid
    exact ⟨g1.os, g1.tape, g1.output, Nat.le_trans (by simp) g1.size, fun i hi n1 => by
      have hi1 : i < (w.alloc (.cells #[v] 25)).heap.size := by simp; omega
      rw [g1.block i hi1 n1, heap_alloc_old _ _ hi]⟩
  have HO : Hid _ := o1
  clear g1 o1
  go_wp2
  go_ret
  exact ⟨rfl, HO.out, GG.out⟩

set_option maxHeartbeats 1000000 in
theorem heldScC (a : Option Addr) (n c : Nat) (k0 : Int) (w : World) (h : Is w a n c (marksI k0 n)) (hn : n ≤ 2097152) (h0 : 0 ≤ k0) (h1 : k0 ≤ 10000000) :
    Calls Tryd.prog 31 #[.agg #[.slice a n c], .int .i64 k0] w fun e w' => e = .returned (.int .i64 (k0 + n)) ∧ Below w.heap.size w w' := by
  have HB : Hid (Below w.heap.size w (w.alloc (.cells #[.slice a n c] 25))) := (Below.refl _ _).alloc (Nat.le_refl _) _
  have l1 : ¬ (k0 + (n : Int) < 0) := by omega
  go_enter Tryd.func31, Tryd.ntmps31
  go_wp2_with fail
  refine (heldI a n c k0 _ (h.below HB.out) hn h0 h1).mono ?_
  rintro e w1 ⟨rfl, rfl⟩
  go_wp2
  go_ret
  exact ⟨rfl, HB.out⟩

end Go.Proofs.YtlafcjoccbinaaaDoor
