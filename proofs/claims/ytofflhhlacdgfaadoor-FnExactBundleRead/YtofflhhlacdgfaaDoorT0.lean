/-
  What is proved here: what the specification's l8digits answers: a number's decimal digits.
-/
import Derived.Test.YtofflhhlacdgfaaDoorJM1
import Derived.Test.YtofflhhlacdgfaaDoorJM2
import Derived.Test.YtofflhhlacdgfaaDoorJM5
import Derived.Laws.OwnMore
import Derived.Lib.ItoaNum
namespace Go.Proofs.YtofflhhlacdgfaaDoor
open Go.RowKit
set_option maxRecDepth 100000
set_option maxHeartbeats 4000000

/-- A number's digits as bytes. -/
def dgs (n : Nat) : List Int := (Lib.decDigits n).map fun b => (b.toNat : Int)
theorem dgs_one {n : Nat} (h : n < 10) : dgs n = [48 + (n : Int)] := by
  unfold dgs
  rw [Lib.decDigits_one h]
  simp
  omega
theorem dgs_more {n : Nat} (h : ¬ n < 10) : dgs n = dgs (n / 10) ++ [48 + ((n % 10 : Nat) : Int)] := by
  unfold dgs
  rw [Lib.decDigits, dif_neg h, List.map_append]
  congr 1
  simp
  omega
theorem dgs_byte (n : Nat) : ∀ x ∈ dgs n, 0 ≤ x ∧ x < 256 := by
  intro x hx
  unfold dgs at hx
  rw [List.mem_map] at hx
  obtain ⟨b, _, rfl⟩ := hx
  have := b.toNat_lt
  omega
theorem dgs_len : ∀ (k n : Nat), n < 10 ^ (k + 1) → (dgs n).length ≤ k + 1
  | 0, n, h => by rw [dgs_one (by simpa using h)]; simp
  | k + 1, n, h => by
    by_cases h1 : n < 10
    · rw [dgs_one h1]; simp
    · rw [dgs_more h1, List.length_append]
      have := dgs_len k (n / 10) (by rw [Nat.pow_succ] at h; omega)
      simp
      omega
theorem dgs_le {n : Nat} (h : n ≤ 1000000) : (dgs n).length ≤ 7 := dgs_len 6 n (by omega)
theorem u8_small {x : Int} (h0 : 0 ≤ x) (h1 : x < 256) : IntKind.u8.wrap x = x := by simp [IntKind.wrap, IntKind.signed, IntKind.bits]; omega
theorem own_one (w : World) (base : Nat) (x : Int) (hb : base ≤ w.heap.size) : (w.alloc (.cells #[.int .u8 x] 5)).ownsRow base 5 1 (.slice (some ⟨w.heap.size, 0, none⟩) 1 1) 1 (U8 [x]) := World.ownsRow_lit w #[.int .u8 x] 1 hb (by unfold maxLen; omega) rfl
end Go.Proofs.YtofflhhlacdgfaaDoor
