/-
  What is proved here: an int that fits is not wrapped; no program is spoken of.
-/
import Derived.Test.YtjceajgefpinpaaKitI
namespace Go.Proofs.Ytjceajgefpinpaa
open Go.RowKit

theorem wr64 {x : Int} (h : -9223372036854775808 ≤ x) (h1 : x ≤ 9223372036854775807) : IntKind.i64.wrap x = x := by simp [IntKind.wrap, IntKind.signed, IntKind.bits]; omega
end Go.Proofs.Ytjceajgefpinpaa
