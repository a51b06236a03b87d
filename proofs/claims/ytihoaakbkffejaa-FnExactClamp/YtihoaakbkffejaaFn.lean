/-
  What is proved here: what the program's table says of the specification's arrays of sixteen, and the prime's parts; no condition.
-/
import Derived.Test.YtihoaakbkffejaaFo
import Derived.Test.YtihoaakbkffejaaArr
import Derived.Test.YtihoaakbkffejaaProg
import Derived.BigRegion
namespace Go.Proofs.Ytihoaakbkffejaa
open Go.RowKit
set_option maxRecDepth 100000

theorem infoE : (Try.prog.info? 31).map (·.size) = some 16 := by kernel_rfl
theorem infoI : (Try.prog.info? 3).map (·.size) = some 1 := by kernel_rfl
/-- The prime's parts. -/
def PL : List Int := [65517, 65535, 65535, 65535, 65535, 65535, 65535, 65535, 65535, 65535, 65535, 65535, 65535, 65535, 65535, 32767]
theorem PL_len : PL.length = 16 := rfl
theorem PL_val : val PL = P25519 := by decide
theorem PL_lm : Lm PL := by unfold Lm PL; decide

abbrev Z16 : List Int := [0, 0, 0, 0, 0, 0, 0, 0, 0, 0, 0, 0, 0, 0, 0, 0]

end Go.Proofs.Ytihoaakbkffejaa
