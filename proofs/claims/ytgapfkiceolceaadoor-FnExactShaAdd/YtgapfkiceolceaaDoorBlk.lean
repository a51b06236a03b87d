/-
  What is proved here: plain facts on eight words that are added up, and on an array of 64 words; no condition.
-/
import Derived.Test.YtgapfkiceolceaaDoorSchM
import Derived.Test.YtgapfkiceolceaaDoorTn
import Derived.Test.YtgapfkiceolceaaDoorGq
import Derived.Deep.RegionHeld3
import Derived.BigRegion
namespace Go.Proofs.YtgapfkiceolceaaDoor
open Go.RowKit
set_option linter.unusedSimpArgs false
set_option maxRecDepth 100000

abbrev Z64 : List Int := [0, 0, 0, 0, 0, 0, 0, 0, 0, 0, 0, 0, 0, 0, 0, 0, 0, 0, 0, 0, 0, 0, 0, 0, 0, 0, 0, 0, 0, 0, 0, 0, 0, 0, 0, 0, 0, 0, 0, 0, 0, 0, 0, 0, 0, 0, 0, 0, 0, 0, 0, 0, 0, 0, 0, 0, 0, 0, 0, 0, 0, 0, 0, 0]
theorem Z64_len : Z64.length = 64 := rfl
theorem Tryd.infoW64 : (Tryd.prog.info? 111).map (·.size) = some 64 := by kernel_rfl

theorem stp8_mod (a b c d e f g h kw : Int) : stp8 a b c d e f g h (kw % 4294967296) = stp8 a b c d e f g h kw := by
  unfold stp8
  rw [show (h + bS1 e + cho e f g + kw % 4294967296 + (bS0 a + maj a b c)) % 4294967296 = (h + bS1 e + cho e f g + kw + (bS0 a + maj a b c)) % 4294967296 by omega,
    show (d + (h + bS1 e + cho e f g + kw % 4294967296)) % 4294967296 = (d + (h + bS1 e + cho e f g + kw)) % 4294967296 by omega]

/-- The first k words added up. -/
def zl (hs st : List Int) (k : Nat) : List Int := (List.zipWith (fun x y => (x + y) % 4294967296) hs st).take k ++ hs.drop k
theorem zl_len (hs st : List Int) (h : hs.length = 8) (h2 : st.length = 8) (k : Nat) (hk : k ≤ 8) : (zl hs st k).length = 8 := by simp [zl, h, h2]; omega
theorem zl_get (hs st : List Int) (h : hs.length = 8) (h2 : st.length = 8) (k : Nat) (hk : k < 8) : (zl hs st k).getD k 0 = hs.getD k 0 := by
  simp [zl, List.getD, List.getElem?_append_right, h, h2, show min k 8 = k by omega]
theorem zl_set (hs st : List Int) (h : hs.length = 8) (h2 : st.length = 8) (k : Nat) (hk : k < 8) (v : Int) (hv : v = (hs.getD k 0 + st.getD k 0) % 4294967296) : (U32 (zl hs st k)).set k (.int .u32 v) = U32 (zl hs st (k + 1)) := by
  subst hv
  have e : hs.drop k = hs.getD k 0 :: hs.drop (k + 1) := by
    rw [List.drop_eq_getElem_cons (by omega)]; simp [show k < hs.length by omega]
  have hz : (List.zipWith (fun x y => (x + y) % 4294967296) hs st).length = 8 := by simp [h, h2]
  have e2 : (List.zipWith (fun x y => (x + y) % 4294967296) hs st).take (k + 1) = (List.zipWith (fun x y => (x + y) % 4294967296) hs st).take k ++ [(hs.getD k 0 + st.getD k 0) % 4294967296] := by
    rw [take_snoc _ _ (by omega)]
    simp [List.getD, List.getElem?_zipWith, show k < hs.length by omega, show k < st.length by omega]
  unfold zl
  rw [e, e2]
  simp only [U32, List.map_append, List.map_cons]
  rw [List.set_append_right _ _ (by simp [hz]; omega)]
  simp [h, h2, show min k 8 = k by omega]

theorem Tryd.infoU32 : (Tryd.prog.info? 63).map (·.size) = some 1 := by kernel_rfl

end Go.Proofs.YtgapfkiceolceaaDoor
