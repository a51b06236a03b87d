/-
  What is proved here: the contract of the specification's l2turn; and a name for what the program's tables hold; plain facts on eight words that are added up, and on an array of 64 words; no condition; the contract of the specification's l2round: it tells the constant of a round.
-/
import Derived.Test.YtgapfkiceolceaaDoorQ6
import Derived.Test.YtgapfkiceolceaaDoorQ7
import Derived.Deep.QuietTactic
import Derived.BigQuiet
import Derived.Deep.Light
import Derived.Deep.RegionWith
import Derived.Test.YtgapfkiceolceaaDoorQ2
import Derived.Deep.RegionHeld3
import Derived.BigRegion
namespace Go.Proofs.YtgapfkiceolceaaDoor
open Go.RowKit
set_option maxRecDepth 100000

/-- The program's two tables for words of 32 bits hold what its text lays into them. -/
abbrev Tabs (w : World) : Prop := Tabn w
theorem Tabs.below {w w' : World} (h : Tabs w) (hb : Below w.heap.size w w') : Tabs w' := Tabn.kept h hb
/-- The table of first words holds what the text lays into it. -/
abbrev TabF (w : World) : Prop := Vr w 0 (U32 H0)
theorem TabF.below {w w' : World} (h : TabF w) (hb : Below w.heap.size w w') : TabF w' := Vr.kept h hb

set_option maxHeartbeats 400000 in
theorem specTurn (x : Int) (n : Nat) (hn : 0 < n) (hn2 : n < 32) (m : Int) (hm : m = (n : Int)) (w : World) :
    Calls Tryd.prog 101 #[.int .u32 x, .int .i64 m] w fun e w' => e = .returned (.int .u32 (rot x n)) ∧ ∃ q, w' = w.drewN q := by
  subst hm
  go_enter Tryd.func101, Tryd.ntmps101
  go_wp2
  go_quiet (fail)
  go_wp2
  go_ret
  exact ⟨rfl, _, rfl⟩

end Go.Proofs.YtgapfkiceolceaaDoor
namespace Go.Proofs.YtgapfkiceolceaaDoor
open Go.RowKit
set_option linter.unusedSimpArgs false
set_option maxRecDepth 100000

abbrev Z64 : List Int := [0, 0, 0, 0, 0, 0, 0, 0, 0, 0, 0, 0, 0, 0, 0, 0, 0, 0, 0, 0, 0, 0, 0, 0, 0, 0, 0, 0, 0, 0, 0, 0, 0, 0, 0, 0, 0, 0, 0, 0, 0, 0, 0, 0, 0, 0, 0, 0, 0, 0, 0, 0, 0, 0, 0, 0, 0, 0, 0, 0, 0, 0, 0, 0]
theorem Z64_len : Z64.length = 64 := rfl
theorem Tryd.infoW64 : (Tryd.prog.info? 111).map (·.size) = some 64 := by kernel_rfl

theorem stp8_mod (a b c d e f g h kw : Int) : stp8 a b c d e f g h (kw % 4294967296) = stp8 a b c d e f g h kw := by
  unfold stp8
  rw [show (h + bS1 e + cho e f g + kw % 4294967296 + (bS0 a + maj a b c)) % 4294967296 = (h + bS1 e + cho e f g + kw + (bS0 a + maj a b c)) % 4294967296 by omega,
    show (d + (h + bS1 e + cho e f g + kw % 4294967296)) % 4294967296 = (d + (h + bS1 e + cho e f g + kw)) % 4294967296 by omega]

/-- The first k words added up. -/
def zl (hs st : List Int) (k : Nat) : List Int := (List.zipWith (fun x y => (x + y) % 4294967296) hs st).take k ++ hs.drop k
theorem zl_len (hs st : List Int) (h : hs.length = 8) (h2 : st.length = 8) (k : Nat) (hk : k ≤ 8) : (zl hs st k).length = 8 := by simp [zl, h, h2]; omega
theorem zl_get (hs st : List Int) (h : hs.length = 8) (h2 : st.length = 8) (k : Nat) (hk : k < 8) : (zl hs st k).getD k 0 = hs.getD k 0 := by
  simp [zl, List.getD, List.getElem?_append_right, h, h2, show min k 8 = k by omega]
theorem zl_set (hs st : List Int) (h : hs.length = 8) (h2 : st.length = 8) (k : Nat) (hk : k < 8) (v : Int) (hv : v = (hs.getD k 0 + st.getD k 0) % 4294967296) : (U32 (zl hs st k)).set k (.int .u32 v) = U32 (zl hs st (k + 1)) := by
  subst hv
  have e : hs.drop k = hs.getD k 0 :: hs.drop (k + 1) := by
    rw [List.drop_eq_getElem_cons (by omega)]; simp [show k < hs.length by omega]
  have hz : (List.zipWith (fun x y => (x + y) % 4294967296) hs st).length = 8 := by simp [h, h2]
  have e2 : (List.zipWith (fun x y => (x + y) % 4294967296) hs st).take (k + 1) = (List.zipWith (fun x y => (x + y) % 4294967296) hs st).take k ++ [(hs.getD k 0 + st.getD k 0) % 4294967296] := by
    rw [take_snoc _ _ (by omega)]
    simp [List.getD, List.getElem?_zipWith, show k < hs.length by omega, show k < st.length by omega]
  unfold zl
  rw [e, e2]
  simp only [U32, List.map_append, List.map_cons]
  rw [List.set_append_right _ _ (by simp [hz]; omega)]
  simp [h, h2, show min k 8 = k by omega]

theorem Tryd.infoU32 : (Tryd.prog.info? 63).map (·.size) = some 1 := by kernel_rfl

end Go.Proofs.YtgapfkiceolceaaDoor
namespace Go.Proofs.YtgapfkiceolceaaDoor
set_option maxRecDepth 100000
open Go.RowKit

set_option maxHeartbeats 1000000 in
theorem specRound (k : Nat) (hk : k < 64) (w : World) :
    Calls Tryd.prog 102 #[.int .i64 (k : Int)] w fun e w' => e = .returned (.int .u32 (KS.getD k 0)) ∧ Below w.heap.size w w' := by
  have hA := Arr.new w (U32 Z64) 111
  have hB : Below w.heap.size w (w.alloc (.cells (U32 Z64).toArray 111)) := (Below.refl _ _).alloc (Nat.le_refl _) _
  have hA2 := hA.row (U32 KS)
  have hB2 := setRow_below hB w.heap.size (U32 KS).toArray (Nat.le_refl _)
  have hck := hA2.u32 k (by rw [KS_len]; exact hk)
  obtain ⟨y, hy⟩ : ∃ y, y = KS.getD k 0 := ⟨_, rfl⟩
  rw [← hy] at hck
  have hck2 : ((w.alloc (.cells #[.int .u32 0, .int .u32 0, .int .u32 0, .int .u32 0, .int .u32 0, .int .u32 0, .int .u32 0, .int .u32 0, .int .u32 0, .int .u32 0, .int .u32 0, .int .u32 0, .int .u32 0, .int .u32 0, .int .u32 0, .int .u32 0, .int .u32 0, .int .u32 0, .int .u32 0, .int .u32 0, .int .u32 0, .int .u32 0, .int .u32 0, .int .u32 0, .int .u32 0, .int .u32 0, .int .u32 0, .int .u32 0, .int .u32 0, .int .u32 0, .int .u32 0, .int .u32 0, .int .u32 0, .int .u32 0, .int .u32 0, .int .u32 0, .int .u32 0, .int .u32 0, .int .u32 0, .int .u32 0, .int .u32 0, .int .u32 0, .int .u32 0, .int .u32 0, .int .u32 0, .int .u32 0, .int .u32 0, .int .u32 0, .int .u32 0, .int .u32 0, .int .u32 0, .int .u32 0, .int .u32 0, .int .u32 0, .int .u32 0, .int .u32 0, .int .u32 0, .int .u32 0, .int .u32 0, .int .u32 0, .int .u32 0, .int .u32 0, .int .u32 0, .int .u32 0] 111)).setRow w.heap.size (U32 KS).toArray).cell? ⟨w.heap.size, k, none⟩ = some (.int .u32 y) := hck
  have HY : Hid _ := hy
  have HB : Hid _ := hB2
  clear hy hA2 hB2 hB hck
  have hk64 : (k : Int) < 64 := by omega
  go_enter Tryd.func102, Tryd.ntmps102
  go_wp2_with (first
    | (refine wpList_buildTo rfl 111 _ rfl (U32 KS).toArray (by kernel_rfl) ?_)
    | (refine wpList_store_row rfl 111 _ _ rfl w.heap.size (U32 KS).toArray rfl rfl 111 (U32 Z64).toArray hA (by kernel_rfl) (by kernel_rfl) (by kernel_rfl) ?_))
  go_ret
  refine ⟨?_, HB.out⟩
  show Ending.returned (.int .u32 y) = _
  rw [HY.out]
  rfl
end Go.Proofs.YtgapfkiceolceaaDoor
