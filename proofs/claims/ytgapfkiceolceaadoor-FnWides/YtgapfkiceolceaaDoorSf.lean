/-
  What is proved here: the contract of the specification's ShaEnd, for every value of at most 2^20 elements a slice.
-/
import Derived.Test.YtgapfkiceolceaaDoorSe
namespace Go.Proofs.YtgapfkiceolceaaDoor
set_option maxRecDepth 100000
open Go.RowKit

set_option maxHeartbeats 1000000 in
theorem specShaEnd (aH : Option Addr) (nH cH : Nat) (N : Int) (aT : Option Addr) (nT cT : Nat) (hs ts : List Int) (w : World) (hH : Is w aH nH cH hs) (hT : Bs w aT nT cT ts) (hn : nH ≤ 2097152) (hm : nT ≤ 1048576) :
    Calls Tryd.prog 47 #[shaV aH nH cH N aT nT cT] w fun e w' => ∃ v, e = .returned (.tuple #[v, .bool (shaOk hs N ts)]) ∧ w'.ownsRow w.heap.size 5 1 v (endOf hs N ts).length (U8 (endOf hs N ts)) ∧ Below w.heap.size w w' := by
  have hhl := hH.2.1
  obtain ⟨W, hW⟩ : ∃ W, W = w.alloc (.cells #[.slice aH nH cH, .int .i64 N, .slice aT nT cT] 27) := ⟨_, rfl⟩
  have B0 : Below w.heap.size w W := by rw [hW]; exact (Below.refl _ _).alloc (Nat.le_refl _) _
  have A2 : Arr W w.heap.size 27 [.slice aH nH cH, .int .i64 N, .slice aT nT cT] := by rw [hW]; exact Arr.new _ _ _
  go_enter Tryd.func47, Tryd.ntmps47
  go_wp2_with fail
  rw [show w.alloc (.cells #[.slice aH nH cH, .int .i64 N, .slice aT nT cT] 27) = W from hW.symm]
  refine (specShaOk aH nH cH N aT nT cT hs ts _ (hH.below B0) (hT.below B0) hn).mono ?_
  rintro e w1 ⟨rfl, hb1⟩
  have B1 := B0.trans (hb1.mono B0.size)
  have C2 := A2.kept hb1
  clear A2 B0 hW hb1
  obtain ⟨q, hq⟩ : ∃ q, q = shaOk hs N ts := ⟨_, rfl⟩
  have HE : Hid (endOf hs N ts = if q = true then sumB (allB hs (ts ++ padB N)) else []) := by unfold Hid endOf; rw [hq]
  have HP : Hid (q = true → hs.length = 8 ∧ (∀ x ∈ hs, 0 ≤ x ∧ x < 4294967296) ∧ 0 ≤ N ∧ N ≤ 20000 ∧ (ts.length : Int) = N % 64) := fun h => shaOk_parts (hq ▸ h)
  rw [← hq]
  have hq' : q = false ∨ q = true := by cases q <;> simp
  have HQ : Hid _ := hq
  clear hq
  have c2 : w1.cell? ⟨w.heap.size, 0, none⟩ = some (.slice aH nH cH) ∧ w1.cell? ⟨w.heap.size, 1, none⟩ = some (.int .i64 N) ∧ w1.cell? ⟨w.heap.size, 2, none⟩ = some (.slice aT nT cT) := ⟨C2.cell 0, C2.cell 1, C2.cell 2⟩
  rcases hq' with rfl | rfl
  · go_wp2
    go_ret2
    refine ⟨_, by rw [← HQ.out]; rfl, ?_, B1⟩
    rw [show endOf hs N ts = [] from HE.out]
    exact World.ownsRow_nil _ _ _ _
  obtain ⟨h8, hwd, hN1, hN2, _⟩ := HP.out rfl
  have hE : endOf hs N ts = sumB (allB hs (ts ++ padB N)) := HE.out
  have HE' : Hid _ := hE
  have HWD : Hid _ := hwd
  have hn8 : nH = 8 := by omega
  subst hn8
  clear hwd HE HP hE
  go_wp2_with fail
  refine (specEnd aH cH N aT nT cT hs ts _ (hH.below B1) HWD.out (hT.below B1) hN1 hN2 hm).mono ?_
  rintro e w2 ⟨v2, rfl, o2, b2⟩
  have B2 := B1.trans (b2.mono B1.size)
  have O2 : Hid (w2.ownsRow w.heap.size 5 1 v2 (endOf hs N ts).length (U8 (endOf hs N ts))) := by
    unfold Hid
    rw [HE'.out, sumB_len, show (allB hs (ts ++ padB N)).length = 8 from fld_len h8 _ _]
    exact own_base o2 B1.size
  clear o2 b2 c2 C2
  go_wp2
  go_ret2
  exact ⟨_, by rw [← HQ.out]; rfl, O2.out, B2⟩
end Go.Proofs.YtgapfkiceolceaaDoor
