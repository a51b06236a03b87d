/-
  What is proved here: the contract of the program's ShaEnd, for every value. Where the program's two tables hold what its text lays into them.
-/
import Derived.Test.YtlglkbimnnmhdaaDoorEp
namespace Go.Proofs.YtlglkbimnnmhdaaDoor
open Go.RowKit

/-- What ShaEnd answers. -/
def endOf (hs : List Int) (N : Int) (ts : List Int) : List Int := if shaOk hs N ts = true then sumB (allB hs (ts ++ padB N)) else []
theorem endOf_byte (hs : List Int) (N : Int) (ts : List Int) : ∀ y ∈ endOf hs N ts, 0 ≤ y ∧ y < 256 := by
  unfold endOf
  split
  · exact sumB_byte _
  · simp
theorem shaOk_parts {hs : List Int} {N : Int} {ts : List Int} (h : shaOk hs N ts = true) : hs.length = 8 ∧ (∀ x ∈ hs, 0 ≤ x ∧ x < 4294967296) ∧ 0 ≤ N ∧ N ≤ 20000 ∧ (ts.length : Int) = N % 64 := by
  unfold shaOk at h
  simp only [Bool.and_eq_true, decide_eq_true_eq] at h
  obtain ⟨h8, hwd⟩ := (isW_iff hs).1 h.1
  exact ⟨h8, hwd, h.2.1, h.2.2.1, h.2.2.2⟩
theorem endOf_len (hs : List Int) (N : Int) (ts : List Int) : (endOf hs N ts).length ≤ 32 := by
  unfold endOf
  split
  · rename_i h
    rw [sumB_len, show (allB hs (ts ++ padB N)).length = 8 from fld_len (shaOk_parts h).1 _ _]
    exact Nat.le_refl _
  · simp

set_option maxHeartbeats 1000000 in
theorem implShaEnd (aH : Option Addr) (nH cH : Nat) (N : Int) (aT : Option Addr) (nT cT : Nat) (hs ts : List Int) (w : World) (hH : Is w aH nH cH hs) (hT : Bs w aT nT cT ts) (ht : Tabs w) :
    Calls Tryd.prog 14 #[shaV aH nH cH N aT nT cT] w fun e w' => ∃ v, e = .returned (.tuple #[v, .bool (shaOk hs N ts)]) ∧ w'.ownsRow w.heap.size 5 1 v (endOf hs N ts).length (U8 (endOf hs N ts)) ∧ Below w.heap.size w w' := by
  have htl := hT.2.1
  have h2s := ht.size
  obtain ⟨W, hW⟩ : ∃ W, W = w.alloc (.cells #[.slice aH nH cH, .int .i64 N, .slice aT nT cT] 27) := ⟨_, rfl⟩
  have B0 : Below w.heap.size w W := by rw [hW]; exact (Below.refl _ _).alloc (Nat.le_refl _) _
  have A2 : Arr W w.heap.size 27 [.slice aH nH cH, .int .i64 N, .slice aT nT cT] := by rw [hW]; exact Arr.new _ _ _
  go_enter Tryd.func14, Tryd.ntmps14
  go_wp2_with fail
  rw [show w.alloc (.cells #[.slice aH nH cH, .int .i64 N, .slice aT nT cT] 27) = W from hW.symm]
  refine (shaOpen aH nH cH N aT nT cT hs ts _ (hH.below B0) (hT.below B0)).mono ?_
  rintro e w1 ⟨l, rfl, hl8, hleq, hb1⟩
  have B1 := B0.trans (hb1.mono B0.size)
  have C2 := A2.kept hb1
  clear A2 B0 hW hb1
  obtain ⟨q, hq⟩ : ∃ q, q = shaOk hs N ts := ⟨_, rfl⟩
  have HE : Hid (endOf hs N ts = if q = true then sumB (allB hs (ts ++ padB N)) else []) := by unfold Hid endOf; rw [hq]
  have HP : Hid (q = true → hs.length = 8 ∧ (∀ x ∈ hs, 0 ≤ x ∧ x < 4294967296) ∧ 0 ≤ N ∧ N ≤ 20000 ∧ (ts.length : Int) = N % 64) := fun h => shaOk_parts (hq ▸ h)
  rw [← hq]
  rw [← hq] at hleq
  have hq' : q = false ∨ q = true := by cases q <;> simp
  have HQ : Hid _ := hq
  clear hq
  obtain ⟨l0, l1, l2, l3, l4, l5, l6, l7, hle⟩ := list8 hl8
  rw [hle]
  have HLE : Hid _ := hle
  have hsz1 := B1.size
  have hl2 := C2.lt
  have B2 : Below w.heap.size w (w1.alloc (.cells #[.int .u32 l0, .int .u32 l1, .int .u32 l2, .int .u32 l3, .int .u32 l4, .int .u32 l5, .int .u32 l6, .int .u32 l7] 58)) := B1.alloc hsz1 _
  have D2 := C2.alloc (.cells #[.int .u32 l0, .int .u32 l1, .int .u32 l2, .int .u32 l3, .int .u32 l4, .int .u32 l5, .int .u32 l6, .int .u32 l7] 58)
  have DG : Arr (w1.alloc (.cells #[.int .u32 l0, .int .u32 l1, .int .u32 l2, .int .u32 l3, .int .u32 l4, .int .u32 l5, .int .u32 l6, .int .u32 l7] 58)) w1.heap.size 58 (U32 [l0, l1, l2, l3, l4, l5, l6, l7]) := Arr.new _ _ _
  clear hle
  rcases hq' with rfl | rfl
  · clear C2 D2 DG B1
    have HB2 : Hid _ := B2
    clear B2
    go_wp2
    go_ret2
    refine ⟨_, by rw [← HQ.out]; rfl, ?_, HB2.out⟩
    rw [show endOf hs N ts = [] from HE.out]
    exact World.ownsRow_nil _ _ _ _
  obtain ⟨h8, hwd, hN1, hN2, hN3⟩ := HP.out rfl
  have hE : endOf hs N ts = sumB (allB hs (ts ++ padB N)) := HE.out
  have HE' : Hid _ := hE
  have hlh : [l0, l1, l2, l3, l4, l5, l6, l7] = hs := by rw [← HLE.out]; exact hleq rfl
  rw [hlh] at DG
  have HWD : Hid _ := hwd
  clear hleq HLE hwd hlh HE HP hE
  obtain ⟨W2, hW2⟩ : ∃ W2, W2 = w1.alloc (.cells #[.int .u32 l0, .int .u32 l1, .int .u32 l2, .int .u32 l3, .int .u32 l4, .int .u32 l5, .int .u32 l6, .int .u32 l7] 58) := ⟨_, rfl⟩
  rw [← hW2] at B2 D2 DG
  have c2 := (⟨C2.cell 0, C2.cell 1, C2.cell 2⟩ : w1.cell? ⟨w.heap.size, 0, none⟩ = some (.slice aH nH cH) ∧ w1.cell? ⟨w.heap.size, 1, none⟩ = some (.int .i64 N) ∧ w1.cell? ⟨w.heap.size, 2, none⟩ = some (.slice aT nT cT))
  go_wp2_with fail
  rw [← hW2]
  refine (implPadded aT nT cT ts N _ (hT.below B2) hN1 hN2 (by rw [← htl]; exact hN3)).mono ?_
  rintro e w3 ⟨v3, rfl, ho3, hb3⟩
  have hby3 : ∀ x ∈ ts ++ padB N, 0 ≤ x ∧ x < 256 := fun x hx => by
    rcases List.mem_append.1 hx with h | h
    · exact hT.2.2.2.1 x h
    · exact padB_byte N x h
  obtain ⟨a3, c3, rfl, _, hx3⟩ := Bs.own ho3 hby3
  have B3 := B2.trans (hb3.mono B2.size)
  have EG := DG.kept hb3
  have hoff : Off a3 w1.heap.size := by
    intro b o s he hbe
    subst he
    have hsh := (own_shape ho3).2
    rcases hsh with ⟨h, _⟩ | ⟨g', cap', h, hg', _⟩
    · cases h
    · cases h
      have := DG.lt
      omega
  clear ho3 hb3 DG D2 B2 C2 hW2 c2
  go_wp2_with fail
  refine (takeBlocksC w1.heap.size hs a3 (nT + (zn N + 9)) c3 (ts ++ padB N) _ (ht.below B3) (by omega) EG h8 hx3 hoff).mono ?_
  rintro e w4 ⟨a4, c4, rfl, _, _, GA, hg4⟩
  have B4 : Below w.heap.size w w4 := B3.grown hg4 B3.size (fun j hj => by cases hj; omega)
  have hs4 := B4.size
  clear B3 EG hx3 hoff hg4
  go_wp2_with fail
  refine (implSum w1.heap.size (allB hs (ts ++ padB N)) _ GA (fld_len h8 _ _) (fld_word HWD.out _ _)).mono ?_
  rintro e w5 ⟨v5, rfl, ho5, hb5⟩
  have B5 := B4.trans (hb5.mono B4.size)
  have o5 : w5.ownsRow w.heap.size 5 1 v5 (endOf hs N ts).length (U8 (endOf hs N ts)) := by
    rw [HE'.out, sumB_len, show (allB hs (ts ++ padB N)).length = 8 from fld_len h8 _ _]
    exact own_base ho5 hs4
  have O5 : Hid _ := o5
  clear B4 GA ho5 hb5 o5
  go_wp2
  go_ret2
  exact ⟨_, by rw [← HQ.out]; rfl, O5.out, B5⟩
end Go.Proofs.YtlglkbimnnmhdaaDoor
