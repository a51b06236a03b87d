/-
  What is proved here: the exact law of ShaOk returns true at every value, and writes into nothing that was there.
-/
import Derived.Test.YtgapfkiceolceaaW3
namespace Go.Proofs.Ytgapfkiceolceaa
open Go.RowKit

set_option maxHeartbeats 1000000 in
theorem walk_fnExactShaOk (w : World) (aH : Option Addr) (nH cH : Nat) (N : Int) (aT : Option Addr) (nT cT : Nat) (hs ts : List Int) (hH : Is w aH nH cH hs) (hT : Bs w aT nT cT ts) (hn : nH ≤ 9223372036854775807) (hm : nT ≤ 9223372036854775807) :
    Calls Try.prog 3 #[shaV aH nH cH N aT nT cT] w fun e w' => e = .returned (.bool true) ∧ Below w.heap.size w w' := by
  have hB : Below w.heap.size w (w.alloc (.cells #[.slice aH nH cH, .int .i64 N, .slice aT nT cT] 25)) := (Below.refl _ _).alloc (Nat.le_refl _) _
  have hA : Arr (w.alloc (.cells #[.slice aH nH cH, .int .i64 N, .slice aT nT cT] 25)) w.heap.size 25 [.slice aH nH cH, .int .i64 N, .slice aT nT cT] := Arr.new _ _ _
  have HB : Hid _ := hB
  have HA : Hid _ := hA
  have hhb := hH.2.2.2.1
  have htb := hT.2.2.2.1
  have HHB : Hid _ := hhb
  have HTB : Hid _ := htb
  clear hB hA hhb htb
  go_enter Try.func3, Try.ntmps3
  go_wp2_with fail
  refine (szShaC aH nH cH N aT nT cT 1048576 _ (by omega) (by omega) hn hm).mono ?_
  rintro e w1 ⟨r, rfl, hr, hb1⟩
  have B1 := HB.out.trans (hb1.mono HB.out.size)
  have A1 := Arr.kept HA.out hb1
  clear HB HA hb1
  rcases hr with rfl | ⟨hr, h1, h2⟩
  · go_wp2
    go_ret
    exact ⟨rfl, B1⟩
  have c0 := A1.cell 0
  have c1 := A1.cell 1
  have c2 := A1.cell 2
  simp at c0 c1 c2
  go_wp2_with fail
  refine (toShaC aH nH cH N aT nT cT hs ts _ (hH.below B1) (hT.below B1) (by omega) (by omega)).mono ?_
  rintro e w2 ⟨xH, kH, xT, kT, rfl, o2, hb2⟩
  go_wp2_with fail
  refine (specShaOk xH nH kH N xT nT kT hs ts _ (is_of_own o2.oh HHB.out) (bs_of_own o2.ot HTB.out) (by omega)).mono ?_
  rintro e w3 ⟨rfl, hb3⟩
  have B3 := B1.trans ((hb2.trans (hb3.mono hb2.size)).mono B1.size)
  have A3 := (A1.kept hb2).kept hb3
  clear c0 c1 c2 o2 hb2 hb3 B1 A1
  have c0 := A3.cell 0
  have c1 := A3.cell 1
  have c2 := A3.cell 2
  simp at c0 c1 c2
  go_wp2_with fail
  refine (toShaC aH nH cH N aT nT cT hs ts _ (hH.below B3) (hT.below B3) (by omega) (by omega)).mono ?_
  rintro e w4 ⟨xH, kH, xT, kT, rfl, o4, hb4⟩
  have B4 := B3.trans (hb4.mono B3.size)
  have A4 := A3.kept hb4
  have hsz := B4.size
  clear c0 c1 c2 hb4 B3 A3
  have IX := is_of_own o4.oh HHB.out
  have BX := bs_of_own o4.ot HTB.out
  clear o4
  have HA5 : Hid (Arr (w4.alloc (.cells #[.slice xH nH kH, .int .i64 N, .slice xT nT kT] 28)) w4.heap.size 28 [.slice xH nH kH, .int .i64 N, .slice xT nT kT]) := Arr.new _ _ _
  have HB5 : Hid (Below w4.heap.size w4 (w4.alloc (.cells #[.slice xH nH kH, .int .i64 N, .slice xT nT kT] 28))) := (Below.refl _ _).alloc (Nat.le_refl _) _
  go_wp2_with fail
  refine (implShaOk xH nH kH N xT nT kT hs ts _ (IX.below HB5.out) (BX.below HB5.out)).mono ?_
  rintro e w6 ⟨rfl, hb6⟩
  have B6 := B4.trans ((HB5.out.trans (hb6.mono HB5.out.size)).mono B4.size)
  have A6 := (A4.kept HB5.out).kept hb6
  have X6 := Arr.kept HA5.out hb6
  have IX6 := (IX.below HB5.out).below hb6
  have BX6 := (BX.below HB5.out).below hb6
  clear HA5 HB5 hb6 IX BX A4 B4
  have c0 := A6.cell 0
  have c1 := A6.cell 1
  have c2 := A6.cell 2
  have d0 := X6.cell 0
  have d1 := X6.cell 1
  have d2 := X6.cell 2
  simp at c0 c1 c2 d0 d1 d2
  obtain ⟨q, hq⟩ : ∃ q, q = shaOk hs N ts := ⟨_, rfl⟩
  rw [← hq]
  clear hq
  have hqq : (q != q) = false := by simp
  have A6' := A6.drew
  have X6' := X6.drew
  have B6' := B6.drew
  have IX6' : Is w6.drew xH nH kH hs := IX6
  have BX6' : Bs w6.drew xT nT kT ts := BX6
  clear A6 X6 B6 IX6 BX6
  go_wp2
  go_region_held3 (fun W => W.cell? ⟨w.heap.size, 0, none⟩ = some (.slice aH nH cH) ∧ W.cell? ⟨w.heap.size, 1, none⟩ = some (.int .i64 N) ∧ W.cell? ⟨w.heap.size, 2, none⟩ = some (.slice aT nT cT) ∧ W.cell? ⟨w4.heap.size, 0, none⟩ = some (.slice xH nH kH) ∧ W.cell? ⟨w4.heap.size, 1, none⟩ = some (.int .i64 N) ∧ W.cell? ⟨w4.heap.size, 2, none⟩ = some (.slice xT nT kT))
    (first | exact c33_of A6' X6' | exact c33_of A7 X7 | exact c33_of (A7.kept hb8) (X7.kept hb8))
    ((first
      | (go_at_call 6; refine (toShaC aH nH cH N aT nT cT hs ts _ (hH.below B6') (hT.below B6') (by omega) (by omega)).mono ?_; rintro e w7 ⟨yH, jH, yT, jT, rfl, o7, hb7⟩; have A7 := A6'.kept hb7; have X7 := X6'.kept hb7)
      | (go_at_call 8; refine (eqShaC xH nH kH N xT nT kT yH jH yT jT hs ts _ (IX6'.below hb7) (BX6'.below hb7) (is_of_own o7.oh HHB.out) (bs_of_own o7.ot HTB.out) (by omega) (by omega)).mono ?_; rintro e w8 ⟨rfl, hb8⟩)))
  have fr := (B6'.trans (hb7.mono B6'.size))
  have fr2 := fr.trans (hb8.mono fr.size)
  clear fr hb7 hb8 A7 X7 A6' X6' B6'
  go_wp2
  go_ret
  exact ⟨rfl, fr2⟩
end Go.Proofs.Ytgapfkiceolceaa
