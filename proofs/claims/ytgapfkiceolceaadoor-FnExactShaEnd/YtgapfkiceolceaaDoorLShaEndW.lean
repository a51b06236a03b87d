/-
  What is proved here: the exact law of ShaEnd returns true at every value, and writes into nothing that was there; where the program's two tables hold what its text lays into them.
-/
import Derived.Test.YtgapfkiceolceaaDoorSh
import Derived.Test.YtgapfkiceolceaaDoorSf
namespace Go.Proofs.YtgapfkiceolceaaDoor
set_option maxRecDepth 100000
open Go.RowKit

set_option maxHeartbeats 4000000 in
theorem walk_fnExactShaEnd (w : World) (aH : Option Addr) (nH cH : Nat) (N : Int) (aT : Option Addr) (nT cT : Nat) (hs ts : List Int) (hH : Is w aH nH cH hs) (hT : Bs w aT nT cT ts) (hn : nH ≤ 9223372036854775807) (hm : nT ≤ 9223372036854775807)
    (_ : -9223372036854775808 ≤ N) (_ : N ≤ 9223372036854775807) (ht : Tabs w) :
    Calls Tryd.prog 9 #[shaV aH nH cH N aT nT cT] w fun e w' => e = .returned (.bool true) ∧ Below w.heap.size w w' := by
  have hBw : Below w.heap.size w (w.alloc (.cells #[.slice aH nH cH, .int .i64 N, .slice aT nT cT] 54)) := (Below.refl _ _).alloc (Nat.le_refl _) _
  have hA : Arr (w.alloc (.cells #[.slice aH nH cH, .int .i64 N, .slice aT nT cT] 54)) w.heap.size 54 [.slice aH nH cH, .int .i64 N, .slice aT nT cT] := Arr.new _ _ _
  have HB : Hid _ := hBw
  have HA : Hid _ := hA
  have hhb := hH.2.2.2.1
  have htb := hT.2.2.2.1
  have hlE := endOf_byte hs N ts
  have hmE := endOf_len hs N ts
  have HS := fun aH nH cH aT nT cT w h h' hn hm => specShaEnd aH nH cH N aT nT cT hs ts w h h' hn hm
  have HI := fun aH nH cH aT nT cT w h h' ht => implShaEnd aH nH cH N aT nT cT hs ts w h h' ht
  generalize endOf hs N ts = LE at HS HI hlE hmE
  generalize shaOk hs N ts = R at HS HI
  obtain ⟨m, em⟩ : ∃ m, m = LE.length := ⟨_, rfl⟩
  rw [← em] at HS HI hmE
  have hRR : (R != R) = false := by simp
  have HS' : Hid _ := HS
  have HI' : Hid _ := HI
  have HHB : Hid _ := hhb
  have HTB : Hid _ := htb
  have HLE : Hid _ := hlE
  clear HS HI hhb htb hlE hBw hA em
  go_enter Tryd.func9, Tryd.ntmps9
  go_wp2_with fail
  refine (szShaC aH nH cH N aT nT cT 1048576 _ (by omega) (by omega) hn hm).mono ?_
  rintro e w1 ⟨r, rfl, hr, hb1'⟩
  have B1 := HB.out.trans (hb1'.mono HB.out.size)
  have A1 := Arr.kept HA.out hb1'
  have z1 : w.heap.size < w1.heap.size := Nat.lt_of_lt_of_le (by simp) hb1'.size
  clear HB HA hb1'
  rcases hr with rfl | ⟨hr, h1, h2⟩
  · go_wp2
    go_ret
    exact ⟨rfl, B1⟩
  have c1 := arr3 A1
  go_wp2_with fail
  refine (toShaC aH nH cH N aT nT cT hs ts _ (hH.below B1) (hT.below B1) (by omega) (by omega)).mono ?_
  rintro e w2 ⟨xH, kH, xT, kT, rfl, o2, hb2⟩
  have B2 := B1.trans (hb2.mono B1.size)
  have A2 := A1.kept hb2
  clear c1 A1
  go_wp2_with fail
  refine (HS'.out xH nH kH xT nT kT _ (is_of_own o2.oh HHB.out) (bs_of_own o2.ot HTB.out) (by omega) (by omega)).mono ?_
  rintro e w4 ⟨v4, rfl, o4, hb4⟩
  obtain ⟨a4, d4, rfl, _, _⟩ := Bs.own o4 HLE.out
  have B4 := B2.trans (hb4.mono B2.size)
  have A4 := A2.kept hb4
  have z4 : w.heap.size < w2.heap.size := Nat.lt_of_lt_of_le z1 hb2.size
  have i4 := In.of o4
  have y4 := hb4.size
  have c4 := arr3 A4
  clear o2 hb2 hb4 B1 B2 A2 HS'
  go_wp2_with fail
  refine (toShaC aH nH cH N aT nT cT hs ts _ (hH.below B4) (hT.below B4) (by omega) (by omega)).mono ?_
  rintro e w6 ⟨xH, kH, xT, kT, rfl, o6, hb6⟩
  have B6 := B4.trans (hb6.mono B4.size)
  have A6 := A4.kept hb6
  have T4 := own_below o4 hb6
  have y8 := hb6.size
  have S8 := Sh.of_own o6 N
  have B7 : Below w.heap.size w (w6.alloc (.cells #[.slice xH nH kH, .int .i64 N, .slice xT nT kT] 27)) := B6.alloc B6.size _
  have A7 : Arr (w6.alloc (.cells #[.slice xH nH kH, .int .i64 N, .slice xT nT kT] 27)) _ _ _ := A6.alloc _
  have O7 := T4.alloc (.cells #[.slice xH nH kH, .int .i64 N, .slice xT nT kT] 27)
  obtain ⟨W7, hW7⟩ : ∃ W7, W7 = w6.alloc (.cells #[.slice xH nH kH, .int .i64 N, .slice xT nT kT] 27) := ⟨_, rfl⟩
  rw [← hW7] at S8 B7 A7 O7
  have p8 : W7.heap.size = w6.heap.size + 1 := by rw [hW7]; simp
  have z8 := B4.size
  have q8 := S8.cells
  rw [hW7] at q8
  clear o4 c4 hb6 o6 B6 A6 T4 B4 A4
  go_wp2_with fail
  rw [← hW7]
  clear hW7 q8
  refine (HI'.out xH nH kH xT nT kT _ (is_of_own S8.oh HHB.out) (bs_of_own S8.ot HTB.out) (ht.below B7)).mono ?_
  rintro e w9 ⟨v9, rfl, o9, hb9⟩
  obtain ⟨a9, d9, rfl, _, _⟩ := Bs.own o9 HLE.out
  have B9 := B7.trans (hb9.mono B7.size)
  have A9 := A7.kept hb9
  have T8 := S8.below hb9
  have O9 := own_below O7 hb9
  have i9 := In.of o9
  have z9 := hb9.size
  clear B7 A7 S8 O7 hb9
  go_wp2_with fail
  refine (eqB a9 a4 m d9 d4 LE _ (bs_of_own o9 HLE.out) (bs_of_own O9 HLE.out) (by omega)).mono ?_
  rintro e w10 ⟨q10, rfl, rfl⟩
  have hb10 := bel_drewN w9 q10
  have B10 := B9.trans (hb10.mono B9.size)
  have A10 := A9.kept hb10
  have S8 := T8.below hb10
  have O10 := own_below O9 hb10
  have o10 := own_below o9 hb10
  clear B9 A9 T8 O9 o9 hb10
  obtain ⟨W10, hW10⟩ : ∃ W10, W10 = w9.drewN q10 := ⟨_, rfl⟩
  rw [← hW10] at B10 A10 S8 O10 o10 ⊢
  clear hW10
  have B10' := B10.drew
  have A10' := A10.drew
  have X10' := S8.p.drew
  have IX := (is_of_own S8.oh HHB.out).below (Below.refl _ _).drew
  have BX := (bs_of_own S8.ot HTB.out).below (Below.refl _ _).drew
  have c0 := arr3 A10
  have c8 := S8.cells
  go_wp2
  go_region_held3 (fun W => W.cell? ⟨w.heap.size, 0, none⟩ = some (.slice aH nH cH) ∧ W.cell? ⟨w.heap.size, 1, none⟩ = some (.int .i64 N) ∧ W.cell? ⟨w.heap.size, 2, none⟩ = some (.slice aT nT cT) ∧ W.cell? ⟨w6.heap.size, 0, none⟩ = some (.slice xH nH kH) ∧ W.cell? ⟨w6.heap.size, 1, none⟩ = some (.int .i64 N) ∧ W.cell? ⟨w6.heap.size, 2, none⟩ = some (.slice xT nT kT))
    (first | exact c33_of A10' X10' | exact c33_of A11 X11 | exact c33_of (A11.kept hb12) (X11.kept hb12))
    ((first
      | (go_at_call 46; refine (toShaC aH nH cH N aT nT cT hs ts _ (hH.below B10') (hT.below B10') (by omega) (by omega)).mono ?_; rintro e w11 ⟨yH, jH, yT, jT, rfl, o11, hb11⟩; have A11 := A10'.kept hb11; have X11 := X10'.kept hb11)
      | (go_at_call 33; refine (eqShaC xH nH kH N xT nT kT yH jH yT jT hs ts _ (IX.below hb11) (BX.below hb11) (is_of_own o11.oh HHB.out) (bs_of_own o11.ot HTB.out) (by omega) (by omega)).mono ?_; rintro e w12 ⟨rfl, hb12⟩)))
  have hb13 : Below W10.heap.size W10 w12 := ((Below.refl _ _).drew.trans hb11).trans (hb12.mono hb11.size)
  have B12 := B10.trans (hb13.mono B10.size)
  have A12 := A10.kept hb13
  have T8 := S8.below hb13
  have O12 := own_below O10 hb13
  have o12 := own_below o10 hb13
  clear hb11 hb12 hb13 A11 X11 A10' X10' B10' B10 A10 S8 O10 o10 o11 IX BX c0 c8
  have c8 := T8.cells
  go_wp2_with fail
  refine (markShaC w4.heap.size xH nH kH N xT nT kT hs ts 1 _ T8.oh T8.ot T8.ap (by omega) (by omega) (by omega) (by omega)).mono ?_
  rintro e w15 ⟨rfl, _, _, g15⟩
  have i1 := T8.ih
  have i2 := T8.it
  have B15 := g15.below B12 (fun k hk => by have := (i1 k hk).1; omega) (fun k hk => by have := (i2 k hk).1; omega)
  have A15 := g15.cellsOf A12 i1 i2 (by omega)
  have O15 := g15.own O12 (i1.apart i4 (by omega)) (i2.apart i4 (by omega))
  have o15 := g15.own o12 (i1.apart i9 (by omega)) (i2.apart i9 (by omega))
  clear c8 T8 A12 B12 O12 o12 g15 i1 i2
  have hk0 : ¬ ((1 : Int) + (nH : Int) + (nT : Int) < 0) := by omega
  go_wp2_with fail
  refine (eqB a9 a4 m d9 d4 LE _ (bs_of_own o15 HLE.out) (bs_of_own O15 HLE.out) (by omega)).mono ?_
  rintro e w17 ⟨q17, rfl, rfl⟩
  have hb17 := bel_drewN w15 q17
  have B17 := B15.trans (hb17.mono B15.size)
  have A17 := A15.kept hb17
  have O17 := own_below O15 hb17
  have o17 := own_below o15 hb17
  clear hb17 B15 A15 O15 o15
  obtain ⟨W17, hW17⟩ : ∃ W17, W17 = w15.drewN q17 := ⟨_, rfl⟩
  rw [← hW17] at B17 A17 O17 o17 ⊢
  clear hW17
  go_wp2_with fail
  refine (markB W7.heap.size m _ 1 LE _ o17 (by omega) (by omega) (by omega)).mono ?_
  rintro e w18 ⟨rfl, o18, g18⟩
  have B18 := B17.grown g18 B17.size (fun k hk => by have := (i9 k hk).1; omega)
  have A18 := grown_arr g18 A17 i9 (by omega)
  have O18 := own_kept O17 g18 (i9.apart i4 (by omega))
  clear B17 A17 O17 o17 g18
  have HM2 : Hid _ := marks_byte 1 m
  have hm0 : ¬ ((1 : Int) + (m : Int) < 0) := by omega
  have hmm : ((1 : Int) + (m : Int) != 1 + (m : Int)) = false := by simp
  go_wp2_with fail
  refine (heldB a9 m d9 1 _ (bs_of_own o18 HM2.out) (by omega) (by omega) (by omega)).mono ?_
  rintro e w19 ⟨rfl, rfl⟩
  have c0 := arr3 A18
  go_wp2_with fail
  refine (toShaC aH nH cH N aT nT cT hs ts _ (hH.below B18) (hT.below B18) (by omega) (by omega)).mono ?_
  rintro e w20 ⟨yH, jH, yT, jT, rfl, o20, hb20⟩
  have B20 := B18.trans (hb20.mono B18.size)
  have O20 := own_below O18 hb20
  have o20' := own_below o18 hb20
  clear c0 A18 B18 O18 o18 hb20
  go_wp2_with fail
  refine (HI'.out yH nH jH yT nT jT _ (is_of_own o20.oh HHB.out) (bs_of_own o20.ot HTB.out) (ht.below B20)).mono ?_
  rintro e w22 ⟨v22, rfl, o22, hb22⟩
  obtain ⟨a22, d22, rfl, _, hx22⟩ := Bs.own o22 HLE.out
  have B22 := B20.trans (hb22.mono B20.size)
  have O22 := own_below O20 hb22
  have o22' := own_below o20' hb22
  clear B20 O20 o20' o20 hb22 o22
  go_wp2_with fail
  refine (eqB a22 a4 m d22 d4 LE _ hx22 (bs_of_own O22 HLE.out) (by omega)).mono ?_
  rintro e w24 ⟨q24, rfl, rfl⟩
  have hb24 := bel_drewN w22 q24
  have B24 := B22.trans (hb24.mono B22.size)
  have o24 := own_below o22' hb24
  clear hb24 B22 O22 o22' hx22
  go_wp2_with fail
  refine (heldB a9 m d9 1 _ (bs_of_own o24 HM2.out) (by omega) (by omega) (by omega)).mono ?_
  rintro e w25 ⟨rfl, rfl⟩
  clear o24
  go_wp2
  go_ret
  exact ⟨rfl, B24⟩
end Go.Proofs.YtgapfkiceolceaaDoor
