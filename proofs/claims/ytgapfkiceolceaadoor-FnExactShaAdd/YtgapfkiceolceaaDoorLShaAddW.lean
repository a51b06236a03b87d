/-
  What is proved here: the exact law of ShaAdd returns true at every value and every slice, and writes into nothing that was there; where the program's two tables hold what its text lays into them.
-/
import Derived.Test.YtgapfkiceolceaaDoorSh
import Derived.Test.YtgapfkiceolceaaDoorSd
namespace Go.Proofs.YtgapfkiceolceaaDoor
set_option maxRecDepth 100000
open Go.RowKit

theorem addH_len (hs : List Int) (N : Int) (ts bs : List Int) : (addH hs N ts bs).length ≤ 8 := by
  unfold addH
  split
  · rename_i h
    unfold addOk shaOk at h
    simp only [Bool.and_eq_true, decide_eq_true_eq] at h
    rw [show (allB hs (ts ++ bs)).length = 8 from fld_len ((isW_iff hs).1 h.1.1).1 _ _]
    exact Nat.le_refl _
  · simp
theorem addT_len (hs : List Int) (N : Int) (ts bs : List Int) : (addT hs N ts bs).length ≤ ts.length + bs.length := by
  unfold addT
  split
  · have := restB_len (ts ++ bs)
    simpa using this
  · simp
theorem addH_int (hs : List Int) (N : Int) (ts bs : List Int) : ∀ x ∈ addH hs N ts bs, -9223372036854775808 ≤ x ∧ x ≤ 9223372036854775807 := by
  unfold addH
  split
  · rename_i h
    unfold addOk shaOk at h
    simp only [Bool.and_eq_true, decide_eq_true_eq] at h
    exact words_int (fld_word ((isW_iff hs).1 h.1.1).2 _ _)
  · simp
theorem addT_byte (hs : List Int) (N : Int) {ts bs : List Int} (h1 : ∀ x ∈ ts, 0 ≤ x ∧ x < 256) (h2 : ∀ x ∈ bs, 0 ≤ x ∧ x < 256) : ∀ x ∈ addT hs N ts bs, 0 ≤ x ∧ x < 256 := by
  unfold addT
  split
  · refine drop_byte (fun x hx => ?_)
    rcases List.mem_append.1 hx with h | h
    · exact h1 x h
    · exact h2 x h
  · simp

set_option maxHeartbeats 4000000 in
theorem walk_fnExactShaAdd (w : World) (aH : Option Addr) (nH cH : Nat) (N : Int) (aT : Option Addr) (nT cT : Nat) (hs ts : List Int) (hH : Is w aH nH cH hs) (hT : Bs w aT nT cT ts) (hn : nH ≤ 9223372036854775807) (hm : nT ≤ 9223372036854775807)
    (_ : -9223372036854775808 ≤ N) (_ : N ≤ 9223372036854775807) (ab : Option Addr) (nb cb : Nat) (bs : List Int) (hB : Bs w ab nb cb bs) (ht : Tabs w) :
    Calls Tryd.prog 8 #[shaV aH nH cH N aT nT cT, .slice ab nb cb] w fun e w' => e = .returned (.bool true) ∧ Below w.heap.size w w' := by
  have hhl := hH.2.1
  have htl := hT.2.1
  have hbl := hB.2.1
  have hBw : Below w.heap.size w (w.alloc (.cells #[.slice aH nH cH, .int .i64 N, .slice aT nT cT] 54)) := (Below.refl _ _).alloc (Nat.le_refl _) _
  have hA : Arr (w.alloc (.cells #[.slice aH nH cH, .int .i64 N, .slice aT nT cT] 54)) w.heap.size 54 [.slice aH nH cH, .int .i64 N, .slice aT nT cT] := Arr.new _ _ _
  have HB : Hid _ := hBw
  have HA : Hid _ := hA
  have hhb := hH.2.2.2.1
  have htb := hT.2.2.2.1
  have hbb := hB.2.2.2.1
  have hlH := addH_int hs N ts bs
  have hlT := addT_byte hs N htb hbb
  have hmH := addH_len hs N ts bs
  have hmT := addT_len hs N ts bs
  rw [htl, hbl] at hmT
  by_cases hb1 : 1048576 < (nb : Int)
  · clear hlH hlT hmH hmT hBw hA
    go_enter Tryd.func8, Tryd.ntmps8
    go_wp2
    go_ret
    exact ⟨rfl, HB.out⟩
  have HS := fun aH nH cH aT nT cT ab nb cb w h h' h'' hn hm hb => specShaAdd aH nH cH N aT nT cT hs ts ab nb cb bs w h h' h'' hn hm hb
  have HI := fun aH nH cH aT nT cT ab nb cb w h h' h'' ht => implShaAdd aH nH cH N aT nT cT hs ts ab nb cb bs w h h' h'' ht
  generalize addH hs N ts bs = LH at HS HI hlH hmH
  generalize addT hs N ts bs = LT at HS HI hlT hmT
  generalize addN hs N ts bs = M at HS HI
  generalize addOk hs N ts bs = R at HS HI
  obtain ⟨mH, emH⟩ : ∃ m, m = LH.length := ⟨_, rfl⟩
  obtain ⟨mT, emT⟩ : ∃ m, m = LT.length := ⟨_, rfl⟩
  rw [← emH] at hmH
  rw [← emT] at hmT
  have HmH : Hid _ := emH
  have HmT : Hid _ := emT
  have hRR : (R != R) = false := by simp
  have HS' : Hid _ := HS
  have HI' : Hid _ := HI
  have HHB : Hid _ := hhb
  have HTB : Hid _ := htb
  have HBB : Hid _ := hbb
  have HLH : Hid _ := hlH
  have HLT : Hid _ := hlT
  clear HS HI hhb htb hbb hlH hlT hBw hA emH emT
  go_enter Tryd.func8, Tryd.ntmps8
  go_wp2_with fail
  refine (szShaC aH nH cH N aT nT cT 1048576 _ (by omega) (by omega) hn hm).mono ?_
  rintro e w1 ⟨r, rfl, hr, hb1'⟩
  have B1 := HB.out.trans (hb1'.mono HB.out.size)
  have A1 := Arr.kept HA.out hb1'
  have z1 : w.heap.size < w1.heap.size := Nat.lt_of_lt_of_le (by simp) hb1'.size
  clear HB HA hb1'
  rcases hr with rfl | ⟨hr, h1, h2⟩
  · go_wp2
    go_ret
    exact ⟨rfl, B1⟩
  have c1 := arr3 A1
  go_wp2_with fail
  refine (toShaC aH nH cH N aT nT cT hs ts _ (hH.below B1) (hT.below B1) (by omega) (by omega)).mono ?_
  rintro e w2 ⟨xH, kH, xT, kT, rfl, o2, hb2⟩
  have B2 := B1.trans (hb2.mono B1.size)
  have A2 := A1.kept hb2
  clear c1 A1
  go_wp2_with fail
  refine (toS ab nb cb bs _ (hB.below B2) (by omega)).mono ?_
  rintro e w3 ⟨x3, k3, rfl, _, hx3, hb3⟩
  have B3 := B2.trans (hb3.mono B2.size)
  have A3 := A2.kept hb3
  clear A2
  go_wp2_with fail
  refine (HS'.out xH nH kH xT nT kT x3 nb k3 _ ((is_of_own o2.oh HHB.out).below hb3) ((bs_of_own o2.ot HTB.out).below hb3) hx3 (by omega) (by omega) (by omega)).mono ?_
  rintro e w4 ⟨v4, rfl, s4, hb4⟩
  obtain ⟨a6, d6, e6, f6, rfl, o4⟩ := s4
  rw [← HmH.out, ← HmT.out] at o4 ⊢
  have B4 := B3.trans (hb4.mono B3.size)
  have A4 := A3.kept hb4
  have z6 : w.heap.size < w3.heap.size := Nat.lt_of_lt_of_le z1 (Nat.le_trans hb2.size hb3.size)
  have y6 := hb4.size
  have S6 := Sh.of_own o4 M
  have B5 : Below w.heap.size w (w4.alloc (.cells #[.slice a6 mH d6, .int .i64 M, .slice e6 mT f6] 27)) := B4.alloc B4.size _
  have A5 : Arr (w4.alloc (.cells #[.slice a6 mH d6, .int .i64 M, .slice e6 mT f6] 27)) _ _ _ := A4.alloc _
  have c4 := arr3 A4
  have z4 := A4.lt
  clear o2 hb2 hx3 hb3 o4 hb4 B1 B2 B3 A3 HS'
  go_wp2_with fail
  refine (toShaC aH nH cH N aT nT cT hs ts _ (hH.below B5) (hT.below B5) (by omega) (by omega)).mono ?_
  rintro e w6 ⟨xH, kH, xT, kT, rfl, o6, hb6⟩
  have B6 := B5.trans (hb6.mono B5.size)
  have A6 := A5.kept hb6
  have T6 := S6.below hb6
  have z8 : w4.heap.size < (w4.alloc (.cells #[.slice a6 mH d6, .int .i64 M, .slice e6 mT f6] 27)).heap.size := by simp
  have y8 := hb6.size
  have S8 := Sh.of_own o6 N
  have B7 : Below w.heap.size w (w6.alloc (.cells #[.slice xH nH kH, .int .i64 N, .slice xT nT kT] 27)) := B6.alloc B6.size _
  have A7 : Arr (w6.alloc (.cells #[.slice xH nH kH, .int .i64 N, .slice xT nT kT] 27)) _ _ _ := A6.alloc _
  have T7 := T6.below ((Below.refl _ _).alloc (Nat.le_refl _) (.cells #[.slice xH nH kH, .int .i64 N, .slice xT nT kT] 27))
  obtain ⟨L8, hL8⟩ : ∃ L8, L8 = (w4.alloc (.cells #[.slice a6 mH d6, .int .i64 M, .slice e6 mT f6] 27)).heap.size := ⟨_, rfl⟩
  obtain ⟨W7, hW7⟩ : ∃ W7, W7 = w6.alloc (.cells #[.slice xH nH kH, .int .i64 N, .slice xT nT kT] 27) := ⟨_, rfl⟩
  rw [← hL8] at S8 z8 y8
  rw [← hW7] at S8 B7 A7 T7
  have p8 : W7.heap.size = w6.heap.size + 1 := by rw [hW7]; simp
  clear S6 B5 A5 c4 hb6 o6 B6 A6 T6 hL8 B4 A4 z4
  go_wp2_with fail
  rw [← hW7]
  clear hW7
  refine (toS ab nb cb bs _ (hB.below B7) (by omega)).mono ?_
  rintro e w8 ⟨ay, cy, rfl, oy, hy8, hb8⟩
  have B8 := B7.trans (hb8.mono B7.size)
  have A8 := A7.kept hb8
  have S6 := T7.below hb8
  have T8 := S8.below hb8
  have iy := In.of oy
  have q8 := T8.cells
  clear B7 A7 T7 S8
  go_wp2_with fail
  refine (HI'.out xH nH kH xT nT kT ay nb cy _ (is_of_own T8.oh HHB.out) (bs_of_own T8.ot HTB.out) hy8 (ht.below B8)).mono ?_
  rintro e w9 ⟨v9, rfl, s9, hb9⟩
  obtain ⟨a9, d9, e9, f9, rfl, o9⟩ := s9
  rw [← HmH.out, ← HmT.out] at o9 ⊢
  have B9 := (B8.trans (hb9.mono B8.size)).alloc (Nat.le_trans B8.size hb9.size) (.cells #[.slice a9 mH d9, .int .i64 M, .slice e9 mT f9] 27)
  have A9 := (A8.kept hb9).alloc (.cells #[.slice a9 mH d9, .int .i64 M, .slice e9 mT f9] 27)
  have U6 := (S6.below hb9).below ((Below.refl _ _).alloc (Nat.le_refl _) (.cells #[.slice a9 mH d9, .int .i64 M, .slice e9 mT f9] 27))
  have V8 := (T8.below hb9).below ((Below.refl _ _).alloc (Nat.le_refl _) (.cells #[.slice a9 mH d9, .int .i64 M, .slice e9 mT f9] 27))
  have oy9 := (own_below oy hb9).alloc (.cells #[.slice a9 mH d9, .int .i64 M, .slice e9 mT f9] 27)
  have S10 := Sh.of_own o9 M
  have y10 := hb9.size
  have y9 := hb8.size
  obtain ⟨W9, hW9⟩ : ∃ W9, W9 = w9.alloc (.cells #[.slice a9 mH d9, .int .i64 M, .slice e9 mT f9] 27) := ⟨_, rfl⟩
  rw [← hW9] at B9 A9 U6 V8 oy9 S10
  have p10 : W9.heap.size = w9.heap.size + 1 := by rw [hW9]; simp
  have g6 := U6.cells
  have g10 := S10.cells
  rw [hW9] at g6 g10
  clear S6 T8 A8 B8 oy hy8 q8 o9 hb9 hb8
  go_wp2_with fail
  rw [← hW9]
  clear hW9 g6 g10
  refine (eqShaC a9 mH d9 M e9 mT f9 a6 d6 e6 f6 LH LT _ (is_of_own S10.oh HLH.out) (bs_of_own S10.ot HLT.out) (is_of_own U6.oh HLH.out) (bs_of_own U6.ot HLT.out) (by omega) (by omega)).mono ?_
  rintro e w10 ⟨rfl, hb10⟩
  have B10 := B9.trans (hb10.mono B9.size)
  have A10 := A9.kept hb10
  have S6 := U6.below hb10
  have S8 := V8.below hb10
  have oy10 := own_below oy9 hb10
  have R10 := S10.below hb10
  clear B9 A9 U6 V8 oy9 S10 hb10
  have B10' := B10.drew
  have A10' := A10.drew
  have X10' := S8.p.drew
  have IX := (is_of_own S8.oh HHB.out).below (Below.refl _ _).drew
  have BX := (bs_of_own S8.ot HTB.out).below (Below.refl _ _).drew
  have c0 := arr3 A10
  have c8 := S8.cells
  go_wp2
  go_region_held3 (fun W => W.cell? ⟨w.heap.size, 0, none⟩ = some (.slice aH nH cH) ∧ W.cell? ⟨w.heap.size, 1, none⟩ = some (.int .i64 N) ∧ W.cell? ⟨w.heap.size, 2, none⟩ = some (.slice aT nT cT) ∧ W.cell? ⟨w6.heap.size, 0, none⟩ = some (.slice xH nH kH) ∧ W.cell? ⟨w6.heap.size, 1, none⟩ = some (.int .i64 N) ∧ W.cell? ⟨w6.heap.size, 2, none⟩ = some (.slice xT nT kT))
    (first | exact c33_of A10' X10' | exact c33_of A11 X11 | exact c33_of (A11.kept hb12) (X11.kept hb12))
    ((first
      | (go_at_call 46; refine (toShaC aH nH cH N aT nT cT hs ts _ (hH.below B10') (hT.below B10') (by omega) (by omega)).mono ?_; rintro e w11 ⟨yH, jH, yT, jT, rfl, o11, hb11⟩; have A11 := A10'.kept hb11; have X11 := X10'.kept hb11)
      | (go_at_call 33; refine (eqShaC xH nH kH N xT nT kT yH jH yT jT hs ts _ (IX.below hb11) (BX.below hb11) (is_of_own o11.oh HHB.out) (bs_of_own o11.ot HTB.out) (by omega) (by omega)).mono ?_; rintro e w12 ⟨rfl, hb12⟩)))
  have hb13 : Below w10.heap.size w10 w12 := ((Below.refl _ _).drew.trans hb11).trans (hb12.mono hb11.size)
  have B12 := B10.trans (hb13.mono B10.size)
  have A12 := A10.kept hb13
  have T6 := S6.below hb13
  have T8 := S8.below hb13
  have oy12 := own_below oy10 hb13
  have R12 := R10.below hb13
  clear hb11 hb12 hb13 A11 X11 A10' X10' B10' B10 A10 S6 S8 oy10 R10 o11 IX BX c0 c8
  go_wp2_with fail
  refine (toS ab nb cb bs _ (hB.below B12) (by omega)).mono ?_
  rintro e w13 ⟨x13, k13, rfl, _, hx13, hb13⟩
  have oy13 := own_below oy12 hb13
  go_wp2_with fail
  refine (eqB ay x13 nb cy k13 bs _ (bs_of_own oy13 HBB.out) hx13 (by omega)).mono ?_
  rintro e w14 ⟨q14, rfl, rfl⟩
  have hb14 := hb13.trans ((bel_drewN w13 q14).mono hb13.size)
  have B14 := B12.trans (hb14.mono B12.size)
  have A14 := A12.kept hb14
  have S6 := T6.below hb14
  have S8 := T8.below hb14
  have oy14 := own_below oy12 hb14
  have R14 := R12.below hb14
  clear hb13 hb14 B12 A12 T6 T8 oy12 oy13 R12 hx13
  obtain ⟨W14, hW14⟩ : ∃ W14, W14 = w13.drewN q14 := ⟨_, rfl⟩
  rw [← hW14] at B14 A14 S6 S8 oy14 R14 ⊢
  clear hW14
  have c8 := S8.cells
  go_wp2_with fail
  refine (markShaC L8 xH nH kH N xT nT kT hs ts 1 _ S8.oh S8.ot S8.ap (by omega) (by omega) (by omega) (by omega)).mono ?_
  rintro e w15 ⟨rfl, _, _, g15⟩
  have i1 := S8.ih
  have i2 := S8.it
  have B15 := g15.below B14 (fun k hk => by have := (i1 k hk).1; omega) (fun k hk => by have := (i2 k hk).1; omega)
  have A15 := g15.cellsOf A14 i1 i2 (by omega)
  have T6 := S6.far2 g15 i1 i2 (by omega) y6
  have R15 := R14.far2 g15 i1 i2 (by omega) y10
  have oy15 := g15.own oy14 (i1.apart iy (by omega)) (i2.apart iy (by omega))
  clear c8 S8 S6 R14 A14 B14 oy14 g15 i1 i2
  go_wp2_with fail
  refine (markB W7.heap.size nb _ (1 + (nH : Int) + (nT : Int)) bs _ oy15 (by omega) (by omega) (by omega)).mono ?_
  rintro e w16 ⟨rfl, _, g16⟩
  have B16 := B15.grown g16 B15.size (fun k hk => by have := (iy k hk).1; omega)
  have A16 := grown_arr g16 A15 iy (by omega)
  have S6 := T6.far1 g16 iy (by omega) y6
  have R16 := R15.far1 g16 iy (by omega) y10
  clear T6 R15 A15 B15 oy15 g16
  have hk0 : ¬ ((1 : Int) + (nH : Int) + (nT : Int) + (nb : Int) < 0) := by omega
  have c6 := S6.cells
  have c10 := R16.cells
  go_wp2_with fail
  refine (eqShaC a9 mH d9 M e9 mT f9 a6 d6 e6 f6 LH LT _ (is_of_own R16.oh HLH.out) (bs_of_own R16.ot HLT.out) (is_of_own S6.oh HLH.out) (bs_of_own S6.ot HLT.out) (by omega) (by omega)).mono ?_
  rintro e w17 ⟨rfl, hb17⟩
  have B17 := B16.trans (hb17.mono B16.size)
  have A17 := A16.kept hb17
  have T6 := S6.below hb17
  have R17 := R16.below hb17
  clear c6 c10 hb17 B16 A16 S6 R16
  have c10 := R17.cells
  go_wp2_with fail
  refine (markShaC w8.heap.size a9 mH d9 M e9 mT f9 LH LT 1 _ R17.oh R17.ot R17.ap (by omega) (by omega) (by omega) (by omega)).mono ?_
  rintro e w18 ⟨rfl, oh18, ot18, g18⟩
  have i1 := R17.ih
  have i2 := R17.it
  have B18 := g18.below B17 (fun k hk => by have := (i1 k hk).1; omega) (fun k hk => by have := (i2 k hk).1; omega)
  have A18 := g18.cellsOf A17 i1 i2 (by omega)
  have S6 := T6.far2 g18 i1 i2 (by omega) y6
  have R18 := R17.marked g18 oh18 ot18
  clear c10 R17 T6 A17 B17 g18 i1 i2 oh18 ot18
  have HM1 : Hid _ := marksI_int 1 mH (by omega) (by omega) (by omega)
  have HM2 : Hid _ := marks_byte (1 + (mH : Int)) mT
  have hm0 : ¬ ((1 : Int) + (mH : Int) + (mT : Int) < 0) := by omega
  have hmm : ((1 : Int) + (mH : Int) + (mT : Int) != 1 + (mH : Int) + (mT : Int)) = false := by simp
  have c10 := R18.cells
  go_wp2_with fail
  refine (heldShaC a9 mH d9 M e9 mT f9 1 _ (is_of_own R18.oh HM1.out) (bs_of_own R18.ot HM2.out) (by omega) (by omega) (by omega) (by omega)).mono ?_
  rintro e w19 ⟨rfl, hb19⟩
  have B19 := B18.trans (hb19.mono B18.size)
  have A19 := A18.kept hb19
  have T6 := S6.below hb19
  have R19 := R18.below hb19
  clear c10 hb19 B18 A18 S6 R18
  have c0 := arr3 A19
  go_wp2_with fail
  refine (toShaC aH nH cH N aT nT cT hs ts _ (hH.below B19) (hT.below B19) (by omega) (by omega)).mono ?_
  rintro e w20 ⟨yH, jH, yT, jT, rfl, o20, hb20⟩
  have B20 := B19.trans (hb20.mono B19.size)
  go_wp2_with fail
  refine (toS ab nb cb bs _ (hB.below B20) (by omega)).mono ?_
  rintro e w21 ⟨x21, k21, rfl, _, hx21, hb21⟩
  have B21 := B20.trans (hb21.mono B20.size)
  go_wp2_with fail
  refine (HI'.out yH nH jH yT nT jT x21 nb k21 _ ((is_of_own o20.oh HHB.out).below hb21) ((bs_of_own o20.ot HTB.out).below hb21) hx21 (ht.below B21)).mono ?_
  rintro e w22 ⟨v22, rfl, s22, hb22⟩
  obtain ⟨a22, d22, e22, f22, rfl, o22⟩ := s22
  rw [← HmH.out, ← HmT.out] at o22 ⊢
  have hb23 := ((hb20.trans (hb21.mono hb20.size)).trans (hb22.mono (Nat.le_trans hb20.size hb21.size))).alloc (Nat.le_trans hb20.size (Nat.le_trans hb21.size hb22.size)) (.cells #[.slice a22 mH d22, .int .i64 M, .slice e22 mT f22] 27)
  have B23 := B19.trans (hb23.mono B19.size)
  have S6 := T6.below hb23
  have R23 := R19.below hb23
  have S22 := Sh.of_own o22 M
  obtain ⟨W23, hW23⟩ : ∃ W23, W23 = w22.alloc (.cells #[.slice a22 mH d22, .int .i64 M, .slice e22 mT f22] 27) := ⟨_, rfl⟩
  rw [← hW23] at B23 S6 R23 S22
  have c6 := S6.cells
  have c22 := S22.cells
  rw [hW23] at c6 c22
  clear c0 A19 B19 T6 R19 o20 o22 hb20 hb21 hb22 hb23 hx21 B20 B21
  go_wp2_with fail
  rw [← hW23]
  clear hW23 c6 c22
  refine (eqShaC a22 mH d22 M e22 mT f22 a6 d6 e6 f6 LH LT _ (is_of_own S22.oh HLH.out) (bs_of_own S22.ot HLT.out) (is_of_own S6.oh HLH.out) (bs_of_own S6.ot HLT.out) (by omega) (by omega)).mono ?_
  rintro e w24 ⟨rfl, hb24⟩
  have B24 := B23.trans (hb24.mono B23.size)
  have R24 := R23.below hb24
  clear hb24 S22 S6 R23 B23
  have c10 := R24.cells
  go_wp2_with fail
  refine (heldShaC a9 mH d9 M e9 mT f9 1 _ (is_of_own R24.oh HM1.out) (bs_of_own R24.ot HM2.out) (by omega) (by omega) (by omega) (by omega)).mono ?_
  rintro e w25 ⟨rfl, hb25⟩
  have fr := B24.trans (hb25.mono B24.size)
  clear c10 R24 B24 hb25
  go_wp2
  go_ret
  exact ⟨rfl, fr⟩
end Go.Proofs.YtgapfkiceolceaaDoor
