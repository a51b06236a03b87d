/-
  What is proved here: the exact law of PtBase returns true, and writes into nothing that was there; where the program's variables hold what its text lays into them.
-/
import Derived.Test.YtoblilngppjmhaaDoorZUk
import Derived.Test.YtoblilngppjmhaaDoorZUsb
import Derived.Test.YtoblilngppjmhaaDoorZOhb
namespace Go.Proofs.YtoblilngppjmhaaDoor
open Go.RowKit
set_option maxRecDepth 100000

set_option maxHeartbeats 8000000 in
theorem walk_fnExactPtBase (w : World)  (kXv : Vr w 0 (I64 BX)) (kYv : Vr w 1 (I64 BY)) :
  Calls Tryd.prog 7 #[] w fun e w' => e = .returned (.bool true) ∧ Below w.heap.size w w' := by
 obtain ⟨L, hL⟩ : ∃ L, L = BX := ⟨_, rfl⟩
 obtain ⟨M, hM⟩ : ∃ M, M = BY := ⟨_, rfl⟩
 have HS : Hid (∀ (Z : World), Calls Tryd.prog 36 #[] Z fun e w' => ∃ v, e = .returned (v) ∧ PtT 3 Z w' v L M ∧ Below Z.heap.size Z w') := by
  unfold Hid; intro Z ; rw [hL, hM]; exact specPtBase Z 
 have HI : Hid (∀ (Z : World), Vr Z 0 (I64 BX) → Vr Z 1 (I64 BY) → Calls Tryd.prog 25 #[] Z fun e w' => ∃ v, e = .returned (v) ∧ PtT 70 Z w' v L M ∧ Below Z.heap.size Z w') := by
  unfold Hid; intro Z  vkXv vkYv; rw [hL, hM]; exact implPtBase Z  vkXv vkYv
 have HBL : Hid (∀ x ∈ L, -9223372036854775808 ≤ x ∧ x ≤ 9223372036854775807) := by unfold Hid; rw [hL]; exact fun x hx => by have := feOk_lm' BX_ok x hx; omega
 have hmx : L.length ≤ 32 := by rw [hL, feOk_len BX_ok]; omega
 obtain ⟨mx, hex⟩ : ∃ m, m = L.length := ⟨_, rfl⟩
 rw [← hex] at hmx
 have Hx : Hid (L.length = mx) := hex.symm
 have HBM : Hid (∀ x ∈ M, -9223372036854775808 ≤ x ∧ x ≤ 9223372036854775807) := by unfold Hid; rw [hM]; exact fun x hx => by have := feOk_lm' BY_ok x hx; omega
 have hmy : M.length ≤ 32 := by rw [hM, feOk_len BY_ok]; omega
 obtain ⟨my, hey⟩ : ∃ m, m = M.length := ⟨_, rfl⟩
 rw [← hey] at hmy
 have Hy : Hid (M.length = my) := hey.symm
 clear hL hM hex hey
 have h0wkXv := kXv.lt
 have h0wkYv := kYv.lt
 have B : Below w.heap.size w w := Below.refl _ _
 go_enter Tryd.func7, Tryd.ntmps7
 go_wp2_with fail
 refine (HS.out _  ).mono ?_
 rintro e w1 ⟨v6, rfl, ⟨a6, c6, b6, d6, rfl, o6x, o6y, ap6⟩, hb1⟩
 have z1 := hb1.size
 replace B := B.trans (hb1.mono B.size)
 replace kXv := kXv.kept hb1
 replace kYv := kYv.kept hb1
 clear hb1
 clear HS
 rw [Hx.out] at o6x ap6 ⊢
 rw [Hy.out] at o6y ap6 ⊢
 have io6x := In.of o6x
 have io6y := In.of o6y
 obtain ⟨bV, E6, A0, z2⟩ := laid_two w1 27 (.slice none 0 0) (.slice none 0 0) (.slice a6 mx c6) (.slice b6 my d6)
 obtain ⟨V2, hV2⟩ : ∃ V, V = (w1.alloc (.cells #[.slice none 0 0, .slice none 0 0] 27)).setRow w1.heap.size ([Value.slice a6 mx c6, Value.slice b6 my d6] : List Value).toArray := ⟨_, rfl⟩
 rw [← hV2] at bV E6 z2
 replace B := B.trans (bV.mono B.size)
 replace kXv := kXv.kept bV
 replace kYv := kYv.kept bV
 replace o6x := own_below o6x bV
 replace o6y := own_below o6y bV
 clear bV
 go_wp2_with (first
  | (refine wpList_store_row rfl 27 _ _ rfl w1.heap.size ([Value.slice a6 mx c6, Value.slice b6 my d6]).toArray rfl rfl 27 _ A0 infoPt rfl (by simp [Value.oneCell']) ?_; rw [← hV2]; clear hV2 A0))
 refine (HI.out _  kXv kYv).mono ?_
 rintro e w3 ⟨v10, rfl, ⟨a10, c10, b10, d10, rfl, o10x, o10y, ap10⟩, hb3⟩
 have z3 := hb3.size
 replace B := B.trans (hb3.mono B.size)
 replace kXv := kXv.kept hb3
 replace kYv := kYv.kept hb3
 replace o6x := own_below o6x hb3
 replace o6y := own_below o6y hb3
 replace E6 := E6.kept hb3
 clear hb3
 rw [Hx.out] at o10x ap10 ⊢
 rw [Hy.out] at o10y ap10 ⊢
 have io10x := In.of o10x
 have io10y := In.of o10y
 obtain ⟨bV, E10, A0, z4⟩ := laid_two w3 27 (.slice none 0 0) (.slice none 0 0) (.slice a10 mx c10) (.slice b10 my d10)
 obtain ⟨V4, hV4⟩ : ∃ V, V = (w3.alloc (.cells #[.slice none 0 0, .slice none 0 0] 27)).setRow w3.heap.size ([Value.slice a10 mx c10, Value.slice b10 my d10] : List Value).toArray := ⟨_, rfl⟩
 rw [← hV4] at bV E10 z4
 replace B := B.trans (bV.mono B.size)
 replace kXv := kXv.kept bV
 replace kYv := kYv.kept bV
 replace o6x := own_below o6x bV
 replace o6y := own_below o6y bV
 replace E6 := E6.kept bV
 replace o10x := own_below o10x bV
 replace o10y := own_below o10y bV
 clear bV
 go_wp2_with (first
  | (refine wpList_store_row rfl 27 _ _ rfl w3.heap.size ([Value.slice a10 mx c10, Value.slice b10 my d10]).toArray rfl rfl 27 _ A0 infoPt rfl (by simp [Value.oneCell']) ?_; rw [← hV4]; clear hV4 A0)
  | (refine wpList_load_row rfl 27 _ rfl (w3.heap.size) rfl 27 ([Value.slice a10 mx c10, Value.slice b10 my d10]).toArray (0, 0) _ E10 Tryd.underlying27 rfl infoPt ?_)
  | (refine wpList_load_row rfl 27 _ rfl (w1.heap.size) rfl 27 ([Value.slice a6 mx c6, Value.slice b6 my d6]).toArray (0, 0) _ E6 Tryd.underlying27 rfl infoPt ?_))
 refine (eqPtC a10 a6 mx c10 c6 L b10 b6 my d10 d6 M _ (is_of_own o10x HBL.out) (is_of_own o6x HBL.out) (is_of_own o10y HBM.out) (is_of_own o6y HBM.out) (by omega) (by omega)).mono ?_
 rintro e w5 ⟨rfl, hb5⟩
 have z5 := hb5.size
 replace B := B.trans (hb5.mono B.size)
 replace kXv := kXv.kept hb5
 replace kYv := kYv.kept hb5
 replace o6x := own_below o6x hb5
 replace o6y := own_below o6y hb5
 replace E6 := E6.kept hb5
 replace o10x := own_below o10x hb5
 replace o10y := own_below o10y hb5
 replace E10 := E10.kept hb5
 clear hb5
 go_wp2_with (first
  | (refine wpList_load_row rfl 27 _ rfl (w3.heap.size) rfl 27 ([Value.slice a10 mx c10, Value.slice b10 my d10]).toArray (0, 0) _ E10 Tryd.underlying27 rfl infoPt ?_))
 refine (markPtC _ mx (.slice a10 mx c10) _ _ my (.slice b10 my d10) _ (1) _ o10x o10y ap10 (by omega) (by omega) (by omega) (by omega)).mono ?_
 rintro e w6 ⟨rfl, M6, gx, gy, nx6, ny6⟩
 have zx6 := gx.size
 have zy6 := gy.size
 replace B := B.grown gx B.size (fun k hk => by have := (io10x k hk).1; omega)
 replace B := B.grown gy B.size (fun k hk => by have := (io10y k hk).1; omega)
 replace kXv := vr_mark kXv gx io10x (by omega)
 replace kXv := vr_mark kXv gy io10y (by omega)
 replace kYv := vr_mark kYv gx io10x (by omega)
 replace kYv := vr_mark kYv gy io10y (by omega)
 replace o6x := own_kept o6x gx (io10x.apart io6x (by omega))
 replace o6x := own_kept o6x gy (io10y.apart io6x (by omega))
 replace o6y := own_kept o6y gx (io10x.apart io6y (by omega))
 replace o6y := own_kept o6y gy (io10y.apart io6y (by omega))
 replace E6 := arr_mark E6 gx io10x (by omega)
 replace E6 := arr_mark E6 gy io10y (by omega)
 replace E10 := arr_mark E10 gx io10x (by omega)
 replace E10 := arr_mark E10 gy io10y (by omega)
 clear gx gy
 replace o10x := nx6
 replace o10y := ny6
 clear nx6 ny6
 have hm0 : ¬ ((1 : Int) + (mx : Int) + (my : Int) < 0) := by omega
 have hmm : ((1 : Int) + (mx : Int) + (my : Int) != 1 + (mx : Int) + (my : Int)) = false := by simp
 have HMx : Hid _ := marksI_int 1 mx (by omega) (by omega) (by omega)
 have HMy : Hid _ := marksI_int (1 + (mx : Int)) my (by omega) (by omega) (by omega)
 go_wp2_with (first
  | (refine wpList_load_row rfl 27 _ rfl (w3.heap.size) rfl 27 ([Value.slice a10 mx c10, Value.slice b10 my d10]).toArray (0, 0) _ E10 Tryd.underlying27 rfl infoPt ?_))
 refine (heldPtC a10 mx c10 b10 my d10 1 _ (is_of_own o10x HMx.out) (is_of_own o10y HMy.out) (by omega) (by omega) (by omega) (by omega)).mono ?_
 rintro e w7 ⟨rfl, hb7⟩
 have z7 := hb7.size
 replace B := B.trans (hb7.mono B.size)
 replace kXv := kXv.kept hb7
 replace kYv := kYv.kept hb7
 replace o6x := own_below o6x hb7
 replace o6y := own_below o6y hb7
 replace E6 := E6.kept hb7
 replace o10x := own_below o10x hb7
 replace o10y := own_below o10y hb7
 replace E10 := E10.kept hb7
 clear hb7
 go_wp2_with fail
 refine (HI.out _  kXv kYv).mono ?_
 rintro e w8 ⟨v15, rfl, ⟨a15, c15, b15, d15, rfl, o15x, o15y, ap15⟩, hb8⟩
 have z8 := hb8.size
 replace B := B.trans (hb8.mono B.size)
 replace kXv := kXv.kept hb8
 replace kYv := kYv.kept hb8
 replace o6x := own_below o6x hb8
 replace o6y := own_below o6y hb8
 replace E6 := E6.kept hb8
 replace o10x := own_below o10x hb8
 replace o10y := own_below o10y hb8
 replace E10 := E10.kept hb8
 clear hb8
 rw [Hx.out] at o15x ap15 ⊢
 rw [Hy.out] at o15y ap15 ⊢
 have io15x := In.of o15x
 have io15y := In.of o15y
 obtain ⟨bV, E15, A0, z9⟩ := laid_two w8 27 (.slice none 0 0) (.slice none 0 0) (.slice a15 mx c15) (.slice b15 my d15)
 obtain ⟨V9, hV9⟩ : ∃ V, V = (w8.alloc (.cells #[.slice none 0 0, .slice none 0 0] 27)).setRow w8.heap.size ([Value.slice a15 mx c15, Value.slice b15 my d15] : List Value).toArray := ⟨_, rfl⟩
 rw [← hV9] at bV E15 z9
 replace B := B.trans (bV.mono B.size)
 replace kXv := kXv.kept bV
 replace kYv := kYv.kept bV
 replace o6x := own_below o6x bV
 replace o6y := own_below o6y bV
 replace E6 := E6.kept bV
 replace o10x := own_below o10x bV
 replace o10y := own_below o10y bV
 replace E10 := E10.kept bV
 replace o15x := own_below o15x bV
 replace o15y := own_below o15y bV
 clear bV
 go_wp2_with (first
  | (refine wpList_store_row rfl 27 _ _ rfl w8.heap.size ([Value.slice a15 mx c15, Value.slice b15 my d15]).toArray rfl rfl 27 _ A0 infoPt rfl (by simp [Value.oneCell']) ?_; rw [← hV9]; clear hV9 A0)
  | (refine wpList_load_row rfl 27 _ rfl (w8.heap.size) rfl 27 ([Value.slice a15 mx c15, Value.slice b15 my d15]).toArray (0, 0) _ E15 Tryd.underlying27 rfl infoPt ?_)
  | (refine wpList_load_row rfl 27 _ rfl (w1.heap.size) rfl 27 ([Value.slice a6 mx c6, Value.slice b6 my d6]).toArray (0, 0) _ E6 Tryd.underlying27 rfl infoPt ?_))
 refine (eqPtC a15 a6 mx c15 c6 L b15 b6 my d15 d6 M _ (is_of_own o15x HBL.out) (is_of_own o6x HBL.out) (is_of_own o15y HBM.out) (is_of_own o6y HBM.out) (by omega) (by omega)).mono ?_
 rintro e w10 ⟨rfl, hb10⟩
 have z10 := hb10.size
 replace B := B.trans (hb10.mono B.size)
 replace kXv := kXv.kept hb10
 replace kYv := kYv.kept hb10
 replace o6x := own_below o6x hb10
 replace o6y := own_below o6y hb10
 replace E6 := E6.kept hb10
 replace o10x := own_below o10x hb10
 replace o10y := own_below o10y hb10
 replace E10 := E10.kept hb10
 replace o15x := own_below o15x hb10
 replace o15y := own_below o15y hb10
 replace E15 := E15.kept hb10
 clear hb10
 go_wp2_with (first
  | (refine wpList_load_row rfl 27 _ rfl (w3.heap.size) rfl 27 ([Value.slice a10 mx c10, Value.slice b10 my d10]).toArray (0, 0) _ E10 Tryd.underlying27 rfl infoPt ?_))
 refine (heldPtC a10 mx c10 b10 my d10 1 _ (is_of_own o10x HMx.out) (is_of_own o10y HMy.out) (by omega) (by omega) (by omega) (by omega)).mono ?_
 rintro e w11 ⟨rfl, hb11⟩
 have z11 := hb11.size
 replace B := B.trans (hb11.mono B.size)
 replace kXv := kXv.kept hb11
 replace kYv := kYv.kept hb11
 replace o6x := own_below o6x hb11
 replace o6y := own_below o6y hb11
 replace E6 := E6.kept hb11
 replace o10x := own_below o10x hb11
 replace o10y := own_below o10y hb11
 replace E10 := E10.kept hb11
 replace o15x := own_below o15x hb11
 replace o15y := own_below o15y hb11
 replace E15 := E15.kept hb11
 clear hb11
 go_wp2
 go_ret
 exact ⟨rfl, B⟩
end Go.Proofs.YtoblilngppjmhaaDoor
