/-
  What is proved here: the exact law of PtRead returns true at every argument, and writes into nothing that was there; where the program's variables hold what its text lays into them.
-/
import Derived.Test.YtoblilngppjmhaaDoorZUk
import Derived.Test.YtoblilngppjmhaaDoorZSmA
import Derived.Test.YtoblilngppjmhaaDoorZSmE
import Derived.Test.YtoblilngppjmhaaDoorZUtp
import Derived.Test.YtoblilngppjmhaaDoorZOhr
namespace Go.Proofs.YtoblilngppjmhaaDoor
open Go.RowKit
set_option maxRecDepth 100000

set_option maxHeartbeats 8000000 in
theorem walk_fnExactPtRead (w : World) (aA : Option Addr) (nA cA : Nat) (xsA : List Int) (hA : Bs w aA nA cA xsA) (kVv : Vr w 4 (I64 PL)) (kDv : Vr w 2 (I64 DL)) (kQv : Vr w 5 (I64 QL)) :
  Calls Tryd.prog 12 #[.slice aA nA cA] w fun e w' => e = .returned (.bool true) ∧ Below w.heap.size w w' := by
 by_cases hbig : 1048576 < (nA : Int)
 ·go_enter Tryd.func12, Tryd.ntmps12
  go_wp2
  go_ret
  exact ⟨rfl, Below.refl _ _⟩
 obtain ⟨R, hR⟩ : ∃ R, R = rdOk6 xsA := ⟨_, rfl⟩
 obtain ⟨L, hL⟩ : ∃ L, L = (rdX6 xsA) := ⟨_, rfl⟩
 obtain ⟨M, hM⟩ : ∃ M, M = (rdY6 xsA) := ⟨_, rfl⟩
 have HS : Hid (∀ (aA : Option Addr) (cA : Nat) (Z : World), Bs Z aA nA cA xsA → Calls Tryd.prog 50 #[.slice aA nA cA] Z fun e w' => ∃ v, e = .returned (.tuple #[v, .bool R]) ∧ PtT 3 Z w' v L M ∧ Below Z.heap.size Z w') := by
  unfold Hid; intro aA cA Z h; rw [hL, hM, hR]; exact specPtRead aA nA cA xsA Z h
 have HI : Hid (∀ (aA : Option Addr) (cA : Nat) (Z : World), Bs Z aA nA cA xsA → Vr Z 4 (I64 PL) → Vr Z 2 (I64 DL) → Vr Z 5 (I64 QL) → Calls Tryd.prog 30 #[.slice aA nA cA] Z fun e w' => ∃ v, e = .returned (.tuple #[v, .bool R]) ∧ PtT 70 Z w' v L M ∧ Below Z.heap.size Z w') := by
  unfold Hid; intro aA cA Z h vkVv vkDv vkQv; rw [hL, hM, hR]; exact implPtRead aA nA cA xsA Z h vkVv vkDv vkQv
 have HBL : Hid (∀ x ∈ L, -9223372036854775808 ≤ x ∧ x ≤ 9223372036854775807) := by unfold Hid; rw [hL]; exact rdX6_int _
 have hmx : L.length ≤ 32 := by rw [hL]; exact rdX6_le _
 obtain ⟨mx, hex⟩ : ∃ m, m = L.length := ⟨_, rfl⟩
 rw [← hex] at hmx
 have Hx : Hid (L.length = mx) := hex.symm
 have HBM : Hid (∀ x ∈ M, -9223372036854775808 ≤ x ∧ x ≤ 9223372036854775807) := by unfold Hid; rw [hM]; exact rdY6_int hA.2.2.2.1
 have hmy : M.length ≤ 32 := by rw [hM]; exact rdY6_le _
 obtain ⟨my, hey⟩ : ∃ m, m = M.length := ⟨_, rfl⟩
 rw [← hey] at hmy
 have Hy : Hid (M.length = my) := hey.symm
 clear hL hM hex hey hR
 have hRR : (R != R) = false := by simp
 have HXA : Hid _ := hA.2.2.2.1
 have htA : nA ≤ 1048576 := by omega
 have h0wkVv := kVv.lt
 have h0wkDv := kDv.lt
 have h0wkQv := kQv.lt
 have B : Below w.heap.size w w := Below.refl _ _
 go_enter Tryd.func12, Tryd.ntmps12
 go_wp2_with fail
 refine (toS aA nA cA xsA _ (hA.below B) (by omega)).mono ?_
 rintro e w1 ⟨yA6, kA6, rfl, _, hxyA6, hb1⟩
 have z1 := hb1.size
 replace B := B.trans (hb1.mono B.size)
 replace kVv := kVv.kept hb1
 replace kDv := kDv.kept hb1
 replace kQv := kQv.kept hb1
 clear hb1
 go_wp2_with fail
 refine (HS.out yA6 kA6 _ hxyA6 ).mono ?_
 rintro e w2 ⟨v6, rfl, ⟨a6, c6, b6, d6, rfl, o6x, o6y, ap6⟩, hb2⟩
 have z2 := hb2.size
 replace B := B.trans (hb2.mono B.size)
 replace kVv := kVv.kept hb2
 replace kDv := kDv.kept hb2
 replace kQv := kQv.kept hb2
 clear hb2
 clear hxyA6
 clear HS
 rw [Hx.out] at o6x ap6 ⊢
 rw [Hy.out] at o6y ap6 ⊢
 have io6x := In.of o6x
 have io6y := In.of o6y
 obtain ⟨bV, E6, A0, z3⟩ := laid_two w2 27 (.slice none 0 0) (.slice none 0 0) (.slice a6 mx c6) (.slice b6 my d6)
 obtain ⟨V3, hV3⟩ : ∃ V, V = (w2.alloc (.cells #[.slice none 0 0, .slice none 0 0] 27)).setRow w2.heap.size ([Value.slice a6 mx c6, Value.slice b6 my d6] : List Value).toArray := ⟨_, rfl⟩
 rw [← hV3] at bV E6 z3
 replace B := B.trans (bV.mono B.size)
 replace kVv := kVv.kept bV
 replace kDv := kDv.kept bV
 replace kQv := kQv.kept bV
 replace o6x := own_below o6x bV
 replace o6y := own_below o6y bV
 clear bV
 go_wp2_with (first
  | (refine wpList_store_row rfl 27 _ _ rfl w2.heap.size ([Value.slice a6 mx c6, Value.slice b6 my d6]).toArray rfl rfl 27 _ A0 infoPt rfl (by simp [Value.oneCell']) ?_; rw [← hV3]; clear hV3 A0))
 refine (toS aA nA cA xsA _ (hA.below B) (by omega)).mono ?_
 rintro e w4 ⟨pA, qA, rfl, oxA, hxpA, hb4⟩
 have z4 := hb4.size
 replace B := B.trans (hb4.mono B.size)
 replace kVv := kVv.kept hb4
 replace kDv := kDv.kept hb4
 replace kQv := kQv.kept hb4
 replace o6x := own_below o6x hb4
 replace o6y := own_below o6y hb4
 replace E6 := E6.kept hb4
 clear hb4
 clear hxpA
 have ioxA := In.of oxA
 go_wp2_with fail
 refine (HI.out pA qA _ (bs_of_own oxA HXA.out) kVv kDv kQv).mono ?_
 rintro e w5 ⟨v10, rfl, ⟨a10, c10, b10, d10, rfl, o10x, o10y, ap10⟩, hb5⟩
 have z5 := hb5.size
 replace B := B.trans (hb5.mono B.size)
 replace kVv := kVv.kept hb5
 replace kDv := kDv.kept hb5
 replace kQv := kQv.kept hb5
 replace o6x := own_below o6x hb5
 replace o6y := own_below o6y hb5
 replace E6 := E6.kept hb5
 replace oxA := own_below oxA hb5
 clear hb5
 rw [Hx.out] at o10x ap10 ⊢
 rw [Hy.out] at o10y ap10 ⊢
 have io10x := In.of o10x
 have io10y := In.of o10y
 obtain ⟨bV, E10, A0, z6⟩ := laid_two w5 27 (.slice none 0 0) (.slice none 0 0) (.slice a10 mx c10) (.slice b10 my d10)
 obtain ⟨V6, hV6⟩ : ∃ V, V = (w5.alloc (.cells #[.slice none 0 0, .slice none 0 0] 27)).setRow w5.heap.size ([Value.slice a10 mx c10, Value.slice b10 my d10] : List Value).toArray := ⟨_, rfl⟩
 rw [← hV6] at bV E10 z6
 replace B := B.trans (bV.mono B.size)
 replace kVv := kVv.kept bV
 replace kDv := kDv.kept bV
 replace kQv := kQv.kept bV
 replace o6x := own_below o6x bV
 replace o6y := own_below o6y bV
 replace E6 := E6.kept bV
 replace oxA := own_below oxA bV
 replace o10x := own_below o10x bV
 replace o10y := own_below o10y bV
 clear bV
 go_wp2_with (first
  | (refine wpList_store_row rfl 27 _ _ rfl w5.heap.size ([Value.slice a10 mx c10, Value.slice b10 my d10]).toArray rfl rfl 27 _ A0 infoPt rfl (by simp [Value.oneCell']) ?_; rw [← hV6]; clear hV6 A0)
  | (refine wpList_load_row rfl 27 _ rfl (w5.heap.size) rfl 27 ([Value.slice a10 mx c10, Value.slice b10 my d10]).toArray (0, 0) _ E10 Tryd.underlying27 rfl infoPt ?_)
  | (refine wpList_load_row rfl 27 _ rfl (w2.heap.size) rfl 27 ([Value.slice a6 mx c6, Value.slice b6 my d6]).toArray (0, 0) _ E6 Tryd.underlying27 rfl infoPt ?_))
 refine (eqPtC a10 a6 mx c10 c6 L b10 b6 my d10 d6 M _ (is_of_own o10x HBL.out) (is_of_own o6x HBL.out) (is_of_own o10y HBM.out) (is_of_own o6y HBM.out) (by omega) (by omega)).mono ?_
 rintro e w7 ⟨rfl, hb7⟩
 have z7 := hb7.size
 replace B := B.trans (hb7.mono B.size)
 replace kVv := kVv.kept hb7
 replace kDv := kDv.kept hb7
 replace kQv := kQv.kept hb7
 replace o6x := own_below o6x hb7
 replace o6y := own_below o6y hb7
 replace E6 := E6.kept hb7
 replace oxA := own_below oxA hb7
 replace o10x := own_below o10x hb7
 replace o10y := own_below o10y hb7
 replace E10 := E10.kept hb7
 clear hb7
 go_wp2_with fail
 refine (toS aA nA cA xsA _ (hA.below B) (by omega)).mono ?_
 rintro e w8 ⟨sA, tA, rfl, _, hxsA, hb8⟩
 have z8 := hb8.size
 replace B := B.trans (hb8.mono B.size)
 replace kVv := kVv.kept hb8
 replace kDv := kDv.kept hb8
 replace kQv := kQv.kept hb8
 replace o6x := own_below o6x hb8
 replace o6y := own_below o6y hb8
 replace E6 := E6.kept hb8
 replace oxA := own_below oxA hb8
 replace o10x := own_below o10x hb8
 replace o10y := own_below o10y hb8
 replace E10 := E10.kept hb8
 clear hb8
 go_wp2_with fail
 refine (eqB pA sA nA qA tA xsA _ (bs_of_own oxA HXA.out) hxsA (by omega)).mono ?_
 rintro e w9 ⟨_, rfl, hq9⟩
 have hb9 : Below w8.heap.size w8 w9 := by rw [hq9]; exact bel_drewN _ _
 have z9 := hb9.size
 replace B := B.trans (hb9.mono B.size)
 replace kVv := kVv.kept hb9
 replace kDv := kDv.kept hb9
 replace kQv := kQv.kept hb9
 replace o6x := own_below o6x hb9
 replace o6y := own_below o6y hb9
 replace E6 := E6.kept hb9
 replace oxA := own_below oxA hb9
 replace o10x := own_below o10x hb9
 replace o10y := own_below o10y hb9
 replace E10 := E10.kept hb9
 clear hb9 hq9
 clear hxsA
 go_wp2_with fail
 refine (markB _ nA _ (1) xsA _ oxA (by omega) (by omega) (by omega)).mono ?_
 rintro e w10 ⟨rfl, moxA, g10⟩
 have z10 := g10.size
 replace B := B.grown g10 B.size (fun k hk => by have := (ioxA k hk).1; omega)
 replace kVv := vr_mark kVv g10 ioxA (by omega)
 replace kDv := vr_mark kDv g10 ioxA (by omega)
 replace kQv := vr_mark kQv g10 ioxA (by omega)
 replace o6x := own_kept o6x g10 (ioxA.apart io6x (by omega))
 replace o6y := own_kept o6y g10 (ioxA.apart io6y (by omega))
 replace E6 := arr_mark E6 g10 ioxA (by omega)
 replace o10x := own_kept o10x g10 (ioxA.apart io10x (by omega))
 replace o10y := own_kept o10y g10 (ioxA.apart io10y (by omega))
 replace E10 := arr_mark E10 g10 ioxA (by omega)
 clear g10 oxA moxA
 have hk0 : ¬ (1 + (nA : Int) < 0) := by omega
 have cE100 : w10.cell? ⟨w5.heap.size, 0, none⟩ = some (Value.slice a10 mx c10) := E10.cell 0
 have cE101 : w10.cell? ⟨w5.heap.size, 1, none⟩ = some (Value.slice b10 my d10) := E10.cell 1
 have cE60 : w10.cell? ⟨w2.heap.size, 0, none⟩ = some (Value.slice a6 mx c6) := E6.cell 0
 have cE61 : w10.cell? ⟨w2.heap.size, 1, none⟩ = some (Value.slice b6 my d6) := E6.cell 1
 go_wp2_with fail
 clear cE100 cE101 cE60 cE61
 refine (eqPtC a10 a6 mx c10 c6 L b10 b6 my d10 d6 M _ (is_of_own o10x HBL.out) (is_of_own o6x HBL.out) (is_of_own o10y HBM.out) (is_of_own o6y HBM.out) (by omega) (by omega)).mono ?_
 rintro e w11 ⟨rfl, hb11⟩
 have z11 := hb11.size
 replace B := B.trans (hb11.mono B.size)
 replace kVv := kVv.kept hb11
 replace kDv := kDv.kept hb11
 replace kQv := kQv.kept hb11
 replace o6x := own_below o6x hb11
 replace o6y := own_below o6y hb11
 replace E6 := E6.kept hb11
 replace o10x := own_below o10x hb11
 replace o10y := own_below o10y hb11
 replace E10 := E10.kept hb11
 clear hb11
 go_wp2_with (first
  | (refine wpList_load_row rfl 27 _ rfl (w5.heap.size) rfl 27 ([Value.slice a10 mx c10, Value.slice b10 my d10]).toArray (0, 0) _ E10 Tryd.underlying27 rfl infoPt ?_))
 refine (markPtC _ mx (.slice a10 mx c10) _ _ my (.slice b10 my d10) _ (1) _ o10x o10y ap10 (by omega) (by omega) (by omega) (by omega)).mono ?_
 rintro e w12 ⟨rfl, M12, gx, gy, nx12, ny12⟩
 have zx12 := gx.size
 have zy12 := gy.size
 replace B := B.grown gx B.size (fun k hk => by have := (io10x k hk).1; omega)
 replace B := B.grown gy B.size (fun k hk => by have := (io10y k hk).1; omega)
 replace kVv := vr_mark kVv gx io10x (by omega)
 replace kVv := vr_mark kVv gy io10y (by omega)
 replace kDv := vr_mark kDv gx io10x (by omega)
 replace kDv := vr_mark kDv gy io10y (by omega)
 replace kQv := vr_mark kQv gx io10x (by omega)
 replace kQv := vr_mark kQv gy io10y (by omega)
 replace o6x := own_kept o6x gx (io10x.apart io6x (by omega))
 replace o6x := own_kept o6x gy (io10y.apart io6x (by omega))
 replace o6y := own_kept o6y gx (io10x.apart io6y (by omega))
 replace o6y := own_kept o6y gy (io10y.apart io6y (by omega))
 replace E6 := arr_mark E6 gx io10x (by omega)
 replace E6 := arr_mark E6 gy io10y (by omega)
 replace E10 := arr_mark E10 gx io10x (by omega)
 replace E10 := arr_mark E10 gy io10y (by omega)
 clear gx gy
 replace o10x := nx12
 replace o10y := ny12
 clear nx12 ny12
 have hm0 : ¬ ((1 : Int) + (mx : Int) + (my : Int) < 0) := by omega
 have hmm : ((1 : Int) + (mx : Int) + (my : Int) != 1 + (mx : Int) + (my : Int)) = false := by simp
 have HMx : Hid _ := marksI_int 1 mx (by omega) (by omega) (by omega)
 have HMy : Hid _ := marksI_int (1 + (mx : Int)) my (by omega) (by omega) (by omega)
 go_wp2_with (first
  | (refine wpList_load_row rfl 27 _ rfl (w5.heap.size) rfl 27 ([Value.slice a10 mx c10, Value.slice b10 my d10]).toArray (0, 0) _ E10 Tryd.underlying27 rfl infoPt ?_))
 refine (heldPtC a10 mx c10 b10 my d10 1 _ (is_of_own o10x HMx.out) (is_of_own o10y HMy.out) (by omega) (by omega) (by omega) (by omega)).mono ?_
 rintro e w13 ⟨rfl, hb13⟩
 have z13 := hb13.size
 replace B := B.trans (hb13.mono B.size)
 replace kVv := kVv.kept hb13
 replace kDv := kDv.kept hb13
 replace kQv := kQv.kept hb13
 replace o6x := own_below o6x hb13
 replace o6y := own_below o6y hb13
 replace E6 := E6.kept hb13
 replace o10x := own_below o10x hb13
 replace o10y := own_below o10y hb13
 replace E10 := E10.kept hb13
 clear hb13
 go_wp2_with fail
 refine (toS aA nA cA xsA _ (hA.below B) (by omega)).mono ?_
 rintro e w14 ⟨yA15, kA15, rfl, _, hxyA15, hb14⟩
 have z14 := hb14.size
 replace B := B.trans (hb14.mono B.size)
 replace kVv := kVv.kept hb14
 replace kDv := kDv.kept hb14
 replace kQv := kQv.kept hb14
 replace o6x := own_below o6x hb14
 replace o6y := own_below o6y hb14
 replace E6 := E6.kept hb14
 replace o10x := own_below o10x hb14
 replace o10y := own_below o10y hb14
 replace E10 := E10.kept hb14
 clear hb14
 go_wp2_with fail
 refine (HI.out yA15 kA15 _ hxyA15 kVv kDv kQv).mono ?_
 rintro e w15 ⟨v15, rfl, ⟨a15, c15, b15, d15, rfl, o15x, o15y, ap15⟩, hb15⟩
 have z15 := hb15.size
 replace B := B.trans (hb15.mono B.size)
 replace kVv := kVv.kept hb15
 replace kDv := kDv.kept hb15
 replace kQv := kQv.kept hb15
 replace o6x := own_below o6x hb15
 replace o6y := own_below o6y hb15
 replace E6 := E6.kept hb15
 replace o10x := own_below o10x hb15
 replace o10y := own_below o10y hb15
 replace E10 := E10.kept hb15
 clear hb15
 clear hxyA15
 rw [Hx.out] at o15x ap15 ⊢
 rw [Hy.out] at o15y ap15 ⊢
 have io15x := In.of o15x
 have io15y := In.of o15y
 obtain ⟨bV, E15, A0, z16⟩ := laid_two w15 27 (.slice none 0 0) (.slice none 0 0) (.slice a15 mx c15) (.slice b15 my d15)
 obtain ⟨V16, hV16⟩ : ∃ V, V = (w15.alloc (.cells #[.slice none 0 0, .slice none 0 0] 27)).setRow w15.heap.size ([Value.slice a15 mx c15, Value.slice b15 my d15] : List Value).toArray := ⟨_, rfl⟩
 rw [← hV16] at bV E15 z16
 replace B := B.trans (bV.mono B.size)
 replace kVv := kVv.kept bV
 replace kDv := kDv.kept bV
 replace kQv := kQv.kept bV
 replace o6x := own_below o6x bV
 replace o6y := own_below o6y bV
 replace E6 := E6.kept bV
 replace o10x := own_below o10x bV
 replace o10y := own_below o10y bV
 replace E10 := E10.kept bV
 replace o15x := own_below o15x bV
 replace o15y := own_below o15y bV
 clear bV
 go_wp2_with (first
  | (refine wpList_store_row rfl 27 _ _ rfl w15.heap.size ([Value.slice a15 mx c15, Value.slice b15 my d15]).toArray rfl rfl 27 _ A0 infoPt rfl (by simp [Value.oneCell']) ?_; rw [← hV16]; clear hV16 A0)
  | (refine wpList_load_row rfl 27 _ rfl (w15.heap.size) rfl 27 ([Value.slice a15 mx c15, Value.slice b15 my d15]).toArray (0, 0) _ E15 Tryd.underlying27 rfl infoPt ?_)
  | (refine wpList_load_row rfl 27 _ rfl (w2.heap.size) rfl 27 ([Value.slice a6 mx c6, Value.slice b6 my d6]).toArray (0, 0) _ E6 Tryd.underlying27 rfl infoPt ?_))
 refine (eqPtC a15 a6 mx c15 c6 L b15 b6 my d15 d6 M _ (is_of_own o15x HBL.out) (is_of_own o6x HBL.out) (is_of_own o15y HBM.out) (is_of_own o6y HBM.out) (by omega) (by omega)).mono ?_
 rintro e w17 ⟨rfl, hb17⟩
 have z17 := hb17.size
 replace B := B.trans (hb17.mono B.size)
 replace kVv := kVv.kept hb17
 replace kDv := kDv.kept hb17
 replace kQv := kQv.kept hb17
 replace o6x := own_below o6x hb17
 replace o6y := own_below o6y hb17
 replace E6 := E6.kept hb17
 replace o10x := own_below o10x hb17
 replace o10y := own_below o10y hb17
 replace E10 := E10.kept hb17
 replace o15x := own_below o15x hb17
 replace o15y := own_below o15y hb17
 replace E15 := E15.kept hb17
 clear hb17
 go_wp2_with (first
  | (refine wpList_load_row rfl 27 _ rfl (w5.heap.size) rfl 27 ([Value.slice a10 mx c10, Value.slice b10 my d10]).toArray (0, 0) _ E10 Tryd.underlying27 rfl infoPt ?_))
 refine (heldPtC a10 mx c10 b10 my d10 1 _ (is_of_own o10x HMx.out) (is_of_own o10y HMy.out) (by omega) (by omega) (by omega) (by omega)).mono ?_
 rintro e w18 ⟨rfl, hb18⟩
 have z18 := hb18.size
 replace B := B.trans (hb18.mono B.size)
 replace kVv := kVv.kept hb18
 replace kDv := kDv.kept hb18
 replace kQv := kQv.kept hb18
 replace o6x := own_below o6x hb18
 replace o6y := own_below o6y hb18
 replace E6 := E6.kept hb18
 replace o10x := own_below o10x hb18
 replace o10y := own_below o10y hb18
 replace E10 := E10.kept hb18
 replace o15x := own_below o15x hb18
 replace o15y := own_below o15y hb18
 replace E15 := E15.kept hb18
 clear hb18
 go_wp2
 go_ret
 exact ⟨rfl, B⟩
end Go.Proofs.YtoblilngppjmhaaDoor
