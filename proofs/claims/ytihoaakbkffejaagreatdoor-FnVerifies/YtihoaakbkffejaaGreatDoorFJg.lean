/-
  What is proved here: contracts of the program's methods bit, fieldSquares (and of the function; the contract of the program's fieldInverse; the contract of the program's limbsOf: whether a slice of ints is sixteen; the contract of the specification's l4fourth, and what an answer of the; the contract of the program's method list on limbs.
-/
import Derived.Test.YtihoaakbkffejaaGreatDoorFJd
import Derived.Test.YtihoaakbkffejaaGreatDoorFFsc
import Derived.Test.YtihoaakbkffejaaGreatDoorFUd
import Derived.Test.YtihoaakbkffejaaGreatDoorFJn
import Derived.Test.YtihoaakbkffejaaGreatDoorFFm
import Derived.Test.YtihoaakbkffejaaGreatDoorFFc
import Derived.Test.YtihoaakbkffejaaGreatDoorFUff
namespace Go.Proofs.YtihoaakbkffejaaGreatDoor
open Go.RowKit
set_option maxRecDepth 100000

set_option maxHeartbeats 1000000 in
theorem implBit (n : List Int) (j : Nat) (w : World) (hn : n.length = 16) (ln : Lm n) (hj : j < 256) :
  Calls Tryz.prog 42 #[.agg (I64 n).toArray, .int .i64 (j : Int)] w fun e w' => e = .returned (.int .i64 (n.getD (j / 16) 0 / 2 ^ (j % 16) % 2)) ∧ Below w.heap.size w w' := by
 obtain ⟨x, hx⟩ : ∃ x, x = n.getD (j / 16) 0 := ⟨_, rfl⟩
 have hxb := gD_lm ln (j / 16)
 rw [← hx] at hxb ⊢
 obtain ⟨W, hW⟩ : ∃ W, W = w.alloc (.cells (I64 n).toArray 65) := ⟨_, rfl⟩
 have g0 : Arr W w.heap.size 65 (I64 n) := by rw [hW]; exact Arr.new _ _ _
 have gB : Below w.heap.size w W := by rw [hW]; exact (Below.refl _ _).alloc (Nat.le_refl _) _
 have hcx : W.cell? ⟨w.heap.size, j / 16, none⟩ = some (.int .i64 x) := by rw [hx]; exact g0.i64 (j / 16) (by omega)
 obtain ⟨A, hA⟩ : ∃ A, A = (I64 n).toArray := ⟨_, rfl⟩
 rw [← hA] at hW ⊢
 have hc0 := hW ▸ hcx
 have HB : Hid _ := hW ▸ gB
 have hj0 : (0 : Int) ≤ (j : Int) := by omega
 have hj1 : (j : Int) / 16 < 16 := by omega
 have hj2 : (0 : Int) ≤ (j : Int) / 16 := by omega
 have hj16 : ((j : Int) / 16).toNat = j / 16 := by omega
 have hy0 : 0 ≤ x / 2 ^ (j % 16) := Int.ediv_nonneg hxb.1 (Int.le_of_lt (Int.pow_pos (by omega)))
 have hy1 : x / 2 ^ (j % 16) ≤ x := Int.ediv_le_self _ hxb.1
 have hand : bits .and .i64 (x / 2 ^ (j % 16)) 1 = x / 2 ^ (j % 16) % 2 := i64_low1 hy0 (by omega)
 clear hW g0 gB hcx hA hx
 go_enter Tryz.func42, Tryz.ntmps42
 go_wp2
 go_ret
 exact ⟨rfl, HB.out⟩

set_option maxHeartbeats 1000000 in
theorem implSquares (a : List Int) (w : World) :
  Calls Tryz.prog 145 #[.agg (I64 a).toArray] w fun e w' => e = .returned (.func (.func 148) #[] #[.pointer (some ⟨w.heap.size, 0, none⟩)]) ∧ Arr w' w.heap.size 65 (I64 a) ∧ Below w.heap.size w w' := by
 obtain ⟨W, hW⟩ : ∃ W, W = w.alloc (.cells (I64 a).toArray 65) := ⟨_, rfl⟩
 have g0 : Arr W w.heap.size 65 (I64 a) := by rw [hW]; exact Arr.new _ _ _
 have gB : Below w.heap.size w W := by rw [hW]; exact (Below.refl _ _).alloc (Nat.le_refl _) _
 obtain ⟨A, hA⟩ : ∃ A, A = (I64 a).toArray := ⟨_, rfl⟩
 rw [← hA] at hW ⊢
 have HA : Hid _ := hW ▸ g0
 have HB : Hid _ := hW ▸ gB
 clear hW g0 gB hA
 have hmf : ∀ (fn : Fn) (first cap : Array Value) (w : World), (Instr.makeFunc fn first cap).run Tryz.prog w = .ok (.func fn first cap) w := fun _ _ _ _ => rfl
 go_enter Tryz.func145, Tryz.ntmps145
 go_wp2
 go_ret
 exact ⟨rfl, HA.out, HB.out⟩

theorem red_lens (x : Int) : (red x).length = 16 ∧ Lm (red x) := ⟨red_len _, red_lm _⟩
theorem bel_grown {w W : World} (h : Below w.heap.size w W) (r : Option Nat) : w.grownBy W r := ⟨h.os, h.tape, h.output, h.size, fun i hi _ => h.block i hi⟩
theorem grown_row {w W : World} {g : Nat} (h : w.grownBy W (some g)) (cs : Array Value) : w.grownBy (W.setRow g cs) (some g) :=
 ⟨h.os, h.tape, h.output, by simpa using h.size, fun i hi hne => (setRow_other W g i cs (fun e => hne (by rw [e]))).trans (h.block i hi hne)⟩
theorem grown_above {w W : World} {g k : Nat} (h : w.grownBy W (some g)) (cs : Array Value) (hk : w.heap.size ≤ k) : w.grownBy (W.setRow k cs) (some g) :=
 ⟨h.os, h.tape, h.output, by simpa using h.size, fun i hi hne => (setRow_other W k i cs (by omega)).trans (h.block i hi hne)⟩

set_option maxHeartbeats 2000000 in
theorem implNextSquare (P : Nat) (n : List Int) (w : World) (hn : n.length = 16) (ln : Lm n) (hP : Arr w P 65 (I64 n)) (hV : Vr w 4 (I64 PL)) :
  Calls Tryz.prog 148 #[.pointer (some ⟨P, 0, none⟩)] w fun e w' => e = .returned (.agg (I64 n).toArray) ∧ Arr w' P 65 (I64 (red (val n * val n))) ∧ w.grownBy w' (some P) := by
 have hPl := hP.lt
 obtain ⟨S, hS⟩ : ∃ S, S = red (val n * val n) := ⟨_, rfl⟩
 have hSl : S.length = 16 := by rw [hS]; exact red_len _
 rw [← hS]
 have HPR : Hid (∀ Z, Vr Z 4 (I64 PL) → Calls Tryz.prog 98 #[.agg (I64 n).toArray, .agg (I64 n).toArray] Z fun e w' => e = .returned (.agg (I64 S).toArray) ∧ Below Z.heap.size Z w') := by
  unfold Hid; intro Z hZ; rw [hS]; exact implProduct n n Z hn hn ln ln hZ
 clear hS
 have hin : (Tryz.prog.info? 65).map (·.size) = some (I64 n).toArray.size := by simpa [hn] using infoL
 have his : (Tryz.prog.info? 65).map (·.size) = some (I64 S).toArray.size := by simpa [hSl] using infoL
 obtain ⟨W, hW⟩ : ∃ W, W = (w.alloc (.cells zV 65)).alloc (.cells zV 65) := ⟨_, rfl⟩
 have g1 : Arr W w.heap.size 65 (I64 Z16) := by rw [hW]; exact (Arr.new w (I64 Z16) _).alloc _
 have g2 : Arr W (w.heap.size + 1) 65 (I64 Z16) := by
  rw [hW]
  have := Arr.new (w.alloc (.cells (I64 Z16).toArray 65)) (I64 Z16) 65
  rw [World.size_alloc] at this
  exact this
 have gB : Below w.heap.size w W := by rw [hW]; exact ((Below.refl _ _).alloc (Nat.le_refl _) _).alloc (by simp) _
 have gP := hP.kept gB
 have gV := hV.kept gB
 obtain ⟨W2, hW2⟩ : ∃ W2, W2 = W.setRow (w.heap.size + 1) (I64 n).toArray := ⟨_, rfl⟩
 have k1 : Arr W2 w.heap.size 65 (I64 Z16) := by rw [hW2]; exact g1.rowOther _ _ (by omega)
 have k2 : Arr W2 (w.heap.size + 1) 65 (I64 n) := by rw [hW2]; exact g2.row _
 have kB : Below w.heap.size w W2 := by rw [hW2]; exact setRow_below gB _ _ (by omega)
 have kP := hP.kept kB
 have kV := hV.kept kB
 have hPa : Arr (w.alloc (.cells zV 65)) P 65 (I64 n) := hP.alloc _
 have g2' := hW ▸ g2
 have kP' := hW2 ▸ kP
 rw [hW] at kP'
 have HW : Hid _ := hW
 have HW2 : Hid _ := hW2
 clear g1 g2 gB gP gV hW hW2
 go_enter Tryz.func148, Tryz.ntmps148
 go_wp2_with (first
  | (refine wpList_load_row rfl 65 _ rfl P rfl 65 (I64 n).toArray (0, 0) _ hPa Tryz.underlying65 rfl hin ?_)
  | (refine wpList_store_row rfl 65 _ _ rfl (w.heap.size + 1) (I64 n).toArray rfl rfl 65 _ g2' hin (by simp [hn]) (by simp [Value.oneCell']) ?_)
  | (refine wpList_load_row rfl 65 _ rfl P rfl 65 (I64 n).toArray (0, 0) _ kP' Tryz.underlying65 rfl hin ?_))
 rw [← HW.out, ← HW2.out]
 clear HW HW2 hPa g2' kP'
 refine (HPR.out _ kV).mono ?_
 rintro e w1 ⟨rfl, hb1⟩
 have m1 := k1.kept hb1
 have m2 := k2.kept hb1
 have mB := kB.trans (hb1.mono kB.size)
 have mP := kP.kept hb1
 clear k1 k2 kB kP kV hb1 HPR hV
 have q1 := m1.rowOther P (I64 S).toArray (by omega)
 have q2 := m2.rowOther P (I64 S).toArray (by omega)
 have qP := mP.row (I64 S)
 have r1 := q1.row (I64 n)
 have rP := qP.rowOther w.heap.size (I64 n).toArray (by omega)
 have rG := grown_above (grown_row (bel_grown mB (some P)) (I64 S).toArray) (I64 n).toArray (Nat.le_refl w.heap.size)
 go_wp2_with (first
  | (refine wpList_store_row rfl 65 _ _ rfl P (I64 S).toArray rfl rfl 65 _ mP his (by simp [hSl, hn]) (by simp [Value.oneCell']) ?_)
  | (refine wpList_load_row rfl 65 _ rfl (w.heap.size + 1) rfl 65 (I64 n).toArray (0, 0) _ q2 Tryz.underlying65 rfl hin ?_)
  | (refine wpList_store_row rfl 65 _ _ rfl w.heap.size (I64 n).toArray rfl rfl 65 _ q1 hin (by simp [hn]) (by simp [Value.oneCell']) ?_))
 exact bodyPost_ret (results_cell_row rfl _ _ w.heap.size 65 (I64 n).toArray (0, 0) _ rfl r1 Tryz.underlying65 rfl hin) rfl ⟨rfl, rP, rG⟩

structure PW (w W : World) (P : Nat) (n r s : List Int) : Prop where
 fr : Below w.heap.size w W
 pn : Arr W (w.heap.size + 1) 65 (I64 n)
 pz : Arr W (w.heap.size + 2) 65 (I64 Z16)
 pr : Arr W (w.heap.size + 3) 65 (I64 r)
 ps : Arr W P 65 (I64 s)
 vr : Vr W 4 (I64 PL)
 lt : w.heap.size + 3 < P
 wz : 4 < w.heap.size
theorem PW.go {w A B : World} {P : Nat} {n r s : List Int} (h : PW w A P n r s) (hb : Below A.heap.size A B) : PW w B P n r s := ⟨h.fr.trans (hb.mono h.fr.size), h.pn.kept hb, h.pz.kept hb, h.pr.kept hb, h.ps.kept hb, h.vr.kept hb, h.lt, h.wz⟩
theorem arr_far {A B : World} {g k : Nat} {t : TypeId} {cs : List Value} (h : Arr A k t cs) (hg : A.grownBy B (some g)) (hne : k ≠ g) : Arr B k t cs := (hg.block k h.lt (fun e => by cases e; exact hne rfl)).trans h
theorem vr_far {A B : World} {g k : Nat} {cs : List Value} (h : Vr A k cs) (hg : A.grownBy B (some g)) (hne : k ≠ g) : Vr B k cs := by
 have hl := h.lt
 obtain ⟨t, z, h⟩ := h
 exact ⟨t, z, (hg.block k hl (fun e => by cases e; exact hne rfl)).trans h⟩
theorem PW.grow {w A B : World} {P : Nat} {n r s s' : List Int} (h : PW w A P n r s) (hg : A.grownBy B (some P)) (hs : Arr B P 65 (I64 s')) : PW w B P n r s' := by
 have h1 := h.lt
 exact ⟨h.fr.grown hg h.fr.size (fun j e => by cases e; omega), arr_far h.pn hg (by omega), arr_far h.pz hg (by omega), arr_far h.pr hg (by omega), hs, vr_far h.vr hg (by have := h.wz; omega), h1, h.wz⟩
theorem PW.put {w W : World} {P : Nat} {n r s : List Int} (h : PW w W P n r s) (q : List Int) : PW w (W.setRow (w.heap.size + 3) (I64 q).toArray) P n q s := by
 have h1 := h.lt
 have h2 := h.wz
 exact ⟨setRow_below h.fr _ _ (by omega), h.pn.rowOther _ _ (by omega), h.pz.rowOther _ _ (by omega), h.pr.row _, h.ps.rowOther _ _ (by omega), h.vr.rowOther _ (by omega), h1, h2⟩

theorem PW.above {w W : World} {P k : Nat} {n r s : List Int} (h : PW w W P n r s) (cs : Array Value) (hk : P < k) : PW w (W.setRow k cs) P n r s := by
 have h1 := h.lt
 have h2 := h.wz
 exact ⟨setRow_below h.fr _ _ (by omega), h.pn.rowOther _ _ (by omega), h.pz.rowOther _ _ (by omega), h.pr.rowOther _ _ (by omega), h.ps.rowOther _ _ (by omega), h.vr.rowOther _ (by omega), h1, h2⟩

theorem one_red : [1, 0, 0, 0, 0, 0, 0, 0, 0, 0, 0, 0, 0, 0, 0, 0] = red 1 := by decide

set_option maxHeartbeats 4000000 in
theorem implPower (a n : List Int) (w : World) (ha : feOk a = true) (hn : n.length = 16) (ln : Lm n) (hN : val n < 57896044618658097711785492504343953926634992332820282019728792003956564819968) (hV : Vr w 4 (I64 PL)) :
  Calls Tryz.prog 130 #[.agg (I64 a).toArray, .agg (I64 n).toArray] w fun e w' => e = .returned (.agg (I64 (red (val a ^ (val n).toNat))).toArray) ∧ Below w.heap.size w w' := by
 have h0w := hV.lt
 obtain ⟨la16, la, _⟩ := (feOk_iff a).1 ha
 have hbit := bit_at hn ln
 have hNb : (val n).toNat < 2 ^ 255 := by
  have h0 := val_nonneg (fun x hx => (ln x hx).1)
  omega
 obtain ⟨N, hNN⟩ : ∃ N, N = (val n).toNat := ⟨_, rfl⟩
 rw [← hNN] at hbit hNb ⊢
 obtain ⟨F, hF⟩ : ∃ F : Nat → List Int, ∀ m, F m = red (val a ^ (N % 2 ^ m)) := ⟨fun m => red (val a ^ (N % 2 ^ m)), fun _ => rfl⟩
 obtain ⟨G, hG⟩ : ∃ G : Nat → List Int, ∀ m, G m = red (val a ^ 2 ^ m) := ⟨fun m => red (val a ^ 2 ^ m), fun _ => rfl⟩
 have HFL : Hid (∀ m, (F m).length = 16 ∧ Lm (F m)) := by unfold Hid; intro m; rw [hF]; exact red_lens _
 have HGL : Hid (∀ m, (G m).length = 16 ∧ Lm (G m)) := by unfold Hid; intro m; rw [hG]; exact red_lens _
 have HG0 : Hid (a = G 0) := by unfold Hid; rw [hG, Nat.pow_zero, Int.pow_one]; exact (red_val ha).symm
 have HF0 : Hid ([1, 0, 0, 0, 0, 0, 0, 0, 0, 0, 0, 0, 0, 0, 0, 0] = F 0) := by unfold Hid; rw [hF, Nat.pow_zero, Nat.mod_one, Int.pow_zero]; exact one_red
 have HGS : Hid (∀ m, red (val (G m) * val (G m)) = G (m + 1)) := by unfold Hid; intro m; rw [hG, hG]; exact red_pow_sq _ _
 have HF1 : Hid (∀ j, j < 256 → n.getD (j / 16) 0 / 2 ^ (j % 16) % 2 = 1 → red (val (F j) * val (G j)) = F (j + 1)) := by
  unfold Hid
  intro j hj hb
  have h2 := hbit j hj
  rw [hb] at h2
  rw [hF, hF, hG]
  exact red_pow_bit _ _ _ (by omega)
 have HF2 : Hid (∀ j, j < 256 → n.getD (j / 16) 0 / 2 ^ (j % 16) % 2 ≠ 1 → F j = F (j + 1)) := by
  unfold Hid
  intro j hj hb
  have h2 := hbit j hj
  rw [hF, hF, pow_nobit N j (by omega)]
 have hres : red (val a ^ N) = F 255 := by rw [hF, Nat.mod_eq_of_lt hNb]
 rw [hres]
 clear hres hF hG hbit hNb hNN hN
 obtain ⟨W, hW⟩ : ∃ W, W = ((w.alloc (.cells (I64 a).toArray 65)).alloc (.cells (I64 n).toArray 65)).alloc (.cells zV 65) := ⟨_, rfl⟩
 have EE : L4 w W a n := by rw [hW]; exact L4.new a n hV
 have wz : W.heap.size = w.heap.size + 3 := by rw [hW]; simp
 obtain ⟨A, hA⟩ : ∃ A, A = (I64 a).toArray := ⟨_, rfl⟩
 obtain ⟨B, hB⟩ : ∃ B, B = (I64 n).toArray := ⟨_, rfl⟩
 rw [← hA, ← hB] at hW ⊢
 have hia : (Tryz.prog.info? 65).map (·.size) = some (I64 a).toArray.size := by simpa [la16] using infoL
 have hin : (Tryz.prog.info? 65).map (·.size) = some (I64 n).toArray.size := by simpa [hn] using infoL
 obtain ⟨Q, hQ⟩ : ∃ Q : List Int, Q = [1, 0, 0, 0, 0, 0, 0, 0, 0, 0, 0, 0, 0, 0, 0, 0] := ⟨_, rfl⟩
 obtain ⟨W3, hW3⟩ : ∃ W3, W3 = W.alloc (.cells #[.int .i64 1, .int .i64 0, .int .i64 0, .int .i64 0, .int .i64 0, .int .i64 0, .int .i64 0, .int .i64 0, .int .i64 0, .int .i64 0, .int .i64 0, .int .i64 0, .int .i64 0, .int .i64 0, .int .i64 0, .int .i64 0] 65) := ⟨_, rfl⟩
 have p3 : Arr W3 (w.heap.size + 3) 65 (I64 Q) := by
  rw [hW3, hQ]
  have := Arr.new W (I64 [1, 0, 0, 0, 0, 0, 0, 0, 0, 0, 0, 0, 0, 0, 0, 0]) 65
  rw [wz] at this
  exact this
 have E3 : L4 w W3 a n := by rw [hW3]; exact EE.go ((Below.refl _ _).alloc (Nat.le_refl _) _)
 have p0 := E3.l3.pa
 have p1 := E3.l3.pb
 have p2 := E3.l3.pr
 have pv := E3.vr
 have pB := E3.l3.fr
 have ps : W3.heap.size = w.heap.size + 4 := by rw [hW3]; simp [wz]
 have p0' := p0
 rw [hW3, hW] at p0'
 have HW : Hid _ := hW
 have HW3 : Hid _ := hW3
 have HQ : Hid _ := hQ
 have HPS : Hid _ := ps
 clear hA hB hV la hW hW3 hQ wz EE E3 ps
 go_enter Tryz.func130, Tryz.ntmps130
 go_wp2_with (refine wpList_load_row rfl 65 _ rfl w.heap.size rfl 65 (I64 a).toArray (0, 0) _ p0' Tryz.underlying65 rfl hia ?_)
 rw [← HW.out, ← HW3.out]
 clear p0'
 refine (implSquares a _).mono ?_
 rintro e w1 ⟨rfl, hs1, hb1⟩
 have PP : PW w w1 W3.heap.size n Q a := ⟨pB.trans (hb1.mono pB.size), p1.kept hb1, p2.kept hb1, p3.kept hb1, hs1, pv.kept hb1, by rw [HPS.out]; omega, h0w⟩
 obtain ⟨P, hP⟩ : ∃ P, P = W3.heap.size := ⟨_, rfl⟩
 rw [← hP] at PP ⊢
 rw [HQ.out, HF0.out] at PP
 have PP0 : PW w w1 P n (F 0) (G 0) := HG0.out ▸ PP
 clear PP
 clear hs1 hb1 p0 p1 p2 p3 pv pB HW HW3 HQ HPS hP HF0 HG0 ha hia
 go_wp2
 go_loopw [12] (fun i wr => ∃ k : Nat, k ≤ 255 ∧ i = .int .i64 k ∧ PW w wr P n (F k) (G k)) (fun i _ => 255 - (intOf i).toNat)
 case atStart => exact ⟨0, by omega, rfl, PP0⟩
 case round =>
  clear PP0
  obtain ⟨k, hk, rfl, PP⟩ := hrel
  obtain ⟨R, hR⟩ : ∃ R, R = F k := ⟨_, rfl⟩
  have hRl : R.length = 16 := by rw [hR]; exact (HFL.out k).1
  have hRm : Lm R := by rw [hR]; exact (HFL.out k).2
  have hir : (Tryz.prog.info? 65).map (·.size) = some (I64 R).toArray.size := by simpa [hRl] using infoL
  rw [← hR] at PP
  have HR : Hid _ := hR
  clear hR
  by_cases hlt : k < 255
  ·have hk' : (k : Int) < 255 := by omega
   obtain ⟨S, hS⟩ : ∃ S, S = G k := ⟨_, rfl⟩
   have hSl : S.length = 16 := by rw [hS]; exact (HGL.out k).1
   have hSm : Lm S := by rw [hS]; exact (HGL.out k).2
   have his : (Tryz.prog.info? 65).map (·.size) = some (I64 S).toArray.size := by simpa [hSl] using infoL
   have HGN : Hid (red (val S * val S) = G (k + 1)) := by unfold Hid; rw [hS]; exact HGS.out k
   rw [← hS] at PP
   have HS : Hid _ := hS
   clear hS
   go_wp2_with fail
   refine (implNextSquare P S _ hSl hSm PP.ps PP.vr).mono ?_
   rintro e w2 ⟨rfl, hs2, hg2⟩
   rw [HGN.out] at hs2
   replace PP := PP.grow hg2 hs2
   clear hs2 hg2 HGN
   have hPV := PP.ps.lt
   obtain ⟨V, hVV⟩ : ∃ V, V = w2.alloc (.cells zV 65) := ⟨_, rfl⟩
   have v8 : Arr V w2.heap.size 65 (I64 Z16) := by rw [hVV]; exact Arr.new w2 (I64 Z16) _
   replace PP : PW w V P n R (G (k + 1)) := by rw [hVV]; exact PP.go ((Below.refl _ _).alloc (Nat.le_refl _) _)
   have v8' := hVV ▸ v8
   obtain ⟨V2, hV2⟩ : ∃ V2, V2 = V.setRow w2.heap.size (I64 S).toArray := ⟨_, rfl⟩
   have u8 : Arr V2 w2.heap.size 65 (I64 S) := by rw [hV2]; exact v8.row _
   replace PP : PW w V2 P n R (G (k + 1)) := by rw [hV2]; exact PP.above _ hPV
   have HV2 : Hid (V2 = (w2.alloc (.cells zV 65)).setRow w2.heap.size (I64 S).toArray) := by unfold Hid; rw [hV2, hVV]
   have pn' := PP.pn
   rw [HV2.out] at pn'
   clear hVV hV2 v8
   go_wp2_with (first
    | (refine wpList_store_row rfl 65 _ _ rfl w2.heap.size (I64 S).toArray rfl rfl 65 _ v8' his (by simp [hSl]) (by simp [Value.oneCell']) ?_)
    | (refine wpList_load_row rfl 65 _ rfl (w.heap.size + 1) rfl 65 (I64 n).toArray (0, 0) _ pn' Tryz.underlying65 rfl hin ?_))
   rw [← HV2.out]
   clear v8' pn' HV2
   refine (implBit n k _ hn ln (by omega)).mono ?_
   rintro e w3 ⟨rfl, hb3⟩
   replace PP := PP.go hb3
   have q8 := u8.kept hb3
   clear u8 hb3
   obtain ⟨E8, hE8⟩ : ∃ E8, E8 = w2.heap.size := ⟨_, rfl⟩
   rw [← hE8] at q8 hPV ⊢
   clear hE8
   by_cases hbt : n.getD (k / 16) 0 / 2 ^ (k % 16) % 2 = 1
   ·have HN : Hid (red (val R * val S) = F (k + 1)) := by unfold Hid; rw [HR.out, HS.out]; exact HF1.out k (by omega) hbt
    rw [hbt]
    clear hbt
    have hpr := PP.pr
    go_wp2_with (first
     | (refine wpList_load_row rfl 65 _ rfl (w.heap.size + 3) rfl 65 (I64 R).toArray (0, 0) _ hpr Tryz.underlying65 rfl hir ?_)
     | (refine wpList_load_row rfl 65 _ rfl E8 rfl 65 (I64 S).toArray (0, 0) _ q8 Tryz.underlying65 rfl his ?_))
    refine (implProduct R S _ hRl hSl hRm hSm PP.vr).mono ?_
    rintro e w4 ⟨rfl, hb4⟩
    replace PP := PP.go hb4
    clear hb4 hpr q8
    rw [HN.out]
    obtain ⟨T, hT⟩ : ∃ T, T = F (k + 1) := ⟨_, rfl⟩
    have hTl : T.length = 16 := by rw [hT]; exact (HFL.out _).1
    have hit : (Tryz.prog.info? 65).map (·.size) = some (I64 T).toArray.size := by simpa [hTl] using infoL
    rw [← hT]
    have hpr := PP.pr
    have PQ := PP.put T
    have HPQ : Hid (PW w (w4.setRow (w.heap.size + 3) (I64 T).toArray) P n (F (k + 1)) (G (k + 1))) := by unfold Hid; rw [← hT]; exact PQ
    clear PQ PP hT HN
    go_wp2_with (refine wpList_store_row rfl 65 _ _ rfl (w.heap.size + 3) (I64 T).toArray rfl rfl 65 _ hpr hit (by simp [hTl, hRl]) (by simp [Value.oneCell']) ?_)
    clear hpr
    go_roundw
    case rel => exact ⟨k + 1, by omega, by go_num, HPQ.out⟩
    case measure => simp [intOf]; omega
   ·have HN : Hid (R = F (k + 1)) := by unfold Hid; rw [HR.out]; exact HF2.out k (by omega) hbt
    obtain ⟨z, hz⟩ : ∃ z, z = n.getD (k / 16) 0 / 2 ^ (k % 16) % 2 := ⟨_, rfl⟩
    rw [← hz] at hbt ⊢
    clear hz
    have hbf : (z == 1) = false := by simp [hbt]
    go_wp2
    go_roundw
    case rel => exact ⟨k + 1, by omega, by go_num, HN.out ▸ PP⟩
    case measure => simp [intOf]; omega
  ·obtain rfl : k = 255 := by omega
   have hpr := PP.pr
   have hpz := PP.pz
   have hr := hpz.row (I64 R)
   have hbl := setRow_below PP.fr (w.heap.size + 2) (I64 R).toArray (by omega)
   clear PP
   go_wp2_with (first
    | (refine wpList_load_row rfl 65 _ rfl (w.heap.size + 3) rfl 65 (I64 R).toArray (0, 0) _ hpr Tryz.underlying65 rfl hir ?_)
    | (refine wpList_store_row rfl 65 _ _ rfl (w.heap.size + 2) (I64 R).toArray rfl rfl 65 _ hpz hir (by simp [hRl]) (by simp [Value.oneCell']) ?_))
   exact bodyPost_ret (results_cell_row rfl _ _ (w.heap.size + 2) 65 (I64 R).toArray (0, 0) _ rfl hr Tryz.underlying65 rfl hir) rfl ⟨by rw [HR.out], hbl⟩
theorem two_val : val [2, 0, 0, 0, 0, 0, 0, 0, 0, 0, 0, 0, 0, 0, 0, 0] = 2 := by decide
theorem two_lm : Lm [2, 0, 0, 0, 0, 0, 0, 0, 0, 0, 0, 0, 0, 0, 0, 0] := by unfold Lm; decide
theorem inv_exp : lim 16 (P25519 - 2) = tk16 PL (lim 16 2) := by
 rw [tk16_lim PL_len two_len, PL_val, val_lim]
 rfl
set_option maxHeartbeats 2000000 in
theorem implInverse (a : List Int) (w : World) (ha : feOk a = true) (hV : Vr w 4 (I64 PL)) :
  Calls Tryz.prog 101 #[.agg (I64 a).toArray] w fun e w' => e = .returned (.agg (I64 (invF a)).toArray) ∧ Below w.heap.size w w' := by
 obtain ⟨la16, la, va⟩ := (feOk_iff a).1 ha
 obtain ⟨R, hR⟩ : ∃ R, R = invF a := ⟨_, rfl⟩
 have hRl : R.length = 16 := by rw [hR]; exact red_len _
 obtain ⟨tl, tm, tv⟩ := tk_two
 rw [← inv_exp] at tl tm tv
 obtain ⟨T, hT⟩ : ∃ T, T = lim 16 (P25519 - 2) := ⟨_, rfl⟩
 rw [← hT] at tl tm tv
 have HM : Hid (∀ Z, Calls Tryz.prog 129 #[.agg (I64 PL).toArray, .agg #[.int .i64 2, .int .i64 0, .int .i64 0, .int .i64 0, .int .i64 0, .int .i64 0, .int .i64 0, .int .i64 0, .int .i64 0, .int .i64 0, .int .i64 0, .int .i64 0, .int .i64 0, .int .i64 0, .int .i64 0, .int .i64 0]] Z fun e w' => e = .returned (.agg (I64 T).toArray) ∧ Below Z.heap.size Z w') := by
  unfold Hid; intro Z
  have := implMinus PL [2, 0, 0, 0, 0, 0, 0, 0, 0, 0, 0, 0, 0, 0, 0, 0] Z PL_len rfl PL_lm two_lm
  rw [minus_lim PL_len rfl (by rw [PL_val, two_val]; decide) (by rw [PL_val, two_val]; decide), PL_val, two_val, ← hT] at this
  exact this
 have HPW : Hid (∀ Z, Vr Z 4 (I64 PL) → Calls Tryz.prog 130 #[.agg (I64 a).toArray, .agg (I64 T).toArray] Z fun e w' => e = .returned (.agg (I64 R).toArray) ∧ Below Z.heap.size Z w') := by
  unfold Hid; intro Z hZ
  have hv : val T < 57896044618658097711785492504343953926634992332820282019728792003956564819968 := by
   rw [hT, val_pl (by decide) (by decide)]; decide
  have := implPower a T Z ha tl tm hv hZ
  rw [tv] at this
  rw [hR]
  exact this
 rw [← hR]
 obtain ⟨W, hW⟩ : ∃ W, W = (w.alloc (.cells (I64 a).toArray 65)).alloc (.cells zV 65) := ⟨_, rfl⟩
 have EE : L2 w W.drew a := by
  have : L2 w W a := by rw [hW]; exact L2.new a hV
  exact this.go (Below.refl _ _).drew
 obtain ⟨A, hA⟩ : ∃ A, A = (I64 a).toArray := ⟨_, rfl⟩
 rw [← hA] at hW ⊢
 have hia : (Tryz.prog.info? 65).map (·.size) = some (I64 a).length := by simpa [la16] using infoL
 have hip : (Tryz.prog.info? 65).map (·.size) = some (I64 PL).length := infoL
 have hir : (Tryz.prog.info? 65).map (·.size) = some (I64 R).toArray.size := by simpa [hRl] using infoL
 have hu : Tryz.prog.underlying 65 = some (.array 16 3) := Tryz.underlying65
 have hone := one_lm R
 clear hA hV hR hT ha la va tl tm tv
 go_enter Tryz.func101, Tryz.ntmps101
 go_wp2
 rw [← hW]
 clear hW
 refine wp_region_held_drew (S := fun W => W.rangeAt w.heap.size 0 (I64 a) ∧ W.rangeAt 4 0 (I64 PL)) (by kernel_rfl) EE.all (fun hHeld => ?_)
 refine wpAnyH_take (i := 0) (oi := { dst := some 3, op := Op.load 65 (Operand.tmp 1), type := 65, pos := "l04_field.go:260", after := #[], guard := none }) (v := _) rfl (by kernel_rfl) (by kernel_rfl) (by kernel_rfl) (fun _ _ _ h => h) (yieldsIf_load_mid (by rfl) _ _ rfl _ _ rfl (I64 a) _ (fun _ h => h.1) hu rfl hia) (by assumption) ?_
 simp only [aP]
 refine wpAnyH_take (i := 1) (oi := { dst := some 4, op := Op.load 65 (Operand.global 4), type := 65, pos := "l04_field.go:260", after := #[], guard := none }) (v := _) rfl (by kernel_rfl) (by kernel_rfl) (by kernel_rfl) (fun _ _ _ h => h) (yieldsIf_load_mid (by rfl) _ _ rfl _ _ rfl (I64 PL) _ (fun _ h => h.2) hu rfl hip) (by assumption) ?_
 simp only [aP]
 refine wpAnyH_ready (rs := [2]) (by kernel_rfl) (by simp) (AllReadyH.cons (o := { dst := some 5, op := Op.build 65 #[(0, Operand.const (Value.int IntKind.i64 2))], type := 65, pos := "l04_field.go:260", after := #[], guard := none }) rfl (fun K hK => ?_) AllReadyH.nil)
 go_simp
 refine hK.out _ _ EE.all (fun hHeld => ?_)
 clear hK K
 refine wpAnyH_ready (rs := [3]) (by kernel_rfl) (by simp) (AllReadyH.cons (o := { dst := some 6, op := Op.call { callee := Callee.value (Operand.func 129), args := #[Operand.tmp 4, Operand.tmp 5], argTypes := #[65, 65] }, type := 65, pos := "l04_field.go:260", after := #[{ on := 1, ground := Ground.data }, { on := 2, ground := Ground.data }], guard := none }) rfl (fun K hK => ?_) AllReadyH.nil)
 go_simp
 refine (HM.out _).mono ?_
 rintro e w1 ⟨rfl, hb1⟩
 replace EE := EE.go hb1
 go_wp2_with fail
 refine hK.out _ _ EE.all (fun hHeld => ?_)
 clear hK K hb1
 refine wpAnyH_ready (rs := [4]) (by kernel_rfl) (by simp) (AllReadyH.cons (o := { dst := some 7, op := Op.call { callee := Callee.value (Operand.func 130), args := #[Operand.tmp 3, Operand.tmp 6], argTypes := #[65, 65] }, type := 65, pos := "l04_field.go:260", after := #[{ on := 0, ground := Ground.data }, { on := 3, ground := Ground.data }, { on := 3, ground := Ground.chain }], guard := none }) rfl (fun K hK => ?_) AllReadyH.nil)
 go_simp
 refine (HPW.out _ EE.vr).mono ?_
 rintro e w2 ⟨rfl, hb2⟩
 replace EE := EE.go hb2
 go_wp2_with fail
 refine hK.out _ _ EE.all (fun hHeld => ?_)
 clear hK K hb2
 obtain ⟨hA5, hB5, hS5, hth⟩ := EE.put hRl
 refine wpAnyH_ready (rs := [5]) (by kernel_rfl) (by simp) (AllReadyH.cons (o := { dst := none, op := Op.store 65 (Operand.tmp 2) (Operand.tmp 7), type := 0, pos := "l04_field.go:260", after := #[{ on := 4, ground := Ground.data }, { on := 4, ground := Ground.chain }, { on := 0, ground := Ground.phase }, { on := 1, ground := Ground.phase }, { on := 2, ground := Ground.phase }, { on := 3, ground := Ground.phase }, { on := 4, ground := Ground.phase }], guard := none }) rfl (fun K hK => ?_) AllReadyH.nil)
 rw [if_pos (by rfl)]
 refine wp_store_mid _ _ _ rfl _ _ (I64 R).toArray rfl rfl hth hir (all_oneCell_toArray hone) ?_
 simp only [Act.put]
 refine hK.out _ _ hS5 (fun hHeld => ?_)
 clear hK K
 refine wpAnyH_done (by kernel_rfl) ?_ _
 go_wp2
 exact bodyPost_ret (results_cell_row rfl _ _ (w.heap.size + 1) 65 (I64 R).toArray (0, 0) _ rfl hA5 Tryz.underlying65 rfl hir) rfl ⟨rfl, hB5⟩

theorem run_eqL (a b : List Int) (w : World) (ha : a.length = 16) (hb : b.length = 16) :
  (Op.equalIn 10000 65 (.agg (I64 a).toArray) (.agg (I64 b).toArray)).run Tryz.prog w = .ok (decide (a = b)) w := by
 obtain ⟨i, hi⟩ : ∃ i, Tryz.prog.info? 3 = some i := by
  cases h : Tryz.prog.info? 3 with
  | some i => exact ⟨i, rfl⟩
  | none => have := infoI; rw [h] at this; simp at this
 have hc : Tryz.prog.cellsOf 3 = 1 := by unfold Program.cellsOf; rw [infoI]; rfl
 rw [run_equalIn_array w 9999 _ _ Tryz.underlying65 hi, hc, run_eqItems_i64 a b 9998 w _ (fun i h => by have := List.mem_range.1 h; omega), all_range ha hb]
def lmOk (l : List Int) : Bool := decide (l.length = 16) && l.all (fun x => decide (0 ≤ x ∧ x < 65536))
def lmL (l : List Int) : List Int := if lmOk l = true then l else Z16
theorem lmOk_iff (l : List Int) : lmOk l = true ↔ l.length = 16 ∧ Lm l := by
 unfold lmOk Lm
 simp only [Bool.and_eq_true, decide_eq_true_eq, List.all_eq_true]
theorem lmL_len (l : List Int) : (lmL l).length = 16 := by
 unfold lmL
 split
 ·rename_i h; exact ((lmOk_iff l).1 h).1
 ·rfl
theorem lmOk_no {xs : List Int} {k : Nat} (h : ¬ (0 ≤ xs.getD k 0 ∧ xs.getD k 0 < 65536)) : lmOk xs = false := by
 cases e : lmOk xs with
 | false => rfl
 | true => exact absurd (gD_lm ((lmOk_iff xs).1 e).2 k) h

set_option maxHeartbeats 2000000 in
theorem implLimbsOf (a : Option Addr) (n c : Nat) (xs : List Int) (w : World) (hx : Is w a n c xs) :
  Calls Tryz.prog 64 #[.slice a n c] w fun e w' => e = .returned (.tuple #[.agg (I64 (lmL xs)).toArray, .bool (lmOk xs)]) ∧ Below w.heap.size w w' := by
 obtain ⟨_, hl, hc, hr, hx⟩ := hx
 obtain ⟨L, hL⟩ : ∃ L, L = lmL xs := ⟨_, rfl⟩
 obtain ⟨r, hrr⟩ : ∃ r, r = lmOk xs := ⟨_, rfl⟩
 have HLr : Hid (L = if r = true then xs else Z16) := by unfold Hid; rw [hL, hrr]; rfl
 have HRR : Hid _ := hrr
 rw [← hL, ← hrr]
 clear hL hrr
 obtain ⟨W, hW⟩ : ∃ W, W = (w.alloc (.cells zV 65)).alloc (.cells zV 65) := ⟨_, rfl⟩
 have g1 : Arr W w.heap.size 65 (I64 Z16) := by rw [hW]; exact (Arr.new w (I64 Z16) _).alloc _
 have g0 : Arr W (w.heap.size + 1) 65 (I64 (xs.take 0 ++ Z16.drop 0)) := by
  rw [hW]
  have := Arr.new (w.alloc (.cells (I64 Z16).toArray 65)) (I64 Z16) 65
  rw [World.size_alloc] at this
  exact this
 have gB : Below w.heap.size w W := by rw [hW]; exact ((Below.refl _ _).alloc (Nat.le_refl _) _).alloc (by simp) _
 by_cases hn : n = 16
 rotate_left
 ·have hf : r = false := by rw [HRR.out]; unfold lmOk; simp [show ¬ xs.length = 16 by omega]
  have HE : Hid (L = Z16) := by unfold Hid; rw [HLr.out, hf]; rfl
  have hn' : ((n : Int) != 16) = true := by simp; omega
  have hn'' : ¬ ((n : Int) = 16) := by omega
  have g0' : Arr ((w.alloc (.cells zV 65)).alloc (.cells zV 65)) (w.heap.size + 1) 65 (I64 Z16) := hW ▸ g0
  have g1' := hW ▸ g1
  have h2 := g1'.row (I64 Z16)
  have HB := setRow_below (hW ▸ gB) w.heap.size (I64 Z16).toArray (Nat.le_refl _)
  clear hx hr HRR HLr g0 g1 gB hW
  go_enter Tryz.func64, Tryz.ntmps64
  go_wp2_with (first
   | (refine wpList_load_row rfl 65 _ rfl (w.heap.size + 1) rfl 65 (I64 Z16).toArray (0, 0) _ g0' Tryz.underlying65 rfl infoL ?_)
   | (refine wpList_store_row rfl 65 _ _ rfl w.heap.size (I64 Z16).toArray rfl rfl 65 _ g1' infoL rfl (by simp [Value.oneCell']) ?_))
  exact bodyPost_ret (results_row_tmp (v := .bool false) (cs := I64 Z16) rfl rfl rfl h2 Tryz.underlying65 rfl infoL) rfl ⟨by first | rw [hf, HE.out] | rw [HE.out], HB⟩
 subst hn
 rcases hx with hx | ⟨b, o, rfl, hbs, hcell⟩
 ·omega
 go_enter Tryz.func64, Tryz.ntmps64
 go_wp2
 rw [← hW]
 clear hW
 go_loopw [13] (fun i wr => ∃ k : Nat, k ≤ 16 ∧ i = .int .i64 k ∧ (∀ j, j < k → 0 ≤ xs.getD j 0 ∧ xs.getD j 0 < 65536) ∧ Arr wr (w.heap.size + 1) 65 (I64 (xs.take k ++ Z16.drop k)) ∧ Arr wr w.heap.size 65 (I64 Z16) ∧ Below w.heap.size w wr) (fun i _ => 16 - (intOf i).toNat)
 case atStart => exact ⟨0, by omega, rfl, fun j hj => by omega, g0, g1, gB⟩
 case round =>
  clear g0 g1 gB
  obtain ⟨k, hk, rfl, hin, g0, g1, gB⟩ := hrel
  have hfl : (xs.take k).length = k := by simp; omega
  by_cases hlt : k < 16
  ·obtain ⟨x, hx⟩ : ∃ x, x = xs.getD k 0 := ⟨_, rfl⟩
   have hck : wr.cell? ⟨b, o + k, none⟩ = some (.int .i64 x) := by rw [hx]; exact (gB.cell (p := ⟨b, o + k, none⟩) hbs).trans (hcell k hlt)
   have hk16 : (k : Int) < 16 := by omega
   have hk0 : (0 : Int) ≤ (k : Int) := by omega
   by_cases hgood : 0 ≤ x ∧ x < 65536
   ·obtain ⟨hx0, hx1⟩ := hgood
    have hn0 : ¬ x < 0 := by omega
    have hn1 : ¬ (65535 : Int) < x := by omega
    obtain ⟨u, hu⟩ : ∃ u, wr.cell? ⟨w.heap.size + 1, k, none⟩ = some u := by
     rw [g0.cell k]
     exact ⟨_, List.getElem?_eq_getElem (by simp [hl]; omega)⟩
    have hfz := g0.frozen k
    have hts := take_app xs k (by omega)
    have g0' := g0.set k (.int .i64 x)
    rw [set_app hfl (show k < Z16.length from hlt), hx, ← hts, ← hx] at g0'
    have g1' := g1.other ⟨w.heap.size + 1, k, none⟩ (.int .i64 x) (by simp)
    have gB' := gB.setCell (p := ⟨w.heap.size + 1, k, none⟩) (by simp) (.int .i64 x)
    have hin' : ∀ j, j < k + 1 → 0 ≤ xs.getD j 0 ∧ xs.getD j 0 < 65536 := by
     intro j hj
     by_cases e : j = k
     ·subst e; rw [← hx]; exact ⟨hx0, hx1⟩
     ·exact hin j (by omega)
    have H0 : Hid _ := g0'
    have H1 : Hid _ := g1'
    have HB : Hid _ := gB'
    have HI : Hid _ := hin'
    clear g0' g1' gB' hin' g0 g1 gB hin hx hts hcell hr
    go_wp2
    go_roundw
    case rel => exact ⟨k + 1, by omega, by go_num, HI.out, H0.out, H1.out, HB.out⟩
    case measure => simp [intOf]; omega
   ·have hf : r = false := by rw [HRR.out]; exact lmOk_no (k := k) (by rw [← hx]; exact hgood)
    have HE : Hid (L = Z16) := by unfold Hid; rw [HLr.out, hf]; rfl
    have h2 := g1.row (I64 Z16)
    have HB := setRow_below gB w.heap.size (I64 Z16).toArray (Nat.le_refl _)
    clear hin hx hcell hr g0
    by_cases hx0 : x < 0
    ·go_wp2_with (refine wpList_store_row rfl 65 _ _ rfl w.heap.size (I64 Z16).toArray rfl rfl 65 _ g1 infoL rfl (by simp [Value.oneCell']) ?_)
     exact bodyPost_ret (results_row_tmp (v := .bool false) (cs := I64 Z16) rfl rfl rfl h2 Tryz.underlying65 rfl infoL) rfl ⟨by first | rw [hf, HE.out] | rw [HE.out], HB⟩
    ·have hx1 : (65535 : Int) < x := by omega
     go_wp2_with (refine wpList_store_row rfl 65 _ _ rfl w.heap.size (I64 Z16).toArray rfl rfl 65 _ g1 infoL rfl (by simp [Value.oneCell']) ?_)
     exact bodyPost_ret (results_row_tmp (v := .bool false) (cs := I64 Z16) rfl rfl rfl h2 Tryz.underlying65 rfl infoL) rfl ⟨by first | rw [hf, HE.out] | rw [HE.out], HB⟩
  ·obtain rfl : k = 16 := by omega
   rw [List.take_of_length_le (by omega), show Z16.drop 16 = [] from rfl, List.append_nil] at g0
   have hf : r = true := by rw [HRR.out]; exact (lmOk_iff xs).2 ⟨hl, lm_of hl hin⟩
   have hE : L = xs := by rw [HLr.out, hf]; rfl
   have hix : (Tryz.prog.info? 65).map (·.size) = some (I64 xs).toArray.size := by simpa [hl] using infoL
   have h2 := g1.row (I64 xs)
   have HB := setRow_below gB w.heap.size (I64 xs).toArray (Nat.le_refl _)
   have HE : Hid _ := hE
   clear hin hcell hr hfl hE
   go_wp2_with (first
    | (refine wpList_load_row rfl 65 _ rfl (w.heap.size + 1) rfl 65 (I64 xs).toArray (0, 0) _ g0 Tryz.underlying65 rfl hix ?_)
    | (refine wpList_store_row rfl 65 _ _ rfl w.heap.size (I64 xs).toArray rfl rfl 65 _ g1 hix (by simp [hl]) (by simp [Value.oneCell']) ?_))
   exact bodyPost_ret (results_row_tmp (v := .bool true) (cs := I64 xs) rfl rfl rfl h2 Tryz.underlying65 rfl (by simpa [hl] using infoL)) rfl ⟨by first | rw [hf, HE.out] | rw [HE.out], HB⟩
def QL : List Int := [41136, 18958, 6951, 50414, 58488, 44335, 6150, 12099, 55207, 15867, 153, 11085, 57099, 20417, 9344, 11139]
set_option maxHeartbeats 1000000 in
theorem implList (l : List Int) (w : World) (hl : l.length = 16) :
  Calls Tryz.prog 59 #[.agg (I64 l).toArray] w fun e w' => ∃ a c, e = .returned (.slice a 16 c) ∧ w'.ownsRow w.heap.size 65 1 (.slice a 16 c) 16 (I64 l) ∧ Below w.heap.size w w' := by
 obtain ⟨W, hW⟩ : ∃ W, W = w.alloc (.cells (I64 l).toArray 65) := ⟨_, rfl⟩
 have g0 : Arr W w.heap.size 65 (I64 l) := by rw [hW]; exact Arr.new _ _ _
 have gB : Below w.heap.size w W := by rw [hW]; exact (Below.refl _ _).alloc (Nat.le_refl _) _
 obtain ⟨A, hA⟩ : ∃ A, A = (I64 l).toArray := ⟨_, rfl⟩
 rw [← hA] at hW ⊢
 have HA : Hid _ := hW ▸ g0
 have HB : Hid _ := hW ▸ gB
 clear hW g0 gB hA
 go_enter Tryz.func59, Tryz.ntmps59
 go_wp2
 go_ret
 refine ⟨some ⟨w.heap.size, 0, none⟩, 16, rfl, ⟨by simp [hl], .inr ⟨w.heap.size, 16, _, rfl, Nat.le_refl _, HA.out, Nat.le_refl _, by unfold maxLen; omega, by simp [hl], by rw [List.take_of_length_le (by simp [hl])]⟩⟩, HB.out⟩

end Go.Proofs.YtihoaakbkffejaaGreatDoor
