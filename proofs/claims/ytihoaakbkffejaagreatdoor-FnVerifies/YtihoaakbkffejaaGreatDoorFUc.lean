/-
  What is proved here: contracts of the specification's l6zero and l6base; plain mathematics on numbers modulo the order of the base: its parts, what; the contract of the specification's l6mul: so many times a point, by; what the specification makes of a multiplier and a point is so many times; the base is a point, and so many times the base as the order tells is the.
-/
import Derived.Test.YtihoaakbkffejaaGreatDoorFUb
import Derived.Test.YtihoaakbkffejaaGreatDoorFFm
import Derived.Test.YtihoaakbkffejaaGreatDoorFUd
import Derived.Laws.BitsLemmas
import Derived.Test.YtihoaakbkffejaaGreatDoorFYe
namespace Go.Proofs.YtihoaakbkffejaaGreatDoor
open Go.RowKit
set_option maxRecDepth 100000

def zero6 : E4 := mk6 (lim 16 0) (lim 16 1)
def base6 : E4 := mk6 BX BY
theorem base6_eq : base6 = mk6 BX BY := rfl
theorem zero6_ok : zero6.Ok := mk6_ok zero_ok one_ok
theorem base6_ok : base6.Ok := mk6_ok BX_ok BY_ok
set_option maxHeartbeats 1000000 in
theorem spec6zero (w : World) : Calls Tryz.prog 55 #[] w fun e w' => e = .returned (.agg (I64 zero6.cells).toArray) ∧ Below w.heap.size w w' := by
 have H0 : Hid (∀ Z, Calls Tryz.prog 96 #[.int .i64 0] Z fun e w' => e = .returned (.agg (I64 (lim 16 0)).toArray) ∧ Below Z.heap.size Z w') := by
  unfold Hid; intro Z; exact specSmall 0 Z (by omega) (by omega)
 have H1 : Hid (∀ Z, Calls Tryz.prog 96 #[.int .i64 1] Z fun e w' => e = .returned (.agg (I64 (lim 16 1)).toArray) ∧ Below Z.heap.size Z w') := by
  unfold Hid; intro Z; exact specSmall 1 Z (by omega) (by omega)
 have HM : Hid (∀ Z, Calls Tryz.prog 95 #[.agg (I64 (lim 16 0)).toArray, .agg (I64 (lim 16 1)).toArray] Z fun e w' => e = .returned (.agg (I64 zero6.cells).toArray) ∧ Below Z.heap.size Z w') := by
  unfold Hid; intro Z; exact spec6make (lim 16 0) (lim 16 1) Z zero_ok one_ok
 have hP := zero6_ok
 have hPl := E4.len hP
 obtain ⟨P, hPe⟩ : ∃ P, P = zero6 := ⟨_, rfl⟩
 obtain ⟨x, hx⟩ : ∃ x, x = lim 16 0 := ⟨_, rfl⟩
 obtain ⟨y, hy⟩ : ∃ y, y = lim 16 1 := ⟨_, rfl⟩
 rw [← hPe] at HM hP hPl ⊢
 rw [← hx] at H0 HM
 rw [← hy] at H1 HM
 have hip := infoP' hP
 obtain ⟨W, hW⟩ : ∃ W, W = w.alloc (.cells #[.int .i64 0, .int .i64 0, .int .i64 0, .int .i64 0, .int .i64 0, .int .i64 0, .int .i64 0, .int .i64 0, .int .i64 0, .int .i64 0, .int .i64 0, .int .i64 0, .int .i64 0, .int .i64 0, .int .i64 0, .int .i64 0, .int .i64 0, .int .i64 0, .int .i64 0, .int .i64 0, .int .i64 0, .int .i64 0, .int .i64 0, .int .i64 0, .int .i64 0, .int .i64 0, .int .i64 0, .int .i64 0, .int .i64 0, .int .i64 0, .int .i64 0, .int .i64 0, .int .i64 0, .int .i64 0, .int .i64 0, .int .i64 0, .int .i64 0, .int .i64 0, .int .i64 0, .int .i64 0, .int .i64 0, .int .i64 0, .int .i64 0, .int .i64 0, .int .i64 0, .int .i64 0, .int .i64 0, .int .i64 0, .int .i64 0, .int .i64 0, .int .i64 0, .int .i64 0, .int .i64 0, .int .i64 0, .int .i64 0, .int .i64 0, .int .i64 0, .int .i64 0, .int .i64 0, .int .i64 0, .int .i64 0, .int .i64 0, .int .i64 0, .int .i64 0] 86) := ⟨_, rfl⟩
 have fr : Below w.heap.size w W := by rw [hW]; exact (Below.refl _ _).alloc (Nat.le_refl _) _
 have pr : Arr W w.heap.size 86 (I64 Z64) := by rw [hW]; exact Arr.new w (I64 Z64) _
 clear hPe hx hy
 go_enter Tryz.func55, Tryz.ntmps55
 go_wp2_with fail
 rw [← hW]
 clear hW
 refine (H0.out _).mono ?_
 rintro e y1 ⟨rfl, hb1⟩
 replace fr := fr.trans (hb1.mono fr.size)
 replace pr := pr.kept hb1
 clear hb1
 go_wp2_with fail
 refine (H1.out _).mono ?_
 rintro e y2 ⟨rfl, hb2⟩
 replace fr := fr.trans (hb2.mono fr.size)
 replace pr := pr.kept hb2
 clear hb2
 go_wp2_with fail
 refine (HM.out _).mono ?_
 rintro e y3 ⟨rfl, hb3⟩
 replace fr := fr.trans (hb3.mono fr.size)
 replace pr := pr.kept hb3
 clear hb3
 have h2 := pr.row (I64 P.cells)
 have HB : Hid _ := setRow_below fr w.heap.size (I64 P.cells).toArray (Nat.le_refl _)
 go_wp2_with (refine wpList_store_row rfl 86 _ _ rfl w.heap.size (I64 P.cells).toArray rfl rfl 86 _ pr hip (by simp [hPl]) (by simp [Value.oneCell']) ?_)
 exact bodyPost_ret (results_cell_row rfl _ _ w.heap.size 86 (I64 P.cells).toArray (0, 0) _ rfl h2 Tryz.underlying86 rfl hip) rfl ⟨rfl, HB.out⟩

set_option maxHeartbeats 2000000 in
theorem spec6base (w : World) : Calls Tryz.prog 77 #[] w fun e w' => e = .returned (.agg (I64 base6.cells).toArray) ∧ Below w.heap.size w w' := by
 have HM : Hid (∀ Z, Calls Tryz.prog 95 #[.agg (I64 BX).toArray, .agg (I64 BY).toArray] Z fun e w' => e = .returned (.agg (I64 base6.cells).toArray) ∧ Below Z.heap.size Z w') := by
  unfold Hid; intro Z; rw [base6_eq]; exact spec6make BX BY Z BX_ok BY_ok
 have hP := base6_ok
 have hPl := E4.len hP
 obtain ⟨P, hPe⟩ : ∃ P, P = base6 := ⟨_, rfl⟩
 rw [← hPe] at HM hP hPl ⊢
 have hip := infoP' hP
 have ix := infoE' BX_ok
 have iy := infoE' BY_ok
 obtain ⟨W, hW⟩ : ∃ W, W = w.alloc (.cells #[.int .i64 0, .int .i64 0, .int .i64 0, .int .i64 0, .int .i64 0, .int .i64 0, .int .i64 0, .int .i64 0, .int .i64 0, .int .i64 0, .int .i64 0, .int .i64 0, .int .i64 0, .int .i64 0, .int .i64 0, .int .i64 0, .int .i64 0, .int .i64 0, .int .i64 0, .int .i64 0, .int .i64 0, .int .i64 0, .int .i64 0, .int .i64 0, .int .i64 0, .int .i64 0, .int .i64 0, .int .i64 0, .int .i64 0, .int .i64 0, .int .i64 0, .int .i64 0, .int .i64 0, .int .i64 0, .int .i64 0, .int .i64 0, .int .i64 0, .int .i64 0, .int .i64 0, .int .i64 0, .int .i64 0, .int .i64 0, .int .i64 0, .int .i64 0, .int .i64 0, .int .i64 0, .int .i64 0, .int .i64 0, .int .i64 0, .int .i64 0, .int .i64 0, .int .i64 0, .int .i64 0, .int .i64 0, .int .i64 0, .int .i64 0, .int .i64 0, .int .i64 0, .int .i64 0, .int .i64 0, .int .i64 0, .int .i64 0, .int .i64 0, .int .i64 0] 86) := ⟨_, rfl⟩
 have fr : Below w.heap.size w W := by rw [hW]; exact (Below.refl _ _).alloc (Nat.le_refl _) _
 have pr : Arr W w.heap.size 86 (I64 Z64) := by rw [hW]; exact Arr.new w (I64 Z64) _
 clear hPe
 go_enter Tryz.func77, Tryz.ntmps77
 go_upto_region 1 with fail
 rw [← hW]
 clear hW
 obtain ⟨b1, a1, q1⟩ := laid_e W BX
 replace fr := (fr.trans (b1.mono fr.size))
 replace pr := pr.kept b1
 go_upto_region 2 with (refine wpList_store_row rfl 80 _ _ rfl W.heap.size (I64 BX).toArray rfl rfl 80 _ q1 infoE rfl (by simp [Value.oneCell']) ?_)
 obtain ⟨V, hV⟩ : ∃ V, V = (W.alloc (.cells zV 80)).setRow W.heap.size (I64 BX).toArray := ⟨_, rfl⟩
 obtain ⟨E, hE⟩ : ∃ E, E = W.heap.size := ⟨_, rfl⟩
 rw [← hV] at fr pr a1 ⊢
 rw [← hE] at a1 ⊢
 clear hV hE q1 b1
 obtain ⟨b2, a2, q2⟩ := laid_e V BY
 replace fr := (fr.trans (b2.mono fr.size))
 replace pr := pr.kept b2
 replace a1 := a1.kept b2
 go_upto_region 3 with (refine wpList_store_row rfl 80 _ _ rfl V.heap.size (I64 BY).toArray rfl rfl 80 _ q2 infoE rfl (by simp [Value.oneCell']) ?_)
 obtain ⟨U, hU⟩ : ∃ U, U = (V.alloc (.cells zV 80)).setRow V.heap.size (I64 BY).toArray := ⟨_, rfl⟩
 obtain ⟨F, hF⟩ : ∃ F, F = V.heap.size := ⟨_, rfl⟩
 rw [← hU] at fr pr a1 a2 ⊢
 rw [← hF] at a2 ⊢
 clear hU hF q2 b2
 obtain ⟨x, hx⟩ : ∃ x, x = BX := ⟨_, rfl⟩
 obtain ⟨y, hy⟩ : ∃ y, y = BY := ⟨_, rfl⟩
 rw [← hx] at a1 HM ix
 rw [← hy] at a2 HM iy
 clear hx hy
 go_wp2_with (first
  | (refine wpList_load_row rfl 80 _ rfl E rfl 80 (I64 x).toArray (0, 0) _ a1 Tryz.underlying80 rfl ix ?_)
  | (refine wpList_load_row rfl 80 _ rfl F rfl 80 (I64 y).toArray (0, 0) _ a2 Tryz.underlying80 rfl iy ?_))
 clear a1 a2
 refine (HM.out _).mono ?_
 rintro e y1 ⟨rfl, hb1⟩
 replace fr := fr.trans (hb1.mono fr.size)
 replace pr := pr.kept hb1
 clear hb1
 have h2 := pr.row (I64 P.cells)
 have HB : Hid _ := setRow_below fr w.heap.size (I64 P.cells).toArray (Nat.le_refl _)
 go_wp2_with (refine wpList_store_row rfl 86 _ _ rfl w.heap.size (I64 P.cells).toArray rfl rfl 86 _ pr hip (by simp [hPl]) (by simp [Value.oneCell']) ?_)
 exact bodyPost_ret (results_cell_row rfl _ _ w.heap.size 86 (I64 P.cells).toArray (0, 0) _ rfl h2 Tryz.underlying86 rfl hip) rfl ⟨rfl, HB.out⟩
def qO : Int := 7237005577332262213973186563042994240857116359379907606001950938285454250989
def OL : List Int := [54253, 23797, 25370, 22546, 40150, 41719, 63966, 5342, 0, 0, 0, 0, 0, 0, 0, 4096]
theorem OL_len : OL.length = 16 := rfl
theorem OL_val : val OL = qO := by decide
theorem OL_lm : Lm OL := by unfold Lm OL; decide
def redO (v : Int) : List Int := lim 16 (v % qO)
theorem redO_lt (v : Int) : 0 ≤ v % qO ∧ v % qO < qO := by unfold qO; omega
theorem val_redO (v : Int) : val (redO v) = v % qO := by
 unfold redO
 have := redO_lt v
 rw [val_lim, p256]
 unfold qO at *
 omega
theorem redO_len (v : Int) : (redO v).length = 16 := lim_len _ _
theorem redO_lm (v : Int) : Lm (redO v) := lim_lm _ _
def scOk (l : List Int) : Bool := decide (l.length = 16) && l.all (fun x => decide (0 ≤ x ∧ x < 65536)) && decide (val l < qO)
theorem scOk_iff (l : List Int) : scOk l = true ↔ l.length = 16 ∧ Lm l ∧ val l < qO := by
 unfold scOk Lm
 simp only [Bool.and_eq_true, decide_eq_true_eq, List.all_eq_true, and_assoc]
theorem redO_ok (v : Int) : scOk (redO v) = true := (scOk_iff _).2 ⟨redO_len v, redO_lm v, by rw [val_redO]; exact (redO_lt v).2⟩
theorem lessO {x : Int} (h0 : 0 ≤ x) (h1 : x < 2 * qO) : (x < qO → lim 16 x = redO x) ∧ (¬ x < qO → lim 16 (x - qO) = redO x) := by
 unfold redO
 constructor
 ·intro h; rw [Int.emod_eq_of_lt h0 h]
 ·intro h
  rw [show x % qO = x - qO by unfold qO at *; omega]
theorem val_lim16 {x : Int} (h0 : 0 ≤ x) (h1 : x < 2 * qO) : val (lim 16 x) = x := by
 rw [val_lim, p256]
 unfold qO at h1
 omega
theorem map2_val : ∀ a : List Int, val (a.map (fun x => 2 * x)) = 2 * val a
 | [] => by simp [val]
 | x :: a => by simp only [List.map_cons, val, map2_val a]; omega
def Dp (l : List Int) : Prop := ∀ x ∈ l, 0 ≤ x ∧ x ≤ 131070
theorem cpc_one {l : List Int} (h : Dp l) : ∀ {c : Int}, 0 ≤ c → c ≤ 1 → 0 ≤ cpc l c ∧ cpc l c ≤ 1 := by
 induction l with
 | nil => intro c h0 h1; exact ⟨h0, h1⟩
 | cons x l ih =>
  intro c h0 h1
  have hx := h x (by simp)
  exact ih (fun y hy => h y (by simp [hy])) (by omega) (by omega)
theorem dp_map {a : List Int} (h : Lm a) : Dp (a.map (fun x => 2 * x)) := by
 intro x hx
 obtain ⟨y, hy, rfl⟩ := List.mem_map.1 hx
 have := h y hy
 omega
theorem dp_zip {a b : List Int} (ha : Lm a) (hb : Lm b) : Dp (List.zipWith (fun x y => x + y) a b) := by
 intro x hx
 obtain ⟨i, hi⟩ := List.mem_iff_getElem?.1 hx
 rw [List.getElem?_zipWith] at hi
 split at hi
 ·rename_i p q h1 h2
  have := ha _ (List.mem_of_getElem? h1)
  have := hb _ (List.mem_of_getElem? h2)
  simp only [Option.some.injEq] at hi
  omega
 ·cases hi
theorem bitO_low (x r : Nat) (h : r < 16) : x % 65536 / 2 ^ r % 2 = x / 2 ^ r % 2 := by
 have : r = 0 ∨ r = 1 ∨ r = 2 ∨ r = 3 ∨ r = 4 ∨ r = 5 ∨ r = 6 ∨ r = 7 ∨ r = 8 ∨ r = 9 ∨ r = 10 ∨ r = 11 ∨ r = 12 ∨ r = 13 ∨ r = 14 ∨ r = 15 := by omega
 rcases this with rfl | rfl | rfl | rfl | rfl | rfl | rfl | rfl | rfl | rfl | rfl | rfl | rfl | rfl | rfl | rfl <;> omega
theorem bitO {n : List Int} {m : Nat} (hl : n.length = m) (hm : Lm n) (j : Nat) (hj : j < 16 * m) : n.getD (j / 16) 0 / 2 ^ (j % 16) % 2 = (((val n).toNat / 2 ^ j % 2 : Nat) : Int) := by
 have h0 := val_nonneg (fun x hx => (hm x hx).1)
 have h1 := lim_val n hm
 rw [hl] at h1
 obtain ⟨N, hN⟩ := Int.eq_ofNat_of_zero_le h0
 have h2 := lim_get m (val n) (j / 16) (by omega)
 rw [h1, hN] at h2
 rw [h2, hN, Int.toNat_natCast]
 have h3 : N / 65536 ^ (j / 16) % 65536 / 2 ^ (j % 16) % 2 = N / 2 ^ j % 2 := by
  rw [bitO_low _ _ (by omega), show 65536 = 2 ^ 16 from rfl, ← Nat.pow_mul, Nat.div_div_eq_div_mul, ← Nat.pow_add, Nat.div_add_mod]
 rw [← h3]
 simp only [Int.natCast_ediv, Int.natCast_emod, Int.natCast_pow]
 rfl
theorem redO_twice (N j : Nat) : redO (2 * val (redO ((N / 2 ^ (j + 1) : Nat) : Int)) + ((N / 2 ^ j % 2 : Nat) : Int)) = redO ((N / 2 ^ j : Nat) : Int) := by
 rw [val_redO]
 have e : ((N / 2 ^ j : Nat) : Int) = 2 * ((N / 2 ^ (j + 1) : Nat) : Int) + ((N / 2 ^ j % 2 : Nat) : Int) := by
  have h : N / 2 ^ (j + 1) = N / 2 ^ j / 2 := by rw [Nat.pow_succ, Nat.div_div_eq_div_mul]
  rw [h]
  omega
 unfold redO
 rw [e]
 congr 1
 generalize ((N / 2 ^ (j + 1) : Nat) : Int) = x
 generalize ((N / 2 ^ j % 2 : Nat) : Int) = b
 unfold qO
 omega
def mst (P : E4) (N : Nat) : Nat → E4 × Bool
 | 0 => (zero6, false)
 | n + 1 =>
  if N / 2 ^ (255 - n) % 2 = 1 then (add6 (if (mst P N n).2 = true then add6 (mst P N n).1 (mst P N n).1 else (mst P N n).1) P, true)
  else ((if (mst P N n).2 = true then add6 (mst P N n).1 (mst P N n).1 else (mst P N n).1), (mst P N n).2)
theorem mst_one {P : E4} {N n : Nat} (h : N / 2 ^ (255 - n) % 2 = 1) : mst P N (n + 1) = (add6 (if (mst P N n).2 = true then add6 (mst P N n).1 (mst P N n).1 else (mst P N n).1) P, true) := by rw [mst, if_pos h]
theorem mst_nil {P : E4} {N n : Nat} (h : ¬ N / 2 ^ (255 - n) % 2 = 1) : mst P N (n + 1) = ((if (mst P N n).2 = true then add6 (mst P N n).1 (mst P N n).1 else (mst P N n).1), (mst P N n).2) := by rw [mst, if_neg h]
theorem mst_ok (P : E4) (N : Nat) : ∀ n, (mst P N n).1.Ok
 | 0 => zero6_ok
 | n + 1 => by
  have ih := mst_ok P N n
  by_cases h : N / 2 ^ (255 - n) % 2 = 1
  ·rw [mst_one h]; exact add6_ok _ _
  ·rw [mst_nil h]
   show (if (mst P N n).2 = true then add6 (mst P N n).1 (mst P N n).1 else (mst P N n).1).Ok
   split
   ·exact add6_ok _ _
   ·exact ih
def mul6 (P : E4) (N : Nat) : E4 := (mst P N 256).1
theorem i64_lowb {x : Int} (h0 : 0 ≤ x) (h1 : x < 9223372036854775808) : bits .and .i64 x 1 = x % 2 :=
 bits_mask .i64 63 (by decide) (fun n a b => by rw [IntKind.wrap_i64]; omega) 1 (by decide) x h0 h1
theorem laid_p6 (w1 : World) (L : List Int) : Below w1.heap.size w1 ((w1.alloc (.cells #[.int .i64 0, .int .i64 0, .int .i64 0, .int .i64 0, .int .i64 0, .int .i64 0, .int .i64 0, .int .i64 0, .int .i64 0, .int .i64 0, .int .i64 0, .int .i64 0, .int .i64 0, .int .i64 0, .int .i64 0, .int .i64 0, .int .i64 0, .int .i64 0, .int .i64 0, .int .i64 0, .int .i64 0, .int .i64 0, .int .i64 0, .int .i64 0, .int .i64 0, .int .i64 0, .int .i64 0, .int .i64 0, .int .i64 0, .int .i64 0, .int .i64 0, .int .i64 0, .int .i64 0, .int .i64 0, .int .i64 0, .int .i64 0, .int .i64 0, .int .i64 0, .int .i64 0, .int .i64 0, .int .i64 0, .int .i64 0, .int .i64 0, .int .i64 0, .int .i64 0, .int .i64 0, .int .i64 0, .int .i64 0, .int .i64 0, .int .i64 0, .int .i64 0, .int .i64 0, .int .i64 0, .int .i64 0, .int .i64 0, .int .i64 0, .int .i64 0, .int .i64 0, .int .i64 0, .int .i64 0, .int .i64 0, .int .i64 0, .int .i64 0, .int .i64 0] 86)).setRow w1.heap.size (I64 L).toArray) ∧ Arr ((w1.alloc (.cells #[.int .i64 0, .int .i64 0, .int .i64 0, .int .i64 0, .int .i64 0, .int .i64 0, .int .i64 0, .int .i64 0, .int .i64 0, .int .i64 0, .int .i64 0, .int .i64 0, .int .i64 0, .int .i64 0, .int .i64 0, .int .i64 0, .int .i64 0, .int .i64 0, .int .i64 0, .int .i64 0, .int .i64 0, .int .i64 0, .int .i64 0, .int .i64 0, .int .i64 0, .int .i64 0, .int .i64 0, .int .i64 0, .int .i64 0, .int .i64 0, .int .i64 0, .int .i64 0, .int .i64 0, .int .i64 0, .int .i64 0, .int .i64 0, .int .i64 0, .int .i64 0, .int .i64 0, .int .i64 0, .int .i64 0, .int .i64 0, .int .i64 0, .int .i64 0, .int .i64 0, .int .i64 0, .int .i64 0, .int .i64 0, .int .i64 0, .int .i64 0, .int .i64 0, .int .i64 0, .int .i64 0, .int .i64 0, .int .i64 0, .int .i64 0, .int .i64 0, .int .i64 0, .int .i64 0, .int .i64 0, .int .i64 0, .int .i64 0, .int .i64 0, .int .i64 0] 86)).setRow w1.heap.size (I64 L).toArray) w1.heap.size 86 (I64 L) ∧ Arr (w1.alloc (.cells #[.int .i64 0, .int .i64 0, .int .i64 0, .int .i64 0, .int .i64 0, .int .i64 0, .int .i64 0, .int .i64 0, .int .i64 0, .int .i64 0, .int .i64 0, .int .i64 0, .int .i64 0, .int .i64 0, .int .i64 0, .int .i64 0, .int .i64 0, .int .i64 0, .int .i64 0, .int .i64 0, .int .i64 0, .int .i64 0, .int .i64 0, .int .i64 0, .int .i64 0, .int .i64 0, .int .i64 0, .int .i64 0, .int .i64 0, .int .i64 0, .int .i64 0, .int .i64 0, .int .i64 0, .int .i64 0, .int .i64 0, .int .i64 0, .int .i64 0, .int .i64 0, .int .i64 0, .int .i64 0, .int .i64 0, .int .i64 0, .int .i64 0, .int .i64 0, .int .i64 0, .int .i64 0, .int .i64 0, .int .i64 0, .int .i64 0, .int .i64 0, .int .i64 0, .int .i64 0, .int .i64 0, .int .i64 0, .int .i64 0, .int .i64 0, .int .i64 0, .int .i64 0, .int .i64 0, .int .i64 0, .int .i64 0, .int .i64 0, .int .i64 0, .int .i64 0] 86)) w1.heap.size 86 (I64 Z64) := by
 have q : Arr (w1.alloc (.cells #[.int .i64 0, .int .i64 0, .int .i64 0, .int .i64 0, .int .i64 0, .int .i64 0, .int .i64 0, .int .i64 0, .int .i64 0, .int .i64 0, .int .i64 0, .int .i64 0, .int .i64 0, .int .i64 0, .int .i64 0, .int .i64 0, .int .i64 0, .int .i64 0, .int .i64 0, .int .i64 0, .int .i64 0, .int .i64 0, .int .i64 0, .int .i64 0, .int .i64 0, .int .i64 0, .int .i64 0, .int .i64 0, .int .i64 0, .int .i64 0, .int .i64 0, .int .i64 0, .int .i64 0, .int .i64 0, .int .i64 0, .int .i64 0, .int .i64 0, .int .i64 0, .int .i64 0, .int .i64 0, .int .i64 0, .int .i64 0, .int .i64 0, .int .i64 0, .int .i64 0, .int .i64 0, .int .i64 0, .int .i64 0, .int .i64 0, .int .i64 0, .int .i64 0, .int .i64 0, .int .i64 0, .int .i64 0, .int .i64 0, .int .i64 0, .int .i64 0, .int .i64 0, .int .i64 0, .int .i64 0, .int .i64 0, .int .i64 0, .int .i64 0, .int .i64 0] 86)) w1.heap.size 86 (I64 Z64) := Arr.new w1 (I64 Z64) _
 exact ⟨setRow_below ((Below.refl _ _).alloc (Nat.le_refl _) _) _ _ (Nat.le_refl _), q.row _, q⟩
structure ML (w W : World) (X : Nat) (P : E4) (k : List Int) (R : E4) : Prop where
 fr : Below w.heap.size w W
 pa : Arr W w.heap.size 86 (I64 P.cells)
 pk : Arr W (w.heap.size + 1) 80 (I64 k)
 pr : Arr W (w.heap.size + 2) 86 (I64 Z64)
 px : Arr W X 86 (I64 R.cells)
theorem ML.go {w A B : World} {X : Nat} {P R : E4} {k : List Int} (h : ML w A X P k R) (hb : Below A.heap.size A B) : ML w B X P k R := ⟨h.fr.trans (hb.mono h.fr.size), h.pa.kept hb, h.pk.kept hb, h.pr.kept hb, h.px.kept hb⟩
theorem ML.put {w A : World} {X : Nat} {P R : E4} {k : List Int} (h : ML w A X P k R) (hX : w.heap.size + 2 < X) (S : E4) : ML w (A.setRow X (I64 S.cells).toArray) X P k S :=
 ⟨setRow_below h.fr _ _ (by omega), h.pa.rowOther _ _ (by omega), h.pk.rowOther _ _ (by omega), h.pr.rowOther _ _ (by omega), h.px.row _⟩

set_option maxHeartbeats 8000000 in
theorem spec6mul (P : E4) (k : List Int) (w : World) (hP : P.Ok) (hk : k.length = 16) (hm : Lm k) :
  Calls Tryz.prog 76 #[.agg (I64 P.cells).toArray, .agg (I64 k).toArray] w fun e w' => e = .returned (.agg (I64 (mul6 P (val k).toNat).cells).toArray) ∧ Below w.heap.size w w' := by
 have hbit := fun j hj => bitO hk hm j hj
 obtain ⟨N, hN⟩ : ∃ N, N = (val k).toNat := ⟨_, rfl⟩
 rw [← hN] at hbit ⊢
 have HX := fun q => gD_lm hm q
 obtain ⟨S, hS⟩ : ∃ S : Nat → E4 × Bool, ∀ n, S n = mst P N n := ⟨mst P N, fun _ => rfl⟩
 have HO : Hid (∀ n, (S n).1.Ok) := by unfold Hid; intro n; rw [hS]; exact mst_ok P N n
 have H1 : Hid (∀ n, N / 2 ^ (255 - n) % 2 = 1 → S (n + 1) = (add6 (if (S n).2 = true then add6 (S n).1 (S n).1 else (S n).1) P, true)) := by unfold Hid; intro n h; rw [hS, hS]; exact mst_one h
 have H0 : Hid (∀ n, ¬ N / 2 ^ (255 - n) % 2 = 1 → S (n + 1) = ((if (S n).2 = true then add6 (S n).1 (S n).1 else (S n).1), (S n).2)) := by unfold Hid; intro n h; rw [hS, hS]; exact mst_nil h
 have hres : mul6 P N = (S 256).1 := by rw [hS]; rfl
 have hS0 : S 0 = (zero6, false) := by rw [hS]; rfl
 rw [hres]
 have HA : Hid (∀ (Q R : E4), Q.Ok → R.Ok → ∀ Z, Calls Tryz.prog 75 #[.agg (I64 Q.cells).toArray, .agg (I64 R.cells).toArray] Z fun e w' => e = .returned (.agg (I64 (add6 Q R).cells).toArray) ∧ Below Z.heap.size Z w') := by
  unfold Hid; intro Q R hQ hR Z; exact spec6add Q R Z hQ hR
 have HZ : Hid (∀ Z, Calls Tryz.prog 55 #[] Z fun e w' => e = .returned (.agg (I64 (S 0).1.cells).toArray) ∧ Below Z.heap.size Z w') := by
  unfold Hid; intro Z; rw [hS0]; exact spec6zero Z
 have HS0 : Hid ((S 0).2 = false) := by unfold Hid; rw [hS0]
 obtain ⟨A, hA⟩ : ∃ A, A = (I64 P.cells).toArray := ⟨_, rfl⟩
 obtain ⟨B, hB⟩ : ∃ B, B = (I64 k).toArray := ⟨_, rfl⟩
 obtain ⟨W, hW⟩ : ∃ W, W = ((w.alloc (.cells A 86)).alloc (.cells B 80)).alloc (.cells #[.int .i64 0, .int .i64 0, .int .i64 0, .int .i64 0, .int .i64 0, .int .i64 0, .int .i64 0, .int .i64 0, .int .i64 0, .int .i64 0, .int .i64 0, .int .i64 0, .int .i64 0, .int .i64 0, .int .i64 0, .int .i64 0, .int .i64 0, .int .i64 0, .int .i64 0, .int .i64 0, .int .i64 0, .int .i64 0, .int .i64 0, .int .i64 0, .int .i64 0, .int .i64 0, .int .i64 0, .int .i64 0, .int .i64 0, .int .i64 0, .int .i64 0, .int .i64 0, .int .i64 0, .int .i64 0, .int .i64 0, .int .i64 0, .int .i64 0, .int .i64 0, .int .i64 0, .int .i64 0, .int .i64 0, .int .i64 0, .int .i64 0, .int .i64 0, .int .i64 0, .int .i64 0, .int .i64 0, .int .i64 0, .int .i64 0, .int .i64 0, .int .i64 0, .int .i64 0, .int .i64 0, .int .i64 0, .int .i64 0, .int .i64 0, .int .i64 0, .int .i64 0, .int .i64 0, .int .i64 0, .int .i64 0, .int .i64 0, .int .i64 0, .int .i64 0] 86) := ⟨_, rfl⟩
 have fr : Below w.heap.size w W := by rw [hW]; exact (((Below.refl _ _).alloc (Nat.le_refl _) _).alloc (by simp) _).alloc (by simp; omega) _
 have pa : Arr W w.heap.size 86 (I64 P.cells) := by rw [hW, hA]; exact ((Arr.new w (I64 P.cells) _).alloc _).alloc _
 have pk : Arr W (w.heap.size + 1) 80 (I64 k) := by
  rw [hW, hB]
  have := (Arr.new (w.alloc (.cells A 86)) (I64 k) 80).alloc (.cells (I64 Z64).toArray 86)
  rw [World.size_alloc] at this
  exact this
 have pr : Arr W (w.heap.size + 2) 86 (I64 Z64) := by
  rw [hW]
  have := Arr.new ((w.alloc (.cells A 86)).alloc (.cells B 80)) (I64 Z64) 86
  rw [World.size_alloc, World.size_alloc] at this
  exact this
 rw [← hA, ← hB]
 have HBT : Hid _ := hbit
 have hS0o := HO.out 0
 have hip0 := infoP' hS0o
 have hl0 := E4.len hS0o
 have hPi := infoP' hP
 clear hA hB hN hS hres hS0 hbit hm
 go_enter Tryz.func76, Tryz.ntmps76
 go_upto_region 1 with fail
 rw [← hW]
 clear hW
 go_wp2_with fail
 refine (HZ.out _).mono ?_
 rintro e w1 ⟨rfl, hb1⟩
 replace fr := fr.trans (hb1.mono fr.size)
 replace pa := pa.kept hb1
 replace pk := pk.kept hb1
 replace pr := pr.kept hb1
 have hX := pr.lt
 obtain ⟨bV, px, q1⟩ := laid_p6 w1 (S 0).1.cells
 have EE : ML w ((w1.alloc (.cells #[.int .i64 0, .int .i64 0, .int .i64 0, .int .i64 0, .int .i64 0, .int .i64 0, .int .i64 0, .int .i64 0, .int .i64 0, .int .i64 0, .int .i64 0, .int .i64 0, .int .i64 0, .int .i64 0, .int .i64 0, .int .i64 0, .int .i64 0, .int .i64 0, .int .i64 0, .int .i64 0, .int .i64 0, .int .i64 0, .int .i64 0, .int .i64 0, .int .i64 0, .int .i64 0, .int .i64 0, .int .i64 0, .int .i64 0, .int .i64 0, .int .i64 0, .int .i64 0, .int .i64 0, .int .i64 0, .int .i64 0, .int .i64 0, .int .i64 0, .int .i64 0, .int .i64 0, .int .i64 0, .int .i64 0, .int .i64 0, .int .i64 0, .int .i64 0, .int .i64 0, .int .i64 0, .int .i64 0, .int .i64 0, .int .i64 0, .int .i64 0, .int .i64 0, .int .i64 0, .int .i64 0, .int .i64 0, .int .i64 0, .int .i64 0, .int .i64 0, .int .i64 0, .int .i64 0, .int .i64 0, .int .i64 0, .int .i64 0, .int .i64 0, .int .i64 0] 86)).setRow w1.heap.size (I64 (S 0).1.cells).toArray) w1.heap.size P k (S 0).1 := ⟨fr.trans (bV.mono fr.size), pa.kept bV, pk.kept bV, pr.kept bV, px⟩
 clear fr pa pk pr px hb1 bV HZ
 go_upto_region 2 with (refine wpList_store_row rfl 86 _ _ rfl w1.heap.size (I64 (S 0).1.cells).toArray rfl rfl 86 _ q1 hip0 (by simp [hl0]) (by simp [Value.oneCell']) ?_)
 obtain ⟨V0, hV0⟩ : ∃ V, V = (w1.alloc (.cells #[.int .i64 0, .int .i64 0, .int .i64 0, .int .i64 0, .int .i64 0, .int .i64 0, .int .i64 0, .int .i64 0, .int .i64 0, .int .i64 0, .int .i64 0, .int .i64 0, .int .i64 0, .int .i64 0, .int .i64 0, .int .i64 0, .int .i64 0, .int .i64 0, .int .i64 0, .int .i64 0, .int .i64 0, .int .i64 0, .int .i64 0, .int .i64 0, .int .i64 0, .int .i64 0, .int .i64 0, .int .i64 0, .int .i64 0, .int .i64 0, .int .i64 0, .int .i64 0, .int .i64 0, .int .i64 0, .int .i64 0, .int .i64 0, .int .i64 0, .int .i64 0, .int .i64 0, .int .i64 0, .int .i64 0, .int .i64 0, .int .i64 0, .int .i64 0, .int .i64 0, .int .i64 0, .int .i64 0, .int .i64 0, .int .i64 0, .int .i64 0, .int .i64 0, .int .i64 0, .int .i64 0, .int .i64 0, .int .i64 0, .int .i64 0, .int .i64 0, .int .i64 0, .int .i64 0, .int .i64 0, .int .i64 0, .int .i64 0, .int .i64 0, .int .i64 0] 86)).setRow w1.heap.size (I64 (S 0).1.cells).toArray := ⟨_, rfl⟩
 obtain ⟨X, hXe⟩ : ∃ X, X = w1.heap.size := ⟨_, rfl⟩
 rw [← hV0] at EE ⊢
 rw [← hXe] at EE hX ⊢
 clear hV0 hXe q1 hip0 hl0 hS0o
 go_wp2
 go_loopw [6, 7] (fun bg i wr => ∃ (n : Nat) (z : Int), n ≤ 256 ∧ z = 255 - (n : Int) ∧ bg = .bool (S n).2 ∧ i = .int .i64 z ∧ ML w wr X P k (S n).1) (fun _ i _ => (intOf i + 1).toNat)
 case atStart => exact ⟨0, 255, by omega, by omega, by rw [HS0.out], rfl, EE⟩
 case round =>
  clear EE HS0
  obtain ⟨n, z, hn, hz, rfl, rfl, EE⟩ := hrel
  obtain ⟨R, hR⟩ : ∃ R, R = (S n).1 := ⟨_, rfl⟩
  obtain ⟨g, hg⟩ : ∃ g, g = (S n).2 := ⟨_, rfl⟩
  rw [← hR] at EE
  rw [← hg]
  have hRo : R.Ok := by rw [hR]; exact HO.out n
  have hRi := infoP' hRo
  have hRl := E4.len hRo
  have HR : Hid _ := hR
  have HG : Hid _ := hg
  clear hR hg
  by_cases hn6 : n = 256
  ·have hz0 : z < 0 := by omega
   have hz1 : ¬ (0 ≤ z) := by omega
   have HRR : Hid (R = (S 256).1) := by unfold Hid; rw [HR.out, hn6]
   have hpx := EE.px
   have hpr := EE.pr
   have hp2 := hpr.row (I64 R.cells)
   have hb2 := setRow_below EE.fr (w.heap.size + 2) (I64 R.cells).toArray (by omega)
   clear HR HG hz hn6 EE hn
   go_wp2_with (first
    | (refine wpList_load_row rfl 86 _ rfl X rfl 86 (I64 R.cells).toArray (0, 0) _ hpx Tryz.underlying86 rfl hRi ?_)
    | (refine wpList_store_row rfl 86 _ _ rfl (w.heap.size + 2) (I64 R.cells).toArray rfl rfl 86 _ hpr hRi (by simp [hRl]) (by simp [Value.oneCell']) ?_))
   exact bodyPost_ret (results_cell_row rfl _ _ (w.heap.size + 2) 86 (I64 R.cells).toArray (0, 0) _ rfl hp2 Tryz.underlying86 rfl hRi) rfl ⟨by rw [HRR.out], hb2⟩
  ·obtain ⟨j, hj⟩ : ∃ j, j = 255 - n := ⟨_, rfl⟩
   obtain rfl : z = (j : Int) := by omega
   have hj0 : (0 : Int) ≤ (j : Int) := by omega
   have hb := HBT.out j (by omega)
   obtain ⟨x, hxx⟩ : ∃ x, x = k.getD (j / 16) 0 := ⟨_, rfl⟩
   have hxb := HX (j / 16)
   rw [← hxx] at hxb hb
   obtain ⟨q, hq⟩ : ∃ q, q = j / 16 := ⟨_, rfl⟩
   have hq1 : (j : Int) / 16 = (q : Int) := by omega
   have hq2 : (q : Int) < 16 := by omega
   have hq3 : (0 : Int) ≤ (q : Int) := by omega
   have hy0 : 0 ≤ x / 2 ^ (j % 16) := Int.ediv_nonneg hxb.1 (Int.le_of_lt (Int.pow_pos (by omega)))
   have hy1 : x / 2 ^ (j % 16) ≤ x := Int.ediv_le_self _ hxb.1
   have hand : bits .and .i64 (x / 2 ^ (j % 16)) 1 = ((N / 2 ^ j % 2 : Nat) : Int) := by rw [← hb]; exact i64_lowb hy0 (by omega)
   have HCE : Hid (∀ V R', ML w V X P k R' → V.cell? ⟨w.heap.size + 1, q, none⟩ = some (.int .i64 x)) := by
    unfold Hid; intro V R' hV; rw [hxx, hq]; exact hV.pk.i64 (j / 16) (by omega)
   have hwq : IntKind.i64.wrap (q : Int) = (q : Int) := by rw [IntKind.wrap_i64]; omega
   have hrem : (j : Int).tmod 16 = (j : Int) % 16 := Int.tmod_eq_emod_of_nonneg hj0
   have hsh : ((j : Int) % 16).toNat = j % 16 := by omega
   have hw1 : wrap64 ((j : Int) - 1) = (j : Int) - 1 := by unfold wrap64; omega
   have HJ : Hid (j = 255 - n) := hj
   have hn' : n < 256 := by omega
   obtain ⟨y, hy⟩ : ∃ y, y = x / 2 ^ (j % 16) := ⟨_, rfl⟩
   rw [← hy] at hand hy0 hy1
   have hyb : y < 65536 := by omega
   have HY : Hid _ := hy
   obtain ⟨bt, hbt⟩ : ∃ bt, bt = N / 2 ^ j % 2 := ⟨_, rfl⟩
   rw [← hbt] at hand
   have HBt : Hid _ := hbt
   have hbt1 : bt < 2 := by omega
   clear hz hn6 hb hxx hq hxb hj hbt
   cases g with
   | false =>
    have hcx := HCE.out _ _ EE
    rw [hy] at hand
    by_cases hb1 : bt = 1
    ·subst hb1
     have hpx := EE.px
     have hpa := EE.pa
     have hSt : S (n + 1) = (add6 R P, true) := by rw [H1.out n (by rw [← HJ.out, ← HBt.out]), ← HR.out, ← HG.out]; rfl
     have HA1 : Hid _ := HA.out R P hRo hP
     have HST : Hid _ := hSt
     obtain ⟨T, hT⟩ : ∃ T, T = add6 R P := ⟨_, rfl⟩
     rw [← hT] at HST
     have hTo : T.Ok := by rw [hT]; exact add6_ok _ _
     have hTi := infoP' hTo
     have hTl := E4.len hTo
     have HA2 : Hid (∀ Z, Calls Tryz.prog 75 #[.agg (I64 (R).cells).toArray, .agg (I64 P.cells).toArray] Z fun e w' => e = .returned (.agg (I64 T.cells).toArray) ∧ Below Z.heap.size Z w') := by unfold Hid; rw [hT]; exact HA1.out
     clear hT hSt HA1
     go_wp2_with (first
      | (refine wpList_load_row rfl 86 _ rfl X rfl 86 (I64 (R).cells).toArray (0, 0) _ hpx Tryz.underlying86 rfl hRi ?_)
      | (refine wpList_load_row rfl 86 _ rfl w.heap.size rfl 86 (I64 P.cells).toArray (0, 0) _ hpa Tryz.underlying86 rfl hPi ?_))
     refine (HA2.out _).mono ?_
     rintro e w5 ⟨rfl, hb5⟩
     replace EE := EE.go hb5
     have hpx5 := EE.px
     have HE5 : Hid (ML w (w5.setRow X (I64 T.cells).toArray) X P k (S (n + 1)).1) := by unfold Hid; rw [HST.out]; exact EE.put hX T
     have HB5 : Hid ((S (n + 1)).2 = true) := by unfold Hid; rw [HST.out]
     clear hcx hpx hpa hb5 EE HA2 HST
     go_wp2_with (refine wpList_store_row rfl 86 _ _ rfl X (I64 T.cells).toArray rfl rfl 86 _ hpx5 hTi (by simp [hRl, hTl]) (by simp [Value.oneCell']) ?_)
     go_roundw
     case rel => exact ⟨n + 1, (j : Int) - 1, by omega, by have := HJ.out; omega, by rw [HB5.out], by go_num, HE5.out⟩
     case measure => simp [intOf]
    ·have hb0 : bt = 0 := by omega
     subst hb0
     have hSt : S (n + 1) = (R, false) := by rw [H0.out n (by rw [← HJ.out, ← HBt.out]; omega), ← HR.out, ← HG.out]; rfl
     have HE5 : Hid (ML w wr X P k (S (n + 1)).1) := by unfold Hid; rw [hSt]; exact EE
     have HB5 : Hid ((S (n + 1)).2 = false) := by unfold Hid; rw [hSt]
     clear hSt EE hb1
     go_wp2
     go_roundw
     case rel => exact ⟨n + 1, (j : Int) - 1, by omega, by have := HJ.out; omega, by rw [HB5.out], by go_num, HE5.out⟩
     case measure => simp [intOf]
   | true =>
    have hpx := EE.px
    obtain ⟨Q, hQ⟩ : ∃ Q, Q = add6 R R := ⟨_, rfl⟩
    have hQo : Q.Ok := by rw [hQ]; exact add6_ok _ _
    have hQi := infoP' hQo
    have hQl := E4.len hQo
    have HA0 : Hid (∀ Z, Calls Tryz.prog 75 #[.agg (I64 R.cells).toArray, .agg (I64 R.cells).toArray] Z fun e w' => e = .returned (.agg (I64 Q.cells).toArray) ∧ Below Z.heap.size Z w') := by unfold Hid; rw [hQ]; exact HA.out R R hRo hRo
    have HQ : Hid (add6 R R = Q) := hQ.symm
    clear hQ
    go_upto_region 7 with fail
    go_wp2_with (refine wpList_load_row rfl 86 _ rfl X rfl 86 (I64 R.cells).toArray (0, 0) _ hpx Tryz.underlying86 rfl hRi ?_)
    refine (HA0.out _).mono ?_
    rintro e w4 ⟨rfl, hb4⟩
    replace EE := EE.go hb4
    have hpx4 := EE.px
    replace EE := EE.put hX Q
    clear hpx hb4 HA0
    go_upto_region 8 with (refine wpList_store_row rfl 86 _ _ rfl X (I64 Q.cells).toArray rfl rfl 86 _ hpx4 hQi (by simp [hRl, hQl]) (by simp [Value.oneCell']) ?_)
    obtain ⟨V4, hV4⟩ : ∃ V, V = w4.setRow X (I64 Q.cells).toArray := ⟨_, rfl⟩
    rw [← hV4] at EE ⊢
    clear hV4 hpx4
    have hcx := HCE.out _ _ EE
    rw [hy] at hand
    by_cases hb1 : bt = 1
    ·subst hb1
     have hpx := EE.px
     have hpa := EE.pa
     have hSt : S (n + 1) = (add6 Q P, true) := by rw [H1.out n (by rw [← HJ.out, ← HBt.out]), ← HR.out, ← HG.out, ← HQ.out]; rfl
     have HA1 : Hid _ := HA.out Q P hQo hP
     have HST : Hid _ := hSt
     obtain ⟨T, hT⟩ : ∃ T, T = add6 Q P := ⟨_, rfl⟩
     rw [← hT] at HST
     have hTo : T.Ok := by rw [hT]; exact add6_ok _ _
     have hTi := infoP' hTo
     have hTl := E4.len hTo
     have HA2 : Hid (∀ Z, Calls Tryz.prog 75 #[.agg (I64 (Q).cells).toArray, .agg (I64 P.cells).toArray] Z fun e w' => e = .returned (.agg (I64 T.cells).toArray) ∧ Below Z.heap.size Z w') := by unfold Hid; rw [hT]; exact HA1.out
     clear hT hSt HA1
     go_wp2_with (first
      | (refine wpList_load_row rfl 86 _ rfl X rfl 86 (I64 (Q).cells).toArray (0, 0) _ hpx Tryz.underlying86 rfl hQi ?_)
      | (refine wpList_load_row rfl 86 _ rfl w.heap.size rfl 86 (I64 P.cells).toArray (0, 0) _ hpa Tryz.underlying86 rfl hPi ?_))
     refine (HA2.out _).mono ?_
     rintro e w5 ⟨rfl, hb5⟩
     replace EE := EE.go hb5
     have hpx5 := EE.px
     have HE5 : Hid (ML w (w5.setRow X (I64 T.cells).toArray) X P k (S (n + 1)).1) := by unfold Hid; rw [HST.out]; exact EE.put hX T
     have HB5 : Hid ((S (n + 1)).2 = true) := by unfold Hid; rw [HST.out]
     clear hcx hpx hpa hb5 EE HA2 HST
     go_wp2_with (refine wpList_store_row rfl 86 _ _ rfl X (I64 T.cells).toArray rfl rfl 86 _ hpx5 hTi (by simp [hQl, hTl]) (by simp [Value.oneCell']) ?_)
     go_roundw
     case rel => exact ⟨n + 1, (j : Int) - 1, by omega, by have := HJ.out; omega, by rw [HB5.out], by go_num, HE5.out⟩
     case measure => simp [intOf]
    ·have hb0 : bt = 0 := by omega
     subst hb0
     have hSt : S (n + 1) = (Q, true) := by rw [H0.out n (by rw [← HJ.out, ← HBt.out]; omega), ← HR.out, ← HG.out, ← HQ.out]; rfl
     have HE5 : Hid (ML w V4 X P k (S (n + 1)).1) := by unfold Hid; rw [hSt]; exact EE
     have HB5 : Hid ((S (n + 1)).2 = true) := by unfold Hid; rw [hSt]
     clear hSt EE hb1
     go_wp2
     go_roundw
     case rel => exact ⟨n + 1, (j : Int) - 1, by omega, by have := HJ.out; omega, by rw [HB5.out], by go_num, HE5.out⟩
     case measure => simp [intOf]
set_option maxHeartbeats 4000000
set_option linter.unusedSectionVars false

section
variable [NeZero pN]
theorem ext6_zero : Ext6 zero6 pZero := by
 have h := ext6_make (lim 16 0) (lim 16 1)
 rw [fl_zero, fl_one] at h
 exact h
theorem ext6_mst {P : E4} {p : KF × KF} (h : Ext6 P p) (o : On dK p) (N : Nat) (hN : N < 2 ^ 256) : ∀ n, n ≤ 256 → Ext6 (mst P N n).1 (pMul dK ivK (N / 2 ^ (256 - n)) p) ∧ ((mst P N n).2 = false → N / 2 ^ (256 - n) = 0)
 | 0, _ => by
  have e : N / 2 ^ (256 - 0) = 0 := Nat.div_eq_of_lt hN
  rw [e]
  exact ⟨ext6_zero, fun _ => rfl⟩
 | n + 1, hn => by
  obtain ⟨ih1, ih2⟩ := ext6_mst h o N hN n (by omega)
  have hb := crvK.mul_bit o N (255 - n)
  have e1 : 256 - (n + 1) = 255 - n := by omega
  have e2 : 256 - n = 255 - n + 1 := by omega
  rw [e2] at ih1 ih2
  rw [e1, hb]
  obtain ⟨M, hM⟩ : ∃ M, M = N / 2 ^ (255 - n + 1) := ⟨_, rfl⟩
  rw [← hM] at ih1 ih2 ⊢
  have om := crvK.on_mul o M
  have hr : Ext6 (if (mst P N n).2 = true then add6 (mst P N n).1 (mst P N n).1 else (mst P N n).1) (pAdd dK ivK (pMul dK ivK M p) (pMul dK ivK M p)) := by
   split
   ·exact ext6_add ih1 ih1 om om
   ·rename_i hf
    have h0 := ih2 (by simpa using hf)
    rw [h0] at ih1 ⊢
    show Ext6 _ (pAdd dK ivK pZero pZero)
    rw [crvK.add_zero]
    exact ih1
  have e3 : N / 2 ^ (255 - n) / 2 = M := by rw [hM, Nat.pow_succ, Nat.div_div_eq_div_mul]
  by_cases hbit : N / 2 ^ (255 - n) % 2 = 1
  ·rw [mst_one hbit, if_pos hbit]
   exact ⟨ext6_add hr h (crvK.on_add om om) o, fun hf => by cases hf⟩
  ·rw [mst_nil hbit, if_neg hbit]
   refine ⟨hr, fun hf => ?_⟩
   have := ih2 hf
   omega
theorem ext6_mul {P : E4} {p : KF × KF} (h : Ext6 P p) (o : On dK p) (N : Nat) (hN : N < 2 ^ 256) : Ext6 (mul6 P N) (pMul dK ivK N p) := by
 have := (ext6_mst h o N hN 256 (by omega)).1
 rw [Nat.sub_self, Nat.pow_zero, Nat.div_one] at this
 exact this
end
end Go.Proofs.YtihoaakbkffejaaGreatDoor
namespace Go.Proofs.YtihoaakbkffejaaGreatDoor
set_option maxRecDepth 100000
set_option maxHeartbeats 400000
set_option linter.unusedSectionVars false

def nm (x y : Nat) : Nat := x * y % pN
def na (x y : Nat) : Nat := (x + y) % pN
def ns (x y : Nat) : Nat := (x + (pN - y % pN)) % pN
def bxN : Nat := 15112221349535400772501151409588531511454012693041857206046113283949847762202
def byN : Nat := 46316835694926478169428394003475163141307993866256225615783033603165251855960
def oN : Nat := 7237005577332262213973186563042994240857116359379907606001950938285454250989
def fn (x : Nat) : KF := fe (x : Int)
theorem fn_mod (x : Nat) : fn (x % pN) = fn x := by unfold fn; rw [Int.natCast_emod, pN_int, fe_mod]
section
variable [NeZero pN]
theorem fn_mul (x y : Nat) : fn (nm x y) = fn x * fn y := by unfold nm; rw [fn_mod]; unfold fn; rw [Int.natCast_mul, fe_mul]
theorem fn_add (x y : Nat) : fn (na x y) = fn x + fn y := by unfold na; rw [fn_mod]; unfold fn; rw [Int.natCast_add, fe_add]
theorem fn_pN : fn pN = 0 := by unfold fn; rw [pN_int, fe_nz, Int.emod_self]
theorem fn_sub (x y : Nat) : fn (ns x y) = fn x - fn y := by
 have hlt : y % pN < pN := Nat.mod_lt _ (Nat.pos_of_ne_zero pN_ne)
 have e : fn (pN - y % pN) + fn y = 0 := by
  rw [← fn_mod y, ← fn_pN]
  unfold fn
  rw [← fe_add, ← Int.natCast_add, Nat.sub_add_cancel (Nat.le_of_lt hlt)]
 unfold ns
 rw [fn_mod]
 have e2 : fn (x + (pN - y % pN)) = fn x + fn (pN - y % pN) := by unfold fn; rw [Int.natCast_add, fe_add]
 rw [e2]
 grind
theorem fn_one : fn 1 = 1 := by unfold fn; exact fe_one
def baseK : KF × KF := (fn bxN, fn byN)
theorem on_base : On dK baseK := by
 show fn byN * fn byN - fn bxN * fn bxN = 1 + dK * (fn bxN * fn bxN) * (fn byN * fn byN)
 have hd : dK = fn dN := rfl
 rw [hd, ← fn_one, ← fn_mul, ← fn_mul, ← fn_sub, ← fn_mul, ← fn_mul, ← fn_add]
 congr 1
end
end Go.Proofs.YtihoaakbkffejaaGreatDoor
