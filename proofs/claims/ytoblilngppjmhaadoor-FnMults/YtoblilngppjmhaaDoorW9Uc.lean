/-
  What is proved here: contracts of the specification's l6zero and l6base; plain mathematics on numbers modulo the order of the base: its parts, what is brought below it, bits of a number in parts; no program is spoken of, no condition.
-/
import Derived.Test.YtoblilngppjmhaaDoorW9Ua
import Derived.Test.YtoblilngppjmhaaDoorW9Fm
namespace Go.Proofs.YtoblilngppjmhaaDoor
open Go.RowKit
set_option maxRecDepth 100000

def zero6 : E4 := mk6 (lim 16 0) (lim 16 1)
def base6 : E4 := mk6 BX BY
theorem base6_eq : base6 = mk6 BX BY := rfl
theorem zero6_ok : zero6.Ok := mk6_ok zero_ok one_ok
theorem base6_ok : base6.Ok := mk6_ok BX_ok BY_ok
set_option maxHeartbeats 1000000 in
theorem spec6zero (w : World) : Calls Tryd.prog 125 #[] w fun e w' => e = .returned (.agg (I64 zero6.cells).toArray) ∧ Below w.heap.size w w' := by
  have H0 : Hid (∀ Z, Calls Tryd.prog 112 #[.int .i64 0] Z fun e w' => e = .returned (.agg (I64 (lim 16 0)).toArray) ∧ Below Z.heap.size Z w') := by
    unfold Hid; intro Z; exact specSmall 0 Z (by omega) (by omega)
  have H1 : Hid (∀ Z, Calls Tryd.prog 112 #[.int .i64 1] Z fun e w' => e = .returned (.agg (I64 (lim 16 1)).toArray) ∧ Below Z.heap.size Z w') := by
    unfold Hid; intro Z; exact specSmall 1 Z (by omega) (by omega)
  have HM : Hid (∀ Z, Calls Tryd.prog 126 #[.agg (I64 (lim 16 0)).toArray, .agg (I64 (lim 16 1)).toArray] Z fun e w' => e = .returned (.agg (I64 zero6.cells).toArray) ∧ Below Z.heap.size Z w') := by
    unfold Hid; intro Z; exact spec6make (lim 16 0) (lim 16 1) Z zero_ok one_ok
  have hP := zero6_ok
  have hPl := E4.len hP
  obtain ⟨P, hPe⟩ : ∃ P, P = zero6 := ⟨_, rfl⟩
  obtain ⟨x, hx⟩ : ∃ x, x = lim 16 0 := ⟨_, rfl⟩
  obtain ⟨y, hy⟩ : ∃ y, y = lim 16 1 := ⟨_, rfl⟩
  rw [← hPe] at HM hP hPl ⊢
  rw [← hx] at H0 HM
  rw [← hy] at H1 HM
  have hip := infoP' hP
  obtain ⟨W, hW⟩ : ∃ W, W = w.alloc (.cells #[.int .i64 0, .int .i64 0, .int .i64 0, .int .i64 0, .int .i64 0, .int .i64 0, .int .i64 0, .int .i64 0, .int .i64 0, .int .i64 0, .int .i64 0, .int .i64 0, .int .i64 0, .int .i64 0, .int .i64 0, .int .i64 0, .int .i64 0, .int .i64 0, .int .i64 0, .int .i64 0, .int .i64 0, .int .i64 0, .int .i64 0, .int .i64 0, .int .i64 0, .int .i64 0, .int .i64 0, .int .i64 0, .int .i64 0, .int .i64 0, .int .i64 0, .int .i64 0, .int .i64 0, .int .i64 0, .int .i64 0, .int .i64 0, .int .i64 0, .int .i64 0, .int .i64 0, .int .i64 0, .int .i64 0, .int .i64 0, .int .i64 0, .int .i64 0, .int .i64 0, .int .i64 0, .int .i64 0, .int .i64 0, .int .i64 0, .int .i64 0, .int .i64 0, .int .i64 0, .int .i64 0, .int .i64 0, .int .i64 0, .int .i64 0, .int .i64 0, .int .i64 0, .int .i64 0, .int .i64 0, .int .i64 0, .int .i64 0, .int .i64 0, .int .i64 0] 108) := ⟨_, rfl⟩
  have fr : Below w.heap.size w W := by rw [hW]; exact (Below.refl _ _).alloc (Nat.le_refl _) _
  have pr : Arr W w.heap.size 108 (I64 Z64) := by rw [hW]; exact Arr.new w (I64 Z64) _
  clear hPe hx hy
  go_enter Tryd.func125, Tryd.ntmps125
  go_wp2_with fail
  rw [← hW]
  clear hW
  refine (H0.out _).mono ?_
  rintro e y1 ⟨rfl, hb1⟩
  replace fr := fr.trans (hb1.mono fr.size)
  replace pr := pr.kept hb1
  clear hb1
  go_wp2_with fail
  refine (H1.out _).mono ?_
  rintro e y2 ⟨rfl, hb2⟩
  replace fr := fr.trans (hb2.mono fr.size)
  replace pr := pr.kept hb2
  clear hb2
  go_wp2_with fail
  refine (HM.out _).mono ?_
  rintro e y3 ⟨rfl, hb3⟩
  replace fr := fr.trans (hb3.mono fr.size)
  replace pr := pr.kept hb3
  clear hb3
  have h2 := pr.row (I64 P.cells)
  have HB : Hid _ := setRow_below fr w.heap.size (I64 P.cells).toArray (Nat.le_refl _)
  go_wp2_with (refine wpList_store_row rfl 108 _ _ rfl w.heap.size (I64 P.cells).toArray rfl rfl 108 _ pr hip (by simp [hPl]) (by simp [Value.oneCell']) ?_)
  exact bodyPost_ret (results_cell_row rfl _ _ w.heap.size 108 (I64 P.cells).toArray (0, 0) _ rfl h2 Tryd.underlying108 rfl hip) rfl ⟨rfl, HB.out⟩

set_option maxHeartbeats 2000000 in
theorem spec6base (w : World) : Calls Tryd.prog 87 #[] w fun e w' => e = .returned (.agg (I64 base6.cells).toArray) ∧ Below w.heap.size w w' := by
  have HM : Hid (∀ Z, Calls Tryd.prog 126 #[.agg (I64 BX).toArray, .agg (I64 BY).toArray] Z fun e w' => e = .returned (.agg (I64 base6.cells).toArray) ∧ Below Z.heap.size Z w') := by
    unfold Hid; intro Z; rw [base6_eq]; exact spec6make BX BY Z BX_ok BY_ok
  have hP := base6_ok
  have hPl := E4.len hP
  obtain ⟨P, hPe⟩ : ∃ P, P = base6 := ⟨_, rfl⟩
  rw [← hPe] at HM hP hPl ⊢
  have hip := infoP' hP
  have ix := infoE' BX_ok
  have iy := infoE' BY_ok
  obtain ⟨W, hW⟩ : ∃ W, W = w.alloc (.cells #[.int .i64 0, .int .i64 0, .int .i64 0, .int .i64 0, .int .i64 0, .int .i64 0, .int .i64 0, .int .i64 0, .int .i64 0, .int .i64 0, .int .i64 0, .int .i64 0, .int .i64 0, .int .i64 0, .int .i64 0, .int .i64 0, .int .i64 0, .int .i64 0, .int .i64 0, .int .i64 0, .int .i64 0, .int .i64 0, .int .i64 0, .int .i64 0, .int .i64 0, .int .i64 0, .int .i64 0, .int .i64 0, .int .i64 0, .int .i64 0, .int .i64 0, .int .i64 0, .int .i64 0, .int .i64 0, .int .i64 0, .int .i64 0, .int .i64 0, .int .i64 0, .int .i64 0, .int .i64 0, .int .i64 0, .int .i64 0, .int .i64 0, .int .i64 0, .int .i64 0, .int .i64 0, .int .i64 0, .int .i64 0, .int .i64 0, .int .i64 0, .int .i64 0, .int .i64 0, .int .i64 0, .int .i64 0, .int .i64 0, .int .i64 0, .int .i64 0, .int .i64 0, .int .i64 0, .int .i64 0, .int .i64 0, .int .i64 0, .int .i64 0, .int .i64 0] 108) := ⟨_, rfl⟩
  have fr : Below w.heap.size w W := by rw [hW]; exact (Below.refl _ _).alloc (Nat.le_refl _) _
  have pr : Arr W w.heap.size 108 (I64 Z64) := by rw [hW]; exact Arr.new w (I64 Z64) _
  clear hPe
  go_enter Tryd.func87, Tryd.ntmps87
  go_upto_region 1 with fail
  rw [← hW]
  clear hW
  obtain ⟨b1, a1, q1⟩ := laid_e W BX
  replace fr := (fr.trans (b1.mono fr.size))
  replace pr := pr.kept b1
  go_upto_region 2 with (refine wpList_store_row rfl 82 _ _ rfl W.heap.size (I64 BX).toArray rfl rfl 82 _ q1 infoE rfl (by simp [Value.oneCell']) ?_)
  obtain ⟨V, hV⟩ : ∃ V, V = (W.alloc (.cells #[.int .i64 0, .int .i64 0, .int .i64 0, .int .i64 0, .int .i64 0, .int .i64 0, .int .i64 0, .int .i64 0, .int .i64 0, .int .i64 0, .int .i64 0, .int .i64 0, .int .i64 0, .int .i64 0, .int .i64 0, .int .i64 0] 82)).setRow W.heap.size (I64 BX).toArray := ⟨_, rfl⟩
  obtain ⟨E, hE⟩ : ∃ E, E = W.heap.size := ⟨_, rfl⟩
  rw [← hV] at fr pr a1 ⊢
  rw [← hE] at a1 ⊢
  clear hV hE q1 b1
  obtain ⟨b2, a2, q2⟩ := laid_e V BY
  replace fr := (fr.trans (b2.mono fr.size))
  replace pr := pr.kept b2
  replace a1 := a1.kept b2
  go_upto_region 3 with (refine wpList_store_row rfl 82 _ _ rfl V.heap.size (I64 BY).toArray rfl rfl 82 _ q2 infoE rfl (by simp [Value.oneCell']) ?_)
  obtain ⟨U, hU⟩ : ∃ U, U = (V.alloc (.cells #[.int .i64 0, .int .i64 0, .int .i64 0, .int .i64 0, .int .i64 0, .int .i64 0, .int .i64 0, .int .i64 0, .int .i64 0, .int .i64 0, .int .i64 0, .int .i64 0, .int .i64 0, .int .i64 0, .int .i64 0, .int .i64 0] 82)).setRow V.heap.size (I64 BY).toArray := ⟨_, rfl⟩
  obtain ⟨F, hF⟩ : ∃ F, F = V.heap.size := ⟨_, rfl⟩
  rw [← hU] at fr pr a1 a2 ⊢
  rw [← hF] at a2 ⊢
  clear hU hF q2 b2
  obtain ⟨x, hx⟩ : ∃ x, x = BX := ⟨_, rfl⟩
  obtain ⟨y, hy⟩ : ∃ y, y = BY := ⟨_, rfl⟩
  rw [← hx] at a1 HM ix
  rw [← hy] at a2 HM iy
  clear hx hy
  go_wp2_with (first
    | (refine wpList_load_row rfl 82 _ rfl E rfl 82 (I64 x).toArray (0, 0) _ a1 Tryd.underlying82 rfl ix ?_)
    | (refine wpList_load_row rfl 82 _ rfl F rfl 82 (I64 y).toArray (0, 0) _ a2 Tryd.underlying82 rfl iy ?_))
  clear a1 a2
  refine (HM.out _).mono ?_
  rintro e y1 ⟨rfl, hb1⟩
  replace fr := fr.trans (hb1.mono fr.size)
  replace pr := pr.kept hb1
  clear hb1
  have h2 := pr.row (I64 P.cells)
  have HB : Hid _ := setRow_below fr w.heap.size (I64 P.cells).toArray (Nat.le_refl _)
  go_wp2_with (refine wpList_store_row rfl 108 _ _ rfl w.heap.size (I64 P.cells).toArray rfl rfl 108 _ pr hip (by simp [hPl]) (by simp [Value.oneCell']) ?_)
  exact bodyPost_ret (results_cell_row rfl _ _ w.heap.size 108 (I64 P.cells).toArray (0, 0) _ rfl h2 Tryd.underlying108 rfl hip) rfl ⟨rfl, HB.out⟩
end Go.Proofs.YtoblilngppjmhaaDoor
namespace Go.Proofs.YtoblilngppjmhaaDoor
open Go.RowKit
set_option maxRecDepth 100000

/-- The order. -/
def qO : Int := 7237005577332262213973186563042994240857116359379907606001950938285454250989
/-- Its parts. -/
def OL : List Int := [54253, 23797, 25370, 22546, 40150, 41719, 63966, 5342, 0, 0, 0, 0, 0, 0, 0, 4096]
theorem OL_len : OL.length = 16 := rfl
theorem OL_val : val OL = qO := by decide
theorem OL_lm : Lm OL := by unfold Lm OL; decide
/-- What a number comes to, below the order. -/
def redO (v : Int) : List Int := lim 16 (v % qO)
theorem redO_lt (v : Int) : 0 ≤ v % qO ∧ v % qO < qO := by unfold qO; omega
theorem val_redO (v : Int) : val (redO v) = v % qO := by
  unfold redO
  have := redO_lt v
  rw [val_lim, p256]
  unfold qO at *
  omega
theorem redO_len (v : Int) : (redO v).length = 16 := lim_len _ _
theorem redO_lm (v : Int) : Lm (redO v) := lim_lm _ _
/-- A list of sixteen parts that is a multiplier. -/
def scOk (l : List Int) : Bool := decide (l.length = 16) && l.all (fun x => decide (0 ≤ x ∧ x < 65536)) && decide (val l < qO)
theorem scOk_iff (l : List Int) : scOk l = true ↔ l.length = 16 ∧ Lm l ∧ val l < qO := by
  unfold scOk Lm
  simp only [Bool.and_eq_true, decide_eq_true_eq, List.all_eq_true, and_assoc]
theorem redO_ok (v : Int) : scOk (redO v) = true := (scOk_iff _).2 ⟨redO_len v, redO_lm v, by rw [val_redO]; exact (redO_lt v).2⟩
theorem lessO {x : Int} (h0 : 0 ≤ x) (h1 : x < 2 * qO) : (x < qO → lim 16 x = redO x) ∧ (¬ x < qO → lim 16 (x - qO) = redO x) := by
  unfold redO
  constructor
  · intro h; rw [Int.emod_eq_of_lt h0 h]
  · intro h
    rw [show x % qO = x - qO by unfold qO at *; omega]
theorem val_lim16 {x : Int} (h0 : 0 ≤ x) (h1 : x < 2 * qO) : val (lim 16 x) = x := by
  rw [val_lim, p256]
  unfold qO at h1
  omega
theorem map2_val : ∀ a : List Int, val (a.map (fun x => 2 * x)) = 2 * val a
  | [] => by simp [val]
  | x :: a => by simp only [List.map_cons, val, map2_val a]; omega
/-- Parts that carry at most one. -/
def Dp (l : List Int) : Prop := ∀ x ∈ l, 0 ≤ x ∧ x ≤ 131070
theorem cpc_one {l : List Int} (h : Dp l) : ∀ {c : Int}, 0 ≤ c → c ≤ 1 → 0 ≤ cpc l c ∧ cpc l c ≤ 1 := by
  induction l with
  | nil => intro c h0 h1; exact ⟨h0, h1⟩
  | cons x l ih =>
    intro c h0 h1
    have hx := h x (by simp)
    exact ih (fun y hy => h y (by simp [hy])) (by omega) (by omega)
theorem dp_map {a : List Int} (h : Lm a) : Dp (a.map (fun x => 2 * x)) := by
  intro x hx
  obtain ⟨y, hy, rfl⟩ := List.mem_map.1 hx
  have := h y hy
  omega
theorem bitO_low (x r : Nat) (h : r < 16) : x % 65536 / 2 ^ r % 2 = x / 2 ^ r % 2 := by
  have : r = 0 ∨ r = 1 ∨ r = 2 ∨ r = 3 ∨ r = 4 ∨ r = 5 ∨ r = 6 ∨ r = 7 ∨ r = 8 ∨ r = 9 ∨ r = 10 ∨ r = 11 ∨ r = 12 ∨ r = 13 ∨ r = 14 ∨ r = 15 := by omega
  rcases this with rfl | rfl | rfl | rfl | rfl | rfl | rfl | rfl | rfl | rfl | rfl | rfl | rfl | rfl | rfl | rfl <;> omega
/-- A bit of a number in parts. -/
theorem bitO {n : List Int} {m : Nat} (hl : n.length = m) (hm : Lm n) (j : Nat) (hj : j < 16 * m) : n.getD (j / 16) 0 / 2 ^ (j % 16) % 2 = (((val n).toNat / 2 ^ j % 2 : Nat) : Int) := by
  have h0 := val_nonneg (fun x hx => (hm x hx).1)
  have h1 := lim_val n hm
  rw [hl] at h1
  obtain ⟨N, hN⟩ := Int.eq_ofNat_of_zero_le h0
  have h2 := lim_get m (val n) (j / 16) (by omega)
  rw [h1, hN] at h2
  rw [h2, hN, Int.toNat_natCast]
  have h3 : N / 65536 ^ (j / 16) % 65536 / 2 ^ (j % 16) % 2 = N / 2 ^ j % 2 := by
    rw [bitO_low _ _ (by omega), show 65536 = 2 ^ 16 from rfl, ← Nat.pow_mul, Nat.div_div_eq_div_mul, ← Nat.pow_add, Nat.div_add_mod]
  rw [← h3]
  simp only [Int.natCast_ediv, Int.natCast_emod, Int.natCast_pow]
  rfl
/-- Twice what is left of a number above a bit, and the bit. -/
theorem redO_twice (N j : Nat) : redO (2 * val (redO ((N / 2 ^ (j + 1) : Nat) : Int)) + ((N / 2 ^ j % 2 : Nat) : Int)) = redO ((N / 2 ^ j : Nat) : Int) := by
  rw [val_redO]
  have e : ((N / 2 ^ j : Nat) : Int) = 2 * ((N / 2 ^ (j + 1) : Nat) : Int) + ((N / 2 ^ j % 2 : Nat) : Int) := by
    have h : N / 2 ^ (j + 1) = N / 2 ^ j / 2 := by rw [Nat.pow_succ, Nat.div_div_eq_div_mul]
    rw [h]
    omega
  unfold redO
  rw [e]
  congr 1
  generalize ((N / 2 ^ (j + 1) : Nat) : Int) = x
  generalize ((N / 2 ^ j % 2 : Nat) : Int) = b
  unfold qO
  omega
end Go.Proofs.YtoblilngppjmhaaDoor
