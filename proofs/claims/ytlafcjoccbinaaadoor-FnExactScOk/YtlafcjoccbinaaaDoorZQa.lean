/-
  What is proved here: plain mathematics on multipliers as the program makes them: a column put below a number, how often the order goes into it, columns from the highest on; no program is spoken of, no condition.
-/
import Derived.Test.YtlafcjoccbinaaaDoorZJa
import Derived.Test.YtlafcjoccbinaaaDoorZKa
import Derived.Test.YtlafcjoccbinaaaDoorZE
namespace Go.Proofs.YtlafcjoccbinaaaDoor
open Go.RowKit
set_option maxRecDepth 100000

/-- A column below sixteen parts; the last two are one. -/
def mvd (c : Int) (n : List Int) : List Int := c :: (n.take 14 ++ [n.getD 14 0 + n.getD 15 0 * 65536])
theorem mvd_len {c : Int} {n : List Int} (h : n.length = 16) : (mvd c n).length = 16 := by simp [mvd, h]
theorem val_two {n : List Int} (h : n.length = 16) : val n = val (n.take 14) + 65536 ^ 14 * (n.getD 14 0 + 65536 * n.getD 15 0) := by
  have h2 : n = n.take 14 ++ [n.getD 14 0, n.getD 15 0] := by
    conv => lhs; rw [← List.take_append_drop 14 n, drop_one n 14 (by omega), drop_one n 15 (by omega), List.drop_eq_nil_of_le (by omega)]
  conv => lhs; rw [h2, val_append]
  have hl : (n.take 14).length = 14 := by simp [h]
  rw [hl]
  simp only [val]
  congr 2
  omega
theorem mvd_val {c : Int} {n : List Int} (h : n.length = 16) : val (mvd c n) = c + 65536 * val n := by
  have hl : (n.take 14).length = 14 := by simp [h]
  rw [val_two h]
  unfold mvd
  simp only [val, val_append, hl]
  omega
/-- Sixteen parts, without so many times the order's. -/
def ost (t : Int) (l : List Int) : List Int := List.zipWith (fun x y => x - t * y) l OL
theorem ost_len {t : Int} {l : List Int} (h : l.length = 16) : (ost t l).length = 16 := by simp [ost, h, OL_len]
theorem zipT_val (t : Int) : ∀ a b : List Int, a.length = b.length → val (List.zipWith (fun x y => x - t * y) a b) = val a - t * val b
  | [], [], _ => by simp [val]
  | x :: a, y :: b, h => by
    have := zipT_val t a b (by simpa using h)
    simp only [List.zipWith_cons_cons, val, this]
    rw [Int.mul_add, Int.mul_left_comm t 65536]
    omega
  | [], _ :: _, h => by simp at h
  | _ :: _, [], h => by simp at h
theorem ost_val {t : Int} {l : List Int} (h : l.length = 16) : val (ost t l) = val l - t * qO := by
  unfold ost
  rw [zipT_val t l OL (by rw [h, OL_len]), OL_val]
theorem crd_val {l : List Int} (hl : l.length = 16) : val (crd l) = val l := by
  rw [crd_eq hl, val_append, lim_len, val_lim]
  simp only [val]
  have := Int.emod_add_mul_ediv (val l) (65536 ^ 15)
  omega
theorem crd_last {l : List Int} (hl : l.length = 16) : (crd l).getD 15 0 = val l / 65536 ^ 15 := by
  rw [crd_eq hl]
  simp [List.getD, lim_len]
/-- How often the order is taken away. -/
def tms (V : Int) : Int := V / 65536 ^ 15 / 4096 - 1
/-- Numbers that may be settled: below 2^270. -/
def Sq (V : Int) : Prop := 0 ≤ V ∧ V < 1897137590064188545819787018382342682267975428761855001222473056385648716020711424
theorem tms_bd {V : Int} (h : Sq V) : -1 ≤ tms V ∧ tms V < 262144 := by
  unfold tms Sq at *
  rw [p240]
  omega
theorem tms_val {V : Int} (h : Sq V) : 0 ≤ V - tms V * qO ∧ V - tms V * qO < 2 * qO := by
  have hb := tms_bd h
  unfold tms Sq at *
  rw [p240] at *
  unfold qO
  omega
theorem crd_bdS {l : List Int} (hl : l.length = 16) (h : Sq (val l)) : ∀ x ∈ crd l, 0 ≤ x ∧ x < 1073741824 := by
  rw [crd_eq hl, p240]
  intro x hx
  rcases List.mem_append.1 hx with hx | hx
  · have := lim_lm 15 _ x hx; omega
  · simp only [List.mem_singleton] at hx
    subst hx
    unfold Sq at h
    omega
theorem ost_bd {l : List Int} {t : Int} (h0 : -1 ≤ t) (h1 : t < 262144) (h : ∀ x ∈ l, 0 ≤ x ∧ x < 1073741824) : ∀ x ∈ ost t l, -4611686018427387904 ≤ x ∧ x < 4611686018427387904 := by
  intro z hz
  obtain ⟨i, hi⟩ := List.mem_iff_getElem?.1 hz
  unfold ost at hi
  rw [List.getElem?_zipWith] at hi
  split at hi
  · rename_i p q h2 h3
    have h4 := h _ (List.mem_of_getElem? h2)
    have h5 := OL_lm _ (List.mem_of_getElem? h3)
    simp only [Option.some.injEq] at hi
    rw [← hi]
    have h6 : t * q ≤ 262144 * 65536 := by
      have a1 : t * q ≤ 262144 * q := Int.mul_le_mul_of_nonneg_right (by omega) h5.1
      omega
    have h7 : -1 * 65536 ≤ t * q := by
      have a1 : -1 * q ≤ t * q := Int.mul_le_mul_of_nonneg_right h0 h5.1
      omega
    omega
  · cases hi
/-- What is settled comes to the rest modulo the order. -/
theorem settled {l : List Int} (hl : l.length = 16) (h : Sq (val l)) :
    crd (ost (tms (val l)) (crd l)) = lim 16 (val l - tms (val l) * qO) ∧ lim 16 (if val l - tms (val l) * qO < qO then val l - tms (val l) * qO else val l - tms (val l) * qO - qO) = redO (val l) := by
  have hc := crd_len hl
  have hv : val (ost (tms (val l)) (crd l)) = val l - tms (val l) * qO := by rw [ost_val hc, crd_val hl]
  have hb := tms_val h
  refine ⟨?_, ?_⟩
  · rw [crd_lim (ost_len hc) (by rw [hv]; exact hb.1) (by rw [hv]; have := hb.2; unfold qO at this ⊢; omega), hv]
  · have hr : redO (val l - tms (val l) * qO) = redO (val l) := by
      unfold redO
      rw [Int.sub_mul_emod_self_right]
    have hls := lessO hb.1 hb.2
    rw [← hr]
    split
    · rename_i hlt; exact hls.1 hlt
    · rename_i hlt; exact hls.2 hlt
/-- The columns that are put below a number one by one. -/
def Cq (x : Int) : Prop := 0 ≤ x ∧ x < 2199023255552
theorem longer_sq {c : Int} {n : List Int} (hc : Cq c) (h : scOk n = true) : Sq (c + 65536 * val n) := by
  obtain ⟨h1, h2, h3⟩ := (scOk_iff n).1 h
  have h0 := val_nonneg (fun x hx => (h2 x hx).1)
  unfold Sq Cq at *
  unfold qO at h3
  omega
theorem sc_last {n : List Int} (h : scOk n = true) : 0 ≤ n.getD 15 0 ∧ n.getD 15 0 ≤ 4096 := by
  obtain ⟨h1, h2, h3⟩ := (scOk_iff n).1 h
  have h0 := val_nonneg (l := n.take 15) (fun x hx => (h2 x (List.mem_of_mem_take hx)).1)
  have hv := val_last h1
  have := getD_of (p := fun x => 0 ≤ x ∧ x < 65536) h2 (by omega) 15
  rw [hv, p240] at h3
  unfold qO at h3
  omega
theorem mvd_bd {c : Int} {n : List Int} (hc : Cq c) (h : scOk n = true) : ∀ x ∈ mvd c n, -4611686018427387904 ≤ x ∧ x < 4611686018427387904 := by
  obtain ⟨h1, h2, h3⟩ := (scOk_iff n).1 h
  have h15 := sc_last h
  have h14 := getD_of (p := fun x => 0 ≤ x ∧ x < 65536) h2 (by omega) 14
  intro x hx
  unfold mvd at hx
  unfold Cq at hc
  rcases List.mem_cons.1 hx with rfl | hx
  · omega
  · rcases List.mem_append.1 hx with hx | hx
    · have := h2 x (List.mem_of_mem_take hx); omega
    · simp only [List.mem_singleton] at hx
      omega
theorem longer_red (c v : Int) : redO (c + 65536 * val (redO v)) = redO (c + 65536 * v) := by
  rw [val_redO]
  unfold redO
  congr 1
  unfold qO
  omega
/-- All columns from the k-th on. -/
def clm (cs : List Int) (k : Nat) : List Int := redO (val (cs.drop k))
theorem clm_ok (cs : List Int) (k : Nat) : scOk (clm cs k) = true := redO_ok _
theorem clm_end (cs : List Int) : clm cs cs.length = Z16 := by unfold clm; rw [List.drop_length]; decide
theorem clm_step (cs : List Int) (k : Nat) (h : k < cs.length) : redO (cs.getD k 0 + 65536 * val (clm cs (k + 1))) = clm cs k := by
  unfold clm
  rw [longer_red, drop_one cs k h]
  rfl
theorem clm_zero (cs : List Int) : clm cs 0 = redO (val cs) := by unfold clm; rw [List.drop_zero]
theorem tq_cq {a b t : List Int} (h : Tq a b t 16 0) : ∀ x ∈ t, Cq x := by
  intro x hx
  have := h.le x hx
  unfold Cq
  omega
theorem lm_cq {l : List Int} (h : Lm l) : ∀ x ∈ l, Cq x := by
  intro x hx
  have := h x hx
  unfold Cq
  omega
end Go.Proofs.YtlafcjoccbinaaaDoor
