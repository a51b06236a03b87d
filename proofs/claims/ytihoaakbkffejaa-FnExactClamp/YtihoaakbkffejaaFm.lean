/-
  What is proved here: plain mathematics on numbers in parts of sixteen bits: what a list of parts is worth, how parts are carried, and what that comes to modulo 2^255 - 19; no program is spoken of, no condition.
-/
import Derived.RowKit
namespace Go.Proofs.Ytihoaakbkffejaa
open Go.RowKit
set_option maxRecDepth 100000

/-- What a list of parts is worth, the lowest first. -/
def val : List Int → Int
  | [] => 0
  | x :: l => x + 65536 * val l
/-- The first n parts of a number. -/
def lim : Nat → Int → List Int
  | 0, _ => []
  | n + 1, x => x % 65536 :: lim n (x / 65536)
/-- All parts are below 2^16. -/
def Lm (l : List Int) : Prop := ∀ x ∈ l, 0 ≤ x ∧ x < 65536
theorem lim_len (n : Nat) (x : Int) : (lim n x).length = n := by
  induction n generalizing x with
  | zero => rfl
  | succ n ih => simp [lim, ih]
theorem lim_lm (n : Nat) (x : Int) : Lm (lim n x) := by
  induction n generalizing x with
  | zero => intro y hy; cases hy
  | succ n ih =>
    intro y hy
    simp only [lim, List.mem_cons] at hy
    rcases hy with rfl | h
    · omega
    · exact ih _ y h
theorem lim_val (l : List Int) (h : Lm l) : lim l.length (val l) = l := by
  induction l with
  | nil => rfl
  | cons x l ih =>
    have hx := h x (by simp)
    have hl : Lm l := fun y hy => h y (by simp [hy])
    simp only [val, List.length_cons, lim]
    rw [show (x + 65536 * val l) % 65536 = x by omega, show (x + 65536 * val l) / 65536 = val l by omega, ih hl]
theorem pow_pos16 (n : Nat) : (0 : Int) < 65536 ^ n := Int.pow_pos (by omega)
theorem emod_part (x M : Int) (hM : 0 < M) : x % 65536 + 65536 * (x / 65536 % M) = x % (65536 * M) := by
  have h1 := Int.emod_nonneg (x / 65536) (show M ≠ 0 by omega)
  have h2 := Int.emod_lt_of_pos (x / 65536) hM
  have h3 := Int.mul_ediv_add_emod (x / 65536) M
  obtain ⟨q, hq⟩ : ∃ q, q = x / 65536 := ⟨_, rfl⟩
  obtain ⟨r, hr⟩ : ∃ r, r = q % M := ⟨_, rfl⟩
  rw [← hq] at h1 h2 h3 ⊢
  rw [← hr] at h1 h2 h3 ⊢
  have hb : x % 65536 + 65536 * r < 65536 * M := by omega
  have hx : x = (x % 65536 + 65536 * r) + (65536 * M) * (q / M) := by
    have e : 65536 * M * (q / M) = 65536 * (M * (q / M)) := by rw [Int.mul_assoc]
    rw [e]
    omega
  have h0 : 0 ≤ x % 65536 + 65536 * r := by omega
  generalize hz : x % 65536 + 65536 * r = z at *
  rw [hx, Int.add_mul_emod_self_left, Int.emod_eq_of_lt h0 hb]
theorem val_lim (n : Nat) (x : Int) : val (lim n x) = x % 65536 ^ n := by
  induction n generalizing x with
  | zero => simp [lim, val, Int.emod_one]
  | succ n ih =>
    simp only [lim, val]
    rw [ih, Int.pow_succ, Int.mul_comm (65536 ^ n) 65536]
    exact emod_part x _ (pow_pos16 n)
theorem val_nonneg {l : List Int} (h : ∀ x ∈ l, 0 ≤ x) : 0 ≤ val l := by
  induction l with
  | nil => simp [val]
  | cons x l ih =>
    have hx := h x (by simp)
    have := ih (fun y hy => h y (by simp [hy]))
    simp only [val]; omega
theorem val_lt {l : List Int} (h : Lm l) : val l < 65536 ^ l.length := by
  induction l with
  | nil => simp [val]
  | cons x l ih =>
    have hx := h x (by simp)
    have := ih (fun y hy => h y (by simp [hy]))
    simp only [val, List.length_cons, Int.pow_succ]
    omega
theorem val_inj {l m : List Int} (hl : Lm l) (hm : Lm m) (hn : l.length = m.length) (h : val l = val m) : l = m := by
  rw [← lim_val l hl, ← lim_val m hm, hn, h]
theorem val_append (l m : List Int) : val (l ++ m) = val l + 65536 ^ l.length * val m := by
  induction l with
  | nil => simp [val]
  | cons x l ih =>
    simp only [List.cons_append, val, List.length_cons, ih, Int.pow_succ]
    rw [Int.mul_add, ← Int.mul_assoc, Int.mul_comm 65536 (65536 ^ l.length)]
    omega

/-- Parts that are carried, and what is carried out of them. -/
def cps : List Int → Int → List Int
  | [], _ => []
  | x :: l, c => (x + c) % 65536 :: cps l ((x + c) / 65536)
def cpc : List Int → Int → Int
  | [], c => c
  | x :: l, c => cpc l ((x + c) / 65536)
theorem cps_lim (l : List Int) (c : Int) : cps l c = lim l.length (val l + c) := by
  induction l generalizing c with
  | nil => rfl
  | cons x l ih =>
    simp only [cps, val, List.length_cons, lim]
    rw [ih, show (x + 65536 * val l + c) % 65536 = (x + c) % 65536 by omega, show (x + 65536 * val l + c) / 65536 = val l + (x + c) / 65536 by omega]
theorem cpc_div (l : List Int) (c : Int) : cpc l c = (val l + c) / 65536 ^ l.length := by
  induction l generalizing c with
  | nil => simp [cpc, val]
  | cons x l ih =>
    simp only [cpc, val, List.length_cons]
    rw [ih, Int.pow_succ, Int.mul_comm (65536 ^ l.length) 65536, ← Int.ediv_ediv_of_nonneg (by omega), show (x + 65536 * val l + c) / 65536 = val l + (x + c) / 65536 by omega]
theorem cps_len (l : List Int) (c : Int) : (cps l c).length = l.length := by rw [cps_lim, lim_len]
/-- What is carried behind k parts. -/
theorem cps_snoc (l : List Int) (x c : Int) : cps (l ++ [x]) c = cps l c ++ [(x + cpc l c) % 65536] := by
  induction l generalizing c with
  | nil => rfl
  | cons y l ih => simp [cps, cpc, ih]
theorem cpc_snoc (l : List Int) (x c : Int) : cpc (l ++ [x]) c = (x + cpc l c) / 65536 := by
  induction l generalizing c with
  | nil => rfl
  | cons y l ih => simp [cpc, ih]
theorem cpc_nonneg {l : List Int} (h : ∀ x ∈ l, 0 ≤ x) {c : Int} (hc : 0 ≤ c) : 0 ≤ cpc l c := by
  induction l generalizing c with
  | nil => exact hc
  | cons x l ih =>
    have hx := h x (by simp)
    exact ih (fun y hy => h y (by simp [hy])) (by omega)

/-- A part that grows by d. -/
theorem val_set (l : List Int) (j : Nat) (h : j < l.length) (v : Int) : val (l.set j v) = val l + 65536 ^ j * (v - l.getD j 0) := by
  induction l generalizing j with
  | nil => simp at h
  | cons x l ih =>
    cases j with
    | zero => simp [val]; omega
    | succ j =>
      have := ih j (by simpa using h)
      simp only [List.set_cons_succ, val, this, List.getD_cons_succ, Int.pow_succ]
      rw [Int.mul_add, ← Int.mul_assoc, Int.mul_comm 65536 (65536 ^ j)]
      omega

/-- The prime. -/
def P25519 : Int := 57896044618658097711785492504343953926634992332820282019728792003956564819949
theorem p256 : (65536 : Int) ^ 16 = 115792089237316195423570985008687907853269984665640564039457584007913129639936 := by decide
/-- One round of bringing back what is above 2^256. -/
def fold (v : Int) : Int := v % 115792089237316195423570985008687907853269984665640564039457584007913129639936 + 38 * (v / 115792089237316195423570985008687907853269984665640564039457584007913129639936)
theorem fold_mod (v : Int) : fold v % P25519 = v % P25519 := by
  unfold fold P25519
  omega
theorem fold_twice {v : Int} (h0 : 0 ≤ v) (h1 : v < 1989292945639146568621528992587283360401824603189390869761855907572637988050133502132224) : 0 ≤ fold (fold v) ∧ fold (fold v) < 115792089237316195423570985008687907853269984665640564039457584007913129639936 := by
  unfold fold
  omega
/-- What is above 2^255 brought back. -/
def fold5 (v : Int) : Int := v % 57896044618658097711785492504343953926634992332820282019728792003956564819968 + 19 * (v / 57896044618658097711785492504343953926634992332820282019728792003956564819968)
theorem fold5_mod {v : Int} (h0 : 0 ≤ v) (h1 : v < 115792089237316195423570985008687907853269984665640564039457584007913129639936) : fold5 v % P25519 = v % P25519 ∧ 0 ≤ fold5 v ∧ fold5 v < P25519 + 38 := by
  unfold fold5 P25519
  omega

/-- The lowest part grows. -/
def addH0 (l : List Int) (d : Int) : List Int := l.set 0 (l.getD 0 0 + d)
theorem addH0_val {l : List Int} (h : 0 < l.length) (d : Int) : val (addH0 l d) = val l + d := by
  unfold addH0
  rw [val_set l 0 h]
  simp only [Int.pow_zero, Int.one_mul]
  omega
/-- One round of carrying. -/
def rnd16 (l : List Int) : List Int := addH0 (cps l 0) (38 * cpc l 0)
theorem rnd16_len (l : List Int) : (rnd16 l).length = l.length := by simp [rnd16, addH0, cps_len]
theorem rnd16_val {l : List Int} (h : l.length = 16) : val (rnd16 l) = fold (val l) := by
  unfold rnd16
  rw [addH0_val (by rw [cps_len]; omega), cps_lim, val_lim, cpc_div, h, p256]
  unfold fold
  simp
theorem addH0_nonneg {l : List Int} (h : ∀ x ∈ l, 0 ≤ x) {d : Int} (hd : 0 ≤ d) : ∀ x ∈ addH0 l d, 0 ≤ x := by
  intro x hx
  unfold addH0 at hx
  rcases List.mem_or_eq_of_mem_set hx with h1 | h1
  · exact h x h1
  · subst h1
    cases l with
    | nil => simpa using hd
    | cons y l => have := h y (by simp); simp; omega
theorem rnd16_nonneg {l : List Int} (h : ∀ x ∈ l, 0 ≤ x) : ∀ x ∈ rnd16 l, 0 ≤ x := by
  refine addH0_nonneg (fun x hx => ?_) ?_
  · rw [cps_lim] at hx; exact (lim_lm _ _ x hx).1
  · have := cpc_nonneg h (c := 0) (by omega); omega
theorem rnd3 {l : List Int} (hl : l.length = 16) (h0 : ∀ x ∈ l, 0 ≤ x) (h1 : val l < 1989292945639146568621528992587283360401824603189390869761855907572637988050133502132224) : rnd16 (rnd16 (rnd16 l)) = lim 16 (fold (fold (val l))) := by
  have hl1 : (rnd16 l).length = 16 := by rw [rnd16_len, hl]
  have hl2 : (rnd16 (rnd16 l)).length = 16 := by rw [rnd16_len, hl1]
  have hv : val (rnd16 (rnd16 l)) = fold (fold (val l)) := by rw [rnd16_val hl1, rnd16_val hl]
  have hb := fold_twice (val_nonneg h0) h1
  obtain ⟨v, hvv⟩ : ∃ v, v = fold (fold (val l)) := ⟨_, rfl⟩
  rw [← hvv] at hv hb ⊢
  unfold rnd16
  have e : cpc (rnd16 (rnd16 l)) 0 = 0 := by
    rw [cpc_div, hl2, p256, hv]
    omega
  have e2 : cps (rnd16 (rnd16 l)) 0 = lim 16 v := by rw [cps_lim, hl2, hv]; simp
  unfold rnd16 at e e2
  rw [e, e2]
  unfold addH0
  simp [lim]
/-- What is above 2^255 brought back, on the parts. -/
def top5 (l : List Int) : List Int := (addH0 l (19 * (l.getD 15 0 / 32768))).set 15 (l.getD 15 0 % 32768)
theorem lim_get (n : Nat) (x : Int) (j : Nat) (h : j < n) : (lim n x).getD j 0 = x / 65536 ^ j % 65536 := by
  induction n generalizing x j with
  | zero => omega
  | succ n ih =>
    cases j with
    | zero => simp [lim]
    | succ j =>
      simp only [lim, List.getD_cons_succ]
      rw [ih _ _ (by omega), Int.pow_succ, Int.mul_comm (65536 ^ j) 65536, Int.ediv_ediv_of_nonneg (by omega)]
theorem p240 : (65536 : Int) ^ 15 = 1766847064778384329583297500742918515827483896875618958121606201292619776 := by decide
theorem top5_val {v : Int} (h0 : 0 ≤ v) (h1 : v < 115792089237316195423570985008687907853269984665640564039457584007913129639936) : val (top5 (lim 16 v)) = fold5 v := by
  have hg : (lim 16 v).getD 15 0 = v / 1766847064778384329583297500742918515827483896875618958121606201292619776 := by
    rw [lim_get 16 v 15 (by omega), p240]
    omega
  have hlen : (addH0 (lim 16 v) (19 * ((lim 16 v).getD 15 0 / 32768))).length = 16 := by simp [addH0, lim_len]
  have hg2 : (addH0 (lim 16 v) (19 * ((lim 16 v).getD 15 0 / 32768))).getD 15 0 = (lim 16 v).getD 15 0 := by
    unfold addH0
    simp [List.getD]
  unfold top5
  rw [val_set _ 15 (by omega), hg2, addH0_val (by rw [lim_len]; omega), val_lim, p256, p240, hg]
  unfold fold5
  omega
theorem top5_len (l : List Int) : (top5 l).length = l.length := by simp [top5, addH0]
/-- What a number comes to, below the prime. -/
def red (v : Int) : List Int := lim 16 (v % P25519)
theorem red_lt (v : Int) : 0 ≤ v % P25519 ∧ v % P25519 < P25519 := by unfold P25519; omega
theorem val_red (v : Int) : val (red v) = v % P25519 := by
  unfold red
  have := red_lt v
  rw [val_lim, p256]
  unfold P25519 at *
  omega
theorem red_len (v : Int) : (red v).length = 16 := lim_len _ _
theorem red_lm (v : Int) : Lm (red v) := lim_lm _ _
/-- A list of sixteen parts that is a number of the field. -/
def feOk (l : List Int) : Bool := decide (l.length = 16) && l.all (fun x => decide (0 ≤ x ∧ x < 65536)) && decide (val l < P25519)
theorem feOk_iff (l : List Int) : feOk l = true ↔ l.length = 16 ∧ Lm l ∧ val l < P25519 := by
  unfold feOk Lm
  simp only [Bool.and_eq_true, decide_eq_true_eq, List.all_eq_true, and_assoc]
theorem red_val {l : List Int} (h : feOk l = true) : red (val l) = l := by
  obtain ⟨h1, h2, h3⟩ := (feOk_iff l).1 h
  have h0 := val_nonneg (fun x hx => (h2 x hx).1)
  unfold red
  rw [Int.emod_eq_of_lt h0 h3, ← h1]
  exact lim_val l h2
end Go.Proofs.Ytihoaakbkffejaa
