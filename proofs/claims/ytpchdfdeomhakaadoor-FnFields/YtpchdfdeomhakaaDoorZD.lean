/-
  What is proved here: plain mathematics on numbers in parts of sixteen bits: what a list of parts is worth, how parts are carried, and what that comes to modulo 2^255 - 19; no program is spoken of, no condition; plain mathematics on numbers in parts of sixteen bits: carried, compared, taken from each other, multiplied, raised to a power, modulo 2^255 - 19; no program is spoken of, no condition; plain arithmetic: Fermat's little theorem, Pocklington's test, and that 2^255 - 19 is prime; plain arithmetic modulo 2^255 - 19: a number times its power p - 2 is one, and a square has a root that is one of two powers.
-/
import Derived.RowKit
namespace Go.Proofs.YtpchdfdeomhakaaDoor
open Go.RowKit
set_option maxRecDepth 100000

/-- What a list of parts is worth, the lowest first. -/
def val : List Int → Int
  | [] => 0
  | x :: l => x + 65536 * val l
/-- The first n parts of a number. -/
def lim : Nat → Int → List Int
  | 0, _ => []
  | n + 1, x => x % 65536 :: lim n (x / 65536)
/-- All parts are below 2^16. -/
def Lm (l : List Int) : Prop := ∀ x ∈ l, 0 ≤ x ∧ x < 65536
theorem lim_len (n : Nat) (x : Int) : (lim n x).length = n := by
  induction n generalizing x with
  | zero => rfl
  | succ n ih => simp [lim, ih]
theorem lim_lm (n : Nat) (x : Int) : Lm (lim n x) := by
  induction n generalizing x with
  | zero => intro y hy; cases hy
  | succ n ih =>
    intro y hy
    simp only [lim, List.mem_cons] at hy
    rcases hy with rfl | h
    · omega
    · exact ih _ y h
theorem lim_val (l : List Int) (h : Lm l) : lim l.length (val l) = l := by
  induction l with
  | nil => rfl
  | cons x l ih =>
    have hx := h x (by simp)
    have hl : Lm l := fun y hy => h y (by simp [hy])
    simp only [val, List.length_cons, lim]
    rw [show (x + 65536 * val l) % 65536 = x by omega, show (x + 65536 * val l) / 65536 = val l by omega, ih hl]
theorem pow_pos16 (n : Nat) : (0 : Int) < 65536 ^ n := Int.pow_pos (by omega)
theorem emod_part (x M : Int) (hM : 0 < M) : x % 65536 + 65536 * (x / 65536 % M) = x % (65536 * M) := by
  have h1 := Int.emod_nonneg (x / 65536) (show M ≠ 0 by omega)
  have h2 := Int.emod_lt_of_pos (x / 65536) hM
  have h3 := Int.mul_ediv_add_emod (x / 65536) M
  obtain ⟨q, hq⟩ : ∃ q, q = x / 65536 := ⟨_, rfl⟩
  obtain ⟨r, hr⟩ : ∃ r, r = q % M := ⟨_, rfl⟩
  rw [← hq] at h1 h2 h3 ⊢
  rw [← hr] at h1 h2 h3 ⊢
  have hb : x % 65536 + 65536 * r < 65536 * M := by omega
  have hx : x = (x % 65536 + 65536 * r) + (65536 * M) * (q / M) := by
    have e : 65536 * M * (q / M) = 65536 * (M * (q / M)) := by rw [Int.mul_assoc]
    rw [e]
    omega
  have h0 : 0 ≤ x % 65536 + 65536 * r := by omega
  generalize hz : x % 65536 + 65536 * r = z at *
  rw [hx, Int.add_mul_emod_self_left, Int.emod_eq_of_lt h0 hb]
theorem val_lim (n : Nat) (x : Int) : val (lim n x) = x % 65536 ^ n := by
  induction n generalizing x with
  | zero => simp [lim, val, Int.emod_one]
  | succ n ih =>
    simp only [lim, val]
    rw [ih, Int.pow_succ, Int.mul_comm (65536 ^ n) 65536]
    exact emod_part x _ (pow_pos16 n)
theorem val_nonneg {l : List Int} (h : ∀ x ∈ l, 0 ≤ x) : 0 ≤ val l := by
  induction l with
  | nil => simp [val]
  | cons x l ih =>
    have hx := h x (by simp)
    have := ih (fun y hy => h y (by simp [hy]))
    simp only [val]; omega
theorem val_lt {l : List Int} (h : Lm l) : val l < 65536 ^ l.length := by
  induction l with
  | nil => simp [val]
  | cons x l ih =>
    have hx := h x (by simp)
    have := ih (fun y hy => h y (by simp [hy]))
    simp only [val, List.length_cons, Int.pow_succ]
    omega
theorem val_inj {l m : List Int} (hl : Lm l) (hm : Lm m) (hn : l.length = m.length) (h : val l = val m) : l = m := by
  rw [← lim_val l hl, ← lim_val m hm, hn, h]
theorem val_append (l m : List Int) : val (l ++ m) = val l + 65536 ^ l.length * val m := by
  induction l with
  | nil => simp [val]
  | cons x l ih =>
    simp only [List.cons_append, val, List.length_cons, ih, Int.pow_succ]
    rw [Int.mul_add, ← Int.mul_assoc, Int.mul_comm 65536 (65536 ^ l.length)]
    omega

/-- Parts that are carried, and what is carried out of them. -/
def cps : List Int → Int → List Int
  | [], _ => []
  | x :: l, c => (x + c) % 65536 :: cps l ((x + c) / 65536)
def cpc : List Int → Int → Int
  | [], c => c
  | x :: l, c => cpc l ((x + c) / 65536)
theorem cps_lim (l : List Int) (c : Int) : cps l c = lim l.length (val l + c) := by
  induction l generalizing c with
  | nil => rfl
  | cons x l ih =>
    simp only [cps, val, List.length_cons, lim]
    rw [ih, show (x + 65536 * val l + c) % 65536 = (x + c) % 65536 by omega, show (x + 65536 * val l + c) / 65536 = val l + (x + c) / 65536 by omega]
theorem cpc_div (l : List Int) (c : Int) : cpc l c = (val l + c) / 65536 ^ l.length := by
  induction l generalizing c with
  | nil => simp [cpc, val]
  | cons x l ih =>
    simp only [cpc, val, List.length_cons]
    rw [ih, Int.pow_succ, Int.mul_comm (65536 ^ l.length) 65536, ← Int.ediv_ediv_of_nonneg (by omega), show (x + 65536 * val l + c) / 65536 = val l + (x + c) / 65536 by omega]
theorem cps_len (l : List Int) (c : Int) : (cps l c).length = l.length := by rw [cps_lim, lim_len]
/-- What is carried behind k parts. -/
theorem cps_snoc (l : List Int) (x c : Int) : cps (l ++ [x]) c = cps l c ++ [(x + cpc l c) % 65536] := by
  induction l generalizing c with
  | nil => rfl
  | cons y l ih => simp [cps, cpc, ih]
theorem cpc_snoc (l : List Int) (x c : Int) : cpc (l ++ [x]) c = (x + cpc l c) / 65536 := by
  induction l generalizing c with
  | nil => rfl
  | cons y l ih => simp [cpc, ih]
theorem cpc_nonneg {l : List Int} (h : ∀ x ∈ l, 0 ≤ x) {c : Int} (hc : 0 ≤ c) : 0 ≤ cpc l c := by
  induction l generalizing c with
  | nil => exact hc
  | cons x l ih =>
    have hx := h x (by simp)
    exact ih (fun y hy => h y (by simp [hy])) (by omega)

/-- A part that grows by d. -/
theorem val_set (l : List Int) (j : Nat) (h : j < l.length) (v : Int) : val (l.set j v) = val l + 65536 ^ j * (v - l.getD j 0) := by
  induction l generalizing j with
  | nil => simp at h
  | cons x l ih =>
    cases j with
    | zero => simp [val]; omega
    | succ j =>
      have := ih j (by simpa using h)
      simp only [List.set_cons_succ, val, this, List.getD_cons_succ, Int.pow_succ]
      rw [Int.mul_add, ← Int.mul_assoc, Int.mul_comm 65536 (65536 ^ j)]
      omega

/-- The prime. -/
def P25519 : Int := 57896044618658097711785492504343953926634992332820282019728792003956564819949
theorem p256 : (65536 : Int) ^ 16 = 115792089237316195423570985008687907853269984665640564039457584007913129639936 := by decide
/-- One round of bringing back what is above 2^256. -/
def fold (v : Int) : Int := v % 115792089237316195423570985008687907853269984665640564039457584007913129639936 + 38 * (v / 115792089237316195423570985008687907853269984665640564039457584007913129639936)
theorem fold_mod (v : Int) : fold v % P25519 = v % P25519 := by
  unfold fold P25519
  omega
theorem fold_twice {v : Int} (h0 : 0 ≤ v) (h1 : v < 1989292945639146568621528992587283360401824603189390869761855907572637988050133502132224) : 0 ≤ fold (fold v) ∧ fold (fold v) < 115792089237316195423570985008687907853269984665640564039457584007913129639936 := by
  unfold fold
  omega
/-- What is above 2^255 brought back. -/
def fold5 (v : Int) : Int := v % 57896044618658097711785492504343953926634992332820282019728792003956564819968 + 19 * (v / 57896044618658097711785492504343953926634992332820282019728792003956564819968)
theorem fold5_mod {v : Int} (h0 : 0 ≤ v) (h1 : v < 115792089237316195423570985008687907853269984665640564039457584007913129639936) : fold5 v % P25519 = v % P25519 ∧ 0 ≤ fold5 v ∧ fold5 v < P25519 + 38 := by
  unfold fold5 P25519
  omega

/-- The lowest part grows. -/
def addH0 (l : List Int) (d : Int) : List Int := l.set 0 (l.getD 0 0 + d)
theorem addH0_val {l : List Int} (h : 0 < l.length) (d : Int) : val (addH0 l d) = val l + d := by
  unfold addH0
  rw [val_set l 0 h]
  simp only [Int.pow_zero, Int.one_mul]
  omega
/-- One round of carrying. -/
def rnd16 (l : List Int) : List Int := addH0 (cps l 0) (38 * cpc l 0)
theorem rnd16_len (l : List Int) : (rnd16 l).length = l.length := by simp [rnd16, addH0, cps_len]
theorem rnd16_val {l : List Int} (h : l.length = 16) : val (rnd16 l) = fold (val l) := by
  unfold rnd16
  rw [addH0_val (by rw [cps_len]; omega), cps_lim, val_lim, cpc_div, h, p256]
  unfold fold
  simp
theorem addH0_nonneg {l : List Int} (h : ∀ x ∈ l, 0 ≤ x) {d : Int} (hd : 0 ≤ d) : ∀ x ∈ addH0 l d, 0 ≤ x := by
  intro x hx
  unfold addH0 at hx
  rcases List.mem_or_eq_of_mem_set hx with h1 | h1
  · exact h x h1
  · subst h1
    cases l with
    | nil => simpa using hd
    | cons y l => have := h y (by simp); simp; omega
theorem rnd16_nonneg {l : List Int} (h : ∀ x ∈ l, 0 ≤ x) : ∀ x ∈ rnd16 l, 0 ≤ x := by
  refine addH0_nonneg (fun x hx => ?_) ?_
  · rw [cps_lim] at hx; exact (lim_lm _ _ x hx).1
  · have := cpc_nonneg h (c := 0) (by omega); omega
theorem rnd3 {l : List Int} (hl : l.length = 16) (h0 : ∀ x ∈ l, 0 ≤ x) (h1 : val l < 1989292945639146568621528992587283360401824603189390869761855907572637988050133502132224) : rnd16 (rnd16 (rnd16 l)) = lim 16 (fold (fold (val l))) := by
  have hl1 : (rnd16 l).length = 16 := by rw [rnd16_len, hl]
  have hl2 : (rnd16 (rnd16 l)).length = 16 := by rw [rnd16_len, hl1]
  have hv : val (rnd16 (rnd16 l)) = fold (fold (val l)) := by rw [rnd16_val hl1, rnd16_val hl]
  have hb := fold_twice (val_nonneg h0) h1
  obtain ⟨v, hvv⟩ : ∃ v, v = fold (fold (val l)) := ⟨_, rfl⟩
  rw [← hvv] at hv hb ⊢
  unfold rnd16
  have e : cpc (rnd16 (rnd16 l)) 0 = 0 := by
    rw [cpc_div, hl2, p256, hv]
    omega
  have e2 : cps (rnd16 (rnd16 l)) 0 = lim 16 v := by rw [cps_lim, hl2, hv]; simp
  unfold rnd16 at e e2
  rw [e, e2]
  unfold addH0
  simp [lim]
/-- What is above 2^255 brought back, on the parts. -/
def top5 (l : List Int) : List Int := (addH0 l (19 * (l.getD 15 0 / 32768))).set 15 (l.getD 15 0 % 32768)
theorem lim_get (n : Nat) (x : Int) (j : Nat) (h : j < n) : (lim n x).getD j 0 = x / 65536 ^ j % 65536 := by
  induction n generalizing x j with
  | zero => omega
  | succ n ih =>
    cases j with
    | zero => simp [lim]
    | succ j =>
      simp only [lim, List.getD_cons_succ]
      rw [ih _ _ (by omega), Int.pow_succ, Int.mul_comm (65536 ^ j) 65536, Int.ediv_ediv_of_nonneg (by omega)]
theorem p240 : (65536 : Int) ^ 15 = 1766847064778384329583297500742918515827483896875618958121606201292619776 := by decide
theorem top5_val {v : Int} (h0 : 0 ≤ v) (h1 : v < 115792089237316195423570985008687907853269984665640564039457584007913129639936) : val (top5 (lim 16 v)) = fold5 v := by
  have hg : (lim 16 v).getD 15 0 = v / 1766847064778384329583297500742918515827483896875618958121606201292619776 := by
    rw [lim_get 16 v 15 (by omega), p240]
    omega
  have hlen : (addH0 (lim 16 v) (19 * ((lim 16 v).getD 15 0 / 32768))).length = 16 := by simp [addH0, lim_len]
  have hg2 : (addH0 (lim 16 v) (19 * ((lim 16 v).getD 15 0 / 32768))).getD 15 0 = (lim 16 v).getD 15 0 := by
    unfold addH0
    simp [List.getD]
  unfold top5
  rw [val_set _ 15 (by omega), hg2, addH0_val (by rw [lim_len]; omega), val_lim, p256, p240, hg]
  unfold fold5
  omega
theorem top5_len (l : List Int) : (top5 l).length = l.length := by simp [top5, addH0]
/-- What a number comes to, below the prime. -/
def red (v : Int) : List Int := lim 16 (v % P25519)
theorem red_lt (v : Int) : 0 ≤ v % P25519 ∧ v % P25519 < P25519 := by unfold P25519; omega
theorem val_red (v : Int) : val (red v) = v % P25519 := by
  unfold red
  have := red_lt v
  rw [val_lim, p256]
  unfold P25519 at *
  omega
theorem red_len (v : Int) : (red v).length = 16 := lim_len _ _
theorem red_lm (v : Int) : Lm (red v) := lim_lm _ _
/-- A list of sixteen parts that is a number of the field. -/
def feOk (l : List Int) : Bool := decide (l.length = 16) && l.all (fun x => decide (0 ≤ x ∧ x < 65536)) && decide (val l < P25519)
theorem feOk_iff (l : List Int) : feOk l = true ↔ l.length = 16 ∧ Lm l ∧ val l < P25519 := by
  unfold feOk Lm
  simp only [Bool.and_eq_true, decide_eq_true_eq, List.all_eq_true, and_assoc]
theorem red_val {l : List Int} (h : feOk l = true) : red (val l) = l := by
  obtain ⟨h1, h2, h3⟩ := (feOk_iff l).1 h
  have h0 := val_nonneg (fun x hx => (h2 x hx).1)
  unfold red
  rw [Int.emod_eq_of_lt h0 h3, ← h1]
  exact lim_val l h2
end Go.Proofs.YtpchdfdeomhakaaDoor
namespace Go.Proofs.YtpchdfdeomhakaaDoor
open Go.RowKit
set_option maxRecDepth 100000

theorem carry_lt {v : Int} (h0 : 0 ≤ v) (h1 : v < 1989292945639146568621528992587283360401824603189390869761855907572637988050133502132224) :
    (fold5 (fold (fold v)) < P25519 → fold5 (fold (fold v)) = v % P25519) ∧ (¬ fold5 (fold (fold v)) < P25519 → fold5 (fold (fold v)) - P25519 = v % P25519) ∧ 0 ≤ fold5 (fold (fold v)) ∧ fold5 (fold (fold v)) < P25519 + 38 := by
  have hb := fold_twice h0 h1
  have h5 := fold5_mod hb.1 hb.2
  have hm : fold5 (fold (fold v)) % P25519 = v % P25519 := by rw [h5.1, fold_mod, fold_mod]
  obtain ⟨x, hx⟩ : ∃ x, x = fold5 (fold (fold v)) := ⟨_, rfl⟩
  rw [← hx] at hm h5 ⊢
  rw [← hm]
  unfold P25519 at *
  omega
/-- The parts behind all carrying, ahead of the last comparison. -/
def pre5 (l : List Int) : List Int := cps (top5 (rnd16 (rnd16 (rnd16 l)))) 0
theorem pre5_lim {l : List Int} (hl : l.length = 16) (h0 : ∀ x ∈ l, 0 ≤ x) (h1 : val l < 1989292945639146568621528992587283360401824603189390869761855907572637988050133502132224) : pre5 l = lim 16 (fold5 (fold (fold (val l)))) := by
  have hb := fold_twice (val_nonneg h0) h1
  unfold pre5
  rw [rnd3 hl h0 h1, cps_lim, top5_len, lim_len, top5_val hb.1 hb.2, Int.add_zero]
theorem pre5_val {l : List Int} (hl : l.length = 16) (h0 : ∀ x ∈ l, 0 ≤ x) (h1 : val l < 1989292945639146568621528992587283360401824603189390869761855907572637988050133502132224) : val (pre5 l) = fold5 (fold (fold (val l))) := by
  have h2 := carry_lt (val_nonneg h0) h1
  rw [pre5_lim hl h0 h1, val_lim, p256]
  obtain ⟨x, hx⟩ : ∃ x, x = fold5 (fold (fold (val l))) := ⟨_, rfl⟩
  rw [← hx] at h2 ⊢
  unfold P25519 at h2
  omega

theorem zipSub_val : ∀ (a b : List Int), a.length = b.length → val (List.zipWith (fun x y => x - y) a b) = val a - val b
  | [], [], _ => by simp [val]
  | x :: a, y :: b, h => by
    have := zipSub_val a b (by simpa using h)
    simp only [List.zipWith_cons_cons, val, this]
    omega
  | [], _ :: _, h => by simp at h
  | _ :: _, [], h => by simp at h
/-- A difference, part by part. -/
def tk16 (a b : List Int) : List Int := cps (List.zipWith (fun x y => x - y) a b) 0
theorem tk16_lim {a b : List Int} (ha : a.length = 16) (hb : b.length = 16) : tk16 a b = lim 16 (val a - val b) := by
  unfold tk16
  rw [cps_lim, zipSub_val a b (by omega), Int.add_zero]
  simp [ha, hb]
theorem zipAdd_val : ∀ (a b : List Int), a.length = b.length → val (List.zipWith (fun x y => x + y) a b) = val a + val b
  | [], [], _ => by simp [val]
  | x :: a, y :: b, h => by
    have := zipAdd_val a b (by simpa using h)
    simp only [List.zipWith_cons_cons, val, this]
    omega
  | [], _ :: _, h => by simp at h
  | _ :: _, [], h => by simp at h

theorem val_split (l : List Int) (i : Nat) (h : i < l.length) : val l = val (l.take i) + 65536 ^ i * l.getD i 0 + 65536 ^ (i + 1) * val (l.drop (i + 1)) := by
  have e : l = l.take i ++ (l.getD i 0 :: l.drop (i + 1)) := by
    have : l.drop i = l.getD i 0 :: l.drop (i + 1) := by
      rw [List.drop_eq_getElem_cons h]; simp [h]
    rw [← this, List.take_append_drop]
  have hl : (l.take i).length = i := by simp; omega
  conv => lhs; rw [e]
  rw [val_append, hl]
  simp only [val]
  rw [Int.mul_add, Int.pow_succ, ← Int.mul_assoc]
  omega
theorem lt_at {a b : List Int} {n i : Nat} (ha : a.length = n) (hb : b.length = n) (la : Lm a) (lb : Lm b) (hi : i < n) (hd : a.drop (i + 1) = b.drop (i + 1)) (hne : a.getD i 0 ≠ b.getD i 0) : (a.getD i 0 < b.getD i 0) ↔ val a < val b := by
  have va := val_split a i (by omega)
  have vb := val_split b i (by omega)
  rw [hd] at va
  have ta : val (a.take i) < 65536 ^ i := by
    have := val_lt (l := a.take i) (fun x hx => la x (List.mem_of_mem_take hx))
    simpa [show min i a.length = i by omega] using this
  have tb : val (b.take i) < 65536 ^ i := by
    have := val_lt (l := b.take i) (fun x hx => lb x (List.mem_of_mem_take hx))
    simpa [show min i b.length = i by omega] using this
  have na := val_nonneg (l := a.take i) (fun x hx => (la x (List.mem_of_mem_take hx)).1)
  have nb := val_nonneg (l := b.take i) (fun x hx => (lb x (List.mem_of_mem_take hx)).1)
  obtain ⟨p, hp⟩ : ∃ p : Int, p = 65536 ^ i := ⟨_, rfl⟩
  have pp : 0 < p := by rw [hp]; exact pow_pos16 i
  rw [← hp] at va vb ta tb
  generalize 65536 ^ (i + 1) * val (b.drop (i + 1)) = R at va vb
  generalize a.getD i 0 = x at *
  generalize b.getD i 0 = y at *
  constructor
  · intro h
    have : p * (x + 1) ≤ p * y := Int.mul_le_mul_of_nonneg_left (by omega) (by omega)
    rw [Int.mul_add] at this
    omega
  · intro h
    by_cases hlt : x < y
    · exact hlt
    · have : p * (y + 1) ≤ p * x := Int.mul_le_mul_of_nonneg_left (by omega) (by omega)
      rw [Int.mul_add] at this
      omega

theorem val_take_succ (l : List Int) (i : Nat) (h : i < l.length) : val (l.take (i + 1)) = val (l.take i) + 65536 ^ i * l.getD i 0 := by
  have e : l.take (i + 1) = l.take i ++ [l.getD i 0] := by
    rw [List.take_add_one, List.getD, List.getElem?_eq_getElem h]; rfl
  have hl : (l.take i).length = i := by simp; omega
  rw [e, val_append, hl]
  simp [val]
/-- What the table of a product is worth when i whole rows and k parts of the next are in. -/
def prodAt (a b : List Int) (i k : Nat) : Int := val (a.take i) * val b + 65536 ^ i * a.getD i 0 * val (b.take k)
theorem prodAt_step (a b : List Int) (i k : Nat) (hk : k < b.length) : prodAt a b i (k + 1) = prodAt a b i k + 65536 ^ (i + k) * (a.getD i 0 * b.getD k 0) := by
  unfold prodAt
  rw [val_take_succ b k hk, Int.mul_add, Int.pow_add, ← Int.add_assoc]
  congr 1
  simp only [Int.mul_assoc]
  congr 1
  rw [← Int.mul_assoc, Int.mul_comm (a.getD i 0) (65536 ^ k), Int.mul_assoc]
theorem prodAt_row (a b : List Int) (i : Nat) (hi : i < a.length) : prodAt a b i b.length = prodAt a b (i + 1) 0 := by
  unfold prodAt
  rw [List.take_of_length_le (Nat.le_refl _), val_take_succ a i hi, Int.add_mul]
  simp [val]
theorem prodAt_end (a b : List Int) (h : a.length = 16) : prodAt a b 16 0 = val a * val b := by
  unfold prodAt
  rw [List.take_of_length_le (by omega)]
  simp [val]
end Go.Proofs.YtpchdfdeomhakaaDoor
namespace Go.Proofs.YtpchdfdeomhakaaDoor

def Pri (p : Nat) : Prop := 1 < p ∧ ∀ m, m ∣ p → m = 1 ∨ m = p

theorem Pri.cop {p a : Nat} (hp : Pri p) (h : ¬ p ∣ a) : Nat.gcd p a = 1 := by
  rcases hp.2 _ (Nat.gcd_dvd_left p a) with h1 | h1
  · exact h1
  · exact absurd (h1 ▸ Nat.gcd_dvd_right p a) h
theorem Pri.dvd_mul {p a b : Nat} (hp : Pri p) (h : p ∣ a * b) : p ∣ a ∨ p ∣ b := by
  by_cases ha : p ∣ a
  · exact .inl ha
  · exact .inr (Nat.Coprime.dvd_of_dvd_mul_left (hp.cop ha) h)

/-- The number of ways to take k of n. -/
def ch : Nat → Nat → Nat
  | _, 0 => 1
  | 0, _ + 1 => 0
  | n + 1, k + 1 => ch n k + ch n (k + 1)
theorem ch_zero (n : Nat) : ch n 0 = 1 := by cases n <;> rfl
theorem ch_big : ∀ (n k : Nat), n < k → ch n k = 0
  | 0, k + 1, _ => rfl
  | n + 1, k + 1, h => by rw [ch, ch_big n k (by omega), ch_big n (k + 1) (by omega)]
theorem ch_self : ∀ n : Nat, ch n n = 1
  | 0 => rfl
  | n + 1 => by rw [ch, ch_self n, ch_big n (n + 1) (by omega)]
theorem ch_mul : ∀ (n k : Nat), (k + 1) * ch (n + 1) (k + 1) = (n + 1) * ch n k
  | 0, 0 => rfl
  | 0, k + 1 => by
    rw [ch_big 1 (k + 2) (by omega), ch_big 0 (k + 1) (by omega)]; simp
  | n + 1, 0 => by
    have h1 := ch_mul n 0
    have h2 : ch (n + 1 + 1) (0 + 1) = ch (n + 1) 0 + ch (n + 1) (0 + 1) := rfl
    rw [h2, ch_zero]
    rw [ch_zero] at h1
    omega
  | n + 1, k + 1 => by
    have h1 := ch_mul n k
    have h2 := ch_mul n (k + 1)
    rw [ch]
    have h3 : ch (n + 1) (k + 1) = ch n k + ch n (k + 1) := rfl
    generalize ch (n + 1) (k + 1) = x at *
    generalize ch (n + 1) (k + 1 + 1) = y at *
    rw [Nat.mul_add, Nat.succ_mul (k + 1) x, h1, h2, Nat.succ_mul (n + 1) x, h3, Nat.mul_add]
    omega
/-- The first j parts of (x + 1) to the n. -/
def bsum (n x : Nat) : Nat → Nat
  | 0 => 0
  | j + 1 => bsum n x j + ch n j * x ^ j
theorem bsum_up (n x : Nat) : ∀ j, bsum (n + 1) x (j + 1) = bsum n x (j + 1) + x * bsum n x j
  | 0 => by simp [bsum, ch_zero]
  | j + 1 => by
    have h := bsum_up n x j
    rw [bsum, h]
    have h1 : bsum n x (j + 1 + 1) = bsum n x (j + 1) + ch n (j + 1) * x ^ (j + 1) := rfl
    have h2 : bsum n x (j + 1) = bsum n x j + ch n j * x ^ j := rfl
    have h3 : ch (n + 1) (j + 1) = ch n j + ch n (j + 1) := rfl
    rw [h1, h3, Nat.add_mul, show x * bsum n x (j + 1) = x * bsum n x j + ch n j * x ^ (j + 1) by rw [h2, Nat.mul_add, Nat.pow_succ]; congr 1; rw [Nat.mul_left_comm, Nat.mul_comm x (x ^ j)]]
    omega
theorem binom (x : Nat) : ∀ n, (x + 1) ^ n = bsum n x (n + 1)
  | 0 => by simp [bsum, ch]
  | n + 1 => by
    have h := bsum_up n x (n + 1)
    have h1 : bsum n x (n + 1 + 1) = bsum n x (n + 1) + ch n (n + 1) * x ^ (n + 1) := rfl
    rw [ch_big n (n + 1) (by omega), Nat.zero_mul, Nat.add_zero] at h1
    rw [h, h1, Nat.pow_succ, binom x n, Nat.mul_add, Nat.mul_one, Nat.mul_comm]
    omega
theorem Pri.ch {p : Nat} (hp : Pri p) (k : Nat) (h0 : 0 < k) (h1 : k < p) : p ∣ ch p k := by
  obtain ⟨q, rfl⟩ : ∃ q, p = q + 1 := ⟨p - 1, by omega⟩
  obtain ⟨j, rfl⟩ : ∃ j, k = j + 1 := ⟨k - 1, by omega⟩
  have := ch_mul q j
  rcases hp.dvd_mul (a := j + 1) (b := Go.Proofs.YtpchdfdeomhakaaDoor.ch (q + 1) (j + 1)) ⟨_, this⟩ with h | h
  · exact absurd (Nat.le_of_dvd (by omega) h) (by omega)
  · exact h
theorem Pri.bsum {p : Nat} (hp : Pri p) (x : Nat) : ∀ j, 0 < j → j ≤ p → bsum p x j % p = 1
  | 0, h, _ => by omega
  | 1, _, _ => by
    have := hp.1
    simp [Go.Proofs.YtpchdfdeomhakaaDoor.bsum, ch_zero, Nat.mod_eq_of_lt this]
  | j + 2, _, h => by
    have h1 := hp.bsum x (j + 1) (by omega) (by omega)
    obtain ⟨c, hc⟩ := hp.ch (j + 1) (by omega) (by omega)
    rw [Go.Proofs.YtpchdfdeomhakaaDoor.bsum, hc, Nat.mul_assoc, Nat.add_mul_mod_self_left, h1]
theorem Pri.frob {p : Nat} (hp : Pri p) (x : Nat) : (x + 1) ^ p % p = (x ^ p + 1) % p := by
  rw [binom, Go.Proofs.YtpchdfdeomhakaaDoor.bsum, ch_self, Nat.one_mul, Nat.add_comm, Nat.add_mod, hp.bsum x p (by have := hp.1; omega) (Nat.le_refl _), Nat.mod_add_mod]
theorem Pri.fermat {p : Nat} (hp : Pri p) : ∀ x : Nat, x ^ p % p = x % p
  | 0 => by rw [Nat.zero_pow (by have := hp.1; omega)]
  | x + 1 => by rw [hp.frob, Nat.add_mod, hp.fermat x, ← Nat.add_mod]
/-- Fermat's little theorem. -/
theorem Pri.one {p : Nat} (hp : Pri p) {x : Nat} (hx : ¬ p ∣ x) : x ^ (p - 1) % p = 1 := by
  have h1 := hp.1
  have hx0 : 0 < x := by
    rcases Nat.eq_zero_or_pos x with rfl | h
    · exact absurd (Nat.dvd_zero p) hx
    · exact h
  have hpos : 0 < x ^ (p - 1) := Nat.pow_pos hx0
  have h2 : p ∣ x ^ p - x := (Nat.sub_mod_eq_zero_of_mod_eq (hp.fermat x)) |> Nat.dvd_of_mod_eq_zero
  have h3 : x ^ p - x = x * (x ^ (p - 1) - 1) := by
    rw [Nat.mul_sub, Nat.mul_one, ← Nat.pow_succ', show (p - 1).succ = p by omega]
  rw [h3] at h2
  rcases hp.dvd_mul h2 with h | h
  · exact absurd h hx
  · obtain ⟨c, hc⟩ := h
    rw [show x ^ (p - 1) = 1 + p * c by omega, Nat.add_mul_mod_self_left, Nat.mod_eq_of_lt h1]

theorem pow_mod_one {d b x : Nat} (hd : 1 < d) (h : b ^ x % d = 1) (c : Nat) : b ^ (x * c) % d = 1 := by
  rw [Nat.pow_mul, Nat.pow_mod, h, Nat.one_pow, Nat.mod_eq_of_lt hd]
theorem pow_gcd {d b : Nat} (hd : 1 < d) (x y : Nat) : b ^ x % d = 1 → b ^ y % d = 1 → b ^ (Nat.gcd x y) % d = 1 := by
  induction x, y using Nat.gcd.induction with
  | H0 y => intro _ h; rw [Nat.gcd_zero_left]; exact h
  | H1 x y _ ih =>
    intro hx hy
    rw [Nat.gcd_rec]
    refine ih ?_ hx
    have h1 := pow_mod_one hd hx (y / x)
    rw [← Nat.div_add_mod y x, Nat.pow_add, Nat.mul_mod, h1, Nat.one_mul, Nat.mod_mod] at hy
    exact hy
theorem pri_dvd : ∀ n : Nat, 1 < n → ∃ d, Pri d ∧ d ∣ n := by
  intro n
  induction n using Nat.strongRecOn with
  | ind n ih =>
    intro h
    by_cases hp : Pri n
    · exact ⟨n, hp, Nat.dvd_refl _⟩
    · have : ∃ m, m ∣ n ∧ m ≠ 1 ∧ m ≠ n := by
        refine Classical.byContradiction fun hc => hp ⟨h, fun m hm => ?_⟩
        refine Classical.byContradiction fun h2 => hc ⟨m, hm, fun e => h2 (.inl e), fun e => h2 (.inr e)⟩
      obtain ⟨m, hm, h1, h2⟩ := this
      have hl := Nat.le_of_dvd (by omega) hm
      have h0 : m ≠ 0 := by rintro rfl; have := Nat.eq_zero_of_zero_dvd hm; omega
      obtain ⟨d, hd, hdm⟩ := ih m (by omega) (by omega)
      exact ⟨d, hd, Nat.dvd_trans hdm hm⟩
/-- Who has no prime divisor up to its root is prime. -/
theorem pri_of {n : Nat} (h1 : 1 < n) (h : ∀ d, Pri d → d ∣ n → n < d * d) : Pri n := by
  refine ⟨h1, fun m hm => ?_⟩
  obtain ⟨c, hc⟩ := hm
  refine Classical.byContradiction fun hne => ?_
  have hm1 : m ≠ 1 := fun e => hne (.inl e)
  have hmn : m ≠ n := fun e => hne (.inr e)
  have hm0 : m ≠ 0 := by rintro rfl; simp at hc; omega
  have hc0 : c ≠ 0 := by rintro rfl; simp at hc; omega
  have hc1 : c ≠ 1 := by rintro rfl; simp at hc; omega
  have key : ∀ u v : Nat, 1 < u → n = u * v → u ≤ v → False := by
    intro u v hu hn huv
    obtain ⟨d, hd, hdu⟩ := pri_dvd u hu
    have hdl := Nat.le_of_dvd (by omega) hdu
    have h2 := h d hd (hn ▸ Nat.dvd_trans hdu (Nat.dvd_mul_right u v))
    have h3 : d * d ≤ u * v := Nat.mul_le_mul hdl (by omega)
    omega
  rcases Nat.le_total m c with h2 | h2
  · exact key m c (by omega) hc h2
  · exact key c m (by omega) (by rw [Nat.mul_comm]; exact hc) h2

/-- A witness: q divides d - 1 for every prime d that divides n. -/
theorem wit {n d q m a : Nat} (hn0 : 0 < n) (hd : Pri d) (hdn : d ∣ n) (hq : Pri q) (hn : n - 1 = m * q) (h1 : a ^ (n - 1) % n = 1) (h2 : Nat.gcd (a ^ m % n + (n - 1)) n = 1) : q ∣ d - 1 := by
  refine Classical.byContradiction fun hnd => ?_
  have hd1 := hd.1
  have hb : a ^ (m * q) % d = 1 := by
    rw [← hn, ← Nat.mod_mod_of_dvd _ hdn, h1, Nat.mod_eq_of_lt hd1]
  have hda : ¬ d ∣ a ^ m := by
    intro h
    rw [Nat.pow_mul, Nat.pow_mod, Nat.mod_eq_zero_of_dvd h, Nat.zero_pow (by have := hq.1; omega)] at hb
    simp at hb
  have h3 := pow_gcd hd1 q (d - 1) (by rw [← Nat.pow_mul]; exact hb) (hd.one hda)
  rw [hq.cop hnd, Nat.pow_one] at h3
  have h4 : d ∣ a ^ m % n + (n - 1) := by
    refine Nat.dvd_of_mod_eq_zero ?_
    rw [Nat.add_mod, Nat.mod_mod_of_dvd _ hdn, h3, Nat.add_mod_mod, show 1 + (n - 1) = n by omega]
    exact Nat.mod_eq_zero_of_dvd hdn
  have h5 : d ∣ 1 := h2 ▸ Nat.dvd_gcd h4 hdn
  have := Nat.le_of_dvd (by omega) h5
  omega

/-- a to the e modulo n, for e below 2 to the f. -/
def pw (n a : Nat) : Nat → Nat → Nat
  | 0, _ => 1
  | f + 1, e => (pw n a f (e / 2)) ^ 2 * a ^ (e % 2) % n
theorem pw_eq {n a : Nat} (hn : 1 < n) : ∀ f e : Nat, e < 2 ^ f → pw n a f e = a ^ e % n
  | 0, e, h => by
    have : e = 0 := by simpa using h
    subst this
    simp [pw, Nat.mod_eq_of_lt hn]
  | f + 1, e, h => by
    rw [pw, pw_eq hn f (e / 2) (by rw [Nat.pow_succ] at h; omega)]
    conv => rhs; rw [← Nat.div_add_mod e 2, Nat.pow_add, Nat.mul_comm 2, Nat.pow_mul, Nat.mul_mod, Nat.pow_mod (a ^ (e / 2))]
    rw [Nat.mul_mod]

def noDiv (n : Nat) : Nat → Bool
  | 0 => true
  | k + 1 => (n % (k + 2) != 0) && noDiv n k
theorem noDiv_at {n : Nat} : ∀ k, noDiv n k = true → ∀ m, 2 ≤ m → m ≤ k + 1 → ¬ m ∣ n
  | 0, _, m, h1, h2 => by omega
  | k + 1, h, m, h1, h2 => by
    simp only [noDiv, Bool.and_eq_true, bne_iff_ne] at h
    by_cases e : m = k + 2
    · subst e; intro hd; exact h.1 (Nat.mod_eq_zero_of_dvd hd)
    · exact noDiv_at k h.2 m h1 (by omega)
theorem pri_small {n k : Nat} (h1 : 1 < n) (h : noDiv n k = true) (hk : n < (k + 2) * (k + 2)) : Pri n := by
  refine pri_of h1 fun d hd hdn => ?_
  by_cases hl : d ≤ k + 1
  · exact absurd hdn (noDiv_at k h d hd.1 hl)
  · have := Nat.mul_le_mul (show k + 2 ≤ d by omega) (show k + 2 ≤ d by omega)
    omega

/-- What a witness is checked for. -/
def isWit (n q a f : Nat) : Bool := (n - 1) % q == 0 && pw n a f (n - 1) == 1 && Nat.gcd (pw n a f ((n - 1) / q) + (n - 1)) n == 1
theorem isWit_dvd {n q a f d : Nat} (hn : 1 < n) (hf : n < 2 ^ f) (hq : Pri q) (h : isWit n q a f = true) (hd : Pri d) (hdn : d ∣ n) : q ∣ d - 1 := by
  simp only [isWit, Bool.and_eq_true, beq_iff_eq] at h
  obtain ⟨⟨h1, h2⟩, h3⟩ := h
  have hle : (n - 1) / q ≤ n - 1 := Nat.div_le_self _ _
  rw [pw_eq hn f _ (by omega)] at h2 h3
  exact wit (by omega) hd hdn hq (Nat.div_mul_cancel (Nat.dvd_of_mod_eq_zero h1)).symm h2 h3
theorem pock1 {n q a f : Nat} (hn : 1 < n) (hf : n < 2 ^ f) (hq : Pri q) (h : isWit n q a f = true) (hF : n < q * q) : Pri n := by
  refine pri_of hn fun d hd hdn => ?_
  have h1 := isWit_dvd hn hf hq h hd hdn
  have := hd.1
  have h2 := Nat.le_of_dvd (by omega) h1
  have := Nat.mul_le_mul (show q ≤ d by omega) (show q ≤ d by omega)
  omega
theorem pock2 {n q r a b f : Nat} (hn : 1 < n) (hf : n < 2 ^ f) (hq : Pri q) (hr : Pri r) (hqr : Nat.gcd q r = 1) (h : isWit n q a f = true) (h' : isWit n r b f = true) (hF : n < (q * r) * (q * r)) : Pri n := by
  refine pri_of hn fun d hd hdn => ?_
  have h1 := Nat.Coprime.mul_dvd_of_dvd_of_dvd hqr (isWit_dvd hn hf hq h hd hdn) (isWit_dvd hn hf hr h' hd hdn)
  have := hd.1
  have h2 := Nat.le_of_dvd (by omega) h1
  have := Nat.mul_le_mul (show q * r ≤ d by omega) (show q * r ≤ d by omega)
  omega

set_option maxRecDepth 100000
theorem pri_127 : Pri 127 := pri_small (k := 11) (by decide) (by decide +kernel) (by decide)
theorem pri_75707 : Pri 75707 := pri_small (k := 275) (by decide) (by decide +kernel) (by decide)
theorem pri_1923133 : Pri 1923133 := pri_small (k := 1386) (by decide) (by decide +kernel) (by decide)
theorem pri_8574133 : Pri 8574133 := pri_small (k := 2928) (by decide) (by decide +kernel) (by decide)
theorem pri_c : Pri 1919519569386763 := pock2 (q := 8574133) (r := 127) (a := 2) (b := 2) (f := 51) (by decide) (by decide) pri_8574133 pri_127 (by decide) (by decide +kernel) (by decide +kernel) (by decide)
theorem pri_b : Pri 75445702479781427272750846543864801 := pock2 (q := 1919519569386763) (r := 75707) (a := 2) (b := 2) (f := 116) (by decide) (by decide) pri_c pri_75707 (by decide) (by decide +kernel) (by decide +kernel) (by decide)
theorem pri_a : Pri 74058212732561358302231226437062788676166966415465897661863160754340907 := pock2 (q := 75445702479781427272750846543864801) (r := 1923133) (a := 2) (b := 2) (f := 236) (by decide) (by decide) pri_b pri_1923133 (by decide) (by decide +kernel) (by decide +kernel) (by decide)
theorem pri_p : Pri (2 ^ 255 - 19) := pock1 (q := 74058212732561358302231226437062788676166966415465897661863160754340907) (a := 2) (f := 256) (by decide) (by decide) pri_a (by decide +kernel) (by decide)
end Go.Proofs.YtpchdfdeomhakaaDoor
namespace Go.Proofs.YtpchdfdeomhakaaDoor

theorem inv_nat {p a : Nat} (hp : Pri p) (h : ¬ p ∣ a) : a * a ^ (p - 2) % p = 1 := by
  have := hp.1
  rw [← Nat.pow_succ', show (p - 2).succ = p - 1 by omega]
  exact hp.one h
theorem sq_one {p h : Nat} (hp : Pri p) (hh : h * h % p = 1) : h % p = 1 ∨ p ∣ h + 1 := by
  have h1 := hp.1
  obtain ⟨k, rfl⟩ : ∃ k, h = k + 1 := by
    cases h with
    | zero => simp at hh
    | succ k => exact ⟨k, rfl⟩
  have h2 : p ∣ (k + 1) * (k + 1) - 1 := Nat.dvd_of_mod_eq_zero (Nat.sub_mod_eq_zero_of_mod_eq (by rw [hh, Nat.mod_eq_of_lt h1]))
  rw [show (k + 1) * (k + 1) - 1 = k * (k + 1 + 1) by rw [Nat.mul_add (k + 1), Nat.add_mul, Nat.mul_add k, Nat.mul_add k]; omega] at h2
  rcases hp.dvd_mul h2 with h | h
  · obtain ⟨c, rfl⟩ := h
    exact .inl (by rw [Nat.mul_add_mod, Nat.mod_eq_of_lt h1])
  · exact .inr h
/-- A square has a root: one of two powers. -/
theorem root_nat {p b s e h : Nat} (hp : Pri p) (hs : p ∣ s * s + 1) (hh : p - 1 = h * 2) (he : e * 4 = h + 2) :
    (b * b) ^ e * (b * b) ^ e % p = b * b % p ∨ (b * b) ^ e * s * ((b * b) ^ e * s) % p = b * b % p := by
  have h1 := hp.1
  have hr : (b * b) ^ e * (b * b) ^ e = b ^ h * (b * b) := by
    rw [show b * b = b ^ 2 from (Nat.pow_two b).symm, ← Nat.pow_mul, ← Nat.pow_add, ← Nat.pow_add]
    congr 1
    omega
  by_cases hb : p ∣ b
  · refine .inl ?_
    rw [hr, Nat.mod_eq_zero_of_dvd (Nat.dvd_trans hb (Nat.dvd_mul_right b b)), Nat.mod_eq_zero_of_dvd (Nat.dvd_trans (Nat.dvd_trans hb (Nat.dvd_mul_right b b)) (Nat.dvd_mul_left _ _))]
  · have hH : b ^ h * b ^ h % p = 1 := by
      rw [← Nat.pow_add, show h + h = p - 1 by omega]
      exact hp.one hb
    rcases sq_one hp hH with h2 | h2
    · refine .inl ?_
      rw [hr, Nat.mul_mod, h2, Nat.one_mul, Nat.mod_mod]
    · refine .inr ?_
      rw [show (b * b) ^ e * s * ((b * b) ^ e * s) = (b * b) ^ e * (b * b) ^ e * (s * s) by ac_rfl, hr]
      generalize b ^ h = H at *
      have hHs : H * (s * s) % p = 1 := by
        obtain ⟨c, hc⟩ := h2
        obtain ⟨d, hd⟩ := hs
        have h3 : H * (s * s) + p * (c + d) = 1 + p * (c * (p * d)) := by
          have h4 : (H + 1) * (s * s + 1) = H * (s * s) + (H + 1) + s * s := by rw [Nat.mul_add, Nat.add_mul, Nat.one_mul, Nat.mul_one]; omega
          rw [hc, hd, show p * c * (p * d) = p * (c * (p * d)) by ac_rfl] at h4
          rw [Nat.mul_add]
          omega
        have h5 := congrArg (· % p) h3
        simpa [Nat.mod_eq_of_lt h1] using h5
      rw [show H * (b * b) * (s * s) = H * (s * s) * (b * b) by ac_rfl, Nat.mul_mod, hHs, Nat.one_mul, Nat.mod_mod]

/-- The prime, as a natural number. -/
def pN : Nat := 57896044618658097711785492504343953926634992332820282019728792003956564819949
theorem pri_pN : Pri pN := pri_p
theorem pN_int : (pN : Int) = P25519 := rfl
/-- A root of the opposite of one. -/
def qN : Nat := 19681161376707505956807079304988542015446066515923890162744021073123829784752
theorem qN_sq : pN ∣ qN * qN + 1 := Nat.dvd_of_mod_eq_zero (by decide +kernel)
theorem pN_half : pN - 1 = 28948022309329048855892746252171976963317496166410141009864396001978282409974 * 2 := by decide
theorem pN_eighth : 7237005577332262213973186563042994240829374041602535252466099000494570602494 * 4 = 28948022309329048855892746252171976963317496166410141009864396001978282409974 + 2 := by decide
/-- The exponent of the inverse, the exponent of a root. -/
def eInv : Nat := 57896044618658097711785492504343953926634992332820282019728792003956564819947
def eRt : Nat := 7237005577332262213973186563042994240829374041602535252466099000494570602494
theorem inv_pN {a : Nat} (h : ¬ pN ∣ a) : a * a ^ eInv % pN = 1 := inv_nat pri_pN h
theorem root_pN (b : Nat) : (b * b) ^ eRt * (b * b) ^ eRt % pN = b * b % pN ∨ (b * b) ^ eRt * qN * ((b * b) ^ eRt * qN) % pN = b * b % pN := root_nat pri_pN qN_sq pN_half pN_eighth

theorem inv_int {a : Int} (h0 : 0 < a) (h1 : a < P25519) : a * a ^ eInv % P25519 = 1 := by
  obtain ⟨n, rfl⟩ := Int.eq_ofNat_of_zero_le (show 0 ≤ a by omega)
  have hn : ¬ pN ∣ n := by
    intro h
    have := Nat.le_of_dvd (by omega) h
    rw [← pN_int] at h1
    omega
  have := inv_pN hn
  rw [← pN_int]
  exact_mod_cast congrArg (Nat.cast (R := Int)) this
theorem root_int {b : Int} (h0 : 0 ≤ b) : (b * b) ^ eRt * (b * b) ^ eRt % P25519 = b * b % P25519 ∨ (b * b) ^ eRt * qN * ((b * b) ^ eRt * qN) % P25519 = b * b % P25519 := by
  obtain ⟨n, rfl⟩ := Int.eq_ofNat_of_zero_le h0
  rw [← pN_int]
  rcases root_pN n with h | h
  · exact .inl (by exact_mod_cast congrArg (Nat.cast (R := Int)) h)
  · exact .inr (by exact_mod_cast congrArg (Nat.cast (R := Int)) h)
end Go.Proofs.YtpchdfdeomhakaaDoor
