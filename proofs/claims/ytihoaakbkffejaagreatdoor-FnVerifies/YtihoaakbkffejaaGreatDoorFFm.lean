/-
  What is proved here: plain mathematics on numbers in parts of sixteen bits: what a list of; plain mathematics on numbers in parts of sixteen bits: carried, compared; plain facts on rows of bytes in memory (a row that a call owns stays as it; plain facts on rows of ints in memory (a row that a call owns stays as it; plain facts on a block of memory that holds just given cells (an array; what the program's table says of the specification's arrays of sixteen; plain facts on parts that are set one by one; what the program's table says of bytes and of ints, and plain facts on; the contract of the specification's l4read: sixteen parts out of 32 bytes; a law for the walk on 'append' where the first slice is a row of bytes.
-/
import Derived.RowKit
import Derived.WalkKit
import Derived.Laws.Rows
import Derived.Laws.ResultCell
import Derived.Deep.QuietTactic
import Derived.BigQuiet
import Derived.Test.YtihoaakbkffejaaGreatDoorProg
import Derived.BigRegion
import Derived.Laws.BitsLemmas
import Derived.Deep.MidRow
import Derived.Laws.AppendOwnNone
namespace Go.Proofs.YtihoaakbkffejaaGreatDoor
open Go.RowKit
set_option maxRecDepth 100000

def val : List Int → Int
 | [] => 0
 | x :: l => x + 65536 * val l
def lim : Nat → Int → List Int
 | 0, _ => []
 | n + 1, x => x % 65536 :: lim n (x / 65536)
def Lm (l : List Int) : Prop := ∀ x ∈ l, 0 ≤ x ∧ x < 65536
theorem lim_len (n : Nat) (x : Int) : (lim n x).length = n := by
 induction n generalizing x with
 | zero => rfl
 | succ n ih => simp [lim, ih]
theorem lim_lm (n : Nat) (x : Int) : Lm (lim n x) := by
 induction n generalizing x with
 | zero => intro y hy; cases hy
 | succ n ih =>
  intro y hy
  simp only [lim, List.mem_cons] at hy
  rcases hy with rfl | h
  ·omega
  ·exact ih _ y h
theorem lim_val (l : List Int) (h : Lm l) : lim l.length (val l) = l := by
 induction l with
 | nil => rfl
 | cons x l ih =>
  have hx := h x (by simp)
  have hl : Lm l := fun y hy => h y (by simp [hy])
  simp only [val, List.length_cons, lim]
  rw [show (x + 65536 * val l) % 65536 = x by omega, show (x + 65536 * val l) / 65536 = val l by omega, ih hl]
theorem pow_pos16 (n : Nat) : (0 : Int) < 65536 ^ n := Int.pow_pos (by omega)
theorem emod_part (x M : Int) (hM : 0 < M) : x % 65536 + 65536 * (x / 65536 % M) = x % (65536 * M) := by
 have h1 := Int.emod_nonneg (x / 65536) (show M ≠ 0 by omega)
 have h2 := Int.emod_lt_of_pos (x / 65536) hM
 have h3 := Int.mul_ediv_add_emod (x / 65536) M
 obtain ⟨q, hq⟩ : ∃ q, q = x / 65536 := ⟨_, rfl⟩
 obtain ⟨r, hr⟩ : ∃ r, r = q % M := ⟨_, rfl⟩
 rw [← hq] at h1 h2 h3 ⊢
 rw [← hr] at h1 h2 h3 ⊢
 have hb : x % 65536 + 65536 * r < 65536 * M := by omega
 have hx : x = (x % 65536 + 65536 * r) + (65536 * M) * (q / M) := by
  have e : 65536 * M * (q / M) = 65536 * (M * (q / M)) := by rw [Int.mul_assoc]
  rw [e]
  omega
 have h0 : 0 ≤ x % 65536 + 65536 * r := by omega
 generalize hz : x % 65536 + 65536 * r = z at *
 rw [hx, Int.add_mul_emod_self_left, Int.emod_eq_of_lt h0 hb]
theorem val_lim (n : Nat) (x : Int) : val (lim n x) = x % 65536 ^ n := by
 induction n generalizing x with
 | zero => simp [lim, val, Int.emod_one]
 | succ n ih =>
  simp only [lim, val]
  rw [ih, Int.pow_succ, Int.mul_comm (65536 ^ n) 65536]
  exact emod_part x _ (pow_pos16 n)
theorem val_nonneg {l : List Int} (h : ∀ x ∈ l, 0 ≤ x) : 0 ≤ val l := by
 induction l with
 | nil => simp [val]
 | cons x l ih =>
  have hx := h x (by simp)
  have := ih (fun y hy => h y (by simp [hy]))
  simp only [val]; omega
theorem val_lt {l : List Int} (h : Lm l) : val l < 65536 ^ l.length := by
 induction l with
 | nil => simp [val]
 | cons x l ih =>
  have hx := h x (by simp)
  have := ih (fun y hy => h y (by simp [hy]))
  simp only [val, List.length_cons, Int.pow_succ]
  omega
theorem val_append (l m : List Int) : val (l ++ m) = val l + 65536 ^ l.length * val m := by
 induction l with
 | nil => simp [val]
 | cons x l ih =>
  simp only [List.cons_append, val, List.length_cons, ih, Int.pow_succ]
  rw [Int.mul_add, ← Int.mul_assoc, Int.mul_comm 65536 (65536 ^ l.length)]
  omega

def cps : List Int → Int → List Int
 | [], _ => []
 | x :: l, c => (x + c) % 65536 :: cps l ((x + c) / 65536)
def cpc : List Int → Int → Int
 | [], c => c
 | x :: l, c => cpc l ((x + c) / 65536)
theorem cps_lim (l : List Int) (c : Int) : cps l c = lim l.length (val l + c) := by
 induction l generalizing c with
 | nil => rfl
 | cons x l ih =>
  simp only [cps, val, List.length_cons, lim]
  rw [ih, show (x + 65536 * val l + c) % 65536 = (x + c) % 65536 by omega, show (x + 65536 * val l + c) / 65536 = val l + (x + c) / 65536 by omega]
theorem cpc_div (l : List Int) (c : Int) : cpc l c = (val l + c) / 65536 ^ l.length := by
 induction l generalizing c with
 | nil => simp [cpc, val]
 | cons x l ih =>
  simp only [cpc, val, List.length_cons]
  rw [ih, Int.pow_succ, Int.mul_comm (65536 ^ l.length) 65536, ← Int.ediv_ediv_of_nonneg (by omega), show (x + 65536 * val l + c) / 65536 = val l + (x + c) / 65536 by omega]
theorem cps_len (l : List Int) (c : Int) : (cps l c).length = l.length := by rw [cps_lim, lim_len]
theorem cps_snoc (l : List Int) (x c : Int) : cps (l ++ [x]) c = cps l c ++ [(x + cpc l c) % 65536] := by
 induction l generalizing c with
 | nil => rfl
 | cons y l ih => simp [cps, cpc, ih]
theorem cpc_snoc (l : List Int) (x c : Int) : cpc (l ++ [x]) c = (x + cpc l c) / 65536 := by
 induction l generalizing c with
 | nil => rfl
 | cons y l ih => simp [cpc, ih]
theorem val_set (l : List Int) (j : Nat) (h : j < l.length) (v : Int) : val (l.set j v) = val l + 65536 ^ j * (v - l.getD j 0) := by
 induction l generalizing j with
 | nil => simp at h
 | cons x l ih =>
  cases j with
  | zero => simp [val]; omega
  | succ j =>
   have := ih j (by simpa using h)
   simp only [List.set_cons_succ, val, this, List.getD_cons_succ, Int.pow_succ]
   rw [Int.mul_add, ← Int.mul_assoc, Int.mul_comm 65536 (65536 ^ j)]
   omega

def P25519 : Int := 57896044618658097711785492504343953926634992332820282019728792003956564819949
theorem p256 : (65536 : Int) ^ 16 = 115792089237316195423570985008687907853269984665640564039457584007913129639936 := by decide
def fold (v : Int) : Int := v % 115792089237316195423570985008687907853269984665640564039457584007913129639936 + 38 * (v / 115792089237316195423570985008687907853269984665640564039457584007913129639936)
theorem fold_mod (v : Int) : fold v % P25519 = v % P25519 := by
 unfold fold P25519
 omega
theorem fold_twice {v : Int} (h0 : 0 ≤ v) (h1 : v < 1989292945639146568621528992587283360401824603189390869761855907572637988050133502132224) : 0 ≤ fold (fold v) ∧ fold (fold v) < 115792089237316195423570985008687907853269984665640564039457584007913129639936 := by
 unfold fold
 omega
def fold5 (v : Int) : Int := v % 57896044618658097711785492504343953926634992332820282019728792003956564819968 + 19 * (v / 57896044618658097711785492504343953926634992332820282019728792003956564819968)
theorem fold5_mod {v : Int} (h0 : 0 ≤ v) (h1 : v < 115792089237316195423570985008687907853269984665640564039457584007913129639936) : fold5 v % P25519 = v % P25519 ∧ 0 ≤ fold5 v ∧ fold5 v < P25519 + 38 := by
 unfold fold5 P25519
 omega

def addH0 (l : List Int) (d : Int) : List Int := l.set 0 (l.getD 0 0 + d)
theorem addH0_val {l : List Int} (h : 0 < l.length) (d : Int) : val (addH0 l d) = val l + d := by
 unfold addH0
 rw [val_set l 0 h]
 simp only [Int.pow_zero, Int.one_mul]
 omega
def rnd16 (l : List Int) : List Int := addH0 (cps l 0) (38 * cpc l 0)
theorem rnd16_len (l : List Int) : (rnd16 l).length = l.length := by simp [rnd16, addH0, cps_len]
theorem rnd16_val {l : List Int} (h : l.length = 16) : val (rnd16 l) = fold (val l) := by
 unfold rnd16
 rw [addH0_val (by rw [cps_len]; omega), cps_lim, val_lim, cpc_div, h, p256]
 unfold fold
 simp
theorem rnd3 {l : List Int} (hl : l.length = 16) (h0 : ∀ x ∈ l, 0 ≤ x) (h1 : val l < 1989292945639146568621528992587283360401824603189390869761855907572637988050133502132224) : rnd16 (rnd16 (rnd16 l)) = lim 16 (fold (fold (val l))) := by
 have hl1 : (rnd16 l).length = 16 := by rw [rnd16_len, hl]
 have hl2 : (rnd16 (rnd16 l)).length = 16 := by rw [rnd16_len, hl1]
 have hv : val (rnd16 (rnd16 l)) = fold (fold (val l)) := by rw [rnd16_val hl1, rnd16_val hl]
 have hb := fold_twice (val_nonneg h0) h1
 obtain ⟨v, hvv⟩ : ∃ v, v = fold (fold (val l)) := ⟨_, rfl⟩
 rw [← hvv] at hv hb ⊢
 unfold rnd16
 have e : cpc (rnd16 (rnd16 l)) 0 = 0 := by
  rw [cpc_div, hl2, p256, hv]
  omega
 have e2 : cps (rnd16 (rnd16 l)) 0 = lim 16 v := by rw [cps_lim, hl2, hv]; simp
 unfold rnd16 at e e2
 rw [e, e2]
 unfold addH0
 simp [lim]
def top5 (l : List Int) : List Int := (addH0 l (19 * (l.getD 15 0 / 32768))).set 15 (l.getD 15 0 % 32768)
theorem lim_get (n : Nat) (x : Int) (j : Nat) (h : j < n) : (lim n x).getD j 0 = x / 65536 ^ j % 65536 := by
 induction n generalizing x j with
 | zero => omega
 | succ n ih =>
  cases j with
  | zero => simp [lim]
  | succ j =>
   simp only [lim, List.getD_cons_succ]
   rw [ih _ _ (by omega), Int.pow_succ, Int.mul_comm (65536 ^ j) 65536, Int.ediv_ediv_of_nonneg (by omega)]
theorem p240 : (65536 : Int) ^ 15 = 1766847064778384329583297500742918515827483896875618958121606201292619776 := by decide
theorem top5_val {v : Int} (h0 : 0 ≤ v) (h1 : v < 115792089237316195423570985008687907853269984665640564039457584007913129639936) : val (top5 (lim 16 v)) = fold5 v := by
 have hg : (lim 16 v).getD 15 0 = v / 1766847064778384329583297500742918515827483896875618958121606201292619776 := by
  rw [lim_get 16 v 15 (by omega), p240]
  omega
 have hlen : (addH0 (lim 16 v) (19 * ((lim 16 v).getD 15 0 / 32768))).length = 16 := by simp [addH0, lim_len]
 have hg2 : (addH0 (lim 16 v) (19 * ((lim 16 v).getD 15 0 / 32768))).getD 15 0 = (lim 16 v).getD 15 0 := by
  unfold addH0
  simp [List.getD]
 unfold top5
 rw [val_set _ 15 (by omega), hg2, addH0_val (by rw [lim_len]; omega), val_lim, p256, p240, hg]
 unfold fold5
 omega
theorem top5_len (l : List Int) : (top5 l).length = l.length := by simp [top5, addH0]
def red (v : Int) : List Int := lim 16 (v % P25519)
theorem red_lt (v : Int) : 0 ≤ v % P25519 ∧ v % P25519 < P25519 := by unfold P25519; omega
theorem val_red (v : Int) : val (red v) = v % P25519 := by
 unfold red
 have := red_lt v
 rw [val_lim, p256]
 unfold P25519 at *
 omega
theorem red_len (v : Int) : (red v).length = 16 := lim_len _ _
theorem red_lm (v : Int) : Lm (red v) := lim_lm _ _
def feOk (l : List Int) : Bool := decide (l.length = 16) && l.all (fun x => decide (0 ≤ x ∧ x < 65536)) && decide (val l < P25519)
theorem feOk_iff (l : List Int) : feOk l = true ↔ l.length = 16 ∧ Lm l ∧ val l < P25519 := by
 unfold feOk Lm
 simp only [Bool.and_eq_true, decide_eq_true_eq, List.all_eq_true, and_assoc]
theorem red_val {l : List Int} (h : feOk l = true) : red (val l) = l := by
 obtain ⟨h1, h2, h3⟩ := (feOk_iff l).1 h
 have h0 := val_nonneg (fun x hx => (h2 x hx).1)
 unfold red
 rw [Int.emod_eq_of_lt h0 h3, ← h1]
 exact lim_val l h2
theorem carry_lt {v : Int} (h0 : 0 ≤ v) (h1 : v < 1989292945639146568621528992587283360401824603189390869761855907572637988050133502132224) :
  (fold5 (fold (fold v)) < P25519 → fold5 (fold (fold v)) = v % P25519) ∧ (¬ fold5 (fold (fold v)) < P25519 → fold5 (fold (fold v)) - P25519 = v % P25519) ∧ 0 ≤ fold5 (fold (fold v)) ∧ fold5 (fold (fold v)) < P25519 + 38 := by
 have hb := fold_twice h0 h1
 have h5 := fold5_mod hb.1 hb.2
 have hm : fold5 (fold (fold v)) % P25519 = v % P25519 := by rw [h5.1, fold_mod, fold_mod]
 obtain ⟨x, hx⟩ : ∃ x, x = fold5 (fold (fold v)) := ⟨_, rfl⟩
 rw [← hx] at hm h5 ⊢
 rw [← hm]
 unfold P25519 at *
 omega
def pre5 (l : List Int) : List Int := cps (top5 (rnd16 (rnd16 (rnd16 l)))) 0
theorem pre5_lim {l : List Int} (hl : l.length = 16) (h0 : ∀ x ∈ l, 0 ≤ x) (h1 : val l < 1989292945639146568621528992587283360401824603189390869761855907572637988050133502132224) : pre5 l = lim 16 (fold5 (fold (fold (val l)))) := by
 have hb := fold_twice (val_nonneg h0) h1
 unfold pre5
 rw [rnd3 hl h0 h1, cps_lim, top5_len, lim_len, top5_val hb.1 hb.2, Int.add_zero]
theorem pre5_val {l : List Int} (hl : l.length = 16) (h0 : ∀ x ∈ l, 0 ≤ x) (h1 : val l < 1989292945639146568621528992587283360401824603189390869761855907572637988050133502132224) : val (pre5 l) = fold5 (fold (fold (val l))) := by
 have h2 := carry_lt (val_nonneg h0) h1
 rw [pre5_lim hl h0 h1, val_lim, p256]
 obtain ⟨x, hx⟩ : ∃ x, x = fold5 (fold (fold (val l))) := ⟨_, rfl⟩
 rw [← hx] at h2 ⊢
 unfold P25519 at h2
 omega

theorem zipSub_val : ∀ (a b : List Int), a.length = b.length → val (List.zipWith (fun x y => x - y) a b) = val a - val b
 | [], [], _ => by simp [val]
 | x :: a, y :: b, h => by
  have := zipSub_val a b (by simpa using h)
  simp only [List.zipWith_cons_cons, val, this]
  omega
 | [], _ :: _, h => by simp at h
 | _ :: _, [], h => by simp at h
def tk16 (a b : List Int) : List Int := cps (List.zipWith (fun x y => x - y) a b) 0
theorem tk16_lim {a b : List Int} (ha : a.length = 16) (hb : b.length = 16) : tk16 a b = lim 16 (val a - val b) := by
 unfold tk16
 rw [cps_lim, zipSub_val a b (by omega), Int.add_zero]
 simp [ha, hb]
theorem zipAdd_val : ∀ (a b : List Int), a.length = b.length → val (List.zipWith (fun x y => x + y) a b) = val a + val b
 | [], [], _ => by simp [val]
 | x :: a, y :: b, h => by
  have := zipAdd_val a b (by simpa using h)
  simp only [List.zipWith_cons_cons, val, this]
  omega
 | [], _ :: _, h => by simp at h
 | _ :: _, [], h => by simp at h

theorem val_split (l : List Int) (i : Nat) (h : i < l.length) : val l = val (l.take i) + 65536 ^ i * l.getD i 0 + 65536 ^ (i + 1) * val (l.drop (i + 1)) := by
 have e : l = l.take i ++ (l.getD i 0 :: l.drop (i + 1)) := by
  have : l.drop i = l.getD i 0 :: l.drop (i + 1) := by
   rw [List.drop_eq_getElem_cons h]; simp [h]
  rw [← this, List.take_append_drop]
 have hl : (l.take i).length = i := by simp; omega
 conv => lhs; rw [e]
 rw [val_append, hl]
 simp only [val]
 rw [Int.mul_add, Int.pow_succ, ← Int.mul_assoc]
 omega
theorem lt_at {a b : List Int} {n i : Nat} (ha : a.length = n) (hb : b.length = n) (la : Lm a) (lb : Lm b) (hi : i < n) (hd : a.drop (i + 1) = b.drop (i + 1)) (hne : a.getD i 0 ≠ b.getD i 0) : (a.getD i 0 < b.getD i 0) ↔ val a < val b := by
 have va := val_split a i (by omega)
 have vb := val_split b i (by omega)
 rw [hd] at va
 have ta : val (a.take i) < 65536 ^ i := by
  have := val_lt (l := a.take i) (fun x hx => la x (List.mem_of_mem_take hx))
  simpa [show min i a.length = i by omega] using this
 have tb : val (b.take i) < 65536 ^ i := by
  have := val_lt (l := b.take i) (fun x hx => lb x (List.mem_of_mem_take hx))
  simpa [show min i b.length = i by omega] using this
 have na := val_nonneg (l := a.take i) (fun x hx => (la x (List.mem_of_mem_take hx)).1)
 have nb := val_nonneg (l := b.take i) (fun x hx => (lb x (List.mem_of_mem_take hx)).1)
 obtain ⟨p, hp⟩ : ∃ p : Int, p = 65536 ^ i := ⟨_, rfl⟩
 have pp : 0 < p := by rw [hp]; exact pow_pos16 i
 rw [← hp] at va vb ta tb
 generalize 65536 ^ (i + 1) * val (b.drop (i + 1)) = R at va vb
 generalize a.getD i 0 = x at *
 generalize b.getD i 0 = y at *
 constructor
 ·intro h
  have : p * (x + 1) ≤ p * y := Int.mul_le_mul_of_nonneg_left (by omega) (by omega)
  rw [Int.mul_add] at this
  omega
 ·intro h
  by_cases hlt : x < y
  ·exact hlt
  ·have : p * (y + 1) ≤ p * x := Int.mul_le_mul_of_nonneg_left (by omega) (by omega)
   rw [Int.mul_add] at this
   omega

theorem val_take_succ (l : List Int) (i : Nat) (h : i < l.length) : val (l.take (i + 1)) = val (l.take i) + 65536 ^ i * l.getD i 0 := by
 have e : l.take (i + 1) = l.take i ++ [l.getD i 0] := by
  rw [List.take_add_one, List.getD, List.getElem?_eq_getElem h]; rfl
 have hl : (l.take i).length = i := by simp; omega
 rw [e, val_append, hl]
 simp [val]
def prodAt (a b : List Int) (i k : Nat) : Int := val (a.take i) * val b + 65536 ^ i * a.getD i 0 * val (b.take k)
theorem prodAt_step (a b : List Int) (i k : Nat) (hk : k < b.length) : prodAt a b i (k + 1) = prodAt a b i k + 65536 ^ (i + k) * (a.getD i 0 * b.getD k 0) := by
 unfold prodAt
 rw [val_take_succ b k hk, Int.mul_add, Int.pow_add, ← Int.add_assoc]
 congr 1
 simp only [Int.mul_assoc]
 congr 1
 rw [← Int.mul_assoc, Int.mul_comm (a.getD i 0) (65536 ^ k), Int.mul_assoc]
theorem prodAt_row (a b : List Int) (i : Nat) (hi : i < a.length) : prodAt a b i b.length = prodAt a b (i + 1) 0 := by
 unfold prodAt
 rw [List.take_of_length_le (Nat.le_refl _), val_take_succ a i hi, Int.add_mul]
 simp [val]
theorem prodAt_end (a b : List Int) (h : a.length = 16) : prodAt a b 16 0 = val a * val b := by
 unfold prodAt
 rw [List.take_of_length_le (by omega)]
 simp [val]
end Go.Proofs.YtihoaakbkffejaaGreatDoor
namespace Go.Proofs.YtihoaakbkffejaaGreatDoor
open Go.RowKit

abbrev U8 (xs : List Int) : List Value := xs.map (Value.int .u8)

theorem own_below {w w' : World} {b e s n : Nat} {v : Value} {xs : List Value} (h : w.ownsRow b e s v n xs) (hb : Below w.heap.size w w') : w'.ownsRow b e s v n xs := by
 refine ⟨h.1, ?_⟩
 rcases h.2 with hn | ⟨g, cap, cur, rfl, hg, hgg, rest⟩
 ·exact .inl hn
 ·refine .inr ⟨g, cap, cur, rfl, hg, ?_, rest⟩
  rw [hb.block g (Array.getElem?_eq_some_iff.1 hgg).1]
  exact hgg

theorem own_base {w : World} {b b' e s n : Nat} {v : Value} {xs : List Value} (h : w.ownsRow b e s v n xs) (hb : b' ≤ b) : w.ownsRow b' e s v n xs := by
 refine ⟨h.1, ?_⟩
 rcases h.2 with hn | ⟨g, cap, cur, rfl, hg, rest⟩
 ·exact .inl hn
 ·exact .inr ⟨g, cap, cur, rfl, Nat.le_trans hb hg, rest⟩

def Bs (w : World) (a : Option Addr) (n cap : Nat) (xs : List Int) : Prop :=
 (a = none → cap = 0) ∧ xs.length = n ∧ n ≤ cap ∧ (∀ x ∈ xs, 0 ≤ x ∧ x < 256) ∧ (n = 0 ∨ ∃ b o, a = some ⟨b, o, none⟩ ∧ b < w.heap.size ∧ ∀ j, j < n → w.cell? ⟨b, o + j, none⟩ = some (.int .u8 (xs.getD j 0)))

theorem Bs.below {w w' : World} {a : Option Addr} {n cap : Nat} {xs : List Int} (h : Bs w a n cap xs) (hb : Below w.heap.size w w') : Bs w' a n cap xs := by
 obtain ⟨h0, h1, h2, h3, h4⟩ := h
 refine ⟨h0, h1, h2, h3, ?_⟩
 rcases h4 with h4 | ⟨b, o, ha, hlt, hc⟩
 ·exact .inl h4
 ·exact .inr ⟨b, o, ha, Nat.lt_of_lt_of_le hlt hb.size, fun j hj => (hb.cell (p := ⟨b, o + j, none⟩) hlt).trans (hc j hj)⟩

theorem own_shape {w : World} {base n : Nat} {v : Value} {xs : List Int} (h : w.ownsRow base 5 1 v n (U8 xs)) :
  xs.length = n ∧ ((v = .slice none 0 0 ∧ n = 0) ∨ ∃ g cap, v = .slice (some ⟨g, 0, none⟩) n cap ∧ base ≤ g ∧ g < w.heap.size ∧ n ≤ cap ∧ cap ≤ maxLen ∧
   (∀ j, j < n → w.cell? ⟨g, j, none⟩ = some (.int .u8 (xs.getD j 0))) ∧ ∀ j, w.frozen? ⟨g, j, none⟩ = false) := by
 have hl : xs.length = n := by have := h.1; simpa using this
 refine ⟨hl, ?_⟩
 rcases h.2 with hn | ⟨g, cap, cur, rfl, hg, hgg, h1, h2, h3, h4⟩
 ·exact .inl hn
 ·refine .inr ⟨g, cap, rfl, hg, (Array.getElem?_eq_some_iff.1 hgg).1, h1, h2, fun j hj => ?_, fun j => h.frozenAt j⟩
  rw [h.cellAt j (by omega)]
  have hx : j < xs.length := by omega
  simp [hx]

theorem Bs.own {w : World} {base n : Nat} {v : Value} {xs : List Int} (h : w.ownsRow base 5 1 v n (U8 xs)) (hx : ∀ x ∈ xs, 0 ≤ x ∧ x < 256) :
  ∃ a cap, v = .slice a n cap ∧ cap ≤ maxLen ∧ Bs w a n cap xs := by
 obtain ⟨hl, h⟩ := own_shape h
 rcases h with ⟨rfl, rfl⟩ | ⟨g, cap, rfl, hg, hgs, h1, h2, hc, _⟩
 ·exact ⟨none, 0, rfl, by unfold maxLen; omega, fun _ => rfl, hl, Nat.le_refl _, hx, .inl rfl⟩
 ·exact ⟨_, cap, rfl, h2, (fun h => by cases h), hl, h1, hx, .inr ⟨g, 0, rfl, hgs, fun j hj => by simpa using hc j hj⟩⟩

theorem get_byte {xs : List Int} (h : ∀ x ∈ xs, 0 ≤ x ∧ x < 256) {i : Nat} (hi : i < xs.length) : 0 ≤ xs.getD i 0 ∧ xs.getD i 0 < 256 := by
 have e : xs.getD i 0 = xs[i] := by simp [hi]
 rw [e]; exact h _ (List.getElem_mem hi)

theorem byte_wf {n : Int} (h : (Lit.int .u8 n).wf = true) : 0 ≤ n ∧ n < 256 := by
 have h1 : IntKind.u8.min ≤ n ∧ n ≤ IntKind.u8.max := by simpa [Lit.wf] using h
 simp [IntKind.min, IntKind.max, IntKind.signed, IntKind.bits] at h1
 omega

theorem bs_of_arg {w : World} {x : Addr} {len cap : Nat} {zs : List Int} (hl : len ≤ cap) (hz : zs.length = cap) (hc : ∀ i, i < zs.length → w.cell? (x.add i) = some (.int .u8 (zs.getD i 0))) (hwf : ∀ n ∈ zs, (Lit.int .u8 n).wf = true) :
  Bs w (some x) len cap (zs.take len) := by
 refine ⟨(fun h => by cases h), by simp; omega, hl, fun n hn => byte_wf (hwf n (List.mem_of_mem_take hn)), ?_⟩
 by_cases h0 : len = 0
 ·exact .inl h0
 ·obtain ⟨b, off, spot⟩ := x
  have h1 := hc 0 (by omega)
  have hspot : spot = none := by simpa [Addr.add] using World.cell?_spot h1
  subst hspot
  refine .inr ⟨b, off, rfl, World.block_lt_of_cell? w _ h1, fun j hj => ?_⟩
  have h2 := hc j (by omega)
  rw [Addr.add_lit] at h2
  rw [h2]
  simp [hj]

theorem take_snoc (xs : List Int) (k : Nat) (h : k < xs.length) : xs.take (k + 1) = xs.take k ++ [xs.getD k 0] := by
 rw [List.take_succ_eq_append_getElem h]; simp [h]
abbrev I64 (xs : List Int) : List Value := xs.map (Value.int .i64)





def Is (w : World) (a : Option Addr) (n cap : Nat) (xs : List Int) : Prop :=
 (a = none → cap = 0) ∧ xs.length = n ∧ n ≤ cap ∧ (∀ x ∈ xs, -9223372036854775808 ≤ x ∧ x ≤ 9223372036854775807) ∧ (n = 0 ∨ ∃ b o, a = some ⟨b, o, none⟩ ∧ b < w.heap.size ∧ ∀ j, j < n → w.cell? ⟨b, o + j, none⟩ = some (.int .i64 (xs.getD j 0)))

theorem Is.below {w w' : World} {a : Option Addr} {n cap : Nat} {xs : List Int} (h : Is w a n cap xs) (hb : Below w.heap.size w w') : Is w' a n cap xs := by
 obtain ⟨h0, h1, h2, h3, h4⟩ := h
 refine ⟨h0, h1, h2, h3, ?_⟩
 rcases h4 with h4 | ⟨b, o, ha, hlt, hc⟩
 ·exact .inl h4
 ·exact .inr ⟨b, o, ha, Nat.lt_of_lt_of_le hlt hb.size, fun j hj => (hb.cell (p := ⟨b, o + j, none⟩) hlt).trans (hc j hj)⟩

theorem own_shapeI {w : World} {base n e : Nat} {v : Value} {xs : List Int} (h : w.ownsRow base e 1 v n (I64 xs)) :
  xs.length = n ∧ ((v = .slice none 0 0 ∧ n = 0) ∨ ∃ g cap, v = .slice (some ⟨g, 0, none⟩) n cap ∧ base ≤ g ∧ g < w.heap.size ∧ n ≤ cap ∧ cap ≤ maxLen ∧
   (∀ j, j < n → w.cell? ⟨g, j, none⟩ = some (.int .i64 (xs.getD j 0))) ∧ ∀ j, w.frozen? ⟨g, j, none⟩ = false) := by
 have hl : xs.length = n := by have := h.1; simpa using this
 refine ⟨hl, ?_⟩
 rcases h.2 with hn | ⟨g, cap, cur, rfl, hg, hgg, h1, h2, h3, h4⟩
 ·exact .inl hn
 ·refine .inr ⟨g, cap, rfl, hg, (Array.getElem?_eq_some_iff.1 hgg).1, h1, h2, fun j hj => ?_, fun j => h.frozenAt j⟩
  rw [h.cellAt j (by omega)]
  have hx : j < xs.length := by omega
  simp [hx]

theorem Is.own {w : World} {base n e : Nat} {v : Value} {xs : List Int} (h : w.ownsRow base e 1 v n (I64 xs)) (hx : ∀ x ∈ xs, -9223372036854775808 ≤ x ∧ x ≤ 9223372036854775807) :
  ∃ a cap, v = .slice a n cap ∧ cap ≤ maxLen ∧ Is w a n cap xs := by
 obtain ⟨hl, h⟩ := own_shapeI h
 rcases h with ⟨rfl, rfl⟩ | ⟨g, cap, rfl, hg, hgs, h1, h2, hc, _⟩
 ·exact ⟨none, 0, rfl, by unfold maxLen; omega, fun _ => rfl, hl, Nat.le_refl _, hx, .inl rfl⟩
 ·exact ⟨_, cap, rfl, h2, (fun h => by cases h), hl, h1, hx, .inr ⟨g, 0, rfl, hgs, fun j hj => by simpa using hc j hj⟩⟩
/-- Sixteen cells that hold nothing yet. -/
abbrev zV : Array Value := #[.int .i64 0, .int .i64 0, .int .i64 0, .int .i64 0, .int .i64 0, .int .i64 0, .int .i64 0, .int .i64 0, .int .i64 0, .int .i64 0, .int .i64 0, .int .i64 0, .int .i64 0, .int .i64 0, .int .i64 0, .int .i64 0]
theorem aP : (∀ (a : Act) (d : Tmp) (v : Value), a.put (some d) v = { a with tmps := a.tmps.setIfInBounds d v }) ∧ (∀ (a : Act) (v : Value), a.put none v = a) ∧ (∀ (l : List Value) (i : Nat) (v : Value), l.toArray.setIfInBounds i v = (l.set i v).toArray) ∧ (∀ (x v : Value) (l : List Value), (x :: l).set 0 v = v :: l) ∧ (∀ (x v : Value) (l : List Value) (n : Nat), (x :: l).set (n + 1) v = x :: l.set n v) := ⟨fun _ _ _ => rfl, fun _ _ => rfl, fun _ _ _ => by simp, fun _ _ _ => rfl, fun _ _ _ _ => rfl⟩

abbrev U32 (xs : List Int) : List Value := xs.map (Value.int .u32)

def Arr (w : World) (g : Nat) (t : TypeId) (cs : List Value) : Prop := w.heap[g]? = some (.cells cs.toArray t (0, 0))

section
variable {w w' : World} {g : Nat} {t : TypeId} {cs : List Value}

theorem Arr.lt (h : Arr w g t cs) : g < w.heap.size := (Array.getElem?_eq_some_iff.1 h).1
theorem Arr.cell (h : Arr w g t cs) (j : Nat) : w.cell? ⟨g, j, none⟩ = cs[j]? := by
 rw [cell_of_row w g j _ t _ h]; simp
theorem Arr.u32 {xs : List Int} (h : Arr w g t (U32 xs)) (j : Nat) (hj : j < xs.length) : w.cell? ⟨g, j, none⟩ = some (.int .u32 (xs.getD j 0)) := by
 rw [h.cell j]; simp [hj]
theorem Arr.i64 {xs : List Int} (h : Arr w g t (I64 xs)) (j : Nat) (hj : j < xs.length) : w.cell? ⟨g, j, none⟩ = some (.int .i64 (xs.getD j 0)) := by
 rw [h.cell j]; simp [hj]
theorem Arr.frozen (h : Arr w g t cs) (j : Nat) : w.frozen? ⟨g, j, none⟩ = false := frozen_of_row w g j _ t h
theorem Arr.set (h : Arr w g t cs) (j : Nat) (v : Value) : Arr (w.setCell ⟨g, j, none⟩ v) g t (cs.set j v) := by
 have := heap_setCell_same w g j _ t v h
 unfold Arr
 rw [this]; simp
theorem Arr.other (h : Arr w g t cs) (p : Addr) (v : Value) (hne : g ≠ p.block) : Arr (w.setCell p v) g t cs := by
 unfold Arr
 rw [heap_setCell_other w p g v hne]; exact h
theorem Arr.row (h : Arr w g t cs) (ds : List Value) : Arr (w.setRow g ds.toArray) g t ds := setRow_heap w g _ _ t _ h
theorem Arr.rowOther (h : Arr w g t cs) (k : Nat) (ds : Array Value) (hne : g ≠ k) : Arr (w.setRow k ds) g t cs := (setRow_other w k g ds hne).trans h
theorem Arr.below {B : Nat} (h : Arr w g t cs) (hb : Below B w w') (hB : g < B) : Arr w' g t cs := by
 unfold Arr; rw [hb.block g hB]; exact h
theorem Arr.kept (h : Arr w g t cs) (hb : Below w.heap.size w w') : Arr w' g t cs := h.below hb h.lt
theorem Arr.new (w : World) (cs : List Value) (t : TypeId) : Arr (w.alloc (.cells cs.toArray t)) w.heap.size t cs := heap_alloc_new w _
theorem Arr.alloc (h : Arr w g t cs) (o : Obj) : Arr (w.alloc o) g t cs := (heap_alloc_old w o h.lt).trans h
theorem Arr.drew (h : Arr w g t cs) : Arr w.drew g t cs := h
theorem Arr.drewN (h : Arr w g t cs) (q : Nat) : Arr (w.drewN q) g t cs := h
end

theorem Arr.set8 {w : World} {g : Nat} {t : TypeId} {a0 a1 a2 a3 a4 a5 a6 a7 : Int} (h : Arr w g t (U32 [a0, a1, a2, a3, a4, a5, a6, a7])) (l0 l1 l2 l3 l4 l5 l6 l7 : Int) :
  Arr ((((((((w.setCell ⟨g, 0, none⟩ (.int .u32 l0)).setCell ⟨g, 1, none⟩ (.int .u32 l1)).setCell ⟨g, 2, none⟩ (.int .u32 l2)).setCell ⟨g, 3, none⟩ (.int .u32 l3)).setCell ⟨g, 4, none⟩ (.int .u32 l4)).setCell ⟨g, 5, none⟩ (.int .u32 l5)).setCell ⟨g, 6, none⟩ (.int .u32 l6)).setCell ⟨g, 7, none⟩ (.int .u32 l7))
   g t (U32 [l0, l1, l2, l3, l4, l5, l6, l7]) :=
 (((((((h.set 0 (.int .u32 l0)).set 1 (.int .u32 l1)).set 2 (.int .u32 l2)).set 3 (.int .u32 l3)).set 4 (.int .u32 l4)).set 5 (.int .u32 l5)).set 6 (.int .u32 l6)).set 7 (.int .u32 l7)

theorem set8_below {w0 w : World} {B g : Nat} (h : Below B w0 w) (hg : B ≤ g) (l0 l1 l2 l3 l4 l5 l6 l7 : Value) :
  Below B w0 ((((((((w.setCell ⟨g, 0, none⟩ l0).setCell ⟨g, 1, none⟩ l1).setCell ⟨g, 2, none⟩ l2).setCell ⟨g, 3, none⟩ l3).setCell ⟨g, 4, none⟩ l4).setCell ⟨g, 5, none⟩ l5).setCell ⟨g, 6, none⟩ l6).setCell ⟨g, 7, none⟩ l7) :=
 (((((((h.setCell hg l0).setCell hg l1).setCell hg l2).setCell hg l3).setCell hg l4).setCell hg l5).setCell hg l6).setCell hg l7

theorem setRow_below {B : Nat} {w w' : World} (hb : Below B w w') (g : Nat) (cs : Array Value) (hg : B ≤ g) : Below B w (w'.setRow g cs) :=
 ⟨hb.os, hb.tape, hb.output, by simpa using hb.size, fun i hi => (setRow_other w' g i cs (by omega)).trans (hb.block i hi)⟩

theorem bel_dN {B : Nat} {w w' : World} (hb : Below B w w') (q : Nat) : Below B w (w'.drewN q) := ⟨hb.os, hb.tape, hb.output, hb.size, hb.block⟩

theorem results_row_tmp {P : Program} {fn : Func} {p u : Tmp} {ty : TypeId} {w : World} {g : Nat} {t : TypeId} {cs : List Value} {d : TypeDesc} {v : Value} {tmps : Array Value} (h : fn.results = #[.cell p ty, .tmp u])
  (hp : tmps.getD p undef = .pointer (some ⟨g, 0, none⟩)) (hv : tmps.getD u undef = v) (hg : Arr w g t cs) (hu : P.underlying ty = some d) (hd : (match d with | .struct _ | .array _ _ => true | _ => false) = true) (hi : (P.info? ty).map (·.size) = some cs.length) :
  (results fn tmps).run P w = .ok (.tuple #[.agg cs.toArray, v]) w := by
 have hl := run_loadVar_row (P := P) w g t ty cs.toArray (0, 0) d hg hu hd (by simpa using hi)
 rw [results_cell_tmp h, hp, hv]
 simp [asAddr, Result.andThen, hl]

theorem list8 {l : List Int} (h : l.length = 8) : ∃ a b c d e f g i, l = [a, b, c, d, e, f, g, i] := by
 match l, h with
 | [a, b, c, d, e, f, g, i], _ => exact ⟨a, b, c, d, e, f, g, i, rfl⟩

end Go.Proofs.YtihoaakbkffejaaGreatDoor
namespace Go.Proofs.YtihoaakbkffejaaGreatDoor
open Go.RowKit
set_option maxRecDepth 100000

theorem infoE : (Tryz.prog.info? 80).map (·.size) = some 16 := by kernel_rfl
theorem infoI : (Tryz.prog.info? 3).map (·.size) = some 1 := by kernel_rfl
def PL : List Int := [65517, 65535, 65535, 65535, 65535, 65535, 65535, 65535, 65535, 65535, 65535, 65535, 65535, 65535, 65535, 32767]
theorem PL_len : PL.length = 16 := rfl
theorem PL_val : val PL = P25519 := by decide
theorem PL_lm : Lm PL := by unfold Lm PL; decide

abbrev Z16 : List Int := [0, 0, 0, 0, 0, 0, 0, 0, 0, 0, 0, 0, 0, 0, 0, 0]
theorem set_app {f a : List Int} {k : Nat} (hf : f.length = k) (hk : k < a.length) (v : Int) : (I64 (f ++ a.drop k)).set k (.int .i64 v) = I64 ((f ++ [v]) ++ a.drop (k + 1)) := by
 subst hf
 have e : a.drop f.length = a.getD f.length 0 :: a.drop (f.length + 1) := by
  rw [List.drop_eq_getElem_cons hk]; simp [hk]
 rw [e]
 simp [List.set_append_right]
theorem get_app {f a : List Int} {k : Nat} (hf : f.length = k) : (f ++ a.drop k).getD k 0 = a.getD k 0 := by
 subst hf
 simp [List.getD, List.getElem?_append_right]
theorem len_app {f a : List Int} {k : Nat} (hf : f.length = k) (hk : k ≤ a.length) : (f ++ a.drop k).length = a.length := by
 simp [hf]; omega
theorem take_app (a : List Int) (k : Nat) (h : k < a.length) : a.take (k + 1) = a.take k ++ [a.getD k 0] := by
 rw [List.take_add_one, List.getD, List.getElem?_eq_getElem h]; rfl
theorem i64_low16 {x : Int} (h0 : 0 ≤ x) (h1 : x < 9223372036854775808) : bits .and .i64 x 65535 = x % 65536 :=
 bits_mask .i64 63 (by decide) (fun n a b => by rw [IntKind.wrap_i64]; omega) 16 (by decide) x h0 h1
theorem i64_low15 {x : Int} (h0 : 0 ≤ x) (h1 : x < 9223372036854775808) : bits .and .i64 x 32767 = x % 32768 :=
 bits_mask .i64 63 (by decide) (fun n a b => by rw [IntKind.wrap_i64]; omega) 15 (by decide) x h0 h1

theorem cpc_sub {a b : List Int} (ha : Lm a) (hb : Lm b) : ∀ {c : Int}, (c = 0 ∨ c = -1) → (cpc (List.zipWith (fun x y => x - y) a b) c = 0 ∨ cpc (List.zipWith (fun x y => x - y) a b) c = -1) := by
 induction a generalizing b with
 | nil => intro c hc; simpa [cpc] using hc
 | cons x a ih =>
  cases b with
  | nil => intro c hc; simpa [cpc] using hc
  | cons y b =>
   intro c hc
   have hx := ha x (by simp)
   have hy := hb y (by simp)
   simp only [List.zipWith_cons_cons, cpc]
   exact ih (fun z hz => ha z (by simp [hz])) (fun z hz => hb z (by simp [hz])) (by omega)
theorem gD_lm {a : List Int} (h : Lm a) (k : Nat) : 0 ≤ a.getD k 0 ∧ a.getD k 0 < 65536 := by
 by_cases hk : k < a.length
 ·have : a.getD k 0 ∈ a := by rw [List.getD_eq_getElem?_getD, List.getElem?_eq_getElem hk]; exact List.getElem_mem _
  exact h _ this
 ·rw [List.getD_eq_getElem?_getD, List.getElem?_eq_none (by omega)]; simp

theorem lm_of {xs : List Int} (hl : xs.length = 16) (h : ∀ j, j < 16 → 0 ≤ xs.getD j 0 ∧ xs.getD j 0 < 65536) : Lm xs := by
 intro x hx
 obtain ⟨j, hj⟩ := List.mem_iff_getElem?.1 hx
 have hjl := (List.getElem?_eq_some_iff.1 hj).1
 have := h j (by omega)
 rw [List.getD, hj] at this
 simpa using this

theorem arr_range {W : World} {g : Nat} {t : TypeId} {cs : List Value} (h : Arr W g t cs) : W.rangeAt g 0 cs := by
 intro j v hj
 rw [Nat.zero_add, h.cell j]
 exact hj
end Go.Proofs.YtihoaakbkffejaaGreatDoor
namespace Go.Proofs.YtihoaakbkffejaaGreatDoor
open Go.RowKit

theorem Tryz.info5 : (Tryz.prog.info? 5).map (fun i => (i.zero, i.size, i.bytes)) = some (some (.int .u8 0), 1, 1) := by kernel_rfl
theorem Tryz.info3 : (Tryz.prog.info? 3).map (fun i => (i.zero, i.size, i.bytes)) = some (some (.int .i64 0), 1, 8) := by kernel_rfl
theorem bel_drewN (w : World) (q : Nat) : Below w.heap.size w (w.drewN q) := ⟨rfl, rfl, rfl, Nat.le_refl _, fun _ _ => rfl⟩
theorem grown_trans {a b c : World} {row : Option Nat} (h : a.grownBy b row) (k : b.grownBy c row) : a.grownBy c row :=
 ⟨k.os.trans h.os, k.tape.trans h.tape, k.output.trans h.output, Nat.le_trans h.size k.size, fun i hi hne => (k.block i (Nat.lt_of_lt_of_le hi h.size) hne).trans (h.block i hi hne)⟩
end Go.Proofs.YtihoaakbkffejaaGreatDoor
namespace Go.Proofs.YtihoaakbkffejaaGreatDoor
open Go.RowKit
set_option maxRecDepth 100000

def rdL (bs : List Int) : List Int := (List.range 16).map fun i => bs.getD (2 * i) 0 + 256 * bs.getD (2 * i + 1) 0
theorem rdL_len (bs : List Int) : (rdL bs).length = 16 := by simp [rdL]
theorem rdL_get (bs : List Int) (k : Nat) (h : k < 16) : (rdL bs).getD k 0 = bs.getD (2 * k) 0 + 256 * bs.getD (2 * k + 1) 0 := by
 unfold rdL
 rw [List.getD, List.getElem?_map, List.getElem?_range h]
 rfl
theorem gD_u8 {bs : List Int} (h : ∀ x ∈ bs, 0 ≤ x ∧ x < 256) (j : Nat) : 0 ≤ bs.getD j 0 ∧ bs.getD j 0 < 256 := by
 by_cases hj : j < bs.length
 ·rw [List.getD, List.getElem?_eq_getElem hj]
  exact h _ (List.getElem_mem hj)
 ·rw [List.getD, List.getElem?_eq_none (by omega)]
  simp
theorem rdL_lm {bs : List Int} (h : ∀ x ∈ bs, 0 ≤ x ∧ x < 256) : Lm (rdL bs) := by
 refine lm_of (rdL_len bs) fun j hj => ?_
 rw [rdL_get bs j hj]
 have h1 := gD_u8 h (2 * j)
 have h2 := gD_u8 h (2 * j + 1)
 omega

set_option maxHeartbeats 2000000 in
theorem specRead16 (a : Option Addr) (c : Nat) (bs : List Int) (w : World) (hx : Bs w a 32 c bs) :
  Calls Tryz.prog 51 #[.slice a 32 c] w fun e w' => e = .returned (.agg (I64 (rdL bs)).toArray) ∧ Below w.heap.size w w' := by
 obtain ⟨_, hl, hc, hr, hx⟩ := hx
 rcases hx with hx | ⟨b, o, rfl, hbs, hcell⟩
 ·omega
 have hRl := rdL_len bs
 have hRg := rdL_get bs
 have hr' := gD_u8 hr
 obtain ⟨R, hR⟩ : ∃ R, R = rdL bs := ⟨_, rfl⟩
 rw [← hR] at hRl hRg ⊢
 have HRG : Hid _ := hRg
 have HRR : Hid _ := hr'
 clear hR hRg hr hr'
 obtain ⟨W, hW⟩ : ∃ W, W = (w.alloc (.cells (I64 Z16).toArray 80)).alloc (.cells (I64 Z16).toArray 80) := ⟨_, rfl⟩
 have g1 : Arr W w.heap.size 80 (I64 Z16) := by rw [hW]; exact (Arr.new w (I64 Z16) _).alloc _
 have g2 : Arr W (w.heap.size + 1) 80 (I64 (R.take 0 ++ Z16.drop 0)) := by
  rw [hW]
  have := Arr.new (w.alloc (.cells (I64 Z16).toArray 80)) (I64 Z16) 80
  rw [World.size_alloc] at this
  exact this
 have gB : Below w.heap.size w W := by rw [hW]; exact ((Below.refl _ _).alloc (Nat.le_refl _) _).alloc (by simp) _
 go_enter Tryz.func51, Tryz.ntmps51
 go_wp2
 go_loopw [4] (fun i wr => ∃ k : Nat, k ≤ 16 ∧ i = .int .i64 k ∧ Arr wr w.heap.size 80 (I64 Z16) ∧ Arr wr (w.heap.size + 1) 80 (I64 (R.take k ++ Z16.drop k)) ∧ Below w.heap.size w wr) (fun i _ => 16 - (intOf i).toNat)
 case atStart => exact ⟨0, by omega, rfl, hW ▸ g1, hW ▸ g2, hW ▸ gB⟩
 case round =>
  clear g1 g2 gB hW
  obtain ⟨k, hk, rfl, g1, g2, gB⟩ := hrel
  have hfl : (R.take k).length = k := by simp; omega
  by_cases hlt : k < 16
  ·obtain ⟨x, hx⟩ : ∃ x, x = bs.getD (2 * k) 0 := ⟨_, rfl⟩
   obtain ⟨y, hy⟩ : ∃ y, y = bs.getD (2 * k + 1) 0 := ⟨_, rfl⟩
   have hxb := HRR.out (2 * k)
   have hyb := HRR.out (2 * k + 1)
   rw [← hx] at hxb
   rw [← hy] at hyb
   have hck : wr.cell? ⟨b, o + 2 * k, none⟩ = some (.int .u8 x) := by rw [hx]; exact (gB.cell (p := ⟨b, o + 2 * k, none⟩) hbs).trans (hcell (2 * k) (by omega))
   have hcy : wr.cell? ⟨b, o + (2 * k + 1), none⟩ = some (.int .u8 y) := by rw [hy]; exact (gB.cell (p := ⟨b, o + (2 * k + 1), none⟩) hbs).trans (hcell (2 * k + 1) (by omega))
   obtain ⟨u, hu⟩ : ∃ u, wr.cell? ⟨w.heap.size + 1, k, none⟩ = some u := by
    rw [g2.cell k]
    exact ⟨_, List.getElem?_eq_getElem (by simp [hRl]; omega)⟩
   have hfz := g2.frozen k
   have hts := take_app R k (by omega)
   rw [HRG.out k hlt, ← hx, ← hy] at hts
   have g2' := g2.set k (.int .i64 (x + 256 * y))
   rw [set_app hfl (show k < Z16.length from hlt), ← hts] at g2'
   have g1' := g1.other ⟨w.heap.size + 1, k, none⟩ (.int .i64 (x + 256 * y)) (by simp)
   have gB' := gB.setCell (p := ⟨w.heap.size + 1, k, none⟩) (by simp) (.int .i64 (x + 256 * y))
   have hk16 : (k : Int) < 16 := by omega
   have hk0 : (0 : Int) ≤ (k : Int) := by omega
   have s1 : IntKind.i64.wrap (2 * (k : Int)) = 2 * (k : Int) := by rw [IntKind.wrap_i64]; omega
   have s2 : (2 * (k : Int)).toNat = 2 * k := by omega
   have s3 : 2 * (k : Int) < 32 := by omega
   have s4 : (0 : Int) ≤ 2 * (k : Int) := by omega
   have s5 : IntKind.i64.wrap (2 * (k : Int) + 1) = 2 * (k : Int) + 1 := by rw [IntKind.wrap_i64]; omega
   have s6 : (2 * (k : Int) + 1).toNat = 2 * k + 1 := by omega
   have s7 : 2 * (k : Int) + 1 < 32 := by omega
   have s8 : (0 : Int) ≤ 2 * (k : Int) + 1 := by omega
   have s9 : IntKind.i64.wrap x = x := by rw [IntKind.wrap_i64]; omega
   have s10 : IntKind.i64.wrap y = y := by rw [IntKind.wrap_i64]; omega
   have s11 : IntKind.i64.wrap (256 * y) = 256 * y := by rw [IntKind.wrap_i64]; omega
   have s12 : IntKind.i64.wrap (x + 256 * y) = x + 256 * y := by rw [IntKind.wrap_i64]; omega
   have H1 : Hid _ := g1'.drew
   have H2 : Hid _ := g2'.drew
   have HB : Hid _ := gB'.drew
   clear g1' g2' gB' g1 g2 gB hx hy hts hcell
   go_wp2
   go_region
   clear hck hcy hu hfz
   go_wp2
   go_roundw
   case rel => exact ⟨k + 1, by omega, by go_num, H1.out, H2.out, HB.out⟩
   case measure => simp [intOf]; omega
  ·obtain rfl : k = 16 := by omega
   rw [List.take_of_length_le (by omega), show Z16.drop 16 = [] from rfl, List.append_nil] at g2
   have g1' := g1.row (I64 R)
   have gB' := setRow_below gB w.heap.size (I64 R).toArray (Nat.le_refl _)
   clear hfl hcell
   go_wp2_with (first
    | (refine wpList_load_row rfl 80 _ rfl (w.heap.size + 1) rfl 80 (I64 R).toArray (0, 0) _ g2 Tryz.underlying80 rfl (by simpa [hRl] using infoE) ?_)
    | (refine wpList_store_row rfl 80 _ _ rfl w.heap.size (I64 R).toArray rfl rfl 80 _ g1 (by simpa [hRl] using infoE) (by simp [hRl]) (by simp [Value.oneCell']) ?_))
   exact bodyPost_ret (results_cell_row rfl _ _ w.heap.size 80 (I64 R).toArray (0, 0) _ rfl g1' Tryz.underlying80 rfl (by simpa [hRl] using infoE)) rfl ⟨rfl, gB'⟩

end Go.Proofs.YtihoaakbkffejaaGreatDoor
namespace Go.Proofs.YtihoaakbkffejaaGreatDoor
open Go.RowKit

theorem wpl_append_bs {w : World} {ops : Array Oper} {rest : List Oper} {o : Oper} {a : Act} {Q : Exit → Act → World → Prop} (hgd : o.guard = none) (s x : Operand)
  (ho : o.op = .call { callee := .builtin .append, args := #[s, x], argTypes := #[22, 22] })
  (base : Nat) (v : Value) (n : Nat) (xs : List Int) (hs : a.eval s = v) (ao : Option Addr) (m c : Nat) (ys : List Int) (hx : a.eval x = .slice ao m c)
  (hown : w.ownsRow base 5 1 v n (U8 xs)) (hb : Bs w ao m c ys) (hlen : n + m ≤ 1099511627776) (hbase : base ≤ w.heap.size)
  (h : ∀ v' w', w'.ownsRow base 5 1 v' (n + m) (U8 (xs ++ ys)) → w.grownBy w' v.ownBlock → (v' = .slice none 0 0 ↔ v = .slice none 0 0 ∧ m = 0) → wpList Tryz.prog ops Q rest (a.put o.dst v') w') :
  wpList Tryz.prog ops Q (o :: rest) a w := by
 obtain ⟨i0, hi, hz0, hz1, hz2⟩ := info_parts Tryz.info5
 obtain ⟨hcap, hl, hc, _, hb⟩ := hb
 cases ao with
 | none =>
  have hc0 := hcap rfl
  subst hc0
  have hm : m = 0 := by omega
  subst hm
  have hy : ys = [] := List.eq_nil_of_length_eq_zero hl
  subst hy
  exact wpList_append_own_none hgd s x 22 ho base 5 i0 1 Tryz.underlying22 hi v n (U8 xs) hs hown hx
   (h v w (by simpa using hown) (World.grownBy.refl _ _) (by simp))
 | some ad =>
  refine wpList_append_own w hgd s x 22 ho base 5 i0 (.int .u8 0) 1 1 Tryz.underlying22 hi hz0 hz1 hz2 rfl (by decide) v n (U8 xs) hs hown ad m c (U8 ys) hx (by simp [hl]) ?_ (ints_oneCell _ _)
   (by unfold maxLen; omega) (by omega) hbase ?_
  ·rcases hb with hb | ⟨b, off, ha, _, hcell⟩
   ·intro j u hj
    have hy : ys = [] := List.eq_nil_of_length_eq_zero (by omega)
    subst hy
    simp at hj
   ·obtain rfl := Option.some.inj ha
    intro j u hj
    have hjl : j < m := by
     have := (List.getElem?_eq_some_iff.1 hj).1
     simpa [hl] using this
    rw [Addr.add_lit, hcell j hjl]
    have e : (U8 ys)[j]? = some (.int .u8 (ys.getD j 0)) := by simp [show j < ys.length by omega]
    rw [e] at hj
    exact hj
  ·intro v' w' h1 h2 h3
   exact h v' w' (by simpa using h1) h2 h3

theorem below_app {B n : Nat} {w wr w' : World} {v : Value} {xs : List Value} {o : Obj} (hb : Below B w wr) (hB : B ≤ wr.heap.size) (hown : wr.ownsRow B 5 1 v n xs) (hg : (wr.alloc o).grownBy w' v.ownBlock) : Below B w w' :=
 (hb.alloc hB o).grown hg (by simp; omega) (fun k hk => (hown.lt k hk).1)

theorem below_app0 {B n : Nat} {w wr w' : World} {v : Value} {xs : List Value} (hb : Below B w wr) (hB : B ≤ wr.heap.size) (hown : wr.ownsRow B 5 1 v n xs) (hg : wr.grownBy w' v.ownBlock) : Below B w w' :=
 hb.grown hg hB (fun k hk => (hown.lt k hk).1)

theorem Bs.one (w : World) (x : Int) (h0 : 0 ≤ x) (h1 : x < 256) : Bs (w.alloc (.cells #[.int .u8 x] 5)) (some ⟨w.heap.size, 0, none⟩) 1 1 [x] := by
 refine ⟨(fun h => by cases h), rfl, Nat.le_refl _, ?_, .inr ⟨w.heap.size, 0, rfl, by simp, ?_⟩⟩
 ·intro y hy; simp at hy; omega
 ·intro j hj
  have : j = 0 := by omega
  subst this
  rw [World.cell?_alloc_at _ _ _ _ rfl]; rfl

end Go.Proofs.YtihoaakbkffejaaGreatDoor
