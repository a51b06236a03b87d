/-
  What is proved here: plain mathematics on the program's limbs: carried with what is too much left in the last, columns of a product, what folding comes to, powers by squares; no program is spoken of, no condition; the contract of the program's method carried on limbs: what is too much is left in the last; a load of a long array under a guard; limbs laid into a new cell; contracts of the specification's l6bytes and PtBytes: the bytes of a point; the bytes of a point are bytes, at most 32; sums and doubles of points as the program makes them in the long form stand for the sum of the points; no program is spoken of; contracts of the program's method below on limbs: which of two numbers is less.
-/
import Derived.Test.YtihoaakbkffejaaGreatDoorSFm
import Derived.Laws.BitsLemmas
import Derived.Test.YtihoaakbkffejaaGreatDoorSFr
import Derived.BigFrame
import Derived.Test.YtihoaakbkffejaaGreatDoorSFyq
namespace Go.Proofs.YtihoaakbkffejaaGreatDoor
open Go.RowKit
set_option maxRecDepth 100000

theorem i64_and16 (x : Int) : bits .and .i64 x 65535 = x % 65536 := by
  have h1 : BitVec.ofInt 64 x = BitVec.ofInt 64 (x % 18446744073709551616) := by
    apply BitVec.eq_of_toInt_eq
    rw [BitVec.toInt_ofInt, BitVec.toInt_ofInt]
    exact (Int.emod_bmod x (2 ^ 64)).symm
  have h2 : bits .and .i64 x 65535 = bits .and .i64 (x % 18446744073709551616) 65535 := by
    unfold bits
    simp only [IntKind.bits]
    rw [h1]
  rw [h2]
  obtain ⟨a, ha⟩ := Int.eq_ofNat_of_zero_le (Int.emod_nonneg x (show (18446744073709551616 : Int) ≠ 0 by decide))
  rw [ha]
  have h3 : bits .and .i64 (a : Int) 65535 = IntKind.i64.wrap (((a % 18446744073709551616) &&& 65535 : Nat) : Int) := by
    unfold bits
    simp only [IntKind.bits, BitVec.ofInt_natCast]
    rfl
  rw [h3, show (65535 : Nat) = 2 ^ 16 - 1 from rfl, Nat.and_two_pow_sub_one_eq_mod, IntKind.wrap_i64]
  omega

theorem lim_emod (n : Nat) (x : Int) : lim n (x % 65536 ^ n) = lim n x := by
  have := lim_val (lim n x) (lim_lm n x)
  rw [lim_len, val_lim] at this
  exact this
theorem lim_congr {n : Nat} {x y : Int} (h : x % 65536 ^ n = y % 65536 ^ n) : lim n x = lim n y := by
  rw [← lim_emod n x, ← lim_emod n y, h]

/-- Limbs that are carried; what is too much is left in the last. -/
def crd (l : List Int) : List Int := cps (l.take 15) 0 ++ [l.getD 15 0 + cpc (l.take 15) 0]
theorem val_last {l : List Int} (h : l.length = 16) : val l = val (l.take 15) + 65536 ^ 15 * l.getD 15 0 := by
  have := val_split l 15 (by omega)
  rw [List.drop_eq_nil_of_le (by omega : l.length ≤ 15 + 1)] at this
  simp only [val] at this
  omega
theorem crd_eq {l : List Int} (h : l.length = 16) : crd l = lim 15 (val l) ++ [val l / 65536 ^ 15] := by
  have hl : (l.take 15).length = 15 := by simp [h]
  unfold crd
  rw [cps_lim, cpc_div, hl, val_last h, Int.add_zero]
  congr 1
  · apply lim_congr
    rw [Int.add_mul_emod_self_left]
  · rw [Int.add_mul_ediv_left _ _ (Int.ne_of_gt (pow_pos16 15)), Int.add_comm]
theorem crd_len {l : List Int} (h : l.length = 16) : (crd l).length = 16 := by rw [crd_eq h]; simp [lim_len]
theorem crd_lim {l : List Int} (h : l.length = 16) (h0 : 0 ≤ val l) (h1 : val l < 115792089237316195423570985008687907853269984665640564039457584007913129639936) : crd l = lim 16 (val l) := by
  have e : ∀ n x, lim (n + 1) x = lim n x ++ [x / 65536 ^ n % 65536] := by
    intro n
    induction n with
    | zero => intro x; simp [lim]
    | succ n ih =>
      intro x
      rw [lim, ih, lim]
      simp only [List.cons_append]
      rw [Int.pow_succ, Int.mul_comm (65536 ^ n) 65536, ← Int.ediv_ediv_of_nonneg (by omega)]
  rw [crd_eq h, e 15, p240]
  congr 2
  omega

/-- How far carrying has come. -/
def cra (l : List Int) (k : Nat) : List Int := cps (l.take k) 0 ++ ((l.getD k 0 + cpc (l.take k) 0) :: l.drop (k + 1))
theorem cra_zero {l : List Int} (h : l.length = 16) : cra l 0 = l := by
  cases l with
  | nil => simp at h
  | cons x l => simp [cra, cps, cpc]
theorem cra_end {l : List Int} (h : l.length = 16) : cra l 15 = crd l := by
  unfold cra crd
  rw [List.drop_eq_nil_of_le (by omega : l.length ≤ 15 + 1)]
theorem take_one (a : List Int) (k : Nat) (h : k < a.length) : a.take (k + 1) = a.take k ++ [a.getD k 0] := by
  rw [List.take_add_one, List.getD, List.getElem?_eq_getElem h]; rfl
theorem drop_one (a : List Int) (k : Nat) (h : k < a.length) : a.drop k = a.getD k 0 :: a.drop (k + 1) := by
  rw [List.drop_eq_getElem_cons h]; simp [h]
theorem cra_len {l : List Int} {k : Nat} (h : l.length = 16) (hk : k < 16) : (cra l k).length = 16 := by
  unfold cra
  simp [cps_len, h]; omega
/-- The part that is carried next, and the one behind it. -/
def crx (l : List Int) (k : Nat) : Int := l.getD k 0 + cpc (l.take k) 0
theorem cra_at {l : List Int} {k : Nat} (h : l.length = 16) (hk : k < 15) : (cra l k).getD k 0 = crx l k ∧ (cra l k).getD (k + 1) 0 = l.getD (k + 1) 0 := by
  have hl : (cps (l.take k) 0).length = k := by rw [cps_len]; simp [h]; omega
  have hd := drop_one l (k + 1) (by omega)
  unfold cra crx
  constructor
  · simp [List.getD, hl]
  · rw [hd]
    simp [List.getD, hl]
theorem crx_next {l : List Int} {k : Nat} (h : l.length = 16) (hk : k < 15) : crx l (k + 1) = l.getD (k + 1) 0 + crx l k / 65536 := by
  unfold crx
  rw [take_one l k (by omega), cpc_snoc]
theorem cra_step {l : List Int} {k : Nat} (h : l.length = 16) (hk : k < 15) : ((I64 (cra l k)).set (k + 1) (.int .i64 (l.getD (k + 1) 0 + crx l k / 65536))).set k (.int .i64 (crx l k % 65536)) = I64 (cra l (k + 1)) := by
  have hl : (cps (l.take k) 0).length = k := by rw [cps_len]; simp [h]; omega
  have hd := drop_one l (k + 1) (by omega)
  have hn := crx_next h hk
  have h2 : cra l (k + 1) = cps (l.take k) 0 ++ (crx l k % 65536 :: crx l (k + 1) :: l.drop (k + 1 + 1)) := by
    unfold cra
    rw [take_one l k (by omega), cps_snoc, cpc_snoc]
    unfold crx
    rw [take_one l k (by omega), cpc_snoc]
    simp
  have h1 : cra l k = cps (l.take k) 0 ++ (crx l k :: l.getD (k + 1) 0 :: l.drop (k + 1 + 1)) := by
    unfold cra crx
    rw [← hd]
  rw [h1, h2, hn]
  generalize cps (l.take k) 0 = f at hl ⊢
  subst hl
  simp [List.set_append_right]
/-- No step of carrying leaves what an int holds. -/
def Cb (l : List Int) : Prop := ∀ k, k < 16 → -9223372036854775808 ≤ crx l k ∧ crx l k < 9223372036854775808
theorem cpc_small {l : List Int} (h : ∀ x ∈ l, -4611686018427387904 ≤ x ∧ x < 4611686018427387904) : ∀ {c : Int}, -140737488355328 ≤ c → c ≤ 140737488355328 → -140737488355328 ≤ cpc l c ∧ cpc l c ≤ 140737488355328 := by
  induction l with
  | nil => intro c h0 h1; exact ⟨h0, h1⟩
  | cons x l ih =>
    intro c h0 h1
    have hx := h x (by simp)
    exact ih (fun y hy => h y (by simp [hy])) (by omega) (by omega)
theorem getD_of {l : List Int} {p : Int → Prop} (h : ∀ x ∈ l, p x) (h0 : p 0) (k : Nat) : p (l.getD k 0) := by
  by_cases hk : k < l.length
  · have : l.getD k 0 ∈ l := by rw [List.getD_eq_getElem?_getD, List.getElem?_eq_getElem hk]; exact List.getElem_mem _
    exact h _ this
  · rw [List.getD_eq_getElem?_getD, List.getElem?_eq_none (by omega)]; exact h0
theorem cb_of {l : List Int} (h : ∀ x ∈ l, -4611686018427387904 ≤ x ∧ x < 4611686018427387904) : Cb l := by
  intro k _
  have h1 := cpc_small (l := l.take k) (fun x hx => h x (List.mem_of_mem_take hx)) (c := 0) (by omega) (by omega)
  have h2 := getD_of h (by omega) k
  unfold crx
  omega
/-- The columns of a product: their worth, and how great they may be. -/
structure Tq (a b t : List Int) (i k : Nat) : Prop where
  len : t.length = 32
  vl : val t = prodAt a b i k
  le : ∀ x ∈ t, 0 ≤ x ∧ x ≤ (16 * (i : Int) + (k : Int)) * 4294836225
theorem Tq.get {a b t : List Int} {i k : Nat} (h : Tq a b t i k) (j : Nat) : 0 ≤ t.getD j 0 ∧ t.getD j 0 ≤ (16 * (i : Int) + (k : Int)) * 4294836225 :=
  getD_of (p := fun x => 0 ≤ x ∧ x ≤ (16 * (i : Int) + (k : Int)) * 4294836225) h.le (by omega) j
theorem Tq.step {a b t : List Int} {i k : Nat} (h : Tq a b t i k) (hi : i < 16) (hk : k < b.length) (hk16 : k < 16) {p : Int} (hp : p = a.getD i 0 * b.getD k 0) (hp0 : 0 ≤ p) (hp1 : p ≤ 4294836225) : Tq a b (t.set (i + k) (t.getD (i + k) 0 + p)) i (k + 1) := by
  have hl := h.len
  have hg := h.get (i + k)
  refine ⟨by simp [hl], ?_, ?_⟩
  · rw [val_set t (i + k) (by omega), h.vl, prodAt_step a b i k hk, hp]
    congr 2
    omega
  · intro x hx
    rcases List.mem_or_eq_of_mem_set hx with h1 | h1
    · have := h.le x h1
      simp only [Int.natCast_add, Int.natCast_one]
      omega
    · subst h1
      simp only [Int.natCast_add, Int.natCast_one]
      omega
theorem Tq.row {a b t : List Int} {i : Nat} (h : Tq a b t i 16) (hb : b.length = 16) (hi : i < a.length) : Tq a b t (i + 1) 0 := by
  refine ⟨h.len, ?_, fun x hx => ?_⟩
  · rw [h.vl, ← prodAt_row a b i hi, hb]
  · have := h.le x hx
    simp only [Int.natCast_add, Int.natCast_one] at this ⊢
    omega
abbrev Z32 : List Int := [0, 0, 0, 0, 0, 0, 0, 0, 0, 0, 0, 0, 0, 0, 0, 0, 0, 0, 0, 0, 0, 0, 0, 0, 0, 0, 0, 0, 0, 0, 0, 0]
theorem Tq.zero (a b : List Int) : Tq a b Z32 0 0 := by
  refine ⟨rfl, ?_, ?_⟩
  · simp [prodAt, val]
  · intro x hx
    have : x = 0 := by simpa using hx
    omega
theorem zipJ_val : ∀ (a b : List Int), a.length = b.length → val (List.zipWith (fun x y => x + 38 * y) a b) = val a + 38 * val b
  | [], [], _ => by simp [val]
  | x :: a, y :: b, h => by
    have := zipJ_val a b (by simpa using h)
    simp only [List.zipWith_cons_cons, val, this]
    omega
  | [], _ :: _, h => by simp at h
  | _ :: _, [], h => by simp at h
/-- The columns brought into sixteen. -/
def fo32 (t : List Int) : List Int := List.zipWith (fun x y => x + 38 * y) (t.take 16) (t.drop 16)
theorem fo32_len {t : List Int} (h : t.length = 32) : (fo32 t).length = 16 := by simp [fo32, h]
theorem fo32_get {t : List Int} (h : t.length = 32) (j : Nat) (hj : j < 16) : (fo32 t).getD j 0 = t.getD j 0 + 38 * t.getD (16 + j) 0 := by
  unfold fo32
  have e1 : (t.take 16)[j]? = some (t.getD j 0) := by
    rw [List.getElem?_take]
    simp [hj, show j < t.length by omega]
  have e2 : (t.drop 16)[j]? = some (t.getD (16 + j) 0) := by
    rw [List.getElem?_drop]
    simp [show 16 + j < t.length by omega]
  rw [List.getD, List.getElem?_zipWith, e1, e2]
  rfl
theorem fo32_mod {t : List Int} (h : t.length = 32) : val (fo32 t) % P25519 = val t % P25519 := by
  have e : val t = val (t.take 16) + 65536 ^ 16 * val (t.drop 16) := by
    conv => lhs; rw [← List.take_append_drop 16 t]
    rw [val_append]
    simp [h]
  unfold fo32
  rw [zipJ_val _ _ (by simp [h]), e, p256]
  unfold P25519
  omega
/-- Parts that may be settled: not negative, below 2^46. -/
def Gq (l : List Int) : Prop := ∀ x ∈ l, 0 ≤ x ∧ x < 70368744177664
theorem fo32_gq {a b t : List Int} (h : Tq a b t 16 0) : Gq (fo32 t) := by
  intro x hx
  obtain ⟨j, hj⟩ := List.mem_iff_getElem?.1 hx
  have hjl := (List.getElem?_eq_some_iff.1 hj).1
  rw [fo32_len h.len] at hjl
  have e := fo32_get h.len j hjl
  rw [List.getD, hj] at e
  simp only [Option.getD_some] at e
  have h1 := h.get j
  have h2 := h.get (16 + j)
  subst e
  omega
theorem gq_val {l : List Int} (hl : l.length = 16) (h : Gq l) : 0 ≤ val l ∧ val l < 124332706268983421881201578354193775436344928461980494889141621375654012992588213059584 := by
  refine ⟨val_nonneg (fun x hx => (h x hx).1), ?_⟩
  have key : ∀ (m : List Int), Gq m → 65535 * val m ≤ 70368744177663 * (65536 ^ m.length - 1) := by
    intro m
    induction m with
    | nil => intro _; simp [val]
    | cons x m ih =>
      intro hm
      have hx := hm x (by simp)
      have := ih (fun y hy => hm y (by simp [hy]))
      simp only [val, List.length_cons, Int.pow_succ]
      omega
  have := key l h
  rw [hl, p256] at this
  omega
theorem gq_cb {l : List Int} (h : Gq l) : Cb l := cb_of (fun x hx => by have := h x hx; omega)

/-- What is above 2^255 brought back, on carried limbs. -/
def tops (l : List Int) : List Int := (l.set 0 (l.getD 0 0 + 19 * (l.getD 15 0 / 32768))).set 15 (l.getD 15 0 % 32768)
theorem tops_len (l : List Int) : (tops l).length = l.length := by simp [tops]
theorem tops_val {l : List Int} (hl : l.length = 16) (h : Gq l) : val (tops (crd l)) = fold5 (val l) := by
  have hc := crd_len hl
  have hv : val (crd l) = val l := by
    rw [crd_eq hl, val_append, lim_len, val_lim]
    simp only [val]
    have := Int.emod_add_mul_ediv (val l) (65536 ^ 15)
    omega
  have hg : (crd l).getD 15 0 = val l / 65536 ^ 15 := by
    rw [crd_eq hl]
    simp [List.getD, lim_len]
  have hs : ((crd l).set 0 ((crd l).getD 0 0 + 19 * ((crd l).getD 15 0 / 32768))).getD 15 0 = (crd l).getD 15 0 := by simp [List.getD]
  unfold tops
  rw [val_set _ 15 (by simp [hc]), hs, val_set _ 0 (by omega), hv, hg, p240]
  unfold fold5
  simp only [Int.pow_zero, Int.one_mul]
  have := gq_val hl h
  omega
theorem crd_bd {l : List Int} (hl : l.length = 16) (h : Gq l) : ∀ x ∈ crd l, 0 ≤ x ∧ x < 70370891661312 := by
  have hv := gq_val hl h
  rw [crd_eq hl, p240]
  intro x hx
  rcases List.mem_append.1 hx with hx | hx
  · have := lim_lm 15 _ x hx; omega
  · simp only [List.mem_singleton] at hx
    subst hx
    omega
theorem tops_bd {l : List Int} (hl : l.length = 16) (h : Gq l) : ∀ x ∈ tops (crd l), 0 ≤ x ∧ x < 4611686018427387904 := by
  have hb := crd_bd hl h
  have h0 := getD_of hb (by omega) 0
  have h15 := getD_of hb (by omega) 15
  intro x hx
  unfold tops at hx
  rcases List.mem_or_eq_of_mem_set hx with h1 | h1
  · rcases List.mem_or_eq_of_mem_set h1 with h2 | h2
    · have := hb x h2; omega
    · omega
  · omega
/-- The limbs behind all carrying, ahead of the last comparison. -/
def stl (l : List Int) : List Int := crd (tops (crd l))
theorem stl_lim {l : List Int} (hl : l.length = 16) (h : Gq l) : stl l = lim 16 (fold5 (val l)) ∧ 0 ≤ fold5 (val l) ∧ fold5 (val l) < 2 * P25519 ∧ fold5 (val l) % P25519 = val l % P25519 := by
  have hv := gq_val hl h
  have ht : (tops (crd l)).length = 16 := by rw [tops_len, crd_len hl]
  have hb : 0 ≤ fold5 (val l) ∧ fold5 (val l) < 2 * P25519 ∧ fold5 (val l) % P25519 = val l % P25519 := by
    unfold fold5 P25519
    omega
  refine ⟨?_, hb⟩
  unfold stl
  have e := tops_val hl h
  rw [crd_lim ht (by rw [e]; exact hb.1) (by rw [e]; have := hb.2.1; unfold P25519 at this; omega), e]
/-- What is below twice the prime, brought below it. -/
theorem less_red {x v : Int} (h0 : 0 ≤ x) (h1 : x < 2 * P25519) (h2 : x % P25519 = v % P25519) : (x < P25519 → lim 16 x = red v) ∧ (¬ x < P25519 → lim 16 (x - P25519) = red v) := by
  unfold red
  rw [← h2]
  constructor
  · intro h; rw [Int.emod_eq_of_lt h0 h]
  · intro h
    rw [show x % P25519 = x - P25519 by unfold P25519 at *; omega]

theorem red_pow_sq (x : Int) (i : Nat) : red (val (red (x ^ 2 ^ i)) * val (red (x ^ 2 ^ i))) = red (x ^ 2 ^ (i + 1)) := by
  rw [val_red, red, red, ← Int.mul_emod, ← Int.pow_add, Nat.pow_succ]
  congr 3
  omega
theorem red_pow_bit (x : Int) (N i : Nat) (h : N / 2 ^ i % 2 = 1) : red (val (red (x ^ (N % 2 ^ i))) * val (red (x ^ 2 ^ i))) = red (x ^ (N % 2 ^ (i + 1))) := by
  rw [val_red, val_red, red, red, ← Int.mul_emod, ← Int.pow_add]
  congr 3
  rw [Nat.pow_succ, Nat.mod_mul, h]
  omega
theorem pow_nobit (N i : Nat) (h : N / 2 ^ i % 2 = 0) : N % 2 ^ i = N % 2 ^ (i + 1) := by
  rw [Nat.pow_succ, Nat.mod_mul, h]
  omega
end Go.Proofs.YtihoaakbkffejaaGreatDoor
namespace Go.Proofs.YtihoaakbkffejaaGreatDoor
open Go.RowKit
set_option maxRecDepth 100000

theorem infoL : (Tryz.prog.info? 65).map (·.size) = some 16 := by kernel_rfl

set_option maxHeartbeats 2000000 in
theorem implCarried (l : List Int) (w : World) (hl : l.length = 16) (hc : Cb l) :
    Calls Tryz.prog 133 #[.agg (I64 l).toArray] w fun e w' => e = .returned (.agg (I64 (crd l)).toArray) ∧ Below w.heap.size w w' := by
  obtain ⟨A, hA⟩ : ∃ A, A = (I64 l).toArray := ⟨_, rfl⟩
  rw [← hA]
  obtain ⟨W, hW⟩ : ∃ W, W = (w.alloc (.cells A 65)).alloc (.cells (I64 Z16).toArray 65) := ⟨_, rfl⟩
  have h0 : Arr W w.heap.size 65 (I64 (cra l 0)) := by rw [hW, hA, cra_zero hl]; exact (Arr.new w (I64 l) _).alloc _
  have h1 : Arr W (w.heap.size + 1) 65 (I64 Z16) := by
    rw [hW]
    have := Arr.new (w.alloc (.cells A 65)) (I64 Z16) 65
    rw [World.size_alloc] at this
    exact this
  have hBl : Below w.heap.size w W := by rw [hW]; exact ((Below.refl _ _).alloc (Nat.le_refl _) _).alloc (by simp) _
  have HC : Hid _ := hc
  clear hA hc
  go_enter Tryz.func133, Tryz.ntmps133
  go_wp2
  go_loopw [4] (fun i wr => ∃ k : Nat, k ≤ 15 ∧ i = .int .i64 k ∧ Arr wr w.heap.size 65 (I64 (cra l k)) ∧ Arr wr (w.heap.size + 1) 65 (I64 Z16) ∧ Below w.heap.size w wr) (fun i _ => 15 - (intOf i).toNat)
  case atStart => exact ⟨0, by omega, rfl, hW ▸ h0, hW ▸ h1, hW ▸ hBl⟩
  case round =>
    clear h0 h1 hBl hW
    obtain ⟨k, hk, rfl, h0, h1, hBl⟩ := hrel
    have hcl := cra_len hl (show k < 16 by omega)
    by_cases hlt : k < 15
    · obtain ⟨hx, hy⟩ := cra_at hl hlt
      have hst := cra_step hl hlt
      have hnb := HC.out (k + 1) (by omega)
      rw [crx_next hl hlt] at hnb
      obtain ⟨x, hxx⟩ : ∃ x, x = crx l k := ⟨_, rfl⟩
      obtain ⟨y, hyy⟩ : ∃ y, y = l.getD (k + 1) 0 := ⟨_, rfl⟩
      rw [← hxx] at hx hst hnb
      rw [← hyy] at hy hst hnb
      have cx : wr.cell? ⟨w.heap.size, k, none⟩ = some (.int .i64 x) := by rw [h0.i64 k (by omega), hx]
      have cy : wr.cell? ⟨w.heap.size, k + 1, none⟩ = some (.int .i64 y) := by rw [h0.i64 (k + 1) (by omega), hy]
      have hf0 := h0.frozen (k + 1)
      have hk15 : (k : Int) < 15 := by omega
      have hk16 : (k : Int) < 16 := by omega
      have hk0 : (0 : Int) ≤ (k : Int) := by omega
      have s1 : IntKind.i64.wrap ((k : Int) + 1) = (k : Int) + 1 := by rw [IntKind.wrap_i64]; omega
      have s2 : ((k : Int) + 1).toNat = k + 1 := by omega
      have s3 : (k : Int) + 1 < 16 := by omega
      have s4 : (0 : Int) ≤ (k : Int) + 1 := by omega
      have s5 : IntKind.i64.wrap (y + x / 65536) = y + x / 65536 := by rw [IntKind.wrap_i64]; omega
      have s6 : bits .and .i64 x 65535 = x % 65536 := i64_and16 x
      have e1 := h0.set (k + 1) (.int .i64 (y + x / 65536))
      have e2 := e1.set k (.int .i64 (x % 65536))
      rw [hst] at e2
      have cx2 : (wr.setCell ⟨w.heap.size, k + 1, none⟩ (.int .i64 (y + x / 65536))).drew.cell? ⟨w.heap.size, k, none⟩ = some (.int .i64 x) := by
        show (wr.setCell ⟨w.heap.size, k + 1, none⟩ (.int .i64 (y + x / 65536))).cell? ⟨w.heap.size, k, none⟩ = some (.int .i64 x)
        rw [e1.cell k, List.getElem?_set_ne (by omega), ← h0.cell k]; exact cx
      have hf2 := e1.drew.frozen k
      have f2 := (h1.other ⟨w.heap.size, k + 1, none⟩ (.int .i64 (y + x / 65536)) (by simp)).other ⟨w.heap.size, k, none⟩ (.int .i64 (x % 65536)) (by simp)
      have fB := (hBl.setCell (p := ⟨w.heap.size, k + 1, none⟩) (Nat.le_refl _) (.int .i64 (y + x / 65536))).setCell (p := ⟨w.heap.size, k, none⟩) (Nat.le_refl _) (.int .i64 (x % 65536))
      have H0 : Hid _ := e2.drew
      have H1 : Hid _ := f2.drew
      have HB : Hid _ := fB.drew
      clear e1 e2 f2 fB h0 h1 hBl hx hy hst hxx hyy hcl
      go_wp2
      go_region
      clear cx cy hf0
      go_wp2
      go_roundw
      case rel => exact ⟨k + 1, by omega, by go_num, H0.out, H1.out, HB.out⟩
      case measure => simp [intOf]; omega
    · obtain rfl : k = 15 := by omega
      rw [cra_end hl] at h0
      have hRl := crd_len hl
      obtain ⟨R, hR⟩ : ∃ R, R = crd l := ⟨_, rfl⟩
      rw [← hR] at h0 hRl
      have HR : Hid _ := hR
      have h2 := h1.row (I64 R)
      have hb2 := setRow_below hBl (w.heap.size + 1) (I64 R).toArray (by omega)
      clear hR hcl HC
      go_wp2_with (first
        | (refine wpList_load_row rfl 65 _ rfl w.heap.size rfl 65 (I64 R).toArray (0, 0) _ h0 Tryz.underlying65 rfl (by simpa [hRl] using infoL) ?_)
        | (refine wpList_store_row rfl 65 _ _ rfl (w.heap.size + 1) (I64 R).toArray rfl rfl 65 _ h1 (by simpa [hRl] using infoL) (by simp [hRl]) (by simp [Value.oneCell']) ?_))
      exact bodyPost_ret (results_cell_row rfl _ _ (w.heap.size + 1) 65 (I64 R).toArray (0, 0) _ rfl h2 Tryz.underlying65 rfl (by simpa [hRl] using infoL)) rfl ⟨by rw [HR.out], hb2⟩
end Go.Proofs.YtihoaakbkffejaaGreatDoor
namespace Go.Proofs.YtihoaakbkffejaaGreatDoor
open Go.RowKit
set_option maxRecDepth 100000

theorem wpList_load_rowW {P : Program} {ops : Array Oper} {rest : List Oper} {o : Oper} {a : Act} {w : World} {Q : Exit → Act → World → Prop} (hw : Region.wanted o (yielded ops a.tmps) = true) (ty : TypeId) (x : Operand) (ho : o.op = .load ty x)
    (g : Nat) (hx : a.eval x = .pointer (some ⟨g, 0, none⟩)) (t : TypeId) (cs : Array Value) (fr : Nat × Nat) (d : TypeDesc) (hg : w.heap[g]? = some (.cells cs t fr))
    (hu : P.underlying ty = some d) (hd : (match d with | .struct _ | .array _ _ => true | _ => false) = true) (hi : (P.info? ty).map (·.size) = some cs.size)
    (h : wpList P ops Q rest (a.put o.dst (.agg cs)) w) : wpList P ops Q (o :: rest) a w :=
  BigFrame.wpList_want hw fun _ hK => wp_load_row ty x ho g hx t cs fr d hg hu hd hi (hK _ _ h)

/-- The limbs are laid into a new cell. -/
theorem laid_new (w1 : World) (L : List Int) : Below w1.heap.size w1 ((w1.alloc (.cells #[.int .i64 0, .int .i64 0, .int .i64 0, .int .i64 0, .int .i64 0, .int .i64 0, .int .i64 0, .int .i64 0, .int .i64 0, .int .i64 0, .int .i64 0, .int .i64 0, .int .i64 0, .int .i64 0, .int .i64 0, .int .i64 0] 65)).setRow w1.heap.size (I64 L).toArray) ∧ Arr ((w1.alloc (.cells #[.int .i64 0, .int .i64 0, .int .i64 0, .int .i64 0, .int .i64 0, .int .i64 0, .int .i64 0, .int .i64 0, .int .i64 0, .int .i64 0, .int .i64 0, .int .i64 0, .int .i64 0, .int .i64 0, .int .i64 0, .int .i64 0] 65)).setRow w1.heap.size (I64 L).toArray) w1.heap.size 65 (I64 L) ∧ Arr (w1.alloc (.cells #[.int .i64 0, .int .i64 0, .int .i64 0, .int .i64 0, .int .i64 0, .int .i64 0, .int .i64 0, .int .i64 0, .int .i64 0, .int .i64 0, .int .i64 0, .int .i64 0, .int .i64 0, .int .i64 0, .int .i64 0, .int .i64 0] 65)) w1.heap.size 65 (I64 Z16) := by
  have q : Arr (w1.alloc (.cells #[.int .i64 0, .int .i64 0, .int .i64 0, .int .i64 0, .int .i64 0, .int .i64 0, .int .i64 0, .int .i64 0, .int .i64 0, .int .i64 0, .int .i64 0, .int .i64 0, .int .i64 0, .int .i64 0, .int .i64 0, .int .i64 0] 65)) w1.heap.size 65 (I64 Z16) := Arr.new w1 (I64 Z16) _
  exact ⟨setRow_below ((Below.refl _ _).alloc (Nat.le_refl _) _) _ _ (Nat.le_refl _), q.row _, q⟩
end Go.Proofs.YtihoaakbkffejaaGreatDoor
namespace Go.Proofs.YtihoaakbkffejaaGreatDoor
open Go.RowKit
set_option maxRecDepth 100000

/-- The bytes of a point: those of y, the highest bit telling whether x is odd. -/
def ptBt (x y : List Int) : List Int := (btL y).set 31 ((btL y).getD 31 0 + x.getD 0 0 % 2 * 128)
theorem ptBt_len {x y : List Int} (h : y.length = 16) : (ptBt x y).length = 32 := by simp [ptBt, btL_len, h]
/-- The highest byte of a number of the field. -/
theorem bt_top {y : List Int} (h : feOk y = true) : 0 ≤ (btL y).getD 31 0 ∧ (btL y).getD 31 0 < 128 := by
  obtain ⟨h1, h2, h3⟩ := (feOk_iff y).1 h
  have h15 := gD_lm h2 15
  have e : (btL y).getD 31 0 = y.getD 15 0 / 256 := (btL_get y 15 (by omega)).2
  have h0 := val_nonneg (l := y.take 15) (fun x hx => (h2 x (List.mem_of_mem_take hx)).1)
  rw [val_last h1, p240] at h3
  unfold P25519 at h3
  rw [e]
  omega

def ptBF (xs ys : List Int) : List Int := if ptOk xs ys = true then ptBt (flx (mk6 xs ys)) (fly (mk6 xs ys)) else []
end Go.Proofs.YtihoaakbkffejaaGreatDoor
namespace Go.Proofs.YtihoaakbkffejaaGreatDoor
open Go.RowKit
theorem ptBt_byte {x y : List Int} (h : feOk y = true) : ∀ b ∈ ptBt x y, 0 ≤ b ∧ b < 256 := by
  intro b hb
  have ht := bt_top h
  unfold ptBt at hb
  rcases List.mem_or_eq_of_mem_set hb with h1 | rfl
  · exact btL_byte (feOk_lm' h) b h1
  · omega
end Go.Proofs.YtihoaakbkffejaaGreatDoor
namespace Go.Proofs.YtihoaakbkffejaaGreatDoor
open Go.RowKit
set_option maxRecDepth 100000
set_option maxHeartbeats 4000000
set_option linter.unusedSectionVars false

section
variable {p : Nat} [NeZero p] {d i : Fin p} {iv : Fin p → Fin p}
theorem jnF (x1 y1 c1 x2 y2 c2 : Fin p) : x1 * c1 * (y2 * c2) + y1 * c1 * (x2 * c2) = c1 * c2 * (x1 * y2 + y1 * x2) := by grind
theorem jnK (x1 y1 c1 x2 y2 c2 : Fin p) : y1 * c1 * (y2 * c2) + x1 * c1 * (x2 * c2) = c1 * c2 * (y1 * y2 + x1 * x2) := by grind
theorem jnH (x1 y1 c1 x2 y2 c2 d : Fin p) : c1 * c2 + d * (x1 * y1 * c1 * (x2 * y2 * c2)) = c1 * c2 * (1 + d * (x1 * x2 * y1 * y2)) := by grind
theorem jnG (x1 y1 c1 x2 y2 c2 d : Fin p) : c1 * c2 - d * (x1 * y1 * c1 * (x2 * y2 * c2)) = c1 * c2 * (1 - d * (x1 * x2 * y1 * y2)) := by grind
theorem jn2 {f v : Fin p} (hv : f * v = 1) (k b g : Fin p) : k * b * (k * g) = b * v * (k * f * (k * g)) := by grind
/-- Four numbers that are so many times the two sums and the two divisors of a sum stand for it. -/
theorem Ext.long (C : Crv d i iv) {P Q : Fin p × Fin p} (o1 : On d P) (o2 : On d Q) {k F K H G : Fin p} (hk : k ≠ 0) (hF : F = k * (P.1 * Q.2 + P.2 * Q.1)) (hK : K = k * (P.2 * Q.2 + P.1 * Q.1))
    (hH : H = k * (1 + d * (P.1 * Q.1 * P.2 * Q.2))) (hG : G = k * (1 - d * (P.1 * Q.1 * P.2 * Q.2))) : Ext (F * G) (K * H) (G * H) (F * K) (pAdd d iv P Q) := by
  obtain ⟨x1, y1⟩ := P
  obtain ⟨x2, y2⟩ := Q
  have hn := C.ne o1 o2
  have hu := C.inv _ hn.1
  have hv := C.inv _ hn.2
  simp only at hF hK hH hG
  have hz : G * H ≠ 0 := by
    rw [hG, hH]
    exact C.nz_mul (C.nz_mul hk hn.2) (C.nz_mul hk hn.1)
  clear hn o1 o2
  simp only [pAdd]
  generalize iv (1 + d * (x1 * x2 * y1 * y2)) = u at *
  generalize iv (1 - d * (x1 * x2 * y1 * y2)) = v at *
  refine ⟨?_, ?_, ?_, hz⟩
  · rw [hF, hG, hH]; exact ext1 hu _ _ _
  · rw [hK, hG, hH]; exact jn2 hv _ _ _
  · rw [hF, hK, hG, hH]; exact ext3 hu hv _ _ _
theorem Ext.join (C : Crv d i iv) {a1 b1 c1 t1 a2 b2 c2 t2 : Fin p} {P Q : Fin p × Fin p} (h1 : Ext a1 b1 c1 t1 P) (h2 : Ext a2 b2 c2 t2 Q) (o1 : On d P) (o2 : On d Q) :
    Ext ((a1 * b2 + b1 * a2) * (c1 * c2 - d * (t1 * t2))) ((b1 * b2 + a1 * a2) * (c1 * c2 + d * (t1 * t2))) ((c1 * c2 - d * (t1 * t2)) * (c1 * c2 + d * (t1 * t2))) ((a1 * b2 + b1 * a2) * (b1 * b2 + a1 * a2)) (pAdd d iv P Q) := by
  refine Ext.long C o1 o2 (C.nz_mul h1.hc h2.hc) ?_ ?_ ?_ ?_
  · rw [h1.ha, h1.hb, h2.ha, h2.hb]; exact jnF ..
  · rw [h1.ha, h1.hb, h2.ha, h2.hb]; exact jnK ..
  · rw [h1.ht, h2.ht]; exact jnH ..
  · rw [h1.ht, h2.ht]; exact jnG ..
theorem dbF (x y c : Fin p) : x * c * (y * c) + x * c * (y * c) = c * c * (x * y + y * x) := by grind
theorem dbK (x y c : Fin p) : x * c * (x * c) + y * c * (y * c) = c * c * (y * y + x * x) := by grind
theorem dbH (x y c d : Fin p) (h : y * y - x * x = 1 + d * (x * x) * (y * y)) : y * c * (y * c) - x * c * (x * c) = c * c * (1 + d * (x * x * y * y)) := by
  have e : y * c * (y * c) - x * c * (x * c) = c * c * (y * y - x * x) := by grind
  rw [e, h]
  grind
theorem dbG (x y c d : Fin p) : c * c + c * c - c * c * (1 + d * (x * x * y * y)) = c * c * (1 - d * (x * x * y * y)) := by grind
theorem Ext.twice (C : Crv d i iv) {a b c t : Fin p} {P : Fin p × Fin p} (h : Ext a b c t P) (o : On d P) :
    Ext ((a * b + a * b) * (c * c + c * c - (b * b - a * a))) ((a * a + b * b) * (b * b - a * a)) ((c * c + c * c - (b * b - a * a)) * (b * b - a * a)) ((a * b + a * b) * (a * a + b * b)) (pAdd d iv P P) := by
  have e : b * b - a * a = c * c * (1 + d * (P.1 * P.1 * P.2 * P.2)) := by rw [h.ha, h.hb]; exact dbH _ _ _ _ o
  refine Ext.long C o o (C.nz_mul h.hc h.hc) ?_ ?_ ?_ ?_
  · rw [h.ha, h.hb]; exact dbF ..
  · rw [h.ha, h.hb]; exact dbK ..
  · exact e
  · rw [e]; exact dbG ..
end
/-- What the program makes of two points. -/
def long6 (f k h g : List Int) : E4 := ⟨red (val f * val g), red (val k * val h), red (val g * val h), red (val f * val k)⟩
theorem long6_ok (f k h g : List Int) : (long6 f k h g).Ok := ⟨ok_red _, ok_red _, ok_red _, ok_red _⟩
def join6 (P Q : E4) : E4 :=
  let one := red (val P.c * val Q.c)
  let prod := red (val DL * val (red (val P.t * val Q.t)))
  long6 (red (val (red (val P.a * val Q.b)) + val (red (val P.b * val Q.a)))) (red (val (red (val P.b * val Q.b)) + val (red (val P.a * val Q.a)))) (red (val one + val prod)) (red (val one - val prod))
def dbl6 (P : E4) : E4 :=
  let xx := red (val P.a * val P.a)
  let yy := red (val P.b * val P.b)
  let one := red (val P.c * val P.c)
  let xy := red (val P.a * val P.b)
  let plus := red (val yy - val xx)
  long6 (red (val xy + val xy)) (red (val xx + val yy)) plus (red (val (red (val one + val one)) - val plus))
section
variable [NeZero pN]
theorem ext6_join {P Q : E4} {p q : KF × KF} (h1 : Ext6 P p) (h2 : Ext6 Q q) (o1 : On dK p) (o2 : On dK q) : Ext6 (join6 P Q) (pAdd dK ivK p q) := by
  unfold Ext6 join6 long6
  simp only [fl_mul, fl_add, fl_sub, fl_DL]
  exact Ext.join crvK h1 h2 o1 o2
theorem ext6_dbl {P : E4} {p : KF × KF} (h : Ext6 P p) (o : On dK p) : Ext6 (dbl6 P) (pAdd dK ivK p p) := by
  unfold Ext6 dbl6 long6
  simp only [fl_mul, fl_add, fl_sub]
  exact Ext.twice crvK h o
end
/-- How far the program has come with the bits of a number, from the bit 252 on. -/
def jst (P : E4) (N : Nat) : Nat → E4
  | 0 => mk6 (lim 16 0) (lim 16 1)
  | n + 1 => if N / 2 ^ (252 - n) % 2 = 1 then join6 (dbl6 (jst P N n)) P else dbl6 (jst P N n)
theorem jst_ok (P : E4) (N : Nat) : ∀ n, (jst P N n).Ok
  | 0 => mk6_ok zero_ok one_ok
  | n + 1 => by
    rw [jst]
    split
    · exact long6_ok _ _ _ _
    · exact long6_ok _ _ _ _
def jul6 (P : E4) (N : Nat) : E4 := jst P N 253
section
variable [NeZero pN]
theorem ext6_jst {P : E4} {p : KF × KF} (h : Ext6 P p) (o : On dK p) (N : Nat) (hN : N < 2 ^ 253) : ∀ n, n ≤ 253 → Ext6 (jst P N n) (pMul dK ivK (N / 2 ^ (253 - n)) p)
  | 0, _ => by
    have e : N / 2 ^ (253 - 0) = 0 := Nat.div_eq_of_lt hN
    rw [e]
    exact ext6_zero
  | n + 1, hn => by
    have ih := ext6_jst h o N hN n (by omega)
    have hb := crvK.mul_bit o N (252 - n)
    have e1 : 253 - (n + 1) = 252 - n := by omega
    have e2 : 253 - n = 252 - n + 1 := by omega
    rw [e2] at ih
    rw [e1, hb, jst]
    have om := crvK.on_mul o (N / 2 ^ (252 - n + 1))
    split
    · exact ext6_join (ext6_dbl ih om) h (crvK.on_add om om) o
    · exact ext6_dbl ih om
theorem ext6_jul {P : E4} {p : KF × KF} (h : Ext6 P p) (o : On dK p) (N : Nat) (hN : N < 2 ^ 253) : Ext6 (jul6 P N) (pMul dK ivK N p) := by
  have := ext6_jst h o N hN 253 (by omega)
  rw [Nat.sub_self, Nat.pow_zero, Nat.div_one] at this
  exact this
end
end Go.Proofs.YtihoaakbkffejaaGreatDoor
namespace Go.Proofs.YtihoaakbkffejaaGreatDoor
open Go.RowKit
set_option maxRecDepth 100000

set_option maxHeartbeats 1000000 in
theorem implBelow (a b : List Int) (w : World) (ha : a.length = 16) (hb : b.length = 16) (la : Lm a) (lb : Lm b) :
    Calls Tryz.prog 97 #[.agg (I64 a).toArray, .agg (I64 b).toArray] w fun e w' => e = .returned (.bool (decide (val a < val b))) ∧ Below w.heap.size w w' := by
  obtain ⟨A, hA⟩ : ∃ A, A = (I64 a).toArray := ⟨_, rfl⟩
  obtain ⟨B, hB⟩ : ∃ B, B = (I64 b).toArray := ⟨_, rfl⟩
  rw [← hA, ← hB]
  obtain ⟨W, hW⟩ : ∃ W, W = (w.alloc (.cells A 65)).alloc (.cells B 65) := ⟨_, rfl⟩
  have h0 : Arr W w.heap.size 65 (I64 a) := by rw [hW, hA]; exact (Arr.new w (I64 a) _).alloc _
  have h1 : Arr W (w.heap.size + 1) 65 (I64 b) := by
    rw [hW, hB]
    have := Arr.new (w.alloc (.cells A 65)) (I64 b) 65
    rw [World.size_alloc] at this
    exact this
  have hBl : Below w.heap.size w W := by rw [hW]; exact ((Below.refl _ _).alloc (Nat.le_refl _) _).alloc (by simp) _
  obtain ⟨r, hr⟩ : ∃ r, r = decide (val a < val b) := ⟨_, rfl⟩
  rw [← hr]
  have HR : Hid _ := hr
  have HA : Hid _ := hA
  have HB' : Hid _ := hB
  clear hr hA hB
  go_enter Tryz.func97, Tryz.ntmps97
  go_wp2
  rw [← hW]
  clear hW
  go_loopw [5] (fun i wr => ∃ (k : Nat) (j : Int), k ≤ 16 ∧ j = 15 - (k : Int) ∧ i = .int .i64 j ∧ a.drop (16 - k) = b.drop (16 - k) ∧ Arr wr w.heap.size 65 (I64 a) ∧ Arr wr (w.heap.size + 1) 65 (I64 b) ∧ Below w.heap.size w wr) (fun i _ => (intOf i + 1).toNat)
  case atStart => exact ⟨0, 15, by omega, by omega, rfl, by rw [List.drop_eq_nil_of_le (by omega), List.drop_eq_nil_of_le (by omega)], h0, h1, hBl⟩
  case round =>
    clear h0 h1 hBl
    obtain ⟨k, j, hk, hj, rfl, hd, h0, h1, hBl⟩ := hrel
    by_cases hlt : k < 16
    · obtain ⟨i, rfl⟩ : ∃ i : Nat, j = (i : Int) := ⟨15 - k, by omega⟩
      have hi : 16 - k = i + 1 := by omega
      rw [hi] at hd
      obtain ⟨x, hx⟩ : ∃ x, x = a.getD i 0 := ⟨_, rfl⟩
      obtain ⟨y, hy⟩ : ∃ y, y = b.getD i 0 := ⟨_, rfl⟩
      have cx : wr.cell? ⟨w.heap.size, i, none⟩ = some (.int .i64 x) := by rw [hx]; exact h0.i64 i (by omega)
      have cy : wr.cell? ⟨w.heap.size + 1, i, none⟩ = some (.int .i64 y) := by rw [hy]; exact h1.i64 i (by omega)
      have hi16 : (i : Int) < 16 := by omega
      have hi0 : (0 : Int) ≤ (i : Int) := by omega
      have s5 : wrap64 ((i : Int) - 1) = (i : Int) - 1 := by unfold wrap64; omega
      have HJ : Hid _ := hj
      by_cases hne : x = y
      · have hd' : a.drop i = b.drop i := by
          rw [List.drop_eq_getElem_cons (by omega), List.drop_eq_getElem_cons (l := b) (by omega), hd]
          have e1 : a[i] = x := by rw [hx]; simp [show i < a.length by omega]
          have e2 : b[i] = y := by rw [hy]; simp [show i < b.length by omega]
          rw [e1, e2, hne]
        have HD : Hid (a.drop (16 - (k + 1)) = b.drop (16 - (k + 1))) := by unfold Hid; rw [show 16 - (k + 1) = i by omega]; exact hd'
        subst hne
        clear hd hd' hx hy hj hi
        go_wp2
        go_quiet (fail)
        go_wp2
        go_roundw
        case rel => exact ⟨k + 1, (i : Int) - 1, by omega, by have := HJ.out; omega, by go_num, HD.out, h0.drewN _, h1.drewN _, bel_dN hBl _⟩
        case measure => simp [intOf]
      · have hv := lt_at ha hb la lb (i := i) (by omega) hd (by rw [← hx, ← hy]; exact hne)
        rw [← hx, ← hy] at hv
        have hrr : decide (x < y) = r := by rw [HR.out]; simp only [hv]
        have HRR : Hid _ := hrr
        have hne' : (x != y) = true := by simp [hne]
        clear hd hx hy hj hi hv hrr
        go_wp2
        go_quiet (fail)
        go_wp2
        go_quiet (fail)
        go_wp2
        go_ret
        refine ⟨?_, bel_dN (bel_dN hBl _) _⟩
        rw [← HRR.out]
        rfl
    · obtain rfl : k = 16 := by omega
      have hj0 : ¬ (0 : Int) ≤ j := by omega
      have hab : a = b := by simpa using hd
      have hrf : r = false := by rw [HR.out, hab]; simp
      clear hd hj
      go_wp2
      go_ret
      exact ⟨rfl, hBl⟩

end Go.Proofs.YtihoaakbkffejaaGreatDoor
