/-
  What is proved here: the contract of the specification's l4pow: a power of a number of the field; what an answer of the field is; no condition; plain arithmetic: Fermat's little theorem, Pocklington's test, and that 2^255 - 19 is prime.
-/
import Derived.Test.YtoblilngppjmhaaDoorW9Fp
import Derived.Test.YtoblilngppjmhaaDoorW9Arr
import Derived.Test.YtoblilngppjmhaaDoorW9Fm
namespace Go.Proofs.YtoblilngppjmhaaDoor
open Go.RowKit
set_option maxRecDepth 100000

theorem red_mulr (x y : Int) : red (val (red x) * val (red y)) = red (x * y) := by
  rw [val_red, val_red, red, red, ← Int.mul_emod]
theorem red_mull (x y : Int) : red (val (red x) * y) = red (x * y) := by
  rw [val_red, red, red, Int.mul_emod, Int.emod_emod, ← Int.mul_emod]
theorem lim_one : lim 16 1 = red 1 := by decide
theorem bit_low (x r : Nat) (h : r < 16) : x % 65536 / 2 ^ r % 2 = x / 2 ^ r % 2 := by
  have : r = 0 ∨ r = 1 ∨ r = 2 ∨ r = 3 ∨ r = 4 ∨ r = 5 ∨ r = 6 ∨ r = 7 ∨ r = 8 ∨ r = 9 ∨ r = 10 ∨ r = 11 ∨ r = 12 ∨ r = 13 ∨ r = 14 ∨ r = 15 := by omega
  rcases this with rfl | rfl | rfl | rfl | rfl | rfl | rfl | rfl | rfl | rfl | rfl | rfl | rfl | rfl | rfl | rfl <;> omega
theorem bit_at {n : List Int} (hl : n.length = 16) (hm : Lm n) (j : Nat) (hj : j < 256) : n.getD (j / 16) 0 / 2 ^ (j % 16) % 2 = (((val n).toNat / 2 ^ j % 2 : Nat) : Int) := by
  have h0 := val_nonneg (fun x hx => (hm x hx).1)
  have h1 := lim_val n hm
  rw [hl] at h1
  obtain ⟨N, hN⟩ := Int.eq_ofNat_of_zero_le h0
  have h2 := lim_get 16 (val n) (j / 16) (by omega)
  rw [h1, hN] at h2
  rw [h2, hN, Int.toNat_natCast]
  have h3 : N / 65536 ^ (j / 16) % 65536 / 2 ^ (j % 16) % 2 = N / 2 ^ j % 2 := by
    rw [bit_low _ _ (by omega), show 65536 = 2 ^ 16 from rfl, ← Nat.pow_mul, Nat.div_div_eq_div_mul, ← Nat.pow_add, Nat.div_add_mod]
  rw [← h3]
  simp only [Int.natCast_ediv, Int.natCast_emod, Int.natCast_pow]
  rfl
theorem pow_bit (x : Int) (N j : Nat) : x ^ (N / 2 ^ j) = x ^ (N / 2 ^ (j + 1)) * x ^ (N / 2 ^ (j + 1)) * x ^ (N / 2 ^ j % 2) := by
  rw [← Int.pow_add, ← Int.pow_add]
  congr 1
  rw [Nat.pow_succ, ← Nat.div_div_eq_div_mul]
  omega

theorem i64_low1 {x : Int} (h0 : 0 ≤ x) (h1 : x < 9223372036854775808) : bits .and .i64 x 1 = x % 2 :=
  bits_mask .i64 63 (by decide) (fun n a b => by rw [IntKind.wrap_i64]; omega) 1 (by decide) x h0 h1
/-- The arrays of l4pow: the base, the exponent, the result's cell, the power so far. -/
structure EP (w W : World) (E : Nat) (a n r : List Int) : Prop where
  fr : Below w.heap.size w W
  pa : Arr W w.heap.size 82 (I64 a)
  pn : Arr W (w.heap.size + 1) 82 (I64 n)
  pz : Arr W (w.heap.size + 2) 82 (I64 Z16)
  pr : Arr W E 82 (I64 r)
  lt : w.heap.size + 2 < E
theorem EP.go {w A B : World} {E : Nat} {a n r : List Int} (h : EP w A E a n r) (hb : Below A.heap.size A B) : EP w B E a n r := ⟨h.fr.trans (hb.mono h.fr.size), h.pa.kept hb, h.pn.kept hb, h.pz.kept hb, h.pr.kept hb, h.lt⟩
theorem EP.put {w W : World} {E : Nat} {a n r : List Int} (h : EP w W E a n r) (s : List Int) : EP w (W.setRow E (I64 s).toArray) E a n s :=
  ⟨setRow_below h.fr E _ (by have := h.lt; omega), h.pa.rowOther E _ (by have := h.lt; omega), h.pn.rowOther E _ (by have := h.lt; omega), h.pz.rowOther E _ (by have := h.lt; omega), h.pr.row _, h.lt⟩

set_option maxHeartbeats 2000000 in
theorem specPow (a n : List Int) (w : World) (ha : a.length = 16) (hn : n.length = 16) (la : Lm a) (ln : Lm n) :
    Calls Tryd.prog 144 #[.agg (I64 a).toArray, .agg (I64 n).toArray] w fun e w' => e = .returned (.agg (I64 (red (val a ^ (val n).toNat))).toArray) ∧ Below w.heap.size w w' := by
  have hbit := bit_at hn ln
  have hN : (val n).toNat < 2 ^ 256 := by
    have h1 := val_lt ln
    have h0 := val_nonneg (fun x hx => (ln x hx).1)
    rw [hn, p256] at h1
    omega
  obtain ⟨N, hNN⟩ : ∃ N, N = (val n).toNat := ⟨_, rfl⟩
  rw [← hNN] at hbit hN ⊢
  obtain ⟨F, hF⟩ : ∃ F : Nat → List Int, ∀ m, F m = red (val a ^ (N / 2 ^ m)) := ⟨fun m => red (val a ^ (N / 2 ^ m)), fun _ => rfl⟩
  have HL : Hid (∀ m, (F m).length = 16 ∧ Lm (F m)) := by unfold Hid; intro m; rw [hF]; exact ⟨red_len _, red_lm _⟩
  have H256 : Hid (F 256 = red 1) := by unfold Hid; rw [hF, Nat.div_eq_of_lt hN, Int.pow_zero]
  have H1 : Hid (∀ j, j < 256 → n.getD (j / 16) 0 / 2 ^ (j % 16) % 2 = 1 → red (val (red (val (F (j + 1)) * val (F (j + 1)))) * val a) = F j) := by
    unfold Hid
    intro j hj hb
    have h2 := hbit j hj
    rw [hb] at h2
    rw [hF, hF, red_mulr, red_mull, pow_bit (val a) N j, show N / 2 ^ j % 2 = 1 by omega, Int.pow_one]
  have H0 : Hid (∀ j, j < 256 → n.getD (j / 16) 0 / 2 ^ (j % 16) % 2 ≠ 1 → red (val (F (j + 1)) * val (F (j + 1))) = F j) := by
    unfold Hid
    intro j hj hb
    have h2 := hbit j hj
    rw [hF, hF, red_mulr, pow_bit (val a) N j, show N / 2 ^ j % 2 = 0 by omega, Int.pow_zero, Int.mul_one]
  have hres : red (val a ^ N) = F 0 := by rw [hF, Nat.pow_zero, Nat.div_one]
  rw [hres]
  clear hres hF hbit hN hNN
  obtain ⟨A, hA⟩ : ∃ A, A = (I64 a).toArray := ⟨_, rfl⟩
  obtain ⟨B, hB⟩ : ∃ B, B = (I64 n).toArray := ⟨_, rfl⟩
  rw [← hA, ← hB]
  obtain ⟨W, hW⟩ : ∃ W, W = ((w.alloc (.cells A 82)).alloc (.cells B 82)).alloc (.cells #[.int .i64 0, .int .i64 0, .int .i64 0, .int .i64 0, .int .i64 0, .int .i64 0, .int .i64 0, .int .i64 0, .int .i64 0, .int .i64 0, .int .i64 0, .int .i64 0, .int .i64 0, .int .i64 0, .int .i64 0, .int .i64 0] 82) := ⟨_, rfl⟩
  have g0 : Arr W w.heap.size 82 (I64 a) := by rw [hW, hA]; exact ((Arr.new w (I64 a) _).alloc _).alloc _
  have g1 : Arr W (w.heap.size + 1) 82 (I64 n) := by
    rw [hW, hB]
    have := (Arr.new (w.alloc (.cells A 82)) (I64 n) 82).alloc (.cells (I64 Z16).toArray 82)
    rw [World.size_alloc] at this
    exact this
  have g2 : Arr W (w.heap.size + 2) 82 (I64 Z16) := by
    rw [hW]
    have := Arr.new ((w.alloc (.cells A 82)).alloc (.cells B 82)) (I64 Z16) 82
    rw [World.size_alloc, World.size_alloc] at this
    exact this
  have gB : Below w.heap.size w W := by rw [hW]; exact (((Below.refl _ _).alloc (Nat.le_refl _) _).alloc (by simp) _).alloc (by simp; omega) _
  clear hA hB
  go_enter Tryd.func144, Tryd.ntmps144
  go_wp2_with fail
  rw [← hW]
  clear hW
  refine (specSmall 1 _ (by omega) (by omega)).mono ?_
  rintro e w1 ⟨rfl, hb1⟩
  rw [lim_one]
  obtain ⟨R0, hR0⟩ : ∃ R, R = red 1 := ⟨_, rfl⟩
  have hRl : R0.length = 16 := by rw [hR0]; exact red_len _
  rw [← hR0]
  have HR0 : Hid _ := hR0
  clear hR0
  have hsz := (g2.kept hb1).lt
  have EE : EP w (w1.alloc (.cells (I64 Z16).toArray 82)) w1.heap.size a n Z16 := ⟨(gB.trans (hb1.mono gB.size)).alloc (gB.trans (hb1.mono gB.size)).size _, (g0.kept hb1).alloc _, (g1.kept hb1).alloc _, (g2.kept hb1).alloc _, Arr.new _ _ _, hsz⟩
  clear g0 g1 g2 gB hb1 hsz
  have hpr : Arr (w1.alloc (.cells #[.int .i64 0, .int .i64 0, .int .i64 0, .int .i64 0, .int .i64 0, .int .i64 0, .int .i64 0, .int .i64 0, .int .i64 0, .int .i64 0, .int .i64 0, .int .i64 0, .int .i64 0, .int .i64 0, .int .i64 0, .int .i64 0] 82)) w1.heap.size 82 (I64 Z16) := EE.pr
  have EE' := EE.put R0
  clear EE
  obtain ⟨E, hE⟩ : ∃ E, E = w1.heap.size := ⟨_, rfl⟩
  obtain ⟨W2, hW2⟩ : ∃ W2, W2 = w1.alloc (.cells (I64 Z16).toArray 82) := ⟨_, rfl⟩
  rw [← hE, ← hW2] at EE'
  go_wp2_with (refine wpList_store_row rfl 82 _ _ rfl w1.heap.size (I64 R0).toArray rfl rfl 82 _ hpr (by simpa [hRl] using infoE) (by simp [hRl]) (by simp [Value.oneCell']) ?_)
  rw [← hE, show w1.alloc (.cells #[.int .i64 0, .int .i64 0, .int .i64 0, .int .i64 0, .int .i64 0, .int .i64 0, .int .i64 0, .int .i64 0, .int .i64 0, .int .i64 0, .int .i64 0, .int .i64 0, .int .i64 0, .int .i64 0, .int .i64 0, .int .i64 0] 82) = W2 from hW2.symm]
  clear hpr hE hW2
  go_loopw [6] (fun i wr => ∃ (m : Nat) (z : Int), m ≤ 256 ∧ z = (m : Int) - 1 ∧ i = .int .i64 z ∧ EP w wr E a n (F m)) (fun i _ => (intOf i + 1).toNat)
  case atStart => exact ⟨256, 255, by omega, rfl, rfl, by rw [H256.out, ← HR0.out]; exact EE'⟩
  case round =>
    clear EE'
    obtain ⟨m, z, hm, hz, rfl, EE⟩ := hrel
    obtain ⟨R, hR⟩ : ∃ R, R = F m := ⟨_, rfl⟩
    rw [← hR] at EE
    have hRL : R.length = 16 := by rw [hR]; exact (HL.out m).1
    have hRM : Lm R := by rw [hR]; exact (HL.out m).2
    have HR : Hid _ := hR
    clear hR
    by_cases hm0 : m = 0
    · have hz0 : z < 0 := by omega
      have hz1 : ¬ (0 ≤ z) := by omega
      have HRR : Hid (R = F 0) := by unfold Hid; rw [HR.out, hm0]
      have hpr := EE.pr
      have hpz := EE.pz
      have hp2 := hpz.row (I64 R)
      have hb2 := setRow_below EE.fr (w.heap.size + 2) (I64 R).toArray (by omega)
      clear HR hz hm0 EE
      go_wp2_with (first
        | (refine wpList_load_row rfl 82 _ rfl E rfl 82 (I64 R).toArray (0, 0) _ hpr Tryd.underlying82 rfl (by simpa [hRL] using infoE) ?_)
        | (refine wpList_store_row rfl 82 _ _ rfl (w.heap.size + 2) (I64 R).toArray rfl rfl 82 _ hpz (by simpa [hRL] using infoE) (by simp [hRL]) (by simp [Value.oneCell']) ?_))
      exact bodyPost_ret (results_cell_row rfl _ _ (w.heap.size + 2) 82 (I64 R).toArray (0, 0) _ rfl hp2 Tryd.underlying82 rfl (by simpa [hRL] using infoE)) rfl ⟨by rw [HRR.out], hb2⟩
    · obtain ⟨j, rfl⟩ : ∃ j, m = j + 1 := ⟨m - 1, by omega⟩
      obtain rfl : z = (j : Int) := by omega
      clear hz hm0
      have hpr := EE.pr
      go_wp2_with (refine wpList_load_row rfl 82 _ rfl E rfl 82 (I64 R).toArray (0, 0) _ hpr Tryd.underlying82 rfl (by simpa [hRL] using infoE) ?_)
      refine (specMul16 R R _ hRL hRL hRM hRM).mono ?_
      rintro e w2 ⟨rfl, hb2⟩
      replace EE := EE.go hb2
      clear hpr hb2
      obtain ⟨S, hS⟩ : ∃ S, S = red (val R * val R) := ⟨_, rfl⟩
      have hSL : S.length = 16 := by rw [hS]; exact red_len _
      have hSM : Lm S := by rw [hS]; exact red_lm _
      rw [← hS]
      have HS : Hid _ := hS
      clear hS
      have hpr := EE.pr
      replace EE := EE.put S
      obtain ⟨x, hx⟩ : ∃ x, x = n.getD (j / 16) 0 := ⟨_, rfl⟩
      have hcx := EE.pn.i64 (j / 16) (by omega)
      rw [← hx] at hcx
      have hj16 : ((j : Int) / 16).toNat = j / 16 := by omega
      have hxb := gD_lm ln (j / 16)
      rw [← hx] at hxb
      have HX : Hid _ := hx
      clear hx
      have hj0 : (0 : Int) ≤ (j : Int) := by omega
      have hj1 : (j : Int) / 16 < 16 := by omega
      have hj2 : (0 : Int) ≤ (j : Int) / 16 := by omega
      have hy0 : 0 ≤ x / 2 ^ (j % 16) := Int.ediv_nonneg hxb.1 (Int.le_of_lt (Int.pow_pos (by omega)))
      have hy1 : x / 2 ^ (j % 16) ≤ x := Int.ediv_le_self _ hxb.1
      have hand : bits .and .i64 (x / 2 ^ (j % 16)) 1 = x / 2 ^ (j % 16) % 2 := i64_low1 hy0 (by omega)
      have hpS := EE.pr
      have hpA := EE.pa
      have hlt := EE.lt
      by_cases hbt : x / 2 ^ (j % 16) % 2 = 1
      · have HF : Hid (red (val S * val a) = F j) := by
          unfold Hid
          rw [HS.out, HR.out]
          exact H1.out j (by omega) (by rw [← HX.out]; exact hbt)
        go_wp2_with (first
          | (refine wpList_store_row rfl 82 _ _ rfl E (I64 S).toArray rfl rfl 82 _ hpr (by simpa [hSL] using infoE) (by simp [hSL, hRL]) (by simp [Value.oneCell']) ?_)
          | (refine wpList_load_row rfl 82 _ rfl E rfl 82 (I64 S).toArray (0, 0) _ hpS Tryd.underlying82 rfl (by simpa [hSL] using infoE) ?_)
          | (refine wpList_load_row rfl 82 _ rfl w.heap.size rfl 82 (I64 a).toArray (0, 0) _ hpA Tryd.underlying82 rfl (by simpa [ha] using infoE) ?_))
        refine (specMul16 S a _ hSL ha hSM la).mono ?_
        rintro e w3 ⟨rfl, hb3⟩
        replace EE := EE.go hb3
        rw [HF.out]
        obtain ⟨T, hT⟩ : ∃ T, T = F j := ⟨_, rfl⟩
        have hTL : T.length = 16 := by rw [hT]; exact (HL.out j).1
        rw [← hT]
        have HT : Hid _ := hT
        clear hT hpr hpS hpA hb3 hcx hbt hand
        have hpr := EE.pr
        replace EE := EE.put T
        rw [HT.out] at EE
        have HE : Hid _ := EE
        rw [← HT.out] at HE
        clear EE
        go_wp2_with (refine wpList_store_row rfl 82 _ _ rfl E (I64 T).toArray rfl rfl 82 _ hpr (by simpa [hTL] using infoE) (by simp [hTL, hSL]) (by simp [Value.oneCell']) ?_)
        clear hpr
        go_roundw
        case rel => exact ⟨j, (j : Int) - 1, by omega, rfl, by go_num, HT.out ▸ HE.out⟩
        case measure => simp [intOf]
      · have HF : Hid (S = F j) := by
          unfold Hid
          rw [HS.out, HR.out]
          exact H0.out j (by omega) (by rw [← HX.out]; exact hbt)
        go_wp2_with (refine wpList_store_row rfl 82 _ _ rfl E (I64 S).toArray rfl rfl 82 _ hpr (by simpa [hSL] using infoE) (by simp [hSL, hRL]) (by simp [Value.oneCell']) ?_)
        clear hpr hpS hpA
        go_roundw
        case rel => exact ⟨j, (j : Int) - 1, by omega, rfl, by go_num, HF.out ▸ EE⟩
        case measure => simp [intOf]
end Go.Proofs.YtoblilngppjmhaaDoor
namespace Go.Proofs.YtoblilngppjmhaaDoor
open Go.RowKit
set_option maxRecDepth 100000

theorem infoFe : (Tryd.prog.info? 25).map (·.size) = some 1 := by kernel_rfl
end Go.Proofs.YtoblilngppjmhaaDoor
namespace Go.Proofs.YtoblilngppjmhaaDoor

def Pri (p : Nat) : Prop := 1 < p ∧ ∀ m, m ∣ p → m = 1 ∨ m = p

theorem Pri.cop {p a : Nat} (hp : Pri p) (h : ¬ p ∣ a) : Nat.gcd p a = 1 := by
  rcases hp.2 _ (Nat.gcd_dvd_left p a) with h1 | h1
  · exact h1
  · exact absurd (h1 ▸ Nat.gcd_dvd_right p a) h
theorem Pri.dvd_mul {p a b : Nat} (hp : Pri p) (h : p ∣ a * b) : p ∣ a ∨ p ∣ b := by
  by_cases ha : p ∣ a
  · exact .inl ha
  · exact .inr (Nat.Coprime.dvd_of_dvd_mul_left (hp.cop ha) h)

/-- The number of ways to take k of n. -/
def ch : Nat → Nat → Nat
  | _, 0 => 1
  | 0, _ + 1 => 0
  | n + 1, k + 1 => ch n k + ch n (k + 1)
theorem ch_zero (n : Nat) : ch n 0 = 1 := by cases n <;> rfl
theorem ch_big : ∀ (n k : Nat), n < k → ch n k = 0
  | 0, k + 1, _ => rfl
  | n + 1, k + 1, h => by rw [ch, ch_big n k (by omega), ch_big n (k + 1) (by omega)]
theorem ch_self : ∀ n : Nat, ch n n = 1
  | 0 => rfl
  | n + 1 => by rw [ch, ch_self n, ch_big n (n + 1) (by omega)]
theorem ch_mul : ∀ (n k : Nat), (k + 1) * ch (n + 1) (k + 1) = (n + 1) * ch n k
  | 0, 0 => rfl
  | 0, k + 1 => by
    rw [ch_big 1 (k + 2) (by omega), ch_big 0 (k + 1) (by omega)]; simp
  | n + 1, 0 => by
    have h1 := ch_mul n 0
    have h2 : ch (n + 1 + 1) (0 + 1) = ch (n + 1) 0 + ch (n + 1) (0 + 1) := rfl
    rw [h2, ch_zero]
    rw [ch_zero] at h1
    omega
  | n + 1, k + 1 => by
    have h1 := ch_mul n k
    have h2 := ch_mul n (k + 1)
    rw [ch]
    have h3 : ch (n + 1) (k + 1) = ch n k + ch n (k + 1) := rfl
    generalize ch (n + 1) (k + 1) = x at *
    generalize ch (n + 1) (k + 1 + 1) = y at *
    rw [Nat.mul_add, Nat.succ_mul (k + 1) x, h1, h2, Nat.succ_mul (n + 1) x, h3, Nat.mul_add]
    omega
/-- The first j parts of (x + 1) to the n. -/
def bsum (n x : Nat) : Nat → Nat
  | 0 => 0
  | j + 1 => bsum n x j + ch n j * x ^ j
theorem bsum_up (n x : Nat) : ∀ j, bsum (n + 1) x (j + 1) = bsum n x (j + 1) + x * bsum n x j
  | 0 => by simp [bsum, ch_zero]
  | j + 1 => by
    have h := bsum_up n x j
    rw [bsum, h]
    have h1 : bsum n x (j + 1 + 1) = bsum n x (j + 1) + ch n (j + 1) * x ^ (j + 1) := rfl
    have h2 : bsum n x (j + 1) = bsum n x j + ch n j * x ^ j := rfl
    have h3 : ch (n + 1) (j + 1) = ch n j + ch n (j + 1) := rfl
    rw [h1, h3, Nat.add_mul, show x * bsum n x (j + 1) = x * bsum n x j + ch n j * x ^ (j + 1) by rw [h2, Nat.mul_add, Nat.pow_succ]; congr 1; rw [Nat.mul_left_comm, Nat.mul_comm x (x ^ j)]]
    omega
theorem binom (x : Nat) : ∀ n, (x + 1) ^ n = bsum n x (n + 1)
  | 0 => by simp [bsum, ch]
  | n + 1 => by
    have h := bsum_up n x (n + 1)
    have h1 : bsum n x (n + 1 + 1) = bsum n x (n + 1) + ch n (n + 1) * x ^ (n + 1) := rfl
    rw [ch_big n (n + 1) (by omega), Nat.zero_mul, Nat.add_zero] at h1
    rw [h, h1, Nat.pow_succ, binom x n, Nat.mul_add, Nat.mul_one, Nat.mul_comm]
    omega
theorem Pri.ch {p : Nat} (hp : Pri p) (k : Nat) (h0 : 0 < k) (h1 : k < p) : p ∣ ch p k := by
  obtain ⟨q, rfl⟩ : ∃ q, p = q + 1 := ⟨p - 1, by omega⟩
  obtain ⟨j, rfl⟩ : ∃ j, k = j + 1 := ⟨k - 1, by omega⟩
  have := ch_mul q j
  rcases hp.dvd_mul (a := j + 1) (b := Go.Proofs.YtoblilngppjmhaaDoor.ch (q + 1) (j + 1)) ⟨_, this⟩ with h | h
  · exact absurd (Nat.le_of_dvd (by omega) h) (by omega)
  · exact h
theorem Pri.bsum {p : Nat} (hp : Pri p) (x : Nat) : ∀ j, 0 < j → j ≤ p → bsum p x j % p = 1
  | 0, h, _ => by omega
  | 1, _, _ => by
    have := hp.1
    simp [Go.Proofs.YtoblilngppjmhaaDoor.bsum, ch_zero, Nat.mod_eq_of_lt this]
  | j + 2, _, h => by
    have h1 := hp.bsum x (j + 1) (by omega) (by omega)
    obtain ⟨c, hc⟩ := hp.ch (j + 1) (by omega) (by omega)
    rw [Go.Proofs.YtoblilngppjmhaaDoor.bsum, hc, Nat.mul_assoc, Nat.add_mul_mod_self_left, h1]
theorem Pri.frob {p : Nat} (hp : Pri p) (x : Nat) : (x + 1) ^ p % p = (x ^ p + 1) % p := by
  rw [binom, Go.Proofs.YtoblilngppjmhaaDoor.bsum, ch_self, Nat.one_mul, Nat.add_comm, Nat.add_mod, hp.bsum x p (by have := hp.1; omega) (Nat.le_refl _), Nat.mod_add_mod]
theorem Pri.fermat {p : Nat} (hp : Pri p) : ∀ x : Nat, x ^ p % p = x % p
  | 0 => by rw [Nat.zero_pow (by have := hp.1; omega)]
  | x + 1 => by rw [hp.frob, Nat.add_mod, hp.fermat x, ← Nat.add_mod]
/-- Fermat's little theorem. -/
theorem Pri.one {p : Nat} (hp : Pri p) {x : Nat} (hx : ¬ p ∣ x) : x ^ (p - 1) % p = 1 := by
  have h1 := hp.1
  have hx0 : 0 < x := by
    rcases Nat.eq_zero_or_pos x with rfl | h
    · exact absurd (Nat.dvd_zero p) hx
    · exact h
  have hpos : 0 < x ^ (p - 1) := Nat.pow_pos hx0
  have h2 : p ∣ x ^ p - x := (Nat.sub_mod_eq_zero_of_mod_eq (hp.fermat x)) |> Nat.dvd_of_mod_eq_zero
  have h3 : x ^ p - x = x * (x ^ (p - 1) - 1) := by
    rw [Nat.mul_sub, Nat.mul_one, ← Nat.pow_succ', show (p - 1).succ = p by omega]
  rw [h3] at h2
  rcases hp.dvd_mul h2 with h | h
  · exact absurd h hx
  · obtain ⟨c, hc⟩ := h
    rw [show x ^ (p - 1) = 1 + p * c by omega, Nat.add_mul_mod_self_left, Nat.mod_eq_of_lt h1]

theorem pow_mod_one {d b x : Nat} (hd : 1 < d) (h : b ^ x % d = 1) (c : Nat) : b ^ (x * c) % d = 1 := by
  rw [Nat.pow_mul, Nat.pow_mod, h, Nat.one_pow, Nat.mod_eq_of_lt hd]
theorem pow_gcd {d b : Nat} (hd : 1 < d) (x y : Nat) : b ^ x % d = 1 → b ^ y % d = 1 → b ^ (Nat.gcd x y) % d = 1 := by
  induction x, y using Nat.gcd.induction with
  | H0 y => intro _ h; rw [Nat.gcd_zero_left]; exact h
  | H1 x y _ ih =>
    intro hx hy
    rw [Nat.gcd_rec]
    refine ih ?_ hx
    have h1 := pow_mod_one hd hx (y / x)
    rw [← Nat.div_add_mod y x, Nat.pow_add, Nat.mul_mod, h1, Nat.one_mul, Nat.mod_mod] at hy
    exact hy
theorem pri_dvd : ∀ n : Nat, 1 < n → ∃ d, Pri d ∧ d ∣ n := by
  intro n
  induction n using Nat.strongRecOn with
  | ind n ih =>
    intro h
    by_cases hp : Pri n
    · exact ⟨n, hp, Nat.dvd_refl _⟩
    · have : ∃ m, m ∣ n ∧ m ≠ 1 ∧ m ≠ n := by
        refine Classical.byContradiction fun hc => hp ⟨h, fun m hm => ?_⟩
        refine Classical.byContradiction fun h2 => hc ⟨m, hm, fun e => h2 (.inl e), fun e => h2 (.inr e)⟩
      obtain ⟨m, hm, h1, h2⟩ := this
      have hl := Nat.le_of_dvd (by omega) hm
      have h0 : m ≠ 0 := by rintro rfl; have := Nat.eq_zero_of_zero_dvd hm; omega
      obtain ⟨d, hd, hdm⟩ := ih m (by omega) (by omega)
      exact ⟨d, hd, Nat.dvd_trans hdm hm⟩
/-- Who has no prime divisor up to its root is prime. -/
theorem pri_of {n : Nat} (h1 : 1 < n) (h : ∀ d, Pri d → d ∣ n → n < d * d) : Pri n := by
  refine ⟨h1, fun m hm => ?_⟩
  obtain ⟨c, hc⟩ := hm
  refine Classical.byContradiction fun hne => ?_
  have hm1 : m ≠ 1 := fun e => hne (.inl e)
  have hmn : m ≠ n := fun e => hne (.inr e)
  have hm0 : m ≠ 0 := by rintro rfl; simp at hc; omega
  have hc0 : c ≠ 0 := by rintro rfl; simp at hc; omega
  have hc1 : c ≠ 1 := by rintro rfl; simp at hc; omega
  have key : ∀ u v : Nat, 1 < u → n = u * v → u ≤ v → False := by
    intro u v hu hn huv
    obtain ⟨d, hd, hdu⟩ := pri_dvd u hu
    have hdl := Nat.le_of_dvd (by omega) hdu
    have h2 := h d hd (hn ▸ Nat.dvd_trans hdu (Nat.dvd_mul_right u v))
    have h3 : d * d ≤ u * v := Nat.mul_le_mul hdl (by omega)
    omega
  rcases Nat.le_total m c with h2 | h2
  · exact key m c (by omega) hc h2
  · exact key c m (by omega) (by rw [Nat.mul_comm]; exact hc) h2

/-- A witness: q divides d - 1 for every prime d that divides n. -/
theorem wit {n d q m a : Nat} (hn0 : 0 < n) (hd : Pri d) (hdn : d ∣ n) (hq : Pri q) (hn : n - 1 = m * q) (h1 : a ^ (n - 1) % n = 1) (h2 : Nat.gcd (a ^ m % n + (n - 1)) n = 1) : q ∣ d - 1 := by
  refine Classical.byContradiction fun hnd => ?_
  have hd1 := hd.1
  have hb : a ^ (m * q) % d = 1 := by
    rw [← hn, ← Nat.mod_mod_of_dvd _ hdn, h1, Nat.mod_eq_of_lt hd1]
  have hda : ¬ d ∣ a ^ m := by
    intro h
    rw [Nat.pow_mul, Nat.pow_mod, Nat.mod_eq_zero_of_dvd h, Nat.zero_pow (by have := hq.1; omega)] at hb
    simp at hb
  have h3 := pow_gcd hd1 q (d - 1) (by rw [← Nat.pow_mul]; exact hb) (hd.one hda)
  rw [hq.cop hnd, Nat.pow_one] at h3
  have h4 : d ∣ a ^ m % n + (n - 1) := by
    refine Nat.dvd_of_mod_eq_zero ?_
    rw [Nat.add_mod, Nat.mod_mod_of_dvd _ hdn, h3, Nat.add_mod_mod, show 1 + (n - 1) = n by omega]
    exact Nat.mod_eq_zero_of_dvd hdn
  have h5 : d ∣ 1 := h2 ▸ Nat.dvd_gcd h4 hdn
  have := Nat.le_of_dvd (by omega) h5
  omega

/-- a to the e modulo n, for e below 2 to the f. -/
def pw (n a : Nat) : Nat → Nat → Nat
  | 0, _ => 1
  | f + 1, e => (pw n a f (e / 2)) ^ 2 * a ^ (e % 2) % n
theorem pw_eq {n a : Nat} (hn : 1 < n) : ∀ f e : Nat, e < 2 ^ f → pw n a f e = a ^ e % n
  | 0, e, h => by
    have : e = 0 := by simpa using h
    subst this
    simp [pw, Nat.mod_eq_of_lt hn]
  | f + 1, e, h => by
    rw [pw, pw_eq hn f (e / 2) (by rw [Nat.pow_succ] at h; omega)]
    conv => rhs; rw [← Nat.div_add_mod e 2, Nat.pow_add, Nat.mul_comm 2, Nat.pow_mul, Nat.mul_mod, Nat.pow_mod (a ^ (e / 2))]
    rw [Nat.mul_mod]

def noDiv (n : Nat) : Nat → Bool
  | 0 => true
  | k + 1 => (n % (k + 2) != 0) && noDiv n k
theorem noDiv_at {n : Nat} : ∀ k, noDiv n k = true → ∀ m, 2 ≤ m → m ≤ k + 1 → ¬ m ∣ n
  | 0, _, m, h1, h2 => by omega
  | k + 1, h, m, h1, h2 => by
    simp only [noDiv, Bool.and_eq_true, bne_iff_ne] at h
    by_cases e : m = k + 2
    · subst e; intro hd; exact h.1 (Nat.mod_eq_zero_of_dvd hd)
    · exact noDiv_at k h.2 m h1 (by omega)
theorem pri_small {n k : Nat} (h1 : 1 < n) (h : noDiv n k = true) (hk : n < (k + 2) * (k + 2)) : Pri n := by
  refine pri_of h1 fun d hd hdn => ?_
  by_cases hl : d ≤ k + 1
  · exact absurd hdn (noDiv_at k h d hd.1 hl)
  · have := Nat.mul_le_mul (show k + 2 ≤ d by omega) (show k + 2 ≤ d by omega)
    omega

/-- What a witness is checked for. -/
def isWit (n q a f : Nat) : Bool := (n - 1) % q == 0 && pw n a f (n - 1) == 1 && Nat.gcd (pw n a f ((n - 1) / q) + (n - 1)) n == 1
theorem isWit_dvd {n q a f d : Nat} (hn : 1 < n) (hf : n < 2 ^ f) (hq : Pri q) (h : isWit n q a f = true) (hd : Pri d) (hdn : d ∣ n) : q ∣ d - 1 := by
  simp only [isWit, Bool.and_eq_true, beq_iff_eq] at h
  obtain ⟨⟨h1, h2⟩, h3⟩ := h
  have hle : (n - 1) / q ≤ n - 1 := Nat.div_le_self _ _
  rw [pw_eq hn f _ (by omega)] at h2 h3
  exact wit (by omega) hd hdn hq (Nat.div_mul_cancel (Nat.dvd_of_mod_eq_zero h1)).symm h2 h3
theorem pock1 {n q a f : Nat} (hn : 1 < n) (hf : n < 2 ^ f) (hq : Pri q) (h : isWit n q a f = true) (hF : n < q * q) : Pri n := by
  refine pri_of hn fun d hd hdn => ?_
  have h1 := isWit_dvd hn hf hq h hd hdn
  have := hd.1
  have h2 := Nat.le_of_dvd (by omega) h1
  have := Nat.mul_le_mul (show q ≤ d by omega) (show q ≤ d by omega)
  omega
theorem pock2 {n q r a b f : Nat} (hn : 1 < n) (hf : n < 2 ^ f) (hq : Pri q) (hr : Pri r) (hqr : Nat.gcd q r = 1) (h : isWit n q a f = true) (h' : isWit n r b f = true) (hF : n < (q * r) * (q * r)) : Pri n := by
  refine pri_of hn fun d hd hdn => ?_
  have h1 := Nat.Coprime.mul_dvd_of_dvd_of_dvd hqr (isWit_dvd hn hf hq h hd hdn) (isWit_dvd hn hf hr h' hd hdn)
  have := hd.1
  have h2 := Nat.le_of_dvd (by omega) h1
  have := Nat.mul_le_mul (show q * r ≤ d by omega) (show q * r ≤ d by omega)
  omega

set_option maxRecDepth 100000
theorem pri_127 : Pri 127 := pri_small (k := 11) (by decide) (by decide +kernel) (by decide)
theorem pri_75707 : Pri 75707 := pri_small (k := 275) (by decide) (by decide +kernel) (by decide)
theorem pri_1923133 : Pri 1923133 := pri_small (k := 1386) (by decide) (by decide +kernel) (by decide)
theorem pri_8574133 : Pri 8574133 := pri_small (k := 2928) (by decide) (by decide +kernel) (by decide)
theorem pri_c : Pri 1919519569386763 := pock2 (q := 8574133) (r := 127) (a := 2) (b := 2) (f := 51) (by decide) (by decide) pri_8574133 pri_127 (by decide) (by decide +kernel) (by decide +kernel) (by decide)
theorem pri_b : Pri 75445702479781427272750846543864801 := pock2 (q := 1919519569386763) (r := 75707) (a := 2) (b := 2) (f := 116) (by decide) (by decide) pri_c pri_75707 (by decide) (by decide +kernel) (by decide +kernel) (by decide)
theorem pri_a : Pri 74058212732561358302231226437062788676166966415465897661863160754340907 := pock2 (q := 75445702479781427272750846543864801) (r := 1923133) (a := 2) (b := 2) (f := 236) (by decide) (by decide) pri_b pri_1923133 (by decide) (by decide +kernel) (by decide +kernel) (by decide)
theorem pri_p : Pri (2 ^ 255 - 19) := pock1 (q := 74058212732561358302231226437062788676166966415465897661863160754340907) (a := 2) (f := 256) (by decide) (by decide) pri_a (by decide +kernel) (by decide)
end Go.Proofs.YtoblilngppjmhaaDoor
