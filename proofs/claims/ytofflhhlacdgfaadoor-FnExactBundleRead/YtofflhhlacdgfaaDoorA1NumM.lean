/-
  What is proved here: plain facts of chapter 1: a number comes back from its bytes, and whatever bytes are read as one are just the bytes of it; no condition beside the bytes being in 0 .. 255.
-/
import Derived.Test.YtofflhhlacdgfaaDoorA1GetM
namespace Go.Proofs.YtofflhhlacdgfaaDoor.Ma

theorem scan_bounds (xs : List Int) (p : Nat) (hx : ∀ x ∈ xs, 0 ≤ x ∧ x < 256) : ∀ (f i : Nat) (n s : Int), 0 ≤ n → 0 ≤ s →
    scan xs p f i n s = (0, -1) ∨ (0 ≤ (scan xs p f i n s).1 ∧ (scan xs p f i n s).1 ≤ 2147483647 ∧ 0 < (scan xs p f i n s).2 ∧ (scan xs p f i n s).2 ≤ xs.length)
  | 0, _, _, _, _, _ => .inl rfl
  | f + 1, i, n, s, hn, hs => by
    have hm : 0 ≤ xs.getD (p + i) 0 % 128 * s := Int.mul_nonneg (by omega) hs
    by_cases h : p + i < xs.length
    · by_cases hx2 : xs.getD (p + i) 0 < 128
      · by_cases hb : (xs.getD (p + i) 0 = 0 ∧ 0 < i) ∨ 2147483647 < n + xs.getD (p + i) 0 % 128 * s
        · exact .inl (scan_bad xs p f i n s _ h rfl hx2 hb)
        · rw [scan_good xs p f i n s _ h rfl hx2 hb]
          refine .inr ⟨by show 0 ≤ n + _; omega, by show n + _ ≤ _; omega, by show (0 : Int) < (p : Int) + i + 1; omega, by show (p : Int) + i + 1 ≤ _; omega⟩
      · rw [scan_more xs p f i n s _ h rfl hx2]
        exact scan_bounds xs p hx f (i + 1) _ _ (by omega) (by omega)
    · exact .inl (scan_out xs p (f + 1) i n s h)

theorem getN_bounds (xs : List Int) (P : Int) (hx : ∀ x ∈ xs, 0 ≤ x ∧ x < 256) : getN xs P = (0, -1) ∨ (0 ≤ (getN xs P).1 ∧ (getN xs P).1 ≤ 2147483647 ∧ 0 < (getN xs P).2 ∧ (getN xs P).2 ≤ xs.length) := by
  by_cases h : P < 0
  · exact .inl (getN_neg xs P h)
  · obtain ⟨p, rfl⟩ := Int.eq_ofNat_of_zero_le (show 0 ≤ P by omega)
    rw [getN_nat]
    exact scan_bounds xs p hx 5 0 0 1 (by omega) (by omega)

theorem worth (m s : Int) : m % 128 * s + m / 128 * (s * 128) = m * s := by
  have h : m = m % 128 + 128 * (m / 128) := by omega
  generalize m % 128 = r at h ⊢
  generalize m / 128 = q at h ⊢
  rw [h, Int.add_mul, Int.mul_comm s 128, ← Int.mul_assoc, Int.mul_comm q 128]

theorem getD_mid (A B : List Int) (x : Int) (k : Nat) (hk : A.length = k) : (A ++ x :: B).getD k 0 = x := by
  subst hk
  simp

theorem scan_put (L : List Int) (p : Nat) (ys : List Int) : ∀ (f : Nat) (m : Int) (A : List Int) (i : Nat) (n s : Int), L = A ++ numB m ++ ys → A.length = p + i → (numB m).length ≤ f → 0 ≤ m → m ≤ 2147483647 → (0 < i → 0 < m) → 0 ≤ n → 1 ≤ s → n + m * s ≤ 2147483647 →
    scan L p f i n s = (n + m * s, (p : Int) + i + (numB m).length)
  | 0, m, A, i, n, s, _, _, hf, h0, h1, _, _, _, _ => by
    have := numB_pos m h0 h1
    omega
  | f + 1, m, A, i, n, s, hL, hA, hf, h0, h1, hi, hn, hs, hb => by
    by_cases hm : m < 128
    · have e := numB_one m h0 hm
      rw [e] at hL ⊢
      have hx : L.getD (p + i) 0 = m := by
        rw [hL, List.append_assoc]; exact getD_mid A ys m (p + i) hA
      have hlt : p + i < L.length := by rw [hL]; simp; omega
      have hm2 : m % 128 = m := by omega
      rw [scan_good L p f i n s m hlt hx.symm hm (by rw [hm2]; omega), hm2]
      simp
    · have e := numB_step m (by omega) h1
      have hL2 : L = (A ++ [m % 128 + 128]) ++ numB (m / 128) ++ ys := by rw [hL, e]; simp
      have hx : L.getD (p + i) 0 = m % 128 + 128 := by
        rw [hL, e, List.append_assoc]; exact getD_mid A _ _ (p + i) hA
      have hlt : p + i < L.length := by rw [hL, e]; simp; omega
      have hlen : (numB m).length = (numB (m / 128)).length + 1 := by rw [e]; simp
      have hxm : (m % 128 + 128) % 128 = m % 128 := by omega
      have hw := worth m s
      have hr0 : 0 ≤ m % 128 * s := Int.mul_nonneg (by omega) (by omega)
      rw [scan_more L p f i n s (m % 128 + 128) hlt hx.symm (by omega), hxm]
      rw [scan_put L p ys f (m / 128) (A ++ [m % 128 + 128]) (i + 1) (n + m % 128 * s) (s * 128) hL2 (by simp; omega) (by omega) (by omega) (by omega) (fun _ => by omega) (by omega) (by omega) (by omega), hlen]
      refine Prod.ext ?_ ?_
      · show n + m % 128 * s + m / 128 * (s * 128) = n + m * s
        omega
      · show (p : Int) + ((i + 1 : Nat) : Int) + _ = (p : Int) + i + _
        omega

theorem getN_put (xs ys : List Int) (n : Int) (h0 : 0 ≤ n) (h1 : n ≤ 2147483647) : getN (xs ++ numB n ++ ys) (xs.length : Int) = (n, ((xs.length + (numB n).length : Nat) : Int)) := by
  rw [getN_nat, scan_put (xs ++ numB n ++ ys) xs.length ys 5 n xs 0 0 1 rfl rfl (numB_len n) h0 h1 (by omega) (by omega) (by omega) (by omega)]
  refine Prod.ext ?_ ?_
  · show 0 + n * 1 = n
    omega
  · show (xs.length : Int) + ((0 : Nat) : Int) + _ = _
    omega

theorem take_one (L : List Int) (k : Nat) (h : k < L.length) : L.take (k + 1) = L.take k ++ [L.getD k 0] := by
  rw [List.take_succ_eq_append_getElem h]; simp [h]

theorem scan_back (L : List Int) (p : Nat) (hb : ∀ x ∈ L, 0 ≤ x ∧ x < 256) : ∀ (f i : Nat) (n s k e : Int), 0 ≤ n → 1 ≤ s → scan L p f i n s = (k, e) → 0 < e → k ≤ 2147483647 →
    ∃ m : Int, 0 ≤ m ∧ (0 < i → 0 < m) ∧ k = n + m * s ∧ L.take e.toNat = L.take (p + i) ++ numB m
  | 0, i, n, s, k, e, _, _, h, he, _ => by
    rw [scan_zero] at h
    have := congrArg Prod.snd h
    simp at this; omega
  | f + 1, i, n, s, k, e, hn, hs, h, he, hk => by
    by_cases hlt : p + i < L.length
    · obtain ⟨x, hx⟩ : ∃ x, x = L.getD (p + i) 0 := ⟨_, rfl⟩
      have hxb : 0 ≤ x ∧ x < 256 := by
        rw [hx]
        have e1 : L.getD (p + i) 0 = L[p + i] := by simp [hlt]
        rw [e1]; exact hb _ (List.getElem_mem hlt)
      have ht := take_one L (p + i) hlt
      rw [← hx] at ht
      by_cases hx2 : x < 128
      · by_cases hbad : (x = 0 ∧ 0 < i) ∨ 2147483647 < n + x % 128 * s
        · rw [scan_bad L p f i n s x hlt hx hx2 hbad] at h
          have := congrArg Prod.snd h
          simp at this; omega
        · rw [scan_good L p f i n s x hlt hx hx2 hbad] at h
          have h1 := congrArg Prod.fst h
          have h2 := congrArg Prod.snd h
          simp only at h1 h2
          have hxm : x % 128 = x := by omega
          rw [hxm] at h1
          refine ⟨x, hxb.1, fun hi => by omega, h1.symm, ?_⟩
          rw [numB_one x hxb.1 hx2, ← h2, show ((p : Int) + i + 1).toNat = p + i + 1 by omega]
          exact ht
      · rw [scan_more L p f i n s x hlt hx hx2] at h
        have hr0 : 0 ≤ x % 128 * s := Int.mul_nonneg (by omega) (by omega)
        obtain ⟨m, m0, m1, m2, m3⟩ := scan_back L p hb f (i + 1) (n + x % 128 * s) (s * 128) k e (by omega) (by omega) h he hk
        have mp := m1 (by omega)
        have hq : (x % 128 + 128 * m) / 128 = m := by omega
        have hr : (x % 128 + 128 * m) % 128 = x % 128 := by omega
        have hw := worth (x % 128 + 128 * m) s
        rw [hq, hr] at hw
        have hms : x % 128 + 128 * m ≤ (x % 128 + 128 * m) * s := by
          have := Int.mul_le_mul_of_nonneg_left hs (show 0 ≤ x % 128 + 128 * m by omega)
          omega
        refine ⟨x % 128 + 128 * m, by omega, fun _ => by omega, by omega, ?_⟩
        rw [numB_step _ (by omega) (by omega), hq, hr, show x % 128 + 128 = x by omega, m3]
        rw [show p + (i + 1) = p + i + 1 by omega, ht]
        simp
    · rw [scan_out L p (f + 1) i n s hlt] at h
      have := congrArg Prod.snd h
      simp at this; omega

theorem getN_back (L : List Int) (P k e : Int) (hb : ∀ x ∈ L, 0 ≤ x ∧ x < 256) (h : getN L P = (k, e)) (he : 0 < e) : 0 ≤ P ∧ P ≤ L.length ∧ 0 ≤ k ∧ k ≤ 2147483647 ∧ e ≤ L.length ∧ L.take P.toNat ++ numB k = L.take e.toNat := by
  by_cases hP : P < 0
  · rw [getN_neg L P hP] at h
    have := congrArg Prod.snd h
    simp at this; omega
  obtain ⟨p, rfl⟩ := Int.eq_ofNat_of_zero_le (show 0 ≤ P by omega)
  have hbd := getN_bounds L (p : Int) hb
  rw [h] at hbd
  simp only [Prod.mk.injEq] at hbd
  rcases hbd with hbd | ⟨b1, b2, b3, b4⟩
  · omega
  have hle : p < L.length := by
    by_cases hlt : p + 0 < L.length
    · omega
    · rw [getN_nat, scan_out L p 5 0 0 1 hlt] at h
      have := congrArg Prod.snd h
      simp at this; omega
  rw [getN_nat] at h
  obtain ⟨m, m0, _, m2, m3⟩ := scan_back L p hb 5 0 0 1 k e (by omega) (by omega) h he b2
  have hkm : k = m := by omega
  subst hkm
  refine ⟨by omega, by omega, b1, b2, b4, ?_⟩
  rw [m3]; simp
end Go.Proofs.YtofflhhlacdgfaaDoor.Ma
