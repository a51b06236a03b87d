/-
  What is proved here: what the program's partOk, comparePart, needOk answer, and the library's cmp.Or over ints.
-/
import Derived.Test.YtgfjbaigmkdbcaaCa
import Derived.Test.YtgfjbaigmkdbcaaBc
namespace Go.Proofs.Ytgfjbaigmkdbcaa
open Go.RowKit
set_option maxRecDepth 100000
set_option maxHeartbeats 4000000

theorem implPartOk (k v s : Int) (a : Option Addr) (n c : Nat) (w : World) : Calls Try.prog 85 #[.agg #[.int .i64 k, .int .i64 v, .int .i64 s, .slice a n c]] w fun e w' => e = .returned (.bool (decide (partOk k v s n))) ∧ Below w.heap.size w w' := by
  obtain ⟨R, hR, HT, HF⟩ := by_dec (partOk k v s n)
  rw [hR]
  clear hR
  have B : Below w.heap.size w (w.alloc (.cells #[.int .i64 k, .int .i64 v, .int .i64 s, .slice a n c] 112)) := (Below.refl _ _).alloc (Nat.le_refl _) _
  obtain ⟨W, hW⟩ : ∃ W, W = w.alloc (.cells #[.int .i64 k, .int .i64 v, .int .i64 s, .slice a n c] 112) := ⟨_, rfl⟩
  have A : Arr W w.heap.size 112 [.int .i64 k, .int .i64 v, .int .i64 s, .slice a n c] := by rw [hW]; exact Arr.new _ _ _
  rw [← hW] at B
  have c0 := A.cell 0
  have c1 := A.cell 1
  have c2 := A.cell 2
  have c3 := A.cell 3
  simp at c0 c1 c2 c3
  clear A
  go_enter Try.func85, Try.ntmps85
  go_upto_region 1 with fail
  rw [← hW]
  clear hW
  go_wp2_with fail
  refine (implIsKind k _).mono ?_
  rintro e w1 ⟨rfl, hw⟩
  rw [hw]
  clear hw
  by_cases h1 : 0 ≤ k ∧ k < 4
  case neg =>
    rw [decide_eq_false h1]
    go_wp2
    go_ret
    exact ⟨by rw [HF.out (by omega)]; rfl, B⟩
  rw [decide_eq_true h1]
  go_wp2_with fail
  refine (implIsVersion v _).mono ?_
  rintro e w1 ⟨rfl, hw⟩
  rw [hw]
  clear hw
  by_cases h2 : verOk v
  case neg =>
    rw [decide_eq_false h2]
    go_wp2
    go_ret
    exact ⟨by rw [HF.out (by omega)]; rfl, B⟩
  rw [decide_eq_true h2]
  go_wp2_with fail
  refine (implIsIn s 1 192 _).mono ?_
  rintro e w1 ⟨rfl, hw⟩
  rw [hw]
  clear hw
  by_cases h3 : 1 ≤ s ∧ s ≤ 192
  case neg =>
    rw [decide_eq_false h3]
    go_wp2
    go_ret
    exact ⟨by rw [HF.out (by omega)]; rfl, B⟩
  rw [decide_eq_true h3]
  by_cases h4 : (n : Int) = 32
  · have g4 : ((n : Int) == 32) = true := by simpa using h4
    have HRT : Hid (R = true) := HT.out ⟨h1, h2, h3, by omega⟩
    clear h4 h1 h2 h3
    go_wp2
    go_ret
    exact ⟨by rw [HRT.out]; rfl, B⟩
  · have g4 : ((n : Int) == 32) = false := by simpa using h4
    have HRT : Hid (R = false) := HF.out (by omega)
    clear h4 h1 h2 h3
    go_wp2
    go_ret
    exact ⟨by rw [HRT.out]; rfl, B⟩
theorem implComparePart (k v s : Int) (a : Option Addr) (n c : Nat) (k' v' s' : Int) (a' : Option Addr) (n' c' : Nat) (w : World) :
    Calls Try.prog 86 #[.agg #[.int .i64 k, .int .i64 v, .int .i64 s, .slice a n c], .agg #[.int .i64 k', .int .i64 v', .int .i64 s', .slice a' n' c']] w fun e w' => e = .returned (.int .i64 (cmpI k k')) ∧ Below w.heap.size w w' := by
  have B : Below w.heap.size w ((w.alloc (.cells #[.int .i64 k, .int .i64 v, .int .i64 s, .slice a n c] 112)).alloc (.cells #[.int .i64 k', .int .i64 v', .int .i64 s', .slice a' n' c'] 112)) := ((Below.refl _ _).alloc (Nat.le_refl _) _).alloc (by simp) _
  have HB : Hid _ := B
  clear B
  go_enter Try.func86, Try.ntmps86
  go_wp2_with fail
  refine (libCompare k k' _).mono ?_
  rintro e w1 ⟨rfl, hw⟩
  rw [hw]
  clear hw
  obtain ⟨z, hz⟩ : ∃ z, z = cmpI k k' := ⟨_, rfl⟩
  rw [← hz]
  have HZ : Hid _ := hz
  clear hz
  go_wp2
  go_ret
  exact ⟨by rw [← HZ.out]; rfl, HB.out⟩
theorem implNeedOk (o f t k : Int) (w : World) : Calls Try.prog 88 #[.agg #[.int .i64 o, .int .i64 f, .int .i64 t, .int .i64 k]] w fun e w' => e = .returned (.bool (decide (needOk o f t k))) ∧ Below w.heap.size w w' := by
  obtain ⟨R, hR, HT, HF⟩ := by_dec (needOk o f t k)
  rw [hR]
  clear hR
  have B : Below w.heap.size w (w.alloc (.cells #[.int .i64 o, .int .i64 f, .int .i64 t, .int .i64 k] 115)) := (Below.refl _ _).alloc (Nat.le_refl _) _
  obtain ⟨W, hW⟩ : ∃ W, W = w.alloc (.cells #[.int .i64 o, .int .i64 f, .int .i64 t, .int .i64 k] 115) := ⟨_, rfl⟩
  have A : Arr W w.heap.size 115 [.int .i64 o, .int .i64 f, .int .i64 t, .int .i64 k] := by rw [hW]; exact Arr.new _ _ _
  rw [← hW] at B
  have c0 := A.cell 0
  have c1 := A.cell 1
  have c2 := A.cell 2
  have c3 := A.cell 3
  simp at c0 c1 c2 c3
  clear A
  go_enter Try.func88, Try.ntmps88
  go_upto_region 1 with fail
  rw [← hW]
  clear hW
  go_wp2_with fail
  refine (implIsKind o _).mono ?_
  rintro e w1 ⟨rfl, hw⟩
  rw [hw]
  clear hw
  by_cases h1 : 0 ≤ o ∧ o < 4
  case neg =>
    rw [decide_eq_false h1]
    go_wp2
    go_ret
    exact ⟨by rw [HF.out (by omega)]; rfl, B⟩
  rw [decide_eq_true h1]
  go_wp2_with fail
  refine (implIsKind k _).mono ?_
  rintro e w1 ⟨rfl, hw⟩
  rw [hw]
  clear hw
  by_cases h2 : 0 ≤ k ∧ k < 4
  case neg =>
    rw [decide_eq_false h2]
    go_wp2
    go_ret
    exact ⟨by rw [HF.out (by omega)]; rfl, B⟩
  rw [decide_eq_true h2]
  by_cases h3 : o = k
  case pos =>
    have g3 : (o != k) = false := by simpa using h3
    have HRT : Hid (R = false) := HF.out (by omega)
    clear h1 h2 h3
    go_wp2
    go_ret
    exact ⟨by rw [HRT.out]; rfl, B⟩
  have g3 : (o != k) = true := by simpa using h3
  have H3 : Hid _ := h3
  clear h3
  go_wp2_with fail
  refine (implIsVersion f _).mono ?_
  rintro e w1 ⟨rfl, hw⟩
  rw [hw]
  clear hw
  by_cases h4 : verOk f
  case neg =>
    rw [decide_eq_false h4]
    go_wp2
    go_ret
    exact ⟨by rw [HF.out (by omega)]; rfl, B⟩
  rw [decide_eq_true h4]
  go_wp2_with fail
  refine (implIsVersion t _).mono ?_
  rintro e w1 ⟨rfl, hw⟩
  rw [hw]
  clear hw
  by_cases h5 : verOk t
  case neg =>
    rw [decide_eq_false h5]
    go_wp2
    go_ret
    exact ⟨by rw [HF.out (by omega)]; rfl, B⟩
  rw [decide_eq_true h5]
  by_cases h6 : f ≤ t
  · have HRT : Hid (R = true) := HT.out ⟨h2, h1, H3.out, h4, h5, h6⟩
    go_wp2
    go_ret
    exact ⟨by rw [HRT.out]; rfl, B⟩
  · have HRT : Hid (R = false) := HF.out (by omega)
    have g6 : decide (f ≤ t) = false := decide_eq_false h6
    go_wp2
    go_ret
    exact ⟨by rw [HRT.out]; rfl, B⟩
/-- The first that is not zero. -/
def orL (xs : List Int) : Int := (xs.find? (fun x => x != 0)).getD 0
theorem orL_at : ∀ (xs : List Int) (i : Nat), i < xs.length → xs.getD i 0 ≠ 0 → (∀ j, j < i → xs.getD j 0 = 0) → orL xs = xs.getD i 0
  | [], i, h, _, _ => by simp at h
  | x :: t, 0, _, h, _ => by
    have : (x != 0) = true := by simpa using h
    simp [orL, List.find?, this]
  | x :: t, i + 1, h, hx, hj => by
    have h0 : x = 0 := by simpa using hj 0 (by omega)
    have := orL_at t i (by simpa using h) (by simpa using hx) (fun j h => by simpa using hj (j + 1) (by omega))
    subst h0
    simpa [orL, List.find?] using this
theorem orL_no (xs : List Int) (h : ∀ j, j < xs.length → xs.getD j 0 = 0) : orL xs = 0 := by
  have : xs.find? (fun x => x != 0) = none := by
    rw [List.find?_eq_none]
    intro x hx
    obtain ⟨i, hi, rfl⟩ := List.getElem_of_mem hx
    have := h i hi
    simp [hi] at this
    simp [this]
  simp [orL, this]
theorem libOr (a : Option Addr) (n c : Nat) (xs : List Int) (w : World) (h : Is w a n c xs) (hn : n ≤ 1000) : Calls Try.prog 131 #[.slice a n c] w fun e w' => e = .returned (.int .i64 (orL xs)) ∧ w' = w := by
  have hl := h.2.1
  obtain ⟨R, hR⟩ : ∃ R, R = orL xs := ⟨_, rfl⟩
  rw [← hR]
  have HR : Hid _ := hR
  clear hR
  go_enter Try.func131, Try.ntmps131
  go_wp2
  go_loop [8] (fun i => ∃ k : Nat, k ≤ n ∧ i = .int .i64 k ∧ Hid (∀ j, j < k → xs.getD j 0 = 0)) (fun i => n - (intOf i).toNat)
  case atStart => exact ⟨0, by omega, rfl, fun j hj => by omega⟩
  case round =>
    obtain ⟨k, hk, rfl, HN⟩ := hrel
    by_cases hlt : k < n
    · obtain ⟨b, o, rfl, hb, hcell⟩ : ∃ b o, a = some ⟨b, o, none⟩ ∧ b < w.heap.size ∧ ∀ i, i < n → w.cell? ⟨b, o + i, none⟩ = some (.int .i64 (xs.getD i 0)) := by
        rcases h.2.2.2.2 with h | h
        · omega
        · exact h
      have hc := hcell k hlt
      obtain ⟨x, hx⟩ : ∃ x, x = xs.getD k 0 := ⟨_, rfl⟩
      rw [← hx] at hc
      have HX : Hid _ := hx
      clear hx hcell
      by_cases hz : x = 0
      · have g : (x != 0) = false := by simpa using hz
        have HZ : Hid _ := hz
        clear hz
        go_wp2
        go_round
        case rel =>
          refine ⟨k + 1, by omega, by go_num, fun j hj => ?_⟩
          by_cases e : j = k
          · subst e; rw [← HX.out]; exact HZ.out
          · exact HN.out j (by omega)
        case measure => simp [intOf]; omega
      · have g : (x != 0) = true := by simpa using hz
        have HRX : Hid (R = x) := by
          unfold Hid
          rw [HR.out, HX.out]
          exact orL_at xs k (by omega) (by rw [← HX.out]; exact hz) HN.out
        clear hz
        go_wp2
        go_ret
        exact ⟨by rw [HRX.out]; rfl, rfl⟩
    · have hkn : k = n := by omega
      subst hkn
      have HRX : Hid (R = 0) := by
        unfold Hid
        rw [HR.out]
        exact orL_no xs (fun j hj => HN.out j (by omega))
      go_wp2
      go_ret
      exact ⟨by rw [HRX.out]; rfl, rfl⟩
end Go.Proofs.Ytgfjbaigmkdbcaa
