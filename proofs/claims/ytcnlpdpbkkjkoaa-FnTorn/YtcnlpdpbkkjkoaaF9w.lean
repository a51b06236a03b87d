/-
  What is proved here: what WearMost answers, the specification's and the program's (slices.Max).
-/
import Derived.Test.YtcnlpdpbkkjkoaaF9r
namespace Go.Proofs.Ytcnlpdpbkkjkoaa
set_option maxRecDepth 100000
open Go.RowKit

theorem most_snoc (ws : List Int) (k : Nat) (hk : k < ws.length) : (ws.take (k + 1)).foldl max 0 = max ((ws.take k).foldl max 0) (ws.getD k 0) := by
  rw [take_snoc ws k hk, List.foldl_append]; rfl
theorem most_bound {ws : List Int} (h : ∀ x ∈ ws, 0 ≤ x ∧ x ≤ 200) : ∀ k, 0 ≤ (ws.take k).foldl max 0 ∧ (ws.take k).foldl max 0 ≤ 200 := by
  intro k
  induction k with
  | zero => simp
  | succ k ih =>
    by_cases hk : k < ws.length
    · rw [most_snoc ws k hk]
      have e : ws.getD k 0 = ws[k] := by simp [hk]
      have := h ws[k] (List.getElem_mem hk)
      rw [e]; omega
    · rw [List.take_of_length_le (by omega)] at ih ⊢
      exact ih

set_option maxHeartbeats 1000000 in
theorem wear_s (aB : Option Addr) (nB cB : Nat) (aW : Option Addr) (nW cW : Nat) (bs ws : List Int) (w : World) (hB : Bs w aB nB cB bs) (hW : Is w aW nW cW ws) (hn : nB ≤ 2097152) (hm : nW ≤ 2097152) :
    Calls Try.prog 49 #[flV aB nB cB aW nW cW] w fun e w' => e = .returned (.int .i64 (wmost bs ws)) ∧ Below w.heap.size w w' := by
  have HB : Hid (Below w.heap.size w (w.alloc (.cells #[.slice aB nB cB, .slice aW nW cW] 25))) := (Below.refl _ _).alloc (Nat.le_refl _) _
  have HA : Hid (Arr (w.alloc (.cells #[.slice aB nB cB, .slice aW nW cW] 25)) w.heap.size 25 [.slice aB nB cB, .slice aW nW cW]) := Arr.new _ _ _
  obtain ⟨r, hr⟩ : ∃ r, r = wmost bs ws := ⟨_, rfl⟩
  rw [← hr]
  have HR : Hid _ := hr
  clear hr
  go_enter Try.func49, Try.ntmps49
  go_wp2_with fail
  refine (specFlashOk aB nB cB aW nW cW bs ws _ (hB.below HB.out) (hW.below HB.out) hn hm).mono ?_
  rintro e w1 ⟨rfl, b1⟩
  have B1 := HB.out.trans (b1.mono HB.out.size)
  have A1 := Arr.kept HA.out b1
  have hW1 := hW.below B1
  clear HB HA b1 hB hW
  have hf : flOk bs ws = false ∨ flOk bs ws = true := by cases flOk bs ws <;> simp
  obtain ⟨f, hf'⟩ : ∃ f, f = flOk bs ws := ⟨_, rfl⟩
  rw [← hf'] at hf ⊢
  have HF : Hid _ := hf'
  clear hf'
  rcases hf with rfl | rfl
  · have : r = 0 := by rw [HR.out]; unfold wmost; rw [← HF.out]; rfl
    subst this
    go_wp2
    go_ret
    exact ⟨rfl, B1⟩
  obtain ⟨l1, l2, l3⟩ := flOk_iff.1 HF.out.symm
  have hr : r = ws.foldl max 0 := by rw [HR.out]; unfold wmost; rw [← HF.out]; rfl
  clear HR
  have HR : Hid _ := hr
  clear hr
  have HM : Hid _ := most_bound (of_decide_eq_true l3)
  obtain ⟨_, hl, _, _, h⟩ := hW1
  rcases h with h | ⟨b, o, rfl, hb, hc⟩
  · omega
  have HC : Hid _ := hc
  have c1 := A1.cell 1
  simp at c1
  clear hc l1 l2 l3
  go_wp2
  go_loop [3, 4] (fun m i => ∃ k : Nat, k ≤ nW ∧ i = .int .i64 k ∧ m = .int .i64 ((ws.take k).foldl max 0)) (fun _ i => nW - (intOf i).toNat)
  case atStart => exact ⟨0, Nat.zero_le _, rfl, rfl⟩
  case round =>
    obtain ⟨k, hk, rfl, rfl⟩ := hrel
    obtain ⟨M, hM⟩ : ∃ M, M = (ws.take k).foldl max 0 := ⟨_, rfl⟩
    rw [← hM]
    have HMM : Hid _ := hM
    clear hM
    by_cases hlt : k < nW
    · obtain ⟨x, hx⟩ : ∃ x, x = ws.getD k 0 := ⟨_, rfl⟩
      have hck : w1.cell? ⟨b, o + k, none⟩ = some (.int .i64 x) := by rw [hx]; exact HC.out k hlt
      have HX : Hid _ := hx
      clear hx
      by_cases g1 : M < x
      · go_wp2
        go_round
        case rel => exact ⟨k + 1, by omega, by go_num, by rw [most_snoc ws k (by omega), ← HMM.out, ← HX.out, Int.max_eq_right (by omega)]⟩
        case measure => simp [intOf]; omega
      · go_wp2
        go_round
        case rel => exact ⟨k + 1, by omega, by go_num, by rw [most_snoc ws k (by omega), ← HMM.out, ← HX.out, Int.max_eq_left (by omega)]⟩
        case measure => simp [intOf]; omega
    · have hkn : k = nW := by omega
      subst hkn
      go_wp2
      go_ret
      refine ⟨?_, B1⟩
      have e := HMM.out
      rw [List.take_of_length_le (by omega)] at e
      rw [HR.out, ← e]; rfl

set_option maxHeartbeats 1000000 in
theorem maxInts (a : Option Addr) (n c : Nat) (ws : List Int) (w : World) (h : Is w a n c ws) (h0 : 0 < n) (hn : n ≤ 2097152) (hr : ∀ x ∈ ws, 0 ≤ x ∧ x ≤ 200) :
    Calls Try.prog 73 #[.slice a n c] w fun e w' => e = .returned (.int .i64 (ws.foldl max 0)) ∧ w' = w := by
  obtain ⟨_, hl, hcc, _, h⟩ := h
  rcases h with h | ⟨b, o, rfl, hb, hc⟩
  · omega
  obtain ⟨r, hr'⟩ : ∃ r, r = ws.foldl max 0 := ⟨_, rfl⟩
  rw [← hr']
  have HR : Hid _ := hr'
  have HC : Hid _ := hc
  clear hr'
  have hc0 := hc 0 h0
  obtain ⟨x0, hx0⟩ : ∃ x, x = ws.getD 0 0 := ⟨_, rfl⟩
  rw [← hx0] at hc0
  have e0 : (ws.take 1).foldl max 0 = x0 := by
    rw [most_snoc ws 0 (by omega), ← hx0]
    have e : ws.getD 0 0 = ws[0] := by simp [show 0 < ws.length by omega]
    have := hr ws[0] (List.getElem_mem (by omega))
    rw [hx0, e]; simp; omega
  have HE0 : Hid _ := e0
  clear hx0 e0 hc hr
  simp at hc0
  have h0' : ¬ ((n : Int) < 1) := by omega
  go_enter Try.func73, Try.ntmps73
  go_wp2
  go_loop [3, 4] (fun m i => ∃ k : Nat, 1 ≤ k ∧ k ≤ n ∧ i = .int .i64 k ∧ m = .int .i64 ((ws.take k).foldl max 0)) (fun _ i => n - (intOf i).toNat)
  case atStart => exact ⟨1, Nat.le_refl _, h0, rfl, by rw [HE0.out]⟩
  case round =>
    obtain ⟨k, hk1, hk, rfl, rfl⟩ := hrel
    obtain ⟨M, hM⟩ : ∃ M, M = (ws.take k).foldl max 0 := ⟨_, rfl⟩
    rw [← hM]
    have HMM : Hid _ := hM
    clear hM hc0 HE0
    by_cases hlt : k < n
    · obtain ⟨x, hx⟩ : ∃ x, x = ws.getD k 0 := ⟨_, rfl⟩
      have hck : w.cell? ⟨b, o + k, none⟩ = some (.int .i64 x) := by rw [hx]; exact HC.out k hlt
      have HX : Hid _ := hx
      clear hx
      by_cases g1 : M < x
      · go_wp2
        go_round
        case rel => exact ⟨k + 1, by omega, by omega, by go_num, by rw [most_snoc ws k (by omega), ← HMM.out, ← HX.out, Int.max_eq_right (by omega)]⟩
        case measure => simp [intOf]; omega
      · go_wp2
        go_round
        case rel => exact ⟨k + 1, by omega, by omega, by go_num, by rw [most_snoc ws k (by omega), ← HMM.out, ← HX.out, Int.max_eq_left (by omega)]⟩
        case measure => simp [intOf]; omega
    · have hkn : k = n := by omega
      subst hkn
      go_wp2
      go_ret
      refine ⟨?_, rfl⟩
      have e := HMM.out
      rw [List.take_of_length_le (by omega)] at e
      rw [HR.out, ← e]; rfl

set_option maxHeartbeats 1000000 in
theorem wear_i (aB : Option Addr) (nB cB : Nat) (aW : Option Addr) (nW cW : Nat) (bs ws : List Int) (w : World) (hB : Bs w aB nB cB bs) (hW : Is w aW nW cW ws) (hn : nB ≤ 2097152) (hm : nW ≤ 2097152) :
    Calls Try.prog 30 #[flV aB nB cB aW nW cW] w fun e w' => e = .returned (.int .i64 (wmost bs ws)) ∧ Below w.heap.size w w' := by
  have HB : Hid (Below w.heap.size w (w.alloc (.cells #[.slice aB nB cB, .slice aW nW cW] 25))) := (Below.refl _ _).alloc (Nat.le_refl _) _
  have HA : Hid (Arr (w.alloc (.cells #[.slice aB nB cB, .slice aW nW cW] 25)) w.heap.size 25 [.slice aB nB cB, .slice aW nW cW]) := Arr.new _ _ _
  obtain ⟨r, hr⟩ : ∃ r, r = wmost bs ws := ⟨_, rfl⟩
  rw [← hr]
  have HR : Hid _ := hr
  clear hr
  go_enter Try.func30, Try.ntmps30
  go_wp2_with fail
  refine (implFlashOk aB nB cB aW nW cW bs ws _ (hB.below HB.out) (hW.below HB.out) hn hm).mono ?_
  rintro e w1 ⟨rfl, b1⟩
  have B1 := HB.out.trans (b1.mono HB.out.size)
  have A1 := Arr.kept HA.out b1
  have hW1 := hW.below B1
  clear HB HA b1 hB hW
  have hf : flOk bs ws = false ∨ flOk bs ws = true := by cases flOk bs ws <;> simp
  obtain ⟨f, hf'⟩ : ∃ f, f = flOk bs ws := ⟨_, rfl⟩
  rw [← hf'] at hf ⊢
  have HF : Hid _ := hf'
  clear hf'
  rcases hf with rfl | rfl
  · have : r = 0 := by rw [HR.out]; unfold wmost; rw [← HF.out]; rfl
    subst this
    go_wp2
    go_ret
    exact ⟨rfl, B1⟩
  obtain ⟨l1, l2, l3⟩ := flOk_iff.1 HF.out.symm
  have hr : r = ws.foldl max 0 := by rw [HR.out]; unfold wmost; rw [← HF.out]; rfl
  clear HR
  have c1 := A1.cell 1
  simp at c1
  have hl := hW1.2.1
  have h48 : 0 < nW := by omega
  have HR : Hid _ := hr
  have ho : ∀ x ∈ ws, 0 ≤ x ∧ x ≤ 200 := of_decide_eq_true l3
  have HO : Hid _ := ho
  clear l1 l2 l3 hr ho
  go_wp2_with fail
  refine (maxInts aW nW cW ws _ hW1 h48 hm HO.out).mono ?_
  rintro e w2 ⟨rfl, hw⟩
  rw [hw, ← HR.out]
  clear hw
  go_wp2
  go_ret
  exact ⟨rfl, B1⟩
end Go.Proofs.Ytcnlpdpbkkjkoaa
