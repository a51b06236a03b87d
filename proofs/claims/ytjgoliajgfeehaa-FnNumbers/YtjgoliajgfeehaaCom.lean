/-
  What is proved here: contracts of the specification's and of the program's Common: both hand back the one number of bytes that the two texts begin with alike, for every two slices of at most 2^21 bytes.
-/
import Derived.Test.YtjgoliajgfeehaaSmall
namespace Go.Proofs.Ytjgoliajgfeehaa
open Go.RowKit

structure IsCom (xs ys : List Int) (c : Nat) : Prop where
  l1 : c ≤ xs.length
  l2 : c ≤ ys.length
  same : ∀ j, j < c → xs.getD j 0 = ys.getD j 0
  stop : c = xs.length ∨ c = ys.length ∨ xs.getD c 0 ≠ ys.getD c 0

theorem IsCom.uniq {xs ys : List Int} {c d : Nat} (h : IsCom xs ys c) (k : IsCom xs ys d) : c = d := by
  rcases Nat.lt_trichotomy c d with hlt | heq | hgt
  · have h1 := k.same c hlt
    have h2 := k.l1
    have h3 := k.l2
    rcases h.stop with h4 | h4 | h4
    · omega
    · omega
    · exact absurd h1 h4
  · exact heq
  · have h1 := h.same d hgt
    have h2 := h.l1
    have h3 := h.l2
    rcases k.stop with h4 | h4 | h4
    · omega
    · omega
    · exact absurd h1 h4

theorem same_succ {xs ys : List Int} {k : Nat} (h : ∀ j, j < k → xs.getD j 0 = ys.getD j 0) (e : xs.getD k 0 = ys.getD k 0) : ∀ j, j < k + 1 → xs.getD j 0 = ys.getD j 0 := by
  intro j hj
  by_cases hk : j = k
  · rw [hk]; exact e
  · exact h j (by omega)

set_option maxHeartbeats 400000 in
theorem implCom (a a' : Option Addr) (n n' cap cap' : Nat) (xs ys : List Int) (w : World) (h : Bs w a n cap xs) (h' : Bs w a' n' cap' ys) (hn : n ≤ 2097152) (hn' : n' ≤ 2097152) :
    Calls Try.prog 24 #[.slice a n cap, .slice a' n' cap'] w fun e w' => ∃ c q, e = .returned (.int .i64 ((c : Nat) : Int)) ∧ IsCom xs ys c ∧ w' = w.drewN q := by
  obtain ⟨_, hl, hc, hby, h⟩ := h
  obtain ⟨_, hl', hc', hby', h'⟩ := h'
  by_cases hmn : (n' : Int) < (n : Int)
  · have hmn' : ¬ (n : Int) ≤ (n' : Int) := by omega
    go_enter Try.func24, Try.ntmps24
    go_wp2
    go_loopw [13] (fun i wr => ∃ k q : Nat, k ≤ n' ∧ i = .int .i64 k ∧ Hid (∀ j, j < k → xs.getD j 0 = ys.getD j 0) ∧ wr = w.drewN q) (fun i _ => n' - (intOf i).toNat)
    case atStart => exact ⟨0, 0, Nat.zero_le _, rfl, (fun j hj => absurd hj (Nat.not_lt_zero _)), rfl⟩
    case round =>
      obtain ⟨k, q, hk, rfl, hsm, rfl⟩ := hrel
      by_cases hlt : k < n'
      · rcases h with h | ⟨b, o, rfl, hbs, hcell⟩
        · omega
        · rcases h' with h' | ⟨b', o', rfl, hbs', hcell'⟩
          · omega
          · obtain ⟨x, hx⟩ : ∃ x, x = xs.getD k 0 := ⟨_, rfl⟩
            obtain ⟨y, hy⟩ : ∃ y, y = ys.getD k 0 := ⟨_, rfl⟩
            have hck : w.cell? ⟨b, o + k, none⟩ = some (.int .u8 x) := by rw [hx]; exact hcell k (by omega)
            have hck' : w.cell? ⟨b', o' + k, none⟩ = some (.int .u8 y) := by rw [hy]; exact hcell' k (by omega)
            have hlt1 : (k : Int) < (n : Int) := by omega
            have hlt2 : (k : Int) < (n' : Int) := by omega
            have HX : Hid (x = xs.getD k 0) := hx
            have HY : Hid (y = ys.getD k 0) := hy
            clear hcell hcell' hx hy
            by_cases hxy : x = y
            · subst hxy
              have hne : (x != x) = false := by simp
              go_wp2
              go_quiet (fail)
              go_wp2
              go_roundw
              case rel => exact ⟨k + 1, _, by omega, by go_num, same_succ hsm.out (HX.out.symm.trans HY.out), rfl⟩
              case measure => simp [intOf]; omega
            · have hne : (x != y) = true := by simp [hxy]
              have HXY : Hid (x ≠ y) := hxy
              clear hxy
              go_wp2
              go_quiet (fail)
              go_wp2
              go_ret
              exact ⟨k, _, rfl, ⟨by omega, by omega, hsm.out, .inr (.inr (by rw [← HX.out, ← HY.out]; exact HXY.out))⟩, by rw [World.drewN_drewN]⟩
      · go_wp2
        go_ret
        exact ⟨n', q, rfl, ⟨by omega, by omega, (by have e : k = n' := (by omega); rw [← e]; exact hsm.out), by omega⟩, rfl⟩
  · have hmn' : (n : Int) ≤ (n' : Int) := by omega
    go_enter Try.func24, Try.ntmps24
    go_wp2
    go_loopw [13] (fun i wr => ∃ k q : Nat, k ≤ n ∧ i = .int .i64 k ∧ Hid (∀ j, j < k → xs.getD j 0 = ys.getD j 0) ∧ wr = w.drewN q) (fun i _ => n - (intOf i).toNat)
    case atStart => exact ⟨0, 0, Nat.zero_le _, rfl, (fun j hj => absurd hj (Nat.not_lt_zero _)), rfl⟩
    case round =>
      obtain ⟨k, q, hk, rfl, hsm, rfl⟩ := hrel
      by_cases hlt : k < n
      · rcases h with h | ⟨b, o, rfl, hbs, hcell⟩
        · omega
        · rcases h' with h' | ⟨b', o', rfl, hbs', hcell'⟩
          · omega
          · obtain ⟨x, hx⟩ : ∃ x, x = xs.getD k 0 := ⟨_, rfl⟩
            obtain ⟨y, hy⟩ : ∃ y, y = ys.getD k 0 := ⟨_, rfl⟩
            have hck : w.cell? ⟨b, o + k, none⟩ = some (.int .u8 x) := by rw [hx]; exact hcell k (by omega)
            have hck' : w.cell? ⟨b', o' + k, none⟩ = some (.int .u8 y) := by rw [hy]; exact hcell' k (by omega)
            have hlt1 : (k : Int) < (n : Int) := by omega
            have hlt2 : (k : Int) < (n' : Int) := by omega
            have HX : Hid (x = xs.getD k 0) := hx
            have HY : Hid (y = ys.getD k 0) := hy
            clear hcell hcell' hx hy
            by_cases hxy : x = y
            · subst hxy
              have hne : (x != x) = false := by simp
              go_wp2
              go_quiet (fail)
              go_wp2
              go_roundw
              case rel => exact ⟨k + 1, _, by omega, by go_num, same_succ hsm.out (HX.out.symm.trans HY.out), rfl⟩
              case measure => simp [intOf]; omega
            · have hne : (x != y) = true := by simp [hxy]
              have HXY : Hid (x ≠ y) := hxy
              clear hxy
              go_wp2
              go_quiet (fail)
              go_wp2
              go_ret
              exact ⟨k, _, rfl, ⟨by omega, by omega, hsm.out, .inr (.inr (by rw [← HX.out, ← HY.out]; exact HXY.out))⟩, by rw [World.drewN_drewN]⟩
      · go_wp2
        go_ret
        exact ⟨n, q, rfl, ⟨by omega, by omega, (by have e : k = n := (by omega); rw [← e]; exact hsm.out), by omega⟩, rfl⟩

set_option maxHeartbeats 400000 in
theorem specCom (a a' : Option Addr) (n n' cap cap' : Nat) (xs ys : List Int) (w : World) (h : Bs w a n cap xs) (h' : Bs w a' n' cap' ys) (hn : n ≤ 2097152) (_hn' : n' ≤ 2097152) :
    Calls Try.prog 43 #[.slice a n cap, .slice a' n' cap'] w fun e w' => ∃ c q, e = .returned (.int .i64 ((c : Nat) : Int)) ∧ IsCom xs ys c ∧ w' = w.drewN q := by
  obtain ⟨_, hl, hc, hby, h⟩ := h
  obtain ⟨_, hl', hc', hby', h'⟩ := h'
  go_enter Try.func43, Try.ntmps43
  go_wp2
  go_loopw [5] (fun i wr => ∃ k q : Nat, k ≤ n ∧ k ≤ n' ∧ i = .int .i64 k ∧ Hid (∀ j, j < k → xs.getD j 0 = ys.getD j 0) ∧ wr = w.drewN q) (fun i _ => n - (intOf i).toNat)
  case atStart => exact ⟨0, 0, Nat.zero_le _, Nat.zero_le _, rfl, (fun j hj => absurd hj (Nat.not_lt_zero _)), rfl⟩
  case round =>
    obtain ⟨k, q, hk, hk', rfl, hsm, rfl⟩ := hrel
    by_cases hlt1 : (k : Int) < (n : Int)
    · by_cases hlt2 : (k : Int) < (n' : Int)
      · rcases h with h | ⟨b, o, rfl, hbs, hcell⟩
        · omega
        · rcases h' with h' | ⟨b', o', rfl, hbs', hcell'⟩
          · omega
          · obtain ⟨x, hx⟩ : ∃ x, x = xs.getD k 0 := ⟨_, rfl⟩
            obtain ⟨y, hy⟩ : ∃ y, y = ys.getD k 0 := ⟨_, rfl⟩
            have hck : w.cell? ⟨b, o + k, none⟩ = some (.int .u8 x) := by rw [hx]; exact hcell k (by omega)
            have hck' : w.cell? ⟨b', o' + k, none⟩ = some (.int .u8 y) := by rw [hy]; exact hcell' k (by omega)
            have HX : Hid (x = xs.getD k 0) := hx
            have HY : Hid (y = ys.getD k 0) := hy
            clear hcell hcell' hx hy
            by_cases hxy : x = y
            · subst hxy
              have hne : (x == x) = true := by simp
              go_wp2
              go_quiet (fail)
              go_wp2
              go_roundw
              case rel => exact ⟨k + 1, _, by omega, by omega, by go_num, same_succ hsm.out (HX.out.symm.trans HY.out), rfl⟩
              case measure => simp [intOf]; omega
            · have hne : (x == y) = false := by simp [hxy]
              have HXY : Hid (x ≠ y) := hxy
              clear hxy
              go_wp2
              go_quiet (fail)
              go_wp2
              go_ret
              exact ⟨k, _, rfl, ⟨by omega, by omega, hsm.out, .inr (.inr (by rw [← HX.out, ← HY.out]; exact HXY.out))⟩, by rw [World.drewN_drewN]⟩
      · have hd : decide (k < n') = false := by simp; omega
        go_wp2
        go_quiet (fail)
        go_wp2
        go_ret
        exact ⟨k, _, rfl, ⟨by omega, by omega, hsm.out, by omega⟩, by rw [World.drewN_drewN]⟩
    · have hd : decide (k < n) = false := by simp; omega
      go_wp2
      go_quiet (fail)
      go_wp2
      go_ret
      exact ⟨k, _, rfl, ⟨by omega, by omega, hsm.out, by omega⟩, by rw [World.drewN_drewN]⟩
end Go.Proofs.Ytjgoliajgfeehaa
