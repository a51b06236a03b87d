/-
  What is proved here: the contract of the program's appendHighFirst: the bytes of a number of 64 bits, the greatest first, behind a row that the call owns; the row holds at most 100000 bytes.
-/
import Derived.Test.YtgapfkiceolceaaDoorApp
namespace Go.Proofs.YtgapfkiceolceaaDoor
open Go.RowKit
set_option maxRecDepth 100000

/-- The first k of c bytes of a number, the greatest first. -/
def hbk (x : Int) (c k : Nat) : List Int := (List.range k).map (fun j => x / 2 ^ (8 * (c - 1 - j)) % 256)
theorem hbk_succ (x : Int) (c k : Nat) : hbk x c (k + 1) = hbk x c k ++ [x / 2 ^ (8 * (c - 1 - k)) % 256] := by simp [hbk, List.range_succ]
theorem hbk_len (x : Int) (c k : Nat) : (hbk x c k).length = k := by simp [hbk]
theorem hbk_byte (x : Int) (c k : Nat) : ∀ y ∈ hbk x c k, 0 ≤ y ∧ y < 256 := by
  intro y hy
  simp only [hbk, List.mem_map] at hy
  obtain ⟨j, _, rfl⟩ := hy
  omega

theorem shr_min {x : Int} (h0 : 0 ≤ x) (h1 : x < 18446744073709551616) (n : Nat) : x / 2 ^ min n 64 = x / 2 ^ n := by
  by_cases h : n ≤ 64
  · rw [show min n 64 = n by omega]
  · have e1 : x / 2 ^ min n 64 = 0 := by
      rw [show min n 64 = 64 by omega]
      exact Int.ediv_eq_zero_of_lt h0 (by simpa using h1)
    have e2 : x / 2 ^ n = 0 := by
      refine Int.ediv_eq_zero_of_lt h0 ?_
      obtain ⟨d, rfl⟩ : ∃ d, n = 64 + d := ⟨n - 64, by omega⟩
      rw [Int.pow_add]
      have : (1 : Int) ≤ 2 ^ d := Int.pow_pos (by omega)
      have h64 : (2 : Int) ^ 64 = 18446744073709551616 := by decide
      rw [h64]
      omega
    rw [e1, e2]

set_option maxHeartbeats 1000000 in
theorem highFirst (base m : Nat) (v : Value) (xs : List Int) (x : Int) (c : Nat) (w : World) (hown : w.ownsRow base 5 1 v m (U8 xs)) (hbase : base ≤ w.heap.size) (hm : m ≤ 100000) (hc : c ≤ 16) (hx0 : 0 ≤ x) (hx1 : x < 18446744073709551616) :
    Calls Tryd.prog 90 #[v, .int .u64 x, .int .i64 (c : Int)] w fun e w' => ∃ v', e = .returned v' ∧ w'.ownsRow base 5 1 v' (m + c) (U8 (xs ++ hbk x c c)) ∧ Below base w w' := by
  have hc1 : IntKind.i64.wrap ((c : Int) - 1) = (c : Int) - 1 := by rw [IntKind.wrap_i64]; omega
  go_enter Tryd.func90, Tryd.ntmps90
  go_wp2
  go_loopw [0, 7] (fun v i wr => ∃ (k : Nat) (j : Int), k ≤ c ∧ j = (c : Int) - 1 - k ∧ i = .int .i64 j ∧ wr.ownsRow base 5 1 v (m + k) (U8 (xs ++ hbk x c k)) ∧ Below base w wr) (fun _ i _ => (intOf i + 1).toNat)
  case atStart => exact ⟨0, (c : Int) - 1, by omega, by omega, rfl, by simpa [hbk] using hown, Below.refl _ _⟩
  case round =>
    clear hown
    obtain ⟨k, j, hk, hj, rfl, hown, hb⟩ := hrel
    by_cases hlt : k < c
    · obtain ⟨i, rfl⟩ : ∃ i : Nat, j = (i : Int) := ⟨c - 1 - k, by omega⟩
      have hi : c - 1 - k = i := by omega
      have hi15 : i ≤ 15 := by omega
      have hn := hbk_succ x c k
      rw [hi] at hn
      have HN : Hid _ := hn
      have HJ : Hid _ := hj
      have s1 : IntKind.i64.wrap (8 * (i : Int)) = 8 * (i : Int) := by rw [IntKind.wrap_i64]; omega
      have s2 : (8 * (i : Int)).toNat = 8 * i := by omega
      have s3 : ¬ 8 * (i : Int) < 0 := by omega
      have s4 : (0 : Int) ≤ (i : Int) := by omega
      have hsz := hb.size
      clear hn hj hi
      obtain ⟨y, hy⟩ : ∃ y, y = x / 2 ^ (8 * i) % 256 := ⟨_, rfl⟩
      have hyb : 0 ≤ y ∧ y < 256 := by omega
      have hyw : x / 2 ^ min (8 * i) 64 % 256 = y := by rw [hy, shr_min hx0 hx1]
      have s5 : wrap64 ((i : Int) - 1) = (i : Int) - 1 := by unfold wrap64; omega
      have HY : Hid _ := hy
      clear hy
      go_wp2_with (at_builtin; refine wpl_append_bs rfl _ _ rfl base _ (m + k) (xs ++ hbk x c k) rfl (some ⟨wr.heap.size, 0, none⟩) 1 1 [y] rfl (hown.alloc _) ?_ ?_ ?_ ?_)
      · exact Bs.one _ _ hyb.1 hyb.2
      · omega
      · first | omega | (simp; omega)
      intro v' w' h1 h2 _
      have hb2 := below_app hb (by omega) hown h2
      have HR : Hid (w'.ownsRow base 5 1 v' (m + (k + 1)) (U8 (xs ++ hbk x c (k + 1)))) := by
        unfold Hid
        rw [HN.out, ← HY.out]; simpa [Nat.add_assoc] using h1
      clear h1 h2 hown hb
      go_wp2
      go_roundw
      case rel => exact ⟨k + 1, (i : Int) - 1, by omega, by have := HJ.out; omega, by go_num, HR.out, hb2⟩
      case measure => simp [intOf]
    · obtain rfl : k = c := by omega
      have hj0 : ¬ ((0 : Int) ≤ j) := by omega
      clear hj
      go_wp2
      go_ret
      exact ⟨_, rfl, by simpa using hown, hb⟩
end Go.Proofs.YtgapfkiceolceaaDoor
