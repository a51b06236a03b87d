/-
  What is proved here: contracts of the specification's and of the program's GetNum: both read a number as the plain function 'getN' does, at every slice of at most 2^21 bytes and every place.
-/
import Derived.Test.YtofflhhlacdgfaaDoorJM5
import Derived.Test.YtofflhhlacdgfaaDoorA1GetM
namespace Go.Proofs.YtofflhhlacdgfaaDoor
open Go.RowKit
set_option maxRecDepth 100000
open Ma

theorem tup_eq {a b : Int} {r : Int × Int} (h : r = (a, b)) : Ending.returned (.tuple #[.int .i64 a, .int .i64 b]) = .returned (.tuple #[.int .i64 r.1, .int .i64 r.2]) := by rw [h]

set_option maxHeartbeats 2000000 in
theorem specGet (a : Option Addr) (n cap : Nat) (xs : List Int) (P : Int) (w : World) (h : Bs w a n cap xs) (hn : n ≤ 2097152) (hP : P ≤ 9223372036854775807) :
    Calls Tryd.prog 120 #[.slice a n cap, .int .i64 P] w fun e w' => e = .returned (.tuple #[.int .i64 (getN xs P).1, .int .i64 (getN xs P).2]) ∧ w' = w := by
  obtain ⟨_, hl, hc, hby, h⟩ := h
  by_cases hneg : P < 0
  · have HG : Hid (getN xs P = (0, -1)) := getN_neg xs P hneg
    go_enter Tryd.func120, Tryd.ntmps120
    go_wp2
    go_ret2
    exact ⟨tup_eq HG.out, rfl⟩
  obtain ⟨p, rfl⟩ := Int.eq_ofNat_of_zero_le (show 0 ≤ P by omega)
  have HG0 : Hid (getN xs (p : Int) = scan xs p 5 0 0 1) := getN_nat xs p
  go_enter Tryd.func120, Tryd.ntmps120
  go_wp2
  go_loop [6, 7, 8] (fun nn sc i => ∃ (k : Nat) (N S : Int), k ≤ 5 ∧ i = .int .i64 k ∧ nn = .int .i64 N ∧ sc = .int .i64 S ∧ 0 ≤ N ∧ N < S ∧ Hid (S = 128 ^ k) ∧ Hid (getN xs (p : Int) = scan xs p (5 - k) k N S)) (fun _ _ i => 5 - (intOf i).toNat)
  case atStart => exact ⟨0, 0, 1, by omega, rfl, rfl, rfl, by omega, by omega, rfl, HG0⟩
  case round =>
    obtain ⟨k, N, S, hk, rfl, rfl, rfl, hN0, hNS, HS, HG⟩ := hrel
    clear HG0
    rcases (show k = 0 ∨ k = 1 ∨ k = 2 ∨ k = 3 ∨ k = 4 ∨ k = 5 by omega) with rfl | rfl | rfl | rfl | rfl | rfl
    · obtain rfl : S = 1 := HS.out
      clear HS
      by_cases hlt : p + 0 < n
      · rcases h with h | ⟨b, o, rfl, hbs, hcell⟩
        · omega
        · obtain ⟨x, hx⟩ : ∃ x, x = xs.getD (p + 0) 0 := ⟨_, rfl⟩
          have hck : w.cell? ⟨b, o + p, none⟩ = some (.int .u8 x) := by rw [hx]; exact hcell (p + 0) hlt
          have hxb : 0 ≤ x ∧ x < 256 := by rw [hx]; exact get_byte hby (by omega)
          obtain ⟨hx0, hx1⟩ := hxb
          have HX : Hid (x = xs.getD (p + 0) 0) := hx
          have hxl : p + 0 < xs.length := by omega
          clear hcell hx hby
          by_cases hx2 : x < 128
          · by_cases hz : x = 0 ∧ 0 < 0
            · omega
            · by_cases hM : 2147483647 < N + x % 128 * 1
              · omega
              · have HF : Hid (getN xs (p : Int) = (N + x % 128 * 1, (p : Int) + (0 : Nat) + 1)) := HG.out.trans (scan_good xs p (4 - 0) 0 N 1 x hxl HX.out hx2 (by rintro (hq | hq); exact hz hq; exact hM hq))
                clear HG HX
                by_cases hz1 : x = 0
                · have hz2 : (x == 0) = true := by simp [hz1]
                  clear hz1
                  go_wp2
                  go_ret2
                  exact ⟨tup_eq (by rw [HF.out]; simp), rfl⟩
                · have hz2 : (x == 0) = false := by simp [hz1]
                  clear hz1
                  go_wp2
                  go_ret2
                  exact ⟨tup_eq (by rw [HF.out]; simp), rfl⟩
          · have HF : Hid (getN xs (p : Int) = scan xs p (5 - 1) 1 (N + x % 128 * 1) 128) := HG.out.trans (by simpa using scan_more xs p (4 - 0) 0 N 1 x hxl HX.out hx2)
            clear HG HX
            go_wp2
            go_round
            case rel => exact ⟨1, N + x % 128 * 1, 128, by omega, by simp, by simp, by simp, by omega, by omega, rfl, HF.out⟩
            case measure => simp [intOf]
      · have HF : Hid (getN xs (p : Int) = (0, -1)) := HG.out.trans (scan_out xs p _ 0 N 1 (by omega))
        clear HG
        go_wp2
        go_ret2
        exact ⟨tup_eq HF.out, rfl⟩
    · obtain rfl : S = 128 := HS.out
      clear HS
      by_cases hlt : p + 1 < n
      · rcases h with h | ⟨b, o, rfl, hbs, hcell⟩
        · omega
        · obtain ⟨x, hx⟩ : ∃ x, x = xs.getD (p + 1) 0 := ⟨_, rfl⟩
          have hck : w.cell? ⟨b, o + (p + 1), none⟩ = some (.int .u8 x) := by rw [hx]; exact hcell (p + 1) hlt
          have hxb : 0 ≤ x ∧ x < 256 := by rw [hx]; exact get_byte hby (by omega)
          obtain ⟨hx0, hx1⟩ := hxb
          have HX : Hid (x = xs.getD (p + 1) 0) := hx
          have hxl : p + 1 < xs.length := by omega
          clear hcell hx hby
          by_cases hx2 : x < 128
          · by_cases hz : x = 0 ∧ 0 < 1
            · have HF : Hid (getN xs (p : Int) = (0, -1)) := HG.out.trans (scan_bad xs p (4 - 1) 1 N 128 x hxl HX.out hx2 (.inl hz))
              have hz1 : (x == 0) = true := by simp [hz.1]
              clear HG HX hz
              go_wp2
              go_ret2
              exact ⟨tup_eq HF.out, rfl⟩
            · by_cases hM : 2147483647 < N + x % 128 * 128
              · omega
              · have HF : Hid (getN xs (p : Int) = (N + x % 128 * 128, (p : Int) + (1 : Nat) + 1)) := HG.out.trans (scan_good xs p (4 - 1) 1 N 128 x hxl HX.out hx2 (by rintro (hq | hq); exact hz hq; exact hM hq))
                clear HG HX
                by_cases hz1 : x = 0
                · omega
                · have hz2 : (x == 0) = false := by simp [hz1]
                  clear hz1
                  go_wp2
                  go_ret2
                  exact ⟨tup_eq (by rw [HF.out]; simp), rfl⟩
          · have HF : Hid (getN xs (p : Int) = scan xs p (5 - 2) 2 (N + x % 128 * 128) 16384) := HG.out.trans (by simpa using scan_more xs p (4 - 1) 1 N 128 x hxl HX.out hx2)
            clear HG HX
            go_wp2
            go_round
            case rel => exact ⟨2, N + x % 128 * 128, 16384, by omega, by simp, by simp, by simp, by omega, by omega, rfl, HF.out⟩
            case measure => simp [intOf]
      · have HF : Hid (getN xs (p : Int) = (0, -1)) := HG.out.trans (scan_out xs p _ 1 N 128 (by omega))
        clear HG
        go_wp2
        go_ret2
        exact ⟨tup_eq HF.out, rfl⟩
    · obtain rfl : S = 16384 := HS.out
      clear HS
      by_cases hlt : p + 2 < n
      · rcases h with h | ⟨b, o, rfl, hbs, hcell⟩
        · omega
        · obtain ⟨x, hx⟩ : ∃ x, x = xs.getD (p + 2) 0 := ⟨_, rfl⟩
          have hck : w.cell? ⟨b, o + (p + 2), none⟩ = some (.int .u8 x) := by rw [hx]; exact hcell (p + 2) hlt
          have hxb : 0 ≤ x ∧ x < 256 := by rw [hx]; exact get_byte hby (by omega)
          obtain ⟨hx0, hx1⟩ := hxb
          have HX : Hid (x = xs.getD (p + 2) 0) := hx
          have hxl : p + 2 < xs.length := by omega
          clear hcell hx hby
          by_cases hx2 : x < 128
          · by_cases hz : x = 0 ∧ 0 < 2
            · have HF : Hid (getN xs (p : Int) = (0, -1)) := HG.out.trans (scan_bad xs p (4 - 2) 2 N 16384 x hxl HX.out hx2 (.inl hz))
              have hz1 : (x == 0) = true := by simp [hz.1]
              clear HG HX hz
              go_wp2
              go_ret2
              exact ⟨tup_eq HF.out, rfl⟩
            · by_cases hM : 2147483647 < N + x % 128 * 16384
              · omega
              · have HF : Hid (getN xs (p : Int) = (N + x % 128 * 16384, (p : Int) + (2 : Nat) + 1)) := HG.out.trans (scan_good xs p (4 - 2) 2 N 16384 x hxl HX.out hx2 (by rintro (hq | hq); exact hz hq; exact hM hq))
                clear HG HX
                by_cases hz1 : x = 0
                · omega
                · have hz2 : (x == 0) = false := by simp [hz1]
                  clear hz1
                  go_wp2
                  go_ret2
                  exact ⟨tup_eq (by rw [HF.out]; simp), rfl⟩
          · have HF : Hid (getN xs (p : Int) = scan xs p (5 - 3) 3 (N + x % 128 * 16384) 2097152) := HG.out.trans (by simpa using scan_more xs p (4 - 2) 2 N 16384 x hxl HX.out hx2)
            clear HG HX
            go_wp2
            go_round
            case rel => exact ⟨3, N + x % 128 * 16384, 2097152, by omega, by simp, by simp, by simp, by omega, by omega, rfl, HF.out⟩
            case measure => simp [intOf]
      · have HF : Hid (getN xs (p : Int) = (0, -1)) := HG.out.trans (scan_out xs p _ 2 N 16384 (by omega))
        clear HG
        go_wp2
        go_ret2
        exact ⟨tup_eq HF.out, rfl⟩
    · obtain rfl : S = 2097152 := HS.out
      clear HS
      by_cases hlt : p + 3 < n
      · rcases h with h | ⟨b, o, rfl, hbs, hcell⟩
        · omega
        · obtain ⟨x, hx⟩ : ∃ x, x = xs.getD (p + 3) 0 := ⟨_, rfl⟩
          have hck : w.cell? ⟨b, o + (p + 3), none⟩ = some (.int .u8 x) := by rw [hx]; exact hcell (p + 3) hlt
          have hxb : 0 ≤ x ∧ x < 256 := by rw [hx]; exact get_byte hby (by omega)
          obtain ⟨hx0, hx1⟩ := hxb
          have HX : Hid (x = xs.getD (p + 3) 0) := hx
          have hxl : p + 3 < xs.length := by omega
          clear hcell hx hby
          by_cases hx2 : x < 128
          · by_cases hz : x = 0 ∧ 0 < 3
            · have HF : Hid (getN xs (p : Int) = (0, -1)) := HG.out.trans (scan_bad xs p (4 - 3) 3 N 2097152 x hxl HX.out hx2 (.inl hz))
              have hz1 : (x == 0) = true := by simp [hz.1]
              clear HG HX hz
              go_wp2
              go_ret2
              exact ⟨tup_eq HF.out, rfl⟩
            · by_cases hM : 2147483647 < N + x % 128 * 2097152
              · omega
              · have HF : Hid (getN xs (p : Int) = (N + x % 128 * 2097152, (p : Int) + (3 : Nat) + 1)) := HG.out.trans (scan_good xs p (4 - 3) 3 N 2097152 x hxl HX.out hx2 (by rintro (hq | hq); exact hz hq; exact hM hq))
                clear HG HX
                by_cases hz1 : x = 0
                · omega
                · have hz2 : (x == 0) = false := by simp [hz1]
                  clear hz1
                  go_wp2
                  go_ret2
                  exact ⟨tup_eq (by rw [HF.out]; simp), rfl⟩
          · have HF : Hid (getN xs (p : Int) = scan xs p (5 - 4) 4 (N + x % 128 * 2097152) 268435456) := HG.out.trans (by simpa using scan_more xs p (4 - 3) 3 N 2097152 x hxl HX.out hx2)
            clear HG HX
            go_wp2
            go_round
            case rel => exact ⟨4, N + x % 128 * 2097152, 268435456, by omega, by simp, by simp, by simp, by omega, by omega, rfl, HF.out⟩
            case measure => simp [intOf]
      · have HF : Hid (getN xs (p : Int) = (0, -1)) := HG.out.trans (scan_out xs p _ 3 N 2097152 (by omega))
        clear HG
        go_wp2
        go_ret2
        exact ⟨tup_eq HF.out, rfl⟩
    · obtain rfl : S = 268435456 := HS.out
      clear HS
      by_cases hlt : p + 4 < n
      · rcases h with h | ⟨b, o, rfl, hbs, hcell⟩
        · omega
        · obtain ⟨x, hx⟩ : ∃ x, x = xs.getD (p + 4) 0 := ⟨_, rfl⟩
          have hck : w.cell? ⟨b, o + (p + 4), none⟩ = some (.int .u8 x) := by rw [hx]; exact hcell (p + 4) hlt
          have hxb : 0 ≤ x ∧ x < 256 := by rw [hx]; exact get_byte hby (by omega)
          obtain ⟨hx0, hx1⟩ := hxb
          have HX : Hid (x = xs.getD (p + 4) 0) := hx
          have hxl : p + 4 < xs.length := by omega
          clear hcell hx hby
          by_cases hx2 : x < 128
          · by_cases hz : x = 0 ∧ 0 < 4
            · have HF : Hid (getN xs (p : Int) = (0, -1)) := HG.out.trans (scan_bad xs p (4 - 4) 4 N 268435456 x hxl HX.out hx2 (.inl hz))
              have hz1 : (x == 0) = true := by simp [hz.1]
              clear HG HX hz
              go_wp2
              go_ret2
              exact ⟨tup_eq HF.out, rfl⟩
            · by_cases hM : 2147483647 < N + x % 128 * 268435456
              · have HF : Hid (getN xs (p : Int) = (0, -1)) := HG.out.trans (scan_bad xs p (4 - 4) 4 N 268435456 x hxl HX.out hx2 (.inr hM))
                clear HG HX
                by_cases hz1 : x = 0
                · omega
                · have hz2 : (x == 0) = false := by simp [hz1]
                  clear hz1
                  go_wp2
                  go_ret2
                  exact ⟨tup_eq HF.out, rfl⟩
              · have HF : Hid (getN xs (p : Int) = (N + x % 128 * 268435456, (p : Int) + (4 : Nat) + 1)) := HG.out.trans (scan_good xs p (4 - 4) 4 N 268435456 x hxl HX.out hx2 (by rintro (hq | hq); exact hz hq; exact hM hq))
                clear HG HX
                by_cases hz1 : x = 0
                · omega
                · have hz2 : (x == 0) = false := by simp [hz1]
                  clear hz1
                  go_wp2
                  go_ret2
                  exact ⟨tup_eq (by rw [HF.out]; simp), rfl⟩
          · have HF : Hid (getN xs (p : Int) = scan xs p (5 - 5) 5 (N + x % 128 * 268435456) 34359738368) := HG.out.trans (by simpa using scan_more xs p (4 - 4) 4 N 268435456 x hxl HX.out hx2)
            clear HG HX
            go_wp2
            go_round
            case rel => exact ⟨5, N + x % 128 * 268435456, 34359738368, by omega, by simp, by simp, by simp, by omega, by omega, rfl, HF.out⟩
            case measure => simp [intOf]
      · have HF : Hid (getN xs (p : Int) = (0, -1)) := HG.out.trans (scan_out xs p _ 4 N 268435456 (by omega))
        clear HG
        go_wp2
        go_ret2
        exact ⟨tup_eq HF.out, rfl⟩
    · have HF : Hid (getN xs (p : Int) = (0, -1)) := HG.out.trans (scan_zero xs p 5 N S)
      clear HG
      go_wp2
      go_ret2
      exact ⟨tup_eq HF.out, rfl⟩
end Go.Proofs.YtofflhhlacdgfaaDoor
