/-
  What is proved here: contracts of the program's GetNum: it reads a number as the plain function 'getN' does, at every slice of at most 2^21 bytes and every place.
-/
import Derived.Test.YtofflhhlacdgfaaDoorA1Get
import Derived.Laws.BitsLemmas
namespace Go.Proofs.YtofflhhlacdgfaaDoor
open Go.RowKit
set_option maxRecDepth 100000
open Ma

theorem wraps_i64 (n : Int) (h₀ : 0 ≤ n) (h₁ : n < 2 ^ 62) : IntKind.i64.wrap n = n := by rw [IntKind.wrap_i64]; omega

theorem or64 (i : Nat) (y x : Int) (hx₀ : 0 ≤ x) (hx : x % 2 ^ i = 0) (hx₁ : x < 2 ^ 62) (hy₀ : 0 ≤ y) (hy : y < 2 ^ i) (hy₁ : y < 2 ^ 62) : bits .or .i64 y x = y + x := by
  have hc : bits .or .i64 y x = bits .or .i64 x y := by simp only [bits, BitVec.or_comm]
  rw [hc, bits_join .i64 62 (by decide) wraps_i64 i x y hx₀ hx hx₁ hy₀ hy hy₁, Int.add_comm]

set_option maxHeartbeats 2000000 in
theorem implGet (a : Option Addr) (n cap : Nat) (xs : List Int) (P : Int) (w : World) (h : Bs w a n cap xs) (hn : n ≤ 2097152) (hP : P ≤ 9223372036854775807) :
    Calls Tryd.prog 128 #[.slice a n cap, .int .i64 P] w fun e w' => e = .returned (.tuple #[.int .i64 (getN xs P).1, .int .i64 (getN xs P).2]) ∧ w' = w := by
  obtain ⟨_, hl, hc, hby, h⟩ := h
  by_cases hneg : P < 0
  · have HG : Hid (getN xs P = (0, -1)) := getN_neg xs P hneg
    go_enter Tryd.func128, Tryd.ntmps128
    go_wp2
    go_ret2
    exact ⟨tup_eq HG.out, rfl⟩
  obtain ⟨p, rfl⟩ := Int.eq_ofNat_of_zero_le (show 0 ≤ P by omega)
  have HG0 : Hid (getN xs (p : Int) = scan xs p 5 0 0 1) := getN_nat xs p
  by_cases hout : (n : Int) ≤ (p : Int)
  · have HG : Hid (getN xs (p : Int) = (0, -1)) := HG0.out.trans (scan_out xs p 5 0 0 1 (by omega))
    clear HG0
    go_enter Tryd.func128, Tryd.ntmps128
    go_wp2
    go_ret2
    exact ⟨tup_eq HG.out, rfl⟩
  rcases h with h | ⟨b, o, rfl, hbs, hcell⟩
  · omega
  have hcp : ¬ cap = p := by omega
  by_cases hmin : (p : Int) + 5 ≤ (n : Int)
  · go_enter Tryd.func128, Tryd.ntmps128
    go_wp2
    go_loop [6, 26] (fun nn i => ∃ (k : Nat) (N : Int), k ≤ 5 ∧ p + k ≤ n ∧ i = .int .i64 k ∧ nn = .int .i64 N ∧ 0 ≤ N ∧ Hid (N < 128 ^ k) ∧ Hid (getN xs (p : Int) = scan xs p (5 - k) k N (128 ^ k))) (fun _ i => 5 - (intOf i).toNat)
    case atStart => exact ⟨0, 0, by omega, by omega, rfl, rfl, by omega, by show (0 : Int) < 1; omega, HG0⟩
    case round =>
      obtain ⟨k, N, hk, hkn, rfl, rfl, hN0, HS, HG⟩ := hrel
      clear HG0
      rcases (show k = 0 ∨ k = 1 ∨ k = 2 ∨ k = 3 ∨ k = 4 ∨ k = 5 by omega) with rfl | rfl | rfl | rfl | rfl | rfl
      · have hNS : N < 1 := HS.out
        by_cases hlt : p + 0 < n
        · obtain ⟨x, hx⟩ : ∃ x, x = xs.getD (p + 0) 0 := ⟨_, rfl⟩
          have hck : w.cell? ⟨b, o + p, none⟩ = some (.int .u8 x) := by rw [hx]; exact hcell (p + 0) hlt
          have hxb : 0 ≤ x ∧ x < 256 := by rw [hx]; exact get_byte hby (by omega)
          obtain ⟨hx0, hx1⟩ := hxb
          have HX : Hid (x = xs.getD (p + 0) 0) := hx
          have hxl : p + 0 < xs.length := by omega
          have hor : bits BinOp.or IntKind.i64 N (x % 128) = N + x % 128 * 1 := by rw [or64 0 N _ (by omega) (by omega) (by omega) (by omega) (by omega) (by omega)]; simp
          clear hcell hx hby HS
          by_cases hx2 : 128 ≤ x
          · have HF : Hid (getN xs (p : Int) = scan xs p (5 - 1) 1 (N + x % 128 * 1) (128 ^ 1)) := HG.out.trans (by simpa using scan_more xs p (4 - 0) 0 N 1 x hxl HX.out (by omega))
            have HB : Hid (N + x % 128 * 1 < 128 ^ 1) := by unfold Hid; omega
            clear HG HX
            go_wp2
            go_round
            case rel => exact ⟨1, N + x % 128 * 1, by omega, by omega, by simp, by simp, by omega, HB, HF⟩
            case measure => simp [intOf]
          · by_cases hM : 2147483647 < N + x % 128 * 1
            · omega
            · have HF : Hid (getN xs (p : Int) = (N + x % 128 * 1, (p : Int) + (0 : Nat) + 1)) := HG.out.trans (by simpa using scan_good xs p (4 - 0) 0 N 1 x hxl HX.out (by omega) (by omega))
              clear HG HX
              by_cases hz : x = 0
              · have hz1 : (x == 0) = true := by simp [hz]
                clear hz
                go_wp2
                go_ret2
                exact ⟨tup_eq (by rw [HF.out]; simp), rfl⟩
              have hz1 : (x == 0) = false := by simp [hz]
              clear hz
              go_wp2
              go_ret2
              exact ⟨tup_eq (by rw [HF.out]; simp), rfl⟩
        · omega
      · have hNS : N < 128 := HS.out
        by_cases hlt : p + 1 < n
        · obtain ⟨x, hx⟩ : ∃ x, x = xs.getD (p + 1) 0 := ⟨_, rfl⟩
          have hck : w.cell? ⟨b, o + p + 1, none⟩ = some (.int .u8 x) := by rw [hx, Nat.add_assoc]; exact hcell (p + 1) hlt
          have hxb : 0 ≤ x ∧ x < 256 := by rw [hx]; exact get_byte hby (by omega)
          obtain ⟨hx0, hx1⟩ := hxb
          have HX : Hid (x = xs.getD (p + 1) 0) := hx
          have hxl : p + 1 < xs.length := by omega
          have hor : bits BinOp.or IntKind.i64 N (x % 128 * 128) = N + x % 128 * 128 := or64 7 N _ (by omega) (by omega) (by omega) (by omega) (by omega) (by omega)
          clear hcell hx hby HS
          by_cases hx2 : 128 ≤ x
          · have HF : Hid (getN xs (p : Int) = scan xs p (5 - 2) 2 (N + x % 128 * 128) (128 ^ 2)) := HG.out.trans (by simpa using scan_more xs p (4 - 1) 1 N 128 x hxl HX.out (by omega))
            have HB : Hid (N + x % 128 * 128 < 128 ^ 2) := by unfold Hid; omega
            clear HG HX
            go_wp2
            go_round
            case rel => exact ⟨2, N + x % 128 * 128, by omega, by omega, by simp, by simp, by omega, HB, HF⟩
            case measure => simp [intOf]
          · by_cases hz : x = 0
            · have HF : Hid (getN xs (p : Int) = (0, -1)) := HG.out.trans (scan_bad xs p (4 - 1) 1 N _ x hxl HX.out (by omega) (.inl ⟨hz, by omega⟩))
              have hz1 : (x == 0) = true := by simp [hz]
              clear HG HX hz
              go_wp2
              go_ret2
              exact ⟨tup_eq HF.out, rfl⟩
            have hz1 : (x == 0) = false := by simp [hz]
            by_cases hM : 2147483647 < N + x % 128 * 128
            · omega
            · have HF : Hid (getN xs (p : Int) = (N + x % 128 * 128, (p : Int) + (1 : Nat) + 1)) := HG.out.trans (by simpa using scan_good xs p (4 - 1) 1 N 128 x hxl HX.out (by omega) (by omega))
              clear HG HX
              go_wp2
              go_ret2
              exact ⟨tup_eq (by rw [HF.out]; simp), rfl⟩
        · omega
      · have hNS : N < 16384 := HS.out
        by_cases hlt : p + 2 < n
        · obtain ⟨x, hx⟩ : ∃ x, x = xs.getD (p + 2) 0 := ⟨_, rfl⟩
          have hck : w.cell? ⟨b, o + p + 2, none⟩ = some (.int .u8 x) := by rw [hx, Nat.add_assoc]; exact hcell (p + 2) hlt
          have hxb : 0 ≤ x ∧ x < 256 := by rw [hx]; exact get_byte hby (by omega)
          obtain ⟨hx0, hx1⟩ := hxb
          have HX : Hid (x = xs.getD (p + 2) 0) := hx
          have hxl : p + 2 < xs.length := by omega
          have hor : bits BinOp.or IntKind.i64 N (x % 128 * 16384) = N + x % 128 * 16384 := or64 14 N _ (by omega) (by omega) (by omega) (by omega) (by omega) (by omega)
          clear hcell hx hby HS
          by_cases hx2 : 128 ≤ x
          · have HF : Hid (getN xs (p : Int) = scan xs p (5 - 3) 3 (N + x % 128 * 16384) (128 ^ 3)) := HG.out.trans (by simpa using scan_more xs p (4 - 2) 2 N 16384 x hxl HX.out (by omega))
            have HB : Hid (N + x % 128 * 16384 < 128 ^ 3) := by unfold Hid; omega
            clear HG HX
            go_wp2
            go_round
            case rel => exact ⟨3, N + x % 128 * 16384, by omega, by omega, by simp, by simp, by omega, HB, HF⟩
            case measure => simp [intOf]
          · by_cases hz : x = 0
            · have HF : Hid (getN xs (p : Int) = (0, -1)) := HG.out.trans (scan_bad xs p (4 - 2) 2 N _ x hxl HX.out (by omega) (.inl ⟨hz, by omega⟩))
              have hz1 : (x == 0) = true := by simp [hz]
              clear HG HX hz
              go_wp2
              go_ret2
              exact ⟨tup_eq HF.out, rfl⟩
            have hz1 : (x == 0) = false := by simp [hz]
            by_cases hM : 2147483647 < N + x % 128 * 16384
            · omega
            · have HF : Hid (getN xs (p : Int) = (N + x % 128 * 16384, (p : Int) + (2 : Nat) + 1)) := HG.out.trans (by simpa using scan_good xs p (4 - 2) 2 N 16384 x hxl HX.out (by omega) (by omega))
              clear HG HX
              go_wp2
              go_ret2
              exact ⟨tup_eq (by rw [HF.out]; simp), rfl⟩
        · omega
      · have hNS : N < 2097152 := HS.out
        by_cases hlt : p + 3 < n
        · obtain ⟨x, hx⟩ : ∃ x, x = xs.getD (p + 3) 0 := ⟨_, rfl⟩
          have hck : w.cell? ⟨b, o + p + 3, none⟩ = some (.int .u8 x) := by rw [hx, Nat.add_assoc]; exact hcell (p + 3) hlt
          have hxb : 0 ≤ x ∧ x < 256 := by rw [hx]; exact get_byte hby (by omega)
          obtain ⟨hx0, hx1⟩ := hxb
          have HX : Hid (x = xs.getD (p + 3) 0) := hx
          have hxl : p + 3 < xs.length := by omega
          have hor : bits BinOp.or IntKind.i64 N (x % 128 * 2097152) = N + x % 128 * 2097152 := or64 21 N _ (by omega) (by omega) (by omega) (by omega) (by omega) (by omega)
          clear hcell hx hby HS
          by_cases hx2 : 128 ≤ x
          · have HF : Hid (getN xs (p : Int) = scan xs p (5 - 4) 4 (N + x % 128 * 2097152) (128 ^ 4)) := HG.out.trans (by simpa using scan_more xs p (4 - 3) 3 N 2097152 x hxl HX.out (by omega))
            have HB : Hid (N + x % 128 * 2097152 < 128 ^ 4) := by unfold Hid; omega
            clear HG HX
            go_wp2
            go_round
            case rel => exact ⟨4, N + x % 128 * 2097152, by omega, by omega, by simp, by simp, by omega, HB, HF⟩
            case measure => simp [intOf]
          · by_cases hz : x = 0
            · have HF : Hid (getN xs (p : Int) = (0, -1)) := HG.out.trans (scan_bad xs p (4 - 3) 3 N _ x hxl HX.out (by omega) (.inl ⟨hz, by omega⟩))
              have hz1 : (x == 0) = true := by simp [hz]
              clear HG HX hz
              go_wp2
              go_ret2
              exact ⟨tup_eq HF.out, rfl⟩
            have hz1 : (x == 0) = false := by simp [hz]
            by_cases hM : 2147483647 < N + x % 128 * 2097152
            · omega
            · have HF : Hid (getN xs (p : Int) = (N + x % 128 * 2097152, (p : Int) + (3 : Nat) + 1)) := HG.out.trans (by simpa using scan_good xs p (4 - 3) 3 N 2097152 x hxl HX.out (by omega) (by omega))
              clear HG HX
              go_wp2
              go_ret2
              exact ⟨tup_eq (by rw [HF.out]; simp), rfl⟩
        · omega
      · have hNS : N < 268435456 := HS.out
        by_cases hlt : p + 4 < n
        · obtain ⟨x, hx⟩ : ∃ x, x = xs.getD (p + 4) 0 := ⟨_, rfl⟩
          have hck : w.cell? ⟨b, o + p + 4, none⟩ = some (.int .u8 x) := by rw [hx, Nat.add_assoc]; exact hcell (p + 4) hlt
          have hxb : 0 ≤ x ∧ x < 256 := by rw [hx]; exact get_byte hby (by omega)
          obtain ⟨hx0, hx1⟩ := hxb
          have HX : Hid (x = xs.getD (p + 4) 0) := hx
          have hxl : p + 4 < xs.length := by omega
          have hor : bits BinOp.or IntKind.i64 N (x % 128 * 268435456) = N + x % 128 * 268435456 := or64 28 N _ (by omega) (by omega) (by omega) (by omega) (by omega) (by omega)
          clear hcell hx hby HS
          by_cases hx2 : 128 ≤ x
          · have HF : Hid (getN xs (p : Int) = scan xs p (5 - 5) 5 (N + x % 128 * 268435456) (128 ^ 5)) := HG.out.trans (by simpa using scan_more xs p (4 - 4) 4 N 268435456 x hxl HX.out (by omega))
            have HB : Hid (N + x % 128 * 268435456 < 128 ^ 5) := by unfold Hid; omega
            clear HG HX
            go_wp2
            go_round
            case rel => exact ⟨5, N + x % 128 * 268435456, by omega, by omega, by simp, by simp, by omega, HB, HF⟩
            case measure => simp [intOf]
          · by_cases hz : x = 0
            · have HF : Hid (getN xs (p : Int) = (0, -1)) := HG.out.trans (scan_bad xs p (4 - 4) 4 N _ x hxl HX.out (by omega) (.inl ⟨hz, by omega⟩))
              have hz1 : (x == 0) = true := by simp [hz]
              clear HG HX hz
              go_wp2
              go_ret2
              exact ⟨tup_eq HF.out, rfl⟩
            have hz1 : (x == 0) = false := by simp [hz]
            by_cases hM : 2147483647 < N + x % 128 * 268435456
            · have HF : Hid (getN xs (p : Int) = (0, -1)) := HG.out.trans (by simpa using scan_bad xs p (4 - 4) 4 N 268435456 x hxl HX.out (by omega) (.inr hM))
              clear HG HX
              go_wp2
              go_ret2
              exact ⟨tup_eq HF.out, rfl⟩
            · have HF : Hid (getN xs (p : Int) = (N + x % 128 * 268435456, (p : Int) + (4 : Nat) + 1)) := HG.out.trans (by simpa using scan_good xs p (4 - 4) 4 N 268435456 x hxl HX.out (by omega) (by omega))
              clear HG HX
              go_wp2
              go_ret2
              exact ⟨tup_eq (by rw [HF.out]; simp), rfl⟩
        · omega
      · have HF : Hid (getN xs (p : Int) = (0, -1)) := HG.out.trans (scan_zero xs p 5 N _)
        clear HG HS
        go_wp2
        go_ret2
        exact ⟨tup_eq HF.out, rfl⟩
  · go_enter Tryd.func128, Tryd.ntmps128
    go_wp2
    go_loop [6, 26] (fun nn i => ∃ (k : Nat) (N : Int), k ≤ 5 ∧ p + k ≤ n ∧ i = .int .i64 k ∧ nn = .int .i64 N ∧ 0 ≤ N ∧ Hid (N < 128 ^ k) ∧ Hid (getN xs (p : Int) = scan xs p (5 - k) k N (128 ^ k))) (fun _ i => 5 - (intOf i).toNat)
    case atStart => exact ⟨0, 0, by omega, by omega, rfl, rfl, by omega, by show (0 : Int) < 1; omega, HG0⟩
    case round =>
      obtain ⟨k, N, hk, hkn, rfl, rfl, hN0, HS, HG⟩ := hrel
      clear HG0
      rcases (show k = 0 ∨ k = 1 ∨ k = 2 ∨ k = 3 ∨ k = 4 ∨ k = 5 by omega) with rfl | rfl | rfl | rfl | rfl | rfl
      · have hNS : N < 1 := HS.out
        by_cases hlt : p + 0 < n
        · obtain ⟨x, hx⟩ : ∃ x, x = xs.getD (p + 0) 0 := ⟨_, rfl⟩
          have hck : w.cell? ⟨b, o + p, none⟩ = some (.int .u8 x) := by rw [hx]; exact hcell (p + 0) hlt
          have hxb : 0 ≤ x ∧ x < 256 := by rw [hx]; exact get_byte hby (by omega)
          obtain ⟨hx0, hx1⟩ := hxb
          have HX : Hid (x = xs.getD (p + 0) 0) := hx
          have hxl : p + 0 < xs.length := by omega
          have hor : bits BinOp.or IntKind.i64 N (x % 128) = N + x % 128 * 1 := by rw [or64 0 N _ (by omega) (by omega) (by omega) (by omega) (by omega) (by omega)]; simp
          clear hcell hx hby HS
          by_cases hx2 : 128 ≤ x
          · have HF : Hid (getN xs (p : Int) = scan xs p (5 - 1) 1 (N + x % 128 * 1) (128 ^ 1)) := HG.out.trans (by simpa using scan_more xs p (4 - 0) 0 N 1 x hxl HX.out (by omega))
            have HB : Hid (N + x % 128 * 1 < 128 ^ 1) := by unfold Hid; omega
            clear HG HX
            go_wp2
            go_round
            case rel => exact ⟨1, N + x % 128 * 1, by omega, by omega, by simp, by simp, by omega, HB, HF⟩
            case measure => simp [intOf]
          · by_cases hM : 2147483647 < N + x % 128 * 1
            · omega
            · have HF : Hid (getN xs (p : Int) = (N + x % 128 * 1, (p : Int) + (0 : Nat) + 1)) := HG.out.trans (by simpa using scan_good xs p (4 - 0) 0 N 1 x hxl HX.out (by omega) (by omega))
              clear HG HX
              by_cases hz : x = 0
              · have hz1 : (x == 0) = true := by simp [hz]
                clear hz
                go_wp2
                go_ret2
                exact ⟨tup_eq (by rw [HF.out]; simp), rfl⟩
              have hz1 : (x == 0) = false := by simp [hz]
              clear hz
              go_wp2
              go_ret2
              exact ⟨tup_eq (by rw [HF.out]; simp), rfl⟩
        · omega
      · have hNS : N < 128 := HS.out
        by_cases hlt : p + 1 < n
        · obtain ⟨x, hx⟩ : ∃ x, x = xs.getD (p + 1) 0 := ⟨_, rfl⟩
          have hck : w.cell? ⟨b, o + p + 1, none⟩ = some (.int .u8 x) := by rw [hx, Nat.add_assoc]; exact hcell (p + 1) hlt
          have hxb : 0 ≤ x ∧ x < 256 := by rw [hx]; exact get_byte hby (by omega)
          obtain ⟨hx0, hx1⟩ := hxb
          have HX : Hid (x = xs.getD (p + 1) 0) := hx
          have hxl : p + 1 < xs.length := by omega
          have hor : bits BinOp.or IntKind.i64 N (x % 128 * 128) = N + x % 128 * 128 := or64 7 N _ (by omega) (by omega) (by omega) (by omega) (by omega) (by omega)
          clear hcell hx hby HS
          by_cases hx2 : 128 ≤ x
          · have HF : Hid (getN xs (p : Int) = scan xs p (5 - 2) 2 (N + x % 128 * 128) (128 ^ 2)) := HG.out.trans (by simpa using scan_more xs p (4 - 1) 1 N 128 x hxl HX.out (by omega))
            have HB : Hid (N + x % 128 * 128 < 128 ^ 2) := by unfold Hid; omega
            clear HG HX
            go_wp2
            go_round
            case rel => exact ⟨2, N + x % 128 * 128, by omega, by omega, by simp, by simp, by omega, HB, HF⟩
            case measure => simp [intOf]
          · by_cases hz : x = 0
            · have HF : Hid (getN xs (p : Int) = (0, -1)) := HG.out.trans (scan_bad xs p (4 - 1) 1 N _ x hxl HX.out (by omega) (.inl ⟨hz, by omega⟩))
              have hz1 : (x == 0) = true := by simp [hz]
              clear HG HX hz
              go_wp2
              go_ret2
              exact ⟨tup_eq HF.out, rfl⟩
            have hz1 : (x == 0) = false := by simp [hz]
            by_cases hM : 2147483647 < N + x % 128 * 128
            · omega
            · have HF : Hid (getN xs (p : Int) = (N + x % 128 * 128, (p : Int) + (1 : Nat) + 1)) := HG.out.trans (by simpa using scan_good xs p (4 - 1) 1 N 128 x hxl HX.out (by omega) (by omega))
              clear HG HX
              go_wp2
              go_ret2
              exact ⟨tup_eq (by rw [HF.out]; simp), rfl⟩
        · have HF : Hid (getN xs (p : Int) = (0, -1)) := HG.out.trans (scan_out xs p _ 1 N _ (by omega))
          clear HG HS
          go_wp2
          go_ret2
          exact ⟨tup_eq HF.out, rfl⟩
      · have hNS : N < 16384 := HS.out
        by_cases hlt : p + 2 < n
        · obtain ⟨x, hx⟩ : ∃ x, x = xs.getD (p + 2) 0 := ⟨_, rfl⟩
          have hck : w.cell? ⟨b, o + p + 2, none⟩ = some (.int .u8 x) := by rw [hx, Nat.add_assoc]; exact hcell (p + 2) hlt
          have hxb : 0 ≤ x ∧ x < 256 := by rw [hx]; exact get_byte hby (by omega)
          obtain ⟨hx0, hx1⟩ := hxb
          have HX : Hid (x = xs.getD (p + 2) 0) := hx
          have hxl : p + 2 < xs.length := by omega
          have hor : bits BinOp.or IntKind.i64 N (x % 128 * 16384) = N + x % 128 * 16384 := or64 14 N _ (by omega) (by omega) (by omega) (by omega) (by omega) (by omega)
          clear hcell hx hby HS
          by_cases hx2 : 128 ≤ x
          · have HF : Hid (getN xs (p : Int) = scan xs p (5 - 3) 3 (N + x % 128 * 16384) (128 ^ 3)) := HG.out.trans (by simpa using scan_more xs p (4 - 2) 2 N 16384 x hxl HX.out (by omega))
            have HB : Hid (N + x % 128 * 16384 < 128 ^ 3) := by unfold Hid; omega
            clear HG HX
            go_wp2
            go_round
            case rel => exact ⟨3, N + x % 128 * 16384, by omega, by omega, by simp, by simp, by omega, HB, HF⟩
            case measure => simp [intOf]
          · by_cases hz : x = 0
            · have HF : Hid (getN xs (p : Int) = (0, -1)) := HG.out.trans (scan_bad xs p (4 - 2) 2 N _ x hxl HX.out (by omega) (.inl ⟨hz, by omega⟩))
              have hz1 : (x == 0) = true := by simp [hz]
              clear HG HX hz
              go_wp2
              go_ret2
              exact ⟨tup_eq HF.out, rfl⟩
            have hz1 : (x == 0) = false := by simp [hz]
            by_cases hM : 2147483647 < N + x % 128 * 16384
            · omega
            · have HF : Hid (getN xs (p : Int) = (N + x % 128 * 16384, (p : Int) + (2 : Nat) + 1)) := HG.out.trans (by simpa using scan_good xs p (4 - 2) 2 N 16384 x hxl HX.out (by omega) (by omega))
              clear HG HX
              go_wp2
              go_ret2
              exact ⟨tup_eq (by rw [HF.out]; simp), rfl⟩
        · have HF : Hid (getN xs (p : Int) = (0, -1)) := HG.out.trans (scan_out xs p _ 2 N _ (by omega))
          clear HG HS
          go_wp2
          go_ret2
          exact ⟨tup_eq HF.out, rfl⟩
      · have hNS : N < 2097152 := HS.out
        by_cases hlt : p + 3 < n
        · obtain ⟨x, hx⟩ : ∃ x, x = xs.getD (p + 3) 0 := ⟨_, rfl⟩
          have hck : w.cell? ⟨b, o + p + 3, none⟩ = some (.int .u8 x) := by rw [hx, Nat.add_assoc]; exact hcell (p + 3) hlt
          have hxb : 0 ≤ x ∧ x < 256 := by rw [hx]; exact get_byte hby (by omega)
          obtain ⟨hx0, hx1⟩ := hxb
          have HX : Hid (x = xs.getD (p + 3) 0) := hx
          have hxl : p + 3 < xs.length := by omega
          have hor : bits BinOp.or IntKind.i64 N (x % 128 * 2097152) = N + x % 128 * 2097152 := or64 21 N _ (by omega) (by omega) (by omega) (by omega) (by omega) (by omega)
          clear hcell hx hby HS
          by_cases hx2 : 128 ≤ x
          · have HF : Hid (getN xs (p : Int) = scan xs p (5 - 4) 4 (N + x % 128 * 2097152) (128 ^ 4)) := HG.out.trans (by simpa using scan_more xs p (4 - 3) 3 N 2097152 x hxl HX.out (by omega))
            have HB : Hid (N + x % 128 * 2097152 < 128 ^ 4) := by unfold Hid; omega
            clear HG HX
            go_wp2
            go_round
            case rel => exact ⟨4, N + x % 128 * 2097152, by omega, by omega, by simp, by simp, by omega, HB, HF⟩
            case measure => simp [intOf]
          · by_cases hz : x = 0
            · have HF : Hid (getN xs (p : Int) = (0, -1)) := HG.out.trans (scan_bad xs p (4 - 3) 3 N _ x hxl HX.out (by omega) (.inl ⟨hz, by omega⟩))
              have hz1 : (x == 0) = true := by simp [hz]
              clear HG HX hz
              go_wp2
              go_ret2
              exact ⟨tup_eq HF.out, rfl⟩
            have hz1 : (x == 0) = false := by simp [hz]
            by_cases hM : 2147483647 < N + x % 128 * 2097152
            · omega
            · have HF : Hid (getN xs (p : Int) = (N + x % 128 * 2097152, (p : Int) + (3 : Nat) + 1)) := HG.out.trans (by simpa using scan_good xs p (4 - 3) 3 N 2097152 x hxl HX.out (by omega) (by omega))
              clear HG HX
              go_wp2
              go_ret2
              exact ⟨tup_eq (by rw [HF.out]; simp), rfl⟩
        · have HF : Hid (getN xs (p : Int) = (0, -1)) := HG.out.trans (scan_out xs p _ 3 N _ (by omega))
          clear HG HS
          go_wp2
          go_ret2
          exact ⟨tup_eq HF.out, rfl⟩
      · have hNS : N < 268435456 := HS.out
        by_cases hlt : p + 4 < n
        · omega
        · have HF : Hid (getN xs (p : Int) = (0, -1)) := HG.out.trans (scan_out xs p _ 4 N _ (by omega))
          clear HG HS
          go_wp2
          go_ret2
          exact ⟨tup_eq HF.out, rfl⟩
      · omega
end Go.Proofs.YtofflhhlacdgfaaDoor
