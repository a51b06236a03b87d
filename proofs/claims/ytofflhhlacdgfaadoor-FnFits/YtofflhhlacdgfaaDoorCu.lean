/-
  What is proved here: contracts of the cursor of a draw (l1New, l1Byte): a new cursor over the code; a byte that is drawn is in 0 .. 255, and nothing but the cursor turns; for every code.
-/
import Derived.Test.YtofflhhlacdgfaaDoorJP1
import Derived.Deep.QuietTactic
import Derived.BigQuiet
import Derived.Laws.BitsLemmas
namespace Go.Proofs.YtofflhhlacdgfaaDoor
open Go.RowKit

/-- The cursor's block. -/
def Cur (W : World) (p : Nat) (a : Option Addr) (n c : Nat) : Prop :=
  ∃ (i : Nat) (h : Int), i ≤ n ∧ W.heap[p]? = some (.cells #[.slice a n c, .int .i64 i, .int .i64 h] 114 (0, 0))

/-- The code, apart from the cursor. -/
def Coded (W : World) (p : Nat) (a : Option Addr) (n c : Nat) (xs : List Int) : Prop := Bs W a n c xs ∧ n ≤ 9223372036854775807 ∧ ∀ b o s, a = some ⟨b, o, s⟩ → n ≠ 0 → b ≠ p

theorem grown_into {W Wr W' : World} {p : Nat} {row : Option Nat} (h : W.grownBy Wr (some p)) (hg : Wr.grownBy W' row) (hr : ∀ k, row = some k → W.heap.size ≤ k ∨ k = p) : W.grownBy W' (some p) :=
  ⟨hg.os.trans h.os, hg.tape.trans h.tape, hg.output.trans h.output, Nat.le_trans h.size hg.size, fun i hi hne => by
    rw [hg.block i (Nat.lt_of_lt_of_le hi h.size) (fun e => ?_)]
    · exact h.block i hi hne
    · rcases hr i e.symm with h1 | h1
      · omega
      · exact hne (by rw [h1])⟩

theorem Coded.grown {W W' : World} {p : Nat} {a : Option Addr} {n c : Nat} {xs : List Int} (h : Coded W p a n c xs) (hg : W.grownBy W' (some p)) : Coded W' p a n c xs := by
  obtain ⟨⟨h0, hl, hc, hby, h⟩, hm, hne⟩ := h
  refine ⟨⟨h0, hl, hc, hby, ?_⟩, hm, hne⟩
  rcases h with h | ⟨b, o, ha, hb, hcell⟩
  · exact .inl h
  · by_cases hn : n = 0
    · exact .inl hn
    · refine .inr ⟨b, o, ha, Nat.lt_of_lt_of_le hb hg.size, fun j hj => ?_⟩
      exact hg.cell (hcell j hj) (fun e => hne b o none ha hn (by simpa using e))

theorem and255 (z : Int) : 0 ≤ bits BinOp.and IntKind.i64 z 255 ∧ bits BinOp.and IntKind.i64 z 255 ≤ 255 := by
  have h : ((BitVec.ofInt 64 z &&& BitVec.ofInt 64 255).toNat) ≤ 255 := by
    rw [BitVec.toNat_and]
    exact Nat.le_trans Nat.and_le_right (by decide)
  have e : bits BinOp.and IntKind.i64 z 255 = IntKind.i64.wrap ((BitVec.ofInt 64 z &&& BitVec.ofInt 64 255).toNat : Int) := rfl
  rw [e, IntKind.wrap_i64]
  omega

set_option maxHeartbeats 1000000 in
theorem curNew (a : Option Addr) (n c : Nat) (xs : List Int) (w : World) (h : Bs w a n c xs) (hm : n ≤ 9223372036854775807) :
    Calls Tryd.prog 47 #[.slice a n c] w fun e w' => e = .returned (.pointer (some ⟨w.heap.size, 0, none⟩)) ∧ Cur w' w.heap.size a n c ∧ Coded w' w.heap.size a n c xs ∧ w'.heap.size = w.heap.size + 1 ∧ Below w.heap.size w w' := by
  have h' := h
  obtain ⟨_, hl, hc, hby, h⟩ := h
  go_enter Tryd.func47, Tryd.ntmps47
  go_wp2
  go_loop [3, 4] (fun hh i => ∃ (k : Nat) (H : Int), k ≤ n ∧ k ≤ 4000 ∧ i = .int .i64 k ∧ hh = .int .i64 H) (fun _ i => 4000 - (intOf i).toNat)
  case atStart => exact ⟨0, _, by omega, by omega, rfl, rfl⟩
  case round =>
    obtain ⟨k, H, hk, hk2, rfl, rfl⟩ := hrel
    by_cases hlt : (k : Int) < (n : Int)
    · by_cases hlt2 : (k : Int) < 4000
      · rcases h with h | ⟨b, o, rfl, hbs, hcell⟩
        · omega
        obtain ⟨x, hx⟩ : ∃ x, x = xs.getD k 0 := ⟨_, rfl⟩
        have hck : w.cell? ⟨b, o + k, none⟩ = some (.int .u8 x) := by rw [hx]; exact hcell k (by omega)
        clear hcell hx hby h'
        go_wp2
        go_round
        case rel => exact ⟨k + 1, _, by omega, by omega, by go_num, rfl⟩
        case measure => simp [intOf]; omega
      · go_wp2
        go_ret
        refine ⟨rfl, ⟨0, H, by omega, heap_alloc_new w _⟩, ⟨h'.below ((Below.refl _ _).alloc (Nat.le_refl _) _), hm, ?_⟩, by simp, (Below.refl _ _).alloc (Nat.le_refl _) _⟩
        intro b o s ha hn0
        rcases h with h | ⟨b', o', ha', hbs, _⟩
        · omega
        · rw [ha'] at ha
          simp only [Option.some.injEq, Addr.mk.injEq] at ha
          omega
    · go_wp2
      go_ret
      refine ⟨rfl, ⟨0, H, by omega, heap_alloc_new w _⟩, ⟨h'.below ((Below.refl _ _).alloc (Nat.le_refl _) _), hm, ?_⟩, by simp, (Below.refl _ _).alloc (Nat.le_refl _) _⟩
      intro b o s ha hn0
      rcases h with h | ⟨b', o', ha', hbs, _⟩
      · omega
      · rw [ha'] at ha
        simp only [Option.some.injEq, Addr.mk.injEq] at ha
        omega

theorem grown_drewN {w w1 : World} {r : Option Nat} (h : w.grownBy w1 r) (q : Nat) : w.grownBy (w1.drewN q) r := ⟨h.os, h.tape, h.output, h.size, h.block⟩

theorem cur_set2 {w : World} {p n c i : Nat} {a : Option Addr} {h : Int} (hp : w.heap[p]? = some (.cells #[.slice a n c, .int .i64 i, .int .i64 h] 114 (0, 0))) (H : Int) :
    (w.setCell ⟨p, 2, none⟩ (.int .i64 H)).heap[p]? = some (.cells #[.slice a n c, .int .i64 i, .int .i64 H] 114 (0, 0)) := by
  rw [heap_setCell_same w p 2 _ 114 (.int .i64 H) hp]; rfl
theorem cur_set1 {w : World} {p n c i : Nat} {a : Option Addr} {h : Int} (hp : w.heap[p]? = some (.cells #[.slice a n c, .int .i64 i, .int .i64 h] 114 (0, 0))) (I : Int) :
    (w.setCell ⟨p, 1, none⟩ (.int .i64 I)).heap[p]? = some (.cells #[.slice a n c, .int .i64 I, .int .i64 h] 114 (0, 0)) := by
  rw [heap_setCell_same w p 1 _ 114 (.int .i64 I) hp]; rfl
theorem cur_grown2 (w : World) (p : Nat) (u : Value) (j : Nat) : w.grownBy (w.setCell ⟨p, j, none⟩ u) (some p) :=
  ⟨rfl, rfl, rfl, by simp, fun k _ hk => heap_setCell_other w ⟨p, j, none⟩ k u (fun e => hk (by simp [e]))⟩

set_option maxHeartbeats 1000000 in
theorem curByte (p : Nat) (a : Option Addr) (n c : Nat) (xs : List Int) (w : World) (hcur : Cur w p a n c) (hcode : Coded w p a n c xs) :
    Calls Tryd.prog 112 #[.pointer (some ⟨p, 0, none⟩)] w fun e w' => ∃ x : Int, e = .returned (.int .i64 x) ∧ 0 ≤ x ∧ x ≤ 255 ∧ Cur w' p a n c ∧ w.grownBy w' (some p) := by
  obtain ⟨i, h, hin, hp⟩ := hcur
  obtain ⟨⟨h0, hl, hc, hby, hb⟩, hm, hne⟩ := hcode
  have c0 : w.cell? ⟨p, 0, none⟩ = some (.slice a n c) := by simp [World.cell?, hp]
  have c1 : w.cell? ⟨p, 1, none⟩ = some (.int .i64 i) := by simp [World.cell?, hp]
  have c2 : w.cell? ⟨p, 2, none⟩ = some (.int .i64 h) := by simp [World.cell?, hp]
  have f1 : w.frozen? ⟨p, 1, none⟩ = false := by simp [World.frozen?, hp]
  have f2 : w.frozen? ⟨p, 2, none⟩ = false := by simp [World.frozen?, hp]
  go_enter Tryd.func112, Tryd.ntmps112
  go_wp2
  clear c2
  generalize wrap64 (wrap64 (h * 6364136223846793005) + 1442695040888963407) = H
  have hp1 := cur_set2 hp H
  have hg1 := cur_grown2 w p (.int .i64 H) 2
  have e0 := World.cell?_setCell_other w ⟨p, 2, none⟩ ⟨p, 0, none⟩ (.int .i64 H) (by simp)
  generalize w.setCell ⟨p, 2, none⟩ (.int .i64 H) = w1 at hp1 hg1 e0 ⊢
  clear c0 c1 f1 f2 hp e0
  have c0 : w1.cell? ⟨p, 0, none⟩ = some (.slice a n c) := by simp [World.cell?, hp1]
  have c1 : w1.cell? ⟨p, 1, none⟩ = some (.int .i64 i) := by simp [World.cell?, hp1]
  have c2 : w1.cell? ⟨p, 2, none⟩ = some (.int .i64 H) := by simp [World.cell?, hp1]
  have f1 : w1.frozen? ⟨p, 1, none⟩ = false := by simp [World.frozen?, hp1]
  go_quiet (fail)
  go_wp2
  have hX := and255 (bits BinOp.xor IntKind.i64 (H / 8589934592) (H / 35184372088832))
  generalize bits BinOp.and IntKind.i64 (bits BinOp.xor IntKind.i64 (H / 8589934592) (H / 35184372088832)) 255 = X at hX ⊢
  obtain ⟨hX0, hX1⟩ := hX
  by_cases hin2 : (i : Int) < (n : Int)
  · rcases hb with hb | ⟨b, o, rfl, hbs, hcell⟩
    · omega
    have hbp : b ≠ p := hne b o none rfl (by omega)
    obtain ⟨y, hy⟩ : ∃ y, y = xs.getD i 0 := ⟨_, rfl⟩
    have hck : w1.cell? ⟨b, o + i, none⟩ = some (.int .u8 y) := by rw [hy]; exact hg1.cell (hcell i (by omega)) (by simpa using hbp)
    have hyb : 0 ≤ y ∧ y < 256 := by rw [hy]; exact get_byte hby (by omega)
    obtain ⟨hy0, hy1⟩ := hyb
    have hi0 : (0 : Int) ≤ (i : Int) := by omega
    clear hcell hy hby
    go_quiet (fail)
    go_wp2
    go_quiet (fail)
    go_wp2
    have hZ := and255 (X + y)
    generalize bits BinOp.and IntKind.i64 (X + y) 255 = Z at hZ ⊢
    go_ret
    refine ⟨Z, rfl, hZ.1, hZ.2, ⟨i + 1, H, by omega, ?_⟩, ?_⟩
    · rw [show (((i + 1 : Nat) : Int)) = (i : Int) + 1 by omega]
      exact cur_set1 (w := w1.drewN _) hp1 ((i : Int) + 1)
    · exact grown_trans (grown_drewN hg1 _) (cur_grown2 _ _ _ _)
  · have hd : decide (i < n) = false := by simp; omega
    go_quiet (fail)
    go_wp2
    go_ret
    exact ⟨X, rfl, hX0, hX1, ⟨i, H, hin, hp1⟩, grown_drewN hg1 _⟩

set_option maxHeartbeats 1000000 in
theorem curBelow (p : Nat) (a : Option Addr) (n c : Nat) (xs : List Int) (N : Int) (w : World) (hcur : Cur w p a n c) (hcode : Coded w p a n c xs) (hN : N ≤ 9223372036854775807) :
    Calls Tryd.prog 77 #[.pointer (some ⟨p, 0, none⟩), .int .i64 N] w fun e w' => ∃ x : Int, e = .returned (.int .i64 x) ∧ 0 ≤ x ∧ (0 < N → x < N) ∧ (N ≤ 0 → x = 0) ∧ Cur w' p a n c ∧ w.grownBy w' (some p) := by
  by_cases h0 : N ≤ 0
  · go_enter Tryd.func77, Tryd.ntmps77
    go_wp2
    go_ret
    exact ⟨0, rfl, by omega, by omega, fun _ => rfl, hcur, World.grownBy.refl _ _⟩
  by_cases h1 : N ≤ 256
  · go_enter Tryd.func77, Tryd.ntmps77
    go_wp2_with fail
    refine (curByte p a n c xs _ hcur hcode).mono ?_
    rintro e w1 ⟨x, rfl, hx0, hx1, hc1, hg1⟩
    have hz : (N == 0) = false := by simp; omega
    go_wp2
    go_ret
    exact ⟨x % N, rfl, Int.emod_nonneg _ (by omega), fun h => Int.emod_lt_of_pos _ h, by omega, hc1, hg1⟩
  · go_enter Tryd.func77, Tryd.ntmps77
    go_wp2_with fail
    refine (curByte p a n c xs _ hcur hcode).mono ?_
    rintro e w1 ⟨x, rfl, hx0, hx1, hc1, hg1⟩
    have hd1 := hcode.grown hg1
    clear hcur hcode
    go_wp2_with fail
    refine (curByte p a n c xs _ hc1 hd1).mono ?_
    rintro e w2 ⟨y, rfl, hy0, hy1, hc2, hg2⟩
    have hd2 := hd1.grown hg2
    have k2 := grown_trans hg1 hg2
    clear hc1 hd1 hg1 hg2
    go_wp2_with fail
    refine (curByte p a n c xs _ hc2 hd2).mono ?_
    rintro e w3 ⟨z, rfl, hz0, hz1, hc3, hg3⟩
    have hd3 := hd2.grown hg3
    have k3 := grown_trans k2 hg3
    clear hc2 hd2 k2 hg3
    go_wp2_with fail
    refine (curByte p a n c xs _ hc3 hd3).mono ?_
    rintro e w4 ⟨u, rfl, hu0, hu1, hc4, hg4⟩
    have k4 := grown_trans k3 hg4
    clear hc3 hd3 k3 hg4
    have hz : (N == 0) = false := by simp; omega
    go_wp2
    go_ret
    exact ⟨_, rfl, Int.emod_nonneg _ (by omega), fun h => Int.emod_lt_of_pos _ h, by omega, hc4, k4⟩

set_option maxHeartbeats 1000000 in
theorem curOnce (p : Nat) (a : Option Addr) (n c : Nat) (xs : List Int) (N : Int) (w : World) (hcur : Cur w p a n c) (hcode : Coded w p a n c xs) (hN : N ≤ 9223372036854775807) :
    Calls Tryd.prog 69 #[.pointer (some ⟨p, 0, none⟩), .int .i64 N] w fun e w' => ∃ x : Bool, e = .returned (.bool x) ∧ Cur w' p a n c ∧ w.grownBy w' (some p) := by
  go_enter Tryd.func69, Tryd.ntmps69
  go_wp2_with fail
  refine (curBelow p a n c xs N _ hcur hcode hN).mono ?_
  rintro e w1 ⟨x, rfl, _, _, _, hc1, hg1⟩
  go_wp2
  go_ret
  exact ⟨_, rfl, hc1, hg1⟩
end Go.Proofs.YtofflhhlacdgfaaDoor
