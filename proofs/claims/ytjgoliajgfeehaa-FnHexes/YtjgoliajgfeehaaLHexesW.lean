/-
  What is proved here: the law on digits returns true at every code, and writes into nothing that was there.
-/
import Derived.Test.YtjgoliajgfeehaaHexM
import Derived.Test.YtjgoliajgfeehaaSpoil
import Derived.Test.YtjgoliajgfeehaaPrefM
namespace Go.Proofs.Ytjgoliajgfeehaa
open Go.RowKit

theorem Dw.below {w W W' : World} {a : Option Addr} {n c : Nat} (h : Dw w W a n c) (hb : Below W.heap.size W W') : Dw w W' a n c := by
  have hlt := cur_lt h.cur
  refine ⟨h.fr.trans (hb.mono h.fr.size), ?_⟩
  obtain ⟨i, hh, hi, hp⟩ := h.cur
  exact ⟨i, hh, hi, (hb.block _ hlt).trans hp⟩

set_option maxHeartbeats 1000000 in
theorem drawHexRead (a : Option Addr) (n c : Nat) (xs : List Int) (w : World) (h : Bs w a n c xs) (hm : n ≤ 9223372036854775807) :
    Calls Try.prog 32 #[.slice a n c] w fun e w' => ∃ v l, e = .returned v ∧ l.length ≤ 13 ∧ Rw w w' v l ∧ Below w.heap.size w w' := by
  go_enter Try.func32, Try.ntmps32
  go_wp2_with fail
  refine (curNew a n c xs _ h hm).mono ?_
  rintro e w1 ⟨rfl, hc1, hd1, hs1, hb1⟩
  have D1 : Dw w w1 a n c := ⟨hb1, hc1⟩
  go_wp2_with fail
  refine (curSome w.heap.size a n c xs 6 _ hc1 hd1 (by omega)).mono ?_
  rintro e w2 ⟨v, l, rfl, hl, hlb, ho, hc2, hg2⟩
  have D2 := D1.draw hc2 hg2
  obtain ⟨av, cv, rfl, _, hB⟩ := Bs.own ho hlb
  clear hc1 hd1 hb1 D1 ho hg2 hc2
  go_wp2_with fail
  refine (specHex av l.length cv l _ hB (by omega)).mono ?_
  rintro e w3 ⟨v3, rfl, ho3, b3⟩
  have D3 := D2.below b3
  have hs2 := D2.lt
  have e12 : (hexOf l).length ≤ 12 := by unfold hexOf; split; simp; rw [hexL_len]; omega
  have hxb : ∀ x ∈ hexOf l, 0 ≤ x ∧ x < 256 := by unfold hexOf; split; simp; exact hexL_byte l hlb
  have R3 : Rw w w3 v3 (hexOf l) := ⟨own_base ho3 (by omega), hxb⟩
  generalize hexOf l = H at R3 e12 hxb ho3
  clear hB D2 b3 hlb ho3 hxb
  go_wp2_with fail
  refine (curOnce w.heap.size a n c xs 3 _ D3.cur (coded_of h hm D3.fr) (by omega)).mono ?_
  rintro e w4 ⟨x, rfl, hc4, hg4⟩
  have D4 := D3.draw hc4 hg4
  have R4 := R3.draw hg4
  clear D3 R3 hc4 hg4
  cases x with
  | false =>
    go_wp2
    go_ret
    exact ⟨v3, H, rfl, by omega, R4, D4.fr⟩
  | true =>
    obtain ⟨a4, c4, rfl, _, hB4⟩ := R4.slice
    have hs4 := D4.lt
    go_wp2_with fail
    refine (curSpoil w.heap.size a n c xs a4 c4 H _ D4.cur (coded_of h hm D4.fr) hB4 (by omega)).mono ?_
    rintro e w5 ⟨v5, l5, rfl, hl5, hlb5, ho5, hc5, hg5⟩
    have D5 := D4.draw hc5 hg5
    have R5 : Rw w w5 v5 l5 := ⟨own_base ho5 (by omega), hlb5⟩
    clear D4 R4 hB4 hc5 hg5 ho5 hlb5
    go_wp2
    go_ret
    exact ⟨v5, l5, rfl, by omega, R5, D5.fr⟩

set_option maxHeartbeats 1000000 in
theorem walk_fnHexes (w : World) (a : Option Addr) (n c : Nat) (xs : List Int) (h : Bs w a n c xs) (hm : n ≤ 9223372036854775807) :
    Calls Try.prog 5 #[.slice a n c] w fun e w' => e = .returned (.bool true) ∧ Below w.heap.size w w' := by
  go_enter Try.func5, Try.ntmps5
  go_wp2_with fail
  refine (drawHex a n c xs _ h hm).mono ?_
  rintro e w1 ⟨vb, b, rfl, hb9, RB, d1⟩
  obtain ⟨ab, cb, rfl, _, hB⟩ := RB.slice
  have hbb := RB.2
  clear RB
  go_wp2_with fail
  refine (implHex ab b.length cb b _ hB (by omega)).mono ?_
  rintro e w2 ⟨v2, rfl, o2, d2⟩
  have eH : hexOf b = hexL b := by unfold hexOf; rw [if_neg (by omega)]
  have eL : (hexOf b).length = 2 * b.length := by rw [eH, hexL_len]
  have hxb : ∀ x ∈ hexOf b, 0 ≤ x ∧ x < 256 := by rw [eH]; exact hexL_byte b hbb
  have eR : hexRd (hexOf b) = (b, true) := by rw [eH]; exact hexRd_hexL b hbb (by omega)
  generalize hexOf b = H at o2 eL hxb eR eH
  clear eH
  obtain ⟨a2, c2, rfl, _, hB2⟩ := Bs.own o2 hxb
  have g2 := d1.trans (d2.mono d1.size)
  have hBb := hB.below d2
  clear hB d1 d2 o2
  have HX : Hid _ := hxb
  have I2 := fun w hh => implHexR a2 H.length c2 H w hh (by omega)
  rw [eR] at I2
  simp only at I2
  rw [eL] at I2 hB2 ⊢
  have I2' : Hid _ := I2
  clear I2 hxb eR
  go_wp2_with fail
  refine (I2'.out _ hB2).mono ?_
  rintro e w3 ⟨v3, rfl, o3, d3⟩
  obtain ⟨a3, c3, rfl, _, hB3⟩ := Bs.own o3 hbb
  have g3 := g2.trans (d3.mono g2.size)
  have hBb3 := hBb.below d3
  clear o3 d3 g2 hBb hB2 I2' HX eL
  have hne : ((2 * (b.length : Int)) != 2 * (b.length : Int)) = false := by simp
  go_wp2_with fail
  refine (sameT a3 ab b.length c3 b.length cb b b _ hB3 hBb3 rfl).mono ?_
  rintro e w4 ⟨rfl, rfl⟩
  clear hB3 hBb3
  go_wp2_with fail
  refine (drawHexRead a n c xs _ (h.below g3) hm).mono ?_
  rintro e w5 ⟨v5, l, rfl, hl13, R5, d5⟩
  obtain ⟨a5, c5, rfl, _, hB5⟩ := R5.slice
  have g5 := g3.trans (d5.mono g3.size)
  have hlb := R5.2
  clear R5 d5 g3 h hm
  have hHR := hexL_hexRd l
  have hHb := hexRd_byte l
  have hHl := hexRd_len l
  have I5 := fun w hh => implHexR a5 l.length c5 l w hh (by omega)
  generalize hexRd l = r at hHR hHb hHl I5
  obtain ⟨ys, B⟩ := r
  simp only at hHR hHb hHl I5
  have I5' : Hid _ := I5
  clear I5
  go_wp2_with fail
  refine (I5'.out _ hB5).mono ?_
  rintro e w6 ⟨v6, rfl, o6, d6⟩
  have g6 := g5.trans (d6.mono g5.size)
  cases B with
  | false =>
    go_wp2
    go_ret
    exact ⟨rfl, g6⟩
  | true =>
    have hyl := hHR rfl
    obtain ⟨a6, c6, rfl, _, hB6⟩ := Bs.own o6 hHb
    have hB56 := hB5.below d6
    have HY : Hid _ := hyl
    clear hyl hHR o6 d6 g5 hB5 I5'
    go_wp2_with fail
    refine (implHex a6 ys.length c6 ys _ hB6 (by omega)).mono ?_
    rintro e w7 ⟨v7, rfl, o7, d7⟩
    have g7 := g6.trans (d7.mono g6.size)
    have hB57 := hB56.below d7
    rw [HY.out] at o7
    obtain ⟨a7, c7, rfl, _, hB7⟩ := Bs.own o7 hlb
    clear o7 d7 hB56 g6 hB6
    go_wp2_with fail
    refine (sameT a7 a5 l.length c7 l.length c5 l l _ hB7 hB57 rfl).mono ?_
    rintro e w8 ⟨rfl, rfl⟩
    go_wp2
    go_ret
    exact ⟨rfl, g7⟩
end Go.Proofs.Ytjgoliajgfeehaa
