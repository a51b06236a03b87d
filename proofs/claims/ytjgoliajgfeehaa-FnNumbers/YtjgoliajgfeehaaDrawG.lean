/-
  What is proved here: the contract of DrawGetNum: a row of bytes of the call's own, short, and a place; nothing that was there turns; for every code.
-/
import Derived.Test.YtjgoliajgfeehaaSpoil
import Derived.Test.YtjgoliajgfeehaaNum
namespace Go.Proofs.Ytjgoliajgfeehaa
open Go.RowKit
open Ma

theorem Dw.below' {w W W' : World} {a : Option Addr} {n c : Nat} (h : Dw w W a n c) (hb : Below W.heap.size W W') : Dw w W' a n c := by
  have hlt := cur_lt h.cur
  refine ⟨h.fr.trans (hb.mono h.fr.size), ?_⟩
  obtain ⟨i, hh, hi, hp⟩ := h.cur
  exact ⟨i, hh, hi, (hb.block _ hlt).trans hp⟩

set_option maxHeartbeats 2000000 in
theorem drawGetNum (a : Option Addr) (n c : Nat) (xs : List Int) (w : World) (h : Bs w a n c xs) (hm : n ≤ 9223372036854775807) :
    Calls Try.prog 22 #[.slice a n c] w fun e w' => ∃ v l, ∃ P : Int, e = .returned (.tuple #[v, .int .i64 P]) ∧ l.length ≤ 20 ∧ P ≤ 9223372036854775807 ∧ Rw w w' v l ∧ Below w.heap.size w w' := by
  go_enter Try.func22, Try.ntmps22
  go_wp2_with fail
  refine (curNew a n c xs _ h hm).mono ?_
  rintro e w1 ⟨rfl, hc1, hd1, hs1, hb1⟩
  have D1 : Dw w w1 a n c := ⟨hb1, hc1⟩
  go_wp2_with fail
  refine (curSome w.heap.size a n c xs 3 _ hc1 hd1 (by omega)).mono ?_
  rintro e w2 ⟨v, l, rfl, hl, hlb, ho, hc2, hg2⟩
  have D2 := D1.draw hc2 hg2
  have R2 : Rw w w2 v l := ⟨own_base ho (by omega), hlb⟩
  clear hc1 hd1 hb1 D1 ho hg2 hc2 hlb
  obtain ⟨a2, c2, rfl, _, _⟩ := R2.slice
  go_wp2_with fail
  refine (curNum w.heap.size a n c xs _ D2.cur (coded_of h hm D2.fr)).mono ?_
  rintro e w3 ⟨X, rfl, hX0, hX1, hc3, hg3⟩
  have D3 := D2.draw hc3 hg3
  have R3 := R2.draw hg3
  clear D2 R2 hc3 hg3
  have hs3 := D3.lt
  have hnb := numB_len X
  have hxD : ∀ x ∈ l ++ numB X, 0 ≤ x ∧ x < 256 := by
    intro x hx
    rcases List.mem_append.1 hx with k | k
    · exact R3.2 x k
    · exact numB_byte _ x k
  go_wp2_with fail
  refine (specPut a2 l.length c2 l X _ (bs_of_own R3.1 R3.2) (by omega)).mono ?_
  rintro e w4 ⟨v4, rfl, o4, b4⟩
  have D4 := D3.below' b4
  have R4 : Rw w w4 v4 (l ++ numB X) := ⟨by rw [List.length_append]; exact own_base o4 (by omega), hxD⟩
  clear D3 R3 o4 b4 hxD
  have hl4 : (l ++ numB X).length ≤ 8 := by simp; omega
  generalize l ++ numB X = L4 at R4 hl4
  go_wp2_with fail
  refine (curSome w.heap.size a n c xs 3 _ D4.cur (coded_of h hm D4.fr) (by omega)).mono ?_
  rintro e w5 ⟨v5, l5, rfl, hl5, hlb5, ho5, hc5, hg5⟩
  have hs4 := D4.lt
  have D5 := D4.draw hc5 hg5
  have R5 := R4.draw hg5
  have T5 : Rw w w5 v5 l5 := ⟨own_base ho5 (by omega), hlb5⟩
  obtain ⟨a5, c5, rfl, _, hB5⟩ := T5.slice
  clear D4 R4 ho5 hc5 hg5 hlb5
  go_wp2_with (at_builtin; refine wpl_append_bs rfl _ _ rfl (w.heap.size + 1) _ L4.length L4 rfl a5 l5.length c5 l5 rfl R5.1 hB5 ?_ ?_ ?_)
  · omega
  · exact D5.lt
  intro v6 w6 h6 g6 _
  have D6 := D5.app R5.1 g6
  have R6 : Rw w w6 v6 (L4 ++ l5) := by
    refine ⟨by rw [List.length_append]; simpa using h6, fun x hx => ?_⟩
    rcases List.mem_append.1 hx with k | k
    · exact R5.2 x k
    · exact T5.2 x k
  have hl6 : (L4 ++ l5).length ≤ 11 := by simp; omega
  generalize L4 ++ l5 = L6 at R6 hl6
  clear D5 R5 T5 hB5 h6 g6
  go_wp2_with fail
  refine (curOnce w.heap.size a n c xs 3 _ D6.cur (coded_of h hm D6.fr) (by omega)).mono ?_
  rintro e w7 ⟨x, rfl, hc7, hg7⟩
  have D7 := D6.draw hc7 hg7
  have R7 := R6.draw hg7
  obtain ⟨a7, c7, rfl, _, hB7⟩ := R7.slice
  have hs7 := D7.lt
  clear D6 R6 hc7 hg7
  cases x with
  | false =>
    clear hB7
    go_wp2_with fail
    refine (curOnce w.heap.size a n c xs 6 _ D7.cur (coded_of h hm D7.fr) (by omega)).mono ?_
    rintro e w9 ⟨z, rfl, hc9, hg9⟩
    have D9 := D7.draw hc9 hg9
    have R9 := R7.draw hg9
    clear D7 R7 hc9 hg9
    cases z with
    | false =>
      go_wp2
      go_ret2
      exact ⟨_, L6, _, rfl, by omega, by omega, R9, D9.fr⟩
    | true =>
      have hA := D9.alloc (.cells (([-1, 0, (L6.length : Int), (L6.length : Int) + 1, 9223372036854775807, -9223372036854775808] : List Int).map (Value.int .i64)).toArray 3)
      have rA := R9.alloc (.cells (([-1, 0, (L6.length : Int), (L6.length : Int) + 1, 9223372036854775807, -9223372036854775808] : List Int).map (Value.int .i64)).toArray 3)
      have hcell := cells_arr w9 [-1, 0, (L6.length : Int), (L6.length : Int) + 1, 9223372036854775807, -9223372036854775808] 3
      have hs9 := D9.lt
      go_wp2_with fail
      refine (curPick w.heap.size a n c xs w9.heap.size 6 [-1, 0, (L6.length : Int), (L6.length : Int) + 1, 9223372036854775807, -9223372036854775808] _ hA.cur (coded_of h hm hA.fr) rfl (by omega) (by omega) (by omega) (fun j hj => hcell j hj)).mono ?_
      rintro e w10 ⟨Y, rfl, hY, hc10, hg10⟩
      have D10 := hA.draw hc10 hg10
      have R10 := rA.draw hg10
      have hYb : Y ≤ 9223372036854775807 := by
        simp only [List.mem_cons, List.not_mem_nil, or_false] at hY
        omega
      clear hA rA hcell D9 R9 hY hc10 hg10
      go_wp2
      go_ret2
      exact ⟨_, L6, Y, rfl, by omega, hYb, R10, D10.fr⟩
  | true =>
    go_wp2_with fail
    refine (curSpoil w.heap.size a n c xs a7 c7 L6 _ D7.cur (coded_of h hm D7.fr) hB7 (by omega)).mono ?_
    rintro e w8 ⟨v8, l8, rfl, hl8, hlb8, ho8, hc8, hg8⟩
    have D8 := D7.draw hc8 hg8
    have R8 : Rw w w8 v8 l8 := ⟨own_base ho8 (by omega), hlb8⟩
    obtain ⟨a8, c8, rfl, _, _⟩ := R8.slice
    clear D7 R7 hB7 hc8 hg8 ho8 hlb8
    go_wp2_with fail
    refine (curOnce w.heap.size a n c xs 6 _ D8.cur (coded_of h hm D8.fr) (by omega)).mono ?_
    rintro e w9 ⟨z, rfl, hc9, hg9⟩
    have D9 := D8.draw hc9 hg9
    have R9 := R8.draw hg9
    clear D8 R8 hc9 hg9
    cases z with
    | false =>
      go_wp2
      go_ret2
      exact ⟨_, l8, _, rfl, by omega, by omega, R9, D9.fr⟩
    | true =>
      have hA := D9.alloc (.cells (([-1, 0, (l8.length : Int), (l8.length : Int) + 1, 9223372036854775807, -9223372036854775808] : List Int).map (Value.int .i64)).toArray 3)
      have rA := R9.alloc (.cells (([-1, 0, (l8.length : Int), (l8.length : Int) + 1, 9223372036854775807, -9223372036854775808] : List Int).map (Value.int .i64)).toArray 3)
      have hcell := cells_arr w9 [-1, 0, (l8.length : Int), (l8.length : Int) + 1, 9223372036854775807, -9223372036854775808] 3
      have hs9 := D9.lt
      go_wp2_with fail
      refine (curPick w.heap.size a n c xs w9.heap.size 6 [-1, 0, (l8.length : Int), (l8.length : Int) + 1, 9223372036854775807, -9223372036854775808] _ hA.cur (coded_of h hm hA.fr) rfl (by omega) (by omega) (by omega) (fun j hj => hcell j hj)).mono ?_
      rintro e w10 ⟨Y, rfl, hY, hc10, hg10⟩
      have D10 := hA.draw hc10 hg10
      have R10 := rA.draw hg10
      have hYb : Y ≤ 9223372036854775807 := by
        simp only [List.mem_cons, List.not_mem_nil, or_false] at hY
        omega
      clear hA rA hcell D9 R9 hY hc10 hg10
      go_wp2
      go_ret2
      exact ⟨_, l8, Y, rfl, by omega, hYb, R10, D10.fr⟩
end Go.Proofs.Ytjgoliajgfeehaa
