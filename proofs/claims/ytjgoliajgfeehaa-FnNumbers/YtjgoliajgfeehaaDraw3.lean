/-
  What is proved here: contracts of DrawPutText, DrawHasPrefix, DrawCommon: rows of bytes of the call's own, short; nothing that was there turns; for every code.
-/
import Derived.Test.YtjgoliajgfeehaaDraw2
namespace Go.Proofs.Ytjgoliajgfeehaa
open Go.RowKit

set_option maxHeartbeats 1000000 in
theorem drawPutText (a : Option Addr) (n c : Nat) (xs : List Int) (w : World) (h : Bs w a n c xs) (hm : n ≤ 9223372036854775807) :
    Calls Try.prog 18 #[.slice a n c] w fun e w' => ∃ v l v2 l2, e = .returned (.tuple #[v, v2]) ∧ l.length ≤ 3 ∧ l2.length ≤ 65 ∧ Rw w w' v l ∧ Rw w w' v2 l2 ∧ Below w.heap.size w w' := by
  obtain ⟨i0, hi, hz0, hz1, hz2⟩ := info_parts Try.info5
  go_enter Try.func18, Try.ntmps18
  go_wp2_with fail
  refine (curNew a n c xs _ h hm).mono ?_
  rintro e w1 ⟨rfl, hc1, hd1, hs1, hb1⟩
  have D1 : Dw w w1 a n c := ⟨hb1, hc1⟩
  go_wp2_with fail
  refine (curSome w.heap.size a n c xs 3 _ hc1 hd1 (by omega)).mono ?_
  rintro e w2 ⟨v, l, rfl, hl, hlb, ho, hc2, hg2⟩
  have D2 := D1.draw hc2 hg2
  have R : Rw w w2 v l := ⟨own_base ho (by omega), hlb⟩
  clear hc1 hd1 hb1 D1 ho hg2 hlb
  go_wp2_with fail
  refine (curSome w.heap.size a n c xs 6 _ hc2 (coded_of h hm D2.fr) (by omega)).mono ?_
  rintro e w3 ⟨v2, l2, rfl, hl2, hlb2, ho2, hc3, hg3⟩
  have hs2 := D2.lt
  have D3 := D2.draw hc3 hg3
  have R3 := R.draw hg3
  have Q3 : Rw w w3 v2 l2 := ⟨own_base ho2 (by omega), hlb2⟩
  clear hc2 D2 R ho2 hg3 hlb2
  go_wp2_with fail
  refine (curOnce w.heap.size a n c xs 6 _ hc3 (coded_of h hm D3.fr) (by omega)).mono ?_
  rintro e w4 ⟨x, rfl, hc4, hg4⟩
  have D4 := D3.draw hc4 hg4
  have R4 := R3.draw hg4
  have Q4 := Q3.draw hg4
  clear hc3 D3 R3 Q3 hg4
  cases x with
  | false =>
    go_wp2
    go_ret2
    exact ⟨v, l, v2, l2, rfl, hl, by omega, R4, Q4, D4.fr⟩
  | true =>
    go_wp2_with fail
    refine (curBelow w.heap.size a n c xs 2 _ hc4 (coded_of h hm D4.fr) (by omega)).mono ?_
    rintro e w5 ⟨y, rfl, hy0, hy1, _, hc5, hg5⟩
    have hy2 := hy1 (by omega)
    have D5 := D4.draw hc5 hg5
    have R5 := R4.draw hg5
    clear hc4 D4 R4 Q4 hg5 hc5 hy1
    obtain ⟨Y, rfl⟩ := Int.eq_ofNat_of_zero_le hy0
    have hs5 := D5.lt
    go_wp2_with (at_make; refine wpList_make_full _ rfl _ _ 22 rfl (w.heap.size + 1) 5 i0 (.int .u8 0) 1 Try.underlying22 hi hz0 hz1 .i64 .i64 (64 + (Y : Int)) (64 + (Y : Int)) (64 + Y) rfl rfl (by omega) (by omega) (by rw [hz2]; omega) (by unfold maxLen; omega) hs5 ?_; intro w6 hown hgrow)
    have D6 : Dw w w6 a n c := ⟨D5.fr.grown hgrow D5.fr.size (by intro k hk; cases hk), cur_keep D5.cur hgrow (by simp)⟩
    have R6 : Rw w w6 v l := ⟨R5.1.kept hgrow (by cases v.ownBlock <;> simp), R5.2⟩
    have Q6 : Rw w w6 (.slice (some ⟨w5.heap.size, 0, none⟩) (64 + Y) (64 + Y)) (List.replicate (64 + Y) 0) := by
      refine ⟨?_, fun x hx => by have := List.eq_of_mem_replicate hx; omega⟩
      have e : (madeCells (Value.int IntKind.u8 0).cells ((64 + Y) * 1)).toList = U8 (List.replicate (64 + Y) 0) := by
        rw [Nat.mul_one]; simpa [U8, Value.cells] using toList_madeCells_one (.int .u8 0) (64 + Y)
      rw [← e]; simpa using hown
    clear hown hgrow D5 R5
    go_wp2
    go_ret2
    exact ⟨v, l, _, _, rfl, hl, by simp; omega, R6, Q6, D6.fr⟩

theorem own_draw' {W W' : World} {p B m : Nat} {v : Value} {l : List Value} (h : W.ownsRow B 5 1 v m l) (hB : p < B) (hg : W.grownBy W' (some p)) : W'.ownsRow B 5 1 v m l :=
  h.kept hg (by
    cases hv : v.ownBlock with
    | none => exact .inl rfl
    | some k => exact .inr (fun e => by have := (h.lt k hv).1; simp at e; omega))

theorem made0 (W : World) (B : Nat) (h : B ≤ W.heap.size) : (W.alloc (.cells #[] 5)).ownsRow B 5 1 (.slice (some ⟨W.heap.size, 0, none⟩) 0 0) 0 (U8 []) :=
  World.ownsRow_made W #[] 0 h (by unfold maxLen; omega) rfl

set_option maxHeartbeats 1000000 in
theorem drawHasPrefix (a : Option Addr) (n c : Nat) (xs : List Int) (w : World) (h : Bs w a n c xs) (hm : n ≤ 9223372036854775807) :
    Calls Try.prog 25 #[.slice a n c] w fun e w' => ∃ v l v2 l2, e = .returned (.tuple #[v, v2]) ∧ l.length ≤ 6 ∧ l2.length ≤ 6 ∧ Rw w w' v l ∧ Rw w w' v2 l2 ∧ Below w.heap.size w w' := by
  go_enter Try.func25, Try.ntmps25
  go_wp2_with fail
  refine (curNew a n c xs _ h hm).mono ?_
  rintro e w1 ⟨rfl, hc1, hd1, hs1, hb1⟩
  have D1 : Dw w w1 a n c := ⟨hb1, hc1⟩
  go_wp2_with fail
  refine (curSome w.heap.size a n c xs 6 _ hc1 hd1 (by omega)).mono ?_
  rintro e w2 ⟨v, l, rfl, hl, hlb, ho, hc2, hg2⟩
  have D2 := D1.draw hc2 hg2
  have R : Rw w w2 v l := ⟨own_base ho (by omega), hlb⟩
  clear hc1 hd1 hb1 D1 ho hg2 hlb
  go_wp2_with fail
  refine (curOnce w.heap.size a n c xs 2 _ hc2 (coded_of h hm D2.fr) (by omega)).mono ?_
  rintro e w4 ⟨x, rfl, hc4, hg4⟩
  have D4 := D2.draw hc4 hg4
  have R4 := R.draw hg4
  clear hc2 D2 R hg4
  cases x with
  | false =>
    go_wp2_with fail
    refine (curSome w.heap.size a n c xs 4 _ hc4 (coded_of h hm D4.fr) (by omega)).mono ?_
    rintro e w3 ⟨v2, l2, rfl, hl2, hlb2, ho2, hc3, hg3⟩
    have hs2 := D4.lt
    have D3 := D4.draw hc3 hg3
    have R3 := R4.draw hg3
    have Q3 : Rw w w3 v2 l2 := ⟨own_base ho2 (by omega), hlb2⟩
    clear hc4 D4 R4 ho2 hg3 hlb2
    go_wp2
    go_ret2
    exact ⟨v, l, v2, l2, rfl, hl, by omega, R3, Q3, D3.fr⟩
  | true =>
    have hs4 := D4.lt
    have D5 := D4.alloc (.cells #[] 5)
    have R5 := R4.alloc (.cells #[] 5)
    have E5 := made0 w4 (w.heap.size + 1) hs4
    have hap := apart_of R4.1 (made0 w4 w4.heap.size (Nat.le_refl _)) (Nat.le_refl _)
    obtain ⟨av, cv, rfl, had, _⟩ := R5.slice
    have hcap : l.length ≤ cv := by obtain ⟨_, _, hcc, _, _⟩ := bs_of_own R5.1 R5.2; exact hcc
    have hcm : cv ≤ maxLen := by
      rcases R5.1.2 with ⟨hv, _⟩ | ⟨g, cap, cur, hv, _, _, _, h6, _⟩
      · simp at hv; unfold maxLen; omega
      · simp at hv; omega
    unfold maxLen at hcm
    clear D4 R4
    go_wp2_with fail
    refine (curBelow w.heap.size a n c xs _ _ D5.cur (coded_of h hm D5.fr) (by omega)).mono ?_
    rintro e w6 ⟨y, rfl, hy0, hy1, _, hc6, hg6⟩
    have hy2 := hy1 (by omega)
    have D6 := D5.draw hc6 hg6
    have R6 := R5.draw hg6
    have E6 := own_draw E5 hg6
    clear D5 R5 E5 hy1 hc6 hc4
    obtain ⟨Y, rfl⟩ := Int.eq_ofNat_of_zero_le hy0
    have hY : Y ≤ l.length := by omega
    have hBt := (bs_of_own R6.1 R6.2).take Y hY
    have hs6 := D6.lt
    rcases had with ⟨rfl, hl0, rfl⟩ | ⟨bv, ov, rfl⟩
    · have hY0 : Y = 0 := by omega
      subst hY0
      have hl1 : l = [] := List.eq_nil_of_length_eq_zero hl0
      subst hl1
      go_wp2_with (at_builtin; refine wpl_append_bs rfl _ _ rfl (w.heap.size + 1) _ 0 [] rfl none 0 0 [] rfl E6 hBt ?_ ?_ ?_)
      · omega
      · exact hs6
      intro v7 w7 h7 g7 _
      have D7 := D6.app E6 g7
      have R7 := R6.kept g7 hap.symm
      have Q7 : Rw w w7 v7 [] := ⟨by simpa using h7, by simp⟩
      clear D6 R6 E6 hap h7 g7 hBt
      go_wp2
      go_ret2
      exact ⟨_, [], v7, [], rfl, by simp, by simp, R7, Q7, D7.fr⟩
    · go_wp2_with (at_builtin; refine wpl_append_bs rfl _ _ rfl (w.heap.size + 1) _ 0 [] rfl (some ⟨bv, ov, none⟩) Y cv (l.take Y) rfl E6 hBt ?_ ?_ ?_)
      · omega
      · exact hs6
      intro v7 w7 h7 g7 _
      have D7 := D6.app E6 g7
      have R7 := R6.kept g7 hap.symm
      have Q7 : Rw w w7 v7 (l.take Y) := by
        refine ⟨?_, fun x hx => R6.2 x (List.mem_of_mem_take hx)⟩
        have e : (l.take Y).length = Y := by simp; omega
        rw [e]; simpa using h7
      clear D6 R6 E6 hap h7 g7 hBt
      go_wp2
      go_ret2
      exact ⟨_, l, v7, l.take Y, rfl, hl, by simp; omega, R7, Q7, D7.fr⟩

set_option maxHeartbeats 1000000 in
theorem drawCommon (a : Option Addr) (n c : Nat) (xs : List Int) (w : World) (h : Bs w a n c xs) (hm : n ≤ 9223372036854775807) :
    Calls Try.prog 23 #[.slice a n c] w fun e w' => ∃ v l v2 l2, e = .returned (.tuple #[v, v2]) ∧ l.length ≤ 6 ∧ l2.length ≤ 9 ∧ Rw w w' v l ∧ Rw w w' v2 l2 ∧ v2 ≠ .slice none 0 0 ∧ Below w.heap.size w w' := by
  go_enter Try.func23, Try.ntmps23
  go_wp2_with fail
  refine (curNew a n c xs _ h hm).mono ?_
  rintro e w1 ⟨rfl, hc1, hd1, hs1, hb1⟩
  have D1 : Dw w w1 a n c := ⟨hb1, hc1⟩
  go_wp2_with fail
  refine (curSome w.heap.size a n c xs 6 _ hc1 hd1 (by omega)).mono ?_
  rintro e w4 ⟨v, l, rfl, hl, hlb, ho, hc4, hg2⟩
  have D4 := D1.draw hc4 hg2
  have R4 : Rw w w4 v l := ⟨own_base ho (by omega), hlb⟩
  clear hc1 hd1 hb1 D1 ho hg2 hlb
  have hs4 := D4.lt
  have D5 := D4.alloc (.cells #[] 5)
  have R5 := R4.alloc (.cells #[] 5)
  have E5 := made0 w4 w4.heap.size (Nat.le_refl _)
  have O4 : Hid _ := R4.1
  have hap := apart_of R4.1 (made0 w4 w4.heap.size (Nat.le_refl _)) (Nat.le_refl _)
  obtain ⟨av, cv, rfl, had, _⟩ := R5.slice
  have hcap : l.length ≤ cv := by obtain ⟨_, _, hcc, _, _⟩ := bs_of_own R5.1 R5.2; exact hcc
  have hcm : cv ≤ maxLen := by
    rcases R5.1.2 with ⟨hv, _⟩ | ⟨g, cap, cur, hv, _, _, _, h6, _⟩
    · simp at hv; unfold maxLen; omega
    · simp at hv; omega
  unfold maxLen at hcm
  clear D4 R4 hc4
  go_wp2_with fail
  refine (curBelow w.heap.size a n c xs _ _ D5.cur (coded_of h hm D5.fr) (by omega)).mono ?_
  rintro e w6 ⟨y, rfl, hy0, hy1, _, hc6, hg6⟩
  have hy2 := hy1 (by omega)
  have D6 := D5.draw hc6 hg6
  have R6 := R5.draw hg6
  have E6 := own_draw' E5 (by omega) hg6
  have hs64 : w4.heap.size ≤ w6.heap.size := by have := hg6.size; simp at this; omega
  clear D5 R5 E5 hy1 hc6
  obtain ⟨Y, rfl⟩ := Int.eq_ofNat_of_zero_le hy0
  have hY : Y ≤ l.length := by omega
  have hBt := (bs_of_own R6.1 R6.2).take Y hY
  have hs6 := D6.lt
  rcases had with ⟨rfl, hl0, rfl⟩ | ⟨bv, ov, rfl⟩
  · have hY0 : Y = 0 := by omega
    subst hY0
    have hl1 : l = [] := List.eq_nil_of_length_eq_zero hl0
    subst hl1
    go_wp2_with (at_builtin; refine wpl_append_bs rfl _ _ rfl w4.heap.size _ 0 [] rfl none 0 0 [] rfl E6 hBt ?_ ?_ ?_)
    · omega
    · exact hs64
    intro v7 w7 h7 g7 N7
    have AP8 := apart_of O4.out h7 (Nat.le_refl _)
    have M7 : v7 ≠ .slice none 0 0 := by simpa using N7
    clear N7
    have D7 := D6.app (own_base E6 hs4) g7
    have R7 := R6.kept g7 hap.symm
    have Q7 : Rw w w7 v7 [] := by
      exact ⟨by simpa using own_base h7 hs4, by simp⟩
    clear D6 R6 E6 hap h7 g7 hBt
    go_wp2_with fail
    refine (curSome w.heap.size a n c xs 3 _ D7.cur (coded_of h hm D7.fr) (by omega)).mono ?_
    rintro e w8 ⟨v8, l8, rfl, hl8, hlb8, ho8, hc8, hg8⟩
    have hs7 := D7.lt
    have D8 := D7.draw hc8 hg8
    have R8 := R7.draw hg8
    have Q8 := Q7.draw hg8
    have T8 : Rw w w8 v8 l8 := ⟨own_base ho8 (by omega), hlb8⟩
    have hap8 : Apart (Value.slice none 0 0) v7 := AP8
    clear D7 R7 Q7 ho8 hc8 hg8 hlb8
    obtain ⟨a8, c8, rfl, _, hB8⟩ := T8.slice
    go_wp2_with (at_builtin; refine wpl_append_bs rfl _ _ rfl (w.heap.size + 1) _ ([] : List Int).length [] rfl a8 l8.length c8 l8 rfl Q8.1 hB8 ?_ ?_ ?_)
    · first | omega | (simp; omega)
    · exact D8.lt
    intro v9 w9 h9 g9 N9
    have D9 := D8.app Q8.1 g9
    have M9 : v9 ≠ .slice none 0 0 := N9
    clear N9
    have R9 := R8.kept g9 (Apart.symm hap8)
    have Q9 : Rw w w9 v9 ([] ++ l8) := by
      refine ⟨?_, fun x hx => ?_⟩
      · rw [List.length_append]; simpa using h9
      · rcases List.mem_append.1 hx with k | k
        · exact Q8.2 x k
        · exact T8.2 x k
    clear D8 R8 Q8 T8 h9 g9 hB8 hap8
    go_wp2
    go_ret2
    exact ⟨_, [], v9, _, rfl, by simp, by simp; omega, R9, Q9, M9, D9.fr⟩
  · go_wp2_with (at_builtin; refine wpl_append_bs rfl _ _ rfl w4.heap.size _ 0 [] rfl (some ⟨bv, ov, none⟩) Y cv (l.take Y) rfl E6 hBt ?_ ?_ ?_)
    · omega
    · exact hs64
    intro v7 w7 h7 g7 N7
    have AP8 := apart_of O4.out h7 (Nat.le_refl _)
    have M7 : v7 ≠ .slice none 0 0 := by simpa using N7
    clear N7
    have D7 := D6.app (own_base E6 hs4) g7
    have R7 := R6.kept g7 hap.symm
    have Q7 : Rw w w7 v7 (l.take Y) := by
      refine ⟨?_, fun x hx => R6.2 x (List.mem_of_mem_take hx)⟩
      have e : (l.take Y).length = Y := by simp; omega
      rw [e]; simpa using own_base h7 hs4
    clear D6 R6 E6 hap h7 g7 hBt
    go_wp2_with fail
    refine (curSome w.heap.size a n c xs 3 _ D7.cur (coded_of h hm D7.fr) (by omega)).mono ?_
    rintro e w8 ⟨v8, l8, rfl, hl8, hlb8, ho8, hc8, hg8⟩
    have hs7 := D7.lt
    have D8 := D7.draw hc8 hg8
    have R8 := R7.draw hg8
    have Q8 := Q7.draw hg8
    have T8 : Rw w w8 v8 l8 := ⟨own_base ho8 (by omega), hlb8⟩
    have hap8 : Apart (Value.slice (some ⟨bv, ov, none⟩) l.length cv) v7 := AP8
    clear D7 R7 Q7 ho8 hc8 hg8 hlb8
    obtain ⟨a8, c8, rfl, _, hB8⟩ := T8.slice
    go_wp2_with (at_builtin; refine wpl_append_bs rfl _ _ rfl (w.heap.size + 1) _ (l.take Y).length (l.take Y) rfl a8 l8.length c8 l8 rfl Q8.1 hB8 ?_ ?_ ?_)
    · simp; omega
    · exact D8.lt
    intro v9 w9 h9 g9 N9
    have D9 := D8.app Q8.1 g9
    have M9 : v9 ≠ .slice none 0 0 := N9
    clear N9
    have R9 := R8.kept g9 (Apart.symm hap8)
    have Q9 : Rw w w9 v9 (l.take Y ++ l8) := by
      refine ⟨?_, fun x hx => ?_⟩
      · rw [List.length_append, show (l.take Y).length = Y by simp; omega]; simpa using h9
      · rcases List.mem_append.1 hx with k | k
        · exact Q8.2 x k
        · exact T8.2 x k
    clear D8 R8 Q8 T8 h9 g9 hB8 hap8
    go_wp2
    go_ret2
    exact ⟨_, l, v9, _, rfl, hl, by simp; omega, R9, Q9, M9, D9.fr⟩
end Go.Proofs.Ytjgoliajgfeehaa
