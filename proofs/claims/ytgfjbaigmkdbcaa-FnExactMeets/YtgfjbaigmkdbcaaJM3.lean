/-
  What is proved here: contracts of two helpers of the exact laws (mark a slice of bytes, look whether the marks are held), for every slice of at most 2^21 bytes; the contract of a helper of the exact laws (hold two slices of ints against each other), for every slice of at most 2^21 ints; the contract of the laws' count of a slice of bytes; what the laws' toPart, eqPart, szPart answer.
-/
import Derived.Test.YtgfjbaigmkdbcaaJM2
import Derived.Test.YtgfjbaigmkdbcaaProg
import Derived.Test.YtgfjbaigmkdbcaaJM1
import Derived.Deep.QuietTactic
import Derived.BigQuiet
namespace Go.Proofs.Ytgfjbaigmkdbcaa
open Go.RowKit

/-- The marks: k0, k0 + 1, .. as bytes. -/
def marks (k0 : Int) (n : Nat) : List Int := (List.range n).map (fun j : Nat => (k0 + (j : Int)) % 256)
theorem marks_len (k0 : Int) (n : Nat) : (marks k0 n).length = n := by simp [marks]
theorem marks_get (k0 : Int) (n k : Nat) (h : k < n) : (marks k0 n).getD k 0 = (k0 + (k : Int)) % 256 := by simp [marks, h]
theorem marks_byte (k0 : Int) (n : Nat) : ∀ x ∈ marks k0 n, 0 ≤ x ∧ x < 256 := by
  intro x hx; simp only [marks, List.mem_map] at hx; obtain ⟨j, _, rfl⟩ := hx; omega
theorem set_marks (xs : List Int) (k0 : Int) (n k : Nat) (h : k < n) (hn : xs.length = n) :
    (U8 (marks k0 k ++ xs.drop k)).set k (.int .u8 ((k0 + (k : Int)) % 256)) = U8 (marks k0 (k + 1) ++ xs.drop (k + 1)) := by
  have e : xs.drop k = xs.getD k 0 :: xs.drop (k + 1) := by
    rw [List.drop_eq_getElem_cons (by omega)]; simp [show k < xs.length by omega]
  have e2 : marks k0 (k + 1) = marks k0 k ++ [(k0 + (k : Int)) % 256] := by simp [marks, List.range_succ]
  rw [e, e2]
  simp only [U8, List.map_append, List.map_cons]
  rw [List.set_append_right _ _ (by simp [marks_len])]
  simp [marks_len]

set_option maxHeartbeats 400000 in
theorem markB (B n : Nat) (v : Value) (k0 : Int) (xs : List Int) (w : World) (hown : w.ownsRow B 5 1 v n (U8 xs)) (hn : n ≤ 2097152) (h0 : 0 ≤ k0) (h1 : k0 ≤ 4611686018427387904) :
    Calls Try.prog 24 #[v, .int .i64 k0] w fun e w' => e = .returned (.int .i64 (k0 + n)) ∧ w'.ownsRow B 5 1 v n (U8 (marks k0 n)) ∧ w.grownBy w' v.ownBlock := by
  obtain ⟨hl, hs⟩ := own_shape hown
  rcases hs with ⟨rfl, rfl⟩ | ⟨g, cap, rfl, hg, hgs, hnc, hcm, hc, hf⟩
  · go_enter Try.func24, Try.ntmps24
    go_wp2
    refine wp_loop_rounds 1 ?_
    rw [rounds_succ]
    go_wp2
    go_ret
    exact ⟨by simp, by simpa [marks] using World.ownsRow_nil w B 5 1, World.grownBy.refl _ _⟩
  · have hown0 : w.ownsRow B 5 1 (.slice (some ⟨g, 0, none⟩) n cap) n (U8 (marks k0 0 ++ xs.drop 0)) := by simpa [marks] using hown
    clear hown hc hf
    go_enter Try.func24, Try.ntmps24
    go_wp2
    go_loopw [1, 5] (fun m i wr => ∃ k : Nat, k ≤ n ∧ i = .int .i64 k ∧ m = .int .i64 (k0 + k) ∧ wr.ownsRow B 5 1 (.slice (some ⟨g, 0, none⟩) n cap) n (U8 (marks k0 k ++ xs.drop k)) ∧ w.grownBy wr (some g)) (fun _ i _ => n - (intOf i).toNat)
    case atStart => exact ⟨0, Nat.zero_le _, rfl, by simp, hown0, World.grownBy.refl _ _⟩
    case round =>
      obtain ⟨k, hk, rfl, rfl, hown, hb⟩ := hrel
      clear hown0
      by_cases hlt : k < n
      · have hfz := hown.frozenAt k
        obtain ⟨u, hu⟩ : ∃ u, wr.cell? ⟨g, k, none⟩ = some u := by
          rw [hown.cellAt k (by omega)]
          have : k < (U8 (marks k0 k ++ xs.drop k)).length := by simp [marks_len]; omega
          exact ⟨_, List.getElem?_eq_getElem this⟩
        have hst := hown.stored k (.int .u8 ((k0 + (k : Int)) % 256))
        rw [set_marks xs k0 n k hlt hl] at hst
        have HS : Hid _ := hst
        have HB : Hid _ := hb
        have hcv : IntKind.u8.wrap (k0 + (k : Int)) = (k0 + (k : Int)) % 256 := by simp [IntKind.wrap, IntKind.signed, IntKind.bits]
        clear hst hb hown
        go_wp2
        go_roundw
        case rel => exact ⟨k + 1, by omega, by go_num, by go_num, HS.out.1, grown_trans HB.out HS.out.2⟩
        case measure => simp [intOf]; omega
      · have hkn : k = n := by omega
        subst hkn
        go_wp2
        go_ret
        refine ⟨rfl, ?_, hb⟩
        simpa [List.drop_eq_nil_of_le (show xs.length ≤ k by omega)] using hown

set_option maxHeartbeats 400000 in
theorem heldB (a : Option Addr) (n cap : Nat) (k0 : Int) (w : World) (h : Bs w a n cap (marks k0 n)) (hn : n ≤ 2097152) (h0 : 0 ≤ k0) (h1 : k0 ≤ 4611686018427387904) :
    Calls Try.prog 25 #[.slice a n cap, .int .i64 k0] w fun e w' => e = .returned (.int .i64 (k0 + n)) ∧ w' = w := by
  obtain ⟨_, hl, hc, _, h⟩ := h
  go_enter Try.func25, Try.ntmps25
  go_wp2
  go_loop [1, 5] (fun m i => ∃ k : Nat, k ≤ n ∧ i = .int .i64 k ∧ m = .int .i64 (k0 + k)) (fun _ i => n - (intOf i).toNat)
  case atStart => exact ⟨0, Nat.zero_le _, rfl, by simp⟩
  case round =>
    obtain ⟨k, hk, rfl, rfl⟩ := hrel
    by_cases hlt : k < n
    · rcases h with h | ⟨b, o, rfl, hbs, hcell⟩
      · omega
      · have hck : w.cell? ⟨b, o + k, none⟩ = some (.int .u8 ((k0 + (k : Int)) % 256)) := by rw [← marks_get k0 n k hlt]; exact hcell k hlt
        have hcv : IntKind.u8.wrap (k0 + (k : Int)) = (k0 + (k : Int)) % 256 := by simp [IntKind.wrap, IntKind.signed, IntKind.bits]
        have hxx : (((k0 + (k : Int)) % 256) != ((k0 + (k : Int)) % 256)) = false := by simp
        clear hcell
        go_wp2
        go_round
        case rel => exact ⟨k + 1, by omega, by go_num, by go_num⟩
        case measure => simp [intOf]; omega
    · have hkn : k = n := by omega
      subst hkn
      go_wp2
      go_ret
      exact ⟨rfl, rfl⟩
end Go.Proofs.Ytgfjbaigmkdbcaa
namespace Go.Proofs.Ytgfjbaigmkdbcaa
open Go.RowKit

theorem set_takeI (xs : List Int) (n k : Nat) (h : k < xs.length) (hn : xs.length = n) :
    (I64 (xs.take k ++ List.replicate (n - k) 0)).set k (.int .i64 (xs.getD k 0)) = I64 (xs.take (k + 1) ++ List.replicate (n - (k + 1)) 0) := by
  have e : n - k = (n - (k + 1)) + 1 := by omega
  rw [take_snoc xs k h, e, List.replicate_succ]
  have hl : (xs.take k).length = k := by simp; omega
  simp only [I64, List.map_append, List.map_cons]
  rw [List.set_append_right _ _ (by simp; omega)]
  simp [Nat.min_eq_left (show k ≤ xs.length by omega)]

set_option maxHeartbeats 400000 in
theorem eqI (a a' : Option Addr) (n cap cap' : Nat) (xs : List Int) (w : World) (h : Is w a n cap xs) (h' : Is w a' n cap' xs) (hn : n ≤ 2097152) :
    Calls Try.prog 69 #[.slice a n cap, .slice a' n cap'] w fun e w' => ∃ q, e = .returned (.bool true) ∧ w' = w.drewN q := by
  obtain ⟨_, hl, hc, hby, h⟩ := h
  obtain ⟨_, _, hc', _, h'⟩ := h'
  have hne : ((n : Int) != (n : Int)) = false := by simp
  go_enter Try.func69, Try.ntmps69
  go_wp2
  go_loopw [5] (fun i wr => ∃ k q : Nat, k ≤ n ∧ i = .int .i64 k ∧ wr = w.drewN q) (fun i _ => n - (intOf i).toNat)
  case atStart => exact ⟨0, 0, Nat.zero_le _, rfl, rfl⟩
  case round =>
    obtain ⟨k, q, hk, rfl, rfl⟩ := hrel
    by_cases hlt : k < n
    · rcases h with h | ⟨b, o, rfl, hbs, hcell⟩
      · omega
      · rcases h' with h' | ⟨b', o', rfl, hbs', hcell'⟩
        · omega
        · obtain ⟨x, hx⟩ : ∃ x, x = xs.getD k 0 := ⟨_, rfl⟩
          have hck : w.cell? ⟨b, o + k, none⟩ = some (.int .i64 x) := by rw [hx]; exact hcell k hlt
          have hck' : w.cell? ⟨b', o' + k, none⟩ = some (.int .i64 x) := by rw [hx]; exact hcell' k hlt
          have hxx : (x != x) = false := by simp
          have hlt' : (k : Int) < (n : Int) := by omega
          clear hcell hcell' hx
          go_wp2
          go_quiet (fail)
          go_wp2
          go_roundw
          case rel => exact ⟨k + 1, _, by omega, by go_num, rfl⟩
          case measure => simp [intOf]; omega
    · go_wp2
      go_ret
      exact ⟨q, rfl, rfl⟩

end Go.Proofs.Ytgfjbaigmkdbcaa
namespace Go.Proofs.Ytgfjbaigmkdbcaa
open Go.RowKit

set_option maxHeartbeats 1000000 in
theorem szB (a : Option Addr) (n c : Nat) (l : Int) (w : World) (h0 : 0 ≤ l) (h1 : l ≤ 1048576) (hn : n ≤ 9223372036854775807) :
    Calls Try.prog 117 #[.slice a n c, .int .i64 l] w fun e w' => e = .returned (.int .i64 (if l - (n : Int) < 0 then -1 else l - (n : Int))) ∧ w' = w := by
  have hw : wrap64 (l - (n : Int)) = l - (n : Int) := by unfold wrap64; omega
  by_cases hlt : l - (n : Int) < 0
  · rw [if_pos hlt]
    go_enter Try.func117, Try.ntmps117
    go_wp2
    go_ret
    exact ⟨rfl, rfl⟩
  · rw [if_neg hlt]
    go_enter Try.func117, Try.ntmps117
    go_wp2
    go_ret
    exact ⟨rfl, rfl⟩

end Go.Proofs.Ytgfjbaigmkdbcaa
namespace Go.Proofs.Ytgfjbaigmkdbcaa
open Go.RowKit
set_option maxRecDepth 100000
set_option maxHeartbeats 4000000
set_option linter.unusedVariables false

abbrev partV (x0 x1 : Int) (x2 : Int) (a : Option Addr) (n c : Nat) : Value := .agg #[.int .i64 x0, .int .i64 x1, .int .i64 x2, .slice a n c]
abbrev part4 (x : PartM) (a : Option Addr) (c : Nat) : L4 := ⟨.int .i64 x.k, .int .i64 x.v, .int .i64 x.s, .slice a x.h.length c⟩
theorem szPartC (x0 x1 : Int) (x2 : Int) (a : Option Addr) (n c : Nat) (l : Int) (w : World) (h0 : 0 ≤ l) (hl : l ≤ 1048576) (hn : n ≤ 9223372036854775807) :
    Calls Try.prog 126 #[partV x0 x1 x2 a n c, .int .i64 l] w fun e w' => ∃ r : Int, e = .returned (.int .i64 r) ∧ (r = -1 ∨ 0 ≤ r ∧ r ≤ l ∧ (n : Int) ≤ 1048576) ∧ Below w.heap.size w w' := by
  have HB : Hid (Below w.heap.size w (w.alloc (.cells #[.int .i64 x0, .int .i64 x1, .int .i64 x2, .slice a n c] 166))) := (Below.refl _ _).alloc (Nat.le_refl _) _
  go_enter Try.func126, Try.ntmps126
  go_wp2_with fail
  refine (szB a n c l _ (by omega) (by omega) hn).mono ?_
  rintro e w' ⟨rfl, rfl⟩
  by_cases h1 : l - (n : Int) < 0
  · rw [if_pos h1]
    go_wp2
    go_ret
    exact ⟨-1, rfl, .inl rfl, HB.out⟩
  rw [if_neg h1]
  obtain ⟨l1, hl1⟩ : ∃ l1 : Int, l1 = l - (n : Int) := ⟨_, rfl⟩
  rw [← hl1]
  rw [← hl1] at h1
  have HL1 : Hid _ := hl1
  clear hl1
  go_wp2
  go_ret
  have hl1 := HL1.out
  exact ⟨l1, rfl, .inr ⟨by omega, by omega, by omega⟩, HB.out⟩
theorem eqPartC (x0 x1 : Int) (x2 : Int) (a : Option Addr) (n c : Nat) (a' : Option Addr) (c' : Nat) (p : List Int) (w : World) (hB : Bs w a n c p) (hB' : Bs w a' n c' p) (hn : n ≤ 2097152) :
    Calls Try.prog 132 #[partV x0 x1 x2 a n c, partV x0 x1 x2 a' n c'] w fun e w' => e = .returned (.bool true) ∧ Below w.heap.size w w' := by
  have h0 : (x0 != x0) = false := by simp
  have h1 : (x1 != x1) = false := by simp
  have h2 : (x2 != x2) = false := by simp
  have hL : Below w.heap.size w ((w.alloc (.cells #[.int .i64 x0, .int .i64 x1, .int .i64 x2, .slice a n c] 112)).alloc (.cells #[.int .i64 x0, .int .i64 x1, .int .i64 x2, .slice a' n c'] 112)) := ((Below.refl _ _).alloc (Nat.le_refl _) _).alloc (by simp) _
  have HB : Hid _ := hL
  clear hL
  go_enter Try.func132, Try.ntmps132
  go_wp2_with fail
  refine (eqB a a' n c c' p _ (hB.below HB.out) (hB'.below HB.out) hn).mono ?_
  rintro e w1 ⟨q1, rfl, rfl⟩
  go_wp2
  go_ret
  exact ⟨rfl, bel_dN HB.out q1⟩
theorem toPartC (x0 x1 : Int) (x2 : Int) (a : Option Addr) (n c : Nat) (p : List Int) (w : World) (hB : Bs w a n c p) (hn : n ≤ 2097152) :
    Calls Try.prog 127 #[partV x0 x1 x2 a n c] w fun e w' => ∃ a' c', e = .returned (partV x0 x1 x2 a' n c') ∧ w'.ownsRow w.heap.size 5 1 (.slice a' n c') n (U8 p) ∧ Below w.heap.size w w' := by
  have hbb := hB.2.2.2.1
  obtain ⟨V, hV⟩ : ∃ V, V = (((w.alloc (.cells #[.int .i64 x0, .int .i64 x1, .int .i64 x2, .slice a n c] 166)).alloc (.cells #[.int .i64 0, .int .i64 0, .int .i64 0, .slice none 0 0] 112)).alloc (.cells #[.int .i64 x0, .int .i64 x1, .int .i64 x2, .slice none 0 0] 112)) := ⟨_, rfl⟩
  have hL : Below w.heap.size w V := by rw [hV]; exact ((((Below.refl _ _).alloc (Nat.le_refl _) _).alloc (by simp) _).alloc (by simp; omega) _)
  have hA1 : Arr V (w.heap.size + 1) 112 [.int .i64 0, .int .i64 0, .int .i64 0, .slice none 0 0] := by
    rw [hV]
    have := (Arr.new (w.alloc (.cells #[.int .i64 x0, .int .i64 x1, .int .i64 x2, .slice a n c] 166)) [.int .i64 0, .int .i64 0, .int .i64 0, .slice none 0 0] 112).alloc (.cells #[.int .i64 x0, .int .i64 x1, .int .i64 x2, .slice none 0 0] 112)
    simpa using this
  have hA2 : Arr V (w.heap.size + 1 + 1) 112 [.int .i64 x0, .int .i64 x1, .int .i64 x2, .slice none 0 0] := by
    rw [hV]
    have := Arr.new ((w.alloc (.cells #[.int .i64 x0, .int .i64 x1, .int .i64 x2, .slice a n c] 166)).alloc (.cells #[.int .i64 0, .int .i64 0, .int .i64 0, .slice none 0 0] 112)) [.int .i64 x0, .int .i64 x1, .int .i64 x2, .slice none 0 0] 112
    simpa using this
  have zV : w.heap.size + 3 ≤ V.heap.size := by rw [hV]; simp
  go_enter Try.func127, Try.ntmps127
  go_wp2_with fail
  rw [← hV]
  refine (toS a n c p _ (hB.below hL) hn).mono ?_
  rintro e w1 ⟨a1, c1, rfl, ho1, _, hb1⟩
  clear hV
  have hb1' := hL.trans (hb1.mono hL.size)
  have k1 := hA1.kept hb1
  have k2 := hA2.kept hb1
  clear hA1 hA2
  have d0 := k2.cell 0
  have d1 := k2.cell 1
  have d2 := k2.cell 2
  have d3 := k2.cell 3
  have f := k2.frozen
  have f1 := k1.frozen
  have e0 := k1.cell 0
  have e1 := k1.cell 1
  have e2 := k1.cell 2
  have e3 := k1.cell 3
  simp at d0 d1 d2 d3 e0 e1 e2 e3
  have hlt := k2.lt
  have hlt1 := k1.lt
  have HO : Hid (∀ q u, q.block < V.heap.size → ∀ q0 u0, q0.block < V.heap.size → ∀ q1 u1, q1.block < V.heap.size → ∀ q2 u2, q2.block < V.heap.size → ∀ q3 u3, q3.block < V.heap.size → (((((w1.setCell q u).setCell q0 u0).setCell q1 u1).setCell q2 u2).setCell q3 u3).ownsRow w.heap.size 5 1 (.slice a1 n c1) n (U8 p)) := by
    intro q u h q0 u0 h0 q1 u1 h1 q2 u2 h2 q3 u3 h3
    exact own_base (own_other (own_other (own_other (own_other (own_other ho1 q u h) q0 u0 h0) q1 u1 h1) q2 u2 h2) q3 u3 h3) hL.size
  have HF : Hid (∀ u u0 u1 u2 u3, Below w.heap.size w (((((w1.setCell ⟨w.heap.size + 1 + 1, 3, none⟩ u).setCell ⟨w.heap.size + 1, 0, none⟩ u0).setCell ⟨w.heap.size + 1, 1, none⟩ u1).setCell ⟨w.heap.size + 1, 2, none⟩ u2).setCell ⟨w.heap.size + 1, 3, none⟩ u3)) := fun u u0 u1 u2 u3 =>
    ((((hb1'.setCell (by simp; omega) _).setCell (by simp) _).setCell (by simp) _).setCell (by simp) _).setCell (by simp) _
  have K1 : Hid (Arr w1 (w.heap.size + 1) 112 [.int .i64 0, .int .i64 0, .int .i64 0, .slice none 0 0]) := k1
  clear hb1 hb1' ho1 hL hB hbb k1 k2
  go_wp2
  have K2 : Arr w1 (w.heap.size + 1) 112 [.int .i64 0, .int .i64 0, .int .i64 0, .slice none 0 0] := K1.out
  have n3 := ((((K2.other ⟨w.heap.size + 1 + 1, 3, none⟩ (.slice a1 n c1) (by simp)).set 0 (.int .i64 x0)).set 1 (.int .i64 x1)).set 2 (.int .i64 x2)).set 3 (.slice a1 n c1)
  exact bodyPost_ret (results_cell_row rfl _ _ (w.heap.size + 1) 112 _ (0, 0) _ rfl n3 Try.underlying112 rfl (by kernel_rfl)) rfl ⟨a1, c1, rfl, HO.out _ _ (by simp; omega) _ _ (by simp; omega) _ _ (by simp; omega) _ _ (by simp; omega) _ _ (by simp; omega), HF.out _ _ _ _ _⟩
end Go.Proofs.Ytgfjbaigmkdbcaa
