/-
  What is proved here: rows of slices of bytes; what the laws' toByteSS, eqByteSS, szByteSS answer.
-/
import Derived.Test.YtofflhhlacdgfaaDoorJM5
import Derived.Test.YtofflhhlacdgfaaDoorTm
namespace Go.Proofs.YtofflhhlacdgfaaDoor
open Go.RowKit
set_option maxRecDepth 100000
set_option maxHeartbeats 4000000
set_option linter.unusedVariables false

/-- What a slice of slices of bytes reads as. -/
def Bss (W : World) (a : Option Addr) (n c : Nat) (xs : List (List Int)) : Prop :=
  (a = none → c = 0) ∧ xs.length = n ∧ n ≤ c ∧ (n = 0 ∨ ∃ b o, a = some ⟨b, o, none⟩ ∧ b < W.heap.size ∧ ∀ i, i < n → ∃ ha hc, W.cell? ⟨b, o + i, none⟩ = some (.slice ha (xs.getD i []).length hc) ∧ Bs W ha (xs.getD i []).length hc (xs.getD i []))
theorem Bss.below {W W' : World} {a : Option Addr} {n c : Nat} {xs : List (List Int)} (h : Bss W a n c xs) (hb : Below W.heap.size W W') : Bss W' a n c xs := by
  obtain ⟨h0, h1, h2, h⟩ := h
  refine ⟨h0, h1, h2, ?_⟩
  rcases h with h | ⟨b, o, e, l, h⟩
  · exact .inl h
  · refine .inr ⟨b, o, e, Nat.lt_of_lt_of_le l hb.size, fun i hi => ?_⟩
    obtain ⟨ha, hc, k, q⟩ := h i hi
    exact ⟨ha, hc, (hb.cell (p := ⟨b, _, none⟩) l).trans k, q.below hb⟩
theorem Bss.opened {W : World} {a : Option Addr} {n c : Nat} {xs : List (List Int)} (h : Bss W a n c xs) (hn : 0 < n) : ∃ b o, a = some ⟨b, o, none⟩ ∧ b < W.heap.size ∧ ∀ i, i < n → ∃ ha hc, W.cell? ⟨b, o + i, none⟩ = some (.slice ha (xs.getD i []).length hc) ∧ Bs W ha (xs.getD i []).length hc (xs.getD i []) := by
  rcases h.2.2.2 with h | h
  · omega
  · exact h
/-- A row of its own from block lo on, whose inner rows lie behind it. -/
structure Sq (lo : Nat) (W : World) (a : Option Addr) (n c : Nat) (xs : List (List Int)) : Prop where
  len : xs.length = n
  cap : n ≤ c
  row : ∃ g l, a = some ⟨g, 0, none⟩ ∧ lo ≤ g ∧ g < W.heap.size ∧ W.ownsRow lo 22 1 (.slice a n c) n l ∧ ∀ q, q < n → ∃ b d, l[q]? = some (.slice b (xs.getD q []).length d) ∧ W.ownsRow (g + 1) 5 1 (.slice b (xs.getD q []).length d) (xs.getD q []).length (U8 (xs.getD q []))
theorem Sq.below {lo : Nat} {W W' : World} {a : Option Addr} {n c : Nat} {xs : List (List Int)} (h : Sq lo W a n c xs) (hb : Below W.heap.size W W') : Sq lo W' a n c xs := by
  obtain ⟨h0, h1, g, l, rfl, h2, h3, h4, h5⟩ := h
  refine ⟨h0, h1, g, l, rfl, h2, Nat.lt_of_lt_of_le h3 hb.size, own_below h4 hb, fun q hq => ?_⟩
  obtain ⟨b, d, e, o⟩ := h5 q hq
  exact ⟨b, d, e, own_below o hb⟩
theorem Sq.other {lo : Nat} {W : World} {a : Option Addr} {n c : Nat} {xs : List (List Int)} (h : Sq lo W a n c xs) (p : Addr) (u : Value) (hp : p.block < lo) : Sq lo (W.setCell p u) a n c xs := by
  obtain ⟨h0, h1, g, l, rfl, h2, h3, h4, h5⟩ := h
  refine ⟨h0, h1, g, l, rfl, h2, by simpa using h3, own_other h4 p u hp, fun q hq => ?_⟩
  obtain ⟨b, d, e, o⟩ := h5 q hq
  exact ⟨b, d, e, own_other o p u (by omega)⟩
theorem Sq.base {lo lo' : Nat} {W : World} {a : Option Addr} {n c : Nat} {xs : List (List Int)} (h : Sq lo W a n c xs) (hl : lo' ≤ lo) : Sq lo' W a n c xs := by
  obtain ⟨h0, h1, g, l, rfl, h2, h3, h4, h5⟩ := h
  exact ⟨h0, h1, g, l, rfl, by omega, h3, own_base h4 hl, h5⟩
abbrev SqBy (xs : List (List Int)) : Prop := ∀ q, q < xs.length → ∀ x ∈ xs.getD q [], 0 ≤ x ∧ x < 256
theorem Sq.rd {lo : Nat} {W : World} {a : Option Addr} {n c : Nat} {xs : List (List Int)} (h : Sq lo W a n c xs) (hy : SqBy xs) : Bss W a n c xs := by
  obtain ⟨h0, h1, g, l, rfl, h2, h3, h4, h5⟩ := h
  refine ⟨(fun h => by cases h), h0, h1, .inr ⟨g, 0, rfl, h3, fun i hi => ?_⟩⟩
  obtain ⟨b, d, e, o⟩ := h5 i hi
  refine ⟨b, d, ?_, bs_of_own o (hy i (by omega))⟩
  rw [Nat.zero_add]
  exact (h4.cellAt i (by omega)).trans e
theorem Bss.by_ {W : World} {a : Option Addr} {n c : Nat} {xs : List (List Int)} (h : Bss W a n c xs) : SqBy xs := by
  obtain ⟨_, h1, _, h⟩ := h
  intro q hq
  rcases h with h | ⟨b, o, _, _, h⟩
  · omega
  · obtain ⟨_, _, _, P⟩ := h q (by omega)
    exact P.2.2.2.1
abbrev SqSm (n : Nat) (xs : List (List Int)) : Prop := n ≤ 1048576 ∧ ∀ q, q < n → (xs.getD q []).length ≤ 1048576
theorem szBC (a : Option Addr) (n c : Nat) (l : Int) (w : World) (h0 : 0 ≤ l) (hl : l ≤ 1048576) (hn : n ≤ 9223372036854775807) :
    Calls Tryd.prog 98 #[.slice a n c, .int .i64 l] w fun e w' => ∃ r : Int, e = .returned (.int .i64 r) ∧ (r = -1 ∨ 0 ≤ r ∧ r ≤ l ∧ n ≤ 1048576) ∧ Below w.heap.size w w' := by
  refine (szB a n c l _ (by omega) (by omega) hn).mono ?_
  rintro e w' ⟨rfl, rfl⟩
  by_cases h1 : l - (n : Int) < 0
  · rw [if_pos h1]; exact ⟨_, rfl, .inl rfl, Below.refl _ _⟩
  · rw [if_neg h1]; exact ⟨_, rfl, .inr ⟨by omega, by omega, by omega⟩, Below.refl _ _⟩
theorem eqBC (a a' : Option Addr) (n c c' : Nat) (xs : List Int) (w : World) (h : Bs w a n c xs) (h' : Bs w a' n c' xs) (hn : n ≤ 2097152) :
    Calls Tryd.prog 35 #[.slice a n c, .slice a' n c'] w fun e w' => e = .returned (.bool true) ∧ Below w.heap.size w w' := by
  refine (eqB a a' n c c' xs _ h h' hn).mono ?_
  rintro e w' ⟨q, rfl, rfl⟩
  exact ⟨rfl, bel_drewN _ _⟩
end Go.Proofs.YtofflhhlacdgfaaDoor
