/-
  What is proved here: what the laws' toKeyS, eqKeyS, szKeyS answer, and rows of such elements in memory of their own.
-/
import Derived.Test.YtofflhhlacdgfaaDoorK0
import Derived.Test.YtofflhhlacdgfaaDoorTm
namespace Go.Proofs.YtofflhhlacdgfaaDoor
open Go.RowKit
set_option maxRecDepth 100000
set_option maxHeartbeats 4000000
set_option linter.unusedVariables false

/-- A row of its own from block lo on, whose inner rows lie behind it. -/
structure Kq (lo : Nat) (W : World) (a : Option Addr) (n c : Nat) (xs : List KeyM) : Prop where
  len : xs.length = n
  cap : n ≤ c
  row : ∃ g l, a = some ⟨g, 0, none⟩ ∧ lo ≤ g ∧ g < W.heap.size ∧ W.ownsRow lo 57 4 (.slice a n c) n (QL l) ∧ (∀ q, q < n → ∃ b d, lg l q = key4 (xs.getD q kz) b d ∧ W.ownsRow (g + 1) 5 1 (.slice b (xs.getD q kz).p.length d) (xs.getD q kz).p.length (U8 (xs.getD q kz).p)) ∧ ∀ q q', q < q' → q' < n → Apart (lg l q).d (lg l q').d
theorem Kq.below {lo : Nat} {W W' : World} {a : Option Addr} {n c : Nat} {xs : List KeyM} (h : Kq lo W a n c xs) (hb : Below W.heap.size W W') : Kq lo W' a n c xs := by
  obtain ⟨h0, h1, g, l, rfl, h2, h3, h4, h5, h6⟩ := h
  refine ⟨h0, h1, g, l, rfl, h2, Nat.lt_of_lt_of_le h3 hb.size, own_below h4 hb, fun q hq => ?_, h6⟩
  obtain ⟨b, d, e, o⟩ := h5 q hq
  exact ⟨b, d, e, own_below o hb⟩
theorem Kq.other {lo : Nat} {W : World} {a : Option Addr} {n c : Nat} {xs : List KeyM} (h : Kq lo W a n c xs) (p : Addr) (u : Value) (hp : p.block < lo) : Kq lo (W.setCell p u) a n c xs := by
  obtain ⟨h0, h1, g, l, rfl, h2, h3, h4, h5, h6⟩ := h
  refine ⟨h0, h1, g, l, rfl, h2, by simpa using h3, own_other h4 p u hp, fun q hq => ?_, h6⟩
  obtain ⟨b, d, e, o⟩ := h5 q hq
  exact ⟨b, d, e, own_other o p u (by omega)⟩
theorem Kq.base {lo lo' : Nat} {W : World} {a : Option Addr} {n c : Nat} {xs : List KeyM} (h : Kq lo W a n c xs) (hl : lo' ≤ lo) : Kq lo' W a n c xs := by
  obtain ⟨h0, h1, g, l, rfl, h2, h3, h4, h5, h6⟩ := h
  exact ⟨h0, h1, g, l, rfl, by omega, h3, own_base h4 hl, h5, h6⟩
abbrev KqBy (xs : List KeyM) : Prop := ∀ q, q < xs.length → ∀ x ∈ (xs.getD q kz).p, 0 ≤ x ∧ x < 256
theorem Kq.rd {lo : Nat} {W : World} {a : Option Addr} {n c : Nat} {xs : List KeyM} (h : Kq lo W a n c xs) (hy : KqBy xs) : Ks W a n c xs := by
  obtain ⟨h0, h1, g, l, rfl, h2, h3, h4, h5, _⟩ := h
  refine ⟨(fun h => by cases h), h0, h1, .inr ⟨g, 0, rfl, h3, fun i hi => ?_⟩⟩
  obtain ⟨b, d, e, o⟩ := h5 i hi
  obtain ⟨q0, q1, q2, q3⟩ := q4_at h4 i hi
  rw [e] at q0 q1 q2 q3
  rw [Nat.zero_add]
  exact ⟨b, d, q0, q1, q2, q3, bs_of_own o (hy i (by omega))⟩
theorem Ks.by_ {W : World} {a : Option Addr} {n c : Nat} {xs : List KeyM} (h : Ks W a n c xs) : KqBy xs := by
  obtain ⟨_, h1, _, h⟩ := h
  intro q hq
  rcases h with h | ⟨b, o, _, _, h⟩
  · omega
  · obtain ⟨_, _, P⟩ := h q (by omega)
    exact P.by_.2.2.2.1
theorem Ks.opened {W : World} {a : Option Addr} {n c : Nat} {xs : List KeyM} (h : Ks W a n c xs) (hn : 0 < n) : ∃ b o, a = some ⟨b, o, none⟩ ∧ b < W.heap.size ∧ ∀ i, i < n → ∃ ha hc, KeyAt W b (o + i * 4) (xs.getD i kz) ha hc := by
  rcases h.2.2.2 with h | h
  · omega
  · exact h
abbrev KqSm (n : Nat) (xs : List KeyM) : Prop := n ≤ 1048576 ∧ ∀ q, q < n → (xs.getD q kz).p.length ≤ 1048576
end Go.Proofs.YtofflhhlacdgfaaDoor
