/-
  What is proved here: what a record does to a state, as plain data; no program is spoken of.
-/
import Derived.Test.YtjceajgefpinpaaRv
namespace Go.Proofs.Ytjceajgefpinpaa
open Go.RowKit
/-- A record. -/
structure Rc where
  k : Int
  b : Int
  n : Int
  f : Int
/-- A state. -/
structure Bt where
  b : Int
  n : Int
  f : Int
  t : Bool
  i : Int
  o : Int
abbrev btC (s : Bt) : List Value := [.int .i64 s.b, .int .i64 s.n, .int .i64 s.f, .bool s.t, .int .i64 s.i, .int .i64 s.o]
abbrev rcC (r : Rc) : List Value := [.int .i64 r.k, .int .i64 r.b, .int .i64 r.n, .int .i64 r.f]
abbrev btW (s : Bt) : Value := btV s.b s.n s.f s.t s.i s.o
abbrev stV (s : Bt × Bool) : Value := .tuple #[btW s.1, .bool s.2]
abbrev Rc.Ok (r : Rc) : Prop := rcOk r.k r.b r.n r.f
abbrev Bt.Ok (s : Bt) : Prop := btOk s.b s.n s.f s.t s.i s.o
/-- What a record leaves of a state, and whether it fits. -/
def stT (s : Bt) (r : Rc) : Bt × Bool :=
  if r.k = 3 then (if s.t = true ∨ r.b = s.b then (s, false) else (⟨r.b, r.n, s.f, true, 0, s.n⟩, true))
  else if r.k = 4 then (if s.t = false ∨ 3 ≤ s.i then (s, false) else (⟨s.b, s.n, s.f, s.t, s.i + 1, s.o⟩, true))
  else if r.k = 5 then (if s.t = false then (s, false) else (⟨s.b, s.n, max s.f r.f, false, 0, 0⟩, true))
  else if r.k = 6 then (if s.t = false then (s, false) else (⟨1 - s.b, s.o, s.f, false, 0, 0⟩, true))
  else (s, false)
/-- What Step answers. -/
def stepT (s : Bt) (r : Rc) : Bt × Bool := if s.Ok ∧ r.Ok then stT s r else (⟨0, 0, 0, false, 0, 0⟩, false)
theorem stT_ok {s : Bt} {r : Rc} (hs : s.Ok) (hr : r.Ok) : (stT s r).1.Ok := by
  obtain ⟨b, n, f, t, i, o⟩ := s
  obtain ⟨k, rb, rn, rf⟩ := r
  unfold stT
  dsimp only [Bt.Ok, Rc.Ok] at hs hr ⊢
  obtain ⟨h1, h2, h3, h4⟩ := hs
  split
  · split
    · exact ⟨h1, h2, h3, h4⟩
    · next h5 h6 =>
      cases t
      · exact ⟨by dsimp only; omega, by dsimp only; omega, by dsimp only; omega, by rw [if_pos rfl]; dsimp only; omega⟩
      · exact absurd (.inl rfl) h6
  split
  · split
    · exact ⟨h1, h2, h3, h4⟩
    · next h5 h6 =>
      cases t
      · exact absurd (.inl rfl) h6
      · rw [if_pos rfl] at h4
        exact ⟨h1, h2, h3, by rw [if_pos rfl]; dsimp only; omega⟩
  split
  · split
    · exact ⟨h1, h2, h3, h4⟩
    · exact ⟨h1, h2, by dsimp only; omega, by rw [if_neg (by simp)]; exact ⟨rfl, rfl⟩⟩
  split
  · split
    · exact ⟨h1, h2, h3, h4⟩
    · next h5 h6 =>
      cases t
      · exact absurd rfl h6
      · rw [if_pos rfl] at h4
        exact ⟨by dsimp only; omega, by dsimp only; omega, h3, by rw [if_neg (by simp)]; exact ⟨rfl, rfl⟩⟩
  exact ⟨h1, h2, h3, h4⟩
theorem stT_floor {s : Bt} {r : Rc} : s.f ≤ (stT s r).1.f := by
  unfold stT
  repeat' split
  all_goals first | exact Int.le_refl _ | (dsimp only; omega)
end Go.Proofs.Ytjceajgefpinpaa
