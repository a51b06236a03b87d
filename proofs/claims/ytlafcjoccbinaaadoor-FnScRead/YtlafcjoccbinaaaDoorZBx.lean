/-
  What is proved here: plain facts on parts of a slice of bytes, and on a slice that lies apart from a block that may turn; no program is spoken of, no condition.
-/
import Derived.Test.YtlafcjoccbinaaaDoorZA
import Derived.Laws.Rows
namespace Go.Proofs.YtlafcjoccbinaaaDoor
open Go.RowKit

/-- The slice's bytes lie in another block. -/
def Off (a : Option Addr) (g : Nat) : Prop := ∀ b o s, a = some ⟨b, o, s⟩ → b ≠ g
theorem Bs.grown {w w' : World} {a : Option Addr} {n c g : Nat} {xs : List Int} (h : Bs w a n c xs) (hg : w.grownBy w' (some g)) (ho : Off a g) : Bs w' a n c xs := by
  obtain ⟨h0, h1, h2, h3, h4⟩ := h
  refine ⟨h0, h1, h2, h3, ?_⟩
  rcases h4 with h4 | ⟨b, o, ha, hlt, hc⟩
  · exact .inl h4
  · exact .inr ⟨b, o, ha, Nat.lt_of_lt_of_le hlt hg.size, fun j hj => (World.cell?_of_block (hg.block b hlt (fun e => ho b o none ha (by cases e; rfl)))).trans (hc j hj)⟩
theorem Bs.take {w : World} {a : Option Addr} {n c m : Nat} {xs : List Int} (h : Bs w a n c xs) (hm : m ≤ n) : Bs w a m c (xs.take m) := by
  obtain ⟨h0, h1, h2, h3, h4⟩ := h
  refine ⟨h0, by simp; omega, by omega, fun x hx => h3 x (List.mem_of_mem_take hx), ?_⟩
  rcases h4 with h4 | ⟨b, o, ha, hlt, hc⟩
  · exact .inl (by omega)
  · refine .inr ⟨b, o, ha, hlt, fun j hj => ?_⟩
    rw [hc j (by omega)]
    simp [List.getD, hj]
theorem Bs.drop {w : World} {b o : Nat} {n c m : Nat} {xs : List Int} (h : Bs w (some ⟨b, o, none⟩) n c xs) (hm : m ≤ n) : Bs w (some ⟨b, o + m, none⟩) (n - m) (c - m) (xs.drop m) := by
  obtain ⟨h0, h1, h2, h3, h4⟩ := h
  refine ⟨(fun h => by cases h), by simp; omega, by omega, fun x hx => h3 x (List.mem_of_mem_drop hx), ?_⟩
  by_cases hz : n - m = 0
  · exact .inl hz
  rcases h4 with h4 | ⟨b', o', ha, hlt, hc⟩
  · exact .inl (by omega)
  · cases ha
    refine .inr ⟨b, o + m, rfl, hlt, fun j hj => ?_⟩
    have := hc (m + j) (by omega)
    rw [show o + m + j = o + (m + j) by omega, this]
    simp [List.getD, List.getElem?_drop]
theorem Bs.none0 {w : World} {b o : Nat} {c : Nat} {xs : List Int} (hx : xs = []) : Bs w (some ⟨b, o, none⟩) 0 c xs := by
  subst hx
  exact ⟨(fun h => by cases h), rfl, Nat.zero_le _, by simp, .inl rfl⟩

theorem off_of_own {W : World} {B e s n c g : Nat} {a : Option Addr} {l : List Value} (h : W.ownsRow B e s (.slice a n c) n l) (hg : g < B) : Off a g := by
  intro b o s' he
  have := h.lt b (by rw [he]; rfl)
  omega
end Go.Proofs.YtlafcjoccbinaaaDoor
