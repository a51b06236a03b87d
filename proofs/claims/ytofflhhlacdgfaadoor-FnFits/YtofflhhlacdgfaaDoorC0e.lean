/-
  What is proved here: the contract of the library's bytes.Equal where the first slice may be nil.
-/
import Derived.Test.YtofflhhlacdgfaaDoorVs
namespace Go.Proofs.YtofflhhlacdgfaaDoor
open Go.RowKit
set_option maxRecDepth 100000

theorem nil_conv (w : World) : (convert 22 9 (.slice none 0 0)).run Tryd.prog w = .ok (.string (strOfNums [])) w := by
  rfl
set_option maxHeartbeats 1000000 in
theorem equalB' (a : Option Addr) (n c b' o' m d : Nat) (xs ys : List Int) (w : World) (h : Bs w a n c xs) (ha : a = none ∨ ∃ b o, a = some ⟨b, o, none⟩) (k : Bs w (some ⟨b', o', none⟩) m d ys) :
    Calls Tryd.prog 79 #[.slice a n c, .slice (some ⟨b', o', none⟩) m d] w fun e w' => e = .returned (.bool (decide (xs = ys))) ∧ w' = w := by
  rcases ha with rfl | ⟨b, o, rfl⟩
  case inr => exact equalB b o n c b' o' m d xs ys w h k
  case inl =>
    have hc := h.1 rfl
    have hn : n = 0 := by have := h.2.2.1; omega
    subst hc hn
    have hx : xs = [] := List.eq_nil_of_length_eq_zero h.2.1
    subst hx
    have h1 := nil_conv w
    have h2 := bs_conv k
    have e1 := str_eq (xs := []) (by simp) k.2.2.2.1
    obtain ⟨s, hs⟩ : ∃ s, s = strOfNums [] := ⟨_, rfl⟩
    obtain ⟨t, ht⟩ : ∃ t, t = strOfNums ys := ⟨_, rfl⟩
    rw [← hs] at h1 e1
    rw [← ht] at h2 e1
    rw [← e1]
    clear e1 hs ht h k
    go_enter Tryd.func79, Tryd.ntmps79
    go_wp2
    go_ret
    exact ⟨rfl, rfl⟩
theorem own_addr {W : World} {B n e s : Nat} {a : Option Addr} {c m : Nat} {l : List Value} (h : W.ownsRow B e s (.slice a n c) m l) : a = none ∨ ∃ b o, a = some ⟨b, o, none⟩ := by
  rcases h.2 with ⟨h, _⟩ | ⟨g, cap, cur, h, _⟩
  · simp only [Value.slice.injEq] at h
    exact .inl h.1
  · simp only [Value.slice.injEq] at h
    exact .inr ⟨g, 0, h.1⟩
end Go.Proofs.YtofflhhlacdgfaaDoor
