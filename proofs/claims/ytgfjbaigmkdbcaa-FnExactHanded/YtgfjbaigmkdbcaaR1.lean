/-
  What is proved here: what both sides' Handed answer: the numbers of the replies whose code is 0, of a list of at most 30.
-/
import Derived.Test.YtgfjbaigmkdbcaaR0n
import Derived.Test.YtgfjbaigmkdbcaaAppI
namespace Go.Proofs.Ytgfjbaigmkdbcaa
open Go.RowKit
set_option maxRecDepth 100000
set_option maxHeartbeats 4000000
set_option linter.unusedVariables false

def hdS (xs : List Rc) : Nat → List Int
  | 0 => []
  | k + 1 => hdS xs k ++ (if (rg xs k).k = 0 then [(rg xs k).n] else [])
def hdL (xs : List Rc) : List Int := if xs.length ≤ 30 then hdS xs xs.length else []
theorem hdS_le (xs : List Rc) : ∀ k, (hdS xs k).length ≤ k
  | 0 => Nat.le_refl _
  | k + 1 => by
    have := hdS_le xs k
    unfold hdS
    split <;> simp <;> omega
theorem hdL_len (xs : List Rc) : (hdL xs).length ≤ 30 := by
  unfold hdL
  split
  · have := hdS_le xs xs.length; omega
  · simp
abbrev rgI (n : Nat) (xs : List Rc) : Prop := ∀ i, i < n → -9223372036854775808 ≤ (rg xs i).n ∧ (rg xs i).n ≤ 9223372036854775807
theorem hdS_int {xs : List Rc} {n : Nat} (h : rgI n xs) : ∀ k, k ≤ n → ∀ x ∈ hdS xs k, -9223372036854775808 ≤ x ∧ x ≤ 9223372036854775807
  | 0, _ => by simp [hdS]
  | k + 1, hk => by
    intro x hx
    unfold hdS at hx
    rw [List.mem_append] at hx
    rcases hx with hx | hx
    · exact hdS_int h k (by omega) x hx
    · split at hx
      · simp at hx; subst hx; exact h k (by omega)
      · simp at hx
theorem hdL_int {xs : List Rc} (h : rgI xs.length xs) : ∀ x ∈ hdL xs, -9223372036854775808 ≤ x ∧ x ≤ 9223372036854775807 := by
  unfold hdL
  split
  · exact hdS_int h _ (Nat.le_refl _)
  · simp
theorem specHanded (a : Option Addr) (n c : Nat) (xs : List Rc) (w : World) (h : Rs w a n c xs) (hn : n ≤ 9223372036854775807) (hI : rgI n xs) :
    Calls Try.prog 66 #[.slice a n c] w fun e w' => ∃ v, e = .returned v ∧ w'.ownsRow w.heap.size 3 1 v (hdL xs).length (I64 (hdL xs)) ∧ Below w.heap.size w w' := by
  have hl := h.2.1
  by_cases h30 : 30 < (n : Int)
  · have e1 : hdL xs = [] := if_neg (by omega)
    rw [e1]
    clear e1 h
    go_enter Try.func66, Try.ntmps66
    go_wp2
    go_ret
    exact ⟨_, rfl, World.ownsRow_nil _ _ _ _, Below.refl _ _⟩
  have e1 : hdL xs = hdS xs n := by unfold hdL; rw [if_pos (by omega), hl]
  rw [e1]
  have HH : Hid (Rs w a n c xs) := h
  have HI : Hid _ := hI
  clear e1 h hI hl
  go_enter Try.func66, Try.ntmps66
  go_wp2
  go_loopw [3, 4] (fun v i wr => ∃ k : Nat, k ≤ n ∧ i = .int .i64 k ∧ wr.ownsRow w.heap.size 3 1 v (hdS xs k).length (I64 (hdS xs k)) ∧ Below w.heap.size w wr) (fun _ i _ => n - (intOf i).toNat)
  case atStart => exact ⟨0, by omega, rfl, World.ownsRow_nil _ _ _ _, Below.refl _ _⟩
  case round =>
    obtain ⟨k, hk, rfl, O, B⟩ := hrel
    by_cases hlt : k < n
    · obtain ⟨b, o, rfl, hbs, hcell⟩ := HH.out.opened (by omega)
      have hi := HI.out k hlt
      obtain ⟨x, hx⟩ : ∃ x, x = rg xs k := ⟨_, rfl⟩
      have hr := hcell k hlt
      have hs : hdS xs (k + 1) = hdS xs k ++ (if (rg xs k).k = 0 then [(rg xs k).n] else []) := rfl
      have hsl := hdS_le xs k
      obtain ⟨L, hL⟩ : ∃ L, L = hdS xs k := ⟨_, rfl⟩
      rw [← hx] at hr hs hi
      rw [← hL] at hs hsl O
      obtain ⟨c0, c1, c2, c3⟩ := hr.below hbs (B.mono (Nat.le_refl _))
      clear hx hcell hr hL
      obtain ⟨xk, xb, xn, xf⟩ := x
      dsimp only at c0 c1 c2 c3 hs hi
      by_cases hz : xk = 0
      · rw [if_pos hz] at hs
        have HS : Hid _ := hs
        have hz' : (xk == 0) = true := by simpa using hz
        obtain ⟨m, hm⟩ : ∃ m, m = L.length := ⟨_, rfl⟩
        rw [← hm] at hsl O
        have HM : Hid _ := hm
        clear hs hz hm
        have hos := O.alloc (.cells #[.int .i64 xn] 3)
        have hone := Is.one wr xn hi.1 hi.2
        have zB := B.size
        have HB : Hid _ := B
        clear B O
        go_wp2_with (at_builtin; refine wpl_append_is rfl _ _ rfl w.heap.size _ m L rfl _ 1 1 [xn] rfl hos hone ?_ ?_ ?_)
        · omega
        · first | omega | (simp; omega)
        intro v2 y2 o2 g2 _
        have b2 : Below w.heap.size w y2 := (HB.out.alloc zB _).grown g2 (by simp; omega) (fun q hq => (hos.lt q hq).1)
        have HO2 : Hid (y2.ownsRow w.heap.size 3 1 v2 (m + 1) (I64 (L ++ [xn]))) := by unfold Hid; simpa using o2
        have HB2 : Hid _ := b2
        clear g2 o2 b2 hos hone c0 c1 c2 c3
        go_wp2
        go_roundw
        case rel => exact ⟨k + 1, by omega, by go_num, by rw [HS.out, List.length_append, ← HM.out]; exact HO2.out, HB2.out⟩
        case measure => simp [intOf]; omega
      · rw [if_neg hz, List.append_nil] at hs
        have HS : Hid _ := hs
        have hz' : (xk == 0) = false := by simpa using hz
        clear hs hz
        go_wp2
        go_roundw
        case rel => exact ⟨k + 1, by omega, by go_num, by rw [HS.out]; exact O, B⟩
        case measure => simp [intOf]; omega
    · have hkn : k = n := by omega
      subst hkn
      go_wp2
      go_ret
      exact ⟨_, rfl, O, B⟩
end Go.Proofs.Ytgfjbaigmkdbcaa
