/-
  What is proved here: the contract of the laws' same: two slices of bytes are held against each other.
-/
import Derived.Test.YtofflhhlacdgfaaDoorJP1
import Derived.Laws.BytesArg
namespace Go.Proofs.YtofflhhlacdgfaaDoor
set_option maxRecDepth 100000
open Go.RowKit

theorem conv_bs {w : World} {a : Option Addr} {n c : Nat} {xs : List Int} (h : Bs w a n c xs) : (convert 22 9 (.slice a n c)).run Tryd.prog w = .ok (.string (strOfNums xs)) w := by
  obtain ⟨_, hl, hc, _, h⟩ := h
  rcases h with h | ⟨b, o, rfl, _, hcell⟩
  · subst h
    have hx : xs = [] := List.eq_nil_of_length_eq_zero hl
    subst hx
    rw [run_convert_bytes_string w 22 9 5 _ 0 c Tryd.underlying22 Tryd.underlying5 Tryd.underlying9]
    cases a with
    | none => simp [Conv.bytesToString]; rfl
    | some ad => simp [Conv.bytesToString, loadCells]; rfl
  · exact run_convert_bytes_arg w 22 5 Tryd.underlying22 Tryd.underlying5 b o n c xs hl hcell 9 Tryd.underlying9

set_option maxHeartbeats 400000 in
theorem sameB (a a' : Option Addr) (n c n' c' : Nat) (xs ys : List Int) (w : World) (h : Bs w a n c xs) (h' : Bs w a' n' c' ys) :
    Calls Tryd.prog 18 #[.slice a n c, .slice a' n' c'] w fun e w' => e = .returned (.bool ((strOfNums xs).toList == (strOfNums ys).toList)) ∧ w' = w := by
  have g1 := conv_bs h
  have g2 := conv_bs h'
  clear h h'
  go_enter Tryd.func18, Tryd.ntmps18
  go_wp2
  go_ret
  exact ⟨rfl, rfl⟩

theorem sameT (a a' : Option Addr) (n c n' c' : Nat) (xs ys : List Int) (w : World) (h : Bs w a n c xs) (h' : Bs w a' n' c' ys) (e : xs = ys) :
    Calls Tryd.prog 18 #[.slice a n c, .slice a' n' c'] w fun e w' => e = .returned (.bool true) ∧ w' = w := by
  refine (sameB a a' n c n' c' xs ys w h h').mono ?_
  rintro e' w' ⟨rfl, hw⟩
  subst e
  exact ⟨by simp, hw⟩

end Go.Proofs.YtofflhhlacdgfaaDoor
