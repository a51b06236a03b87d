/-
  What is proved here: what the program's Handed answers.
-/
import Derived.Test.YtgfjbaigmkdbcaaR1
import Derived.Deep.CutRange
namespace Go.Proofs.Ytgfjbaigmkdbcaa
open Go.RowKit
set_option maxRecDepth 100000
set_option maxHeartbeats 4000000
set_option linter.unusedVariables false

theorem implHanded (a : Option Addr) (n c : Nat) (xs : List Rc) (w : World) (h : Rs w a n c xs) (hn : n ≤ 9223372036854775807) (hI : rgI n xs) :
    Calls Try.prog 68 #[.slice a n c] w fun e w' => ∃ v, e = .returned v ∧ w'.ownsRow w.heap.size 3 1 v (hdL xs).length (I64 (hdL xs)) ∧ Below w.heap.size w w' := by
  have hl := h.2.1
  by_cases h30 : 30 < (n : Int)
  · have e1 : hdL xs = [] := if_neg (by omega)
    rw [e1]
    clear e1 h
    go_enter Try.func68, Try.ntmps68
    go_wp2
    go_ret
    exact ⟨_, rfl, World.ownsRow_nil _ _ _ _, Below.refl _ _⟩
  have e1 : hdL xs = hdS xs n := by unfold hdL; rw [if_pos (by omega), hl]
  rw [e1]
  have HH : Hid (Rs w a n c xs) := h
  have HI : Hid _ := hI
  clear e1 h hI hl
  go_enter Try.func68, Try.ntmps68
  go_wp2
  go_loopw [3, 11] (fun v i wr => ∃ k : Nat, k ≤ n ∧ i = .int .i64 k ∧ wr.ownsRow w.heap.size 3 1 v (hdS xs k).length (I64 (hdS xs k)) ∧ Below w.heap.size w wr) (fun _ i _ => n - (intOf i).toNat)
  case atStart => exact ⟨0, by omega, rfl, World.ownsRow_nil _ _ _ _, Below.refl _ _⟩
  case round =>
    obtain ⟨k, hk, rfl, O, B⟩ := hrel
    by_cases hlt : k < n
    · obtain ⟨b, o, rfl, hbs, hcell⟩ := HH.out.opened (by omega)
      have hi := HI.out k hlt
      obtain ⟨x, hx⟩ : ∃ x, x = rg xs k := ⟨_, rfl⟩
      have hr := hcell k hlt
      have hs : hdS xs (k + 1) = hdS xs k ++ (if (rg xs k).k = 0 then [(rg xs k).n] else []) := rfl
      have hsl := hdS_le xs k
      obtain ⟨L, hL⟩ : ∃ L, L = hdS xs k := ⟨_, rfl⟩
      rw [← hx] at hr hs hi
      rw [← hL] at hs hsl O
      obtain ⟨c0, c1, c2, c3⟩ := hr.below hbs (B.mono (Nat.le_refl _))
      clear hx hcell hr hL
      obtain ⟨xk, xb, xn, xf⟩ := x
      dsimp only at c0 c1 c2 c3 hs hi
      obtain ⟨V, hV⟩ : ∃ V, V = wr.alloc (.cells #[.int .i64 xk, .int .i64 xb, .int .i64 xn, .int .i64 xf] 161) := ⟨_, rfl⟩
      have b3 : Below wr.heap.size wr V := by rw [hV]; exact (Below.refl _ _).alloc (Nat.le_refl _) _
      have A : Arr V wr.heap.size 161 [.int .i64 xk, .int .i64 xb, .int .i64 xn, .int .i64 xf] := by rw [hV]; exact Arr.new _ _ _
      replace O := own_below O b3
      replace B := B.trans (b3.mono B.size)
      go_upto_region 7 with fail
      rw [← hV]
      clear hV b3 c0 c1 c2 c3
      have c0 := A.cell 0
      have c2 := A.cell 2
      simp at c0 c2
      by_cases hz : xk = 0
      · rw [if_pos hz] at hs
        have HS : Hid _ := hs
        have hz' : (xk == 0) = true := by simpa using hz
        obtain ⟨m, hm⟩ : ∃ m, m = L.length := ⟨_, rfl⟩
        rw [← hm] at hsl O
        have HM : Hid _ := hm
        clear hs hz hm
        have hos := O.alloc (.cells #[.int .i64 xn] 3)
        have hone := Is.one V xn hi.1 hi.2
        have zB := B.size
        have HB : Hid _ := B
        clear B O A
        go_wp2_with (at_builtin; refine wpl_append_is rfl _ _ rfl w.heap.size _ m L rfl _ 1 1 [xn] rfl hos hone ?_ ?_ ?_)
        · omega
        · first | omega | (simp; omega)
        intro v2 y2 o2 g2 _
        have b2 : Below w.heap.size w y2 := (HB.out.alloc zB _).grown g2 (by simp; omega) (fun q hq => (hos.lt q hq).1)
        have HO2 : Hid (y2.ownsRow w.heap.size 3 1 v2 (m + 1) (I64 (L ++ [xn]))) := by unfold Hid; simpa using o2
        have HB2 : Hid _ := b2
        clear g2 o2 b2 hos hone c0 c2
        go_wp2
        go_roundw
        case rel => exact ⟨k + 1, by omega, by go_num, by rw [HS.out, List.length_append, ← HM.out]; exact HO2.out, HB2.out⟩
        case measure => simp [intOf]; omega
      · rw [if_neg hz, List.append_nil] at hs
        have HS : Hid _ := hs
        have hz' : (xk == 0) = false := by simpa using hz
        clear hs hz
        go_wp2
        go_roundw
        case rel => exact ⟨k + 1, by omega, by go_num, by rw [HS.out]; exact O, B⟩
        case measure => simp [intOf]; omega
    · have hkn : k = n := by omega
      subst hkn
      go_wp2
      go_ret
      exact ⟨_, rfl, O, B⟩
end Go.Proofs.Ytgfjbaigmkdbcaa
