/-
  What is proved here: contracts of the laws' helpers on a multiplier: count, copy.
-/
import Derived.Test.YtlafcjoccbinaaaDoorZS
import Derived.Test.YtlafcjoccbinaaaDoorZC
import Derived.Test.YtlafcjoccbinaaaDoorZKlB
import Derived.Test.YtlafcjoccbinaaaDoorZA
namespace Go.Proofs.YtlafcjoccbinaaaDoor
open Go.RowKit

theorem infoScL : (Tryd.prog.info? 37).map (·.size) = some 1 := by kernel_rfl

set_option maxHeartbeats 1000000 in
theorem szScC (a : Option Addr) (n c : Nat) (l : Int) (w : World) (h0 : 0 ≤ l) (hl : l ≤ 1048576) (hn : n ≤ 9223372036854775807) :
    Calls Tryd.prog 23 #[.agg #[.slice a n c], .int .i64 l] w fun e w' => ∃ r : Int, e = .returned (.int .i64 r) ∧ (r = -1 ∨ 0 ≤ r ∧ r ≤ l ∧ n ≤ 1048576) ∧ Below w.heap.size w w' := by
  have HB : Hid (Below w.heap.size w (w.alloc (.cells #[.slice a n c] 37))) := (Below.refl _ _).alloc (Nat.le_refl _) _
  go_enter Tryd.func23, Tryd.ntmps23
  go_wp2_with fail
  refine (szI a n c l _ h0 hl hn).mono ?_
  rintro e w1 ⟨rfl, rfl⟩
  by_cases hlt : l - (n : Int) < 0
  · rw [if_pos hlt]
    go_wp2
    go_ret
    exact ⟨-1, rfl, .inl rfl, HB.out⟩
  · rw [if_neg hlt]
    go_wp2
    go_ret
    exact ⟨_, rfl, .inr (by omega), HB.out⟩

set_option maxHeartbeats 1000000 in
theorem toScC (a : Option Addr) (n c : Nat) (xs : List Int) (w : World) (h : Is w a n c xs) (hn : n ≤ 2097152) :
    Calls Tryd.prog 24 #[.agg #[.slice a n c]] w fun e w' => ∃ a' c', e = .returned (.agg #[.slice a' n c']) ∧ w'.ownsRow w.heap.size 3 1 (.slice a' n c') n (I64 xs) ∧ Is w' a' n c' xs ∧ Below w.heap.size w w' := by
  obtain ⟨W, hW⟩ : ∃ W, W = ((w.alloc (.cells #[.slice a n c] 37)).alloc (.cells #[.slice none 0 0] 25)).alloc (.cells #[.slice none 0 0] 25) := ⟨_, rfl⟩
  have gB : Below w.heap.size w W := by rw [hW]; exact (((Below.refl _ _).alloc (Nat.le_refl _) _).alloc (by simp) _).alloc (by simp; omega) _
  have g1 : Arr W (w.heap.size + 1) 25 [.slice none 0 0] := by
    rw [hW]
    have := (Arr.new (w.alloc (.cells #[.slice a n c] 37)) [.slice none 0 0] 25).alloc (.cells #[.slice none 0 0] 25)
    rw [World.size_alloc] at this
    exact this
  have g2 : Arr W (w.heap.size + 1 + 1) 25 [.slice none 0 0] := by
    rw [hW]
    have := Arr.new ((w.alloc (.cells #[.slice a n c] 37)).alloc (.cells #[.slice none 0 0] 25)) [.slice none 0 0] 25
    rw [World.size_alloc, World.size_alloc] at this
    exact this
  go_enter Tryd.func24, Tryd.ntmps24
  go_wp2_with fail
  rw [← hW]
  clear hW
  refine (toSI a n c xs _ (h.below gB) hn).mono ?_
  rintro e w1 ⟨a', c', rfl, ho, hi, hb1⟩
  have f1 := g1.kept hb1
  have f2 := g2.kept hb1
  have fB := gB.trans (hb1.mono gB.size)
  have l2 := g2.lt
  have c1 : w1.cell? ⟨w.heap.size + 1, 0, none⟩ = some (.slice none 0 0) := f1.cell 0
  have c2 : w1.cell? ⟨w.heap.size + 1 + 1, 0, none⟩ = some (.slice none 0 0) := f2.cell 0
  have z1 := f1.frozen 0
  have z2 := f2.frozen 0
  have hby := h.2.2.2.1
  have F2' := f2.set 0 (.slice a' n c')
  have F1' := (f1.other ⟨w.heap.size + 1 + 1, 0, none⟩ (.slice a' n c') (by show w.heap.size + 1 ≠ w.heap.size + 1 + 1; omega)).set 0 (.slice a' n c')
  have FB := (fB.setCell (p := ⟨w.heap.size + 1 + 1, 0, none⟩) (by show w.heap.size ≤ w.heap.size + 1 + 1; omega) (.slice a' n c')).setCell (p := ⟨w.heap.size + 1, 0, none⟩) (by show w.heap.size ≤ w.heap.size + 1; omega) (.slice a' n c')
  have HO := own_base (own_other' (own_other' ho ⟨w.heap.size + 1 + 1, 0, none⟩ (.slice a' n c') l2) ⟨w.heap.size + 1, 0, none⟩ (.slice a' n c') (by show w.heap.size + 1 < _; omega)) gB.size
  have HOO : Hid _ := HO
  have HFB : Hid _ := FB
  have HF1 : Hid _ := F1'
  have d2 : (w1.setCell ⟨w.heap.size + 1 + 1, 0, none⟩ (.slice a' n c')).cell? ⟨w.heap.size + 1 + 1, 0, none⟩ = some (.slice a' n c') := F2'.cell 0
  clear ho hi hb1 f1 f2 fB F2' F1' FB HO g1 g2 gB
  go_wp2
  refine bodyPost_ret (results_cell_row rfl _ _ (w.heap.size + 1) 25 #[.slice a' n c'] (0, 0) _ rfl HF1.out Tryd.underlying25 rfl (by kernel_rfl)) rfl ⟨a', c', rfl, HOO.out, ?_, HFB.out⟩
  obtain ⟨a2, cap2, e2, _, hi2⟩ := Is.own HOO.out hby
  injection e2 with e3 _ e4
  subst e3 e4
  exact hi2
end Go.Proofs.YtlafcjoccbinaaaDoor
