/-
  What is proved here: the contract of the specification's DrawScAdd.
-/
import Derived.Test.YtlafcjoccbinaaaDoorZV
namespace Go.Proofs.YtlafcjoccbinaaaDoor
open Go.RowKit
set_option maxRecDepth 100000

set_option maxHeartbeats 2000000 in
theorem drawScAdd (a : Option Addr) (n c : Nat) (xs : List Int) (w : World) (h : Bs w a n c xs) (hm : n ≤ 9223372036854775807) :
    Calls Tryd.prog 11 #[.slice a n c] w fun e w' => ∃ v l u m, e = .returned (.tuple #[v, u]) ∧ FeV w w' v l ∧ FeV w w' u m ∧ Below w.heap.size w w' := by
  obtain ⟨W, hW⟩ : ∃ W, W = (w.alloc (.cells #[.slice none 0 0] 25)).alloc (.cells #[.slice none 0 0] 25) := ⟨_, rfl⟩
  have z0 : Arr W w.heap.size 25 [.slice none 0 0] := by rw [hW]; exact (Arr.new w [.slice none 0 0] _).alloc _
  have y0 : Arr W (w.heap.size + 1) 25 [.slice none 0 0] := by
    rw [hW]
    have := Arr.new (w.alloc (.cells #[.slice none 0 0] 25)) [.slice none 0 0] 25
    rw [World.size_alloc] at this
    exact this
  have gB : Below w.heap.size w W := by rw [hW]; exact ((Below.refl _ _).alloc (Nat.le_refl _) _).alloc (by simp) _
  go_enter Tryd.func11, Tryd.ntmps11
  go_wp2_with fail
  rw [← hW]
  clear hW
  refine (curNew a n c xs _ (h.below gB) hm).mono ?_
  rintro e w1 ⟨rfl, c1, d1, hs1, hb1⟩
  have l0 := y0.lt
  have z1 := z0.kept hb1
  have y1 := y0.kept hb1
  have gB1 := gB.trans (hb1.mono gB.size)
  clear z0 y0
  go_wp2_with fail
  refine (curBent5 W.heap.size a n c xs _ c1 d1).mono ?_
  rintro e w2 ⟨v, l, rfl, ⟨a', n', c', rfl, his, hoff, hn⟩, c2, g2⟩
  have d2 := d1.grown g2
  have z2 := arr_cur z1 g2 (by omega)
  have y2 := arr_cur y1 g2 (by omega)
  have gB2 : Below w.heap.size w w2 := gB1.grown g2 (by omega) (fun k hk => by have := Option.some.inj hk; omega)
  go_wp2_with fail
  refine (curBent5 W.heap.size a n c xs _ c2 d2).mono ?_
  rintro e w3 ⟨u, m, rfl, ⟨a2, n2, e2, rfl, jis, joff, jn⟩, c3, g3⟩
  have z3 := arr_cur z2 g3 (by omega)
  have y3 := arr_cur y2 g3 (by omega)
  have gB3 : Below w.heap.size w w3 := gB2.grown g3 gB2.size (fun k hk => by have := Option.some.inj hk; omega)
  replace his := is_cur his g3 hoff (by omega)
  have hz := g2.size
  have hc0 : w3.cell? ⟨w.heap.size, 0, none⟩ = some (.slice none 0 0) := z3.cell 0
  have hf0 := z3.frozen 0
  have hc1 : w3.cell? ⟨w.heap.size + 1, 0, none⟩ = some (.slice none 0 0) := y3.cell 0
  have hf1 := y3.frozen 0
  have Z4 := (z3.set 0 (.slice a' n' c')).other ⟨w.heap.size + 1, 0, none⟩ (.slice a2 n2 e2) (by show w.heap.size ≠ w.heap.size + 1; omega)
  have Y4 := (y3.other ⟨w.heap.size, 0, none⟩ (.slice a' n' c') (by show w.heap.size + 1 ≠ w.heap.size; omega)).set 0 (.slice a2 n2 e2)
  have B4 := (gB3.setCell (p := ⟨w.heap.size, 0, none⟩) (Nat.le_refl _) (.slice a' n' c')).setCell (p := ⟨w.heap.size + 1, 0, none⟩) (by show w.heap.size ≤ w.heap.size + 1; omega) (.slice a2 n2 e2)
  have I4 := is_far (is_far his w.heap.size 0 (.slice a' n' c') (fun b o s e => by have := hoff b o s e; omega)) (w.heap.size + 1) 0 (.slice a2 n2 e2) (fun b o s e => by have := hoff b o s e; omega)
  have J4 := is_far (is_far jis w.heap.size 0 (.slice a' n' c') (fun b o s e => by have := joff b o s e; omega)) (w.heap.size + 1) 0 (.slice a2 n2 e2) (fun b o s e => by have := joff b o s e; omega)
  have HZ : Hid _ := Z4
  have HY : Hid _ := Y4
  have HB : Hid _ := B4
  have HI : Hid (FeV w ((w3.setCell ⟨w.heap.size, 0, none⟩ (.slice a' n' c')).setCell ⟨w.heap.size + 1, 0, none⟩ (.slice a2 n2 e2)) (.agg #[.slice a' n' c']) l) := ⟨a', n', c', rfl, I4, fun b o s e => by have := hoff b o s e; omega, hn⟩
  have HJ : Hid (FeV w ((w3.setCell ⟨w.heap.size, 0, none⟩ (.slice a' n' c')).setCell ⟨w.heap.size + 1, 0, none⟩ (.slice a2 n2 e2)) (.agg #[.slice a2 n2 e2]) m) := ⟨a2, n2, e2, rfl, J4, fun b o s e => by have := joff b o s e; omega, jn⟩
  clear z1 z2 z3 y1 y2 y3 gB gB1 gB2 gB3 c1 d1 c2 d2 g2 c3 g3 his hoff jis joff hb1 h Z4 Y4 B4 I4 J4
  go_wp2
  exact bodyPost_ret (results_two (cs := [.slice a' n' c']) (ds := [.slice a2 n2 e2]) rfl rfl rfl HZ.out HY.out Tryd.underlying25 rfl infoSc infoSc) rfl ⟨_, l, _, m, rfl, HI.out, HJ.out, HB.out⟩
end Go.Proofs.YtlafcjoccbinaaaDoor
