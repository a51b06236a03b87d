/-
  What is proved here: the contract of the specification's l4out: a number of the field into a new slice of ints.
-/
import Derived.Test.YtpchdfdeomhakaaFnb
import Derived.Test.YtpchdfdeomhakaaAppI
namespace Go.Proofs.Ytpchdfdeomhakaa
open Go.RowKit
set_option maxRecDepth 100000

theorem own_other' {w : World} {b e s n : Nat} {v : Value} {xs : List Value} (h : w.ownsRow b e s v n xs) (p : Addr) (u : Value) (hp : p.block < b) : (w.setCell p u).ownsRow b e s v n xs := by
  refine ⟨h.1, ?_⟩
  rcases h.2 with hn | ⟨g, cap, cur, rfl, hg, hgg, rest⟩
  · exact .inl hn
  · refine .inr ⟨g, cap, cur, rfl, hg, ?_, rest⟩
    rw [heap_setCell_other w p g u (by omega)]
    exact hgg


set_option maxHeartbeats 1000000 in
theorem specOut (l : List Int) (w : World) (hl : l.length = 16) (hm : Lm l) :
    Calls Try.prog 9 #[.agg (I64 l).toArray] w fun e w' => ∃ a c, e = .returned (.agg #[.slice a 16 c]) ∧ w'.ownsRow w.heap.size 3 1 (.slice a 16 c) 16 (I64 l) ∧ Below w.heap.size w w' := by
  obtain ⟨A, hA⟩ : ∃ A, A = (I64 l).toArray := ⟨_, rfl⟩
  rw [← hA]
  obtain ⟨W, hW⟩ : ∃ W, W = (w.alloc (.cells A 32)).alloc (.cells #[.slice none 0 0] 24) := ⟨_, rfl⟩
  have g0 : Arr W w.heap.size 32 (I64 l) := by rw [hW, hA]; exact (Arr.new w (I64 l) _).alloc _
  have g1 : Arr W (w.heap.size + 1) 24 [.slice none 0 0] := by
    rw [hW]
    have := Arr.new (w.alloc (.cells A 32)) [.slice none 0 0] 24
    rw [World.size_alloc] at this
    exact this
  have gB : Below w.heap.size w W := by rw [hW]; exact ((Below.refl _ _).alloc (Nat.le_refl _) _).alloc (by simp) _
  clear hA
  go_enter Try.func9, Try.ntmps9
  go_wp2
  go_loopw [3, 4] (fun v i wr => ∃ k : Nat, k ≤ 16 ∧ i = .int .i64 k ∧ wr.ownsRow (w.heap.size + 2) 3 1 v k (I64 (l.take k)) ∧ Arr wr w.heap.size 32 (I64 l) ∧ Arr wr (w.heap.size + 1) 24 [.slice none 0 0] ∧ Below w.heap.size w wr ∧ w.heap.size + 2 ≤ wr.heap.size) (fun _ i _ => 16 - (intOf i).toNat)
  case atStart => exact ⟨0, by omega, rfl, by simpa using World.ownsRow_nil _ _ _ _, hW ▸ g0, hW ▸ g1, hW ▸ gB, by simp⟩
  case round =>
    clear g0 g1 gB hW
    obtain ⟨k, hk, rfl, ho, g0, g1, gB, gs⟩ := hrel
    by_cases hlt : k < 16
    · obtain ⟨x, hx⟩ : ∃ x, x = l.getD k 0 := ⟨_, rfl⟩
      have hck := g0.i64 k (by omega)
      rw [← hx] at hck
      have hxb := gD_lm hm k
      rw [← hx] at hxb
      have hts := take_app l k (by omega)
      rw [← hx] at hts
      have HTS : Hid _ := hts
      have hk16 : (k : Int) < 16 := by omega
      have hk0 : (0 : Int) ≤ (k : Int) := by omega
      clear hts hx
      go_wp2_with (at_builtin; refine wpl_append_is rfl _ _ rfl (w.heap.size + 2) _ k (l.take k) rfl (some ⟨wr.heap.size, 0, none⟩) 1 1 [x] rfl (ho.alloc _) ?_ ?_ ?_ ?_)
      · exact Is.one _ _ (by omega) (by omega)
      · omega
      · first | omega | (simp; omega)
      intro v' w' h1 h2 _
      have hbA : Below (w.heap.size + 2) wr w' := ((Below.refl _ _).alloc (by omega) _).grown h2 (by simp; omega) (fun j hj => (ho.lt j hj).1)
      have g0' := g0.below hbA (by omega)
      have g1' := g1.below hbA (by omega)
      have gB' := gB.trans (hbA.mono (by omega))
      have gs' := Nat.le_trans gs hbA.size
      have HR : Hid (w'.ownsRow (w.heap.size + 2) 3 1 v' (k + 1) (I64 (l.take (k + 1)))) := by
        unfold Hid
        rw [HTS.out]; simpa using h1
      clear h1 h2 ho g0 g1 gB hbA HTS hck
      go_wp2
      go_roundw
      case rel => exact ⟨k + 1, by omega, by go_num, HR.out, g0', g1', gB', gs'⟩
      case measure => simp [intOf]; omega
    · obtain rfl : k = 16 := by omega
      rw [List.take_of_length_le (by omega)] at ho
      obtain ⟨a, c, rfl, _, _⟩ := Is.own ho (fun x hx => by have := hm x hx; omega)
      have c1 : wr.cell? ⟨w.heap.size + 1, 0, none⟩ = some (.slice none 0 0) := g1.cell 0
      have hf1 := g1.frozen 0
      have g1' := g1.set 0 (.slice a 16 c)
      have gB' := gB.setCell (p := ⟨w.heap.size + 1, 0, none⟩) (by simp) (.slice a 16 c)
      have ho' := own_base (own_other' ho ⟨w.heap.size + 1, 0, none⟩ (.slice a 16 c) (by show w.heap.size + 1 < w.heap.size + 2; omega)) (show w.heap.size ≤ w.heap.size + 2 by omega)
      have G1 : Hid _ := g1'
      have GB : Hid _ := gB'
      have HO : Hid _ := ho'
      clear g1' gB' ho' g0 g1 gB ho
      go_wp2
      exact bodyPost_ret (results_cell_row rfl _ _ (w.heap.size + 1) 24 _ (0, 0) _ rfl G1.out Try.underlying24 rfl (by kernel_rfl)) rfl ⟨a, c, rfl, HO.out, GB.out⟩
end Go.Proofs.Ytpchdfdeomhakaa
