/-
  What is proved here: what the specification's l8drawParts answers: one to three parts in a row of its own.
-/
import Derived.Test.YtofflhhlacdgfaaDoorPl0
import Derived.Test.YtofflhhlacdgfaaDoorJM6
namespace Go.Proofs.YtofflhhlacdgfaaDoor
open Go.RowKit
set_option maxRecDepth 100000
set_option maxHeartbeats 4000000
set_option linter.unusedVariables false

theorem curDrawParts (p : Nat) (a : Option Addr) (n c : Nat) (xs : List Int) (w : World) (hcur : Cur w p a n c) (hcode : Coded w p a n c xs) :
    Calls Tryd.prog 111 #[.pointer (some ⟨p, 0, none⟩)] w fun e w' => ∃ (g cap k : Nat) (l : List L4), e = .returned (.slice (some ⟨g, 0, none⟩) k cap) ∧ (0 < k ∧ k ≤ 3) ∧ l.length = k ∧ w'.ownsRow w.heap.size 45 4 (.slice (some ⟨g, 0, none⟩) k cap) k (QL l) ∧ Sums w.heap.size w' l k ∧ Cur w' p a n c ∧ w.grownBy w' (some p) := by
  have hp0 := cur_lt hcur
  have D : D8 w w p a n c := ⟨hcur, World.grownBy.refl _ _⟩
  go_enter Tryd.func111, Tryd.ntmps111
  clear hcur
  go_wp2
  go_loopw [3, 4] (fun v i wr => ∃ (j k : Nat) (l : List L4), j ≤ 3 ∧ k ≤ j ∧ i = .int .i64 j ∧ l.length = k ∧ Hid (wr.ownsRow w.heap.size 45 4 v k (QL l)) ∧ Hid (Sums w.heap.size wr l k) ∧ D8 w wr p a n c) (fun _ i _ => 3 - (intOf i).toNat)
  case atStart => exact ⟨0, 0, [], by omega, by omega, rfl, rfl, World.ownsRow_nil _ _ _ _, (fun q hq => by omega), D⟩
  case round =>
    clear D
    obtain ⟨j, k, l, hj, hkj, rfl, hl, HO, HP, D⟩ := hrel
    by_cases hlt : (j : Int) < 3
    · have hwj : IntKind.i64.wrap ((j : Int) + 1) = (j : Int) + 1 := wr64 (by omega) (by omega)
      go_wp2_with fail
      refine (curOnce p a n c xs _ _ D.cu (hcode.grown D.gr) (by omega)).mono ?_
      rintro e w2 ⟨q, rfl, hc, hg⟩
      replace D := D.draw hc hg
      replace HO : Hid (w2.ownsRow w.heap.size 45 4 u3 k (QL l)) := own_pk HO.out hp0 hg
      replace HP : Hid (Sums w.heap.size w2 l k) := HP.out.p hp0 hg
      clear hc hg
      cases q
      · go_wp2_with fail
        refine (curBelow p a n c xs _ _ D.cu (hcode.grown D.gr) (by omega)).mono ?_
        rintro e w5 ⟨x, rfl, h0_x, h1_x, _, hc, hg⟩
        replace h1_x := h1_x (by omega)
        replace D := D.draw hc hg
        replace HO : Hid (w5.ownsRow w.heap.size 45 4 u3 k (QL l)) := own_pk HO.out hp0 hg
        replace HP : Hid (Sums w.heap.size w5 l k) := HP.out.p hp0 hg
        clear hc hg
        have hw1 : IntKind.i64.wrap (1 + x) = 1 + x := wr64 (by omega) (by omega)
        have hw2 : IntKind.i64.wrap (20 * (1 + x)) = 20 * (1 + x) := wr64 (by omega) (by omega)
        have hw3 : IntKind.i64.wrap (1 + 20 * (1 + x)) = 1 + 20 * (1 + x) := wr64 (by omega) (by omega)
        go_wp2_with fail
        clear hw1 hw2 hw3
        have b1 : 0 ≤ (j : Int) ∧ (j : Int) ≤ 10 := ⟨by omega, by omega⟩
        have b2 : 0 ≤ 1 + x ∧ 1 + x ≤ 10 := ⟨by omega, by omega⟩
        have b3 : 1 + 20 * (1 + x) ≤ 200 := by omega
        refine (specL8dataG (j : Int) (1 + x) (1 + 20 * (1 + x)) _ b1 b2 b3).mono ?_
        clear b1 b2 b3
        rintro e w6 ⟨u, ys, rfl, o, hyb, hyl, hb⟩
        obtain ⟨ua, uc, rfl, _, _⟩ := Bs.own o hyb
        obtain ⟨m, hm⟩ : ∃ m, m = ys.length := ⟨_, rfl⟩
        have hBs := bs_of_own o hyb
        rw [← hm] at hyl hBs o ⊢
        replace D := D.below hb
        replace HO : Hid (w6.ownsRow w.heap.size 45 4 u3 k (QL l)) := own_below HO.out hb
        replace HP : Hid (Sums w.heap.size w6 l k) := HP.out.below hb
        have hok : partOk (j : Int) (1 + x) (m : Int) 32 := ⟨⟨by omega, by omega⟩, ⟨by omega, by omega⟩, ⟨by omega, by omega⟩, rfl⟩
        have HS : Hid _ := specPartMade (j : Int) (1 + x) ua m uc ys w6 hBs hok
        clear o hyb hyl hb hBs hm hok
        go_wp2_with fail
        refine Calls.mono HS.out ?_
        clear HS
        rintro e w7 ⟨va, vc, hs, rfl, o, hhb, hhl, hb⟩
        replace HO : Hid (w7.ownsRow w.heap.size 45 4 u3 k (QL l)) := own_below HO.out hb
        replace HP : Hid (Sums w.heap.size w7 l k) := HP.out.below hb
        have HR : Hid (w7.ownsRow w.heap.size 5 1 (.slice va 32 vc) 32 (U8 hs)) := own_lowK o D.gr.size
        replace D := D.below hb
        have HY : Hid ((∀ x ∈ hs, 0 ≤ x ∧ x < 256) ∧ hs.length = 32) := ⟨hhb, hhl⟩
        clear o hhb hhl hb
        obtain ⟨X, hX⟩ : ∃ X, X = w7.alloc (.cells #[.int .i64 (j : Int), .int .i64 (1 + x), .int .i64 (m : Int), .slice va 32 vc] 45) := ⟨_, rfl⟩
        have A : Arr X w7.heap.size 45 [.int .i64 (j : Int), .int .i64 (1 + x), .int .i64 (m : Int), .slice va 32 vc] := by rw [hX]; exact Arr.new _ _ _
        have bX : Below w7.heap.size w7 X := by rw [hX]; exact (Below.refl _ _).alloc (Nat.le_refl _) _
        obtain ⟨G, hG⟩ : ∃ G, G = w7.heap.size := ⟨_, rfl⟩
        rw [← hG] at A
        go_upto_region 8 with fail
        rw [← hX]
        rw [← hG]
        clear hX hG
        replace D := D.below bX
        replace HO : Hid (X.ownsRow w.heap.size 45 4 u3 k (QL l)) := own_below HO.out bX
        replace HP : Hid (Sums w.heap.size X l k) := HP.out.below bX
        replace HR : Hid (X.ownsRow w.heap.size 5 1 (.slice va 32 vc) 32 (U8 hs)) := own_below HR.out bX
        have d0 := A.cell 0
        have d1 := A.cell 1
        have d2 := A.cell 2
        have d3 := A.cell 3
        simp at d0 d1 d2 d3
        clear A bX
        go_wp2_with (at_builtin; refine wpl_app_p4 rfl _ _ rfl w.heap.size u3 k l rfl X.heap.size 1 (j : Int) (1 + x) (m : Int) va 32 vc rfl (World.ownsRow.alloc HO.out _) (Arr.new X [.int .i64 (j : Int), .int .i64 (1 + x), .int .i64 (m : Int), .slice va 32 vc] 45) (by omega) (Nat.le_trans D.gr.size (by simp)) ?_)
        intro v3 w8 O3 g3
        have hbA : Below X.heap.size X (X.alloc (.cells #[.int .i64 (j : Int), .int .i64 (1 + x), .int .i64 (m : Int), .slice va 32 vc] 45)) := (Below.refl _ _).alloc (Nat.le_refl _) _
        have HP3 : Hid (Sums w.heap.size w8 (l ++ [⟨.int .i64 (j : Int), .int .i64 (1 + x), .int .i64 (m : Int), .slice va 32 vc⟩]) (k + 1)) := by
          have o0 : (X.alloc (.cells #[.int .i64 (j : Int), .int .i64 (1 + x), .int .i64 (m : Int), .slice va 32 vc] 45)).ownsRow w.heap.size 45 4 u3 k (QL l) := World.ownsRow.alloc HO.out _
          have o1 := (World.ownsRow.alloc HR.out (.cells #[.int .i64 (j : Int), .int .i64 (1 + x), .int .i64 (m : Int), .slice va 32 vc] 45)).kept g3 (own_types o0 (World.ownsRow.alloc HR.out _) (by decide))
          have p1 := (HP.out.below hbA).grown o0 (by decide) g3
          have h32 := HY.out.2
          have := p1.snoc hl (j : Int) (1 + x) (m : Int) va vc hs (by rw [h32]; exact o1) HY.out
          rw [h32] at this
          exact this
        replace D := (D.alloc _).app (World.ownsRow.alloc HO.out _) (Nat.le_refl _) hp0 g3
        have HO3 : Hid (w8.ownsRow w.heap.size 45 4 v3 (k + 1) (QL (l ++ [⟨.int .i64 (j : Int), .int .i64 (1 + x), .int .i64 (m : Int), .slice va 32 vc⟩]))) := O3
        clear O3 g3 hbA HO HP HR d0 d1 d2 d3
        go_wp2
        go_roundw
        case rel => exact ⟨j + 1, k + 1, _, by omega, by omega, by go_num, by rw [List.length_append, hl]; rfl, HO3, HP3, D⟩
        case measure => simp [intOf] <;> omega
      by_cases hj0 : (0 : Int) < (j : Int)
      · go_wp2
        go_roundw
        case rel => exact ⟨j + 1, k, l, by omega, by omega, by go_num, hl, HO, HP, D⟩
        case measure => simp [intOf] <;> omega
      have hj00 : j = 0 := by omega
      subst hj00
      clear hj0
      go_wp2_with fail
      refine (curOnce p a n c xs _ _ D.cu (hcode.grown D.gr) (by omega)).mono ?_
      rintro e w3 ⟨q2, rfl, hc, hg⟩
      replace D := D.draw hc hg
      replace HO : Hid (w3.ownsRow w.heap.size 45 4 u3 k (QL l)) := own_pk HO.out hp0 hg
      replace HP : Hid (Sums w.heap.size w3 l k) := HP.out.p hp0 hg
      clear hc hg
      cases q2
      · go_wp2
        go_roundw
        case rel => exact ⟨0 + 1, k, l, by omega, by omega, by go_num, hl, HO, HP, D⟩
        case measure => simp [intOf] <;> omega
      · go_wp2_with fail
        refine (curBelow p a n c xs _ _ D.cu (hcode.grown D.gr) (by omega)).mono ?_
        rintro e w5 ⟨x, rfl, h0_x, h1_x, _, hc, hg⟩
        replace h1_x := h1_x (by omega)
        replace D := D.draw hc hg
        replace HO : Hid (w5.ownsRow w.heap.size 45 4 u3 k (QL l)) := own_pk HO.out hp0 hg
        replace HP : Hid (Sums w.heap.size w5 l k) := HP.out.p hp0 hg
        clear hc hg
        have hw1 : IntKind.i64.wrap (1 + x) = 1 + x := wr64 (by omega) (by omega)
        have hw2 : IntKind.i64.wrap (20 * (1 + x)) = 20 * (1 + x) := wr64 (by omega) (by omega)
        have hw3 : IntKind.i64.wrap (1 + 20 * (1 + x)) = 1 + 20 * (1 + x) := wr64 (by omega) (by omega)
        go_wp2_with fail
        clear hw1 hw2 hw3
        have b1 : (0 : Int) ≤ 0 ∧ (0 : Int) ≤ 10 := ⟨by omega, by omega⟩
        have b2 : 0 ≤ 1 + x ∧ 1 + x ≤ 10 := ⟨by omega, by omega⟩
        have b3 : 1 + 20 * (1 + x) ≤ 200 := by omega
        refine (specL8dataG 0 (1 + x) (1 + 20 * (1 + x)) _ b1 b2 b3).mono ?_
        clear b1 b2 b3
        rintro e w6 ⟨u, ys, rfl, o, hyb, hyl, hb⟩
        obtain ⟨ua, uc, rfl, _, _⟩ := Bs.own o hyb
        obtain ⟨m, hm⟩ : ∃ m, m = ys.length := ⟨_, rfl⟩
        have hBs := bs_of_own o hyb
        rw [← hm] at hyl hBs o ⊢
        replace D := D.below hb
        replace HO : Hid (w6.ownsRow w.heap.size 45 4 u3 k (QL l)) := own_below HO.out hb
        replace HP : Hid (Sums w.heap.size w6 l k) := HP.out.below hb
        have hok : partOk 0 (1 + x) (m : Int) 32 := ⟨⟨by omega, by omega⟩, ⟨by omega, by omega⟩, ⟨by omega, by omega⟩, rfl⟩
        have HS : Hid _ := specPartMade 0 (1 + x) ua m uc ys w6 hBs hok
        clear o hyb hyl hb hBs hm hok
        go_wp2_with fail
        refine Calls.mono HS.out ?_
        clear HS
        rintro e w7 ⟨va, vc, hs, rfl, o, hhb, hhl, hb⟩
        replace HO : Hid (w7.ownsRow w.heap.size 45 4 u3 k (QL l)) := own_below HO.out hb
        replace HP : Hid (Sums w.heap.size w7 l k) := HP.out.below hb
        have HR : Hid (w7.ownsRow w.heap.size 5 1 (.slice va 32 vc) 32 (U8 hs)) := own_lowK o D.gr.size
        replace D := D.below hb
        have HY : Hid ((∀ x ∈ hs, 0 ≤ x ∧ x < 256) ∧ hs.length = 32) := ⟨hhb, hhl⟩
        clear o hhb hhl hb
        obtain ⟨X, hX⟩ : ∃ X, X = w7.alloc (.cells #[.int .i64 0, .int .i64 (1 + x), .int .i64 (m : Int), .slice va 32 vc] 45) := ⟨_, rfl⟩
        have A : Arr X w7.heap.size 45 [.int .i64 0, .int .i64 (1 + x), .int .i64 (m : Int), .slice va 32 vc] := by rw [hX]; exact Arr.new _ _ _
        have bX : Below w7.heap.size w7 X := by rw [hX]; exact (Below.refl _ _).alloc (Nat.le_refl _) _
        obtain ⟨G, hG⟩ : ∃ G, G = w7.heap.size := ⟨_, rfl⟩
        rw [← hG] at A
        go_upto_region 8 with fail
        rw [← hX]
        rw [← hG]
        clear hX hG
        replace D := D.below bX
        replace HO : Hid (X.ownsRow w.heap.size 45 4 u3 k (QL l)) := own_below HO.out bX
        replace HP : Hid (Sums w.heap.size X l k) := HP.out.below bX
        replace HR : Hid (X.ownsRow w.heap.size 5 1 (.slice va 32 vc) 32 (U8 hs)) := own_below HR.out bX
        have d0 := A.cell 0
        have d1 := A.cell 1
        have d2 := A.cell 2
        have d3 := A.cell 3
        simp at d0 d1 d2 d3
        clear A bX
        go_wp2_with (at_builtin; refine wpl_app_p4 rfl _ _ rfl w.heap.size u3 k l rfl X.heap.size 1 0 (1 + x) (m : Int) va 32 vc rfl (World.ownsRow.alloc HO.out _) (Arr.new X [.int .i64 0, .int .i64 (1 + x), .int .i64 (m : Int), .slice va 32 vc] 45) (by omega) (Nat.le_trans D.gr.size (by simp)) ?_)
        intro v3 w8 O3 g3
        have hbA : Below X.heap.size X (X.alloc (.cells #[.int .i64 0, .int .i64 (1 + x), .int .i64 (m : Int), .slice va 32 vc] 45)) := (Below.refl _ _).alloc (Nat.le_refl _) _
        have HP3 : Hid (Sums w.heap.size w8 (l ++ [⟨.int .i64 0, .int .i64 (1 + x), .int .i64 (m : Int), .slice va 32 vc⟩]) (k + 1)) := by
          have o0 : (X.alloc (.cells #[.int .i64 0, .int .i64 (1 + x), .int .i64 (m : Int), .slice va 32 vc] 45)).ownsRow w.heap.size 45 4 u3 k (QL l) := World.ownsRow.alloc HO.out _
          have o1 := (World.ownsRow.alloc HR.out (.cells #[.int .i64 0, .int .i64 (1 + x), .int .i64 (m : Int), .slice va 32 vc] 45)).kept g3 (own_types o0 (World.ownsRow.alloc HR.out _) (by decide))
          have p1 := (HP.out.below hbA).grown o0 (by decide) g3
          have h32 := HY.out.2
          have := p1.snoc hl 0 (1 + x) (m : Int) va vc hs (by rw [h32]; exact o1) HY.out
          rw [h32] at this
          exact this
        replace D := (D.alloc _).app (World.ownsRow.alloc HO.out _) (Nat.le_refl _) hp0 g3
        have HO3 : Hid (w8.ownsRow w.heap.size 45 4 v3 (k + 1) (QL (l ++ [⟨.int .i64 0, .int .i64 (1 + x), .int .i64 (m : Int), .slice va 32 vc⟩]))) := O3
        clear O3 g3 hbA HO HP HR d0 d1 d2 d3
        go_wp2
        go_roundw
        case rel => exact ⟨0 + 1, k + 1, _, by omega, by omega, by go_num, by rw [List.length_append, hl]; rfl, HO3, HP3, D⟩
        case measure => simp [intOf] <;> omega
    · have hk3 : k ≤ 3 := by omega
      obtain ⟨a0, c0, rfl⟩ : ∃ a0 c0, u3 = .slice a0 k c0 := by
        rcases HO.out.2 with ⟨h, h0⟩ | ⟨g, cap, cur, h, _⟩
        · exact ⟨none, 0, by rw [h, h0]⟩
        · exact ⟨_, cap, h⟩
      by_cases hk0 : k = 0
      · subst hk0
        have hl0 : l = [] := List.length_eq_zero_iff.1 hl
        subst hl0
        go_wp2_with fail
        refine (specL8dataG 0 1 21 _ ⟨by omega, by omega⟩ ⟨by omega, by omega⟩ (by omega)).mono ?_
        rintro e w6 ⟨u, ys, rfl, o, hyb, hyl, hb⟩
        obtain ⟨ua, uc, rfl, _, _⟩ := Bs.own o hyb
        obtain ⟨m, hm⟩ : ∃ m, m = ys.length := ⟨_, rfl⟩
        have hBs := bs_of_own o hyb
        rw [← hm] at hyl hBs o ⊢
        replace D := D.below hb
        replace HO : Hid (w6.ownsRow w.heap.size 45 4 (.slice a0 0 c0) 0 (QL [])) := own_below HO.out hb
        replace HP : Hid (Sums w.heap.size w6 [] 0) := HP.out.below hb
        have hok : partOk 0 1 (m : Int) 32 := ⟨⟨by omega, by omega⟩, ⟨by omega, by omega⟩, ⟨by omega, by omega⟩, rfl⟩
        have HS : Hid _ := specPartMade 0 1 ua m uc ys w6 hBs hok
        clear o hyb hyl hb hBs hm hok
        go_wp2_with fail
        refine Calls.mono HS.out ?_
        clear HS
        rintro e w7 ⟨va, vc, hs, rfl, o, hhb, hhl, hb⟩
        replace HO : Hid (w7.ownsRow w.heap.size 45 4 (.slice a0 0 c0) 0 (QL [])) := own_below HO.out hb
        replace HP : Hid (Sums w.heap.size w7 [] 0) := HP.out.below hb
        have HR : Hid (w7.ownsRow w.heap.size 5 1 (.slice va 32 vc) 32 (U8 hs)) := own_lowK o D.gr.size
        replace D := D.below hb
        have HY : Hid ((∀ x ∈ hs, 0 ≤ x ∧ x < 256) ∧ hs.length = 32) := ⟨hhb, hhl⟩
        clear o hhb hhl hb
        obtain ⟨X, hX⟩ : ∃ X, X = w7.alloc (.cells #[.int .i64 0, .int .i64 (1), .int .i64 (m : Int), .slice va 32 vc] 45) := ⟨_, rfl⟩
        have A : Arr X w7.heap.size 45 [.int .i64 0, .int .i64 (1), .int .i64 (m : Int), .slice va 32 vc] := by rw [hX]; exact Arr.new _ _ _
        have bX : Below w7.heap.size w7 X := by rw [hX]; exact (Below.refl _ _).alloc (Nat.le_refl _) _
        obtain ⟨G, hG⟩ : ∃ G, G = w7.heap.size := ⟨_, rfl⟩
        rw [← hG] at A
        go_upto_region 11 with fail
        rw [← hX]
        rw [← hG]
        clear hX hG
        replace D := D.below bX
        replace HO : Hid (X.ownsRow w.heap.size 45 4 (.slice a0 0 c0) 0 (QL [])) := own_below HO.out bX
        replace HP : Hid (Sums w.heap.size X [] 0) := HP.out.below bX
        replace HR : Hid (X.ownsRow w.heap.size 5 1 (.slice va 32 vc) 32 (U8 hs)) := own_below HR.out bX
        have d0 := A.cell 0
        have d1 := A.cell 1
        have d2 := A.cell 2
        have d3 := A.cell 3
        simp at d0 d1 d2 d3
        clear A bX
        go_wp2_with (at_builtin; refine wpl_app_p4 rfl _ _ rfl w.heap.size (.slice a0 0 c0) 0 [] rfl X.heap.size 1 0 (1) (m : Int) va 32 vc rfl (World.ownsRow.alloc HO.out _) (Arr.new X [.int .i64 0, .int .i64 (1), .int .i64 (m : Int), .slice va 32 vc] 45) (by omega) (Nat.le_trans D.gr.size (by simp)) ?_)
        intro v3 w8 O3 g3
        have hbA : Below X.heap.size X (X.alloc (.cells #[.int .i64 0, .int .i64 (1), .int .i64 (m : Int), .slice va 32 vc] 45)) := (Below.refl _ _).alloc (Nat.le_refl _) _
        have HP3 : Hid (Sums w.heap.size w8 ([] ++ [⟨.int .i64 0, .int .i64 (1), .int .i64 (m : Int), .slice va 32 vc⟩]) (0 + 1)) := by
          have o0 : (X.alloc (.cells #[.int .i64 0, .int .i64 (1), .int .i64 (m : Int), .slice va 32 vc] 45)).ownsRow w.heap.size 45 4 (.slice a0 0 c0) 0 (QL []) := World.ownsRow.alloc HO.out _
          have o1 := (World.ownsRow.alloc HR.out (.cells #[.int .i64 0, .int .i64 (1), .int .i64 (m : Int), .slice va 32 vc] 45)).kept g3 (own_types o0 (World.ownsRow.alloc HR.out _) (by decide))
          have p1 := (HP.out.below hbA).grown o0 (by decide) g3
          have h32 := HY.out.2
          have := p1.snoc hl 0 (1) (m : Int) va vc hs (by rw [h32]; exact o1) HY.out
          rw [h32] at this
          exact this
        replace D := (D.alloc _).app (World.ownsRow.alloc HO.out _) (Nat.le_refl _) hp0 g3
        have HO3 : Hid (w8.ownsRow w.heap.size 45 4 v3 (0 + 1) (QL ([] ++ [⟨.int .i64 0, .int .i64 (1), .int .i64 (m : Int), .slice va 32 vc⟩]))) := O3
        clear O3 g3 hbA HO HP HR d0 d1 d2 d3
        obtain ⟨g, cap, rfl⟩ : ∃ g cap, v3 = .slice (some ⟨g, 0, none⟩) (0 + 1) cap := by
          rcases HO3.out.2 with ⟨h, h0⟩ | ⟨g, cap, cur, h, _⟩
          · omega
          · exact ⟨g, cap, h⟩
        go_wp2
        go_ret
        exact ⟨g, cap, 1, _, rfl, ⟨by omega, by omega⟩, rfl, HO3.out, HP3.out, D.cu, D.gr⟩
      · obtain ⟨g, cap, e0⟩ : ∃ g cap, (.slice a0 k c0 : Value) = .slice (some ⟨g, 0, none⟩) k cap := by
          rcases HO.out.2 with ⟨h, h0⟩ | ⟨g, cap, cur, h, _⟩
          · omega
          · exact ⟨g, cap, h⟩
        injection e0 with e1 e2 e3
        subst e1
        subst e3
        have hkN : ((k : Int) = 0) = False := by simp; omega
        have hkI : ((k : Int) == 0) = false := by simp; omega
        have HK : Hid (0 < k ∧ k ≤ 3) := ⟨by omega, hk3⟩
        clear hkj hj hk3
        go_wp2
        go_ret
        exact ⟨g, c0, k, rfl, HK.out, l, hl, HO.out, HP.out, D.cu, D.gr⟩
end Go.Proofs.YtofflhhlacdgfaaDoor
