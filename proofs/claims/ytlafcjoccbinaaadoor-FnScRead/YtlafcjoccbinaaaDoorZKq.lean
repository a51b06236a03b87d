/-
  What is proved here: the contract of the specification's DrawScWide.
-/
import Derived.Test.YtlafcjoccbinaaaDoorZKp
namespace Go.Proofs.YtlafcjoccbinaaaDoor
open Go.RowKit
set_option maxRecDepth 100000

/-- The end of a draw of bytes. -/
theorem wide_fin {w X : World} {a : Option Addr} {n c : Nat} {v : Value} {l : List Int} (D : Dw w X a n c) (ho : X.ownsRow (w.heap.size + 1) 5 1 v l.length (U8 l)) (hb : ∀ x ∈ l, 0 ≤ x ∧ x < 256) :
    ∃ a' c', v = .slice a' l.length c' ∧ Bs X a' l.length c' l ∧ (∀ b o s, a' = some ⟨b, o, s⟩ → w.heap.size ≤ b) ∧ Below w.heap.size w X := by
  obtain ⟨a', c', e1, _, hi⟩ := Bs.own ho hb
  rcases (own_shape ho).2 with ⟨h1, h2⟩ | ⟨g, C, h1, hg, _⟩
  · subst e1
    injection h1 with f1 _ f3
    subst f1 f3
    exact ⟨_, _, rfl, hi, (fun b o s e => by cases e), D.fr⟩
  · subst e1
    cases h1
    exact ⟨_, _, rfl, hi, fun b o s e => by cases e; omega, D.fr⟩
theorem set_byt {l : List Int} (h : ∀ x ∈ l, 0 ≤ x ∧ x < 256) (j : Nat) : ∀ x ∈ l.set j 255, 0 ≤ x ∧ x < 256 := by
  intro x hx
  rcases List.mem_or_eq_of_mem_set hx with h1 | h1
  · exact h x h1
  · omega

set_option maxHeartbeats 8000000 in
theorem drawScWide (a : Option Addr) (n c : Nat) (xs : List Int) (w : World) (h : Bs w a n c xs) (hm : n ≤ 9223372036854775807) :
    Calls Tryd.prog 22 #[.slice a n c] w fun e w' => ∃ a' n' c' bs, e = .returned (.slice a' n' c') ∧ Bs w' a' n' c' bs ∧ n' ≤ 65 ∧ (∀ b o s, a' = some ⟨b, o, s⟩ → w.heap.size ≤ b) ∧ Below w.heap.size w w' := by
  have HCO : Hid (∀ W, Dw w W a n c → Coded W w.heap.size a n c xs) := by unfold Hid; intro W d; exact coded_of h hm d.fr
  go_enter Tryd.func22, Tryd.ntmps22
  go_wp2_with fail
  refine (curNew a n c xs _ h hm).mono ?_
  rintro e w1 ⟨rfl, c1, d1, hs1, fr1⟩
  have D1 : Dw w w1 a n c := ⟨fr1, c1⟩
  clear c1 d1 hs1 fr1 h
  go_wp2_with fail
  refine (curOnce w.heap.size a n c xs 9 _ D1.cur (HCO.out _ D1) (by omega)).mono ?_
  rintro e w2 ⟨q, rfl, c2, g2⟩
  have D2 := D1.draw c2 g2
  clear c2 g2 D1
  cases q with
  | false =>
    obtain ⟨M, hM, hM64⟩ : ∃ M : Nat, M ≤ 65 ∧ (64 : Int) = (M : Int) := ⟨64, by omega, rfl⟩
    have D4 := D2
    clear D2
    rw [hM64]
    go_wp2
    go_loopw [5, 6] (fun v i wr => ∃ (l : List Int), l.length ≤ M ∧ i = .int .i64 (l.length : Int) ∧ Hid (∀ x ∈ l, 0 ≤ x ∧ x < 256) ∧ wr.ownsRow (w.heap.size + 1) 5 1 v l.length (U8 l) ∧ Dw w wr a n c) (fun _ i _ => M - (intOf i).toNat)
    case atStart => exact ⟨[], by simp, rfl, (fun x hx => by cases hx), World.ownsRow_nil _ _ _ _, D4⟩
    case round =>
      clear D4
      obtain ⟨l, hlM, rfl, HL, hown, DD⟩ := hrel
      by_cases hlt : l.length < M
      · go_wp2_with fail
        refine (curByte w.heap.size a n c xs _ DD.cur (HCO.out _ DD)).mono ?_
        rintro e w6 ⟨x, rfl, hx0, hx1, hc6, hg6⟩
        have hown2 := own_draw hown hg6
        replace DD := DD.draw hc6 hg6
        have hs2 := DD.lt
        have hcv : IntKind.u8.wrap x = x := by rw [IntKind.wrap_u8]; omega
        clear hown hc6 hg6
        go_wp2_with (at_builtin; refine wpl_append_bs rfl _ _ rfl (w.heap.size + 1) _ l.length l rfl (some ⟨w6.heap.size, 0, none⟩) 1 1 [x] rfl (hown2.alloc _) (Bs.one _ _ hx0 (by omega)) ?_ ?_ ?_)
        · omega
        · first | omega | (simp; omega)
        intro v' w7 h1 h2 _
        have D7 := (DD.alloc (.cells #[.int .u8 x] 5)).app (hown2.alloc _) h2
        have HR : Hid (w7.ownsRow (w.heap.size + 1) 5 1 v' (l ++ [x]).length (U8 (l ++ [x]))) := by unfold Hid; simpa using h1
        have HL2 : Hid (∀ z ∈ l ++ [x], 0 ≤ z ∧ z < 256) := fun z hz => by
          rcases List.mem_append.1 hz with k | k
          · exact HL.out z k
          · simp at k; omega
        clear h1 h2 hown2 DD
        go_wp2
        go_roundw
        case rel => exact ⟨l ++ [x], by simp; omega, by simp, HL2, HR.out, D7⟩
        case measure => simp [intOf]; omega
      · have hlM' : l.length = M := by omega
        rcases (own_shape hown).2 with ⟨rfl, hz⟩ | ⟨g, C, rfl, hg, hgs, hC, _⟩
        · obtain rfl : M = 0 := by omega
          go_wp2_with fail
          refine (curOnce w.heap.size a n c xs 5 _ DD.cur (HCO.out _ DD) (by omega)).mono ?_
          rintro e w5 ⟨x5, rfl, c5, g5⟩
          have HF : Hid _ := wide_fin (DD.draw c5 g5) (own_draw hown g5) HL.out
          clear DD hown c5 g5
          cases x5
          case false =>
            go_wp2
            go_ret
            obtain ⟨a', c', e1, h1, h2, h3⟩ := HF.out
            rw [e1]
            exact ⟨_, _, _, _, rfl, h1, by omega, h2, h3⟩
          case true =>
            go_wp2
            go_loopw [7] (fun i wr => i = .int .i64 0 ∧ wr = w5) (fun _ _ => 0)
            case atStart => exact ⟨rfl, rfl⟩
            case round =>
              obtain ⟨rfl, rfl⟩ := hrel
              go_wp2
              go_ret
              obtain ⟨a', c', e1, h1, h2, h3⟩ := HF.out
              rw [e1]
              exact ⟨_, _, _, _, rfl, h1, by omega, h2, h3⟩
        · rw [hlM'] at hown hC
          have BB : Bo w wr a n c g M C l := ⟨DD, hown, HL.out⟩
          clear DD hown hg hgs HL
          go_wp2_with fail
          refine (curOnce w.heap.size a n c xs 5 _ BB.dw.cur (HCO.out _ BB.dw) (by omega)).mono ?_
          rintro e w5 ⟨x5, rfl, c5, g5⟩
          replace BB := BB.draw c5 g5
          clear c5 g5
          cases x5
          case false =>
            have HF : Hid _ := BB.fin
            clear BB
            go_wp2
            go_ret
            exact ⟨_, _, _, _, by first | rfl | rw [hlM'], HF.out.1, by omega, HF.out.2.1, HF.out.2.2⟩
          case true =>
            go_wp2
            go_loopw [7] (fun i wr => ∃ (k : Nat) (bs : List Int), k ≤ M ∧ i = .int .i64 k ∧ Bo w wr a n c g M C bs) (fun i _ => M - (intOf i).toNat)
            case atStart => exact ⟨0, l, by omega, rfl, BB⟩
            case round =>
              clear BB
              obtain ⟨k, bs, hk, rfl, BB⟩ := hrel
              by_cases hkM : k < M
              · have hck := BB.cell k hkM
                have hfz := BB.own.frozenAt k
                have HB : Hid _ := BB.put k 255 (by omega)
                have hkl : (k : Int) < (M : Int) := by omega
                have hk0 : (0 : Int) ≤ (k : Int) := by omega
                clear BB
                go_wp2
                go_roundw
                case rel => exact ⟨k + 1, bs.set k 255, by omega, by go_num, HB.out⟩
                case measure => simp [intOf]; omega
              · have HF : Hid _ := BB.fin
                clear BB
                go_wp2
                go_ret
                exact ⟨_, _, _, _, by first | rfl | rw [hlM'], HF.out.1, by omega, HF.out.2.1, HF.out.2.2⟩
  | true =>
    go_wp2_with fail
    have D3 := D2.alloc (.cells (([0, 32, 63, 65] : List Int).map (Value.int .i64)).toArray 3)
    have hcell := cells_arr w2 [0, 32, 63, 65] 3
    have hpw := cur_lt D2.cur
    refine (curPick w.heap.size a n c xs w2.heap.size 4 [0, 32, 63, 65] _ D3.cur (HCO.out _ D3) rfl (by omega) (by omega) (by omega) (fun j hj => hcell j hj)).mono ?_
    rintro e w3 ⟨x, rfl, hx, c3, g3⟩
    have D4 := D3.draw c3 g3
    obtain ⟨M, hM, hMx⟩ : ∃ M : Nat, M ≤ 65 ∧ x = (M : Int) := by
      simp only [List.mem_cons, List.not_mem_nil, or_false] at hx
      exact ⟨x.toNat, by omega, by omega⟩
    clear D2 D3 hcell hpw c3 g3 hx
    rw [hMx]
    clear hMx
    go_wp2
    go_loopw [5, 6] (fun v i wr => ∃ (l : List Int), l.length ≤ M ∧ i = .int .i64 (l.length : Int) ∧ Hid (∀ x ∈ l, 0 ≤ x ∧ x < 256) ∧ wr.ownsRow (w.heap.size + 1) 5 1 v l.length (U8 l) ∧ Dw w wr a n c) (fun _ i _ => M - (intOf i).toNat)
    case atStart => exact ⟨[], by simp, rfl, (fun x hx => by cases hx), World.ownsRow_nil _ _ _ _, D4⟩
    case round =>
      clear D4
      obtain ⟨l, hlM, rfl, HL, hown, DD⟩ := hrel
      by_cases hlt : l.length < M
      · go_wp2_with fail
        refine (curByte w.heap.size a n c xs _ DD.cur (HCO.out _ DD)).mono ?_
        rintro e w6 ⟨x, rfl, hx0, hx1, hc6, hg6⟩
        have hown2 := own_draw hown hg6
        replace DD := DD.draw hc6 hg6
        have hs2 := DD.lt
        have hcv : IntKind.u8.wrap x = x := by rw [IntKind.wrap_u8]; omega
        clear hown hc6 hg6
        go_wp2_with (at_builtin; refine wpl_append_bs rfl _ _ rfl (w.heap.size + 1) _ l.length l rfl (some ⟨w6.heap.size, 0, none⟩) 1 1 [x] rfl (hown2.alloc _) (Bs.one _ _ hx0 (by omega)) ?_ ?_ ?_)
        · omega
        · first | omega | (simp; omega)
        intro v' w7 h1 h2 _
        have D7 := (DD.alloc (.cells #[.int .u8 x] 5)).app (hown2.alloc _) h2
        have HR : Hid (w7.ownsRow (w.heap.size + 1) 5 1 v' (l ++ [x]).length (U8 (l ++ [x]))) := by unfold Hid; simpa using h1
        have HL2 : Hid (∀ z ∈ l ++ [x], 0 ≤ z ∧ z < 256) := fun z hz => by
          rcases List.mem_append.1 hz with k | k
          · exact HL.out z k
          · simp at k; omega
        clear h1 h2 hown2 DD
        go_wp2
        go_roundw
        case rel => exact ⟨l ++ [x], by simp; omega, by simp, HL2, HR.out, D7⟩
        case measure => simp [intOf]; omega
      · have hlM' : l.length = M := by omega
        rcases (own_shape hown).2 with ⟨rfl, hz⟩ | ⟨g, C, rfl, hg, hgs, hC, _⟩
        · obtain rfl : M = 0 := by omega
          go_wp2_with fail
          refine (curOnce w.heap.size a n c xs 5 _ DD.cur (HCO.out _ DD) (by omega)).mono ?_
          rintro e w5 ⟨x5, rfl, c5, g5⟩
          have HF : Hid _ := wide_fin (DD.draw c5 g5) (own_draw hown g5) HL.out
          clear DD hown c5 g5
          cases x5
          case false =>
            go_wp2
            go_ret
            obtain ⟨a', c', e1, h1, h2, h3⟩ := HF.out
            rw [e1]
            exact ⟨_, _, _, _, rfl, h1, by omega, h2, h3⟩
          case true =>
            go_wp2
            go_loopw [7] (fun i wr => i = .int .i64 0 ∧ wr = w5) (fun _ _ => 0)
            case atStart => exact ⟨rfl, rfl⟩
            case round =>
              obtain ⟨rfl, rfl⟩ := hrel
              go_wp2
              go_ret
              obtain ⟨a', c', e1, h1, h2, h3⟩ := HF.out
              rw [e1]
              exact ⟨_, _, _, _, rfl, h1, by omega, h2, h3⟩
        · rw [hlM'] at hown hC
          have BB : Bo w wr a n c g M C l := ⟨DD, hown, HL.out⟩
          clear DD hown hg hgs HL
          go_wp2_with fail
          refine (curOnce w.heap.size a n c xs 5 _ BB.dw.cur (HCO.out _ BB.dw) (by omega)).mono ?_
          rintro e w5 ⟨x5, rfl, c5, g5⟩
          replace BB := BB.draw c5 g5
          clear c5 g5
          cases x5
          case false =>
            have HF : Hid _ := BB.fin
            clear BB
            go_wp2
            go_ret
            exact ⟨_, _, _, _, by first | rfl | rw [hlM'], HF.out.1, by omega, HF.out.2.1, HF.out.2.2⟩
          case true =>
            go_wp2
            go_loopw [7] (fun i wr => ∃ (k : Nat) (bs : List Int), k ≤ M ∧ i = .int .i64 k ∧ Bo w wr a n c g M C bs) (fun i _ => M - (intOf i).toNat)
            case atStart => exact ⟨0, l, by omega, rfl, BB⟩
            case round =>
              clear BB
              obtain ⟨k, bs, hk, rfl, BB⟩ := hrel
              by_cases hkM : k < M
              · have hck := BB.cell k hkM
                have hfz := BB.own.frozenAt k
                have HB : Hid _ := BB.put k 255 (by omega)
                have hkl : (k : Int) < (M : Int) := by omega
                have hk0 : (0 : Int) ≤ (k : Int) := by omega
                clear BB
                go_wp2
                go_roundw
                case rel => exact ⟨k + 1, bs.set k 255, by omega, by go_num, HB.out⟩
                case measure => simp [intOf]; omega
              · have HF : Hid _ := BB.fin
                clear BB
                go_wp2
                go_ret
                exact ⟨_, _, _, _, by first | rfl | rw [hlM'], HF.out.1, by omega, HF.out.2.1, HF.out.2.2⟩
end Go.Proofs.YtlafcjoccbinaaaDoor
