/-
  What is proved here: contracts of the specification's DrawWide (at most 129 bytes) and DrawSha512 (at most 427 bytes): bytes of the call's own; nothing that was there turns; for every code.
-/
import Derived.Test.YtgapfkiceolceaaDoorQa
import Derived.Lib.AppendZerosOnto
namespace Go.Proofs.YtgapfkiceolceaaDoor
open Go.RowKit

theorem own_curW {W W' : World} {B e s n p : Nat} {v : Value} {l : List Value} (h : W.ownsRow B e s v n l) (hp : p < B) (hg : W.grownBy W' (some p)) : W'.ownsRow B e s v n l :=
  h.kept hg (by
    cases hv : v.ownBlock with
    | none => exact .inl rfl
    | some k => exact .inr (fun e => by have := (h.lt k hv).1; simp at e; omega))

set_option maxHeartbeats 2000000 in
theorem drawWide (a : Option Addr) (n c : Nat) (xs : List Int) (w : World) (h : Bs w a n c xs) (hm : n ≤ 9223372036854775807) :
    Calls Tryd.prog 26 #[.slice a n c] w fun e w' => ∃ (v : Value) (l : List Int), e = .returned v ∧ l.length ≤ 129 ∧ (∀ x ∈ l, 0 ≤ x ∧ x < 256) ∧ w'.ownsRow w.heap.size 5 1 v l.length (U8 l) ∧ Below w.heap.size w w' := by
  go_enter Tryd.func26, Tryd.ntmps26
  go_wp2_with fail
  refine (curNew a n c xs _ h hm).mono ?_
  rintro e W3 ⟨rfl, c3, d3, hs1, fr3⟩
  go_wp2_with fail
  refine (curOnce w.heap.size a n c xs 6 _ c3 d3 (by omega)).mono ?_
  rintro e w4 ⟨q, rfl, c4, g4⟩
  have d4 := d3.grown g4
  have hfs := fr3.size
  cases q with
  | false =>
    obtain ⟨M, hM, hM64⟩ : ∃ M : Nat, M ≤ 129 ∧ (128 : Int) = (M : Int) := ⟨128, by omega, rfl⟩
    have c5 := c4
    have g5 := g4
    clear c4 g4 d4
    rw [hM64]
    go_wp2
    go_loopw [5, 6] (fun v i wr => ∃ (l : List Int), l.length ≤ M ∧ i = .int .i64 (l.length : Int) ∧ Hid (∀ x ∈ l, 0 ≤ x ∧ x < 256) ∧ wr.ownsRow W3.heap.size 5 1 v l.length (U8 l) ∧ Cur wr w.heap.size a n c ∧ W3.grownBy wr (some w.heap.size)) (fun _ i _ => M - (intOf i).toNat)
    case atStart => exact ⟨[], by simp, rfl, (fun x hx => by cases hx), World.ownsRow_nil _ _ _ _, c5, g5⟩
    case round =>
      obtain ⟨l, hlM, rfl, HL, hown, hcu, hgr'⟩ := hrel
      clear c5 g5
      by_cases hlt : l.length < M
      · have hcd := d3.grown hgr'
        go_wp2_with fail
        refine (curByte w.heap.size a n c xs _ hcu hcd).mono ?_
        rintro e w6 ⟨x, rfl, hx0, hx1, hc6, hg6⟩
        have hgr2 := grown_trans hgr' hg6
        have hown2 := own_curW hown (by omega) hg6
        have hs2 := hgr2.size
        have hcv : IntKind.u8.wrap x = x := by simp [IntKind.wrap, IntKind.signed, IntKind.bits]; omega
        clear hown hcu hgr' hg6 hcd
        go_wp2_with (at_builtin; refine wpl_append_bs rfl _ _ rfl W3.heap.size _ l.length l rfl (some ⟨w6.heap.size, 0, none⟩) 1 1 [x] rfl (hown2.alloc _) (Bs.one _ _ hx0 (by omega)) ?_ ?_ ?_)
        · omega
        · first | omega | (simp; omega)
        intro v' w7 h1 h2 _
        have hr : ∀ k, u5.ownBlock = some k → W3.heap.size ≤ k ∨ k = w.heap.size := fun k hk => .inl (hown2.lt k hk).1
        have hgr3 := grown_into (grown_into hgr2 (grown_alloc w6 _ none) (by intro k hk; cases hk)) h2 hr
        have hc7 : Cur w7 w.heap.size a n c := cur_keep (cur_keep hc6 (grown_alloc w6 _ none) (by simp)) h2 (fun e => by have := (hown2.lt _ e).1; omega)
        have HR : Hid (w7.ownsRow W3.heap.size 5 1 v' (l ++ [x]).length (U8 (l ++ [x]))) := by unfold Hid; rw [hs1]; simpa using h1
        have HL2 : Hid (∀ z ∈ l ++ [x], 0 ≤ z ∧ z < 256) := fun z hz => by
          rcases List.mem_append.1 hz with k | k
          · exact HL.out z k
          · simp at k; omega
        clear h1 h2 hown2 hc6 hgr2 hr
        go_wp2
        go_roundw
        case rel => exact ⟨l ++ [x], by simp; omega, by simp, HL2, HR.out, hc7, hgr3⟩
        case measure => simp [intOf]; omega
      · have HF : Hid _ := fr3.grown hgr' fr3.size (fun k hk => by have := Option.some.inj hk; omega)
        have HO : Hid _ := own_base hown fr3.size
        clear hown hcu hgr'
        go_wp2
        go_ret
        exact ⟨_, l, rfl, by omega, HL.out, HO.out, HF.out⟩
  | true =>
    go_wp2_with fail
    have hgA := grown_alloc w4 (.cells (([0, 127, 129] : List Int).map (Value.int .i64)).toArray 3) none
    have hcA := cur_keep c4 hgA (by simp)
    have hdA := d4.grown (grown_alloc w4 (.cells (([0, 127, 129] : List Int).map (Value.int .i64)).toArray 3) (some w.heap.size))
    have hcell := cells_arr w4 [0, 127, 129] 3
    have hl4 := g4.size
    refine (curPick w.heap.size a n c xs w4.heap.size 3 [0, 127, 129] _ hcA hdA rfl (by omega) (by omega) (by omega) (fun j hj => hcell j hj)).mono ?_
    rintro e w5 ⟨x, rfl, hx, c5, g5'⟩
    have g5 := grown_trans (grown_into g4 hgA (by intro k hk; cases hk)) g5'
    have hb : 0 ≤ x ∧ x ≤ 129 := by
      simp only [List.mem_cons, List.not_mem_nil, or_false] at hx
      omega
    obtain ⟨hm0, hm2⟩ := hb
    clear hgA hcA hdA hcell hx g5' g4 c4 d4
    obtain ⟨M, rfl⟩ := Int.eq_ofNat_of_zero_le hm0
    go_wp2
    go_loopw [5, 6] (fun v i wr => ∃ (l : List Int), l.length ≤ M ∧ i = .int .i64 (l.length : Int) ∧ Hid (∀ x ∈ l, 0 ≤ x ∧ x < 256) ∧ wr.ownsRow W3.heap.size 5 1 v l.length (U8 l) ∧ Cur wr w.heap.size a n c ∧ W3.grownBy wr (some w.heap.size)) (fun _ i _ => M - (intOf i).toNat)
    case atStart => exact ⟨[], by simp, rfl, (fun x hx => by cases hx), World.ownsRow_nil _ _ _ _, c5, g5⟩
    case round =>
      obtain ⟨l, hlM, rfl, HL, hown, hcu, hgr'⟩ := hrel
      clear c5 g5
      by_cases hlt : l.length < M
      · have hcd := d3.grown hgr'
        go_wp2_with fail
        refine (curByte w.heap.size a n c xs _ hcu hcd).mono ?_
        rintro e w6 ⟨x, rfl, hx0, hx1, hc6, hg6⟩
        have hgr2 := grown_trans hgr' hg6
        have hown2 := own_curW hown (by omega) hg6
        have hs2 := hgr2.size
        have hcv : IntKind.u8.wrap x = x := by simp [IntKind.wrap, IntKind.signed, IntKind.bits]; omega
        clear hown hcu hgr' hg6 hcd
        go_wp2_with (at_builtin; refine wpl_append_bs rfl _ _ rfl W3.heap.size _ l.length l rfl (some ⟨w6.heap.size, 0, none⟩) 1 1 [x] rfl (hown2.alloc _) (Bs.one _ _ hx0 (by omega)) ?_ ?_ ?_)
        · omega
        · first | omega | (simp; omega)
        intro v' w7 h1 h2 _
        have hr : ∀ k, u5.ownBlock = some k → W3.heap.size ≤ k ∨ k = w.heap.size := fun k hk => .inl (hown2.lt k hk).1
        have hgr3 := grown_into (grown_into hgr2 (grown_alloc w6 _ none) (by intro k hk; cases hk)) h2 hr
        have hc7 : Cur w7 w.heap.size a n c := cur_keep (cur_keep hc6 (grown_alloc w6 _ none) (by simp)) h2 (fun e => by have := (hown2.lt _ e).1; omega)
        have HR : Hid (w7.ownsRow W3.heap.size 5 1 v' (l ++ [x]).length (U8 (l ++ [x]))) := by unfold Hid; rw [hs1]; simpa using h1
        have HL2 : Hid (∀ z ∈ l ++ [x], 0 ≤ z ∧ z < 256) := fun z hz => by
          rcases List.mem_append.1 hz with k | k
          · exact HL.out z k
          · simp at k; omega
        clear h1 h2 hown2 hc6 hgr2 hr
        go_wp2
        go_roundw
        case rel => exact ⟨l ++ [x], by simp; omega, by simp, HL2, HR.out, hc7, hgr3⟩
        case measure => simp [intOf]; omega
      · have HF : Hid _ := fr3.grown hgr' fr3.size (fun k hk => by have := Option.some.inj hk; omega)
        have HO : Hid _ := own_base hown fr3.size
        clear hown hcu hgr'
        go_wp2
        go_ret
        exact ⟨_, l, rfl, by omega, HL.out, HO.out, HF.out⟩
end Go.Proofs.YtgapfkiceolceaaDoor
