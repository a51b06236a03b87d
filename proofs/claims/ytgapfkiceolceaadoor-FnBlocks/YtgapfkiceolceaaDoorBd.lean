/-
  What is proved here: contracts of the laws' sameInts (at two equal slices) and of the specification's DrawShaBlock: at most eight ints, at most 65 bytes; nothing that was there turns; for every code.
-/
import Derived.Test.YtgapfkiceolceaaDoorBt
namespace Go.Proofs.YtgapfkiceolceaaDoor
set_option maxRecDepth 100000
open Go.RowKit

set_option maxHeartbeats 400000 in
theorem sameIntsT (a a' : Option Addr) (n cap cap' : Nat) (xs : List Int) (w : World) (h : Is w a n cap xs) (h' : Is w a' n cap' xs) (hn : n ≤ 2097152) :
    Calls Tryd.prog 25 #[.slice a n cap, .slice a' n cap'] w fun e w' => ∃ q, e = .returned (.bool true) ∧ w' = w.drewN q := by
  obtain ⟨_, hl, hc, hby, h⟩ := h
  obtain ⟨_, _, hc', _, h'⟩ := h'
  have hne : ((n : Int) != (n : Int)) = false := by simp
  go_enter Tryd.func25, Tryd.ntmps25
  go_wp2
  go_loopw [5] (fun i wr => ∃ k q : Nat, k ≤ n ∧ i = .int .i64 k ∧ wr = w.drewN q) (fun i _ => n - (intOf i).toNat)
  case atStart => exact ⟨0, 0, Nat.zero_le _, rfl, rfl⟩
  case round =>
    obtain ⟨k, q, hk, rfl, rfl⟩ := hrel
    by_cases hlt : k < n
    · rcases h with h | ⟨b, o, rfl, hbs, hcell⟩
      · omega
      · rcases h' with h' | ⟨b', o', rfl, hbs', hcell'⟩
        · omega
        · obtain ⟨x, hx⟩ : ∃ x, x = xs.getD k 0 := ⟨_, rfl⟩
          have hck : w.cell? ⟨b, o + k, none⟩ = some (.int .i64 x) := by rw [hx]; exact hcell k hlt
          have hck' : w.cell? ⟨b', o' + k, none⟩ = some (.int .i64 x) := by rw [hx]; exact hcell' k hlt
          have hxx : (x != x) = false := by simp
          have hlt' : (k : Int) < (n : Int) := by omega
          clear hcell hcell' hx
          go_wp2
          go_quiet (fail)
          go_wp2
          go_roundw
          case rel => exact ⟨k + 1, _, by omega, by go_num, rfl⟩
          case measure => simp [intOf]; omega
    · go_wp2
      go_ret
      exact ⟨q, rfl, rfl⟩

set_option maxHeartbeats 2000000 in
theorem drawShaBlock (a : Option Addr) (n c : Nat) (xs : List Int) (w : World) (h : Bs w a n c xs) (hm : n ≤ 9223372036854775807) :
    Calls Tryd.prog 23 #[.slice a n c] w fun e w' => ∃ (aH : Option Addr) (nH cH : Nat) (hs : List Int) (v : Value) (l : List Int), e = .returned (.tuple #[.slice aH nH cH, v]) ∧ nH ≤ 8 ∧ Is w' aH nH cH hs ∧ l.length ≤ 65 ∧ (∀ x ∈ l, 0 ≤ x ∧ x < 256) ∧ w'.ownsRow w.heap.size 5 1 v l.length (U8 l) ∧ Below w.heap.size w w' := by
  go_enter Tryd.func23, Tryd.ntmps23
  go_wp2_with fail
  refine (curNew a n c xs _ h hm).mono ?_
  rintro e w1 ⟨rfl, hc1, hd1, hs1, hb1⟩
  go_wp2_with fail
  refine (curBent w.heap.size a n c xs _ hc1 hd1).mono ?_
  rintro e w2 ⟨v2, rfl, aH, nH, cH, N, aT, nT, cT, hs, rfl, I2, off, hn8, c2, g2⟩
  have fr2 := hb1.grown g2 hb1.size (fun k hk => by have := Option.some.inj hk; omega)
  have d2 := hd1.grown g2
  have fr3 := fr2.alloc fr2.size (.cells #[.slice aH nH cH, .int .i64 N, .slice aT nT cT] 27)
  have c3 := cur_keep c2 (grown_alloc w2 (.cells #[.slice aH nH cH, .int .i64 N, .slice aT nT cT] 27) none) (by simp)
  have d3 := d2.grown (grown_alloc w2 (.cells #[.slice aH nH cH, .int .i64 N, .slice aT nT cT] 27) (some w.heap.size))
  have I3 := I2.below ((Below.refl _ _).alloc (Nat.le_refl _) (.cells #[.slice aH nH cH, .int .i64 N, .slice aT nT cT] 27))
  have A3 : Arr (w2.alloc (.cells #[.slice aH nH cH, .int .i64 N, .slice aT nT cT] 27)) w2.heap.size 27 [.slice aH nH cH, .int .i64 N, .slice aT nT cT] := Arr.new _ _ _
  have hpl := cur_lt c2
  obtain ⟨W3, hW3⟩ : ∃ W3, W3 = w2.alloc (.cells #[.slice aH nH cH, .int .i64 N, .slice aT nT cT] 27) := ⟨_, rfl⟩
  obtain ⟨P, hP⟩ : ∃ P, P = w2.heap.size := ⟨_, rfl⟩
  rw [← hW3] at fr3 c3 d3 I3 A3
  rw [← hP] at A3 hpl
  have hPW : P < W3.heap.size := A3.lt
  clear hb1 hd1 hc1 I2 c2 g2 fr2 d2
  go_wp2_with fail
  rw [← hW3]
  rw [← hP]
  clear hW3 hP
  refine (curOnce w.heap.size a n c xs 6 _ c3 d3 (by omega)).mono ?_
  rintro e w4 ⟨q, rfl, c4, g4⟩
  have d4 := d3.grown g4
  have hfs := fr3.size
  cases q with
  | false =>
    obtain ⟨M, hM, hM64⟩ : ∃ M : Nat, M ≤ 65 ∧ (64 : Int) = (M : Int) := ⟨64, by omega, rfl⟩
    have c5 := c4
    have g5 := g4
    clear c4 g4 d4
    rw [hM64]
    go_wp2
    go_loopw [7, 8] (fun v i wr => ∃ (l : List Int), l.length ≤ M ∧ i = .int .i64 (l.length : Int) ∧ Hid (∀ x ∈ l, 0 ≤ x ∧ x < 256) ∧ wr.ownsRow W3.heap.size 5 1 v l.length (U8 l) ∧ Cur wr w.heap.size a n c ∧ W3.grownBy wr (some w.heap.size)) (fun _ i _ => M - (intOf i).toNat)
    case atStart => exact ⟨[], by simp, rfl, (fun x hx => by cases hx), World.ownsRow_nil _ _ _ _, c5, g5⟩
    case round =>
      obtain ⟨l, hlM, rfl, HL, hown, hcu, hgr'⟩ := hrel
      clear c5 g5
      by_cases hlt : l.length < M
      · have hcd := d3.grown hgr'
        go_wp2_with fail
        refine (curByte w.heap.size a n c xs _ hcu hcd).mono ?_
        rintro e w6 ⟨x, rfl, hx0, hx1, hc6, hg6⟩
        have hgr2 := grown_trans hgr' hg6
        have hown2 := own_cur hown (by omega) hg6
        have hs2 := hgr2.size
        have hcv : IntKind.u8.wrap x = x := by simp [IntKind.wrap, IntKind.signed, IntKind.bits]; omega
        clear hown hcu hgr' hg6 hcd
        go_wp2_with (at_builtin; refine wpl_append_bs rfl _ _ rfl W3.heap.size _ l.length l rfl (some ⟨w6.heap.size, 0, none⟩) 1 1 [x] rfl (hown2.alloc _) (Bs.one _ _ hx0 (by omega)) ?_ ?_ ?_)
        · omega
        · first | omega | (simp; omega)
        intro v' w7 h1 h2 _
        have hr : ∀ k, u7.ownBlock = some k → W3.heap.size ≤ k ∨ k = w.heap.size := fun k hk => .inl (hown2.lt k hk).1
        have hgr3 := grown_into (grown_into hgr2 (grown_alloc w6 _ none) (by intro k hk; cases hk)) h2 hr
        have hc7 : Cur w7 w.heap.size a n c := cur_keep (cur_keep hc6 (grown_alloc w6 _ none) (by simp)) h2 (fun e => by have := (hown2.lt _ e).1; omega)
        have HR : Hid (w7.ownsRow W3.heap.size 5 1 v' (l ++ [x]).length (U8 (l ++ [x]))) := by unfold Hid; simpa using h1
        have HL2 : Hid (∀ z ∈ l ++ [x], 0 ≤ z ∧ z < 256) := fun z hz => by
          rcases List.mem_append.1 hz with k | k
          · exact HL.out z k
          · simp at k; omega
        clear h1 h2 hown2 hc6 hgr2 hr
        go_wp2
        go_roundw
        case rel => exact ⟨l ++ [x], by simp; omega, by simp, HL2, HR.out, hc7, hgr3⟩
        case measure => simp [intOf]; omega
      · have q3 := A3.cur hgr' (by omega)
        have e3 : wr.cell? ⟨P, 0, none⟩ = some (.slice aH nH cH) := q3.cell 0
        have HI : Hid _ := I3.far hgr' off
        have HF : Hid _ := fr3.grown hgr' fr3.size (fun k hk => by have := Option.some.inj hk; omega)
        have HO : Hid _ := own_base hown fr3.size
        clear q3 hown hcu hgr'
        go_wp2
        go_ret2
        exact ⟨aH, nH, cH, hs, _, l, rfl, hn8, HI.out, by omega, HL.out, HO.out, HF.out⟩
  | true =>
    go_wp2_with fail
    have hgA := grown_alloc w4 (.cells (([0, 63, 65] : List Int).map (Value.int .i64)).toArray 3) none
    have hcA := cur_keep c4 hgA (by simp)
    have hdA := d4.grown (grown_alloc w4 (.cells (([0, 63, 65] : List Int).map (Value.int .i64)).toArray 3) (some w.heap.size))
    have hcell := cells_arr w4 [0, 63, 65] 3
    have hl4 := g4.size
    refine (curPick w.heap.size a n c xs w4.heap.size 3 [0, 63, 65] _ hcA hdA rfl (by omega) (by omega) (by omega) (fun j hj => hcell j hj)).mono ?_
    rintro e w5 ⟨x, rfl, hx, c5, g5'⟩
    have g5 := grown_trans (grown_into g4 hgA (by intro k hk; cases hk)) g5'
    have hb : 0 ≤ x ∧ x ≤ 65 := by
      simp only [List.mem_cons, List.not_mem_nil, or_false] at hx
      omega
    obtain ⟨hm0, hm2⟩ := hb
    clear hgA hcA hdA hcell hx g5' g4 c4 d4
    obtain ⟨M, rfl⟩ := Int.eq_ofNat_of_zero_le hm0
    go_wp2
    go_loopw [7, 8] (fun v i wr => ∃ (l : List Int), l.length ≤ M ∧ i = .int .i64 (l.length : Int) ∧ Hid (∀ x ∈ l, 0 ≤ x ∧ x < 256) ∧ wr.ownsRow W3.heap.size 5 1 v l.length (U8 l) ∧ Cur wr w.heap.size a n c ∧ W3.grownBy wr (some w.heap.size)) (fun _ i _ => M - (intOf i).toNat)
    case atStart => exact ⟨[], by simp, rfl, (fun x hx => by cases hx), World.ownsRow_nil _ _ _ _, c5, g5⟩
    case round =>
      obtain ⟨l, hlM, rfl, HL, hown, hcu, hgr'⟩ := hrel
      clear c5 g5
      by_cases hlt : l.length < M
      · have hcd := d3.grown hgr'
        go_wp2_with fail
        refine (curByte w.heap.size a n c xs _ hcu hcd).mono ?_
        rintro e w6 ⟨x, rfl, hx0, hx1, hc6, hg6⟩
        have hgr2 := grown_trans hgr' hg6
        have hown2 := own_cur hown (by omega) hg6
        have hs2 := hgr2.size
        have hcv : IntKind.u8.wrap x = x := by simp [IntKind.wrap, IntKind.signed, IntKind.bits]; omega
        clear hown hcu hgr' hg6 hcd
        go_wp2_with (at_builtin; refine wpl_append_bs rfl _ _ rfl W3.heap.size _ l.length l rfl (some ⟨w6.heap.size, 0, none⟩) 1 1 [x] rfl (hown2.alloc _) (Bs.one _ _ hx0 (by omega)) ?_ ?_ ?_)
        · omega
        · first | omega | (simp; omega)
        intro v' w7 h1 h2 _
        have hr : ∀ k, u7.ownBlock = some k → W3.heap.size ≤ k ∨ k = w.heap.size := fun k hk => .inl (hown2.lt k hk).1
        have hgr3 := grown_into (grown_into hgr2 (grown_alloc w6 _ none) (by intro k hk; cases hk)) h2 hr
        have hc7 : Cur w7 w.heap.size a n c := cur_keep (cur_keep hc6 (grown_alloc w6 _ none) (by simp)) h2 (fun e => by have := (hown2.lt _ e).1; omega)
        have HR : Hid (w7.ownsRow W3.heap.size 5 1 v' (l ++ [x]).length (U8 (l ++ [x]))) := by unfold Hid; simpa using h1
        have HL2 : Hid (∀ z ∈ l ++ [x], 0 ≤ z ∧ z < 256) := fun z hz => by
          rcases List.mem_append.1 hz with k | k
          · exact HL.out z k
          · simp at k; omega
        clear h1 h2 hown2 hc6 hgr2 hr
        go_wp2
        go_roundw
        case rel => exact ⟨l ++ [x], by simp; omega, by simp, HL2, HR.out, hc7, hgr3⟩
        case measure => simp [intOf]; omega
      · have q3 := A3.cur hgr' (by omega)
        have e3 : wr.cell? ⟨P, 0, none⟩ = some (.slice aH nH cH) := q3.cell 0
        have HI : Hid _ := I3.far hgr' off
        have HF : Hid _ := fr3.grown hgr' fr3.size (fun k hk => by have := Option.some.inj hk; omega)
        have HO : Hid _ := own_base hown fr3.size
        clear q3 hown hcu hgr'
        go_wp2
        go_ret2
        exact ⟨aH, nH, cH, hs, _, l, rfl, hn8, HI.out, by omega, HL.out, HO.out, HF.out⟩
end Go.Proofs.YtgapfkiceolceaaDoor
