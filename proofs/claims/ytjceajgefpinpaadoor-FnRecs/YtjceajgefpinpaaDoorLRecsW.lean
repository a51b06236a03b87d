/-
  What is proved here: the law FnRecs returns true at every code, and writes into nothing that was there.
-/
import Derived.Test.YtjceajgefpinpaaDoorJQ8
import Derived.Test.YtjceajgefpinpaaDoorJQ15
import Derived.Test.YtjceajgefpinpaaDoorJQ7
import Derived.Test.YtjceajgefpinpaaDoorJQ19
import Derived.Laws.StructEq
import Derived.Laws.AppendOwnNone
namespace Go.Proofs.YtjceajgefpinpaaDoor
open Go.RowKit
set_option maxRecDepth 100000
set_option maxHeartbeats 8000000
set_option linter.unusedVariables false

theorem rtL_gt {k b n f : Int} (h : rcOk k b n f) : 4 ≤ (rtL k b n f).length := by
  unfold rtL
  rw [if_pos h]
  have g : ∀ (s : ByteArray) (ns : List Int), s.size + 1 ≤ (lnL (stB s) ns).length := fun s ns => by
    have := stB_len s
    unfold lnL
    rw [List.length_append, List.length_append, this]
    simp
  have h1 := g ⟨#[104, 101, 97, 100]⟩ [n]
  have h2 := g ⟨#[115, 101, 116]⟩ [b, n, f]
  have h3 := g ⟨#[99, 111, 109, 109, 105, 116]⟩ [b, n]
  have h4 := g ⟨#[116, 114, 121]⟩ []
  have h5 := g ⟨#[99, 111, 110, 102, 105, 114, 109]⟩ [f]
  have h6 := g ⟨#[98, 97, 99, 107]⟩ []
  simp only [show ∀ a : Array UInt8, (⟨a⟩ : ByteArray).size = a.size from fun _ => rfl, List.size_toArray, List.length_cons, List.length_nil] at h1 h2 h3 h4 h5 h6
  unfold rtK
  split
  · omega
  split
  · omega
  split
  · omega
  split
  · omega
  split <;> omega
theorem arr_of_own {w : World} {b g : Nat} {xs : List Value} (h : w.ownsRow b 5 1 (.slice (some ⟨g, 0, none⟩) 8 8) 8 xs) : Arr w g 5 xs := by
  rcases h.2 with ⟨e, _⟩ | ⟨g', cap, cur, e, _, hg, _, _, h5, h6⟩
  · cases e
  · injection e with e1 e2 e3
    injection e1 with e1
    injection e1 with e1
    subst e1
    subst e3
    have : cur = xs.toArray := by
      apply Array.toList_inj.1
      show cur.toList = xs
      rw [← h6]
      exact (List.take_of_length_le (by rw [Array.length_toList, h5]; omega)).symm
    unfold Arr
    rw [hg, this]
theorem orT_zero (b : List Int) (f : Nat → Int) : orT b f 0 = List.replicate 8 0 := by rfl
theorem bs_arr {w : World} {g : Nat} {xs : List Int} (A : Arr w g 5 (U8 xs)) (hl : xs.length = 8) (hb : ∀ x ∈ xs, 0 ≤ x ∧ x < 256) : Bs w (some ⟨g, 0, none⟩) 8 8 xs :=
  ⟨(fun h => by cases h), hl, Nat.le_refl _, hb, .inr ⟨g, 0, rfl, A.lt, fun j hj => by
    rw [Nat.zero_add, A.cell j]
    simp [U8, hl, hj]⟩⟩
theorem mk8 (b : List Int) (f : Nat → Int) : (madeCells (Value.int .u8 0).cells (8 * 1)).toList = U8 (orT b f 0) := by
  rw [orT_zero, Nat.mul_one]
  simpa [U8, Value.cells] using toList_madeCells_one (.int .u8 0) 8
theorem walk_fnRecs (w : World) (a : Option Addr) (n c : Nat) (xs : List Int) (hb : Bs w a n c xs) (hl : n ≤ 9223372036854775807) (ht : Pow w) :
    Calls Tryd.prog 3 #[.slice a n c] w fun e w' => e = .returned (.bool true) ∧ Below w.heap.size w w' := by
  have HT : Hid (∀ Z, Below w.heap.size w Z → Pow Z) := fun Z hZ => pow_below ht hZ
  have HX : Hid (∀ Z, Below w.heap.size w Z → Bs Z a n c xs) := fun Z hZ => hb.below hZ
  obtain ⟨i0, hi, hz0, hz1, hz2⟩ := info_parts (show (Tryd.prog.info? 5).map (fun i => (i.zero, i.size, i.bytes)) = some (some (.int .u8 0), 1, 1) by kernel_rfl)
  clear hb ht
  go_enter Tryd.func3, Tryd.ntmps3
  go_wp2_with fail
  refine (drawRecPut a n c xs _ (HX.out _ (Below.refl _ _)) hl).mono ?_
  rintro e w1 ⟨⟨rk, rb, rn, rf⟩, rfl, b1⟩
  dsimp only
  obtain ⟨V, hV⟩ : ∃ V, V = w1.alloc (.cells #[.int .i64 rk, .int .i64 rb, .int .i64 rn, .int .i64 rf] 24) := ⟨_, rfl⟩
  have R : Arr V w1.heap.size 24 [.int .i64 rk, .int .i64 rb, .int .i64 rn, .int .i64 rf] := by rw [hV]; exact Arr.new _ _ _
  have B : Below w.heap.size w V := by rw [hV]; exact b1.alloc b1.size _
  go_upto_region 2 with fail
  rw [← hV]
  clear hV b1
  have r0 := R.cell 0
  have r1 := R.cell 1
  have r2 := R.cell 2
  have r3 := R.cell 3
  simp at r0 r1 r2 r3
  go_wp2_with fail
  refine Calls.mono (implRecPut rk rb rn rf _) ?_
  rintro e w2 ⟨v, rfl, ob, hb⟩
  replace R := R.kept hb
  replace B := B.trans (hb.mono B.size)
  clear hb r0 r1 r2 r3
  have r0 := R.cell 0
  have r1 := R.cell 1
  have r2 := R.cell 2
  have r3 := R.cell 3
  simp at r0 r1 r2 r3
  by_cases hr : rcOk rk rb rn rf
  case neg =>
    rw [if_neg hr, if_neg hr] at ob
    obtain ⟨va, vc, rfl, _, _⟩ := Bs.own ob (by intro x hx; cases hx)
    clear ob
    go_wp2_with fail
    refine (specRecOk rk rb rn rf _).mono ?_
    rintro e w3 ⟨rfl, hb⟩
    rw [decide_eq_false hr]
    replace R := R.kept hb
    replace B := B.trans (hb.mono B.size)
    clear hb r0 r1 r2 r3
    have r0 := R.cell 0
    have r1 := R.cell 1
    have r2 := R.cell 2
    have r3 := R.cell 3
    simp at r0 r1 r2 r3
    go_wp2_with fail
    refine (implRecOk rk rb rn rf _).mono ?_
    rintro e w4 ⟨rfl, hb⟩
    rw [decide_eq_false hr]
    replace B := B.trans (hb.mono B.size)
    clear hb r0 r1 r2 r3
    go_wp2_with fail
    refine (implLogs _).mono ?_
    rintro e w5 ⟨rfl, hb⟩
    replace B := B.trans (hb.mono B.size)
    clear hb
    go_wp2
    go_ret
    exact ⟨rfl, B⟩
  rw [if_pos hr, if_pos hr] at ob
  have HOk : Hid (rcOk rk rb rn rf) := hr
  have HBy : Hid (∀ x ∈ rcB rk rb rn rf, 0 ≤ x ∧ x < 256) := rcB_byte rk rb rn rf
  obtain ⟨va, vc, rfl, _, hbs0⟩ := Bs.own ob HBy.out
  have HB2 : Hid (Bs w2 va 8 vc (rcB rk rb rn rf)) := hbs0
  clear ob hbs0
  go_wp2_with fail
  refine (specRecOk rk rb rn rf _).mono ?_
  rintro e w3 ⟨rfl, hb⟩
  rw [decide_eq_true hr]
  replace R := R.kept hb
  replace HB2 : Hid (Bs w3 va 8 vc (rcB rk rb rn rf)) := HB2.out.below hb
  replace B := B.trans (hb.mono B.size)
  clear hb r0 r1 r2 r3 hr
  go_wp2_with fail
  refine (implRecGet va 8 vc (rcB rk rb rn rf) _ HB2.out (by omega)).mono ?_
  rintro e w4 ⟨rfl, hb⟩
  rw [goV_put HOk.out]
  obtain ⟨X, hX⟩ : ∃ X, X = w4.alloc (.cells #[.int .i64 rk, .int .i64 rb, .int .i64 rn, .int .i64 rf] 24) := ⟨_, rfl⟩
  have AX : Arr X w4.heap.size 24 [.int .i64 rk, .int .i64 rb, .int .i64 rn, .int .i64 rf] := by rw [hX]; exact Arr.new _ _ _
  replace R : Arr X w1.heap.size 24 [.int .i64 rk, .int .i64 rb, .int .i64 rn, .int .i64 rf] := by rw [hX]; exact (R.kept hb).alloc _
  replace HB2 : Hid (Bs X va 8 vc (rcB rk rb rn rf)) := by rw [hX]; exact (HB2.out.below hb).below ((Below.refl _ _).alloc (Nat.le_refl _) _)
  replace B : Below w.heap.size w X := by rw [hX]; exact (B.trans (hb.mono B.size)).alloc (B.trans (hb.mono B.size)).size _
  obtain ⟨G, hG⟩ : ∃ G, G = w4.heap.size := ⟨_, rfl⟩
  rw [← hG] at AX
  go_upto_region 6 with fail
  rw [← hX]
  rw [← hG]
  clear hX hG hb
  have r0 := R.cell 0
  have r1 := R.cell 1
  have r2 := R.cell 2
  have r3 := R.cell 3
  simp at r0 r1 r2 r3
  have x0 := AX.cell 0
  have x1 := AX.cell 1
  have x2 := AX.cell 2
  have x3 := AX.cell 3
  simp at x0 x1 x2 x3
  go_wp2_with fail
  refine Calls.mono (implRecText rk rb rn rf _ (HT.out _ B)) ?_
  rintro e w5 ⟨v, rfl, ot, hb⟩
  obtain ⟨ta, tc, rfl, _⟩ := ot.bs (rtL_byte _ _ _ _)
  replace R := R.kept hb
  replace HB2 : Hid (Bs w5 va 8 vc (rcB rk rb rn rf)) := HB2.out.below hb
  replace B := B.trans (hb.mono B.size)
  have hg := rtL_gt HOk.out
  obtain ⟨N, hN⟩ : ∃ N, N = (rtL rk rb rn rf).length := ⟨_, rfl⟩
  rw [← hN] at hg ⊢
  have hg4 : ¬ ((N : Int) < 4) := by omega
  clear hb r0 r1 r2 r3 x0 x1 x2 x3 ot hN AX
  go_wp2_with (at_make; refine wpList_make_full _ rfl _ _ 22 rfl _ 5 i0 (.int .u8 0) 1 Tryd.underlying22 hi hz0 hz1 .i64 .i64 8 8 8 rfl rfl rfl rfl (by rw [hz2]; omega) (by unfold maxLen; omega) (Nat.le_refl _) ?_; intro w7 o7 g7)
  rename_i w6 o6 g6 Kx Kh
  have A7 : Arr w6 w5.heap.size 5 (U8 (orT (rcB rk rb rn rf) (fun _ => 0) 0)) := by
    have := arr_of_own o6
    rw [mk8 (rcB rk rb rn rf) (fun _ => 0)] at this
    exact this
  have b6 : Below w5.heap.size w5 w6 := (Below.refl _ _).grown g6 (Nat.le_refl _) (by intro k hk; cases hk)
  have l57 := A7.lt
  clear o6 g6
  have A8 : Arr w7 w6.heap.size 5 (U8 (orT (rcB rk rb rn rf) (fun _ => 0) 0)) := by
    have := arr_of_own o7
    rw [mk8 (rcB rk rb rn rf) (fun _ => 0)] at this
    exact this
  have b7 : Below w6.heap.size w6 w7 := (Below.refl _ _).grown g7 (Nat.le_refl _) (by intro k hk; cases hk)
  replace A7 := A7.kept b7
  clear o7 g7
  have b57 : Below w5.heap.size w5 w7 := b6.trans (b7.mono (Nat.le_of_lt l57))
  have HB5 : Hid (Bs w5 va 8 vc (rcB rk rb rn rf)) := HB2.out
  have HR5 : Hid (Arr w5 w1.heap.size 24 [.int .i64 rk, .int .i64 rb, .int .i64 rn, .int .i64 rf]) := R
  have HBw : Hid (Below w.heap.size w w5) := B
  have lR5 := R.lt
  obtain ⟨g7, hg7⟩ : ∃ g, g = w5.heap.size := ⟨_, rfl⟩
  obtain ⟨g8, hg8⟩ : ∃ g, g = w6.heap.size := ⟨_, rfl⟩
  rw [← hg7] at A7 l57 b57 lR5 ⊢
  rw [← hg8] at A8 l57 ⊢
  have HG7 : Hid (g7 = w5.heap.size) := hg7
  clear hg7 hg8 b6 b7 HB2 R B hg hg4
  go_wp2
  go_loopw [9] (fun i wr => ∃ (k : Nat) (f g : Nat → Int), k ≤ 8 ∧ i = .int .i64 k ∧ Arr wr g7 5 (U8 (orT (rcB rk rb rn rf) f k)) ∧ Arr wr g8 5 (U8 (orT (rcB rk rb rn rf) g k)) ∧ Below g7 w5 wr) (fun i _ => 8 - (intOf i).toNat)
  case atStart => exact ⟨0, _, _, by omega, rfl, A7, A8, b57⟩
  case round =>
    clear A7 A8 b57
    obtain ⟨k, f, g, hk, rfl, A7, A8, b5⟩ := hrel
    have b5' : Below w5.heap.size w5 wr := by rw [← HG7.out]; exact b5
    have HBr : Hid (Bs wr va 8 vc (rcB rk rb rn rf)) := HB5.out.below b5'
    have Bw := HBw.out.trans (b5'.mono HBw.out.size)
    by_cases hlt : (k : Int) < 8
    · have hk8 : k < 8 := by omega
      obtain ⟨bb, bo, rfl, hbl, hbc⟩ : ∃ bb bo, va = some ⟨bb, bo, none⟩ ∧ bb < wr.heap.size ∧ ∀ j, j < 8 → wr.cell? ⟨bb, bo + j, none⟩ = some (.int .u8 ((rcB rk rb rn rf).getD j 0)) := by
        rcases HBr.out.2.2.2.2 with h | h
        · omega
        · exact h
      have hbb7 : bb < g7 := by
        rcases HB5.out.2.2.2.2 with h | ⟨q, o, e, hq, _⟩
        · omega
        · injection e with e
          injection e with e
          rw [HG7.out, e]
          exact hq
      have hx := byte_at HBy.out (j := k) (by rw [rcB_len]; exact hk8)
      have hcb := hbc k hk8
      obtain ⟨x, hxx⟩ : ∃ x, x = (rcB rk rb rn rf).getD k 0 := ⟨_, rfl⟩
      rw [← hxx] at hx hcb
      have HXX : Hid _ := hxx
      clear hxx hbc
      go_wp2_with fail
      refine (atC a n c xs k _ (HX.out _ Bw) hl hk8).mono ?_
      rintro e wz ⟨m, rfl, hm0, hm1, hw⟩
      rw [hw]
      clear hw
      have hwm : IntKind.u8.wrap m = m := wr8 hm0 hm1
      have c7 : wr.cell? ⟨g7, k, none⟩ = some (.int .u8 ((orT (rcB rk rb rn rf) f k).getD k 0)) := by rw [A7.cell k]; simp [U8, orT_len, hk8]
      have c8 : wr.cell? ⟨g8, k, none⟩ = some (.int .u8 ((orT (rcB rk rb rn rf) g k).getD k 0)) := by rw [A8.cell k]; simp [U8, orT_len, hk8]
      have A8s := A8.other ⟨g7, k, none⟩ (.int .u8 (bits .or .u8 x (bits .xor .u8 IntKind.u8.max m))) (show g8 ≠ g7 by omega)
      have c9 : (wr.setCell ⟨g7, k, none⟩ (.int .u8 (bits .or .u8 x (bits .xor .u8 IntKind.u8.max m)))).cell? ⟨g8, k, none⟩ = some (.int .u8 ((orT (rcB rk rb rn rf) g k).getD k 0)) := by rw [A8s.cell k]; simp [U8, orT_len, hk8]
      have f9 := A8s.frozen k
      have f7 := A7.frozen k
      have f8 := A8.frozen k
      have l7 := A7.lt
      have l8 := A8.lt
      have n1 : g7 ≠ g8 := by omega
      have n2 : g8 ≠ g7 := by omega
      have H7 : Hid (Arr ((wr.setCell ⟨g7, k, none⟩ (.int .u8 (bits .or .u8 x (bits .xor .u8 IntKind.u8.max m)))).setCell ⟨g8, k, none⟩ (.int .u8 (bits .or .u8 x m))) g7 5 (U8 (orT (rcB rk rb rn rf) (fun j => if j = k then bits .xor .u8 IntKind.u8.max m else f j) (k + 1)))) := by
        unfold Hid
        rw [← orT_set _ f k hk8 (bits .or .u8 x (bits .xor .u8 IntKind.u8.max m)) (bits .xor .u8 IntKind.u8.max m) (by rw [HXX.out])]
        exact (A7.set k _).other ⟨g8, k, none⟩ _ n1
      have H8 : Hid (Arr ((wr.setCell ⟨g7, k, none⟩ (.int .u8 (bits .or .u8 x (bits .xor .u8 IntKind.u8.max m)))).setCell ⟨g8, k, none⟩ (.int .u8 (bits .or .u8 x m))) g8 5 (U8 (orT (rcB rk rb rn rf) (fun j => if j = k then m else g j) (k + 1)))) := by
        unfold Hid
        rw [← orT_set _ g k hk8 (bits .or .u8 x m) m (by rw [HXX.out])]
        exact (A8.other ⟨g7, k, none⟩ _ (fun e => n1 e.symm)).set k _
      have H5 : Hid (Below g7 w5 ((wr.setCell ⟨g7, k, none⟩ (.int .u8 (bits .or .u8 x (bits .xor .u8 IntKind.u8.max m)))).setCell ⟨g8, k, none⟩ (.int .u8 (bits .or .u8 x m)))) := (b5.setCell (p := ⟨g7, k, none⟩) (Nat.le_refl _) _).setCell (p := ⟨g8, k, none⟩) (Nat.le_of_lt l57) _
      go_wp2
      go_roundw
      case rel => exact ⟨k + 1, _, _, by omega, by go_num, H7.out, H8.out, H5.out⟩
      case measure => simp [intOf]; omega
    · have hk8 : k = 8 := by omega
      subst hk8
      have R := HR5.out.kept b5'
      have HW7 : Hid (Bs wr (some ⟨g7, 0, none⟩) 8 8 (orT (rcB rk rb rn rf) f 8)) := bs_arr A7 (orT_len _ _ _) (orT_byte _ _ _)
      have HW8 : Hid (Bs wr (some ⟨g8, 0, none⟩) 8 8 (orT (rcB rk rb rn rf) g 8)) := bs_arr A8 (orT_len _ _ _) (orT_byte _ _ _)
      replace Bw : Below w.heap.size w wr := Bw
      clear A7 A8 b5 b5' HR5 HB5 HBw
      by_cases h7 : gOk (orT (rcB rk rb rn rf) f 8)
      · by_cases h8 : gOk (orT (rcB rk rb rn rf) g 8)
        · replace HW7 : Hid (Bs wr (some ⟨g7, 0, none⟩) 8 8 (rcB rk rb rn rf)) := by have := HW7.out; rw [orT_rec HOk.out f h7] at this; exact this
          replace HW8 : Hid (Bs wr (some ⟨g8, 0, none⟩) 8 8 (rcB rk rb rn rf)) := by have := HW8.out; rw [orT_rec HOk.out g h8] at this; exact this
          go_wp2_with fail
          refine (implRecGet (some ⟨g7, 0, none⟩) 8 8 (rcB rk rb rn rf) _ HW7.out (by omega)).mono ?_
          rintro e u7 ⟨rfl, hb⟩
          rw [goV_put HOk.out]
          obtain ⟨X7, hX⟩ : ∃ X, X = u7.alloc (.cells #[.int .i64 rk, .int .i64 rb, .int .i64 rn, .int .i64 rf] 24) := ⟨_, rfl⟩
          have bX : Below wr.heap.size wr X7 := hb.trans (by rw [hX]; exact (Below.refl _ _).alloc hb.size _)
          have C7 : Arr X7 u7.heap.size 24 [.int .i64 rk, .int .i64 rb, .int .i64 rn, .int .i64 rf] := by rw [hX]; exact Arr.new _ _ _
          replace R := R.kept bX
          replace HBr : Hid (Bs X7 va 8 vc (rcB rk rb rn rf)) := HBr.out.below bX
          replace HW7 : Hid (Bs X7 (some ⟨g7, 0, none⟩) 8 8 (rcB rk rb rn rf)) := HW7.out.below bX
          replace HW8 : Hid (Bs X7 (some ⟨g8, 0, none⟩) 8 8 (rcB rk rb rn rf)) := HW8.out.below bX
          replace Bw := Bw.trans (bX.mono Bw.size)
          obtain ⟨G7, hG⟩ : ∃ G, G = u7.heap.size := ⟨_, rfl⟩
          rw [← hG] at C7
          go_upto_region 17 with fail
          rw [← hX]
          rw [← hG]
          clear hX hG hb bX
          go_wp2_with fail
          refine (implRecGet (some ⟨g8, 0, none⟩) 8 8 (rcB rk rb rn rf) _ HW8.out (by omega)).mono ?_
          rintro e u8 ⟨rfl, hb⟩
          rw [goV_put HOk.out]
          obtain ⟨X8, hX⟩ : ∃ X, X = u8.alloc (.cells #[.int .i64 rk, .int .i64 rb, .int .i64 rn, .int .i64 rf] 24) := ⟨_, rfl⟩
          have bX : Below X7.heap.size X7 X8 := hb.trans (by rw [hX]; exact (Below.refl _ _).alloc hb.size _)
          have C8 : Arr X8 u8.heap.size 24 [.int .i64 rk, .int .i64 rb, .int .i64 rn, .int .i64 rf] := by rw [hX]; exact Arr.new _ _ _
          replace C7 := C7.kept bX
          replace R := R.kept bX
          replace HBr : Hid (Bs X8 va 8 vc (rcB rk rb rn rf)) := HBr.out.below bX
          replace HW7 : Hid (Bs X8 (some ⟨g7, 0, none⟩) 8 8 (rcB rk rb rn rf)) := HW7.out.below bX
          replace HW8 : Hid (Bs X8 (some ⟨g8, 0, none⟩) 8 8 (rcB rk rb rn rf)) := HW8.out.below bX
          replace Bw := Bw.trans (bX.mono Bw.size)
          obtain ⟨G8, hG⟩ : ∃ G, G = u8.heap.size := ⟨_, rfl⟩
          rw [← hG] at C8
          go_upto_region 18 with fail
          rw [← hX]
          rw [← hG]
          clear hX hG hb bX
          have r0 := R.cell 0
          have r1 := R.cell 1
          have r2 := R.cell 2
          have r3 := R.cell 3
          simp at r0 r1 r2 r3
          have s0 := C7.cell 0
          have s1 := C7.cell 1
          have s2 := C7.cell 2
          have s3 := C7.cell 3
          simp at s0 s1 s2 s3
          have t0 := C8.cell 0
          have t1 := C8.cell 1
          have t2 := C8.cell 2
          have t3 := C8.cell 3
          simp at t0 t1 t2 t3
          go_wp2_with fail
          refine (sameB (some ⟨g7, 0, none⟩) va 8 8 8 vc (rcB rk rb rn rf) (rcB rk rb rn rf) _ HW7.out HBr.out).mono ?_
          rintro e v7 ⟨rfl, hw⟩
          rw [hw, show ((strOfNums (rcB rk rb rn rf)).toList == (strOfNums (rcB rk rb rn rf)).toList) = true by simp]
          clear hw
          go_wp2_with fail
          refine (sameB (some ⟨g8, 0, none⟩) va 8 8 8 vc (rcB rk rb rn rf) (rcB rk rb rn rf) _ HW8.out HBr.out).mono ?_
          rintro e v8 ⟨rfl, hw⟩
          rw [hw, show ((strOfNums (rcB rk rb rn rf)).toList == (strOfNums (rcB rk rb rn rf)).toList) = true by simp]
          clear hw
          go_wp2_with fail
          refine (implRecOk rk rb rn rf _).mono ?_
          rintro e z ⟨rfl, hb⟩
          rw [decide_eq_true HOk.out]
          replace Bw := Bw.trans (hb.mono Bw.size)
          clear hb r0 r1 r2 r3 s0 s1 s2 s3 t0 t1 t2 t3
          go_wp2
          go_ret
          exact ⟨rfl, Bw⟩
        · replace HW7 : Hid (Bs wr (some ⟨g7, 0, none⟩) 8 8 (rcB rk rb rn rf)) := by have := HW7.out; rw [orT_rec HOk.out f h7] at this; exact this
          go_wp2_with fail
          refine (implRecGet (some ⟨g7, 0, none⟩) 8 8 (rcB rk rb rn rf) _ HW7.out (by omega)).mono ?_
          rintro e u7 ⟨rfl, hb⟩
          rw [goV_put HOk.out]
          obtain ⟨X7, hX⟩ : ∃ X, X = u7.alloc (.cells #[.int .i64 rk, .int .i64 rb, .int .i64 rn, .int .i64 rf] 24) := ⟨_, rfl⟩
          have bX : Below wr.heap.size wr X7 := hb.trans (by rw [hX]; exact (Below.refl _ _).alloc hb.size _)
          have C7 : Arr X7 u7.heap.size 24 [.int .i64 rk, .int .i64 rb, .int .i64 rn, .int .i64 rf] := by rw [hX]; exact Arr.new _ _ _
          replace R := R.kept bX
          replace HBr : Hid (Bs X7 va 8 vc (rcB rk rb rn rf)) := HBr.out.below bX
          replace HW7 : Hid (Bs X7 (some ⟨g7, 0, none⟩) 8 8 (rcB rk rb rn rf)) := HW7.out.below bX
          replace HW8 : Hid (Bs X7 (some ⟨g8, 0, none⟩) 8 8 (orT (rcB rk rb rn rf) g 8)) := HW8.out.below bX
          replace Bw := Bw.trans (bX.mono Bw.size)
          obtain ⟨G7, hG⟩ : ∃ G, G = u7.heap.size := ⟨_, rfl⟩
          rw [← hG] at C7
          go_upto_region 17 with fail
          rw [← hX]
          rw [← hG]
          clear hX hG hb bX
          go_wp2_with fail
          refine (implRecGet (some ⟨g8, 0, none⟩) 8 8 (orT (rcB rk rb rn rf) g 8) _ HW8.out (by omega)).mono ?_
          rintro e u8 ⟨rfl, hb⟩
          rw [goV_no h8]
          obtain ⟨X8, hX⟩ : ∃ X, X = u8.alloc (.cells #[.int .i64 0, .int .i64 0, .int .i64 0, .int .i64 0] 24) := ⟨_, rfl⟩
          have bX : Below X7.heap.size X7 X8 := hb.trans (by rw [hX]; exact (Below.refl _ _).alloc hb.size _)
          have C8 : Arr X8 u8.heap.size 24 [.int .i64 0, .int .i64 0, .int .i64 0, .int .i64 0] := by rw [hX]; exact Arr.new _ _ _
          replace C7 := C7.kept bX
          replace R := R.kept bX
          replace HBr : Hid (Bs X8 va 8 vc (rcB rk rb rn rf)) := HBr.out.below bX
          replace HW7 : Hid (Bs X8 (some ⟨g7, 0, none⟩) 8 8 (rcB rk rb rn rf)) := HW7.out.below bX
          replace HW8 : Hid (Bs X8 (some ⟨g8, 0, none⟩) 8 8 (orT (rcB rk rb rn rf) g 8)) := HW8.out.below bX
          replace Bw := Bw.trans (bX.mono Bw.size)
          obtain ⟨G8, hG⟩ : ∃ G, G = u8.heap.size := ⟨_, rfl⟩
          rw [← hG] at C8
          go_upto_region 18 with fail
          rw [← hX]
          rw [← hG]
          clear hX hG hb bX
          have r0 := R.cell 0
          have r1 := R.cell 1
          have r2 := R.cell 2
          have r3 := R.cell 3
          simp at r0 r1 r2 r3
          have s0 := C7.cell 0
          have s1 := C7.cell 1
          have s2 := C7.cell 2
          have s3 := C7.cell 3
          simp at s0 s1 s2 s3
          have t0 := C8.cell 0
          have t1 := C8.cell 1
          have t2 := C8.cell 2
          have t3 := C8.cell 3
          simp at t0 t1 t2 t3
          go_wp2_with fail
          refine (sameB (some ⟨g7, 0, none⟩) va 8 8 8 vc (rcB rk rb rn rf) (rcB rk rb rn rf) _ HW7.out HBr.out).mono ?_
          rintro e v7 ⟨rfl, hw⟩
          rw [hw, show ((strOfNums (rcB rk rb rn rf)).toList == (strOfNums (rcB rk rb rn rf)).toList) = true by simp]
          clear hw
          go_wp2_with fail
          refine (implRecOk rk rb rn rf _).mono ?_
          rintro e z ⟨rfl, hb⟩
          rw [decide_eq_true HOk.out]
          replace Bw := Bw.trans (hb.mono Bw.size)
          clear hb r0 r1 r2 r3 s0 s1 s2 s3 t0 t1 t2 t3
          go_wp2
          go_ret
          exact ⟨rfl, Bw⟩
      · by_cases h8 : gOk (orT (rcB rk rb rn rf) g 8)
        · replace HW8 : Hid (Bs wr (some ⟨g8, 0, none⟩) 8 8 (rcB rk rb rn rf)) := by have := HW8.out; rw [orT_rec HOk.out g h8] at this; exact this
          go_wp2_with fail
          refine (implRecGet (some ⟨g7, 0, none⟩) 8 8 (orT (rcB rk rb rn rf) f 8) _ HW7.out (by omega)).mono ?_
          rintro e u7 ⟨rfl, hb⟩
          rw [goV_no h7]
          obtain ⟨X7, hX⟩ : ∃ X, X = u7.alloc (.cells #[.int .i64 0, .int .i64 0, .int .i64 0, .int .i64 0] 24) := ⟨_, rfl⟩
          have bX : Below wr.heap.size wr X7 := hb.trans (by rw [hX]; exact (Below.refl _ _).alloc hb.size _)
          have C7 : Arr X7 u7.heap.size 24 [.int .i64 0, .int .i64 0, .int .i64 0, .int .i64 0] := by rw [hX]; exact Arr.new _ _ _
          replace R := R.kept bX
          replace HBr : Hid (Bs X7 va 8 vc (rcB rk rb rn rf)) := HBr.out.below bX
          replace HW7 : Hid (Bs X7 (some ⟨g7, 0, none⟩) 8 8 (orT (rcB rk rb rn rf) f 8)) := HW7.out.below bX
          replace HW8 : Hid (Bs X7 (some ⟨g8, 0, none⟩) 8 8 (rcB rk rb rn rf)) := HW8.out.below bX
          replace Bw := Bw.trans (bX.mono Bw.size)
          obtain ⟨G7, hG⟩ : ∃ G, G = u7.heap.size := ⟨_, rfl⟩
          rw [← hG] at C7
          go_upto_region 17 with fail
          rw [← hX]
          rw [← hG]
          clear hX hG hb bX
          go_wp2_with fail
          refine (implRecGet (some ⟨g8, 0, none⟩) 8 8 (rcB rk rb rn rf) _ HW8.out (by omega)).mono ?_
          rintro e u8 ⟨rfl, hb⟩
          rw [goV_put HOk.out]
          obtain ⟨X8, hX⟩ : ∃ X, X = u8.alloc (.cells #[.int .i64 rk, .int .i64 rb, .int .i64 rn, .int .i64 rf] 24) := ⟨_, rfl⟩
          have bX : Below X7.heap.size X7 X8 := hb.trans (by rw [hX]; exact (Below.refl _ _).alloc hb.size _)
          have C8 : Arr X8 u8.heap.size 24 [.int .i64 rk, .int .i64 rb, .int .i64 rn, .int .i64 rf] := by rw [hX]; exact Arr.new _ _ _
          replace C7 := C7.kept bX
          replace R := R.kept bX
          replace HBr : Hid (Bs X8 va 8 vc (rcB rk rb rn rf)) := HBr.out.below bX
          replace HW7 : Hid (Bs X8 (some ⟨g7, 0, none⟩) 8 8 (orT (rcB rk rb rn rf) f 8)) := HW7.out.below bX
          replace HW8 : Hid (Bs X8 (some ⟨g8, 0, none⟩) 8 8 (rcB rk rb rn rf)) := HW8.out.below bX
          replace Bw := Bw.trans (bX.mono Bw.size)
          obtain ⟨G8, hG⟩ : ∃ G, G = u8.heap.size := ⟨_, rfl⟩
          rw [← hG] at C8
          go_upto_region 18 with fail
          rw [← hX]
          rw [← hG]
          clear hX hG hb bX
          have r0 := R.cell 0
          have r1 := R.cell 1
          have r2 := R.cell 2
          have r3 := R.cell 3
          simp at r0 r1 r2 r3
          have s0 := C7.cell 0
          have s1 := C7.cell 1
          have s2 := C7.cell 2
          have s3 := C7.cell 3
          simp at s0 s1 s2 s3
          have t0 := C8.cell 0
          have t1 := C8.cell 1
          have t2 := C8.cell 2
          have t3 := C8.cell 3
          simp at t0 t1 t2 t3
          go_wp2_with fail
          refine (sameB (some ⟨g8, 0, none⟩) va 8 8 8 vc (rcB rk rb rn rf) (rcB rk rb rn rf) _ HW8.out HBr.out).mono ?_
          rintro e v8 ⟨rfl, hw⟩
          rw [hw, show ((strOfNums (rcB rk rb rn rf)).toList == (strOfNums (rcB rk rb rn rf)).toList) = true by simp]
          clear hw
          go_wp2_with fail
          refine (implRecOk rk rb rn rf _).mono ?_
          rintro e z ⟨rfl, hb⟩
          rw [decide_eq_true HOk.out]
          replace Bw := Bw.trans (hb.mono Bw.size)
          clear hb r0 r1 r2 r3 s0 s1 s2 s3 t0 t1 t2 t3
          go_wp2
          go_ret
          exact ⟨rfl, Bw⟩
        · go_wp2_with fail
          refine (implRecGet (some ⟨g7, 0, none⟩) 8 8 (orT (rcB rk rb rn rf) f 8) _ HW7.out (by omega)).mono ?_
          rintro e u7 ⟨rfl, hb⟩
          rw [goV_no h7]
          obtain ⟨X7, hX⟩ : ∃ X, X = u7.alloc (.cells #[.int .i64 0, .int .i64 0, .int .i64 0, .int .i64 0] 24) := ⟨_, rfl⟩
          have bX : Below wr.heap.size wr X7 := hb.trans (by rw [hX]; exact (Below.refl _ _).alloc hb.size _)
          have C7 : Arr X7 u7.heap.size 24 [.int .i64 0, .int .i64 0, .int .i64 0, .int .i64 0] := by rw [hX]; exact Arr.new _ _ _
          replace R := R.kept bX
          replace HBr : Hid (Bs X7 va 8 vc (rcB rk rb rn rf)) := HBr.out.below bX
          replace HW7 : Hid (Bs X7 (some ⟨g7, 0, none⟩) 8 8 (orT (rcB rk rb rn rf) f 8)) := HW7.out.below bX
          replace HW8 : Hid (Bs X7 (some ⟨g8, 0, none⟩) 8 8 (orT (rcB rk rb rn rf) g 8)) := HW8.out.below bX
          replace Bw := Bw.trans (bX.mono Bw.size)
          obtain ⟨G7, hG⟩ : ∃ G, G = u7.heap.size := ⟨_, rfl⟩
          rw [← hG] at C7
          go_upto_region 17 with fail
          rw [← hX]
          rw [← hG]
          clear hX hG hb bX
          go_wp2_with fail
          refine (implRecGet (some ⟨g8, 0, none⟩) 8 8 (orT (rcB rk rb rn rf) g 8) _ HW8.out (by omega)).mono ?_
          rintro e u8 ⟨rfl, hb⟩
          rw [goV_no h8]
          obtain ⟨X8, hX⟩ : ∃ X, X = u8.alloc (.cells #[.int .i64 0, .int .i64 0, .int .i64 0, .int .i64 0] 24) := ⟨_, rfl⟩
          have bX : Below X7.heap.size X7 X8 := hb.trans (by rw [hX]; exact (Below.refl _ _).alloc hb.size _)
          have C8 : Arr X8 u8.heap.size 24 [.int .i64 0, .int .i64 0, .int .i64 0, .int .i64 0] := by rw [hX]; exact Arr.new _ _ _
          replace C7 := C7.kept bX
          replace R := R.kept bX
          replace HBr : Hid (Bs X8 va 8 vc (rcB rk rb rn rf)) := HBr.out.below bX
          replace HW7 : Hid (Bs X8 (some ⟨g7, 0, none⟩) 8 8 (orT (rcB rk rb rn rf) f 8)) := HW7.out.below bX
          replace HW8 : Hid (Bs X8 (some ⟨g8, 0, none⟩) 8 8 (orT (rcB rk rb rn rf) g 8)) := HW8.out.below bX
          replace Bw := Bw.trans (bX.mono Bw.size)
          obtain ⟨G8, hG⟩ : ∃ G, G = u8.heap.size := ⟨_, rfl⟩
          rw [← hG] at C8
          go_upto_region 18 with fail
          rw [← hX]
          rw [← hG]
          clear hX hG hb bX
          have r0 := R.cell 0
          have r1 := R.cell 1
          have r2 := R.cell 2
          have r3 := R.cell 3
          simp at r0 r1 r2 r3
          have s0 := C7.cell 0
          have s1 := C7.cell 1
          have s2 := C7.cell 2
          have s3 := C7.cell 3
          simp at s0 s1 s2 s3
          have t0 := C8.cell 0
          have t1 := C8.cell 1
          have t2 := C8.cell 2
          have t3 := C8.cell 3
          simp at t0 t1 t2 t3
          go_wp2_with fail
          refine (implRecOk rk rb rn rf _).mono ?_
          rintro e z ⟨rfl, hb⟩
          rw [decide_eq_true HOk.out]
          replace Bw := Bw.trans (hb.mono Bw.size)
          clear hb r0 r1 r2 r3 s0 s1 s2 s3 t0 t1 t2 t3
          go_wp2
          go_ret
          exact ⟨rfl, Bw⟩
end Go.Proofs.YtjceajgefpinpaaDoor
