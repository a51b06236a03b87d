/-
  What is proved here: the law FnSteps returns true at every code, and writes into nothing that was there.
-/
import Derived.Test.YtjceajgefpinpaaDoorZb3
import Derived.Test.YtjceajgefpinpaaDoorJP17
import Derived.Test.YtjceajgefpinpaaDoorC0z
import Derived.Test.YtjceajgefpinpaaDoorJP21
import Derived.Laws.StructEq
namespace Go.Proofs.YtjceajgefpinpaaDoor
open Go.RowKit
set_option maxRecDepth 100000
set_option maxHeartbeats 8000000
set_option linter.unusedVariables false

theorem bxL_gt {b n f : Int} {t : Bool} {i o : Int} (h : btOk b n f t i o) : 6 < (bxL b n f t i o).length := by
  unfold bxL
  rw [if_pos h, List.length_append]
  have h1 : 8 ≤ (lnL (stB ⟨#[98, 97, 110, 107]⟩) [b, n, f]).length := by
    simp only [lnL, nmL, stB, List.length_append, List.length_cons, List.length_map]
    simp
    omega
  omega
theorem st_cases (s : Bt) (r : Rc) (hs : s.Ok) (hr : r.Ok) : stepT s r = (s, false) ∨ ∃ x : Bt, stepT s r = (x, true) ∧ x.Ok ∧ s.f ≤ x.f ∧ ((r.k = 4 ∧ s.f = x.f ∧ s.b = x.b) ∨ (r.k = 5 ∧ s.b = x.b) ∨ (r.k ≠ 4 ∧ r.k ≠ 5 ∧ s.f = x.f ∧ x.b ≠ s.b)) := by
  have e : stepT s r = stT s r := if_pos ⟨hs, hr⟩
  have ho := stT_ok hs hr
  have hb := hs.1
  rw [e]
  obtain ⟨b, n, f, t, i, o⟩ := s
  obtain ⟨k, rb, rn, rf⟩ := r
  unfold stT at ho ⊢
  dsimp only at ho hb ⊢
  by_cases h3 : k = 3
  · subst h3
    rw [if_pos rfl] at ho ⊢
    by_cases hc : t = true ∨ rb = b
    · rw [if_pos hc]; exact .inl rfl
    · rw [if_neg hc] at ho ⊢
      exact .inr ⟨_, rfl, ho, Int.le_refl _, .inr (.inr ⟨by omega, by omega, rfl, fun h => hc (.inr h)⟩)⟩
  rw [if_neg h3] at ho ⊢
  by_cases h4 : k = 4
  · subst h4
    rw [if_pos rfl] at ho ⊢
    by_cases hc : t = false ∨ 3 ≤ i
    · rw [if_pos hc]; exact .inl rfl
    · rw [if_neg hc] at ho ⊢
      exact .inr ⟨_, rfl, ho, Int.le_refl _, .inl ⟨rfl, rfl, rfl⟩⟩
  rw [if_neg h4] at ho ⊢
  by_cases h5 : k = 5
  · subst h5
    rw [if_pos rfl] at ho ⊢
    by_cases hc : t = false
    · rw [if_pos hc]; exact .inl rfl
    · rw [if_neg hc] at ho ⊢
      exact .inr ⟨_, rfl, ho, Int.le_max_left _ _, .inr (.inl ⟨rfl, rfl⟩)⟩
  rw [if_neg h5] at ho ⊢
  by_cases h6 : k = 6
  · subst h6
    rw [if_pos rfl] at ho ⊢
    by_cases hc : t = false
    · rw [if_pos hc]; exact .inl rfl
    · rw [if_neg hc] at ho ⊢
      exact .inr ⟨_, rfl, ho, Int.le_refl _, .inr (.inr ⟨by omega, by omega, rfl, by dsimp only; omega⟩)⟩
  rw [if_neg h6]
  exact .inl rfl
theorem walk_fnSteps (w : World) (a : Option Addr) (n c : Nat) (xs : List Int) (hb : Bs w a n c xs) (hl : n ≤ 9223372036854775807) (ht : Pow w) :
    Calls Tryd.prog 4 #[.slice a n c] w fun e w' => e = .returned (.bool true) ∧ Below w.heap.size w w' := by
  have HT : Hid (∀ Z, Below w.heap.size w Z → Pow Z) := fun Z hZ => pow_below ht hZ
  have HX : Hid (Bs w a n c xs) := hb
  clear hb ht
  go_enter Tryd.func4, Tryd.ntmps4
  go_wp2_with fail
  refine (drawStep a n c xs _ HX.out hl).mono ?_
  rintro e w1 ⟨⟨sb, sn, sf, st, si, so⟩, ⟨rk, rb, rn, rf⟩, rfl, b1⟩
  dsimp only
  obtain ⟨V, hV⟩ : ∃ V, V = (w1.alloc (.cells #[.int .i64 (sb), .int .i64 (sn), .int .i64 (sf), .bool (st), .int .i64 (si), .int .i64 (so)] 35)).alloc (.cells #[.int .i64 (rk), .int .i64 (rb), .int .i64 (rn), .int .i64 (rf)] 24) := ⟨_, rfl⟩
  have A : Arr V w1.heap.size 35 [.int .i64 (sb), .int .i64 (sn), .int .i64 (sf), .bool (st), .int .i64 (si), .int .i64 (so)] := by rw [hV]; exact (Arr.new w1 [.int .i64 (sb), .int .i64 (sn), .int .i64 (sf), .bool (st), .int .i64 (si), .int .i64 (so)] 35).alloc _
  have R : Arr V (w1.heap.size + 1) 24 [.int .i64 (rk), .int .i64 (rb), .int .i64 (rn), .int .i64 (rf)] := by
    rw [hV]
    have := Arr.new (w1.alloc (.cells #[.int .i64 (sb), .int .i64 (sn), .int .i64 (sf), .bool (st), .int .i64 (si), .int .i64 (so)] 35)) [.int .i64 (rk), .int .i64 (rb), .int .i64 (rn), .int .i64 (rf)] 24
    simpa using this
  have B : Below w.heap.size w V := by rw [hV]; exact (b1.alloc b1.size _).alloc (by have := b1.size; simp; omega) _
  go_upto_region 2 with fail
  rw [← hV]
  clear hV b1 HX
  by_cases hs : btOk sb sn sf st si so
  case neg =>
    have HSt : Hid (stepT ⟨sb, sn, sf, st, si, so⟩ ⟨rk, rb, rn, rf⟩ = (⟨0, 0, 0, false, 0, 0⟩, false)) := if_neg (fun h : _ ∧ _ => hs h.1)
    have p0 := A.cell 0
    have p1 := A.cell 1
    have p2 := A.cell 2
    have p3 := A.cell 3
    have p4 := A.cell 4
    have p5 := A.cell 5
    simp at p0 p1 p2 p3 p4 p5
    have r0 := R.cell 0
    have r1 := R.cell 1
    have r2 := R.cell 2
    have r3 := R.cell 3
    simp at r0 r1 r2 r3
    go_wp2_with fail
    refine (implStep sb sn sf st si so rk rb rn rf _).mono ?_
    rintro e w2 ⟨rfl, hb⟩
    replace A := A.kept hb
    replace R := R.kept hb
    replace B := B.trans (hb.mono B.size)
    clear hb
    rw [HSt.out]
    dsimp only [stV, btW]
    clear p0 p1 p2 p3 p4 p5
    clear r0 r1 r2 r3
    obtain ⟨X, hX⟩ : ∃ X, X = w2.alloc (.cells #[.int .i64 (0), .int .i64 (0), .int .i64 (0), .bool (false), .int .i64 (0), .int .i64 (0)] 35) := ⟨_, rfl⟩
    have AX : Arr X w2.heap.size 35 [.int .i64 (0), .int .i64 (0), .int .i64 (0), .bool (false), .int .i64 (0), .int .i64 (0)] := by rw [hX]; exact Arr.new _ _ _
    replace A : Arr X w1.heap.size 35 [.int .i64 (sb), .int .i64 (sn), .int .i64 (sf), .bool (st), .int .i64 (si), .int .i64 (so)] := by rw [hX]; exact A.alloc _
    replace R : Arr X (w1.heap.size + 1) 24 [.int .i64 (rk), .int .i64 (rb), .int .i64 (rn), .int .i64 (rf)] := by rw [hX]; exact R.alloc _
    replace B : Below w.heap.size w X := by rw [hX]; exact B.alloc B.size _
    obtain ⟨G, hG⟩ : ∃ G, G = w2.heap.size := ⟨_, rfl⟩
    rw [← hG] at AX
    go_upto_region 3 with fail
    rw [← hX]
    rw [← hG]
    clear hX hG
    have p0 := A.cell 0
    have p1 := A.cell 1
    have p2 := A.cell 2
    have p3 := A.cell 3
    have p4 := A.cell 4
    have p5 := A.cell 5
    simp at p0 p1 p2 p3 p4 p5
    go_wp2_with fail
    refine (specBootOk sb sn sf st si so _).mono ?_
    rintro e w3 ⟨rfl, hb⟩
    replace A := A.kept hb
    replace R := R.kept hb
    replace AX := AX.kept hb
    replace B := B.trans (hb.mono B.size)
    clear hb
    rw [decide_eq_false hs]
    clear p0 p1 p2 p3 p4 p5
    have x0 := AX.cell 0
    have x1 := AX.cell 1
    have x2 := AX.cell 2
    have x3 := AX.cell 3
    have x4 := AX.cell 4
    have x5 := AX.cell 5
    simp at x0 x1 x2 x3 x4 x5
    go_wp2_with fail
    refine (implLogs _).mono ?_
    rintro e w4 ⟨rfl, hb⟩
    replace B := B.trans (hb.mono B.size)
    clear hb
    go_wp2
    go_ret
    exact ⟨rfl, B⟩
  by_cases hr : rcOk rk rb rn rf
  case neg =>
    have HSt : Hid (stepT ⟨sb, sn, sf, st, si, so⟩ ⟨rk, rb, rn, rf⟩ = (⟨0, 0, 0, false, 0, 0⟩, false)) := if_neg (fun h : _ ∧ _ => hr h.2)
    have p0 := A.cell 0
    have p1 := A.cell 1
    have p2 := A.cell 2
    have p3 := A.cell 3
    have p4 := A.cell 4
    have p5 := A.cell 5
    simp at p0 p1 p2 p3 p4 p5
    have r0 := R.cell 0
    have r1 := R.cell 1
    have r2 := R.cell 2
    have r3 := R.cell 3
    simp at r0 r1 r2 r3
    go_wp2_with fail
    refine (implStep sb sn sf st si so rk rb rn rf _).mono ?_
    rintro e w2 ⟨rfl, hb⟩
    replace A := A.kept hb
    replace R := R.kept hb
    replace B := B.trans (hb.mono B.size)
    clear hb
    rw [HSt.out]
    dsimp only [stV, btW]
    clear p0 p1 p2 p3 p4 p5
    clear r0 r1 r2 r3
    obtain ⟨X, hX⟩ : ∃ X, X = w2.alloc (.cells #[.int .i64 (0), .int .i64 (0), .int .i64 (0), .bool (false), .int .i64 (0), .int .i64 (0)] 35) := ⟨_, rfl⟩
    have AX : Arr X w2.heap.size 35 [.int .i64 (0), .int .i64 (0), .int .i64 (0), .bool (false), .int .i64 (0), .int .i64 (0)] := by rw [hX]; exact Arr.new _ _ _
    replace A : Arr X w1.heap.size 35 [.int .i64 (sb), .int .i64 (sn), .int .i64 (sf), .bool (st), .int .i64 (si), .int .i64 (so)] := by rw [hX]; exact A.alloc _
    replace R : Arr X (w1.heap.size + 1) 24 [.int .i64 (rk), .int .i64 (rb), .int .i64 (rn), .int .i64 (rf)] := by rw [hX]; exact R.alloc _
    replace B : Below w.heap.size w X := by rw [hX]; exact B.alloc B.size _
    obtain ⟨G, hG⟩ : ∃ G, G = w2.heap.size := ⟨_, rfl⟩
    rw [← hG] at AX
    go_upto_region 3 with fail
    rw [← hX]
    rw [← hG]
    clear hX hG
    have p0 := A.cell 0
    have p1 := A.cell 1
    have p2 := A.cell 2
    have p3 := A.cell 3
    have p4 := A.cell 4
    have p5 := A.cell 5
    simp at p0 p1 p2 p3 p4 p5
    go_wp2_with fail
    refine (specBootOk sb sn sf st si so _).mono ?_
    rintro e w3 ⟨rfl, hb⟩
    replace A := A.kept hb
    replace R := R.kept hb
    replace AX := AX.kept hb
    replace B := B.trans (hb.mono B.size)
    clear hb
    rw [decide_eq_true hs]
    clear p0 p1 p2 p3 p4 p5
    have r0 := R.cell 0
    have r1 := R.cell 1
    have r2 := R.cell 2
    have r3 := R.cell 3
    simp at r0 r1 r2 r3
    go_wp2_with fail
    refine (specRecOk rk rb rn rf _).mono ?_
    rintro e w4 ⟨rfl, hb⟩
    replace A := A.kept hb
    replace R := R.kept hb
    replace AX := AX.kept hb
    replace B := B.trans (hb.mono B.size)
    clear hb
    rw [decide_eq_false hr]
    clear r0 r1 r2 r3
    have x0 := AX.cell 0
    have x1 := AX.cell 1
    have x2 := AX.cell 2
    have x3 := AX.cell 3
    have x4 := AX.cell 4
    have x5 := AX.cell 5
    simp at x0 x1 x2 x3 x4 x5
    go_wp2_with fail
    refine (implLogs _).mono ?_
    rintro e w5 ⟨rfl, hb⟩
    replace B := B.trans (hb.mono B.size)
    clear hb
    go_wp2
    go_ret
    exact ⟨rfl, B⟩
  rcases st_cases ⟨sb, sn, sf, st, si, so⟩ ⟨rk, rb, rn, rf⟩ hs hr with HSt0 | ⟨⟨xb, xn, xf, xt, xi, xo⟩, HSt0, hx0, hf0, hcs⟩
  · have HSt : Hid (stepT ⟨sb, sn, sf, st, si, so⟩ ⟨rk, rb, rn, rf⟩ = (⟨sb, sn, sf, st, si, so⟩, false)) := HSt0
    clear HSt0
    have p0 := A.cell 0
    have p1 := A.cell 1
    have p2 := A.cell 2
    have p3 := A.cell 3
    have p4 := A.cell 4
    have p5 := A.cell 5
    simp at p0 p1 p2 p3 p4 p5
    have r0 := R.cell 0
    have r1 := R.cell 1
    have r2 := R.cell 2
    have r3 := R.cell 3
    simp at r0 r1 r2 r3
    go_wp2_with fail
    refine (implStep sb sn sf st si so rk rb rn rf _).mono ?_
    rintro e w2 ⟨rfl, hb⟩
    replace A := A.kept hb
    replace R := R.kept hb
    replace B := B.trans (hb.mono B.size)
    clear hb
    rw [HSt.out]
    dsimp only [stV, btW]
    clear p0 p1 p2 p3 p4 p5
    clear r0 r1 r2 r3
    obtain ⟨X, hX⟩ : ∃ X, X = w2.alloc (.cells #[.int .i64 (sb), .int .i64 (sn), .int .i64 (sf), .bool (st), .int .i64 (si), .int .i64 (so)] 35) := ⟨_, rfl⟩
    have AX : Arr X w2.heap.size 35 [.int .i64 (sb), .int .i64 (sn), .int .i64 (sf), .bool (st), .int .i64 (si), .int .i64 (so)] := by rw [hX]; exact Arr.new _ _ _
    replace A : Arr X w1.heap.size 35 [.int .i64 (sb), .int .i64 (sn), .int .i64 (sf), .bool (st), .int .i64 (si), .int .i64 (so)] := by rw [hX]; exact A.alloc _
    replace R : Arr X (w1.heap.size + 1) 24 [.int .i64 (rk), .int .i64 (rb), .int .i64 (rn), .int .i64 (rf)] := by rw [hX]; exact R.alloc _
    replace B : Below w.heap.size w X := by rw [hX]; exact B.alloc B.size _
    obtain ⟨G, hG⟩ : ∃ G, G = w2.heap.size := ⟨_, rfl⟩
    rw [← hG] at AX
    go_upto_region 3 with fail
    rw [← hX]
    rw [← hG]
    clear hX hG
    have p0 := A.cell 0
    have p1 := A.cell 1
    have p2 := A.cell 2
    have p3 := A.cell 3
    have p4 := A.cell 4
    have p5 := A.cell 5
    simp at p0 p1 p2 p3 p4 p5
    go_wp2_with fail
    refine (specBootOk sb sn sf st si so _).mono ?_
    rintro e w3 ⟨rfl, hb⟩
    replace A := A.kept hb
    replace R := R.kept hb
    replace AX := AX.kept hb
    replace B := B.trans (hb.mono B.size)
    clear hb
    rw [decide_eq_true hs]
    clear p0 p1 p2 p3 p4 p5
    have r0 := R.cell 0
    have r1 := R.cell 1
    have r2 := R.cell 2
    have r3 := R.cell 3
    simp at r0 r1 r2 r3
    go_wp2_with fail
    refine (specRecOk rk rb rn rf _).mono ?_
    rintro e w4 ⟨rfl, hb⟩
    replace A := A.kept hb
    replace R := R.kept hb
    replace AX := AX.kept hb
    replace B := B.trans (hb.mono B.size)
    clear hb
    rw [decide_eq_true hr]
    clear r0 r1 r2 r3
    have p0 := A.cell 0
    have p1 := A.cell 1
    have p2 := A.cell 2
    have p3 := A.cell 3
    have p4 := A.cell 4
    have p5 := A.cell 5
    simp at p0 p1 p2 p3 p4 p5
    have x0 := AX.cell 0
    have x1 := AX.cell 1
    have x2 := AX.cell 2
    have x3 := AX.cell 3
    have x4 := AX.cell 4
    have x5 := AX.cell 5
    simp at x0 x1 x2 x3 x4 x5
    go_wp2_with fail
    refine (implLogs _).mono ?_
    rintro e w5 ⟨rfl, hb⟩
    replace B := B.trans (hb.mono B.size)
    clear hb
    go_wp2
    go_ret
    exact ⟨rfl, B⟩
  have HSt : Hid (stepT ⟨sb, sn, sf, st, si, so⟩ ⟨rk, rb, rn, rf⟩ = (⟨xb, xn, xf, xt, xi, xo⟩, true)) := HSt0
  have hx : btOk xb xn xf xt xi xo := hx0
  dsimp only at hf0 hcs
  clear HSt0 hx0
  rcases hcs with ⟨rfl, rfl, rfl⟩ | ⟨rfl, rfl⟩ | ⟨k4, k5, rfl, hne⟩
  · have HF0 : Hid _ := hf0
    clear hf0
    have p0 := A.cell 0
    have p1 := A.cell 1
    have p2 := A.cell 2
    have p3 := A.cell 3
    have p4 := A.cell 4
    have p5 := A.cell 5
    simp at p0 p1 p2 p3 p4 p5
    have r0 := R.cell 0
    have r1 := R.cell 1
    have r2 := R.cell 2
    have r3 := R.cell 3
    simp at r0 r1 r2 r3
    go_wp2_with fail
    refine (implStep sb sn sf st si so 4 rb rn rf _).mono ?_
    rintro e w2 ⟨rfl, hb⟩
    replace A := A.kept hb
    replace R := R.kept hb
    replace B := B.trans (hb.mono B.size)
    clear hb
    rw [HSt.out]
    dsimp only [stV, btW]
    clear p0 p1 p2 p3 p4 p5
    clear r0 r1 r2 r3
    obtain ⟨X, hX⟩ : ∃ X, X = w2.alloc (.cells #[.int .i64 (sb), .int .i64 (xn), .int .i64 (sf), .bool (xt), .int .i64 (xi), .int .i64 (xo)] 35) := ⟨_, rfl⟩
    have AX : Arr X w2.heap.size 35 [.int .i64 (sb), .int .i64 (xn), .int .i64 (sf), .bool (xt), .int .i64 (xi), .int .i64 (xo)] := by rw [hX]; exact Arr.new _ _ _
    replace A : Arr X w1.heap.size 35 [.int .i64 (sb), .int .i64 (sn), .int .i64 (sf), .bool (st), .int .i64 (si), .int .i64 (so)] := by rw [hX]; exact A.alloc _
    replace R : Arr X (w1.heap.size + 1) 24 [.int .i64 (4), .int .i64 (rb), .int .i64 (rn), .int .i64 (rf)] := by rw [hX]; exact R.alloc _
    replace B : Below w.heap.size w X := by rw [hX]; exact B.alloc B.size _
    obtain ⟨G, hG⟩ : ∃ G, G = w2.heap.size := ⟨_, rfl⟩
    rw [← hG] at AX
    go_upto_region 3 with fail
    rw [← hX]
    rw [← hG]
    clear hX hG
    have p0 := A.cell 0
    have p1 := A.cell 1
    have p2 := A.cell 2
    have p3 := A.cell 3
    have p4 := A.cell 4
    have p5 := A.cell 5
    simp at p0 p1 p2 p3 p4 p5
    go_wp2_with fail
    refine (specBootOk sb sn sf st si so _).mono ?_
    rintro e w3 ⟨rfl, hb⟩
    replace A := A.kept hb
    replace R := R.kept hb
    replace AX := AX.kept hb
    replace B := B.trans (hb.mono B.size)
    clear hb
    rw [decide_eq_true hs]
    clear p0 p1 p2 p3 p4 p5
    have r0 := R.cell 0
    have r1 := R.cell 1
    have r2 := R.cell 2
    have r3 := R.cell 3
    simp at r0 r1 r2 r3
    go_wp2_with fail
    refine (specRecOk 4 rb rn rf _).mono ?_
    rintro e w4 ⟨rfl, hb⟩
    replace A := A.kept hb
    replace R := R.kept hb
    replace AX := AX.kept hb
    replace B := B.trans (hb.mono B.size)
    clear hb
    rw [decide_eq_true hr]
    clear r0 r1 r2 r3
    have x0 := AX.cell 0
    have x1 := AX.cell 1
    have x2 := AX.cell 2
    have x3 := AX.cell 3
    have x4 := AX.cell 4
    have x5 := AX.cell 5
    simp at x0 x1 x2 x3 x4 x5
    go_wp2_with fail
    refine (implBootOk sb xn sf xt xi xo _).mono ?_
    rintro e w5 ⟨rfl, hb⟩
    replace A := A.kept hb
    replace R := R.kept hb
    replace AX := AX.kept hb
    replace B := B.trans (hb.mono B.size)
    clear hb
    rw [decide_eq_true hx]
    clear x0 x1 x2 x3 x4 x5
    have p0 := A.cell 0
    have p1 := A.cell 1
    have p2 := A.cell 2
    have p3 := A.cell 3
    have p4 := A.cell 4
    have p5 := A.cell 5
    simp at p0 p1 p2 p3 p4 p5
    have r0 := R.cell 0
    have r1 := R.cell 1
    have r2 := R.cell 2
    have r3 := R.cell 3
    simp at r0 r1 r2 r3
    have x0 := AX.cell 0
    have x1 := AX.cell 1
    have x2 := AX.cell 2
    have x3 := AX.cell 3
    have x4 := AX.cell 4
    have x5 := AX.cell 5
    simp at x0 x1 x2 x3 x4 x5
    go_wp2_with fail
    refine Calls.mono (implBootText sb xn sf xt xi xo _ (HT.out _ B)) ?_
    rintro e w6 ⟨v, rfl, o, hb⟩
    obtain ⟨va, vc, rfl, _⟩ := o.bs (bxL_byte _ _ _ _ _ _)
    replace B := B.trans (hb.mono B.size)
    have hg := bxL_gt hx
    obtain ⟨N, hN⟩ : ∃ N, N = (bxL sb xn sf xt xi xo).length := ⟨_, rfl⟩
    rw [← hN] at hg ⊢
    have hg6 : (6 : Int) < (N : Int) := by omega
    clear hb o hN
    go_wp2
    go_ret
    exact ⟨rfl, B⟩
  · by_cases hff : sf = xf
    · subst hff
      have HF0 : Hid _ := hf0
      clear hf0
      have p0 := A.cell 0
      have p1 := A.cell 1
      have p2 := A.cell 2
      have p3 := A.cell 3
      have p4 := A.cell 4
      have p5 := A.cell 5
      simp at p0 p1 p2 p3 p4 p5
      have r0 := R.cell 0
      have r1 := R.cell 1
      have r2 := R.cell 2
      have r3 := R.cell 3
      simp at r0 r1 r2 r3
      go_wp2_with fail
      refine (implStep sb sn sf st si so 5 rb rn rf _).mono ?_
      rintro e w2 ⟨rfl, hb⟩
      replace A := A.kept hb
      replace R := R.kept hb
      replace B := B.trans (hb.mono B.size)
      clear hb
      rw [HSt.out]
      dsimp only [stV, btW]
      clear p0 p1 p2 p3 p4 p5
      clear r0 r1 r2 r3
      obtain ⟨X, hX⟩ : ∃ X, X = w2.alloc (.cells #[.int .i64 (sb), .int .i64 (xn), .int .i64 (sf), .bool (xt), .int .i64 (xi), .int .i64 (xo)] 35) := ⟨_, rfl⟩
      have AX : Arr X w2.heap.size 35 [.int .i64 (sb), .int .i64 (xn), .int .i64 (sf), .bool (xt), .int .i64 (xi), .int .i64 (xo)] := by rw [hX]; exact Arr.new _ _ _
      replace A : Arr X w1.heap.size 35 [.int .i64 (sb), .int .i64 (sn), .int .i64 (sf), .bool (st), .int .i64 (si), .int .i64 (so)] := by rw [hX]; exact A.alloc _
      replace R : Arr X (w1.heap.size + 1) 24 [.int .i64 (5), .int .i64 (rb), .int .i64 (rn), .int .i64 (rf)] := by rw [hX]; exact R.alloc _
      replace B : Below w.heap.size w X := by rw [hX]; exact B.alloc B.size _
      obtain ⟨G, hG⟩ : ∃ G, G = w2.heap.size := ⟨_, rfl⟩
      rw [← hG] at AX
      go_upto_region 3 with fail
      rw [← hX]
      rw [← hG]
      clear hX hG
      have p0 := A.cell 0
      have p1 := A.cell 1
      have p2 := A.cell 2
      have p3 := A.cell 3
      have p4 := A.cell 4
      have p5 := A.cell 5
      simp at p0 p1 p2 p3 p4 p5
      go_wp2_with fail
      refine (specBootOk sb sn sf st si so _).mono ?_
      rintro e w3 ⟨rfl, hb⟩
      replace A := A.kept hb
      replace R := R.kept hb
      replace AX := AX.kept hb
      replace B := B.trans (hb.mono B.size)
      clear hb
      rw [decide_eq_true hs]
      clear p0 p1 p2 p3 p4 p5
      have r0 := R.cell 0
      have r1 := R.cell 1
      have r2 := R.cell 2
      have r3 := R.cell 3
      simp at r0 r1 r2 r3
      go_wp2_with fail
      refine (specRecOk 5 rb rn rf _).mono ?_
      rintro e w4 ⟨rfl, hb⟩
      replace A := A.kept hb
      replace R := R.kept hb
      replace AX := AX.kept hb
      replace B := B.trans (hb.mono B.size)
      clear hb
      rw [decide_eq_true hr]
      clear r0 r1 r2 r3
      have x0 := AX.cell 0
      have x1 := AX.cell 1
      have x2 := AX.cell 2
      have x3 := AX.cell 3
      have x4 := AX.cell 4
      have x5 := AX.cell 5
      simp at x0 x1 x2 x3 x4 x5
      go_wp2_with fail
      refine (implBootOk sb xn sf xt xi xo _).mono ?_
      rintro e w5 ⟨rfl, hb⟩
      replace A := A.kept hb
      replace R := R.kept hb
      replace AX := AX.kept hb
      replace B := B.trans (hb.mono B.size)
      clear hb
      rw [decide_eq_true hx]
      clear x0 x1 x2 x3 x4 x5
      have p0 := A.cell 0
      have p1 := A.cell 1
      have p2 := A.cell 2
      have p3 := A.cell 3
      have p4 := A.cell 4
      have p5 := A.cell 5
      simp at p0 p1 p2 p3 p4 p5
      have r0 := R.cell 0
      have r1 := R.cell 1
      have r2 := R.cell 2
      have r3 := R.cell 3
      simp at r0 r1 r2 r3
      have x0 := AX.cell 0
      have x1 := AX.cell 1
      have x2 := AX.cell 2
      have x3 := AX.cell 3
      have x4 := AX.cell 4
      have x5 := AX.cell 5
      simp at x0 x1 x2 x3 x4 x5
      go_wp2_with fail
      refine Calls.mono (implBootText sb xn sf xt xi xo _ (HT.out _ B)) ?_
      rintro e w6 ⟨v, rfl, o, hb⟩
      obtain ⟨va, vc, rfl, _⟩ := o.bs (bxL_byte _ _ _ _ _ _)
      replace B := B.trans (hb.mono B.size)
      have hg := bxL_gt hx
      obtain ⟨N, hN⟩ : ∃ N, N = (bxL sb xn sf xt xi xo).length := ⟨_, rfl⟩
      rw [← hN] at hg ⊢
      have hg6 : (6 : Int) < (N : Int) := by omega
      clear hb o hN
      go_wp2
      go_ret
      exact ⟨rfl, B⟩
    · have hff' : (xf == sf) = false := by simp; omega
      have HF1 : Hid _ := hff
      clear hff
      have p0 := A.cell 0
      have p1 := A.cell 1
      have p2 := A.cell 2
      have p3 := A.cell 3
      have p4 := A.cell 4
      have p5 := A.cell 5
      simp at p0 p1 p2 p3 p4 p5
      have r0 := R.cell 0
      have r1 := R.cell 1
      have r2 := R.cell 2
      have r3 := R.cell 3
      simp at r0 r1 r2 r3
      go_wp2_with fail
      refine (implStep sb sn sf st si so 5 rb rn rf _).mono ?_
      rintro e w2 ⟨rfl, hb⟩
      replace A := A.kept hb
      replace R := R.kept hb
      replace B := B.trans (hb.mono B.size)
      clear hb
      rw [HSt.out]
      dsimp only [stV, btW]
      clear p0 p1 p2 p3 p4 p5
      clear r0 r1 r2 r3
      obtain ⟨X, hX⟩ : ∃ X, X = w2.alloc (.cells #[.int .i64 (sb), .int .i64 (xn), .int .i64 (xf), .bool (xt), .int .i64 (xi), .int .i64 (xo)] 35) := ⟨_, rfl⟩
      have AX : Arr X w2.heap.size 35 [.int .i64 (sb), .int .i64 (xn), .int .i64 (xf), .bool (xt), .int .i64 (xi), .int .i64 (xo)] := by rw [hX]; exact Arr.new _ _ _
      replace A : Arr X w1.heap.size 35 [.int .i64 (sb), .int .i64 (sn), .int .i64 (sf), .bool (st), .int .i64 (si), .int .i64 (so)] := by rw [hX]; exact A.alloc _
      replace R : Arr X (w1.heap.size + 1) 24 [.int .i64 (5), .int .i64 (rb), .int .i64 (rn), .int .i64 (rf)] := by rw [hX]; exact R.alloc _
      replace B : Below w.heap.size w X := by rw [hX]; exact B.alloc B.size _
      obtain ⟨G, hG⟩ : ∃ G, G = w2.heap.size := ⟨_, rfl⟩
      rw [← hG] at AX
      go_upto_region 3 with fail
      rw [← hX]
      rw [← hG]
      clear hX hG
      have p0 := A.cell 0
      have p1 := A.cell 1
      have p2 := A.cell 2
      have p3 := A.cell 3
      have p4 := A.cell 4
      have p5 := A.cell 5
      simp at p0 p1 p2 p3 p4 p5
      go_wp2_with fail
      refine (specBootOk sb sn sf st si so _).mono ?_
      rintro e w3 ⟨rfl, hb⟩
      replace A := A.kept hb
      replace R := R.kept hb
      replace AX := AX.kept hb
      replace B := B.trans (hb.mono B.size)
      clear hb
      rw [decide_eq_true hs]
      clear p0 p1 p2 p3 p4 p5
      have r0 := R.cell 0
      have r1 := R.cell 1
      have r2 := R.cell 2
      have r3 := R.cell 3
      simp at r0 r1 r2 r3
      go_wp2_with fail
      refine (specRecOk 5 rb rn rf _).mono ?_
      rintro e w4 ⟨rfl, hb⟩
      replace A := A.kept hb
      replace R := R.kept hb
      replace AX := AX.kept hb
      replace B := B.trans (hb.mono B.size)
      clear hb
      rw [decide_eq_true hr]
      clear r0 r1 r2 r3
      have x0 := AX.cell 0
      have x1 := AX.cell 1
      have x2 := AX.cell 2
      have x3 := AX.cell 3
      have x4 := AX.cell 4
      have x5 := AX.cell 5
      simp at x0 x1 x2 x3 x4 x5
      go_wp2_with fail
      refine (implBootOk sb xn xf xt xi xo _).mono ?_
      rintro e w5 ⟨rfl, hb⟩
      replace A := A.kept hb
      replace R := R.kept hb
      replace AX := AX.kept hb
      replace B := B.trans (hb.mono B.size)
      clear hb
      rw [decide_eq_true hx]
      clear x0 x1 x2 x3 x4 x5
      have p0 := A.cell 0
      have p1 := A.cell 1
      have p2 := A.cell 2
      have p3 := A.cell 3
      have p4 := A.cell 4
      have p5 := A.cell 5
      simp at p0 p1 p2 p3 p4 p5
      have r0 := R.cell 0
      have r1 := R.cell 1
      have r2 := R.cell 2
      have r3 := R.cell 3
      simp at r0 r1 r2 r3
      have x0 := AX.cell 0
      have x1 := AX.cell 1
      have x2 := AX.cell 2
      have x3 := AX.cell 3
      have x4 := AX.cell 4
      have x5 := AX.cell 5
      simp at x0 x1 x2 x3 x4 x5
      go_wp2_with fail
      refine Calls.mono (implBootText sb xn xf xt xi xo _ (HT.out _ B)) ?_
      rintro e w6 ⟨v, rfl, o, hb⟩
      obtain ⟨va, vc, rfl, _⟩ := o.bs (bxL_byte _ _ _ _ _ _)
      replace B := B.trans (hb.mono B.size)
      have hg := bxL_gt hx
      obtain ⟨N, hN⟩ : ∃ N, N = (bxL sb xn xf xt xi xo).length := ⟨_, rfl⟩
      rw [← hN] at hg ⊢
      have hg6 : (6 : Int) < (N : Int) := by omega
      clear hb o hN
      go_wp2
      go_ret
      exact ⟨rfl, B⟩
  · have hne' : (xb == sb) = false := by simpa using hne
    have k4' : (rk == 4) = false := by simpa using k4
    have k5' : (rk == 5) = false := by simpa using k5
    have HF0 : Hid _ := hf0
    clear hf0
    have p0 := A.cell 0
    have p1 := A.cell 1
    have p2 := A.cell 2
    have p3 := A.cell 3
    have p4 := A.cell 4
    have p5 := A.cell 5
    simp at p0 p1 p2 p3 p4 p5
    have r0 := R.cell 0
    have r1 := R.cell 1
    have r2 := R.cell 2
    have r3 := R.cell 3
    simp at r0 r1 r2 r3
    go_wp2_with fail
    refine (implStep sb sn sf st si so rk rb rn rf _).mono ?_
    rintro e w2 ⟨rfl, hb⟩
    replace A := A.kept hb
    replace R := R.kept hb
    replace B := B.trans (hb.mono B.size)
    clear hb
    rw [HSt.out]
    dsimp only [stV, btW]
    clear p0 p1 p2 p3 p4 p5
    clear r0 r1 r2 r3
    obtain ⟨X, hX⟩ : ∃ X, X = w2.alloc (.cells #[.int .i64 (xb), .int .i64 (xn), .int .i64 (sf), .bool (xt), .int .i64 (xi), .int .i64 (xo)] 35) := ⟨_, rfl⟩
    have AX : Arr X w2.heap.size 35 [.int .i64 (xb), .int .i64 (xn), .int .i64 (sf), .bool (xt), .int .i64 (xi), .int .i64 (xo)] := by rw [hX]; exact Arr.new _ _ _
    replace A : Arr X w1.heap.size 35 [.int .i64 (sb), .int .i64 (sn), .int .i64 (sf), .bool (st), .int .i64 (si), .int .i64 (so)] := by rw [hX]; exact A.alloc _
    replace R : Arr X (w1.heap.size + 1) 24 [.int .i64 (rk), .int .i64 (rb), .int .i64 (rn), .int .i64 (rf)] := by rw [hX]; exact R.alloc _
    replace B : Below w.heap.size w X := by rw [hX]; exact B.alloc B.size _
    obtain ⟨G, hG⟩ : ∃ G, G = w2.heap.size := ⟨_, rfl⟩
    rw [← hG] at AX
    go_upto_region 3 with fail
    rw [← hX]
    rw [← hG]
    clear hX hG
    have p0 := A.cell 0
    have p1 := A.cell 1
    have p2 := A.cell 2
    have p3 := A.cell 3
    have p4 := A.cell 4
    have p5 := A.cell 5
    simp at p0 p1 p2 p3 p4 p5
    go_wp2_with fail
    refine (specBootOk sb sn sf st si so _).mono ?_
    rintro e w3 ⟨rfl, hb⟩
    replace A := A.kept hb
    replace R := R.kept hb
    replace AX := AX.kept hb
    replace B := B.trans (hb.mono B.size)
    clear hb
    rw [decide_eq_true hs]
    clear p0 p1 p2 p3 p4 p5
    have r0 := R.cell 0
    have r1 := R.cell 1
    have r2 := R.cell 2
    have r3 := R.cell 3
    simp at r0 r1 r2 r3
    go_wp2_with fail
    refine (specRecOk rk rb rn rf _).mono ?_
    rintro e w4 ⟨rfl, hb⟩
    replace A := A.kept hb
    replace R := R.kept hb
    replace AX := AX.kept hb
    replace B := B.trans (hb.mono B.size)
    clear hb
    rw [decide_eq_true hr]
    clear r0 r1 r2 r3
    have x0 := AX.cell 0
    have x1 := AX.cell 1
    have x2 := AX.cell 2
    have x3 := AX.cell 3
    have x4 := AX.cell 4
    have x5 := AX.cell 5
    simp at x0 x1 x2 x3 x4 x5
    go_wp2_with fail
    refine (implBootOk xb xn sf xt xi xo _).mono ?_
    rintro e w5 ⟨rfl, hb⟩
    replace A := A.kept hb
    replace R := R.kept hb
    replace AX := AX.kept hb
    replace B := B.trans (hb.mono B.size)
    clear hb
    rw [decide_eq_true hx]
    clear x0 x1 x2 x3 x4 x5
    have p0 := A.cell 0
    have p1 := A.cell 1
    have p2 := A.cell 2
    have p3 := A.cell 3
    have p4 := A.cell 4
    have p5 := A.cell 5
    simp at p0 p1 p2 p3 p4 p5
    have r0 := R.cell 0
    have r1 := R.cell 1
    have r2 := R.cell 2
    have r3 := R.cell 3
    simp at r0 r1 r2 r3
    have x0 := AX.cell 0
    have x1 := AX.cell 1
    have x2 := AX.cell 2
    have x3 := AX.cell 3
    have x4 := AX.cell 4
    have x5 := AX.cell 5
    simp at x0 x1 x2 x3 x4 x5
    go_wp2_with fail
    refine Calls.mono (implBootText xb xn sf xt xi xo _ (HT.out _ B)) ?_
    rintro e w6 ⟨v, rfl, o, hb⟩
    obtain ⟨va, vc, rfl, _⟩ := o.bs (bxL_byte _ _ _ _ _ _)
    replace B := B.trans (hb.mono B.size)
    have hg := bxL_gt hx
    obtain ⟨N, hN⟩ : ∃ N, N = (bxL xb xn sf xt xi xo).length := ⟨_, rfl⟩
    rw [← hN] at hg ⊢
    have hg6 : (6 : Int) < (N : Int) := by omega
    clear hb o hN
    go_wp2
    go_ret
    exact ⟨rfl, B⟩
end Go.Proofs.YtjceajgefpinpaaDoor
