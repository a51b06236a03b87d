/-
  What is proved here: what both sides' ActionOk answer.
-/
import Derived.Test.YtgfjbaigmkdbcaaGa
import Derived.Test.YtgfjbaigmkdbcaaGc1
namespace Go.Proofs.Ytgfjbaigmkdbcaa
open Go.RowKit
set_option maxRecDepth 100000
set_option maxHeartbeats 4000000
set_option linter.unusedVariables false

abbrev acOkP (m : ActionM) : Prop := (0 ≤ m.k ∧ m.k ≤ 2) ∧ ctOk m.c = true ∧ (if m.k = 0 then m.e.length ≤ 2000 ∧ m.d.length ≤ 8 else m.e.length = 0 ∧ m.d.length = 0)
def acOk (m : ActionM) : Bool := decide (acOkP m)
theorem specActionOk (m : ActionM) (p : ActionA) (w : World) (h : ActionRd w p m) :
    Calls Try.prog 61 #[actV m p] w fun e w' => e = .returned (.bool (acOk m)) ∧ Below w.heap.size w w' := by
  obtain ⟨R, hR, HT, HF⟩ := by_dec0 (acOkP m)
  unfold acOk
  rw [hR]
  clear hR
  obtain ⟨V, hV⟩ : ∃ V, V = w.alloc (.cells #[.int .i64 m.k, .slice p.e.a m.e.length p.e.c, .slice p.d.a m.d.length p.d.c, .int .i64 m.c.o, .slice p.c.m.a m.c.m.length p.c.m.c] 93) := ⟨_, rfl⟩
  have B : Below w.heap.size w V := by rw [hV]; exact (Below.refl _ _).alloc (Nat.le_refl _) _
  have A : Arr V w.heap.size 93 [.int .i64 m.k, .slice p.e.a m.e.length p.e.c, .slice p.d.a m.d.length p.d.c, .int .i64 m.c.o, .slice p.c.m.a m.c.m.length p.c.m.c] := by rw [hV]; exact Arr.new _ _ _
  have c0 := A.cell 0
  have c1 := A.cell 1
  have c2 := A.cell 2
  have c3 := A.cell 3
  have c4 := A.cell 4
  simp at c0 c1 c2 c3 c4
  have HC : Hid (∀ Z, Below w.heap.size w Z → Calls Try.prog 53 #[cutV m.c p.c] Z fun e w' => e = .returned (.bool (ctOk m.c)) ∧ Below Z.heap.size Z w') := fun Z hZ => specCutOk m.c p.c Z (h.c.below hZ)
  obtain ⟨C, hC⟩ : ∃ C, C = ctOk m.c := ⟨_, rfl⟩
  unfold acOkP at HT HF
  rw [← hC] at HT HF HC
  clear hC h
  go_enter Try.func61, Try.ntmps61
  go_upto_region 1 with fail
  rw [← hV]
  clear hV
  by_cases h1 : m.k < 0
  case pos =>
    have HN := HF.out (by omega)
    clear HC
    go_wp2
    go_ret
    exact ⟨by first | (rw [HN]; rfl) | rfl, B⟩
  by_cases h2 : 2 < m.k
  case pos =>
    have HN := HF.out (by omega)
    clear HC
    go_wp2
    go_ret
    exact ⟨by first | (rw [HN]; rfl) | rfl, B⟩
  go_wp2_with fail
  refine Calls.mono (HC.out _ B) ?_
  rintro e w1 ⟨rfl, hb⟩
  replace A := A.kept hb
  replace B := B.trans (hb.mono B.size)
  clear hb c0 c1 c2 c3 c4 HC
  have c0 := A.cell 0
  have c1 := A.cell 1
  have c2 := A.cell 2
  simp at c0 c1 c2
  cases C with
  | false =>
    have HN := HF.out (by simp)
    go_wp2
    go_ret
    exact ⟨by first | (rw [HN]; rfl) | rfl, B⟩
  | true =>
    by_cases h0 : m.k = 0
    · have g0 : (m.k != 0) = false := by simpa using h0
      rw [if_pos h0] at HT HF
      by_cases h3 : (m.e.length : Int) ≤ 2000
      · by_cases h4 : (m.d.length : Int) ≤ 8
        · have g4 : decide ((m.d.length : Int) ≤ 8) = true := decide_eq_true h4
          have HN := HT.out ⟨⟨by omega, by omega⟩, by simp, by omega, by omega⟩
          clear h0
          go_wp2
          go_ret
          exact ⟨by first | (rw [HN]; rfl) | rfl, B⟩
        · have g4 : decide ((m.d.length : Int) ≤ 8) = false := decide_eq_false h4
          have HN := HF.out (by omega)
          clear h0
          go_wp2
          go_ret
          exact ⟨by first | (rw [HN]; rfl) | rfl, B⟩
      · have g3 : decide ((m.e.length : Int) ≤ 2000) = false := decide_eq_false h3
        have HN := HF.out (by omega)
        clear h0
        go_wp2
        go_ret
        exact ⟨by first | (rw [HN]; rfl) | rfl, B⟩
    · have g0 : (m.k != 0) = true := by simpa using h0
      rw [if_neg h0] at HT HF
      by_cases h3 : m.e.length = 0
      · have g3 : ((m.e.length : Int) == 0) = true := by simp [h3]
        by_cases h4 : m.d.length = 0
        · have g4 : ((m.d.length : Int) == 0) = true := by simp [h4]
          have HN := HT.out ⟨⟨by omega, by omega⟩, by simp, by omega, by omega⟩
          clear h0 h3 h4
          go_wp2
          go_ret
          exact ⟨by first | (rw [HN]; rfl) | rfl, B⟩
        · have HN := HF.out (fun g => h4 g.2.2.2)
          have g4 : ((m.d.length : Int) == 0) = false := by
            cases e : ((m.d.length : Int) == 0) with
            | false => rfl
            | true => have := eq_of_beq e; omega
          clear h0 h3 h4
          go_wp2
          go_ret
          exact ⟨by first | (rw [HN]; rfl) | rfl, B⟩
      · have HN := HF.out (fun g => h3 g.2.2.1)
        have g3 : ((m.e.length : Int) == 0) = false := by
          cases e : ((m.e.length : Int) == 0) with
          | false => rfl
          | true => have := eq_of_beq e; omega
        clear h0 h3
        go_wp2
        go_ret
        exact ⟨by first | (rw [HN]; rfl) | rfl, B⟩
theorem implActionOk (m : ActionM) (p : ActionA) (w : World) (h : ActionRd w p m) :
    Calls Try.prog 63 #[actV m p] w fun e w' => e = .returned (.bool (acOk m)) ∧ Below w.heap.size w w' := by
  obtain ⟨R, hR, HT, HF⟩ := by_dec0 (acOkP m)
  unfold acOk
  rw [hR]
  clear hR
  obtain ⟨V, hV⟩ : ∃ V, V = w.alloc (.cells #[.int .i64 m.k, .slice p.e.a m.e.length p.e.c, .slice p.d.a m.d.length p.d.c, .int .i64 m.c.o, .slice p.c.m.a m.c.m.length p.c.m.c] 93) := ⟨_, rfl⟩
  have B : Below w.heap.size w V := by rw [hV]; exact (Below.refl _ _).alloc (Nat.le_refl _) _
  have A : Arr V w.heap.size 93 [.int .i64 m.k, .slice p.e.a m.e.length p.e.c, .slice p.d.a m.d.length p.d.c, .int .i64 m.c.o, .slice p.c.m.a m.c.m.length p.c.m.c] := by rw [hV]; exact Arr.new _ _ _
  have c0 := A.cell 0
  have c1 := A.cell 1
  have c2 := A.cell 2
  have c3 := A.cell 3
  have c4 := A.cell 4
  simp at c0 c1 c2 c3 c4
  have HC : Hid (∀ Z, Below w.heap.size w Z → Calls Try.prog 55 #[cutV m.c p.c] Z fun e w' => e = .returned (.bool (ctOk m.c)) ∧ Below Z.heap.size Z w') := fun Z hZ => implCutOk m.c p.c Z (h.c.below hZ)
  obtain ⟨C, hC⟩ : ∃ C, C = ctOk m.c := ⟨_, rfl⟩
  unfold acOkP at HT HF
  rw [← hC] at HT HF HC
  clear hC h
  go_enter Try.func63, Try.ntmps63
  go_upto_region 1 with fail
  rw [← hV]
  clear hV
  go_wp2_with fail
  refine (implIsIn m.k 0 2 _).mono ?_
  rintro e w1 ⟨rfl, hw⟩
  rw [hw]
  clear hw
  by_cases h1 : 0 ≤ m.k ∧ m.k ≤ 2
  case neg =>
    rw [decide_eq_false h1]
    have HN := HF.out (by omega)
    clear HC
    go_wp2
    go_ret
    exact ⟨by first | (rw [HN]; rfl) | rfl, B⟩
  rw [decide_eq_true h1]
  go_wp2_with fail
  refine Calls.mono (HC.out _ B) ?_
  rintro e w1 ⟨rfl, hb⟩
  replace A := A.kept hb
  replace B := B.trans (hb.mono B.size)
  clear hb c0 c1 c2 c3 c4 HC
  have c0 := A.cell 0
  have c1 := A.cell 1
  have c2 := A.cell 2
  simp at c0 c1 c2
  cases C with
  | false =>
    have HN := HF.out (by simp)
    go_wp2
    go_ret
    exact ⟨by first | (rw [HN]; rfl) | rfl, B⟩
  | true =>
    by_cases h0 : m.k = 0
    · have g0 : (m.k == 0) = true := by simpa using h0
      rw [if_pos h0] at HT HF
      by_cases h3 : (m.e.length : Int) ≤ 2000
      · by_cases h4 : (m.d.length : Int) ≤ 8
        · have g4 : decide ((m.d.length : Int) ≤ 8) = true := decide_eq_true h4
          have HN := HT.out ⟨h1, by simp, by omega, by omega⟩
          clear h0
          go_wp2
          go_ret
          exact ⟨by first | (rw [HN]; rfl) | rfl, B⟩
        · have g4 : decide ((m.d.length : Int) ≤ 8) = false := decide_eq_false h4
          have HN := HF.out (by omega)
          clear h0
          go_wp2
          go_ret
          exact ⟨by first | (rw [HN]; rfl) | rfl, B⟩
      · have g3 : decide ((m.e.length : Int) ≤ 2000) = false := decide_eq_false h3
        have HN := HF.out (by omega)
        clear h0
        go_wp2
        go_ret
        exact ⟨by first | (rw [HN]; rfl) | rfl, B⟩
    · have g0 : (m.k == 0) = false := by simpa using h0
      rw [if_neg h0] at HT HF
      by_cases h3 : m.e.length = 0
      · have g3 : ((m.e.length : Int) == 0) = true := by simp [h3]
        by_cases h4 : m.d.length = 0
        · have g4 : ((m.d.length : Int) == 0) = true := by simp [h4]
          have HN := HT.out ⟨h1, by simp, by omega, by omega⟩
          clear h0 h3 h4
          go_wp2
          go_ret
          exact ⟨by first | (rw [HN]; rfl) | rfl, B⟩
        · have HN := HF.out (fun g => h4 g.2.2.2)
          have g4 : ((m.d.length : Int) == 0) = false := by
            cases e : ((m.d.length : Int) == 0) with
            | false => rfl
            | true => have := eq_of_beq e; omega
          clear h0 h3 h4
          go_wp2
          go_ret
          exact ⟨by first | (rw [HN]; rfl) | rfl, B⟩
      · have HN := HF.out (fun g => h3 g.2.2.1)
        have g3 : ((m.e.length : Int) == 0) = false := by
          cases e : ((m.e.length : Int) == 0) with
          | false => rfl
          | true => have := eq_of_beq e; omega
        clear h0 h3
        go_wp2
        go_ret
        exact ⟨by first | (rw [HN]; rfl) | rfl, B⟩
end Go.Proofs.Ytgfjbaigmkdbcaa
