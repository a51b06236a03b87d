/-
  What is proved here: the contract of the program's isIn; contracts of the program's isIn, isVersion, isKind, keyOk, compareKey, and of cmp.Compare at int; the contract of the specification's l8ahead; what a bundle is as a plain fact; what the program's partOk, comparePart, needOk answer, and the library's cmp.Or over ints; how memory is kept while another part of it is written, and rows of their own; no program is spoken of; an int that fits is not wrapped; no program is spoken of.
-/
import Derived.Test.YtofflhhlacdgfaaDoorJP1
import Derived.Test.YtofflhhlacdgfaaDoorBg
import Derived.Test.YtofflhhlacdgfaaDoorJP15
import Derived.Test.YtofflhhlacdgfaaDoorJP14
import Derived.Deep.RegionHeld3
import Derived.BigRegion
namespace Go.Proofs.YtofflhhlacdgfaaDoor
open Go.RowKit
set_option maxRecDepth 100000
set_option maxHeartbeats 1000000

theorem implIsIn (n a b : Int) (w : World) : Calls Tryd.prog 101 #[.int .i64 n, .int .i64 a, .int .i64 b] w fun e w' => e = .returned (.bool (decide (a ≤ n ∧ n ≤ b))) ∧ w' = w := by
  by_cases h1 : a ≤ n
  · by_cases h2 : n ≤ b
    · have e : decide (a ≤ n ∧ n ≤ b) = true := by simp [h1, h2]
      rw [e]
      go_enter Tryd.func101, Tryd.ntmps101
      go_wp2
      go_ret
      exact ⟨rfl, rfl⟩
    · have e : decide (a ≤ n ∧ n ≤ b) = false := by simp [h2]
      rw [e]
      go_enter Tryd.func101, Tryd.ntmps101
      go_wp2
      go_ret
      exact ⟨rfl, rfl⟩
  · have e : decide (a ≤ n ∧ n ≤ b) = false := by simp [h1]
    rw [e]
    go_enter Tryd.func101, Tryd.ntmps101
    go_wp2
    go_ret
    exact ⟨rfl, rfl⟩
end Go.Proofs.YtofflhhlacdgfaaDoor
namespace Go.Proofs.YtofflhhlacdgfaaDoor
open Go.RowKit
set_option maxRecDepth 100000
set_option maxHeartbeats 1000000

theorem implIsVersion (n : Int) (w : World) : Calls Tryd.prog 54 #[.int .i64 n] w fun e w' => e = .returned (.bool (decide (verOk n))) ∧ w' = w := by
  obtain ⟨R, hR⟩ : ∃ R, decide (verOk n) = R := ⟨_, rfl⟩
  rw [hR]
  have HR : Hid _ := hR
  clear hR
  go_enter Tryd.func54, Tryd.ntmps54
  go_wp2_with fail
  refine (implIsIn n 0 1000 _).mono ?_
  rintro e w1 ⟨rfl, hw⟩
  rw [hw]
  rw [show decide (0 ≤ n ∧ n ≤ 1000) = R from HR.out]
  go_wp2
  go_ret
  exact ⟨rfl, rfl⟩
theorem implIsKind (n : Int) (w : World) : Calls Tryd.prog 102 #[.int .i64 n] w fun e w' => e = .returned (.bool (decide (0 ≤ n ∧ n < 4))) ∧ w' = w := by
  obtain ⟨R, hR⟩ : ∃ R, decide (0 ≤ n ∧ n < 4) = R := ⟨_, rfl⟩
  rw [hR]
  have HR : Hid _ := hR
  clear hR
  go_enter Tryd.func102, Tryd.ntmps102
  go_wp2_with fail
  refine (implIsIn n 0 3 _).mono ?_
  rintro e w1 ⟨rfl, hw⟩
  rw [hw]
  rw [show decide (0 ≤ n ∧ n ≤ 3) = R from by rw [← HR.out]; apply decide_eq_decide.2; omega]
  go_wp2
  go_ret
  exact ⟨rfl, rfl⟩
def cmpI (a b : Int) : Int := if a < b then -1 else if b < a then 1 else 0
theorem cmpI_neg (a b : Int) : cmpI a b < 0 ↔ a < b := by unfold cmpI; split <;> (try split) <;> omega
theorem cmpI_zero (a b : Int) : cmpI a b = 0 ↔ a = b := by unfold cmpI; split <;> (try split) <;> omega
theorem cmpI_int (a b : Int) : -1 ≤ cmpI a b ∧ cmpI a b ≤ 1 := by unfold cmpI; split <;> (try split) <;> omega
theorem libCompare (a b : Int) (w : World) : Calls Tryd.prog 103 #[.int .i64 a, .int .i64 b] w fun e w' => e = .returned (.int .i64 (cmpI a b)) ∧ w' = w := by
  have ha : (a != a) = false := by simp
  have hb : (b != b) = false := by simp
  by_cases h1 : a < b
  · have e1 : cmpI a b = -1 := by unfold cmpI; simp [h1]
    rw [e1]
    clear e1
    go_enter Tryd.func103, Tryd.ntmps103
    go_wp2
    go_ret
    exact ⟨rfl, rfl⟩
  · by_cases h2 : b < a
    · have e1 : cmpI a b = 1 := by unfold cmpI; simp [h1, h2]
      rw [e1]
      clear e1
      go_enter Tryd.func103, Tryd.ntmps103
      go_wp2
      go_ret
      exact ⟨rfl, rfl⟩
    · have e1 : cmpI a b = 0 := by unfold cmpI; simp [h1, h2]
      rw [e1]
      clear e1
      go_enter Tryd.func103, Tryd.ntmps103
      go_wp2
      go_ret
      exact ⟨rfl, rfl⟩
abbrev keyOk1 (i r : Int) (n : Nat) : Prop := (0 ≤ i ∧ i ≤ 255) ∧ (r = 1 ∨ r = 2) ∧ n = 32
theorem implKeyOk (i r : Int) (v : Bool) (a : Option Addr) (n c : Nat) (w : World) : Calls Tryd.prog 86 #[.agg #[.int .i64 i, .int .i64 r, .bool v, .slice a n c]] w fun e w' => e = .returned (.bool (decide (keyOk1 i r n))) ∧ Below w.heap.size w w' := by
  obtain ⟨R, hR, HT, HF⟩ := by_dec (keyOk1 i r n)
  rw [hR]
  clear hR
  have B : Below w.heap.size w (w.alloc (.cells #[.int .i64 i, .int .i64 r, .bool v, .slice a n c] 57)) := (Below.refl _ _).alloc (Nat.le_refl _) _
  obtain ⟨W, hW⟩ : ∃ W, W = w.alloc (.cells #[.int .i64 i, .int .i64 r, .bool v, .slice a n c] 57) := ⟨_, rfl⟩
  have A : Arr W w.heap.size 57 [.int .i64 i, .int .i64 r, .bool v, .slice a n c] := by rw [hW]; exact Arr.new _ _ _
  rw [← hW] at B
  have c0 := A.cell 0
  have c1 := A.cell 1
  have c3 := A.cell 3
  simp at c0 c1 c3
  clear A
  go_enter Tryd.func86, Tryd.ntmps86
  go_upto_region 1 with fail
  rw [← hW]
  clear hW
  go_wp2_with fail
  refine (implIsIn i 0 255 _).mono ?_
  rintro e w1 ⟨rfl, hw⟩
  rw [hw]
  clear hw
  by_cases h1 : 0 ≤ i ∧ i ≤ 255
  case neg =>
    rw [decide_eq_false h1]
    go_wp2
    go_ret
    exact ⟨by rw [HF.out (by omega)]; rfl, B⟩
  rw [decide_eq_true h1]
  by_cases h4 : (n : Int) = 32
  · have g4 : ((n : Int) == 32) = true := by simpa using h4
    have n4 : Hid (n = 32) := by unfold Hid; omega
    clear h4
    by_cases h2 : r = 1
    · have g2 : (r == 1) = true := by simpa using h2
      have HRT : Hid (R = true) := HT.out ⟨h1, .inl h2, n4.out⟩
      clear h2 h1
      go_wp2
      go_ret
      exact ⟨by rw [HRT.out]; rfl, B⟩
    · have g2 : (r == 1) = false := by simpa using h2
      by_cases h3 : r = 2
      · have g3 : (r == 2) = true := by simpa using h3
        have HRT : Hid (R = true) := HT.out ⟨h1, .inr h3, n4.out⟩
        clear h2 h3 h1
        go_wp2
        go_ret
        exact ⟨by rw [HRT.out]; rfl, B⟩
      · have g3 : (r == 2) = false := by simpa using h3
        have HRT : Hid (R = false) := HF.out (by omega)
        clear h2 h3 h1
        go_wp2
        go_ret
        exact ⟨by rw [HRT.out]; rfl, B⟩
  · have g4 : ((n : Int) == 32) = false := by simpa using h4
    have HRT : Hid (R = false) := HF.out (by omega)
    clear h4
    by_cases h2 : r = 1
    · have g2 : (r == 1) = true := by simpa using h2
      clear h2 h1
      go_wp2
      go_ret
      exact ⟨by rw [HRT.out]; rfl, B⟩
    · have g2 : (r == 1) = false := by simpa using h2
      by_cases h3 : r = 2
      · have g3 : (r == 2) = true := by simpa using h3
        clear h2 h3 h1
        go_wp2
        go_ret
        exact ⟨by rw [HRT.out]; rfl, B⟩
      · have g3 : (r == 2) = false := by simpa using h3
        clear h2 h3 h1
        go_wp2
        go_ret
        exact ⟨by rw [HRT.out]; rfl, B⟩
theorem implCompareKey (i r : Int) (v : Bool) (a : Option Addr) (n c : Nat) (i' r' : Int) (v' : Bool) (a' : Option Addr) (n' c' : Nat) (w : World) :
    Calls Tryd.prog 87 #[.agg #[.int .i64 i, .int .i64 r, .bool v, .slice a n c], .agg #[.int .i64 i', .int .i64 r', .bool v', .slice a' n' c']] w fun e w' => e = .returned (.int .i64 (cmpI i i')) ∧ Below w.heap.size w w' := by
  have B : Below w.heap.size w ((w.alloc (.cells #[.int .i64 i, .int .i64 r, .bool v, .slice a n c] 57)).alloc (.cells #[.int .i64 i', .int .i64 r', .bool v', .slice a' n' c'] 57)) := ((Below.refl _ _).alloc (Nat.le_refl _) _).alloc (by simp) _
  have HB : Hid _ := B
  clear B
  go_enter Tryd.func87, Tryd.ntmps87
  go_wp2_with fail
  refine (libCompare i i' _).mono ?_
  rintro e w1 ⟨rfl, hw⟩
  rw [hw]
  clear hw
  obtain ⟨z, hz⟩ : ∃ z, z = cmpI i i' := ⟨_, rfl⟩
  rw [← hz]
  have HZ : Hid _ := hz
  clear hz
  go_wp2
  go_ret
  exact ⟨by rw [← HZ.out]; rfl, HB.out⟩
end Go.Proofs.YtofflhhlacdgfaaDoor
namespace Go.Proofs.YtofflhhlacdgfaaDoor
open Go.RowKit
set_option maxRecDepth 100000
set_option maxHeartbeats 4000000

theorem spec8ahead (o f t k o' f' t' k' : Int) (w : World) : Calls Tryd.prog 53 #[.agg #[.int .i64 o, .int .i64 f, .int .i64 t, .int .i64 k], .agg #[.int .i64 o', .int .i64 f', .int .i64 t', .int .i64 k']] w fun e w' => e = .returned (.bool (decide (needLt o f t k o' f' t' k'))) ∧ Below w.heap.size w w' := by
  obtain ⟨R, hR, HT, HF⟩ := by_dec (needLt o f t k o' f' t' k')
  rw [hR]
  clear hR
  obtain ⟨W, hW⟩ : ∃ W, W = (w.alloc (.cells #[.int .i64 o, .int .i64 f, .int .i64 t, .int .i64 k] 41)).alloc (.cells #[.int .i64 o', .int .i64 f', .int .i64 t', .int .i64 k'] 41) := ⟨_, rfl⟩
  have B : Below w.heap.size w W := by rw [hW]; exact ((Below.refl _ _).alloc (Nat.le_refl _) _).alloc (by simp) _
  have A : Arr W w.heap.size 41 [.int .i64 o, .int .i64 f, .int .i64 t, .int .i64 k] := by rw [hW]; exact (Arr.new w [.int .i64 o, .int .i64 f, .int .i64 t, .int .i64 k] _).alloc _
  have A' : Arr W (w.heap.size + 1) 41 [.int .i64 o', .int .i64 f', .int .i64 t', .int .i64 k'] := by
    rw [hW]
    have := Arr.new (w.alloc (.cells #[.int .i64 o, .int .i64 f, .int .i64 t, .int .i64 k] 41)) [.int .i64 o', .int .i64 f', .int .i64 t', .int .i64 k'] 41
    rw [World.size_alloc] at this
    exact this
  have c0 := A.cell 0
  have c1 := A.cell 1
  have c2 := A.cell 2
  have c3 := A.cell 3
  have d0 := A'.cell 0
  have d1 := A'.cell 1
  have d2 := A'.cell 2
  have d3 := A'.cell 3
  simp at c0 c1 c2 c3 d0 d1 d2 d3
  clear A A'
  go_enter Tryd.func53, Tryd.ntmps53
  go_upto_region 1 with fail
  rw [← hW]
  clear hW
  by_cases h1 : o = o'
  case neg =>
    have h1' : (o != o') = true := by simpa using h1
    by_cases h : o < o'
    case pos => go_wp2; go_ret; exact ⟨by rw [HT.out (by omega)]; rfl, B⟩
    case neg => go_wp2; go_ret; exact ⟨by rw [HF.out (by omega)]; rfl, B⟩
  have h1' : (o != o') = false := by simpa using h1
  by_cases h2 : k = k'
  case neg =>
    have h2' : (k != k') = true := by simpa using h2
    by_cases h : k < k'
    case pos => go_wp2; go_ret; exact ⟨by rw [HT.out (by omega)]; rfl, B⟩
    case neg => go_wp2; go_ret; exact ⟨by rw [HF.out (by omega)]; rfl, B⟩
  have h2' : (k != k') = false := by simpa using h2
  by_cases h3 : f = f'
  case neg =>
    have h3' : (f != f') = true := by simpa using h3
    by_cases h : f < f'
    case pos => go_wp2; go_ret; exact ⟨by rw [HT.out (by omega)]; rfl, B⟩
    case neg => go_wp2; go_ret; exact ⟨by rw [HF.out (by omega)]; rfl, B⟩
  have h3' : (f != f') = false := by simpa using h3
  by_cases h : t < t'
  case pos => go_wp2; go_ret; exact ⟨by rw [HT.out (by omega)]; rfl, B⟩
  case neg => go_wp2; go_ret; exact ⟨by rw [HF.out (by omega)]; rfl, B⟩

abbrev pOkAt (ps : List PartM) (i : Nat) : Prop := partOk (ps.getD i pz).k (ps.getD i pz).v (ps.getD i pz).s (ps.getD i pz).h.length ∧ (0 < i → (ps.getD (i - 1) pz).k < (ps.getD i pz).k)
abbrev nOkAt (ns : List NeedM) (i : Nat) : Prop := needOk (ns.getD i nz).o (ns.getD i nz).f (ns.getD i nz).t (ns.getD i nz).k ∧ (0 < i → needLt (ns.getD (i - 1) nz).o (ns.getD (i - 1) nz).f (ns.getD (i - 1) nz).t (ns.getD (i - 1) nz).k (ns.getD i nz).o (ns.getD i nz).f (ns.getD i nz).t (ns.getD i nz).k)
/-- What a bundle is. -/
abbrev headOk (B : BunM) : Prop := (0 ≤ B.d ∧ B.d ≤ 1000) ∧ (1 ≤ B.n ∧ B.n ≤ 1000) ∧ verOk B.f ∧ (1 ≤ B.ps.length ∧ B.ps.length ≤ 4) ∧ B.ns.length ≤ 8
abbrev bunOk (B : BunM) : Prop := headOk B ∧ (∀ i, i < B.ps.length → pOkAt B.ps i) ∧ (∀ i, i < B.ns.length → nOkAt B.ns i)
def bOk (B : BunM) : Bool := decide (headOk B) && (decide (∀ i, i < B.ps.length → pOkAt B.ps i) && decide (∀ i, i < B.ns.length → nOkAt B.ns i))
theorem bOk_iff (B : BunM) : bOk B = true ↔ bunOk B := by
  unfold bOk
  rw [Bool.and_eq_true, Bool.and_eq_true, decide_eq_true_iff, decide_eq_true_iff, decide_eq_true_iff]
theorem bOk_dec (B : BunM) : ∃ R, bOk B = R ∧ Hid (bunOk B → R = true) ∧ Hid (¬ bunOk B → R = false) := ⟨_, rfl, (bOk_iff B).2, fun h => by
  cases e : bOk B with
  | false => rfl
  | true => exact absurd ((bOk_iff B).1 e) h⟩
end Go.Proofs.YtofflhhlacdgfaaDoor
namespace Go.Proofs.YtofflhhlacdgfaaDoor
open Go.RowKit
set_option maxRecDepth 100000
set_option maxHeartbeats 4000000

theorem implPartOk (k v s : Int) (a : Option Addr) (n c : Nat) (w : World) : Calls Tryd.prog 57 #[.agg #[.int .i64 k, .int .i64 v, .int .i64 s, .slice a n c]] w fun e w' => e = .returned (.bool (decide (partOk k v s n))) ∧ Below w.heap.size w w' := by
  obtain ⟨R, hR, HT, HF⟩ := by_dec (partOk k v s n)
  rw [hR]
  clear hR
  have B : Below w.heap.size w (w.alloc (.cells #[.int .i64 k, .int .i64 v, .int .i64 s, .slice a n c] 45)) := (Below.refl _ _).alloc (Nat.le_refl _) _
  obtain ⟨W, hW⟩ : ∃ W, W = w.alloc (.cells #[.int .i64 k, .int .i64 v, .int .i64 s, .slice a n c] 45) := ⟨_, rfl⟩
  have A : Arr W w.heap.size 45 [.int .i64 k, .int .i64 v, .int .i64 s, .slice a n c] := by rw [hW]; exact Arr.new _ _ _
  rw [← hW] at B
  have c0 := A.cell 0
  have c1 := A.cell 1
  have c2 := A.cell 2
  have c3 := A.cell 3
  simp at c0 c1 c2 c3
  clear A
  go_enter Tryd.func57, Tryd.ntmps57
  go_upto_region 1 with fail
  rw [← hW]
  clear hW
  go_wp2_with fail
  refine (implIsKind k _).mono ?_
  rintro e w1 ⟨rfl, hw⟩
  rw [hw]
  clear hw
  by_cases h1 : 0 ≤ k ∧ k < 4
  case neg =>
    rw [decide_eq_false h1]
    go_wp2
    go_ret
    exact ⟨by rw [HF.out (by omega)]; rfl, B⟩
  rw [decide_eq_true h1]
  go_wp2_with fail
  refine (implIsVersion v _).mono ?_
  rintro e w1 ⟨rfl, hw⟩
  rw [hw]
  clear hw
  by_cases h2 : verOk v
  case neg =>
    rw [decide_eq_false h2]
    go_wp2
    go_ret
    exact ⟨by rw [HF.out (by omega)]; rfl, B⟩
  rw [decide_eq_true h2]
  go_wp2_with fail
  refine (implIsIn s 1 192 _).mono ?_
  rintro e w1 ⟨rfl, hw⟩
  rw [hw]
  clear hw
  by_cases h3 : 1 ≤ s ∧ s ≤ 192
  case neg =>
    rw [decide_eq_false h3]
    go_wp2
    go_ret
    exact ⟨by rw [HF.out (by omega)]; rfl, B⟩
  rw [decide_eq_true h3]
  by_cases h4 : (n : Int) = 32
  · have g4 : ((n : Int) == 32) = true := by simpa using h4
    have HRT : Hid (R = true) := HT.out ⟨h1, h2, h3, by omega⟩
    clear h4 h1 h2 h3
    go_wp2
    go_ret
    exact ⟨by rw [HRT.out]; rfl, B⟩
  · have g4 : ((n : Int) == 32) = false := by simpa using h4
    have HRT : Hid (R = false) := HF.out (by omega)
    clear h4 h1 h2 h3
    go_wp2
    go_ret
    exact ⟨by rw [HRT.out]; rfl, B⟩
theorem implComparePart (k v s : Int) (a : Option Addr) (n c : Nat) (k' v' s' : Int) (a' : Option Addr) (n' c' : Nat) (w : World) :
    Calls Tryd.prog 58 #[.agg #[.int .i64 k, .int .i64 v, .int .i64 s, .slice a n c], .agg #[.int .i64 k', .int .i64 v', .int .i64 s', .slice a' n' c']] w fun e w' => e = .returned (.int .i64 (cmpI k k')) ∧ Below w.heap.size w w' := by
  have B : Below w.heap.size w ((w.alloc (.cells #[.int .i64 k, .int .i64 v, .int .i64 s, .slice a n c] 45)).alloc (.cells #[.int .i64 k', .int .i64 v', .int .i64 s', .slice a' n' c'] 45)) := ((Below.refl _ _).alloc (Nat.le_refl _) _).alloc (by simp) _
  have HB : Hid _ := B
  clear B
  go_enter Tryd.func58, Tryd.ntmps58
  go_wp2_with fail
  refine (libCompare k k' _).mono ?_
  rintro e w1 ⟨rfl, hw⟩
  rw [hw]
  clear hw
  obtain ⟨z, hz⟩ : ∃ z, z = cmpI k k' := ⟨_, rfl⟩
  rw [← hz]
  have HZ : Hid _ := hz
  clear hz
  go_wp2
  go_ret
  exact ⟨by rw [← HZ.out]; rfl, HB.out⟩
theorem implNeedOk (o f t k : Int) (w : World) : Calls Tryd.prog 60 #[.agg #[.int .i64 o, .int .i64 f, .int .i64 t, .int .i64 k]] w fun e w' => e = .returned (.bool (decide (needOk o f t k))) ∧ Below w.heap.size w w' := by
  obtain ⟨R, hR, HT, HF⟩ := by_dec (needOk o f t k)
  rw [hR]
  clear hR
  have B : Below w.heap.size w (w.alloc (.cells #[.int .i64 o, .int .i64 f, .int .i64 t, .int .i64 k] 41)) := (Below.refl _ _).alloc (Nat.le_refl _) _
  obtain ⟨W, hW⟩ : ∃ W, W = w.alloc (.cells #[.int .i64 o, .int .i64 f, .int .i64 t, .int .i64 k] 41) := ⟨_, rfl⟩
  have A : Arr W w.heap.size 41 [.int .i64 o, .int .i64 f, .int .i64 t, .int .i64 k] := by rw [hW]; exact Arr.new _ _ _
  rw [← hW] at B
  have c0 := A.cell 0
  have c1 := A.cell 1
  have c2 := A.cell 2
  have c3 := A.cell 3
  simp at c0 c1 c2 c3
  clear A
  go_enter Tryd.func60, Tryd.ntmps60
  go_upto_region 1 with fail
  rw [← hW]
  clear hW
  go_wp2_with fail
  refine (implIsKind o _).mono ?_
  rintro e w1 ⟨rfl, hw⟩
  rw [hw]
  clear hw
  by_cases h1 : 0 ≤ o ∧ o < 4
  case neg =>
    rw [decide_eq_false h1]
    go_wp2
    go_ret
    exact ⟨by rw [HF.out (by omega)]; rfl, B⟩
  rw [decide_eq_true h1]
  go_wp2_with fail
  refine (implIsKind k _).mono ?_
  rintro e w1 ⟨rfl, hw⟩
  rw [hw]
  clear hw
  by_cases h2 : 0 ≤ k ∧ k < 4
  case neg =>
    rw [decide_eq_false h2]
    go_wp2
    go_ret
    exact ⟨by rw [HF.out (by omega)]; rfl, B⟩
  rw [decide_eq_true h2]
  by_cases h3 : o = k
  case pos =>
    have g3 : (o != k) = false := by simpa using h3
    have HRT : Hid (R = false) := HF.out (by omega)
    clear h1 h2 h3
    go_wp2
    go_ret
    exact ⟨by rw [HRT.out]; rfl, B⟩
  have g3 : (o != k) = true := by simpa using h3
  have H3 : Hid _ := h3
  clear h3
  go_wp2_with fail
  refine (implIsVersion f _).mono ?_
  rintro e w1 ⟨rfl, hw⟩
  rw [hw]
  clear hw
  by_cases h4 : verOk f
  case neg =>
    rw [decide_eq_false h4]
    go_wp2
    go_ret
    exact ⟨by rw [HF.out (by omega)]; rfl, B⟩
  rw [decide_eq_true h4]
  go_wp2_with fail
  refine (implIsVersion t _).mono ?_
  rintro e w1 ⟨rfl, hw⟩
  rw [hw]
  clear hw
  by_cases h5 : verOk t
  case neg =>
    rw [decide_eq_false h5]
    go_wp2
    go_ret
    exact ⟨by rw [HF.out (by omega)]; rfl, B⟩
  rw [decide_eq_true h5]
  by_cases h6 : f ≤ t
  · have HRT : Hid (R = true) := HT.out ⟨h2, h1, H3.out, h4, h5, h6⟩
    go_wp2
    go_ret
    exact ⟨by rw [HRT.out]; rfl, B⟩
  · have HRT : Hid (R = false) := HF.out (by omega)
    have g6 : decide (f ≤ t) = false := decide_eq_false h6
    go_wp2
    go_ret
    exact ⟨by rw [HRT.out]; rfl, B⟩
/-- The first that is not zero. -/
def orL (xs : List Int) : Int := (xs.find? (fun x => x != 0)).getD 0
theorem orL_at : ∀ (xs : List Int) (i : Nat), i < xs.length → xs.getD i 0 ≠ 0 → (∀ j, j < i → xs.getD j 0 = 0) → orL xs = xs.getD i 0
  | [], i, h, _, _ => by simp at h
  | x :: t, 0, _, h, _ => by
    have : (x != 0) = true := by simpa using h
    simp [orL, List.find?, this]
  | x :: t, i + 1, h, hx, hj => by
    have h0 : x = 0 := by simpa using hj 0 (by omega)
    have := orL_at t i (by simpa using h) (by simpa using hx) (fun j h => by simpa using hj (j + 1) (by omega))
    subst h0
    simpa [orL, List.find?] using this
theorem orL_no (xs : List Int) (h : ∀ j, j < xs.length → xs.getD j 0 = 0) : orL xs = 0 := by
  have : xs.find? (fun x => x != 0) = none := by
    rw [List.find?_eq_none]
    intro x hx
    obtain ⟨i, hi, rfl⟩ := List.getElem_of_mem hx
    have := h i hi
    simp [hi] at this
    simp [this]
  simp [orL, this]
theorem libOr (a : Option Addr) (n c : Nat) (xs : List Int) (w : World) (h : Is w a n c xs) (hn : n ≤ 1000) : Calls Tryd.prog 104 #[.slice a n c] w fun e w' => e = .returned (.int .i64 (orL xs)) ∧ w' = w := by
  have hl := h.2.1
  obtain ⟨R, hR⟩ : ∃ R, R = orL xs := ⟨_, rfl⟩
  rw [← hR]
  have HR : Hid _ := hR
  clear hR
  go_enter Tryd.func104, Tryd.ntmps104
  go_wp2
  go_loop [8] (fun i => ∃ k : Nat, k ≤ n ∧ i = .int .i64 k ∧ Hid (∀ j, j < k → xs.getD j 0 = 0)) (fun i => n - (intOf i).toNat)
  case atStart => exact ⟨0, by omega, rfl, fun j hj => by omega⟩
  case round =>
    obtain ⟨k, hk, rfl, HN⟩ := hrel
    by_cases hlt : k < n
    · obtain ⟨b, o, rfl, hb, hcell⟩ : ∃ b o, a = some ⟨b, o, none⟩ ∧ b < w.heap.size ∧ ∀ i, i < n → w.cell? ⟨b, o + i, none⟩ = some (.int .i64 (xs.getD i 0)) := by
        rcases h.2.2.2.2 with h | h
        · omega
        · exact h
      have hc := hcell k hlt
      obtain ⟨x, hx⟩ : ∃ x, x = xs.getD k 0 := ⟨_, rfl⟩
      rw [← hx] at hc
      have HX : Hid _ := hx
      clear hx hcell
      by_cases hz : x = 0
      · have g : (x != 0) = false := by simpa using hz
        have HZ : Hid _ := hz
        clear hz
        go_wp2
        go_round
        case rel =>
          refine ⟨k + 1, by omega, by go_num, fun j hj => ?_⟩
          by_cases e : j = k
          · subst e; rw [← HX.out]; exact HZ.out
          · exact HN.out j (by omega)
        case measure => simp [intOf]; omega
      · have g : (x != 0) = true := by simpa using hz
        have HRX : Hid (R = x) := by
          unfold Hid
          rw [HR.out, HX.out]
          exact orL_at xs k (by omega) (by rw [← HX.out]; exact hz) HN.out
        clear hz
        go_wp2
        go_ret
        exact ⟨by rw [HRX.out]; rfl, rfl⟩
    · have hkn : k = n := by omega
      subst hkn
      have HRX : Hid (R = 0) := by
        unfold Hid
        rw [HR.out]
        exact orL_no xs (fun j hj => HN.out j (by omega))
      go_wp2
      go_ret
      exact ⟨by rw [HRX.out]; rfl, rfl⟩
end Go.Proofs.YtofflhhlacdgfaaDoor
namespace Go.Proofs.YtofflhhlacdgfaaDoor
set_option maxRecDepth 100000
open Go.RowKit

/-- Nothing old has turned but what lies in an interval of blocks. -/
structure Chg (W W' : World) (a b : Nat) : Prop where
  os : W'.os = W.os
  tape : W'.tape = W.tape
  output : W'.output = W.output
  size : W.heap.size ≤ W'.heap.size
  block : ∀ i, i < W.heap.size → (i < a ∨ b ≤ i) → W'.heap[i]? = W.heap[i]?

theorem Chg.of_below {W W' : World} (h : Below W.heap.size W W') (a : Nat) : Chg W W' a a := ⟨h.os, h.tape, h.output, h.size, fun i hi _ => h.block i hi⟩
theorem Chg.of_gr2 {W W' : World} {u v : Value} {a b : Nat} (h : Gr2 W W' u.ownBlock v.ownBlock) (i1 : In u a b) (i2 : In v a b) : Chg W W' a b :=
  ⟨h.os, h.tape, h.output, h.size, fun i hi hj => h.block i hi (fun e => by have := i1 i e.symm; omega) (fun e => by have := i2 i e.symm; omega)⟩
theorem Chg.of_grown {W W' : World} {u : Value} {a b : Nat} (h : W.grownBy W' u.ownBlock) (i1 : In u a b) : Chg W W' a b :=
  ⟨h.os, h.tape, h.output, h.size, fun i hi hj => h.block i hi (fun e => by have := i1 i e.symm; omega)⟩
theorem Chg.alloc (W : World) (o : Obj) (a : Nat) : Chg W (W.alloc o) a a := .of_below ((Below.refl _ _).alloc (Nat.le_refl _) _) a
theorem Chg.bel {w W W' : World} {a b : Nat} (h : Chg W W' a b) (hb : Below w.heap.size w W) (hl : b ≤ a ∨ w.heap.size ≤ a) : Below w.heap.size w W' :=
  ⟨h.os.trans hb.os, h.tape.trans hb.tape, h.output.trans hb.output, Nat.le_trans hb.size h.size, fun i hi => (h.block i (Nat.lt_of_lt_of_le hi hb.size) (by omega)).trans (hb.block i hi)⟩
theorem Arr.chg {W W' : World} {a b g : Nat} {t : TypeId} {cs : List Value} (h : Arr W g t cs) (hc : Chg W W' a b) (hl : g < a ∨ b ≤ g) : Arr W' g t cs := by
  unfold Arr
  rw [hc.block g h.lt hl]
  exact h
theorem own_chg {W W' : World} {lo hi a b e s n : Nat} {v : Value} {l : List Value} (h : W.ownsRow lo e s v n l) (i : In v lo hi) (hc : Chg W W' a b) (hl : hi ≤ a ∨ b ≤ lo) : W'.ownsRow lo e s v n l := by
  refine ⟨h.1, ?_⟩
  rcases h.2 with hn | ⟨g, cap, cur, rfl, hg, hgg, rest⟩
  · exact .inl hn
  · refine .inr ⟨g, cap, cur, rfl, hg, ?_, rest⟩
    have := i g rfl
    rw [hc.block g (Array.getElem?_eq_some_iff.1 hgg).1 (by omega)]
    exact hgg

/-- A row within [lo, hi). -/
structure Ro (W : World) (lo hi e : Nat) (v : Value) (n : Nat) (l : List Value) : Prop where
  o : W.ownsRow lo e 1 v n l
  i : In v lo hi
  z : hi ≤ W.heap.size
section
variable {W W' : World} {lo hi e n : Nat} {v : Value} {l : List Value}
theorem Ro.new (o : W.ownsRow lo e 1 v n l) : Ro W lo W.heap.size e v n l := ⟨o, In.of o, Nat.le_refl _⟩
theorem Ro.chg (h : Ro W lo hi e v n l) {a b : Nat} (hc : Chg W W' a b) (hl : hi ≤ a ∨ b ≤ lo ∨ b ≤ a) : Ro W' lo hi e v n l := by
  by_cases hab : b ≤ a
  · have hc' : Chg W W' hi hi := ⟨hc.os, hc.tape, hc.output, hc.size, fun i hi _ => hc.block i hi (by omega)⟩
    exact ⟨own_chg h.o h.i hc' (by omega), h.i, Nat.le_trans h.z hc.size⟩
  · exact ⟨own_chg h.o h.i hc (by omega), h.i, Nat.le_trans h.z hc.size⟩
theorem Ro.marked (h : Ro W lo hi e v n l) {l' : List Value} (hg : W.grownBy W' v.ownBlock) (o : W'.ownsRow lo e 1 v n l') : Ro W' lo hi e v n l' := ⟨o, h.i, Nat.le_trans h.z hg.size⟩
theorem Ro.gr (h : Ro W lo hi e v n l) (hg : W.grownBy W' v.ownBlock) : Chg W W' lo hi := .of_grown hg h.i
end
end Go.Proofs.YtofflhhlacdgfaaDoor
namespace Go.Proofs.YtofflhhlacdgfaaDoor
open Go.RowKit

theorem wr64 {x : Int} (h : -9223372036854775808 ≤ x) (h1 : x ≤ 9223372036854775807) : IntKind.i64.wrap x = x := by simp [IntKind.wrap, IntKind.signed, IntKind.bits]; omega
end Go.Proofs.YtofflhhlacdgfaaDoor
