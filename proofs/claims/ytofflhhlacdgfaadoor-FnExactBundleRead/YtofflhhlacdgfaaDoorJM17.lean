/-
  What is proved here: the contract of the specification's l8ahead; what a bundle is as a plain fact; what the program's partOk, comparePart, needOk answer, and the library's cmp.Or over ints; what the laws' toPart, eqPart, szPart answer; what PartOf of both sides answers.
-/
import Derived.Test.YtofflhhlacdgfaaDoorJM2
import Derived.Test.YtofflhhlacdgfaaDoorJM16
import Derived.Test.YtofflhhlacdgfaaDoorJM5
namespace Go.Proofs.YtofflhhlacdgfaaDoor
open Go.RowKit
set_option maxRecDepth 100000
set_option maxHeartbeats 4000000

theorem spec8ahead (o f t k o' f' t' k' : Int) (w : World) : Calls Tryd.prog 53 #[.agg #[.int .i64 o, .int .i64 f, .int .i64 t, .int .i64 k], .agg #[.int .i64 o', .int .i64 f', .int .i64 t', .int .i64 k']] w fun e w' => e = .returned (.bool (decide (needLt o f t k o' f' t' k'))) ∧ Below w.heap.size w w' := by
  obtain ⟨R, hR, HT, HF⟩ := by_dec (needLt o f t k o' f' t' k')
  rw [hR]
  clear hR
  obtain ⟨W, hW⟩ : ∃ W, W = (w.alloc (.cells #[.int .i64 o, .int .i64 f, .int .i64 t, .int .i64 k] 41)).alloc (.cells #[.int .i64 o', .int .i64 f', .int .i64 t', .int .i64 k'] 41) := ⟨_, rfl⟩
  have B : Below w.heap.size w W := by rw [hW]; exact ((Below.refl _ _).alloc (Nat.le_refl _) _).alloc (by simp) _
  have A : Arr W w.heap.size 41 [.int .i64 o, .int .i64 f, .int .i64 t, .int .i64 k] := by rw [hW]; exact (Arr.new w [.int .i64 o, .int .i64 f, .int .i64 t, .int .i64 k] _).alloc _
  have A' : Arr W (w.heap.size + 1) 41 [.int .i64 o', .int .i64 f', .int .i64 t', .int .i64 k'] := by
    rw [hW]
    have := Arr.new (w.alloc (.cells #[.int .i64 o, .int .i64 f, .int .i64 t, .int .i64 k] 41)) [.int .i64 o', .int .i64 f', .int .i64 t', .int .i64 k'] 41
    rw [World.size_alloc] at this
    exact this
  have c0 := A.cell 0
  have c1 := A.cell 1
  have c2 := A.cell 2
  have c3 := A.cell 3
  have d0 := A'.cell 0
  have d1 := A'.cell 1
  have d2 := A'.cell 2
  have d3 := A'.cell 3
  simp at c0 c1 c2 c3 d0 d1 d2 d3
  clear A A'
  go_enter Tryd.func53, Tryd.ntmps53
  go_upto_region 1 with fail
  rw [← hW]
  clear hW
  by_cases h1 : o = o'
  case neg =>
    have h1' : (o != o') = true := by simpa using h1
    by_cases h : o < o'
    case pos => go_wp2; go_ret; exact ⟨by rw [HT.out (by omega)]; rfl, B⟩
    case neg => go_wp2; go_ret; exact ⟨by rw [HF.out (by omega)]; rfl, B⟩
  have h1' : (o != o') = false := by simpa using h1
  by_cases h2 : k = k'
  case neg =>
    have h2' : (k != k') = true := by simpa using h2
    by_cases h : k < k'
    case pos => go_wp2; go_ret; exact ⟨by rw [HT.out (by omega)]; rfl, B⟩
    case neg => go_wp2; go_ret; exact ⟨by rw [HF.out (by omega)]; rfl, B⟩
  have h2' : (k != k') = false := by simpa using h2
  by_cases h3 : f = f'
  case neg =>
    have h3' : (f != f') = true := by simpa using h3
    by_cases h : f < f'
    case pos => go_wp2; go_ret; exact ⟨by rw [HT.out (by omega)]; rfl, B⟩
    case neg => go_wp2; go_ret; exact ⟨by rw [HF.out (by omega)]; rfl, B⟩
  have h3' : (f != f') = false := by simpa using h3
  by_cases h : t < t'
  case pos => go_wp2; go_ret; exact ⟨by rw [HT.out (by omega)]; rfl, B⟩
  case neg => go_wp2; go_ret; exact ⟨by rw [HF.out (by omega)]; rfl, B⟩

abbrev pOkAt (ps : List PartM) (i : Nat) : Prop := partOk (ps.getD i pz).k (ps.getD i pz).v (ps.getD i pz).s (ps.getD i pz).h.length ∧ (0 < i → (ps.getD (i - 1) pz).k < (ps.getD i pz).k)
abbrev nOkAt (ns : List NeedM) (i : Nat) : Prop := needOk (ns.getD i nz).o (ns.getD i nz).f (ns.getD i nz).t (ns.getD i nz).k ∧ (0 < i → needLt (ns.getD (i - 1) nz).o (ns.getD (i - 1) nz).f (ns.getD (i - 1) nz).t (ns.getD (i - 1) nz).k (ns.getD i nz).o (ns.getD i nz).f (ns.getD i nz).t (ns.getD i nz).k)
/-- What a bundle is. -/
abbrev headOk (B : BunM) : Prop := (0 ≤ B.d ∧ B.d ≤ 1000) ∧ (1 ≤ B.n ∧ B.n ≤ 1000) ∧ verOk B.f ∧ (1 ≤ B.ps.length ∧ B.ps.length ≤ 4) ∧ B.ns.length ≤ 8
abbrev bunOk (B : BunM) : Prop := headOk B ∧ (∀ i, i < B.ps.length → pOkAt B.ps i) ∧ (∀ i, i < B.ns.length → nOkAt B.ns i)
def bOk (B : BunM) : Bool := decide (headOk B) && (decide (∀ i, i < B.ps.length → pOkAt B.ps i) && decide (∀ i, i < B.ns.length → nOkAt B.ns i))
theorem bOk_iff (B : BunM) : bOk B = true ↔ bunOk B := by
  unfold bOk
  rw [Bool.and_eq_true, Bool.and_eq_true, decide_eq_true_iff, decide_eq_true_iff, decide_eq_true_iff]
theorem bOk_dec (B : BunM) : ∃ R, bOk B = R ∧ Hid (bunOk B → R = true) ∧ Hid (¬ bunOk B → R = false) := ⟨_, rfl, (bOk_iff B).2, fun h => by
  cases e : bOk B with
  | false => rfl
  | true => exact absurd ((bOk_iff B).1 e) h⟩
end Go.Proofs.YtofflhhlacdgfaaDoor
namespace Go.Proofs.YtofflhhlacdgfaaDoor
open Go.RowKit
set_option maxRecDepth 100000
set_option maxHeartbeats 4000000

theorem implPartOk (k v s : Int) (a : Option Addr) (n c : Nat) (w : World) : Calls Tryd.prog 57 #[.agg #[.int .i64 k, .int .i64 v, .int .i64 s, .slice a n c]] w fun e w' => e = .returned (.bool (decide (partOk k v s n))) ∧ Below w.heap.size w w' := by
  obtain ⟨R, hR, HT, HF⟩ := by_dec (partOk k v s n)
  rw [hR]
  clear hR
  have B : Below w.heap.size w (w.alloc (.cells #[.int .i64 k, .int .i64 v, .int .i64 s, .slice a n c] 45)) := (Below.refl _ _).alloc (Nat.le_refl _) _
  obtain ⟨W, hW⟩ : ∃ W, W = w.alloc (.cells #[.int .i64 k, .int .i64 v, .int .i64 s, .slice a n c] 45) := ⟨_, rfl⟩
  have A : Arr W w.heap.size 45 [.int .i64 k, .int .i64 v, .int .i64 s, .slice a n c] := by rw [hW]; exact Arr.new _ _ _
  rw [← hW] at B
  have c0 := A.cell 0
  have c1 := A.cell 1
  have c2 := A.cell 2
  have c3 := A.cell 3
  simp at c0 c1 c2 c3
  clear A
  go_enter Tryd.func57, Tryd.ntmps57
  go_upto_region 1 with fail
  rw [← hW]
  clear hW
  go_wp2_with fail
  refine (implIsKind k _).mono ?_
  rintro e w1 ⟨rfl, hw⟩
  rw [hw]
  clear hw
  by_cases h1 : 0 ≤ k ∧ k < 4
  case neg =>
    rw [decide_eq_false h1]
    go_wp2
    go_ret
    exact ⟨by rw [HF.out (by omega)]; rfl, B⟩
  rw [decide_eq_true h1]
  go_wp2_with fail
  refine (implIsVersion v _).mono ?_
  rintro e w1 ⟨rfl, hw⟩
  rw [hw]
  clear hw
  by_cases h2 : verOk v
  case neg =>
    rw [decide_eq_false h2]
    go_wp2
    go_ret
    exact ⟨by rw [HF.out (by omega)]; rfl, B⟩
  rw [decide_eq_true h2]
  go_wp2_with fail
  refine (implIsIn s 1 192 _).mono ?_
  rintro e w1 ⟨rfl, hw⟩
  rw [hw]
  clear hw
  by_cases h3 : 1 ≤ s ∧ s ≤ 192
  case neg =>
    rw [decide_eq_false h3]
    go_wp2
    go_ret
    exact ⟨by rw [HF.out (by omega)]; rfl, B⟩
  rw [decide_eq_true h3]
  by_cases h4 : (n : Int) = 32
  · have g4 : ((n : Int) == 32) = true := by simpa using h4
    have HRT : Hid (R = true) := HT.out ⟨h1, h2, h3, by omega⟩
    clear h4 h1 h2 h3
    go_wp2
    go_ret
    exact ⟨by rw [HRT.out]; rfl, B⟩
  · have g4 : ((n : Int) == 32) = false := by simpa using h4
    have HRT : Hid (R = false) := HF.out (by omega)
    clear h4 h1 h2 h3
    go_wp2
    go_ret
    exact ⟨by rw [HRT.out]; rfl, B⟩
theorem implComparePart (k v s : Int) (a : Option Addr) (n c : Nat) (k' v' s' : Int) (a' : Option Addr) (n' c' : Nat) (w : World) :
    Calls Tryd.prog 58 #[.agg #[.int .i64 k, .int .i64 v, .int .i64 s, .slice a n c], .agg #[.int .i64 k', .int .i64 v', .int .i64 s', .slice a' n' c']] w fun e w' => e = .returned (.int .i64 (cmpI k k')) ∧ Below w.heap.size w w' := by
  have B : Below w.heap.size w ((w.alloc (.cells #[.int .i64 k, .int .i64 v, .int .i64 s, .slice a n c] 45)).alloc (.cells #[.int .i64 k', .int .i64 v', .int .i64 s', .slice a' n' c'] 45)) := ((Below.refl _ _).alloc (Nat.le_refl _) _).alloc (by simp) _
  have HB : Hid _ := B
  clear B
  go_enter Tryd.func58, Tryd.ntmps58
  go_wp2_with fail
  refine (libCompare k k' _).mono ?_
  rintro e w1 ⟨rfl, hw⟩
  rw [hw]
  clear hw
  obtain ⟨z, hz⟩ : ∃ z, z = cmpI k k' := ⟨_, rfl⟩
  rw [← hz]
  have HZ : Hid _ := hz
  clear hz
  go_wp2
  go_ret
  exact ⟨by rw [← HZ.out]; rfl, HB.out⟩
theorem implNeedOk (o f t k : Int) (w : World) : Calls Tryd.prog 60 #[.agg #[.int .i64 o, .int .i64 f, .int .i64 t, .int .i64 k]] w fun e w' => e = .returned (.bool (decide (needOk o f t k))) ∧ Below w.heap.size w w' := by
  obtain ⟨R, hR, HT, HF⟩ := by_dec (needOk o f t k)
  rw [hR]
  clear hR
  have B : Below w.heap.size w (w.alloc (.cells #[.int .i64 o, .int .i64 f, .int .i64 t, .int .i64 k] 41)) := (Below.refl _ _).alloc (Nat.le_refl _) _
  obtain ⟨W, hW⟩ : ∃ W, W = w.alloc (.cells #[.int .i64 o, .int .i64 f, .int .i64 t, .int .i64 k] 41) := ⟨_, rfl⟩
  have A : Arr W w.heap.size 41 [.int .i64 o, .int .i64 f, .int .i64 t, .int .i64 k] := by rw [hW]; exact Arr.new _ _ _
  rw [← hW] at B
  have c0 := A.cell 0
  have c1 := A.cell 1
  have c2 := A.cell 2
  have c3 := A.cell 3
  simp at c0 c1 c2 c3
  clear A
  go_enter Tryd.func60, Tryd.ntmps60
  go_upto_region 1 with fail
  rw [← hW]
  clear hW
  go_wp2_with fail
  refine (implIsKind o _).mono ?_
  rintro e w1 ⟨rfl, hw⟩
  rw [hw]
  clear hw
  by_cases h1 : 0 ≤ o ∧ o < 4
  case neg =>
    rw [decide_eq_false h1]
    go_wp2
    go_ret
    exact ⟨by rw [HF.out (by omega)]; rfl, B⟩
  rw [decide_eq_true h1]
  go_wp2_with fail
  refine (implIsKind k _).mono ?_
  rintro e w1 ⟨rfl, hw⟩
  rw [hw]
  clear hw
  by_cases h2 : 0 ≤ k ∧ k < 4
  case neg =>
    rw [decide_eq_false h2]
    go_wp2
    go_ret
    exact ⟨by rw [HF.out (by omega)]; rfl, B⟩
  rw [decide_eq_true h2]
  by_cases h3 : o = k
  case pos =>
    have g3 : (o != k) = false := by simpa using h3
    have HRT : Hid (R = false) := HF.out (by omega)
    clear h1 h2 h3
    go_wp2
    go_ret
    exact ⟨by rw [HRT.out]; rfl, B⟩
  have g3 : (o != k) = true := by simpa using h3
  have H3 : Hid _ := h3
  clear h3
  go_wp2_with fail
  refine (implIsVersion f _).mono ?_
  rintro e w1 ⟨rfl, hw⟩
  rw [hw]
  clear hw
  by_cases h4 : verOk f
  case neg =>
    rw [decide_eq_false h4]
    go_wp2
    go_ret
    exact ⟨by rw [HF.out (by omega)]; rfl, B⟩
  rw [decide_eq_true h4]
  go_wp2_with fail
  refine (implIsVersion t _).mono ?_
  rintro e w1 ⟨rfl, hw⟩
  rw [hw]
  clear hw
  by_cases h5 : verOk t
  case neg =>
    rw [decide_eq_false h5]
    go_wp2
    go_ret
    exact ⟨by rw [HF.out (by omega)]; rfl, B⟩
  rw [decide_eq_true h5]
  by_cases h6 : f ≤ t
  · have HRT : Hid (R = true) := HT.out ⟨h2, h1, H3.out, h4, h5, h6⟩
    go_wp2
    go_ret
    exact ⟨by rw [HRT.out]; rfl, B⟩
  · have HRT : Hid (R = false) := HF.out (by omega)
    have g6 : decide (f ≤ t) = false := decide_eq_false h6
    go_wp2
    go_ret
    exact ⟨by rw [HRT.out]; rfl, B⟩
/-- The first that is not zero. -/
def orL (xs : List Int) : Int := (xs.find? (fun x => x != 0)).getD 0
theorem orL_at : ∀ (xs : List Int) (i : Nat), i < xs.length → xs.getD i 0 ≠ 0 → (∀ j, j < i → xs.getD j 0 = 0) → orL xs = xs.getD i 0
  | [], i, h, _, _ => by simp at h
  | x :: t, 0, _, h, _ => by
    have : (x != 0) = true := by simpa using h
    simp [orL, List.find?, this]
  | x :: t, i + 1, h, hx, hj => by
    have h0 : x = 0 := by simpa using hj 0 (by omega)
    have := orL_at t i (by simpa using h) (by simpa using hx) (fun j h => by simpa using hj (j + 1) (by omega))
    subst h0
    simpa [orL, List.find?] using this
theorem orL_no (xs : List Int) (h : ∀ j, j < xs.length → xs.getD j 0 = 0) : orL xs = 0 := by
  have : xs.find? (fun x => x != 0) = none := by
    rw [List.find?_eq_none]
    intro x hx
    obtain ⟨i, hi, rfl⟩ := List.getElem_of_mem hx
    have := h i hi
    simp [hi] at this
    simp [this]
  simp [orL, this]
theorem libOr (a : Option Addr) (n c : Nat) (xs : List Int) (w : World) (h : Is w a n c xs) (hn : n ≤ 1000) : Calls Tryd.prog 104 #[.slice a n c] w fun e w' => e = .returned (.int .i64 (orL xs)) ∧ w' = w := by
  have hl := h.2.1
  obtain ⟨R, hR⟩ : ∃ R, R = orL xs := ⟨_, rfl⟩
  rw [← hR]
  have HR : Hid _ := hR
  clear hR
  go_enter Tryd.func104, Tryd.ntmps104
  go_wp2
  go_loop [8] (fun i => ∃ k : Nat, k ≤ n ∧ i = .int .i64 k ∧ Hid (∀ j, j < k → xs.getD j 0 = 0)) (fun i => n - (intOf i).toNat)
  case atStart => exact ⟨0, by omega, rfl, fun j hj => by omega⟩
  case round =>
    obtain ⟨k, hk, rfl, HN⟩ := hrel
    by_cases hlt : k < n
    · obtain ⟨b, o, rfl, hb, hcell⟩ : ∃ b o, a = some ⟨b, o, none⟩ ∧ b < w.heap.size ∧ ∀ i, i < n → w.cell? ⟨b, o + i, none⟩ = some (.int .i64 (xs.getD i 0)) := by
        rcases h.2.2.2.2 with h | h
        · omega
        · exact h
      have hc := hcell k hlt
      obtain ⟨x, hx⟩ : ∃ x, x = xs.getD k 0 := ⟨_, rfl⟩
      rw [← hx] at hc
      have HX : Hid _ := hx
      clear hx hcell
      by_cases hz : x = 0
      · have g : (x != 0) = false := by simpa using hz
        have HZ : Hid _ := hz
        clear hz
        go_wp2
        go_round
        case rel =>
          refine ⟨k + 1, by omega, by go_num, fun j hj => ?_⟩
          by_cases e : j = k
          · subst e; rw [← HX.out]; exact HZ.out
          · exact HN.out j (by omega)
        case measure => simp [intOf]; omega
      · have g : (x != 0) = true := by simpa using hz
        have HRX : Hid (R = x) := by
          unfold Hid
          rw [HR.out, HX.out]
          exact orL_at xs k (by omega) (by rw [← HX.out]; exact hz) HN.out
        clear hz
        go_wp2
        go_ret
        exact ⟨by rw [HRX.out]; rfl, rfl⟩
    · have hkn : k = n := by omega
      subst hkn
      have HRX : Hid (R = 0) := by
        unfold Hid
        rw [HR.out]
        exact orL_no xs (fun j hj => HN.out j (by omega))
      go_wp2
      go_ret
      exact ⟨by rw [HRX.out]; rfl, rfl⟩
end Go.Proofs.YtofflhhlacdgfaaDoor
namespace Go.Proofs.YtofflhhlacdgfaaDoor
open Go.RowKit
set_option maxRecDepth 100000
set_option maxHeartbeats 4000000
set_option linter.unusedVariables false

abbrev partV (x0 x1 : Int) (x2 : Int) (a : Option Addr) (n c : Nat) : Value := .agg #[.int .i64 x0, .int .i64 x1, .int .i64 x2, .slice a n c]
abbrev part4 (x : PartM) (a : Option Addr) (c : Nat) : L4 := ⟨.int .i64 x.k, .int .i64 x.v, .int .i64 x.s, .slice a x.h.length c⟩
theorem szPartC (x0 x1 : Int) (x2 : Int) (a : Option Addr) (n c : Nat) (l : Int) (w : World) (h0 : 0 ≤ l) (hl : l ≤ 1048576) (hn : n ≤ 9223372036854775807) :
    Calls Tryd.prog 43 #[partV x0 x1 x2 a n c, .int .i64 l] w fun e w' => ∃ r : Int, e = .returned (.int .i64 r) ∧ (r = -1 ∨ 0 ≤ r ∧ r ≤ l ∧ (n : Int) ≤ 1048576) ∧ Below w.heap.size w w' := by
  have HB : Hid (Below w.heap.size w (w.alloc (.cells #[.int .i64 x0, .int .i64 x1, .int .i64 x2, .slice a n c] 63))) := (Below.refl _ _).alloc (Nat.le_refl _) _
  go_enter Tryd.func43, Tryd.ntmps43
  go_wp2_with fail
  refine (szB a n c l _ (by omega) (by omega) hn).mono ?_
  rintro e w' ⟨rfl, rfl⟩
  by_cases h1 : l - (n : Int) < 0
  · rw [if_pos h1]
    go_wp2
    go_ret
    exact ⟨-1, rfl, .inl rfl, HB.out⟩
  rw [if_neg h1]
  obtain ⟨l1, hl1⟩ : ∃ l1 : Int, l1 = l - (n : Int) := ⟨_, rfl⟩
  rw [← hl1]
  rw [← hl1] at h1
  have HL1 : Hid _ := hl1
  clear hl1
  go_wp2
  go_ret
  have hl1 := HL1.out
  exact ⟨l1, rfl, .inr ⟨by omega, by omega, by omega⟩, HB.out⟩
theorem eqPartC (x0 x1 : Int) (x2 : Int) (a : Option Addr) (n c : Nat) (a' : Option Addr) (c' : Nat) (p : List Int) (w : World) (hB : Bs w a n c p) (hB' : Bs w a' n c' p) (hn : n ≤ 2097152) :
    Calls Tryd.prog 40 #[partV x0 x1 x2 a n c, partV x0 x1 x2 a' n c'] w fun e w' => e = .returned (.bool true) ∧ Below w.heap.size w w' := by
  have h0 : (x0 != x0) = false := by simp
  have h1 : (x1 != x1) = false := by simp
  have h2 : (x2 != x2) = false := by simp
  have hL : Below w.heap.size w ((w.alloc (.cells #[.int .i64 x0, .int .i64 x1, .int .i64 x2, .slice a n c] 45)).alloc (.cells #[.int .i64 x0, .int .i64 x1, .int .i64 x2, .slice a' n c'] 45)) := ((Below.refl _ _).alloc (Nat.le_refl _) _).alloc (by simp) _
  have HB : Hid _ := hL
  clear hL
  go_enter Tryd.func40, Tryd.ntmps40
  go_wp2_with fail
  refine (eqB a a' n c c' p _ (hB.below HB.out) (hB'.below HB.out) hn).mono ?_
  rintro e w1 ⟨q1, rfl, rfl⟩
  go_wp2
  go_ret
  exact ⟨rfl, bel_dN HB.out q1⟩
theorem toPartC (x0 x1 : Int) (x2 : Int) (a : Option Addr) (n c : Nat) (p : List Int) (w : World) (hB : Bs w a n c p) (hn : n ≤ 2097152) :
    Calls Tryd.prog 45 #[partV x0 x1 x2 a n c] w fun e w' => ∃ a' c', e = .returned (partV x0 x1 x2 a' n c') ∧ w'.ownsRow w.heap.size 5 1 (.slice a' n c') n (U8 p) ∧ Below w.heap.size w w' := by
  have hbb := hB.2.2.2.1
  obtain ⟨V, hV⟩ : ∃ V, V = (((w.alloc (.cells #[.int .i64 x0, .int .i64 x1, .int .i64 x2, .slice a n c] 63)).alloc (.cells #[.int .i64 0, .int .i64 0, .int .i64 0, .slice none 0 0] 45)).alloc (.cells #[.int .i64 x0, .int .i64 x1, .int .i64 x2, .slice none 0 0] 45)) := ⟨_, rfl⟩
  have hL : Below w.heap.size w V := by rw [hV]; exact ((((Below.refl _ _).alloc (Nat.le_refl _) _).alloc (by simp) _).alloc (by simp; omega) _)
  have hA1 : Arr V (w.heap.size + 1) 45 [.int .i64 0, .int .i64 0, .int .i64 0, .slice none 0 0] := by
    rw [hV]
    have := (Arr.new (w.alloc (.cells #[.int .i64 x0, .int .i64 x1, .int .i64 x2, .slice a n c] 63)) [.int .i64 0, .int .i64 0, .int .i64 0, .slice none 0 0] 45).alloc (.cells #[.int .i64 x0, .int .i64 x1, .int .i64 x2, .slice none 0 0] 45)
    simpa using this
  have hA2 : Arr V (w.heap.size + 1 + 1) 45 [.int .i64 x0, .int .i64 x1, .int .i64 x2, .slice none 0 0] := by
    rw [hV]
    have := Arr.new ((w.alloc (.cells #[.int .i64 x0, .int .i64 x1, .int .i64 x2, .slice a n c] 63)).alloc (.cells #[.int .i64 0, .int .i64 0, .int .i64 0, .slice none 0 0] 45)) [.int .i64 x0, .int .i64 x1, .int .i64 x2, .slice none 0 0] 45
    simpa using this
  have zV : w.heap.size + 3 ≤ V.heap.size := by rw [hV]; simp
  go_enter Tryd.func45, Tryd.ntmps45
  go_wp2_with fail
  rw [← hV]
  refine (toS a n c p _ (hB.below hL) hn).mono ?_
  rintro e w1 ⟨a1, c1, rfl, ho1, _, hb1⟩
  clear hV
  have hb1' := hL.trans (hb1.mono hL.size)
  have k1 := hA1.kept hb1
  have k2 := hA2.kept hb1
  clear hA1 hA2
  have d0 := k2.cell 0
  have d1 := k2.cell 1
  have d2 := k2.cell 2
  have d3 := k2.cell 3
  have f := k2.frozen
  have f1 := k1.frozen
  have e0 := k1.cell 0
  have e1 := k1.cell 1
  have e2 := k1.cell 2
  have e3 := k1.cell 3
  simp at d0 d1 d2 d3 e0 e1 e2 e3
  have hlt := k2.lt
  have hlt1 := k1.lt
  have HO : Hid (∀ q u, q.block < V.heap.size → ∀ q0 u0, q0.block < V.heap.size → ∀ q1 u1, q1.block < V.heap.size → ∀ q2 u2, q2.block < V.heap.size → ∀ q3 u3, q3.block < V.heap.size → (((((w1.setCell q u).setCell q0 u0).setCell q1 u1).setCell q2 u2).setCell q3 u3).ownsRow w.heap.size 5 1 (.slice a1 n c1) n (U8 p)) := by
    intro q u h q0 u0 h0 q1 u1 h1 q2 u2 h2 q3 u3 h3
    exact own_base (own_other (own_other (own_other (own_other (own_other ho1 q u h) q0 u0 h0) q1 u1 h1) q2 u2 h2) q3 u3 h3) hL.size
  have HF : Hid (∀ u u0 u1 u2 u3, Below w.heap.size w (((((w1.setCell ⟨w.heap.size + 1 + 1, 3, none⟩ u).setCell ⟨w.heap.size + 1, 0, none⟩ u0).setCell ⟨w.heap.size + 1, 1, none⟩ u1).setCell ⟨w.heap.size + 1, 2, none⟩ u2).setCell ⟨w.heap.size + 1, 3, none⟩ u3)) := fun u u0 u1 u2 u3 =>
    ((((hb1'.setCell (by simp; omega) _).setCell (by simp) _).setCell (by simp) _).setCell (by simp) _).setCell (by simp) _
  have K1 : Hid (Arr w1 (w.heap.size + 1) 45 [.int .i64 0, .int .i64 0, .int .i64 0, .slice none 0 0]) := k1
  clear hb1 hb1' ho1 hL hB hbb k1 k2
  go_wp2
  have K2 : Arr w1 (w.heap.size + 1) 45 [.int .i64 0, .int .i64 0, .int .i64 0, .slice none 0 0] := K1.out
  have n3 := ((((K2.other ⟨w.heap.size + 1 + 1, 3, none⟩ (.slice a1 n c1) (by simp)).set 0 (.int .i64 x0)).set 1 (.int .i64 x1)).set 2 (.int .i64 x2)).set 3 (.slice a1 n c1)
  exact bodyPost_ret (results_cell_row rfl _ _ (w.heap.size + 1) 45 _ (0, 0) _ rfl n3 Tryd.underlying45 rfl (by kernel_rfl)) rfl ⟨a1, c1, rfl, HO.out _ _ (by simp; omega) _ _ (by simp; omega) _ _ (by simp; omega) _ _ (by simp; omega) _ _ (by simp; omega), HF.out _ _ _ _ _⟩
end Go.Proofs.YtofflhhlacdgfaaDoor
namespace Go.Proofs.YtofflhhlacdgfaaDoor
open Go.RowKit
set_option maxRecDepth 100000
set_option maxHeartbeats 4000000
set_option linter.unusedVariables false

theorem set4p {W : World} {g : Nat} {t : TypeId} {a b c d : Value} (h : Arr W g t [a, b, c, d]) (a' b' c' d' : Value) :
    Arr ((((W.setCell ⟨g, 0, none⟩ a').setCell ⟨g, 1, none⟩ b').setCell ⟨g, 2, none⟩ c').setCell ⟨g, 3, none⟩ d') g t [a', b', c', d'] := (((h.set 0 a').set 1 b').set 2 c').set 3 d'
theorem bel_set4p {w W : World} {B g : Nat} (h : Below B w W) (hg : B ≤ g) (a b c d : Value) : Below B w ((((W.setCell ⟨g, 0, none⟩ a).setCell ⟨g, 1, none⟩ b).setCell ⟨g, 2, none⟩ c).setCell ⟨g, 3, none⟩ d) :=
  (((h.setCell hg _).setCell hg _).setCell hg _).setCell hg _
theorem own_otherP {w : World} {b e s n : Nat} {v : Value} {xs : List Value} (h : w.ownsRow b e s v n xs) (p : Addr) (u : Value) (hp : p.block < b) : (w.setCell p u).ownsRow b e s v n xs := by
  refine ⟨h.1, ?_⟩
  rcases h.2 with hn | ⟨g, cap, cur, rfl, hb, hgg, rest⟩
  · exact .inl hn
  · exact .inr ⟨g, cap, cur, rfl, hb, by rw [heap_setCell_other w p g u (by omega)]; exact hgg, rest⟩
theorem own_lower {w : World} {base base' : Nat} {e : TypeId} {size : Nat} {v : Value} {n : Nat} {xs : List Value} (h : w.ownsRow base e size v n xs) (hb : base' ≤ base) : w.ownsRow base' e size v n xs :=
  ⟨h.1, h.2.imp id fun ⟨g, cap, cur, h1, h2, h3⟩ => ⟨g, cap, cur, h1, Nat.le_trans hb h2, h3⟩⟩
abbrev byteP (ys : List Int) : Prop := ∀ y ∈ ys, 0 ≤ y ∧ y < 256
/-- What PartOf answers. -/
def pfT (k v : Int) (bs : List Int) : PartM × Bool := if partOk k v bs.length 32 then (⟨k, v, bs.length, sumOf bs⟩, true) else (⟨0, 0, 0, []⟩, false)
abbrev PfAns (k v : Int) (bs : List Int) (w : World) (e : Ending) (w' : World) : Prop :=
  ∃ vh, e = .returned (.tuple #[.agg #[.int .i64 (pfT k v bs).1.k, .int .i64 (pfT k v bs).1.v, .int .i64 (pfT k v bs).1.s, vh], .bool (pfT k v bs).2]) ∧ w'.ownsRow w.heap.size 5 1 vh (pfT k v bs).1.h.length (U8 (pfT k v bs).1.h) ∧ Below w.heap.size w w'
theorem specPartOf (k v : Int) (a : Option Addr) (n c : Nat) (bs : List Int) (w : World) (hB : Bs w a n c bs) :
    Calls Tryd.prog 39 #[.int .i64 k, .int .i64 v, .slice a n c] w (PfAns k v bs w) := by
  have hbl := hB.2.1
  obtain ⟨V, hV⟩ : ∃ V, V = w.alloc (.cells #[.int .i64 0, .int .i64 0, .int .i64 0, .slice none 0 0] 45) := ⟨_, rfl⟩
  have B : Below w.heap.size w V := by rw [hV]; exact (Below.refl _ _).alloc (Nat.le_refl _) _
  have Q : Arr V w.heap.size 45 [.int .i64 0, .int .i64 0, .int .i64 0, .slice none 0 0] := by rw [hV]; exact Arr.new _ _ _
  have z1 : w.heap.size < V.heap.size := by rw [hV]; simp
  obtain ⟨P, hP⟩ : ∃ P, P = pfT k v bs := ⟨_, rfl⟩
  show Calls Tryd.prog 39 #[.int .i64 k, .int .i64 v, .slice a n c] w fun e w' => ∃ vh, e = .returned (.tuple #[.agg #[.int .i64 (pfT k v bs).1.k, .int .i64 (pfT k v bs).1.v, .int .i64 (pfT k v bs).1.s, vh], .bool (pfT k v bs).2]) ∧ w'.ownsRow w.heap.size 5 1 vh (pfT k v bs).1.h.length (U8 (pfT k v bs).1.h) ∧ Below w.heap.size w w'
  rw [← hP]
  unfold pfT at hP
  rw [hbl] at hP
  have HP : Hid _ := hP
  have HS : Hid (¬ ((192 : Int) < (n : Int)) → ∀ Z, Below w.heap.size w Z → Calls Tryd.prog 96 #[.slice a n c] Z fun e w' => ∃ v, e = .returned v ∧ w'.ownsRow Z.heap.size 5 1 v 32 (U8 (sumOf bs)) ∧ Below Z.heap.size Z w') := fun h Z hZ => specL2sum a n c bs Z (hB.below hZ) (by omega)
  clear hP hB
  go_enter Tryd.func39, Tryd.ntmps39
  go_upto_region 1 with fail
  rw [← hV]
  clear hV
  by_cases h192 : (192 : Int) < (n : Int)
  · have HE : Hid (P = (⟨0, 0, 0, []⟩, false)) := HP.out.trans (if_neg (fun h => by have := h.2.2.1.2; omega))
    clear HS HP
    have q0 := Q.cell 0
    have q1 := Q.cell 1
    have q2 := Q.cell 2
    have q3 := Q.cell 3
    simp at q0 q1 q2 q3
    have fQ := Q.frozen
    have lQ := Q.lt
    have HK : Hid _ := set4p Q (.int .i64 0) (.int .i64 0) (.int .i64 0) (.slice none 0 0)
    have HB : Hid _ := bel_set4p B (Nat.le_refl w.heap.size) (.int .i64 0) (.int .i64 0) (.int .i64 0) (.slice none 0 0)
    clear Q B
    go_wp2
    exact bodyPost_ret (results_row_tmp (v := .bool false) (t := 45) (cs := [.int .i64 0, .int .i64 0, .int .i64 0, .slice none 0 0]) rfl rfl rfl HK.out Tryd.underlying45 rfl (by kernel_rfl)) rfl (by rw [HE.out]; exact ⟨_, rfl, World.ownsRow_nil _ _ _ _, HB.out⟩)
  go_wp2_with fail
  refine Calls.mono (HS.out h192 _ B) ?_
  rintro e w1 ⟨v1, rfl, O, hb⟩
  replace Q := Q.kept hb
  replace B := B.trans (hb.mono B.size)
  have z2 : w.heap.size + 1 ≤ V.heap.size := z1
  clear hb HS
  obtain ⟨hs, hhs⟩ : ∃ hs, hs = sumOf bs := ⟨_, rfl⟩
  have hby : byteP hs := by rw [hhs]; exact sumOf_byte bs
  have hlen : hs.length = 32 := by rw [hhs]; exact sumOf_len bs
  have HH : Hid (hs = sumOf bs) := hhs
  rw [← hhs] at O
  obtain ⟨m1, hm1⟩ : ∃ m1 : Nat, m1 = 32 := ⟨_, rfl⟩
  rw [← hm1] at O
  have HM : Hid (m1 = 32) := hm1
  have HML : Hid (hs.length = m1) := by unfold Hid; omega
  clear hhs hlen hm1
  obtain ⟨a1, c1, rfl, _, _⟩ := Bs.own O (by exact hby)
  have HO : Hid (w1.ownsRow V.heap.size 5 1 (.slice a1 m1 c1) m1 (U8 hs)) := O
  clear O
  obtain ⟨X, hX⟩ : ∃ X, X = w1.alloc (.cells #[.int .i64 k, .int .i64 v, .int .i64 (n : Int), .slice a1 m1 c1] 45) := ⟨_, rfl⟩
  have L : Arr X w1.heap.size 45 [.int .i64 k, .int .i64 v, .int .i64 (n : Int), .slice a1 m1 c1] := by rw [hX]; exact Arr.new _ _ _
  have lQ0 := Q.lt
  replace Q : Arr X w.heap.size 45 [.int .i64 0, .int .i64 0, .int .i64 0, .slice none 0 0] := by rw [hX]; exact Q.alloc _
  replace B : Below w.heap.size w X := by rw [hX]; exact B.alloc B.size _
  replace HO : Hid (X.ownsRow V.heap.size 5 1 (.slice a1 m1 c1) m1 (U8 hs)) := by unfold Hid; rw [hX]; exact World.ownsRow.alloc HO.out _
  obtain ⟨H, hH⟩ : ∃ H, H = w1.heap.size := ⟨_, rfl⟩
  rw [← hH] at L
  go_upto_region 4 with fail
  rw [← hX]
  rw [← hH]
  clear hX hH
  have l0 := L.cell 0
  have l1 := L.cell 1
  have l2 := L.cell 2
  have l3 := L.cell 3
  simp at l0 l1 l2 l3
  go_wp2_with fail
  refine (spec8part k v n a1 m1 c1 _).mono ?_
  rintro e w2 ⟨rfl, hb⟩
  replace Q := Q.kept hb
  replace L := L.kept hb
  replace B := B.trans (hb.mono B.size)
  replace HO : Hid (w2.ownsRow V.heap.size 5 1 (.slice a1 m1 c1) m1 (U8 hs)) := own_below HO.out hb
  clear hb l0 l1 l2 l3
  by_cases hok : partOk k v n m1
  · rw [decide_eq_true hok]
    have HE : Hid (P = (⟨k, v, n, hs⟩, true)) := HP.out.trans ((if_pos (by rw [← HM.out]; exact hok)).trans (by rw [HH.out]))
    clear hok
    have l0 := L.cell 0
    have l1 := L.cell 1
    have l2 := L.cell 2
    have l3 := L.cell 3
    simp at l0 l1 l2 l3
    have q0 := Q.cell 0
    have q1 := Q.cell 1
    have q2 := Q.cell 2
    have q3 := Q.cell 3
    simp at q0 q1 q2 q3
    have fQ := Q.frozen
    have lQ := Q.lt
    have HK : Hid _ := set4p Q (.int .i64 k) (.int .i64 v) (.int .i64 (n : Int)) (.slice a1 m1 c1)
    have HB : Hid _ := bel_set4p B (Nat.le_refl w.heap.size) (.int .i64 k) (.int .i64 v) (.int .i64 (n : Int)) (.slice a1 m1 c1)
    have HO4 : Hid _ := own_lower (own_otherP (own_otherP (own_otherP (own_otherP HO.out ⟨w.heap.size, 0, none⟩ (.int .i64 k) (by show w.heap.size < V.heap.size; omega)) ⟨w.heap.size, 1, none⟩ (.int .i64 v) (by show w.heap.size < V.heap.size; omega)) ⟨w.heap.size, 2, none⟩ (.int .i64 (n : Int)) (by show w.heap.size < V.heap.size; omega)) ⟨w.heap.size, 3, none⟩ (.slice a1 m1 c1) (by show w.heap.size < V.heap.size; omega)) (show w.heap.size ≤ V.heap.size by omega)
    clear Q B
    go_wp2
    exact bodyPost_ret (results_row_tmp (v := .bool true) (t := 45) (cs := [.int .i64 k, .int .i64 v, .int .i64 (n : Int), .slice a1 m1 c1]) rfl rfl rfl HK.out Tryd.underlying45 rfl (by kernel_rfl)) rfl (by rw [HE.out]; exact ⟨_, rfl, (by dsimp only; rw [HML.out]; exact HO4.out), HB.out⟩)
  · rw [decide_eq_false hok]
    have HE : Hid (P = (⟨0, 0, 0, []⟩, false)) := HP.out.trans (if_neg (by rw [← HM.out]; exact hok))
    clear hok
    have q0 := Q.cell 0
    have q1 := Q.cell 1
    have q2 := Q.cell 2
    have q3 := Q.cell 3
    simp at q0 q1 q2 q3
    have fQ := Q.frozen
    have lQ := Q.lt
    have HK : Hid _ := set4p Q (.int .i64 0) (.int .i64 0) (.int .i64 0) (.slice none 0 0)
    have HB : Hid _ := bel_set4p B (Nat.le_refl w.heap.size) (.int .i64 0) (.int .i64 0) (.int .i64 0) (.slice none 0 0)
    clear Q B
    go_wp2
    exact bodyPost_ret (results_row_tmp (v := .bool false) (t := 45) (cs := [.int .i64 0, .int .i64 0, .int .i64 0, .slice none 0 0]) rfl rfl rfl HK.out Tryd.underlying45 rfl (by kernel_rfl)) rfl (by rw [HE.out]; exact ⟨_, rfl, World.ownsRow_nil _ _ _ _, HB.out⟩)
theorem implPartOf (k v : Int) (a : Option Addr) (n c : Nat) (bs : List Int) (w : World) (hB : Bs w a n c bs) (ht : Tabs w) (hf : TabF w) :
    Calls Tryd.prog 24 #[.int .i64 k, .int .i64 v, .slice a n c] w (PfAns k v bs w) := by
  have hbl := hB.2.1
  obtain ⟨V, hV⟩ : ∃ V, V = w.alloc (.cells #[.int .i64 0, .int .i64 0, .int .i64 0, .slice none 0 0] 45) := ⟨_, rfl⟩
  have B : Below w.heap.size w V := by rw [hV]; exact (Below.refl _ _).alloc (Nat.le_refl _) _
  have Q : Arr V w.heap.size 45 [.int .i64 0, .int .i64 0, .int .i64 0, .slice none 0 0] := by rw [hV]; exact Arr.new _ _ _
  have z1 : w.heap.size < V.heap.size := by rw [hV]; simp
  obtain ⟨P, hP⟩ : ∃ P, P = pfT k v bs := ⟨_, rfl⟩
  show Calls Tryd.prog 24 #[.int .i64 k, .int .i64 v, .slice a n c] w fun e w' => ∃ vh, e = .returned (.tuple #[.agg #[.int .i64 (pfT k v bs).1.k, .int .i64 (pfT k v bs).1.v, .int .i64 (pfT k v bs).1.s, vh], .bool (pfT k v bs).2]) ∧ w'.ownsRow w.heap.size 5 1 vh (pfT k v bs).1.h.length (U8 (pfT k v bs).1.h) ∧ Below w.heap.size w w'
  rw [← hP]
  unfold pfT at hP
  rw [hbl] at hP
  have HP : Hid _ := hP
  have HS : Hid (∀ Z, Below w.heap.size w Z → Calls Tryd.prog 26 #[.slice a n c] Z fun e w' => ∃ v, e = .returned v ∧ w'.ownsRow Z.heap.size 5 1 v (s256 bs).length (U8 (s256 bs)) ∧ Below Z.heap.size Z w') := fun Z hZ => implSha256 a n c bs Z (hB.below hZ) (ht.below hZ) (hf.below hZ)
  clear ht hf
  clear hP hB
  go_enter Tryd.func24, Tryd.ntmps24
  go_upto_region 1 with fail
  rw [← hV]
  clear hV
  go_wp2_with fail
  refine Calls.mono (HS.out _ B) ?_
  rintro e w1 ⟨v1, rfl, O, hb⟩
  replace Q := Q.kept hb
  replace B := B.trans (hb.mono B.size)
  have z2 : w.heap.size + 1 ≤ V.heap.size := z1
  clear hb HS
  obtain ⟨hs, hhs⟩ : ∃ hs, hs = s256 bs := ⟨_, rfl⟩
  have hby : byteP hs := by rw [hhs]; exact s256_byte bs
  have HH : Hid (hs = s256 bs) := hhs
  rw [← hhs] at O
  obtain ⟨m1, hm1⟩ : ∃ m1 : Nat, m1 = hs.length := ⟨_, rfl⟩
  rw [← hm1] at O
  have HML : Hid (hs.length = m1) := hm1.symm
  have HQ : Hid (∀ h : partOk k v n m1, m1 = 32 ∧ hs = sumOf bs) := fun h => ⟨h.2.2.2, by rw [hhs]; exact if_pos (by have := h.2.2.1.2; omega)⟩
  have HN : Hid (¬ partOk k v n m1 → ¬ partOk k v n 32) := fun h g => h ⟨g.1, g.2.1, g.2.2.1, by
    rw [hm1, hhs, show s256 bs = sumOf bs from if_pos (by have := g.2.2.1.2; omega)]
    exact sumOf_len bs⟩
  clear hhs hm1
  obtain ⟨a1, c1, rfl, _, _⟩ := Bs.own O (by exact hby)
  have HO : Hid (w1.ownsRow V.heap.size 5 1 (.slice a1 m1 c1) m1 (U8 hs)) := O
  clear O
  obtain ⟨X, hX⟩ : ∃ X, X = w1.alloc (.cells #[.int .i64 k, .int .i64 v, .int .i64 (n : Int), .slice a1 m1 c1] 45) := ⟨_, rfl⟩
  have L : Arr X w1.heap.size 45 [.int .i64 k, .int .i64 v, .int .i64 (n : Int), .slice a1 m1 c1] := by rw [hX]; exact Arr.new _ _ _
  have lQ0 := Q.lt
  replace Q : Arr X w.heap.size 45 [.int .i64 0, .int .i64 0, .int .i64 0, .slice none 0 0] := by rw [hX]; exact Q.alloc _
  replace B : Below w.heap.size w X := by rw [hX]; exact B.alloc B.size _
  replace HO : Hid (X.ownsRow V.heap.size 5 1 (.slice a1 m1 c1) m1 (U8 hs)) := by unfold Hid; rw [hX]; exact World.ownsRow.alloc HO.out _
  obtain ⟨H, hH⟩ : ∃ H, H = w1.heap.size := ⟨_, rfl⟩
  rw [← hH] at L
  go_upto_region 2 with fail
  rw [← hX]
  rw [← hH]
  clear hX hH
  have l0 := L.cell 0
  have l1 := L.cell 1
  have l2 := L.cell 2
  have l3 := L.cell 3
  simp at l0 l1 l2 l3
  go_wp2_with fail
  refine (implPartOk k v n a1 m1 c1 _).mono ?_
  rintro e w2 ⟨rfl, hb⟩
  replace Q := Q.kept hb
  replace L := L.kept hb
  replace B := B.trans (hb.mono B.size)
  replace HO : Hid (w2.ownsRow V.heap.size 5 1 (.slice a1 m1 c1) m1 (U8 hs)) := own_below HO.out hb
  clear hb l0 l1 l2 l3
  by_cases hok : partOk k v n m1
  · rw [decide_eq_true hok]
    have HE : Hid (P = (⟨k, v, n, hs⟩, true)) := HP.out.trans ((if_pos (by rw [← (HQ.out hok).1]; exact hok)).trans (by rw [(HQ.out hok).2]))
    clear hok
    have l0 := L.cell 0
    have l1 := L.cell 1
    have l2 := L.cell 2
    have l3 := L.cell 3
    simp at l0 l1 l2 l3
    have q0 := Q.cell 0
    have q1 := Q.cell 1
    have q2 := Q.cell 2
    have q3 := Q.cell 3
    simp at q0 q1 q2 q3
    have fQ := Q.frozen
    have lQ := Q.lt
    have HK : Hid _ := set4p Q (.int .i64 k) (.int .i64 v) (.int .i64 (n : Int)) (.slice a1 m1 c1)
    have HB : Hid _ := bel_set4p B (Nat.le_refl w.heap.size) (.int .i64 k) (.int .i64 v) (.int .i64 (n : Int)) (.slice a1 m1 c1)
    have HO4 : Hid _ := own_lower (own_otherP (own_otherP (own_otherP (own_otherP HO.out ⟨w.heap.size, 0, none⟩ (.int .i64 k) (by show w.heap.size < V.heap.size; omega)) ⟨w.heap.size, 1, none⟩ (.int .i64 v) (by show w.heap.size < V.heap.size; omega)) ⟨w.heap.size, 2, none⟩ (.int .i64 (n : Int)) (by show w.heap.size < V.heap.size; omega)) ⟨w.heap.size, 3, none⟩ (.slice a1 m1 c1) (by show w.heap.size < V.heap.size; omega)) (show w.heap.size ≤ V.heap.size by omega)
    clear Q B
    go_wp2
    exact bodyPost_ret (results_row_tmp (v := .bool true) (t := 45) (cs := [.int .i64 k, .int .i64 v, .int .i64 (n : Int), .slice a1 m1 c1]) rfl rfl rfl HK.out Tryd.underlying45 rfl (by kernel_rfl)) rfl (by rw [HE.out]; exact ⟨_, rfl, (by dsimp only; rw [HML.out]; exact HO4.out), HB.out⟩)
  · rw [decide_eq_false hok]
    have HE : Hid (P = (⟨0, 0, 0, []⟩, false)) := HP.out.trans (if_neg (HN.out hok))
    clear hok
    have q0 := Q.cell 0
    have q1 := Q.cell 1
    have q2 := Q.cell 2
    have q3 := Q.cell 3
    simp at q0 q1 q2 q3
    have fQ := Q.frozen
    have lQ := Q.lt
    have HK : Hid _ := set4p Q (.int .i64 0) (.int .i64 0) (.int .i64 0) (.slice none 0 0)
    have HB : Hid _ := bel_set4p B (Nat.le_refl w.heap.size) (.int .i64 0) (.int .i64 0) (.int .i64 0) (.slice none 0 0)
    clear Q B
    go_wp2
    exact bodyPost_ret (results_row_tmp (v := .bool false) (t := 45) (cs := [.int .i64 0, .int .i64 0, .int .i64 0, .slice none 0 0]) rfl rfl rfl HK.out Tryd.underlying45 rfl (by kernel_rfl)) rfl (by rw [HE.out]; exact ⟨_, rfl, World.ownsRow_nil _ _ _ _, HB.out⟩)
end Go.Proofs.YtofflhhlacdgfaaDoor
