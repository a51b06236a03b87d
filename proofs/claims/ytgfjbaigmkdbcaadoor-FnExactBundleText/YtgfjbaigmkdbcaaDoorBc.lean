/-
  What is proved here: the contract of the specification's l8ahead; what a bundle is as a plain fact.
-/
import Derived.Test.YtgfjbaigmkdbcaaDoorJB10
namespace Go.Proofs.YtgfjbaigmkdbcaaDoor
open Go.RowKit
set_option maxRecDepth 100000
set_option maxHeartbeats 4000000

theorem spec8ahead (o f t k o' f' t' k' : Int) (w : World) : Calls Tryd.prog 50 #[.agg #[.int .i64 o, .int .i64 f, .int .i64 t, .int .i64 k], .agg #[.int .i64 o', .int .i64 f', .int .i64 t', .int .i64 k']] w fun e w' => e = .returned (.bool (decide (needLt o f t k o' f' t' k'))) ∧ Below w.heap.size w w' := by
  obtain ⟨R, hR, HT, HF⟩ := by_dec (needLt o f t k o' f' t' k')
  rw [hR]
  clear hR
  obtain ⟨W, hW⟩ : ∃ W, W = (w.alloc (.cells #[.int .i64 o, .int .i64 f, .int .i64 t, .int .i64 k] 65)).alloc (.cells #[.int .i64 o', .int .i64 f', .int .i64 t', .int .i64 k'] 65) := ⟨_, rfl⟩
  have B : Below w.heap.size w W := by rw [hW]; exact ((Below.refl _ _).alloc (Nat.le_refl _) _).alloc (by simp) _
  have A : Arr W w.heap.size 65 [.int .i64 o, .int .i64 f, .int .i64 t, .int .i64 k] := by rw [hW]; exact (Arr.new w [.int .i64 o, .int .i64 f, .int .i64 t, .int .i64 k] _).alloc _
  have A' : Arr W (w.heap.size + 1) 65 [.int .i64 o', .int .i64 f', .int .i64 t', .int .i64 k'] := by
    rw [hW]
    have := Arr.new (w.alloc (.cells #[.int .i64 o, .int .i64 f, .int .i64 t, .int .i64 k] 65)) [.int .i64 o', .int .i64 f', .int .i64 t', .int .i64 k'] 65
    rw [World.size_alloc] at this
    exact this
  have c0 := A.cell 0
  have c1 := A.cell 1
  have c2 := A.cell 2
  have c3 := A.cell 3
  have d0 := A'.cell 0
  have d1 := A'.cell 1
  have d2 := A'.cell 2
  have d3 := A'.cell 3
  simp at c0 c1 c2 c3 d0 d1 d2 d3
  clear A A'
  go_enter Tryd.func50, Tryd.ntmps50
  go_upto_region 1 with fail
  rw [← hW]
  clear hW
  by_cases h1 : o = o'
  case neg =>
    have h1' : (o != o') = true := by simpa using h1
    by_cases h : o < o'
    case pos => go_wp2; go_ret; exact ⟨by rw [HT.out (by omega)]; rfl, B⟩
    case neg => go_wp2; go_ret; exact ⟨by rw [HF.out (by omega)]; rfl, B⟩
  have h1' : (o != o') = false := by simpa using h1
  by_cases h2 : k = k'
  case neg =>
    have h2' : (k != k') = true := by simpa using h2
    by_cases h : k < k'
    case pos => go_wp2; go_ret; exact ⟨by rw [HT.out (by omega)]; rfl, B⟩
    case neg => go_wp2; go_ret; exact ⟨by rw [HF.out (by omega)]; rfl, B⟩
  have h2' : (k != k') = false := by simpa using h2
  by_cases h3 : f = f'
  case neg =>
    have h3' : (f != f') = true := by simpa using h3
    by_cases h : f < f'
    case pos => go_wp2; go_ret; exact ⟨by rw [HT.out (by omega)]; rfl, B⟩
    case neg => go_wp2; go_ret; exact ⟨by rw [HF.out (by omega)]; rfl, B⟩
  have h3' : (f != f') = false := by simpa using h3
  by_cases h : t < t'
  case pos => go_wp2; go_ret; exact ⟨by rw [HT.out (by omega)]; rfl, B⟩
  case neg => go_wp2; go_ret; exact ⟨by rw [HF.out (by omega)]; rfl, B⟩

abbrev pOkAt (ps : List PartM) (i : Nat) : Prop := partOk (ps.getD i pz).k (ps.getD i pz).v (ps.getD i pz).s (ps.getD i pz).h.length ∧ (0 < i → (ps.getD (i - 1) pz).k < (ps.getD i pz).k)
abbrev nOkAt (ns : List NeedM) (i : Nat) : Prop := needOk (ns.getD i nz).o (ns.getD i nz).f (ns.getD i nz).t (ns.getD i nz).k ∧ (0 < i → needLt (ns.getD (i - 1) nz).o (ns.getD (i - 1) nz).f (ns.getD (i - 1) nz).t (ns.getD (i - 1) nz).k (ns.getD i nz).o (ns.getD i nz).f (ns.getD i nz).t (ns.getD i nz).k)
/-- What a bundle is. -/
abbrev headOk (B : BunM) : Prop := (0 ≤ B.d ∧ B.d ≤ 1000) ∧ (1 ≤ B.n ∧ B.n ≤ 1000) ∧ verOk B.f ∧ (1 ≤ B.ps.length ∧ B.ps.length ≤ 4) ∧ B.ns.length ≤ 8
abbrev bunOk (B : BunM) : Prop := headOk B ∧ (∀ i, i < B.ps.length → pOkAt B.ps i) ∧ (∀ i, i < B.ns.length → nOkAt B.ns i)
def bOk (B : BunM) : Bool := decide (headOk B) && (decide (∀ i, i < B.ps.length → pOkAt B.ps i) && decide (∀ i, i < B.ns.length → nOkAt B.ns i))
theorem bOk_iff (B : BunM) : bOk B = true ↔ bunOk B := by
  unfold bOk
  rw [Bool.and_eq_true, Bool.and_eq_true, decide_eq_true_iff, decide_eq_true_iff, decide_eq_true_iff]
theorem bOk_dec (B : BunM) : ∃ R, bOk B = R ∧ Hid (bunOk B → R = true) ∧ Hid (¬ bunOk B → R = false) := ⟨_, rfl, (bOk_iff B).2, fun h => by
  cases e : bOk B with
  | false => rfl
  | true => exact absurd ((bOk_iff B).1 e) h⟩
end Go.Proofs.YtgfjbaigmkdbcaaDoor
