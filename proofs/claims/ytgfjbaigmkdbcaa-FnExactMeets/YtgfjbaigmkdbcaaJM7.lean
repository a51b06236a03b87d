/-
  What is proved here: bits of bytes; a store, a call or a value that comes up alone in a region that draws its order; no program is spoken of; a bundle of its own as the answer of a call in a region that draws its order; the contract of the specification's l8ahead; what a bundle is as a plain fact.
-/
import Derived.Test.YtgfjbaigmkdbcaaTm
import Derived.Test.YtgfjbaigmkdbcaaJM6
import Derived.Test.YtgfjbaigmkdbcaaJM2
namespace Go.Proofs.Ytgfjbaigmkdbcaa
set_option maxRecDepth 100000
open Go.RowKit

theorem u8_wrap (v : BitVec 8) : IntKind.u8.wrap (v.toNat : Int) = (v.toNat : Int) := by
  have := v.isLt
  simp [IntKind.wrap, IntKind.signed, IntKind.bits]
  omega
theorem u8_back (v : BitVec 8) : BitVec.ofInt 8 (v.toNat : Int) = v := by
  apply BitVec.eq_of_toNat_eq
  simp
theorem bits_byte (op : BinOp) (x y : Int) : 0 ≤ bits op .u8 x y ∧ bits op .u8 x y < 256 := ⟨bits_lo_u8 op x y, by have := bits_hi_u8 op x y; omega⟩
theorem b_and (x y : Int) : bits .and .u8 x y = ((BitVec.ofInt 8 x &&& BitVec.ofInt 8 y).toNat : Int) := u8_wrap _
theorem b_or (x y : Int) : bits .or .u8 x y = ((BitVec.ofInt 8 x ||| BitVec.ofInt 8 y).toNat : Int) := u8_wrap _
theorem b_xor (x y : Int) : bits .xor .u8 x y = ((BitVec.ofInt 8 x ^^^ BitVec.ofInt 8 y).toNat : Int) := u8_wrap _
theorem b_nand (x y : Int) : bits .andNot .u8 x y = ((BitVec.ofInt 8 x &&& ~~~BitVec.ofInt 8 y).toNat : Int) := u8_wrap _
theorem v255 : BitVec.ofInt 8 255 = BitVec.allOnes 8 := rfl
theorem ones8 : ∀ j : Fin 8, (255#8 : BitVec 8)[j.1] = true := by decide
section
variable {P : Program} {ops : Array Oper} {Q : Exit → Act → World → Prop}
/-- A store that comes up alone. -/
theorem st_do {listed : Array Bool} {fuel i : Nat} {o : Oper} {a : Act} {w w' : World} (hr : Region.ready .any ops listed = [i]) (ho : ops[i]? = some o) (hg : o.guard = none) (hd : o.dst = none) (hx : (execOp a.eval o).run P w = .ok .skip w')
    (h : wpAny P .any ops Q fuel (listed.setIfInBounds i true) a w') : wpAny P .any ops Q (fuel + 1) listed a w := by
  refine ⟨fun h0 => absurd (hr.symm.trans h0) (by simp), fun j hj => ?_⟩
  rw [hr] at hj
  rcases List.mem_singleton.1 hj with rfl
  unfold wpOp
  simp only [ho]
  rw [if_pos (by simp [Region.wanted, hg])]
  refine .inl ?_
  unfold Oper.wp
  rw [hx]
  show wpAny P .any ops Q fuel (listed.setIfInBounds j true) _ w'
  first | exact h | simpa [hd, Act.put] using h
theorem st_call {listed : Array Bool} {fuel i : Nat} {o : Oper} {a : Act} {w : World} {f : FuncId} {args : Array Value} (hr : Region.ready .any ops listed = [i]) (ho : ops[i]? = some o) (hg : o.guard = none) (hx : (execOp a.eval o).run P w = .ok (.enter f args) w)
    (h : Calls P f args w fun e w' => ∃ v, e = .returned v ∧ wpAny P .any ops Q fuel (listed.setIfInBounds i true) (a.put o.dst v) w') : wpAny P .any ops Q (fuel + 1) listed a w := by
  refine ⟨fun h0 => absurd (hr.symm.trans h0) (by simp), fun j hj => ?_⟩
  rw [hr] at hj
  rcases List.mem_singleton.1 hj with rfl
  unfold wpOp
  simp only [ho]
  rw [if_pos (by simp [Region.wanted, hg])]
  refine .inl ?_
  unfold Oper.wp
  rw [hx]
  show Calls P f args w _
  refine h.mono ?_
  rintro e w' ⟨v, rfl, h⟩
  exact h
theorem st_val {listed : Array Bool} {fuel i : Nat} {o : Oper} {a : Act} {w w' : World} {v : Value} (hr : Region.ready .any ops listed = [i]) (ho : ops[i]? = some o) (hg : o.guard = none) (hx : (execOp a.eval o).run P w = .ok (.value v) w')
    (h : wpAny P .any ops Q fuel (listed.setIfInBounds i true) (a.put o.dst v) w') : wpAny P .any ops Q (fuel + 1) listed a w := by
  refine ⟨fun h0 => absurd (hr.symm.trans h0) (by simp), fun j hj => ?_⟩
  rw [hr] at hj
  rcases List.mem_singleton.1 hj with rfl
  unfold wpOp
  simp only [ho]
  rw [if_pos (by simp [Region.wanted, hg])]
  refine .inl ?_
  unfold Oper.wp
  rw [hx]
  exact h
end
end Go.Proofs.Ytgfjbaigmkdbcaa
namespace Go.Proofs.Ytgfjbaigmkdbcaa
set_option maxRecDepth 100000
open Go.RowKit

def Fu (lo : Nat) (d n f : Int) (pn nn : Nat) (ps : List PartM) (ns : List NeedM) (_ _ : Nat) (w : World) (v : Value) : Prop := ∃ pa pc na nc, v = bunV d n f pa pn pc na nn nc ∧ Pq lo w pa pn pc ps ∧ w.ownsRow lo 115 4 (.slice na nn nc) nn (FL (ns.map nrc))
theorem fu_keeps (q lo : Nat) (d n f : Int) (pn nn : Nat) (ps : List PartM) (ns : List NeedM) : Kd.keeps (kv q (Fu lo d n f pn nn ps ns)) := fun _ _ _ _ _ h _ b => by
  obtain ⟨pa, pc, na, nc, e, o1, o2⟩ := h
  exact ⟨pa, pc, na, nc, e, o1.below b, own_below o2 b⟩
theorem tfu {P : Program} {ev : Operand → Value} {o : Oper} {q lo : Nat} {w : World} {X : Prop} {d n f : Int} {pn nn : Nat} {ps : List PartM} {ns : List NeedM} {g : FuncId} {args : Array Value} (hlo : lo ≤ w.heap.size)
    (hc : Calls P g args w fun e w' => ∃ pa pc na nc, e = .returned (bunV d n f pa pn pc na nn nc) ∧ Pq w.heap.size w' pa pn pc ps ∧ w'.ownsRow w.heap.size 115 4 (.slice na nn nc) nn (FL (ns.map nrc)) ∧ Below w.heap.size w w') (h : (execOp ev o).run P w = .ok (.enter g args) w) : Dty X (TOb P ev o (kv q (Fu lo d n f pn nn ps ns)) w) :=
  tr (fun _ => hc.mono (by rintro e' w' ⟨pa, pc, na, nc, rfl, o1, o2, hb⟩; exact ⟨_, rfl, _, rfl, hb, pa, pc, na, nc, rfl, o1.base hlo, own_base o2 hlo⟩)) h
end Go.Proofs.Ytgfjbaigmkdbcaa
namespace Go.Proofs.Ytgfjbaigmkdbcaa
open Go.RowKit
set_option maxRecDepth 100000
set_option maxHeartbeats 4000000

theorem spec8ahead (o f t k o' f' t' k' : Int) (w : World) : Calls Try.prog 79 #[.agg #[.int .i64 o, .int .i64 f, .int .i64 t, .int .i64 k], .agg #[.int .i64 o', .int .i64 f', .int .i64 t', .int .i64 k']] w fun e w' => e = .returned (.bool (decide (needLt o f t k o' f' t' k'))) ∧ Below w.heap.size w w' := by
  obtain ⟨R, hR, HT, HF⟩ := by_dec (needLt o f t k o' f' t' k')
  rw [hR]
  clear hR
  obtain ⟨W, hW⟩ : ∃ W, W = (w.alloc (.cells #[.int .i64 o, .int .i64 f, .int .i64 t, .int .i64 k] 115)).alloc (.cells #[.int .i64 o', .int .i64 f', .int .i64 t', .int .i64 k'] 115) := ⟨_, rfl⟩
  have B : Below w.heap.size w W := by rw [hW]; exact ((Below.refl _ _).alloc (Nat.le_refl _) _).alloc (by simp) _
  have A : Arr W w.heap.size 115 [.int .i64 o, .int .i64 f, .int .i64 t, .int .i64 k] := by rw [hW]; exact (Arr.new w [.int .i64 o, .int .i64 f, .int .i64 t, .int .i64 k] _).alloc _
  have A' : Arr W (w.heap.size + 1) 115 [.int .i64 o', .int .i64 f', .int .i64 t', .int .i64 k'] := by
    rw [hW]
    have := Arr.new (w.alloc (.cells #[.int .i64 o, .int .i64 f, .int .i64 t, .int .i64 k] 115)) [.int .i64 o', .int .i64 f', .int .i64 t', .int .i64 k'] 115
    rw [World.size_alloc] at this
    exact this
  have c0 := A.cell 0
  have c1 := A.cell 1
  have c2 := A.cell 2
  have c3 := A.cell 3
  have d0 := A'.cell 0
  have d1 := A'.cell 1
  have d2 := A'.cell 2
  have d3 := A'.cell 3
  simp at c0 c1 c2 c3 d0 d1 d2 d3
  clear A A'
  go_enter Try.func79, Try.ntmps79
  go_upto_region 1 with fail
  rw [← hW]
  clear hW
  by_cases h1 : o = o'
  case neg =>
    have h1' : (o != o') = true := by simpa using h1
    by_cases h : o < o'
    case pos => go_wp2; go_ret; exact ⟨by rw [HT.out (by omega)]; rfl, B⟩
    case neg => go_wp2; go_ret; exact ⟨by rw [HF.out (by omega)]; rfl, B⟩
  have h1' : (o != o') = false := by simpa using h1
  by_cases h2 : k = k'
  case neg =>
    have h2' : (k != k') = true := by simpa using h2
    by_cases h : k < k'
    case pos => go_wp2; go_ret; exact ⟨by rw [HT.out (by omega)]; rfl, B⟩
    case neg => go_wp2; go_ret; exact ⟨by rw [HF.out (by omega)]; rfl, B⟩
  have h2' : (k != k') = false := by simpa using h2
  by_cases h3 : f = f'
  case neg =>
    have h3' : (f != f') = true := by simpa using h3
    by_cases h : f < f'
    case pos => go_wp2; go_ret; exact ⟨by rw [HT.out (by omega)]; rfl, B⟩
    case neg => go_wp2; go_ret; exact ⟨by rw [HF.out (by omega)]; rfl, B⟩
  have h3' : (f != f') = false := by simpa using h3
  by_cases h : t < t'
  case pos => go_wp2; go_ret; exact ⟨by rw [HT.out (by omega)]; rfl, B⟩
  case neg => go_wp2; go_ret; exact ⟨by rw [HF.out (by omega)]; rfl, B⟩

abbrev pOkAt (ps : List PartM) (i : Nat) : Prop := partOk (ps.getD i pz).k (ps.getD i pz).v (ps.getD i pz).s (ps.getD i pz).h.length ∧ (0 < i → (ps.getD (i - 1) pz).k < (ps.getD i pz).k)
abbrev nOkAt (ns : List NeedM) (i : Nat) : Prop := needOk (ns.getD i nz).o (ns.getD i nz).f (ns.getD i nz).t (ns.getD i nz).k ∧ (0 < i → needLt (ns.getD (i - 1) nz).o (ns.getD (i - 1) nz).f (ns.getD (i - 1) nz).t (ns.getD (i - 1) nz).k (ns.getD i nz).o (ns.getD i nz).f (ns.getD i nz).t (ns.getD i nz).k)
/-- What a bundle is. -/
abbrev headOk (B : BunM) : Prop := (0 ≤ B.d ∧ B.d ≤ 1000) ∧ (1 ≤ B.n ∧ B.n ≤ 1000) ∧ verOk B.f ∧ (1 ≤ B.ps.length ∧ B.ps.length ≤ 4) ∧ B.ns.length ≤ 8
abbrev bunOk (B : BunM) : Prop := headOk B ∧ (∀ i, i < B.ps.length → pOkAt B.ps i) ∧ (∀ i, i < B.ns.length → nOkAt B.ns i)
def bOk (B : BunM) : Bool := decide (headOk B) && (decide (∀ i, i < B.ps.length → pOkAt B.ps i) && decide (∀ i, i < B.ns.length → nOkAt B.ns i))
theorem bOk_iff (B : BunM) : bOk B = true ↔ bunOk B := by
  unfold bOk
  rw [Bool.and_eq_true, Bool.and_eq_true, decide_eq_true_iff, decide_eq_true_iff, decide_eq_true_iff]
theorem bOk_dec (B : BunM) : ∃ R, bOk B = R ∧ Hid (bunOk B → R = true) ∧ Hid (¬ bunOk B → R = false) := ⟨_, rfl, (bOk_iff B).2, fun h => by
  cases e : bOk B with
  | false => rfl
  | true => exact absurd ((bOk_iff B).1 e) h⟩
end Go.Proofs.Ytgfjbaigmkdbcaa
