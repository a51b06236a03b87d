/-
  What is proved here: bits of bytes; a store, a call or a value that comes up alone in a region that draws its order; no program is spoken of.
-/
import Derived.Test.YtofflhhlacdgfaaDoorTm
namespace Go.Proofs.YtofflhhlacdgfaaDoor
set_option maxRecDepth 100000
open Go.RowKit

theorem u8_wrap (v : BitVec 8) : IntKind.u8.wrap (v.toNat : Int) = (v.toNat : Int) := by
  have := v.isLt
  simp [IntKind.wrap, IntKind.signed, IntKind.bits]
  omega
theorem u8_back (v : BitVec 8) : BitVec.ofInt 8 (v.toNat : Int) = v := by
  apply BitVec.eq_of_toNat_eq
  simp
theorem bits_byte (op : BinOp) (x y : Int) : 0 ≤ bits op .u8 x y ∧ bits op .u8 x y < 256 := ⟨bits_lo_u8 op x y, by have := bits_hi_u8 op x y; omega⟩
theorem b_and (x y : Int) : bits .and .u8 x y = ((BitVec.ofInt 8 x &&& BitVec.ofInt 8 y).toNat : Int) := u8_wrap _
theorem b_or (x y : Int) : bits .or .u8 x y = ((BitVec.ofInt 8 x ||| BitVec.ofInt 8 y).toNat : Int) := u8_wrap _
theorem b_xor (x y : Int) : bits .xor .u8 x y = ((BitVec.ofInt 8 x ^^^ BitVec.ofInt 8 y).toNat : Int) := u8_wrap _
theorem b_nand (x y : Int) : bits .andNot .u8 x y = ((BitVec.ofInt 8 x &&& ~~~BitVec.ofInt 8 y).toNat : Int) := u8_wrap _
theorem v255 : BitVec.ofInt 8 255 = BitVec.allOnes 8 := rfl
theorem ones8 : ∀ j : Fin 8, (255#8 : BitVec 8)[j.1] = true := by decide
section
variable {P : Program} {ops : Array Oper} {Q : Exit → Act → World → Prop}
/-- A store that comes up alone. -/
theorem st_do {listed : Array Bool} {fuel i : Nat} {o : Oper} {a : Act} {w w' : World} (hr : Region.ready .any ops listed = [i]) (ho : ops[i]? = some o) (hg : o.guard = none) (hd : o.dst = none) (hx : (execOp a.eval o).run P w = .ok .skip w')
    (h : wpAny P .any ops Q fuel (listed.setIfInBounds i true) a w') : wpAny P .any ops Q (fuel + 1) listed a w := by
  refine ⟨fun h0 => absurd (hr.symm.trans h0) (by simp), fun j hj => ?_⟩
  rw [hr] at hj
  rcases List.mem_singleton.1 hj with rfl
  unfold wpOp
  simp only [ho]
  rw [if_pos (by simp [Region.wanted, hg])]
  refine .inl ?_
  unfold Oper.wp
  rw [hx]
  show wpAny P .any ops Q fuel (listed.setIfInBounds j true) _ w'
  first | exact h | simpa [hd, Act.put] using h
theorem st_call {listed : Array Bool} {fuel i : Nat} {o : Oper} {a : Act} {w : World} {f : FuncId} {args : Array Value} (hr : Region.ready .any ops listed = [i]) (ho : ops[i]? = some o) (hg : o.guard = none) (hx : (execOp a.eval o).run P w = .ok (.enter f args) w)
    (h : Calls P f args w fun e w' => ∃ v, e = .returned v ∧ wpAny P .any ops Q fuel (listed.setIfInBounds i true) (a.put o.dst v) w') : wpAny P .any ops Q (fuel + 1) listed a w := by
  refine ⟨fun h0 => absurd (hr.symm.trans h0) (by simp), fun j hj => ?_⟩
  rw [hr] at hj
  rcases List.mem_singleton.1 hj with rfl
  unfold wpOp
  simp only [ho]
  rw [if_pos (by simp [Region.wanted, hg])]
  refine .inl ?_
  unfold Oper.wp
  rw [hx]
  show Calls P f args w _
  refine h.mono ?_
  rintro e w' ⟨v, rfl, h⟩
  exact h
theorem st_val {listed : Array Bool} {fuel i : Nat} {o : Oper} {a : Act} {w w' : World} {v : Value} (hr : Region.ready .any ops listed = [i]) (ho : ops[i]? = some o) (hg : o.guard = none) (hx : (execOp a.eval o).run P w = .ok (.value v) w')
    (h : wpAny P .any ops Q fuel (listed.setIfInBounds i true) (a.put o.dst v) w') : wpAny P .any ops Q (fuel + 1) listed a w := by
  refine ⟨fun h0 => absurd (hr.symm.trans h0) (by simp), fun j hj => ?_⟩
  rw [hr] at hj
  rcases List.mem_singleton.1 hj with rfl
  unfold wpOp
  simp only [ho]
  rw [if_pos (by simp [Region.wanted, hg])]
  refine .inl ?_
  unfold Oper.wp
  rw [hx]
  exact h
end
end Go.Proofs.YtofflhhlacdgfaaDoor
