/-
  What is proved here: bytes that are turned at a place, as lists; a store that comes up alone in a region that draws its order; no program is spoken of.
-/
import Derived.Test.YtcnlpdpbkkjkoaaF9g
import Derived.Test.YtcnlpdpbkkjkoaaF9c
import Derived.Test.YtcnlpdpbkkjkoaaTm
namespace Go.Proofs.Ytcnlpdpbkkjkoaa
set_option maxRecDepth 100000
open Go.RowKit

/-- Bits that are cleared: those that x has not and m has. -/
def tpb (b x m : Int) : Int := bits .and .u8 b (bits .or .u8 x (bits .xor .u8 255 m))
/-- Bits that are set. -/
def erb (b m : Int) : Int := bits .or .u8 b m
theorem u8_wrap (v : BitVec 8) : IntKind.u8.wrap (v.toNat : Int) = (v.toNat : Int) := by
  have := v.isLt
  simp [IntKind.wrap, IntKind.signed, IntKind.bits]
  omega
theorem u8_back (v : BitVec 8) : BitVec.ofInt 8 (v.toNat : Int) = v := by
  apply BitVec.eq_of_toNat_eq
  simp
theorem bits_byte (op : BinOp) (x y : Int) : 0 ≤ bits op .u8 x y ∧ bits op .u8 x y < 256 := ⟨bits_lo_u8 op x y, by have := bits_hi_u8 op x y; omega⟩
theorem b_and (x y : Int) : bits .and .u8 x y = ((BitVec.ofInt 8 x &&& BitVec.ofInt 8 y).toNat : Int) := u8_wrap _
theorem b_or (x y : Int) : bits .or .u8 x y = ((BitVec.ofInt 8 x ||| BitVec.ofInt 8 y).toNat : Int) := u8_wrap _
theorem b_xor (x y : Int) : bits .xor .u8 x y = ((BitVec.ofInt 8 x ^^^ BitVec.ofInt 8 y).toNat : Int) := u8_wrap _
theorem b_nand (x y : Int) : bits .andNot .u8 x y = ((BitVec.ofInt 8 x &&& ~~~BitVec.ofInt 8 y).toNat : Int) := u8_wrap _
theorem v255 : BitVec.ofInt 8 255 = BitVec.allOnes 8 := rfl
theorem ones8 : ∀ j : Fin 8, (255#8 : BitVec 8)[j.1] = true := by decide
theorem tpb_eq (b x m : Int) : bits .andNot .u8 b (bits .and .u8 (bits .xor .u8 255 x) m) = tpb b x m := by
  unfold tpb
  rw [b_and, b_nand, b_and, b_or, b_xor, b_xor, u8_back, u8_back, u8_back, u8_back, v255]
  congr 2
  ext i hi
  have e : (255#8 : BitVec 8)[i] = true := ones8 ⟨i, hi⟩
  simp [e]
theorem erb_eq (b m : Int) : bits .or .u8 b (bits .and .u8 255 m) = erb b m := by
  unfold erb
  rw [b_or, b_and, b_or, u8_back, v255, BitVec.allOnes_and]

/-- The bytes from I on, k of them, are turned. -/
def tn (f : Nat → Int → Int) (bs : List Int) (I k : Nat) : List Int := (List.range bs.length).map fun j => if I ≤ j ∧ j < I + k then f (j - I) (bs.getD j 0) else bs.getD j 0
theorem tn_len (f : Nat → Int → Int) (bs : List Int) (I k : Nat) : (tn f bs I k).length = bs.length := by simp [tn]
theorem tn_get (f : Nat → Int → Int) (bs : List Int) (I k j : Nat) (hj : j < bs.length) : (tn f bs I k).getD j 0 = if I ≤ j ∧ j < I + k then f (j - I) (bs.getD j 0) else bs.getD j 0 := by
  simp [tn, hj]
theorem tn_zero (f : Nat → Int → Int) (bs : List Int) (I : Nat) : tn f bs I 0 = bs := by
  refine List.ext_getElem (tn_len f bs I 0) fun j h1 h2 => ?_
  have h3 := tn_get f bs I 0 j h2
  rw [if_neg (by omega)] at h3
  simpa [h1, h2] using h3
theorem tn_set (f : Nat → Int → Int) (bs : List Int) (I k : Nat) (_ : I + k < bs.length) (v : Int) (hv : v = f k (bs.getD (I + k) 0)) :
    (U8 (tn f bs I k)).set (I + k) (.int .u8 v) = U8 (tn f bs I (k + 1)) := by
  refine List.ext_getElem (by simp [tn_len]) fun j h1 h2 => ?_
  have hj : j < bs.length := by simpa [tn_len] using h1
  have e1 := tn_get f bs I k j hj
  have e2 := tn_get f bs I (k + 1) j hj
  have g1 : j < (tn f bs I k).length := by rw [tn_len]; exact hj
  have g2 : j < (tn f bs I (k + 1)).length := by rw [tn_len]; exact hj
  simp only [List.getD_eq_getElem?_getD, List.getElem?_eq_getElem g1, List.getElem?_eq_getElem g2, Option.getD_some] at e1 e2
  rw [List.getElem_set]
  simp only [U8, List.getElem_map]
  split
  · rename_i h
    subst h
    rw [e2, if_pos (by omega), hv]
    congr 2
    simp
  · rw [e1, e2]
    by_cases h : I ≤ j ∧ j < I + k
    · rw [if_pos h, if_pos (by omega)]
    · rw [if_neg h, if_neg (by omega)]
theorem tn_byte {f : Nat → Int → Int} {bs : List Int} (h : ∀ x ∈ bs, 0 ≤ x ∧ x < 256) (hf : ∀ i b, 0 ≤ f i b ∧ f i b < 256) (I k : Nat) : ∀ x ∈ tn f bs I k, 0 ≤ x ∧ x < 256 := by
  intro x hx
  simp only [tn, List.mem_map, List.mem_range] at hx
  obtain ⟨j, hj, rfl⟩ := hx
  split
  · exact hf _ _
  · exact get_byte h hj
theorem tn_congr {f g : Nat → Int → Int} (bs : List Int) (I k : Nat) (h : ∀ i b, i < k → f i b = g i b) : tn f bs I k = tn g bs I k := by
  unfold tn
  refine List.map_congr_left fun j _ => ?_
  split
  · rename_i hj
    exact h _ _ (by omega)
  · rfl

theorem grown_of_below {w w' : World} {row : Option Nat} (h : Below w.heap.size w w') : w.grownBy w' row := ⟨h.os, h.tape, h.output, h.size, fun i hi _ => h.block i hi⟩
/-- A slice that does not lie in a block. -/
def OffB (a : Option Addr) (n g : Nat) : Prop := n = 0 ∨ ∀ p, a = some p → p.block ≠ g
theorem Bs.grownO {w w' : World} {a : Option Addr} {n c g : Nat} {xs : List Int} (h : Bs w a n c xs) (hg : w.grownBy w' (some g)) (ho : OffB a n g) : Bs w' a n c xs := by
  obtain ⟨h0, h1, h2, h3, h⟩ := h
  refine ⟨h0, h1, h2, h3, ?_⟩
  rcases h with h | ⟨b, o, rfl, hb, hc⟩
  · exact .inl h
  · rcases ho with ho | ho
    · exact .inl ho
    refine .inr ⟨b, o, rfl, Nat.lt_of_lt_of_le hb hg.size, fun j hj => ?_⟩
    have e : w'.heap[b]? = w.heap[b]? := hg.block b hb (fun e => ho _ rfl (Option.some.inj e))
    rw [← hc j hj]
    simp only [World.cell?, e]
theorem Bs.off {w : World} {a : Option Addr} {n c : Nat} {xs : List Int} (h : Bs w a n c xs) {g : Nat} (hg : w.heap.size ≤ g) : OffB a n g := by
  obtain ⟨_, _, _, _, h⟩ := h
  rcases h with h | ⟨b, o, rfl, hb, _⟩
  · exact .inl h
  · refine .inr fun p hp => ?_
    injection hp with hp
    subst hp
    simp only
    omega
section
variable {P : Program} {ops : Array Oper} {Q : Exit → Act → World → Prop}
/-- A store that comes up alone. -/
theorem st_do {listed : Array Bool} {fuel i : Nat} {o : Oper} {a : Act} {w w' : World} (hr : Region.ready .any ops listed = [i]) (ho : ops[i]? = some o) (hg : o.guard = none) (hd : o.dst = none) (hx : (execOp a.eval o).run P w = .ok .skip w')
    (h : wpAny P .any ops Q fuel (listed.setIfInBounds i true) a w') : wpAny P .any ops Q (fuel + 1) listed a w := by
  refine ⟨fun h0 => absurd (hr.symm.trans h0) (by simp), fun j hj => ?_⟩
  rw [hr] at hj
  rcases List.mem_singleton.1 hj with rfl
  unfold wpOp
  simp only [ho]
  rw [if_pos (by simp [Region.wanted, hg])]
  refine .inl ?_
  unfold Oper.wp
  rw [hx]
  show wpAny P .any ops Q fuel (listed.setIfInBounds j true) _ w'
  first | exact h | simpa [hd, Act.put] using h
end
end Go.Proofs.Ytcnlpdpbkkjkoaa
