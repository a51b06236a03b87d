/-
  What is proved here: what both sides' lines come to where the numbers stand in a literal.
-/
import Derived.Test.YtgfjbaigmkdbcaaDoorT2
import Derived.Test.YtgfjbaigmkdbcaaDoorM3
namespace Go.Proofs.YtgfjbaigmkdbcaaDoor
open Go.RowKit
set_option maxRecDepth 100000
set_option maxHeartbeats 4000000
set_option linter.unusedVariables false

abbrev I6 (cs : List Int) : List Value := cs.map fun x => Value.int .i64 x
theorem isLit {W : World} {g m : Nat} {cs : List Int} (A : Arr W g 3 (I6 cs)) (hm : cs.length = m) (hb : nsOk cs) : Is W (some ⟨g, 0, none⟩) m m cs := by
  subst hm
  exact ⟨(fun h => by cases h), rfl, Nat.le_refl _, (fun x hx => by have := hb x hx; omega), .inr ⟨g, 0, rfl, A.lt, fun j hj => by
    have := A.cell j
    rw [List.getElem?_map, List.getElem?_eq_getElem hj] at this
    simpa [List.getD_eq_getElem?_getD, hj] using this⟩⟩
theorem isNil (W : World) : Is W none 0 0 [] := ⟨(fun _ => rfl), rfl, Nat.le_refl _, (by intro x hx; cases hx), .inl rfl⟩
theorem grow_below {w w' : World} (g : w.grownBy w' none) : Below w.heap.size w w' := ⟨g.os, g.tape, g.output, g.size, fun k hk => g.block k hk (by simp)⟩
theorem specLine (s : ByteArray) (a : Option Addr) (m c : Nat) (ns : List Int) (w : World) (hs : s.size ≤ 1000) (hI : Is w a m c ns) (hm : m ≤ 100) (hns : nsOk ns) :
    Calls Tryd.prog 28 #[.slice none 0 0, .string s, .slice a m c] w fun e w' => ∃ v, e = .returned v ∧ w'.ownsRow w.heap.size 5 1 v (lnL (stB s) ns).length (U8 (lnL (stB s) ns)) ∧ Below w.heap.size w w' := by
  refine Calls.mono (specL8words w.heap.size (.slice none 0 0) 0 [] s a m c ns w (World.ownsRow_nil _ _ _ _) (Nat.le_refl _) (by omega) (by omega) hI hm hns (by intro ad _ h; cases h)) ?_
  rintro e w' ⟨v, rfl, o, g⟩
  exact ⟨v, rfl, by simpa using o, grow_below g⟩
theorem litBelow (w : World) (o : Obj) : Below w.heap.size w (w.alloc o) := (Below.refl _ _).alloc (Nat.le_refl _) _
theorem specLit (s : ByteArray) (cs : List Int) (m : Nat) (w : World) (hs : s.size ≤ 1000) (hm : cs.length = m) (h100 : m ≤ 100) (hc : nsOk cs) :
    Calls Tryd.prog 28 #[.slice none 0 0, .string s, .slice (some ⟨w.heap.size, 0, none⟩) m m] (w.alloc (.cells (I6 cs).toArray 3)) fun e w' => ∃ v, e = .returned v ∧ w'.ownsRow w.heap.size 5 1 v (lnL (stB s) cs).length (U8 (lnL (stB s) cs)) ∧ Below w.heap.size w w' := by
  have b := litBelow w (.cells (I6 cs).toArray 3)
  refine Calls.mono (specLine s _ m m cs _ hs (isLit (Arr.new w (I6 cs) 3) hm hc) h100 hc) ?_
  rintro e w' ⟨v, rfl, o, hb⟩
  exact ⟨v, rfl, own_base o b.size, b.trans (hb.mono b.size)⟩
theorem specNil (s : ByteArray) (w : World) (hs : s.size ≤ 1000) :
    Calls Tryd.prog 28 #[.slice none 0 0, .string s, .slice none 0 0] w fun e w' => ∃ v, e = .returned v ∧ w'.ownsRow w.heap.size 5 1 v (lnL (stB s) []).length (U8 (lnL (stB s) [])) ∧ Below w.heap.size w w' :=
  specLine s none 0 0 [] w hs (isNil w) (by omega) (by intro x hx; cases hx)
theorem pow_below {w w' : World} (h : Pow w) (b : Below w.heap.size w w') : Pow w' := Lib.tabBelow_of_tabIs h _ b
theorem implLit (s : ByteArray) (cs : List Int) (m : Nat) (w : World) (ht : Pow w) (hs : s.size ≤ 1000) (hm : cs.length = m) (h100 : m ≤ 100) (hc : nsOk cs) :
    Calls Tryd.prog 32 #[.string s, .slice (some ⟨w.heap.size, 0, none⟩) m m] (w.alloc (.cells (I6 cs).toArray 3)) fun e w' => ∃ v, e = .returned v ∧ ownM w' w.heap.size v (lnL (stB s) cs).length (lnL (stB s) cs) ∧ Below w.heap.size w w' := by
  have b := litBelow w (.cells (I6 cs).toArray 3)
  refine Calls.mono (implLineOf s _ m m cs _ hs (isLit (Arr.new w (I6 cs) 3) hm hc) h100 hc (pow_below ht b)) ?_
  rintro e w' ⟨v, rfl, o, hb⟩
  exact ⟨v, rfl, o.lower b.size, b.trans (hb.mono b.size)⟩
theorem implNil (s : ByteArray) (w : World) (ht : Pow w) (hs : s.size ≤ 1000) :
    Calls Tryd.prog 32 #[.string s, .slice none 0 0] w fun e w' => ∃ v, e = .returned v ∧ ownM w' w.heap.size v (lnL (stB s) []).length (lnL (stB s) []) ∧ Below w.heap.size w w' :=
  implLineOf s none 0 0 [] w hs (isNil w) (by omega) (by intro x hx; cases hx) ht
end Go.Proofs.YtgfjbaigmkdbcaaDoor
