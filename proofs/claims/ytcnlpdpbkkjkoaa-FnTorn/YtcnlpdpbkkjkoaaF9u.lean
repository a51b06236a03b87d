/-
  What is proved here: a flash of its own as the answer of a call in a region that draws its order; no program is spoken of.
-/
import Derived.Test.YtcnlpdpbkkjkoaaF9v
import Derived.Test.YtcnlpdpbkkjkoaaF9q
namespace Go.Proofs.Ytcnlpdpbkkjkoaa
set_option maxRecDepth 100000
open Go.RowKit

def Fn9 (nB nW : Nat) (bs ws : List Int) (lo hi : Nat) (w : World) (v : Value) : Prop := ∃ a c a' c', v = flV a nB c a' nW c' ∧ OwnFl lo w a nB c a' nW c' bs ws ∧ In (.slice a nB c) lo hi ∧ In (.slice a' nW c') lo hi
theorem fn9_keeps (d nB nW : Nat) (bs ws : List Int) : Kd.keeps (kv d (Fn9 nB nW bs ws)) := fun _ _ _ _ _ h hz b => by
  obtain ⟨a, c, a', c', e, o, i1, i2⟩ := h
  exact ⟨a, c, a', c', e, ⟨own_chg o.ob i1 (.of_below b _) (.inl (by exact hz)), own_chg o.ow i2 (.of_below b _) (.inl (by exact hz)), o.ap⟩, i1, i2⟩
theorem tfl {P : Program} {ev : Operand → Value} {o : Oper} {d : Nat} {w : World} {X : Prop} {nB nW : Nat} {bs ws : List Int} {f : FuncId} {args : Array Value}
    (hc : Calls P f args w fun e w' => ∃ a c a' c', e = .returned (flV a nB c a' nW c') ∧ OwnFl w.heap.size w' a nB c a' nW c' bs ws ∧ Below w.heap.size w w') (h : (execOp ev o).run P w = .ok (.enter f args) w) : Dty X (TOb P ev o (kv d (Fn9 nB nW bs ws)) w) :=
  tr (fun _ => hc.mono (by rintro e' w' ⟨a, c, a', c', rfl, ho, hb⟩; exact ⟨_, rfl, _, rfl, hb, a, c, a', c', rfl, ho, In.of ho.ob, In.of ho.ow⟩)) h
end Go.Proofs.Ytcnlpdpbkkjkoaa
