/-
  What is proved here: a bundle of its own as the answer of a call in a region that draws its order.
-/
import Derived.Test.YtgfjbaigmkdbcaaU0
import Derived.Test.YtgfjbaigmkdbcaaTm
import Derived.Test.YtgfjbaigmkdbcaaC0s
namespace Go.Proofs.Ytgfjbaigmkdbcaa
set_option maxRecDepth 100000
open Go.RowKit

def Fu (lo : Nat) (d n f : Int) (pn nn : Nat) (ps : List PartM) (ns : List NeedM) (_ _ : Nat) (w : World) (v : Value) : Prop := ∃ pa pc na nc, v = bunV d n f pa pn pc na nn nc ∧ Pq lo w pa pn pc ps ∧ w.ownsRow lo 115 4 (.slice na nn nc) nn (FL (ns.map nrc))
theorem fu_keeps (q lo : Nat) (d n f : Int) (pn nn : Nat) (ps : List PartM) (ns : List NeedM) : Kd.keeps (kv q (Fu lo d n f pn nn ps ns)) := fun _ _ _ _ _ h _ b => by
  obtain ⟨pa, pc, na, nc, e, o1, o2⟩ := h
  exact ⟨pa, pc, na, nc, e, o1.below b, own_below o2 b⟩
theorem tfu {P : Program} {ev : Operand → Value} {o : Oper} {q lo : Nat} {w : World} {X : Prop} {d n f : Int} {pn nn : Nat} {ps : List PartM} {ns : List NeedM} {g : FuncId} {args : Array Value} (hlo : lo ≤ w.heap.size)
    (hc : Calls P g args w fun e w' => ∃ pa pc na nc, e = .returned (bunV d n f pa pn pc na nn nc) ∧ Pq w.heap.size w' pa pn pc ps ∧ w'.ownsRow w.heap.size 115 4 (.slice na nn nc) nn (FL (ns.map nrc)) ∧ Below w.heap.size w w') (h : (execOp ev o).run P w = .ok (.enter g args) w) : Dty X (TOb P ev o (kv q (Fu lo d n f pn nn ps ns)) w) :=
  tr (fun _ => hc.mono (by rintro e' w' ⟨pa, pc, na, nc, rfl, o1, o2, hb⟩; exact ⟨_, rfl, _, rfl, hb, pa, pc, na, nc, rfl, o1.base hlo, own_base o2 hlo⟩)) h
end Go.Proofs.Ytgfjbaigmkdbcaa
