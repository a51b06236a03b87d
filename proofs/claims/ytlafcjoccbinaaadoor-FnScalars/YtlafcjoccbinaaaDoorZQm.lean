/-
  What is proved here: the program's six functions of multipliers keep what the laws' walks ask of them; where the program's variable holds the order.
-/
import Derived.Test.YtlafcjoccbinaaaDoorZQj
import Derived.Test.YtlafcjoccbinaaaDoorZQk
import Derived.Test.YtlafcjoccbinaaaDoorZKt
namespace Go.Proofs.YtlafcjoccbinaaaDoor
open Go.RowKit
set_option maxRecDepth 100000

/-- The program's variable holds the order. -/
def Vs5 (Z : World) : Prop := Vr Z 0 (I64 OL)
theorem vs5_kept : ∀ Z Z' : World, Below Z.heap.size Z Z' → Vs5 Z → Vs5 Z' := fun _ _ hb h => Vr.kept h hb
theorem cAdd5 : CTwo Vs5 12 (· + ·) := fun a n c xs b m d ys Z hx hy hV =>
  (implScAdd a n c xs b m d ys Z hx hy hV).mono fun _ _ ⟨v, he, hF, hb⟩ => ⟨v, he, feR_of hF (sc2_int _ _ _), hb⟩
theorem cMul5 : CTwo Vs5 15 (· * ·) := fun a n c xs b m d ys Z hx hy hV =>
  (implScMul a n c xs b m d ys Z hx hy hV).mono fun _ _ ⟨v, he, hF, hb⟩ => ⟨v, he, feR_of hF (sc2_int _ _ _), hb⟩
theorem cRd5 : CRd Vs5 13 rdOkO rdFO := fun a n c bs Z hx hV =>
  (implScRead a n c bs Z hx hV).mono fun _ _ ⟨v, he, hF, hb⟩ => ⟨v, he, feR_of hF (rdFO_int hx.2.2.2.1), hb⟩
theorem cWd5 : CRd Vs5 17 wdOk wdF := fun a n c bs Z hx hV =>
  (implScWide a n c bs Z hx hV).mono fun _ _ ⟨v, he, hF, hb⟩ => ⟨v, he, feR_of hF (wdF_int bs), hb⟩
theorem cOk5 : COk Vs5 18 := fun a n c xs Z hx hV => implScOk a n c xs Z hx hV
theorem cBt5 : CBt Vs5 16 := fun a n c xs Z hx hV =>
  (implScBytes a n c xs Z hx hV).mono fun e w' ⟨v, he, ho, hb⟩ => by
    obtain ⟨a', c', rfl, _, hi⟩ := Bs.own ho (btFO_byte xs)
    exact ⟨a', c', he, hi, hb⟩
end Go.Proofs.YtlafcjoccbinaaaDoor
