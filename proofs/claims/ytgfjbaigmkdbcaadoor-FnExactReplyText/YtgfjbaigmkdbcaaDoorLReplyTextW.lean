/-
  What is proved here: the exact law of ReplyText returns true at every argument, and writes into nothing that was there.
-/
import Derived.Test.YtgfjbaigmkdbcaaDoorT6
import Derived.Test.YtgfjbaigmkdbcaaDoorR0a
import Derived.Test.YtgfjbaigmkdbcaaDoorM4
import Derived.Test.YtgfjbaigmkdbcaaDoorS0
import Derived.Test.YtgfjbaigmkdbcaaDoorSmB
import Derived.Test.YtgfjbaigmkdbcaaDoorSmA
import Derived.Test.YtgfjbaigmkdbcaaDoorLargI
namespace Go.Proofs.YtgfjbaigmkdbcaaDoor
set_option maxRecDepth 100000
open Go.RowKit
set_option linter.unusedVariables false

set_option maxHeartbeats 4000000 in
theorem walk_fnExactReplyText (w : World) (c b n o : Int) (_ : I64R c) (_ : I64R b) (_ : I64R n) (_ : I64R o) (ht : Pow w) :
    Calls Tryd.prog 6 #[rcV c b n o] w fun e w' => e = .returned (.bool true) ∧ Below w.heap.size w w' := by
  obtain ⟨V, hV⟩ : ∃ V, V = w.alloc (.cells #[.int .i64 c, .int .i64 b, .int .i64 n, .int .i64 o] 52) := ⟨_, rfl⟩
  have B : Below w.heap.size w V := by rw [hV]; exact (Below.refl _ _).alloc (Nat.le_refl _) _
  have A : Arr V w.heap.size 52 [.int .i64 c, .int .i64 b, .int .i64 n, .int .i64 o] := by rw [hV]; exact Arr.new _ _ _
  have z0 := A.lt
  have HT : Hid (∀ Z, Below w.heap.size w Z → Pow Z) := fun Z hZ => pow_below ht hZ
  have HS0 := fun Z => specReplyText c b n o Z
  have HI0 := fun Z hZ => implReplyText c b n o Z hZ
  have lb1 := rpL_len c b n o
  have lb2 := rpL_byte c b n o
  generalize hLB : rpL c b n o = LB at HS0 HI0 lb1 lb2
  clear hLB
  obtain ⟨m, em⟩ : ∃ m, m = LB.length := ⟨_, rfl⟩
  rw [← em] at lb1 HS0 HI0
  have Hem : Hid (m = LB.length) := em
  have HLB : Hid (∀ x ∈ LB, 0 ≤ x ∧ x < 256) := lb2
  have HS : Hid (∀ Z, Calls Tryd.prog 22 #[rcV c b n o] Z fun e w' => ∃ v, e = .returned v ∧ w'.ownsRow Z.heap.size 5 1 v m (U8 LB) ∧ Below Z.heap.size Z w') := HS0
  have HI : Hid (∀ Z, Pow Z → Calls Tryd.prog 24 #[rcV c b n o] Z fun e w' => ∃ v, e = .returned v ∧ ownM w' Z.heap.size v m LB ∧ Below Z.heap.size Z w') := HI0
  clear em lb2 ht HS0 HI0
  have c0 := A.cell 0
  have c1 := A.cell 1
  have c2 := A.cell 2
  have c3 := A.cell 3
  simp at c0 c1 c2 c3
  go_enter Tryd.func6, Tryd.ntmps6
  go_upto_region 1 with fail
  rw [← hV]
  clear hV
  go_wp2_with fail
  refine Calls.mono (toReplyC c b n o _) ?_
  rintro e w1 ⟨rfl, hb⟩
  clear c0 c1 c2 c3
  have hc : Chg V w1 0 0 := .of_below hb 0
  replace A := A.chg hc (by omega)
  replace B := hc.bel B (by omega)
  have z1 := hc.size
  clear hc
  clear hb
  go_wp2_with fail
  refine Calls.mono (HS.out _) ?_
  rintro e w2 ⟨vw, rfl, ow, hb⟩
  obtain ⟨wA, wC, rfl, _, _⟩ := Bs.own ow HLB.out
  have hc : Chg w1 w2 0 0 := .of_below hb 0
  replace A := A.chg hc (by omega)
  replace B := hc.bel B (by omega)
  have z2 := hc.size
  clear hc
  clear hb HS
  have Rw := Ro.new ow
  clear ow
  have c0 := A.cell 0
  have c1 := A.cell 1
  have c2 := A.cell 2
  have c3 := A.cell 3
  simp at c0 c1 c2 c3
  go_wp2_with fail
  refine Calls.mono (toReplyC c b n o _) ?_
  rintro e w3 ⟨rfl, hb⟩
  clear c0 c1 c2 c3
  have hc : Chg w2 w3 0 0 := .of_below hb 0
  replace A := A.chg hc (by omega)
  replace Rw := Rw.chg hc (by omega)
  replace B := hc.bel B (by omega)
  have z3 := hc.size
  clear hc
  clear hb
  go_wp2_with fail
  refine Calls.mono (HI.out _ (HT.out _ B)) ?_
  rintro e w4 ⟨vg, rfl, og, hb⟩
  obtain ⟨gA, gC, rfl, _⟩ := og.bs HLB.out
  have hc : Chg w3 w4 0 0 := .of_below hb 0
  replace A := A.chg hc (by omega)
  replace Rw := Rw.chg hc (by omega)
  replace B := hc.bel B (by omega)
  have z4 := hc.size
  clear hc
  clear hb
  have Rg := RoM.new og
  clear og
  go_wp2_with fail
  refine Calls.mono (eqBC gA wA m gC wC LB _ (Rg.bs HLB.out) (bs_of_own Rw.o HLB.out) (by omega)) ?_
  rintro e w5 ⟨rfl, hb⟩
  have hc : Chg w4 w5 0 0 := .of_below hb 0
  replace A := A.chg hc (by omega)
  replace Rw := Rw.chg hc (by omega)
  replace Rg := Rg.chg hc (by omega)
  replace B := hc.bel B (by omega)
  have z5 := hc.size
  clear hc
  clear hb
  go_wp2_with fail
  refine Calls.mono (markBM _ m _ 1 LB _ Rg.o (by omega) (by omega) (by omega)) ?_
  rintro e w6 ⟨rfl, og, g⟩
  have Rg2 := Rg.marked g og
  have hc : Chg w5 w6 _ _ := Rg.gr g
  replace A := A.chg hc (by omega)
  replace Rw := Rw.chg hc (by omega)
  replace B := hc.bel B (by omega)
  have z6 := hc.size
  clear hc
  clear g og Rg
  have HM1 : Hid (∀ x ∈ marks 1 m, 0 ≤ x ∧ x < 256) := marks_byte 1 m
  have hm0 : ¬ ((1 : Int) + (m : Int) < 0) := by omega
  have hmm : ((1 : Int) + (m : Int) != (1 : Int) + (m : Int)) = false := by simp
  go_wp2_with fail
  refine Calls.mono (heldB gA m gC 1 _ (Rg2.bs HM1.out) (by omega) (by omega) (by omega)) ?_
  rintro e w7 ⟨rfl, hw⟩
  have hb : Below w6.heap.size w6 w7 := by rw [hw]; exact Below.refl _ _
  clear hw
  have hc : Chg w6 w7 0 0 := .of_below hb 0
  replace A := A.chg hc (by omega)
  replace Rw := Rw.chg hc (by omega)
  replace Rg2 := Rg2.chg hc (by omega)
  replace B := hc.bel B (by omega)
  have z7 := hc.size
  clear hc
  clear hb
  have c0 := A.cell 0
  have c1 := A.cell 1
  have c2 := A.cell 2
  have c3 := A.cell 3
  simp at c0 c1 c2 c3
  go_wp2_with fail
  refine Calls.mono (toReplyC c b n o _) ?_
  rintro e w8 ⟨rfl, hb⟩
  clear c0 c1 c2 c3
  have hc : Chg w7 w8 0 0 := .of_below hb 0
  replace A := A.chg hc (by omega)
  replace Rw := Rw.chg hc (by omega)
  replace Rg2 := Rg2.chg hc (by omega)
  replace B := hc.bel B (by omega)
  have z8 := hc.size
  clear hc
  clear hb
  go_wp2_with fail
  refine Calls.mono (HI.out _ (HT.out _ B)) ?_
  rintro e w9 ⟨vh, rfl, oh, hb⟩
  obtain ⟨hA, hC, rfl, _⟩ := oh.bs HLB.out
  have hc : Chg w8 w9 0 0 := .of_below hb 0
  replace A := A.chg hc (by omega)
  replace Rw := Rw.chg hc (by omega)
  replace Rg2 := Rg2.chg hc (by omega)
  replace B := hc.bel B (by omega)
  have z9 := hc.size
  clear hc
  clear hb
  have Rh := RoM.new oh
  clear oh
  go_wp2_with fail
  refine Calls.mono (eqBC hA wA m hC wC LB _ (Rh.bs HLB.out) (bs_of_own Rw.o HLB.out) (by omega)) ?_
  rintro e w10 ⟨rfl, hb⟩
  have hc : Chg w9 w10 0 0 := .of_below hb 0
  replace A := A.chg hc (by omega)
  replace Rw := Rw.chg hc (by omega)
  replace Rg2 := Rg2.chg hc (by omega)
  replace Rh := Rh.chg hc (by omega)
  replace B := hc.bel B (by omega)
  have z10 := hc.size
  clear hc
  clear hb
  go_wp2_with fail
  refine Calls.mono (heldB gA m gC 1 _ (Rg2.bs HM1.out) (by omega) (by omega) (by omega)) ?_
  rintro e w11 ⟨rfl, hw⟩
  have hb : Below w10.heap.size w10 w11 := by rw [hw]; exact Below.refl _ _
  clear hw
  have hc : Chg w10 w11 0 0 := .of_below hb 0
  replace A := A.chg hc (by omega)
  replace Rw := Rw.chg hc (by omega)
  replace Rg2 := Rg2.chg hc (by omega)
  replace Rh := Rh.chg hc (by omega)
  replace B := hc.bel B (by omega)
  have z11 := hc.size
  clear hc
  clear hb
  go_wp2
  go_ret
  exact ⟨rfl, B⟩
end Go.Proofs.YtgfjbaigmkdbcaaDoor
