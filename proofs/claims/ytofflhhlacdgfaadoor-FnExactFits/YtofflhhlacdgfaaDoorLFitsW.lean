/-
  What is proved here: the exact law of Fits returns true at every argument, and writes into nothing that was there.
-/
import Derived.Test.YtofflhhlacdgfaaDoorFt0
import Derived.Test.YtofflhhlacdgfaaDoorFt1
import Derived.Test.YtofflhhlacdgfaaDoorJP18
namespace Go.Proofs.YtofflhhlacdgfaaDoor
open Go.RowKit
set_option maxRecDepth 100000
set_option linter.unusedVariables false

def FPart (lo : Nat) (k v s : Int) (n : Nat) (p : List Int) (_ _ : Nat) (w : World) (u : Value) : Prop := ∃ a c, u = partV k v s a n c ∧ w.ownsRow lo 5 1 (.slice a n c) n (U8 p)
theorem fPart_keeps (q lo : Nat) (k v s : Int) (n : Nat) (p : List Int) : Kd.keeps (kv q (FPart lo k v s n p)) := fun _ _ _ _ _ h _ b => by
  obtain ⟨a, c, e, o⟩ := h
  exact ⟨a, c, e, own_below o b⟩
theorem tfPart {P : Program} {ev : Operand → Value} {o : Oper} {q lo : Nat} {w : World} {X : Prop} {k v s : Int} {n : Nat} {p : List Int} {g : FuncId} {args : Array Value} (hlo : lo ≤ w.heap.size)
    (hc : Calls P g args w fun e w' => ∃ a c, e = .returned (partV k v s a n c) ∧ w'.ownsRow w.heap.size 5 1 (.slice a n c) n (U8 p) ∧ Below w.heap.size w w') (h : (execOp ev o).run P w = .ok (.enter g args) w) : Dty X (TOb P ev o (kv q (FPart lo k v s n p)) w) :=
  tr (fun _ => hc.mono (by rintro e' w' ⟨a, c, rfl, o, hb⟩; exact ⟨_, rfl, _, rfl, hb, a, c, rfl, own_lower o hlo⟩)) h
set_option maxHeartbeats 8000000 in
theorem walk_fnExactFits (w : World) (k v s : Int) (ha : Option Addr) (hn hc : Nat) (hs : List Int) (hH : Bs w ha hn hc hs) (hhl : hn ≤ 9223372036854775807) (a : Option Addr) (n c : Nat) (xs : List Int) (hB : Bs w a n c xs) (hT : Tabs w ∧ TabF w) :
    Calls Tryd.prog 9 #[partV k v s ha hn hc, .slice a n c] w fun e w' => e = .returned (.bool true) ∧ Below w.heap.size w w' := by
  obtain ⟨ht, hf⟩ := hT
  obtain ⟨V, hV⟩ : ∃ V, V = w.alloc (.cells #[.int .i64 k, .int .i64 v, .int .i64 s, .slice ha hn hc] 63) := ⟨_, rfl⟩
  have B : Below w.heap.size w V := by rw [hV]; exact (Below.refl _ _).alloc (Nat.le_refl _) _
  have A : Arr V w.heap.size 63 [.int .i64 k, .int .i64 v, .int .i64 s, .slice ha hn hc] := by rw [hV]; exact Arr.new _ _ _
  have hby := hB.2.2.2.1
  have HX : Hid (byteP xs) := hby
  have HY : Hid (byteP hs) := hH.2.2.2.1
  have HB : Hid (∀ Z, Below w.heap.size w Z → Bs Z a n c xs) := fun Z hZ => hB.below hZ
  have HH : Hid (∀ Z, Below w.heap.size w Z → Bs Z ha hn hc hs) := fun Z hZ => hH.below hZ
  have HS : Hid (∀ (a1 : Option Addr) (c1 : Nat) (a2 : Option Addr) (c2 : Nat) Z, Bs Z a1 hn c1 hs → Bs Z a2 n c2 xs → Calls Tryd.prog 44 #[partV k v s a1 hn c1, .slice a2 n c2] Z fun e w' => e = .returned (.bool (fT k v s hs xs)) ∧ Below Z.heap.size Z w') := fun a1 c1 a2 c2 Z h1 h2 => specFits k v s a1 hn c1 hs a2 n c2 xs Z h1 h2
  have HI : Hid (∀ (a1 : Option Addr) (c1 : Nat) (a2 : Option Addr) (c2 : Nat) Z, Below w.heap.size w Z → Bs Z a1 hn c1 hs → Bs Z a2 n c2 xs → Calls Tryd.prog 25 #[partV k v s a1 hn c1, .slice a2 n c2] Z fun e w' => e = .returned (.bool (fT k v s hs xs)) ∧ Below Z.heap.size Z w') := fun a1 c1 a2 c2 Z hb h1 h2 => implFits k v s a1 hn c1 hs a2 n c2 xs Z h1 h2 (ht.below hb) (hf.below hb)
  obtain ⟨R, hR⟩ : ∃ R, R = fT k v s hs xs := ⟨_, rfl⟩
  rw [← hR] at HS HI
  have hRR : (R != R) = false := by simp
  obtain ⟨F, hF⟩ : ∃ F, F = w.heap.size := ⟨_, rfl⟩
  have hFw : w.heap.size ≤ F := by omega
  have hFv : F < V.heap.size := by rw [hF]; exact A.lt
  rw [← hF] at A
  clear hR ht hf hB hH hby
  go_enter Tryd.func9, Tryd.ntmps9
  go_upto_region 1 with fail
  rw [← hV]
  rw [← hF]
  clear hV hF
  by_cases hnn : n ≤ 1048576
  case neg =>
    have hn' : (1048576 : Int) < (n : Int) := by omega
    go_wp2
    go_ret
    exact ⟨rfl, B⟩
  have hn' : ¬ ((1048576 : Int) < (n : Int)) := by omega
  have c0 := A.cell 0
  have c1 := A.cell 1
  have c2 := A.cell 2
  have c3 := A.cell 3
  simp at c0 c1 c2 c3
  go_wp2_with fail
  refine Calls.mono (szPartC k v s ha hn hc 1048576 _ (by omega) (by omega) hhl) ?_
  rintro e w1 ⟨r, rfl, hr, hb⟩
  have hc : Chg V w1 0 0 := .of_below hb 0
  replace A := A.chg hc (by omega)
  replace B := hc.bel B (by omega)
  have z1 := hc.size
  clear hc
  clear hb
  clear c0 c1 c2 c3
  rcases hr with rfl | ⟨r0, _, hsz⟩
  · go_wp2
    go_ret
    exact ⟨rfl, B⟩
  have hr0 : ¬ r < 0 := by omega
  have hhn : hn ≤ 1048576 := by omega
  clear hsz
  have c0 := A.cell 0
  have c1 := A.cell 1
  have c2 := A.cell 2
  have c3 := A.cell 3
  simp at c0 c1 c2 c3
  go_wp2_with fail
  refine Calls.mono (toPartC k v s ha hn hc hs _ (HH.out _ B) (by omega)) ?_
  rintro e w2 ⟨sA, sC, rfl, os, hb⟩
  have hc : Chg w1 w2 0 0 := .of_below hb 0
  replace A := A.chg hc (by omega)
  replace B := hc.bel B (by omega)
  have z2 := hc.size
  clear hc
  clear hb
  have rs := Ro.new os
  clear os c0 c1 c2 c3
  go_wp2_with fail
  refine Calls.mono (toS a n c xs _ (HB.out _ B) (by omega)) ?_
  rintro e w3 ⟨tA, tC, rfl, ot, _, hb⟩
  have hc : Chg w2 w3 0 0 := .of_below hb 0
  replace A := A.chg hc (by omega)
  replace rs := rs.chg hc (by omega)
  replace B := hc.bel B (by omega)
  have z3 := hc.size
  clear hc
  clear hb
  have rt := Ro.new ot
  clear ot
  go_wp2_with fail
  refine Calls.mono (HS.out _ _ _ _ _ (bs_of_own rs.o HY.out) (bs_of_own rt.o HX.out)) ?_
  rintro e w4 ⟨rfl, hb⟩
  have hc : Chg w3 w4 0 0 := .of_below hb 0
  replace A := A.chg hc (by omega)
  replace rs := rs.chg hc (by omega)
  replace rt := rt.chg hc (by omega)
  replace B := hc.bel B (by omega)
  have z4 := hc.size
  clear hc
  clear hb
  clear rs rt
  have c0 := A.cell 0
  have c1 := A.cell 1
  have c2 := A.cell 2
  have c3 := A.cell 3
  simp at c0 c1 c2 c3
  go_wp2_with fail
  refine Calls.mono (toPartC k v s ha hn hc hs _ (HH.out _ B) (by omega)) ?_
  rintro e w5 ⟨pA, pC, rfl, op, hb⟩
  have hc : Chg w4 w5 0 0 := .of_below hb 0
  replace A := A.chg hc (by omega)
  replace B := hc.bel B (by omega)
  have z5 := hc.size
  clear hc
  clear hb
  have rp := Ro.new op
  clear op c0 c1 c2 c3
  obtain ⟨X, hX⟩ : ∃ X, X = w5.alloc (.cells #[.int .i64 k, .int .i64 v, .int .i64 s, .slice pA hn pC] 45) := ⟨_, rfl⟩
  have D : Arr X w5.heap.size 45 [.int .i64 k, .int .i64 v, .int .i64 s, .slice pA hn pC] := by rw [hX]; exact Arr.new _ _ _
  have pD : w5.heap.size < X.heap.size := by rw [hX]; simp
  have hc : Chg w5 X 0 0 := by rw [hX]; exact Chg.alloc _ _ 0
  replace A := A.chg hc (by omega)
  replace rp := rp.chg hc (by omega)
  replace B := hc.bel B (by omega)
  have z6 := hc.size
  clear hc
  obtain ⟨G, hG⟩ : ∃ G, G = w5.heap.size := ⟨_, rfl⟩
  have hGv : w5.heap.size ≤ G := by omega
  have hGX : G < X.heap.size := by omega
  rw [← hG] at D
  go_upto_region 9 with fail
  rw [← hX]
  rw [← hG]
  clear hX hG
  go_wp2_with fail
  refine Calls.mono (toS a n c xs _ (HB.out _ B) (by omega)) ?_
  rintro e w6 ⟨xA, xC, rfl, ox, _, hb⟩
  have hc : Chg X w6 0 0 := .of_below hb 0
  replace A := A.chg hc (by omega)
  replace rp := rp.chg hc (by omega)
  replace D := D.chg hc (by omega)
  replace B := hc.bel B (by omega)
  have z7 := hc.size
  clear hc
  clear hb
  have rx := Ro.new ox
  clear ox
  have d0 := D.cell 0
  have d1 := D.cell 1
  have d2 := D.cell 2
  have d3 := D.cell 3
  simp at d0 d1 d2 d3
  go_wp2_with fail
  refine Calls.mono (HI.out _ _ _ _ _ B (bs_of_own rp.o HY.out) (bs_of_own rx.o HX.out)) ?_
  rintro e w7 ⟨rfl, hb⟩
  have hc : Chg w6 w7 0 0 := .of_below hb 0
  replace A := A.chg hc (by omega)
  replace rp := rp.chg hc (by omega)
  replace D := D.chg hc (by omega)
  replace rx := rx.chg hc (by omega)
  replace B := hc.bel B (by omega)
  have z8 := hc.size
  clear hc
  clear hb
  clear d0 d1 d2 d3
  have c0 := A.cell 0
  have c1 := A.cell 1
  have c2 := A.cell 2
  have c3 := A.cell 3
  simp at c0 c1 c2 c3
  have d0 := D.cell 0
  have d1 := D.cell 1
  have d2 := D.cell 2
  have d3 := D.cell 3
  simp at d0 d1 d2 d3
  have lA := A.lt
  have lD := D.lt
  have HBl : Hid (Below w.heap.size w w7) := B
  clear B
  go_wp2
  try simp only [Act.put]
  refine tame [kc 33 (partV k v s pA hn pC), kc 34 (partV k v s ha hn hc), kv 35 (FPart w7.heap.size k v s hn hs)] 3 (by kernel_rfl) (by kernel_rfl) (by kernel_rfl) (by repeat' first | exact trivial | apply kc_keeps | apply fPart_keeps | constructor) 2 (by kernel_rfl) (fun vv ll hh yW bW => ?_) (fun vv ll hh yW bW F0 ivh aph => ?_)
  · have x0 := (bW.cell (p := ⟨F, _, none⟩) lA).trans c0
    have x1 := (bW.cell (p := ⟨F, _, none⟩) lA).trans c1
    have x2 := (bW.cell (p := ⟨F, _, none⟩) lA).trans c2
    have x3 := (bW.cell (p := ⟨F, _, none⟩) lA).trans c3
    have y0 := (bW.cell (p := ⟨G, _, none⟩) lD).trans d0
    have y1 := (bW.cell (p := ⟨G, _, none⟩) lD).trans d1
    have y2 := (bW.cell (p := ⟨G, _, none⟩) lD).trans d2
    have y3 := (bW.cell (p := ⟨G, _, none⟩) lD).trans d3
    have By := HBl.out.trans (bW.mono HBl.out.size)
    refine ⟨tp ?_, tp ?_, tfPart bW.size (toPartC k v s ha hn hc hs _ (HH.out _ By) (by omega)) (by kernel_rfl), trivial⟩
    all_goals
      simp only [fillK, putT, List.setIfInBounds_toArray, List.set_cons_zero, List.set_cons_succ]
      unfold execOp
      go_simp
      try rfl
  have F2 : FPart w7.heap.size k v s hn hs (ll 2) (hh 2) yW (vv 2) := F0.2.2.1
  clear F0 ivh aph c0 c1 c2 c3 d0 d1 d2 d3 A D lA lD
  obtain ⟨y, hy0⟩ : ∃ z, z = yW := ⟨_, rfl⟩
  rw [← hy0] at bW F2 ⊢
  clear hy0
  obtain ⟨a6, c6, e6, q6⟩ := F2
  refine st_call (i := 3) (o := { dst := some 36, op := Op.call { callee := Callee.value (Operand.func 40), args := #[Operand.tmp 33, Operand.tmp 35], argTypes := #[45, 45] }, type := 4, pos := "exact.go:3452", after := #[{ on := 0, ground := Ground.data }, { on := 2, ground := Ground.data }, { on := 2, ground := Ground.chain }], guard := none }) (by kernel_rfl) rfl rfl (f := 40) (args := #[partV k v s pA hn pC, partV k v s a6 hn c6]) ?_ ?_
  · rw [← e6]
    kernel_rfl
  have hcy : Chg w7 y 0 0 := .of_below bW 0
  replace rp := rp.chg hcy (by omega)
  replace rx := rx.chg hcy (by omega)
  have zy := hcy.size
  clear hcy
  refine Calls.mono (eqPartC k v s pA hn pC a6 c6 hs y (bs_of_own rp.o HY.out) (bs_of_own q6 HY.out) (by omega)) ?_
  rintro e w20 ⟨rfl, hb⟩
  refine ⟨_, rfl, ?_⟩
  have B := (HBl.out.trans (bW.mono HBl.out.size)).trans (hb.mono (HBl.out.trans (bW.mono HBl.out.size)).size)
  have hcz : Chg y w20 0 0 := .of_below hb 0
  replace rx := rx.chg hcz (by omega)
  clear hb hcz q6 e6 rp
  refine st_val (i := 4) (o := { dst := some 37, op := Op.unOp UnOp.not 4 (Operand.tmp 36), type := 4, pos := "exact.go:3452", after := #[{ on := 3, ground := Ground.data }], guard := none }) (by kernel_rfl) rfl rfl (v := .bool false) (w' := w20) (by kernel_rfl) ?_
  refine wpAny_done (by kernel_rfl) ?_ _
  try simp only [Act.put]
  simp only [fillK, putT, List.setIfInBounds_toArray, List.set_cons_zero, List.set_cons_succ]
  go_wp2_with fail
  refine Calls.mono (toS a n c xs _ (HB.out _ B) (by omega)) ?_
  rintro e w21 ⟨yA, yC, rfl, oy, _, hb⟩
  have hc9 : Chg w20 w21 0 0 := .of_below hb 0
  replace rx := rx.chg hc9 (by omega)
  replace B := hc9.bel B (by omega)
  clear hb hc9
  go_wp2_with fail
  refine Calls.mono (eqB xA yA n xC yC xs _ (bs_of_own rx.o HX.out) (bs_of_own oy HX.out) (by omega)) ?_
  rintro e w22 ⟨q, rfl, hw⟩
  rw [hw]
  have B2 : Below w.heap.size w (w21.drewN q) := bel_dN B q
  clear hw rx oy B
  go_wp2
  go_ret
  exact ⟨rfl, B2⟩
end Go.Proofs.YtofflhhlacdgfaaDoor
