/-
  What is proved here: what the methods want, number, count and hash of the program's reader do: they give back what stands there, or give up by a panic.
-/
import Derived.Test.YtofflhhlacdgfaaDoorRd0
import Derived.Test.YtofflhhlacdgfaaDoorA1Get2
import Derived.Test.YtofflhhlacdgfaaDoorJM11
import Derived.Test.YtofflhhlacdgfaaDoorTm
import Derived.Test.YtofflhhlacdgfaaDoorJM8
import Derived.Test.YtofflhhlacdgfaaDoorJM6
import Derived.Test.YtofflhhlacdgfaaDoorJM21
import Derived.WalkLawsBesides
namespace Go.Proofs.YtofflhhlacdgfaaDoor
open Go.RowKit Ma
set_option maxRecDepth 100000
set_option maxHeartbeats 4000000
set_option linter.unusedVariables false

/-- The call gives up. -/
def Dead (e : Ending) : Prop := ∃ (T : TypeId) (pv : Value), e = .panicked [{ v := .iface T pv, recovered := false }]
/-- The error that it gives up by is laid. -/
def Err (w : World) : Prop := ∃ (T : TypeId) (pv : Value), Vr w 0 [.iface T pv]
theorem Err.below {w w' : World} (h : Err w) (hb : Below w.heap.size w w') : Err w' := by
  obtain ⟨T, pv, h⟩ := h
  exact ⟨T, pv, h.kept hb⟩
theorem Err.grown {w w' : World} {R : Nat} (h : Err w) (hg : w.grownBy w' (some R)) (hR : R ≠ 0) : Err w' := by
  obtain ⟨T, pv, t, z, h⟩ := h
  refine ⟨T, pv, t, z, ?_⟩
  rw [hg.block _ (Array.getElem?_eq_some_iff.1 h).1 (by intro e; injection e with e; exact hR e.symm)]
  exact h
theorem rdWant (R : Nat) (q : Bool) (w : World) (he : Err w) :
    Calls Tryd.prog 65 #[.pointer (some ⟨R, 0, none⟩), .bool q] w fun e w' => w' = w ∧ ((q = true ∧ e = .returned (.tuple #[])) ∨ (q = false ∧ Dead e)) := by
  obtain ⟨T, pv, hv⟩ := he
  have c0 := hv.cell 0
  simp at c0
  clear hv
  cases q
  · go_enter Tryd.func65, Tryd.ntmps65
    go_wp2
    exact ⟨rfl, rfl, .inr ⟨trivial, _, _, rfl⟩⟩
  · go_enter Tryd.func65, Tryd.ntmps65
    go_wp2
    exact ⟨rfl, .tuple #[], results_none rfl _ _ _, rfl, .inl ⟨trivial, rfl⟩⟩
/-- The reader: its bytes and where it stands. -/
abbrev RdC (a : Option Addr) (n c p : Nat) : List Value := [.slice a n c, .int .i64 (p : Int)]
theorem rdNumber (R : Nat) (a : Option Addr) (n c p : Nat) (xs : List Int) (w : World) (A : Arr w R 82 (RdC a n c p)) (hb : Bs w a n c xs) (hn : n ≤ 1048576) (hp : p ≤ n) (he : Err w) :
    Calls Tryd.prog 106 #[.pointer (some ⟨R, 0, none⟩)] w fun e w' => (∃ v q, rnum xs p = some (v, q) ∧ e = .returned (.int .i64 v) ∧ q ≤ n ∧ w.grownBy w' (some R) ∧ Arr w' R 82 (RdC a n c q)) ∨ (rnum xs p = none ∧ Dead e ∧ w.grownBy w' (some R)) := by
  have hlen := hb.2.1
  have hy : ByL xs := hb.2.2.2.1
  obtain ⟨gv, gn, hG⟩ : ∃ gv gn, getN xs (p : Int) = (gv, gn) := ⟨(getN xs (p : Int)).1, (getN xs (p : Int)).2, Prod.ext rfl rfl⟩
  have HB : Hid (∀ Z, Below w.heap.size w Z → Calls Tryd.prog 128 #[.slice a n c, .int .i64 (p : Int)] Z fun e w' => e = .returned (.tuple #[.int .i64 gv, .int .i64 gn]) ∧ Below Z.heap.size Z w') := fun Z hZ => (implGet a n c xs p Z (hb.below hZ) (by omega) (by omega)).mono (by rintro e w' ⟨rfl, rfl⟩; rw [hG]; exact ⟨rfl, Below.refl _ _⟩)
  have HR : Hid ((∃ v q, rnum xs p = some (v, q) ∧ (gv, gn) = (v, (q : Int)) ∧ q ≤ xs.length ∧ 0 ≤ v ∧ v ≤ 2147483647) ∨ (rnum xs p = none ∧ (gv, gn) = (0, -1))) := by rw [← hG]; exact rnum_get hy
  have lA := A.lt
  have c0 := A.cell 0
  have c1 := A.cell 1
  simp at c0 c1
  go_enter Tryd.func106, Tryd.ntmps106
  go_upto_region 1 with fail
  try simp only [Act.put]
  refine tame [kc 6 (.pointer (some ⟨R, 0, none⟩)), kc 7 (.pointer (some ⟨R, 0, none⟩)), kc 8 (.pointer (some ⟨R, 0, none⟩)), kc 9 (.slice a n c), kc 10 (.pointer (some ⟨R, 0, none⟩)), kc 11 (.pointer (some ⟨R, 0, none⟩)), kc 12 (.pointer (some ⟨R, 1, none⟩)), kc 13 (.int .i64 (p : Int)), kc 14 (.tuple #[.int .i64 gv, .int .i64 gn]), kc 5 (.tuple #[.int .i64 gv, .int .i64 gn]), kc 15 (.int .i64 gv), kc 16 (.int .i64 gn), kc 3 (.int .i64 gv), kc 4 (.int .i64 gn)] 14 (by kernel_rfl) (by kernel_rfl) (by kernel_rfl) (by repeat' first | exact trivial | apply kc_keeps | constructor) 0 (by kernel_rfl) (fun vv ll hh yW bW => ?_) (fun vv ll hh yW bW F0 ivh aph => ?_)
  · have x0 := (bW.cell (p := ⟨R, 0, none⟩) lA).trans c0
    have x1 := (bW.cell (p := ⟨R, 1, none⟩) lA).trans c1
    refine ⟨tp (by kernel_rfl), tp ?_, tp (by kernel_rfl), tp ?_, tp (by kernel_rfl), tp ?_, tp (by kernel_rfl), tp ?_, tc (HB.out _ bW) (by kernel_rfl), tp (by kernel_rfl), tp (by kernel_rfl), tp (by kernel_rfl), tp (by kernel_rfl), tp (by kernel_rfl), trivial⟩
    all_goals
      simp only [fillK, putT, List.setIfInBounds_toArray, List.set_cons_zero, List.set_cons_succ]
      unfold execOp
      try go_simp
      first | rfl | omega | skip
  clear F0 ivh aph
  obtain ⟨y, hy⟩ : ∃ z, z = yW := ⟨_, rfl⟩
  rw [← hy] at bW ⊢
  clear hy
  refine wpAny_done (by kernel_rfl) ?_ _
  simp only [fillK, putT, List.setIfInBounds_toArray, List.set_cons_zero, List.set_cons_succ]

  have HA : Hid (Arr y R 82 (RdC a n c p)) := A.kept bW
  have HE : Hid (Err y) := he.below bW
  have HW : Hid (Below w.heap.size w y) := bW
  clear A he bW HB hb lA c0 c1
  rcases HR.out with ⟨v, q, hr, hg, hq, hv0, hv1⟩ | ⟨hr, hg⟩
  · injection hg with h1 h2
    subst h1
    subst h2
    have hge : (0 : Int) ≤ (q : Int) := Int.natCast_nonneg _
    go_wp2_with fail
    refine (rdWant R true _ HE.out).mono ?_
    rintro e w1 ⟨rfl, ⟨_, rfl⟩ | ⟨h, _⟩⟩
    case inr => cases h
    have c1 := HA.out.cell 1
    simp at c1
    have fA := HA.out.frozen
    have HA2 : Hid (Arr (w1.setCell ⟨R, 1, none⟩ (.int .i64 (q : Int))) R 82 (RdC a n c q)) := HA.out.set 1 _
    have HG2 : Hid (w.grownBy (w1.setCell ⟨R, 1, none⟩ (.int .i64 (q : Int))) (some R)) := grown_trans (show w.grownBy w1 (some R) from ⟨HW.out.os, HW.out.tape, HW.out.output, HW.out.size, fun i hi _ => HW.out.block i hi⟩) (cur_grown2 w1 R _ 1)
    go_wp2
    go_ret
    exact .inl ⟨_, q, hr, rfl, by omega, HG2.out, HA2.out⟩
  · injection hg with h1 h2
    subst h1
    subst h2
    have HG2 : Hid (w.grownBy y (some R)) := ⟨HW.out.os, HW.out.tape, HW.out.output, HW.out.size, fun i hi _ => HW.out.block i hi⟩
    go_wp2_with fail
    refine (rdWant R false _ HE.out).mono ?_
    rintro e w1 ⟨rfl, ⟨h, _⟩ | ⟨_, hd⟩⟩
    case inl => cases h
    obtain ⟨T, pv, rfl⟩ := hd
    exact ⟨rfl, .inr ⟨hr, ⟨_, _, rfl⟩, HG2.out⟩⟩
theorem bs_gr {W W' : World} {a : Option Addr} {n c R : Nat} {xs : List Int} (h : Bs W a n c xs) (hg : W.grownBy W' (some R)) (hne : ∀ b o, a = some ⟨b, o, none⟩ → 0 < n → b ≠ R) : Bs W' a n c xs := by
  obtain ⟨h0, h1, h2, h3, h4⟩ := h
  refine ⟨h0, h1, h2, h3, ?_⟩
  rcases h4 with h4 | ⟨b, o, e, hlt, hc⟩
  · exact .inl h4
  by_cases hz : n = 0
  · exact .inl hz
  · have e2 := hg.block b hlt (by intro e'; injection e' with e'; exact hne b o e (by omega) e')
    exact .inr ⟨b, o, e, Nat.lt_of_lt_of_le hlt hg.size, fun j hj => (World.cell?_of_block (a := ⟨b, o + j, none⟩) e2).trans (hc j hj)⟩
/-- What a reader is asked to stand on. -/
structure Rdr (W : World) (R : Nat) (a : Option Addr) (n c p : Nat) (xs : List Int) : Prop where
  A : Arr W R 82 (RdC a n c p)
  b : Bs W a n c xs
  e : Err W
theorem Rdr.go {W W' : World} {R : Nat} {a : Option Addr} {n c p q : Nat} {xs : List Int} (h : Rdr W R a n c p xs) (hne : ∀ b o, a = some ⟨b, o, none⟩ → 0 < n → b ≠ R) (hR : R ≠ 0) (hg : W.grownBy W' (some R)) (A : Arr W' R 82 (RdC a n c q)) : Rdr W' R a n c q xs :=
  ⟨A, bs_gr h.b hg hne, h.e.grown hg hR⟩
theorem Rdr.below {W W' : World} {R : Nat} {a : Option Addr} {n c p : Nat} {xs : List Int} (h : Rdr W R a n c p xs) (hb : Below W.heap.size W W') : Rdr W' R a n c p xs := ⟨h.A.kept hb, h.b.below hb, h.e.below hb⟩
theorem rdCount (R : Nat) (a : Option Addr) (n c p : Nat) (xs : List Int) (most : Int) (w : World) (h : Rdr w R a n c p xs) (hn : n ≤ 1048576) (hp : p ≤ n) (hR : R ≠ 0) :
    Calls Tryd.prog 107 #[.pointer (some ⟨R, 0, none⟩), .int .i64 most] w fun e w' => (∃ v q, rcnt most xs p = some (v, q) ∧ e = .returned (.int .i64 v) ∧ q ≤ n ∧ w.grownBy w' (some R) ∧ Arr w' R 82 (RdC a n c q)) ∨ (rcnt most xs p = none ∧ Dead e ∧ w.grownBy w' (some R)) := by
  have HN : Hid _ := rdNumber R a n c p xs w h.A h.b hn hp h.e
  have HE : Hid (Err w) := h.e
  clear h
  go_enter Tryd.func107, Tryd.ntmps107
  go_wp2_with fail
  refine Calls.mono HN.out ?_
  clear HN
  rintro e w1 (⟨v, q, hr, rfl, hq, hg, A⟩ | ⟨hr, ⟨T, pv, rfl⟩, hg⟩)
  case inr => exact ⟨rfl, .inr ⟨by unfold rcnt; rw [hr]; rfl, ⟨_, _, rfl⟩, hg⟩⟩
  have HG : Hid (w.grownBy w1 (some R)) := hg
  have HA : Hid (Arr w1 R 82 (RdC a n c q)) := A
  have HE1 : Hid (Err w1) := HE.out.grown hg hR
  clear hg A
  by_cases hle : v ≤ most
  · have hv : rcnt most xs p = some (v, q) := by unfold rcnt; rw [hr]; exact if_pos hle
    go_wp2_with fail
    refine (rdWant R true _ HE1.out).mono ?_
    rintro e w2 ⟨rfl, ⟨_, rfl⟩ | ⟨h, _⟩⟩
    case inr => cases h
    go_wp2
    go_ret
    exact .inl ⟨_, q, hv, rfl, hq, HG.out, HA.out⟩
  · have hv : rcnt most xs p = none := by unfold rcnt; rw [hr]; exact if_neg hle
    go_wp2_with fail
    rw [decide_eq_false (show ¬ v ≤ most by omega)]
    refine (rdWant R false _ HE1.out).mono ?_
    rintro e w2 ⟨rfl, ⟨h, _⟩ | ⟨_, ⟨T, pv, rfl⟩⟩⟩
    case inl => cases h
    exact ⟨rfl, .inr ⟨hv, ⟨_, _, rfl⟩, HG.out⟩⟩
theorem bs_takeR {w : World} {a : Option Addr} {n c m : Nat} {xs : List Int} (h : Bs w a n c xs) (hm : m ≤ n) : Bs w a m c (xs.take m) := by
  obtain ⟨h0, h1, h2, h3, h4⟩ := h
  refine ⟨h0, by simp; omega, by omega, fun x hx => h3 x (List.mem_of_mem_take hx), ?_⟩
  rcases h4 with h4 | ⟨b, o, ha, hlt, hc⟩
  · exact .inl (by omega)
  · refine .inr ⟨b, o, ha, hlt, fun j hj => ?_⟩
    rw [hc j (by omega)]
    simp [List.getD, hj]
theorem bs_dropR {w : World} {b o : Nat} {n c m : Nat} {xs : List Int} (h : Bs w (some ⟨b, o, none⟩) n c xs) (hm : m ≤ n) : Bs w (some ⟨b, o + m, none⟩) (n - m) (c - m) (xs.drop m) := by
  obtain ⟨h0, h1, h2, h3, h4⟩ := h
  refine ⟨(fun h => by cases h), by simp; omega, by omega, fun x hx => h3 x (List.mem_of_mem_drop hx), ?_⟩
  by_cases hz : n - m = 0
  · exact .inl hz
  rcases h4 with h4 | ⟨b', o', ha, hlt, hc⟩
  · exact .inl (by omega)
  · cases ha
    refine .inr ⟨b, o + m, rfl, hlt, fun j hj => ?_⟩
    have := hc (m + j) (by omega)
    rw [show o + m + j = o + (m + j) by omega, this]
    simp [List.getD, List.getElem?_drop]
/-- A call that comes up alone and gives up. -/
theorem st_callP {P : Program} {ops : Array Oper} {Q : Exit → Act → World → Prop} {listed : Array Bool} {fuel i : Nat} {o : Oper} {a : Act} {w : World} {f : FuncId} {args : Array Value} (hr : Region.ready .any ops listed = [i]) (ho : ops[i]? = some o) (hg : o.guard = none) (hx : (execOp a.eval o).run P w = .ok (.enter f args) w)
    (h : Calls P f args w fun e w' => ∃ chain, e = .panicked chain ∧ Q (.panic chain) a w') : wpAny P .any ops Q (fuel + 1) listed a w := by
  refine ⟨fun h0 => absurd (hr.symm.trans h0) (by simp), fun j hj => ?_⟩
  rw [hr] at hj
  rcases List.mem_singleton.1 hj with rfl
  unfold wpOp
  simp only [ho]
  rw [if_pos (by simp [Region.wanted, hg])]
  refine .inl ?_
  unfold Oper.wp
  rw [hx]
  show Calls P f args w _
  refine h.mono ?_
  rintro e w' ⟨chain, rfl, h⟩
  exact h
theorem rdHash (R : Nat) (a : Option Addr) (n c p : Nat) (xs : List Int) (w : World) (h : Rdr w R a n c p xs) (hn : n ≤ 1048576) (hp : p ≤ n) (hR : R ≠ 0) (hne : ∀ b o, a = some ⟨b, o, none⟩ → 0 < n → b ≠ R) :
    Calls Tryd.prog 129 #[.pointer (some ⟨R, 0, none⟩)] w fun e w' => (∃ hs q va vc, rhash xs p = some (hs, q) ∧ e = .returned (.slice va 32 vc) ∧ q ≤ n ∧ w'.ownsRow w.heap.size 5 1 (.slice va 32 vc) 32 (U8 hs) ∧ w.grownBy w' (some R) ∧ Arr w' R 82 (RdC a n c q)) ∨ (rhash xs p = none ∧ Dead e ∧ w.grownBy w' (some R)) := by
  have hlen := h.b.2.1
  have HRd : Hid (Rdr w R a n c p xs) := h
  have lA := h.A.lt
  have c0 := h.A.cell 0
  have c1 := h.A.cell 1
  simp at c0 c1
  have hws : IntKind.i64.wrap ((n : Int) - (p : Int)) = (n : Int) - (p : Int) := wr64 (by omega) (by omega)
  clear h
  go_enter Tryd.func129, Tryd.ntmps129
  go_upto_region 1 with fail
  obtain ⟨gb, hgb⟩ : ∃ gb, gb = decide ((32 : Int) ≤ (n : Int) - (p : Int)) := ⟨_, rfl⟩
  have hgb' := hgb.symm
  have HGB : Hid (gb = decide ((32 : Int) ≤ (n : Int) - (p : Int))) := hgb
  clear hgb
  try simp only [Act.put]
  refine tame [kc 4 (.pointer (some ⟨R, 0, none⟩)), kc 5 (.pointer (some ⟨R, 0, none⟩)), kc 6 (.pointer (some ⟨R, 0, none⟩)), kc 7 (.pointer (some ⟨R, 0, none⟩)), kc 8 (.slice a n c), kc 9 (.int .i64 (n : Int)), kc 10 (.pointer (some ⟨R, 0, none⟩)), kc 11 (.pointer (some ⟨R, 0, none⟩)), kc 12 (.pointer (some ⟨R, 1, none⟩)), kc 13 (.int .i64 (p : Int)), kc 14 (.int .i64 ((n : Int) - (p : Int))), kc 15 (.bool gb)] 12 (by kernel_rfl) (by kernel_rfl) (by kernel_rfl) (by repeat' first | exact trivial | apply kc_keeps | constructor) 1 (by kernel_rfl) (fun vv ll hh yW bW => ?_) (fun vv ll hh yW bW F0 ivh aph => ?_)
  · have x0 := (bW.cell (p := ⟨R, 0, none⟩) lA).trans c0
    have x1 := (bW.cell (p := ⟨R, 1, none⟩) lA).trans c1
    refine ⟨tp (by kernel_rfl), tp (by kernel_rfl), tp ?_, tp (by kernel_rfl), tp ?_, tp (by kernel_rfl), tp (by kernel_rfl), tp ?_, tp (by kernel_rfl), tp ?_, tp ?_, tp ?_, trivial⟩
    all_goals
      simp only [fillK, putT, List.setIfInBounds_toArray, List.set_cons_zero, List.set_cons_succ]
      unfold execOp
      try go_simp
      first | rfl | omega | skip
  clear F0 ivh aph
  obtain ⟨y, hy⟩ : ∃ z, z = yW := ⟨_, rfl⟩
  rw [← hy] at bW ⊢
  clear hy
  clear hgb'
  have HR1 : Hid (Rdr y R a n c p xs) := HRd.out.below bW
  have HG1 : Hid (w.grownBy y (some R)) := ⟨bW.os, bW.tape, bW.output, bW.size, fun i hi _ => bW.block i hi⟩
  have z1 := bW.size
  clear bW HRd lA c0 c1 hws
  have hgb2 := HGB.out
  cases gb
  · have hno : rhash xs p = none := by
      unfold rhash
      rw [if_neg]
      intro h
      have := of_decide_eq_false hgb2.symm
      omega
    clear hgb2 HGB
    refine st_callP (i := 12) (f := 65) (args := #[.pointer (some ⟨R, 0, none⟩), .bool false]) (by kernel_rfl) rfl rfl (by simp only [fillK, putT, List.setIfInBounds_toArray, List.set_cons_zero, List.set_cons_succ]; unfold execOp; try go_simp) ?_
    refine (rdWant R false _ HR1.out.e).mono ?_
    rintro e w2 ⟨rfl, ⟨h, _⟩ | ⟨_, ⟨T, pv, rfl⟩⟩⟩
    case inl => cases h
    exact ⟨_, rfl, rfl, .inr ⟨hno, ⟨_, _, rfl⟩, HG1.out⟩⟩
  have hge : p + 32 ≤ n := by
    have := of_decide_eq_true hgb2.symm
    omega
  clear hgb2 HGB
  refine st_call (i := 12) (o := { dst := some 16, op := Op.call { callee := Callee.value (Operand.func 65), args := #[Operand.tmp 4, Operand.tmp 15], argTypes := #[121, 4] }, type := 0, pos := "l08_bundle.go:239", after := #[{ on := 0, ground := Ground.data }, { on := 11, ground := Ground.data }], guard := none }) (f := 65) (args := #[.pointer (some ⟨R, 0, none⟩), .bool true]) (by kernel_rfl) rfl rfl (by simp only [fillK, putT, List.setIfInBounds_toArray, List.set_cons_zero, List.set_cons_succ]; unfold execOp; try go_simp) ?_
  refine (rdWant R true _ HR1.out.e).mono ?_
  rintro e w2 ⟨rfl, ⟨_, rfl⟩ | ⟨h, _⟩⟩
  case inr => cases h
  refine ⟨_, rfl, ?_⟩
  refine wpAny_done (by kernel_rfl) ?_ _
  try simp only [Act.put]
  simp only [fillK, putT, List.setIfInBounds_toArray, List.set_cons_zero, List.set_cons_succ]
  obtain ⟨b, o, rfl⟩ : ∃ b o, a = some ⟨b, o, none⟩ := by
    rcases HR1.out.b.2.2.2.2 with h | ⟨b, o, e, _⟩
    · omega
    · exact ⟨b, o, e⟩
  have hcn : n ≤ c := HR1.out.b.2.2.1
  have A := HR1.out.A
  have c0 := A.cell 0
  have c1 := A.cell 1
  simp at c0 c1
  have fA := A.frozen
  have lA := A.lt
  have hw32 : IntKind.i64.wrap ((p : Int) + 32) = (p : Int) + 32 := wr64 (by omega) (by omega)
  obtain ⟨Z, hZ⟩ : ∃ Z, Z = w2.setCell ⟨R, 1, none⟩ (.int .i64 ((p : Int) + 32)) := ⟨_, rfl⟩
  have A2 : Arr Z R 82 [.slice (some ⟨b, o, none⟩) n c, .int .i64 ((p : Int) + 32)] := by rw [hZ]; exact A.set 1 _
  have hg2 : w2.grownBy Z (some R) := by rw [hZ]; exact cur_grown2 w2 R _ 1
  go_upto_region 4 with fail
  rw [← hZ]
  clear hZ A c0 c1 fA lA
  have b2 := bs_gr HR1.out.b hg2 hne
  have HG2 : Hid (w.grownBy Z (some R)) := grown_trans HG1.out hg2
  have hsub : Bs Z (some ⟨b, o + p, none⟩) 32 (c - p) ((xs.drop p).take 32) := bs_takeR (bs_dropR b2 (by omega)) (by omega)
  have HS : Hid (Bs Z (some ⟨b, o + p, none⟩) 32 (c - p) ((xs.drop p).take 32)) := hsub
  have HRH : Hid (rhash xs p = some ((xs.drop p).take 32, p + 32)) := by
    unfold Hid rhash
    exact if_pos (by omega)
  have HA2 : Hid (Arr Z R 82 (RdC (some ⟨b, o, none⟩) n c (p + 32))) := by
    have e : (((p + 32 : Nat) : Nat) : Int) = (p : Int) + 32 := by omega
    unfold Hid RdC
    rw [e]
    exact A2
  have d0 := A2.cell 0
  have d1 := A2.cell 1
  simp at d0 d1
  have lA := A2.lt
  have i0 : (0 : Int) ≤ (p : Int) := Int.natCast_nonneg _
  have i1 : (p : Int) ≤ (p : Int) + 32 := by omega
  have i2 : (p : Int) + 32 ≤ (c : Int) := by omega
  have i3 : ((p : Int) + 32).toNat = p + 32 := by omega
  have z2 := hg2.size
  clear HR1 HG1 hg2 b2 hsub A2
  try simp only [Act.put]
  refine tame [kc 28 (.pointer (some ⟨R, 0, none⟩)), kc 29 (.pointer (some ⟨R, 0, none⟩)), kc 30 (.pointer (some ⟨R, 0, none⟩)), kc 31 (.slice (some ⟨b, o, none⟩) n c), kc 32 (.int .i64 (p : Int)), kc 33 (.pointer (some ⟨R, 0, none⟩)), kc 34 (.pointer (some ⟨R, 0, none⟩)), kc 35 (.pointer (some ⟨R, 1, none⟩)), kc 36 (.int .i64 ((p : Int) + 32)), kc 37 (.slice (some ⟨b, o + p, none⟩) 32 (c - p))] 10 (by kernel_rfl) (by kernel_rfl) (by kernel_rfl) (by repeat' first | exact trivial | apply kc_keeps | constructor) 2 (by kernel_rfl) (fun vv ll hh yW bW => ?_) (fun vv ll hh yW bW F0 ivh aph => ?_)
  · have x0 := (bW.cell (p := ⟨R, 0, none⟩) lA).trans d0
    have x1 := (bW.cell (p := ⟨R, 1, none⟩) lA).trans d1
    refine ⟨tp (by kernel_rfl), tp ?_, tp (by kernel_rfl), tp ?_, tp (by kernel_rfl), tp (by kernel_rfl), tp ?_, tp (by kernel_rfl), tp ?_, tp ?_, trivial⟩
    all_goals
      simp only [fillK, putT, List.setIfInBounds_toArray, List.set_cons_zero, List.set_cons_succ]
      unfold execOp
      try go_simp
      first | rfl | omega | skip
  clear F0 ivh aph
  obtain ⟨y, hy⟩ : ∃ z, z = yW := ⟨_, rfl⟩
  rw [← hy] at bW ⊢
  clear hy
  have HZ : Hid (w.grownBy y (some R)) := grown_trans HG2.out ⟨bW.os, bW.tape, bW.output, bW.size, fun i hi _ => bW.block i hi⟩
  replace HA2 : Hid (Arr y R 82 (RdC (some ⟨b, o, none⟩) n c (p + 32))) := HA2.out.kept bW
  have HSy : Hid (Bs y (some ⟨b, o + p, none⟩) 32 (c - p) ((xs.drop p).take 32)) := Bs.below HS.out bW
  have zy : w.heap.size ≤ y.heap.size := HZ.out.size
  clear bW HG2 HS d0 d1 lA
  refine st_call (i := 10) (o := { dst := some 38, op := Op.call { callee := Callee.value (Operand.func 84), args := #[Operand.tmp 37], argTypes := #[22] }, type := 22, pos := "l08_bundle.go:242", after := #[{ on := 9, ground := Ground.data }], guard := none }) (f := 84) (args := #[.slice (some ⟨b, o + p, none⟩) 32 (c - p)]) (by kernel_rfl) rfl rfl (by simp only [fillK, putT, List.setIfInBounds_toArray, List.set_cons_zero, List.set_cons_succ]; unfold execOp; try go_simp) ?_
  refine (cloneB _ 32 _ _ _ HSy.out (by omega)).mono ?_
  rintro e w3 ⟨v, rfl, ov, hb⟩
  have hby : ∀ x ∈ (xs.drop p).take 32, 0 ≤ x ∧ x < 256 := HSy.out.2.2.2.1
  obtain ⟨va, vc, rfl, _, _⟩ := Bs.own ov hby
  have HO : Hid _ := own_lowK ov zy
  have HG3 : Hid (w.grownBy w3 (some R)) := grown_trans HZ.out ⟨hb.os, hb.tape, hb.output, hb.size, fun i hi _ => hb.block i hi⟩
  have HA3 : Hid _ := HA2.out.kept hb
  clear ov hb HA2 HSy HZ hby
  refine ⟨_, rfl, ?_⟩
  refine st_set (i := 11) (o := { dst := some 2, op := Op.assign (Operand.tmp 38), type := 22, pos := "l08_bundle.go:242", after := #[{ on := 10, ground := Ground.data }, { on := 10, ground := Ground.chain }, { on := 0, ground := Ground.phase }, { on := 1, ground := Ground.phase }, { on := 2, ground := Ground.phase }, { on := 3, ground := Ground.phase }, { on := 4, ground := Ground.phase }, { on := 5, ground := Ground.phase }, { on := 6, ground := Ground.phase }, { on := 7, ground := Ground.phase }, { on := 8, ground := Ground.phase }, { on := 9, ground := Ground.phase }, { on := 10, ground := Ground.phase }], guard := none }) (by kernel_rfl) rfl rfl (v := .slice va 32 vc) (by kernel_rfl) ?_
  refine wpAny_done (by kernel_rfl) ?_ _
  try simp only [Act.put]
  simp only [fillK, putT, List.setIfInBounds_toArray, List.set_cons_zero, List.set_cons_succ]
  go_wp2
  go_ret
  exact .inl ⟨_, p + 32, HRH.out, va, vc, rfl, by omega, HO.out, HG3.out, HA3.out⟩
end Go.Proofs.YtofflhhlacdgfaaDoor
