/-
  What is proved here: what the specification's l8get and l8take do: a place below zero stands for what could not be read.
-/
import Derived.Test.YtofflhhlacdgfaaDoorRd3
import Derived.Test.YtofflhhlacdgfaaDoorA1Get
import Derived.Test.YtofflhhlacdgfaaDoorPd4
import Derived.ArgAppend
namespace Go.Proofs.YtofflhhlacdgfaaDoor
open Go.RowKit Ma
set_option maxRecDepth 100000
set_option maxHeartbeats 4000000
set_option linter.unusedVariables false

theorem run_app_bytesR (w : World) (l0 : Nat) (ty : TypeId) (b o n c : Nat) (xs : List Int) (h : Bs w (some ⟨b, o, none⟩) n c xs) (h0 : 0 < n) (hn : n ≤ 2097152) :
    ∃ G w', (Builtin.append_ #[22, 22] ty #[.slice (some ⟨l0, 0, none⟩) 0 0, .slice (some ⟨b, o, none⟩) n c]).run Tryd.prog w = .ok (.slice (some ⟨w.heap.size, 0, none⟩) n G) w' ∧ w'.ownsRow w.heap.size 5 1 (.slice (some ⟨w.heap.size, 0, none⟩) n G) n (U8 xs) ∧ Below w.heap.size w w' := by
  obtain ⟨i0, hi, hz0, hz1, hz2⟩ := info_parts Tryd.info5
  obtain ⟨_, hl, _, _, h⟩ := h
  rcases h with h | ⟨b', o', e, hb, hc⟩
  · omega
  cases e
  have hr := run_append_grow (P := Tryd.prog) w 22 ty 5 i0 (.int .u8 0) Tryd.underlying22 hi hz0 ⟨l0, 0, none⟩ 0 0 [] (by simp) (fun j v hj => by simp at hj) ⟨b, o, none⟩ n c (U8 xs) (by rw [hz1]; simp [hl])
    (fun j u hj => by
      have hjl : j < n := by
        have := (List.getElem?_eq_some_iff.1 hj).1
        simpa [hl] using this
      rw [Addr.add_lit, hc j hjl]
      have e : (U8 xs)[j]? = some (.int .u8 (xs.getD j 0)) := by simp [show j < xs.length by omega]
      rw [e] at hj
      exact hj) (by omega) (by omega) (by rw [hz2]; exact growslice_fits (by omega) (by omega))
  simp only [Nat.zero_add] at hr
  have hG1 : n ≤ grownCap w n 0 5 := grownCap_ge w _ _ _
  have hG2 : grownCap w n 0 5 ≤ maxLen := grownCap_le_maxLen w n 0 5 (by unfold maxLen; omega)
  refine ⟨_, _, hr, ?_, ((Below.refl _ _).drew.alloc (Nat.le_refl _) _)⟩
  refine ⟨by simp [hl], .inr ⟨w.heap.size, _, _, rfl, Nat.le_refl _, heap_alloc_new w.drew _, hG1, hG2, ?_, ?_⟩⟩
  · simp [size_zeroCells, Value.cells, hl]; omega
  · simp [hl]
/-- The place that a cursor tells. -/
def plc : Option Nat → Int
  | some p => (p : Int)
  | none => -1
def sget (xs : List Int) : Option Nat → Int × Option Nat
  | none => (0, none)
  | some p => match rnum xs p with
    | some a => (a.1, some a.2)
    | none => (0, none)
def stake (xs : List Int) : Option Nat → List Int × Option Nat
  | none => ([], none)
  | some p => match rhash xs p with
    | some a => (a.1, some a.2)
    | none => ([], none)
abbrev CuC (a : Option Addr) (n c : Nat) (o : Option Nat) : List Value := [.slice a n c, .int .i64 (plc o)]
theorem sget_yes {xs : List Int} {p q : Nat} {v : Int} (h : rnum xs p = some (v, q)) : sget xs (some p) = (v, some q) := by simp only [sget, h]
theorem sget_no {xs : List Int} {p : Nat} (h : rnum xs p = none) : sget xs (some p) = (0, none) := by simp only [sget, h]
theorem stake_yes {xs : List Int} {p q : Nat} {v : List Int} (h : rhash xs p = some (v, q)) : stake xs (some p) = (v, some q) := by simp only [stake, h]
theorem stake_no {xs : List Int} {p : Nat} (h : rhash xs p = none) : stake xs (some p) = ([], none) := by simp only [stake, h]
theorem specL8get (R : Nat) (a : Option Addr) (n c : Nat) (o : Option Nat) (xs : List Int) (w : World) (A : Arr w R 106 (CuC a n c o)) (hb : Bs w a n c xs) (hn : n ≤ 1048576) (hp : ∀ p, o = some p → p ≤ n) :
    Calls Tryd.prog 88 #[.pointer (some ⟨R, 0, none⟩)] w fun e w' => e = .returned (.int .i64 (sget xs o).1) ∧ w.grownBy w' (some R) ∧ Arr w' R 106 (CuC a n c (sget xs o).2) := by
  have lA := A.lt
  have c0 := A.cell 0
  have c1 := A.cell 1
  simp at c0 c1
  cases o with
  | none =>
    have c1 : w.cell? ⟨R, 1, none⟩ = some (.int .i64 (-1)) := c1
    have HA : Hid _ := A
    clear A
    go_enter Tryd.func88, Tryd.ntmps88
    go_wp2
    go_ret
    exact ⟨rfl, World.grownBy.refl _ _, HA.out⟩
  | some p =>
    have hpn := hp p rfl
    have c1 : w.cell? ⟨R, 1, none⟩ = some (.int .i64 (p : Int)) := c1
    have hy : ByL xs := hb.2.2.2.1
    obtain ⟨gv, gn, hG⟩ : ∃ gv gn, getN xs (p : Int) = (gv, gn) := ⟨(getN xs (p : Int)).1, (getN xs (p : Int)).2, Prod.ext rfl rfl⟩
    have HB : Hid (∀ Z, Below w.heap.size w Z → Calls Tryd.prog 120 #[.slice a n c, .int .i64 (p : Int)] Z fun e w' => e = .returned (.tuple #[.int .i64 gv, .int .i64 gn]) ∧ Below Z.heap.size Z w') := fun Z hZ => (specGet a n c xs p Z (hb.below hZ) (by omega) (by omega)).mono (by rintro e w' ⟨rfl, rfl⟩; rw [hG]; exact ⟨rfl, Below.refl _ _⟩)
    have HS : Hid (sget xs (some p) = (gv, (sget xs (some p)).2) ∧ gn = plc (sget xs (some p)).2) := by
      rcases rnum_get hy (p := p) with ⟨v, q, hr, hg, hq, _, _⟩ | ⟨hr, hg⟩
      · rw [hG] at hg
        injection hg with h1 h2
        subst h1
        subst h2
        rw [sget_yes hr]
        exact ⟨rfl, rfl⟩
      · rw [hG] at hg
        injection hg with h1 h2
        subst h1
        subst h2
        rw [sget_no hr]
        exact ⟨rfl, rfl⟩
    clear hG
    have h0p : (0 : Int) ≤ (p : Int) := Int.natCast_nonneg _
    have HA : Hid (Arr w R 106 (CuC a n c (some p))) := A
    clear A hp
    go_enter Tryd.func88, Tryd.ntmps88
    go_upto_region 3 with fail
    try simp only [Act.put]
    refine tame [kc 11 (.pointer (some ⟨R, 0, none⟩)), kc 12 (.pointer (some ⟨R, 0, none⟩)), kc 13 (.pointer (some ⟨R, 0, none⟩)), kc 14 (.slice a n c), kc 15 (.pointer (some ⟨R, 0, none⟩)), kc 16 (.pointer (some ⟨R, 0, none⟩)), kc 17 (.pointer (some ⟨R, 1, none⟩)), kc 18 (.int .i64 (p : Int)), kc 19 (.tuple #[.int .i64 gv, .int .i64 gn]), kc 10 (.tuple #[.int .i64 gv, .int .i64 gn]), kc 20 (.int .i64 gv), kc 21 (.int .i64 gn), kc 3 (.int .i64 gv), kc 4 (.int .i64 gn)] 14 (by kernel_rfl) (by kernel_rfl) (by kernel_rfl) (by repeat' first | exact trivial | apply kc_keeps | constructor) 0 (by kernel_rfl) (fun vv ll hh yW bW => ?_) (fun vv ll hh yW bW F0 ivh aph => ?_)
    · have x0 := (bW.cell (p := ⟨R, 0, none⟩) lA).trans c0
      have x1 := (bW.cell (p := ⟨R, 1, none⟩) lA).trans c1
      refine ⟨tp (by kernel_rfl), tp ?_, tp (by kernel_rfl), tp ?_, tp (by kernel_rfl), tp ?_, tp (by kernel_rfl), tp ?_, tc (HB.out _ bW) (by kernel_rfl), tp (by kernel_rfl), tp (by kernel_rfl), tp (by kernel_rfl), tp (by kernel_rfl), tp (by kernel_rfl), trivial⟩
      all_goals
        simp only [fillK, putT, List.setIfInBounds_toArray, List.set_cons_zero, List.set_cons_succ]
        unfold execOp
        try go_simp
        first | rfl | omega | skip
    clear F0 ivh aph
    obtain ⟨y, hy⟩ : ∃ z, z = yW := ⟨_, rfl⟩
    rw [← hy] at bW ⊢
    clear hy
    refine wpAny_done (by kernel_rfl) ?_ _
    simp only [fillK, putT, List.setIfInBounds_toArray, List.set_cons_zero, List.set_cons_succ]

    have HA2 : Hid (Arr y R 106 (CuC a n c (some p))) := HA.out.kept bW
    have HW : Hid (Below w.heap.size w y) := bW
    clear bW HB c0 c1 lA HA hb
    have c1 := HA2.out.cell 1
    simp at c1
    have fA := HA2.out.frozen
    have HA3 : Hid (Arr (y.setCell ⟨R, 1, none⟩ (.int .i64 gn)) R 106 (CuC a n c (sget xs (some p)).2)) := by
      have := HA2.out.set 1 (.int .i64 gn)
      have e := HS.out.2
      unfold Hid CuC
      rw [← e]
      exact this
    have HG3 : Hid (w.grownBy (y.setCell ⟨R, 1, none⟩ (.int .i64 gn)) (some R)) := grown_trans (show w.grownBy y (some R) from ⟨HW.out.os, HW.out.tape, HW.out.output, HW.out.size, fun i hi _ => HW.out.block i hi⟩) (cur_grown2 y R _ 1)
    go_wp2
    go_ret
    exact ⟨by rw [HS.out.1]; rfl, HG3.out, HA3.out⟩
theorem specL8take (R : Nat) (a : Option Addr) (n c : Nat) (o : Option Nat) (xs : List Int) (w : World) (A : Arr w R 106 (CuC a n c o)) (hb : Bs w a n c xs) (hn : n ≤ 1048576) (hp : ∀ p, o = some p → p ≤ n) (hne : ∀ b o, a = some ⟨b, o, none⟩ → 0 < n → b ≠ R) :
    Calls Tryd.prog 89 #[.pointer (some ⟨R, 0, none⟩), .int .i64 32] w fun e w' => ∃ va vc, e = .returned (.slice va (stake xs o).1.length vc) ∧ w'.ownsRow w.heap.size 5 1 (.slice va (stake xs o).1.length vc) (stake xs o).1.length (U8 (stake xs o).1) ∧ w.grownBy w' (some R) ∧ Arr w' R 106 (CuC a n c (stake xs o).2) := by
  have lA := A.lt
  have c0 := A.cell 0
  have c1 := A.cell 1
  simp at c0 c1
  have fA := A.frozen
  have hlen := hb.2.1
  cases o with
  | none =>
    have c1 : w.cell? ⟨R, 1, none⟩ = some (.int .i64 (-1)) := c1
    have HA : Hid (Arr w R 106 (CuC a n c none)) := A
    clear A hb
    go_enter Tryd.func89, Tryd.ntmps89
    go_upto_region 1 with fail
    try simp only [Act.put]
    refine tameG [kc 6 (.pointer (some ⟨R, 0, none⟩)), kc 7 (.pointer (some ⟨R, 0, none⟩)), kc 8 (.pointer (some ⟨R, 1, none⟩)), kc 9 (.int .i64 (-1)), kc 10 (.bool true), kc 11 (.bool true), kc 12 (undef), kc 13 (undef), kc 14 (undef), kc 15 (undef), kc 16 (undef), kc 17 (undef), kc 18 (undef), kc 19 (undef), kc 20 (undef), kc 21 (undef), kc 22 (undef), kc 23 (undef), kc 24 (.bool true)] 19 (by kernel_rfl) (by kernel_rfl) (by kernel_rfl) (by repeat' first | exact trivial | apply kc_keeps | constructor) 0 (by kernel_rfl) (fun vv ll hh yW bW => ?_) (fun vv ll hh yW bW F0 ivh aph => ?_)
    · have x0 := (bW.cell (p := ⟨R, 0, none⟩) lA).trans c0
      have x1 := (bW.cell (p := ⟨R, 1, none⟩) lA).trans c1
      refine ⟨og (tp (by kernel_rfl)) (by kernel_rfl), og (tp ?_) (by kernel_rfl), og (tp (by kernel_rfl)) (by kernel_rfl), og (tp ?_) (by kernel_rfl), og (tp (by kernel_rfl)) (by kernel_rfl), og (tp (by kernel_rfl)) (by kernel_rfl), ou (by kernel_rfl), ou (by kernel_rfl), ou (by kernel_rfl), ou (by kernel_rfl), ou (by kernel_rfl), ou (by kernel_rfl), ou (by kernel_rfl), ou (by kernel_rfl), ou (by kernel_rfl), ou (by kernel_rfl), ou (by kernel_rfl), ou (by kernel_rfl), og (tp (by kernel_rfl)) (by kernel_rfl), trivial⟩
      all_goals
        simp only [fillK, putT, List.setIfInBounds_toArray, List.set_cons_zero, List.set_cons_succ]
        unfold execOp
        try go_simp
        first | rfl | omega | skip
    clear F0 ivh aph
    obtain ⟨y, hy⟩ : ∃ z, z = yW := ⟨_, rfl⟩
    rw [← hy] at bW ⊢
    clear hy
    refine wpAny_done (by kernel_rfl) ?_ _
    simp only [fillK, putT, List.setIfInBounds_toArray, List.set_cons_zero, List.set_cons_succ]

    have HG : Hid (w.grownBy (y.setCell ⟨R, 1, none⟩ (.int .i64 (-1))) (some R)) := grown_trans (show w.grownBy y (some R) from ⟨bW.os, bW.tape, bW.output, bW.size, fun i hi _ => bW.block i hi⟩) (cur_grown2 y R _ 1)
    have HA2 : Hid (Arr (y.setCell ⟨R, 1, none⟩ (.int .i64 (-1))) R 106 (CuC a n c none)) := (HA.out.kept bW).set 1 _
    have d1 := (HA.out.kept bW).cell 1
    simp at d1
    have fY := (HA.out.kept bW).frozen
    clear bW c0 c1 lA fA HA
    go_wp2
    go_ret
    exact ⟨none, 0, rfl, World.ownsRow_nil _ _ _ _, HG.out, HA2.out⟩
  | some p =>
    have hpn := hp p rfl
    have c1 : w.cell? ⟨R, 1, none⟩ = some (.int .i64 (p : Int)) := c1
    have HA : Hid (Arr w R 106 (CuC a n c (some p))) := A
    have HBs : Hid (Bs w a n c xs) := hb
    have h0p : (0 : Int) ≤ (p : Int) := Int.natCast_nonneg _
    have hws : IntKind.i64.wrap ((n : Int) - (p : Int)) = (n : Int) - (p : Int) := wr64 (by omega) (by omega)
    clear A hb hp
    have hlp : ((p : Int) < 0) = False := by simp
    obtain ⟨gb, hgb⟩ : ∃ gb, gb = decide ((n : Int) - (p : Int) < 32) := ⟨_, rfl⟩
    have hgb' := hgb.symm
    have HGB : Hid (gb = decide ((n : Int) - (p : Int) < 32)) := hgb
    clear hgb
    go_enter Tryd.func89, Tryd.ntmps89
    go_upto_region 1 with fail
    try simp only [Act.put]
    refine tameG [kc 6 (.pointer (some ⟨R, 0, none⟩)), kc 7 (.pointer (some ⟨R, 0, none⟩)), kc 8 (.pointer (some ⟨R, 1, none⟩)), kc 9 (.int .i64 (p : Int)), kc 10 (.bool false), kc 11 (.bool false), kc 12 (.int .i64 32), kc 13 (.pointer (some ⟨R, 0, none⟩)), kc 14 (.pointer (some ⟨R, 0, none⟩)), kc 15 (.pointer (some ⟨R, 0, none⟩)), kc 16 (.slice a n c), kc 17 (.int .i64 (n : Int)), kc 18 (.pointer (some ⟨R, 0, none⟩)), kc 19 (.pointer (some ⟨R, 0, none⟩)), kc 20 (.pointer (some ⟨R, 1, none⟩)), kc 21 (.int .i64 (p : Int)), kc 22 (.int .i64 ((n : Int) - (p : Int))), kc 23 (.bool gb), kc 24 (.bool gb)] 19 (by kernel_rfl) (by kernel_rfl) (by kernel_rfl) (by repeat' first | exact trivial | apply kc_keeps | constructor) 0 (by kernel_rfl) (fun vv ll hh yW bW => ?_) (fun vv ll hh yW bW F0 ivh aph => ?_)
    · have x0 := (bW.cell (p := ⟨R, 0, none⟩) lA).trans c0
      have x1 := (bW.cell (p := ⟨R, 1, none⟩) lA).trans c1
      refine ⟨og (tp (by kernel_rfl)) (by kernel_rfl), og (tp ?_) (by kernel_rfl), og (tp (by kernel_rfl)) (by kernel_rfl), og (tp ?_) (by kernel_rfl), og (tp ?_) (by kernel_rfl), og (tp (by kernel_rfl)) (by kernel_rfl), og (tp (by kernel_rfl)) (by kernel_rfl), og (tp (by kernel_rfl)) (by kernel_rfl), og (tp ?_) (by kernel_rfl), og (tp (by kernel_rfl)) (by kernel_rfl), og (tp ?_) (by kernel_rfl), og (tp (by kernel_rfl)) (by kernel_rfl), og (tp (by kernel_rfl)) (by kernel_rfl), og (tp ?_) (by kernel_rfl), og (tp (by kernel_rfl)) (by kernel_rfl), og (tp ?_) (by kernel_rfl), og (tp ?_) (by kernel_rfl), og (tp ?_) (by kernel_rfl), og (tp (by kernel_rfl)) (by kernel_rfl), trivial⟩
      all_goals
        simp only [fillK, putT, List.setIfInBounds_toArray, List.set_cons_zero, List.set_cons_succ]
        unfold execOp
        try go_simp
        first | rfl | omega | skip
    clear F0 ivh aph
    obtain ⟨y, hy⟩ : ∃ z, z = yW := ⟨_, rfl⟩
    rw [← hy] at bW ⊢
    clear hy
    refine wpAny_done (by kernel_rfl) ?_ _
    simp only [fillK, putT, List.setIfInBounds_toArray, List.set_cons_zero, List.set_cons_succ]

    clear hgb'
    have HA2 : Hid (Arr y R 106 (CuC a n c (some p))) := HA.out.kept bW
    have HB2 : Hid (Bs y a n c xs) := HBs.out.below bW
    have HG2 : Hid (w.grownBy y (some R)) := ⟨bW.os, bW.tape, bW.output, bW.size, fun i hi _ => bW.block i hi⟩
    clear bW HA HBs c0 c1 lA fA hws
    have hgb2 := HGB.out
    clear HGB
    cases gb
    · have hge : p + 32 ≤ n := by
        have := of_decide_eq_false hgb2.symm
        omega
      clear hgb2
      obtain ⟨b, o, rfl⟩ : ∃ b o, a = some ⟨b, o, none⟩ := by
        rcases HB2.out.2.2.2.2 with h | ⟨b, o, e, _⟩
        · omega
        · exact ⟨b, o, e⟩
      have hcn : n ≤ c := HB2.out.2.2.1
      have hr : rhash xs p = some ((xs.drop p).take 32, p + 32) := by
        unfold rhash
        exact if_pos (by omega)
      have HST : Hid (stake xs (some p) = ((xs.drop p).take 32, some (p + 32))) := stake_yes hr
      have hl32 : ((xs.drop p).take 32).length = 32 := (rhash_at hr).2.2.2.1
      have HL32 : Hid (((xs.drop p).take 32).length = 32) := hl32
      have HS : Hid (∀ Z, Below y.heap.size y Z → Bs Z (some ⟨b, o + p, none⟩) 32 (c - p) ((xs.drop p).take 32)) := fun Z hZ => Bs.below (bs_takeR (bs_dropR HB2.out (by omega)) (by omega)) hZ
      clear hr hl32
      have d0 := HA2.out.cell 0
      have d1 : y.cell? ⟨R, 1, none⟩ = some (.int .i64 (p : Int)) := HA2.out.cell 1
      simp at d0
      have lA := HA2.out.lt
      have hw32 : IntKind.i64.wrap ((p : Int) + 32) = (p : Int) + 32 := wr64 (by omega) (by omega)
      have i1 : (p : Int) ≤ (p : Int) + 32 := by omega
      have i2 : (p : Int) + 32 ≤ (c : Int) := by omega
      have i3 : ((p : Int) + 32).toNat = p + 32 := by omega
      go_upto_region 4 with fail
      try simp only [Act.put]
      refine tame [kslP 28 5 [] 0, kc 29 (.pointer (some ⟨R, 0, none⟩)), kc 30 (.pointer (some ⟨R, 0, none⟩)), kc 31 (.pointer (some ⟨R, 0, none⟩)), kc 32 (.slice (some ⟨b, o, none⟩) n c), kc 33 (.pointer (some ⟨R, 0, none⟩)), kc 34 (.pointer (some ⟨R, 0, none⟩)), kc 35 (.pointer (some ⟨R, 1, none⟩)), kc 36 (.int .i64 (p : Int)), kc 37 (.pointer (some ⟨R, 0, none⟩)), kc 38 (.pointer (some ⟨R, 0, none⟩)), kc 39 (.pointer (some ⟨R, 1, none⟩)), kc 40 (.int .i64 (p : Int)), kc 41 (.int .i64 32), kc 42 (.int .i64 ((p : Int) + 32)), kc 43 (.slice (some ⟨b, o + p, none⟩) 32 (c - p))] 16 (by kernel_rfl) (by kernel_rfl) (by kernel_rfl) (by repeat' first | exact trivial | apply kc_keeps | apply kslP_keeps | constructor) 2 (by kernel_rfl) (fun vv ll hh yW bW => ?_) (fun vv ll hh yW bW F0 ivh aph => ?_)
      · have x0 := (bW.cell (p := ⟨R, 0, none⟩) lA).trans d0
        have x1 := (bW.cell (p := ⟨R, 1, none⟩) lA).trans d1
        refine ⟨tslP ?_, tp (by kernel_rfl), tp ?_, tp (by kernel_rfl), tp ?_, tp (by kernel_rfl), tp ?_, tp (by kernel_rfl), tp ?_, tp (by kernel_rfl), tp ?_, tp (by kernel_rfl), tp ?_, tp (by kernel_rfl), tp ?_, tp ?_, trivial⟩
        all_goals
          simp only [fillK, putT, List.setIfInBounds_toArray, List.set_cons_zero, List.set_cons_succ]
          unfold execOp
          try go_simp
          first | rfl | omega | skip
      clear F0 ivh aph
      obtain ⟨y2, hy⟩ : ∃ z, z = yW := ⟨_, rfl⟩
      rw [← hy] at bW ⊢
      clear hy
      have HA3 : Hid (Arr y2 R 106 (CuC (some ⟨b, o, none⟩) n c (some p))) := HA2.out.kept bW
      have HG3 : Hid (w.grownBy y2 (some R)) := grown_trans HG2.out ⟨bW.os, bW.tape, bW.output, bW.size, fun i hi _ => bW.block i hi⟩
      obtain ⟨G, w8, hr8, ho8, hb8⟩ := run_app_bytesR y2 (ll 0) 22 b (o + p) 32 (c - p) ((xs.drop p).take 32) (HS.out _ bW) (by omega) (by omega)
      have z2 := HG3.out.size
      refine st_val (i := 16) (o := { dst := some 44, op := Op.call { callee := Callee.builtin Builtin.append, args := #[Operand.tmp 28, Operand.tmp 43], argTypes := #[22, 22] }, type := 22, pos := "l08_bundle.go:86", after := #[{ on := 0, ground := Ground.data }, { on := 15, ground := Ground.data }], guard := none }) (v := .slice (some ⟨y2.heap.size, 0, none⟩) 32 G) (w' := w8) (by kernel_rfl) rfl rfl ?_ ?_
      · simp only [fillK, putT, List.setIfInBounds_toArray, List.set_cons_zero, List.set_cons_succ]
        unfold execOp
        simp only [resolve, invoke, builtin, Sem.run_bind, Sem.run_pure, Result.andThen_ok, List.map_toArray, List.map_cons, List.map_nil]
        exact congrArg (fun q => q.andThen fun a w' => Result.ok (Next.value a) w') hr8
      have HA4 : Hid (Arr w8 R 106 (CuC (some ⟨b, o, none⟩) n c (some p))) := HA3.out.kept hb8
      have HG4 : Hid (w.grownBy w8 (some R)) := grown_trans HG3.out ⟨hb8.os, hb8.tape, hb8.output, hb8.size, fun i hi _ => hb8.block i hi⟩
      have HO4 : Hid (w8.ownsRow w.heap.size 5 1 (.slice (some ⟨y2.heap.size, 0, none⟩) 32 G) 32 (U8 ((xs.drop p).take 32))) := own_lowK ho8 z2
      clear hr8 ho8 hb8 bW HA3 HG3 HS HA2 HG2 HB2 d0 d1 lA
      refine st_set (i := 17) (o := { dst := some 5, op := Op.assign (Operand.tmp 44), type := 22, pos := "l08_bundle.go:86", after := #[{ on := 16, ground := Ground.data }, { on := 16, ground := Ground.chain }, { on := 0, ground := Ground.phase }, { on := 1, ground := Ground.phase }, { on := 2, ground := Ground.phase }, { on := 3, ground := Ground.phase }, { on := 4, ground := Ground.phase }, { on := 5, ground := Ground.phase }, { on := 6, ground := Ground.phase }, { on := 7, ground := Ground.phase }, { on := 8, ground := Ground.phase }, { on := 9, ground := Ground.phase }, { on := 10, ground := Ground.phase }, { on := 11, ground := Ground.phase }, { on := 12, ground := Ground.phase }, { on := 13, ground := Ground.phase }, { on := 14, ground := Ground.phase }, { on := 15, ground := Ground.phase }, { on := 16, ground := Ground.phase }], guard := none }) (by kernel_rfl) rfl rfl (v := .slice (some ⟨y2.heap.size, 0, none⟩) 32 G) (by kernel_rfl) ?_
      refine wpAny_done (by kernel_rfl) ?_ _
      try simp only [Act.put]
      simp only [fillK, putT, List.setIfInBounds_toArray, List.set_cons_zero, List.set_cons_succ]
      have d1 : w8.cell? ⟨R, 1, none⟩ = some (.int .i64 (p : Int)) := HA4.out.cell 1
      have fA := HA4.out.frozen
      have HA5 : Hid (Arr (w8.setCell ⟨R, 1, none⟩ (.int .i64 ((p : Int) + 32))) R 106 (CuC (some ⟨b, o, none⟩) n c (some (p + 32)))) := by
        have e : plc (some (p + 32)) = (p : Int) + 32 := by
          show ((p + 32 : Nat) : Int) = _
          omega
        unfold Hid CuC
        rw [e]
        exact HA4.out.set 1 _
      have HG5 : Hid (w.grownBy (w8.setCell ⟨R, 1, none⟩ (.int .i64 ((p : Int) + 32))) (some R)) := grown_trans HG4.out (cur_grown2 w8 R _ 1)
      have HO5 : Hid ((w8.setCell ⟨R, 1, none⟩ (.int .i64 ((p : Int) + 32))).ownsRow w.heap.size 5 1 (.slice (some ⟨y2.heap.size, 0, none⟩) 32 G) 32 (U8 ((xs.drop p).take 32))) := own_cellP HO4.out HA4.out (by decide)
      clear HO4 HA4 HG4
      go_wp2
      go_ret
      rw [HST.out]
      dsimp only
      rw [HL32.out]
      exact ⟨_, G, rfl, HO5.out, HG5.out, HA5.out⟩
    · have hno : rhash xs p = none := by
        have := of_decide_eq_true hgb2.symm
        unfold rhash
        exact if_neg (by omega)
      have HST : Hid (stake xs (some p) = ([], none)) := stake_no hno
      clear hgb2 hno
      have d1 : y.cell? ⟨R, 1, none⟩ = some (.int .i64 (p : Int)) := HA2.out.cell 1
      have fA := HA2.out.frozen
      have HA5 : Hid (Arr (y.setCell ⟨R, 1, none⟩ (.int .i64 (-1))) R 106 (CuC a n c none)) := HA2.out.set 1 _
      have HG5 : Hid (w.grownBy (y.setCell ⟨R, 1, none⟩ (.int .i64 (-1))) (some R)) := grown_trans HG2.out (cur_grown2 y R _ 1)
      clear HA2 HB2 HG2
      go_wp2
      go_ret
      rw [HST.out]
      exact ⟨none, 0, rfl, World.ownsRow_nil _ _ _ _, HG5.out, HA5.out⟩
end Go.Proofs.YtofflhhlacdgfaaDoor
