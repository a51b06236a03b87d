/-
  What is proved here: what the program's TornProgram and Program answer.
-/
import Derived.Test.YtcnlpdpbkkjkoaaF9i
namespace Go.Proofs.Ytcnlpdpbkkjkoaa
set_option maxRecDepth 100000
set_option maxHeartbeats 4000000
open Go.RowKit
set_option linter.unusedVariables false

section
variable {P : Program} {ops : Array Oper} {Q : Exit → Act → World → Prop}
/-- A call that comes up alone. -/
theorem st_call {listed : Array Bool} {fuel i : Nat} {o : Oper} {a : Act} {w : World} {f : FuncId} {args : Array Value} (hr : Region.ready .any ops listed = [i]) (ho : ops[i]? = some o) (hg : o.guard = none) (hx : (execOp a.eval o).run P w = .ok (.enter f args) w)
    (h : Calls P f args w fun e w' => ∃ v, e = .returned v ∧ wpAny P .any ops Q fuel (listed.setIfInBounds i true) (a.put o.dst v) w') : wpAny P .any ops Q (fuel + 1) listed a w := by
  refine ⟨fun h0 => absurd (hr.symm.trans h0) (by simp), fun j hj => ?_⟩
  rw [hr] at hj
  rcases List.mem_singleton.1 hj with rfl
  unfold wpOp
  simp only [ho]
  rw [if_pos (by simp [Region.wanted, hg])]
  refine .inl ?_
  unfold Oper.wp
  rw [hx]
  show Calls P f args w _
  refine h.mono ?_
  rintro e w' ⟨v, rfl, h⟩
  exact h
end

theorem tornProgram_i (aB : Option Addr) (nB cB : Nat) (aW : Option Addr) (nW cW : Nat) (bs ws : List Int) (i : Int) (ab : Option Addr) (nb cb : Nat) (xs : List Int) (am : Option Addr) (nm cm : Nat) (ms : List Int) (w : World) (hB : Bs w aB nB cB bs) (hW : Is w aW nW cW ws) (hn : nB ≤ 2097152) (hm : nW ≤ 2097152) (hl : -9223372036854775808 ≤ i) (hu : i ≤ 9223372036854775807) (hb : Bs w ab nb cb xs) (hbn : nb ≤ 2097152) (hmm : Bs w am nm cm ms) (hmn : nm ≤ 2097152) :
    Calls Try.prog 27 #[flV aB nB cB aW nW cW, .int .i64 i, .slice ab nb cb, .slice am nm cm] w fun e w' => ∃ v, e = .returned (.tuple #[v, .int .i64 (tpC bs ws i xs ms)]) ∧ IsFl w w' v (tpB bs ws i xs ms) (tpW bs ws ms) ∧ Below w.heap.size w w' := by
  obtain ⟨V, hV⟩ : ∃ V, V = (w.alloc (.cells #[.slice aB nB cB, .slice aW nW cW] 25)).alloc (.cells #[.slice none 0 0, .slice none 0 0] 25) := ⟨_, rfl⟩
  have B : Below w.heap.size w V := by rw [hV]; exact ((Below.refl _ _).alloc (Nat.le_refl _) _).alloc (by simp) _
  have A0 : Arr V w.heap.size 25 [.slice aB nB cB, .slice aW nW cW] := by rw [hV]; exact (Arr.new w _ _).alloc _
  have A1 : Arr V (w.heap.size + 1) 25 [.slice none 0 0, .slice none 0 0] := by
    rw [hV]
    have := Arr.new (w.alloc (.cells #[.slice aB nB cB, .slice aW nW cW] 25)) [.slice none 0 0, .slice none 0 0] 25
    simpa using this
  have z : w.heap.size + 2 ≤ V.heap.size := by rw [hV]; simp
  have hml := hmm.2.1
  have hxl := hb.2.1
  obtain ⟨C, hC⟩ : ∃ C, C = tpC bs ws i xs ms := ⟨_, rfl⟩
  obtain ⟨LB, hLB⟩ : ∃ L, L = tpB bs ws i xs ms := ⟨_, rfl⟩
  obtain ⟨LW, hLW⟩ : ∃ L, L = tpW bs ws ms := ⟨_, rfl⟩
  rw [← hC, ← hLB, ← hLW]
  have HC : Hid _ := hC
  have HLB : Hid _ := hLB
  have HLW : Hid _ := hLW
  clear hC hLB hLW
  have c0 := arr2 A0
  rw [hV] at c0
  go_enter Try.func27, Try.ntmps27
  go_wp2_with fail
  rw [← hV]
  clear hV c0
  refine (implFlashOk aB nB cB aW nW cW bs ws _ (hB.below B) (hW.below B) hn hm).mono ?_
  rintro e w1 ⟨rfl, b1⟩
  replace A0 := A0.kept b1
  replace A1 := A1.kept b1
  replace B := B.trans (b1.mono B.size)
  have z1 : w.heap.size + 2 ≤ w1.heap.size := Nat.le_trans z b1.size
  clear b1 z
  have hf : flOk bs ws = false ∨ flOk bs ws = true := by cases flOk bs ws <;> simp
  obtain ⟨f, hf'⟩ : ∃ f, f = flOk bs ws := ⟨_, rfl⟩
  rw [← hf'] at hf ⊢
  have HFl : Hid _ := hf'
  clear hf'
  rcases hf with rfl | rfl
  · have tN : tOk bs ws ms = false := by unfold tOk; rw [← HFl.out]; rfl
    have : C = 4 := by rw [HC.out]; unfold tpC; rw [tN]; rfl
    subst this
    have : LB = [] := by rw [HLB.out]; unfold tpB; rw [tN]; rfl
    subst this
    have : LW = [] := by rw [HLW.out]; unfold tpW; rw [tN]; rfl
    subst this
    have dR := arr2 A1
    have fR := A1.frozen
    have lR := A1.lt
    have K : Arr ((w1.setCell ⟨w.heap.size + 1, 0, none⟩ (.slice none 0 0)).setCell ⟨w.heap.size + 1, 1, none⟩ (.slice none 0 0)) (w.heap.size + 1) 25 [.slice none 0 0, .slice none 0 0] := (A1.set 0 _).set 1 _
    have BF : Below w.heap.size w ((w1.setCell ⟨w.heap.size + 1, 0, none⟩ (.slice none 0 0)).setCell ⟨w.heap.size + 1, 1, none⟩ (.slice none 0 0)) := (B.setCell (by simp) _).setCell (by simp) _
    have OF : OwnFl w.heap.size ((w1.setCell ⟨w.heap.size + 1, 0, none⟩ (.slice none 0 0)).setCell ⟨w.heap.size + 1, 1, none⟩ (.slice none 0 0)) none 0 0 none 0 0 [] [] := OwnFl.nil _ _
    have HK : Hid _ := K
    have HBF : Hid _ := BF
    have HOF : Hid _ := OF
    clear K BF OF
    go_wp2
    exact bodyPost_ret (results_row_tmp (v := .int .i64 4) (t := 25) (cs := [.slice none 0 0, .slice none 0 0]) rfl rfl rfl HK.out Try.underlying25 rfl (by kernel_rfl)) rfl ⟨_, rfl, IsFl.of HOF.out, HBF.out⟩
  by_cases h256 : 256 < (nm : Int)
  · have tN : tOk bs ws ms = false := by unfold tOk; rw [← HFl.out]; rw [decide_eq_false (by omega)]; rfl
    have : C = 4 := by rw [HC.out]; unfold tpC; rw [tN]; rfl
    subst this
    have : LB = [] := by rw [HLB.out]; unfold tpB; rw [tN]; rfl
    subst this
    have : LW = [] := by rw [HLW.out]; unfold tpW; rw [tN]; rfl
    subst this
    have dR := arr2 A1
    have fR := A1.frozen
    have lR := A1.lt
    have K : Arr ((w1.setCell ⟨w.heap.size + 1, 0, none⟩ (.slice none 0 0)).setCell ⟨w.heap.size + 1, 1, none⟩ (.slice none 0 0)) (w.heap.size + 1) 25 [.slice none 0 0, .slice none 0 0] := (A1.set 0 _).set 1 _
    have BF : Below w.heap.size w ((w1.setCell ⟨w.heap.size + 1, 0, none⟩ (.slice none 0 0)).setCell ⟨w.heap.size + 1, 1, none⟩ (.slice none 0 0)) := (B.setCell (by simp) _).setCell (by simp) _
    have OF : OwnFl w.heap.size ((w1.setCell ⟨w.heap.size + 1, 0, none⟩ (.slice none 0 0)).setCell ⟨w.heap.size + 1, 1, none⟩ (.slice none 0 0)) none 0 0 none 0 0 [] [] := OwnFl.nil _ _
    have HK : Hid _ := K
    have HBF : Hid _ := BF
    have HOF : Hid _ := OF
    clear K BF OF
    go_wp2
    exact bodyPost_ret (results_row_tmp (v := .int .i64 4) (t := 25) (cs := [.slice none 0 0, .slice none 0 0]) rfl rfl rfl HK.out Try.underlying25 rfl (by kernel_rfl)) rfl ⟨_, rfl, IsFl.of HOF.out, HBF.out⟩
  have tY : tOk bs ws ms = true := by unfold tOk; rw [← HFl.out, decide_eq_true (by omega)]; rfl
  obtain ⟨l1, l2, l3, _⟩ := tOk_len tY
  have hbl := hB.2.1
  have hwl := hW.2.1
  have c0 := arr2 A0
  go_wp2_with fail
  clear c0
  refine (ownIt_i aB nB cB aW nW cW bs ws _ (hB.below B) (hW.below B) hn hm (by omega) (by omega)).mono ?_
  rintro e w2 ⟨g, c, g', c', rfl, O, b2⟩
  replace A0 := A0.kept b2
  replace A1 := A1.kept b2
  replace B := B.trans (b2.mono B.size)
  have z2 := b2.size
  clear b2
  have ng := (O.ob.lt g rfl)
  have ng' := (O.ow.lt g' rfl)
  obtain ⟨W, hW3⟩ : ∃ W, W = w2.alloc (.cells #[.slice (some ⟨g, 0, none⟩) nB c, .slice (some ⟨g', 0, none⟩) nW c'] 25) := ⟨_, rfl⟩
  have AQ : Arr W w2.heap.size 25 [.slice (some ⟨g, 0, none⟩) nB c, .slice (some ⟨g', 0, none⟩) nW c'] := by rw [hW3]; exact Arr.new _ _ _
  have bq : Below w2.heap.size w2 W := by rw [hW3]; exact (Below.refl _ _).alloc (Nat.le_refl _) _
  replace O := O.below bq
  replace A0 := A0.kept bq
  replace A1 := A1.kept bq
  replace B := B.trans (bq.mono B.size)
  have OW : OwnFl w.heap.size W (some ⟨g, 0, none⟩) nB c (some ⟨g', 0, none⟩) nW c' bs ws := O.base (by omega)
  have z3 := bq.size
  clear bq
  go_wp2_with fail
  rw [← hW3]
  clear hW3
  refine (implPlace i nb _ hl hu (by omega) (by omega)).mono ?_
  rintro e w3 ⟨rfl, hw⟩
  rw [hw]
  clear hw
  have hCC : C = mayC i nb := by rw [HC.out]; unfold tpC; rw [tY, if_pos rfl, hxl]
  have hp : inF i nb = false ∨ inF i nb = true := by cases inF i nb <;> simp
  obtain ⟨f, hf'⟩ : ∃ f, f = inF i nb := ⟨_, rfl⟩
  rw [← hf'] at hp ⊢
  have HP : Hid _ := hf'
  clear hf'
  rcases hp with rfl | rfl
  · have hC1 : C = 1 := by rw [hCC]; unfold mayC; rw [← HP.out]; rfl
    have hne : mayC i xs.length ≠ 0 := by rw [hxl, ← hCC, hC1]; decide
    clear hCC
    subst hC1
    have : LB = bs := by rw [HLB.out]; unfold tpB; rw [tY, if_pos rfl, if_neg (hne)]
    subst this
    have : LW = ws := by rw [HLW.out]; unfold tpW; rw [tY, if_pos rfl]
    subst this
    have dR := arr2 A1
    have fR := A1.frozen
    have dQ := arr2 AQ
    have lQ := AQ.lt
    have lR := A1.lt
    have K : Arr ((W.setCell ⟨w.heap.size + 1, 0, none⟩ (.slice (some ⟨g, 0, none⟩) nB c)).setCell ⟨w.heap.size + 1, 1, none⟩ (.slice (some ⟨g', 0, none⟩) nW c')) (w.heap.size + 1) 25 [.slice (some ⟨g, 0, none⟩) nB c, .slice (some ⟨g', 0, none⟩) nW c'] := (A1.set 0 _).set 1 _
    have BF : Below w.heap.size w ((W.setCell ⟨w.heap.size + 1, 0, none⟩ (.slice (some ⟨g, 0, none⟩) nB c)).setCell ⟨w.heap.size + 1, 1, none⟩ (.slice (some ⟨g', 0, none⟩) nW c')) := (B.setCell (by simp) _).setCell (by simp) _
    have OF : OwnFl w.heap.size ((W.setCell ⟨w.heap.size + 1, 0, none⟩ (.slice (some ⟨g, 0, none⟩) nB c)).setCell ⟨w.heap.size + 1, 1, none⟩ (.slice (some ⟨g', 0, none⟩) nW c')) (some ⟨g, 0, none⟩) nB c (some ⟨g', 0, none⟩) nW c' LB LW := (O.setO (w.heap.size + 1) 0 _ (by omega)).setO (w.heap.size + 1) 1 _ (by omega) |>.base (by omega)
    have HK : Hid _ := K
    have HBF : Hid _ := BF
    have HOF : Hid _ := OF
    clear K BF OF
    go_wp2
    exact bodyPost_ret (results_row_tmp (v := .int .i64 1) (t := 25) (cs := [.slice (some ⟨g, 0, none⟩) nB c, .slice (some ⟨g', 0, none⟩) nW c']) rfl rfl rfl HK.out Try.underlying25 rfl (by kernel_rfl)) rfl ⟨_, rfl, IsFl.of HOF.out, HBF.out⟩
  go_wp2_with fail
  refine (implAcross i nb _ HP.out.symm).mono ?_
  rintro e w3 ⟨rfl, hw⟩
  rw [hw]
  clear hw
  have hp : acr i nb = false ∨ acr i nb = true := by cases acr i nb <;> simp
  obtain ⟨f, hf'⟩ : ∃ f, f = acr i nb := ⟨_, rfl⟩
  rw [← hf'] at hp ⊢
  have HQ : Hid _ := hf'
  clear hf'
  rcases hp with rfl | rfl
  case inr =>
    have hC1 : C = 2 := by rw [hCC]; unfold mayC; rw [← HP.out, ← HQ.out]; rfl
    have hne : mayC i xs.length ≠ 0 := by rw [hxl, ← hCC, hC1]; decide
    clear hCC
    subst hC1
    have : LB = bs := by rw [HLB.out]; unfold tpB; rw [tY, if_pos rfl, if_neg (hne)]
    subst this
    have : LW = ws := by rw [HLW.out]; unfold tpW; rw [tY, if_pos rfl]
    subst this
    have dR := arr2 A1
    have fR := A1.frozen
    have dQ := arr2 AQ
    have lQ := AQ.lt
    have lR := A1.lt
    have K : Arr ((W.setCell ⟨w.heap.size + 1, 0, none⟩ (.slice (some ⟨g, 0, none⟩) nB c)).setCell ⟨w.heap.size + 1, 1, none⟩ (.slice (some ⟨g', 0, none⟩) nW c')) (w.heap.size + 1) 25 [.slice (some ⟨g, 0, none⟩) nB c, .slice (some ⟨g', 0, none⟩) nW c'] := (A1.set 0 _).set 1 _
    have BF : Below w.heap.size w ((W.setCell ⟨w.heap.size + 1, 0, none⟩ (.slice (some ⟨g, 0, none⟩) nB c)).setCell ⟨w.heap.size + 1, 1, none⟩ (.slice (some ⟨g', 0, none⟩) nW c')) := (B.setCell (by simp) _).setCell (by simp) _
    have OF : OwnFl w.heap.size ((W.setCell ⟨w.heap.size + 1, 0, none⟩ (.slice (some ⟨g, 0, none⟩) nB c)).setCell ⟨w.heap.size + 1, 1, none⟩ (.slice (some ⟨g', 0, none⟩) nW c')) (some ⟨g, 0, none⟩) nB c (some ⟨g', 0, none⟩) nW c' LB LW := (O.setO (w.heap.size + 1) 0 _ (by omega)).setO (w.heap.size + 1) 1 _ (by omega) |>.base (by omega)
    have HK : Hid _ := K
    have HBF : Hid _ := BF
    have HOF : Hid _ := OF
    clear K BF OF
    go_wp2
    exact bodyPost_ret (results_row_tmp (v := .int .i64 2) (t := 25) (cs := [.slice (some ⟨g, 0, none⟩) nB c, .slice (some ⟨g', 0, none⟩) nW c']) rfl rfl rfl HK.out Try.underlying25 rfl (by kernel_rfl)) rfl ⟨_, rfl, IsFl.of HOF.out, HBF.out⟩
  have hz : mayC i nb = 0 := by unfold mayC; rw [← HP.out, ← HQ.out]; rfl
  have h0 : C = 0 := by rw [hCC, hz]
  obtain ⟨j1, j2, j3⟩ := inF_iff.1 HP.out.symm
  obtain ⟨I, rfl⟩ : ∃ I : Nat, i = (I : Int) := ⟨i.toNat, by omega⟩
  have hLB : LB = tn (pf xs ms) bs I nb := by rw [HLB.out]; unfold tpB; rw [tY, if_pos rfl, hxl, if_pos hz]; simp
  subst hLB
  have : LW = ws := by rw [HLW.out]; unfold tpW; rw [tY, if_pos rfl]
  subst this
  clear hCC hz
  subst h0
  have hx3 := hb.below B
  have hm3 := hmm.below B
  have cQ := arr2 AQ
  have hcc : nB ≤ c := by
    rcases O.ob.2 with ⟨h, _⟩ | ⟨g9, cap, cur, e9, _, _, h9, _⟩
    · cases h
    · injection e9 with e9 e8 e7
      omega
  have hIw : IntKind.i64.wrap ((I : Int) + (nb : Int)) = (I : Int) + (nb : Int) := by rw [IntKind.wrap_i64]; omega
  obtain ⟨SL, pl, cp, hSL, hpl⟩ : ∃ (SL : Value) (pl : Option Addr) (cp : Nat), SL = .slice pl nb cp ∧ ((I = c ∧ nb = 0 ∧ pl = some ⟨g, 0, none⟩ ∧ cp = 0) ∨ (I ≠ c ∧ pl = some ⟨g, I, none⟩ ∧ cp = c - I)) := by
    by_cases hI : I = c
    · exact ⟨_, some ⟨g, 0, none⟩, 0, rfl, .inl ⟨hI, by omega, rfl, rfl⟩⟩
    · exact ⟨_, some ⟨g, I, none⟩, c - I, rfl, .inr ⟨hI, rfl, rfl⟩⟩
  go_wp2
  try simp only [Act.put]
  refine tame [kc 33 (.pointer (some ⟨w2.heap.size, 0, none⟩)), kc 34 (.slice (some ⟨g, 0, none⟩) nB c), kc 35 (.int .i64 (I : Int)), kc 36 (.int .i64 (I : Int)), kc 37 (.slice ab nb cb), kc 38 (.int .i64 (nb : Int)), kc 39 (.int .i64 ((I : Int) + (nb : Int))), kc 40 SL, kc 41 (.slice ab nb cb), kv 42 (Rn 5 nb (U8 (opp xs))), kc 43 (.slice am nm cm)] 11 (by kernel_rfl) (by kernel_rfl) (by kernel_rfl) (by repeat' first | exact trivial | apply kc_keeps | apply rn_keeps | constructor) 1 (by kernel_rfl) (fun vv ll hh yW bW => ?_) (fun vv ll hh yW bW F ivh aph => ?_)
  · have x0 := (bW.cell (p := ⟨w2.heap.size, 0, none⟩) AQ.lt).trans cQ.1
    refine ⟨tp (by kernel_rfl), tp ?_, tp (by kernel_rfl), tp (by kernel_rfl), tp (by kernel_rfl), tp ?_, tp ?_, tp ?_, tp (by kernel_rfl), tcn (implOpposites _ _ _ _ _ (hx3.below bW) hbn) (by kernel_rfl), tp (by kernel_rfl), trivial⟩
    · simp only [fillK, putT, List.setIfInBounds_toArray, List.set_cons_zero, List.set_cons_succ]
      unfold execOp
      go_simp
    · simp only [fillK, putT, List.setIfInBounds_toArray, List.set_cons_zero, List.set_cons_succ]
      unfold execOp
      go_simp
    · simp only [fillK, putT, List.setIfInBounds_toArray, List.set_cons_zero, List.set_cons_succ]
      unfold execOp
      go_simp
    · simp only [fillK, putT, List.setIfInBounds_toArray, List.set_cons_zero, List.set_cons_succ]
      unfold execOp
      rcases hpl with ⟨rfl, rfl, rfl, rfl⟩ | ⟨hI, rfl, rfl⟩
      · rw [hSL]
        go_simp
      · rw [hSL]
        go_simp
        rw [if_pos ⟨by omega, by omega⟩, show ((I : Int) + (nb : Int)).toNat = I + nb by omega, if_pos (by omega), if_neg (by omega), Nat.add_sub_cancel_left]
  have f9 : Rn 5 nb (U8 (opp xs)) (ll 9) (hh 9) yW (vv 9) := F.2.2.2.2.2.2.2.2.2.1
  have s9 := ivh 9 (by omega)
  clear F ivh aph
  obtain ⟨y, hy⟩ : ∃ z, z = yW := ⟨_, rfl⟩
  rw [← hy] at bW f9 ⊢
  clear hy
  obtain ⟨v9, hv9⟩ : ∃ v, v = vv 9 := ⟨_, rfl⟩
  rw [← hv9] at f9
  obtain ⟨az, cz, ez, _, hbz⟩ := Bs.own f9.1 (opp_byte xs)
  have hoz : OffB az nb g := by
    by_cases h0 : nb = 0
    · exact .inl h0
    · refine .inr fun p hp e => ?_
      have hw := f9.1.lt
      rw [ez, hp] at hw
      have hw2 := hw p.block (by obtain ⟨pb, po, ps⟩ := p; rcases f9.1.2 with ⟨_, h⟩ | ⟨g9, cap, cur, e9, _⟩; · omega
                                 · rw [ez, hp] at e9
                                   injection e9 with e9
                                   injection e9 with e9
                                   injection e9 with e1 e2 e3
                                   subst e1; subst e2; subst e3
                                   rfl)
      omega
  have hplc : nb = 0 ∨ pl = some ⟨g, I, none⟩ ∧ nb ≤ nb := by
    rcases hpl with ⟨_, h, _⟩ | ⟨_, h, _⟩
    · exact .inl h
    · exact .inr ⟨h, Nat.le_refl _⟩
  have ho9 := own_below O.ob bW
  have hm9 := hm3.below bW
  refine st_call (i := 11) (by kernel_rfl) rfl rfl (f := 69) (args := #[SL, .int .i64 0, v9, .slice am nm cm]) ?_ ?_
  · rw [hv9]
    kernel_rfl
  rw [hSL, ez]
  refine (turnClear w1.heap.size g nB c bs I pl nb cp az nb cz (opp xs) am nm cm ms _ ho9 hplc hbz hm9 hoz (hmm.off (by omega)) (by omega) hn hmn).mono ?_
  rintro e w5 ⟨⟨v, rfl⟩, o5, g5⟩
  refine ⟨v, rfl, ?_⟩
  refine wpAny_done (by kernel_rfl) ?_ _
  rw [tn_congr (g := pf xs ms) bs I nb (fun q b hq => by rw [opp_get xs q (by omega), tpb_eq]; rfl)] at o5
  have O5 : OwnFl w1.heap.size w5 (some ⟨g, 0, none⟩) nB c (some ⟨g', 0, none⟩) nW c' (tn (pf xs ms) bs I nb) LW := ⟨o5, own_kept (u := .slice (some ⟨g, 0, none⟩) nB c) (own_below O.ow bW) g5 O.ap, O.ap⟩
  have B5 : Below w.heap.size w w5 := (B.trans (bW.mono B.size)).grown g5 (Nat.le_trans B.size bW.size) (fun k hk => by cases hk; omega)
  have A15 := (A1.kept bW).grown g5 (by omega)
  have AQ5 := (AQ.kept bW).grown g5 (by omega)
  clear o5 g5 O OW A1 AQ A0 B bW f9 hbz hoz ho9 hm9 cQ hSL hpl
  simp only [fillK, putT, List.setIfInBounds_toArray, List.set_cons_zero, List.set_cons_succ]
  have dR := arr2 A15
  have fR := A15.frozen
  have dQ := arr2 AQ5
  have lQ := AQ5.lt
  have lR := A15.lt
  have K : Arr ((w5.setCell ⟨w.heap.size + 1, 0, none⟩ (.slice (some ⟨g, 0, none⟩) nB c)).setCell ⟨w.heap.size + 1, 1, none⟩ (.slice (some ⟨g', 0, none⟩) nW c')) (w.heap.size + 1) 25 [.slice (some ⟨g, 0, none⟩) nB c, .slice (some ⟨g', 0, none⟩) nW c'] := (A15.set 0 _).set 1 _
  have BF : Below w.heap.size w ((w5.setCell ⟨w.heap.size + 1, 0, none⟩ (.slice (some ⟨g, 0, none⟩) nB c)).setCell ⟨w.heap.size + 1, 1, none⟩ (.slice (some ⟨g', 0, none⟩) nW c')) := (B5.setCell (by simp) _).setCell (by simp) _
  have OF : OwnFl w.heap.size ((w5.setCell ⟨w.heap.size + 1, 0, none⟩ (.slice (some ⟨g, 0, none⟩) nB c)).setCell ⟨w.heap.size + 1, 1, none⟩ (.slice (some ⟨g', 0, none⟩) nW c')) (some ⟨g, 0, none⟩) nB c (some ⟨g', 0, none⟩) nW c' (tn (pf xs ms) bs I nb) LW := (O5.setO (w.heap.size + 1) 0 _ (by omega)).setO (w.heap.size + 1) 1 _ (by omega) |>.base (by omega)
  have HK : Hid _ := K
  have HBF : Hid _ := BF
  have HOF : Hid _ := OF
  clear K BF OF
  go_wp2
  exact bodyPost_ret (results_row_tmp (v := .int .i64 0) (t := 25) (cs := [.slice (some ⟨g, 0, none⟩) nB c, .slice (some ⟨g', 0, none⟩) nW c']) rfl rfl rfl HK.out Try.underlying25 rfl (by kernel_rfl)) rfl ⟨_, rfl, IsFl.of HOF.out, HBF.out⟩

theorem program_i (aB : Option Addr) (nB cB : Nat) (aW : Option Addr) (nW cW : Nat) (bs ws : List Int) (i : Int) (ab : Option Addr) (nb cb : Nat) (xs : List Int) (w : World) (hB : Bs w aB nB cB bs) (hW : Is w aW nW cW ws) (hn : nB ≤ 2097152) (hm : nW ≤ 2097152) (hl : -9223372036854775808 ≤ i) (hu : i ≤ 9223372036854775807) (hb : Bs w ab nb cb xs) (hbn : nb ≤ 2097152) :
    Calls Try.prog 16 #[flV aB nB cB aW nW cW, .int .i64 i, .slice ab nb cb] w fun e w' => ∃ v, e = .returned (.tuple #[v, .int .i64 (tpC bs ws i xs [255])]) ∧ IsFl w w' v (tpB bs ws i xs [255]) (tpW bs ws [255]) ∧ Below w.heap.size w w' := by
  obtain ⟨V, hV⟩ : ∃ V, V = (w.alloc (.cells #[.slice aB nB cB, .slice aW nW cW] 25)).alloc (.cells #[.slice none 0 0, .slice none 0 0] 25) := ⟨_, rfl⟩
  have B : Below w.heap.size w V := by rw [hV]; exact ((Below.refl _ _).alloc (Nat.le_refl _) _).alloc (by simp) _
  have A0 : Arr V w.heap.size 25 [.slice aB nB cB, .slice aW nW cW] := by rw [hV]; exact (Arr.new w _ _).alloc _
  have A1 : Arr V (w.heap.size + 1) 25 [.slice none 0 0, .slice none 0 0] := by
    rw [hV]
    have := Arr.new (w.alloc (.cells #[.slice aB nB cB, .slice aW nW cW] 25)) [.slice none 0 0, .slice none 0 0] 25
    simpa using this
  have z : w.heap.size + 2 ≤ V.heap.size := by rw [hV]; simp
  have h255 : Bs (V.alloc (.cells #[.int .u8 255] 5)) (some ⟨V.heap.size, 0, none⟩) 1 1 [255] := Bs.one V 255 (by omega) (by omega)
  have bm : Below V.heap.size V (V.alloc (.cells #[.int .u8 255] 5)) := (Below.refl _ _).alloc (Nat.le_refl _) _
  have zm : V.heap.size < (V.alloc (.cells #[.int .u8 255] 5)).heap.size := by simp
  obtain ⟨M, hM⟩ : ∃ M, M = V.alloc (.cells #[.int .u8 255] 5) := ⟨_, rfl⟩
  rw [← hM] at h255 bm zm
  have A1M := A1.kept bm
  have BM := B.trans (bm.mono B.size)
  have e1 : V.heap.size = w.heap.size + 1 + 1 := by rw [hV]; simp
  rw [e1] at h255
  obtain ⟨C, hC⟩ : ∃ C, C = tpC bs ws i xs [255] := ⟨_, rfl⟩
  obtain ⟨LB, hLB⟩ : ∃ L, L = tpB bs ws i xs [255] := ⟨_, rfl⟩
  obtain ⟨LW, hLW⟩ : ∃ L, L = tpW bs ws [255] := ⟨_, rfl⟩
  have HT : Calls Try.prog 27 #[flV aB nB cB aW nW cW, .int .i64 i, .slice ab nb cb, .slice (some ⟨w.heap.size + 1 + 1, 0, none⟩) 1 1] M fun e w' => ∃ v, e = .returned (.tuple #[v, .int .i64 C]) ∧ IsFl M w' v LB LW ∧ Below M.heap.size M w' := by
    rw [hC, hLB, hLW]
    exact tornProgram_i aB nB cB aW nW cW bs ws i ab nb cb xs (some ⟨w.heap.size + 1 + 1, 0, none⟩) 1 1 [255] M (hB.below BM) (hW.below BM) hn hm hl hu (hb.below BM) hbn h255 (by omega)
  rw [← hC, ← hLB, ← hLW]
  clear bm hC hLB hLW
  have c0 := arr2 A0
  rw [hV] at c0 hM
  have z9 : w.heap.size + 2 ≤ M.heap.size := by omega
  clear e1 zm z h255 A0 A1 B hV
  go_enter Try.func16, Try.ntmps16
  go_wp2_with fail
  rw [← hM]
  clear hM c0
  refine HT.mono ?_
  rintro e w5 ⟨v, rfl, hv, b5⟩
  obtain ⟨a, c, a', c', rfl, O⟩ := hv
  have B5 := BM.trans (b5.mono BM.size)
  have A15 := A1M.kept b5
  have o1 : In (.slice a LB.length c) M.heap.size w5.heap.size := In.of O.ob
  have o2 : In (.slice a' LW.length c') M.heap.size w5.heap.size := In.of O.ow
  clear HT b5 A1M BM
  have dR := arr2 A15
  have fR := A15.frozen
  have lR := A15.lt
  have K : Arr ((w5.setCell ⟨w.heap.size + 1, 0, none⟩ (.slice a LB.length c)).setCell ⟨w.heap.size + 1, 1, none⟩ (.slice a' LW.length c')) (w.heap.size + 1) 25 [.slice a LB.length c, .slice a' LW.length c'] := (A15.set 0 _).set 1 _
  have BF : Below w.heap.size w ((w5.setCell ⟨w.heap.size + 1, 0, none⟩ (.slice a LB.length c)).setCell ⟨w.heap.size + 1, 1, none⟩ (.slice a' LW.length c')) := (B5.setCell (by simp) _).setCell (by simp) _
  have OF : OwnFl w.heap.size ((w5.setCell ⟨w.heap.size + 1, 0, none⟩ (.slice a LB.length c)).setCell ⟨w.heap.size + 1, 1, none⟩ (.slice a' LW.length c')) a LB.length c a' LW.length c' LB LW := ⟨own_otherS (own_otherS (own_base O.ob (by omega)) _ _ (o1.ne (by simp; omega))) _ _ (o1.ne (by simp; omega)), own_otherS (own_otherS (own_base O.ow (by omega)) _ _ (o2.ne (by simp; omega))) _ _ (o2.ne (by simp; omega)), O.ap⟩
  have HK : Hid _ := K
  have HBF : Hid _ := BF
  have HOF : Hid _ := OF
  clear K BF OF
  go_wp2
  exact bodyPost_ret (results_row_tmp (v := .int .i64 C) (t := 25) (cs := [.slice a LB.length c, .slice a' LW.length c']) rfl rfl rfl HK.out Try.underlying25 rfl (by kernel_rfl)) rfl ⟨_, rfl, IsFl.of HOF.out, HBF.out⟩
end Go.Proofs.Ytcnlpdpbkkjkoaa
