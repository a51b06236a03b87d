/-
  What is proved here: the needs that a bundle lacks, as plain data; append onto a row of needs, and where the new row lies; what the specification's Lacks answers.
-/
import Derived.Test.YtgfjbaigmkdbcaaJK5
import Derived.Test.YtgfjbaigmkdbcaaJK8
import Derived.Test.YtgfjbaigmkdbcaaJK7
import Derived.Maps.AppendAt
namespace Go.Proofs.Ytgfjbaigmkdbcaa
open Go.RowKit
set_option maxRecDepth 100000
set_option maxHeartbeats 4000000
set_option linter.unusedVariables false

/-- The needs that the parts do not meet. -/
def lkN (ps : List PartM) (ns : List NeedM) : List NeedM := ns.filter fun q => !decide (metN ps q)
def lkB (B : BunM) : List NeedM := if bOk B = true then lkN B.ps B.ns else []
theorem lkN_snoc (ps : List PartM) (ns : List NeedM) (q : NeedM) : lkN ps (ns ++ [q]) = lkN ps ns ++ (if metN ps q then [] else [q]) := by
  unfold lkN
  rw [List.filter_append]
  by_cases h : metN ps q
  · have e : (!decide (metN ps q)) = false := by rw [decide_eq_true h]; rfl
    rw [if_pos h]
    simp only [List.filter_cons, List.filter_nil, e]
    rfl
  · have e : (!decide (metN ps q)) = true := by rw [decide_eq_false h]; rfl
    rw [if_neg h]
    simp only [List.filter_cons, List.filter_nil, e]
    rfl
theorem lkN_len (ps : List PartM) (ns : List NeedM) : (lkN ps ns).length ≤ ns.length := List.length_filter_le _ _
theorem lkB_len (B : BunM) : (lkB B).length ≤ 8 := by
  unfold lkB
  split
  · next h =>
    have := lkN_len B.ps B.ns
    have := ((bOk_iff B).1 h).1
    omega
  · simp
theorem mts_one (ps : List PartM) (q : NeedM) : mts ps [q] = decide (metN ps q) := by
  unfold mts
  congr 1
  apply propext
  constructor
  · intro h; simpa using h 0 (by simp)
  · intro h i hi
    have : i = 0 := by simpa using hi
    subst this
    simpa using h
theorem ns_one {W : World} {g : Nat} {q : NeedM} (A : Arr W g 115 [.int .i64 q.o, .int .i64 q.f, .int .i64 q.t, .int .i64 q.k]) : Ns W (some ⟨g, 0, none⟩) 1 1 [q] :=
  ⟨(fun h => by cases h), rfl, Nat.le_refl _, .inr ⟨g, 0, rfl, A.lt, fun i hi => by
    have : i = 0 := by omega
    subst this
    exact ⟨A.cell 0, A.cell 1, A.cell 2, A.cell 3⟩⟩⟩
theorem ns_snoc (ns : List NeedM) (k : Nat) (h : k < ns.length) : ns.take (k + 1) = ns.take k ++ [ns.getD k nz] := by
  rw [List.take_succ_eq_append_getElem h]; simp [h]
theorem FL_oneN : ∀ (xs : List Rc), ∀ u ∈ FL xs, u.oneCell' = true
  | [], u, h => by cases h
  | r :: t, u, h => by
    simp only [FL, List.mem_cons] at h
    rcases h with rfl | rfl | rfl | rfl | h
    · rfl
    · rfl
    · rfl
    · rfl
    · exact FL_oneN t u h
/-- append of one need onto a row of needs. -/
theorem run_app_nd (w : World) (base : Nat) (v : Value) (n : Nat) (xs : List Rc) (hown : w.ownsRow base 115 4 v n (FL xs)) (g c : Nat) (q : NeedM)
    (A : Arr w g 115 [.int .i64 q.o, .int .i64 q.f, .int .i64 q.t, .int .i64 q.k]) (hn : n ≤ 1048576) (hbase : base ≤ w.heap.size) :
    ∃ v' w', (Builtin.append_ #[29, 29] 29 #[v, .slice (some ⟨g, 0, none⟩) 1 c]).run Try.prog w = .ok v' w' ∧ w'.ownsRow base 115 4 v' (n + 1) (FL (xs ++ [nrc q])) ∧ w.grownBy w' v.ownBlock ∧ (v'.ownBlock = v.ownBlock ∨ v'.ownBlock = some w.heap.size) := by
  obtain ⟨i0, hi, hz0, hz1, hz2⟩ := info_parts (show (Try.prog.info? 115).map (fun i => (i.zero, i.size, i.bytes)) = some (some (rcV 0 0 0 0), 4, 32) by kernel_rfl)
  obtain ⟨v', w', h1, h2, h3, _, h5⟩ := run_append_own_at (P := Try.prog) w base 29 29 115 i0 (rcV 0 0 0 0) 4 32 Try.underlying29 hi hz0 hz1 hz2 rfl (by decide) v n (FL xs) hown ⟨g, 0, none⟩ 1 c (FL [nrc q]) rfl
    (fun j u hj => by
      rw [Addr.add_lit]
      have hj4 : j < 4 := by
        have := (List.getElem?_eq_some_iff.1 hj).1
        simpa [FL] using this
      rw [show (0 : Nat) + j = j by omega, A.cell j]
      exact hj)
    (FL_oneN _) (by unfold maxLen; omega) (by omega) hbase
  exact ⟨v', w', h1, by rw [FL_app]; exact h2, h3, h5⟩
theorem wpl_app_nd {w : World} {ops : Array Oper} {rest : List Oper} {o : Oper} {a : Act} {Q : Exit → Act → World → Prop} (hgd : o.guard = none) (s x : Operand)
    (ho : o.op = .call { callee := .builtin .append, args := #[s, x], argTypes := #[29, 29] }) (hty : o.type = 29)
    (base : Nat) (v : Value) (n : Nat) (xs : List Rc) (hs : a.eval s = v) (g c : Nat) (q : NeedM) (hx : a.eval x = .slice (some ⟨g, 0, none⟩) 1 c)
    (hown : w.ownsRow base 115 4 v n (FL xs)) (A : Arr w g 115 [.int .i64 q.o, .int .i64 q.f, .int .i64 q.t, .int .i64 q.k]) (hn : n ≤ 1048576) (hbase : base ≤ w.heap.size)
    (h : ∀ v' w', w'.ownsRow base 115 4 v' (n + 1) (FL (xs ++ [nrc q])) → w.grownBy w' v.ownBlock → wpList Try.prog ops Q rest (a.put o.dst v') w') :
    wpList Try.prog ops Q (o :: rest) a w := by
  refine wpList_plain hgd fun K hK => ?_
  obtain ⟨v', w', hr, h2, h3, h5⟩ := run_app_nd w base v n xs hown g c q A hn hbase
  rw [← hty] at hr
  unfold Oper.wp execOp
  simp only [ho, resolve, invoke, builtin, Sem.run_bind, Sem.run_pure, Result.andThen_ok, List.map_toArray, List.map_cons, List.map_nil, hs, hx]
  rw [hty] at hr ⊢
  simp only [hr]
  exact hK _ _ (h v' w' h2 h3)
end Go.Proofs.Ytgfjbaigmkdbcaa
namespace Go.Proofs.Ytgfjbaigmkdbcaa
open Go.RowKit
set_option maxRecDepth 100000
set_option maxHeartbeats 4000000
set_option linter.unusedVariables false

theorem specLacks (pa : Option Addr) (pn pc : Nat) (na : Option Addr) (nn nc : Nat) (B : BunM) (w : World) (hp : Ps w pa pn pc B.ps) (hn : Ns w na nn nc B.ns) :
    Calls Try.prog 36 #[bunV B.d B.n B.f pa pn pc na nn nc] w fun e w' => ∃ v, e = .returned v ∧ w'.ownsRow w.heap.size 115 4 v (lkB B).length (FL ((lkB B).map nrc)) ∧ Below w.heap.size w w' := by
  obtain ⟨V, hV⟩ : ∃ V, V = w.alloc (.cells #[.int .i64 B.d, .int .i64 B.n, .int .i64 B.f, .slice pa pn pc, .slice na nn nc] 31) := ⟨_, rfl⟩
  have A : Arr V w.heap.size 31 [.int .i64 B.d, .int .i64 B.n, .int .i64 B.f, .slice pa pn pc, .slice na nn nc] := by rw [hV]; exact Arr.new _ _ _
  have Bl : Below w.heap.size w V := by rw [hV]; exact (Below.refl _ _).alloc (Nat.le_refl _) _
  have lp := hp.2.1
  have ln := hn.2.1
  have HB : Hid (∀ Z, Below w.heap.size w Z → Calls Try.prog 16 #[bunV B.d B.n B.f pa pn pc na nn nc] Z fun e w' => e = .returned (.bool (bOk B)) ∧ Below Z.heap.size Z w') := by
    unfold Hid; intro Z hZ; exact spec8BundleOk pa pn pc na nn nc B Z (hp.below hZ) (hn.below hZ)
  have HLy : Hid (bOk B = true → lkB B = lkN B.ps B.ns) := fun h => if_pos h
  have HLn : Hid (bOk B = false → lkB B = []) := fun h => if_neg (by rw [h]; decide)
  have HL : Hid (bOk B = true → pn ≤ 4 ∧ nn ≤ 8) := by
    unfold Hid; intro h; have := ((bOk_iff B).1 h).1; omega
  have HPs : Hid (Ps w pa pn pc B.ps) := hp
  have HNs : Hid (Ns w na nn nc B.ns) := hn
  generalize bOk B = q at HB HLy HLn HL
  generalize lkB B = LL at HLy HLn ⊢
  obtain ⟨d, n, f, ps, ns⟩ := B
  simp only [] at *
  clear hp hn lp
  have HNl : Hid (ns.length = nn) := ln
  clear ln
  have c0 := A.cell 0
  have c1 := A.cell 1
  have c2 := A.cell 2
  have c3 := A.cell 3
  have c4 := A.cell 4
  simp at c0 c1 c2 c3 c4
  go_enter Try.func36, Try.ntmps36
  go_upto_region 1 with fail
  rw [← hV]
  clear hV
  go_wp2_with fail
  refine (HB.out _ Bl).mono ?_
  rintro e w1 ⟨rfl, b1⟩
  replace A := A.kept b1
  replace Bl := Bl.trans (b1.mono Bl.size)
  clear c0 c1 c2 c3 c4 b1 HB
  cases q with
  | false =>
    go_wp2
    go_ret
    exact ⟨_, rfl, by rw [HLn.out (by first | rfl | trivial)]; exact World.ownsRow_nil _ _ _ _, Bl⟩
  | true =>
    replace HLy : Hid (LL = lkN ps ns) := HLy.out (by first | rfl | trivial)
    replace HL := HL.out (by first | rfl | trivial)
    clear HLn
    have HO0 : Hid (w1.ownsRow w.heap.size 115 4 (.slice none 0 0) (lkN ps (ns.take 0)).length (FL ((lkN ps (ns.take 0)).map nrc))) := World.ownsRow_nil _ _ _ _
    go_wp2
    go_loopw [3, 4] (fun v i wr => ∃ k : Nat, k ≤ nn ∧ i = .int .i64 k ∧ Hid (wr.ownsRow w.heap.size 115 4 v (lkN ps (ns.take k)).length (FL ((lkN ps (ns.take k)).map nrc))) ∧ Arr wr w.heap.size 31 [.int .i64 d, .int .i64 n, .int .i64 f, .slice pa pn pc, .slice na nn nc] ∧ Below w.heap.size w wr) (fun _ i _ => nn - (intOf i).toNat)
    case atStart => exact ⟨0, by omega, rfl, HO0, A, Bl⟩
    case round =>
      clear A Bl HO0
      obtain ⟨k, hk, rfl, HO, A, Bl⟩ := hrel
      have c0 := A.cell 0
      have c1 := A.cell 1
      have c2 := A.cell 2
      have c3 := A.cell 3
      have c4 := A.cell 4
      simp at c0 c1 c2 c3 c4
      by_cases hlt : (k : Int) < (nn : Int)
      · obtain ⟨b, o, rfl, hbs, hcell⟩ : ∃ b o, na = some ⟨b, o, none⟩ ∧ b < wr.heap.size ∧ ∀ i, i < nn → NeedAt wr b (o + i * 4) (ns.getD i nz) := by
          rcases (HNs.out.below Bl).2.2.2 with hq | hq
          · omega
          · exact hq
        have P := hcell k (by omega)
        obtain ⟨p, ep⟩ : ∃ p, p = ns.getD k nz := ⟨_, rfl⟩
        rw [← ep] at P
        have HE : Hid _ := ep
        obtain ⟨no, nf, nt, nk⟩ := p
        obtain ⟨q1, q2, q3, q4⟩ := P
        simp only [] at q1 q2 q3 q4
        have hk0 : (0 : Int) ≤ (k : Int) := by omega
        clear ep hcell
        have hal := A.lt
        go_upto_region 8 with fail
        obtain ⟨Z, hZ⟩ : ∃ Z, Z = wr.alloc (.cells #[.int .i64 d, .int .i64 n, .int .i64 f, .slice pa pn pc, .slice (some ⟨b, o, none⟩) nn nc] 31) := ⟨_, rfl⟩
        have bV : Below wr.heap.size wr Z := by rw [hZ]; exact (Below.refl _ _).alloc (Nat.le_refl _) _
        have D : Arr Z wr.heap.size 31 [.int .i64 d, .int .i64 n, .int .i64 f, .slice pa pn pc, .slice (some ⟨b, o, none⟩) nn nc] := by rw [hZ]; exact Arr.new _ _ _
        rw [← hZ]
        obtain ⟨X, hX⟩ : ∃ X, X = wr.heap.size := ⟨_, rfl⟩
        have HXw : Hid (w.heap.size ≤ X) := by unfold Hid; rw [hX]; exact Bl.size
        rw [← hX] at D hal ⊢
        have lX := D.lt
        replace A := A.kept bV
        have HO1 : Hid (Z.ownsRow w.heap.size 115 4 u3 (lkN ps (ns.take k)).length (FL ((lkN ps (ns.take k)).map nrc))) := own_below HO.out bV
        have HG1 : Hid (∀ j, u3.ownBlock = some j → j < X) := fun j hj => by rw [hX]; exact (World.ownsRow.lt HO.out j hj).2
        replace q1 := (bV.cell (p := ⟨b, _, none⟩) hbs).trans q1
        replace q2 := (bV.cell (p := ⟨b, _, none⟩) hbs).trans q2
        replace q3 := (bV.cell (p := ⟨b, _, none⟩) hbs).trans q3
        replace q4 := (bV.cell (p := ⟨b, _, none⟩) hbs).trans q4
        have hbZ : b < Z.heap.size := Nat.lt_of_lt_of_le hbs bV.size
        have HBX : Hid (b < X) := by unfold Hid; rw [hX]; exact hbs
        replace Bl := Bl.trans (bV.mono Bl.size)
        clear hZ hX bV c0 c1 c2 c3 c4 hbs HO
        have c4 := A.cell 4
        simp at c4
        have DN := D.alloc (.cells #[.int .i64 no, .int .i64 nf, .int .i64 nt, .int .i64 nk] 115)
        have d4 := DN.cell 4
        have fz := DN.frozen 4
        simp only [List.getElem?_cons_succ, List.getElem?_cons_zero] at d4
        go_upto_region 9 with fail
        obtain ⟨S, hS⟩ : ∃ S, S = Z.setCell ⟨X, 4, none⟩ (.slice (some ⟨Z.heap.size, 0, none⟩) 1 1) := ⟨_, rfl⟩
        have zS : S.heap.size = Z.heap.size := by rw [hS]; simp
        obtain ⟨Y, hY⟩ : ∃ Y, Y = S.alloc (.cells #[.int .i64 no, .int .i64 nf, .int .i64 nt, .int .i64 nk] 115) := ⟨_, rfl⟩
        rw [← hS, ← hY]
        obtain ⟨g, hg⟩ : ∃ g, g = Z.heap.size := ⟨_, rfl⟩
        have lg : X < g := by rw [hg]; exact lX
        have E : Arr Y g 115 [.int .i64 no, .int .i64 nf, .int .i64 nt, .int .i64 nk] := by
          rw [hY, hg, ← zS]
          exact Arr.new S [.int .i64 no, .int .i64 nf, .int .i64 nt, .int .i64 nk] 115
        replace D : Arr Y X 31 [.int .i64 d, .int .i64 n, .int .i64 f, .slice pa pn pc, .slice (some ⟨g, 0, none⟩) 1 1] := by
          rw [hY, hS, hg]
          exact (D.set 4 _).alloc _
        have bX : Below X Z Y := by
          have b0 : Below X Z S := by rw [hS]; exact (Below.refl _ _).setCell (p := ⟨X, 4, none⟩) (Nat.le_refl _) _
          rw [hY]
          exact b0.alloc (by rw [zS]; omega) _
        replace A := A.below bX hal
        have HO2 : Hid (Y.ownsRow w.heap.size 115 4 u3 (lkN ps (ns.take k)).length (FL ((lkN ps (ns.take k)).map nrc))) := by
          refine HO1.out.kept (row := some X) ⟨bX.os, bX.tape, bX.output, bX.size, fun i hi hne => ?_⟩ (.inr ?_)
          · rw [hY, Below.heap_alloc _ _ _ (by rw [zS]; exact hi), hS, Below.heap_setCell _ _ _ _ (by intro h; exact hne (by rw [h]))]
          · intro h
            have := HG1.out X h
            omega
        replace Bl := Bl.trans (bX.mono HXw.out)
        have r1 := (bX.cell (p := ⟨b, _, none⟩) HBX.out).trans q1
        have r2 := (bX.cell (p := ⟨b, _, none⟩) HBX.out).trans q2
        have r3 := (bX.cell (p := ⟨b, _, none⟩) HBX.out).trans q3
        have r4 := (bX.cell (p := ⟨b, _, none⟩) HBX.out).trans q4
        have hbY : b < Y.heap.size := Nat.lt_of_lt_of_le hbZ bX.size
        clear hY hS zS hg bX q1 q2 q3 q4 HO1 c4 hbZ lX HG1 d4 fz DN
        have d0 := D.cell 0
        have d1 := D.cell 1
        have d2 := D.cell 2
        have d3 := D.cell 3
        have d4 := D.cell 4
        simp at d0 d1 d2 d3 d4
        have HMt : Hid (mts ps [⟨no, nf, nt, nk⟩] = decide (metN ps ⟨no, nf, nt, nk⟩)) := mts_one ps _
        go_wp2_with fail
        refine (spec8meets d n f pa pn pc ps (some ⟨g, 0, none⟩) 1 1 [⟨no, nf, nt, nk⟩] _ (HPs.out.below Bl) (ns_one E) (by omega) (by omega)).mono ?_
        rintro e w2 ⟨rfl, b2⟩
        rw [HMt.out]
        have HSn : Hid (lkN ps (ns.take (k + 1)) = lkN ps (ns.take k) ++ (if metN ps ⟨no, nf, nt, nk⟩ then [] else [⟨no, nf, nt, nk⟩])) := by
          unfold Hid
          rw [ns_snoc ns k (by have := HNl.out; omega), lkN_snoc, ← HE.out]
        replace A := A.kept b2
        have HO3 : Hid (w2.ownsRow w.heap.size 115 4 u3 (lkN ps (ns.take k)).length (FL ((lkN ps (ns.take k)).map nrc))) := own_below HO2.out b2
        replace r1 := (b2.cell (p := ⟨b, _, none⟩) hbY).trans r1
        replace r2 := (b2.cell (p := ⟨b, _, none⟩) hbY).trans r2
        replace r3 := (b2.cell (p := ⟨b, _, none⟩) hbY).trans r3
        replace r4 := (b2.cell (p := ⟨b, _, none⟩) hbY).trans r4
        replace Bl := Bl.trans (b2.mono Bl.size)
        clear b2 d0 d1 d2 d3 d4 D E HO2 HMt
        by_cases hm : metN ps ⟨no, nf, nt, nk⟩
        · rw [decide_eq_true hm]
          have HR : Hid (w2.ownsRow w.heap.size 115 4 u3 (lkN ps (ns.take (k + 1))).length (FL ((lkN ps (ns.take (k + 1))).map nrc))) := by
            unfold Hid
            rw [HSn.out, if_pos hm, List.append_nil]
            exact HO3.out
          clear hm HO3 HSn
          go_wp2
          go_roundw
          case rel => exact ⟨k + 1, by omega, by go_num, HR, A, Bl⟩
          case measure => simp [intOf]; omega
        · rw [decide_eq_false hm]
          have HS2 : Hid (lkN ps (ns.take (k + 1)) = lkN ps (ns.take k) ++ [⟨no, nf, nt, nk⟩]) := by
            unfold Hid
            rw [HSn.out, if_neg hm]
          have HLn2 : Hid ((lkN ps (ns.take k)).length ≤ 1048576) := by
            unfold Hid
            have h1 := lkN_len ps (ns.take k)
            have h2 : (ns.take k).length ≤ k := by simp; omega
            omega
          clear hm HSn
          have c4 := A.cell 4
          simp at c4
          have lA := A.lt
          go_wp2_with (at_builtin; refine wpl_app_nd rfl _ _ rfl rfl w.heap.size u3 _ _ rfl w2.heap.size 1 ⟨no, nf, nt, nk⟩ rfl (World.ownsRow.alloc HO3.out _) (Arr.new w2 [.int .i64 no, .int .i64 nf, .int .i64 nt, .int .i64 nk] 115) HLn2.out (Nat.le_trans Bl.size (by simp)) ?_)
          intro v3 w3 o3 g3
          have HR : Hid (w3.ownsRow w.heap.size 115 4 v3 (lkN ps (ns.take (k + 1))).length (FL ((lkN ps (ns.take (k + 1))).map nrc))) := by
            unfold Hid
            rw [HS2.out, List.length_append, List.map_append]
            exact o3
          have hlt3 : ∀ j, u3.ownBlock = some j → w.heap.size ≤ j := fun j hj => (World.ownsRow.lt HO3.out j hj).1
          have hA3 : ∀ j, u3.ownBlock = some j → j ≠ w.heap.size := fun j hj e => by
            subst e
            rcases HO3.out.2 with ⟨h, _⟩ | ⟨gg, cap, cur, h, _, hgg, _⟩
            · rw [h] at hj; simp [Value.ownBlock] at hj
            · rw [h] at hj
              simp [Value.ownBlock] at hj
              subst hj
              have := A
              unfold Arr at this
              rw [this] at hgg
              injection hgg with hgg
              injection hgg with _ he _
              exact absurd he (by decide)
          have b3 : Below w.heap.size w2 w3 := ⟨g3.os, g3.tape, g3.output, Nat.le_trans (by simp) g3.size, fun i hi => by
            rw [g3.block i (by simp; have := Bl.size; omega) (fun e => by have := hlt3 i e.symm; omega)]
            exact Below.heap_alloc _ _ _ (by have := Bl.size; omega)⟩
          have A3 : Arr w3 w.heap.size 31 [.int .i64 d, .int .i64 n, .int .i64 f, .slice pa pn pc, .slice (some ⟨b, o, none⟩) nn nc] := by
            have h1 : Arr (w2.alloc (.cells #[.int .i64 no, .int .i64 nf, .int .i64 nt, .int .i64 nk] 115)) w.heap.size 31 _ := A.alloc _
            unfold Arr at h1 ⊢
            rw [g3.block _ (by simp; omega) (fun e => hA3 _ e.symm rfl)]
            exact h1
          replace Bl := Bl.trans b3
          clear A c4 lA HO3 o3 g3 hlt3 hA3 b3 r1 r2 r3 r4 HS2
          go_wp2
          go_roundw
          case rel => exact ⟨k + 1, by omega, by go_num, HR, A3, Bl⟩
          case measure => simp [intOf]; omega
      · have hkn : k = nn := by omega
        subst hkn
        have htk : ns.take k = ns := List.take_of_length_le (by have := HNl.out; omega)
        rw [htk] at HO
        go_wp2
        go_ret
        exact ⟨_, rfl, by rw [HLy.out]; exact HO.out, Bl⟩
end Go.Proofs.Ytgfjbaigmkdbcaa
