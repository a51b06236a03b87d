/-
  What is proved here: what the specification's BundleRead answers.
-/
import Derived.Test.YtofflhhlacdgfaaDoorRs2
import Derived.Test.YtofflhhlacdgfaaDoorRd4
import Derived.Test.YtofflhhlacdgfaaDoorJM26
import Derived.Test.YtofflhhlacdgfaaDoorY1
import Derived.Test.YtofflhhlacdgfaaDoorJM19
namespace Go.Proofs.YtofflhhlacdgfaaDoor
open Go.RowKit Ma
set_option maxRecDepth 100000
set_option maxHeartbeats 16000000
set_option linter.unusedVariables false

def DBy (lo : Nat) (bs : List Int) (_ _ : Nat) (w : World) (u : Value) : Prop := ∃ g c, u = .slice (some ⟨g, 0, none⟩) bs.length c ∧ w.ownsRow lo 5 1 u bs.length (U8 bs)
theorem dBy_keeps (q lo : Nat) (bs : List Int) : Kd.keeps (kv q (DBy lo bs)) := fun _ _ _ _ _ h _ b => by
  obtain ⟨g, c, e, o⟩ := h
  exact ⟨g, c, e, own_below o b⟩
theorem dBy_of {lo : Nat} {W : World} {u : Value} {bs : List Int} (hn : 0 < bs.length) (h : W.ownsRow lo 5 1 u bs.length (U8 bs)) : DBy lo bs 0 0 W u := by
  obtain ⟨_, hs⟩ := own_shape h
  rcases hs with ⟨_, h0⟩ | ⟨g, c, rfl, _⟩
  · omega
  · exact ⟨g, c, rfl, h⟩
theorem tfBy {P : Program} {ev : Operand → Value} {o : Oper} {q lo : Nat} {w : World} {X : Prop} {bs : List Int} {g : FuncId} {args : Array Value} (hlo : lo ≤ w.heap.size) (hn : 0 < bs.length)
    (hc : Calls P g args w fun e w' => ∃ u, e = .returned u ∧ w'.ownsRow w.heap.size 5 1 u bs.length (U8 bs) ∧ Below w.heap.size w w') (h : (execOp ev o).run P w = .ok (.enter g args) w) : Dty X (TOb P ev o (kv q (DBy lo bs)) w) :=
  tr (fun _ => hc.mono (by rintro e' w' ⟨u, rfl, o, hb⟩; exact ⟨_, rfl, _, rfl, hb, dBy_of hn (own_lower o hlo)⟩)) h
theorem buB_pos {B : BunM} (h : bOk B = true) : 0 < (buB B).length := by
  have h1 := ((bOk_iff B).1 h).1.1
  have := numB_pos B.d h1.1 (by omega)
  unfold buB hdB
  simp only [nsB, List.length_append]
  omega
theorem own_nb {W : World} {lo t s n G j : Nat} {v u : Value} {ys : List Value} (k : W.ownsRow lo t s v n ys) (h : ∀ b, v.ownBlock = some b → b ≠ G) : (W.setCell ⟨G, j, none⟩ u).ownsRow lo t s v n ys :=
  k.kept (cur_grown2 W G u j) (by
    cases hv : v.ownBlock with
    | none => exact .inl rfl
    | some b => exact .inr (fun e => h b hv (by injection e)))
theorem specBundleRead (a : Option Addr) (n c : Nat) (xs : List Int) (w : World) (hb : Bs w a n c xs) (hn : n ≤ 1048576) :
    Calls Tryd.prog 32 #[.slice a n c] w (RdAns xs w) := by
  have hlen := hb.2.1
  have hy : ByL xs := hb.2.2.2.1
  obtain ⟨W0, hW0⟩ : ∃ V, V = (w.alloc (.cells #[.int .i64 0, .int .i64 0, .int .i64 0, .slice none 0 0, .slice none 0 0] 26)).alloc (.cells #[.slice a n c, .int .i64 0] 106) := ⟨_, rfl⟩
  have QV : Arr W0 w.heap.size 26 [.int .i64 0, .int .i64 0, .int .i64 0, .slice none 0 0, .slice none 0 0] := by rw [hW0]; exact (Arr.new _ _ _).alloc _
  have A0 : Arr W0 (w.heap.size + 1) 106 (CuC a n c (some 0)) := by
    have := Arr.new (w.alloc (.cells #[.int .i64 0, .int .i64 0, .int .i64 0, .slice none 0 0, .slice none 0 0] 26)) [.slice a n c, .int .i64 0] 106
    rw [hW0]
    simp only [World.size_alloc] at this
    exact this
  have B0 : Below w.heap.size w W0 := by rw [hW0]; exact ((Below.refl _ _).alloc (Nat.le_refl _) _).alloc (by simp) _
  have z0 : w.heap.size + 2 ≤ W0.heap.size := by rw [hW0]; simp
  obtain ⟨C, hC⟩ : ∃ C, C = w.heap.size + 1 := ⟨_, rfl⟩
  rw [← hC] at A0
  have hCV : C ≠ w.heap.size := by omega
  have hlC : C < W0.heap.size := by omega
  have hVC : w.heap.size ≤ C := by omega
  have HB0 : Hid (Bs W0 a n c xs) := hb.below B0
  have HBl : Hid (Below w.heap.size w W0) := B0
  have hne : Hid (∀ b o, a = some ⟨b, o, none⟩ → 0 < n → b ≠ C) := fun b o e h0 e2 => by
    rcases hb.2.2.2.2 with h | ⟨b', o', e', hlt, _⟩
    · omega
    · rw [e] at e'; cases e'; omega
  have CG : Cg W0 W0 C a n c (some 0) := ⟨World.grownBy.refl _ _, A0⟩
  have hp0 : ∀ p, (some 0 : Option Nat) = some p → p ≤ n := fun p hp => by cases hp; omega
  have lV : w.heap.size < W0.heap.size := by omega
  clear A0 B0 hb
  go_enter Tryd.func32, Tryd.ntmps32
  go_upto_region 2 with fail
  rw [← hW0]
  rw [← hC]
  clear hW0 hC z0
  go_wp2_with fail
  refine (specL8get C a n c (some 0) xs _ CG.A (CG.b HB0.out hne.out) hn hp0).mono ?_
  rintro e w1 ⟨rfl, hg, hA⟩
  replace CG := CG.num hg hA
  replace QV := QV.pk hg hCV
  obtain ⟨v0, o1, hs0⟩ : ∃ v o, sget xs (some 0) = (v, o) := ⟨(sget xs (some 0)).1, (sget xs (some 0)).2, rfl⟩
  have hpo1 : ∀ p, o1 = some p → p ≤ n := fun q9 hq9 => by
    have := sget_le hy (o := (some 0)) (fun p9 hp9 => by have := hp0 p9 hp9; omega) q9 (by rw [hs0]; exact hq9)
    omega
  rw [hs0] at CG ⊢
  dsimp only at CG ⊢
  clear hg hA
  obtain ⟨X1, hX1⟩ : ∃ Z, Z = w1.alloc (.cells #[.int .i64 v0, .int .i64 0, .int .i64 0, .slice none 0 0, .slice none 0 0] 26) := ⟨_, rfl⟩
  have QX : Arr X1 w1.heap.size 26 [.int .i64 v0, .int .i64 0, .int .i64 0, .slice none 0 0, .slice none 0 0] := by rw [hX1]; exact Arr.new _ _ _
  have zz := CG.G.size
  replace CG := CG.alloc (.cells #[.int .i64 v0, .int .i64 0, .int .i64 0, .slice none 0 0, .slice none 0 0] 26)
  replace QV := QV.alloc (.cells #[.int .i64 v0, .int .i64 0, .int .i64 0, .slice none 0 0, .slice none 0 0] 26)
  rw [← hX1] at CG QV
  obtain ⟨X, hXe⟩ : ∃ X, X = w1.heap.size := ⟨_, rfl⟩
  rw [← hXe] at QX
  have hXX : W0.heap.size ≤ X := by omega
  have hCX : C ≠ X := by omega
  have hVX : w.heap.size ≠ X := by omega
  go_upto_region 3 with fail
  rw [← hX1]
  rw [← hXe]
  clear hX1 hXe zz
  go_wp2_with fail
  refine (specL8get C a n c o1 xs _ CG.A (CG.b HB0.out hne.out) hn hpo1).mono ?_
  rintro e w2 ⟨rfl, hg, hA⟩
  replace CG := CG.num hg hA
  replace QV := QV.pk hg hCV
  replace QX := QX.pk hg hCX
  obtain ⟨v1, o2, hs1⟩ : ∃ v o, sget xs o1 = (v, o) := ⟨(sget xs o1).1, (sget xs o1).2, rfl⟩
  have hpo2 : ∀ p, o2 = some p → p ≤ n := fun q9 hq9 => by
    have := sget_le hy (o := o1) (fun p9 hp9 => by have := hpo1 p9 hp9; omega) q9 (by rw [hs1]; exact hq9)
    omega
  rw [hs1] at CG ⊢
  dsimp only at CG ⊢
  clear hg hA
  have c1 := QX.cell 1
  simp at c1
  have fX := QX.frozen
  have lX := QX.lt
  go_upto_region 4 with fail
  replace CG := CG.set hXX hlC 1 (.int .i64 v1)
  replace QV := QV.other ⟨X, 1, none⟩ (.int .i64 v1) (by show w.heap.size ≠ X; omega)
  replace QX := QX.set 1 (.int .i64 v1)
  simp only [List.set_cons_zero, List.set_cons_succ] at QX
  clear c1 fX lX
  obtain ⟨z2, hZ⟩ : ∃ Z, Z = w2.setCell ⟨X, 1, none⟩ (.int .i64 v1) := ⟨_, rfl⟩
  rw [← hZ] at CG QV QX ⊢
  clear hZ
  go_wp2_with fail
  refine (specL8get C a n c o2 xs _ CG.A (CG.b HB0.out hne.out) hn hpo2).mono ?_
  rintro e w3 ⟨rfl, hg, hA⟩
  replace CG := CG.num hg hA
  replace QV := QV.pk hg hCV
  replace QX := QX.pk hg hCX
  obtain ⟨v2, o3, hs2⟩ : ∃ v o, sget xs o2 = (v, o) := ⟨(sget xs o2).1, (sget xs o2).2, rfl⟩
  have hpo3 : ∀ p, o3 = some p → p ≤ n := fun q9 hq9 => by
    have := sget_le hy (o := o2) (fun p9 hp9 => by have := hpo2 p9 hp9; omega) q9 (by rw [hs2]; exact hq9)
    omega
  rw [hs2] at CG ⊢
  dsimp only at CG ⊢
  clear hg hA
  have c2 := QX.cell 2
  simp at c2
  have fX := QX.frozen
  have lX := QX.lt
  go_upto_region 5 with fail
  replace CG := CG.set hXX hlC 2 (.int .i64 v2)
  replace QV := QV.other ⟨X, 2, none⟩ (.int .i64 v2) (by show w.heap.size ≠ X; omega)
  replace QX := QX.set 2 (.int .i64 v2)
  simp only [List.set_cons_zero, List.set_cons_succ] at QX
  clear c2 fX lX
  obtain ⟨z3, hZ⟩ : ∃ Z, Z = w3.setCell ⟨X, 2, none⟩ (.int .i64 v2) := ⟨_, rfl⟩
  rw [← hZ] at CG QV QX ⊢
  clear hZ
  go_wp2_with fail
  refine (specL8get C a n c o3 xs _ CG.A (CG.b HB0.out hne.out) hn hpo3).mono ?_
  rintro e w4 ⟨rfl, hg, hA⟩
  replace CG := CG.num hg hA
  replace QV := QV.pk hg hCV
  replace QX := QX.pk hg hCX
  obtain ⟨v3, o4, hs3⟩ : ∃ v o, sget xs o3 = (v, o) := ⟨(sget xs o3).1, (sget xs o3).2, rfl⟩
  have hpo4 : ∀ p, o4 = some p → p ≤ n := fun q9 hq9 => by
    have := sget_le hy (o := o3) (fun p9 hp9 => by have := hpo3 p9 hp9; omega) q9 (by rw [hs3]; exact hq9)
    omega
  rw [hs3] at CG ⊢
  dsimp only at CG ⊢
  clear hg hA
  obtain ⟨K, hKe⟩ : ∃ K : Nat, v3 = (K : Int) := Int.eq_ofNat_of_zero_le (by have := sget_nn hy o3; rw [hs3] at this; exact this)
  rcases shead_or hy hs0 hs1 hs2 hs3 with ⟨p3, p4, rfl, hp4, hr4, hrb⟩ | ⟨hrb, rfl, hv3⟩
  case inr =>
    subst hv3
    clear hKe hs0 hs1 hs2 hs3
    have HRn := hrb
    clear hrb
    go_wp2
    go_loopw [7] (fun i wr => i = .int .i64 0 ∧ Hid (Cg W0 wr C a n c none) ∧ Hid (Arr wr w.heap.size 26 [.int .i64 0, .int .i64 0, .int .i64 0, .slice none 0 0, .slice none 0 0]) ∧ Hid (Arr wr X 26 [.int .i64 v0, .int .i64 v1, .int .i64 v2, .slice none 0 0, .slice none 0 0])) (fun i _ => 0)
    case atStart => exact ⟨rfl, CG, QV, QX⟩
    case round =>
      clear CG QV QX
      obtain ⟨rfl, HCG, HQV, HQX⟩ := hrel
      have CG := HCG.out
      have QV := HQV.out
      have QX := HQX.out
      clear HCG HQV HQX
      have HNo : Hid (rdB xs = (⟨0, 0, 0, [], []⟩, false)) := rdB_none HRn
      have hpnone : ∀ p, (none : Option Nat) = some p → p ≤ n := fun p hp => by cases hp
      go_wp2_with fail
      refine (specL8get C a n c none xs _ CG.A (CG.b HB0.out hne.out) hn hpnone).mono ?_
      rintro e wd ⟨rfl, hg, hA⟩
      replace CG := CG.num hg hA
      replace QV := QV.pk hg hCV
      replace QX := QX.pk hg hCX
      obtain ⟨vd, od, hsd⟩ : ∃ v o, sget xs none = (v, o) := ⟨(sget xs none).1, (sget xs none).2, rfl⟩
      have hpod : ∀ p, od = some p → p ≤ n := fun q9 hq9 => by
        have := sget_le hy (o := none) (fun p9 hp9 => by have := hpnone p9 hp9; omega) q9 (by rw [hsd]; exact hq9)
        omega
      rw [hsd] at CG ⊢
      dsimp only at CG ⊢
      clear hg hA
      have hvd : vd = 0 := by cases hsd; rfl
      have hod : od = none := by cases hsd; rfl
      subst hvd
      subst hod
      go_wp2
      go_loopw [9] (fun i wr => i = .int .i64 0 ∧ Hid (Cg W0 wr C a n c none) ∧ Hid (Arr wr w.heap.size 26 [.int .i64 0, .int .i64 0, .int .i64 0, .slice none 0 0, .slice none 0 0])) (fun i _ => 0)
      case atStart => exact ⟨rfl, CG, QV⟩
      case round =>
        clear CG QV QX
        obtain ⟨rfl, HCG, HQV⟩ := hrel
        have CG := HCG.out
        have QV := HQV.out
        clear HCG HQV
        have c1 : wr.cell? ⟨C, 1, none⟩ = some (.int .i64 (-1)) := CG.A.cell 1
        have lC := CG.A.lt
        go_upto_region 23 with fail
        try simp only [Act.put]
        refine tameG [kc 95 (.pointer (some ⟨C, 0, none⟩)), kc 96 (.pointer (some ⟨C, 0, none⟩)), kc 97 (.pointer (some ⟨C, 1, none⟩)), kc 98 (.int .i64 (-1)), kc 99 (.slice a n c), kc 100 (.int .i64 (n : Int)), kc 101 (.bool true), kc 102 (.bool true), kc 103 (undef), kc 104 (undef), kc 105 (undef), kc 106 (.bool true), kc 107 (.bool true), kc 108 (undef), kc 109 (undef), kc 110 (undef), kc 111 (undef), kc 112 (undef), kc 113 (undef), kc 114 (.bool true)] 20 (by kernel_rfl) (by kernel_rfl) (by kernel_rfl) (by repeat' first | exact trivial | apply kc_keeps | constructor) 0 (by kernel_rfl) (fun vv l9 hh yW bW => ?_) (fun vv l9 hh yW bW F0 ivh aph => ?_)
        · have x1 := (bW.cell (p := ⟨C, 1, none⟩) lC).trans c1
          refine ⟨og (tp (by kernel_rfl)) (by kernel_rfl), og (tp ?_) (by kernel_rfl), og (tp (by kernel_rfl)) (by kernel_rfl), og (tp ?_) (by kernel_rfl), og (tp (by kernel_rfl)) (by kernel_rfl), og (tp (by kernel_rfl)) (by kernel_rfl), og (tp ?_) (by kernel_rfl), og (tp (by kernel_rfl)) (by kernel_rfl), ou (by kernel_rfl), ou (by kernel_rfl), ou (by kernel_rfl), og (tp (by kernel_rfl)) (by kernel_rfl), og (tp (by kernel_rfl)) (by kernel_rfl), ou (by kernel_rfl), ou (by kernel_rfl), ou (by kernel_rfl), ou (by kernel_rfl), ou (by kernel_rfl), ou (by kernel_rfl), og (tp (by kernel_rfl)) (by kernel_rfl), trivial⟩
          all_goals
            simp only [fillK, putT, List.setIfInBounds_toArray, List.set_cons_zero, List.set_cons_succ]
            unfold execOp
            try go_simp
            first | rfl | omega | skip
        clear F0 ivh aph
        obtain ⟨y, hy2⟩ : ∃ z, z = yW := ⟨_, rfl⟩
        rw [← hy2] at bW ⊢
        clear hy2
        refine wpAny_done (by kernel_rfl) ?_ _
        simp only [fillK, putT, List.setIfInBounds_toArray, List.set_cons_zero, List.set_cons_succ]

        replace CG := CG.below bW
        replace QV := QV.kept bW
        clear bW c1 lC
        have q0 := QV.cell 0
        have q1 := QV.cell 1
        have q2 := QV.cell 2
        have q3 := QV.cell 3
        have q4 := QV.cell 4
        simp at q0 q1 q2 q3 q4
        have fQ := QV.frozen
        have lQ := QV.lt
        have HK : Hid _ := arr_set5 QV (.int .i64 0) (.int .i64 0) (.int .i64 0) (.slice none 0 0) (.slice none 0 0)
        have HF : Hid (Below _ _ _) := bel_five (HBl.out.grown CG.G HBl.out.size (fun k hk => by injection hk with hk; omega)) (Nat.le_refl _) (.int .i64 0) (.int .i64 0) (.int .i64 0) (.slice none 0 0) (.slice none 0 0)
        clear QV CG
        go_wp2
        exact bodyPost_ret (results_row_tmp (v := .bool false) (t := 26) (cs := [.int .i64 0, .int .i64 0, .int .i64 0, .slice none 0 0, .slice none 0 0]) rfl rfl rfl HK.out Tryd.underlying26 rfl (by kernel_rfl)) rfl (rd_none HNo.out HF.out)
  have hrK : rnum xs p3 = some ((K : Int), p4) := by rw [← hKe]; exact hr4
  have HBig : Hid (4 < K → rbun xs = none) := fun h => by
    rw [hrb]
    have : rcnt 4 xs p3 = none := by unfold rcnt; rw [hrK]; exact if_neg (by show ¬ ((K : Int) ≤ 4); omega)
    rw [this]
    rfl
  have HGo : Hid (K ≤ 4 → ∀ z, rparts xs p4 K = z → rbun xs = z.bind fun P => (rcnt 8 xs P.2).bind fun m => (rneeds xs m.2 m.1.toNat).bind fun N => some (⟨v0, v1, v2, P.1, N.1⟩, N.2)) := fun h z hz => by
    rw [hrb]
    have : rcnt 4 xs p3 = some ((K : Int), p4) := by unfold rcnt; rw [hrK]; exact if_pos (by show (K : Int) ≤ 4; omega)
    rw [this]
    simp only [Option.bind_some, Int.toNat_natCast, hz]
  have HFail : Hid (rparts xs p4 K = none → rbun xs = none) := fun h => by
    by_cases h4 : K ≤ 4
    · exact HGo.out h4 _ h
    · exact HBig.out (by omega)
  subst hKe
  clear hrb hr4 hrK hs0 hs1 hs2 hs3
  go_wp2
  go_loopw [7] (fun i wr => ∃ (j : Nat) (l : List PartM) (ll : List L4) (pa : Option Addr) (pc : Nat) (o : Option Nat), j ≤ 5 ∧ i = .int .i64 j ∧ Hid (wr.ownsRow W0.heap.size 45 4 (.slice pa j pc) j (QL ll)) ∧ Hid (Cg W0 wr C a n c o) ∧ Hid (Arr wr w.heap.size 26 [.int .i64 0, .int .i64 0, .int .i64 0, .slice none 0 0, .slice none 0 0]) ∧ Hid (Arr wr X 26 [.int .i64 v0, .int .i64 v1, .int .i64 v2, .slice pa j pc, .slice none 0 0]) ∧ Hid ((∃ q, o = some q ∧ q ≤ n ∧ l.length = j ∧ j ≤ K ∧ Prts W0.heap.size wr ll l ∧ rparts xs p4 j = some (l, q)) ∨ (o = none ∧ rbun xs = none))) (fun i _ => 5 - (intOf i).toNat)
  case atStart => exact ⟨0, [], [], none, 0, some p4, by omega, rfl, World.ownsRow_nil _ _ _ _, CG, QV, QX, .inl ⟨p4, rfl, by omega, rfl, by omega, Prts.nil, rfl⟩⟩
  case round =>
    clear CG QV QX
    obtain ⟨j, l, ll, pa, pc, o, hj5, rfl, HO, HCG, HQV, HQX, HSt⟩ := hrel
    have CG := HCG.out
    have QV := HQV.out
    have QX := HQX.out
    clear HCG HQV HQX
    rcases HSt.out with ⟨q, rfl, hqn, hl, hjK, hPr, hrp⟩ | ⟨rfl, hno⟩
    case inr =>
      have HRn : rbun xs = none := hno
      clear HSt hno HO HBig HGo HFail
      have c1 : wr.cell? ⟨C, 1, none⟩ = some (.int .i64 (-1)) := CG.A.cell 1
      by_cases hlt : (j : Int) < (K : Int)
      case neg =>
        have HNo : Hid (rdB xs = (⟨0, 0, 0, [], []⟩, false)) := rdB_none HRn
        have hpnone : ∀ p, (none : Option Nat) = some p → p ≤ n := fun p hp => by cases hp
        go_wp2_with fail
        refine (specL8get C a n c none xs _ CG.A (CG.b HB0.out hne.out) hn hpnone).mono ?_
        rintro e wd ⟨rfl, hg, hA⟩
        replace CG := CG.num hg hA
        replace QV := QV.pk hg hCV
        replace QX := QX.pk hg hCX
        obtain ⟨vd, od, hsd⟩ : ∃ v o, sget xs none = (v, o) := ⟨(sget xs none).1, (sget xs none).2, rfl⟩
        have hpod : ∀ p, od = some p → p ≤ n := fun q9 hq9 => by
          have := sget_le hy (o := none) (fun p9 hp9 => by have := hpnone p9 hp9; omega) q9 (by rw [hsd]; exact hq9)
          omega
        rw [hsd] at CG ⊢
        dsimp only at CG ⊢
        clear hg hA
        have hvd : vd = 0 := by cases hsd; rfl
        have hod : od = none := by cases hsd; rfl
        subst hvd
        subst hod
        go_wp2
        go_loopw [9] (fun i wr => i = .int .i64 0 ∧ Hid (Cg W0 wr C a n c none) ∧ Hid (Arr wr w.heap.size 26 [.int .i64 0, .int .i64 0, .int .i64 0, .slice none 0 0, .slice none 0 0])) (fun i _ => 0)
        case atStart => exact ⟨rfl, CG, QV⟩
        case round =>
          clear CG QV QX
          obtain ⟨rfl, HCG, HQV⟩ := hrel
          have CG := HCG.out
          have QV := HQV.out
          clear HCG HQV
          have c1 : wr.cell? ⟨C, 1, none⟩ = some (.int .i64 (-1)) := CG.A.cell 1
          have lC := CG.A.lt
          go_upto_region 23 with fail
          try simp only [Act.put]
          refine tameG [kc 95 (.pointer (some ⟨C, 0, none⟩)), kc 96 (.pointer (some ⟨C, 0, none⟩)), kc 97 (.pointer (some ⟨C, 1, none⟩)), kc 98 (.int .i64 (-1)), kc 99 (.slice a n c), kc 100 (.int .i64 (n : Int)), kc 101 (.bool true), kc 102 (.bool true), kc 103 (undef), kc 104 (undef), kc 105 (undef), kc 106 (.bool true), kc 107 (.bool true), kc 108 (undef), kc 109 (undef), kc 110 (undef), kc 111 (undef), kc 112 (undef), kc 113 (undef), kc 114 (.bool true)] 20 (by kernel_rfl) (by kernel_rfl) (by kernel_rfl) (by repeat' first | exact trivial | apply kc_keeps | constructor) 0 (by kernel_rfl) (fun vv l9 hh yW bW => ?_) (fun vv l9 hh yW bW F0 ivh aph => ?_)
          · have x1 := (bW.cell (p := ⟨C, 1, none⟩) lC).trans c1
            refine ⟨og (tp (by kernel_rfl)) (by kernel_rfl), og (tp ?_) (by kernel_rfl), og (tp (by kernel_rfl)) (by kernel_rfl), og (tp ?_) (by kernel_rfl), og (tp (by kernel_rfl)) (by kernel_rfl), og (tp (by kernel_rfl)) (by kernel_rfl), og (tp ?_) (by kernel_rfl), og (tp (by kernel_rfl)) (by kernel_rfl), ou (by kernel_rfl), ou (by kernel_rfl), ou (by kernel_rfl), og (tp (by kernel_rfl)) (by kernel_rfl), og (tp (by kernel_rfl)) (by kernel_rfl), ou (by kernel_rfl), ou (by kernel_rfl), ou (by kernel_rfl), ou (by kernel_rfl), ou (by kernel_rfl), ou (by kernel_rfl), og (tp (by kernel_rfl)) (by kernel_rfl), trivial⟩
            all_goals
              simp only [fillK, putT, List.setIfInBounds_toArray, List.set_cons_zero, List.set_cons_succ]
              unfold execOp
              try go_simp
              first | rfl | omega | skip
          clear F0 ivh aph
          obtain ⟨y, hy2⟩ : ∃ z, z = yW := ⟨_, rfl⟩
          rw [← hy2] at bW ⊢
          clear hy2
          refine wpAny_done (by kernel_rfl) ?_ _
          simp only [fillK, putT, List.setIfInBounds_toArray, List.set_cons_zero, List.set_cons_succ]

          replace CG := CG.below bW
          replace QV := QV.kept bW
          clear bW c1 lC
          have q0 := QV.cell 0
          have q1 := QV.cell 1
          have q2 := QV.cell 2
          have q3 := QV.cell 3
          have q4 := QV.cell 4
          simp at q0 q1 q2 q3 q4
          have fQ := QV.frozen
          have lQ := QV.lt
          have HK : Hid _ := arr_set5 QV (.int .i64 0) (.int .i64 0) (.int .i64 0) (.slice none 0 0) (.slice none 0 0)
          have HF : Hid (Below _ _ _) := bel_five (HBl.out.grown CG.G HBl.out.size (fun k hk => by injection hk with hk; omega)) (Nat.le_refl _) (.int .i64 0) (.int .i64 0) (.int .i64 0) (.slice none 0 0) (.slice none 0 0)
          clear QV CG
          go_wp2
          exact bodyPost_ret (results_row_tmp (v := .bool false) (t := 26) (cs := [.int .i64 0, .int .i64 0, .int .i64 0, .slice none 0 0, .slice none 0 0]) rfl rfl rfl HK.out Tryd.underlying26 rfl (by kernel_rfl)) rfl (rd_none HNo.out HF.out)
      by_cases h4 : (j : Int) ≤ 4
      case neg =>
        have HNo : Hid (rdB xs = (⟨0, 0, 0, [], []⟩, false)) := rdB_none HRn
        have hpnone : ∀ p, (none : Option Nat) = some p → p ≤ n := fun p hp => by cases hp
        go_wp2_with fail
        refine (specL8get C a n c none xs _ CG.A (CG.b HB0.out hne.out) hn hpnone).mono ?_
        rintro e wd ⟨rfl, hg, hA⟩
        replace CG := CG.num hg hA
        replace QV := QV.pk hg hCV
        replace QX := QX.pk hg hCX
        obtain ⟨vd, od, hsd⟩ : ∃ v o, sget xs none = (v, o) := ⟨(sget xs none).1, (sget xs none).2, rfl⟩
        have hpod : ∀ p, od = some p → p ≤ n := fun q9 hq9 => by
          have := sget_le hy (o := none) (fun p9 hp9 => by have := hpnone p9 hp9; omega) q9 (by rw [hsd]; exact hq9)
          omega
        rw [hsd] at CG ⊢
        dsimp only at CG ⊢
        clear hg hA
        have hvd : vd = 0 := by cases hsd; rfl
        have hod : od = none := by cases hsd; rfl
        subst hvd
        subst hod
        go_wp2
        go_loopw [9] (fun i wr => i = .int .i64 0 ∧ Hid (Cg W0 wr C a n c none) ∧ Hid (Arr wr w.heap.size 26 [.int .i64 0, .int .i64 0, .int .i64 0, .slice none 0 0, .slice none 0 0])) (fun i _ => 0)
        case atStart => exact ⟨rfl, CG, QV⟩
        case round =>
          clear CG QV QX
          obtain ⟨rfl, HCG, HQV⟩ := hrel
          have CG := HCG.out
          have QV := HQV.out
          clear HCG HQV
          have c1 : wr.cell? ⟨C, 1, none⟩ = some (.int .i64 (-1)) := CG.A.cell 1
          have lC := CG.A.lt
          go_upto_region 23 with fail
          try simp only [Act.put]
          refine tameG [kc 95 (.pointer (some ⟨C, 0, none⟩)), kc 96 (.pointer (some ⟨C, 0, none⟩)), kc 97 (.pointer (some ⟨C, 1, none⟩)), kc 98 (.int .i64 (-1)), kc 99 (.slice a n c), kc 100 (.int .i64 (n : Int)), kc 101 (.bool true), kc 102 (.bool true), kc 103 (undef), kc 104 (undef), kc 105 (undef), kc 106 (.bool true), kc 107 (.bool true), kc 108 (undef), kc 109 (undef), kc 110 (undef), kc 111 (undef), kc 112 (undef), kc 113 (undef), kc 114 (.bool true)] 20 (by kernel_rfl) (by kernel_rfl) (by kernel_rfl) (by repeat' first | exact trivial | apply kc_keeps | constructor) 0 (by kernel_rfl) (fun vv l9 hh yW bW => ?_) (fun vv l9 hh yW bW F0 ivh aph => ?_)
          · have x1 := (bW.cell (p := ⟨C, 1, none⟩) lC).trans c1
            refine ⟨og (tp (by kernel_rfl)) (by kernel_rfl), og (tp ?_) (by kernel_rfl), og (tp (by kernel_rfl)) (by kernel_rfl), og (tp ?_) (by kernel_rfl), og (tp (by kernel_rfl)) (by kernel_rfl), og (tp (by kernel_rfl)) (by kernel_rfl), og (tp ?_) (by kernel_rfl), og (tp (by kernel_rfl)) (by kernel_rfl), ou (by kernel_rfl), ou (by kernel_rfl), ou (by kernel_rfl), og (tp (by kernel_rfl)) (by kernel_rfl), og (tp (by kernel_rfl)) (by kernel_rfl), ou (by kernel_rfl), ou (by kernel_rfl), ou (by kernel_rfl), ou (by kernel_rfl), ou (by kernel_rfl), ou (by kernel_rfl), og (tp (by kernel_rfl)) (by kernel_rfl), trivial⟩
            all_goals
              simp only [fillK, putT, List.setIfInBounds_toArray, List.set_cons_zero, List.set_cons_succ]
              unfold execOp
              try go_simp
              first | rfl | omega | skip
          clear F0 ivh aph
          obtain ⟨y, hy2⟩ : ∃ z, z = yW := ⟨_, rfl⟩
          rw [← hy2] at bW ⊢
          clear hy2
          refine wpAny_done (by kernel_rfl) ?_ _
          simp only [fillK, putT, List.setIfInBounds_toArray, List.set_cons_zero, List.set_cons_succ]

          replace CG := CG.below bW
          replace QV := QV.kept bW
          clear bW c1 lC
          have q0 := QV.cell 0
          have q1 := QV.cell 1
          have q2 := QV.cell 2
          have q3 := QV.cell 3
          have q4 := QV.cell 4
          simp at q0 q1 q2 q3 q4
          have fQ := QV.frozen
          have lQ := QV.lt
          have HK : Hid _ := arr_set5 QV (.int .i64 0) (.int .i64 0) (.int .i64 0) (.slice none 0 0) (.slice none 0 0)
          have HF : Hid (Below _ _ _) := bel_five (HBl.out.grown CG.G HBl.out.size (fun k hk => by injection hk with hk; omega)) (Nat.le_refl _) (.int .i64 0) (.int .i64 0) (.int .i64 0) (.slice none 0 0) (.slice none 0 0)
          clear QV CG
          go_wp2
          exact bodyPost_ret (results_row_tmp (v := .bool false) (t := 26) (cs := [.int .i64 0, .int .i64 0, .int .i64 0, .slice none 0 0, .slice none 0 0]) rfl rfl rfl HK.out Tryd.underlying26 rfl (by kernel_rfl)) rfl (rd_none HNo.out HF.out)
      have HNo : Hid (rdB xs = (⟨0, 0, 0, [], []⟩, false)) := rdB_none HRn
      have hpnone : ∀ p, (none : Option Nat) = some p → p ≤ n := fun p hp => by cases hp
      go_wp2_with fail
      refine (specL8get C a n c none xs _ CG.A (CG.b HB0.out hne.out) hn hpnone).mono ?_
      rintro e wd ⟨rfl, hg, hA⟩
      replace CG := CG.num hg hA
      replace QV := QV.pk hg hCV
      replace QX := QX.pk hg hCX
      obtain ⟨vd, od, hsd⟩ : ∃ v o, sget xs none = (v, o) := ⟨(sget xs none).1, (sget xs none).2, rfl⟩
      have hpod : ∀ p, od = some p → p ≤ n := fun q9 hq9 => by
        have := sget_le hy (o := none) (fun p9 hp9 => by have := hpnone p9 hp9; omega) q9 (by rw [hsd]; exact hq9)
        omega
      rw [hsd] at CG ⊢
      dsimp only at CG ⊢
      clear hg hA
      have hvd : vd = 0 := by cases hsd; rfl
      have hod : od = none := by cases hsd; rfl
      subst hvd
      subst hod
      go_wp2
      go_loopw [9] (fun i wr => i = .int .i64 0 ∧ Hid (Cg W0 wr C a n c none) ∧ Hid (Arr wr w.heap.size 26 [.int .i64 0, .int .i64 0, .int .i64 0, .slice none 0 0, .slice none 0 0])) (fun i _ => 0)
      case atStart => exact ⟨rfl, CG, QV⟩
      case round =>
        clear CG QV QX
        obtain ⟨rfl, HCG, HQV⟩ := hrel
        have CG := HCG.out
        have QV := HQV.out
        clear HCG HQV
        have c1 : wr.cell? ⟨C, 1, none⟩ = some (.int .i64 (-1)) := CG.A.cell 1
        have lC := CG.A.lt
        go_upto_region 23 with fail
        try simp only [Act.put]
        refine tameG [kc 95 (.pointer (some ⟨C, 0, none⟩)), kc 96 (.pointer (some ⟨C, 0, none⟩)), kc 97 (.pointer (some ⟨C, 1, none⟩)), kc 98 (.int .i64 (-1)), kc 99 (.slice a n c), kc 100 (.int .i64 (n : Int)), kc 101 (.bool true), kc 102 (.bool true), kc 103 (undef), kc 104 (undef), kc 105 (undef), kc 106 (.bool true), kc 107 (.bool true), kc 108 (undef), kc 109 (undef), kc 110 (undef), kc 111 (undef), kc 112 (undef), kc 113 (undef), kc 114 (.bool true)] 20 (by kernel_rfl) (by kernel_rfl) (by kernel_rfl) (by repeat' first | exact trivial | apply kc_keeps | constructor) 0 (by kernel_rfl) (fun vv l9 hh yW bW => ?_) (fun vv l9 hh yW bW F0 ivh aph => ?_)
        · have x1 := (bW.cell (p := ⟨C, 1, none⟩) lC).trans c1
          refine ⟨og (tp (by kernel_rfl)) (by kernel_rfl), og (tp ?_) (by kernel_rfl), og (tp (by kernel_rfl)) (by kernel_rfl), og (tp ?_) (by kernel_rfl), og (tp (by kernel_rfl)) (by kernel_rfl), og (tp (by kernel_rfl)) (by kernel_rfl), og (tp ?_) (by kernel_rfl), og (tp (by kernel_rfl)) (by kernel_rfl), ou (by kernel_rfl), ou (by kernel_rfl), ou (by kernel_rfl), og (tp (by kernel_rfl)) (by kernel_rfl), og (tp (by kernel_rfl)) (by kernel_rfl), ou (by kernel_rfl), ou (by kernel_rfl), ou (by kernel_rfl), ou (by kernel_rfl), ou (by kernel_rfl), ou (by kernel_rfl), og (tp (by kernel_rfl)) (by kernel_rfl), trivial⟩
          all_goals
            simp only [fillK, putT, List.setIfInBounds_toArray, List.set_cons_zero, List.set_cons_succ]
            unfold execOp
            try go_simp
            first | rfl | omega | skip
        clear F0 ivh aph
        obtain ⟨y, hy2⟩ : ∃ z, z = yW := ⟨_, rfl⟩
        rw [← hy2] at bW ⊢
        clear hy2
        refine wpAny_done (by kernel_rfl) ?_ _
        simp only [fillK, putT, List.setIfInBounds_toArray, List.set_cons_zero, List.set_cons_succ]

        replace CG := CG.below bW
        replace QV := QV.kept bW
        clear bW c1 lC
        have q0 := QV.cell 0
        have q1 := QV.cell 1
        have q2 := QV.cell 2
        have q3 := QV.cell 3
        have q4 := QV.cell 4
        simp at q0 q1 q2 q3 q4
        have fQ := QV.frozen
        have lQ := QV.lt
        have HK : Hid _ := arr_set5 QV (.int .i64 0) (.int .i64 0) (.int .i64 0) (.slice none 0 0) (.slice none 0 0)
        have HF : Hid (Below _ _ _) := bel_five (HBl.out.grown CG.G HBl.out.size (fun k hk => by injection hk with hk; omega)) (Nat.le_refl _) (.int .i64 0) (.int .i64 0) (.int .i64 0) (.slice none 0 0) (.slice none 0 0)
        clear QV CG
        go_wp2
        exact bodyPost_ret (results_row_tmp (v := .bool false) (t := 26) (cs := [.int .i64 0, .int .i64 0, .int .i64 0, .slice none 0 0, .slice none 0 0]) rfl rfl rfl HK.out Tryd.underlying26 rfl (by kernel_rfl)) rfl (rd_none HNo.out HF.out)
    have HPr : Hid (Prts W0.heap.size wr ll l) := hPr
    have HRp : Hid (rparts xs p4 j = some (l, q)) := hrp
    have HLb : Hid (∀ x ∈ l, x.h.length = 32 ∧ ∀ y ∈ x.h, 0 ≤ y ∧ y < 256) := (rparts_at hy j hp4 hrp).2.2.2.1
    clear HSt hPr hrp
    have hpq : ∀ p, (some q : Option Nat) = some p → p ≤ n := fun p hp => by cases hp; exact hqn
    have c1 : wr.cell? ⟨C, 1, none⟩ = some (.int .i64 (q : Int)) := CG.A.cell 1
    have h0q : (0 : Int) ≤ (q : Int) := Int.natCast_nonneg _
    by_cases hlt : (j : Int) < (K : Int)
    case neg =>
      have hjk : j = K := by omega
      have HX : Hid ((rbun xs = (rcnt 8 xs q).bind fun m => (rneeds xs m.2 m.1.toNat).bind fun N => some (⟨v0, v1, v2, l, N.1⟩, N.2)) ∨ (rbun xs = none ∧ 4 < l.length)) := by
        by_cases h4 : K ≤ 4
        · left
          have := HRp.out
          rw [hjk] at this
          exact HGo.out h4 _ this
        · right
          exact ⟨HBig.out (by omega), by omega⟩
      clear hjk HBig HGo HFail HRp
      go_wp2_with fail
      refine (specL8get C a n c (some q) xs _ CG.A (CG.b HB0.out hne.out) hn hpq).mono ?_
      rintro e t1 ⟨rfl, hg, hA⟩
      replace CG := CG.num hg hA
      replace QV := QV.pk hg hCV
      replace QX := QX.pk hg hCX
      replace HO : Hid (t1.ownsRow W0.heap.size 45 4 (.slice pa j pc) j (QL ll)) := own_pk HO.out hlC hg
      replace HPr : Hid (Prts W0.heap.size t1 ll l) := HPr.out.p hlC hg
      obtain ⟨vm, o5, hsm⟩ : ∃ v o, sget xs (some q) = (v, o) := ⟨(sget xs (some q)).1, (sget xs (some q)).2, rfl⟩
      have hpo5 : ∀ p, o5 = some p → p ≤ n := fun q9 hq9 => by
        have := sget_le hy (o := (some q)) (fun p9 hp9 => by have := hpq p9 hp9; omega) q9 (by rw [hsm]; exact hq9)
        omega
      rw [hsm] at CG ⊢
      dsimp only at CG ⊢
      clear hg hA
      obtain ⟨M, hMe⟩ : ∃ M : Nat, vm = (M : Int) := Int.eq_ofNat_of_zero_le (by have := sget_nn hy (some q); rw [hsm] at this; exact this)
      subst hMe
      have HS0 : Hid ((∃ q2, o5 = some q2 ∧ q2 ≤ n ∧ ([] : List NeedM).length = 0 ∧ 0 ≤ M ∧ ∃ p8, rnum xs q = some ((M : Int), p8) ∧ rneeds xs p8 0 = some ([], q2)) ∨ (o5 = none ∧ rbun xs = none)) := by
        rcases sget_or q hsm with ⟨p8, hr, rfl⟩ | ⟨hr, rfl, _⟩
        · exact .inl ⟨p8, rfl, hpo5 p8 rfl, rfl, by omega, p8, hr, rfl⟩
        · refine .inr ⟨rfl, ?_⟩
          rcases HX.out with h | h
          · rw [h]
            have : rcnt 8 xs q = none := by unfold rcnt; rw [hr]; rfl
            rw [this]
            rfl
          · exact h.1
      clear hsm c1
      go_wp2
      go_loopw [9] (fun i wr => ∃ (r : Nat) (l2 : List NeedM) (na : Option Addr) (nc : Nat) (o : Option Nat), r ≤ 9 ∧ i = .int .i64 r ∧ Hid (wr.ownsRow W0.heap.size 41 4 (.slice na r nc) r (FL (l2.map nrc))) ∧ Hid (wr.ownsRow W0.heap.size 45 4 (.slice pa j pc) j (QL ll)) ∧ Hid (Prts W0.heap.size wr ll l) ∧ Hid (Cg W0 wr C a n c o) ∧ Hid (Arr wr w.heap.size 26 [.int .i64 0, .int .i64 0, .int .i64 0, .slice none 0 0, .slice none 0 0]) ∧ Hid (Arr wr X 26 [.int .i64 v0, .int .i64 v1, .int .i64 v2, .slice pa j pc, .slice na r nc]) ∧ Hid ((∃ q2, o = some q2 ∧ q2 ≤ n ∧ l2.length = r ∧ r ≤ M ∧ ∃ p8, rnum xs q = some ((M : Int), p8) ∧ rneeds xs p8 r = some (l2, q2)) ∨ (o = none ∧ rbun xs = none))) (fun i _ => 9 - (intOf i).toNat)
      case atStart => exact ⟨0, [], none, 0, o5, by omega, rfl, World.ownsRow_nil _ _ _ _, HO, HPr, CG, QV, QX, HS0⟩
      case round =>
        clear CG QV QX HO HPr HS0
        obtain ⟨r, l2, na, nc, o, hr9, rfl, HN, HO, HPr, HCG, HQV, HQX, HSt⟩ := hrel
        have CG := HCG.out
        have QV := HQV.out
        have QX := HQX.out
        clear HCG HQV HQX
        rcases HSt.out with ⟨q2, rfl, hq2n, hl2, hrM, p8, hrm, hrn⟩ | ⟨rfl, hno⟩
        case inr =>
          have HNo : Hid (rdB xs = (⟨0, 0, 0, [], []⟩, false)) := rdB_none hno
          clear HSt hno HO HN HPr
          have c1 : wr.cell? ⟨C, 1, none⟩ = some (.int .i64 (-1)) := CG.A.cell 1
          have lC := CG.A.lt

          by_cases hltr : (r : Int) < (M : Int)
          case neg =>
            go_upto_region 23 with fail
            try simp only [Act.put]
            refine tameG [kc 95 (.pointer (some ⟨C, 0, none⟩)), kc 96 (.pointer (some ⟨C, 0, none⟩)), kc 97 (.pointer (some ⟨C, 1, none⟩)), kc 98 (.int .i64 (-1)), kc 99 (.slice a n c), kc 100 (.int .i64 (n : Int)), kc 101 (.bool true), kc 102 (.bool true), kc 103 (undef), kc 104 (undef), kc 105 (undef), kc 106 (.bool true), kc 107 (.bool true), kc 108 (undef), kc 109 (undef), kc 110 (undef), kc 111 (undef), kc 112 (undef), kc 113 (undef), kc 114 (.bool true)] 20 (by kernel_rfl) (by kernel_rfl) (by kernel_rfl) (by repeat' first | exact trivial | apply kc_keeps | constructor) 0 (by kernel_rfl) (fun vv l9 hh yW bW => ?_) (fun vv l9 hh yW bW F0 ivh aph => ?_)
            · have x1 := (bW.cell (p := ⟨C, 1, none⟩) lC).trans c1
              refine ⟨og (tp (by kernel_rfl)) (by kernel_rfl), og (tp ?_) (by kernel_rfl), og (tp (by kernel_rfl)) (by kernel_rfl), og (tp ?_) (by kernel_rfl), og (tp (by kernel_rfl)) (by kernel_rfl), og (tp (by kernel_rfl)) (by kernel_rfl), og (tp ?_) (by kernel_rfl), og (tp (by kernel_rfl)) (by kernel_rfl), ou (by kernel_rfl), ou (by kernel_rfl), ou (by kernel_rfl), og (tp (by kernel_rfl)) (by kernel_rfl), og (tp (by kernel_rfl)) (by kernel_rfl), ou (by kernel_rfl), ou (by kernel_rfl), ou (by kernel_rfl), ou (by kernel_rfl), ou (by kernel_rfl), ou (by kernel_rfl), og (tp (by kernel_rfl)) (by kernel_rfl), trivial⟩
              all_goals
                simp only [fillK, putT, List.setIfInBounds_toArray, List.set_cons_zero, List.set_cons_succ]
                unfold execOp
                try go_simp
                first | rfl | omega | skip
            clear F0 ivh aph
            obtain ⟨y, hy2⟩ : ∃ z, z = yW := ⟨_, rfl⟩
            rw [← hy2] at bW ⊢
            clear hy2
            refine wpAny_done (by kernel_rfl) ?_ _
            simp only [fillK, putT, List.setIfInBounds_toArray, List.set_cons_zero, List.set_cons_succ]

            replace CG := CG.below bW
            replace QV := QV.kept bW
            clear bW c1 lC QX
            have q0 := QV.cell 0
            have q1 := QV.cell 1
            have q2 := QV.cell 2
            have q3 := QV.cell 3
            have q4 := QV.cell 4
            simp at q0 q1 q2 q3 q4
            have fQ := QV.frozen
            have lQ := QV.lt
            have HK : Hid _ := arr_set5 QV (.int .i64 0) (.int .i64 0) (.int .i64 0) (.slice none 0 0) (.slice none 0 0)
            have HF : Hid (Below _ _ _) := bel_five (HBl.out.grown CG.G HBl.out.size (fun k hk => by injection hk with hk; omega)) (Nat.le_refl _) (.int .i64 0) (.int .i64 0) (.int .i64 0) (.slice none 0 0) (.slice none 0 0)
            clear QV CG
            go_wp2
            exact bodyPost_ret (results_row_tmp (v := .bool false) (t := 26) (cs := [.int .i64 0, .int .i64 0, .int .i64 0, .slice none 0 0, .slice none 0 0]) rfl rfl rfl HK.out Tryd.underlying26 rfl (by kernel_rfl)) rfl (rd_none HNo.out HF.out)
          by_cases h8 : (r : Int) ≤ 8
          case neg =>
            go_upto_region 23 with fail
            try simp only [Act.put]
            refine tameG [kc 95 (.pointer (some ⟨C, 0, none⟩)), kc 96 (.pointer (some ⟨C, 0, none⟩)), kc 97 (.pointer (some ⟨C, 1, none⟩)), kc 98 (.int .i64 (-1)), kc 99 (.slice a n c), kc 100 (.int .i64 (n : Int)), kc 101 (.bool true), kc 102 (.bool true), kc 103 (undef), kc 104 (undef), kc 105 (undef), kc 106 (.bool true), kc 107 (.bool true), kc 108 (undef), kc 109 (undef), kc 110 (undef), kc 111 (undef), kc 112 (undef), kc 113 (undef), kc 114 (.bool true)] 20 (by kernel_rfl) (by kernel_rfl) (by kernel_rfl) (by repeat' first | exact trivial | apply kc_keeps | constructor) 0 (by kernel_rfl) (fun vv l9 hh yW bW => ?_) (fun vv l9 hh yW bW F0 ivh aph => ?_)
            · have x1 := (bW.cell (p := ⟨C, 1, none⟩) lC).trans c1
              refine ⟨og (tp (by kernel_rfl)) (by kernel_rfl), og (tp ?_) (by kernel_rfl), og (tp (by kernel_rfl)) (by kernel_rfl), og (tp ?_) (by kernel_rfl), og (tp (by kernel_rfl)) (by kernel_rfl), og (tp (by kernel_rfl)) (by kernel_rfl), og (tp ?_) (by kernel_rfl), og (tp (by kernel_rfl)) (by kernel_rfl), ou (by kernel_rfl), ou (by kernel_rfl), ou (by kernel_rfl), og (tp (by kernel_rfl)) (by kernel_rfl), og (tp (by kernel_rfl)) (by kernel_rfl), ou (by kernel_rfl), ou (by kernel_rfl), ou (by kernel_rfl), ou (by kernel_rfl), ou (by kernel_rfl), ou (by kernel_rfl), og (tp (by kernel_rfl)) (by kernel_rfl), trivial⟩
              all_goals
                simp only [fillK, putT, List.setIfInBounds_toArray, List.set_cons_zero, List.set_cons_succ]
                unfold execOp
                try go_simp
                first | rfl | omega | skip
            clear F0 ivh aph
            obtain ⟨y, hy2⟩ : ∃ z, z = yW := ⟨_, rfl⟩
            rw [← hy2] at bW ⊢
            clear hy2
            refine wpAny_done (by kernel_rfl) ?_ _
            simp only [fillK, putT, List.setIfInBounds_toArray, List.set_cons_zero, List.set_cons_succ]

            replace CG := CG.below bW
            replace QV := QV.kept bW
            clear bW c1 lC QX
            have q0 := QV.cell 0
            have q1 := QV.cell 1
            have q2 := QV.cell 2
            have q3 := QV.cell 3
            have q4 := QV.cell 4
            simp at q0 q1 q2 q3 q4
            have fQ := QV.frozen
            have lQ := QV.lt
            have HK : Hid _ := arr_set5 QV (.int .i64 0) (.int .i64 0) (.int .i64 0) (.slice none 0 0) (.slice none 0 0)
            have HF : Hid (Below _ _ _) := bel_five (HBl.out.grown CG.G HBl.out.size (fun k hk => by injection hk with hk; omega)) (Nat.le_refl _) (.int .i64 0) (.int .i64 0) (.int .i64 0) (.slice none 0 0) (.slice none 0 0)
            clear QV CG
            go_wp2
            exact bodyPost_ret (results_row_tmp (v := .bool false) (t := 26) (cs := [.int .i64 0, .int .i64 0, .int .i64 0, .slice none 0 0, .slice none 0 0]) rfl rfl rfl HK.out Tryd.underlying26 rfl (by kernel_rfl)) rfl (rd_none HNo.out HF.out)
          go_upto_region 23 with fail
          try simp only [Act.put]
          refine tameG [kc 95 (.pointer (some ⟨C, 0, none⟩)), kc 96 (.pointer (some ⟨C, 0, none⟩)), kc 97 (.pointer (some ⟨C, 1, none⟩)), kc 98 (.int .i64 (-1)), kc 99 (.slice a n c), kc 100 (.int .i64 (n : Int)), kc 101 (.bool true), kc 102 (.bool true), kc 103 (undef), kc 104 (undef), kc 105 (undef), kc 106 (.bool true), kc 107 (.bool true), kc 108 (undef), kc 109 (undef), kc 110 (undef), kc 111 (undef), kc 112 (undef), kc 113 (undef), kc 114 (.bool true)] 20 (by kernel_rfl) (by kernel_rfl) (by kernel_rfl) (by repeat' first | exact trivial | apply kc_keeps | constructor) 0 (by kernel_rfl) (fun vv l9 hh yW bW => ?_) (fun vv l9 hh yW bW F0 ivh aph => ?_)
          · have x1 := (bW.cell (p := ⟨C, 1, none⟩) lC).trans c1
            refine ⟨og (tp (by kernel_rfl)) (by kernel_rfl), og (tp ?_) (by kernel_rfl), og (tp (by kernel_rfl)) (by kernel_rfl), og (tp ?_) (by kernel_rfl), og (tp (by kernel_rfl)) (by kernel_rfl), og (tp (by kernel_rfl)) (by kernel_rfl), og (tp ?_) (by kernel_rfl), og (tp (by kernel_rfl)) (by kernel_rfl), ou (by kernel_rfl), ou (by kernel_rfl), ou (by kernel_rfl), og (tp (by kernel_rfl)) (by kernel_rfl), og (tp (by kernel_rfl)) (by kernel_rfl), ou (by kernel_rfl), ou (by kernel_rfl), ou (by kernel_rfl), ou (by kernel_rfl), ou (by kernel_rfl), ou (by kernel_rfl), og (tp (by kernel_rfl)) (by kernel_rfl), trivial⟩
            all_goals
              simp only [fillK, putT, List.setIfInBounds_toArray, List.set_cons_zero, List.set_cons_succ]
              unfold execOp
              try go_simp
              first | rfl | omega | skip
          clear F0 ivh aph
          obtain ⟨y, hy2⟩ : ∃ z, z = yW := ⟨_, rfl⟩
          rw [← hy2] at bW ⊢
          clear hy2
          refine wpAny_done (by kernel_rfl) ?_ _
          simp only [fillK, putT, List.setIfInBounds_toArray, List.set_cons_zero, List.set_cons_succ]

          replace CG := CG.below bW
          replace QV := QV.kept bW
          clear bW c1 lC QX
          have q0 := QV.cell 0
          have q1 := QV.cell 1
          have q2 := QV.cell 2
          have q3 := QV.cell 3
          have q4 := QV.cell 4
          simp at q0 q1 q2 q3 q4
          have fQ := QV.frozen
          have lQ := QV.lt
          have HK : Hid _ := arr_set5 QV (.int .i64 0) (.int .i64 0) (.int .i64 0) (.slice none 0 0) (.slice none 0 0)
          have HF : Hid (Below _ _ _) := bel_five (HBl.out.grown CG.G HBl.out.size (fun k hk => by injection hk with hk; omega)) (Nat.le_refl _) (.int .i64 0) (.int .i64 0) (.int .i64 0) (.slice none 0 0) (.slice none 0 0)
          clear QV CG
          go_wp2
          exact bodyPost_ret (results_row_tmp (v := .bool false) (t := 26) (cs := [.int .i64 0, .int .i64 0, .int .i64 0, .slice none 0 0, .slice none 0 0]) rfl rfl rfl HK.out Tryd.underlying26 rfl (by kernel_rfl)) rfl (rd_none HNo.out HF.out)
        have HRm : Hid (rnum xs q = some ((M : Int), p8)) := hrm
        have HRn : Hid (rneeds xs p8 r = some (l2, q2)) := hrn
        clear HSt hrm hrn
        have hpq2 : ∀ p, (some q2 : Option Nat) = some p → p ≤ n := fun p hp => by cases hp; exact hq2n
        have c1 : wr.cell? ⟨C, 1, none⟩ = some (.int .i64 (q2 : Int)) := CG.A.cell 1
        have h0q2 : (0 : Int) ≤ (q2 : Int) := Int.natCast_nonneg _
        by_cases hltr : (r : Int) < (M : Int)
        case neg =>
          have hrm2 : r = M := by omega
          have HFX : Hid (rbun xs = some (⟨v0, v1, v2, l, l2⟩, q2) ∨ (rbun xs = none ∧ (4 < l.length ∨ 8 < l2.length))) := by
            rcases HX.out with h | h
            · by_cases h8 : M ≤ 8
              · left
                rw [h]
                have e : rcnt 8 xs q = some ((M : Int), p8) := by unfold rcnt; rw [HRm.out]; exact if_pos (by show (M : Int) ≤ 8; omega)
                have e2 := HRn.out
                rw [hrm2] at e2
                rw [e]
                simp only [Option.bind_some, Int.toNat_natCast, e2]
              · right
                refine ⟨?_, .inr (by omega)⟩
                rw [h]
                have e : rcnt 8 xs q = none := by unfold rcnt; rw [HRm.out]; exact if_neg (by show ¬ ((M : Int) ≤ 8); omega)
                rw [e]
                rfl
            · exact .inr ⟨h.1, .inl h.2⟩
          clear hrm2 HRm HRn HX
          have c1 : wr.cell? ⟨C, 1, none⟩ = some (.int .i64 (q2 : Int)) := CG.A.cell 1
          have lC := CG.A.lt
          have HCk : Hid (Cg W0 wr C a n c (some q2)) := CG
          have e0 := QX.cell 0
          have e1 := QX.cell 1
          have e2 := QX.cell 2
          have e3 := QX.cell 3
          have e4 := QX.cell 4
          simp at e0 e1 e2 e3 e4
          have lX := QX.lt
          by_cases hqe : q2 = n
          case neg =>
            have HNo : Hid (rdB xs = (⟨0, 0, 0, [], []⟩, false)) := by
              rcases HFX.out with h | h
              · exact rdB_no h (fun hh => hqe (by have := hh.1; omega))
              · exact rdB_none h.1
            have hqI : ((q2 : Int) == (n : Int)) = false := by simp; omega
            have hqN : ((q2 : Int) = (n : Int)) = False := by simp; omega
            go_upto_region 23 with fail
            try simp only [Act.put]
            refine tameG [kc 95 (.pointer (some ⟨C, 0, none⟩)), kc 96 (.pointer (some ⟨C, 0, none⟩)), kc 97 (.pointer (some ⟨C, 1, none⟩)), kc 98 (.int .i64 (q2 : Int)), kc 99 (.slice a n c), kc 100 (.int .i64 (n : Int)), kc 101 (.bool true), kc 102 (.bool true), kc 103 (undef), kc 104 (undef), kc 105 (undef), kc 106 (.bool true), kc 107 (.bool true), kc 108 (undef), kc 109 (undef), kc 110 (undef), kc 111 (undef), kc 112 (undef), kc 113 (undef), kc 114 (.bool true)] 20 (by kernel_rfl) (by kernel_rfl) (by kernel_rfl) (by repeat' first | exact trivial | apply kc_keeps | constructor) 0 (by kernel_rfl) (fun vv l9 hh yW bW => ?_) (fun vv l9 hh yW bW F0 ivh aph => ?_)
            · have x1 := (bW.cell (p := ⟨C, 1, none⟩) lC).trans c1
              refine ⟨og (tp (by kernel_rfl)) (by kernel_rfl), og (tp ?_) (by kernel_rfl), og (tp (by kernel_rfl)) (by kernel_rfl), og (tp ?_) (by kernel_rfl), og (tp (by kernel_rfl)) (by kernel_rfl), og (tp (by kernel_rfl)) (by kernel_rfl), og (tp ?_) (by kernel_rfl), og (tp (by kernel_rfl)) (by kernel_rfl), ou (by kernel_rfl), ou (by kernel_rfl), ou (by kernel_rfl), og (tp (by kernel_rfl)) (by kernel_rfl), og (tp (by kernel_rfl)) (by kernel_rfl), ou (by kernel_rfl), ou (by kernel_rfl), ou (by kernel_rfl), ou (by kernel_rfl), ou (by kernel_rfl), ou (by kernel_rfl), og (tp (by kernel_rfl)) (by kernel_rfl), trivial⟩
              all_goals
                simp only [fillK, putT, List.setIfInBounds_toArray, List.set_cons_zero, List.set_cons_succ]
                unfold execOp
                try go_simp
                first | rfl | omega | skip
            clear F0 ivh aph
            obtain ⟨y, hy2⟩ : ∃ z, z = yW := ⟨_, rfl⟩
            rw [← hy2] at bW ⊢
            clear hy2
            refine wpAny_done (by kernel_rfl) ?_ _
            simp only [fillK, putT, List.setIfInBounds_toArray, List.set_cons_zero, List.set_cons_succ]

            replace CG := CG.below bW
            replace QV := QV.kept bW
            clear bW c1 lC lX e0 e1 e2 e3 e4 QX
            have q0 := QV.cell 0
            have q1 := QV.cell 1
            have q2 := QV.cell 2
            have q3 := QV.cell 3
            have q4 := QV.cell 4
            simp at q0 q1 q2 q3 q4
            have fQ := QV.frozen
            have lQ := QV.lt
            have HK : Hid _ := arr_set5 QV (.int .i64 0) (.int .i64 0) (.int .i64 0) (.slice none 0 0) (.slice none 0 0)
            have HF : Hid (Below _ _ _) := bel_five (HBl.out.grown CG.G HBl.out.size (fun k hk => by injection hk with hk; omega)) (Nat.le_refl _) (.int .i64 0) (.int .i64 0) (.int .i64 0) (.slice none 0 0) (.slice none 0 0)
            clear QV CG
            go_wp2
            exact bodyPost_ret (results_row_tmp (v := .bool false) (t := 26) (cs := [.int .i64 0, .int .i64 0, .int .i64 0, .slice none 0 0, .slice none 0 0]) rfl rfl rfl HK.out Tryd.underlying26 rfl (by kernel_rfl)) rfl (rd_none HNo.out HF.out)
          subst hqe
          obtain ⟨ok, hok⟩ : ∃ ok, ok = bOk ⟨v0, v1, v2, l, l2⟩ := ⟨_, rfl⟩
          have HPs : Ps wr pa j pc l := ps_prts HO.out HPr.out hl HLb.out
          obtain ⟨_, _, enn, HNs⟩ := ns_of HN.out
          injection enn with en1 en2 en3
          subst en1
          subst en3
          have HBk : Hid (∀ Z, Below wr.heap.size wr Z → Calls Tryd.prog 12 #[.agg #[.int .i64 v0, .int .i64 v1, .int .i64 v2, .slice pa j pc, .slice na r nc]] Z fun e w' => e = .returned (.bool ok) ∧ Below Z.heap.size Z w') := fun Z hZ => by
            rw [hok]
            exact spec8BundleOk pa j pc na r nc ⟨v0, v1, v2, l, l2⟩ Z (HPs.below hZ) (HNs.below hZ)
          have HOk : Hid (bOk ⟨v0, v1, v2, l, l2⟩ = ok) := hok.symm
          clear hok
          cases ok
          · have HNo : Hid (rdB xs = (⟨0, 0, 0, [], []⟩, false)) := by
              rcases HFX.out with h | h
              · exact rdB_no h (fun hh => by have := HOk.out.symm.trans hh.2; cases this)
              · exact rdB_none h.1
            clear HPs HNs
            go_upto_region 23 with fail
            try simp only [Act.put]
            refine tameG [kc 95 (.pointer (some ⟨C, 0, none⟩)), kc 96 (.pointer (some ⟨C, 0, none⟩)), kc 97 (.pointer (some ⟨C, 1, none⟩)), kc 98 (.int .i64 (q2 : Int)), kc 99 (.slice a q2 c), kc 100 (.int .i64 (q2 : Int)), kc 101 (.bool false), kc 102 (.bool false), kc 103 (.agg #[.int .i64 v0, .int .i64 v1, .int .i64 v2, .slice pa j pc, .slice na r nc]), kc 104 (.bool false), kc 105 (.bool true), kc 106 (.bool true), kc 107 (.bool true), kc 108 (undef), kc 109 (undef), kc 110 (undef), kc 111 (undef), kc 112 (undef), kc 113 (undef), kc 114 (.bool true)] 20 (by kernel_rfl) (by kernel_rfl) (by kernel_rfl) (by repeat' first | exact trivial | apply kc_keeps | constructor) 0 (by kernel_rfl) (fun vv l9 hh yW bW => ?_) (fun vv l9 hh yW bW F0 ivh aph => ?_)
            · have x1 := (bW.cell (p := ⟨C, 1, none⟩) lC).trans c1
              have k0 := (bW.cell (p := ⟨X, 0, none⟩) lX).trans e0
              have k1 := (bW.cell (p := ⟨X, 1, none⟩) lX).trans e1
              have k2 := (bW.cell (p := ⟨X, 2, none⟩) lX).trans e2
              have k3 := (bW.cell (p := ⟨X, 3, none⟩) lX).trans e3
              have k4 := (bW.cell (p := ⟨X, 4, none⟩) lX).trans e4
              refine ⟨og (tp (by kernel_rfl)) (by kernel_rfl), og (tp ?_) (by kernel_rfl), og (tp (by kernel_rfl)) (by kernel_rfl), og (tp ?_) (by kernel_rfl), og (tp (by kernel_rfl)) (by kernel_rfl), og (tp (by kernel_rfl)) (by kernel_rfl), og (tp ?_) (by kernel_rfl), og (tp (by kernel_rfl)) (by kernel_rfl), og (tp ?_) (by kernel_rfl), og (tc (HBk.out _ bW) (by kernel_rfl)) (by kernel_rfl), og (tp (by kernel_rfl)) (by kernel_rfl), og (tp (by kernel_rfl)) (by kernel_rfl), og (tp (by kernel_rfl)) (by kernel_rfl), ou (by kernel_rfl), ou (by kernel_rfl), ou (by kernel_rfl), ou (by kernel_rfl), ou (by kernel_rfl), ou (by kernel_rfl), og (tp (by kernel_rfl)) (by kernel_rfl), trivial⟩
              all_goals
                simp only [fillK, putT, List.setIfInBounds_toArray, List.set_cons_zero, List.set_cons_succ]
                unfold execOp
                try go_simp
                first | rfl | omega | skip
            clear F0 ivh aph
            obtain ⟨y, hy2⟩ : ∃ z, z = yW := ⟨_, rfl⟩
            rw [← hy2] at bW ⊢
            clear hy2
            refine wpAny_done (by kernel_rfl) ?_ _
            simp only [fillK, putT, List.setIfInBounds_toArray, List.set_cons_zero, List.set_cons_succ]

            replace CG := CG.below bW
            replace QV := QV.kept bW
            clear bW c1 lC lX e0 e1 e2 e3 e4 QX
            have q0 := QV.cell 0
            have q1 := QV.cell 1
            have q2 := QV.cell 2
            have q3 := QV.cell 3
            have q4 := QV.cell 4
            simp at q0 q1 q2 q3 q4
            have fQ := QV.frozen
            have lQ := QV.lt
            have HK : Hid _ := arr_set5 QV (.int .i64 0) (.int .i64 0) (.int .i64 0) (.slice none 0 0) (.slice none 0 0)
            have HF : Hid (Below _ _ _) := bel_five (HBl.out.grown CG.G HBl.out.size (fun k hk => by injection hk with hk; omega)) (Nat.le_refl _) (.int .i64 0) (.int .i64 0) (.int .i64 0) (.slice none 0 0) (.slice none 0 0)
            clear QV CG
            go_wp2
            exact bodyPost_ret (results_row_tmp (v := .bool false) (t := 26) (cs := [.int .i64 0, .int .i64 0, .int .i64 0, .slice none 0 0, .slice none 0 0]) rfl rfl rfl HK.out Tryd.underlying26 rfl (by kernel_rfl)) rfl (rd_none HNo.out HF.out)
          have hbo := (bOk_iff _).1 HOk.out
          have HRB : Hid (rbun xs = some (⟨v0, v1, v2, l, l2⟩, q2)) := by
            rcases HFX.out with h | ⟨_, h⟩
            · exact h
            · have h1 := hbo.1.2.2.2.1.2
              have h2 := hbo.1.2.2.2.2
              simp only at h1 h2
              omega
          have hbx : buB ⟨v0, v1, v2, l, l2⟩ = xs := by
            have := (rbun_at hy HRB.out).2.2.2.2
            rw [List.take_of_length_le (by omega)] at this
            exact this
          have hxs : 0 < xs.length := by rw [← hbx]; exact buB_pos HOk.out
          have H8 : Hid (∀ Z, Below wr.heap.size wr Z → Calls Tryd.prog 67 #[.agg #[.int .i64 v0, .int .i64 v1, .int .i64 v2, .slice pa j pc, .slice na r nc]] Z fun e w' => ∃ u, e = .returned u ∧ w'.ownsRow Z.heap.size 5 1 u xs.length (U8 xs) ∧ Below Z.heap.size Z w') := fun Z hZ => by
            have := specL8bytes v0 v1 v2 pa j pc na r nc l l2 Z (HPs.below hZ) (HNs.below hZ) (fun q hq => by
              have hm : l.getD q pz ∈ l := by
                rw [List.getD_eq_getElem?_getD, List.getElem?_eq_getElem hq]
                exact List.getElem_mem hq
              exact (HLb.out _ hm).1) (by have := hbo.1.2.2.2.1.2; simp only at this; omega) (by have := hbo.1.2.2.2.2; simp only at this; omega)
            rw [hbx] at this
            exact this
          obtain ⟨ab, ao, hae⟩ : ∃ ab ao, a = some ⟨ab, ao, none⟩ := by
            rcases HB0.out.2.2.2.2 with h | ⟨b, o, e, _⟩
            · omega
            · exact ⟨b, o, e⟩
          have HBx : Hid (∀ Z, Below wr.heap.size wr Z → Bs Z (some ⟨ab, ao, none⟩) q2 c xs) := fun Z hZ => by
            rw [← hae]
            exact Bs.below (HCk.out.b HB0.out hne.out) hZ
          obtain ⟨t1, ht1⟩ : ∃ t, t = strOfNums xs := ⟨_, rfl⟩
          have HT1 : Hid (t1 = strOfNums xs) := ht1
          subst hae
          clear ht1 hbx hbo HPs HNs
          go_upto_region 23 with fail
          try simp only [Act.put]
          refine tameG [kc 95 (.pointer (some ⟨C, 0, none⟩)), kc 96 (.pointer (some ⟨C, 0, none⟩)), kc 97 (.pointer (some ⟨C, 1, none⟩)), kc 98 (.int .i64 (q2 : Int)), kc 99 (.slice (some ⟨ab, ao, none⟩) q2 c), kc 100 (.int .i64 (q2 : Int)), kc 101 (.bool false), kc 102 (.bool false), kc 103 (.agg #[.int .i64 v0, .int .i64 v1, .int .i64 v2, .slice pa j pc, .slice na r nc]), kc 104 (.bool true), kc 105 (.bool false), kc 106 (.bool false), kc 107 (.bool false), kc 108 (.agg #[.int .i64 v0, .int .i64 v1, .int .i64 v2, .slice pa j pc, .slice na r nc]), kv 109 (DBy wr.heap.size xs), kc 110 (.string t1), kc 111 (.slice (some ⟨ab, ao, none⟩) q2 c), kc 112 (.string t1), kc 113 (.bool false), kc 114 (.bool false)] 20 (by kernel_rfl) (by kernel_rfl) (by kernel_rfl) (by repeat' first | exact trivial | apply kc_keeps | apply dBy_keeps | constructor) 0 (by kernel_rfl) (fun vv l9 hh yW bW => ?_) (fun vv l9 hh yW bW F0 ivh aph => ?_)
          · have x1 := (bW.cell (p := ⟨C, 1, none⟩) lC).trans c1
            have k0 := (bW.cell (p := ⟨X, 0, none⟩) lX).trans e0
            have k1 := (bW.cell (p := ⟨X, 1, none⟩) lX).trans e1
            have k2 := (bW.cell (p := ⟨X, 2, none⟩) lX).trans e2
            have k3 := (bW.cell (p := ⟨X, 3, none⟩) lX).trans e3
            have k4 := (bW.cell (p := ⟨X, 4, none⟩) lX).trans e4
            have hcv2 : (convert 22 9 (.slice (some ⟨ab, ao, none⟩) q2 c)).run Tryd.prog yW = .ok (.string t1) yW := by rw [HT1.out]; exact bs_conv (HBx.out _ bW)
            refine ⟨og (tp (by kernel_rfl)) (by kernel_rfl), og (tp ?_) (by kernel_rfl), og (tp (by kernel_rfl)) (by kernel_rfl), og (tp ?_) (by kernel_rfl), og (tp (by kernel_rfl)) (by kernel_rfl), og (tp (by kernel_rfl)) (by kernel_rfl), og (tp ?_) (by kernel_rfl), og (tp (by kernel_rfl)) (by kernel_rfl), og (tp ?_) (by kernel_rfl), og (tc (HBk.out _ bW) (by kernel_rfl)) (by kernel_rfl), og (tp (by kernel_rfl)) (by kernel_rfl), og (tp (by kernel_rfl)) (by kernel_rfl), og (tp (by kernel_rfl)) (by kernel_rfl), og (tp ?_) (by kernel_rfl), og (tfBy (by have := bW.size; omega) hxs (H8.out _ bW) (by kernel_rfl)) (by kernel_rfl), og (tpx (fun x => by (obtain ⟨g, cc, e, oo⟩ : DBy wr.heap.size xs 0 0 yW (vv 14) := x ⟨14, .data⟩ (by simp) (by kernel_rfl) _ rfl; rw [e] at oo; have hbs := bs_of_own oo hy; rw [hlen] at hbs; have hcv1 : (convert 22 9 (.slice (some ⟨g, 0, none⟩) q2 cc)).run Tryd.prog yW = .ok (.string t1) yW := (by rw [HT1.out]; exact bs_conv hbs); simp only [fillK, putT, List.setIfInBounds_toArray, List.set_cons_zero, List.set_cons_succ]; rw [e]; unfold execOp; go_simp))) (by kernel_rfl), og (tp (by kernel_rfl)) (by kernel_rfl), og (tp ?_) (by kernel_rfl), og (tp ?_) (by kernel_rfl), og (tp (by kernel_rfl)) (by kernel_rfl), trivial⟩
            all_goals
              simp only [fillK, putT, List.setIfInBounds_toArray, List.set_cons_zero, List.set_cons_succ]
              unfold execOp
              try go_simp
              first | rfl | omega | skip
          clear F0 ivh aph
          obtain ⟨y, hy2⟩ : ∃ z, z = yW := ⟨_, rfl⟩
          rw [← hy2] at bW ⊢
          clear hy2
          refine wpAny_done (by kernel_rfl) ?_ _
          simp only [fillK, putT, List.setIfInBounds_toArray, List.set_cons_zero, List.set_cons_succ]

          replace CG := CG.below bW
          replace QV := QV.kept bW
          subst hl
          subst hl2
          replace QX := QX.kept bW
          replace HO : Hid (y.ownsRow W0.heap.size 45 4 (.slice pa l.length pc) l.length (QL ll)) := own_below HO.out bW
          replace HN : Hid (y.ownsRow W0.heap.size 41 4 (.slice na l2.length nc) l2.length (FL (l2.map nrc))) := own_below HN.out bW
          replace HPr : Hid (Prts W0.heap.size y ll l) := HPr.out.below bW
          clear e0 e1 e2 e3 e4 c1 lC lX bW
          have e0 := QX.cell 0
          have e1 := QX.cell 1
          have e2 := QX.cell 2
          have e3 := QX.cell 3
          have e4 := QX.cell 4
          simp at e0 e1 e2 e3 e4
          have q0 := QV.cell 0
          have q1 := QV.cell 1
          have q2 := QV.cell 2
          have q3 := QV.cell 3
          have q4 := QV.cell 4
          simp at q0 q1 q2 q3 q4
          have fQ := QV.frozen
          have lQ := QV.lt
          have HK : Hid _ := arr_set5 QV (.int .i64 v0) (.int .i64 v1) (.int .i64 v2) (.slice pa l.length pc) (.slice na l2.length nc)
          have HF : Hid (Below _ _ _) := bel_five (HBl.out.grown CG.G HBl.out.size (fun k hk => by injection hk with hk; omega)) (Nat.le_refl _) (.int .i64 v0) (.int .i64 v1) (.int .i64 v2) (.slice pa l.length pc) (.slice na l2.length nc)
          have HO5 : Hid _ := own_set5 (own_lowK HO.out HBl.out.size) QV (by decide) (.int .i64 v0) (.int .i64 v1) (.int .i64 v2) (.slice pa l.length pc) (.slice na l2.length nc)
          have HN5 : Hid _ := own_set5 (own_lowK HN.out HBl.out.size) QV (by decide) (.int .i64 v0) (.int .i64 v1) (.int .i64 v2) (.slice pa l.length pc) (.slice na l2.length nc)
          have HP5 : Hid (Prts _ _ _ _) := (HPr.out.low (lo := w.heap.size) HBl.out.size).set5 QV (by decide) (.int .i64 v0) (.int .i64 v1) (.int .i64 v2) (.slice pa l.length pc) (.slice na l2.length nc)
          have HYes : Hid (rdB xs = (⟨v0, v1, v2, l, l2⟩, true)) := rdB_yes HRB.out (by omega) HOk.out
          clear QX QV CG HO HN HPr
          go_wp2
          refine bodyPost_ret (results_row_tmp (v := .bool true) (t := 26) (cs := [.int .i64 v0, .int .i64 v1, .int .i64 v2, .slice pa l.length pc, .slice na l2.length nc]) rfl rfl rfl HK.out Tryd.underlying26 rfl (by kernel_rfl)) rfl ?_
          unfold RdAns
          rw [HYes.out]
          exact ⟨pa, pc, na, nc, ll, rfl, HO5.out, HP5.out, HN5.out, HF.out⟩

        by_cases h8 : (r : Int) ≤ 8
        case neg =>
          have HFX : Hid (rbun xs = some (⟨v0, v1, v2, l, l2⟩, q2) ∨ (rbun xs = none ∧ (4 < l.length ∨ 8 < l2.length))) := by
            right
            rcases HX.out with h | h
            · refine ⟨?_, .inr (by omega)⟩
              rw [h]
              have e : rcnt 8 xs q = none := by unfold rcnt; rw [HRm.out]; exact if_neg (by show ¬ ((M : Int) ≤ 8); omega)
              rw [e]
              rfl
            · exact ⟨h.1, .inl h.2⟩
          clear HRm HRn HX
          have c1 : wr.cell? ⟨C, 1, none⟩ = some (.int .i64 (q2 : Int)) := CG.A.cell 1
          have lC := CG.A.lt
          have HCk : Hid (Cg W0 wr C a n c (some q2)) := CG
          have e0 := QX.cell 0
          have e1 := QX.cell 1
          have e2 := QX.cell 2
          have e3 := QX.cell 3
          have e4 := QX.cell 4
          simp at e0 e1 e2 e3 e4
          have lX := QX.lt
          by_cases hqe : q2 = n
          case neg =>
            have HNo : Hid (rdB xs = (⟨0, 0, 0, [], []⟩, false)) := by
              rcases HFX.out with h | h
              · exact rdB_no h (fun hh => hqe (by have := hh.1; omega))
              · exact rdB_none h.1
            have hqI : ((q2 : Int) == (n : Int)) = false := by simp; omega
            have hqN : ((q2 : Int) = (n : Int)) = False := by simp; omega
            go_upto_region 23 with fail
            try simp only [Act.put]
            refine tameG [kc 95 (.pointer (some ⟨C, 0, none⟩)), kc 96 (.pointer (some ⟨C, 0, none⟩)), kc 97 (.pointer (some ⟨C, 1, none⟩)), kc 98 (.int .i64 (q2 : Int)), kc 99 (.slice a n c), kc 100 (.int .i64 (n : Int)), kc 101 (.bool true), kc 102 (.bool true), kc 103 (undef), kc 104 (undef), kc 105 (undef), kc 106 (.bool true), kc 107 (.bool true), kc 108 (undef), kc 109 (undef), kc 110 (undef), kc 111 (undef), kc 112 (undef), kc 113 (undef), kc 114 (.bool true)] 20 (by kernel_rfl) (by kernel_rfl) (by kernel_rfl) (by repeat' first | exact trivial | apply kc_keeps | constructor) 0 (by kernel_rfl) (fun vv l9 hh yW bW => ?_) (fun vv l9 hh yW bW F0 ivh aph => ?_)
            · have x1 := (bW.cell (p := ⟨C, 1, none⟩) lC).trans c1
              refine ⟨og (tp (by kernel_rfl)) (by kernel_rfl), og (tp ?_) (by kernel_rfl), og (tp (by kernel_rfl)) (by kernel_rfl), og (tp ?_) (by kernel_rfl), og (tp (by kernel_rfl)) (by kernel_rfl), og (tp (by kernel_rfl)) (by kernel_rfl), og (tp ?_) (by kernel_rfl), og (tp (by kernel_rfl)) (by kernel_rfl), ou (by kernel_rfl), ou (by kernel_rfl), ou (by kernel_rfl), og (tp (by kernel_rfl)) (by kernel_rfl), og (tp (by kernel_rfl)) (by kernel_rfl), ou (by kernel_rfl), ou (by kernel_rfl), ou (by kernel_rfl), ou (by kernel_rfl), ou (by kernel_rfl), ou (by kernel_rfl), og (tp (by kernel_rfl)) (by kernel_rfl), trivial⟩
              all_goals
                simp only [fillK, putT, List.setIfInBounds_toArray, List.set_cons_zero, List.set_cons_succ]
                unfold execOp
                try go_simp
                first | rfl | omega | skip
            clear F0 ivh aph
            obtain ⟨y, hy2⟩ : ∃ z, z = yW := ⟨_, rfl⟩
            rw [← hy2] at bW ⊢
            clear hy2
            refine wpAny_done (by kernel_rfl) ?_ _
            simp only [fillK, putT, List.setIfInBounds_toArray, List.set_cons_zero, List.set_cons_succ]

            replace CG := CG.below bW
            replace QV := QV.kept bW
            clear bW c1 lC lX e0 e1 e2 e3 e4 QX
            have q0 := QV.cell 0
            have q1 := QV.cell 1
            have q2 := QV.cell 2
            have q3 := QV.cell 3
            have q4 := QV.cell 4
            simp at q0 q1 q2 q3 q4
            have fQ := QV.frozen
            have lQ := QV.lt
            have HK : Hid _ := arr_set5 QV (.int .i64 0) (.int .i64 0) (.int .i64 0) (.slice none 0 0) (.slice none 0 0)
            have HF : Hid (Below _ _ _) := bel_five (HBl.out.grown CG.G HBl.out.size (fun k hk => by injection hk with hk; omega)) (Nat.le_refl _) (.int .i64 0) (.int .i64 0) (.int .i64 0) (.slice none 0 0) (.slice none 0 0)
            clear QV CG
            go_wp2
            exact bodyPost_ret (results_row_tmp (v := .bool false) (t := 26) (cs := [.int .i64 0, .int .i64 0, .int .i64 0, .slice none 0 0, .slice none 0 0]) rfl rfl rfl HK.out Tryd.underlying26 rfl (by kernel_rfl)) rfl (rd_none HNo.out HF.out)
          subst hqe
          obtain ⟨ok, hok⟩ : ∃ ok, ok = bOk ⟨v0, v1, v2, l, l2⟩ := ⟨_, rfl⟩
          have HPs : Ps wr pa j pc l := ps_prts HO.out HPr.out hl HLb.out
          obtain ⟨_, _, enn, HNs⟩ := ns_of HN.out
          injection enn with en1 en2 en3
          subst en1
          subst en3
          have HBk : Hid (∀ Z, Below wr.heap.size wr Z → Calls Tryd.prog 12 #[.agg #[.int .i64 v0, .int .i64 v1, .int .i64 v2, .slice pa j pc, .slice na r nc]] Z fun e w' => e = .returned (.bool ok) ∧ Below Z.heap.size Z w') := fun Z hZ => by
            rw [hok]
            exact spec8BundleOk pa j pc na r nc ⟨v0, v1, v2, l, l2⟩ Z (HPs.below hZ) (HNs.below hZ)
          have HOk : Hid (bOk ⟨v0, v1, v2, l, l2⟩ = ok) := hok.symm
          clear hok
          cases ok
          · have HNo : Hid (rdB xs = (⟨0, 0, 0, [], []⟩, false)) := by
              rcases HFX.out with h | h
              · exact rdB_no h (fun hh => by have := HOk.out.symm.trans hh.2; cases this)
              · exact rdB_none h.1
            clear HPs HNs
            go_upto_region 23 with fail
            try simp only [Act.put]
            refine tameG [kc 95 (.pointer (some ⟨C, 0, none⟩)), kc 96 (.pointer (some ⟨C, 0, none⟩)), kc 97 (.pointer (some ⟨C, 1, none⟩)), kc 98 (.int .i64 (q2 : Int)), kc 99 (.slice a q2 c), kc 100 (.int .i64 (q2 : Int)), kc 101 (.bool false), kc 102 (.bool false), kc 103 (.agg #[.int .i64 v0, .int .i64 v1, .int .i64 v2, .slice pa j pc, .slice na r nc]), kc 104 (.bool false), kc 105 (.bool true), kc 106 (.bool true), kc 107 (.bool true), kc 108 (undef), kc 109 (undef), kc 110 (undef), kc 111 (undef), kc 112 (undef), kc 113 (undef), kc 114 (.bool true)] 20 (by kernel_rfl) (by kernel_rfl) (by kernel_rfl) (by repeat' first | exact trivial | apply kc_keeps | constructor) 0 (by kernel_rfl) (fun vv l9 hh yW bW => ?_) (fun vv l9 hh yW bW F0 ivh aph => ?_)
            · have x1 := (bW.cell (p := ⟨C, 1, none⟩) lC).trans c1
              have k0 := (bW.cell (p := ⟨X, 0, none⟩) lX).trans e0
              have k1 := (bW.cell (p := ⟨X, 1, none⟩) lX).trans e1
              have k2 := (bW.cell (p := ⟨X, 2, none⟩) lX).trans e2
              have k3 := (bW.cell (p := ⟨X, 3, none⟩) lX).trans e3
              have k4 := (bW.cell (p := ⟨X, 4, none⟩) lX).trans e4
              refine ⟨og (tp (by kernel_rfl)) (by kernel_rfl), og (tp ?_) (by kernel_rfl), og (tp (by kernel_rfl)) (by kernel_rfl), og (tp ?_) (by kernel_rfl), og (tp (by kernel_rfl)) (by kernel_rfl), og (tp (by kernel_rfl)) (by kernel_rfl), og (tp ?_) (by kernel_rfl), og (tp (by kernel_rfl)) (by kernel_rfl), og (tp ?_) (by kernel_rfl), og (tc (HBk.out _ bW) (by kernel_rfl)) (by kernel_rfl), og (tp (by kernel_rfl)) (by kernel_rfl), og (tp (by kernel_rfl)) (by kernel_rfl), og (tp (by kernel_rfl)) (by kernel_rfl), ou (by kernel_rfl), ou (by kernel_rfl), ou (by kernel_rfl), ou (by kernel_rfl), ou (by kernel_rfl), ou (by kernel_rfl), og (tp (by kernel_rfl)) (by kernel_rfl), trivial⟩
              all_goals
                simp only [fillK, putT, List.setIfInBounds_toArray, List.set_cons_zero, List.set_cons_succ]
                unfold execOp
                try go_simp
                first | rfl | omega | skip
            clear F0 ivh aph
            obtain ⟨y, hy2⟩ : ∃ z, z = yW := ⟨_, rfl⟩
            rw [← hy2] at bW ⊢
            clear hy2
            refine wpAny_done (by kernel_rfl) ?_ _
            simp only [fillK, putT, List.setIfInBounds_toArray, List.set_cons_zero, List.set_cons_succ]

            replace CG := CG.below bW
            replace QV := QV.kept bW
            clear bW c1 lC lX e0 e1 e2 e3 e4 QX
            have q0 := QV.cell 0
            have q1 := QV.cell 1
            have q2 := QV.cell 2
            have q3 := QV.cell 3
            have q4 := QV.cell 4
            simp at q0 q1 q2 q3 q4
            have fQ := QV.frozen
            have lQ := QV.lt
            have HK : Hid _ := arr_set5 QV (.int .i64 0) (.int .i64 0) (.int .i64 0) (.slice none 0 0) (.slice none 0 0)
            have HF : Hid (Below _ _ _) := bel_five (HBl.out.grown CG.G HBl.out.size (fun k hk => by injection hk with hk; omega)) (Nat.le_refl _) (.int .i64 0) (.int .i64 0) (.int .i64 0) (.slice none 0 0) (.slice none 0 0)
            clear QV CG
            go_wp2
            exact bodyPost_ret (results_row_tmp (v := .bool false) (t := 26) (cs := [.int .i64 0, .int .i64 0, .int .i64 0, .slice none 0 0, .slice none 0 0]) rfl rfl rfl HK.out Tryd.underlying26 rfl (by kernel_rfl)) rfl (rd_none HNo.out HF.out)
          have hbo := (bOk_iff _).1 HOk.out
          have HRB : Hid (rbun xs = some (⟨v0, v1, v2, l, l2⟩, q2)) := by
            rcases HFX.out with h | ⟨_, h⟩
            · exact h
            · have h1 := hbo.1.2.2.2.1.2
              have h2 := hbo.1.2.2.2.2
              simp only at h1 h2
              omega
          have hbx : buB ⟨v0, v1, v2, l, l2⟩ = xs := by
            have := (rbun_at hy HRB.out).2.2.2.2
            rw [List.take_of_length_le (by omega)] at this
            exact this
          have hxs : 0 < xs.length := by rw [← hbx]; exact buB_pos HOk.out
          have H8 : Hid (∀ Z, Below wr.heap.size wr Z → Calls Tryd.prog 67 #[.agg #[.int .i64 v0, .int .i64 v1, .int .i64 v2, .slice pa j pc, .slice na r nc]] Z fun e w' => ∃ u, e = .returned u ∧ w'.ownsRow Z.heap.size 5 1 u xs.length (U8 xs) ∧ Below Z.heap.size Z w') := fun Z hZ => by
            have := specL8bytes v0 v1 v2 pa j pc na r nc l l2 Z (HPs.below hZ) (HNs.below hZ) (fun q hq => by
              have hm : l.getD q pz ∈ l := by
                rw [List.getD_eq_getElem?_getD, List.getElem?_eq_getElem hq]
                exact List.getElem_mem hq
              exact (HLb.out _ hm).1) (by have := hbo.1.2.2.2.1.2; simp only at this; omega) (by have := hbo.1.2.2.2.2; simp only at this; omega)
            rw [hbx] at this
            exact this
          obtain ⟨ab, ao, hae⟩ : ∃ ab ao, a = some ⟨ab, ao, none⟩ := by
            rcases HB0.out.2.2.2.2 with h | ⟨b, o, e, _⟩
            · omega
            · exact ⟨b, o, e⟩
          have HBx : Hid (∀ Z, Below wr.heap.size wr Z → Bs Z (some ⟨ab, ao, none⟩) q2 c xs) := fun Z hZ => by
            rw [← hae]
            exact Bs.below (HCk.out.b HB0.out hne.out) hZ
          obtain ⟨t1, ht1⟩ : ∃ t, t = strOfNums xs := ⟨_, rfl⟩
          have HT1 : Hid (t1 = strOfNums xs) := ht1
          subst hae
          clear ht1 hbx hbo HPs HNs
          go_upto_region 23 with fail
          try simp only [Act.put]
          refine tameG [kc 95 (.pointer (some ⟨C, 0, none⟩)), kc 96 (.pointer (some ⟨C, 0, none⟩)), kc 97 (.pointer (some ⟨C, 1, none⟩)), kc 98 (.int .i64 (q2 : Int)), kc 99 (.slice (some ⟨ab, ao, none⟩) q2 c), kc 100 (.int .i64 (q2 : Int)), kc 101 (.bool false), kc 102 (.bool false), kc 103 (.agg #[.int .i64 v0, .int .i64 v1, .int .i64 v2, .slice pa j pc, .slice na r nc]), kc 104 (.bool true), kc 105 (.bool false), kc 106 (.bool false), kc 107 (.bool false), kc 108 (.agg #[.int .i64 v0, .int .i64 v1, .int .i64 v2, .slice pa j pc, .slice na r nc]), kv 109 (DBy wr.heap.size xs), kc 110 (.string t1), kc 111 (.slice (some ⟨ab, ao, none⟩) q2 c), kc 112 (.string t1), kc 113 (.bool false), kc 114 (.bool false)] 20 (by kernel_rfl) (by kernel_rfl) (by kernel_rfl) (by repeat' first | exact trivial | apply kc_keeps | apply dBy_keeps | constructor) 0 (by kernel_rfl) (fun vv l9 hh yW bW => ?_) (fun vv l9 hh yW bW F0 ivh aph => ?_)
          · have x1 := (bW.cell (p := ⟨C, 1, none⟩) lC).trans c1
            have k0 := (bW.cell (p := ⟨X, 0, none⟩) lX).trans e0
            have k1 := (bW.cell (p := ⟨X, 1, none⟩) lX).trans e1
            have k2 := (bW.cell (p := ⟨X, 2, none⟩) lX).trans e2
            have k3 := (bW.cell (p := ⟨X, 3, none⟩) lX).trans e3
            have k4 := (bW.cell (p := ⟨X, 4, none⟩) lX).trans e4
            have hcv2 : (convert 22 9 (.slice (some ⟨ab, ao, none⟩) q2 c)).run Tryd.prog yW = .ok (.string t1) yW := by rw [HT1.out]; exact bs_conv (HBx.out _ bW)
            refine ⟨og (tp (by kernel_rfl)) (by kernel_rfl), og (tp ?_) (by kernel_rfl), og (tp (by kernel_rfl)) (by kernel_rfl), og (tp ?_) (by kernel_rfl), og (tp (by kernel_rfl)) (by kernel_rfl), og (tp (by kernel_rfl)) (by kernel_rfl), og (tp ?_) (by kernel_rfl), og (tp (by kernel_rfl)) (by kernel_rfl), og (tp ?_) (by kernel_rfl), og (tc (HBk.out _ bW) (by kernel_rfl)) (by kernel_rfl), og (tp (by kernel_rfl)) (by kernel_rfl), og (tp (by kernel_rfl)) (by kernel_rfl), og (tp (by kernel_rfl)) (by kernel_rfl), og (tp ?_) (by kernel_rfl), og (tfBy (by have := bW.size; omega) hxs (H8.out _ bW) (by kernel_rfl)) (by kernel_rfl), og (tpx (fun x => by (obtain ⟨g, cc, e, oo⟩ : DBy wr.heap.size xs 0 0 yW (vv 14) := x ⟨14, .data⟩ (by simp) (by kernel_rfl) _ rfl; rw [e] at oo; have hbs := bs_of_own oo hy; rw [hlen] at hbs; have hcv1 : (convert 22 9 (.slice (some ⟨g, 0, none⟩) q2 cc)).run Tryd.prog yW = .ok (.string t1) yW := (by rw [HT1.out]; exact bs_conv hbs); simp only [fillK, putT, List.setIfInBounds_toArray, List.set_cons_zero, List.set_cons_succ]; rw [e]; unfold execOp; go_simp))) (by kernel_rfl), og (tp (by kernel_rfl)) (by kernel_rfl), og (tp ?_) (by kernel_rfl), og (tp ?_) (by kernel_rfl), og (tp (by kernel_rfl)) (by kernel_rfl), trivial⟩
            all_goals
              simp only [fillK, putT, List.setIfInBounds_toArray, List.set_cons_zero, List.set_cons_succ]
              unfold execOp
              try go_simp
              first | rfl | omega | skip
          clear F0 ivh aph
          obtain ⟨y, hy2⟩ : ∃ z, z = yW := ⟨_, rfl⟩
          rw [← hy2] at bW ⊢
          clear hy2
          refine wpAny_done (by kernel_rfl) ?_ _
          simp only [fillK, putT, List.setIfInBounds_toArray, List.set_cons_zero, List.set_cons_succ]

          replace CG := CG.below bW
          replace QV := QV.kept bW
          subst hl
          subst hl2
          replace QX := QX.kept bW
          replace HO : Hid (y.ownsRow W0.heap.size 45 4 (.slice pa l.length pc) l.length (QL ll)) := own_below HO.out bW
          replace HN : Hid (y.ownsRow W0.heap.size 41 4 (.slice na l2.length nc) l2.length (FL (l2.map nrc))) := own_below HN.out bW
          replace HPr : Hid (Prts W0.heap.size y ll l) := HPr.out.below bW
          clear e0 e1 e2 e3 e4 c1 lC lX bW
          have e0 := QX.cell 0
          have e1 := QX.cell 1
          have e2 := QX.cell 2
          have e3 := QX.cell 3
          have e4 := QX.cell 4
          simp at e0 e1 e2 e3 e4
          have q0 := QV.cell 0
          have q1 := QV.cell 1
          have q2 := QV.cell 2
          have q3 := QV.cell 3
          have q4 := QV.cell 4
          simp at q0 q1 q2 q3 q4
          have fQ := QV.frozen
          have lQ := QV.lt
          have HK : Hid _ := arr_set5 QV (.int .i64 v0) (.int .i64 v1) (.int .i64 v2) (.slice pa l.length pc) (.slice na l2.length nc)
          have HF : Hid (Below _ _ _) := bel_five (HBl.out.grown CG.G HBl.out.size (fun k hk => by injection hk with hk; omega)) (Nat.le_refl _) (.int .i64 v0) (.int .i64 v1) (.int .i64 v2) (.slice pa l.length pc) (.slice na l2.length nc)
          have HO5 : Hid _ := own_set5 (own_lowK HO.out HBl.out.size) QV (by decide) (.int .i64 v0) (.int .i64 v1) (.int .i64 v2) (.slice pa l.length pc) (.slice na l2.length nc)
          have HN5 : Hid _ := own_set5 (own_lowK HN.out HBl.out.size) QV (by decide) (.int .i64 v0) (.int .i64 v1) (.int .i64 v2) (.slice pa l.length pc) (.slice na l2.length nc)
          have HP5 : Hid (Prts _ _ _ _) := (HPr.out.low (lo := w.heap.size) HBl.out.size).set5 QV (by decide) (.int .i64 v0) (.int .i64 v1) (.int .i64 v2) (.slice pa l.length pc) (.slice na l2.length nc)
          have HYes : Hid (rdB xs = (⟨v0, v1, v2, l, l2⟩, true)) := rdB_yes HRB.out (by omega) HOk.out
          clear QX QV CG HO HN HPr
          go_wp2
          refine bodyPost_ret (results_row_tmp (v := .bool true) (t := 26) (cs := [.int .i64 v0, .int .i64 v1, .int .i64 v2, .slice pa l.length pc, .slice na l2.length nc]) rfl rfl rfl HK.out Tryd.underlying26 rfl (by kernel_rfl)) rfl ?_
          unfold RdAns
          rw [HYes.out]
          exact ⟨pa, pc, na, nc, ll, rfl, HO5.out, HP5.out, HN5.out, HF.out⟩

        go_wp2_with fail
        refine (specL8get C a n c (some q2) xs _ CG.A (CG.b HB0.out hne.out) hn hpq2).mono ?_
        rintro e u1 ⟨rfl, hg, hA⟩
        replace CG := CG.num hg hA
        replace QV := QV.pk hg hCV
        replace QX := QX.pk hg hCX
        replace HO : Hid (u1.ownsRow W0.heap.size 45 4 (.slice pa j pc) j (QL ll)) := own_pk HO.out hlC hg
        replace HPr : Hid (Prts W0.heap.size u1 ll l) := HPr.out.p hlC hg
        replace HN : Hid (u1.ownsRow W0.heap.size 41 4 (.slice na r nc) r (FL (l2.map nrc))) := own_pk HN.out hlC hg
        obtain ⟨x0, oa, hsa⟩ : ∃ v o, sget xs (some q2) = (v, o) := ⟨(sget xs (some q2)).1, (sget xs (some q2)).2, rfl⟩
        have hpoa : ∀ p, oa = some p → p ≤ n := fun q9 hq9 => by
          have := sget_le hy (o := (some q2)) (fun p9 hp9 => by have := hpq2 p9 hp9; omega) q9 (by rw [hsa]; exact hq9)
          omega
        rw [hsa] at CG ⊢
        dsimp only at CG ⊢
        clear hg hA
        obtain ⟨U1, hU1⟩ : ∃ Z, Z = u1.alloc (.cells #[.int .i64 x0, .int .i64 0, .int .i64 0, .int .i64 0] 41) := ⟨_, rfl⟩
        have QP : Arr U1 u1.heap.size 41 [.int .i64 x0, .int .i64 0, .int .i64 0, .int .i64 0] := by rw [hU1]; exact Arr.new _ _ _
        have zz := CG.G.size
        have lX0 := QX.lt
        have HNw := HN
        replace CG := CG.alloc (.cells #[.int .i64 x0, .int .i64 0, .int .i64 0, .int .i64 0] 41)
        replace QV := QV.alloc (.cells #[.int .i64 x0, .int .i64 0, .int .i64 0, .int .i64 0] 41)
        replace QX := QX.alloc (.cells #[.int .i64 x0, .int .i64 0, .int .i64 0, .int .i64 0] 41)
        replace HO : Hid (U1.ownsRow W0.heap.size 45 4 (.slice pa j pc) j (QL ll)) := by unfold Hid; rw [hU1]; exact World.ownsRow.alloc HO.out _
        replace HN : Hid (U1.ownsRow W0.heap.size 41 4 (.slice na r nc) r (FL (l2.map nrc))) := by unfold Hid; rw [hU1]; exact World.ownsRow.alloc HN.out _
        replace HPr : Hid (Prts W0.heap.size U1 ll l) := by unfold Hid; rw [hU1]; exact HPr.out.below ((Below.refl _ _).alloc (Nat.le_refl _) _)
        rw [← hU1] at CG QV QX
        obtain ⟨P8, hP8e⟩ : ∃ P, P = u1.heap.size := ⟨_, rfl⟩
        rw [← hP8e] at QP
        have hP8 : W0.heap.size ≤ P8 := by omega
        have hCP : C ≠ P8 := by omega
        have hXP : X < P8 := by omega
        have hVP : w.heap.size ≠ P8 := by omega
        have hRN : ∀ b, (Value.slice na r nc).ownBlock = some b → b ≠ P8 := fun b hb => by have := (World.ownsRow.lt HNw.out b hb).2; omega
        go_upto_region 19 with fail
        rw [← hU1]
        rw [← hP8e]
        clear hU1 hP8e zz lX0 HNw
        go_wp2_with fail
        refine (specL8get C a n c oa xs _ CG.A (CG.b HB0.out hne.out) hn hpoa).mono ?_
        rintro e u2 ⟨rfl, hg, hA⟩
        replace CG := CG.num hg hA
        replace QV := QV.pk hg hCV
        replace QX := QX.pk hg hCX
        replace HO : Hid (u2.ownsRow W0.heap.size 45 4 (.slice pa j pc) j (QL ll)) := own_pk HO.out hlC hg
        replace HPr : Hid (Prts W0.heap.size u2 ll l) := HPr.out.p hlC hg
        replace HN : Hid (u2.ownsRow W0.heap.size 41 4 (.slice na r nc) r (FL (l2.map nrc))) := own_pk HN.out hlC hg
        replace QP := QP.pk hg hCP
        obtain ⟨x1, ob, hsb⟩ : ∃ v o, sget xs oa = (v, o) := ⟨(sget xs oa).1, (sget xs oa).2, rfl⟩
        have hpob : ∀ p, ob = some p → p ≤ n := fun q9 hq9 => by
          have := sget_le hy (o := oa) (fun p9 hp9 => by have := hpoa p9 hp9; omega) q9 (by rw [hsb]; exact hq9)
          omega
        rw [hsb] at CG ⊢
        dsimp only at CG ⊢
        clear hg hA
        have c3 := QP.cell 3
        simp at c3
        have fX := QP.frozen
        have lX := QP.lt
        go_upto_region 20 with fail
        replace CG := CG.set hP8 hlC 3 (.int .i64 x1)
        replace QV := QV.other ⟨P8, 3, none⟩ (.int .i64 x1) (by show w.heap.size ≠ P8; omega)
        replace QX := QX.other ⟨P8, 3, none⟩ (.int .i64 x1) (by show X ≠ P8; omega)
        replace HO : Hid (World.ownsRow _ _ _ _ _ _ _) := own_cellP (j := 3) (u := .int .i64 x1) HO.out QP (by decide)
        replace HPr : Hid (Prts _ _ _ _) := HPr.out.cell (j := 3) (u := .int .i64 x1) QP (by decide)
        replace HN : Hid (World.ownsRow _ _ _ _ _ _ _) := own_nb (j := 3) (u := .int .i64 x1) HN.out hRN
        replace QP := QP.set 3 (.int .i64 x1)
        simp only [List.set_cons_zero, List.set_cons_succ] at QP
        clear c3 fX lX
        obtain ⟨y2, hZ⟩ : ∃ Z, Z = u2.setCell ⟨P8, 3, none⟩ (.int .i64 x1) := ⟨_, rfl⟩
        rw [← hZ] at CG QV QP QX HO HPr HN ⊢
        clear hZ
        go_wp2_with fail
        refine (specL8get C a n c ob xs _ CG.A (CG.b HB0.out hne.out) hn hpob).mono ?_
        rintro e u3 ⟨rfl, hg, hA⟩
        replace CG := CG.num hg hA
        replace QV := QV.pk hg hCV
        replace QX := QX.pk hg hCX
        replace HO : Hid (u3.ownsRow W0.heap.size 45 4 (.slice pa j pc) j (QL ll)) := own_pk HO.out hlC hg
        replace HPr : Hid (Prts W0.heap.size u3 ll l) := HPr.out.p hlC hg
        replace HN : Hid (u3.ownsRow W0.heap.size 41 4 (.slice na r nc) r (FL (l2.map nrc))) := own_pk HN.out hlC hg
        replace QP := QP.pk hg hCP
        obtain ⟨x2, oc, hsc⟩ : ∃ v o, sget xs ob = (v, o) := ⟨(sget xs ob).1, (sget xs ob).2, rfl⟩
        have hpoc : ∀ p, oc = some p → p ≤ n := fun q9 hq9 => by
          have := sget_le hy (o := ob) (fun p9 hp9 => by have := hpob p9 hp9; omega) q9 (by rw [hsc]; exact hq9)
          omega
        rw [hsc] at CG ⊢
        dsimp only at CG ⊢
        clear hg hA
        have c1 := QP.cell 1
        simp at c1
        have fX := QP.frozen
        have lX := QP.lt
        go_upto_region 21 with fail
        replace CG := CG.set hP8 hlC 1 (.int .i64 x2)
        replace QV := QV.other ⟨P8, 1, none⟩ (.int .i64 x2) (by show w.heap.size ≠ P8; omega)
        replace QX := QX.other ⟨P8, 1, none⟩ (.int .i64 x2) (by show X ≠ P8; omega)
        replace HO : Hid (World.ownsRow _ _ _ _ _ _ _) := own_cellP (j := 1) (u := .int .i64 x2) HO.out QP (by decide)
        replace HPr : Hid (Prts _ _ _ _) := HPr.out.cell (j := 1) (u := .int .i64 x2) QP (by decide)
        replace HN : Hid (World.ownsRow _ _ _ _ _ _ _) := own_nb (j := 1) (u := .int .i64 x2) HN.out hRN
        replace QP := QP.set 1 (.int .i64 x2)
        simp only [List.set_cons_zero, List.set_cons_succ] at QP
        clear c1 fX lX
        obtain ⟨y3, hZ⟩ : ∃ Z, Z = u3.setCell ⟨P8, 1, none⟩ (.int .i64 x2) := ⟨_, rfl⟩
        rw [← hZ] at CG QV QP QX HO HPr HN ⊢
        clear hZ
        go_wp2_with fail
        refine (specL8get C a n c oc xs _ CG.A (CG.b HB0.out hne.out) hn hpoc).mono ?_
        rintro e u4 ⟨rfl, hg, hA⟩
        replace CG := CG.num hg hA
        replace QV := QV.pk hg hCV
        replace QX := QX.pk hg hCX
        replace HO : Hid (u4.ownsRow W0.heap.size 45 4 (.slice pa j pc) j (QL ll)) := own_pk HO.out hlC hg
        replace HPr : Hid (Prts W0.heap.size u4 ll l) := HPr.out.p hlC hg
        replace HN : Hid (u4.ownsRow W0.heap.size 41 4 (.slice na r nc) r (FL (l2.map nrc))) := own_pk HN.out hlC hg
        replace QP := QP.pk hg hCP
        obtain ⟨x3, od, hse⟩ : ∃ v o, sget xs oc = (v, o) := ⟨(sget xs oc).1, (sget xs oc).2, rfl⟩
        have hpod : ∀ p, od = some p → p ≤ n := fun q9 hq9 => by
          have := sget_le hy (o := oc) (fun p9 hp9 => by have := hpoc p9 hp9; omega) q9 (by rw [hse]; exact hq9)
          omega
        rw [hse] at CG ⊢
        dsimp only at CG ⊢
        clear hg hA
        have c2 := QP.cell 2
        simp at c2
        have fX := QP.frozen
        have lX := QP.lt
        go_upto_region 22 with fail
        replace CG := CG.set hP8 hlC 2 (.int .i64 x3)
        replace QV := QV.other ⟨P8, 2, none⟩ (.int .i64 x3) (by show w.heap.size ≠ P8; omega)
        replace QX := QX.other ⟨P8, 2, none⟩ (.int .i64 x3) (by show X ≠ P8; omega)
        replace HO : Hid (World.ownsRow _ _ _ _ _ _ _) := own_cellP (j := 2) (u := .int .i64 x3) HO.out QP (by decide)
        replace HPr : Hid (Prts _ _ _ _) := HPr.out.cell (j := 2) (u := .int .i64 x3) QP (by decide)
        replace HN : Hid (World.ownsRow _ _ _ _ _ _ _) := own_nb (j := 2) (u := .int .i64 x3) HN.out hRN
        replace QP := QP.set 2 (.int .i64 x3)
        simp only [List.set_cons_zero, List.set_cons_succ] at QP
        clear c2 fX lX
        obtain ⟨y4, hZ⟩ : ∃ Z, Z = u4.setCell ⟨P8, 2, none⟩ (.int .i64 x3) := ⟨_, rfl⟩
        rw [← hZ] at CG QV QP QX HO HPr HN ⊢
        clear hZ
        have d0 := QP.cell 0
        have d1 := QP.cell 1
        have d2 := QP.cell 2
        have d3 := QP.cell 3
        simp at d0 d1 d2 d3
        have a4 := QX.cell 4
        simp at a4
        have fX := QX.frozen
        have lX := QX.lt
        have lP := QP.lt
        have zz := CG.G.size
        go_wp2_with (at_builtin; refine wpl_app_nd rfl _ _ rfl rfl W0.heap.size (.slice na r nc) r (l2.map nrc) rfl y4.heap.size 1 ⟨x0, x2, x3, x1⟩ rfl (World.ownsRow.alloc HN.out _) (Arr.new y4 [.int .i64 x0, .int .i64 x2, .int .i64 x3, .int .i64 x1] 41) (by omega) (by simp; omega) ?_)
        intro v9 u5 O5 g5
        obtain ⟨ra, rc, rfl⟩ := shape4 O5
        have n4 := World.ownsRow.alloc HN.out (.cells #[.int .i64 x0, .int .i64 x2, .int .i64 x3, .int .i64 x1] 41)
        have o4 := World.ownsRow.alloc HO.out (.cells #[.int .i64 x0, .int .i64 x2, .int .i64 x3, .int .i64 x1] 41)
        have hbA : Below y4.heap.size y4 (y4.alloc (.cells #[.int .i64 x0, .int .i64 x2, .int .i64 x3, .int .i64 x1] 41)) := (Below.refl _ _).alloc (Nat.le_refl _) _
        have HP5 : Hid (Prts W0.heap.size u5 ll l) := (HPr.out.below hbA).grown n4 (by decide) g5
        have HO5 : Hid (u5.ownsRow W0.heap.size 45 4 (.slice pa j pc) j (QL ll)) := o4.kept g5 (own_ty n4 o4 (by decide))
        have CG5 := (CG.below hbA).app n4 (Nat.le_refl _) hlC g5
        have QX5 := (QX.kept hbA).gr n4 (by decide) g5
        have QV5 := (QV.kept hbA).gr n4 (by decide) g5
        clear a4 fX lX lP d0 d1 d2 d3 o4 n4 hbA CG QX QV QP HO HPr HN g5
        have a4 := QX5.cell 4
        simp at a4
        have fX := QX5.frozen
        have lX := QX5.lt
        have HN6 : Hid ((u5.setCell ⟨X, 4, none⟩ (.slice ra (r + 1) rc)).ownsRow W0.heap.size 41 4 (.slice ra (r + 1) rc) (r + 1) (FL ((l2 ++ [(⟨x0, x2, x3, x1⟩ : NeedM)]).map nrc))) := own_cellP (by rw [List.map_append]; exact O5) QX5 (by decide)
        have HO6 : Hid ((u5.setCell ⟨X, 4, none⟩ (.slice ra (r + 1) rc)).ownsRow W0.heap.size 45 4 (.slice pa j pc) j (QL ll)) := own_cellP HO5.out QX5 (by decide)
        have HP6 : Hid (Prts W0.heap.size (u5.setCell ⟨X, 4, none⟩ (.slice ra (r + 1) rc)) ll l) := HP5.out.cell QX5 (by decide)
        have HC6 : Hid (Cg W0 (u5.setCell ⟨X, 4, none⟩ (.slice ra (r + 1) rc)) C a n c od) := CG5.set hXX hlC 4 _
        have HV6 : Hid (Arr (u5.setCell ⟨X, 4, none⟩ (.slice ra (r + 1) rc)) w.heap.size 26 [.int .i64 0, .int .i64 0, .int .i64 0, .slice none 0 0, .slice none 0 0]) := QV5.other ⟨X, 4, none⟩ _ hVX
        have HX6 : Hid (Arr (u5.setCell ⟨X, 4, none⟩ (.slice ra (r + 1) rc)) X 26 [.int .i64 v0, .int .i64 v1, .int .i64 v2, .slice pa j pc, .slice ra (r + 1) rc]) := QX5.set 4 _
        have HS6 : Hid ((∃ q3, od = some q3 ∧ q3 ≤ n ∧ (l2 ++ [(⟨x0, x2, x3, x1⟩ : NeedM)]).length = r + 1 ∧ r + 1 ≤ M ∧ ∃ p8, rnum xs q = some ((M : Int), p8) ∧ rneeds xs p8 (r + 1) = some (l2 ++ [⟨x0, x2, x3, x1⟩], q3)) ∨ (od = none ∧ rbun xs = none)) := by
          rcases sneed_or q2 hsa hsb hsc hse with ⟨q3, hr, rfl⟩ | ⟨hr, rfl⟩
          · left
            exact ⟨q3, rfl, hpod q3 rfl, by rw [List.length_append, hl2]; rfl, by omega, p8, HRm.out, rneeds_succ HRn.out hr⟩
          · right
            refine ⟨rfl, ?_⟩
            rcases HX.out with h | h
            · rw [h]
              have hf := rneeds_fail HRn.out hr (show r < M by omega)
              by_cases h8' : (M : Int) ≤ 8
              · have e : rcnt 8 xs q = some ((M : Int), p8) := by unfold rcnt; rw [HRm.out]; exact if_pos h8'
                rw [e]
                simp only [Option.bind_some, Int.toNat_natCast, hf, Option.bind_none]
              · have e : rcnt 8 xs q = none := by unfold rcnt; rw [HRm.out]; exact if_neg h8'
                rw [e]
                rfl
            · exact h.1
        have hwr : IntKind.i64.wrap ((r : Int) + 1) = (r : Int) + 1 := wr64 (by omega) (by omega)
        clear O5 HP5 HO5 CG5 QV5 QX5 hsa hsb hsc hse HRm HRn zz
        go_wp2
        go_roundw
        case rel => exact ⟨r + 1, l2 ++ [⟨x0, x2, x3, x1⟩], ra, rc, od, by omega, by go_num, HN6, HO6, HP6, HC6, HV6, HX6, HS6⟩
        case measure => simp [intOf]; omega


    by_cases h4 : (j : Int) ≤ 4
    case neg =>
      have HX : Hid ((rbun xs = (rcnt 8 xs q).bind fun m => (rneeds xs m.2 m.1.toNat).bind fun N => some (⟨v0, v1, v2, l, N.1⟩, N.2)) ∨ (rbun xs = none ∧ 4 < l.length)) := by
        right
        exact ⟨HBig.out (by omega), by omega⟩
      clear HBig HGo HFail HRp
      go_wp2_with fail
      refine (specL8get C a n c (some q) xs _ CG.A (CG.b HB0.out hne.out) hn hpq).mono ?_
      rintro e t1 ⟨rfl, hg, hA⟩
      replace CG := CG.num hg hA
      replace QV := QV.pk hg hCV
      replace QX := QX.pk hg hCX
      replace HO : Hid (t1.ownsRow W0.heap.size 45 4 (.slice pa j pc) j (QL ll)) := own_pk HO.out hlC hg
      replace HPr : Hid (Prts W0.heap.size t1 ll l) := HPr.out.p hlC hg
      obtain ⟨vm, o5, hsm⟩ : ∃ v o, sget xs (some q) = (v, o) := ⟨(sget xs (some q)).1, (sget xs (some q)).2, rfl⟩
      have hpo5 : ∀ p, o5 = some p → p ≤ n := fun q9 hq9 => by
        have := sget_le hy (o := (some q)) (fun p9 hp9 => by have := hpq p9 hp9; omega) q9 (by rw [hsm]; exact hq9)
        omega
      rw [hsm] at CG ⊢
      dsimp only at CG ⊢
      clear hg hA
      obtain ⟨M, hMe⟩ : ∃ M : Nat, vm = (M : Int) := Int.eq_ofNat_of_zero_le (by have := sget_nn hy (some q); rw [hsm] at this; exact this)
      subst hMe
      have HS0 : Hid ((∃ q2, o5 = some q2 ∧ q2 ≤ n ∧ ([] : List NeedM).length = 0 ∧ 0 ≤ M ∧ ∃ p8, rnum xs q = some ((M : Int), p8) ∧ rneeds xs p8 0 = some ([], q2)) ∨ (o5 = none ∧ rbun xs = none)) := by
        rcases sget_or q hsm with ⟨p8, hr, rfl⟩ | ⟨hr, rfl, _⟩
        · exact .inl ⟨p8, rfl, hpo5 p8 rfl, rfl, by omega, p8, hr, rfl⟩
        · refine .inr ⟨rfl, ?_⟩
          rcases HX.out with h | h
          · rw [h]
            have : rcnt 8 xs q = none := by unfold rcnt; rw [hr]; rfl
            rw [this]
            rfl
          · exact h.1
      clear hsm c1
      go_wp2
      go_loopw [9] (fun i wr => ∃ (r : Nat) (l2 : List NeedM) (na : Option Addr) (nc : Nat) (o : Option Nat), r ≤ 9 ∧ i = .int .i64 r ∧ Hid (wr.ownsRow W0.heap.size 41 4 (.slice na r nc) r (FL (l2.map nrc))) ∧ Hid (wr.ownsRow W0.heap.size 45 4 (.slice pa j pc) j (QL ll)) ∧ Hid (Prts W0.heap.size wr ll l) ∧ Hid (Cg W0 wr C a n c o) ∧ Hid (Arr wr w.heap.size 26 [.int .i64 0, .int .i64 0, .int .i64 0, .slice none 0 0, .slice none 0 0]) ∧ Hid (Arr wr X 26 [.int .i64 v0, .int .i64 v1, .int .i64 v2, .slice pa j pc, .slice na r nc]) ∧ Hid ((∃ q2, o = some q2 ∧ q2 ≤ n ∧ l2.length = r ∧ r ≤ M ∧ ∃ p8, rnum xs q = some ((M : Int), p8) ∧ rneeds xs p8 r = some (l2, q2)) ∨ (o = none ∧ rbun xs = none))) (fun i _ => 9 - (intOf i).toNat)
      case atStart => exact ⟨0, [], none, 0, o5, by omega, rfl, World.ownsRow_nil _ _ _ _, HO, HPr, CG, QV, QX, HS0⟩
      case round =>
        clear CG QV QX HO HPr HS0
        obtain ⟨r, l2, na, nc, o, hr9, rfl, HN, HO, HPr, HCG, HQV, HQX, HSt⟩ := hrel
        have CG := HCG.out
        have QV := HQV.out
        have QX := HQX.out
        clear HCG HQV HQX
        rcases HSt.out with ⟨q2, rfl, hq2n, hl2, hrM, p8, hrm, hrn⟩ | ⟨rfl, hno⟩
        case inr =>
          have HNo : Hid (rdB xs = (⟨0, 0, 0, [], []⟩, false)) := rdB_none hno
          clear HSt hno HO HN HPr
          have c1 : wr.cell? ⟨C, 1, none⟩ = some (.int .i64 (-1)) := CG.A.cell 1
          have lC := CG.A.lt

          by_cases hltr : (r : Int) < (M : Int)
          case neg =>
            go_upto_region 23 with fail
            try simp only [Act.put]
            refine tameG [kc 95 (.pointer (some ⟨C, 0, none⟩)), kc 96 (.pointer (some ⟨C, 0, none⟩)), kc 97 (.pointer (some ⟨C, 1, none⟩)), kc 98 (.int .i64 (-1)), kc 99 (.slice a n c), kc 100 (.int .i64 (n : Int)), kc 101 (.bool true), kc 102 (.bool true), kc 103 (undef), kc 104 (undef), kc 105 (undef), kc 106 (.bool true), kc 107 (.bool true), kc 108 (undef), kc 109 (undef), kc 110 (undef), kc 111 (undef), kc 112 (undef), kc 113 (undef), kc 114 (.bool true)] 20 (by kernel_rfl) (by kernel_rfl) (by kernel_rfl) (by repeat' first | exact trivial | apply kc_keeps | constructor) 0 (by kernel_rfl) (fun vv l9 hh yW bW => ?_) (fun vv l9 hh yW bW F0 ivh aph => ?_)
            · have x1 := (bW.cell (p := ⟨C, 1, none⟩) lC).trans c1
              refine ⟨og (tp (by kernel_rfl)) (by kernel_rfl), og (tp ?_) (by kernel_rfl), og (tp (by kernel_rfl)) (by kernel_rfl), og (tp ?_) (by kernel_rfl), og (tp (by kernel_rfl)) (by kernel_rfl), og (tp (by kernel_rfl)) (by kernel_rfl), og (tp ?_) (by kernel_rfl), og (tp (by kernel_rfl)) (by kernel_rfl), ou (by kernel_rfl), ou (by kernel_rfl), ou (by kernel_rfl), og (tp (by kernel_rfl)) (by kernel_rfl), og (tp (by kernel_rfl)) (by kernel_rfl), ou (by kernel_rfl), ou (by kernel_rfl), ou (by kernel_rfl), ou (by kernel_rfl), ou (by kernel_rfl), ou (by kernel_rfl), og (tp (by kernel_rfl)) (by kernel_rfl), trivial⟩
              all_goals
                simp only [fillK, putT, List.setIfInBounds_toArray, List.set_cons_zero, List.set_cons_succ]
                unfold execOp
                try go_simp
                first | rfl | omega | skip
            clear F0 ivh aph
            obtain ⟨y, hy2⟩ : ∃ z, z = yW := ⟨_, rfl⟩
            rw [← hy2] at bW ⊢
            clear hy2
            refine wpAny_done (by kernel_rfl) ?_ _
            simp only [fillK, putT, List.setIfInBounds_toArray, List.set_cons_zero, List.set_cons_succ]

            replace CG := CG.below bW
            replace QV := QV.kept bW
            clear bW c1 lC QX
            have q0 := QV.cell 0
            have q1 := QV.cell 1
            have q2 := QV.cell 2
            have q3 := QV.cell 3
            have q4 := QV.cell 4
            simp at q0 q1 q2 q3 q4
            have fQ := QV.frozen
            have lQ := QV.lt
            have HK : Hid _ := arr_set5 QV (.int .i64 0) (.int .i64 0) (.int .i64 0) (.slice none 0 0) (.slice none 0 0)
            have HF : Hid (Below _ _ _) := bel_five (HBl.out.grown CG.G HBl.out.size (fun k hk => by injection hk with hk; omega)) (Nat.le_refl _) (.int .i64 0) (.int .i64 0) (.int .i64 0) (.slice none 0 0) (.slice none 0 0)
            clear QV CG
            go_wp2
            exact bodyPost_ret (results_row_tmp (v := .bool false) (t := 26) (cs := [.int .i64 0, .int .i64 0, .int .i64 0, .slice none 0 0, .slice none 0 0]) rfl rfl rfl HK.out Tryd.underlying26 rfl (by kernel_rfl)) rfl (rd_none HNo.out HF.out)
          by_cases h8 : (r : Int) ≤ 8
          case neg =>
            go_upto_region 23 with fail
            try simp only [Act.put]
            refine tameG [kc 95 (.pointer (some ⟨C, 0, none⟩)), kc 96 (.pointer (some ⟨C, 0, none⟩)), kc 97 (.pointer (some ⟨C, 1, none⟩)), kc 98 (.int .i64 (-1)), kc 99 (.slice a n c), kc 100 (.int .i64 (n : Int)), kc 101 (.bool true), kc 102 (.bool true), kc 103 (undef), kc 104 (undef), kc 105 (undef), kc 106 (.bool true), kc 107 (.bool true), kc 108 (undef), kc 109 (undef), kc 110 (undef), kc 111 (undef), kc 112 (undef), kc 113 (undef), kc 114 (.bool true)] 20 (by kernel_rfl) (by kernel_rfl) (by kernel_rfl) (by repeat' first | exact trivial | apply kc_keeps | constructor) 0 (by kernel_rfl) (fun vv l9 hh yW bW => ?_) (fun vv l9 hh yW bW F0 ivh aph => ?_)
            · have x1 := (bW.cell (p := ⟨C, 1, none⟩) lC).trans c1
              refine ⟨og (tp (by kernel_rfl)) (by kernel_rfl), og (tp ?_) (by kernel_rfl), og (tp (by kernel_rfl)) (by kernel_rfl), og (tp ?_) (by kernel_rfl), og (tp (by kernel_rfl)) (by kernel_rfl), og (tp (by kernel_rfl)) (by kernel_rfl), og (tp ?_) (by kernel_rfl), og (tp (by kernel_rfl)) (by kernel_rfl), ou (by kernel_rfl), ou (by kernel_rfl), ou (by kernel_rfl), og (tp (by kernel_rfl)) (by kernel_rfl), og (tp (by kernel_rfl)) (by kernel_rfl), ou (by kernel_rfl), ou (by kernel_rfl), ou (by kernel_rfl), ou (by kernel_rfl), ou (by kernel_rfl), ou (by kernel_rfl), og (tp (by kernel_rfl)) (by kernel_rfl), trivial⟩
              all_goals
                simp only [fillK, putT, List.setIfInBounds_toArray, List.set_cons_zero, List.set_cons_succ]
                unfold execOp
                try go_simp
                first | rfl | omega | skip
            clear F0 ivh aph
            obtain ⟨y, hy2⟩ : ∃ z, z = yW := ⟨_, rfl⟩
            rw [← hy2] at bW ⊢
            clear hy2
            refine wpAny_done (by kernel_rfl) ?_ _
            simp only [fillK, putT, List.setIfInBounds_toArray, List.set_cons_zero, List.set_cons_succ]

            replace CG := CG.below bW
            replace QV := QV.kept bW
            clear bW c1 lC QX
            have q0 := QV.cell 0
            have q1 := QV.cell 1
            have q2 := QV.cell 2
            have q3 := QV.cell 3
            have q4 := QV.cell 4
            simp at q0 q1 q2 q3 q4
            have fQ := QV.frozen
            have lQ := QV.lt
            have HK : Hid _ := arr_set5 QV (.int .i64 0) (.int .i64 0) (.int .i64 0) (.slice none 0 0) (.slice none 0 0)
            have HF : Hid (Below _ _ _) := bel_five (HBl.out.grown CG.G HBl.out.size (fun k hk => by injection hk with hk; omega)) (Nat.le_refl _) (.int .i64 0) (.int .i64 0) (.int .i64 0) (.slice none 0 0) (.slice none 0 0)
            clear QV CG
            go_wp2
            exact bodyPost_ret (results_row_tmp (v := .bool false) (t := 26) (cs := [.int .i64 0, .int .i64 0, .int .i64 0, .slice none 0 0, .slice none 0 0]) rfl rfl rfl HK.out Tryd.underlying26 rfl (by kernel_rfl)) rfl (rd_none HNo.out HF.out)
          go_upto_region 23 with fail
          try simp only [Act.put]
          refine tameG [kc 95 (.pointer (some ⟨C, 0, none⟩)), kc 96 (.pointer (some ⟨C, 0, none⟩)), kc 97 (.pointer (some ⟨C, 1, none⟩)), kc 98 (.int .i64 (-1)), kc 99 (.slice a n c), kc 100 (.int .i64 (n : Int)), kc 101 (.bool true), kc 102 (.bool true), kc 103 (undef), kc 104 (undef), kc 105 (undef), kc 106 (.bool true), kc 107 (.bool true), kc 108 (undef), kc 109 (undef), kc 110 (undef), kc 111 (undef), kc 112 (undef), kc 113 (undef), kc 114 (.bool true)] 20 (by kernel_rfl) (by kernel_rfl) (by kernel_rfl) (by repeat' first | exact trivial | apply kc_keeps | constructor) 0 (by kernel_rfl) (fun vv l9 hh yW bW => ?_) (fun vv l9 hh yW bW F0 ivh aph => ?_)
          · have x1 := (bW.cell (p := ⟨C, 1, none⟩) lC).trans c1
            refine ⟨og (tp (by kernel_rfl)) (by kernel_rfl), og (tp ?_) (by kernel_rfl), og (tp (by kernel_rfl)) (by kernel_rfl), og (tp ?_) (by kernel_rfl), og (tp (by kernel_rfl)) (by kernel_rfl), og (tp (by kernel_rfl)) (by kernel_rfl), og (tp ?_) (by kernel_rfl), og (tp (by kernel_rfl)) (by kernel_rfl), ou (by kernel_rfl), ou (by kernel_rfl), ou (by kernel_rfl), og (tp (by kernel_rfl)) (by kernel_rfl), og (tp (by kernel_rfl)) (by kernel_rfl), ou (by kernel_rfl), ou (by kernel_rfl), ou (by kernel_rfl), ou (by kernel_rfl), ou (by kernel_rfl), ou (by kernel_rfl), og (tp (by kernel_rfl)) (by kernel_rfl), trivial⟩
            all_goals
              simp only [fillK, putT, List.setIfInBounds_toArray, List.set_cons_zero, List.set_cons_succ]
              unfold execOp
              try go_simp
              first | rfl | omega | skip
          clear F0 ivh aph
          obtain ⟨y, hy2⟩ : ∃ z, z = yW := ⟨_, rfl⟩
          rw [← hy2] at bW ⊢
          clear hy2
          refine wpAny_done (by kernel_rfl) ?_ _
          simp only [fillK, putT, List.setIfInBounds_toArray, List.set_cons_zero, List.set_cons_succ]

          replace CG := CG.below bW
          replace QV := QV.kept bW
          clear bW c1 lC QX
          have q0 := QV.cell 0
          have q1 := QV.cell 1
          have q2 := QV.cell 2
          have q3 := QV.cell 3
          have q4 := QV.cell 4
          simp at q0 q1 q2 q3 q4
          have fQ := QV.frozen
          have lQ := QV.lt
          have HK : Hid _ := arr_set5 QV (.int .i64 0) (.int .i64 0) (.int .i64 0) (.slice none 0 0) (.slice none 0 0)
          have HF : Hid (Below _ _ _) := bel_five (HBl.out.grown CG.G HBl.out.size (fun k hk => by injection hk with hk; omega)) (Nat.le_refl _) (.int .i64 0) (.int .i64 0) (.int .i64 0) (.slice none 0 0) (.slice none 0 0)
          clear QV CG
          go_wp2
          exact bodyPost_ret (results_row_tmp (v := .bool false) (t := 26) (cs := [.int .i64 0, .int .i64 0, .int .i64 0, .slice none 0 0, .slice none 0 0]) rfl rfl rfl HK.out Tryd.underlying26 rfl (by kernel_rfl)) rfl (rd_none HNo.out HF.out)
        have HRm : Hid (rnum xs q = some ((M : Int), p8)) := hrm
        have HRn : Hid (rneeds xs p8 r = some (l2, q2)) := hrn
        clear HSt hrm hrn
        have hpq2 : ∀ p, (some q2 : Option Nat) = some p → p ≤ n := fun p hp => by cases hp; exact hq2n
        have c1 : wr.cell? ⟨C, 1, none⟩ = some (.int .i64 (q2 : Int)) := CG.A.cell 1
        have h0q2 : (0 : Int) ≤ (q2 : Int) := Int.natCast_nonneg _
        by_cases hltr : (r : Int) < (M : Int)
        case neg =>
          have hrm2 : r = M := by omega
          have HFX : Hid (rbun xs = some (⟨v0, v1, v2, l, l2⟩, q2) ∨ (rbun xs = none ∧ (4 < l.length ∨ 8 < l2.length))) := by
            rcases HX.out with h | h
            · by_cases h8 : M ≤ 8
              · left
                rw [h]
                have e : rcnt 8 xs q = some ((M : Int), p8) := by unfold rcnt; rw [HRm.out]; exact if_pos (by show (M : Int) ≤ 8; omega)
                have e2 := HRn.out
                rw [hrm2] at e2
                rw [e]
                simp only [Option.bind_some, Int.toNat_natCast, e2]
              · right
                refine ⟨?_, .inr (by omega)⟩
                rw [h]
                have e : rcnt 8 xs q = none := by unfold rcnt; rw [HRm.out]; exact if_neg (by show ¬ ((M : Int) ≤ 8); omega)
                rw [e]
                rfl
            · exact .inr ⟨h.1, .inl h.2⟩
          clear hrm2 HRm HRn HX
          have c1 : wr.cell? ⟨C, 1, none⟩ = some (.int .i64 (q2 : Int)) := CG.A.cell 1
          have lC := CG.A.lt
          have HCk : Hid (Cg W0 wr C a n c (some q2)) := CG
          have e0 := QX.cell 0
          have e1 := QX.cell 1
          have e2 := QX.cell 2
          have e3 := QX.cell 3
          have e4 := QX.cell 4
          simp at e0 e1 e2 e3 e4
          have lX := QX.lt
          by_cases hqe : q2 = n
          case neg =>
            have HNo : Hid (rdB xs = (⟨0, 0, 0, [], []⟩, false)) := by
              rcases HFX.out with h | h
              · exact rdB_no h (fun hh => hqe (by have := hh.1; omega))
              · exact rdB_none h.1
            have hqI : ((q2 : Int) == (n : Int)) = false := by simp; omega
            have hqN : ((q2 : Int) = (n : Int)) = False := by simp; omega
            go_upto_region 23 with fail
            try simp only [Act.put]
            refine tameG [kc 95 (.pointer (some ⟨C, 0, none⟩)), kc 96 (.pointer (some ⟨C, 0, none⟩)), kc 97 (.pointer (some ⟨C, 1, none⟩)), kc 98 (.int .i64 (q2 : Int)), kc 99 (.slice a n c), kc 100 (.int .i64 (n : Int)), kc 101 (.bool true), kc 102 (.bool true), kc 103 (undef), kc 104 (undef), kc 105 (undef), kc 106 (.bool true), kc 107 (.bool true), kc 108 (undef), kc 109 (undef), kc 110 (undef), kc 111 (undef), kc 112 (undef), kc 113 (undef), kc 114 (.bool true)] 20 (by kernel_rfl) (by kernel_rfl) (by kernel_rfl) (by repeat' first | exact trivial | apply kc_keeps | constructor) 0 (by kernel_rfl) (fun vv l9 hh yW bW => ?_) (fun vv l9 hh yW bW F0 ivh aph => ?_)
            · have x1 := (bW.cell (p := ⟨C, 1, none⟩) lC).trans c1
              refine ⟨og (tp (by kernel_rfl)) (by kernel_rfl), og (tp ?_) (by kernel_rfl), og (tp (by kernel_rfl)) (by kernel_rfl), og (tp ?_) (by kernel_rfl), og (tp (by kernel_rfl)) (by kernel_rfl), og (tp (by kernel_rfl)) (by kernel_rfl), og (tp ?_) (by kernel_rfl), og (tp (by kernel_rfl)) (by kernel_rfl), ou (by kernel_rfl), ou (by kernel_rfl), ou (by kernel_rfl), og (tp (by kernel_rfl)) (by kernel_rfl), og (tp (by kernel_rfl)) (by kernel_rfl), ou (by kernel_rfl), ou (by kernel_rfl), ou (by kernel_rfl), ou (by kernel_rfl), ou (by kernel_rfl), ou (by kernel_rfl), og (tp (by kernel_rfl)) (by kernel_rfl), trivial⟩
              all_goals
                simp only [fillK, putT, List.setIfInBounds_toArray, List.set_cons_zero, List.set_cons_succ]
                unfold execOp
                try go_simp
                first | rfl | omega | skip
            clear F0 ivh aph
            obtain ⟨y, hy2⟩ : ∃ z, z = yW := ⟨_, rfl⟩
            rw [← hy2] at bW ⊢
            clear hy2
            refine wpAny_done (by kernel_rfl) ?_ _
            simp only [fillK, putT, List.setIfInBounds_toArray, List.set_cons_zero, List.set_cons_succ]

            replace CG := CG.below bW
            replace QV := QV.kept bW
            clear bW c1 lC lX e0 e1 e2 e3 e4 QX
            have q0 := QV.cell 0
            have q1 := QV.cell 1
            have q2 := QV.cell 2
            have q3 := QV.cell 3
            have q4 := QV.cell 4
            simp at q0 q1 q2 q3 q4
            have fQ := QV.frozen
            have lQ := QV.lt
            have HK : Hid _ := arr_set5 QV (.int .i64 0) (.int .i64 0) (.int .i64 0) (.slice none 0 0) (.slice none 0 0)
            have HF : Hid (Below _ _ _) := bel_five (HBl.out.grown CG.G HBl.out.size (fun k hk => by injection hk with hk; omega)) (Nat.le_refl _) (.int .i64 0) (.int .i64 0) (.int .i64 0) (.slice none 0 0) (.slice none 0 0)
            clear QV CG
            go_wp2
            exact bodyPost_ret (results_row_tmp (v := .bool false) (t := 26) (cs := [.int .i64 0, .int .i64 0, .int .i64 0, .slice none 0 0, .slice none 0 0]) rfl rfl rfl HK.out Tryd.underlying26 rfl (by kernel_rfl)) rfl (rd_none HNo.out HF.out)
          subst hqe
          obtain ⟨ok, hok⟩ : ∃ ok, ok = bOk ⟨v0, v1, v2, l, l2⟩ := ⟨_, rfl⟩
          have HPs : Ps wr pa j pc l := ps_prts HO.out HPr.out hl HLb.out
          obtain ⟨_, _, enn, HNs⟩ := ns_of HN.out
          injection enn with en1 en2 en3
          subst en1
          subst en3
          have HBk : Hid (∀ Z, Below wr.heap.size wr Z → Calls Tryd.prog 12 #[.agg #[.int .i64 v0, .int .i64 v1, .int .i64 v2, .slice pa j pc, .slice na r nc]] Z fun e w' => e = .returned (.bool ok) ∧ Below Z.heap.size Z w') := fun Z hZ => by
            rw [hok]
            exact spec8BundleOk pa j pc na r nc ⟨v0, v1, v2, l, l2⟩ Z (HPs.below hZ) (HNs.below hZ)
          have HOk : Hid (bOk ⟨v0, v1, v2, l, l2⟩ = ok) := hok.symm
          clear hok
          cases ok
          · have HNo : Hid (rdB xs = (⟨0, 0, 0, [], []⟩, false)) := by
              rcases HFX.out with h | h
              · exact rdB_no h (fun hh => by have := HOk.out.symm.trans hh.2; cases this)
              · exact rdB_none h.1
            clear HPs HNs
            go_upto_region 23 with fail
            try simp only [Act.put]
            refine tameG [kc 95 (.pointer (some ⟨C, 0, none⟩)), kc 96 (.pointer (some ⟨C, 0, none⟩)), kc 97 (.pointer (some ⟨C, 1, none⟩)), kc 98 (.int .i64 (q2 : Int)), kc 99 (.slice a q2 c), kc 100 (.int .i64 (q2 : Int)), kc 101 (.bool false), kc 102 (.bool false), kc 103 (.agg #[.int .i64 v0, .int .i64 v1, .int .i64 v2, .slice pa j pc, .slice na r nc]), kc 104 (.bool false), kc 105 (.bool true), kc 106 (.bool true), kc 107 (.bool true), kc 108 (undef), kc 109 (undef), kc 110 (undef), kc 111 (undef), kc 112 (undef), kc 113 (undef), kc 114 (.bool true)] 20 (by kernel_rfl) (by kernel_rfl) (by kernel_rfl) (by repeat' first | exact trivial | apply kc_keeps | constructor) 0 (by kernel_rfl) (fun vv l9 hh yW bW => ?_) (fun vv l9 hh yW bW F0 ivh aph => ?_)
            · have x1 := (bW.cell (p := ⟨C, 1, none⟩) lC).trans c1
              have k0 := (bW.cell (p := ⟨X, 0, none⟩) lX).trans e0
              have k1 := (bW.cell (p := ⟨X, 1, none⟩) lX).trans e1
              have k2 := (bW.cell (p := ⟨X, 2, none⟩) lX).trans e2
              have k3 := (bW.cell (p := ⟨X, 3, none⟩) lX).trans e3
              have k4 := (bW.cell (p := ⟨X, 4, none⟩) lX).trans e4
              refine ⟨og (tp (by kernel_rfl)) (by kernel_rfl), og (tp ?_) (by kernel_rfl), og (tp (by kernel_rfl)) (by kernel_rfl), og (tp ?_) (by kernel_rfl), og (tp (by kernel_rfl)) (by kernel_rfl), og (tp (by kernel_rfl)) (by kernel_rfl), og (tp ?_) (by kernel_rfl), og (tp (by kernel_rfl)) (by kernel_rfl), og (tp ?_) (by kernel_rfl), og (tc (HBk.out _ bW) (by kernel_rfl)) (by kernel_rfl), og (tp (by kernel_rfl)) (by kernel_rfl), og (tp (by kernel_rfl)) (by kernel_rfl), og (tp (by kernel_rfl)) (by kernel_rfl), ou (by kernel_rfl), ou (by kernel_rfl), ou (by kernel_rfl), ou (by kernel_rfl), ou (by kernel_rfl), ou (by kernel_rfl), og (tp (by kernel_rfl)) (by kernel_rfl), trivial⟩
              all_goals
                simp only [fillK, putT, List.setIfInBounds_toArray, List.set_cons_zero, List.set_cons_succ]
                unfold execOp
                try go_simp
                first | rfl | omega | skip
            clear F0 ivh aph
            obtain ⟨y, hy2⟩ : ∃ z, z = yW := ⟨_, rfl⟩
            rw [← hy2] at bW ⊢
            clear hy2
            refine wpAny_done (by kernel_rfl) ?_ _
            simp only [fillK, putT, List.setIfInBounds_toArray, List.set_cons_zero, List.set_cons_succ]

            replace CG := CG.below bW
            replace QV := QV.kept bW
            clear bW c1 lC lX e0 e1 e2 e3 e4 QX
            have q0 := QV.cell 0
            have q1 := QV.cell 1
            have q2 := QV.cell 2
            have q3 := QV.cell 3
            have q4 := QV.cell 4
            simp at q0 q1 q2 q3 q4
            have fQ := QV.frozen
            have lQ := QV.lt
            have HK : Hid _ := arr_set5 QV (.int .i64 0) (.int .i64 0) (.int .i64 0) (.slice none 0 0) (.slice none 0 0)
            have HF : Hid (Below _ _ _) := bel_five (HBl.out.grown CG.G HBl.out.size (fun k hk => by injection hk with hk; omega)) (Nat.le_refl _) (.int .i64 0) (.int .i64 0) (.int .i64 0) (.slice none 0 0) (.slice none 0 0)
            clear QV CG
            go_wp2
            exact bodyPost_ret (results_row_tmp (v := .bool false) (t := 26) (cs := [.int .i64 0, .int .i64 0, .int .i64 0, .slice none 0 0, .slice none 0 0]) rfl rfl rfl HK.out Tryd.underlying26 rfl (by kernel_rfl)) rfl (rd_none HNo.out HF.out)
          have hbo := (bOk_iff _).1 HOk.out
          have HRB : Hid (rbun xs = some (⟨v0, v1, v2, l, l2⟩, q2)) := by
            rcases HFX.out with h | ⟨_, h⟩
            · exact h
            · have h1 := hbo.1.2.2.2.1.2
              have h2 := hbo.1.2.2.2.2
              simp only at h1 h2
              omega
          have hbx : buB ⟨v0, v1, v2, l, l2⟩ = xs := by
            have := (rbun_at hy HRB.out).2.2.2.2
            rw [List.take_of_length_le (by omega)] at this
            exact this
          have hxs : 0 < xs.length := by rw [← hbx]; exact buB_pos HOk.out
          have H8 : Hid (∀ Z, Below wr.heap.size wr Z → Calls Tryd.prog 67 #[.agg #[.int .i64 v0, .int .i64 v1, .int .i64 v2, .slice pa j pc, .slice na r nc]] Z fun e w' => ∃ u, e = .returned u ∧ w'.ownsRow Z.heap.size 5 1 u xs.length (U8 xs) ∧ Below Z.heap.size Z w') := fun Z hZ => by
            have := specL8bytes v0 v1 v2 pa j pc na r nc l l2 Z (HPs.below hZ) (HNs.below hZ) (fun q hq => by
              have hm : l.getD q pz ∈ l := by
                rw [List.getD_eq_getElem?_getD, List.getElem?_eq_getElem hq]
                exact List.getElem_mem hq
              exact (HLb.out _ hm).1) (by have := hbo.1.2.2.2.1.2; simp only at this; omega) (by have := hbo.1.2.2.2.2; simp only at this; omega)
            rw [hbx] at this
            exact this
          obtain ⟨ab, ao, hae⟩ : ∃ ab ao, a = some ⟨ab, ao, none⟩ := by
            rcases HB0.out.2.2.2.2 with h | ⟨b, o, e, _⟩
            · omega
            · exact ⟨b, o, e⟩
          have HBx : Hid (∀ Z, Below wr.heap.size wr Z → Bs Z (some ⟨ab, ao, none⟩) q2 c xs) := fun Z hZ => by
            rw [← hae]
            exact Bs.below (HCk.out.b HB0.out hne.out) hZ
          obtain ⟨t1, ht1⟩ : ∃ t, t = strOfNums xs := ⟨_, rfl⟩
          have HT1 : Hid (t1 = strOfNums xs) := ht1
          subst hae
          clear ht1 hbx hbo HPs HNs
          go_upto_region 23 with fail
          try simp only [Act.put]
          refine tameG [kc 95 (.pointer (some ⟨C, 0, none⟩)), kc 96 (.pointer (some ⟨C, 0, none⟩)), kc 97 (.pointer (some ⟨C, 1, none⟩)), kc 98 (.int .i64 (q2 : Int)), kc 99 (.slice (some ⟨ab, ao, none⟩) q2 c), kc 100 (.int .i64 (q2 : Int)), kc 101 (.bool false), kc 102 (.bool false), kc 103 (.agg #[.int .i64 v0, .int .i64 v1, .int .i64 v2, .slice pa j pc, .slice na r nc]), kc 104 (.bool true), kc 105 (.bool false), kc 106 (.bool false), kc 107 (.bool false), kc 108 (.agg #[.int .i64 v0, .int .i64 v1, .int .i64 v2, .slice pa j pc, .slice na r nc]), kv 109 (DBy wr.heap.size xs), kc 110 (.string t1), kc 111 (.slice (some ⟨ab, ao, none⟩) q2 c), kc 112 (.string t1), kc 113 (.bool false), kc 114 (.bool false)] 20 (by kernel_rfl) (by kernel_rfl) (by kernel_rfl) (by repeat' first | exact trivial | apply kc_keeps | apply dBy_keeps | constructor) 0 (by kernel_rfl) (fun vv l9 hh yW bW => ?_) (fun vv l9 hh yW bW F0 ivh aph => ?_)
          · have x1 := (bW.cell (p := ⟨C, 1, none⟩) lC).trans c1
            have k0 := (bW.cell (p := ⟨X, 0, none⟩) lX).trans e0
            have k1 := (bW.cell (p := ⟨X, 1, none⟩) lX).trans e1
            have k2 := (bW.cell (p := ⟨X, 2, none⟩) lX).trans e2
            have k3 := (bW.cell (p := ⟨X, 3, none⟩) lX).trans e3
            have k4 := (bW.cell (p := ⟨X, 4, none⟩) lX).trans e4
            have hcv2 : (convert 22 9 (.slice (some ⟨ab, ao, none⟩) q2 c)).run Tryd.prog yW = .ok (.string t1) yW := by rw [HT1.out]; exact bs_conv (HBx.out _ bW)
            refine ⟨og (tp (by kernel_rfl)) (by kernel_rfl), og (tp ?_) (by kernel_rfl), og (tp (by kernel_rfl)) (by kernel_rfl), og (tp ?_) (by kernel_rfl), og (tp (by kernel_rfl)) (by kernel_rfl), og (tp (by kernel_rfl)) (by kernel_rfl), og (tp ?_) (by kernel_rfl), og (tp (by kernel_rfl)) (by kernel_rfl), og (tp ?_) (by kernel_rfl), og (tc (HBk.out _ bW) (by kernel_rfl)) (by kernel_rfl), og (tp (by kernel_rfl)) (by kernel_rfl), og (tp (by kernel_rfl)) (by kernel_rfl), og (tp (by kernel_rfl)) (by kernel_rfl), og (tp ?_) (by kernel_rfl), og (tfBy (by have := bW.size; omega) hxs (H8.out _ bW) (by kernel_rfl)) (by kernel_rfl), og (tpx (fun x => by (obtain ⟨g, cc, e, oo⟩ : DBy wr.heap.size xs 0 0 yW (vv 14) := x ⟨14, .data⟩ (by simp) (by kernel_rfl) _ rfl; rw [e] at oo; have hbs := bs_of_own oo hy; rw [hlen] at hbs; have hcv1 : (convert 22 9 (.slice (some ⟨g, 0, none⟩) q2 cc)).run Tryd.prog yW = .ok (.string t1) yW := (by rw [HT1.out]; exact bs_conv hbs); simp only [fillK, putT, List.setIfInBounds_toArray, List.set_cons_zero, List.set_cons_succ]; rw [e]; unfold execOp; go_simp))) (by kernel_rfl), og (tp (by kernel_rfl)) (by kernel_rfl), og (tp ?_) (by kernel_rfl), og (tp ?_) (by kernel_rfl), og (tp (by kernel_rfl)) (by kernel_rfl), trivial⟩
            all_goals
              simp only [fillK, putT, List.setIfInBounds_toArray, List.set_cons_zero, List.set_cons_succ]
              unfold execOp
              try go_simp
              first | rfl | omega | skip
          clear F0 ivh aph
          obtain ⟨y, hy2⟩ : ∃ z, z = yW := ⟨_, rfl⟩
          rw [← hy2] at bW ⊢
          clear hy2
          refine wpAny_done (by kernel_rfl) ?_ _
          simp only [fillK, putT, List.setIfInBounds_toArray, List.set_cons_zero, List.set_cons_succ]

          replace CG := CG.below bW
          replace QV := QV.kept bW
          subst hl
          subst hl2
          replace QX := QX.kept bW
          replace HO : Hid (y.ownsRow W0.heap.size 45 4 (.slice pa l.length pc) l.length (QL ll)) := own_below HO.out bW
          replace HN : Hid (y.ownsRow W0.heap.size 41 4 (.slice na l2.length nc) l2.length (FL (l2.map nrc))) := own_below HN.out bW
          replace HPr : Hid (Prts W0.heap.size y ll l) := HPr.out.below bW
          clear e0 e1 e2 e3 e4 c1 lC lX bW
          have e0 := QX.cell 0
          have e1 := QX.cell 1
          have e2 := QX.cell 2
          have e3 := QX.cell 3
          have e4 := QX.cell 4
          simp at e0 e1 e2 e3 e4
          have q0 := QV.cell 0
          have q1 := QV.cell 1
          have q2 := QV.cell 2
          have q3 := QV.cell 3
          have q4 := QV.cell 4
          simp at q0 q1 q2 q3 q4
          have fQ := QV.frozen
          have lQ := QV.lt
          have HK : Hid _ := arr_set5 QV (.int .i64 v0) (.int .i64 v1) (.int .i64 v2) (.slice pa l.length pc) (.slice na l2.length nc)
          have HF : Hid (Below _ _ _) := bel_five (HBl.out.grown CG.G HBl.out.size (fun k hk => by injection hk with hk; omega)) (Nat.le_refl _) (.int .i64 v0) (.int .i64 v1) (.int .i64 v2) (.slice pa l.length pc) (.slice na l2.length nc)
          have HO5 : Hid _ := own_set5 (own_lowK HO.out HBl.out.size) QV (by decide) (.int .i64 v0) (.int .i64 v1) (.int .i64 v2) (.slice pa l.length pc) (.slice na l2.length nc)
          have HN5 : Hid _ := own_set5 (own_lowK HN.out HBl.out.size) QV (by decide) (.int .i64 v0) (.int .i64 v1) (.int .i64 v2) (.slice pa l.length pc) (.slice na l2.length nc)
          have HP5 : Hid (Prts _ _ _ _) := (HPr.out.low (lo := w.heap.size) HBl.out.size).set5 QV (by decide) (.int .i64 v0) (.int .i64 v1) (.int .i64 v2) (.slice pa l.length pc) (.slice na l2.length nc)
          have HYes : Hid (rdB xs = (⟨v0, v1, v2, l, l2⟩, true)) := rdB_yes HRB.out (by omega) HOk.out
          clear QX QV CG HO HN HPr
          go_wp2
          refine bodyPost_ret (results_row_tmp (v := .bool true) (t := 26) (cs := [.int .i64 v0, .int .i64 v1, .int .i64 v2, .slice pa l.length pc, .slice na l2.length nc]) rfl rfl rfl HK.out Tryd.underlying26 rfl (by kernel_rfl)) rfl ?_
          unfold RdAns
          rw [HYes.out]
          exact ⟨pa, pc, na, nc, ll, rfl, HO5.out, HP5.out, HN5.out, HF.out⟩

        by_cases h8 : (r : Int) ≤ 8
        case neg =>
          have HFX : Hid (rbun xs = some (⟨v0, v1, v2, l, l2⟩, q2) ∨ (rbun xs = none ∧ (4 < l.length ∨ 8 < l2.length))) := by
            right
            rcases HX.out with h | h
            · refine ⟨?_, .inr (by omega)⟩
              rw [h]
              have e : rcnt 8 xs q = none := by unfold rcnt; rw [HRm.out]; exact if_neg (by show ¬ ((M : Int) ≤ 8); omega)
              rw [e]
              rfl
            · exact ⟨h.1, .inl h.2⟩
          clear HRm HRn HX
          have c1 : wr.cell? ⟨C, 1, none⟩ = some (.int .i64 (q2 : Int)) := CG.A.cell 1
          have lC := CG.A.lt
          have HCk : Hid (Cg W0 wr C a n c (some q2)) := CG
          have e0 := QX.cell 0
          have e1 := QX.cell 1
          have e2 := QX.cell 2
          have e3 := QX.cell 3
          have e4 := QX.cell 4
          simp at e0 e1 e2 e3 e4
          have lX := QX.lt
          by_cases hqe : q2 = n
          case neg =>
            have HNo : Hid (rdB xs = (⟨0, 0, 0, [], []⟩, false)) := by
              rcases HFX.out with h | h
              · exact rdB_no h (fun hh => hqe (by have := hh.1; omega))
              · exact rdB_none h.1
            have hqI : ((q2 : Int) == (n : Int)) = false := by simp; omega
            have hqN : ((q2 : Int) = (n : Int)) = False := by simp; omega
            go_upto_region 23 with fail
            try simp only [Act.put]
            refine tameG [kc 95 (.pointer (some ⟨C, 0, none⟩)), kc 96 (.pointer (some ⟨C, 0, none⟩)), kc 97 (.pointer (some ⟨C, 1, none⟩)), kc 98 (.int .i64 (q2 : Int)), kc 99 (.slice a n c), kc 100 (.int .i64 (n : Int)), kc 101 (.bool true), kc 102 (.bool true), kc 103 (undef), kc 104 (undef), kc 105 (undef), kc 106 (.bool true), kc 107 (.bool true), kc 108 (undef), kc 109 (undef), kc 110 (undef), kc 111 (undef), kc 112 (undef), kc 113 (undef), kc 114 (.bool true)] 20 (by kernel_rfl) (by kernel_rfl) (by kernel_rfl) (by repeat' first | exact trivial | apply kc_keeps | constructor) 0 (by kernel_rfl) (fun vv l9 hh yW bW => ?_) (fun vv l9 hh yW bW F0 ivh aph => ?_)
            · have x1 := (bW.cell (p := ⟨C, 1, none⟩) lC).trans c1
              refine ⟨og (tp (by kernel_rfl)) (by kernel_rfl), og (tp ?_) (by kernel_rfl), og (tp (by kernel_rfl)) (by kernel_rfl), og (tp ?_) (by kernel_rfl), og (tp (by kernel_rfl)) (by kernel_rfl), og (tp (by kernel_rfl)) (by kernel_rfl), og (tp ?_) (by kernel_rfl), og (tp (by kernel_rfl)) (by kernel_rfl), ou (by kernel_rfl), ou (by kernel_rfl), ou (by kernel_rfl), og (tp (by kernel_rfl)) (by kernel_rfl), og (tp (by kernel_rfl)) (by kernel_rfl), ou (by kernel_rfl), ou (by kernel_rfl), ou (by kernel_rfl), ou (by kernel_rfl), ou (by kernel_rfl), ou (by kernel_rfl), og (tp (by kernel_rfl)) (by kernel_rfl), trivial⟩
              all_goals
                simp only [fillK, putT, List.setIfInBounds_toArray, List.set_cons_zero, List.set_cons_succ]
                unfold execOp
                try go_simp
                first | rfl | omega | skip
            clear F0 ivh aph
            obtain ⟨y, hy2⟩ : ∃ z, z = yW := ⟨_, rfl⟩
            rw [← hy2] at bW ⊢
            clear hy2
            refine wpAny_done (by kernel_rfl) ?_ _
            simp only [fillK, putT, List.setIfInBounds_toArray, List.set_cons_zero, List.set_cons_succ]

            replace CG := CG.below bW
            replace QV := QV.kept bW
            clear bW c1 lC lX e0 e1 e2 e3 e4 QX
            have q0 := QV.cell 0
            have q1 := QV.cell 1
            have q2 := QV.cell 2
            have q3 := QV.cell 3
            have q4 := QV.cell 4
            simp at q0 q1 q2 q3 q4
            have fQ := QV.frozen
            have lQ := QV.lt
            have HK : Hid _ := arr_set5 QV (.int .i64 0) (.int .i64 0) (.int .i64 0) (.slice none 0 0) (.slice none 0 0)
            have HF : Hid (Below _ _ _) := bel_five (HBl.out.grown CG.G HBl.out.size (fun k hk => by injection hk with hk; omega)) (Nat.le_refl _) (.int .i64 0) (.int .i64 0) (.int .i64 0) (.slice none 0 0) (.slice none 0 0)
            clear QV CG
            go_wp2
            exact bodyPost_ret (results_row_tmp (v := .bool false) (t := 26) (cs := [.int .i64 0, .int .i64 0, .int .i64 0, .slice none 0 0, .slice none 0 0]) rfl rfl rfl HK.out Tryd.underlying26 rfl (by kernel_rfl)) rfl (rd_none HNo.out HF.out)
          subst hqe
          obtain ⟨ok, hok⟩ : ∃ ok, ok = bOk ⟨v0, v1, v2, l, l2⟩ := ⟨_, rfl⟩
          have HPs : Ps wr pa j pc l := ps_prts HO.out HPr.out hl HLb.out
          obtain ⟨_, _, enn, HNs⟩ := ns_of HN.out
          injection enn with en1 en2 en3
          subst en1
          subst en3
          have HBk : Hid (∀ Z, Below wr.heap.size wr Z → Calls Tryd.prog 12 #[.agg #[.int .i64 v0, .int .i64 v1, .int .i64 v2, .slice pa j pc, .slice na r nc]] Z fun e w' => e = .returned (.bool ok) ∧ Below Z.heap.size Z w') := fun Z hZ => by
            rw [hok]
            exact spec8BundleOk pa j pc na r nc ⟨v0, v1, v2, l, l2⟩ Z (HPs.below hZ) (HNs.below hZ)
          have HOk : Hid (bOk ⟨v0, v1, v2, l, l2⟩ = ok) := hok.symm
          clear hok
          cases ok
          · have HNo : Hid (rdB xs = (⟨0, 0, 0, [], []⟩, false)) := by
              rcases HFX.out with h | h
              · exact rdB_no h (fun hh => by have := HOk.out.symm.trans hh.2; cases this)
              · exact rdB_none h.1
            clear HPs HNs
            go_upto_region 23 with fail
            try simp only [Act.put]
            refine tameG [kc 95 (.pointer (some ⟨C, 0, none⟩)), kc 96 (.pointer (some ⟨C, 0, none⟩)), kc 97 (.pointer (some ⟨C, 1, none⟩)), kc 98 (.int .i64 (q2 : Int)), kc 99 (.slice a q2 c), kc 100 (.int .i64 (q2 : Int)), kc 101 (.bool false), kc 102 (.bool false), kc 103 (.agg #[.int .i64 v0, .int .i64 v1, .int .i64 v2, .slice pa j pc, .slice na r nc]), kc 104 (.bool false), kc 105 (.bool true), kc 106 (.bool true), kc 107 (.bool true), kc 108 (undef), kc 109 (undef), kc 110 (undef), kc 111 (undef), kc 112 (undef), kc 113 (undef), kc 114 (.bool true)] 20 (by kernel_rfl) (by kernel_rfl) (by kernel_rfl) (by repeat' first | exact trivial | apply kc_keeps | constructor) 0 (by kernel_rfl) (fun vv l9 hh yW bW => ?_) (fun vv l9 hh yW bW F0 ivh aph => ?_)
            · have x1 := (bW.cell (p := ⟨C, 1, none⟩) lC).trans c1
              have k0 := (bW.cell (p := ⟨X, 0, none⟩) lX).trans e0
              have k1 := (bW.cell (p := ⟨X, 1, none⟩) lX).trans e1
              have k2 := (bW.cell (p := ⟨X, 2, none⟩) lX).trans e2
              have k3 := (bW.cell (p := ⟨X, 3, none⟩) lX).trans e3
              have k4 := (bW.cell (p := ⟨X, 4, none⟩) lX).trans e4
              refine ⟨og (tp (by kernel_rfl)) (by kernel_rfl), og (tp ?_) (by kernel_rfl), og (tp (by kernel_rfl)) (by kernel_rfl), og (tp ?_) (by kernel_rfl), og (tp (by kernel_rfl)) (by kernel_rfl), og (tp (by kernel_rfl)) (by kernel_rfl), og (tp ?_) (by kernel_rfl), og (tp (by kernel_rfl)) (by kernel_rfl), og (tp ?_) (by kernel_rfl), og (tc (HBk.out _ bW) (by kernel_rfl)) (by kernel_rfl), og (tp (by kernel_rfl)) (by kernel_rfl), og (tp (by kernel_rfl)) (by kernel_rfl), og (tp (by kernel_rfl)) (by kernel_rfl), ou (by kernel_rfl), ou (by kernel_rfl), ou (by kernel_rfl), ou (by kernel_rfl), ou (by kernel_rfl), ou (by kernel_rfl), og (tp (by kernel_rfl)) (by kernel_rfl), trivial⟩
              all_goals
                simp only [fillK, putT, List.setIfInBounds_toArray, List.set_cons_zero, List.set_cons_succ]
                unfold execOp
                try go_simp
                first | rfl | omega | skip
            clear F0 ivh aph
            obtain ⟨y, hy2⟩ : ∃ z, z = yW := ⟨_, rfl⟩
            rw [← hy2] at bW ⊢
            clear hy2
            refine wpAny_done (by kernel_rfl) ?_ _
            simp only [fillK, putT, List.setIfInBounds_toArray, List.set_cons_zero, List.set_cons_succ]

            replace CG := CG.below bW
            replace QV := QV.kept bW
            clear bW c1 lC lX e0 e1 e2 e3 e4 QX
            have q0 := QV.cell 0
            have q1 := QV.cell 1
            have q2 := QV.cell 2
            have q3 := QV.cell 3
            have q4 := QV.cell 4
            simp at q0 q1 q2 q3 q4
            have fQ := QV.frozen
            have lQ := QV.lt
            have HK : Hid _ := arr_set5 QV (.int .i64 0) (.int .i64 0) (.int .i64 0) (.slice none 0 0) (.slice none 0 0)
            have HF : Hid (Below _ _ _) := bel_five (HBl.out.grown CG.G HBl.out.size (fun k hk => by injection hk with hk; omega)) (Nat.le_refl _) (.int .i64 0) (.int .i64 0) (.int .i64 0) (.slice none 0 0) (.slice none 0 0)
            clear QV CG
            go_wp2
            exact bodyPost_ret (results_row_tmp (v := .bool false) (t := 26) (cs := [.int .i64 0, .int .i64 0, .int .i64 0, .slice none 0 0, .slice none 0 0]) rfl rfl rfl HK.out Tryd.underlying26 rfl (by kernel_rfl)) rfl (rd_none HNo.out HF.out)
          have hbo := (bOk_iff _).1 HOk.out
          have HRB : Hid (rbun xs = some (⟨v0, v1, v2, l, l2⟩, q2)) := by
            rcases HFX.out with h | ⟨_, h⟩
            · exact h
            · have h1 := hbo.1.2.2.2.1.2
              have h2 := hbo.1.2.2.2.2
              simp only at h1 h2
              omega
          have hbx : buB ⟨v0, v1, v2, l, l2⟩ = xs := by
            have := (rbun_at hy HRB.out).2.2.2.2
            rw [List.take_of_length_le (by omega)] at this
            exact this
          have hxs : 0 < xs.length := by rw [← hbx]; exact buB_pos HOk.out
          have H8 : Hid (∀ Z, Below wr.heap.size wr Z → Calls Tryd.prog 67 #[.agg #[.int .i64 v0, .int .i64 v1, .int .i64 v2, .slice pa j pc, .slice na r nc]] Z fun e w' => ∃ u, e = .returned u ∧ w'.ownsRow Z.heap.size 5 1 u xs.length (U8 xs) ∧ Below Z.heap.size Z w') := fun Z hZ => by
            have := specL8bytes v0 v1 v2 pa j pc na r nc l l2 Z (HPs.below hZ) (HNs.below hZ) (fun q hq => by
              have hm : l.getD q pz ∈ l := by
                rw [List.getD_eq_getElem?_getD, List.getElem?_eq_getElem hq]
                exact List.getElem_mem hq
              exact (HLb.out _ hm).1) (by have := hbo.1.2.2.2.1.2; simp only at this; omega) (by have := hbo.1.2.2.2.2; simp only at this; omega)
            rw [hbx] at this
            exact this
          obtain ⟨ab, ao, hae⟩ : ∃ ab ao, a = some ⟨ab, ao, none⟩ := by
            rcases HB0.out.2.2.2.2 with h | ⟨b, o, e, _⟩
            · omega
            · exact ⟨b, o, e⟩
          have HBx : Hid (∀ Z, Below wr.heap.size wr Z → Bs Z (some ⟨ab, ao, none⟩) q2 c xs) := fun Z hZ => by
            rw [← hae]
            exact Bs.below (HCk.out.b HB0.out hne.out) hZ
          obtain ⟨t1, ht1⟩ : ∃ t, t = strOfNums xs := ⟨_, rfl⟩
          have HT1 : Hid (t1 = strOfNums xs) := ht1
          subst hae
          clear ht1 hbx hbo HPs HNs
          go_upto_region 23 with fail
          try simp only [Act.put]
          refine tameG [kc 95 (.pointer (some ⟨C, 0, none⟩)), kc 96 (.pointer (some ⟨C, 0, none⟩)), kc 97 (.pointer (some ⟨C, 1, none⟩)), kc 98 (.int .i64 (q2 : Int)), kc 99 (.slice (some ⟨ab, ao, none⟩) q2 c), kc 100 (.int .i64 (q2 : Int)), kc 101 (.bool false), kc 102 (.bool false), kc 103 (.agg #[.int .i64 v0, .int .i64 v1, .int .i64 v2, .slice pa j pc, .slice na r nc]), kc 104 (.bool true), kc 105 (.bool false), kc 106 (.bool false), kc 107 (.bool false), kc 108 (.agg #[.int .i64 v0, .int .i64 v1, .int .i64 v2, .slice pa j pc, .slice na r nc]), kv 109 (DBy wr.heap.size xs), kc 110 (.string t1), kc 111 (.slice (some ⟨ab, ao, none⟩) q2 c), kc 112 (.string t1), kc 113 (.bool false), kc 114 (.bool false)] 20 (by kernel_rfl) (by kernel_rfl) (by kernel_rfl) (by repeat' first | exact trivial | apply kc_keeps | apply dBy_keeps | constructor) 0 (by kernel_rfl) (fun vv l9 hh yW bW => ?_) (fun vv l9 hh yW bW F0 ivh aph => ?_)
          · have x1 := (bW.cell (p := ⟨C, 1, none⟩) lC).trans c1
            have k0 := (bW.cell (p := ⟨X, 0, none⟩) lX).trans e0
            have k1 := (bW.cell (p := ⟨X, 1, none⟩) lX).trans e1
            have k2 := (bW.cell (p := ⟨X, 2, none⟩) lX).trans e2
            have k3 := (bW.cell (p := ⟨X, 3, none⟩) lX).trans e3
            have k4 := (bW.cell (p := ⟨X, 4, none⟩) lX).trans e4
            have hcv2 : (convert 22 9 (.slice (some ⟨ab, ao, none⟩) q2 c)).run Tryd.prog yW = .ok (.string t1) yW := by rw [HT1.out]; exact bs_conv (HBx.out _ bW)
            refine ⟨og (tp (by kernel_rfl)) (by kernel_rfl), og (tp ?_) (by kernel_rfl), og (tp (by kernel_rfl)) (by kernel_rfl), og (tp ?_) (by kernel_rfl), og (tp (by kernel_rfl)) (by kernel_rfl), og (tp (by kernel_rfl)) (by kernel_rfl), og (tp ?_) (by kernel_rfl), og (tp (by kernel_rfl)) (by kernel_rfl), og (tp ?_) (by kernel_rfl), og (tc (HBk.out _ bW) (by kernel_rfl)) (by kernel_rfl), og (tp (by kernel_rfl)) (by kernel_rfl), og (tp (by kernel_rfl)) (by kernel_rfl), og (tp (by kernel_rfl)) (by kernel_rfl), og (tp ?_) (by kernel_rfl), og (tfBy (by have := bW.size; omega) hxs (H8.out _ bW) (by kernel_rfl)) (by kernel_rfl), og (tpx (fun x => by (obtain ⟨g, cc, e, oo⟩ : DBy wr.heap.size xs 0 0 yW (vv 14) := x ⟨14, .data⟩ (by simp) (by kernel_rfl) _ rfl; rw [e] at oo; have hbs := bs_of_own oo hy; rw [hlen] at hbs; have hcv1 : (convert 22 9 (.slice (some ⟨g, 0, none⟩) q2 cc)).run Tryd.prog yW = .ok (.string t1) yW := (by rw [HT1.out]; exact bs_conv hbs); simp only [fillK, putT, List.setIfInBounds_toArray, List.set_cons_zero, List.set_cons_succ]; rw [e]; unfold execOp; go_simp))) (by kernel_rfl), og (tp (by kernel_rfl)) (by kernel_rfl), og (tp ?_) (by kernel_rfl), og (tp ?_) (by kernel_rfl), og (tp (by kernel_rfl)) (by kernel_rfl), trivial⟩
            all_goals
              simp only [fillK, putT, List.setIfInBounds_toArray, List.set_cons_zero, List.set_cons_succ]
              unfold execOp
              try go_simp
              first | rfl | omega | skip
          clear F0 ivh aph
          obtain ⟨y, hy2⟩ : ∃ z, z = yW := ⟨_, rfl⟩
          rw [← hy2] at bW ⊢
          clear hy2
          refine wpAny_done (by kernel_rfl) ?_ _
          simp only [fillK, putT, List.setIfInBounds_toArray, List.set_cons_zero, List.set_cons_succ]

          replace CG := CG.below bW
          replace QV := QV.kept bW
          subst hl
          subst hl2
          replace QX := QX.kept bW
          replace HO : Hid (y.ownsRow W0.heap.size 45 4 (.slice pa l.length pc) l.length (QL ll)) := own_below HO.out bW
          replace HN : Hid (y.ownsRow W0.heap.size 41 4 (.slice na l2.length nc) l2.length (FL (l2.map nrc))) := own_below HN.out bW
          replace HPr : Hid (Prts W0.heap.size y ll l) := HPr.out.below bW
          clear e0 e1 e2 e3 e4 c1 lC lX bW
          have e0 := QX.cell 0
          have e1 := QX.cell 1
          have e2 := QX.cell 2
          have e3 := QX.cell 3
          have e4 := QX.cell 4
          simp at e0 e1 e2 e3 e4
          have q0 := QV.cell 0
          have q1 := QV.cell 1
          have q2 := QV.cell 2
          have q3 := QV.cell 3
          have q4 := QV.cell 4
          simp at q0 q1 q2 q3 q4
          have fQ := QV.frozen
          have lQ := QV.lt
          have HK : Hid _ := arr_set5 QV (.int .i64 v0) (.int .i64 v1) (.int .i64 v2) (.slice pa l.length pc) (.slice na l2.length nc)
          have HF : Hid (Below _ _ _) := bel_five (HBl.out.grown CG.G HBl.out.size (fun k hk => by injection hk with hk; omega)) (Nat.le_refl _) (.int .i64 v0) (.int .i64 v1) (.int .i64 v2) (.slice pa l.length pc) (.slice na l2.length nc)
          have HO5 : Hid _ := own_set5 (own_lowK HO.out HBl.out.size) QV (by decide) (.int .i64 v0) (.int .i64 v1) (.int .i64 v2) (.slice pa l.length pc) (.slice na l2.length nc)
          have HN5 : Hid _ := own_set5 (own_lowK HN.out HBl.out.size) QV (by decide) (.int .i64 v0) (.int .i64 v1) (.int .i64 v2) (.slice pa l.length pc) (.slice na l2.length nc)
          have HP5 : Hid (Prts _ _ _ _) := (HPr.out.low (lo := w.heap.size) HBl.out.size).set5 QV (by decide) (.int .i64 v0) (.int .i64 v1) (.int .i64 v2) (.slice pa l.length pc) (.slice na l2.length nc)
          have HYes : Hid (rdB xs = (⟨v0, v1, v2, l, l2⟩, true)) := rdB_yes HRB.out (by omega) HOk.out
          clear QX QV CG HO HN HPr
          go_wp2
          refine bodyPost_ret (results_row_tmp (v := .bool true) (t := 26) (cs := [.int .i64 v0, .int .i64 v1, .int .i64 v2, .slice pa l.length pc, .slice na l2.length nc]) rfl rfl rfl HK.out Tryd.underlying26 rfl (by kernel_rfl)) rfl ?_
          unfold RdAns
          rw [HYes.out]
          exact ⟨pa, pc, na, nc, ll, rfl, HO5.out, HP5.out, HN5.out, HF.out⟩

        go_wp2_with fail
        refine (specL8get C a n c (some q2) xs _ CG.A (CG.b HB0.out hne.out) hn hpq2).mono ?_
        rintro e u1 ⟨rfl, hg, hA⟩
        replace CG := CG.num hg hA
        replace QV := QV.pk hg hCV
        replace QX := QX.pk hg hCX
        replace HO : Hid (u1.ownsRow W0.heap.size 45 4 (.slice pa j pc) j (QL ll)) := own_pk HO.out hlC hg
        replace HPr : Hid (Prts W0.heap.size u1 ll l) := HPr.out.p hlC hg
        replace HN : Hid (u1.ownsRow W0.heap.size 41 4 (.slice na r nc) r (FL (l2.map nrc))) := own_pk HN.out hlC hg
        obtain ⟨x0, oa, hsa⟩ : ∃ v o, sget xs (some q2) = (v, o) := ⟨(sget xs (some q2)).1, (sget xs (some q2)).2, rfl⟩
        have hpoa : ∀ p, oa = some p → p ≤ n := fun q9 hq9 => by
          have := sget_le hy (o := (some q2)) (fun p9 hp9 => by have := hpq2 p9 hp9; omega) q9 (by rw [hsa]; exact hq9)
          omega
        rw [hsa] at CG ⊢
        dsimp only at CG ⊢
        clear hg hA
        obtain ⟨U1, hU1⟩ : ∃ Z, Z = u1.alloc (.cells #[.int .i64 x0, .int .i64 0, .int .i64 0, .int .i64 0] 41) := ⟨_, rfl⟩
        have QP : Arr U1 u1.heap.size 41 [.int .i64 x0, .int .i64 0, .int .i64 0, .int .i64 0] := by rw [hU1]; exact Arr.new _ _ _
        have zz := CG.G.size
        have lX0 := QX.lt
        have HNw := HN
        replace CG := CG.alloc (.cells #[.int .i64 x0, .int .i64 0, .int .i64 0, .int .i64 0] 41)
        replace QV := QV.alloc (.cells #[.int .i64 x0, .int .i64 0, .int .i64 0, .int .i64 0] 41)
        replace QX := QX.alloc (.cells #[.int .i64 x0, .int .i64 0, .int .i64 0, .int .i64 0] 41)
        replace HO : Hid (U1.ownsRow W0.heap.size 45 4 (.slice pa j pc) j (QL ll)) := by unfold Hid; rw [hU1]; exact World.ownsRow.alloc HO.out _
        replace HN : Hid (U1.ownsRow W0.heap.size 41 4 (.slice na r nc) r (FL (l2.map nrc))) := by unfold Hid; rw [hU1]; exact World.ownsRow.alloc HN.out _
        replace HPr : Hid (Prts W0.heap.size U1 ll l) := by unfold Hid; rw [hU1]; exact HPr.out.below ((Below.refl _ _).alloc (Nat.le_refl _) _)
        rw [← hU1] at CG QV QX
        obtain ⟨P8, hP8e⟩ : ∃ P, P = u1.heap.size := ⟨_, rfl⟩
        rw [← hP8e] at QP
        have hP8 : W0.heap.size ≤ P8 := by omega
        have hCP : C ≠ P8 := by omega
        have hXP : X < P8 := by omega
        have hVP : w.heap.size ≠ P8 := by omega
        have hRN : ∀ b, (Value.slice na r nc).ownBlock = some b → b ≠ P8 := fun b hb => by have := (World.ownsRow.lt HNw.out b hb).2; omega
        go_upto_region 19 with fail
        rw [← hU1]
        rw [← hP8e]
        clear hU1 hP8e zz lX0 HNw
        go_wp2_with fail
        refine (specL8get C a n c oa xs _ CG.A (CG.b HB0.out hne.out) hn hpoa).mono ?_
        rintro e u2 ⟨rfl, hg, hA⟩
        replace CG := CG.num hg hA
        replace QV := QV.pk hg hCV
        replace QX := QX.pk hg hCX
        replace HO : Hid (u2.ownsRow W0.heap.size 45 4 (.slice pa j pc) j (QL ll)) := own_pk HO.out hlC hg
        replace HPr : Hid (Prts W0.heap.size u2 ll l) := HPr.out.p hlC hg
        replace HN : Hid (u2.ownsRow W0.heap.size 41 4 (.slice na r nc) r (FL (l2.map nrc))) := own_pk HN.out hlC hg
        replace QP := QP.pk hg hCP
        obtain ⟨x1, ob, hsb⟩ : ∃ v o, sget xs oa = (v, o) := ⟨(sget xs oa).1, (sget xs oa).2, rfl⟩
        have hpob : ∀ p, ob = some p → p ≤ n := fun q9 hq9 => by
          have := sget_le hy (o := oa) (fun p9 hp9 => by have := hpoa p9 hp9; omega) q9 (by rw [hsb]; exact hq9)
          omega
        rw [hsb] at CG ⊢
        dsimp only at CG ⊢
        clear hg hA
        have c3 := QP.cell 3
        simp at c3
        have fX := QP.frozen
        have lX := QP.lt
        go_upto_region 20 with fail
        replace CG := CG.set hP8 hlC 3 (.int .i64 x1)
        replace QV := QV.other ⟨P8, 3, none⟩ (.int .i64 x1) (by show w.heap.size ≠ P8; omega)
        replace QX := QX.other ⟨P8, 3, none⟩ (.int .i64 x1) (by show X ≠ P8; omega)
        replace HO : Hid (World.ownsRow _ _ _ _ _ _ _) := own_cellP (j := 3) (u := .int .i64 x1) HO.out QP (by decide)
        replace HPr : Hid (Prts _ _ _ _) := HPr.out.cell (j := 3) (u := .int .i64 x1) QP (by decide)
        replace HN : Hid (World.ownsRow _ _ _ _ _ _ _) := own_nb (j := 3) (u := .int .i64 x1) HN.out hRN
        replace QP := QP.set 3 (.int .i64 x1)
        simp only [List.set_cons_zero, List.set_cons_succ] at QP
        clear c3 fX lX
        obtain ⟨y2, hZ⟩ : ∃ Z, Z = u2.setCell ⟨P8, 3, none⟩ (.int .i64 x1) := ⟨_, rfl⟩
        rw [← hZ] at CG QV QP QX HO HPr HN ⊢
        clear hZ
        go_wp2_with fail
        refine (specL8get C a n c ob xs _ CG.A (CG.b HB0.out hne.out) hn hpob).mono ?_
        rintro e u3 ⟨rfl, hg, hA⟩
        replace CG := CG.num hg hA
        replace QV := QV.pk hg hCV
        replace QX := QX.pk hg hCX
        replace HO : Hid (u3.ownsRow W0.heap.size 45 4 (.slice pa j pc) j (QL ll)) := own_pk HO.out hlC hg
        replace HPr : Hid (Prts W0.heap.size u3 ll l) := HPr.out.p hlC hg
        replace HN : Hid (u3.ownsRow W0.heap.size 41 4 (.slice na r nc) r (FL (l2.map nrc))) := own_pk HN.out hlC hg
        replace QP := QP.pk hg hCP
        obtain ⟨x2, oc, hsc⟩ : ∃ v o, sget xs ob = (v, o) := ⟨(sget xs ob).1, (sget xs ob).2, rfl⟩
        have hpoc : ∀ p, oc = some p → p ≤ n := fun q9 hq9 => by
          have := sget_le hy (o := ob) (fun p9 hp9 => by have := hpob p9 hp9; omega) q9 (by rw [hsc]; exact hq9)
          omega
        rw [hsc] at CG ⊢
        dsimp only at CG ⊢
        clear hg hA
        have c1 := QP.cell 1
        simp at c1
        have fX := QP.frozen
        have lX := QP.lt
        go_upto_region 21 with fail
        replace CG := CG.set hP8 hlC 1 (.int .i64 x2)
        replace QV := QV.other ⟨P8, 1, none⟩ (.int .i64 x2) (by show w.heap.size ≠ P8; omega)
        replace QX := QX.other ⟨P8, 1, none⟩ (.int .i64 x2) (by show X ≠ P8; omega)
        replace HO : Hid (World.ownsRow _ _ _ _ _ _ _) := own_cellP (j := 1) (u := .int .i64 x2) HO.out QP (by decide)
        replace HPr : Hid (Prts _ _ _ _) := HPr.out.cell (j := 1) (u := .int .i64 x2) QP (by decide)
        replace HN : Hid (World.ownsRow _ _ _ _ _ _ _) := own_nb (j := 1) (u := .int .i64 x2) HN.out hRN
        replace QP := QP.set 1 (.int .i64 x2)
        simp only [List.set_cons_zero, List.set_cons_succ] at QP
        clear c1 fX lX
        obtain ⟨y3, hZ⟩ : ∃ Z, Z = u3.setCell ⟨P8, 1, none⟩ (.int .i64 x2) := ⟨_, rfl⟩
        rw [← hZ] at CG QV QP QX HO HPr HN ⊢
        clear hZ
        go_wp2_with fail
        refine (specL8get C a n c oc xs _ CG.A (CG.b HB0.out hne.out) hn hpoc).mono ?_
        rintro e u4 ⟨rfl, hg, hA⟩
        replace CG := CG.num hg hA
        replace QV := QV.pk hg hCV
        replace QX := QX.pk hg hCX
        replace HO : Hid (u4.ownsRow W0.heap.size 45 4 (.slice pa j pc) j (QL ll)) := own_pk HO.out hlC hg
        replace HPr : Hid (Prts W0.heap.size u4 ll l) := HPr.out.p hlC hg
        replace HN : Hid (u4.ownsRow W0.heap.size 41 4 (.slice na r nc) r (FL (l2.map nrc))) := own_pk HN.out hlC hg
        replace QP := QP.pk hg hCP
        obtain ⟨x3, od, hse⟩ : ∃ v o, sget xs oc = (v, o) := ⟨(sget xs oc).1, (sget xs oc).2, rfl⟩
        have hpod : ∀ p, od = some p → p ≤ n := fun q9 hq9 => by
          have := sget_le hy (o := oc) (fun p9 hp9 => by have := hpoc p9 hp9; omega) q9 (by rw [hse]; exact hq9)
          omega
        rw [hse] at CG ⊢
        dsimp only at CG ⊢
        clear hg hA
        have c2 := QP.cell 2
        simp at c2
        have fX := QP.frozen
        have lX := QP.lt
        go_upto_region 22 with fail
        replace CG := CG.set hP8 hlC 2 (.int .i64 x3)
        replace QV := QV.other ⟨P8, 2, none⟩ (.int .i64 x3) (by show w.heap.size ≠ P8; omega)
        replace QX := QX.other ⟨P8, 2, none⟩ (.int .i64 x3) (by show X ≠ P8; omega)
        replace HO : Hid (World.ownsRow _ _ _ _ _ _ _) := own_cellP (j := 2) (u := .int .i64 x3) HO.out QP (by decide)
        replace HPr : Hid (Prts _ _ _ _) := HPr.out.cell (j := 2) (u := .int .i64 x3) QP (by decide)
        replace HN : Hid (World.ownsRow _ _ _ _ _ _ _) := own_nb (j := 2) (u := .int .i64 x3) HN.out hRN
        replace QP := QP.set 2 (.int .i64 x3)
        simp only [List.set_cons_zero, List.set_cons_succ] at QP
        clear c2 fX lX
        obtain ⟨y4, hZ⟩ : ∃ Z, Z = u4.setCell ⟨P8, 2, none⟩ (.int .i64 x3) := ⟨_, rfl⟩
        rw [← hZ] at CG QV QP QX HO HPr HN ⊢
        clear hZ
        have d0 := QP.cell 0
        have d1 := QP.cell 1
        have d2 := QP.cell 2
        have d3 := QP.cell 3
        simp at d0 d1 d2 d3
        have a4 := QX.cell 4
        simp at a4
        have fX := QX.frozen
        have lX := QX.lt
        have lP := QP.lt
        have zz := CG.G.size
        go_wp2_with (at_builtin; refine wpl_app_nd rfl _ _ rfl rfl W0.heap.size (.slice na r nc) r (l2.map nrc) rfl y4.heap.size 1 ⟨x0, x2, x3, x1⟩ rfl (World.ownsRow.alloc HN.out _) (Arr.new y4 [.int .i64 x0, .int .i64 x2, .int .i64 x3, .int .i64 x1] 41) (by omega) (by simp; omega) ?_)
        intro v9 u5 O5 g5
        obtain ⟨ra, rc, rfl⟩ := shape4 O5
        have n4 := World.ownsRow.alloc HN.out (.cells #[.int .i64 x0, .int .i64 x2, .int .i64 x3, .int .i64 x1] 41)
        have o4 := World.ownsRow.alloc HO.out (.cells #[.int .i64 x0, .int .i64 x2, .int .i64 x3, .int .i64 x1] 41)
        have hbA : Below y4.heap.size y4 (y4.alloc (.cells #[.int .i64 x0, .int .i64 x2, .int .i64 x3, .int .i64 x1] 41)) := (Below.refl _ _).alloc (Nat.le_refl _) _
        have HP5 : Hid (Prts W0.heap.size u5 ll l) := (HPr.out.below hbA).grown n4 (by decide) g5
        have HO5 : Hid (u5.ownsRow W0.heap.size 45 4 (.slice pa j pc) j (QL ll)) := o4.kept g5 (own_ty n4 o4 (by decide))
        have CG5 := (CG.below hbA).app n4 (Nat.le_refl _) hlC g5
        have QX5 := (QX.kept hbA).gr n4 (by decide) g5
        have QV5 := (QV.kept hbA).gr n4 (by decide) g5
        clear a4 fX lX lP d0 d1 d2 d3 o4 n4 hbA CG QX QV QP HO HPr HN g5
        have a4 := QX5.cell 4
        simp at a4
        have fX := QX5.frozen
        have lX := QX5.lt
        have HN6 : Hid ((u5.setCell ⟨X, 4, none⟩ (.slice ra (r + 1) rc)).ownsRow W0.heap.size 41 4 (.slice ra (r + 1) rc) (r + 1) (FL ((l2 ++ [(⟨x0, x2, x3, x1⟩ : NeedM)]).map nrc))) := own_cellP (by rw [List.map_append]; exact O5) QX5 (by decide)
        have HO6 : Hid ((u5.setCell ⟨X, 4, none⟩ (.slice ra (r + 1) rc)).ownsRow W0.heap.size 45 4 (.slice pa j pc) j (QL ll)) := own_cellP HO5.out QX5 (by decide)
        have HP6 : Hid (Prts W0.heap.size (u5.setCell ⟨X, 4, none⟩ (.slice ra (r + 1) rc)) ll l) := HP5.out.cell QX5 (by decide)
        have HC6 : Hid (Cg W0 (u5.setCell ⟨X, 4, none⟩ (.slice ra (r + 1) rc)) C a n c od) := CG5.set hXX hlC 4 _
        have HV6 : Hid (Arr (u5.setCell ⟨X, 4, none⟩ (.slice ra (r + 1) rc)) w.heap.size 26 [.int .i64 0, .int .i64 0, .int .i64 0, .slice none 0 0, .slice none 0 0]) := QV5.other ⟨X, 4, none⟩ _ hVX
        have HX6 : Hid (Arr (u5.setCell ⟨X, 4, none⟩ (.slice ra (r + 1) rc)) X 26 [.int .i64 v0, .int .i64 v1, .int .i64 v2, .slice pa j pc, .slice ra (r + 1) rc]) := QX5.set 4 _
        have HS6 : Hid ((∃ q3, od = some q3 ∧ q3 ≤ n ∧ (l2 ++ [(⟨x0, x2, x3, x1⟩ : NeedM)]).length = r + 1 ∧ r + 1 ≤ M ∧ ∃ p8, rnum xs q = some ((M : Int), p8) ∧ rneeds xs p8 (r + 1) = some (l2 ++ [⟨x0, x2, x3, x1⟩], q3)) ∨ (od = none ∧ rbun xs = none)) := by
          rcases sneed_or q2 hsa hsb hsc hse with ⟨q3, hr, rfl⟩ | ⟨hr, rfl⟩
          · left
            exact ⟨q3, rfl, hpod q3 rfl, by rw [List.length_append, hl2]; rfl, by omega, p8, HRm.out, rneeds_succ HRn.out hr⟩
          · right
            refine ⟨rfl, ?_⟩
            rcases HX.out with h | h
            · rw [h]
              have hf := rneeds_fail HRn.out hr (show r < M by omega)
              by_cases h8' : (M : Int) ≤ 8
              · have e : rcnt 8 xs q = some ((M : Int), p8) := by unfold rcnt; rw [HRm.out]; exact if_pos h8'
                rw [e]
                simp only [Option.bind_some, Int.toNat_natCast, hf, Option.bind_none]
              · have e : rcnt 8 xs q = none := by unfold rcnt; rw [HRm.out]; exact if_neg h8'
                rw [e]
                rfl
            · exact h.1
        have hwr : IntKind.i64.wrap ((r : Int) + 1) = (r : Int) + 1 := wr64 (by omega) (by omega)
        clear O5 HP5 HO5 CG5 QV5 QX5 hsa hsb hsc hse HRm HRn zz
        go_wp2
        go_roundw
        case rel => exact ⟨r + 1, l2 ++ [⟨x0, x2, x3, x1⟩], ra, rc, od, by omega, by go_num, HN6, HO6, HP6, HC6, HV6, HX6, HS6⟩
        case measure => simp [intOf]; omega


    go_wp2_with fail
    refine (specL8get C a n c (some q) xs _ CG.A (CG.b HB0.out hne.out) hn hpq).mono ?_
    rintro e u1 ⟨rfl, hg, hA⟩
    replace CG := CG.num hg hA
    replace QV := QV.pk hg hCV
    replace QX := QX.pk hg hCX
    replace HO : Hid (u1.ownsRow W0.heap.size 45 4 (.slice pa j pc) j (QL ll)) := own_pk HO.out hlC hg
    replace HPr : Hid (Prts W0.heap.size u1 ll l) := HPr.out.p hlC hg
    obtain ⟨x0, oa, hsa⟩ : ∃ v o, sget xs (some q) = (v, o) := ⟨(sget xs (some q)).1, (sget xs (some q)).2, rfl⟩
    have hpoa : ∀ p, oa = some p → p ≤ n := fun q9 hq9 => by
      have := sget_le hy (o := (some q)) (fun p9 hp9 => by have := hpq p9 hp9; omega) q9 (by rw [hsa]; exact hq9)
      omega
    rw [hsa] at CG ⊢
    dsimp only at CG ⊢
    clear hg hA
    obtain ⟨U1, hU1⟩ : ∃ Z, Z = u1.alloc (.cells #[.int .i64 x0, .int .i64 0, .int .i64 0, .slice none 0 0] 45) := ⟨_, rfl⟩
    have QP : Arr U1 u1.heap.size 45 [.int .i64 x0, .int .i64 0, .int .i64 0, .slice none 0 0] := by rw [hU1]; exact Arr.new _ _ _
    have zz := CG.G.size
    have lX0 := QX.lt
    have HOw := HO
    replace CG := CG.alloc (.cells #[.int .i64 x0, .int .i64 0, .int .i64 0, .slice none 0 0] 45)
    replace QV := QV.alloc (.cells #[.int .i64 x0, .int .i64 0, .int .i64 0, .slice none 0 0] 45)
    replace QX := QX.alloc (.cells #[.int .i64 x0, .int .i64 0, .int .i64 0, .slice none 0 0] 45)
    replace HO : Hid (U1.ownsRow W0.heap.size 45 4 (.slice pa j pc) j (QL ll)) := by unfold Hid; rw [hU1]; exact World.ownsRow.alloc HO.out _
    replace HPr : Hid (Prts W0.heap.size U1 ll l) := by unfold Hid; rw [hU1]; exact HPr.out.below ((Below.refl _ _).alloc (Nat.le_refl _) _)
    rw [← hU1] at CG QV QX
    obtain ⟨P8, hP8e⟩ : ∃ P, P = u1.heap.size := ⟨_, rfl⟩
    rw [← hP8e] at QP
    have hP8 : W0.heap.size ≤ P8 := by omega
    have hCP : C ≠ P8 := by omega
    have hXP : X < P8 := by omega
    have hVP : w.heap.size ≠ P8 := by omega
    have hRP : ∀ b, (Value.slice pa j pc).ownBlock = some b → b ≠ P8 := fun b hb => by have := (World.ownsRow.lt HOw.out b hb).2; omega
    go_upto_region 10 with fail
    rw [← hU1]
    rw [← hP8e]
    clear hU1 hP8e zz lX0 HOw
    go_wp2_with fail
    refine (specL8get C a n c oa xs _ CG.A (CG.b HB0.out hne.out) hn hpoa).mono ?_
    rintro e u2 ⟨rfl, hg, hA⟩
    replace CG := CG.num hg hA
    replace QV := QV.pk hg hCV
    replace QX := QX.pk hg hCX
    replace HO : Hid (u2.ownsRow W0.heap.size 45 4 (.slice pa j pc) j (QL ll)) := own_pk HO.out hlC hg
    replace HPr : Hid (Prts W0.heap.size u2 ll l) := HPr.out.p hlC hg
    replace QP := QP.pk hg hCP
    obtain ⟨x1, ob, hsb⟩ : ∃ v o, sget xs oa = (v, o) := ⟨(sget xs oa).1, (sget xs oa).2, rfl⟩
    have hpob : ∀ p, ob = some p → p ≤ n := fun q9 hq9 => by
      have := sget_le hy (o := oa) (fun p9 hp9 => by have := hpoa p9 hp9; omega) q9 (by rw [hsb]; exact hq9)
      omega
    rw [hsb] at CG ⊢
    dsimp only at CG ⊢
    clear hg hA
    have c1 := QP.cell 1
    simp at c1
    have fX := QP.frozen
    have lX := QP.lt
    go_upto_region 11 with fail
    replace CG := CG.set hP8 hlC 1 (.int .i64 x1)
    replace QV := QV.other ⟨P8, 1, none⟩ (.int .i64 x1) (by show w.heap.size ≠ P8; omega)
    replace QX := QX.other ⟨P8, 1, none⟩ (.int .i64 x1) (by show X ≠ P8; omega)
    replace HO : Hid (World.ownsRow _ _ _ _ _ _ _) := own_nb (j := 1) (u := .int .i64 x1) HO.out hRP
    replace HPr : Hid (Prts _ _ _ _) := HPr.out.cell (j := 1) (u := .int .i64 x1) QP (by decide)
    replace QP := QP.set 1 (.int .i64 x1)
    simp only [List.set_cons_zero, List.set_cons_succ] at QP
    clear c1 fX lX
    obtain ⟨y2, hZ⟩ : ∃ Z, Z = u2.setCell ⟨P8, 1, none⟩ (.int .i64 x1) := ⟨_, rfl⟩
    rw [← hZ] at CG QV QP QX HO HPr ⊢
    clear hZ
    go_wp2_with fail
    refine (specL8get C a n c ob xs _ CG.A (CG.b HB0.out hne.out) hn hpob).mono ?_
    rintro e u3 ⟨rfl, hg, hA⟩
    replace CG := CG.num hg hA
    replace QV := QV.pk hg hCV
    replace QX := QX.pk hg hCX
    replace HO : Hid (u3.ownsRow W0.heap.size 45 4 (.slice pa j pc) j (QL ll)) := own_pk HO.out hlC hg
    replace HPr : Hid (Prts W0.heap.size u3 ll l) := HPr.out.p hlC hg
    replace QP := QP.pk hg hCP
    obtain ⟨x2, oc, hsc⟩ : ∃ v o, sget xs ob = (v, o) := ⟨(sget xs ob).1, (sget xs ob).2, rfl⟩
    have hpoc : ∀ p, oc = some p → p ≤ n := fun q9 hq9 => by
      have := sget_le hy (o := ob) (fun p9 hp9 => by have := hpob p9 hp9; omega) q9 (by rw [hsc]; exact hq9)
      omega
    rw [hsc] at CG ⊢
    dsimp only at CG ⊢
    clear hg hA
    have c2 := QP.cell 2
    simp at c2
    have fX := QP.frozen
    have lX := QP.lt
    go_upto_region 12 with fail
    replace CG := CG.set hP8 hlC 2 (.int .i64 x2)
    replace QV := QV.other ⟨P8, 2, none⟩ (.int .i64 x2) (by show w.heap.size ≠ P8; omega)
    replace QX := QX.other ⟨P8, 2, none⟩ (.int .i64 x2) (by show X ≠ P8; omega)
    replace HO : Hid (World.ownsRow _ _ _ _ _ _ _) := own_nb (j := 2) (u := .int .i64 x2) HO.out hRP
    replace HPr : Hid (Prts _ _ _ _) := HPr.out.cell (j := 2) (u := .int .i64 x2) QP (by decide)
    replace QP := QP.set 2 (.int .i64 x2)
    simp only [List.set_cons_zero, List.set_cons_succ] at QP
    clear c2 fX lX
    obtain ⟨y3, hZ⟩ : ∃ Z, Z = u3.setCell ⟨P8, 2, none⟩ (.int .i64 x2) := ⟨_, rfl⟩
    rw [← hZ] at CG QV QP QX HO HPr ⊢
    clear hZ
    go_wp2_with fail
    refine (specL8take C a n c oc xs _ CG.A (CG.b HB0.out hne.out) hn hpoc hne.out).mono ?_
    rintro e u4 ⟨va, vc, rfl, hho, hg, hA⟩
    have hh1 := own_lowK hho CG.G.size
    have hap := HPr.out.fresh hho (Nat.le_refl _)
    replace CG := CG.num hg hA
    replace QV := QV.pk hg hCV
    replace QX := QX.pk hg hCX
    replace HO : Hid (u4.ownsRow W0.heap.size 45 4 (.slice pa j pc) j (QL ll)) := own_pk HO.out hlC hg
    replace HPr : Hid (Prts W0.heap.size u4 ll l) := HPr.out.p hlC hg
    replace QP := QP.pk hg hCP
    obtain ⟨hh, od, hst⟩ : ∃ h o, stake xs oc = (h, o) := ⟨(stake xs oc).1, (stake xs oc).2, rfl⟩
    rw [hst] at CG hh1 hap ⊢
    dsimp only at CG hh1 hap ⊢
    have hpod : ∀ p, od = some p → p ≤ n := fun r hr => by
      have := stake_le (xs := xs) (o := oc) r (by rw [hst]; exact hr)
      omega
    obtain ⟨hl9, hhl⟩ : ∃ k, k = hh.length := ⟨_, rfl⟩
    have HHL : Hid (hl9 = hh.length) := hhl
    rw [← hhl] at hh1 hap ⊢
    have HAp : Hid (∀ q9, q9 < l.length → Apart (lg ll q9).d (.slice va hl9 vc)) := hap
    have HH : Hid (u4.ownsRow W0.heap.size 5 1 (.slice va hl9 vc) hl9 (U8 hh)) := hh1
    clear hg hA hho hhl hh1 hap
    have c3 := QP.cell 3
    simp at c3
    have fX := QP.frozen
    have lX := QP.lt
    go_upto_region 13 with fail
    replace CG := CG.set hP8 hlC 3 (.slice va hl9 vc)
    replace QV := QV.other ⟨P8, 3, none⟩ (.slice va hl9 vc) (by show w.heap.size ≠ P8; omega)
    replace QX := QX.other ⟨P8, 3, none⟩ (.slice va hl9 vc) (by show X ≠ P8; omega)
    replace HO : Hid (World.ownsRow _ _ _ _ _ _ _) := own_nb (j := 3) (u := .slice va hl9 vc) HO.out hRP
    replace HPr : Hid (Prts _ _ _ _) := HPr.out.cell (j := 3) (u := .slice va hl9 vc) QP (by decide)
    replace HH : Hid (World.ownsRow _ _ _ _ _ _ _) := own_cellP (j := 3) (u := .slice va hl9 vc) HH.out QP (by decide)
    replace QP := QP.set 3 (.slice va hl9 vc)
    simp only [List.set_cons_zero, List.set_cons_succ] at QP
    clear c3 fX lX
    obtain ⟨y4, hZ⟩ : ∃ Z, Z = u4.setCell ⟨P8, 3, none⟩ (.slice va hl9 vc) := ⟨_, rfl⟩
    rw [← hZ] at CG QV QP QX HO HPr HH ⊢
    clear hZ
    have d0 := QP.cell 0
    have d1 := QP.cell 1
    have d2 := QP.cell 2
    have d3 := QP.cell 3
    simp at d0 d1 d2 d3
    have a3 := QX.cell 3
    simp at a3
    have fX := QX.frozen
    have lX := QX.lt
    have lP := QP.lt
    have zz := CG.G.size
    go_wp2_with (at_builtin; refine wpl_app_p4 rfl _ _ rfl W0.heap.size (.slice pa j pc) j ll rfl y4.heap.size 1 x0 x1 x2 va hl9 vc rfl (World.ownsRow.alloc HO.out _) (Arr.new y4 [.int .i64 x0, .int .i64 x1, .int .i64 x2, .slice va hl9 vc] 45) (by omega) (by simp; omega) ?_)
    intro v9 u5 O5 g5
    obtain ⟨ra, rc, rfl⟩ := shape4 O5
    have o4 := World.ownsRow.alloc HO.out (.cells #[.int .i64 x0, .int .i64 x1, .int .i64 x2, .slice va hl9 vc] 45)
    have h4' := World.ownsRow.alloc HH.out (.cells #[.int .i64 x0, .int .i64 x1, .int .i64 x2, .slice va hl9 vc] 45)
    have hbA : Below y4.heap.size y4 (y4.alloc (.cells #[.int .i64 x0, .int .i64 x1, .int .i64 x2, .slice va hl9 vc] 45)) := (Below.refl _ _).alloc (Nat.le_refl _) _
    have HP5 : Hid (Prts W0.heap.size u5 ll l) := (HPr.out.below hbA).grown o4 (by decide) g5
    have HH5 : Hid (u5.ownsRow W0.heap.size 5 1 (.slice va hl9 vc) hl9 (U8 hh)) := h4'.kept g5 (own_types o4 h4' (by decide))
    have CG5 := (CG.below hbA).app o4 (Nat.le_refl _) hlC g5
    have QX5 := (QX.kept hbA).gr o4 (by decide) g5
    have QV5 := (QV.kept hbA).gr o4 (by decide) g5
    clear a3 fX lX lP d0 d1 d2 d3 o4 h4' hbA CG QX QV QP HO HPr HH g5
    have a3 := QX5.cell 3
    simp at a3
    have fX := QX5.frozen
    have lX := QX5.lt
    have HO6 : Hid ((u5.setCell ⟨X, 3, none⟩ (.slice ra (j + 1) rc)).ownsRow W0.heap.size 45 4 (.slice ra (j + 1) rc) (j + 1) (QL (ll ++ [⟨.int .i64 x0, .int .i64 x1, .int .i64 x2, .slice va hl9 vc⟩]))) := own_cellP O5 QX5 (by decide)
    have HC6 : Hid (Cg W0 (u5.setCell ⟨X, 3, none⟩ (.slice ra (j + 1) rc)) C a n c od) := CG5.set hXX hlC 3 _
    have HV6 : Hid (Arr (u5.setCell ⟨X, 3, none⟩ (.slice ra (j + 1) rc)) w.heap.size 26 [.int .i64 0, .int .i64 0, .int .i64 0, .slice none 0 0, .slice none 0 0]) := QV5.other ⟨X, 3, none⟩ _ hVX
    have HX6 : Hid (Arr (u5.setCell ⟨X, 3, none⟩ (.slice ra (j + 1) rc)) X 26 [.int .i64 v0, .int .i64 v1, .int .i64 v2, .slice ra (j + 1) rc, .slice none 0 0]) := QX5.set 3 _
    have HS6 : Hid ((∃ q', od = some q' ∧ q' ≤ n ∧ (l ++ [(⟨x0, x1, x2, hh⟩ : PartM)]).length = j + 1 ∧ j + 1 ≤ K ∧ Prts W0.heap.size (u5.setCell ⟨X, 3, none⟩ (.slice ra (j + 1) rc)) (ll ++ [⟨.int .i64 x0, .int .i64 x1, .int .i64 x2, .slice va hl9 vc⟩]) (l ++ [⟨x0, x1, x2, hh⟩]) ∧ rparts xs p4 (j + 1) = some (l ++ [⟨x0, x1, x2, hh⟩], q')) ∨ (od = none ∧ rbun xs = none)) := by
      rcases spart_or q hsa hsb hsc hst with ⟨q', hr, rfl, h32⟩ | ⟨hr, rfl⟩
      · left
        have e32 : hl9 = 32 := HHL.out.trans h32
        subst e32
        exact ⟨q', rfl, hpod q' rfl, by rw [List.length_append, hl]; rfl, by omega, (HP5.out.snoc ⟨x0, x1, x2, hh⟩ va vc HH5.out HAp.out).cell QX5 (by decide), rparts_succ HRp.out hr⟩
      · right
        exact ⟨rfl, HFail.out (rparts_fail HRp.out hr (by omega))⟩
    have hwj : IntKind.i64.wrap ((j : Int) + 1) = (j : Int) + 1 := wr64 (by omega) (by omega)
    clear O5 HP5 HH5 CG5 QV5 QX5 hsa hsb hsc hst HRp zz
    go_wp2
    go_roundw
    case rel => exact ⟨j + 1, l ++ [⟨x0, x1, x2, hh⟩], _, ra, rc, od, by omega, by go_num, HO6, HC6, HV6, HX6, HS6⟩
    case measure => simp [intOf]; omega

end Go.Proofs.YtofflhhlacdgfaaDoor
