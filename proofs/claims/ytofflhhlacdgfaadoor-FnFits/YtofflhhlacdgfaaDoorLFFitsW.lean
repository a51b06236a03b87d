/-
  What is proved here: the law FnFits returns true at every code, and writes into nothing that was there.
-/
import Derived.Test.YtofflhhlacdgfaaDoorFf1
import Derived.Test.YtofflhhlacdgfaaDoorFt1
import Derived.Test.YtofflhhlacdgfaaDoorHh
import Derived.Test.YtofflhhlacdgfaaDoorSm
namespace Go.Proofs.YtofflhhlacdgfaaDoor
open Go.RowKit
set_option maxRecDepth 100000
set_option maxHeartbeats 8000000
set_option linter.unusedVariables false

theorem fT_made {k v : Int} {ys : List Int} (h : partOk k v ys.length 32) : fT k v ys.length (sumOf ys) ys = true := by
  unfold fT
  rw [sumOf_len, decide_eq_true h]
  simp
theorem fT_says {k v s : Int} {hs ys : List Int} (h : fT k v s hs ys = true) : (ys.length : Int) = s ∧ sumOf ys = hs ∧ ys.length ≤ 192 ∧ hs.length = 32 := by
  unfold fT at h
  simp only [Bool.and_eq_true, decide_eq_true_eq] at h
  obtain ⟨h1, h2, h3⟩ := h
  have := h1.2.2.1.2
  exact ⟨h2, h3, by omega, h1.2.2.2⟩
theorem walk_fnFits (w : World) (a : Option Addr) (n c : Nat) (xs : List Int) (hb : Bs w a n c xs) (hre : n ≤ 140737488351232) (hT : Tabs w ∧ TabF w) :
    Calls Tryd.prog 5 #[.slice a n c] w fun e w' => e = .returned (.bool true) ∧ Below w.heap.size w w' := by
  have HX : Hid (∀ Z, Below w.heap.size w Z → Bs Z a n c xs) := fun Z hZ => hb.below hZ
  have HT : Hid (∀ Z, Below w.heap.size w Z → Tabs Z ∧ TabF Z) := fun Z hZ => ⟨hT.1.below hZ, hT.2.below hZ⟩
  have B : Below w.heap.size w w := Below.refl _ _
  clear hb hT
  go_enter Tryd.func5, Tryd.ntmps5
  go_wp2_with fail
  refine (drawPartOf a n c xs _ (HX.out _ B) (by omega)).mono ?_
  rintro e w1 ⟨k, v, u, ys, rfl, o, hy, hl, hb⟩
  obtain ⟨ua, uc, rfl, _, _⟩ := Bs.own o hy
  replace B := B.trans (hb.mono B.size)
  have HY : Hid (bytesF ys) := hy
  have HU : Hid (∀ Z, Below w1.heap.size w1 Z → Bs Z ua ys.length uc ys) := fun Z hZ => (bs_of_own o hy).below hZ
  have HYL : Hid (ys.length ≤ 200) := hl
  clear o hb hy hl
  have C : Below w1.heap.size w1 w1 := Below.refl _ _
  go_wp2_with fail
  refine Calls.mono (implPartOf k v ua ys.length uc ys _ (HU.out _ C) (HT.out _ B).1 (HT.out _ B).2) ?_
  rintro e w2 ⟨vh, rfl, oh, hb⟩
  have hpb : byteP (pfT k v ys).1.h := by
    unfold pfT
    split
    · exact sumOf_byte ys
    · intro y hy; cases hy
  have HP : Hid (pfT k v ys = if partOk k v ys.length 32 then (⟨k, v, ys.length, sumOf ys⟩, true) else (⟨0, 0, 0, []⟩, false)) := rfl
  obtain ⟨P, hP⟩ : ∃ P, P = pfT k v ys := ⟨_, rfl⟩
  rw [← hP] at oh hpb HP ⊢
  clear hP
  obtain ⟨⟨pk, pv, ps, hs⟩, ok⟩ := P
  dsimp only at oh hpb ⊢
  obtain ⟨ha, hc, rfl, _, _⟩ := Bs.own oh hpb
  replace B := B.trans (hb.mono B.size)
  replace C := C.trans (hb.mono C.size)
  have HH : Hid (∀ Z, Below w2.heap.size w2 Z → Bs Z ha hs.length hc hs) := fun Z hZ => (bs_of_own oh hpb).below hZ
  clear oh hb hpb
  obtain ⟨m, hm⟩ : ∃ m, m = hs.length := ⟨_, rfl⟩
  have HM : Hid (m = hs.length) := hm
  rw [← hm] at HH ⊢
  clear hm
  obtain ⟨d, hd⟩ : ∃ d, d = ys.length := ⟨_, rfl⟩
  have HDl : Hid (d = ys.length) := hd
  rw [← hd] at HU HP HYL ⊢
  clear hd
  obtain ⟨V, hV⟩ : ∃ V, V = w2.alloc (.cells #[.int .i64 pk, .int .i64 pv, .int .i64 ps, .slice ha m hc] 45) := ⟨_, rfl⟩
  have A : Arr V w2.heap.size 45 [.int .i64 pk, .int .i64 pv, .int .i64 ps, .slice ha m hc] := by rw [hV]; exact Arr.new _ _ _
  have hb : Below w2.heap.size w2 V := by rw [hV]; exact (Below.refl _ _).alloc (Nat.le_refl _) _
  replace B := B.trans (hb.mono B.size)
  replace C := C.trans (hb.mono C.size)
  have E2 : Below w2.heap.size w2 V := hb
  clear hb
  have lA := A.lt
  obtain ⟨F, hF⟩ : ∃ F, F = w2.heap.size := ⟨_, rfl⟩
  rw [← hF] at A lA
  go_upto_region 3 with fail
  rw [← hV]
  rw [← hF]
  clear hV hF
  have c0 := A.cell 0
  have c1 := A.cell 1
  have c2 := A.cell 2
  have c3 := A.cell 3
  simp at c0 c1 c2 c3
  clear A
  have HL : Hid (Below w.heap.size w V) := B
  have HC : Hid (Below w1.heap.size w1 V) := C
  have HE2 : Hid (Below w2.heap.size w2 V) := E2
  clear B C E2
  have HSm : Hid (∀ Z, Below w.heap.size w Z → Below w1.heap.size w1 Z → Calls Tryd.prog 26 #[.slice ua d uc] Z fun e w' => ∃ u, e = .returned u ∧ w'.ownsRow Z.heap.size 5 1 u 32 (U8 (sumOf ys)) ∧ Below Z.heap.size Z w') := fun Z hZ hC => by
    have := implSha256 ua d uc ys Z (HU.out Z hC) (HT.out Z hZ).1 (HT.out Z hZ).2
    have e : s256 ys = sumOf ys := if_pos (by have h1 := HYL.out; have h2 := HDl.out; omega)
    rw [e, sumOf_len] at this
    exact this
  cases ok
  case false =>
    have HPO : Hid (¬ partOk k v d 32) := fun h => by
      have := HP.out
      rw [if_pos h] at this
      injection this with _ h2
      exact absurd h2 (by decide)
    clear HSm HP HU HH HC HE2 HY HYL
    try simp only [Act.put]
    refine tameG [kc 23 (.bool false), kc 24 (.bool false), kc 25 (undef), kc 26 (undef), kc 27 (undef), kc 28 (undef), kc 29 (undef), kc 30 (undef), kc 31 (undef), kc 32 (undef), kc 33 (undef), kc 34 (undef), kc 35 (undef), kc 36 (undef), kc 37 (undef), kc 38 (undef), kc 39 (undef), kc 40 (undef), kc 41 (undef), kc 42 (undef), kc 43 (undef), kc 44 (.bool false)] 22 (by kernel_rfl) (by kernel_rfl) (by kernel_rfl) (by repeat' first | exact trivial | apply kc_keeps | apply dSum_keeps | constructor) 0 (by kernel_rfl) (fun vv ll hh yW bW => ?_) (fun vv ll hh yW bW F0 ivh aph => ?_)
    · have x0 := (bW.cell (p := ⟨F, 0, none⟩) lA).trans c0
      have x1 := (bW.cell (p := ⟨F, 1, none⟩) lA).trans c1
      have x2 := (bW.cell (p := ⟨F, 2, none⟩) lA).trans c2
      have x3 := (bW.cell (p := ⟨F, 3, none⟩) lA).trans c3
      refine ⟨og (tp (by kernel_rfl)) (by kernel_rfl), og (tp (by kernel_rfl)) (by kernel_rfl), ou (by kernel_rfl), ou (by kernel_rfl), ou (by kernel_rfl), ou (by kernel_rfl), ou (by kernel_rfl), ou (by kernel_rfl), ou (by kernel_rfl), ou (by kernel_rfl), ou (by kernel_rfl), ou (by kernel_rfl), ou (by kernel_rfl), ou (by kernel_rfl), ou (by kernel_rfl), ou (by kernel_rfl), ou (by kernel_rfl), ou (by kernel_rfl), ou (by kernel_rfl), ou (by kernel_rfl), ou (by kernel_rfl), og (tp (by kernel_rfl)) (by kernel_rfl), trivial⟩
      all_goals
        try simp only [fillK, putT, List.setIfInBounds_toArray, List.set_cons_zero, List.set_cons_succ]
        try unfold execOp
        try go_simp
        try rfl
    clear F0 ivh aph
    obtain ⟨y, hy⟩ : ∃ z, z = yW := ⟨_, rfl⟩
    rw [← hy] at bW ⊢
    clear hy
    have B2 : Below w.heap.size w y := HL.out.trans (bW.mono HL.out.size)
    have HB2 : Hid _ := B2
    clear c0 c1 c2 c3 lA bW B2
    refine wpAny_done (by kernel_rfl) ?_ _
    simp only [fillK, putT, List.setIfInBounds_toArray, List.set_cons_zero, List.set_cons_succ]
    go_wp2_with fail
    refine (drawFits a n c xs _ (HX.out _ HB2.out) (by omega)).mono ?_
    rintro e w4 ⟨k2, v2, s2, ha2, hn2, hc2, hs2, da2, dn2, dc2, ys2, rfl, h1, h2, hdn, hb⟩
    have B2 := HB2.out.trans (hb.mono HB2.out.size)
    have H21 : Hid (∀ Z, Below w4.heap.size w4 Z → Bs Z ha2 hn2 hc2 hs2) := fun Z hZ => h1.below hZ
    have H22 : Hid (∀ Z, Below w4.heap.size w4 Z → Bs Z da2 dn2 dc2 ys2) := fun Z hZ => h2.below hZ
    have HL3 : Hid (dn2 = ys2.length) := h2.2.1.symm
    have HDN : Hid (dn2 ≤ 201) := hdn
    have HSm6 : Hid (∀ Z, Below w.heap.size w Z → Below w4.heap.size w4 Z → Calls Tryd.prog 26 #[.slice da2 dn2 dc2] Z fun e w' => ∃ u, e = .returned u ∧ w'.ownsRow Z.heap.size 5 1 u 32 (U8 (sumOf ys2)) ∧ Below Z.heap.size Z w') := fun Z hZ hC => by
      have := implSha256 da2 dn2 dc2 ys2 Z (H22.out Z hC) (HT.out Z hZ).1 (HT.out Z hZ).2
      have e : s256 ys2 = sumOf ys2 := if_pos (by have := HL3.out; have := HDN.out; omega)
      rw [e, sumOf_len] at this
      exact this
    have HF6 : Hid (∀ Z, Below w.heap.size w Z → Below w4.heap.size w4 Z → Calls Tryd.prog 25 #[partV k2 v2 s2 ha2 hn2 hc2, .slice da2 dn2 dc2] Z fun e w' => e = .returned (.bool (fT k2 v2 s2 hs2 ys2)) ∧ Below Z.heap.size Z w') := fun Z hZ hC => implFits k2 v2 s2 ha2 hn2 hc2 hs2 da2 dn2 dc2 ys2 Z (H21.out Z hC) (H22.out Z hC) (HT.out Z hZ).1 (HT.out Z hZ).2
    have hsay := @fT_says k2 v2 s2 hs2 ys2
    obtain ⟨R, hR⟩ : ∃ R, R = fT k2 v2 s2 hs2 ys2 := ⟨_, rfl⟩
    rw [← hR] at HF6 hsay
    clear hR hb h1 h2 HB2 hdn
    obtain ⟨V, hV⟩ : ∃ V, V = w4.alloc (.cells #[.int .i64 k2, .int .i64 v2, .int .i64 s2, .slice ha2 hn2 hc2] 45) := ⟨_, rfl⟩
    have A : Arr V w4.heap.size 45 [.int .i64 k2, .int .i64 v2, .int .i64 s2, .slice ha2 hn2 hc2] := by rw [hV]; exact Arr.new _ _ _
    have HC2 : Hid (Below w4.heap.size w4 V) := by unfold Hid; rw [hV]; exact (Below.refl _ _).alloc (Nat.le_refl _) _
    have HL2 : Hid (Below w.heap.size w V) := B2.trans (HC2.out.mono B2.size)
    clear B2
    have lA := A.lt
    obtain ⟨F, hF⟩ : ∃ F, F = w4.heap.size := ⟨_, rfl⟩
    rw [← hF] at A lA
    go_upto_region 6 with fail
    rw [← hV]
    rw [← hF]
    clear hV hF
    have c0 := A.cell 0
    have c1 := A.cell 1
    have c2 := A.cell 2
    have c3 := A.cell 3
    simp at c0 c1 c2 c3
    clear A
    cases R
    case false =>
      clear hsay
      try simp only [Act.put]
      refine tameG [kc 50 (.agg #[.int .i64 k2, .int .i64 v2, .int .i64 s2, .slice ha2 hn2 hc2]), kc 51 (.slice da2 dn2 dc2), kc 52 (.bool false), kc 53 (.bool false), kc 54 (undef), kc 55 (undef), kc 56 (undef), kc 57 (undef), kc 58 (undef), kc 59 (undef), kc 60 (undef), kc 61 (undef), kc 62 (undef), kc 63 (undef), kc 64 (undef), kc 65 (undef), kc 66 (undef), kc 67 (.bool false)] 18 (by kernel_rfl) (by kernel_rfl) (by kernel_rfl) (by repeat' first | exact trivial | apply kc_keeps | apply dSum_keeps | constructor) 0 (by kernel_rfl) (fun vv ll hh yW bW => ?_) (fun vv ll hh yW bW F0 ivh aph => ?_)
      · have x0 := (bW.cell (p := ⟨F, 0, none⟩) lA).trans c0
        have x1 := (bW.cell (p := ⟨F, 1, none⟩) lA).trans c1
        have x2 := (bW.cell (p := ⟨F, 2, none⟩) lA).trans c2
        have x3 := (bW.cell (p := ⟨F, 3, none⟩) lA).trans c3
        have Bz : Below w.heap.size w yW := HL2.out.trans (bW.mono HL2.out.size)
        have Cz : Below w4.heap.size w4 yW := HC2.out.trans (bW.mono HC2.out.size)
        refine ⟨og (tp ?_) (by kernel_rfl), og (tp (by kernel_rfl)) (by kernel_rfl), og (tc (HF6.out _ Bz Cz) (by kernel_rfl)) (by kernel_rfl), og (tp (by kernel_rfl)) (by kernel_rfl), ou (by kernel_rfl), ou (by kernel_rfl), ou (by kernel_rfl), ou (by kernel_rfl), ou (by kernel_rfl), ou (by kernel_rfl), ou (by kernel_rfl), ou (by kernel_rfl), ou (by kernel_rfl), ou (by kernel_rfl), ou (by kernel_rfl), ou (by kernel_rfl), ou (by kernel_rfl), og (tp (by kernel_rfl)) (by kernel_rfl), trivial⟩
        all_goals
          try simp only [fillK, putT, List.setIfInBounds_toArray, List.set_cons_zero, List.set_cons_succ]
          try unfold execOp
          try go_simp
          try rfl
      clear F0 ivh aph
      obtain ⟨y, hy⟩ : ∃ z, z = yW := ⟨_, rfl⟩
      rw [← hy] at bW ⊢
      clear hy
      have B3 : Below w.heap.size w y := HL2.out.trans (bW.mono HL2.out.size)
      clear c0 c1 c2 c3 lA bW
      try clear HF6 HSm6
      refine wpAny_done (by kernel_rfl) ?_ _
      simp only [fillK, putT, List.setIfInBounds_toArray, List.set_cons_zero, List.set_cons_succ]
      go_wp2_with fail
      refine (hashesT _ (HT.out _ B3).1 (HT.out _ B3).2).mono ?_
      rintro e w9 ⟨rfl, hb⟩
      replace B3 := B3.trans (hb.mono B3.size)
      clear hb
      by_cases h0 : (0 : Int) ≤ k
      case neg =>
        go_wp2
        go_ret
        exact ⟨rfl, B3⟩
      by_cases h1 : k < (4 : Int)
      case neg =>
        go_wp2
        go_ret
        exact ⟨rfl, B3⟩
      by_cases h2 : (0 : Int) ≤ v
      case neg =>
        go_wp2
        go_ret
        exact ⟨rfl, B3⟩
      by_cases h3 : v ≤ (1000 : Int)
      case neg =>
        go_wp2
        go_ret
        exact ⟨rfl, B3⟩
      by_cases h4 : (1 : Int) ≤ (d : Int)
      case neg =>
        go_wp2
        go_ret
        exact ⟨rfl, B3⟩
      by_cases h5 : (d : Int) ≤ (192 : Int)
      case neg =>
        go_wp2
        go_ret
        exact ⟨by rw [show decide ((d : Int) ≤ 192) = false from decide_eq_false (by omega)]; rfl, B3⟩
      exact absurd ⟨⟨h0, h1⟩, ⟨h2, h3⟩, ⟨h4, h5⟩, rfl⟩ HPO.out
    obtain ⟨e1, e2, _, e3⟩ := hsay rfl
    have e4 : s2 = (dn2 : Int) := by have := HL3.out; omega
    have HEq : Hid (sumOf ys2 = hs2) := e2
    clear hsay e1 e2 e3
    subst e4
    try simp only [Act.put]
    refine tameG [kc 50 (.agg #[.int .i64 k2, .int .i64 v2, .int .i64 (dn2 : Int), .slice ha2 hn2 hc2]), kc 51 (.slice da2 dn2 dc2), kc 52 (.bool true), kc 53 (.bool true), kc 54 (.slice da2 dn2 dc2), kc 55 (.int .i64 (dn2 : Int)), kc 56 (.pointer (some ⟨F, 2, none⟩)), kc 57 (.int .i64 (dn2 : Int)), kc 58 (.bool false), kc 59 (.bool false), kc 60 (.slice da2 dn2 dc2), kv 61 (DSum F ys2), kc 62 (.pointer (some ⟨F, 3, none⟩)), kc 63 (.slice ha2 hn2 hc2), kc 64 (.bool true), kc 65 (.bool false), kc 66 (.bool false), kc 67 (.bool false)] 18 (by kernel_rfl) (by kernel_rfl) (by kernel_rfl) (by repeat' first | exact trivial | apply kc_keeps | apply dSum_keeps | constructor) 0 (by kernel_rfl) (fun vv ll hh yW bW => ?_) (fun vv ll hh yW bW F0 ivh aph => ?_)
    · have x0 := (bW.cell (p := ⟨F, 0, none⟩) lA).trans c0
      have x1 := (bW.cell (p := ⟨F, 1, none⟩) lA).trans c1
      have x2 := (bW.cell (p := ⟨F, 2, none⟩) lA).trans c2
      have x3 := (bW.cell (p := ⟨F, 3, none⟩) lA).trans c3
      have Bz : Below w.heap.size w yW := HL2.out.trans (bW.mono HL2.out.size)
      have Cz : Below w4.heap.size w4 yW := HC2.out.trans (bW.mono HC2.out.size)
      refine ⟨og (tp ?_) (by kernel_rfl), og (tp (by kernel_rfl)) (by kernel_rfl), og (tc (HF6.out _ Bz Cz) (by kernel_rfl)) (by kernel_rfl), og (tp (by kernel_rfl)) (by kernel_rfl), og (tp (by kernel_rfl)) (by kernel_rfl), og (tp ?_) (by kernel_rfl), og (tp (by kernel_rfl)) (by kernel_rfl), og (tp ?_) (by kernel_rfl), og (tp ?_) (by kernel_rfl), og (tp (by kernel_rfl)) (by kernel_rfl), og (tp (by kernel_rfl)) (by kernel_rfl), og (tfSum (by have := bW.size; omega) rfl (HSm6.out _ Bz Cz) (by kernel_rfl)) (by kernel_rfl), og (tp (by kernel_rfl)) (by kernel_rfl), og (tp ?_) (by kernel_rfl), og (tr (f := 18) (args := #[vv 11, .slice ha2 hn2 hc2]) (fun x => by (obtain ⟨g, cc, e, oo⟩ : DSum F ys2 0 0 yW (vv 11) := x ⟨11, .data⟩ (by simp) (by kernel_rfl) _ rfl; rw [e] at oo; rw [e]; refine (sameT (some ⟨g, 0, none⟩) ha2 32 cc hn2 hc2 (sumOf ys2) hs2 yW (bs_of_own oo (sumOf_byte ys2)) (H21.out _ Cz) HEq.out).mono ?_; rintro e2 w9 ⟨rfl, rfl⟩; exact ⟨_, rfl, undef, rfl, Below.refl _ _, trivial⟩)) (by kernel_rfl)) (by kernel_rfl), og (tp ?_) (by kernel_rfl), og (tp ?_) (by kernel_rfl), og (tp (by kernel_rfl)) (by kernel_rfl), trivial⟩
      all_goals
        try simp only [fillK, putT, List.setIfInBounds_toArray, List.set_cons_zero, List.set_cons_succ]
        try unfold execOp
        try go_simp
        try rfl
    clear F0 ivh aph
    obtain ⟨y, hy⟩ : ∃ z, z = yW := ⟨_, rfl⟩
    rw [← hy] at bW ⊢
    clear hy
    have B3 : Below w.heap.size w y := HL2.out.trans (bW.mono HL2.out.size)
    clear c0 c1 c2 c3 lA bW
    try clear HF6 HSm6
    refine wpAny_done (by kernel_rfl) ?_ _
    simp only [fillK, putT, List.setIfInBounds_toArray, List.set_cons_zero, List.set_cons_succ]
    go_wp2_with fail
    refine (hashesT _ (HT.out _ B3).1 (HT.out _ B3).2).mono ?_
    rintro e w9 ⟨rfl, hb⟩
    replace B3 := B3.trans (hb.mono B3.size)
    clear hb
    by_cases h0 : (0 : Int) ≤ k
    case neg =>
      go_wp2
      go_ret
      exact ⟨rfl, B3⟩
    by_cases h1 : k < (4 : Int)
    case neg =>
      go_wp2
      go_ret
      exact ⟨rfl, B3⟩
    by_cases h2 : (0 : Int) ≤ v
    case neg =>
      go_wp2
      go_ret
      exact ⟨rfl, B3⟩
    by_cases h3 : v ≤ (1000 : Int)
    case neg =>
      go_wp2
      go_ret
      exact ⟨rfl, B3⟩
    by_cases h4 : (1 : Int) ≤ (d : Int)
    case neg =>
      go_wp2
      go_ret
      exact ⟨rfl, B3⟩
    by_cases h5 : (d : Int) ≤ (192 : Int)
    case neg =>
      go_wp2
      go_ret
      exact ⟨by rw [show decide ((d : Int) ≤ 192) = false from decide_eq_false (by omega)]; rfl, B3⟩
    exact absurd ⟨⟨h0, h1⟩, ⟨h2, h3⟩, ⟨h4, h5⟩, rfl⟩ HPO.out
  have hpo : partOk k v d 32 := by
    by_cases h : partOk k v d 32
    · exact h
    · have := HP.out
      rw [if_neg h] at this
      injection this with _ h2
      exact absurd h2 (by decide)
  have HPO : Hid (partOk k v d 32) := hpo
  have hPe := HP.out
  rw [if_pos hpo] at hPe
  injection hPe with h1 _
  injection h1 with e1 e2 e3 e4
  subst e1 e2 e3 e4
  have hm32 : m = 32 := by rw [HM.out]; exact sumOf_len ys
  subst hm32
  have HFt : Hid (∀ Z, Below w.heap.size w Z → Below w1.heap.size w1 Z → Below w2.heap.size w2 Z → Calls Tryd.prog 25 #[partV pk pv d ha 32 hc, .slice ua d uc] Z fun e w' => e = .returned (.bool true) ∧ Below Z.heap.size Z w') := fun Z hZ hC hE => by
    have h := implFits pk pv d ha 32 hc (sumOf ys) ua d uc ys Z (HH.out Z hE) (HU.out Z hC) (HT.out Z hZ).1 (HT.out Z hZ).2
    have e : fT pk pv d (sumOf ys) ys = true := by
      have hp2 := hpo
      rw [HDl.out] at hp2 ⊢
      exact fT_made hp2
    rw [e] at h
    exact h
  clear hpo HM HP HY HYL
  try simp only [Act.put]
  refine tameG [kc 23 (.bool true), kc 24 (.bool true), kc 25 (.agg #[.int .i64 pk, .int .i64 pv, .int .i64 (d : Int), .slice ha 32 hc]), kc 26 (.slice ua d uc), kc 27 (.bool true), kc 28 (.bool false), kc 29 (.bool false), kc 30 (.pointer (some ⟨F, 2, none⟩)), kc 31 (.int .i64 (d : Int)), kc 32 (.slice ua d uc), kc 33 (.int .i64 (d : Int)), kc 34 (.bool false), kc 35 (.bool false), kc 36 (.bool false), kc 37 (.pointer (some ⟨F, 3, none⟩)), kc 38 (.slice ha 32 hc), kc 39 (.slice ua d uc), kv 40 (DSum F ys), kc 41 (.bool true), kc 42 (.bool false), kc 43 (.bool false), kc 44 (.bool false)] 22 (by kernel_rfl) (by kernel_rfl) (by kernel_rfl) (by repeat' first | exact trivial | apply kc_keeps | apply dSum_keeps | constructor) 0 (by kernel_rfl) (fun vv ll hh yW bW => ?_) (fun vv ll hh yW bW F0 ivh aph => ?_)
  · have x0 := (bW.cell (p := ⟨F, 0, none⟩) lA).trans c0
    have x1 := (bW.cell (p := ⟨F, 1, none⟩) lA).trans c1
    have x2 := (bW.cell (p := ⟨F, 2, none⟩) lA).trans c2
    have x3 := (bW.cell (p := ⟨F, 3, none⟩) lA).trans c3
    have Bz : Below w.heap.size w yW := HL.out.trans (bW.mono HL.out.size)
    have Cz : Below w1.heap.size w1 yW := HC.out.trans (bW.mono HC.out.size)
    have Ez : Below w2.heap.size w2 yW := HE2.out.trans (bW.mono HE2.out.size)
    refine ⟨og (tp (by kernel_rfl)) (by kernel_rfl), og (tp (by kernel_rfl)) (by kernel_rfl), og (tp ?_) (by kernel_rfl), og (tp (by kernel_rfl)) (by kernel_rfl), og (tc (HFt.out _ Bz Cz Ez) (by kernel_rfl)) (by kernel_rfl), og (tp (by kernel_rfl)) (by kernel_rfl), og (tp (by kernel_rfl)) (by kernel_rfl), og (tp (by kernel_rfl)) (by kernel_rfl), og (tp ?_) (by kernel_rfl), og (tp (by kernel_rfl)) (by kernel_rfl), og (tp ?_) (by kernel_rfl), og (tp ?_) (by kernel_rfl), og (tp (by kernel_rfl)) (by kernel_rfl), og (tp (by kernel_rfl)) (by kernel_rfl), og (tp (by kernel_rfl)) (by kernel_rfl), og (tp ?_) (by kernel_rfl), og (tp (by kernel_rfl)) (by kernel_rfl), og (tfSum (by have := bW.size; omega) rfl (HSm.out _ Bz Cz) (by kernel_rfl)) (by kernel_rfl), og (tr (f := 18) (args := #[.slice ha 32 hc, vv 17]) (fun x => by (obtain ⟨g, cc, e, oo⟩ : DSum F ys 0 0 yW (vv 17) := x ⟨17, .data⟩ (by simp) (by kernel_rfl) _ rfl; rw [e] at oo; rw [e]; refine (sameT ha (some ⟨g, 0, none⟩) 32 hc 32 cc (sumOf ys) (sumOf ys) yW (HH.out _ Ez) (bs_of_own oo (sumOf_byte ys)) rfl).mono ?_; rintro e2 w9 ⟨rfl, rfl⟩; exact ⟨_, rfl, undef, rfl, Below.refl _ _, trivial⟩)) (by kernel_rfl)) (by kernel_rfl), og (tp (by kernel_rfl)) (by kernel_rfl), og (tp (by kernel_rfl)) (by kernel_rfl), og (tp (by kernel_rfl)) (by kernel_rfl), trivial⟩
    all_goals
      try simp only [fillK, putT, List.setIfInBounds_toArray, List.set_cons_zero, List.set_cons_succ]
      try unfold execOp
      try go_simp
      try rfl
  clear F0 ivh aph
  obtain ⟨y, hy⟩ : ∃ z, z = yW := ⟨_, rfl⟩
  rw [← hy] at bW ⊢
  clear hy
  have B2 : Below w.heap.size w y := HL.out.trans (bW.mono HL.out.size)
  have HB2 : Hid _ := B2
  clear c0 c1 c2 c3 lA bW B2
  refine wpAny_done (by kernel_rfl) ?_ _
  simp only [fillK, putT, List.setIfInBounds_toArray, List.set_cons_zero, List.set_cons_succ]
  go_wp2_with fail
  refine (drawFits a n c xs _ (HX.out _ HB2.out) (by omega)).mono ?_
  rintro e w4 ⟨k2, v2, s2, ha2, hn2, hc2, hs2, da2, dn2, dc2, ys2, rfl, h1, h2, hdn, hb⟩
  have B2 := HB2.out.trans (hb.mono HB2.out.size)
  have H21 : Hid (∀ Z, Below w4.heap.size w4 Z → Bs Z ha2 hn2 hc2 hs2) := fun Z hZ => h1.below hZ
  have H22 : Hid (∀ Z, Below w4.heap.size w4 Z → Bs Z da2 dn2 dc2 ys2) := fun Z hZ => h2.below hZ
  have HL3 : Hid (dn2 = ys2.length) := h2.2.1.symm
  have HDN : Hid (dn2 ≤ 201) := hdn
  have HSm6 : Hid (∀ Z, Below w.heap.size w Z → Below w4.heap.size w4 Z → Calls Tryd.prog 26 #[.slice da2 dn2 dc2] Z fun e w' => ∃ u, e = .returned u ∧ w'.ownsRow Z.heap.size 5 1 u 32 (U8 (sumOf ys2)) ∧ Below Z.heap.size Z w') := fun Z hZ hC => by
    have := implSha256 da2 dn2 dc2 ys2 Z (H22.out Z hC) (HT.out Z hZ).1 (HT.out Z hZ).2
    have e : s256 ys2 = sumOf ys2 := if_pos (by have := HL3.out; have := HDN.out; omega)
    rw [e, sumOf_len] at this
    exact this
  have HF6 : Hid (∀ Z, Below w.heap.size w Z → Below w4.heap.size w4 Z → Calls Tryd.prog 25 #[partV k2 v2 s2 ha2 hn2 hc2, .slice da2 dn2 dc2] Z fun e w' => e = .returned (.bool (fT k2 v2 s2 hs2 ys2)) ∧ Below Z.heap.size Z w') := fun Z hZ hC => implFits k2 v2 s2 ha2 hn2 hc2 hs2 da2 dn2 dc2 ys2 Z (H21.out Z hC) (H22.out Z hC) (HT.out Z hZ).1 (HT.out Z hZ).2
  have hsay := @fT_says k2 v2 s2 hs2 ys2
  obtain ⟨R, hR⟩ : ∃ R, R = fT k2 v2 s2 hs2 ys2 := ⟨_, rfl⟩
  rw [← hR] at HF6 hsay
  clear hR hb h1 h2 HB2 hdn
  obtain ⟨V, hV⟩ : ∃ V, V = w4.alloc (.cells #[.int .i64 k2, .int .i64 v2, .int .i64 s2, .slice ha2 hn2 hc2] 45) := ⟨_, rfl⟩
  have A : Arr V w4.heap.size 45 [.int .i64 k2, .int .i64 v2, .int .i64 s2, .slice ha2 hn2 hc2] := by rw [hV]; exact Arr.new _ _ _
  have HC2 : Hid (Below w4.heap.size w4 V) := by unfold Hid; rw [hV]; exact (Below.refl _ _).alloc (Nat.le_refl _) _
  have HL2 : Hid (Below w.heap.size w V) := B2.trans (HC2.out.mono B2.size)
  clear B2
  have lA := A.lt
  obtain ⟨F, hF⟩ : ∃ F, F = w4.heap.size := ⟨_, rfl⟩
  rw [← hF] at A lA
  go_upto_region 6 with fail
  rw [← hV]
  rw [← hF]
  clear hV hF
  have c0 := A.cell 0
  have c1 := A.cell 1
  have c2 := A.cell 2
  have c3 := A.cell 3
  simp at c0 c1 c2 c3
  clear A
  cases R
  case false =>
    clear hsay
    try simp only [Act.put]
    refine tameG [kc 50 (.agg #[.int .i64 k2, .int .i64 v2, .int .i64 s2, .slice ha2 hn2 hc2]), kc 51 (.slice da2 dn2 dc2), kc 52 (.bool false), kc 53 (.bool false), kc 54 (undef), kc 55 (undef), kc 56 (undef), kc 57 (undef), kc 58 (undef), kc 59 (undef), kc 60 (undef), kc 61 (undef), kc 62 (undef), kc 63 (undef), kc 64 (undef), kc 65 (undef), kc 66 (undef), kc 67 (.bool false)] 18 (by kernel_rfl) (by kernel_rfl) (by kernel_rfl) (by repeat' first | exact trivial | apply kc_keeps | apply dSum_keeps | constructor) 0 (by kernel_rfl) (fun vv ll hh yW bW => ?_) (fun vv ll hh yW bW F0 ivh aph => ?_)
    · have x0 := (bW.cell (p := ⟨F, 0, none⟩) lA).trans c0
      have x1 := (bW.cell (p := ⟨F, 1, none⟩) lA).trans c1
      have x2 := (bW.cell (p := ⟨F, 2, none⟩) lA).trans c2
      have x3 := (bW.cell (p := ⟨F, 3, none⟩) lA).trans c3
      have Bz : Below w.heap.size w yW := HL2.out.trans (bW.mono HL2.out.size)
      have Cz : Below w4.heap.size w4 yW := HC2.out.trans (bW.mono HC2.out.size)
      refine ⟨og (tp ?_) (by kernel_rfl), og (tp (by kernel_rfl)) (by kernel_rfl), og (tc (HF6.out _ Bz Cz) (by kernel_rfl)) (by kernel_rfl), og (tp (by kernel_rfl)) (by kernel_rfl), ou (by kernel_rfl), ou (by kernel_rfl), ou (by kernel_rfl), ou (by kernel_rfl), ou (by kernel_rfl), ou (by kernel_rfl), ou (by kernel_rfl), ou (by kernel_rfl), ou (by kernel_rfl), ou (by kernel_rfl), ou (by kernel_rfl), ou (by kernel_rfl), ou (by kernel_rfl), og (tp (by kernel_rfl)) (by kernel_rfl), trivial⟩
      all_goals
        try simp only [fillK, putT, List.setIfInBounds_toArray, List.set_cons_zero, List.set_cons_succ]
        try unfold execOp
        try go_simp
        try rfl
    clear F0 ivh aph
    obtain ⟨y, hy⟩ : ∃ z, z = yW := ⟨_, rfl⟩
    rw [← hy] at bW ⊢
    clear hy
    have B3 : Below w.heap.size w y := HL2.out.trans (bW.mono HL2.out.size)
    clear c0 c1 c2 c3 lA bW
    try clear HF6 HSm6
    refine wpAny_done (by kernel_rfl) ?_ _
    simp only [fillK, putT, List.setIfInBounds_toArray, List.set_cons_zero, List.set_cons_succ]
    go_wp2_with fail
    refine (hashesT _ (HT.out _ B3).1 (HT.out _ B3).2).mono ?_
    rintro e w9 ⟨rfl, hb⟩
    replace B3 := B3.trans (hb.mono B3.size)
    clear hb
    obtain ⟨⟨hk1, hk2⟩, ⟨hv1, hv2⟩, ⟨hd1, hd2⟩, _⟩ := HPO.out
    go_wp2
    go_ret
    exact ⟨rfl, B3⟩
  obtain ⟨e1, e2, _, e3⟩ := hsay rfl
  have e4 : s2 = (dn2 : Int) := by have := HL3.out; omega
  have HEq : Hid (sumOf ys2 = hs2) := e2
  clear hsay e1 e2 e3
  subst e4
  try simp only [Act.put]
  refine tameG [kc 50 (.agg #[.int .i64 k2, .int .i64 v2, .int .i64 (dn2 : Int), .slice ha2 hn2 hc2]), kc 51 (.slice da2 dn2 dc2), kc 52 (.bool true), kc 53 (.bool true), kc 54 (.slice da2 dn2 dc2), kc 55 (.int .i64 (dn2 : Int)), kc 56 (.pointer (some ⟨F, 2, none⟩)), kc 57 (.int .i64 (dn2 : Int)), kc 58 (.bool false), kc 59 (.bool false), kc 60 (.slice da2 dn2 dc2), kv 61 (DSum F ys2), kc 62 (.pointer (some ⟨F, 3, none⟩)), kc 63 (.slice ha2 hn2 hc2), kc 64 (.bool true), kc 65 (.bool false), kc 66 (.bool false), kc 67 (.bool false)] 18 (by kernel_rfl) (by kernel_rfl) (by kernel_rfl) (by repeat' first | exact trivial | apply kc_keeps | apply dSum_keeps | constructor) 0 (by kernel_rfl) (fun vv ll hh yW bW => ?_) (fun vv ll hh yW bW F0 ivh aph => ?_)
  · have x0 := (bW.cell (p := ⟨F, 0, none⟩) lA).trans c0
    have x1 := (bW.cell (p := ⟨F, 1, none⟩) lA).trans c1
    have x2 := (bW.cell (p := ⟨F, 2, none⟩) lA).trans c2
    have x3 := (bW.cell (p := ⟨F, 3, none⟩) lA).trans c3
    have Bz : Below w.heap.size w yW := HL2.out.trans (bW.mono HL2.out.size)
    have Cz : Below w4.heap.size w4 yW := HC2.out.trans (bW.mono HC2.out.size)
    refine ⟨og (tp ?_) (by kernel_rfl), og (tp (by kernel_rfl)) (by kernel_rfl), og (tc (HF6.out _ Bz Cz) (by kernel_rfl)) (by kernel_rfl), og (tp (by kernel_rfl)) (by kernel_rfl), og (tp (by kernel_rfl)) (by kernel_rfl), og (tp ?_) (by kernel_rfl), og (tp (by kernel_rfl)) (by kernel_rfl), og (tp ?_) (by kernel_rfl), og (tp ?_) (by kernel_rfl), og (tp (by kernel_rfl)) (by kernel_rfl), og (tp (by kernel_rfl)) (by kernel_rfl), og (tfSum (by have := bW.size; omega) rfl (HSm6.out _ Bz Cz) (by kernel_rfl)) (by kernel_rfl), og (tp (by kernel_rfl)) (by kernel_rfl), og (tp ?_) (by kernel_rfl), og (tr (f := 18) (args := #[vv 11, .slice ha2 hn2 hc2]) (fun x => by (obtain ⟨g, cc, e, oo⟩ : DSum F ys2 0 0 yW (vv 11) := x ⟨11, .data⟩ (by simp) (by kernel_rfl) _ rfl; rw [e] at oo; rw [e]; refine (sameT (some ⟨g, 0, none⟩) ha2 32 cc hn2 hc2 (sumOf ys2) hs2 yW (bs_of_own oo (sumOf_byte ys2)) (H21.out _ Cz) HEq.out).mono ?_; rintro e2 w9 ⟨rfl, rfl⟩; exact ⟨_, rfl, undef, rfl, Below.refl _ _, trivial⟩)) (by kernel_rfl)) (by kernel_rfl), og (tp ?_) (by kernel_rfl), og (tp ?_) (by kernel_rfl), og (tp (by kernel_rfl)) (by kernel_rfl), trivial⟩
    all_goals
      try simp only [fillK, putT, List.setIfInBounds_toArray, List.set_cons_zero, List.set_cons_succ]
      try unfold execOp
      try go_simp
      try rfl
  clear F0 ivh aph
  obtain ⟨y, hy⟩ : ∃ z, z = yW := ⟨_, rfl⟩
  rw [← hy] at bW ⊢
  clear hy
  have B3 : Below w.heap.size w y := HL2.out.trans (bW.mono HL2.out.size)
  clear c0 c1 c2 c3 lA bW
  try clear HF6 HSm6
  refine wpAny_done (by kernel_rfl) ?_ _
  simp only [fillK, putT, List.setIfInBounds_toArray, List.set_cons_zero, List.set_cons_succ]
  go_wp2_with fail
  refine (hashesT _ (HT.out _ B3).1 (HT.out _ B3).2).mono ?_
  rintro e w9 ⟨rfl, hb⟩
  replace B3 := B3.trans (hb.mono B3.size)
  clear hb
  obtain ⟨⟨hk1, hk2⟩, ⟨hv1, hv2⟩, ⟨hd1, hd2⟩, _⟩ := HPO.out
  go_wp2
  go_ret
  exact ⟨rfl, B3⟩
end Go.Proofs.YtofflhhlacdgfaaDoor
