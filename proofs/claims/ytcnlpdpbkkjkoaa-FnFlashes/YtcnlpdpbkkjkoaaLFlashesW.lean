/-
  What is proved here: the law FnFlashes returns true at every code, and writes into nothing that was there.
-/
import Derived.Test.YtcnlpdpbkkjkoaaF9l
namespace Go.Proofs.Ytcnlpdpbkkjkoaa
set_option maxRecDepth 100000
set_option maxHeartbeats 8000000
open Go.RowKit
set_option linter.unusedVariables false

theorem walk_fnFlashes (w : World) (a0 : Option Addr) (n0 c0 : Nat) (xs0 : List Int) (hcode : Bs w a0 n0 c0 xs0) (hmax : n0 ≤ 9223372036854775807) :
    Calls Try.prog 3 #[.slice a0 n0 c0] w fun e w' => e = .returned (.bool true) ∧ Below w.heap.size w w' := by
  go_enter Try.func3, Try.ntmps3
  go_wp2_with fail
  refine (drawProgram a0 n0 c0 xs0 _ hcode hmax).mono ?_
  rintro e w1 ⟨aB, nB, cB, aW, nW, cW, bs, ws, i, ab, nb, cb, l, rfl, FR, ⟨hi1, hi2⟩, ⟨Q, hnb⟩, B⟩
  have hnB := FR.nb
  have hnW := FR.nw
  have hbl := FR.b.2.1
  have hwl := FR.w.2.1
  have hql := Q.2.1
  have hbb := FR.b.2.2.2.1
  have hwb := FR.w.2.2.2.1
  have HBB : Hid _ := hbb
  have HWB : Hid _ := hwb
  clear hbb hwb
  have HBL : Hid _ := hbl
  have HWL : Hid _ := hwl
  have HQL : Hid _ := hql
  clear hbl hwl hql
  obtain ⟨W2, hW2⟩ : ∃ W, W = w1.alloc (.cells #[.slice aB nB cB, .slice aW nW cW] 25) := ⟨_, rfl⟩
  have A3 : Arr W2 w1.heap.size 25 [.slice aB nB cB, .slice aW nW cW] := by rw [hW2]; exact Arr.new _ _ _
  have hbl : Below w1.heap.size w1 W2 := by rw [hW2]; exact (Below.refl _ _).alloc (Nat.le_refl _) _
  replace FR := FR.below hbl
  replace Q := Q.below hbl
  replace B := B.trans (hbl.mono B.size)
  clear hbl
  have c3 := arr2 A3
  rw [hW2] at c3
  go_wp2_with fail
  rw [← hW2]
  clear hW2
  clear c3
  refine (program_i aB nB cB aW nW cW bs ws i ab nb cb l _ FR.b FR.w (by omega) (by omega) hi1 hi2 Q (by omega)).mono ?_
  rintro e w4 ⟨v, rfl, f, hb⟩
  obtain ⟨C, hC⟩ : ∃ C, C = tpC bs ws i l [255] := ⟨_, rfl⟩
  obtain ⟨LB, hLB⟩ : ∃ L, L = tpB bs ws i l [255] := ⟨_, rfl⟩
  obtain ⟨LW, hLW⟩ : ∃ L, L = tpW bs ws [255] := ⟨_, rfl⟩
  rw [← hLB, ← hLW] at f
  rw [← hC]
  have HC : Hid _ := hC
  have HLB : Hid _ := hLB
  have HLW : Hid _ := hLW
  clear hC hLB hLW
  obtain ⟨xa, xc, ya, yc, rfl, O⟩ := f
  obtain ⟨mB, hmB⟩ : ∃ m, m = LB.length := ⟨_, rfl⟩
  obtain ⟨mW, hmW⟩ : ∃ m, m = LW.length := ⟨_, rfl⟩
  rw [← hmB, ← hmW] at O ⊢
  have HmB : Hid _ := hmB
  have HmW : Hid _ := hmW
  clear hmB hmW
  have XB : Bs w4 xa mB xc LB := bs_of_own O.ob (by rw [HLB.out]; exact tpB_byte HBB.out ws i l [255])
  have XW : Is w4 ya mW yc LW := is_of_own O.ow (by rw [HLW.out]; exact tpW_int bs HWB.out [255])
  clear O
  replace FR := FR.below hb
  replace Q := Q.below hb
  replace A3 := A3.kept hb
  replace B := B.trans (hb.mono B.size)
  clear hb
  obtain ⟨W5, hW5⟩ : ∃ W, W = w4.alloc (.cells #[.slice xa mB xc, .slice ya mW yc] 25) := ⟨_, rfl⟩
  have A6 : Arr W5 w4.heap.size 25 [.slice xa mB xc, .slice ya mW yc] := by rw [hW5]; exact Arr.new _ _ _
  have hbl : Below w4.heap.size w4 W5 := by rw [hW5]; exact (Below.refl _ _).alloc (Nat.le_refl _) _
  replace FR := FR.below hbl
  replace Q := Q.below hbl
  replace A3 := A3.kept hbl
  replace XB := XB.below hbl
  replace XW := XW.below hbl
  replace B := B.trans (hbl.mono B.size)
  clear hbl
  have c6 := arr2 A3
  rw [hW5] at c6
  go_wp2_with fail
  rw [← hW5]
  clear hW5
  clear c6
  refine (specFlashOk aB nB cB aW nW cW bs ws _ FR.b FR.w (by omega) (by omega)).mono ?_
  rintro e w7 ⟨rfl, hb⟩
  replace FR := FR.below hb
  replace Q := Q.below hb
  replace A3 := A3.kept hb
  replace XB := XB.below hb
  replace XW := XW.below hb
  replace A6 := A6.kept hb
  replace B := B.trans (hb.mono B.size)
  clear hb
  have t1 : ([255] : List Int).length ≤ 256 := by decide
  have hf : flOk bs ws = false ∨ flOk bs ws = true := by cases flOk bs ws <;> simp
  obtain ⟨f, hf'⟩ : ∃ f, f = flOk bs ws := ⟨_, rfl⟩
  rw [← hf'] at hf ⊢
  have HF : Hid _ := hf'
  clear hf'
  rcases hf with rfl | rfl
  · have tN : tOk bs ws [255] = false := by unfold tOk; rw [← HF.out]; rfl
    have : C = 4 := by rw [HC.out]; unfold tpC; rw [tN]; rfl
    subst this
    have e0 : mB = 0 := by rw [HmB.out, HLB.out]; unfold tpB; rw [tN]; rfl
    subst e0
    have c8 := arr2 A6
    go_wp2_with fail
    clear c8
    refine (flashesC _).mono ?_
    rintro e w9 ⟨rfl, hb⟩
    replace FR := FR.below hb
    replace Q := Q.below hb
    replace A3 := A3.kept hb
    replace XB := XB.below hb
    replace XW := XW.below hb
    replace A6 := A6.kept hb
    replace B := B.trans (hb.mono B.size)
    clear hb
    go_wp2
    go_ret
    exact ⟨rfl, B⟩
  have tY : tOk bs ws [255] = true := by unfold tOk; rw [← HF.out, decide_eq_true t1]; rfl
  clear t1
  obtain ⟨l1, l2, l3⟩ := flOk_iff.1 HF.out.symm
  have hCC : C = mayC i nb := by rw [HC.out]; unfold tpC; rw [tY, if_pos rfl, HQL.out]
  have hLWw : LW = ws := by rw [HLW.out]; unfold tpW; rw [tY, if_pos rfl]
  subst hLWw
  have hmW : mW = nW := by rw [HmW.out, HWL.out]
  subst hmW
  by_cases h0 : C = 0
  case neg =>
    have hne : mayC i l.length ≠ 0 := by rw [HQL.out, ← hCC]; exact h0
    have hLBb : LB = bs := by rw [HLB.out]; unfold tpB; rw [tY, if_pos rfl, if_neg hne]
    subst hLBb
    have hmB : mB = nB := by rw [HmB.out, HBL.out]
    subst hmB
    have h0' : (C != 0) = true := by simpa using h0
    clear hCC hne h0
    have c10 := arr2 A6
    have c11 := arr2 A3
    go_wp2_with fail
    clear c10 c11
    refine (sameFlashT xa mB xc ya mW yc aB cB aW cW LB LW _ XB XW FR.b FR.w (by omega)).mono ?_
    rintro e w12 ⟨rfl, hb⟩
    replace FR := FR.below hb
    replace Q := Q.below hb
    replace A3 := A3.kept hb
    replace XB := XB.below hb
    replace XW := XW.below hb
    replace A6 := A6.kept hb
    replace B := B.trans (hb.mono B.size)
    clear hb
    go_wp2
    go_ret
    exact ⟨rfl, B⟩
  have hz : mayC i nb = 0 := by rw [← hCC]; exact h0
  obtain ⟨j1, j2⟩ := mayC_zero hz
  obtain ⟨j3, j4, j5⟩ := inF_iff.1 j1
  obtain ⟨I, rfl⟩ : ∃ I : Nat, i = (I : Int) := ⟨i.toNat, by omega⟩
  have hLBt : LB = tn (pf l [255]) bs I nb := by rw [HLB.out]; unfold tpB; rw [tY, if_pos rfl, HQL.out, if_pos hz]; simp
  have hmB : mB = nB := by rw [HmB.out, hLBt, tn_len, HBL.out]
  subst hmB
  have HT : Hid _ := hLBt
  have HJ : Hid _ := j1
  have HI : Hid (I + nb ≤ 3072) := by unfold Hid; omega
  have HN : Hid (mB = 3072) := by unfold Hid; rw [← HBL.out]; exact l1
  have HW48 : Hid (mW = 48) := by unfold Hid; rw [← HWL.out]; exact l2
  clear hLBt hz j1 j2 j3 j4 j5 hCC
  subst h0
  obtain ⟨b1, o1, rfl⟩ : ∃ b o, aB = some ⟨b, o, none⟩ := by
    rcases FR.b.2.2.2.2 with h | ⟨b, o, e, _⟩
    · have := HN.out; omega
    · exact ⟨b, o, e⟩
  obtain ⟨b2, o2, rfl⟩ : ∃ b o, xa = some ⟨b, o, none⟩ := by
    rcases XB.2.2.2.2 with h | ⟨b, o, e, _⟩
    · have := HN.out; omega
    · exact ⟨b, o, e⟩
  have hne : ((mB : Int) != (mB : Int)) = false := by simp
  clear l1 l2 l3
  have c13 := arr2 A6
  have c14 := arr2 A3
  go_wp2
  go_loop [8] (fun k => ∃ K : Nat, K ≤ mB ∧ k = .int .i64 K) (fun k => mB - (intOf k).toNat)
  case atStart => exact ⟨0, Nat.zero_le _, rfl⟩
  case round =>
    obtain ⟨K, hK, rfl⟩ := hrel
    by_cases hlt : K < mB
    · have hltI : (K : Int) < (mB : Int) := by omega
      obtain ⟨y, ey⟩ : ∃ y, y = bs.getD K 0 := ⟨_, rfl⟩
      have cy : w7.cell? ⟨b1, o1 + K, none⟩ = some (.int .u8 y) := by
        rw [ey]
        rcases FR.b.2.2.2.2 with h | ⟨b, o, e, _, h⟩
        · have := HN.out; omega
        · cases e; exact h K hlt
      obtain ⟨z, ez⟩ : ∃ z, z = LB.getD K 0 := ⟨_, rfl⟩
      have cz : w7.cell? ⟨b2, o2 + K, none⟩ = some (.int .u8 z) := by
        rw [ez]
        rcases XB.2.2.2.2 with h | ⟨b, o, e, _, h⟩
        · have := HN.out; omega
        · cases e; exact h K hlt
      have hval := tn_get (pf l [255]) bs I nb K (by rw [HBL.out]; exact hlt)
      rw [← HT.out, ← ez, ← ey] at hval
      have HVAL : Hid _ := hval
      clear hval ey ez
      have hIw : IntKind.i64.wrap ((I : Int) + (nb : Int)) = (I : Int) + (nb : Int) := by have := HI.out; rw [IntKind.wrap_i64]; omega
      by_cases hin : I ≤ K ∧ K < I + nb
      · have hzz : z = bits .and .u8 y (l.getD (K - I) 0) := by
          rw [HVAL.out, if_pos hin]; unfold pf; rw [mk_255, tpb_full]
        obtain ⟨x, ex⟩ : ∃ x, x = l.getD (K - I) 0 := ⟨_, rfl⟩
        rw [← ex] at hzz
        obtain ⟨bq, oq, rfl, cx⟩ : ∃ b o, ab = some ⟨b, o, none⟩ ∧ w7.cell? ⟨b, o + (K - I), none⟩ = some (.int .u8 x) := by
          rw [ex]
          rcases Q.2.2.2.2 with h | ⟨b, o, e, _, h⟩
          · omega
          · exact ⟨b, o, e, h (K - I) (by omega)⟩
        have i1 : (I : Int) ≤ (K : Int) := by omega
        have i2 : (K : Int) < (I : Int) + (nb : Int) := by omega
        have i3 : IntKind.i64.wrap ((K : Int) - (I : Int)) = (K : Int) - (I : Int) := by rw [IntKind.wrap_i64]; omega
        have i4 : (0 : Int) ≤ (K : Int) - (I : Int) := by omega
        have i5 : (K : Int) - (I : Int) < (nb : Int) := by omega
        have i6 : ((K : Int) - (I : Int)).toNat = K - I := by omega
        have hzz2 : (z != bits .and .u8 y x) = false := by rw [hzz]; simp
        clear hzz ex hin
        go_wp2
        go_round
        case rel => exact ⟨K + 1, by omega, by go_num⟩
        case measure => simp [intOf]; omega
      · have hzz : z = y := by rw [HVAL.out, if_neg hin]
        have hzz2 : (z != y) = false := by rw [hzz]; simp
        clear hzz
        by_cases i1 : (I : Int) ≤ (K : Int)
        · have i2 : ¬ ((K : Int) < (I : Int) + (nb : Int)) := by omega
          clear hin
          go_wp2
          go_round
          case rel => exact ⟨K + 1, by omega, by go_num⟩
          case measure => simp [intOf]; omega
        · clear hin
          go_wp2
          go_round
          case rel => exact ⟨K + 1, by omega, by go_num⟩
          case measure => simp [intOf]; omega
    have hKn : K = mB := by omega
    subst hKn
    go_wp2_with fail
    clear c13 c14
    refine (drawErase a0 n0 c0 xs0 _ (hcode.below B) hmax).mono ?_
    rintro e w15 ⟨gB, gn, gc, gW, gm, gk, es, vs, s, rfl, GR, ⟨hs1, hs2⟩, hb⟩
    have hgn := GR.nb
    have hgm := GR.nw
    have HEL : Hid _ := GR.b.2.1
    have HVL : Hid _ := GR.w.2.1
    have HEB : Hid _ := GR.b.2.2.2.1
    have HVB : Hid _ := GR.w.2.2.2.1
    replace FR := FR.below hb
    replace Q := Q.below hb
    replace A3 := A3.kept hb
    replace XB := XB.below hb
    replace XW := XW.below hb
    replace A6 := A6.kept hb
    replace B := B.trans (hb.mono B.size)
    clear hb
    obtain ⟨W16, hW16⟩ : ∃ W, W = w15.alloc (.cells #[.slice gB gn gc, .slice gW gm gk] 25) := ⟨_, rfl⟩
    have A10 : Arr W16 w15.heap.size 25 [.slice gB gn gc, .slice gW gm gk] := by rw [hW16]; exact Arr.new _ _ _
    have hbl : Below w15.heap.size w15 W16 := by rw [hW16]; exact (Below.refl _ _).alloc (Nat.le_refl _) _
    replace FR := FR.below hbl
    replace Q := Q.below hbl
    replace A3 := A3.kept hbl
    replace XB := XB.below hbl
    replace XW := XW.below hbl
    replace A6 := A6.kept hbl
    replace GR := GR.below hbl
    replace B := B.trans (hbl.mono B.size)
    clear hbl
    have c17 := arr2 A10
    rw [hW16] at c17
    go_wp2_with fail
    rw [← hW16]
    clear hW16
    clear c17
    refine (erase_i gB gn gc gW gm gk es vs s _ GR.b GR.w (by omega) (by omega) hs1 hs2).mono ?_
    rintro e w18 ⟨v, rfl, f, hb⟩
    obtain ⟨E, hE⟩ : ∃ C, C = teC es vs s [255] := ⟨_, rfl⟩
    obtain ⟨YL, hYL⟩ : ∃ L, L = teB es vs s [255] := ⟨_, rfl⟩
    obtain ⟨YV, hYV⟩ : ∃ L, L = teW es vs s [255] := ⟨_, rfl⟩
    rw [← hYL, ← hYV] at f
    rw [← hE]
    have HE : Hid _ := hE
    have HYL : Hid _ := hYL
    have HYV : Hid _ := hYV
    clear hE hYL hYV
    obtain ⟨ua, uc, va, vc, rfl, O⟩ := f
    obtain ⟨kB, hkB⟩ : ∃ m, m = YL.length := ⟨_, rfl⟩
    obtain ⟨kW, hkW⟩ : ∃ m, m = YV.length := ⟨_, rfl⟩
    rw [← hkB, ← hkW] at O ⊢
    have HkB : Hid _ := hkB
    have HkW : Hid _ := hkW
    clear hkB hkW
    have YBs : Bs w18 ua kB uc YL := bs_of_own O.ob (by rw [HYL.out]; exact teB_byte HEB.out vs s [255])
    have YIs : Is w18 va kW vc YV := is_of_own O.ow (by rw [HYV.out]; exact teW_int es HVB.out s [255])
    clear O
    have kb1 : kB ≤ 3072 := by rw [HkB.out, HYL.out]; exact teB_len es vs s [255]
    have kw1 : kW ≤ 48 := by rw [HkW.out, HYV.out]; exact teW_len es vs s [255]
    replace FR := FR.below hb
    replace Q := Q.below hb
    replace A3 := A3.kept hb
    replace XB := XB.below hb
    replace XW := XW.below hb
    replace A6 := A6.kept hb
    replace GR := GR.below hb
    replace A10 := A10.kept hb
    replace B := B.trans (hb.mono B.size)
    clear hb
    obtain ⟨W19, hW19⟩ : ∃ W, W = w18.alloc (.cells #[.slice ua kB uc, .slice va kW vc] 25) := ⟨_, rfl⟩
    have A12 : Arr W19 w18.heap.size 25 [.slice ua kB uc, .slice va kW vc] := by rw [hW19]; exact Arr.new _ _ _
    have hbl : Below w18.heap.size w18 W19 := by rw [hW19]; exact (Below.refl _ _).alloc (Nat.le_refl _) _
    replace FR := FR.below hbl
    replace Q := Q.below hbl
    replace A3 := A3.kept hbl
    replace XB := XB.below hbl
    replace XW := XW.below hbl
    replace A6 := A6.kept hbl
    replace GR := GR.below hbl
    replace A10 := A10.kept hbl
    replace YBs := YBs.below hbl
    replace YIs := YIs.below hbl
    replace B := B.trans (hbl.mono B.size)
    clear hbl
    by_cases hE0 : E = 0
    case neg =>
      have hE0' : (E == 0) = false := by simpa using hE0
      clear hE0
      have c20 := arr2 A6
      rw [hW19] at c20
      go_wp2_with fail
      rw [← hW19]
      clear hW19
      clear c20
      refine (readAt_i (some ⟨b2, o2, none⟩) K xc ya mW yc LB LW (I : Int) (nb : Int) _ XB XW (by omega) (by omega) hi1 hi2 (by omega) (by omega)).mono ?_
      rintro e w21 ⟨v, rfl, O, hb⟩
      have rk : flOk LB LW = true := by rw [HT.out]; exact flOk_tn HF.out.symm
      have r0 : rdC LB LW I nb = 0 := by unfold rdC; rw [rk, HJ.out]; rfl
      have r1 : (rdB LB LW I nb).length = nb := by
        unfold rdB
        rw [rk, HJ.out]
        have h1 := XB.2.1
        have h2 := HI.out
        have h3 := HN.out
        simp [sub]
        omega
      rw [r0]
      rw [r1] at O
      obtain ⟨ra, rc, rfl, _, _⟩ := Bs.own O (rdB_byte XB.2.2.2.1 LW I nb)
      clear O rk r0 r1
      replace FR := FR.below hb
      replace Q := Q.below hb
      replace A3 := A3.kept hb
      replace XB := XB.below hb
      replace XW := XW.below hb
      replace A6 := A6.kept hb
      replace GR := GR.below hb
      replace A10 := A10.kept hb
      replace YBs := YBs.below hb
      replace YIs := YIs.below hb
      replace A12 := A12.kept hb
      replace B := B.trans (hb.mono B.size)
      clear hb
      have hnn : ((nb : Int) == (nb : Int)) = true := by simp
      have c22 := arr2 A6
      have c23 := arr2 A3
      go_wp2_with fail
      clear c22 c23
      refine (sameIntsT ya aW mW yc cW LW _ XW FR.w (by omega)).mono ?_
      rintro e w24 ⟨q, rfl, hw⟩
      have hb : Below w21.heap.size w21 w24 := by rw [hw]; exact bel_drewN _ _
      clear hw
      replace FR := FR.below hb
      replace Q := Q.below hb
      replace A3 := A3.kept hb
      replace XB := XB.below hb
      replace XW := XW.below hb
      replace A6 := A6.kept hb
      replace GR := GR.below hb
      replace A10 := A10.kept hb
      replace YBs := YBs.below hb
      replace YIs := YIs.below hb
      replace A12 := A12.kept hb
      replace B := B.trans (hb.mono B.size)
      clear hb
      go_wp2_with fail
      refine (flashesC _).mono ?_
      rintro e w25 ⟨rfl, hb⟩
      replace FR := FR.below hb
      replace Q := Q.below hb
      replace A3 := A3.kept hb
      replace XB := XB.below hb
      replace XW := XW.below hb
      replace A6 := A6.kept hb
      replace GR := GR.below hb
      replace A10 := A10.kept hb
      replace YBs := YBs.below hb
      replace YIs := YIs.below hb
      replace A12 := A12.kept hb
      replace B := B.trans (hb.mono B.size)
      clear hb
      go_wp2
      go_ret
      exact ⟨rfl, B⟩
    obtain ⟨tE, hsr, hx2⟩ : tOk es vs [255] = true ∧ (0 ≤ s ∧ s < 48) ∧ vs.getD s.toNat 0 ≠ 200 := by
      have h := HE.out
      rw [hE0] at h
      unfold teC at h
      cases h1 : tOk es vs [255] with
      | false => rw [h1] at h; simp at h
      | true =>
        rw [h1, if_pos rfl] at h
        by_cases h2 : 0 ≤ s ∧ s < 48
        · rw [if_pos h2] at h
          refine ⟨rfl, h2, fun h3 => ?_⟩
          rw [if_pos h3] at h
          simp at h
        · rw [if_neg h2] at h; simp at h
    obtain ⟨S, rfl⟩ : ∃ S : Nat, s = (S : Int) := ⟨s.toNat, by omega⟩
    rw [Int.toNat_natCast] at hx2
    obtain ⟨m1, m2, m3, _⟩ := tOk_len tE
    have hz2 : teC es vs S [255] = 0 := by rw [← HE.out]; exact hE0
    have hYL : YL = tn (ef [255]) es (S * 64) 64 := by rw [HYL.out]; unfold teB; rw [tE, if_pos rfl, if_pos hz2]; simp
    have hYV : YV = vs.set S (vs.getD S 0 + 1) := by rw [HYV.out]; unfold teW; rw [tE, if_pos rfl, if_pos hz2]; simp
    have hfo : flOk es vs = true := by have := tE; unfold tOk at this; rw [Bool.and_eq_true] at this; exact this.1
    have HBK : Hid (blankF YL YV ((S * 64 : Nat) : Int) 64 = true) := by unfold Hid; rw [hYL, hYV]; exact blank_er hfo S (by omega) hx2
    have hDI : difL es vs YL YV = [] ∨ difL es vs YL YV = [(S : Int)] := by rw [hYL]; exact dif_er es vs S YV [255]
    have gmW : kW = gm := by rw [HkW.out, hYV, List.length_set, HVL.out]
    subst gmW
    have HS : Hid (S < kW) := by unfold Hid; have := HVL.out; omega
    obtain ⟨x, ex⟩ : ∃ x, x = vs.getD S 0 := ⟨_, rfl⟩
    have hxr := wr_get m3 (k := S) (by omega)
    rw [← ex] at hxr
    have hYS : YV.getD S 0 = x + 1 := by rw [hYV, ← ex]; simp [show S < vs.length by omega]
    obtain ⟨by1, oy1, rfl, hyl, cy1⟩ : ∃ b o, va = some ⟨b, o, none⟩ ∧ b < W19.heap.size ∧ W19.cell? ⟨b, o + S, none⟩ = some (.int .i64 (x + 1)) := by
      have := HS.out
      rcases YIs.2.2.2.2 with h | ⟨b, o, e, h1, h⟩
      · omega
      · exact ⟨b, o, e, h1, by rw [← hYS]; exact h S (by omega)⟩
    obtain ⟨bg1, og1, rfl, hgl, cg1⟩ : ∃ b o, gW = some ⟨b, o, none⟩ ∧ b < W19.heap.size ∧ W19.cell? ⟨b, o + S, none⟩ = some (.int .i64 x) := by
      have := HS.out
      rcases GR.w.2.2.2.2 with h | ⟨b, o, e, h1, h⟩
      · omega
      · exact ⟨b, o, e, h1, by rw [ex]; exact h S (by omega)⟩
    have hkk : ((kW : Int) == (kW : Int)) = true := by simp
    have HYB2 : Hid _ := YBs
    have HDI : Hid _ := hDI
    clear hDI hYL hYV hfo hYS ex hx2 m1 m2 m3 tE hz2 HYB2
    subst hE0
    have c26 := arr2 A10
    rw [hW19] at c26
    have c27 := arr2 A12
    rw [hW19] at c27
    go_wp2_with fail
    rw [← hW19]
    clear hW19
    clear c26 c27
    refine (differs_i gB gn gc (some ⟨bg1, og1, none⟩) kW gk es vs ua kB uc (some ⟨by1, oy1, none⟩) kW vc YL YV _ GR.b GR.w (by omega) (by omega) YBs YIs (by omega) (by omega)).mono ?_
    rintro e w28 ⟨v, rfl, O, hb⟩
    have cy2 := (hb.cell (p := ⟨by1, oy1 + S, none⟩) hyl).trans cy1
    have cg2 := (hb.cell (p := ⟨bg1, og1 + S, none⟩) hgl).trans cg1
    have hyl2 := Nat.lt_of_lt_of_le hyl hb.size
    have hgl2 := Nat.lt_of_lt_of_le hgl hb.size
    clear cy1 cg1 hyl hgl
    replace FR := FR.below hb
    replace Q := Q.below hb
    replace A3 := A3.kept hb
    replace XB := XB.below hb
    replace XW := XW.below hb
    replace A6 := A6.kept hb
    replace GR := GR.below hb
    replace A10 := A10.kept hb
    replace YBs := YBs.below hb
    replace YIs := YIs.below hb
    replace A12 := A12.kept hb
    replace B := B.trans (hb.mono B.size)
    clear hb
    have c10 := arr2 A10
    have c12 := arr2 A12
    have hS48 : (S : Int) < (kW : Int) := by have := HS.out; omega
    have hSw : IntKind.i64.wrap ((S : Int) * 64) = (S : Int) * 64 := by rw [IntKind.wrap_i64]; omega
    have hxw : IntKind.i64.wrap (x + 1) = x + 1 := by rw [IntKind.wrap_i64]; omega
    have hxx : ((x + 1) != (x + 1)) = false := by simp
    have hSS : ((S : Int) != (S : Int)) = false := by simp
    rcases HDI.out with hd | hd
    · rw [hd] at O
      obtain ⟨la, lc, rfl, _, _⟩ := Is.own O (by simp)
      clear O hd
      go_wp2
      try simp only [Act.put]
      refine tameG [kc 119 (.agg #[.slice ua kB uc, .slice (some ⟨by1, oy1, none⟩) kW vc]), kc 120 (.int .i64 (S : Int)), kc 121 (.int .i64 ((S : Int) * 64)), kc 122 (.bool true), kc 123 (.bool false), kc 124 (.bool false), kc 125 (.pointer (some ⟨w18.heap.size, 1, none⟩)), kc 126 (.slice (some ⟨by1, oy1, none⟩) kW vc), kc 127 (.int .i64 (S : Int)), kc 128 (.pointer (some ⟨by1, oy1 + S, none⟩)), kc 129 (.int .i64 (x + 1)), kc 130 (.pointer (some ⟨w15.heap.size, 1, none⟩)), kc 131 (.slice (some ⟨bg1, og1, none⟩) kW gk), kc 132 (.int .i64 (S : Int)), kc 133 (.pointer (some ⟨bg1, og1 + S, none⟩)), kc 134 (.int .i64 x), kc 135 (.int .i64 (x + 1)), kc 136 (.bool false), kc 137 (.bool false), kc 138 (.bool false), kc 139 (.slice la 0 lc), kc 140 (.int .i64 (0 : Int)), kc 141 (.bool false), kc 142 (.bool false), kc 143 (.bool false), kc 144 (.slice la 0 lc), kc 145 (.int .i64 (0 : Int)), kc 146 (.bool false), kc 147 (.bool false), kc 148 (undef), kc 149 (undef), kc 150 (undef), kc 151 (undef), kc 152 (undef), kc 153 (.bool false), kc 154 (.bool false)] 36 (by kernel_rfl) (by kernel_rfl) (by kernel_rfl) (by repeat' first | exact trivial | apply kc_keeps | constructor) 0 (by kernel_rfl) (fun vv ll hh yW bW => ?_) (fun vv ll hh yW bW F ivh aph => ?_)
      · have x0 := (bW.cell (p := ⟨w18.heap.size, 0, none⟩) A12.lt).trans c12.1
        have x1 := (bW.cell (p := ⟨w18.heap.size, 1, none⟩) A12.lt).trans c12.2
        have x2 := (bW.cell (p := ⟨w15.heap.size, 1, none⟩) A10.lt).trans c10.2
        have x3 := (bW.cell (p := ⟨by1, _, none⟩) hyl2).trans cy2
        have x4 := (bW.cell (p := ⟨bg1, _, none⟩) hgl2).trans cg2
        have BK := blank_i ua kB uc (some ⟨by1, oy1, none⟩) kW vc YL YV ((S : Int) * 64) 64 yW (YBs.below bW) (YIs.below bW) (by omega) (by omega) (by omega) (by omega) (by omega) (by omega)
        rw [show blankF YL YV ((S : Int) * 64) 64 = true from HBK.out] at BK
        refine ⟨og (tp ?_) (by kernel_rfl), og (tp (by kernel_rfl)) (by kernel_rfl), og (tp ?_) (by kernel_rfl), og (tc (BK) (by kernel_rfl)) (by kernel_rfl), og (tp (by kernel_rfl)) (by kernel_rfl), og (tp (by kernel_rfl)) (by kernel_rfl), og (tp (by kernel_rfl)) (by kernel_rfl), og (tp ?_) (by kernel_rfl), og (tp (by kernel_rfl)) (by kernel_rfl), og (tp ?_) (by kernel_rfl), og (tp ?_) (by kernel_rfl), og (tp (by kernel_rfl)) (by kernel_rfl), og (tp ?_) (by kernel_rfl), og (tp (by kernel_rfl)) (by kernel_rfl), og (tp ?_) (by kernel_rfl), og (tp ?_) (by kernel_rfl), og (tp ?_) (by kernel_rfl), og (tp ?_) (by kernel_rfl), og (tp (by kernel_rfl)) (by kernel_rfl), og (tp (by kernel_rfl)) (by kernel_rfl), og (tp (by kernel_rfl)) (by kernel_rfl), og (tp ?_) (by kernel_rfl), og (tp ?_) (by kernel_rfl), og (tp (by kernel_rfl)) (by kernel_rfl), og (tp (by kernel_rfl)) (by kernel_rfl), og (tp (by kernel_rfl)) (by kernel_rfl), og (tp ?_) (by kernel_rfl), og (tp ?_) (by kernel_rfl), og (tp (by kernel_rfl)) (by kernel_rfl), ou (by kernel_rfl), ou (by kernel_rfl), ou (by kernel_rfl), ou (by kernel_rfl), ou (by kernel_rfl), og (tp (by kernel_rfl)) (by kernel_rfl), og (tp (by kernel_rfl)) (by kernel_rfl), trivial⟩
        all_goals
          simp only [fillK, putT, List.setIfInBounds_toArray, List.set_cons_zero, List.set_cons_succ]
          unfold execOp
          go_simp
          try rfl
      clear F ivh aph
      obtain ⟨y, hy⟩ : ∃ z, z = yW := ⟨_, rfl⟩
      rw [← hy] at bW ⊢
      clear hy
      refine wpAny_done (by kernel_rfl) ?_ _
      simp only [fillK, putT, List.setIfInBounds_toArray, List.set_cons_zero, List.set_cons_succ]
      have hbW : Below w28.heap.size w28 y := bW
      clear bW c10 c12 cy2 cg2 hyl2 hgl2
      replace FR := FR.below hbW
      replace Q := Q.below hbW
      replace A3 := A3.kept hbW
      replace XB := XB.below hbW
      replace XW := XW.below hbW
      replace A6 := A6.kept hbW
      replace GR := GR.below hbW
      replace A10 := A10.kept hbW
      replace YBs := YBs.below hbW
      replace YIs := YIs.below hbW
      replace A12 := A12.kept hbW
      replace B := B.trans (hbW.mono B.size)
      clear hbW
      have c29 := arr2 A6
      go_wp2_with fail
      clear c29
      refine (readAt_i (some ⟨b2, o2, none⟩) K xc ya mW yc LB LW (I : Int) (nb : Int) _ XB XW (by omega) (by omega) hi1 hi2 (by omega) (by omega)).mono ?_
      rintro e w30 ⟨v, rfl, O, hb⟩
      have rk : flOk LB LW = true := by rw [HT.out]; exact flOk_tn HF.out.symm
      have r0 : rdC LB LW I nb = 0 := by unfold rdC; rw [rk, HJ.out]; rfl
      have r1 : (rdB LB LW I nb).length = nb := by
        unfold rdB
        rw [rk, HJ.out]
        have h1 := XB.2.1
        have h2 := HI.out
        have h3 := HN.out
        simp [sub]
        omega
      rw [r0]
      rw [r1] at O
      obtain ⟨ra, rc, rfl, _, _⟩ := Bs.own O (rdB_byte XB.2.2.2.1 LW I nb)
      clear O rk r0 r1
      replace FR := FR.below hb
      replace Q := Q.below hb
      replace A3 := A3.kept hb
      replace XB := XB.below hb
      replace XW := XW.below hb
      replace A6 := A6.kept hb
      replace GR := GR.below hb
      replace A10 := A10.kept hb
      replace YBs := YBs.below hb
      replace YIs := YIs.below hb
      replace A12 := A12.kept hb
      replace B := B.trans (hb.mono B.size)
      clear hb
      have hnn : ((nb : Int) == (nb : Int)) = true := by simp
      have c31 := arr2 A6
      have c32 := arr2 A3
      go_wp2_with fail
      clear c31 c32
      refine (sameIntsT ya aW mW yc cW LW _ XW FR.w (by omega)).mono ?_
      rintro e w33 ⟨q, rfl, hw⟩
      have hb : Below w30.heap.size w30 w33 := by rw [hw]; exact bel_drewN _ _
      clear hw
      replace FR := FR.below hb
      replace Q := Q.below hb
      replace A3 := A3.kept hb
      replace XB := XB.below hb
      replace XW := XW.below hb
      replace A6 := A6.kept hb
      replace GR := GR.below hb
      replace A10 := A10.kept hb
      replace YBs := YBs.below hb
      replace YIs := YIs.below hb
      replace A12 := A12.kept hb
      replace B := B.trans (hb.mono B.size)
      clear hb
      go_wp2_with fail
      refine (flashesC _).mono ?_
      rintro e w34 ⟨rfl, hb⟩
      replace FR := FR.below hb
      replace Q := Q.below hb
      replace A3 := A3.kept hb
      replace XB := XB.below hb
      replace XW := XW.below hb
      replace A6 := A6.kept hb
      replace GR := GR.below hb
      replace A10 := A10.kept hb
      replace YBs := YBs.below hb
      replace YIs := YIs.below hb
      replace A12 := A12.kept hb
      replace B := B.trans (hb.mono B.size)
      clear hb
      go_wp2
      go_ret
      exact ⟨rfl, B⟩
    · rw [hd] at O
      obtain ⟨gl, lc, rfl⟩ := row_shape O (by simp)
      have hlc := O.cellAt 0 (by simp)
      simp at hlc
      have hll := (O.lt gl rfl).2
      clear O hd
      go_wp2
      try simp only [Act.put]
      refine tameG [kc 119 (.agg #[.slice ua kB uc, .slice (some ⟨by1, oy1, none⟩) kW vc]), kc 120 (.int .i64 (S : Int)), kc 121 (.int .i64 ((S : Int) * 64)), kc 122 (.bool true), kc 123 (.bool false), kc 124 (.bool false), kc 125 (.pointer (some ⟨w18.heap.size, 1, none⟩)), kc 126 (.slice (some ⟨by1, oy1, none⟩) kW vc), kc 127 (.int .i64 (S : Int)), kc 128 (.pointer (some ⟨by1, oy1 + S, none⟩)), kc 129 (.int .i64 (x + 1)), kc 130 (.pointer (some ⟨w15.heap.size, 1, none⟩)), kc 131 (.slice (some ⟨bg1, og1, none⟩) kW gk), kc 132 (.int .i64 (S : Int)), kc 133 (.pointer (some ⟨bg1, og1 + S, none⟩)), kc 134 (.int .i64 x), kc 135 (.int .i64 (x + 1)), kc 136 (.bool false), kc 137 (.bool false), kc 138 (.bool false), kc 139 (.slice (some ⟨gl, 0, none⟩) 1 lc), kc 140 (.int .i64 (1 : Int)), kc 141 (.bool false), kc 142 (.bool false), kc 143 (.bool false), kc 144 (.slice (some ⟨gl, 0, none⟩) 1 lc), kc 145 (.int .i64 (1 : Int)), kc 146 (.bool true), kc 147 (.bool true), kc 148 (.slice (some ⟨gl, 0, none⟩) 1 lc), kc 149 (.pointer (some ⟨gl, 0, none⟩)), kc 150 (.int .i64 (S : Int)), kc 151 (.int .i64 (S : Int)), kc 152 (.bool false), kc 153 (.bool false), kc 154 (.bool false)] 36 (by kernel_rfl) (by kernel_rfl) (by kernel_rfl) (by repeat' first | exact trivial | apply kc_keeps | constructor) 0 (by kernel_rfl) (fun vv ll hh yW bW => ?_) (fun vv ll hh yW bW F ivh aph => ?_)
      · have x0 := (bW.cell (p := ⟨w18.heap.size, 0, none⟩) A12.lt).trans c12.1
        have x1 := (bW.cell (p := ⟨w18.heap.size, 1, none⟩) A12.lt).trans c12.2
        have x2 := (bW.cell (p := ⟨w15.heap.size, 1, none⟩) A10.lt).trans c10.2
        have x3 := (bW.cell (p := ⟨by1, _, none⟩) hyl2).trans cy2
        have x4 := (bW.cell (p := ⟨bg1, _, none⟩) hgl2).trans cg2
        have BK := blank_i ua kB uc (some ⟨by1, oy1, none⟩) kW vc YL YV ((S : Int) * 64) 64 yW (YBs.below bW) (YIs.below bW) (by omega) (by omega) (by omega) (by omega) (by omega) (by omega)
        rw [show blankF YL YV ((S : Int) * 64) 64 = true from HBK.out] at BK
        have x5 := (bW.cell (p := ⟨gl, 0, none⟩) hll).trans hlc
        refine ⟨og (tp ?_) (by kernel_rfl), og (tp (by kernel_rfl)) (by kernel_rfl), og (tp ?_) (by kernel_rfl), og (tc (BK) (by kernel_rfl)) (by kernel_rfl), og (tp (by kernel_rfl)) (by kernel_rfl), og (tp (by kernel_rfl)) (by kernel_rfl), og (tp (by kernel_rfl)) (by kernel_rfl), og (tp ?_) (by kernel_rfl), og (tp (by kernel_rfl)) (by kernel_rfl), og (tp ?_) (by kernel_rfl), og (tp ?_) (by kernel_rfl), og (tp (by kernel_rfl)) (by kernel_rfl), og (tp ?_) (by kernel_rfl), og (tp (by kernel_rfl)) (by kernel_rfl), og (tp ?_) (by kernel_rfl), og (tp ?_) (by kernel_rfl), og (tp ?_) (by kernel_rfl), og (tp ?_) (by kernel_rfl), og (tp (by kernel_rfl)) (by kernel_rfl), og (tp (by kernel_rfl)) (by kernel_rfl), og (tp (by kernel_rfl)) (by kernel_rfl), og (tp ?_) (by kernel_rfl), og (tp ?_) (by kernel_rfl), og (tp (by kernel_rfl)) (by kernel_rfl), og (tp (by kernel_rfl)) (by kernel_rfl), og (tp (by kernel_rfl)) (by kernel_rfl), og (tp ?_) (by kernel_rfl), og (tp ?_) (by kernel_rfl), og (tp (by kernel_rfl)) (by kernel_rfl), og (tp (by kernel_rfl)) (by kernel_rfl), og (tp ?_) (by kernel_rfl), og (tp ?_) (by kernel_rfl), og (tp (by kernel_rfl)) (by kernel_rfl), og (tp ?_) (by kernel_rfl), og (tp (by kernel_rfl)) (by kernel_rfl), og (tp (by kernel_rfl)) (by kernel_rfl), trivial⟩
        all_goals
          simp only [fillK, putT, List.setIfInBounds_toArray, List.set_cons_zero, List.set_cons_succ]
          unfold execOp
          go_simp
          try rfl
      clear F ivh aph
      obtain ⟨y, hy⟩ : ∃ z, z = yW := ⟨_, rfl⟩
      rw [← hy] at bW ⊢
      clear hy
      refine wpAny_done (by kernel_rfl) ?_ _
      simp only [fillK, putT, List.setIfInBounds_toArray, List.set_cons_zero, List.set_cons_succ]
      have hbW : Below w28.heap.size w28 y := bW
      clear bW c10 c12 cy2 cg2 hyl2 hgl2 hlc hll
      replace FR := FR.below hbW
      replace Q := Q.below hbW
      replace A3 := A3.kept hbW
      replace XB := XB.below hbW
      replace XW := XW.below hbW
      replace A6 := A6.kept hbW
      replace GR := GR.below hbW
      replace A10 := A10.kept hbW
      replace YBs := YBs.below hbW
      replace YIs := YIs.below hbW
      replace A12 := A12.kept hbW
      replace B := B.trans (hbW.mono B.size)
      clear hbW
      have c35 := arr2 A6
      go_wp2_with fail
      clear c35
      refine (readAt_i (some ⟨b2, o2, none⟩) K xc ya mW yc LB LW (I : Int) (nb : Int) _ XB XW (by omega) (by omega) hi1 hi2 (by omega) (by omega)).mono ?_
      rintro e w36 ⟨v, rfl, O, hb⟩
      have rk : flOk LB LW = true := by rw [HT.out]; exact flOk_tn HF.out.symm
      have r0 : rdC LB LW I nb = 0 := by unfold rdC; rw [rk, HJ.out]; rfl
      have r1 : (rdB LB LW I nb).length = nb := by
        unfold rdB
        rw [rk, HJ.out]
        have h1 := XB.2.1
        have h2 := HI.out
        have h3 := HN.out
        simp [sub]
        omega
      rw [r0]
      rw [r1] at O
      obtain ⟨ra, rc, rfl, _, _⟩ := Bs.own O (rdB_byte XB.2.2.2.1 LW I nb)
      clear O rk r0 r1
      replace FR := FR.below hb
      replace Q := Q.below hb
      replace A3 := A3.kept hb
      replace XB := XB.below hb
      replace XW := XW.below hb
      replace A6 := A6.kept hb
      replace GR := GR.below hb
      replace A10 := A10.kept hb
      replace YBs := YBs.below hb
      replace YIs := YIs.below hb
      replace A12 := A12.kept hb
      replace B := B.trans (hb.mono B.size)
      clear hb
      have hnn : ((nb : Int) == (nb : Int)) = true := by simp
      have c37 := arr2 A6
      have c38 := arr2 A3
      go_wp2_with fail
      clear c37 c38
      refine (sameIntsT ya aW mW yc cW LW _ XW FR.w (by omega)).mono ?_
      rintro e w39 ⟨q, rfl, hw⟩
      have hb : Below w36.heap.size w36 w39 := by rw [hw]; exact bel_drewN _ _
      clear hw
      replace FR := FR.below hb
      replace Q := Q.below hb
      replace A3 := A3.kept hb
      replace XB := XB.below hb
      replace XW := XW.below hb
      replace A6 := A6.kept hb
      replace GR := GR.below hb
      replace A10 := A10.kept hb
      replace YBs := YBs.below hb
      replace YIs := YIs.below hb
      replace A12 := A12.kept hb
      replace B := B.trans (hb.mono B.size)
      clear hb
      go_wp2_with fail
      refine (flashesC _).mono ?_
      rintro e w40 ⟨rfl, hb⟩
      replace FR := FR.below hb
      replace Q := Q.below hb
      replace A3 := A3.kept hb
      replace XB := XB.below hb
      replace XW := XW.below hb
      replace A6 := A6.kept hb
      replace GR := GR.below hb
      replace A10 := A10.kept hb
      replace YBs := YBs.below hb
      replace YIs := YIs.below hb
      replace A12 := A12.kept hb
      replace B := B.trans (hb.mono B.size)
      clear hb
      go_wp2
      go_ret
      exact ⟨rfl, B⟩
end Go.Proofs.Ytcnlpdpbkkjkoaa
