/-
  What is proved here: the law FnTorn returns true at every code, and writes into nothing that was there.
-/
import Derived.Test.YtcnlpdpbkkjkoaaF9tt
namespace Go.Proofs.Ytcnlpdpbkkjkoaa
set_option maxRecDepth 100000
set_option maxHeartbeats 8000000
open Go.RowKit
set_option linter.unusedVariables false

theorem walk_fnTorn (w : World) (a0 : Option Addr) (n0 c0 : Nat) (xs0 : List Int) (hcode : Bs w a0 n0 c0 xs0) (hmax : n0 ≤ 9223372036854775807) :
    Calls Try.prog 4 #[.slice a0 n0 c0] w fun e w' => e = .returned (.bool true) ∧ Below w.heap.size w w' := by
  go_enter Try.func4, Try.ntmps4
  go_wp2_with fail
  refine (drawTornProgram a0 n0 c0 xs0 _ hcode hmax).mono ?_
  rintro e w1 ⟨aB, nB, cB, aW, nW, cW, bs, ws, i, ab, nb, cb, l, am, nm, cm, ms, rfl, FR, ⟨hi1, hi2⟩, ⟨Q, hnb⟩, ⟨QM, hnm⟩, B⟩
  have hnB := FR.nb
  have hnW := FR.nw
  have HBB : Hid _ := FR.b.2.2.2.1
  have HWB : Hid _ := FR.w.2.2.2.1
  have HBL : Hid _ := FR.b.2.1
  have HWL : Hid _ := FR.w.2.1
  have HQL : Hid _ := Q.2.1
  have HML : Hid _ := QM.2.1
  obtain ⟨W2, hW2⟩ : ∃ W, W = w1.alloc (.cells #[.slice aB nB cB, .slice aW nW cW] 25) := ⟨_, rfl⟩
  have A3 : Arr W2 w1.heap.size 25 [.slice aB nB cB, .slice aW nW cW] := by rw [hW2]; exact Arr.new _ _ _
  have hbl : Below w1.heap.size w1 W2 := by rw [hW2]; exact (Below.refl _ _).alloc (Nat.le_refl _) _
  replace FR := FR.below hbl
  replace Q := Q.below hbl
  replace QM := QM.below hbl
  replace B := B.trans (hbl.mono B.size)
  clear hbl
  have c3 := arr2 A3
  rw [hW2] at c3
  go_wp2_with fail
  rw [← hW2]
  clear hW2
  clear c3
  refine (tornProgram_i aB nB cB aW nW cW bs ws i ab nb cb l am nm cm ms _ FR.b FR.w (by omega) (by omega) hi1 hi2 Q (by omega) QM (by omega)).mono ?_
  rintro e w4 ⟨v, rfl, f, hb⟩
  obtain ⟨C, hC⟩ : ∃ C, C = tpC bs ws i l ms := ⟨_, rfl⟩
  obtain ⟨LB, hLB⟩ : ∃ L, L = tpB bs ws i l ms := ⟨_, rfl⟩
  obtain ⟨LW, hLW⟩ : ∃ L, L = tpW bs ws ms := ⟨_, rfl⟩
  rw [← hLB, ← hLW] at f
  rw [← hC]
  have HC : Hid _ := hC
  have HLB : Hid _ := hLB
  have HLW : Hid _ := hLW
  clear hC hLB hLW
  obtain ⟨xa, xc, ya, yc, rfl, O⟩ := f
  obtain ⟨mB, hmB⟩ : ∃ m, m = LB.length := ⟨_, rfl⟩
  obtain ⟨mW, hmW⟩ : ∃ m, m = LW.length := ⟨_, rfl⟩
  rw [← hmB, ← hmW] at O ⊢
  have HmB : Hid _ := hmB
  have HmW : Hid _ := hmW
  clear hmB hmW
  have XB : Bs w4 xa mB xc LB := bs_of_own O.ob (by rw [HLB.out]; exact tpB_byte HBB.out ws i l ms)
  have XW : Is w4 ya mW yc LW := is_of_own O.ow (by rw [HLW.out]; exact tpW_int bs HWB.out ms)
  clear O
  have bmB : mB ≤ 3072 := by rw [HmB.out, HLB.out]; exact tpB_len bs ws i l ms
  have bmW : mW ≤ 48 := by rw [HmW.out, HLW.out]; exact tpW_len bs ws ms
  replace FR := FR.below hb
  replace Q := Q.below hb
  replace QM := QM.below hb
  replace A3 := A3.kept hb
  replace B := B.trans (hb.mono B.size)
  clear hb
  obtain ⟨W5, hW5⟩ : ∃ W, W = w4.alloc (.cells #[.slice xa mB xc, .slice ya mW yc] 25) := ⟨_, rfl⟩
  have A7 : Arr W5 w4.heap.size 25 [.slice xa mB xc, .slice ya mW yc] := by rw [hW5]; exact Arr.new _ _ _
  have hbl : Below w4.heap.size w4 W5 := by rw [hW5]; exact (Below.refl _ _).alloc (Nat.le_refl _) _
  replace FR := FR.below hbl
  replace Q := Q.below hbl
  replace QM := QM.below hbl
  replace A3 := A3.kept hbl
  replace XB := XB.below hbl
  replace XW := XW.below hbl
  replace B := B.trans (hbl.mono B.size)
  clear hbl
  by_cases h0 : C = 0
  case neg =>
    have h0' : (C != 0) = true := by simpa using h0
    have hq : ((C == 4) == ((mB : Int) == 0)) = true := by
      cases ht : tOk bs ws ms with
      | false =>
        have h1 : C = 4 := by rw [HC.out]; unfold tpC; rw [ht]; rfl
        have h2 : mB = 0 := by rw [HmB.out, HLB.out]; unfold tpB; rw [ht]; rfl
        rw [h1, h2]; rfl
      | true =>
        have h1 : C = mayC i l.length := by rw [HC.out]; unfold tpC; rw [ht, if_pos rfl]
        have h2 : LB = bs := by rw [HLB.out]; unfold tpB; rw [ht, if_pos rfl, if_neg (by rw [← h1]; exact h0)]
        have h3 := (tOk_len ht).1
        have h4 : mB = 3072 := by rw [HmB.out, h2, h3]
        have h5 : C ≠ 4 := by
          rw [h1]
          unfold mayC
          split <;> (try split) <;> decide
        have h6 : (C == 4) = false := by simpa using h5
        rw [h6, h4]; rfl
    clear h0
    have c6 := arr2 A7
    rw [hW5] at c6
    go_wp2_with fail
    rw [← hW5]
    clear hW5
    clear c6
    refine (flashesC _).mono ?_
    rintro e w7 ⟨rfl, hb⟩
    replace FR := FR.below hb
    replace Q := Q.below hb
    replace QM := QM.below hb
    replace A3 := A3.kept hb
    replace XB := XB.below hb
    replace XW := XW.below hb
    replace A7 := A7.kept hb
    replace B := B.trans (hb.mono B.size)
    clear hb
    go_wp2
    go_ret
    exact ⟨rfl, B⟩
  have tY : tOk bs ws ms = true := by
    cases ht : tOk bs ws ms with
    | true => rfl
    | false =>
      have h1 : C = 4 := by rw [HC.out]; unfold tpC; rw [ht]; rfl
      omega
  obtain ⟨l1, l2, l3, _⟩ := tOk_len tY
  have fo : flOk bs ws = true := flOk_iff.2 ⟨l1, l2, l3⟩
  have hz : mayC i nb = 0 := by rw [← h0, HC.out]; unfold tpC; rw [tY, if_pos rfl, HQL.out]
  obtain ⟨j1, j2⟩ := mayC_zero hz
  obtain ⟨j3, j4, j5⟩ := inF_iff.1 j1
  obtain ⟨I, rfl⟩ : ∃ I : Nat, i = (I : Int) := ⟨i.toNat, by omega⟩
  have hT : LB = tn (pf l ms) bs I nb := by rw [HLB.out]; unfold tpB; rw [tY, if_pos rfl, HQL.out, if_pos hz]; simp
  have hLWw : LW = ws := by rw [HLW.out]; unfold tpW; rw [tY, if_pos rfl]
  subst hLWw
  have hmB : mB = nB := by rw [HmB.out, hT, tn_len, HBL.out]
  subst hmB
  have hmW : mW = nW := by rw [HmW.out, HWL.out]
  subst hmW
  have t255 : ∀ xs : List Int, flOk xs LW = true → tOk xs LW [255] = true := fun xs h => by unfold tOk; rw [h]; decide
  have HN : Hid (mB = 3072) := by unfold Hid; rw [← HBL.out]; exact l1
  have HT : Hid _ := hT
  have HFO : Hid _ := fo
  have HZ : Hid _ := hz
  have H255 : Hid _ := t255
  have hlm : mB < 9223372036854775807 := by omega
  have mpos : 0 < mB := by have := HN.out; omega
  clear hT fo hz t255 tY l1 l2 l3 j1 j2 j3 j4 j5
  subst h0
  have c8 := arr2 A3
  rw [hW5] at c8
  go_wp2_with fail
  rw [← hW5]
  clear hW5
  clear c8
  refine (program_i aB mB cB aW mW cW bs LW (I : Int) ab nb cb l _ FR.b FR.w (by omega) (by omega) hi1 hi2 Q (by omega)).mono ?_
  rintro e w9 ⟨v, rfl, f, hb⟩
  obtain ⟨C2, hC⟩ : ∃ C, C = tpC bs LW (I : Int) l [255] := ⟨_, rfl⟩
  obtain ⟨XL, hLB⟩ : ∃ L, L = tpB bs LW (I : Int) l [255] := ⟨_, rfl⟩
  obtain ⟨XV, hLW⟩ : ∃ L, L = tpW bs LW [255] := ⟨_, rfl⟩
  rw [← hLB, ← hLW] at f
  rw [← hC]
  have HC2 : Hid _ := hC
  have HXL : Hid _ := hLB
  have HXV : Hid _ := hLW
  clear hC hLB hLW
  obtain ⟨pa, pc, qa, qc, rfl, O⟩ := f
  obtain ⟨kx, hmB⟩ : ∃ m, m = XL.length := ⟨_, rfl⟩
  obtain ⟨kv9, hmW⟩ : ∃ m, m = XV.length := ⟨_, rfl⟩
  rw [← hmB, ← hmW] at O ⊢
  have Hkx : Hid _ := hmB
  have Hkv9 : Hid _ := hmW
  clear hmB hmW
  have PB : Bs w9 pa kx pc XL := bs_of_own O.ob (by rw [HXL.out]; exact tpB_byte HBB.out LW I l [255])
  have PW : Is w9 qa kv9 qc XV := is_of_own O.ow (by rw [HXV.out]; exact tpW_int bs HWB.out [255])
  clear O
  have bkx : kx ≤ 3072 := by rw [Hkx.out, HXL.out]; exact tpB_len bs LW I l [255]
  have bkv9 : kv9 ≤ 48 := by rw [Hkv9.out, HXV.out]; exact tpW_len bs LW [255]
  replace FR := FR.below hb
  replace Q := Q.below hb
  replace QM := QM.below hb
  replace A3 := A3.kept hb
  replace XB := XB.below hb
  replace XW := XW.below hb
  replace A7 := A7.kept hb
  replace B := B.trans (hb.mono B.size)
  clear hb
  obtain ⟨W10, hW10⟩ : ∃ W, W = w9.alloc (.cells #[.slice pa kx pc, .slice qa kv9 qc] 25) := ⟨_, rfl⟩
  have A9 : Arr W10 w9.heap.size 25 [.slice pa kx pc, .slice qa kv9 qc] := by rw [hW10]; exact Arr.new _ _ _
  have hbl : Below w9.heap.size w9 W10 := by rw [hW10]; exact (Below.refl _ _).alloc (Nat.le_refl _) _
  replace FR := FR.below hbl
  replace Q := Q.below hbl
  replace QM := QM.below hbl
  replace A3 := A3.kept hbl
  replace XB := XB.below hbl
  replace XW := XW.below hbl
  replace A7 := A7.kept hbl
  replace PB := PB.below hbl
  replace PW := PW.below hbl
  replace B := B.trans (hbl.mono B.size)
  clear hbl
  have hXL : XL = tn (pf l [255]) bs I nb := by rw [HXL.out]; unfold tpB; rw [H255.out bs HFO.out, if_pos rfl, HQL.out, if_pos HZ.out]; simp
  have hXV : LW = XV := by rw [HXV.out]; unfold tpW; rw [H255.out bs HFO.out, if_pos rfl]
  subst hXV
  have hkx : mB = kx := by rw [Hkx.out, hXL, tn_len, HBL.out]
  subst hkx
  have hkv : mW = kv9 := by rw [Hkv9.out, HWL.out]
  subst hkv
  have HX : Hid _ := hXL
  clear hXL
  obtain ⟨b3, o3, rfl⟩ : ∃ b o, aB = some ⟨b, o, none⟩ := by
    rcases FR.b.2.2.2.2 with h | ⟨b, o, e, _⟩
    · omega
    · exact ⟨b, o, e⟩
  obtain ⟨b7, o7, rfl⟩ : ∃ b o, xa = some ⟨b, o, none⟩ := by
    rcases XB.2.2.2.2 with h | ⟨b, o, e, _⟩
    · omega
    · exact ⟨b, o, e⟩
  obtain ⟨b9, o9, rfl⟩ : ∃ b o, pa = some ⟨b, o, none⟩ := by
    rcases PB.2.2.2.2 with h | ⟨b, o, e, _⟩
    · omega
    · exact ⟨b, o, e⟩
  have hne : ((mB : Int) != (mB : Int)) = false := by simp
  have c11 := arr2 A3
  rw [hW10] at c11
  have c12 := arr2 A7
  rw [hW10] at c12
  have c13 := arr2 A9
  rw [hW10] at c13
  go_wp2
  rw [← hW10]
  clear hW10
  clear c11 c12 c13
  go_loopw [11] (fun k wr => ∃ K : Nat, K ≤ mB ∧ k = .int .i64 K ∧ Below W10.heap.size W10 wr) (fun k _ => mB - (intOf k).toNat)
  case atStart => exact ⟨0, Nat.zero_le _, rfl, Below.refl _ _⟩
  case round =>
    obtain ⟨K, hK, rfl, bk⟩ := hrel
    have FRk := FR.below bk
    have Qk := Q.below bk
    have QMk := QM.below bk
    have A3k := A3.kept bk
    have XBk := XB.below bk
    have XWk := XW.below bk
    have A7k := A7.kept bk
    have PBk := PB.below bk
    have PWk := PW.below bk
    have A9k := A9.kept bk
    by_cases hlt : K < mB
    case pos =>
      have hltI : (K : Int) < (mB : Int) := by omega
      have dA3 := arr2 A3k
      have dA7 := arr2 A7k
      have dA9 := arr2 A9k
      obtain ⟨y3, ey3⟩ : ∃ y, y = bs.getD K 0 := ⟨_, rfl⟩
      have c3 : wr.cell? ⟨b3, o3 + K, none⟩ = some (.int .u8 y3) := by
        rw [ey3]
        rcases FRk.b.2.2.2.2 with h | ⟨b, o, e, _, h⟩
        · omega
        · cases e; exact h K (by omega)
      obtain ⟨y7, ey7⟩ : ∃ y, y = LB.getD K 0 := ⟨_, rfl⟩
      have c7 : wr.cell? ⟨b7, o7 + K, none⟩ = some (.int .u8 y7) := by
        rw [ey7]
        rcases XBk.2.2.2.2 with h | ⟨b, o, e, _, h⟩
        · omega
        · cases e; exact h K (by omega)
      obtain ⟨y9, ey9⟩ : ∃ y, y = XL.getD K 0 := ⟨_, rfl⟩
      have c9 : wr.cell? ⟨b9, o9 + K, none⟩ = some (.int .u8 y9) := by
        rw [ey9]
        rcases PBk.2.2.2.2 with h | ⟨b, o, e, _, h⟩
        · omega
        · cases e; exact h K (by omega)
      have lb3 : b3 < wr.heap.size := by
        rcases FRk.b.2.2.2.2 with h | ⟨b, o, e, h, _⟩
        · omega
        · cases e; exact h
      have lb7 : b7 < wr.heap.size := by
        rcases XBk.2.2.2.2 with h | ⟨b, o, e, h, _⟩
        · omega
        · cases e; exact h
      have lb9 : b9 < wr.heap.size := by
        rcases PBk.2.2.2.2 with h | ⟨b, o, e, h, _⟩
        · omega
        · cases e; exact h
      have hor : bits .or .u8 y7 y3 = y3 := by rw [ey7, ey3, HT.out]; exact torn_or bs l ms I nb K (by rw [HBL.out]; exact hlt) HBB.out
      have han : bits .and .u8 y7 y9 = y9 := by rw [ey7, ey9, HT.out, HX.out]; exact torn_and bs l ms I nb K (by rw [HBL.out]; exact hlt) HBB.out
      have h33 : (y3 != y3) = false := by simp
      have h99 : (y9 != y9) = false := by simp
      clear ey3 ey7 ey9
      go_wp2
      try simp only [Act.put]
      refine tameG [kc 79 (.pointer (some ⟨w4.heap.size, 0, none⟩)), kc 80 (.slice (some ⟨b7, o7, none⟩) mB xc), kc 81 (.int .i64 (K : Int)), kc 82 (.pointer (some ⟨b7, o7 + K, none⟩)), kc 83 (.int .u8 (y7)), kc 84 (.pointer (some ⟨w1.heap.size, 0, none⟩)), kc 85 (.slice (some ⟨b3, o3, none⟩) mB cB), kc 86 (.int .i64 (K : Int)), kc 87 (.pointer (some ⟨b3, o3 + K, none⟩)), kc 88 (.int .u8 (y3)), kc 89 (.int .u8 (y3)), kc 90 (.pointer (some ⟨w1.heap.size, 0, none⟩)), kc 91 (.slice (some ⟨b3, o3, none⟩) mB cB), kc 92 (.int .i64 (K : Int)), kc 93 (.pointer (some ⟨b3, o3 + K, none⟩)), kc 94 (.int .u8 (y3)), kc 95 (.bool false), kc 96 (.bool false), kc 97 (.pointer (some ⟨w4.heap.size, 0, none⟩)), kc 98 (.slice (some ⟨b7, o7, none⟩) mB xc), kc 99 (.int .i64 (K : Int)), kc 100 (.pointer (some ⟨b7, o7 + K, none⟩)), kc 101 (.int .u8 (y7)), kc 102 (.pointer (some ⟨w9.heap.size, 0, none⟩)), kc 103 (.slice (some ⟨b9, o9, none⟩) mB pc), kc 104 (.int .i64 (K : Int)), kc 105 (.pointer (some ⟨b9, o9 + K, none⟩)), kc 106 (.int .u8 (y9)), kc 107 (.int .u8 (y9)), kc 108 (.pointer (some ⟨w9.heap.size, 0, none⟩)), kc 109 (.slice (some ⟨b9, o9, none⟩) mB pc), kc 110 (.int .i64 (K : Int)), kc 111 (.pointer (some ⟨b9, o9 + K, none⟩)), kc 112 (.int .u8 (y9)), kc 113 (.bool false), kc 114 (.bool false)] 36 (by kernel_rfl) (by kernel_rfl) (by kernel_rfl) (by repeat' first | exact trivial | apply kc_keeps | constructor) 0 (by kernel_rfl) (fun vv ll hh yW bW => ?_) (fun vv ll hh yW bW F ivh aph => ?_)
      · have x3 := (bW.cell (p := ⟨w1.heap.size, 0, none⟩) A3k.lt).trans dA3.1
        have x7 := (bW.cell (p := ⟨w4.heap.size, 0, none⟩) A7k.lt).trans dA7.1
        have x9 := (bW.cell (p := ⟨w9.heap.size, 0, none⟩) A9k.lt).trans dA9.1
        have v3 := (bW.cell (p := ⟨b3, _, none⟩) lb3).trans c3
        have v7 := (bW.cell (p := ⟨b7, _, none⟩) lb7).trans c7
        have v9 := (bW.cell (p := ⟨b9, _, none⟩) lb9).trans c9
        refine ⟨og (tp (by kernel_rfl)) (by kernel_rfl), og (tp ?_) (by kernel_rfl), og (tp (by kernel_rfl)) (by kernel_rfl), og (tp ?_) (by kernel_rfl), og (tp ?_) (by kernel_rfl), og (tp (by kernel_rfl)) (by kernel_rfl), og (tp ?_) (by kernel_rfl), og (tp (by kernel_rfl)) (by kernel_rfl), og (tp ?_) (by kernel_rfl), og (tp ?_) (by kernel_rfl), og (tp ?_) (by kernel_rfl), og (tp (by kernel_rfl)) (by kernel_rfl), og (tp ?_) (by kernel_rfl), og (tp (by kernel_rfl)) (by kernel_rfl), og (tp ?_) (by kernel_rfl), og (tp ?_) (by kernel_rfl), og (tp ?_) (by kernel_rfl), og (tp (by kernel_rfl)) (by kernel_rfl), og (tp (by kernel_rfl)) (by kernel_rfl), og (tp ?_) (by kernel_rfl), og (tp (by kernel_rfl)) (by kernel_rfl), og (tp ?_) (by kernel_rfl), og (tp ?_) (by kernel_rfl), og (tp (by kernel_rfl)) (by kernel_rfl), og (tp ?_) (by kernel_rfl), og (tp (by kernel_rfl)) (by kernel_rfl), og (tp ?_) (by kernel_rfl), og (tp ?_) (by kernel_rfl), og (tp ?_) (by kernel_rfl), og (tp (by kernel_rfl)) (by kernel_rfl), og (tp ?_) (by kernel_rfl), og (tp (by kernel_rfl)) (by kernel_rfl), og (tp ?_) (by kernel_rfl), og (tp ?_) (by kernel_rfl), og (tp ?_) (by kernel_rfl), og (tp (by kernel_rfl)) (by kernel_rfl), trivial⟩
        all_goals
          simp only [fillK, putT, List.setIfInBounds_toArray, List.set_cons_zero, List.set_cons_succ]
          unfold execOp
          go_simp
          try rfl
      clear F ivh aph
      obtain ⟨y, hy⟩ : ∃ z, z = yW := ⟨_, rfl⟩
      rw [← hy] at bW ⊢
      clear hy
      refine wpAny_done (by kernel_rfl) ?_ _
      simp only [fillK, putT, List.setIfInBounds_toArray, List.set_cons_zero, List.set_cons_succ]
      have bF : Below W10.heap.size W10 y := bk.trans (bW.mono bk.size)
      clear bW bk FRk Qk QMk A3k XBk XWk A7k PBk PWk A9k dA3 dA7 dA9
      go_wp2
      go_roundw
      case rel => exact ⟨K + 1, by omega, by go_num, bF⟩
      case measure => simp [intOf]; omega
    have hKn : K = mB := by omega
    clear hlt
    have hbk := bk
    clear bk FRk Qk QMk A3k XBk XWk A7k PBk PWk A9k
    replace FR := FR.below hbk
    replace Q := Q.below hbk
    replace QM := QM.below hbk
    replace A3 := A3.kept hbk
    replace XB := XB.below hbk
    replace XW := XW.below hbk
    replace A7 := A7.kept hbk
    replace PB := PB.below hbk
    replace PW := PW.below hbk
    replace A9 := A9.kept hbk
    replace B := B.trans (hbk.mono B.size)
    clear hbk
    subst hKn
    have c1 := arr2 A3
    have c2 := arr2 A7
    go_wp2_with fail
    clear c1 c2
    refine (program_i (some ⟨b7, o7, none⟩) K xc ya mW yc LB LW (I : Int) ab nb cb l _ XB XW (by omega) (by omega) hi1 hi2 Q (by omega)).mono ?_
    rintro e w14 ⟨v, rfl, f, hb⟩
    obtain ⟨C3, hC⟩ : ∃ C, C = tpC LB LW (I : Int) l [255] := ⟨_, rfl⟩
    obtain ⟨YL, hLB⟩ : ∃ L, L = tpB LB LW (I : Int) l [255] := ⟨_, rfl⟩
    obtain ⟨YV, hLW⟩ : ∃ L, L = tpW LB LW [255] := ⟨_, rfl⟩
    rw [← hLB, ← hLW] at f
    rw [← hC]
    have HC3 : Hid _ := hC
    have HYL : Hid _ := hLB
    have HYV : Hid _ := hLW
    clear hC hLB hLW
    obtain ⟨ua, uc, va, vc, rfl, O⟩ := f
    obtain ⟨ky, hmB⟩ : ∃ m, m = YL.length := ⟨_, rfl⟩
    obtain ⟨kw9, hmW⟩ : ∃ m, m = YV.length := ⟨_, rfl⟩
    rw [← hmB, ← hmW] at O ⊢
    have Hky : Hid _ := hmB
    have Hkw9 : Hid _ := hmW
    clear hmB hmW
    have UB : Bs w14 ua ky uc YL := bs_of_own O.ob (by rw [HYL.out]; exact tpB_byte XB.2.2.2.1 LW I l [255])
    have UW : Is w14 va kw9 vc YV := is_of_own O.ow (by rw [HYV.out]; exact tpW_int LB HWB.out [255])
    clear O
    have bky : ky ≤ 3072 := by rw [Hky.out, HYL.out]; exact tpB_len LB LW I l [255]
    have bkw9 : kw9 ≤ 48 := by rw [Hkw9.out, HYV.out]; exact tpW_len LB LW [255]
    replace FR := FR.below hb
    replace Q := Q.below hb
    replace QM := QM.below hb
    replace A3 := A3.kept hb
    replace XB := XB.below hb
    replace XW := XW.below hb
    replace A7 := A7.kept hb
    replace PB := PB.below hb
    replace PW := PW.below hb
    replace A9 := A9.kept hb
    replace B := B.trans (hb.mono B.size)
    clear hb
    obtain ⟨W15, hW15⟩ : ∃ W, W = w14.alloc (.cells #[.slice ua ky uc, .slice va kw9 vc] 25) := ⟨_, rfl⟩
    have A12 : Arr W15 w14.heap.size 25 [.slice ua ky uc, .slice va kw9 vc] := by rw [hW15]; exact Arr.new _ _ _
    have hbl : Below w14.heap.size w14 W15 := by rw [hW15]; exact (Below.refl _ _).alloc (Nat.le_refl _) _
    replace FR := FR.below hbl
    replace Q := Q.below hbl
    replace QM := QM.below hbl
    replace A3 := A3.kept hbl
    replace XB := XB.below hbl
    replace XW := XW.below hbl
    replace A7 := A7.kept hbl
    replace PB := PB.below hbl
    replace PW := PW.below hbl
    replace A9 := A9.kept hbl
    replace UB := UB.below hbl
    replace UW := UW.below hbl
    replace B := B.trans (hbl.mono B.size)
    clear hbl
    have fo2 : flOk LB LW = true := by rw [HT.out]; exact flOk_tn HFO.out
    have hYX : XL = YL := by
      rw [HYL.out]
      unfold tpB
      rw [H255.out LB fo2, if_pos rfl, HQL.out, if_pos HZ.out, HT.out, HX.out, Int.toNat_natCast]
      exact (torn_again bs l ms I nb).symm
    subst hYX
    have hYV : LW = YV := by rw [HYV.out]; unfold tpW; rw [H255.out LB fo2, if_pos rfl]
    subst hYV
    have hky : K = ky := by rw [Hky.out, HX.out, tn_len, HBL.out]
    subst hky
    have hkw : mW = kw9 := by rw [Hkw9.out, HWL.out]
    subst hkw
    clear fo2
    go_wp2_with fail
    rw [← hW15]
    clear hW15
    refine (drawTornErase a0 n0 c0 xs0 _ (hcode.below B) hmax).mono ?_
    rintro e w16 ⟨gB, gn, gc, gW, gm, gk, es, vs, s, ha, nq, cq, qs, rfl, GR, ⟨hs1, hs2⟩, ⟨QQ, hnq⟩, hb⟩
    have hgn := GR.nb
    have hgm := GR.nw
    have HLE : Hid _ := GR.b.2.1
    have HLV : Hid _ := GR.w.2.1
    have HEB : Hid _ := GR.b.2.2.2.1
    have HVB : Hid _ := GR.w.2.2.2.1
    replace FR := FR.below hb
    replace Q := Q.below hb
    replace QM := QM.below hb
    replace A3 := A3.kept hb
    replace XB := XB.below hb
    replace XW := XW.below hb
    replace A7 := A7.kept hb
    replace PB := PB.below hb
    replace PW := PW.below hb
    replace A9 := A9.kept hb
    replace UB := UB.below hb
    replace UW := UW.below hb
    replace A12 := A12.kept hb
    replace B := B.trans (hb.mono B.size)
    clear hb
    obtain ⟨W17, hW17⟩ : ∃ W, W = w16.alloc (.cells #[.slice gB gn gc, .slice gW gm gk] 25) := ⟨_, rfl⟩
    have A14 : Arr W17 w16.heap.size 25 [.slice gB gn gc, .slice gW gm gk] := by rw [hW17]; exact Arr.new _ _ _
    have hbl : Below w16.heap.size w16 W17 := by rw [hW17]; exact (Below.refl _ _).alloc (Nat.le_refl _) _
    replace FR := FR.below hbl
    replace Q := Q.below hbl
    replace QM := QM.below hbl
    replace A3 := A3.kept hbl
    replace XB := XB.below hbl
    replace XW := XW.below hbl
    replace A7 := A7.kept hbl
    replace PB := PB.below hbl
    replace PW := PW.below hbl
    replace A9 := A9.kept hbl
    replace UB := UB.below hbl
    replace UW := UW.below hbl
    replace A12 := A12.kept hbl
    replace GR := GR.below hbl
    replace QQ := QQ.below hbl
    replace B := B.trans (hbl.mono B.size)
    clear hbl
    have c18 := arr2 A14
    rw [hW17] at c18
    go_wp2_with fail
    rw [← hW17]
    clear hW17
    clear c18
    refine (tornErase_i gB gn gc gW gm gk es vs s ha nq cq qs _ GR.b GR.w (by omega) (by omega) hs1 hs2 QQ (by omega)).mono ?_
    rintro e w19 ⟨v, rfl, f, hb⟩
    obtain ⟨D, hC⟩ : ∃ C, C = teC es vs s qs := ⟨_, rfl⟩
    obtain ⟨EL, hLB⟩ : ∃ L, L = teB es vs s qs := ⟨_, rfl⟩
    obtain ⟨EV, hLW⟩ : ∃ L, L = teW es vs s qs := ⟨_, rfl⟩
    rw [← hLB, ← hLW] at f
    rw [← hC]
    have HD : Hid _ := hC
    have HEL : Hid _ := hLB
    have HEV : Hid _ := hLW
    clear hC hLB hLW
    obtain ⟨fa, fc, ga, gc9, rfl, O⟩ := f
    obtain ⟨ke, hmB⟩ : ∃ m, m = EL.length := ⟨_, rfl⟩
    obtain ⟨kf, hmW⟩ : ∃ m, m = EV.length := ⟨_, rfl⟩
    rw [← hmB, ← hmW] at O ⊢
    have Hke : Hid _ := hmB
    have Hkf : Hid _ := hmW
    clear hmB hmW
    have EB : Bs w19 fa ke fc EL := bs_of_own O.ob (by rw [HEL.out]; exact teB_byte HEB.out vs s qs)
    have EW : Is w19 ga kf gc9 EV := is_of_own O.ow (by rw [HEV.out]; exact teW_int es HVB.out s qs)
    clear O
    have bke : ke ≤ 3072 := by rw [Hke.out, HEL.out]; exact teB_len es vs s qs
    have bkf : kf ≤ 48 := by rw [Hkf.out, HEV.out]; exact teW_len es vs s qs
    replace FR := FR.below hb
    replace Q := Q.below hb
    replace QM := QM.below hb
    replace A3 := A3.kept hb
    replace XB := XB.below hb
    replace XW := XW.below hb
    replace A7 := A7.kept hb
    replace PB := PB.below hb
    replace PW := PW.below hb
    replace A9 := A9.kept hb
    replace UB := UB.below hb
    replace UW := UW.below hb
    replace A12 := A12.kept hb
    replace GR := GR.below hb
    replace QQ := QQ.below hb
    replace A14 := A14.kept hb
    replace B := B.trans (hb.mono B.size)
    clear hb
    obtain ⟨W20, hW20⟩ : ∃ W, W = w19.alloc (.cells #[.slice fa ke fc, .slice ga kf gc9] 25) := ⟨_, rfl⟩
    have A17 : Arr W20 w19.heap.size 25 [.slice fa ke fc, .slice ga kf gc9] := by rw [hW20]; exact Arr.new _ _ _
    have hbl : Below w19.heap.size w19 W20 := by rw [hW20]; exact (Below.refl _ _).alloc (Nat.le_refl _) _
    replace FR := FR.below hbl
    replace Q := Q.below hbl
    replace QM := QM.below hbl
    replace A3 := A3.kept hbl
    replace XB := XB.below hbl
    replace XW := XW.below hbl
    replace A7 := A7.kept hbl
    replace PB := PB.below hbl
    replace PW := PW.below hbl
    replace A9 := A9.kept hbl
    replace UB := UB.below hbl
    replace UW := UW.below hbl
    replace A12 := A12.kept hbl
    replace GR := GR.below hbl
    replace QQ := QQ.below hbl
    replace A14 := A14.kept hbl
    replace EB := EB.below hbl
    replace EW := EW.below hbl
    replace B := B.trans (hbl.mono B.size)
    clear hbl
    by_cases hD : D = 0
    case neg =>
      have hD' : (D == 0) = false := by simpa using hD
      clear hD
      have c21 := arr2 A12
      rw [hW20] at c21
      have c22 := arr2 A9
      rw [hW20] at c22
      go_wp2_with fail
      rw [← hW20]
      clear hW20
      clear c21 c22
      refine (sameFlashT ua K uc va mW vc (some ⟨b9, o9, none⟩) pc qa qc XL LW _ UB UW PB PW (by omega)).mono ?_
      rintro e w23 ⟨rfl, hb⟩
      replace FR := FR.below hb
      replace Q := Q.below hb
      replace QM := QM.below hb
      replace A3 := A3.kept hb
      replace XB := XB.below hb
      replace XW := XW.below hb
      replace A7 := A7.kept hb
      replace PB := PB.below hb
      replace PW := PW.below hb
      replace A9 := A9.kept hb
      replace UB := UB.below hb
      replace UW := UW.below hb
      replace A12 := A12.kept hb
      replace GR := GR.below hb
      replace QQ := QQ.below hb
      replace A14 := A14.kept hb
      replace EB := EB.below hb
      replace EW := EW.below hb
      replace A17 := A17.kept hb
      replace B := B.trans (hb.mono B.size)
      clear hb
      go_wp2_with fail
      refine (flashesC _).mono ?_
      rintro e w24 ⟨rfl, hb⟩
      replace FR := FR.below hb
      replace Q := Q.below hb
      replace QM := QM.below hb
      replace A3 := A3.kept hb
      replace XB := XB.below hb
      replace XW := XW.below hb
      replace A7 := A7.kept hb
      replace PB := PB.below hb
      replace PW := PW.below hb
      replace A9 := A9.kept hb
      replace UB := UB.below hb
      replace UW := UW.below hb
      replace A12 := A12.kept hb
      replace GR := GR.below hb
      replace QQ := QQ.below hb
      replace A14 := A14.kept hb
      replace EB := EB.below hb
      replace EW := EW.below hb
      replace A17 := A17.kept hb
      replace B := B.trans (hb.mono B.size)
      clear hb
      go_wp2
      go_ret
      exact ⟨rfl, B⟩
    obtain ⟨tE, hsr, hx2⟩ : tOk es vs qs = true ∧ (0 ≤ s ∧ s < 48) ∧ vs.getD s.toNat 0 ≠ 200 := by
      have h := HD.out
      rw [hD] at h
      unfold teC at h
      cases h1 : tOk es vs qs with
      | false => rw [h1] at h; simp at h
      | true =>
        rw [h1, if_pos rfl] at h
        by_cases h2 : 0 ≤ s ∧ s < 48
        · rw [if_pos h2] at h
          refine ⟨rfl, h2, fun h3 => ?_⟩
          rw [if_pos h3] at h
          simp at h
        · rw [if_neg h2] at h; simp at h
    obtain ⟨S, rfl⟩ : ∃ S : Nat, s = (S : Int) := ⟨s.toNat, by omega⟩
    rw [Int.toNat_natCast] at hx2
    obtain ⟨m1, m2, m3, _⟩ := tOk_len tE
    have hz2 : teC es vs S qs = 0 := by rw [← HD.out]; exact hD
    have hEL : EL = tn (ef qs) es (S * 64) 64 := by rw [HEL.out]; unfold teB; rw [tE, if_pos rfl, if_pos hz2]; simp
    have hEV : EV = vs.set S (vs.getD S 0 + 1) := by rw [HEV.out]; unfold teW; rw [tE, if_pos rfl, if_pos hz2]; simp
    have hfo : flOk es vs = true := flOk_iff.2 ⟨m1, m2, m3⟩
    have hfu : flOk EL EV = true := by rw [hEL, hEV]; exact flOk_er hfo S (by omega) hx2 _ _ _
    have gke : ke = gn := by rw [Hke.out, hEL, tn_len, HLE.out]
    subst gke
    have gkf : kf = gm := by rw [Hkf.out, hEV, List.length_set, HLV.out]
    subst gkf
    have HNE : Hid (ke = 3072) := by unfold Hid; rw [← HLE.out]; exact m1
    have HNF : Hid (kf = 48) := by unfold Hid; rw [← HLV.out]; exact m2
    have kpos : 0 < ke := by have := HNE.out; omega
    have hS48 : S < 48 := by omega
    have HFU : Hid _ := hfu
    have HE9 : Hid _ := hEL
    clear hfo hx2 m1 m2 m3 tE hz2 hEL hEV hfu
    subst hD
    obtain ⟨b4, o4, rfl⟩ : ∃ b o, gB = some ⟨b, o, none⟩ := by
      rcases GR.b.2.2.2.2 with h | ⟨b, o, e, _⟩
      · omega
      · exact ⟨b, o, e⟩
    obtain ⟨b5, o5, rfl⟩ : ∃ b o, fa = some ⟨b, o, none⟩ := by
      rcases EB.2.2.2.2 with h | ⟨b, o, e, _⟩
      · omega
      · exact ⟨b, o, e⟩
    have hne2 : ((ke : Int) != (ke : Int)) = false := by simp
    have hne3 : ((kf : Int) != (kf : Int)) = false := by simp
    have c25 := arr2 A14
    rw [hW20] at c25
    have c26 := arr2 A17
    rw [hW20] at c26
    go_wp2
    rw [← hW20]
    clear hW20
    clear c25 c26
    obtain ⟨N9, hN9⟩ : ∃ N, N = K := ⟨_, rfl⟩
    subst hN9
    go_loopw [19] (fun k wr => ∃ K : Nat, K ≤ ke ∧ k = .int .i64 K ∧ Below W20.heap.size W20 wr) (fun k _ => ke - (intOf k).toNat)
    case atStart => exact ⟨0, Nat.zero_le _, rfl, Below.refl _ _⟩
    case round =>
      obtain ⟨K, hK, rfl, bk⟩ := hrel
      have FRk := FR.below bk
      have Qk := Q.below bk
      have QMk := QM.below bk
      have A3k := A3.kept bk
      have XBk := XB.below bk
      have XWk := XW.below bk
      have A7k := A7.kept bk
      have PBk := PB.below bk
      have PWk := PW.below bk
      have A9k := A9.kept bk
      have UBk := UB.below bk
      have UWk := UW.below bk
      have A12k := A12.kept bk
      have GRk := GR.below bk
      have QQk := QQ.below bk
      have A14k := A14.kept bk
      have EBk := EB.below bk
      have EWk := EW.below bk
      have A17k := A17.kept bk
      by_cases hlt : K < ke
      case pos =>
        have hltI : (K : Int) < (ke : Int) := by omega
        have dA14 := arr2 A14k
        have dA17 := arr2 A17k
        obtain ⟨y4, ey4⟩ : ∃ y, y = es.getD K 0 := ⟨_, rfl⟩
        have c4 : wr.cell? ⟨b4, o4 + K, none⟩ = some (.int .u8 y4) := by
          rw [ey4]
          rcases GRk.b.2.2.2.2 with h | ⟨b, o, e, _, h⟩
          · omega
          · cases e; exact h K (by omega)
        obtain ⟨y5, ey5⟩ : ∃ y, y = EL.getD K 0 := ⟨_, rfl⟩
        have c5 : wr.cell? ⟨b5, o5 + K, none⟩ = some (.int .u8 y5) := by
          rw [ey5]
          rcases EBk.2.2.2.2 with h | ⟨b, o, e, _, h⟩
          · omega
          · cases e; exact h K (by omega)
        have lb4 : b4 < wr.heap.size := by
          rcases GRk.b.2.2.2.2 with h | ⟨b, o, e, h, _⟩
          · omega
          · cases e; exact h
        have lb5 : b5 < wr.heap.size := by
          rcases EBk.2.2.2.2 with h | ⟨b, o, e, h, _⟩
          · omega
          · cases e; exact h
        have han : bits .and .u8 y5 y4 = y4 := by rw [ey5, ey4, HE9.out]; exact torn_er es qs (S * 64) 64 K (by rw [HLE.out]; exact hlt) HEB.out
        have h44 : (y4 != y4) = false := by simp
        clear ey4 ey5
        go_wp2
        try simp only [Act.put]
        refine tameG [kc 160 (.pointer (some ⟨w19.heap.size, 0, none⟩)), kc 161 (.slice (some ⟨b5, o5, none⟩) ke fc), kc 162 (.int .i64 (K : Int)), kc 163 (.pointer (some ⟨b5, o5 + K, none⟩)), kc 164 (.int .u8 (y5)), kc 165 (.pointer (some ⟨w16.heap.size, 0, none⟩)), kc 166 (.slice (some ⟨b4, o4, none⟩) ke gc), kc 167 (.int .i64 (K : Int)), kc 168 (.pointer (some ⟨b4, o4 + K, none⟩)), kc 169 (.int .u8 (y4)), kc 170 (.int .u8 (y4)), kc 171 (.pointer (some ⟨w16.heap.size, 0, none⟩)), kc 172 (.slice (some ⟨b4, o4, none⟩) ke gc), kc 173 (.int .i64 (K : Int)), kc 174 (.pointer (some ⟨b4, o4 + K, none⟩)), kc 175 (.int .u8 (y4)), kc 176 (.bool false)] 17 (by kernel_rfl) (by kernel_rfl) (by kernel_rfl) (by repeat' first | exact trivial | apply kc_keeps | constructor) 0 (by kernel_rfl) (fun vv ll hh yW bW => ?_) (fun vv ll hh yW bW F ivh aph => ?_)
        · have x4 := (bW.cell (p := ⟨w16.heap.size, 0, none⟩) A14k.lt).trans dA14.1
          have x5 := (bW.cell (p := ⟨w19.heap.size, 0, none⟩) A17k.lt).trans dA17.1
          have v4 := (bW.cell (p := ⟨b4, _, none⟩) lb4).trans c4
          have v5 := (bW.cell (p := ⟨b5, _, none⟩) lb5).trans c5
          refine ⟨og (tp (by kernel_rfl)) (by kernel_rfl), og (tp ?_) (by kernel_rfl), og (tp (by kernel_rfl)) (by kernel_rfl), og (tp ?_) (by kernel_rfl), og (tp ?_) (by kernel_rfl), og (tp (by kernel_rfl)) (by kernel_rfl), og (tp ?_) (by kernel_rfl), og (tp (by kernel_rfl)) (by kernel_rfl), og (tp ?_) (by kernel_rfl), og (tp ?_) (by kernel_rfl), og (tp ?_) (by kernel_rfl), og (tp (by kernel_rfl)) (by kernel_rfl), og (tp ?_) (by kernel_rfl), og (tp (by kernel_rfl)) (by kernel_rfl), og (tp ?_) (by kernel_rfl), og (tp ?_) (by kernel_rfl), og (tp ?_) (by kernel_rfl), trivial⟩
          all_goals
            simp only [fillK, putT, List.setIfInBounds_toArray, List.set_cons_zero, List.set_cons_succ]
            unfold execOp
            go_simp
            try rfl
        clear F ivh aph
        obtain ⟨y, hy⟩ : ∃ z, z = yW := ⟨_, rfl⟩
        rw [← hy] at bW ⊢
        clear hy
        refine wpAny_done (by kernel_rfl) ?_ _
        simp only [fillK, putT, List.setIfInBounds_toArray, List.set_cons_zero, List.set_cons_succ]
        have bF : Below W20.heap.size W20 y := bk.trans (bW.mono bk.size)
        clear bW bk FRk Qk QMk A3k XBk XWk A7k PBk PWk A9k UBk UWk A12k GRk QQk A14k EBk EWk A17k dA14 dA17
        go_wp2
        go_roundw
        case rel => exact ⟨K + 1, by omega, by go_num, bF⟩
        case measure => simp [intOf]; omega
      have hKn : K = ke := by omega
      clear hlt
      have hbk := bk
      clear bk FRk Qk QMk A3k XBk XWk A7k PBk PWk A9k UBk UWk A12k GRk QQk A14k EBk EWk A17k
      replace FR := FR.below hbk
      replace Q := Q.below hbk
      replace QM := QM.below hbk
      replace A3 := A3.kept hbk
      replace XB := XB.below hbk
      replace XW := XW.below hbk
      replace A7 := A7.kept hbk
      replace PB := PB.below hbk
      replace PW := PW.below hbk
      replace A9 := A9.kept hbk
      replace UB := UB.below hbk
      replace UW := UW.below hbk
      replace A12 := A12.kept hbk
      replace GR := GR.below hbk
      replace QQ := QQ.below hbk
      replace A14 := A14.kept hbk
      replace EB := EB.below hbk
      replace EW := EW.below hbk
      replace A17 := A17.kept hbk
      replace B := B.trans (hbk.mono B.size)
      clear hbk
      have HKe : Hid _ := hKn
      clear hKn
      have c1 := arr2 A17
      have c2 := arr2 A14
      have hKe : K = ke := HKe.out
      subst hKe
      go_wp2_with fail
      clear c1 c2
      refine (erase_i (some ⟨b5, o5, none⟩) K fc ga kf gc9 EL EV (S : Int) _ EB EW (by omega) (by omega) hs1 hs2).mono ?_
      rintro e w27 ⟨v, rfl, f, hb⟩
      obtain ⟨E2, hC⟩ : ∃ C, C = teC EL EV (S : Int) [255] := ⟨_, rfl⟩
      obtain ⟨VL, hLB⟩ : ∃ L, L = teB EL EV (S : Int) [255] := ⟨_, rfl⟩
      obtain ⟨VV, hLW⟩ : ∃ L, L = teW EL EV (S : Int) [255] := ⟨_, rfl⟩
      rw [← hLB, ← hLW] at f
      rw [← hC]
      have HE2 : Hid _ := hC
      have HVL : Hid _ := hLB
      have HVV : Hid _ := hLW
      clear hC hLB hLW
      obtain ⟨ja, jc, ka, kc9, rfl, O⟩ := f
      obtain ⟨kg, hmB⟩ : ∃ m, m = VL.length := ⟨_, rfl⟩
      obtain ⟨kh, hmW⟩ : ∃ m, m = VV.length := ⟨_, rfl⟩
      rw [← hmB, ← hmW] at O ⊢
      have Hkg : Hid _ := hmB
      have Hkh : Hid _ := hmW
      clear hmB hmW
      have VB : Bs w27 ja kg jc VL := bs_of_own O.ob (by rw [HVL.out]; exact teB_byte EB.2.2.2.1 EV S [255])
      have VW : Is w27 ka kh kc9 VV := is_of_own O.ow (by rw [HVV.out]; exact teW_int EL EW.2.2.2.1 S [255])
      clear O
      have bkg : kg ≤ 3072 := by rw [Hkg.out, HVL.out]; exact teB_len EL EV S [255]
      have bkh : kh ≤ 48 := by rw [Hkh.out, HVV.out]; exact teW_len EL EV S [255]
      replace FR := FR.below hb
      replace Q := Q.below hb
      replace QM := QM.below hb
      replace A3 := A3.kept hb
      replace XB := XB.below hb
      replace XW := XW.below hb
      replace A7 := A7.kept hb
      replace PB := PB.below hb
      replace PW := PW.below hb
      replace A9 := A9.kept hb
      replace UB := UB.below hb
      replace UW := UW.below hb
      replace A12 := A12.kept hb
      replace GR := GR.below hb
      replace QQ := QQ.below hb
      replace A14 := A14.kept hb
      replace EB := EB.below hb
      replace EW := EW.below hb
      replace A17 := A17.kept hb
      replace B := B.trans (hb.mono B.size)
      clear hb
      obtain ⟨W28, hW28⟩ : ∃ W, W = w27.alloc (.cells #[.slice ja kg jc, .slice ka kh kc9] 25) := ⟨_, rfl⟩
      have A20 : Arr W28 w27.heap.size 25 [.slice ja kg jc, .slice ka kh kc9] := by rw [hW28]; exact Arr.new _ _ _
      have hbl : Below w27.heap.size w27 W28 := by rw [hW28]; exact (Below.refl _ _).alloc (Nat.le_refl _) _
      replace FR := FR.below hbl
      replace Q := Q.below hbl
      replace QM := QM.below hbl
      replace A3 := A3.kept hbl
      replace XB := XB.below hbl
      replace XW := XW.below hbl
      replace A7 := A7.kept hbl
      replace PB := PB.below hbl
      replace PW := PW.below hbl
      replace A9 := A9.kept hbl
      replace UB := UB.below hbl
      replace UW := UW.below hbl
      replace A12 := A12.kept hbl
      replace GR := GR.below hbl
      replace QQ := QQ.below hbl
      replace A14 := A14.kept hbl
      replace EB := EB.below hbl
      replace EW := EW.below hbl
      replace A17 := A17.kept hbl
      replace VB := VB.below hbl
      replace VW := VW.below hbl
      replace B := B.trans (hbl.mono B.size)
      clear hbl
      have hkfS : S < kf := by have := HNF.out; omega
      obtain ⟨x, ex⟩ : ∃ x, x = EV.getD S 0 := ⟨_, rfl⟩
      have hEVl := EW.2.1
      have hwm : x ≤ wmost EL EV := by rw [ex]; unfold wmost; rw [HFU.out, if_pos rfl]; exact most_ge EV S (by omega)
      obtain ⟨bw, ow, rfl, hbw, cw⟩ : ∃ b o, ga = some ⟨b, o, none⟩ ∧ b < W28.heap.size ∧ W28.cell? ⟨b, o + S, none⟩ = some (.int .i64 x) := by
        rcases EW.2.2.2.2 with h | ⟨b, o, e, h1, h⟩
        · omega
        · exact ⟨b, o, e, h1, by rw [ex]; exact h S hkfS⟩
      obtain ⟨M9, hM9⟩ : ∃ M, M = wmost EL EV := ⟨_, rfl⟩
      rw [← hM9] at hwm
      have HM9 : Hid _ := hM9
      clear hM9 ex
      have hxn : ¬ (M9 < x) := by omega
      have hSI : (S : Int) < (kf : Int) := by omega
      have hSw : IntKind.i64.wrap ((S : Int) * 64) = (S : Int) * 64 := by rw [IntKind.wrap_i64]; omega
      have cA17 := arr2 A17
      have cA20 := arr2 A20
      have HFD : Hid _ := hW28
      by_cases hE2 : E2 = 0
      · have HBK : Hid (blankF VL VV ((S * 64 : Nat) : Int) 64 = true) := by
          unfold Hid
          have h := HE2.out
          rw [hE2] at h
          have tU : tOk EL EV [255] = true := by unfold tOk; rw [HFU.out]; decide
          have hx2 : EV.getD S 0 ≠ 200 := by
            intro h3
            unfold teC at h
            rw [tU, if_pos rfl, if_pos ⟨by omega, by omega⟩, Int.toNat_natCast, if_pos h3] at h
            simp at h
          have hz : teC EL EV S [255] = 0 := h.symm
          have e1 : VL = tn (ef [255]) EL (S * 64) 64 := by rw [HVL.out]; unfold teB; rw [tU, if_pos rfl, if_pos hz]; simp
          have e2 : VV = EV.set S (EV.getD S 0 + 1) := by rw [HVV.out]; unfold teW; rw [tU, if_pos rfl, if_pos hz]; simp
          rw [e1, e2]
          exact blank_er HFU.out S hS48 hx2
        have hE3 : (E2 == 0) = true := by simpa using hE2
        clear hE2
        rw [hW28] at cA17 cA20 cw
        go_wp2
        rw [← hW28] at cA17 cA20 cw ⊢
        clear hW28 HFD
        try simp only [Act.put]
        refine tameG [kc 183 (.int .i64 E2), kc 184 (.bool true), kc 185 (.bool true), kc 186 (.agg #[.slice ja kg jc, .slice ka kh kc9]), kc 187 (.int .i64 (S : Int)), kc 188 (.int .i64 ((S : Int) * 64)), kc 189 (.bool true), kc 190 (.bool false), kc 191 (.bool false), kc 192 (.bool false), kc 193 (.agg #[.slice (some ⟨b5, o5, none⟩) K fc, .slice (some ⟨bw, ow, none⟩) kf gc9]), kc 194 (.int .i64 M9), kc 195 (.pointer (some ⟨w19.heap.size, 1, none⟩)), kc 196 (.slice (some ⟨bw, ow, none⟩) kf gc9), kc 197 (.int .i64 (S : Int)), kc 198 (.pointer (some ⟨bw, ow + S, none⟩)), kc 199 (.int .i64 x), kc 200 (.bool false), kc 201 (.bool false)] 19 (by kernel_rfl) (by kernel_rfl) (by kernel_rfl) (by repeat' first | exact trivial | apply kc_keeps | constructor) 0 (by kernel_rfl) (fun vv ll hh yW bW => ?_) (fun vv ll hh yW bW F ivh aph => ?_)
        · have x0 := (bW.cell (p := ⟨w19.heap.size, 0, none⟩) A17.lt).trans cA17.1
          have x1 := (bW.cell (p := ⟨w19.heap.size, 1, none⟩) A17.lt).trans cA17.2
          have x2 := (bW.cell (p := ⟨w27.heap.size, 0, none⟩) A20.lt).trans cA20.1
          have x3 := (bW.cell (p := ⟨w27.heap.size, 1, none⟩) A20.lt).trans cA20.2
          have x4 := (bW.cell (p := ⟨bw, _, none⟩) hbw).trans cw
          have WM := wear_i (some ⟨b5, o5, none⟩) K fc (some ⟨bw, ow, none⟩) kf gc9 EL EV yW (EB.below bW) (EW.below bW) (by omega) (by omega)
          rw [← HM9.out] at WM
          have BK := blank_i ja kg jc ka kh kc9 VL VV ((S : Int) * 64) 64 yW (VB.below bW) (VW.below bW) (by omega) (by omega) (by omega) (by omega) (by omega) (by omega)
          rw [show blankF VL VV ((S : Int) * 64) 64 = true from HBK.out] at BK
          refine ⟨og (tp (by kernel_rfl)) (by kernel_rfl), og (tp ?_) (by kernel_rfl), og (tp (by kernel_rfl)) (by kernel_rfl), og (tp ?_) (by kernel_rfl), og (tp (by kernel_rfl)) (by kernel_rfl), og (tp ?_) (by kernel_rfl), og (tc (BK) (by kernel_rfl)) (by kernel_rfl), og (tp (by kernel_rfl)) (by kernel_rfl), og (tp (by kernel_rfl)) (by kernel_rfl), og (tp (by kernel_rfl)) (by kernel_rfl), og (tp ?_) (by kernel_rfl), og (tc (WM) (by kernel_rfl)) (by kernel_rfl), og (tp (by kernel_rfl)) (by kernel_rfl), og (tp ?_) (by kernel_rfl), og (tp (by kernel_rfl)) (by kernel_rfl), og (tp ?_) (by kernel_rfl), og (tp ?_) (by kernel_rfl), og (tp ?_) (by kernel_rfl), og (tp (by kernel_rfl)) (by kernel_rfl), trivial⟩
          all_goals
            simp only [fillK, putT, List.setIfInBounds_toArray, List.set_cons_zero, List.set_cons_succ]
            unfold execOp
            go_simp
            try rfl
        clear F ivh aph
        obtain ⟨y, hy⟩ : ∃ z, z = yW := ⟨_, rfl⟩
        rw [← hy] at bW ⊢
        clear hy
        refine wpAny_done (by kernel_rfl) ?_ _
        simp only [fillK, putT, List.setIfInBounds_toArray, List.set_cons_zero, List.set_cons_succ]
        have hbW : Below W28.heap.size W28 y := bW
        clear bW cA17 cA20 cw hbw
        replace FR := FR.below hbW
        replace Q := Q.below hbW
        replace QM := QM.below hbW
        replace A3 := A3.kept hbW
        replace XB := XB.below hbW
        replace XW := XW.below hbW
        replace A7 := A7.kept hbW
        replace PB := PB.below hbW
        replace PW := PW.below hbW
        replace A9 := A9.kept hbW
        replace UB := UB.below hbW
        replace UW := UW.below hbW
        replace A12 := A12.kept hbW
        replace GR := GR.below hbW
        replace QQ := QQ.below hbW
        replace A14 := A14.kept hbW
        replace EB := EB.below hbW
        replace EW := EW.below hbW
        replace A17 := A17.kept hbW
        replace VB := VB.below hbW
        replace VW := VW.below hbW
        replace A20 := A20.kept hbW
        replace B := B.trans (hbW.mono B.size)
        clear hbW
        have c29 := arr2 A12
        have c30 := arr2 A9
        go_wp2_with fail
        clear c29 c30
        refine (sameFlashT ua N9 uc va mW vc (some ⟨b9, o9, none⟩) pc qa qc XL LW _ UB UW PB PW (by omega)).mono ?_
        rintro e w31 ⟨rfl, hb⟩
        replace FR := FR.below hb
        replace Q := Q.below hb
        replace QM := QM.below hb
        replace A3 := A3.kept hb
        replace XB := XB.below hb
        replace XW := XW.below hb
        replace A7 := A7.kept hb
        replace PB := PB.below hb
        replace PW := PW.below hb
        replace A9 := A9.kept hb
        replace UB := UB.below hb
        replace UW := UW.below hb
        replace A12 := A12.kept hb
        replace GR := GR.below hb
        replace QQ := QQ.below hb
        replace A14 := A14.kept hb
        replace EB := EB.below hb
        replace EW := EW.below hb
        replace A17 := A17.kept hb
        replace VB := VB.below hb
        replace VW := VW.below hb
        replace A20 := A20.kept hb
        replace B := B.trans (hb.mono B.size)
        clear hb
        go_wp2_with fail
        refine (flashesC _).mono ?_
        rintro e w32 ⟨rfl, hb⟩
        replace FR := FR.below hb
        replace Q := Q.below hb
        replace QM := QM.below hb
        replace A3 := A3.kept hb
        replace XB := XB.below hb
        replace XW := XW.below hb
        replace A7 := A7.kept hb
        replace PB := PB.below hb
        replace PW := PW.below hb
        replace A9 := A9.kept hb
        replace UB := UB.below hb
        replace UW := UW.below hb
        replace A12 := A12.kept hb
        replace GR := GR.below hb
        replace QQ := QQ.below hb
        replace A14 := A14.kept hb
        replace EB := EB.below hb
        replace EW := EW.below hb
        replace A17 := A17.kept hb
        replace VB := VB.below hb
        replace VW := VW.below hb
        replace A20 := A20.kept hb
        replace B := B.trans (hb.mono B.size)
        clear hb
        go_wp2
        go_ret
        exact ⟨rfl, B⟩
      · have hE3 : (E2 == 0) = false := by simpa using hE2
        clear hE2
        rw [hW28] at cA17 cA20 cw
        go_wp2
        rw [← hW28] at cA17 cA20 cw ⊢
        clear hW28 HFD
        try simp only [Act.put]
        refine tameG [kc 183 (.int .i64 E2), kc 184 (.bool false), kc 185 (.bool false), kc 186 (undef), kc 187 (undef), kc 188 (undef), kc 189 (undef), kc 190 (undef), kc 191 (.bool false), kc 192 (.bool false), kc 193 (.agg #[.slice (some ⟨b5, o5, none⟩) K fc, .slice (some ⟨bw, ow, none⟩) kf gc9]), kc 194 (.int .i64 M9), kc 195 (.pointer (some ⟨w19.heap.size, 1, none⟩)), kc 196 (.slice (some ⟨bw, ow, none⟩) kf gc9), kc 197 (.int .i64 (S : Int)), kc 198 (.pointer (some ⟨bw, ow + S, none⟩)), kc 199 (.int .i64 x), kc 200 (.bool false), kc 201 (.bool false)] 19 (by kernel_rfl) (by kernel_rfl) (by kernel_rfl) (by repeat' first | exact trivial | apply kc_keeps | constructor) 0 (by kernel_rfl) (fun vv ll hh yW bW => ?_) (fun vv ll hh yW bW F ivh aph => ?_)
        · have x0 := (bW.cell (p := ⟨w19.heap.size, 0, none⟩) A17.lt).trans cA17.1
          have x1 := (bW.cell (p := ⟨w19.heap.size, 1, none⟩) A17.lt).trans cA17.2
          have x2 := (bW.cell (p := ⟨w27.heap.size, 0, none⟩) A20.lt).trans cA20.1
          have x3 := (bW.cell (p := ⟨w27.heap.size, 1, none⟩) A20.lt).trans cA20.2
          have x4 := (bW.cell (p := ⟨bw, _, none⟩) hbw).trans cw
          have WM := wear_i (some ⟨b5, o5, none⟩) K fc (some ⟨bw, ow, none⟩) kf gc9 EL EV yW (EB.below bW) (EW.below bW) (by omega) (by omega)
          rw [← HM9.out] at WM
          refine ⟨og (tp (by kernel_rfl)) (by kernel_rfl), og (tp ?_) (by kernel_rfl), og (tp (by kernel_rfl)) (by kernel_rfl), ou (by kernel_rfl), ou (by kernel_rfl), ou (by kernel_rfl), ou (by kernel_rfl), ou (by kernel_rfl), og (tp (by kernel_rfl)) (by kernel_rfl), og (tp (by kernel_rfl)) (by kernel_rfl), og (tp ?_) (by kernel_rfl), og (tc (WM) (by kernel_rfl)) (by kernel_rfl), og (tp (by kernel_rfl)) (by kernel_rfl), og (tp ?_) (by kernel_rfl), og (tp (by kernel_rfl)) (by kernel_rfl), og (tp ?_) (by kernel_rfl), og (tp ?_) (by kernel_rfl), og (tp ?_) (by kernel_rfl), og (tp (by kernel_rfl)) (by kernel_rfl), trivial⟩
          all_goals
            simp only [fillK, putT, List.setIfInBounds_toArray, List.set_cons_zero, List.set_cons_succ]
            unfold execOp
            go_simp
            try rfl
        clear F ivh aph
        obtain ⟨y, hy⟩ : ∃ z, z = yW := ⟨_, rfl⟩
        rw [← hy] at bW ⊢
        clear hy
        refine wpAny_done (by kernel_rfl) ?_ _
        simp only [fillK, putT, List.setIfInBounds_toArray, List.set_cons_zero, List.set_cons_succ]
        have hbW : Below W28.heap.size W28 y := bW
        clear bW cA17 cA20 cw hbw
        replace FR := FR.below hbW
        replace Q := Q.below hbW
        replace QM := QM.below hbW
        replace A3 := A3.kept hbW
        replace XB := XB.below hbW
        replace XW := XW.below hbW
        replace A7 := A7.kept hbW
        replace PB := PB.below hbW
        replace PW := PW.below hbW
        replace A9 := A9.kept hbW
        replace UB := UB.below hbW
        replace UW := UW.below hbW
        replace A12 := A12.kept hbW
        replace GR := GR.below hbW
        replace QQ := QQ.below hbW
        replace A14 := A14.kept hbW
        replace EB := EB.below hbW
        replace EW := EW.below hbW
        replace A17 := A17.kept hbW
        replace VB := VB.below hbW
        replace VW := VW.below hbW
        replace A20 := A20.kept hbW
        replace B := B.trans (hbW.mono B.size)
        clear hbW
        have c33 := arr2 A12
        have c34 := arr2 A9
        go_wp2_with fail
        clear c33 c34
        refine (sameFlashT ua N9 uc va mW vc (some ⟨b9, o9, none⟩) pc qa qc XL LW _ UB UW PB PW (by omega)).mono ?_
        rintro e w35 ⟨rfl, hb⟩
        replace FR := FR.below hb
        replace Q := Q.below hb
        replace QM := QM.below hb
        replace A3 := A3.kept hb
        replace XB := XB.below hb
        replace XW := XW.below hb
        replace A7 := A7.kept hb
        replace PB := PB.below hb
        replace PW := PW.below hb
        replace A9 := A9.kept hb
        replace UB := UB.below hb
        replace UW := UW.below hb
        replace A12 := A12.kept hb
        replace GR := GR.below hb
        replace QQ := QQ.below hb
        replace A14 := A14.kept hb
        replace EB := EB.below hb
        replace EW := EW.below hb
        replace A17 := A17.kept hb
        replace VB := VB.below hb
        replace VW := VW.below hb
        replace A20 := A20.kept hb
        replace B := B.trans (hb.mono B.size)
        clear hb
        go_wp2_with fail
        refine (flashesC _).mono ?_
        rintro e w36 ⟨rfl, hb⟩
        replace FR := FR.below hb
        replace Q := Q.below hb
        replace QM := QM.below hb
        replace A3 := A3.kept hb
        replace XB := XB.below hb
        replace XW := XW.below hb
        replace A7 := A7.kept hb
        replace PB := PB.below hb
        replace PW := PW.below hb
        replace A9 := A9.kept hb
        replace UB := UB.below hb
        replace UW := UW.below hb
        replace A12 := A12.kept hb
        replace GR := GR.below hb
        replace QQ := QQ.below hb
        replace A14 := A14.kept hb
        replace EB := EB.below hb
        replace EW := EW.below hb
        replace A17 := A17.kept hb
        replace VB := VB.below hb
        replace VW := VW.below hb
        replace A20 := A20.kept hb
        replace B := B.trans (hb.mono B.size)
        clear hb
        go_wp2
        go_ret
        exact ⟨rfl, B⟩
end Go.Proofs.Ytcnlpdpbkkjkoaa
