/-
  What is proved here: the law FnMeets returns true at every code, and writes into nothing that was there.
-/
import Derived.Test.YtofflhhlacdgfaaDoorPd4
import Derived.Test.YtofflhhlacdgfaaDoorPm0
import Derived.Test.YtofflhhlacdgfaaDoorJM19
import Derived.Test.YtofflhhlacdgfaaDoorJM25
namespace Go.Proofs.YtofflhhlacdgfaaDoor
open Go.RowKit
set_option maxRecDepth 100000
set_option maxHeartbeats 8000000
set_option linter.unusedVariables false

theorem lk_no {B : BunM} (h : bOk B = false) : mtB B = false ∧ lkB B = [] := by
  constructor
  · unfold mtB
    rw [h]
    rfl
  · unfold lkB
    rw [h]
    rfl
theorem walk_fnMeets (w : World) (a : Option Addr) (n c : Nat) (xs : List Int) (hb : Bs w a n c xs) (hre : n ≤ 140737488351232) (hT : Tabs w ∧ TabF w) :
    Calls Tryd.prog 4 #[.slice a n c] w fun e w' => e = .returned (.bool true) ∧ Below w.heap.size w w' := by
  have HT : Hid (∀ Z, Below w.heap.size w Z → Tabs Z ∧ TabF Z) := fun Z hZ => ⟨hT.1.below hZ, hT.2.below hZ⟩
  have HX : Hid (Bs w a n c xs) := hb
  clear hb hT
  go_enter Tryd.func4, Tryd.ntmps4
  go_wp2_with fail
  refine (drawMeets a n c xs _ HX.out (by omega)).mono ?_
  rintro e w1 ⟨d, nb, f, pa, pn, pc, na, nn, nc, ps, ns, rfl, hP, hN, h4, h2, hb⟩
  have HL1 : Hid (Below w.heap.size w w1) := hb
  have HP : Hid (∀ Z, Below w1.heap.size w1 Z → Ps Z pa pn pc ps) := fun Z hZ => hP.below hZ
  have HB : Hid (∀ Z, Below w1.heap.size w1 Z → Calls Tryd.prog 12 #[.agg #[.int .i64 d, .int .i64 nb, .int .i64 f, .slice pa pn pc, .slice na nn nc]] Z fun e w' => e = .returned (.bool (bOk ⟨d, nb, f, ps, ns⟩)) ∧ Below Z.heap.size Z w') := fun Z hZ => spec8BundleOk pa pn pc na nn nc ⟨d, nb, f, ps, ns⟩ Z (hP.below hZ) (hN.below hZ)
  have HK : Hid (∀ Z, Below w1.heap.size w1 Z → Calls Tryd.prog 20 #[.agg #[.int .i64 d, .int .i64 nb, .int .i64 f, .slice pa pn pc, .slice na nn nc]] Z fun e w' => ∃ v, e = .returned v ∧ w'.ownsRow Z.heap.size 41 4 v (lkB ⟨d, nb, f, ps, ns⟩).length (FL ((lkB ⟨d, nb, f, ps, ns⟩).map nrc)) ∧ Below Z.heap.size Z w') := fun Z hZ => implLacks pa pn pc na nn nc ⟨d, nb, f, ps, ns⟩ Z (hP.below hZ) (hN.below hZ)
  have HM : Hid (∀ Z, Below w1.heap.size w1 Z → Calls Tryd.prog 21 #[.agg #[.int .i64 d, .int .i64 nb, .int .i64 f, .slice pa pn pc, .slice na nn nc]] Z fun e w' => e = .returned (.bool (mtB ⟨d, nb, f, ps, ns⟩)) ∧ Below Z.heap.size Z w') := fun Z hZ => implMeets pa pn pc na nn nc ⟨d, nb, f, ps, ns⟩ Z (hP.below hZ) (hN.below hZ)
  have HC : Hid (∀ na' nn' nc' ns' Z, Below w1.heap.size w1 Z → Ns Z na' nn' nc' ns' → Calls Tryd.prog 21 #[.agg #[.int .i64 d, .int .i64 nb, .int .i64 f, .slice pa pn pc, .slice na' nn' nc']] Z fun e w' => e = .returned (.bool (mtB ⟨d, nb, f, ps, ns'⟩)) ∧ Below Z.heap.size Z w') := fun na' nn' nc' ns' Z hZ h => implMeets pa pn pc na' nn' nc' ⟨d, nb, f, ps, ns'⟩ Z (hP.below hZ) h
  have HD : Hid (∀ na' nn' nc' ns' Z, Below w1.heap.size w1 Z → Ns Z na' nn' nc' ns' → Calls Tryd.prog 20 #[.agg #[.int .i64 d, .int .i64 nb, .int .i64 f, .slice pa pn pc, .slice na' nn' nc']] Z fun e w' => ∃ v, e = .returned v ∧ w'.ownsRow Z.heap.size 41 4 v (lkB ⟨d, nb, f, ps, ns'⟩).length (FL ((lkB ⟨d, nb, f, ps, ns'⟩).map nrc)) ∧ Below Z.heap.size Z w') := fun na' nn' nc' ns' Z hZ h => implLacks pa pn pc na' nn' nc' ⟨d, nb, f, ps, ns'⟩ Z (hP.below hZ) h
  have HNo : Hid (bOk ⟨d, nb, f, ps, ns⟩ = false → mtB ⟨d, nb, f, ps, ns⟩ = false ∧ lkB ⟨d, nb, f, ps, ns⟩ = []) := lk_no
  have HYes : Hid (bOk ⟨d, nb, f, ps, ns⟩ = true → mtB ⟨d, nb, f, ps, ns⟩ = decide ((lkB ⟨d, nb, f, ps, ns⟩).length = 0) ∧ mtB ⟨d, nb, f, ps, []⟩ = true ∧ mtB ⟨d, nb, f, ps, lkB ⟨d, nb, f, ps, ns⟩⟩ = decide ((lkB ⟨d, nb, f, ps, ns⟩).length = 0) ∧ lkB ⟨d, nb, f, ps, lkB ⟨d, nb, f, ps, ns⟩⟩ = lkB ⟨d, nb, f, ps, ns⟩) := fun h => ⟨mt_len h, mt_none h, mt_lack h, lk_lack h⟩
  have HLen : Hid ((lkB ⟨d, nb, f, ps, ns⟩).length ≤ 8) := lkB_len _
  generalize bOk ⟨d, nb, f, ps, ns⟩ = q at HB HNo HYes
  generalize mtB ⟨d, nb, f, ps, ns⟩ = mb at HM HNo HYes
  generalize lkB ⟨d, nb, f, ps, ns⟩ = L at HK HNo HYes HLen
  clear hP hN h4 h2 HX
  obtain ⟨X, hX⟩ : ∃ X, X = w1.alloc (.cells #[.int .i64 d, .int .i64 nb, .int .i64 f, .slice pa pn pc, .slice na nn nc] 26) := ⟨_, rfl⟩
  have A : Arr X w1.heap.size 26 [.int .i64 d, .int .i64 nb, .int .i64 f, .slice pa pn pc, .slice na nn nc] := by rw [hX]; exact Arr.new _ _ _
  have E1 : Below w1.heap.size w1 X := by rw [hX]; exact (Below.refl _ _).alloc (Nat.le_refl _) _
  obtain ⟨F3, hF3⟩ : ∃ F, F = w1.heap.size := ⟨_, rfl⟩
  rw [← hF3] at A
  go_upto_region 2 with fail
  rw [← hX]
  rw [← hF3]
  clear hX hF3 hb
  have c0 := A.cell 0
  have c1 := A.cell 1
  have c2 := A.cell 2
  have c3 := A.cell 3
  have c4 := A.cell 4
  simp at c0 c1 c2 c3 c4
  go_wp2_with fail
  refine (HK.out _ E1).mono ?_
  rintro e w2 ⟨v, rfl, o, hb⟩
  obtain ⟨va, vc, rfl, hRn⟩ := ns_of o
  replace A := A.kept hb
  replace E1 := E1.trans (hb.mono E1.size)
  have HR : Hid (∀ Z, Below w2.heap.size w2 Z → Ns Z va L.length vc L) := fun Z hZ => hRn.below hZ
  have lF : F3 < w2.heap.size := A.lt
  obtain ⟨m, hm⟩ : ∃ m, m = L.length := ⟨_, rfl⟩
  have HML : Hid (m = L.length) := hm
  rw [← hm] at HR ⊢
  clear o hb hRn c0 c1 c2 c3 c4 HK hm
  have c0 := A.cell 0
  have c1 := A.cell 1
  have c2 := A.cell 2
  have c3 := A.cell 3
  have c4 := A.cell 4
  simp at c0 c1 c2 c3 c4
  go_wp2_with fail
  refine (HB.out _ E1).mono ?_
  rintro e w3 ⟨rfl, hb⟩
  have A2 := A
  have HA2 : Hid (Arr w2 F3 26 [.int .i64 d, .int .i64 nb, .int .i64 f, .slice pa pn pc, .slice na nn nc]) := A
  have HE12 : Hid (Below w1.heap.size w1 w2) := E1
  replace A := A.kept hb
  replace E1 := E1.trans (hb.mono E1.size)
  have E2 : Below w2.heap.size w2 w3 := hb
  clear hb c0 c1 c2 c3 c4 HB A2
  cases q
  case false =>
    have hmb : mb = false := (HNo.out rfl).1
    have hL0 : L = [] := (HNo.out rfl).2
    subst hmb
    have hm0 : m = 0 := by rw [HML.out, hL0]; rfl
    subst hm0
    clear HYes HC HD hL0 HR HML
    have c0 := A.cell 0
    have c1 := A.cell 1
    have c2 := A.cell 2
    have c3 := A.cell 3
    have c4 := A.cell 4
    simp at c0 c1 c2 c3 c4
    go_wp2_with fail
    refine (HM.out _ E1).mono ?_
    rintro e w4 ⟨rfl, hb⟩
    have HZ : Hid (Below w.heap.size w w4) := HL1.out.trans ((E1.trans (hb.mono E1.size)).mono HL1.out.size)
    clear c0 c1 c2 c3 c4 hb E1 E2 A
    go_wp2_with fail
    refine (hashesT _ (HT.out _ HZ.out).1 (HT.out _ HZ.out).2).mono ?_
    rintro e w5 ⟨rfl, hb⟩
    have HZ2 : Hid (Below w.heap.size w w5) := HZ.out.trans (hb.mono HZ.out.size)
    clear hb
    go_wp2
    go_ret
    exact ⟨rfl, HZ2.out⟩
  obtain ⟨y1, y2, y3, y4⟩ := HYes.out rfl
  have Y1 : Hid (mb = decide (L.length = 0)) := y1
  have Y2 : Hid (mtB ⟨d, nb, f, ps, []⟩ = true) := y2
  have Y3 : Hid (mtB ⟨d, nb, f, ps, L⟩ = decide (L.length = 0)) := y3
  have Y4 : Hid (lkB ⟨d, nb, f, ps, L⟩ = L) := y4
  clear y1 y2 y3 y4 HYes HNo
  have c0 := A.cell 0
  have c1 := A.cell 1
  have c2 := A.cell 2
  have c3 := A.cell 3
  have c4 := A.cell 4
  simp at c0 c1 c2 c3 c4
  obtain ⟨Y, hY⟩ : ∃ Y, Y = w3.alloc (.cells #[.int .i64 d, .int .i64 nb, .int .i64 f, .slice pa pn pc, .slice none 0 0] 26) := ⟨_, rfl⟩
  have C : Arr Y w3.heap.size 26 [.int .i64 d, .int .i64 nb, .int .i64 f, .slice pa pn pc, .slice none 0 0] := by rw [hY]; exact Arr.new w3 [.int .i64 d, .int .i64 nb, .int .i64 f, .slice pa pn pc, .slice none 0 0] 26
  have z23 := E2.size
  replace E2 : Below w2.heap.size w2 Y := by rw [hY]; exact E2.alloc E2.size _
  obtain ⟨H5, hH5⟩ : ∃ H, H = w3.heap.size := ⟨_, rfl⟩
  rw [← hH5] at C
  have hH5' : w2.heap.size ≤ H5 := by omega
  go_upto_region 7 with fail
  rw [← hY]
  rw [← hH5]
  clear hY hH5 c0 c1 c2 c3 c4 A E1 z23
  go_wp2
  go_loopw [6] (fun i wr => ∃ (k : Nat) (v : Value), k ≤ m ∧ i = .int .i64 k ∧ Hid (wr.ownsRow w2.heap.size 41 4 v k (FL ((L.take k).map nrc))) ∧ Hid (Arr wr H5 26 [.int .i64 d, .int .i64 nb, .int .i64 f, .slice pa pn pc, v]) ∧ Hid (Below w2.heap.size w2 wr)) (fun i _ => m - (intOf i).toNat)
  case atStart => exact ⟨0, .slice none 0 0, by omega, rfl, World.ownsRow_nil _ _ _ _, C, E2⟩
  case round =>
    clear C E2
    obtain ⟨k, v, hk, rfl, HO, HCr, HE⟩ := hrel
    obtain ⟨qa, qc, rfl, _⟩ := ns_of HO.out
    by_cases hlt : (k : Int) < (m : Int)
    · have hltN : k < m := by omega
      have hm8 : m ≤ 8 := by have := HML.out; have := HLen.out; omega
      have h0k : (0 : Int) ≤ (k : Int) := Int.natCast_nonneg _
      have hwk : IntKind.i64.wrap ((k : Int) + 1) = (k : Int) + 1 := wr64 (by omega) (by omega)
      obtain ⟨lb, lo, rfl, hlb, hat⟩ : ∃ lb lo, va = some ⟨lb, lo, none⟩ ∧ lb < wr.heap.size ∧ NeedAt wr lb (lo + k * 4) (L.getD k nz) := by
        rcases (HR.out wr HE.out).2.2.2 with h | ⟨b, o, e, h1, h2⟩
        · omega
        · exact ⟨b, o, e, h1, h2 k hltN⟩
      have htk : L.take (k + 1) = L.take k ++ [L.getD k nz] := ns_snoc L k (by have := HML.out; omega)
      obtain ⟨x0, x1, x2, x3⟩ := hat
      have HTK : Hid (L.take (k + 1) = L.take k ++ [⟨(L.getD k nz).o, (L.getD k nz).f, (L.getD k nz).t, (L.getD k nz).k⟩]) := htk
      generalize (L.getD k nz).o = no at x0 HTK
      generalize (L.getD k nz).f = nf at x1 HTK
      generalize (L.getD k nz).t = nt at x2 HTK
      generalize (L.getD k nz).k = nk at x3 HTK
      clear htk
      have c4 := HCr.out.cell 4
      simp at c4
      have lC := HCr.out.lt
      go_upto_region 10 with fail
      try simp only [Act.put]
      refine tame [kc 34 (.pointer (some ⟨H5, 4, none⟩)), kc 35 (.slice qa k qc), kc 36 (.slice (some ⟨lb, lo, none⟩) m vc), kc 37 (.int .i64 (k : Int)), kc 38 (.pointer (some ⟨lb, lo + k * 4, none⟩)), kc 39 (.agg #[.int .i64 no, .int .i64 nf, .int .i64 nt, .int .i64 nk]), kslP 40 41 [.int .i64 no, .int .i64 nf, .int .i64 nt, .int .i64 nk] 1] 7 (by kernel_rfl) (by kernel_rfl) (by kernel_rfl) (by repeat' first | exact trivial | apply kc_keeps | apply kslP_keeps | constructor) 3 (by kernel_rfl) (fun vv ll hh yW bW => ?_) (fun vv ll hh yW bW F0 ivh aph => ?_)
      · have x4' := (bW.cell (p := ⟨H5, 4, none⟩) lC).trans c4
        have x0' := (bW.cell (p := ⟨lb, lo + k * 4, none⟩) hlb).trans x0
        have x1' := (bW.cell (p := ⟨lb, lo + k * 4 + 1, none⟩) hlb).trans x1
        have x2' := (bW.cell (p := ⟨lb, lo + k * 4 + 2, none⟩) hlb).trans x2
        have x3' := (bW.cell (p := ⟨lb, lo + k * 4 + 3, none⟩) hlb).trans x3
        refine ⟨tp (by kernel_rfl), tp ?_, tp (by kernel_rfl), tp (by kernel_rfl), tp ?_, tp ?_, tslP ?_, trivial⟩
        all_goals
          simp only [fillK, putT, List.setIfInBounds_toArray, List.set_cons_zero, List.set_cons_succ]
          unfold execOp
          try go_simp
          first | rfl | omega | skip
      obtain ⟨K1, _⟩ : Arr yW (ll 6) 41 [.int .i64 no, .int .i64 nf, .int .i64 nt, .int .i64 nk] ∧ ll 6 < hh 6 := F0.2.2.2.2.2.2.1
      clear F0 ivh aph
      obtain ⟨y, hy⟩ : ∃ z, z = yW := ⟨_, rfl⟩
      rw [← hy] at bW K1 ⊢
      clear hy
      have Ey := HE.out.trans (bW.mono HE.out.size)
      have Oy := own_below HO.out bW
      obtain ⟨v', w8, hr, ho, hg, _⟩ := run_app_nd y w2.heap.size (.slice qa k qc) k _ Oy (ll 6) 1 ⟨no, nf, nt, nk⟩ K1 (by omega) Ey.size
      have ho2 : w8.ownsRow w2.heap.size 41 4 v' (k + 1) (FL ((L.take (k + 1)).map nrc)) := by rw [HTK.out, List.map_append]; exact ho
      obtain ⟨ra, rc, rfl, _⟩ := ns_of ho2
      have C8 := (HCr.out.kept bW).gr Oy (by decide) hg
      have E8 : Below w2.heap.size w2 w8 := Ey.grown hg Ey.size (fun j hj => (World.ownsRow.lt Oy j hj).1)
      have HO9 : Hid (((w8.setCell ⟨H5, 4, none⟩ (.slice ra (k + 1) rc))).ownsRow w2.heap.size 41 4 (.slice ra (k + 1) rc) (k + 1) (FL ((L.take (k + 1)).map nrc))) := own_cellP ho2 C8 (by decide)
      have C9 := C8.set 4 (.slice ra (k + 1) rc)
      simp only [List.set_cons_zero, List.set_cons_succ] at C9
      have HC9 : Hid _ := C9
      have HE9 : Hid (Below w2.heap.size w2 (w8.setCell ⟨H5, 4, none⟩ (.slice ra (k + 1) rc))) := E8.setCell (p := ⟨H5, 4, none⟩) hH5' _
      refine st_val (i := 7) (o := { dst := some 41, op := Op.call { callee := Callee.builtin Builtin.append, args := #[Operand.tmp 35, Operand.tmp 40], argTypes := #[24, 24] }, type := 24, pos := "laws.go:411", after := #[{ on := 1, ground := Ground.data }, { on := 6, ground := Ground.data }], guard := none }) (v := .slice ra (k + 1) rc) (w' := w8) (by kernel_rfl) rfl rfl ?_ ?_
      · simp only [fillK, putT, List.setIfInBounds_toArray, List.set_cons_zero, List.set_cons_succ]
        unfold execOp
        simp only [resolve, invoke, builtin, Sem.run_bind, Sem.run_pure, Result.andThen_ok, List.map_toArray, List.map_cons, List.map_nil]
        exact congrArg (fun q => q.andThen fun a w' => Result.ok (Next.value a) w') hr
      have c4' := C8.cell 4
      simp at c4'
      have fC := C8.frozen
      refine st_set (i := 8) (o := { dst := some 42, op := Op.fieldAddr 26 (Operand.tmp 5) 4, type := 0, pos := "laws.go:411", after := #[{ on := 0, ground := Ground.phase }, { on := 1, ground := Ground.phase }, { on := 2, ground := Ground.phase }, { on := 3, ground := Ground.phase }, { on := 4, ground := Ground.phase }, { on := 5, ground := Ground.phase }, { on := 6, ground := Ground.phase }, { on := 7, ground := Ground.phase }], guard := none }) (by kernel_rfl) rfl rfl (v := .pointer (some ⟨H5, 4, none⟩)) (by kernel_rfl) ?_
      refine st_do (i := 9) (o := { dst := none, op := Op.store 24 (Operand.tmp 42) (Operand.tmp 41), type := 0, pos := "laws.go:411", after := #[{ on := 8, ground := Ground.data }, { on := 7, ground := Ground.data }, { on := 7, ground := Ground.chain }, { on := 0, ground := Ground.phase }, { on := 1, ground := Ground.phase }, { on := 2, ground := Ground.phase }, { on := 3, ground := Ground.phase }, { on := 4, ground := Ground.phase }, { on := 5, ground := Ground.phase }, { on := 6, ground := Ground.phase }, { on := 7, ground := Ground.phase }], guard := none }) (by kernel_rfl) rfl rfl rfl (w' := w8.setCell ⟨H5, 4, none⟩ (.slice ra (k + 1) rc)) ?_ ?_
      · try simp only [Act.put]
        simp only [fillK, putT, List.setIfInBounds_toArray, List.set_cons_zero, List.set_cons_succ]
        unfold execOp
        go_simp
      clear hr ho hg ho2 C8 C9 E8 Ey Oy K1 bW c4 c4' fC lC x0 x1 x2 x3 HO HCr HE
      refine wpAny_done (by kernel_rfl) ?_ _
      try simp only [Act.put]
      simp only [fillK, putT, List.setIfInBounds_toArray, List.set_cons_zero, List.set_cons_succ]
      go_wp2
      go_roundw
      case rel => exact ⟨k + 1, _, by omega, by go_num, HO9, HC9, HE9⟩
      case measure => simp [intOf]; omega
    · have hkm : k = m := by omega
      subst hkm
      have htk : L.take k = L := List.take_of_length_le (by have := HML.out; omega)
      rw [htk] at HO
      clear htk hk
      have A := HA2.out.below HE.out lF
      obtain ⟨_, _, eqv, hNs⟩ := ns_of HO.out
      injection eqv with eq1 eq2 eq3
      subst eq1
      subst eq3
      have hEw := HE.out
      have c0 := A.cell 0
      have c1 := A.cell 1
      have c2 := A.cell 2
      have c3 := A.cell 3
      have c4 := A.cell 4
      simp at c0 c1 c2 c3 c4
      obtain ⟨Z7, hZ7⟩ : ∃ Z, Z = wr.alloc (.cells #[.int .i64 d, .int .i64 nb, .int .i64 f, .slice pa pn pc, .slice none 0 0] 26) := ⟨_, rfl⟩
      have hbZ : Below wr.heap.size wr Z7 := by rw [hZ7]; exact (Below.refl _ _).alloc (Nat.le_refl _) _
      have G : Arr Z7 wr.heap.size 26 [.int .i64 d, .int .i64 nb, .int .i64 f, .slice pa pn pc, .slice none 0 0] := by rw [hZ7]; exact Arr.new _ _ _
      obtain ⟨H7, hH7⟩ : ∃ H, H = wr.heap.size := ⟨_, rfl⟩
      rw [← hH7] at G
      go_upto_region 13 with fail
      rw [← hZ7]
      rw [← hH7]
      clear hZ7 hH7 c0 c1 c2 c3 c4
      replace A := A.kept hbZ
      have C := HCr.out.kept hbZ
      have HNs : Hid (∀ Z, Below wr.heap.size wr Z → Ns Z qa k qc L) := fun Z hZ => hNs.below hZ
      have E : Below w2.heap.size w2 Z7 := hEw.trans (hbZ.mono hEw.size)
      have EN : Below wr.heap.size wr Z7 := hbZ
      clear hNs hEw hbZ HO HCr HE HA2 HR
      obtain ⟨zb, hzb⟩ : ∃ zb, zb = decide (L.length = 0) := ⟨_, rfl⟩
      rw [← hzb] at Y1 Y3
      have hkz : ((k : Int) == 0) = zb := by
        rw [hzb, ← HML.out]
        by_cases h : k = 0
        · simp [h]
        · rw [decide_eq_false h]; simp; omega
      have hmz := Y1.out
      subst hmz
      clear hzb Y1
      have c0 := A.cell 0
      have c1 := A.cell 1
      have c2 := A.cell 2
      have c3 := A.cell 3
      have c4 := A.cell 4
      simp at c0 c1 c2 c3 c4
      go_wp2_with fail
      refine (HM.out _ (HE12.out.trans (E.mono HE12.out.size))).mono ?_
      rintro e w4 ⟨rfl, hb⟩
      replace A := A.kept hb
      replace C := C.kept hb
      replace G := G.kept hb
      replace E := E.trans (hb.mono E.size)
      replace EN := EN.trans (hb.mono EN.size)
      clear hb c0 c1 c2 c3 c4 HM
      have c0 := G.cell 0
      have c1 := G.cell 1
      have c2 := G.cell 2
      have c3 := G.cell 3
      have c4 := G.cell 4
      simp at c0 c1 c2 c3 c4
      have hbb : (mb == mb) = true := by simp
      go_wp2_with fail
      refine (HC.out none 0 0 [] _ (HE12.out.trans (E.mono HE12.out.size)) ⟨fun _ => rfl, rfl, Nat.le_refl _, .inl rfl⟩).mono ?_
      rintro e w5 ⟨rfl, hb⟩
      rw [Y2.out]
      replace C := C.kept hb
      replace E := E.trans (hb.mono E.size)
      replace EN := EN.trans (hb.mono EN.size)
      clear hb c0 c1 c2 c3 c4 A G
      have c0 := C.cell 0
      have c1 := C.cell 1
      have c2 := C.cell 2
      have c3 := C.cell 3
      have c4 := C.cell 4
      simp at c0 c1 c2 c3 c4
      go_wp2_with fail
      refine (HC.out qa k qc L _ (HE12.out.trans (E.mono HE12.out.size)) (HNs.out _ EN)).mono ?_
      rintro e w6 ⟨rfl, hb⟩
      rw [Y3.out]
      replace C := C.kept hb
      replace E := E.trans (hb.mono E.size)
      replace EN := EN.trans (hb.mono EN.size)
      clear hb c0 c1 c2 c3 c4
      have c0 := C.cell 0
      have c1 := C.cell 1
      have c2 := C.cell 2
      have c3 := C.cell 3
      have c4 := C.cell 4
      simp at c0 c1 c2 c3 c4
      have hlen : (lkB ⟨d, nb, f, ps, L⟩).length = k := by rw [Y4.out, HML.out]
      have HD2 := HD.out qa k qc L _ (HE12.out.trans (E.mono HE12.out.size)) (HNs.out _ EN)
      rw [hlen] at HD2
      have HD3 : Hid _ := HD2
      clear HD2 hlen
      go_wp2_with fail
      refine Calls.mono HD3.out ?_
      rintro e w7 ⟨v, rfl, o, hb⟩
      obtain ⟨ta, tc, rfl, _, _⟩ := Rs.own o
      have HZ : Hid (Below w.heap.size w w7) := HL1.out.trans ((HE12.out.trans ((E.trans (hb.mono E.size)).mono HE12.out.size)).mono HL1.out.size)
      clear hb o HD3 c0 c1 c2 c3 c4 C E EN
      have hkk : ((k : Int) == (k : Int)) = true := by simp
      go_wp2
      go_ret
      exact ⟨rfl, HZ.out⟩
end Go.Proofs.YtofflhhlacdgfaaDoor
