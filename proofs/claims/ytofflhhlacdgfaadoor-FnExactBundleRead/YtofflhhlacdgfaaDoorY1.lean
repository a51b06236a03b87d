/-
  What is proved here: what the specification's l8bytes and BundleBytes answer.
-/
import Derived.Test.YtofflhhlacdgfaaDoorY0
import Derived.Test.YtofflhhlacdgfaaDoorT1b
import Derived.Test.YtofflhhlacdgfaaDoorJM21
import Derived.Test.YtofflhhlacdgfaaDoorJM19
import Derived.Test.YtofflhhlacdgfaaDoorJM20
import Derived.Deep.CutRange
namespace Go.Proofs.YtofflhhlacdgfaaDoor
open Go.RowKit Ma
set_option maxRecDepth 100000
set_option maxHeartbeats 8000000
set_option linter.unusedVariables false

theorem bl5 {xs : List Int} {L : Nat} {N : Int} (h : xs.length ≤ L) : (xs ++ numB N).length ≤ L + 5 := by
  have := numB_len N
  rw [List.length_append]; omega
abbrev ps32 (ps : List PartM) : Prop := ∀ q, q < ps.length → (ps.getD q pz).h.length = 32
theorem specL8bytes (d n f : Int) (pa : Option Addr) (pn pc : Nat) (na : Option Addr) (nn nc : Nat) (ps : List PartM) (ns : List NeedM) (w : World) (hP : Ps w pa pn pc ps) (hN : Ns w na nn nc ns) (h32 : ps32 ps) (hp : pn ≤ 4) (hn : nn ≤ 8) :
    Calls Tryd.prog 67 #[bunV d n f pa pn pc na nn nc] w fun e w' => ∃ v, e = .returned v ∧ w'.ownsRow w.heap.size 5 1 v (buB ⟨d, n, f, ps, ns⟩).length (U8 (buB ⟨d, n, f, ps, ns⟩)) ∧ Below w.heap.size w w' := by
  obtain ⟨V, hV⟩ : ∃ V, V = w.alloc (.cells #[.int .i64 d, .int .i64 n, .int .i64 f, .slice pa pn pc, .slice na nn nc] 26) := ⟨_, rfl⟩
  have A : Arr V w.heap.size 26 [.int .i64 d, .int .i64 n, .int .i64 f, .slice pa pn pc, .slice na nn nc] := by rw [hV]; exact Arr.new _ _ _
  have B0 : Below w.heap.size w V := by rw [hV]; exact (Below.refl _ _).alloc (Nat.le_refl _) _
  have HB0 : Hid (Below w.heap.size w V) := B0
  have HP : Hid (Ps V pa pn pc ps) := hP.below B0
  have HN : Hid (Ns V na nn nc ns) := hN.below B0
  have H32 : Hid (ps32 ps) := h32
  have HPl : Hid (ps.length = pn) := hP.2.1
  have HNl : Hid (ns.length = nn) := hN.2.1
  have HPy : Hid (psBy ps) := hP.by_
  have HZ : Hid (w.heap.size + 1 = V.heap.size) := by unfold Hid; rw [hV]; simp
  clear hP hN h32 B0
  have c0 := A.cell 0
  have c1 := A.cell 1
  have c2 := A.cell 2
  have c3 := A.cell 3
  have c4 := A.cell 4
  simp at c0 c1 c2 c3 c4
  have lA := A.lt
  go_enter Tryd.func67, Tryd.ntmps67
  go_wp2
  rw [← hV]
  clear hV
  obtain ⟨x, hx⟩ : ∃ x, x = w.heap.size := ⟨_, rfl⟩
  have HX : Hid _ := hx
  rw [← hx] at A c0 c1 c2 c3 c4 lA ⊢
  clear hx
  try simp only [Act.put]
  refine tame [kc 8 (.pointer (some ⟨x, 0, none⟩)), kc 9 (.int .i64 (d)), kr 10 V.heap.size ([] ++ numB (d)), kc 11 (.pointer (some ⟨x, 1, none⟩)), kc 12 (.int .i64 (n)), kr 13 V.heap.size ([] ++ numB (d) ++ numB (n)), kc 14 (.pointer (some ⟨x, 2, none⟩)), kc 15 (.int .i64 (f)), kr 16 V.heap.size ([] ++ numB (d) ++ numB (n) ++ numB (f)), kc 17 (.pointer (some ⟨x, 3, none⟩)), kc 18 (.slice pa pn pc), kc 19 (.int .i64 (pn : Int)), kr 20 V.heap.size ([] ++ numB (d) ++ numB (n) ++ numB (f) ++ numB (pn : Int))] 13 (by kernel_rfl) (by kernel_rfl) (by kernel_rfl) (by repeat' first | exact trivial | apply kc_keeps | apply kr_keeps | constructor) 1 (by kernel_rfl) (fun vv ll hh yW bW => ?_) (fun vv ll hh yW bW F ivh aph => ?_)
  · have x0 := (bW.cell (p := ⟨x, 0, none⟩) lA).trans c0
    have x1 := (bW.cell (p := ⟨x, 1, none⟩) lA).trans c1
    have x2 := (bW.cell (p := ⟨x, 2, none⟩) lA).trans c2
    have x3 := (bW.cell (p := ⟨x, 3, none⟩) lA).trans c3
    have x4 := (bW.cell (p := ⟨x, 4, none⟩) lA).trans c4
    have hz := bW.size
    refine ⟨tp (by kernel_rfl), tp ?_, tput (f := 110) (args := #[.slice none 0 0, .int .i64 (d)]) (fun X => specPutR V.heap.size V.heap.size (.slice none 0 0) ([]) (d) _ (World.ownsRow_nil _ _ _ _) (show ByL [] from fun x hx => by cases hx) (Nat.le_trans (Nat.le_refl 0) (by omega)) hz) (by kernel_rfl), tp (by kernel_rfl), tp ?_, tput (f := 110) (args := #[vv 2, .int .i64 (n)]) (fun X => specPutR V.heap.size V.heap.size (vv 2) ([] ++ numB (d)) (n) _ (X ⟨2, .data⟩ (by simp) rfl _ rfl) (ByL.app (show ByL [] from fun x hx => by cases hx) (numB_byte _)) (Nat.le_trans (bl5 (Nat.le_refl 0)) (by omega)) hz) (by kernel_rfl), tp (by kernel_rfl), tp ?_, tput (f := 110) (args := #[vv 5, .int .i64 (f)]) (fun X => specPutR V.heap.size V.heap.size (vv 5) ([] ++ numB (d) ++ numB (n)) (f) _ (X ⟨5, .data⟩ (by simp) rfl _ rfl) (ByL.app (ByL.app (show ByL [] from fun x hx => by cases hx) (numB_byte _)) (numB_byte _)) (Nat.le_trans (bl5 (bl5 (Nat.le_refl 0))) (by omega)) hz) (by kernel_rfl), tp (by kernel_rfl), tp ?_, tp ?_, tput (f := 110) (args := #[vv 8, .int .i64 (pn : Int)]) (fun X => specPutR V.heap.size V.heap.size (vv 8) ([] ++ numB (d) ++ numB (n) ++ numB (f)) (pn : Int) _ (X ⟨8, .data⟩ (by simp) rfl _ rfl) (ByL.app (ByL.app (ByL.app (show ByL [] from fun x hx => by cases hx) (numB_byte _)) (numB_byte _)) (numB_byte _)) (Nat.le_trans (bl5 (bl5 (bl5 (Nat.le_refl 0)))) (by omega)) hz) (by kernel_rfl), trivial⟩
    all_goals
      simp only [fillK, putT, List.setIfInBounds_toArray, List.set_cons_zero, List.set_cons_succ]
      unfold execOp
      go_simp
      try rfl
  have F2 : yW.ownsRow V.heap.size 5 1 (vv 12) ([] ++ numB (d) ++ numB (n) ++ numB (f) ++ numB (pn : Int)).length (U8 ([] ++ numB (d) ++ numB (n) ++ numB (f) ++ numB (pn : Int))) := F.2.2.2.2.2.2.2.2.2.2.2.2.1
  clear F ivh aph c0 c1 c2 c3 c4
  obtain ⟨y, hy⟩ : ∃ z, z = yW := ⟨_, rfl⟩
  rw [← hy] at bW F2 ⊢
  clear hy
  obtain ⟨v0, hv0⟩ : ∃ q, q = vv 12 := ⟨_, rfl⟩
  rw [← hv0] at F2
  refine st_val (i := 13) (o := { dst := some 3, op := Op.assign (Operand.tmp 20), type := 22, pos := "l08_bundle.go:47", after := #[{ on := 12, ground := Ground.data }, { on := 12, ground := Ground.chain }, { on := 0, ground := Ground.phase }, { on := 1, ground := Ground.phase }, { on := 2, ground := Ground.phase }, { on := 3, ground := Ground.phase }, { on := 4, ground := Ground.phase }, { on := 5, ground := Ground.phase }, { on := 6, ground := Ground.phase }, { on := 7, ground := Ground.phase }, { on := 8, ground := Ground.phase }, { on := 9, ground := Ground.phase }, { on := 10, ground := Ground.phase }, { on := 11, ground := Ground.phase }, { on := 12, ground := Ground.phase }], guard := none }) (by kernel_rfl) rfl rfl (v := v0) (w' := y) (by rw [hv0]; kernel_rfl) ?_
  refine wpAny_done (by kernel_rfl) ?_ _
  try simp only [Act.put]
  simp only [fillK, putT, List.setIfInBounds_toArray, List.set_cons_zero, List.set_cons_succ]
  have e1 : [] ++ numB (d) ++ numB (n) ++ numB (f) ++ numB (pn : Int) = hdB ⟨d, n, f, ps, ns⟩ := by simp [hdB, nsB, HPl.out]
  rw [e1] at F2
  have hlen0 : (hdB ⟨d, n, f, ps, ns⟩).length ≤ 20 := by have := nsB_len [d, n, f, (ps.length : Int)]; simpa [hdB] using this
  have hby0 : ByL (hdB ⟨d, n, f, ps, ns⟩) := nsB_byte _
  obtain ⟨Y, hY⟩ : ∃ Y, Y = hdB ⟨d, n, f, ps, ns⟩ := ⟨_, rfl⟩
  have HE : Hid (buB ⟨d, n, f, ps, ns⟩ = Y ++ psB ps ++ nsB [(nn : Int)] ++ qsB ns) := by unfold Hid; rw [hY, ← HNl.out]; rfl
  rw [← hY] at F2 hlen0 hby0
  have HO0 : Hid (y.ownsRow V.heap.size 5 1 v0 Y.length (U8 Y)) := F2
  have HYy : Hid (ByL Y) := hby0
  replace A := A.kept bW
  have HBy : Hid (Below V.heap.size V y) := bW
  have HA : Hid (Arr y x 26 [.int .i64 d, .int .i64 n, .int .i64 f, .slice pa pn pc, .slice na nn nc]) := A
  have HlA : Hid _ := lA
  clear hv0 e1 hY F2 hby0 bW A lA
  go_wp2
  go_loopw [3, 4] (fun u i wr => ∃ k : Nat, k ≤ pn ∧ i = .int .i64 k ∧ Hid (wr.ownsRow V.heap.size 5 1 u (Y ++ psB (ps.take k)).length (U8 (Y ++ psB (ps.take k)))) ∧ Hid (Below V.heap.size V wr) ∧ Hid (Arr wr x 26 [.int .i64 d, .int .i64 n, .int .i64 f, .slice pa pn pc, .slice na nn nc])) (fun _ i _ => pn - (intOf i).toNat)
  case atStart => exact ⟨0, by omega, rfl, by rw [show Y ++ psB (ps.take 0) = Y by simp [psB]]; exact HO0, HBy, HA⟩
  case round =>
    clear HO0 HBy HA
    obtain ⟨k, hk, rfl, HO, HB, HA⟩ := hrel
    have A : Arr wr x 26 [.int .i64 d, .int .i64 n, .int .i64 f, .slice pa pn pc, .slice na nn nc] := HA.out
    have c3 := A.cell 3
    have c4 := A.cell 4
    simp at c3 c4
    have hpl : (psB (ps.take k)).length ≤ 47 * k := by
      have := psB_len (ps.take k) (fun q hq => by
        have hq' : q < k ∧ q < ps.length := (show q < min k ps.length ↔ _ by omega).mp (by simpa using hq)
        have := H32.out q hq'.2
        simpa [List.getD_eq_getElem?_getD, hq'.1] using Nat.le_of_eq this)
      have ht : (ps.take k).length ≤ k := by simp; omega
      omega
    by_cases hlt : k < pn
    · have hltI : (k : Int) < (pn : Int) := by omega
      obtain ⟨b, o, rfl, hbs, hcell⟩ := HP.out.opened (by omega)
      obtain ⟨ha, hc, hr⟩ := hcell k hlt
      have h32 := H32.out k (by rw [HPl.out]; exact hlt)
      have hsn : psB (ps.take (k + 1)) = psB (ps.take k) ++ ptB (ps.getD k pz) := by
        have hl := HPl.out
        rw [List.take_succ_eq_append_getElem (by omega), psB_snoc]
        simp [show k < ps.length by omega]
      obtain ⟨p, hp0⟩ : ∃ p, p = ps.getD k pz := ⟨_, rfl⟩
      rw [← hp0] at hr h32 hsn
      replace hr := hr.below hbs HB.out
      clear hp0 hcell
      have hBh := hr.by_
      obtain ⟨p0, p1, p2, ph⟩ := p
      obtain ⟨q0, q1, q2, q3, _⟩ := hr
      dsimp only at q0 q1 q2 q3 h32 hBh
      rw [h32] at q3 hBh
      obtain ⟨ad, rfl⟩ : ∃ ad, ha = some ad := by
        cases ha with
        | some ad => exact ⟨ad, rfl⟩
        | none => have := hBh.1 rfl; have := hBh.2.2.1; omega
      obtain ⟨X0, hX0⟩ : ∃ X0, X0 = Y ++ psB (ps.take k) := ⟨_, rfl⟩
      have hXl : X0.length ≤ 300 := by rw [hX0, List.length_append]; omega
      have hXy : ByL X0 := by
        rw [hX0]
        refine HYy.out.app (psB_byte _ (fun q hq x hx => ?_))
        have hq' : q < k ∧ q < ps.length := (show q < min k ps.length ↔ _ by omega).mp (by simpa using hq)
        exact HPy.out q hq'.2 x (by simpa [List.getD_eq_getElem?_getD, hq'.1] using hx)
      have HSX : Hid (Y ++ psB (ps.take (k + 1)) = X0 ++ numB p0 ++ numB p1 ++ numB p2 ++ ph) := by unfold Hid; rw [hsn, hX0]; simp [ptB, nsB]
      rw [← hX0] at HO
      have hbr : b < wr.heap.size := Nat.lt_of_lt_of_le hbs HB.out.size
      obtain ⟨W, hW⟩ : ∃ W, W = wr.alloc (.cells #[.int .i64 p0, .int .i64 p1, .int .i64 p2, .slice (some ad) 32 hc] 45) := ⟨_, rfl⟩
      have b3 : Below wr.heap.size wr W := by rw [hW]; exact (Below.refl _ _).alloc (Nat.le_refl _) _
      have D : Arr W wr.heap.size 45 [.int .i64 p0, .int .i64 p1, .int .i64 p2, .slice (some ad) 32 hc] := by rw [hW]; exact Arr.new _ _ _
      have HO3 : Hid (W.ownsRow V.heap.size 5 1 u3 X0.length (U8 X0)) := own_below HO.out b3
      have HB3 : Hid (Below V.heap.size V W) := HB.out.trans (b3.mono HB.out.size)
      have HA3 : Hid (Arr W x 26 [.int .i64 d, .int .i64 n, .int .i64 f, .slice (some ⟨b, o, none⟩) pn pc, .slice na nn nc]) := A.kept b3
      have HBh : Hid (Bs W (some ad) 32 hc ph) := hBh.below b3
      go_upto_region 6 with fail
      rw [← hW]
      clear hW b3 q0 q1 q2 q3 hX0 hsn HO HB HA A c3 c4 hBh
      have d0 := D.cell 0
      have d1 := D.cell 1
      have d2 := D.cell 2
      have d3 := D.cell 3
      simp at d0 d1 d2 d3
      have lD := D.lt
      have HXl : Hid _ := hXl
      have HXy : Hid (ByL X0) := hXy
      clear hXy
      have zW := HB3.out.size
      go_wp2
      try simp only [Act.put]
      refine tame [kc 33 (u3), kc 34 (.pointer (some ⟨wr.heap.size, 0, none⟩)), kc 35 (.int .i64 (p0)), kr 36 V.heap.size (X0 ++ numB (p0)), kc 37 (.pointer (some ⟨wr.heap.size, 1, none⟩)), kc 38 (.int .i64 (p1)), kr 39 V.heap.size (X0 ++ numB (p0) ++ numB (p1)), kc 40 (.pointer (some ⟨wr.heap.size, 2, none⟩)), kc 41 (.int .i64 (p2)), kr 42 V.heap.size (X0 ++ numB (p0) ++ numB (p1) ++ numB (p2)), kc 43 (.pointer (some ⟨wr.heap.size, 3, none⟩)), kc 44 (.slice (some ad) 32 hc)] 12 (by kernel_rfl) (by kernel_rfl) (by kernel_rfl) (by repeat' first | exact trivial | apply kc_keeps | apply kr_keeps | constructor) 2 (by kernel_rfl) (fun vv ll hh yW bW => ?_) (fun vv ll hh yW bW F ivh aph => ?_)
      · have x0 := (bW.cell (p := ⟨wr.heap.size, 0, none⟩) lD).trans d0
        have x1 := (bW.cell (p := ⟨wr.heap.size, 1, none⟩) lD).trans d1
        have x2 := (bW.cell (p := ⟨wr.heap.size, 2, none⟩) lD).trans d2
        have x3 := (bW.cell (p := ⟨wr.heap.size, 3, none⟩) lD).trans d3
        have hz : V.heap.size ≤ yW.heap.size := Nat.le_trans zW bW.size
        refine ⟨tp (by kernel_rfl), tp (by kernel_rfl), tp ?_, tput (f := 110) (args := #[u3, .int .i64 (p0)]) (fun X => specPutR V.heap.size V.heap.size (u3) (X0) (p0) _ (own_below HO3.out bW) HXy.out (Nat.le_trans HXl.out (by omega)) hz) (by kernel_rfl), tp (by kernel_rfl), tp ?_, tput (f := 110) (args := #[vv 3, .int .i64 (p1)]) (fun X => specPutR V.heap.size V.heap.size (vv 3) (X0 ++ numB (p0)) (p1) _ (X ⟨3, .data⟩ (by simp) rfl _ rfl) (ByL.app HXy.out (numB_byte _)) (Nat.le_trans (bl5 HXl.out) (by omega)) hz) (by kernel_rfl), tp (by kernel_rfl), tp ?_, tput (f := 110) (args := #[vv 6, .int .i64 (p2)]) (fun X => specPutR V.heap.size V.heap.size (vv 6) (X0 ++ numB (p0) ++ numB (p1)) (p2) _ (X ⟨6, .data⟩ (by simp) rfl _ rfl) (ByL.app (ByL.app HXy.out (numB_byte _)) (numB_byte _)) (Nat.le_trans (bl5 (bl5 HXl.out)) (by omega)) hz) (by kernel_rfl), tp (by kernel_rfl), tp ?_, trivial⟩
        all_goals
          simp only [fillK, putT, List.setIfInBounds_toArray, List.set_cons_zero, List.set_cons_succ]
          unfold execOp
          go_simp
          try rfl
      have F2 : yW.ownsRow V.heap.size 5 1 (vv 9) (X0 ++ numB (p0) ++ numB (p1) ++ numB (p2)).length (U8 (X0 ++ numB (p0) ++ numB (p1) ++ numB (p2))) := F.2.2.2.2.2.2.2.2.2.1
      clear F ivh aph d0 d1 d2 d3 D lD
      obtain ⟨y, hy⟩ : ∃ z, z = yW := ⟨_, rfl⟩
      rw [← hy] at bW F2 ⊢
      clear hy
      have hxl4 : (X0 ++ numB (p0) ++ numB (p1) ++ numB (p2)).length ≤ 315 := (bl5 (bl5 (bl5 HXl.out)))
      obtain ⟨v2, y2, hr2, o2, g2, _⟩ := run_app_at y V.heap.size 22 (vv 9) _ _ F2 ad 32 hc ph (HBh.out.below bW) (by omega) (Nat.le_trans zW bW.size)
      have HO2 : Hid (y2.ownsRow V.heap.size 5 1 v2 (Y ++ psB (ps.take (k + 1))).length (U8 (Y ++ psB (ps.take (k + 1))))) := by
        unfold Hid
        rw [HSX.out, List.length_append, h32]
        exact o2
      have hb2 : Below V.heap.size W y2 := (bW.mono zW).grown g2 (Nat.le_trans zW bW.size) (fun q hq => (World.ownsRow.lt F2 q hq).1)
      have HB2 : Hid (Below V.heap.size V y2) := HB3.out.trans hb2
      have HA2 : Hid (Arr y2 x 26 [.int .i64 d, .int .i64 n, .int .i64 f, .slice (some ⟨b, o, none⟩) pn pc, .slice na nn nc]) := by
        have h0 : Arr W x 26 [.int .i64 d, .int .i64 n, .int .i64 f, .slice (some ⟨b, o, none⟩) pn pc, .slice na nn nc] := HA3.out
        have h1 : Arr y x 26 [.int .i64 d, .int .i64 n, .int .i64 f, .slice (some ⟨b, o, none⟩) pn pc, .slice na nn nc] := h0.kept bW
        exact arr_gr h1 g2 (fun e => by have := (World.ownsRow.lt F2 x e).1; have := HlA.out; omega)
      refine st_val (i := 12) (o := { dst := some 45, op := Op.call { callee := Callee.builtin Builtin.append, args := #[Operand.tmp 42, Operand.tmp 44], argTypes := #[22, 22] }, type := 22, pos := "l08_bundle.go:50", after := #[{ on := 9, ground := Ground.data }, { on := 11, ground := Ground.data }, { on := 9, ground := Ground.chain }], guard := none }) (by kernel_rfl) rfl rfl (v := v2) (w' := y2) ?_ ?_
      · simp only [fillK, putT, List.setIfInBounds_toArray, List.set_cons_zero, List.set_cons_succ]
        unfold execOp
        simp only [resolve, invoke, builtin, Sem.run_bind, Sem.run_pure, Result.andThen_ok, List.map_toArray, List.map_cons, List.map_nil]
        exact congrArg (fun q => q.andThen fun a w' => Result.ok (Next.value a) w') hr2
      clear hr2 o2 g2 hb2 F2 HO3 HB3 HA3 HBh bW
      refine st_val (i := 13) (o := { dst := some 3, op := Op.assign (Operand.tmp 45), type := 22, pos := "l08_bundle.go:50", after := #[{ on := 12, ground := Ground.data }, { on := 12, ground := Ground.chain }, { on := 0, ground := Ground.phase }, { on := 1, ground := Ground.phase }, { on := 2, ground := Ground.phase }, { on := 3, ground := Ground.phase }, { on := 4, ground := Ground.phase }, { on := 5, ground := Ground.phase }, { on := 6, ground := Ground.phase }, { on := 7, ground := Ground.phase }, { on := 8, ground := Ground.phase }, { on := 9, ground := Ground.phase }, { on := 10, ground := Ground.phase }, { on := 11, ground := Ground.phase }, { on := 12, ground := Ground.phase }], guard := none }) (by kernel_rfl) rfl rfl (v := v2) (w' := y2) (by kernel_rfl) ?_
      refine wpAny_done (by kernel_rfl) ?_ _
      try simp only [Act.put]
      simp only [fillK, putT, List.setIfInBounds_toArray, List.set_cons_zero, List.set_cons_succ]
      go_wp2
      go_roundw
      case rel => first | exact ⟨_, _, _, _, _, _, _, _, _, _, _, _, _, _, _, _, _, _, _, _, _, _, _, _, _, _, ⟨k + 1, by omega, by go_num, HO2, HB2, HA2⟩, rfl⟩ | exact ⟨_, _, _, _, _, _, _, _, _, _, _, _, _, _, _, _, _, _, _, _, _, _, _, _, _, _, _, ⟨k + 1, by omega, by go_num, HO2, HB2, HA2⟩, rfl⟩ | exact ⟨_, _, _, _, _, _, _, _, _, _, _, _, _, _, _, _, _, _, _, _, _, _, _, _, _, _, _, _, ⟨k + 1, by omega, by go_num, HO2, HB2, HA2⟩, rfl⟩ | exact ⟨_, _, _, _, _, _, _, _, _, _, _, _, _, _, _, _, _, _, _, _, _, _, _, _, _, _, _, _, _, ⟨k + 1, by omega, by go_num, HO2, HB2, HA2⟩, rfl⟩ | exact ⟨_, _, _, _, _, _, _, _, _, _, _, _, _, _, _, _, _, _, _, _, _, _, _, _, _, _, _, _, _, _, ⟨k + 1, by omega, by go_num, HO2, HB2, HA2⟩, rfl⟩ | exact ⟨_, _, _, _, _, _, _, _, _, _, _, _, _, _, _, _, _, _, _, _, _, _, _, _, _, _, _, _, _, _, _, ⟨k + 1, by omega, by go_num, HO2, HB2, HA2⟩, rfl⟩ | exact ⟨_, _, _, _, _, _, _, _, _, _, _, _, _, _, _, _, _, _, _, _, _, _, _, _, _, _, _, _, _, _, _, _, ⟨k + 1, by omega, by go_num, HO2, HB2, HA2⟩, rfl⟩
      case measure => simp [intOf]; omega
    · have hkn : k = pn := by omega
      subst hkn
      have htk : ps.take k = ps := List.take_of_length_le (by have := HPl.out; omega)
      rw [htk] at HO hpl
      obtain ⟨X0, hX0⟩ : ∃ X0, X0 = Y ++ psB ps := ⟨_, rfl⟩
      have hXl : X0.length ≤ 300 := by rw [hX0, List.length_append]; omega
      have HXy : Hid (ByL X0) := by unfold Hid; rw [hX0]; exact HYy.out.app (psB_byte _ HPy.out)
      have HE2 : Hid (buB ⟨d, n, f, ps, ns⟩ = X0 ++ numB (nn : Int) ++ qsB ns) := by unfold Hid; rw [HE.out, hX0]; simp [nsB]
      rw [← hX0] at HO
      have zB := HB.out.size
      clear htk hX0 hpl
      go_wp2_with fail
      refine (specPutR V.heap.size V.heap.size _ X0 (nn : Int) _ HO.out HXy.out (by omega) zB).mono ?_
      rintro e w2 ⟨u2, rfl, o2, hb2⟩
      have HO2 : Hid _ := o2
      have HB2 : Hid (Below V.heap.size V w2) := HB.out.trans (hb2.mono zB)
      have HA2 : Hid (Arr w2 x 26 [.int .i64 d, .int .i64 n, .int .i64 f, .slice pa k pc, .slice na nn nc]) := A.kept hb2
      obtain ⟨Y2, hY2⟩ : ∃ Y2, Y2 = X0 ++ numB (nn : Int) := ⟨_, rfl⟩
      have hYl : Y2.length ≤ 305 := by rw [hY2]; exact bl5 hXl
      have HY2 : Hid (ByL Y2) := by unfold Hid; rw [hY2]; exact HXy.out.app (numB_byte _)
      rw [← hY2] at HO2 HE2
      clear o2 hb2 c3 c4 A HO HB HA hY2 HXy HE hXl
      go_wp2
      go_loopw [3, 6] (fun u i wr => ∃ j : Nat, j ≤ nn ∧ i = .int .i64 j ∧ Hid (wr.ownsRow V.heap.size 5 1 u (Y2 ++ qsB (ns.take j)).length (U8 (Y2 ++ qsB (ns.take j)))) ∧ Hid (Below V.heap.size V wr) ∧ Hid (Arr wr x 26 [.int .i64 d, .int .i64 n, .int .i64 f, .slice pa k pc, .slice na nn nc])) (fun _ i _ => nn - (intOf i).toNat)
      case atStart => exact ⟨0, by omega, rfl, by rw [show Y2 ++ qsB (ns.take 0) = Y2 by simp [qsB]]; exact HO2, HB2, HA2⟩
      case round =>
        clear HO2 HB2 HA2
        obtain ⟨j, hj, rfl, HO, HB, HA⟩ := hrel
        have A : Arr wr x 26 [.int .i64 d, .int .i64 n, .int .i64 f, .slice pa k pc, .slice na nn nc] := HA.out
        have c4 := A.cell 4
        simp at c4
        have hql : (qsB (ns.take j)).length ≤ 20 * j := by
          have := qsB_len (ns.take j)
          have ht : (ns.take j).length ≤ j := by simp; omega
          omega
        by_cases hlt : j < nn
        · have hltI : (j : Int) < (nn : Int) := by omega
          obtain ⟨b, o, rfl, hbs, hcell⟩ : ∃ b o, na = some ⟨b, o, none⟩ ∧ b < V.heap.size ∧ ∀ i, i < nn → NeedAt V b (o + i * 4) (ns.getD i nz) := by
            rcases HN.out.2.2.2 with h | h
            · omega
            · exact h
          have hr := hcell j hlt
          have hsn : qsB (ns.take (j + 1)) = qsB (ns.take j) ++ ndB (ns.getD j nz) := by
            have hl := HNl.out
            rw [List.take_succ_eq_append_getElem (by omega), qsB_snoc]
            simp [show j < ns.length by omega]
          obtain ⟨p, hp0⟩ : ∃ p, p = ns.getD j nz := ⟨_, rfl⟩
          rw [← hp0] at hr hsn
          replace hr := hr.below hbs HB.out
          clear hp0 hcell
          obtain ⟨p0, p1, p2, p3⟩ := p
          obtain ⟨q0, q1, q2, q3⟩ := hr
          dsimp only at q0 q1 q2 q3
          obtain ⟨X0, hX0⟩ : ∃ X0, X0 = Y2 ++ qsB (ns.take j) := ⟨_, rfl⟩
          have hXl : X0.length ≤ 500 := by rw [hX0, List.length_append]; omega
          have HXy : Hid (ByL X0) := by unfold Hid; rw [hX0]; exact HY2.out.app (qsB_byte _)
          have HSX : Hid (Y2 ++ qsB (ns.take (j + 1)) = X0 ++ numB p0 ++ numB p3 ++ numB p1 ++ numB p2) := by unfold Hid; rw [hsn, hX0]; simp [ndB, nsB]
          rw [← hX0] at HO
          obtain ⟨W, hW⟩ : ∃ W, W = wr.alloc (.cells #[.int .i64 p0, .int .i64 p1, .int .i64 p2, .int .i64 p3] 41) := ⟨_, rfl⟩
          have b3 : Below wr.heap.size wr W := by rw [hW]; exact (Below.refl _ _).alloc (Nat.le_refl _) _
          have D : Arr W wr.heap.size 41 [.int .i64 p0, .int .i64 p1, .int .i64 p2, .int .i64 p3] := by rw [hW]; exact Arr.new _ _ _
          have HO3 : Hid (W.ownsRow V.heap.size 5 1 u3 X0.length (U8 X0)) := own_below HO.out b3
          have HB3 : Hid (Below V.heap.size V W) := HB.out.trans (b3.mono HB.out.size)
          have HA3 : Hid (Arr W x 26 [.int .i64 d, .int .i64 n, .int .i64 f, .slice pa k pc, .slice (some ⟨b, o, none⟩) nn nc]) := A.kept b3
          go_upto_region 12 with fail
          rw [← hW]
          clear hW b3 q0 q1 q2 q3 hX0 hsn HO HB HA A c4
          have d0 := D.cell 0
          have d1 := D.cell 1
          have d2 := D.cell 2
          have d3 := D.cell 3
          simp at d0 d1 d2 d3
          have lD := D.lt
          have HXl : Hid _ := hXl
          have zW := HB3.out.size
          go_wp2
          try simp only [Act.put]
          refine tame [kc 63 (u3), kc 64 (.pointer (some ⟨wr.heap.size, 0, none⟩)), kc 65 (.int .i64 (p0)), kr 66 V.heap.size (X0 ++ numB (p0)), kc 67 (.pointer (some ⟨wr.heap.size, 3, none⟩)), kc 68 (.int .i64 (p3)), kr 69 V.heap.size (X0 ++ numB (p0) ++ numB (p3)), kc 70 (.pointer (some ⟨wr.heap.size, 1, none⟩)), kc 71 (.int .i64 (p1)), kr 72 V.heap.size (X0 ++ numB (p0) ++ numB (p3) ++ numB (p1)), kc 73 (.pointer (some ⟨wr.heap.size, 2, none⟩)), kc 74 (.int .i64 (p2)), kr 75 V.heap.size (X0 ++ numB (p0) ++ numB (p3) ++ numB (p1) ++ numB (p2))] 13 (by kernel_rfl) (by kernel_rfl) (by kernel_rfl) (by repeat' first | exact trivial | apply kc_keeps | apply kr_keeps | constructor) 1 (by kernel_rfl) (fun vv ll hh yW bW => ?_) (fun vv ll hh yW bW F ivh aph => ?_)
          · have x0 := (bW.cell (p := ⟨wr.heap.size, 0, none⟩) lD).trans d0
            have x1 := (bW.cell (p := ⟨wr.heap.size, 1, none⟩) lD).trans d1
            have x2 := (bW.cell (p := ⟨wr.heap.size, 2, none⟩) lD).trans d2
            have x3 := (bW.cell (p := ⟨wr.heap.size, 3, none⟩) lD).trans d3
            have hz : V.heap.size ≤ yW.heap.size := Nat.le_trans zW bW.size
            refine ⟨tp (by kernel_rfl), tp (by kernel_rfl), tp ?_, tput (f := 110) (args := #[u3, .int .i64 (p0)]) (fun X => specPutR V.heap.size V.heap.size (u3) (X0) (p0) _ (own_below HO3.out bW) HXy.out (Nat.le_trans HXl.out (by omega)) hz) (by kernel_rfl), tp (by kernel_rfl), tp ?_, tput (f := 110) (args := #[vv 3, .int .i64 (p3)]) (fun X => specPutR V.heap.size V.heap.size (vv 3) (X0 ++ numB (p0)) (p3) _ (X ⟨3, .data⟩ (by simp) rfl _ rfl) (ByL.app HXy.out (numB_byte _)) (Nat.le_trans (bl5 HXl.out) (by omega)) hz) (by kernel_rfl), tp (by kernel_rfl), tp ?_, tput (f := 110) (args := #[vv 6, .int .i64 (p1)]) (fun X => specPutR V.heap.size V.heap.size (vv 6) (X0 ++ numB (p0) ++ numB (p3)) (p1) _ (X ⟨6, .data⟩ (by simp) rfl _ rfl) (ByL.app (ByL.app HXy.out (numB_byte _)) (numB_byte _)) (Nat.le_trans (bl5 (bl5 HXl.out)) (by omega)) hz) (by kernel_rfl), tp (by kernel_rfl), tp ?_, tput (f := 110) (args := #[vv 9, .int .i64 (p2)]) (fun X => specPutR V.heap.size V.heap.size (vv 9) (X0 ++ numB (p0) ++ numB (p3) ++ numB (p1)) (p2) _ (X ⟨9, .data⟩ (by simp) rfl _ rfl) (ByL.app (ByL.app (ByL.app HXy.out (numB_byte _)) (numB_byte _)) (numB_byte _)) (Nat.le_trans (bl5 (bl5 (bl5 HXl.out))) (by omega)) hz) (by kernel_rfl), trivial⟩
            all_goals
              simp only [fillK, putT, List.setIfInBounds_toArray, List.set_cons_zero, List.set_cons_succ]
              unfold execOp
              go_simp
              try rfl
          have F2 : yW.ownsRow V.heap.size 5 1 (vv 12) (X0 ++ numB (p0) ++ numB (p3) ++ numB (p1) ++ numB (p2)).length (U8 (X0 ++ numB (p0) ++ numB (p3) ++ numB (p1) ++ numB (p2))) := F.2.2.2.2.2.2.2.2.2.2.2.2.1
          clear F ivh aph d0 d1 d2 d3 D lD
          obtain ⟨y, hy⟩ : ∃ z, z = yW := ⟨_, rfl⟩
          rw [← hy] at bW F2 ⊢
          clear hy
          obtain ⟨v2, hv2⟩ : ∃ q, q = vv 12 := ⟨_, rfl⟩
          rw [← hv2] at F2
          rw [← HSX.out] at F2
          have HO2 : Hid _ := F2
          have HB2 : Hid (Below V.heap.size V y) := HB3.out.trans (bW.mono zW)
          have HA2 : Hid (Arr y x 26 [.int .i64 d, .int .i64 n, .int .i64 f, .slice pa k pc, .slice (some ⟨b, o, none⟩) nn nc]) := by
            have h0 : Arr W x 26 [.int .i64 d, .int .i64 n, .int .i64 f, .slice pa k pc, .slice (some ⟨b, o, none⟩) nn nc] := HA3.out
            exact h0.kept bW
          refine st_val (i := 13) (o := { dst := some 3, op := Op.assign (Operand.tmp 75), type := 22, pos := "l08_bundle.go:55", after := #[{ on := 12, ground := Ground.data }, { on := 12, ground := Ground.chain }, { on := 0, ground := Ground.phase }, { on := 1, ground := Ground.phase }, { on := 2, ground := Ground.phase }, { on := 3, ground := Ground.phase }, { on := 4, ground := Ground.phase }, { on := 5, ground := Ground.phase }, { on := 6, ground := Ground.phase }, { on := 7, ground := Ground.phase }, { on := 8, ground := Ground.phase }, { on := 9, ground := Ground.phase }, { on := 10, ground := Ground.phase }, { on := 11, ground := Ground.phase }, { on := 12, ground := Ground.phase }], guard := none }) (by kernel_rfl) rfl rfl (v := v2) (w' := y) (by rw [hv2]; kernel_rfl) ?_
          clear F2 HO3 HB3 HA3 bW hv2
          refine wpAny_done (by kernel_rfl) ?_ _
          try simp only [Act.put]
          simp only [fillK, putT, List.setIfInBounds_toArray, List.set_cons_zero, List.set_cons_succ]
          go_wp2
          go_roundw
          case rel => trace_state; first | exact ⟨j + 1, by omega, by go_num, HO2, HB2, HA2⟩ | exact ⟨_, _, _, _, _, _, _, _, _, _, _, _, _, _, _, _, _, _, _, _, _, _, ⟨j + 1, by omega, by go_num, HO2, HB2, HA2⟩, rfl⟩ | exact ⟨_, _, _, _, _, _, _, _, _, _, _, _, _, _, _, _, _, _, _, _, _, _, _, ⟨j + 1, by omega, by go_num, HO2, HB2, HA2⟩, rfl⟩ | exact ⟨_, _, _, _, _, _, _, _, _, _, _, _, _, _, _, _, _, _, _, _, _, _, _, _, ⟨j + 1, by omega, by go_num, HO2, HB2, HA2⟩, rfl⟩ | exact ⟨_, _, _, _, _, _, _, _, _, _, _, _, _, _, _, _, _, _, _, _, _, _, _, _, _, ⟨j + 1, by omega, by go_num, HO2, HB2, HA2⟩, rfl⟩ | exact ⟨_, _, _, _, _, _, _, _, _, _, _, _, _, _, _, _, _, _, _, _, _, _, _, _, _, _, ⟨j + 1, by omega, by go_num, HO2, HB2, HA2⟩, rfl⟩ | exact ⟨_, _, _, _, _, _, _, _, _, _, _, _, _, _, _, _, _, _, _, _, _, _, _, _, _, _, _, ⟨j + 1, by omega, by go_num, HO2, HB2, HA2⟩, rfl⟩ | exact ⟨_, _, _, _, _, _, _, _, _, _, _, _, _, _, _, _, _, _, _, _, _, _, _, _, _, _, _, _, ⟨j + 1, by omega, by go_num, HO2, HB2, HA2⟩, rfl⟩ | exact ⟨_, _, _, _, _, _, _, _, _, _, _, _, _, _, _, _, _, _, _, _, _, _, _, _, _, _, _, _, _, ⟨j + 1, by omega, by go_num, HO2, HB2, HA2⟩, rfl⟩ | exact ⟨_, _, _, _, _, _, _, _, _, _, _, _, _, _, _, _, _, _, _, _, _, _, _, _, _, _, _, _, _, _, ⟨j + 1, by omega, by go_num, HO2, HB2, HA2⟩, rfl⟩ | exact ⟨_, _, _, _, _, _, _, _, _, _, _, _, _, _, _, _, _, _, _, _, _, _, _, _, _, _, _, _, _, _, _, ⟨j + 1, by omega, by go_num, HO2, HB2, HA2⟩, rfl⟩ | exact ⟨_, _, _, _, _, _, _, _, _, _, _, _, _, _, _, _, _, _, _, _, _, _, _, _, _, _, _, _, _, _, _, _, ⟨j + 1, by omega, by go_num, HO2, HB2, HA2⟩, rfl⟩ | exact ⟨_, _, _, _, _, _, _, _, _, _, _, _, _, _, _, _, _, _, _, _, _, _, _, _, _, _, _, _, _, _, _, _, _, ⟨j + 1, by omega, by go_num, HO2, HB2, HA2⟩, rfl⟩ | exact ⟨_, _, _, _, _, _, _, _, _, _, _, _, _, _, _, _, _, _, _, _, _, _, _, _, _, _, _, _, _, _, _, _, _, _, ⟨j + 1, by omega, by go_num, HO2, HB2, HA2⟩, rfl⟩ | exact ⟨_, _, _, _, _, _, _, _, _, _, _, _, _, _, _, _, _, _, _, _, _, _, _, _, _, _, _, _, _, _, _, _, _, _, _, ⟨j + 1, by omega, by go_num, HO2, HB2, HA2⟩, rfl⟩
          case measure => simp [intOf]; omega
        · have hjn : j = nn := by omega
          subst hjn
          have htk : ns.take j = ns := List.take_of_length_le (by have := HNl.out; omega)
          rw [htk] at HO
          go_wp2
          go_ret
          rw [HE2.out]
          exact ⟨_, rfl, own_base HO.out HB0.out.size, HB0.out.trans (HB.out.mono HB0.out.size)⟩
end Go.Proofs.YtofflhhlacdgfaaDoor
