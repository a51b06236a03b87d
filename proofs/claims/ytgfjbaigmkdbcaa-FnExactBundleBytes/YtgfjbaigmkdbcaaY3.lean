/-
  What is proved here: what the program's BundleBytes answers.
-/
import Derived.Test.YtgfjbaigmkdbcaaY2
import Derived.Test.YtgfjbaigmkdbcaaJB16
import Derived.Test.YtgfjbaigmkdbcaaJB18
import Derived.Test.YtgfjbaigmkdbcaaJB2
namespace Go.Proofs.Ytgfjbaigmkdbcaa
open Go.RowKit Ma
set_option maxRecDepth 100000
set_option maxHeartbeats 8000000
set_option linter.unusedVariables false

theorem is_arr {W : World} {g : Nat} {cs : List Int} (A : Arr W g 3 (cs.map (fun x => Value.int .i64 x))) (hb : ∀ x ∈ cs, -9223372036854775808 ≤ x ∧ x ≤ 9223372036854775807) : Is W (some ⟨g, 0, none⟩) cs.length cs.length cs :=
  ⟨(fun h => by cases h), rfl, Nat.le_refl _, hb, .inr ⟨g, 0, rfl, A.lt, fun j hj => by
    have := A.cell j
    rw [List.getElem?_map, List.getElem?_eq_getElem hj] at this
    simpa [List.getD_eq_getElem?_getD, hj] using this⟩⟩
/-- A literal of two rows, the first of them made of late. -/
abbrev kcc (d lo : Nat) (t : TypeId) (xs : List Int) (s : Value) : Kd := kv d (fun _ _ w v => ∃ g u, v = .slice (some ⟨g, 0, none⟩) 2 2 ∧ Arr w g t [u, s] ∧ w.ownsRow lo 5 1 u xs.length (U8 xs))
theorem kcc_keeps (d lo : Nat) (t : TypeId) (xs : List Int) (s : Value) : Kd.keeps (kcc d lo t xs s) := fun _ _ _ _ _ h _ b => by
  obtain ⟨g, u, e, a, o⟩ := h
  exact ⟨g, u, e, a.kept b, own_below o b⟩
theorem tcc {P : Program} {ev : Operand → Value} {o : Oper} {d lo : Nat} {w : World} {X : Prop} {t : TypeId} {xs : List Int} {s u : Value} (hx : X → w.ownsRow lo 5 1 u xs.length (U8 xs)) (hy : ByL xs)
    (h : ∀ a n c, u = .slice a n c → (execOp ev o).run P w = .ok (.value (.slice (some ⟨w.heap.size, 0, none⟩) 2 2)) (w.alloc (.cells #[u, s] t))) : Dty X (TOb P ev o (kcc d lo t xs s) w) := ⟨fun x => by
  refine ⟨?_⟩
  obtain ⟨a, c, e, _, _⟩ := Bs.own (hx x) hy
  unfold TObR
  rw [h a _ c e]
  have b : Below w.heap.size w (w.alloc (.cells #[u, s] t)) := (Below.refl _ _).alloc (Nat.le_refl _) _
  exact ⟨_, rfl, b, _, u, rfl, Arr.new w [u, s] t, own_below (hx x) b⟩⟩
theorem i64b {x : Int} (h0 : 0 ≤ x) (h1 : x ≤ 1000) : -9223372036854775808 ≤ x ∧ x ≤ 9223372036854775807 := by omega
theorem hdB_eq (d n f : Int) (ps : List PartM) (ns : List NeedM) (pn : Nat) (h : ps.length = pn) : nsB [d, n, f, (pn : Int)] = hdB ⟨d, n, f, ps, ns⟩ := by
  subst h
  unfold hdB
  rfl
theorem implBundleBytes (pa : Option Addr) (pn pc : Nat) (na : Option Addr) (nn nc : Nat) (B : BunM) (w : World) (hP : Ps w pa pn pc B.ps) (hN : Ns w na nn nc B.ns) :
    Calls Try.prog 21 #[bunV B.d B.n B.f pa pn pc na nn nc] w fun e w' => ∃ v, e = .returned (.tuple #[v, .bool (bOk B)]) ∧ w'.ownsRow w.heap.size 5 1 v (bbL B).length (U8 (bbL B)) ∧ Below w.heap.size w w' := by
  have HS : Hid (∀ Z, Below w.heap.size w Z → Calls Try.prog 18 #[bunV B.d B.n B.f pa pn pc na nn nc] Z fun e w' => e = .returned (.bool (bOk B)) ∧ Below Z.heap.size Z w') := fun Z hZ => implBundleOk pa pn pc na nn nc B Z (hP.below hZ) (hN.below hZ)
  have HNo : Hid (bOk B = false → bbL B = []) := bbL_no
  have HYes : Hid (bOk B = true → bunOk B ∧ bbL B = buB B) := fun h => ⟨(bOk_iff B).1 h, bbL_yes h⟩
  generalize hX : bbL B = XX at HNo HYes ⊢
  generalize hR : bOk B = R at HS HNo HYes ⊢
  obtain ⟨d, n, f, ps, ns⟩ := B
  simp only [] at HS HYes hP hN ⊢
  clear hX hR
  obtain ⟨V, hV⟩ : ∃ V, V = w.alloc (.cells #[.int .i64 d, .int .i64 n, .int .i64 f, .slice pa pn pc, .slice na nn nc] 31) := ⟨_, rfl⟩
  have A : Arr V w.heap.size 31 [.int .i64 d, .int .i64 n, .int .i64 f, .slice pa pn pc, .slice na nn nc] := by rw [hV]; exact Arr.new _ _ _
  have B0 : Below w.heap.size w V := by rw [hV]; exact (Below.refl _ _).alloc (Nat.le_refl _) _
  have HPl : Hid (ps.length = pn) := hP.2.1
  have HNl : Hid (ns.length = nn) := hN.2.1
  have HPy : Hid (psBy ps) := hP.by_
  have HP : Hid (Ps w pa pn pc ps) := hP
  have HN : Hid (Ns w na nn nc ns) := hN
  clear hP hN
  have c0 := A.cell 0
  have c1 := A.cell 1
  have c2 := A.cell 2
  have c3 := A.cell 3
  have c4 := A.cell 4
  simp at c0 c1 c2 c3 c4
  obtain ⟨m, hm⟩ : ∃ m, m = XX.length := ⟨_, rfl⟩
  rw [← hm]
  have HM : Hid (m = XX.length) := hm
  clear hm
  obtain ⟨x, hx⟩ : ∃ x, x = w.heap.size := ⟨_, rfl⟩
  go_enter Try.func21, Try.ntmps21
  go_upto_region 1 with fail
  rw [← hV]
  clear hV
  rw [← hx] at A c0 c1 c2 c3 c4 ⊢
  have HX : Hid (x = w.heap.size) := hx
  clear hx
  go_wp2_with fail
  refine Calls.mono (HS.out _ B0) ?_
  rintro e w1 ⟨rfl, hb⟩
  replace A := A.kept hb
  replace B0 := B0.trans (hb.mono B0.size)
  clear hb c0 c1 c2 c3 c4
  cases R with
  | false =>
    obtain rfl := HNo.out (by simp)
    obtain rfl : m = 0 := HM.out
    go_wp2
    go_ret2
    exact ⟨_, rfl, World.ownsRow_nil _ _ _ _, B0⟩
  | true =>
    obtain ⟨⟨⟨⟨hd0, hd1⟩, ⟨hn0, hn1⟩, ⟨hf0, hf1⟩, ⟨hl0, hl1⟩, hl2⟩, hpk, hnk⟩, eX⟩ := HYes.out (by simp)
    dsimp only at hd0 hd1 hn0 hn1 hf0 hf1 hl0 hl1 hl2 hpk hnk
    obtain rfl := eX
    have hp4 : pn ≤ 4 := by have := HPl.out; omega
    have hn8 : nn ≤ 8 := by have := HNl.out; omega
    have HPk : Hid (∀ i, i < ps.length → pOkAt ps i) := hpk
    have HNk : Hid (∀ i, i < ns.length → nOkAt ns i) := hnk
    have HB0 : Hid (∀ {W}, Below w1.heap.size w1 W → Below x w W) := fun h => by rw [HX.out]; exact B0.trans (h.mono (by have := B0.size; omega))
    have HZ1 : Hid (x ≤ w1.heap.size) := by have := B0.size; rw [HX.out]; exact this
    replace HP : Hid (Ps w1 pa pn pc ps) := HP.out.below B0
    replace HN : Hid (Ns w1 na nn nc ns) := HN.out.below B0
    clear hpk hnk HYes HNo HS
    have c0 := A.cell 0
    have c1 := A.cell 1
    have c2 := A.cell 2
    have c3 := A.cell 3
    have c4 := A.cell 4
    simp at c0 c1 c2 c3 c4
    have HIs : Hid (Is (w1.alloc (.cells #[.int .i64 d, .int .i64 n, .int .i64 f, .int .i64 (pn : Int)] 3)) (some ⟨w1.heap.size, 0, none⟩) 4 4 [d, n, f, (pn : Int)]) :=
      is_arr (cs := [d, n, f, (pn : Int)]) (Arr.new w1 [.int .i64 d, .int .i64 n, .int .i64 f, .int .i64 (pn : Int)] 3) (by intro y hy; simp at hy; rcases hy with rfl | rfl | rfl | rfl <;> omega)
    go_wp2_with fail
    refine Calls.mono (implPutNums w1.heap.size (.slice none 0 0) [] (some ⟨w1.heap.size, 0, none⟩) 4 4 [d, n, f, (pn : Int)] _ (World.ownsRow_nil _ _ _ _) (fun x hx => by cases hx) (Nat.zero_le _) (by simp) HIs.out (by omega)) ?_
    rintro e w2 ⟨u2, rfl, o2, hb⟩
    replace hb : Below w1.heap.size w1 w2 := ((Below.refl _ _).alloc (Nat.le_refl _) _).trans (hb.mono (by simp))
    have e1 : ([] : List Int) ++ nsB [d, n, f, (pn : Int)] = hdB ⟨d, n, f, ps, ns⟩ := by rw [List.nil_append]; exact hdB_eq d n f ps ns pn HPl.out
    rw [e1] at o2
    have hlen0 : (hdB ⟨d, n, f, ps, ns⟩).length ≤ 20 := by have := nsB_len [d, n, f, (ps.length : Int)]; simpa [hdB] using this
    have hby0 : ByL (hdB ⟨d, n, f, ps, ns⟩) := nsB_byte _
    obtain ⟨Y, hY⟩ : ∃ Y, Y = hdB ⟨d, n, f, ps, ns⟩ := ⟨_, rfl⟩
    have HE : Hid (buB ⟨d, n, f, ps, ns⟩ = Y ++ psB ps ++ nsB [(nn : Int)] ++ qsB ns) := by unfold Hid; rw [hY, ← HNl.out]; rfl
    rw [← hY] at o2 hlen0 hby0
    have HO0 : Hid (w2.ownsRow w1.heap.size 5 1 u2 Y.length (U8 Y)) := o2
    have HYy : Hid (ByL Y) := hby0
    have HBy : Hid (Below w1.heap.size w1 w2) := hb
    have HA : Hid (Arr w2 x 31 [.int .i64 d, .int .i64 n, .int .i64 f, .slice pa pn pc, .slice na nn nc]) := A.kept hb
    have HlA : Hid (x < w1.heap.size) := A.lt
    have c3' : w2.cell? ⟨x, 3, none⟩ = some (.slice pa pn pc) := (hb.cell (p := ⟨x, 3, none⟩) A.lt).trans c3
    clear hY o2 hby0 hb A c0 c1 c2 c3 c4 HIs e1 B0 hd0 hd1 hn0 hn1 hf0 hf1
    go_wp2
    go_loopw [4, 26] (fun u i wr => ∃ k : Nat, k ≤ pn ∧ i = .int .i64 k ∧ Hid (wr.ownsRow w1.heap.size 5 1 u (Y ++ psB (ps.take k)).length (U8 (Y ++ psB (ps.take k)))) ∧ Hid (Below w1.heap.size w1 wr) ∧ Hid (Arr wr x 31 [.int .i64 d, .int .i64 n, .int .i64 f, .slice pa pn pc, .slice na nn nc])) (fun _ i _ => pn - (intOf i).toNat)
    case atStart => exact ⟨0, by omega, rfl, by rw [show Y ++ psB (ps.take 0) = Y by simp [psB]]; exact HO0, HBy, HA⟩
    case round =>
      clear HO0 HBy HA c3'
      obtain ⟨k, hk, rfl, HO, HB, HA⟩ := hrel
      have A : Arr wr x 31 [.int .i64 d, .int .i64 n, .int .i64 f, .slice pa pn pc, .slice na nn nc] := HA.out
      have c4 := A.cell 4
      simp at c4
      have hpl : (psB (ps.take k)).length ≤ 47 * k := by
        have := psB_len (ps.take k) (fun q hq => by
          have hq' : q < k ∧ q < ps.length := (show q < min k ps.length ↔ _ by omega).mp (by simpa using hq)
          have := (HPk.out q hq'.2).1.2.2.2
          simpa [List.getD_eq_getElem?_getD, hq'.1] using Nat.le_of_eq this)
        have ht : (ps.take k).length ≤ k := by simp; omega
        omega
      by_cases hlt : k < pn
      · have hltI : (k : Int) < (pn : Int) := by omega
        obtain ⟨b, o, rfl, hbs, hcell⟩ := HP.out.opened (by omega)
        obtain ⟨ha, hc, hr⟩ := hcell k hlt
        obtain ⟨⟨⟨hk0, hk1⟩, ⟨hv0, hv1⟩, ⟨hs0, hs1⟩, h32⟩, _⟩ := HPk.out k (by rw [HPl.out]; exact hlt)
        have hsn : psB (ps.take (k + 1)) = psB (ps.take k) ++ ptB (ps.getD k pz) := by
          have hl := HPl.out
          rw [List.take_succ_eq_append_getElem (by omega), psB_snoc]
          simp [show k < ps.length by omega]
        obtain ⟨p, hp0⟩ : ∃ p, p = ps.getD k pz := ⟨_, rfl⟩
        rw [← hp0] at hr h32 hsn hk0 hk1 hv0 hv1 hs0 hs1
        replace hr := hr.below hbs HB.out
        clear hp0 hcell
        have hBh := hr.by_
        obtain ⟨p0, p1, p2, ph⟩ := p
        obtain ⟨q0, q1, q2, q3, _⟩ := hr
        dsimp only at q0 q1 q2 q3 h32 hBh hk0 hk1 hv0 hv1 hs0 hs1
        rw [h32] at q3 hBh
        obtain ⟨X0, hX0⟩ : ∃ X0, X0 = Y ++ psB (ps.take k) := ⟨_, rfl⟩
        have hXl : X0.length ≤ 300 := by rw [hX0, List.length_append]; omega
        have hXy : ByL X0 := by
          rw [hX0]
          refine HYy.out.app (psB_byte _ (fun q hq x hx => ?_))
          have hq' : q < k ∧ q < ps.length := (show q < min k ps.length ↔ _ by omega).mp (by simpa using hq)
          exact HPy.out q hq'.2 x (by simpa [List.getD_eq_getElem?_getD, hq'.1] using hx)
        have HSX : Hid (Y ++ psB (ps.take (k + 1)) = (X0 ++ nsB [p0, p1, p2]) ++ ph) := by unfold Hid; rw [hsn, hX0]; simp [ptB]
        rw [← hX0] at HO
        have hbr : b < wr.heap.size := Nat.lt_of_lt_of_le hbs HB.out.size
        obtain ⟨W, hW⟩ : ∃ W, W = wr.alloc (.cells #[.int .i64 p0, .int .i64 p1, .int .i64 p2, .slice ha 32 hc] 112) := ⟨_, rfl⟩
        have b3 : Below wr.heap.size wr W := by rw [hW]; exact (Below.refl _ _).alloc (Nat.le_refl _) _
        have D : Arr W wr.heap.size 112 [.int .i64 p0, .int .i64 p1, .int .i64 p2, .slice ha 32 hc] := by rw [hW]; exact Arr.new _ _ _
        have HO3 : Hid (W.ownsRow w1.heap.size 5 1 u4 X0.length (U8 X0)) := own_below HO.out b3
        have HB3 : Hid (Below w1.heap.size w1 W) := HB.out.trans (b3.mono HB.out.size)
        have HA3 : Hid (Arr W x 31 [.int .i64 d, .int .i64 n, .int .i64 f, .slice (some ⟨b, o, none⟩) pn pc, .slice na nn nc]) := A.kept b3
        have HBh : Hid (Bs W ha 32 hc ph) := hBh.below b3
        have HIb : Hid (∀ y ∈ [p0, p1, p2], -9223372036854775808 ≤ y ∧ y ≤ 9223372036854775807) := by unfold Hid; intro y hy; simp at hy; rcases hy with rfl | rfl | rfl <;> omega
        go_upto_region 7 with fail
        rw [← hW]
        clear hW b3 q0 q1 q2 q3 hX0 hsn HO HB HA A c4 hBh hk0 hk1 hv0 hv1 hs0 hs1
        have d0 := D.cell 0
        have d1 := D.cell 1
        have d2 := D.cell 2
        have d3 := D.cell 3
        simp at d0 d1 d2 d3
        have lD := D.lt
        have HXl : Hid (X0.length ≤ 300) := hXl
        have HXy : Hid (ByL X0) := hXy
        clear hXy
        have zW := HB3.out.size
        obtain ⟨D0, hD0⟩ : ∃ q, q = wr.heap.size := ⟨_, rfl⟩
        rw [← hD0] at d0 d1 d2 d3 lD D ⊢
        clear hD0
        go_wp2
        try simp only [Act.put]
        refine tame [kc 30 u4, kc 31 (.pointer (some ⟨D0, 0, none⟩)), kc 32 (.int .i64 p0), kc 33 (.pointer (some ⟨D0, 1, none⟩)), kc 34 (.int .i64 p1), kc 35 (.pointer (some ⟨D0, 2, none⟩)), kc 36 (.int .i64 p2), ksl 37 3 [.int .i64 p0, .int .i64 p1, .int .i64 p2] 3, kr 38 w1.heap.size (X0 ++ nsB [p0, p1, p2]), kc 39 (.pointer (some ⟨D0, 3, none⟩)), kc 40 (.slice ha 32 hc), kcc 41 w1.heap.size 35 (X0 ++ nsB [p0, p1, p2]) (.slice ha 32 hc)] 12 (by kernel_rfl) (by kernel_rfl) (by kernel_rfl) (by repeat' first | exact trivial | apply kc_keeps | apply kr_keeps | apply ksl_keeps | apply kcc_keeps | constructor) 2 (by kernel_rfl) (fun vv ll hh yW bW => ?_) (fun vv ll hh yW bW F ivh aph => ?_)
        · have x0 := (bW.cell (p := ⟨D0, 0, none⟩) lD).trans d0
          have x1 := (bW.cell (p := ⟨D0, 1, none⟩) lD).trans d1
          have x2 := (bW.cell (p := ⟨D0, 2, none⟩) lD).trans d2
          have x3 := (bW.cell (p := ⟨D0, 3, none⟩) lD).trans d3
          have hz : w1.heap.size ≤ yW.heap.size := Nat.le_trans zW bW.size
          refine ⟨tp (by kernel_rfl), tp (by kernel_rfl), tp ?_, tp (by kernel_rfl), tp ?_, tp (by kernel_rfl), tp ?_, tsl ?_, tput (f := 92) (args := #[u4, .slice (some ⟨ll 7, 0, none⟩) 3 3]) (fun X => implPutNums w1.heap.size u4 X0 _ 3 3 [p0, p1, p2] _ (own_below HO3.out bW) HXy.out (Nat.le_trans HXl.out (by omega)) hz (is_arr (cs := [p0, p1, p2]) (X ⟨7, .data⟩ (by simp) rfl _ rfl).1 HIb.out) (by omega)) (by kernel_rfl), tp (by kernel_rfl), tp ?_, tcc (u := vv 8) (fun X => X ⟨8, .data⟩ (by simp) rfl _ rfl) (HXy.out.app (nsB_byte _)) ?_, trivial⟩
          all_goals
            try (intro a8 n8 c8 e8; simp only [e8])
            simp only [fillK, putT, List.setIfInBounds_toArray, List.set_cons_zero, List.set_cons_succ]
            unfold execOp
            go_simp
            try rfl
        have F2 : ∃ g u, vv 11 = .slice (some ⟨g, 0, none⟩) 2 2 ∧ Arr yW g 35 [u, .slice ha 32 hc] ∧ yW.ownsRow w1.heap.size 5 1 u (X0 ++ nsB [p0, p1, p2]).length (U8 (X0 ++ nsB [p0, p1, p2])) := F.2.2.2.2.2.2.2.2.2.2.2.1
        clear F ivh aph d0 d1 d2 d3 D lD
        obtain ⟨y, hy⟩ : ∃ z, z = yW := ⟨_, rfl⟩
        rw [← hy] at bW F2 ⊢
        clear hy
        obtain ⟨g, uu, hvv, GA, GO⟩ := F2
        have hxl4 : (X0 ++ nsB [p0, p1, p2]).length ≤ 315 := by
          have := nsB_len [p0, p1, p2]
          have := HXl.out
          rw [List.length_append]
          simp only [List.length_cons, List.length_nil] at *
          omega
        have hxy4 : ByL (X0 ++ nsB [p0, p1, p2]) := HXy.out.app (nsB_byte _)
        obtain ⟨X1, hX1⟩ : ∃ X1, X1 = X0 ++ nsB [p0, p1, p2] := ⟨_, rfl⟩
        rw [← hX1] at HSX GO hxl4 hxy4
        obtain ⟨ua, uc, rfl, _, hBu⟩ := Bs.own GO hxy4
        have g0 := GA.cell 0
        have g1 := GA.cell 1
        simp at g0 g1
        refine st_call (i := 12) (o := { dst := some 42, op := Op.call { callee := Callee.value (Operand.func 93), args := #[Operand.tmp 41], argTypes := #[87] }, type := 35, pos := "l08_bundle.go:86", after := #[{ on := 11, ground := Ground.data }, { on := 8, ground := Ground.chain }], guard := none }) (by kernel_rfl) rfl rfl (f := 93) (args := #[.slice (some ⟨g, 0, none⟩) 2 2]) ?_ ?_
        · rw [← hvv]
          kernel_rfl
        refine Calls.mono (concat2 g ua ha _ uc 32 hc X1 ph y GA.lt g0 g1 hBu (HBh.out.below bW) (by omega) (by omega)) ?_
        rintro e y2 ⟨v2, rfl, o2, hb2⟩
        refine ⟨_, rfl, ?_⟩
        have hzy : w1.heap.size ≤ y.heap.size := Nat.le_trans zW bW.size
        have HO2 : Hid (y2.ownsRow w1.heap.size 5 1 v2 (Y ++ psB (ps.take (k + 1))).length (U8 (Y ++ psB (ps.take (k + 1))))) := by
          unfold Hid
          rw [HSX.out, List.length_append, h32]
          exact own_base o2 hzy
        have hbb : Below wr.heap.size W y2 ∨ True := .inr trivial
        have HB2 : Hid (Below w1.heap.size w1 y2) := (HB3.out.trans (bW.mono zW)).trans (hb2.mono hzy)
        have HA2 : Hid (Arr y2 x 31 [.int .i64 d, .int .i64 n, .int .i64 f, .slice (some ⟨b, o, none⟩) pn pc, .slice na nn nc]) := by
          have h0 : Arr W x 31 [.int .i64 d, .int .i64 n, .int .i64 f, .slice (some ⟨b, o, none⟩) pn pc, .slice na nn nc] := HA3.out
          have h1 : Arr y x 31 [.int .i64 d, .int .i64 n, .int .i64 f, .slice (some ⟨b, o, none⟩) pn pc, .slice na nn nc] := h0.kept bW
          exact h1.kept hb2
        clear o2 hb2 HO3 HB3 HA3 HBh bW hBu GO GA g0 g1 hvv hbb
        refine st_val (i := 13) (o := { dst := some 4, op := Op.assign (Operand.tmp 42), type := 35, pos := "l08_bundle.go:86", after := #[{ on := 12, ground := Ground.data }, { on := 12, ground := Ground.chain }, { on := 0, ground := Ground.phase }, { on := 1, ground := Ground.phase }, { on := 2, ground := Ground.phase }, { on := 3, ground := Ground.phase }, { on := 4, ground := Ground.phase }, { on := 5, ground := Ground.phase }, { on := 6, ground := Ground.phase }, { on := 7, ground := Ground.phase }, { on := 8, ground := Ground.phase }, { on := 9, ground := Ground.phase }, { on := 10, ground := Ground.phase }, { on := 11, ground := Ground.phase }, { on := 12, ground := Ground.phase }], guard := none }) (by kernel_rfl) rfl rfl (v := v2) (w' := y2) (by kernel_rfl) ?_
        refine wpAny_done (by kernel_rfl) ?_ _
        try simp only [Act.put]
        simp only [fillK, putT, List.setIfInBounds_toArray, List.set_cons_zero, List.set_cons_succ]
        go_wp2
        go_roundw
        case rel => first | exact ⟨k + 1, by omega, by go_num, HO2, HB2, HA2⟩ | exact ⟨_, _, _, _, _, _, _, _, _, _, ⟨k + 1, by omega, by go_num, HO2, HB2, HA2⟩, rfl⟩ | exact ⟨_, _, _, _, _, _, _, _, _, _, _, ⟨k + 1, by omega, by go_num, HO2, HB2, HA2⟩, rfl⟩ | exact ⟨_, _, _, _, _, _, _, _, _, _, _, _, ⟨k + 1, by omega, by go_num, HO2, HB2, HA2⟩, rfl⟩ | exact ⟨_, _, _, _, _, _, _, _, _, _, _, _, _, ⟨k + 1, by omega, by go_num, HO2, HB2, HA2⟩, rfl⟩ | exact ⟨_, _, _, _, _, _, _, _, _, _, _, _, _, _, ⟨k + 1, by omega, by go_num, HO2, HB2, HA2⟩, rfl⟩ | exact ⟨_, _, _, _, _, _, _, _, _, _, _, _, _, _, _, ⟨k + 1, by omega, by go_num, HO2, HB2, HA2⟩, rfl⟩ | exact ⟨_, _, _, _, _, _, _, _, _, _, _, _, _, _, _, _, ⟨k + 1, by omega, by go_num, HO2, HB2, HA2⟩, rfl⟩ | exact ⟨_, _, _, _, _, _, _, _, _, _, _, _, _, _, _, _, _, ⟨k + 1, by omega, by go_num, HO2, HB2, HA2⟩, rfl⟩ | exact ⟨_, _, _, _, _, _, _, _, _, _, _, _, _, _, _, _, _, _, ⟨k + 1, by omega, by go_num, HO2, HB2, HA2⟩, rfl⟩ | exact ⟨_, _, _, _, _, _, _, _, _, _, _, _, _, _, _, _, _, _, _, ⟨k + 1, by omega, by go_num, HO2, HB2, HA2⟩, rfl⟩ | exact ⟨_, _, _, _, _, _, _, _, _, _, _, _, _, _, _, _, _, _, _, _, ⟨k + 1, by omega, by go_num, HO2, HB2, HA2⟩, rfl⟩ | exact ⟨_, _, _, _, _, _, _, _, _, _, _, _, _, _, _, _, _, _, _, _, _, ⟨k + 1, by omega, by go_num, HO2, HB2, HA2⟩, rfl⟩ | exact ⟨_, _, _, _, _, _, _, _, _, _, _, _, _, _, _, _, _, _, _, _, _, _, ⟨k + 1, by omega, by go_num, HO2, HB2, HA2⟩, rfl⟩ | exact ⟨_, _, _, _, _, _, _, _, _, _, _, _, _, _, _, _, _, _, _, _, _, _, _, ⟨k + 1, by omega, by go_num, HO2, HB2, HA2⟩, rfl⟩ | exact ⟨_, _, _, _, _, _, _, _, _, _, _, _, _, _, _, _, _, _, _, _, _, _, _, _, ⟨k + 1, by omega, by go_num, HO2, HB2, HA2⟩, rfl⟩ | exact ⟨_, _, _, _, _, _, _, _, _, _, _, _, _, _, _, _, _, _, _, _, _, _, _, _, _, ⟨k + 1, by omega, by go_num, HO2, HB2, HA2⟩, rfl⟩ | exact ⟨_, _, _, _, _, _, _, _, _, _, _, _, _, _, _, _, _, _, _, _, _, _, _, _, _, _, ⟨k + 1, by omega, by go_num, HO2, HB2, HA2⟩, rfl⟩ | exact ⟨_, _, _, _, _, _, _, _, _, _, _, _, _, _, _, _, _, _, _, _, _, _, _, _, _, _, _, ⟨k + 1, by omega, by go_num, HO2, HB2, HA2⟩, rfl⟩ | exact ⟨_, _, _, _, _, _, _, _, _, _, _, _, _, _, _, _, _, _, _, _, _, _, _, _, _, _, _, _, ⟨k + 1, by omega, by go_num, HO2, HB2, HA2⟩, rfl⟩ | exact ⟨_, _, _, _, _, _, _, _, _, _, _, _, _, _, _, _, _, _, _, _, _, _, _, _, _, _, _, _, _, ⟨k + 1, by omega, by go_num, HO2, HB2, HA2⟩, rfl⟩ | exact ⟨_, _, _, _, _, _, _, _, _, _, _, _, _, _, _, _, _, _, _, _, _, _, _, _, _, _, _, _, _, _, ⟨k + 1, by omega, by go_num, HO2, HB2, HA2⟩, rfl⟩ | exact ⟨_, _, _, _, _, _, _, _, _, _, _, _, _, _, _, _, _, _, _, _, _, _, _, _, _, _, _, _, _, _, _, ⟨k + 1, by omega, by go_num, HO2, HB2, HA2⟩, rfl⟩
        case measure => simp [intOf]; omega
      · have hkn : k = pn := by omega
        subst hkn
        have htk : ps.take k = ps := List.take_of_length_le (by have := HPl.out; omega)
        rw [htk] at HO hpl
        obtain ⟨X0, hX0⟩ : ∃ X0, X0 = Y ++ psB ps := ⟨_, rfl⟩
        have hXl : X0.length ≤ 300 := by rw [hX0, List.length_append]; omega
        have HXy : Hid (ByL X0) := by unfold Hid; rw [hX0]; exact HYy.out.app (psB_byte _ HPy.out)
        have HE2 : Hid (buB ⟨d, n, f, ps, ns⟩ = X0 ++ nsB [(nn : Int)] ++ qsB ns) := by unfold Hid; rw [HE.out, hX0]
        rw [← hX0] at HO
        have zB := HB.out.size
        have HIs : Hid (Is (wr.alloc (.cells #[.int .i64 (nn : Int)] 3)) (some ⟨wr.heap.size, 0, none⟩) 1 1 [(nn : Int)]) :=
          is_arr (cs := [(nn : Int)]) (Arr.new wr [.int .i64 (nn : Int)] 3) (by intro y hy; simp at hy; rcases hy with rfl; omega)
        have ba : Below wr.heap.size wr (wr.alloc (.cells #[.int .i64 (nn : Int)] 3)) := (Below.refl _ _).alloc (Nat.le_refl _) _
        clear htk hX0 hpl
        go_wp2_with fail
        refine (implPutNums w1.heap.size _ X0 _ 1 1 [(nn : Int)] _ (own_below HO.out ba) HXy.out (by omega) (by simp; omega) HIs.out (by omega)).mono ?_
        rintro e w2 ⟨u2, rfl, o2, hb2⟩
        replace hb2 : Below wr.heap.size wr w2 := ba.trans (hb2.mono (by simp))
        have HO2 : Hid _ := o2
        have HB2 : Hid (Below w1.heap.size w1 w2) := HB.out.trans (hb2.mono zB)
        have HA2 : Hid (Arr w2 x 31 [.int .i64 d, .int .i64 n, .int .i64 f, .slice pa k pc, .slice na nn nc]) := A.kept hb2
        have c4' : w2.cell? ⟨x, 4, none⟩ = some (.slice na nn nc) := (hb2.cell (p := ⟨x, 4, none⟩) A.lt).trans c4
        obtain ⟨Y2, hY2⟩ : ∃ Y2, Y2 = X0 ++ nsB [(nn : Int)] := ⟨_, rfl⟩
        have hYl : Y2.length ≤ 305 := by have := nsB_len [(nn : Int)]; rw [hY2, List.length_append]; simp only [List.length_cons, List.length_nil] at this; omega
        have HY2 : Hid (ByL Y2) := by unfold Hid; rw [hY2]; exact HXy.out.app (nsB_byte _)
        rw [← hY2] at HO2 HE2
        clear o2 hb2 c4 A HO HB HA hY2 HXy HE hXl HIs ba
        go_wp2
        go_loopw [4, 53] (fun u i wr => ∃ j : Nat, j ≤ nn ∧ i = .int .i64 j ∧ Hid (wr.ownsRow w1.heap.size 5 1 u (Y2 ++ qsB (ns.take j)).length (U8 (Y2 ++ qsB (ns.take j)))) ∧ Hid (Below w1.heap.size w1 wr) ∧ Hid (Arr wr x 31 [.int .i64 d, .int .i64 n, .int .i64 f, .slice pa k pc, .slice na nn nc])) (fun _ i _ => nn - (intOf i).toNat)
        case atStart => exact ⟨0, by omega, rfl, by rw [show Y2 ++ qsB (ns.take 0) = Y2 by simp [qsB]]; exact HO2, HB2, HA2⟩
        case round =>
          clear HO2 HB2 HA2 c4'
          obtain ⟨j, hj, rfl, HO, HB, HA⟩ := hrel
          have A : Arr wr x 31 [.int .i64 d, .int .i64 n, .int .i64 f, .slice pa k pc, .slice na nn nc] := HA.out
          have hql : (qsB (ns.take j)).length ≤ 20 * j := by
            have := qsB_len (ns.take j)
            have ht : (ns.take j).length ≤ j := by simp; omega
            omega
          by_cases hlt : j < nn
          · have hltI : (j : Int) < (nn : Int) := by omega
            obtain ⟨b, o, rfl, hbs, hcell⟩ : ∃ b o, na = some ⟨b, o, none⟩ ∧ b < w1.heap.size ∧ ∀ i, i < nn → NeedAt w1 b (o + i * 4) (ns.getD i nz) := by
              rcases HN.out.2.2.2 with h | h
              · omega
              · exact h
            have hr := hcell j hlt
            obtain ⟨⟨⟨hk0, hk1⟩, ⟨ho0, ho1⟩, _, ⟨hf0, hf1⟩, ⟨ht0, ht1⟩, _⟩, _⟩ := HNk.out j (by rw [HNl.out]; exact hlt)
            have hsn : qsB (ns.take (j + 1)) = qsB (ns.take j) ++ ndB (ns.getD j nz) := by
              have hl := HNl.out
              rw [List.take_succ_eq_append_getElem (by omega), qsB_snoc]
              simp [show j < ns.length by omega]
            obtain ⟨p, hp0⟩ : ∃ p, p = ns.getD j nz := ⟨_, rfl⟩
            rw [← hp0] at hr hsn hk0 hk1 ho0 ho1 hf0 hf1 ht0 ht1
            replace hr := hr.below hbs HB.out
            clear hp0 hcell
            obtain ⟨p0, p1, p2, p3⟩ := p
            obtain ⟨q0, q1, q2, q3⟩ := hr
            dsimp only at q0 q1 q2 q3 hk0 hk1 ho0 ho1 hf0 hf1 ht0 ht1
            obtain ⟨X0, hX0⟩ : ∃ X0, X0 = Y2 ++ qsB (ns.take j) := ⟨_, rfl⟩
            have hXl : X0.length ≤ 500 := by rw [hX0, List.length_append]; omega
            have HXy : Hid (ByL X0) := by unfold Hid; rw [hX0]; exact HY2.out.app (qsB_byte _)
            have HSX : Hid (Y2 ++ qsB (ns.take (j + 1)) = X0 ++ nsB [p0, p3, p1, p2]) := by unfold Hid; rw [hsn, hX0]; simp [ndB]
            rw [← hX0] at HO
            have hbr : b < wr.heap.size := Nat.lt_of_lt_of_le hbs HB.out.size
            obtain ⟨W, hW⟩ : ∃ W, W = wr.alloc (.cells #[.int .i64 p0, .int .i64 p1, .int .i64 p2, .int .i64 p3] 115) := ⟨_, rfl⟩
            have b3 : Below wr.heap.size wr W := by rw [hW]; exact (Below.refl _ _).alloc (Nat.le_refl _) _
            have D : Arr W wr.heap.size 115 [.int .i64 p0, .int .i64 p1, .int .i64 p2, .int .i64 p3] := by rw [hW]; exact Arr.new _ _ _
            have HO3 : Hid (W.ownsRow w1.heap.size 5 1 u4 X0.length (U8 X0)) := own_below HO.out b3
            have HB3 : Hid (Below w1.heap.size w1 W) := HB.out.trans (b3.mono HB.out.size)
            have HA3 : Hid (Arr W x 31 [.int .i64 d, .int .i64 n, .int .i64 f, .slice pa k pc, .slice (some ⟨b, o, none⟩) nn nc]) := A.kept b3
            have HIs : Hid (Is (W.alloc (.cells #[.int .i64 p0, .int .i64 p3, .int .i64 p1, .int .i64 p2] 3)) (some ⟨W.heap.size, 0, none⟩) 4 4 [p0, p3, p1, p2]) :=
              is_arr (cs := [p0, p3, p1, p2]) (Arr.new W [.int .i64 p0, .int .i64 p3, .int .i64 p1, .int .i64 p2] 3) (by intro y hy; simp at hy; rcases hy with rfl | rfl | rfl | rfl <;> omega)
            have ba : Below W.heap.size W (W.alloc (.cells #[.int .i64 p0, .int .i64 p3, .int .i64 p1, .int .i64 p2] 3)) := (Below.refl _ _).alloc (Nat.le_refl _) _
            go_upto_region 13 with fail
            rw [← hW]
            clear hW b3 q0 q1 q2 q3 hX0 hsn HO HB HA A hk0 hk1 ho0 ho1 hf0 hf1 ht0 ht1
            have d0 := D.cell 0
            have d1 := D.cell 1
            have d2 := D.cell 2
            have d3 := D.cell 3
            simp at d0 d1 d2 d3
            have zW := HB3.out.size
            go_wp2_with fail
            refine (implPutNums w1.heap.size _ X0 _ 4 4 [p0, p3, p1, p2] _ (own_below HO3.out ba) HXy.out (by omega) (by simp; omega) HIs.out (by omega)).mono ?_
            rintro e y ⟨v2, rfl, o2, hb2⟩
            replace hb2 : Below W.heap.size W y := ba.trans (hb2.mono (by simp))
            rw [← HSX.out] at o2
            have HO2 : Hid _ := o2
            have HB2 : Hid (Below w1.heap.size w1 y) := HB3.out.trans (hb2.mono zW)
            have HA2 : Hid (Arr y x 31 [.int .i64 d, .int .i64 n, .int .i64 f, .slice pa k pc, .slice (some ⟨b, o, none⟩) nn nc]) := by
              have h0 : Arr W x 31 [.int .i64 d, .int .i64 n, .int .i64 f, .slice pa k pc, .slice (some ⟨b, o, none⟩) nn nc] := HA3.out
              exact h0.kept hb2
            clear o2 hb2 HO3 HB3 HA3 d0 d1 d2 d3 D HIs ba
            go_wp2
            go_roundw
            case rel => first | exact ⟨j + 1, by omega, by go_num, HO2, HB2, HA2⟩ | exact ⟨_, _, _, _, _, _, _, _, _, _, ⟨j + 1, by omega, by go_num, HO2, HB2, HA2⟩, rfl⟩ | exact ⟨_, _, _, _, _, _, _, _, _, _, _, ⟨j + 1, by omega, by go_num, HO2, HB2, HA2⟩, rfl⟩ | exact ⟨_, _, _, _, _, _, _, _, _, _, _, _, ⟨j + 1, by omega, by go_num, HO2, HB2, HA2⟩, rfl⟩ | exact ⟨_, _, _, _, _, _, _, _, _, _, _, _, _, ⟨j + 1, by omega, by go_num, HO2, HB2, HA2⟩, rfl⟩ | exact ⟨_, _, _, _, _, _, _, _, _, _, _, _, _, _, ⟨j + 1, by omega, by go_num, HO2, HB2, HA2⟩, rfl⟩ | exact ⟨_, _, _, _, _, _, _, _, _, _, _, _, _, _, _, ⟨j + 1, by omega, by go_num, HO2, HB2, HA2⟩, rfl⟩ | exact ⟨_, _, _, _, _, _, _, _, _, _, _, _, _, _, _, _, ⟨j + 1, by omega, by go_num, HO2, HB2, HA2⟩, rfl⟩ | exact ⟨_, _, _, _, _, _, _, _, _, _, _, _, _, _, _, _, _, ⟨j + 1, by omega, by go_num, HO2, HB2, HA2⟩, rfl⟩ | exact ⟨_, _, _, _, _, _, _, _, _, _, _, _, _, _, _, _, _, _, ⟨j + 1, by omega, by go_num, HO2, HB2, HA2⟩, rfl⟩ | exact ⟨_, _, _, _, _, _, _, _, _, _, _, _, _, _, _, _, _, _, _, ⟨j + 1, by omega, by go_num, HO2, HB2, HA2⟩, rfl⟩ | exact ⟨_, _, _, _, _, _, _, _, _, _, _, _, _, _, _, _, _, _, _, _, ⟨j + 1, by omega, by go_num, HO2, HB2, HA2⟩, rfl⟩ | exact ⟨_, _, _, _, _, _, _, _, _, _, _, _, _, _, _, _, _, _, _, _, _, ⟨j + 1, by omega, by go_num, HO2, HB2, HA2⟩, rfl⟩ | exact ⟨_, _, _, _, _, _, _, _, _, _, _, _, _, _, _, _, _, _, _, _, _, _, ⟨j + 1, by omega, by go_num, HO2, HB2, HA2⟩, rfl⟩ | exact ⟨_, _, _, _, _, _, _, _, _, _, _, _, _, _, _, _, _, _, _, _, _, _, _, ⟨j + 1, by omega, by go_num, HO2, HB2, HA2⟩, rfl⟩ | exact ⟨_, _, _, _, _, _, _, _, _, _, _, _, _, _, _, _, _, _, _, _, _, _, _, _, ⟨j + 1, by omega, by go_num, HO2, HB2, HA2⟩, rfl⟩ | exact ⟨_, _, _, _, _, _, _, _, _, _, _, _, _, _, _, _, _, _, _, _, _, _, _, _, _, ⟨j + 1, by omega, by go_num, HO2, HB2, HA2⟩, rfl⟩ | exact ⟨_, _, _, _, _, _, _, _, _, _, _, _, _, _, _, _, _, _, _, _, _, _, _, _, _, _, ⟨j + 1, by omega, by go_num, HO2, HB2, HA2⟩, rfl⟩ | exact ⟨_, _, _, _, _, _, _, _, _, _, _, _, _, _, _, _, _, _, _, _, _, _, _, _, _, _, _, ⟨j + 1, by omega, by go_num, HO2, HB2, HA2⟩, rfl⟩ | exact ⟨_, _, _, _, _, _, _, _, _, _, _, _, _, _, _, _, _, _, _, _, _, _, _, _, _, _, _, _, ⟨j + 1, by omega, by go_num, HO2, HB2, HA2⟩, rfl⟩ | exact ⟨_, _, _, _, _, _, _, _, _, _, _, _, _, _, _, _, _, _, _, _, _, _, _, _, _, _, _, _, _, ⟨j + 1, by omega, by go_num, HO2, HB2, HA2⟩, rfl⟩ | exact ⟨_, _, _, _, _, _, _, _, _, _, _, _, _, _, _, _, _, _, _, _, _, _, _, _, _, _, _, _, _, _, ⟨j + 1, by omega, by go_num, HO2, HB2, HA2⟩, rfl⟩ | exact ⟨_, _, _, _, _, _, _, _, _, _, _, _, _, _, _, _, _, _, _, _, _, _, _, _, _, _, _, _, _, _, _, ⟨j + 1, by omega, by go_num, HO2, HB2, HA2⟩, rfl⟩ | exact ⟨_, _, _, _, _, _, _, _, _, _, _, _, _, _, _, _, _, _, _, _, _, _, _, _, _, _, _, _, _, _, _, _, ⟨j + 1, by omega, by go_num, HO2, HB2, HA2⟩, rfl⟩ | exact ⟨_, _, _, _, _, _, _, _, _, _, _, _, _, _, _, _, _, _, _, _, _, _, _, _, _, _, _, _, _, _, _, _, _, ⟨j + 1, by omega, by go_num, HO2, HB2, HA2⟩, rfl⟩ | exact ⟨_, _, _, _, _, _, _, _, _, _, _, _, _, _, _, _, _, _, _, _, _, _, _, _, _, _, _, _, _, _, _, _, _, _, ⟨j + 1, by omega, by go_num, HO2, HB2, HA2⟩, rfl⟩ | exact ⟨_, _, _, _, _, _, _, _, _, _, _, _, _, _, _, _, _, _, _, _, _, _, _, _, _, _, _, _, _, _, _, _, _, _, _, ⟨j + 1, by omega, by go_num, HO2, HB2, HA2⟩, rfl⟩
            case measure => simp [intOf]; omega
          · have hjn : j = nn := by omega
            subst hjn
            have htk : ns.take j = ns := List.take_of_length_le (by have := HNl.out; omega)
            rw [htk] at HO
            go_wp2
            go_ret2
            refine ⟨_, rfl, ?_, HX.out ▸ HB0.out HB.out⟩
            rw [HM.out, HE2.out]
            exact own_base HO.out (HX.out ▸ HZ1.out)
end Go.Proofs.Ytgfjbaigmkdbcaa
