/-
  What is proved here: what the program's Scan answers.
-/
import Derived.Test.YtjceajgefpinpaaJN22
import Derived.Maps.OwnIn
namespace Go.Proofs.Ytjceajgefpinpaa
open Go.RowKit Go.Shelf
set_option maxRecDepth 100000
set_option maxHeartbeats 4000000
set_option linter.unusedVariables false
attribute [local go_sem] Oper.semAt_some

theorem wplIn_app_r {F : Fence} {nF : Nat} {w : World} {ops : Array Oper} {rest : List Oper} {o : Oper} {a : Act} {Q : Exit → Act → World → Prop} (hgd : o.guard = none) (s x : Operand)
    (ho : o.op = .call { callee := .builtin .append, args := #[s, x], argTypes := #[24, 24] })
    (base : Nat) (v : Value) (n : Nat) (xs : List Rc) (hs : a.eval s = v) (g c : Nat) (r : Rc) (hx : a.eval x = .slice (some ⟨g, 0, none⟩) 1 c)
    (hown : w.ownsRow base 29 4 v n (FL xs)) (A : Arr w g 29 (rcC r)) (hn : n ≤ 1048576) (hbase : base ≤ w.heap.size)
    (h : ∀ v' w', w'.ownsRow base 29 4 v' (n + 1) (FL (xs ++ [r])) → w.grownBy w' v.ownBlock → (v'.ownBlock = v.ownBlock ∨ v'.ownBlock = some w.heap.size) → wpListIn F nF Try.prog ops Q rest (a.put o.dst v') w') :
    wpListIn F nF Try.prog ops Q (o :: rest) a w := by
  obtain ⟨i0, hi, hz0, hz1, hz2⟩ := info_parts (show (Try.prog.info? 29).map (fun i => (i.zero, i.size, i.bytes)) = some (some (rcV 0 0 0 0), 4, 32) by kernel_rfl)
  refine wpListIn_append_own_at w hgd s x 24 ho base 29 i0 (rcV 0 0 0 0) 4 32 Try.underlying24 hi hz0 hz1 hz2 rfl (by decide) v n (FL xs) hs hown ⟨g, 0, none⟩ 1 c (FL [r]) hx rfl (fun j u hj => ?_) (FL_one _) (by unfold maxLen; omega) (by omega) hbase ?_
  · have hj4 : j < 4 := by
      have := (List.getElem?_eq_some_iff.1 hj).1
      simpa [FL] using this
    rw [Addr.add_lit, show (0 : Nat) + j = j by omega, A.cell j]
    exact hj
  · intro v' w' h1 h2 _ h4
    exact h v' w' (by rw [FL_app]; exact h1) h2 h4
/-- Where the loop stands: the rows that it collected, in a cell. -/
structure SI (w : World) (P4 S : Nat) (L : List Rc) (k : Nat) (A : World) : Prop where
  r : ∃ v, Arr A P4 24 [v] ∧ A.ownsRow S 29 4 v k (FL (L.take k))
  b : Below w.heap.size w A
  z : S ≤ A.heap.size
theorem own_off {A A' : World} {b e s n : Nat} {v : Value} {xs : List Value} (h : A.ownsRow b e s v n xs) {row : Option Nat} (hg : A.grownBy A' row) (hr : ∀ r, row = some r → ∃ o : Obj, A.heap[r]? = some o ∧ o.isCells = false) : A'.ownsRow b e s v n xs := by
  refine ⟨h.1, ?_⟩
  rcases h.2 with hn | ⟨g, cap, cur, rfl, hb, hgg, rest⟩
  · exact .inl hn
  · refine .inr ⟨g, cap, cur, rfl, hb, ?_, rest⟩
    rw [hg.block g (Array.getElem?_eq_some_iff.1 hgg).1 (fun e => ?_)]
    · exact hgg
    · obtain ⟨o, ho, hc⟩ := hr g e.symm
      rw [hgg] at ho
      cases ho
      cases hc
theorem SI.abd {w : World} {P4 S : Nat} {L : List Rc} (h1 : P4 < S) (h2 : w.heap.size ≤ S) : Abd S (SI w P4 S L) := fun k A A' row h hg hr => by
  obtain ⟨⟨v, a, o⟩, b, z⟩ := h
  refine ⟨⟨v, ?_, own_off o hg (fun r e => (hr r e).2)⟩, b.grown hg b.size (fun g e => Nat.le_trans h2 (hr g e).1), Nat.le_trans z hg.size⟩
  unfold Arr
  rw [hg.block P4 a.lt (fun e => by have := (hr P4 e.symm).1; omega)]
  exact a
theorem kp3_put {n₀ S : Nat} (hn : n₀ ≤ S + 1) (W : World) (o o' : Obj) (h : W.heap[S + 1]? = some o) (hc : o.isCells = false) : Kp3 n₀ (S + 2) W (W.putObj (S + 1) o') := by
  have g := grownBy_putObj' W (S + 1) o'
  exact ⟨⟨g.os, g.tape, g.output, g.size, fun i hi => g.block i (by have := (Array.getElem?_eq_some_iff.1 h).1; omega) (fun e => by injection e with e; omega)⟩, KT.put o' h hc, fun q ob hq hqq _ => (World.putObj_heap_other (by omega)).trans hqq⟩
theorem kp3_bel {n₀ B : Nat} {W W' : World} (hn : n₀ ≤ W.heap.size) (h : Below W.heap.size W W') : Kp3 n₀ B W W' := ⟨h.mono hn, KT.of_bel h, fun g o _ hg _ => (h.block g (Array.getElem?_eq_some_iff.1 hg).1).trans hg⟩
theorem implScan (a : Option Addr) (n c : Nat) (xs : List Int) (w : World) (h : Bs w a n c xs) (hn : n ≤ 2097152) :
    Calls Try.prog 14 #[.slice a n c] w fun e w' => ∃ v, e = .returned (.tuple #[v, .int .i64 ((scN xs : Nat) : Int)]) ∧ w'.ownsRow w.heap.size 29 4 v (scL xs).length (FL (scL xs)) ∧ Below w.heap.size w w' := by
  have hl := h.2.1
  refine (callsIn_wide (n := 5)).1 ?_
  refine callsIn_of_wp_marks Try.func14 rfl trivial ?_ rfl
  simp only [Try.ntmps14, List.size_toArray, List.length_cons, List.length_nil, Nat.reduceAdd, Nat.reduceSub, Array.replicate_succ, Array.replicate_zero, List.push_toArray, List.append_toArray, List.nil_append, List.cons_append]
  by_cases h256 : n = 256
  case neg =>
    have e1 : scN xs = 0 := if_neg (by rw [hl]; exact h256)
    have e2 : scL xs = [] := if_neg (by rw [hl]; exact h256)
    have hne : ((n : Int) != 256) = true := by simp; omega
    rw [e1, e2]
    clear e1 e2
    gi_wp2
    exact ⟨_, results_tmp2 rfl _ _ _, _, rfl, World.ownsRow_nil _ _ _ _, Below.refl _ _⟩
  subst h256
  have e1 : scN xs = scU xs 32 := if_pos hl
  have e2 : scL xs = scR xs 32 := if_pos hl
  rw [e1, e2]
  clear e1 e2
  obtain ⟨L, hL⟩ : ∃ L, L = scR xs 32 := ⟨_, rfl⟩
  have HL : Hid (L = scR xs 32) := hL
  have hLl : L.length ≤ 32 := by rw [hL]; exact scR_le xs 32
  rw [← hL]
  obtain ⟨u, hu⟩ : ∃ u, u = scU xs 32 := ⟨_, rfl⟩
  have HU : Hid (u = scU xs 32) := hu
  rw [← hu]
  clear hL hu
  obtain ⟨b, o, rfl⟩ : ∃ b o, a = some ⟨b, o, none⟩ := by
    rcases h.2.2.2.2 with hq | ⟨b, o, e, _⟩
    · omega
    · exact ⟨b, o, e⟩
  have HX : Hid (Bs w (some ⟨b, o, none⟩) 256 c xs) := h
  clear h hl
  obtain ⟨W0, hW0⟩ : ∃ W0, W0 = w.alloc (.cells #[.slice none 0 0] 24) := ⟨_, rfl⟩
  have B0 : Below w.heap.size w W0 := by rw [hW0]; exact (Below.refl _ _).alloc (Nat.le_refl _) _
  have A0 : Arr W0 w.heap.size 24 [.slice none 0 0] := by rw [hW0]; exact Arr.new w [.slice none 0 0] _
  gi_wp2_with fail
  rw [← hW0]
  clear hW0
  refine ⟨trivial, (callsIn_wide.2 (implRecordsIn (some ⟨b, o, none⟩) 256 c W0)).mono ?_⟩
  rintro e w1 ⟨rfl, hp1, hs1, hb1⟩
  have B1 := B0.trans (hb1.mono B0.size)
  have z0 : w.heap.size < W0.heap.size := A0.lt
  replace A0 := A0.kept hb1
  have hws : w.heap.size < w1.heap.size := by omega
  clear hs1
  gi_wp2_with fail
  refine range_tellsO (n := 5) (gf := 72) (lb := #[.pointer (some ⟨W0.heap.size, 0, none⟩)]) rfl (enters_of Try.func72 (by kernel_rfl) rfl)
    (encs := fun k => eR (rg L k)) (N := L.length) (Kp := Kp3 w.heap.size (w1.heap.size + 2)) Kp3.trans
    (fun V o o' h hc => kp3_put (by omega) V o o' h hc)
    (fun V hb hz => by
      have := recTells (5 - 1) (w1.heap.size + 2) W0.heap.size b o c xs w V HX.out (B1.trans (hb.mono B1.size)) hz (hp1.kept hb)
      rw [← HL.out] at this
      exact this) (fun _ => rfl)
    (SI w w.heap.size w1.heap.size L) (SI.abd (by omega) B1.size) ⟨⟨_, A0, World.ownsRow_nil _ _ _ _⟩, B1, Nat.le_refl _⟩
    (fun k a' A => ∃ Bx, w1.heap.size + 2 ≤ Bx ∧ Arr A Bx 29 (rcC (rg L k)) ∧ a' = { tmps := #[.slice (some ⟨b, o, none⟩) 256 c, undef, .slice none 0 0, .int .i64 0, .pointer (some ⟨w.heap.size, 0, none⟩), .pointer (some ⟨Bx, 0, none⟩), .slice (some ⟨b, o, none⟩) 256 c, .int .i64 256, .bool false, .slice (some ⟨b, o, none⟩) 256 c, .func (.func 72) #[] #[.pointer (some ⟨W0.heap.size, 0, none⟩)], rcV (rg L k).k (rg L k).b (rg L k).n (rg L k).f, undef, undef, undef, undef, undef, undef, undef], defers := [] })
    (fun k a' A o o' ho hc h => by
      obtain ⟨Bx, g1, g2, g3⟩ := h
      exact ⟨Bx, g1, (World.putObj_heap_other (by omega)).trans g2, g3⟩) ?assign ?body ?done
  case assign =>
    rintro l k V R hk hz hi hR
    obtain ⟨r, hr⟩ : ∃ r, r = rg L k := ⟨_, rfl⟩
    rw [← hr] at hR ⊢
    have HI : Hid _ := SI.abd (L := L) (show w.heap.size < w1.heap.size by omega) B1.size k V (V.alloc (.cells #[.int .i64 r.k, .int .i64 r.b, .int .i64 r.n, .int .i64 r.f] 29)) none hi (World.grownBy_alloc V _ none) (fun r e => by cases e)
    have HB : Hid (w.heap.size ≤ V.heap.size) := hi.b.size
    have HR : Hid _ := hR
    clear hi hr hR
    gi_wp2
    exact HR.out _ _ (kp3_bel HB.out ((Below.refl _ _).alloc (Nat.le_refl _) _)) ⟨by simp, fun b _ hl => Below.heap_alloc _ _ _ hl⟩ HI.out ⟨V.heap.size, hz, Arr.new V (rcC r) 29, rfl⟩
  case body =>
    rintro l k a' V hk hz hnc hi ⟨Bx, hBx, hA, rfl⟩
    obtain ⟨⟨v, a4, ov⟩, bv, zv⟩ := hi
    have HS : Hid (L.take (k + 1) = L.take k ++ [rg L k]) := rc_snoc L k hk
    obtain ⟨r, hr⟩ : ∃ r, r = rg L k := ⟨_, rfl⟩
    rw [← hr] at hA HS ⊢
    clear hr
    have c4 := a4.cell 0
    have e0 := hA.cell 0
    have e1 := hA.cell 1
    have e2 := hA.cell 2
    have e3 := hA.cell 3
    simp at c4 e0 e1 e2 e3
    have lA := a4.lt
    have lB := hA.lt
    have HNC : Hid _ := hnc
    have HZ : Hid (w1.heap.size ≤ V.heap.size) := zv
    clear hnc
    gi_wp2_with (gi_at_builtin; refine wplIn_app_r rfl _ _ rfl w1.heap.size v k _ rfl V.heap.size 1 r rfl (World.ownsRow.alloc ov _) (Arr.new V (rcC r) 29) (by omega) (Nat.le_trans HZ.out (by simp)) ?_)
    intro v' X oX gX _
    obtain ⟨va, vc, rfl, _, _⟩ := Rs.own oX
    obtain ⟨v', hv'⟩ : ∃ v', v' = Value.slice va (k + 1) vc := ⟨_, rfl⟩
    rw [← hv'] at oX
    have hvb : ∀ j, v.ownBlock = some j → w1.heap.size ≤ j := fun j hj => (World.ownsRow.lt ov j hj).1
    have hpres : ∀ g, g < V.heap.size → v.ownBlock ≠ some g → X.heap[g]? = V.heap[g]? := fun g hg hne => (gX.block g (by simp; omega) (fun e => hne e.symm)).trans (Below.heap_alloc _ _ _ hg)
    have hvc : ∀ (g : Nat) (o : Obj), V.heap[g]? = some o → v.ownBlock = some g → ∃ cur, o = .cells cur 29 (0, 0) := fun g o ho hg => by
      rcases ov.2 with ⟨rfl, _⟩ | ⟨g0, cap, cur, rfl, _, hgg, _⟩
      · simp [Value.ownBlock] at hg
      · simp [Value.ownBlock] at hg
        subst hg
        rw [hgg] at ho
        cases ho
        exact ⟨cur, rfl⟩
    have aX : Arr X w.heap.size 24 [v] := (hpres _ lA (fun e => by have := hvb _ e; omega)).trans a4
    have cX := aX.cell 0
    have fX := aX.frozen 0
    have lX := aX.lt
    simp at cX
    have zX : V.heap.size ≤ X.heap.size := Nat.le_trans (by simp) gX.size
    have bX : Below w.heap.size w X := (bv.alloc bv.size _).grown gX (Nat.le_trans bv.size (by simp)) (fun j hj => by have := hvb j hj; omega)
    have hb2 : Below w.heap.size V X := ((Below.refl _ V).alloc bv.size _).grown gX (Nat.le_trans bv.size (by simp)) (fun j hj => by have := hvb j hj; omega)
    obtain ⟨Y, hY⟩ : ∃ Y, Y = X.setCell ⟨w.heap.size, 0, none⟩ v' := ⟨_, rfl⟩
    have hoth : ∀ g, g ≠ w.heap.size → Y.heap[g]? = X.heap[g]? := fun g hg => by rw [hY]; exact Below.heap_setCell _ _ _ _ hg
    have zY : Y.heap.size = X.heap.size := by rw [hY]; simp
    have aY : Arr Y w.heap.size 24 [v'] := by rw [hY]; exact aX.set 0 v'
    have oY : Y.ownsRow w1.heap.size 29 4 v' (k + 1) (FL (L.take (k + 1))) := by
      rw [HS.out, hY]
      refine World.ownsRow.kept oX (grownBy_setCell' X w.heap.size v') ?_
      cases hv : v'.ownBlock with
      | none => exact .inl rfl
      | some j => exact .inr (fun e => by
          have := (World.ownsRow.lt oX j hv).1
          injection e with e
          omega)
    have bY : Below w.heap.size w Y := by rw [hY]; exact bX.setCell (Nat.le_refl _) _
    have hnoc : ∀ (g : Nat) (ob : Obj), V.heap[g]? = some ob → ob.isCells = false → Y.heap[g]? = some ob := fun g ob hg hc => by
      have hl := (Array.getElem?_eq_some_iff.1 hg).1
      have h1 : g ≠ w.heap.size := fun e => by
        subst e
        rw [show V.heap[w.heap.size]? = _ from a4] at hg
        cases hg
        cases hc
      have h2 : v.ownBlock ≠ some g := fun e => by
        obtain ⟨cur, rfl⟩ := hvc g ob hg e
        cases hc
      exact (hoth g h1).trans ((hpres g hl h2).trans hg)
    have HF : Hid (SI w w.heap.size w1.heap.size L (k + 1) Y ∧ Kp3 w.heap.size (w1.heap.size + 2) V Y ∧ Same (fun b => b = w1.heap.size ∨ b = w1.heap.size + 1) V Y) := by
      refine ⟨⟨⟨v', aY, oY⟩, bY, by rw [zY]; omega⟩, ⟨by rw [hY]; exact hb2.setCell (Nat.le_refl _) _, ⟨by rw [zY]; exact zX, fun g cs t fz hg h1 h2 => ?_⟩, fun g ob _ hg hc => hnoc g ob hg hc⟩, ⟨by rw [zY]; exact zX, fun g hg hl => ?_⟩⟩
      · have hl := (Array.getElem?_eq_some_iff.1 hg).1
        have n1 : g ≠ w.heap.size := fun e => by
          subst e
          rw [show V.heap[w.heap.size]? = _ from a4] at hg
          cases hg
          exact h1 rfl
        have n2 : v.ownBlock ≠ some g := fun e => by
          obtain ⟨cur, he⟩ := hvc g _ hg e
          cases he
          exact h2 rfl
        exact (hoth g n1).trans ((hpres g hl n2).trans hg)
      · obtain ⟨ob, ho, hc⟩ := HNC.out g hg
        rw [ho]
        exact hnoc g ob ho hc
    rw [hv'] at hY
    have HYY : Hid (Y = X.setCell ⟨w.heap.size, 0, none⟩ (.slice va (k + 1) vc)) := hY
    clear c4 e0 e1 e2 e3 hvb hpres hvc bX hb2 hoth aY oY bY hnoc oX gX HNC hY zY hv'
    gi_wp2
    rw [← HYY.out]
    exact HF.out
  case done =>
    intro V hi hd
    obtain ⟨⟨v, a4, ov⟩, bv, zv⟩ := hi
    gi_wp2_with fail
    refine wpIn_wide.2 ?_
    have c4 := a4.cell 0
    simp at c4
    have lA := a4.lt
    have HB : Hid (∀ Z, Below V.heap.size V Z → Bs Z (some ⟨b, o, none⟩) 256 c xs) := fun Z hZ => HX.out.below (bv.trans (hZ.mono bv.size))
    try simp only [Act.put]
    refine tame [kc 16 v, kc 17 (.slice (some ⟨b, o, none⟩) 256 c), kc 18 (.int .i64 (u : Int))] 3 (by kernel_rfl) (by kernel_rfl) (by kernel_rfl) (by repeat' first | exact trivial | apply kc_keeps | constructor) 2 (by kernel_rfl) (fun vv ll hh yW bW => ?_) (fun vv ll hh yW bW F ivh aph => ?_)
    · have x1 := (bW.cell (p := ⟨w.heap.size, 0, none⟩) lA).trans c4
      refine ⟨tp ?_, tp (by kernel_rfl), tr (f := 51) (args := #[.slice (some ⟨b, o, none⟩) 256 c]) (fun _ => (implUsed (some ⟨b, o, none⟩) c xs yW (HB.out _ bW)).mono (by rintro e w' ⟨rfl, hw⟩; exact ⟨_, rfl, undef, by rw [HU.out], by rw [hw]; exact Below.refl _ _, trivial⟩)) (by kernel_rfl), trivial⟩
      all_goals
        simp only [fillK, putT, List.setIfInBounds_toArray, List.set_cons_zero, List.set_cons_succ]
        unfold execOp
        try go_simp
    clear F ivh aph
    obtain ⟨y, hy2⟩ : ∃ z, z = yW := ⟨_, rfl⟩
    rw [← hy2] at bW ⊢
    clear hy2
    refine st_val (i := 3) (o := { dst := some 2, op := Op.assign (Operand.tmp 16), type := 24, pos := "l10_log.go:107", after := #[{ on := 0, ground := Ground.data }, { on := 2, ground := Ground.chain }, { on := 0, ground := Ground.phase }, { on := 1, ground := Ground.textOnly Departure.lateStores }, { on := 2, ground := Ground.textOnly Departure.lateStoresUnsure }], guard := none }) (by kernel_rfl) rfl rfl (v := v) (w' := y) (by kernel_rfl) ?_
    refine st_val (i := 4) (o := { dst := some 3, op := Op.assign (Operand.tmp 18), type := 3, pos := "l10_log.go:107", after := #[{ on := 2, ground := Ground.data }, { on := 3, ground := Ground.chain }, { on := 0, ground := Ground.phase }, { on := 1, ground := Ground.phase }, { on := 2, ground := Ground.phase }, { on := 3, ground := Ground.phase }], guard := none }) (by kernel_rfl) rfl rfl (v := .int .i64 (u : Int)) (w' := y) (by kernel_rfl) ?_
    refine wpAny_done (by kernel_rfl) ?_ _
    try simp only [Act.put]
    simp only [fillK, putT, List.setIfInBounds_toArray, List.set_cons_zero, List.set_cons_succ]
    have HD : Hid (y.heap[w1.heap.size]? = some (.deferred (some []))) := (bW.block _ (Array.getElem?_eq_some_iff.1 hd).1).trans hd
    have HO : Hid (y.ownsRow w1.heap.size 29 4 v L.length (FL L)) := by
      have := own_below ov bW
      rw [List.take_length] at this
      exact this
    have HBy : Hid (Below w.heap.size w y) := bv.trans (bW.mono bv.size)
    have hS := B1.size
    clear a4 ov bv zv c4 lA bW hd
    gi_wp2
    refine ⟨by simp, .inl ⟨_, _, rfl, run_takeDeferred HD.out, ?_⟩⟩
    exact ⟨_, results_tmp2 rfl _ _ _, _, rfl, own_base (own_off HO.out (grownBy_putObj' y w1.heap.size _) (fun r e => by cases e; exact ⟨_, HD.out, rfl⟩)) hS, HBy.out.grown (grownBy_putObj' y w1.heap.size _) HBy.out.size (fun r e => by cases e; exact hS)⟩
theorem scL_len (xs : List Int) : (scL xs).length ≤ 32 := by
  unfold scL
  split
  · exact scR_le xs 32
  · simp
end Go.Proofs.Ytjceajgefpinpaa
