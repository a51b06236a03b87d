/-
  What is proved here: a map from a number to a row of needs, how it is read and written; what the program's needsByWho answers; what the program's needsByWho answers; what the program's metBy answers, and slices.IndexFunc and slices.ContainsFunc over parts at it; part by part, the needs of its kind that are not met are just the needs that a bundle lacks, in their order; plain data alone.
-/
import Derived.Test.YtofflhhlacdgfaaDoorJM21
import Derived.Maps.Views
import Derived.Test.YtofflhhlacdgfaaDoorJM16
import Derived.Test.YtofflhhlacdgfaaDoorJM20
namespace Go.Proofs.YtofflhhlacdgfaaDoor
open Go.RowKit
set_option maxRecDepth 100000
set_option maxHeartbeats 4000000
set_option linter.unusedVariables false

/-- A map's value reads as itself. -/
abbrev RV : Value → Option (DataW Value × List MemPlace) := fun v => some (.held v, [])
abbrev vnil : Value := .slice none 0 0
abbrev kQ (q : Int) : Lit := .int .i64 q
theorem kQ_wf {q : Int} (h0 : -9223372036854775808 ≤ q) (h1 : q ≤ 9223372036854775807) : (kQ q).wf = true := by
  have e1 : IntKind.i64.min = -9223372036854775808 := by decide
  have e2 : IntKind.i64.max = 9223372036854775807 := by decide
  simp [Lit.wf]
  omega
theorem isKey (q : Int) : WideAt.IsKeyLit (kQ q) := by first | trivial | exact .int _ _ | simp [WideAt.IsKeyLit]
theorem und3 : Tryd.prog.underlying 3 = some (.int .i64) := by kernel_rfl
theorem keyed3 : Maps.Keyed Tryd.prog 3 := Maps.int_keyed und3
theorem undMap : Tryd.prog.underlying 87 = some (.map 3 24) := by kernel_rfl
theorem zeroNeeds (w : World) : (zeroValue 24).run Tryd.prog w = .ok (.slice none 0 0) w := by kernel_rfl

theorem gr_of {w w' : World} (h : Below w.heap.size w w') (G : Option Nat) : w.grownBy w' G := ⟨h.os, h.tape, h.output, h.size, fun i hi _ => h.block i hi⟩
theorem ownN_gr {w w' : World} {b e s n : Nat} {v : Value} {l : List Value} {G : Option Nat} (h : w.ownsRow b e s v n l) (hg : w.grownBy w' G) (hn : ∀ k, v.ownBlock = some k → G ≠ some k) : w'.ownsRow b e s v n l := by
  refine ⟨h.1, ?_⟩
  rcases h.2 with hn0 | ⟨g, cap, cur, rfl, hb, hgg, rest⟩
  · exact .inl hn0
  · refine .inr ⟨g, cap, cur, rfl, hb, ?_, rest⟩
    rw [hg.block g (Array.getElem?_eq_some_iff.1 hgg).1 (fun e => hn g rfl e.symm)]
    exact hgg
theorem arrN_gr {w w' : World} {g : Nat} {t : TypeId} {cs : List Value} {G : Option Nat} (h : Arr w g t cs) (hg : w.grownBy w' G) (hn : G ≠ some g) : Arr w' g t cs := by
  unfold Arr
  rw [hg.block g h.lt (fun e => hn e.symm)]
  exact h

/-- Block m is a map whose rows, each in a block of its own from lo on, hold f. -/
structure Gp (W : World) (lo m n : Nat) (f : Int → List Rc) (vs : Int → Value) (D : DataW Value) : Prop where
  mp : W.ownsMap Tryd.prog 3 RV m n D
  is : Maps.IsMap D
  at_ : ∀ q, D.atKey (kQ q) (.held vnil) = .held (vs q)
  row : ∀ q, W.ownsRow lo 41 4 (vs q) (f q).length (FL (f q))
  one : ∀ q q' j, (vs q).ownBlock = some j → (vs q').ownBlock = some j → q = q'
  mlt : m < lo
theorem Gp.made (w : World) : Gp (w.alloc (.map #[] 0)) (w.heap.size + 1) w.heap.size 0 (fun _ => []) (fun _ => vnil) (.map []) :=
  ⟨World.ownsMap_made w _ _ _, Maps.isMap_empty, fun _ => rfl, fun _ => World.ownsRow_nil _ _ _ _, fun _ _ j h => by simp [Value.ownBlock] at h, by omega⟩
section
variable {W W' : World} {lo m n : Nat} {f : Int → List Rc} {vs : Int → Value} {D : DataW Value}
theorem Gp.gr (h : Gp W lo m n f vs D) {G : Option Nat} (hg : W.grownBy W' G) (hm : some m ≠ G) (hv : ∀ q j, (vs q).ownBlock = some j → G ≠ some j) : Gp W' lo m n f vs D :=
  ⟨h.mp.kept hg hm, h.is, h.at_, fun q => ownN_gr (h.row q) hg (hv q), h.one, h.mlt⟩
theorem Gp.below (h : Gp W lo m n f vs D) (hb : Below W.heap.size W W') : Gp W' lo m n f vs D :=
  h.gr (gr_of hb none) (fun e => by cases e) (fun _ _ _ e => by cases e)
theorem look_of (hm : W.ownsMap Tryd.prog 3 RV m n D) (hat : ∀ q, D.atKey (kQ q) (.held vnil) = .held (vs q)) (q : Int) (h0 : -9223372036854775808 ≤ q) (h1 : q ≤ 9223372036854775807) :
    (Instr.lookup 87 (.map (some m)) (.int .i64 q) false).run Tryd.prog W = .ok (vs q) W := by
  obtain ⟨v, ps, hr, hv⟩ := hm.lookup keyed3 undMap (zeroNeeds W) (show RV (.slice none 0 0) = some (.held vnil, []) from rfl) (Maps.keyOf_int_mk und3 (kQ_wf h0 h1))
  rw [hat q] at hv
  simp only [Option.some.injEq, Prod.mk.injEq, DataW.held.injEq] at hv
  rw [hr, hv.1]
theorem Gp.look (h : Gp W lo m n f vs D) (q : Int) (h0 : -9223372036854775808 ≤ q) (h1 : q ≤ 9223372036854775807) :
    (Instr.lookup 87 (.map (some m)) (.int .i64 q) false).run Tryd.prog W = .ok (vs q) W := look_of h.mp h.at_ q h0 h1
theorem Gp.put (h : Gp W lo m n f vs D) (q : Int) (h0 : -9223372036854775808 ≤ q) (h1 : q ≤ 9223372036854775807) (hn : n ≤ 1000000) {W1 : World} {v1 : Value} {l1 : List Rc} (hg : W.grownBy W1 (vs q).ownBlock) (ho : W1.ownsRow lo 41 4 v1 l1.length (FL l1))
    (hv : v1.ownBlock = (vs q).ownBlock ∨ ∃ j, v1.ownBlock = some j ∧ W.heap.size ≤ j) :
    ∃ W2, (Instr.mapUpdate 87 (.map (some m)) (.int .i64 q) v1).run Tryd.prog W1 = .ok () W2 ∧ W1.grownBy W2 (some m) ∧ Gp W2 lo m (n + 1) (fun x => if x = q then l1 else f x) (fun x => if x = q then v1 else vs x) (D.put (kQ q) (.held v1)) := by
  have hlo : ∀ x j, (vs x).ownBlock = some j → lo ≤ j ∧ j < W.heap.size := fun x j hj => World.ownsRow.lt (h.row x) j hj
  have hmn : some m ≠ (vs q).ownBlock := fun e => by have := hlo q m e.symm; have := h.mlt; omega
  obtain ⟨W2, hr, hm2, hg2⟩ := (h.mp.kept hg hmn).update keyed3 undMap (by unfold maxLen; omega) (Maps.keyOf_int_mk und3 (kQ_wf h0 h1)) (show RV v1 = some (.held v1, []) from rfl)
  refine ⟨W2, hr, hg2, hm2, h.is.put _ _, fun x => ?_, fun x => ?_, fun x y j hx hy => ?_, h.mlt⟩
  · by_cases e : x = q
    · subst e
      rw [if_pos rfl]
      exact Maps.atKey_put_same h.is (isKey x) _ _
    · rw [if_neg e, Maps.atKey_put_other (fun hk => e (by injection hk)) _ _]
      exact h.at_ x
  · by_cases e : x = q
    · rw [if_pos e, if_pos e]
      exact ownN_gr ho hg2 (fun k hk e2 => by
        have := (World.ownsRow.lt ho k hk).1
        have := h.mlt
        simp only [Option.some.injEq] at e2
        omega)
    · rw [if_neg e, if_neg e]
      refine ownN_gr (ownN_gr (h.row x) hg (fun k hk e2 => e (h.one x q k hk e2))) hg2 (fun k hk e2 => ?_)
      have := hlo x k hk
      have := h.mlt
      simp only [Option.some.injEq] at e2
      omega
  · by_cases ex : x = q
    · by_cases ey : y = q
      · rw [ex, ey]
      · rw [if_pos ex] at hx
        rw [if_neg ey] at hy
        exfalso
        rcases hv with hv | ⟨i, hv, hi⟩
        · exact ey (h.one y q j hy (hv.symm.trans hx))
        · have := hlo y j hy
          rw [hv] at hx
          simp only [Option.some.injEq] at hx
          omega
    · by_cases ey : y = q
      · rw [if_neg ex] at hx
        rw [if_pos ey] at hy
        exfalso
        rcases hv with hv | ⟨i, hv, hi⟩
        · exact ex (h.one x q j hx (hv.symm.trans hy))
        · have := hlo x j hx
          rw [hv] at hy
          simp only [Option.some.injEq] at hy
          omega
      · rw [if_neg ex] at hx
        rw [if_neg ey] at hy
        exact h.one x y j hx hy
end
/-- The needs of one kind. -/
def grp (ns : List NeedM) (q : Int) : List NeedM := ns.filter fun x => decide (x.o = q)
theorem grp_snoc (ns : List NeedM) (x : NeedM) : (fun q => (grp (ns ++ [x]) q).map nrc) = fun q => if q = x.o then (grp ns x.o).map nrc ++ [nrc x] else (grp ns q).map nrc := by
  funext q
  unfold grp
  rw [List.filter_append, List.map_append]
  by_cases e : q = x.o
  · subst e
    rw [if_pos rfl]
    simp
  · rw [if_neg e]
    have : ¬ x.o = q := fun h => e h.symm
    simp [this]
end Go.Proofs.YtofflhhlacdgfaaDoor
namespace Go.Proofs.YtofflhhlacdgfaaDoor
open Go.RowKit
set_option maxRecDepth 100000
set_option maxHeartbeats 8000000
set_option linter.unusedVariables false

section
variable {P : Program} {G : Option Nat} {Z : Nat} {R : World → Prop}
abbrev kzN (d Z : Nat) (t : TypeId) (cs : List Value) : Kd := (some d, (fun l _ => .slice (some ⟨l, 0, none⟩) 1 1), fun l h w _ => Arr w l t cs ∧ l < h ∧ Z ≤ l)
theorem kzN_kw {d : Nat} {t : TypeId} {cs : List Value} (hG : ∀ k, G = some k → k < Z) : Kwp false G (kzN d Z t cs) := fun l h w w' v D hz hs => by
  have hs' : w.grownBy w' G := by simpa using hs
  exact ⟨arrN_gr D.1 hs' (fun e => by have := hG l e; have := D.2.2; omega), D.2⟩
theorem kaN_kw {d lo t s n : Nat} {xs : List Value} {C : Value → Prop} : Kwp true G (kv d (fun _ _ w v => w.ownsRow lo t s v n xs ∧ C v)) := fun l h w w' v D hz hs => by
  have hs' : Below w.heap.size w w' := by simpa using hs
  exact ⟨own_below D.1 hs', D.2⟩
theorem owN {X Y : Prop} {ev : Operand → Value} {o : Oper} {k : Kd} {w : World} (h : Dty X (TOb P ev o k w)) : Dty (X ∧ Y) (Tw P false G ev o k w) := ⟨fun x => Tw.of (h.out x.1)⟩
theorem twN_val {ev : Operand → Value} {o : Oper} {k : Kd} {b : Bool} {w w' : World} {v : Value} (h : (execOp ev o).run P w = .ok (.value v) w') (hR : Rsw b G k w v w') : Tw P b G ev o k w := ⟨by
  unfold TwR
  rw [h]
  exact hR⟩
theorem tzN {ev : Operand → Value} {o : Oper} {d : Nat} {w : World} {X : Prop} {t : TypeId} {cs : List Value} (hz : Z ≤ w.heap.size) (h : (execOp ev o).run P w = .ok (.value (.slice (some ⟨w.heap.size, 0, none⟩) 1 1)) (w.alloc (.cells cs.toArray t))) : Dty X (TOb P ev o (kzN d Z t cs) w) := ⟨fun _ => by
  refine ⟨?_⟩
  unfold TObR
  rw [h]
  exact ⟨undef, rfl, (Below.refl _ _).alloc (Nat.le_refl _) _, Arr.new w cs t, by simp, hz⟩⟩
end
theorem implByWho (na : Option Addr) (nn nc : Nat) (ns : List NeedM) (w : World) (hn : Ns w na nn nc ns) (hl : nn ≤ 1000000) (hb : ∀ i, i < nn → 0 ≤ (ns.getD i nz).o ∧ (ns.getD i nz).o < 4) :
    Calls Tryd.prog 71 #[.slice na nn nc] w fun e w' => e = .returned (.map (some w.heap.size)) ∧ (∃ vs D, Gp w' (w.heap.size + 1) w.heap.size nn (fun q => (grp ns q).map nrc) vs D) ∧ Below w.heap.size w w' := by
  have HNs : Hid (Ns w na nn nc ns) := hn
  have HNl : Hid (ns.length = nn) := hn.2.1
  have HOk : Hid (∀ i, i < nn → 0 ≤ (ns.getD i nz).o ∧ (ns.getD i nz).o < 4) := hb
  obtain ⟨V, hV⟩ : ∃ V, V = w.alloc (.map #[] 0) := ⟨_, rfl⟩
  have G0 : Hid (∃ vs D, Gp V (w.heap.size + 1) w.heap.size 0 (fun q => (grp (ns.take 0) q).map nrc) vs D) := ⟨_, _, by rw [hV]; exact Gp.made w⟩
  have B0 : Below w.heap.size w V := by rw [hV]; exact (Below.refl _ _).alloc (Nat.le_refl _) _
  have hmm := @run_makeMap Tryd.prog
  clear hn hb
  go_enter Tryd.func71, Tryd.ntmps71
  go_upto_region 2 with fail
  rw [← hV]
  clear hV hmm
  go_wp2
  go_loopw [9] (fun i wr => ∃ k : Nat, k ≤ nn ∧ i = .int .i64 k ∧ Hid (∃ vs D, Gp wr (w.heap.size + 1) w.heap.size k (fun q => (grp (ns.take k) q).map nrc) vs D) ∧ Below w.heap.size w wr) (fun i _ => nn - (intOf i).toNat)
  case atStart => exact ⟨0, by omega, rfl, G0, B0⟩
  case round =>
    clear B0 G0
    obtain ⟨k, hk, rfl, HG, B⟩ := hrel
    by_cases hlt : (k : Int) < (nn : Int)
    · obtain ⟨b, o, rfl, hbs, hcell⟩ : ∃ b o, na = some ⟨b, o, none⟩ ∧ b < wr.heap.size ∧ ∀ i, i < nn → NeedAt wr b (o + i * 4) (ns.getD i nz) := by
        rcases (HNs.out.below B).2.2.2 with hq | hq
        · omega
        · exact hq
      have P := hcell k (by omega)
      have hox := HOk.out k (by omega)
      obtain ⟨p, ep⟩ : ∃ p, p = ns.getD k nz := ⟨_, rfl⟩
      rw [← ep] at P hox
      have HSn : Hid ((fun q => (grp (ns.take (k + 1)) q).map nrc) = fun q => if q = p.o then (grp (ns.take k) p.o).map nrc ++ [nrc p] else (grp (ns.take k) q).map nrc) := by
        unfold Hid
        rw [ns_snoc ns k (by have := HNl.out; omega), ← ep]
        exact grp_snoc _ _
      obtain ⟨no, nf, nt, nk⟩ := p
      obtain ⟨q1, q2, q3, q4⟩ := P
      simp only [] at q1 q2 q3 q4 hox HSn
      clear ep hcell
      go_upto_region 5 with fail
      obtain ⟨Z, hZ⟩ : ∃ Z, Z = wr.alloc (.cells #[.int .i64 no, .int .i64 nf, .int .i64 nt, .int .i64 nk] 41) := ⟨_, rfl⟩
      have bV : Below wr.heap.size wr Z := by rw [hZ]; exact (Below.refl _ _).alloc (Nat.le_refl _) _
      have D : Arr Z wr.heap.size 41 [.int .i64 no, .int .i64 nf, .int .i64 nt, .int .i64 nk] := by rw [hZ]; exact Arr.new _ _ _
      rw [← hZ]
      obtain ⟨X, hX⟩ : ∃ X, X = wr.heap.size := ⟨_, rfl⟩
      rw [← hX] at D ⊢
      have lX := D.lt
      obtain ⟨vs, DD, hG⟩ := HG.out
      have hvX : ∀ j, (vs no).ownBlock = some j → w.heap.size + 1 ≤ j ∧ j < X := fun j hj => by rw [hX]; exact World.ownsRow.lt (hG.row no) j hj
      have hG1 := hG.below bV
      have BZ := B.trans (bV.mono B.size)
      clear hZ hX bV q1 q2 q3 q4 hbs HG hG B
      have hvZ : ∀ j, (vs no).ownBlock = some j → j < Z.heap.size := fun j hj => by have := (hvX j hj).2; omega
      have hmG : some w.heap.size ≠ (vs no).ownBlock := fun e => by have := (hvX _ e.symm).1; omega
      have hXG : (vs no).ownBlock ≠ some X := fun e => by have := (hvX _ e).2; omega
      have HW : Hid (w.heap.size + 1 ≤ Z.heap.size) := by unfold Hid; have := hG1.mp.lt; omega
      have HVX : Hid _ := hvX
      have HVZ : Hid (∀ j, (vs no).ownBlock = some j → j < Z.heap.size) := hvZ
      have HMG : Hid _ := hmG
      have HXG : Hid _ := hXG
      have HG1 : Hid (Gp Z (w.heap.size + 1) w.heap.size k (fun q => (grp (ns.take k) q).map nrc) vs DD) := hG1
      have HR0 : Hid (Z.ownsRow (w.heap.size + 1) 41 4 (vs no) ((grp (ns.take k) no).map nrc).length (FL ((grp (ns.take k) no).map nrc))) := hG1.row no
      have HGl : Hid (((grp (ns.take k) no).map nrc).length ≤ 1000000) := by
        unfold Hid
        rw [List.length_map]
        have h1 : (grp (ns.take k) no).length ≤ (ns.take k).length := List.length_filter_le _ _
        have h2 : (ns.take k).length ≤ k := by simp; omega
        omega
      obtain ⟨F, hF⟩ : ∃ F, F = (grp (ns.take k) no).map nrc := ⟨_, rfl⟩
      rw [← hF] at HR0 HGl HSn
      obtain ⟨v0, hv0⟩ : ∃ v, v = vs no := ⟨_, rfl⟩
      have HV0 : Hid (v0 = vs no) := hv0
      rw [← hv0] at HVX HVZ HMG HXG HR0
      have HF : Hid _ := hF
      clear hvX hvZ hmG hXG hG1 hF hv0
      try simp only [Act.put]
      refine tameW (p := 9) (G := v0.ownBlock) (R := fun W => W.ownsRow (w.heap.size + 1) 41 4 v0 F.length (FL F)) [kc 13 (.map (some w.heap.size)), kc 14 (.pointer (some ⟨X, 0, none⟩)), kc 15 (.int .i64 no), kc 16 (.map (some w.heap.size)), kc 17 (.pointer (some ⟨X, 0, none⟩)), kc 18 (.int .i64 no), kc 19 v0, kc 20 (rcV no nf nt nk), kzN 21 Z.heap.size 41 [.int .i64 no, .int .i64 nf, .int .i64 nt, .int .i64 nk], kv 22 (fun _ _ W u => W.ownsRow (w.heap.size + 1) 41 4 u (F.length + 1) (FL (F ++ [nrc ⟨no, nf, nt, nk⟩])) ∧ (u.ownBlock = v0.ownBlock ∨ ∃ j, u.ownBlock = some j ∧ Z.heap.size ≤ j))] 10 (by kernel_rfl) (by kernel_rfl) (by kernel_rfl) ⟨kc_kw _ _ _ _, kc_kw _ _ _ _, kc_kw _ _ _ _, kc_kw _ _ _ _, kc_kw _ _ _ _, kc_kw _ _ _ _, kc_kw _ _ _ _, kc_kw _ _ _ _, kzN_kw HVZ.out, kaN_kw, trivial⟩ (by kernel_rfl) HR0.out (fun _ _ h hb => own_below h hb) 1 (by kernel_rfl) (fun vv ll hh yW bW => ?_) (fun vv ll hh yW bW F' ivh aph => ?_)
      · have Dy := arrN_gr D bW HXG.out
        have x0 := Dy.cell 0
        have x1 := Dy.cell 1
        have x2 := Dy.cell 2
        have x3 := Dy.cell 3
        simp at x0 x1 x2 x3
        have hz := bW.size
        have hlk : (Instr.lookup 87 (.map (some w.heap.size)) (.int .i64 no) false).run Tryd.prog yW = .ok v0 yW := by
          have := look_of (HG1.out.mp.kept bW HMG.out) HG1.out.at_ no (by omega) (by omega)
          rw [← HV0.out] at this
          exact this
        refine ⟨owN (tp (by kernel_rfl)), owN (tp ?g1), owN (tp ?g2), owN (tp (by kernel_rfl)), owN (tp ?g3), owN (tp ?g4), owN (tp ?g5), owN (tp ?g6), owN (tzN hz ?g7), ⟨fun XR => ?g8⟩, trivial⟩
        case g8 =>
          have f1 : Arr yW (ll 8) 41 [.int .i64 no, .int .i64 nf, .int .i64 nt, .int .i64 nk] ∧ ll 8 < hh 8 ∧ Z.heap.size ≤ ll 8 := XR.1 ⟨8, .data⟩ (by simp) rfl _ rfl
          obtain ⟨v', w', hr, ho, hg, hloc⟩ := run_app_nd yW (w.heap.size + 1) v0 F.length F (XR.2 rfl) (ll 8) 1 ⟨no, nf, nt, nk⟩ f1.1 (by have := HGl.out; omega) (by have := HW.out; omega)
          refine twN_val (v := v') (w' := w') ?_ ⟨v', rfl, hg, ho, by rcases hloc with h | h; exact .inl h; exact .inr ⟨_, h, by omega⟩⟩
          simp only [fillK, putT, List.setIfInBounds_toArray, List.set_cons_zero, List.set_cons_succ]
          unfold execOp
          simp only [resolve, invoke, builtin, Sem.run_bind, Sem.run_pure, Result.andThen_ok, List.map_toArray, List.map_cons, List.map_nil]
          exact congrArg (fun q => q.andThen fun a w' => Result.ok (Next.value a) w') hr
        case g5 =>
          simp only [fillK, putT, List.setIfInBounds_toArray, List.set_cons_zero, List.set_cons_succ]
          unfold execOp
          simp only [Sem.run_bind, Sem.run_pure]
          exact congrArg (fun q => q.andThen fun a w' => Result.ok (Next.value a) w') hlk
        all_goals
          simp only [fillK, putT, List.setIfInBounds_toArray, List.set_cons_zero, List.set_cons_succ]
          unfold execOp
          go_simp
          try rfl
      have F9 : yW.ownsRow (w.heap.size + 1) 41 4 (vv 9) (F.length + 1) (FL (F ++ [nrc ⟨no, nf, nt, nk⟩])) ∧ ((vv 9).ownBlock = v0.ownBlock ∨ ∃ j, (vv 9).ownBlock = some j ∧ Z.heap.size ≤ j) := F'.2.2.2.2.2.2.2.2.2.1
      clear F' ivh aph
      obtain ⟨y, hy⟩ : ∃ z, z = yW := ⟨_, rfl⟩
      rw [← hy] at bW F9 ⊢
      clear hy
      obtain ⟨v9, hv9⟩ : ∃ q, q = vv 9 := ⟨_, rfl⟩
      rw [← hv9] at F9
      obtain ⟨y2, hr2, hg2, hG2⟩ := HG1.out.put no (by omega) (by omega) (by omega) (W1 := y) (v1 := v9) (l1 := F ++ [nrc ⟨no, nf, nt, nk⟩]) (by rw [← HV0.out]; exact bW) (by rw [List.length_append]; exact F9.1) (by rw [← HV0.out]; exact F9.2)
      have HG2 : Hid (∃ vs D, Gp y2 (w.heap.size + 1) w.heap.size (k + 1) (fun q => (grp (ns.take (k + 1)) q).map nrc) vs D) := ⟨_, _, by rw [HSn.out]; exact hG2⟩
      have B2 : Below w.heap.size w y2 := (BZ.grown bW (by have := HW.out; omega) (fun j hj => by have := (HVX.out j hj).1; omega)).grown hg2 (by have := HW.out; have := bW.size; omega) (fun j hj => by simp only [Option.some.injEq] at hj; omega)
      refine st_do (i := 10) (o := { dst := none, op := Op.mapUpdate 87 (Operand.tmp 13) (Operand.tmp 15) (Operand.tmp 22), type := 0, pos := "l08_bundle.go:280", after := #[{ on := 0, ground := Ground.data }, { on := 2, ground := Ground.data }, { on := 9, ground := Ground.data }, { on := 9, ground := Ground.chain }, { on := 0, ground := Ground.phase }, { on := 1, ground := Ground.phase }, { on := 2, ground := Ground.phase }, { on := 3, ground := Ground.phase }, { on := 4, ground := Ground.phase }, { on := 5, ground := Ground.phase }, { on := 6, ground := Ground.phase }, { on := 7, ground := Ground.phase }, { on := 8, ground := Ground.phase }, { on := 9, ground := Ground.phase }], guard := none }) (by kernel_rfl) rfl rfl rfl (w' := y2) ?_ ?_
      · rw [hv9] at hr2
        simp only [fillK, putT, List.setIfInBounds_toArray, List.set_cons_zero, List.set_cons_succ]
        unfold execOp
        simp only [Sem.run_bind, Sem.run_pure]
        exact congrArg (fun q => q.andThen fun a w' => Result.ok Next.skip w') hr2
      clear hr2 hg2 hG2 bW F9 hv9 HG1 HSn HR0 HV0 HF HGl HVX HVZ HMG HXG BZ D lX HW hox
      refine wpAny_done (by kernel_rfl) ?_ _
      try simp only [Act.put]
      simp only [fillK, putT, List.setIfInBounds_toArray, List.set_cons_zero, List.set_cons_succ]
      go_wp2
      go_roundw
      case rel => exact ⟨k + 1, by omega, by go_num, HG2, B2⟩
      case measure => simp [intOf]; omega
    · have hkn : k = nn := by omega
      subst hkn
      have htk : ns.take k = ns := List.take_of_length_le (by have := HNl.out; omega)
      rw [htk] at HG
      go_wp2
      go_ret
      exact ⟨rfl, HG.out, B⟩
end Go.Proofs.YtofflhhlacdgfaaDoor
namespace Go.Proofs.YtofflhhlacdgfaaDoor
open Go.RowKit
set_option maxRecDepth 100000
set_option maxHeartbeats 4000000
set_option linter.unusedVariables false

/-- Part p is what need q asks for. -/
abbrev metQ (q : NeedM) (p : PartM) : Prop := p.k = q.k ∧ q.f ≤ p.v ∧ p.v ≤ q.t
theorem implMetBy (o f t k pk pv ps : Int) (a : Option Addr) (n c : Nat) (w : World) :
    Calls Tryd.prog 73 #[rcV o f t k, .agg #[.int .i64 pk, .int .i64 pv, .int .i64 ps, .slice a n c]] w fun e w' => e = .returned (.bool (decide (pk = k ∧ f ≤ pv ∧ pv ≤ t))) ∧ Below w.heap.size w w' := by
  obtain ⟨V, hV⟩ : ∃ V, V = (w.alloc (.cells #[.int .i64 o, .int .i64 f, .int .i64 t, .int .i64 k] 41)).alloc (.cells #[.int .i64 pk, .int .i64 pv, .int .i64 ps, .slice a n c] 45) := ⟨_, rfl⟩
  have B : Hid (Below w.heap.size w V) := by unfold Hid; rw [hV]; exact ((Below.refl _ _).alloc (Nat.le_refl _) _).alloc (by simp) _
  have A1 : Arr V w.heap.size 41 [.int .i64 o, .int .i64 f, .int .i64 t, .int .i64 k] := by rw [hV]; exact (Arr.new w [.int .i64 o, .int .i64 f, .int .i64 t, .int .i64 k] 41).alloc _
  have A2 : Arr V (w.heap.size + 1) 45 [.int .i64 pk, .int .i64 pv, .int .i64 ps, .slice a n c] := by
    rw [hV]
    have := Arr.new (w.alloc (.cells #[.int .i64 o, .int .i64 f, .int .i64 t, .int .i64 k] 41)) [.int .i64 pk, .int .i64 pv, .int .i64 ps, .slice a n c] 45
    simpa using this
  have c1 := A1.cell 1
  have c2 := A1.cell 2
  have c3 := A1.cell 3
  have d0 := A2.cell 0
  have d1 := A2.cell 1
  simp at c1 c2 c3 d0 d1
  clear A1 A2
  go_enter Tryd.func73, Tryd.ntmps73
  go_upto_region 1 with fail
  rw [← hV]
  clear hV
  by_cases h : pk = k
  · have HK : Hid (pk = k) := h
    have hb : (pk == k) = true := by simpa using h
    clear h
    go_wp2_with fail
    refine (implIsIn pv f t _).mono ?_
    rintro e w1 ⟨rfl, hw⟩
    rw [hw]
    clear hw
    have hE : decide (pk = k ∧ f ≤ pv ∧ pv ≤ t) = decide (f ≤ pv ∧ pv ≤ t) := by simp [HK.out]
    have HE : Hid _ := hE
    clear hE
    go_wp2
    go_ret
    exact ⟨by rw [HE.out]; first | rfl | (rw [Bool.decide_and]; rfl), B.out⟩
  · have hb : (pk == k) = false := by simpa using h
    have hE : decide (pk = k ∧ f ≤ pv ∧ pv ≤ t) = false := by simp [h]
    have HE : Hid _ := hE
    clear hE h
    go_wp2
    go_ret
    exact ⟨by rw [HE.out]; first | rfl | (rw [Bool.decide_and]; rfl), B.out⟩
theorem indexMet (pa : Option Addr) (pn pc : Nat) (ps : List PartM) (q : NeedM) (w : World) (hp : Ps w pa pn pc ps) (hl : pn ≤ 1000000) :
    Calls Tryd.prog 113 #[.slice pa pn pc, .func (.func 73) #[rcV q.o q.f q.t q.k] #[]] w fun e w' => ∃ r : Int, e = .returned (.int .i64 r) ∧ (0 ≤ r ↔ ∃ i, i < pn ∧ metQ q (ps.getD i pz)) ∧ Below w.heap.size w w' := by
  have HPs : Hid (Ps w pa pn pc ps) := hp
  obtain ⟨o, f, t, k0⟩ := q
  clear hp
  go_enter Tryd.func113, Tryd.ntmps113
  go_wp2
  go_loopw [8] (fun i wr => ∃ k : Nat, k ≤ pn ∧ i = .int .i64 k ∧ Hid (∀ j, j < k → ¬ metQ ⟨o, f, t, k0⟩ (ps.getD j pz)) ∧ Below w.heap.size w wr) (fun i _ => pn - (intOf i).toNat)
  case atStart => exact ⟨0, Nat.zero_le _, rfl, (fun j hj => by omega), Below.refl _ _⟩
  case round =>
    obtain ⟨k, hk, rfl, HA, B⟩ := hrel
    by_cases hlt : k < pn
    · obtain ⟨b, off, rfl, hbs, hcell⟩ := (HPs.out.below B).opened (by omega)
      obtain ⟨ha, hc, P⟩ := hcell k hlt
      obtain ⟨x, hx⟩ : ∃ x, x = ps.getD k pz := ⟨_, rfl⟩
      rw [← hx] at P
      have HX : Hid _ := hx
      clear hx hcell
      obtain ⟨pk, pv, pS, ph⟩ := x
      obtain ⟨q1, q2, q3, q4, _⟩ := P
      simp only [] at q1 q2 q3 q4
      have hkl : (k : Int) < (pn : Int) := by omega
      go_wp2_with fail
      refine (implMetBy o f t k0 pk pv pS ha ph.length hc _).mono ?_
      rintro e w1 ⟨rfl, b1⟩
      have B1 := B.trans (b1.mono B.size)
      clear b1 q1 q2 q3 q4 hbs B
      by_cases g1 : pk = k0 ∧ f ≤ pv ∧ pv ≤ t
      · have HF : Hid (∃ i, i < pn ∧ metQ ⟨o, f, t, k0⟩ (ps.getD i pz)) := ⟨k, hlt, by rw [← HX.out]; exact g1⟩
        rw [decide_eq_true g1]
        clear g1
        go_wp2
        go_ret
        exact ⟨k, rfl, ⟨fun _ => HF.out, fun _ => by omega⟩, B1⟩
      · have HF : Hid (∀ j, j < k + 1 → ¬ metQ ⟨o, f, t, k0⟩ (ps.getD j pz)) := by
          intro j hj
          by_cases e : j = k
          · subst e; rw [← HX.out]; exact g1
          · exact HA.out j (by omega)
        rw [decide_eq_false g1]
        clear g1
        go_wp2
        go_roundw
        case rel => exact ⟨k + 1, by omega, by go_num, HF, B1⟩
        case measure => simp [intOf]; omega
    · have hkn : k = pn := by omega
      subst hkn
      go_wp2
      go_ret
      exact ⟨-1, rfl, ⟨fun h => by omega, fun ⟨i, hi, h⟩ => absurd h (HA.out i hi)⟩, B⟩
theorem containsMet (pa : Option Addr) (pn pc : Nat) (ps : List PartM) (q : NeedM) (w : World) (hp : Ps w pa pn pc ps) (hl : pn ≤ 1000000) :
    Calls Tryd.prog 72 #[.slice pa pn pc, .func (.func 73) #[rcV q.o q.f q.t q.k] #[]] w fun e w' => ∃ r : Bool, e = .returned (.bool r) ∧ (r = true ↔ ∃ i, i < pn ∧ metQ q (ps.getD i pz)) ∧ Below w.heap.size w w' := by
  have HC : Hid _ := indexMet pa pn pc ps q w hp hl
  clear hp
  go_enter Tryd.func72, Tryd.ntmps72
  go_wp2_with fail
  refine Calls.mono HC.out ?_
  rintro e w1 ⟨r, rfl, hr, b1⟩
  have HR : Hid _ := hr
  clear hr
  go_wp2
  go_ret
  exact ⟨_, rfl, by rw [decide_eq_true_eq]; exact HR.out, b1⟩
end Go.Proofs.YtofflhhlacdgfaaDoor
namespace Go.Proofs.YtofflhhlacdgfaaDoor
open Go.RowKit
set_option maxRecDepth 100000
set_option maxHeartbeats 1000000
set_option linter.unusedVariables false

def metA (ps : List PartM) (q : NeedM) : Bool := ps.any fun p => decide (metQ q p)
/-- What a part's needs lack. -/
def fsP (ps : List PartM) (ns : List NeedM) (p : PartM) : List NeedM := (grp ns p.k).filter fun q => !metA ps q
def lkI (ps : List PartM) (ns : List NeedM) (j : Nat) : List NeedM := ((ps.take j).map (fsP ps ns)).flatten
theorem metA_iff (ps : List PartM) (q : NeedM) : metA ps q = true ↔ ∃ i, i < ps.length ∧ metQ q (ps.getD i pz) := by
  unfold metA
  rw [List.any_eq_true]
  constructor
  · rintro ⟨p, hp, h⟩
    obtain ⟨i, hi, e⟩ := List.mem_iff_getElem.1 hp
    exact ⟨i, hi, by rw [List.getD_eq_getElem?_getD, List.getElem?_eq_getElem hi]; subst e; simpa using h⟩
  · rintro ⟨i, hi, h⟩
    rw [List.getD_eq_getElem?_getD, List.getElem?_eq_getElem hi] at h
    exact ⟨ps[i], List.getElem_mem hi, by simpa using h⟩
theorem lkI_snoc (ps : List PartM) (ns : List NeedM) (j : Nat) (h : j < ps.length) : lkI ps ns (j + 1) = lkI ps ns j ++ fsP ps ns (ps.getD j pz) := by
  unfold lkI
  rw [List.take_succ_eq_append_getElem h, List.map_append, List.flatten_append]
  simp [h]
theorem asc_lt {f : Nat → Int} {n : Nat} (h : ∀ i, 0 < i → i < n → f (i - 1) < f i) (i : Nat) : ∀ d, i + d + 1 < n → f i < f (i + d + 1)
  | 0, hd => by have := h (i + 1) (by omega) hd; simpa using this
  | d + 1, hd => by
    have h1 := asc_lt h i d (by omega)
    have h2 := h (i + (d + 1) + 1) (by omega) hd
    have e : i + (d + 1) + 1 - 1 = i + d + 1 := by omega
    rw [e] at h2
    omega
theorem asc_le {f : Nat → Int} {n : Nat} (h : ∀ i, 0 < i → i < n → f (i - 1) ≤ f i) (i : Nat) : ∀ d, i + d + 1 < n → f i ≤ f (i + d + 1)
  | 0, hd => by have := h (i + 1) (by omega) hd; simpa using this
  | d + 1, hd => by
    have h1 := asc_le h i d (by omega)
    have h2 := h (i + (d + 1) + 1) (by omega) hd
    have e : i + (d + 1) + 1 - 1 = i + d + 1 := by omega
    rw [e] at h2
    omega
theorem ps_pw {B : BunM} (h : bunOk B) : B.ps.Pairwise fun a b => a.k < b.k := by
  rw [List.pairwise_iff_getElem]
  intro i j hi hj hij
  have h1 := asc_lt (f := fun i => (B.ps.getD i pz).k) (n := B.ps.length) (fun i h0 h1 => (h.2.1 i h1).2 h0) i (j - i - 1) (by omega)
  rw [show i + (j - i - 1) + 1 = j by omega] at h1
  simpa [List.getD_eq_getElem?_getD, hi, hj] using h1
theorem ns_pw {B : BunM} (h : bunOk B) : B.ns.Pairwise fun a b => a.o ≤ b.o := by
  rw [List.pairwise_iff_getElem]
  intro i j hi hj hij
  have h1 := asc_le (f := fun i => (B.ns.getD i nz).o) (n := B.ns.length) (fun i h0 h1 => by
    have := (h.2.2 i h1).2 h0
    unfold needLt at this
    show (B.ns.getD (i - 1) nz).o ≤ (B.ns.getD i nz).o
    omega) i (j - i - 1) (by omega)
  rw [show i + (j - i - 1) + 1 = j by omega] at h1
  simpa [List.getD_eq_getElem?_getD, hi, hj] using h1
theorem flt_two (A C : NeedM → Bool) : ∀ (S : List NeedM), S.Pairwise (fun a b => a.o ≤ b.o) → (∀ x y, A x = true → C y = true → x.o < y.o) → S.filter A ++ S.filter C = S.filter fun x => A x || C x
  | [], _, _ => rfl
  | x :: S, hs, hac => by
    rw [List.pairwise_cons] at hs
    have ih := flt_two A C S hs.2 hac
    cases ha : A x with
    | true =>
      have hc : C x = false := by
        cases hc : C x with
        | true => exact absurd (hac x x ha hc) (by omega)
        | false => rfl
      simp only [List.filter_cons, ha, hc, Bool.true_or, if_true, List.cons_append, Bool.false_eq_true, if_false]
      rw [ih]
    | false =>
      cases hc : C x with
      | true =>
        have he : S.filter A = [] := by
          rw [List.filter_eq_nil_iff]
          intro y hy hay
          have := hac y x hay hc
          have := hs.1 y hy
          omega
        rw [he] at ih
        simp only [List.filter_cons, ha, hc, Bool.false_or, he, if_true, ← ih]
        rfl
      | false =>
        simp only [List.filter_cons, ha, hc, Bool.false_or]
        exact ih
theorem flt_all (S : List NeedM) (hs : S.Pairwise fun a b => a.o ≤ b.o) : ∀ (ps : List PartM), ps.Pairwise (fun a b => a.k < b.k) →
    (ps.map fun p => S.filter fun x => decide (x.o = p.k)).flatten = S.filter fun x => ps.any fun p => decide (x.o = p.k)
  | [], _ => by simp
  | p :: ps, hp => by
    rw [List.pairwise_cons] at hp
    rw [List.map_cons, List.flatten_cons, flt_all S hs ps hp.2, flt_two _ _ S hs]
    · rfl
    · intro x y hx hy
      simp only [List.any_eq_true, decide_eq_true_eq] at hx hy
      obtain ⟨r, hr, e⟩ := hy
      have := hp.1 r hr
      omega
theorem fnd_any (ps : List PartM) (k : Int) : decide (fnd ps k < 0) = !ps.any fun p => decide (k = p.k) := by
  unfold fnd
  split
  · next i hi =>
    have h := List.findIdx?_eq_some_iff_getElem.1 hi
    have : (ps.any fun p => decide (k = p.k)) = true := by
      rw [List.any_eq_true]
      exact ⟨ps[i]'h.1, List.getElem_mem h.1, by have := h.2.1; simp at this; simp [this]⟩
    rw [this]
    simp
  · next hi =>
    have h := List.findIdx?_eq_none_iff.1 hi
    have : (ps.any fun p => decide (k = p.k)) = false := by
      rw [List.any_eq_false]
      intro p hp e
      have := h p hp
      simp at this e
      exact this e.symm
    rw [this]
    rfl
theorem met_eq {ps : List PartM} (hp : ps.Pairwise fun a b => a.k < b.k) (q : NeedM) : decide (metN ps q) = (decide (fnd ps q.o < 0) || metA ps q) := by
  have key : (¬ fnd ps q.k < 0 ∧ q.f ≤ (ps.getD (fnd ps q.k).toNat pz).v ∧ (ps.getD (fnd ps q.k).toNat pz).v ≤ q.t) ↔ metA ps q = true := by
    rw [metA_iff]
    cases hf : ps.findIdx? (fun p => p.k == q.k) with
    | none =>
      have h := List.findIdx?_eq_none_iff.1 hf
      have e : fnd ps q.k = -1 := by unfold fnd; rw [hf]
      rw [e]
      constructor
      · intro h; omega
      · rintro ⟨i, hi, hm⟩
        have := h (ps.getD i pz) (by rw [List.getD_eq_getElem?_getD, List.getElem?_eq_getElem hi]; exact List.getElem_mem hi)
        simp at this
        exact absurd hm.1 (by simpa using this)
    | some i =>
      have h := List.findIdx?_eq_some_iff_getElem.1 hf
      have e : fnd ps q.k = (i : Int) := by unfold fnd; rw [hf]
      obtain ⟨hi, hk, _⟩ := h
      have hk' : (ps[i]'hi).k = q.k := by simpa using hk
      have hg : ps.getD i pz = ps[i]'hi := by rw [List.getD_eq_getElem?_getD, List.getElem?_eq_getElem hi]; rfl
      rw [e, Int.toNat_natCast]
      constructor
      · rintro ⟨_, h1, h2⟩
        exact ⟨i, hi, by rw [hg]; exact hk', h1, h2⟩
      · rintro ⟨j, hj, h0, h1, h2⟩
        have hgj : ps.getD j pz = ps[j]'hj := by rw [List.getD_eq_getElem?_getD, List.getElem?_eq_getElem hj]; rfl
        have hpw := List.pairwise_iff_getElem.1 hp
        have hij : i = j := by
          rw [hgj] at h0
          rcases Nat.lt_trichotomy i j with hlt | heq | hgt
          · have := hpw i j hi hj hlt
            omega
          · exact heq
          · have := hpw j i hj hi hgt
            omega
        subst hij
        exact ⟨by omega, h1, h2⟩
  by_cases h : metN ps q
  · rw [decide_eq_true h]
    rcases h with h | h
    · simp [h]
    · rw [key.1 h]; simp
  · rw [decide_eq_false h]
    have h1 : ¬ fnd ps q.o < 0 := fun e => h (.inl e)
    have h2 : metA ps q = false := by
      cases e : metA ps q with
      | true => exact absurd (.inr (key.2 e)) h
      | false => rfl
    rw [h2, decide_eq_false h1]
    rfl
theorem lk_eq {B : BunM} (h : bunOk B) : lkI B.ps B.ns B.ps.length = lkN B.ps B.ns := by
  have hp := ps_pw h
  have hn := ns_pw h
  unfold lkI lkN
  rw [List.take_length]
  have e1 : fsP B.ps B.ns = fun p => (B.ns.filter fun q => !metA B.ps q).filter fun x => decide (x.o = p.k) := by
    funext p
    unfold fsP grp
    rw [List.filter_filter, List.filter_filter]
    congr 1
    funext q
    exact Bool.and_comm _ _
  rw [e1, flt_all _ (hn.sublist (List.filter_sublist)) _ hp, List.filter_filter]
  congr 1
  funext q
  rw [met_eq hp, fnd_any]
  cases (B.ps.any fun p => decide (q.o = p.k)) <;> cases metA B.ps q <;> rfl
end Go.Proofs.YtofflhhlacdgfaaDoor
