/-
  What is proved here: what the laws' toAction, eqAction, szAction answer.
-/
import Derived.Test.YtgfjbaigmkdbcaaGc
namespace Go.Proofs.Ytgfjbaigmkdbcaa
open Go.RowKit
set_option maxRecDepth 100000
set_option maxHeartbeats 4000000
set_option linter.unusedVariables false

structure ActionM where
  k : Int
  e : List Int
  d : List (List Int)
  c : CutM
structure ActionA where
  e : SlA
  d : SlA
  c : CutA
abbrev actV (m : ActionM) (p : ActionA) : Value := .agg #[.int .i64 m.k, .slice p.e.a m.e.length p.e.c, .slice p.d.a m.d.length p.d.c, .int .i64 m.c.o, .slice p.c.m.a m.c.m.length p.c.m.c]
abbrev actC (m : ActionM) (p : ActionA) : List Value := [.int .i64 m.k, .slice p.e.a m.e.length p.e.c, .slice p.d.a m.d.length p.d.c, .int .i64 m.c.o, .slice p.c.m.a m.c.m.length p.c.m.c]
structure ActionRd (W : World) (p : ActionA) (m : ActionM) : Prop where
  e : Bs W p.e.a m.e.length p.e.c m.e
  d : Bss W p.d.a m.d.length p.d.c m.d
  c : CutRd W p.c m.c
theorem ActionRd.below {W W' : World} {p : ActionA} {m : ActionM} (h : ActionRd W p m) (hb : Below W.heap.size W W') : ActionRd W' p m := ⟨h.e.below hb, h.d.below hb, h.c.below hb⟩
structure ActionOw (lo : Nat) (W : World) (p : ActionA) (m : ActionM) : Prop where
  e : W.ownsRow lo 5 1 (.slice p.e.a m.e.length p.e.c) m.e.length (U8 m.e)
  d : Sq lo W p.d.a m.d.length p.d.c m.d
  c : CutOw lo W p.c m.c
section
variable {lo lo' : Nat} {W W' : World} {p : ActionA} {m : ActionM}
theorem ActionOw.below (h : ActionOw lo W p m) (hb : Below W.heap.size W W') : ActionOw lo W' p m := ⟨(own_below h.e hb), (h.d.below hb), (h.c.below hb)⟩
theorem ActionOw.other (h : ActionOw lo W p m) (q : Addr) (u : Value) (hq : q.block < lo) : ActionOw lo (W.setCell q u) p m := ⟨(own_other h.e q u hq), (h.d.other q u hq), (h.c.other q u hq)⟩
theorem ActionOw.base (h : ActionOw lo W p m) (hl : lo' ≤ lo) : ActionOw lo' W p m := ⟨(own_base h.e hl), (h.d.base hl), (h.c.base hl)⟩
structure ActionBy (m : ActionM) : Prop where
  e : (∀ x ∈ m.e, 0 ≤ x ∧ x < 256)
  d : SqBy m.d
  c : CutBy m.c
theorem ActionRd.by_ (h : ActionRd W p m) : ActionBy m := ⟨h.e.2.2.2.1, h.d.by_, h.c.by_⟩
theorem ActionOw.rd (h : ActionOw lo W p m) (y : ActionBy m) : ActionRd W p m := ⟨bs_of_own h.e y.e, h.d.rd y.d, h.c.rd y.c⟩
end
structure ActionLn (m : ActionM) : Prop where
  e : m.e.length ≤ 9223372036854775807
  d : (m.d.length ≤ 9223372036854775807 ∧ ∀ q, q < m.d.length → (m.d.getD q []).length ≤ 9223372036854775807)
  c : CutLn m.c
structure ActionSm (m : ActionM) : Prop where
  e : m.e.length ≤ 1048576
  d : SqSm m.d.length m.d
  c : CutSm m.c
theorem szActionC (m : ActionM) (p : ActionA) (l : Int) (w : World) (h : ActionRd w p m) (h0 : 0 ≤ l) (h1 : l ≤ 1048576) (hn : ActionLn m) :
    Calls Try.prog 60 #[actV m p, .int .i64 l] w fun e w' => ∃ r : Int, e = .returned (.int .i64 r) ∧ (r = -1 ∨ 0 ≤ r ∧ r ≤ l ∧ ActionSm m) ∧ Below w.heap.size w w' := by
  obtain ⟨V, hV⟩ : ∃ V, V = w.alloc (.cells #[.int .i64 m.k, .slice p.e.a m.e.length p.e.c, .slice p.d.a m.d.length p.d.c, .int .i64 m.c.o, .slice p.c.m.a m.c.m.length p.c.m.c] 89) := ⟨_, rfl⟩
  have B : Below w.heap.size w V := by rw [hV]; exact (Below.refl _ _).alloc (Nat.le_refl _) _
  have A : Arr V w.heap.size 89 [.int .i64 m.k, .slice p.e.a m.e.length p.e.c, .slice p.d.a m.d.length p.d.c, .int .i64 m.c.o, .slice p.c.m.a m.c.m.length p.c.m.c] := by rw [hV]; exact Arr.new _ _ _
  have H : Hid (ActionRd w p m ∧ ActionLn m) := ⟨h, hn⟩
  clear h hn
  go_enter Try.func60, Try.ntmps60
  go_wp2_with fail
  rw [← hV]
  clear hV
  refine (szBC p.e.a m.e.length p.e.c l _ h0 (by omega) H.out.2.e).mono ?_
  rintro e w1 ⟨x0, rfl, hx, hb⟩
  replace A := A.kept hb
  replace B := B.trans (hb.mono B.size)
  clear hb
  rcases hx with rfl | ⟨y0, z0, s0⟩
  · go_wp2
    go_ret
    exact ⟨_, rfl, .inl rfl, B⟩
  have g0 : ¬ x0 < 0 := by omega
  have S0 : Hid (m.e.length ≤ 1048576) := s0
  clear s0
  have c0 := A.cell 2
  simp at c0
  go_wp2_with fail
  refine (szByteSSC p.d.a m.d.length p.d.c m.d x0 _ ((H.out.1.d).below B) y0 (by omega) H.out.2.d.1 H.out.2.d.2).mono ?_
  rintro e w2 ⟨x1, rfl, hx, hb⟩
  replace A := A.kept hb
  replace B := B.trans (hb.mono B.size)
  clear hb
  clear c0
  rcases hx with rfl | ⟨y1, z1, s1⟩
  · go_wp2
    go_ret
    exact ⟨_, rfl, .inl rfl, B⟩
  have g1 : ¬ x1 < 0 := by omega
  have S1 : Hid (SqSm m.d.length m.d) := s1
  clear s1
  have c0 := A.cell 3
  have c1 := A.cell 4
  simp at c0 c1
  go_wp2_with fail
  refine (szCutC m.c p.c x1 _ ((H.out.1.c).below B) y1 (by omega) H.out.2.c).mono ?_
  rintro e w3 ⟨x2, rfl, hx, hb⟩
  replace A := A.kept hb
  replace B := B.trans (hb.mono B.size)
  clear hb
  clear c0 c1
  rcases hx with rfl | ⟨y2, z2, s2⟩
  · go_wp2
    go_ret
    exact ⟨_, rfl, .inl rfl, B⟩
  have g2 : ¬ x2 < 0 := by omega
  have S2 : Hid (CutSm m.c) := s2
  clear s2
  go_wp2
  go_ret
  exact ⟨_, rfl, .inr ⟨y2, by omega, ⟨S0.out, S1.out, S2.out⟩⟩, B⟩
theorem eqActionC (m : ActionM) (p q : ActionA) (w : World) (h : ActionRd w p m) (g : ActionRd w q m) (s : ActionSm m) :
    Calls Try.prog 64 #[actV m p, actV m q] w fun e w' => e = .returned (.bool true) ∧ Below w.heap.size w w' := by
  have ne_k : (m.k != m.k) = false := by simp
  have sm_e := s.e
  obtain ⟨V, hV⟩ : ∃ V, V = (w.alloc (.cells #[.int .i64 m.k, .slice p.e.a m.e.length p.e.c, .slice p.d.a m.d.length p.d.c, .int .i64 m.c.o, .slice p.c.m.a m.c.m.length p.c.m.c] 93)).alloc (.cells #[.int .i64 m.k, .slice q.e.a m.e.length q.e.c, .slice q.d.a m.d.length q.d.c, .int .i64 m.c.o, .slice q.c.m.a m.c.m.length q.c.m.c] 93) := ⟨_, rfl⟩
  have B : Below w.heap.size w V := by rw [hV]; exact ((Below.refl _ _).alloc (Nat.le_refl _) _).alloc (by simp) _
  have A0 : Arr V w.heap.size 93 [.int .i64 m.k, .slice p.e.a m.e.length p.e.c, .slice p.d.a m.d.length p.d.c, .int .i64 m.c.o, .slice p.c.m.a m.c.m.length p.c.m.c] := by rw [hV]; exact (Arr.new _ _ _).alloc _
  have A1 : Arr V (w.heap.size + 1) 93 [.int .i64 m.k, .slice q.e.a m.e.length q.e.c, .slice q.d.a m.d.length q.d.c, .int .i64 m.c.o, .slice q.c.m.a m.c.m.length q.c.m.c] := by
    rw [hV]
    have := Arr.new (w.alloc (.cells #[.int .i64 m.k, .slice p.e.a m.e.length p.e.c, .slice p.d.a m.d.length p.d.c, .int .i64 m.c.o, .slice p.c.m.a m.c.m.length p.c.m.c] 93)) [.int .i64 m.k, .slice q.e.a m.e.length q.e.c, .slice q.d.a m.d.length q.d.c, .int .i64 m.c.o, .slice q.c.m.a m.c.m.length q.c.m.c] 93
    simpa using this
  have H : Hid (ActionRd w p m ∧ ActionRd w q m ∧ ActionSm m) := ⟨h, g, s⟩
  clear h g s
  go_enter Try.func64, Try.ntmps64
  go_wp2_with fail
  rw [← hV]
  clear hV
  refine (eqBC p.e.a q.e.a m.e.length p.e.c q.e.c m.e _ ((H.out.1.e).below B) ((H.out.2.1.e).below B) (by omega)).mono ?_
  rintro e w1 ⟨rfl, hb⟩
  replace A0 := A0.kept hb
  replace A1 := A1.kept hb
  replace B := B.trans (hb.mono B.size)
  clear hb
  have c0 := A0.cell 2
  have d0 := A1.cell 2
  simp at c0 d0
  go_wp2_with fail
  refine (eqByteSSC p.d.a q.d.a m.d.length p.d.c q.d.c m.d _ ((H.out.1.d).below B) ((H.out.2.1.d).below B) H.out.2.2.d).mono ?_
  rintro e w2 ⟨rfl, hb⟩
  replace A0 := A0.kept hb
  replace A1 := A1.kept hb
  replace B := B.trans (hb.mono B.size)
  clear hb
  clear c0 d0
  have c0 := A0.cell 3
  have d0 := A1.cell 3
  have c1 := A0.cell 4
  have d1 := A1.cell 4
  simp at c0 d0 c1 d1
  go_wp2_with fail
  refine (eqCutC m.c p.c q.c _ ((H.out.1.c).below B) ((H.out.2.1.c).below B) H.out.2.2.c).mono ?_
  rintro e w3 ⟨rfl, hb⟩
  replace A0 := A0.kept hb
  replace A1 := A1.kept hb
  replace B := B.trans (hb.mono B.size)
  clear hb
  clear c0 d0 c1 d1
  go_wp2
  go_ret
  exact ⟨rfl, B⟩
theorem toActionC (m : ActionM) (p : ActionA) (w : World) (h : ActionRd w p m) (s : ActionSm m) :
    Calls Try.prog 62 #[actV m p] w fun e w' => ∃ p' : ActionA, e = .returned (actV m p') ∧ ActionOw w.heap.size w' p' m ∧ Below w.heap.size w w' := by
  have sm_e := s.e
  obtain ⟨V, hV⟩ : ∃ V, V = ((w.alloc (.cells #[.int .i64 m.k, .slice p.e.a m.e.length p.e.c, .slice p.d.a m.d.length p.d.c, .int .i64 m.c.o, .slice p.c.m.a m.c.m.length p.c.m.c] 89)).alloc (.cells #[.int .i64 0, .slice none 0 0, .slice none 0 0, .int .i64 0, .slice none 0 0] 93)).alloc (.cells #[.int .i64 m.k, .slice none 0 0, .slice none 0 0, .int .i64 0, .slice none 0 0] 93) := ⟨_, rfl⟩
  have hL : Below w.heap.size w V := by rw [hV]; exact (((Below.refl _ _).alloc (Nat.le_refl _) _).alloc (by simp) _).alloc (by simp; omega) _
  have k0 : Arr V w.heap.size 89 [.int .i64 m.k, .slice p.e.a m.e.length p.e.c, .slice p.d.a m.d.length p.d.c, .int .i64 m.c.o, .slice p.c.m.a m.c.m.length p.c.m.c] := by rw [hV]; exact ((Arr.new w _ _).alloc _).alloc _
  have k1 : Arr V (w.heap.size + 1) 93 [.int .i64 0, .slice none 0 0, .slice none 0 0, .int .i64 0, .slice none 0 0] := by
    rw [hV]
    have := (Arr.new (w.alloc (.cells #[.int .i64 m.k, .slice p.e.a m.e.length p.e.c, .slice p.d.a m.d.length p.d.c, .int .i64 m.c.o, .slice p.c.m.a m.c.m.length p.c.m.c] 89)) [.int .i64 0, .slice none 0 0, .slice none 0 0, .int .i64 0, .slice none 0 0] 93).alloc (.cells #[.int .i64 m.k, .slice none 0 0, .slice none 0 0, .int .i64 0, .slice none 0 0] 93)
    simpa using this
  have k2 : Arr V (w.heap.size + 1 + 1) 93 [.int .i64 m.k, .slice none 0 0, .slice none 0 0, .int .i64 0, .slice none 0 0] := by
    rw [hV]
    have := Arr.new ((w.alloc (.cells #[.int .i64 m.k, .slice p.e.a m.e.length p.e.c, .slice p.d.a m.d.length p.d.c, .int .i64 m.c.o, .slice p.c.m.a m.c.m.length p.c.m.c] 89)).alloc (.cells #[.int .i64 0, .slice none 0 0, .slice none 0 0, .int .i64 0, .slice none 0 0] 93)) [.int .i64 m.k, .slice none 0 0, .slice none 0 0, .int .i64 0, .slice none 0 0] 93
    simpa using this
  have zV : w.heap.size + 3 ≤ V.heap.size := by rw [hV]; simp
  have H : Hid (ActionRd w p m ∧ ActionSm m) := ⟨h, s⟩
  clear h s
  go_enter Try.func62, Try.ntmps62
  have B := hL
  have zW : V.heap.size ≤ V.heap.size := Nat.le_refl _
  go_wp2_with fail
  rw [← hV]
  clear hV
  refine (toS p.e.a m.e.length p.e.c m.e _ ((H.out.1.e).below B) (by omega)).mono ?_
  rintro e w1 ⟨ae, ce, rfl, oe, _, hbe⟩
  replace k0 := k0.kept hbe
  replace k1 := k1.kept hbe
  replace k2 := k2.kept hbe
  replace oe := (own_base oe zW)
  replace zW := Nat.le_trans zW hbe.size
  replace B := B.trans (hbe.mono B.size)
  clear hbe
  have d1 := k2.cell 1
  simp at d1
  have f2 := k2.frozen
  have lt2 := k2.lt
  have c0 := k0.cell 2
  simp at c0
  go_wp2_with fail
  have B2 : Below w.heap.size w (w1.setCell ⟨w.heap.size + 1 + 1, 1, none⟩ (.slice ae m.e.length ce)) := (B.setCell (by simp; omega) _)
  have zW2 : V.heap.size ≤ (w1.setCell ⟨w.heap.size + 1 + 1, 1, none⟩ (.slice ae m.e.length ce)).heap.size := by simpa using zW
  have oe2 := (own_other oe ⟨w.heap.size + 1 + 1, 1, none⟩ (.slice ae m.e.length ce) (by simp; omega))
  have k02 := (k0.other ⟨w.heap.size + 1 + 1, 1, none⟩ (.slice ae m.e.length ce) (by simp; omega))
  have k12 := (k1.other ⟨w.heap.size + 1 + 1, 1, none⟩ (.slice ae m.e.length ce) (by simp))
  have k22 : Arr (w1.setCell ⟨w.heap.size + 1 + 1, 1, none⟩ (.slice ae m.e.length ce)) (w.heap.size + 1 + 1) 93 [.int .i64 m.k, .slice ae m.e.length ce, .slice none 0 0, .int .i64 0, .slice none 0 0] := (k2.set 1 (.slice ae m.e.length ce))
  generalize (w1.setCell ⟨w.heap.size + 1 + 1, 1, none⟩ (.slice ae m.e.length ce)) = W0 at B2 zW2 oe2 k02 k12 k22 ⊢
  clear B zW k0 k1 k2 f2 lt2 oe c0 d1
  have B := B2
  have zW := zW2
  have k0 := k02
  have k1 := k12
  have k2 := k22
  have oe := oe2
  clear B2 zW2 k02 k12 k22 oe2
  refine (toByteSSC p.d.a m.d.length p.d.c m.d _ ((H.out.1.d).below B) H.out.2.d).mono ?_
  rintro e w2 ⟨ad, cd, rfl, od, hbd⟩
  replace k0 := k0.kept hbd
  replace k1 := k1.kept hbd
  replace k2 := k2.kept hbd
  replace oe := (own_below oe hbd)
  replace od := (od.base zW)
  replace zW := Nat.le_trans zW hbd.size
  replace B := B.trans (hbd.mono B.size)
  clear hbd
  have d2 := k2.cell 2
  simp at d2
  have f2 := k2.frozen
  have lt2 := k2.lt
  have c0 := k0.cell 3
  have c1 := k0.cell 4
  simp at c0 c1
  go_wp2_with fail
  have B2 : Below w.heap.size w (w2.setCell ⟨w.heap.size + 1 + 1, 2, none⟩ (.slice ad m.d.length cd)) := (B.setCell (by simp; omega) _)
  have zW2 : V.heap.size ≤ (w2.setCell ⟨w.heap.size + 1 + 1, 2, none⟩ (.slice ad m.d.length cd)).heap.size := by simpa using zW
  have oe2 := (own_other oe ⟨w.heap.size + 1 + 1, 2, none⟩ (.slice ad m.d.length cd) (by simp; omega))
  have od2 := (od.other ⟨w.heap.size + 1 + 1, 2, none⟩ (.slice ad m.d.length cd) (by simp; omega))
  have k02 := (k0.other ⟨w.heap.size + 1 + 1, 2, none⟩ (.slice ad m.d.length cd) (by simp; omega))
  have k12 := (k1.other ⟨w.heap.size + 1 + 1, 2, none⟩ (.slice ad m.d.length cd) (by simp))
  have k22 : Arr (w2.setCell ⟨w.heap.size + 1 + 1, 2, none⟩ (.slice ad m.d.length cd)) (w.heap.size + 1 + 1) 93 [.int .i64 m.k, .slice ae m.e.length ce, .slice ad m.d.length cd, .int .i64 0, .slice none 0 0] := (k2.set 2 (.slice ad m.d.length cd))
  generalize (w2.setCell ⟨w.heap.size + 1 + 1, 2, none⟩ (.slice ad m.d.length cd)) = W1 at B2 zW2 oe2 od2 k02 k12 k22 ⊢
  clear B zW k0 k1 k2 f2 lt2 oe od c0 c1 d2
  have B := B2
  have zW := zW2
  have k0 := k02
  have k1 := k12
  have k2 := k22
  have oe := oe2
  have od := od2
  clear B2 zW2 k02 k12 k22 oe2 od2
  refine (toCutC m.c p.c _ ((H.out.1.c).below B) H.out.2.c).mono ?_
  rintro e w3 ⟨ac, rfl, oc, hbc⟩
  replace k0 := k0.kept hbc
  replace k1 := k1.kept hbc
  replace k2 := k2.kept hbc
  replace oe := (own_below oe hbc)
  replace od := (od.below hbc)
  replace oc := (oc.base zW)
  replace zW := Nat.le_trans zW hbc.size
  replace B := B.trans (hbc.mono B.size)
  clear hbc
  have d3 := k2.cell 3
  have d4 := k2.cell 4
  simp at d3 d4
  have f2 := k2.frozen
  have lt2 := k2.lt
  have d0 := k2.cell 0
  have e0 := k1.cell 0
  have d1 := k2.cell 1
  have e1 := k1.cell 1
  have d2 := k2.cell 2
  have e2 := k1.cell 2
  have e3 := k1.cell 3
  have e4 := k1.cell 4
  simp at d0 d1 d2 e0 e1 e2 e3 e4
  have f1 := k1.frozen
  have lt1 := k1.lt
  have HO : Hid (∀ (q0 : Addr) (u0 : Value) (q1 : Addr) (u1 : Value) (q2 : Addr) (u2 : Value) (q3 : Addr) (u3 : Value) (q4 : Addr) (u4 : Value) (q5 : Addr) (u5 : Value) (q6 : Addr) (u6 : Value), q0.block < V.heap.size → q1.block < V.heap.size → q2.block < V.heap.size → q3.block < V.heap.size → q4.block < V.heap.size → q5.block < V.heap.size → q6.block < V.heap.size → ActionOw w.heap.size (((((((w3.setCell q0 u0).setCell q1 u1).setCell q2 u2).setCell q3 u3).setCell q4 u4).setCell q5 u5).setCell q6 u6) ⟨⟨ae, ce⟩, ⟨ad, cd⟩, ac⟩ m) := by
    intro q0 u0 q1 u1 q2 u2 q3 u3 q4 u4 q5 u5 q6 u6 hq0 hq1 hq2 hq3 hq4 hq5 hq6
    exact ⟨(own_base (own_other (own_other (own_other (own_other (own_other (own_other (own_other oe q0 u0 hq0) q1 u1 hq1) q2 u2 hq2) q3 u3 hq3) q4 u4 hq4) q5 u5 hq5) q6 u6 hq6) hL.size), ((((((((od.other q0 u0 hq0).other q1 u1 hq1).other q2 u2 hq2).other q3 u3 hq3).other q4 u4 hq4).other q5 u5 hq5).other q6 u6 hq6).base hL.size), ((((((((oc.other q0 u0 hq0).other q1 u1 hq1).other q2 u2 hq2).other q3 u3 hq3).other q4 u4 hq4).other q5 u5 hq5).other q6 u6 hq6).base hL.size)⟩
  have HF : Hid (∀ v0 v1 r0 r1 r2 r3 r4, Below w.heap.size w (((((((w3.setCell ⟨w.heap.size + 1 + 1, 3, none⟩ v0).setCell ⟨w.heap.size + 1 + 1, 4, none⟩ v1).setCell ⟨w.heap.size + 1, 0, none⟩ r0).setCell ⟨w.heap.size + 1, 1, none⟩ r1).setCell ⟨w.heap.size + 1, 2, none⟩ r2).setCell ⟨w.heap.size + 1, 3, none⟩ r3).setCell ⟨w.heap.size + 1, 4, none⟩ r4)) := fun v0 v1 r0 r1 r2 r3 r4 => (((((((B.setCell (by simp; omega) _).setCell (by simp; omega) _).setCell (by simp) _).setCell (by simp) _).setCell (by simp) _).setCell (by simp) _).setCell (by simp) _)
  have K1 : Hid (Arr w3 (w.heap.size + 1) 93 [.int .i64 0, .slice none 0 0, .slice none 0 0, .int .i64 0, .slice none 0 0]) := k1
  clear B zW k0 k1 k2 oe od oc hL
  go_wp2
  have K2 : Arr w3 (w.heap.size + 1) 93 [.int .i64 0, .slice none 0 0, .slice none 0 0, .int .i64 0, .slice none 0 0] := K1.out
  have n3 := (((((((K2.other ⟨w.heap.size + 1 + 1, 3, none⟩ (.int .i64 m.c.o) (by simp)).other ⟨w.heap.size + 1 + 1, 4, none⟩ (.slice ac.m.a m.c.m.length ac.m.c) (by simp)).set 0 (.int .i64 m.k)).set 1 (.slice ae m.e.length ce)).set 2 (.slice ad m.d.length cd)).set 3 (.int .i64 m.c.o)).set 4 (.slice ac.m.a m.c.m.length ac.m.c))
  exact bodyPost_ret (results_cell_row rfl _ _ (w.heap.size + 1) 93 _ (0, 0) _ rfl n3 Try.underlying93 rfl (by kernel_rfl)) rfl ⟨⟨⟨ae, ce⟩, ⟨ad, cd⟩, ac⟩, rfl, HO.out _ _ _ _ _ _ _ _ _ _ _ _ _ _ (by simp; omega) (by simp; omega) (by simp; omega) (by simp; omega) (by simp; omega) (by simp; omega) (by simp; omega), HF.out _ _ _ _ _ _ _⟩
end Go.Proofs.Ytgfjbaigmkdbcaa
