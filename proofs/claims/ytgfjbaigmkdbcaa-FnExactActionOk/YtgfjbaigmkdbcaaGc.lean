/-
  What is proved here: what the laws' toCut, eqCut, szCut answer.
-/
import Derived.Test.YtgfjbaigmkdbcaaSlA
namespace Go.Proofs.Ytgfjbaigmkdbcaa
open Go.RowKit
set_option maxRecDepth 100000
set_option maxHeartbeats 4000000
set_option linter.unusedVariables false

structure CutM where
  o : Int
  m : List Int
structure CutA where
  m : SlA
abbrev cutV (m : CutM) (p : CutA) : Value := .agg #[.int .i64 m.o, .slice p.m.a m.m.length p.m.c]
abbrev cutC (m : CutM) (p : CutA) : List Value := [.int .i64 m.o, .slice p.m.a m.m.length p.m.c]
structure CutRd (W : World) (p : CutA) (m : CutM) : Prop where
  m : Bs W p.m.a m.m.length p.m.c m.m
theorem CutRd.below {W W' : World} {p : CutA} {m : CutM} (h : CutRd W p m) (hb : Below W.heap.size W W') : CutRd W' p m := ⟨h.m.below hb⟩
structure CutOw (lo : Nat) (W : World) (p : CutA) (m : CutM) : Prop where
  m : W.ownsRow lo 5 1 (.slice p.m.a m.m.length p.m.c) m.m.length (U8 m.m)
section
variable {lo lo' : Nat} {W W' : World} {p : CutA} {m : CutM}
theorem CutOw.below (h : CutOw lo W p m) (hb : Below W.heap.size W W') : CutOw lo W' p m := ⟨(own_below h.m hb)⟩
theorem CutOw.other (h : CutOw lo W p m) (q : Addr) (u : Value) (hq : q.block < lo) : CutOw lo (W.setCell q u) p m := ⟨(own_other h.m q u hq)⟩
theorem CutOw.base (h : CutOw lo W p m) (hl : lo' ≤ lo) : CutOw lo' W p m := ⟨(own_base h.m hl)⟩
structure CutBy (m : CutM) : Prop where
  m : (∀ x ∈ m.m, 0 ≤ x ∧ x < 256)
theorem CutRd.by_ (h : CutRd W p m) : CutBy m := ⟨h.m.2.2.2.1⟩
theorem CutOw.rd (h : CutOw lo W p m) (y : CutBy m) : CutRd W p m := ⟨bs_of_own h.m y.m⟩
end
structure CutLn (m : CutM) : Prop where
  m : m.m.length ≤ 9223372036854775807
structure CutSm (m : CutM) : Prop where
  m : m.m.length ≤ 1048576
theorem szCutC (m : CutM) (p : CutA) (l : Int) (w : World) (h : CutRd w p m) (h0 : 0 ≤ l) (h1 : l ≤ 1048576) (hn : CutLn m) :
    Calls Try.prog 52 #[cutV m p, .int .i64 l] w fun e w' => ∃ r : Int, e = .returned (.int .i64 r) ∧ (r = -1 ∨ 0 ≤ r ∧ r ≤ l ∧ CutSm m) ∧ Below w.heap.size w w' := by
  obtain ⟨V, hV⟩ : ∃ V, V = w.alloc (.cells #[.int .i64 m.o, .slice p.m.a m.m.length p.m.c] 75) := ⟨_, rfl⟩
  have B : Below w.heap.size w V := by rw [hV]; exact (Below.refl _ _).alloc (Nat.le_refl _) _
  have A : Arr V w.heap.size 75 [.int .i64 m.o, .slice p.m.a m.m.length p.m.c] := by rw [hV]; exact Arr.new _ _ _
  have H : Hid (CutRd w p m ∧ CutLn m) := ⟨h, hn⟩
  clear h hn
  go_enter Try.func52, Try.ntmps52
  go_wp2_with fail
  rw [← hV]
  clear hV
  refine (szBC p.m.a m.m.length p.m.c l _ h0 (by omega) H.out.2.m).mono ?_
  rintro e w1 ⟨x0, rfl, hx, hb⟩
  replace A := A.kept hb
  replace B := B.trans (hb.mono B.size)
  clear hb
  rcases hx with rfl | ⟨y0, z0, s0⟩
  · go_wp2
    go_ret
    exact ⟨_, rfl, .inl rfl, B⟩
  have g0 : ¬ x0 < 0 := by omega
  have S0 : Hid (m.m.length ≤ 1048576) := s0
  clear s0
  go_wp2
  go_ret
  exact ⟨_, rfl, .inr ⟨y0, by omega, ⟨S0.out⟩⟩, B⟩
theorem eqCutC (m : CutM) (p q : CutA) (w : World) (h : CutRd w p m) (g : CutRd w q m) (s : CutSm m) :
    Calls Try.prog 56 #[cutV m p, cutV m q] w fun e w' => e = .returned (.bool true) ∧ Below w.heap.size w w' := by
  have ne_o : (m.o != m.o) = false := by simp
  have sm_m := s.m
  obtain ⟨V, hV⟩ : ∃ V, V = (w.alloc (.cells #[.int .i64 m.o, .slice p.m.a m.m.length p.m.c] 78)).alloc (.cells #[.int .i64 m.o, .slice q.m.a m.m.length q.m.c] 78) := ⟨_, rfl⟩
  have B : Below w.heap.size w V := by rw [hV]; exact ((Below.refl _ _).alloc (Nat.le_refl _) _).alloc (by simp) _
  have A0 : Arr V w.heap.size 78 [.int .i64 m.o, .slice p.m.a m.m.length p.m.c] := by rw [hV]; exact (Arr.new _ _ _).alloc _
  have A1 : Arr V (w.heap.size + 1) 78 [.int .i64 m.o, .slice q.m.a m.m.length q.m.c] := by
    rw [hV]
    have := Arr.new (w.alloc (.cells #[.int .i64 m.o, .slice p.m.a m.m.length p.m.c] 78)) [.int .i64 m.o, .slice q.m.a m.m.length q.m.c] 78
    simpa using this
  have H : Hid (CutRd w p m ∧ CutRd w q m ∧ CutSm m) := ⟨h, g, s⟩
  clear h g s
  go_enter Try.func56, Try.ntmps56
  go_wp2_with fail
  rw [← hV]
  clear hV
  refine (eqBC p.m.a q.m.a m.m.length p.m.c q.m.c m.m _ ((H.out.1.m).below B) ((H.out.2.1.m).below B) (by omega)).mono ?_
  rintro e w1 ⟨rfl, hb⟩
  replace A0 := A0.kept hb
  replace A1 := A1.kept hb
  replace B := B.trans (hb.mono B.size)
  clear hb
  go_wp2
  go_ret
  exact ⟨rfl, B⟩
theorem toCutC (m : CutM) (p : CutA) (w : World) (h : CutRd w p m) (s : CutSm m) :
    Calls Try.prog 54 #[cutV m p] w fun e w' => ∃ p' : CutA, e = .returned (cutV m p') ∧ CutOw w.heap.size w' p' m ∧ Below w.heap.size w w' := by
  have sm_m := s.m
  obtain ⟨V, hV⟩ : ∃ V, V = ((w.alloc (.cells #[.int .i64 m.o, .slice p.m.a m.m.length p.m.c] 75)).alloc (.cells #[.int .i64 0, .slice none 0 0] 78)).alloc (.cells #[.int .i64 m.o, .slice none 0 0] 78) := ⟨_, rfl⟩
  have hL : Below w.heap.size w V := by rw [hV]; exact (((Below.refl _ _).alloc (Nat.le_refl _) _).alloc (by simp) _).alloc (by simp; omega) _
  have k0 : Arr V w.heap.size 75 [.int .i64 m.o, .slice p.m.a m.m.length p.m.c] := by rw [hV]; exact ((Arr.new w _ _).alloc _).alloc _
  have k1 : Arr V (w.heap.size + 1) 78 [.int .i64 0, .slice none 0 0] := by
    rw [hV]
    have := (Arr.new (w.alloc (.cells #[.int .i64 m.o, .slice p.m.a m.m.length p.m.c] 75)) [.int .i64 0, .slice none 0 0] 78).alloc (.cells #[.int .i64 m.o, .slice none 0 0] 78)
    simpa using this
  have k2 : Arr V (w.heap.size + 1 + 1) 78 [.int .i64 m.o, .slice none 0 0] := by
    rw [hV]
    have := Arr.new ((w.alloc (.cells #[.int .i64 m.o, .slice p.m.a m.m.length p.m.c] 75)).alloc (.cells #[.int .i64 0, .slice none 0 0] 78)) [.int .i64 m.o, .slice none 0 0] 78
    simpa using this
  have zV : w.heap.size + 3 ≤ V.heap.size := by rw [hV]; simp
  have H : Hid (CutRd w p m ∧ CutSm m) := ⟨h, s⟩
  clear h s
  go_enter Try.func54, Try.ntmps54
  have B := hL
  have zW : V.heap.size ≤ V.heap.size := Nat.le_refl _
  go_wp2_with fail
  rw [← hV]
  clear hV
  refine (toS p.m.a m.m.length p.m.c m.m _ ((H.out.1.m).below B) (by omega)).mono ?_
  rintro e w1 ⟨am, cm, rfl, om, _, hbm⟩
  replace k0 := k0.kept hbm
  replace k1 := k1.kept hbm
  replace k2 := k2.kept hbm
  replace om := (own_base om zW)
  replace zW := Nat.le_trans zW hbm.size
  replace B := B.trans (hbm.mono B.size)
  clear hbm
  have d1 := k2.cell 1
  simp at d1
  have f2 := k2.frozen
  have lt2 := k2.lt
  have d0 := k2.cell 0
  have e0 := k1.cell 0
  have e1 := k1.cell 1
  simp at d0 e0 e1
  have f1 := k1.frozen
  have lt1 := k1.lt
  have HO : Hid (∀ (q0 : Addr) (u0 : Value) (q1 : Addr) (u1 : Value) (q2 : Addr) (u2 : Value), q0.block < V.heap.size → q1.block < V.heap.size → q2.block < V.heap.size → CutOw w.heap.size (((w1.setCell q0 u0).setCell q1 u1).setCell q2 u2) ⟨⟨am, cm⟩⟩ m) := by
    intro q0 u0 q1 u1 q2 u2 hq0 hq1 hq2
    exact ⟨(own_base (own_other (own_other (own_other om q0 u0 hq0) q1 u1 hq1) q2 u2 hq2) hL.size)⟩
  have HF : Hid (∀ v0 r0 r1, Below w.heap.size w (((w1.setCell ⟨w.heap.size + 1 + 1, 1, none⟩ v0).setCell ⟨w.heap.size + 1, 0, none⟩ r0).setCell ⟨w.heap.size + 1, 1, none⟩ r1)) := fun v0 r0 r1 => (((B.setCell (by simp; omega) _).setCell (by simp) _).setCell (by simp) _)
  have K1 : Hid (Arr w1 (w.heap.size + 1) 78 [.int .i64 0, .slice none 0 0]) := k1
  clear B zW k0 k1 k2 om hL
  go_wp2
  have K2 : Arr w1 (w.heap.size + 1) 78 [.int .i64 0, .slice none 0 0] := K1.out
  have n3 := (((K2.other ⟨w.heap.size + 1 + 1, 1, none⟩ (.slice am m.m.length cm) (by simp)).set 0 (.int .i64 m.o)).set 1 (.slice am m.m.length cm))
  exact bodyPost_ret (results_cell_row rfl _ _ (w.heap.size + 1) 78 _ (0, 0) _ rfl n3 Try.underlying78 rfl (by kernel_rfl)) rfl ⟨⟨⟨am, cm⟩⟩, rfl, HO.out _ _ _ _ _ _ (by simp; omega) (by simp; omega) (by simp; omega), HF.out _ _ _⟩
end Go.Proofs.Ytgfjbaigmkdbcaa
