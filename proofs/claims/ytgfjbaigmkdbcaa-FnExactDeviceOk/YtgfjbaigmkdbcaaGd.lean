/-
  What is proved here: what the laws' toDevice, eqDevice, szDevice answer.
-/
import Derived.Test.YtgfjbaigmkdbcaaGf
import Derived.Test.YtgfjbaigmkdbcaaK0s
namespace Go.Proofs.Ytgfjbaigmkdbcaa
open Go.RowKit
set_option maxRecDepth 100000
set_option maxHeartbeats 4000000
set_option linter.unusedVariables false

structure DeviceM where
  i : Int
  k : List KeyM
  f : FlashM
structure DeviceA where
  k : SlA
  f : FlashA
abbrev devV (m : DeviceM) (p : DeviceA) : Value := .agg #[.int .i64 m.i, .slice p.k.a m.k.length p.k.c, .slice p.f.b.a m.f.b.length p.f.b.c, .slice p.f.w.a m.f.w.length p.f.w.c]
abbrev devC (m : DeviceM) (p : DeviceA) : List Value := [.int .i64 m.i, .slice p.k.a m.k.length p.k.c, .slice p.f.b.a m.f.b.length p.f.b.c, .slice p.f.w.a m.f.w.length p.f.w.c]
structure DeviceRd (W : World) (p : DeviceA) (m : DeviceM) : Prop where
  k : Ks W p.k.a m.k.length p.k.c m.k
  f : FlashRd W p.f m.f
theorem DeviceRd.below {W W' : World} {p : DeviceA} {m : DeviceM} (h : DeviceRd W p m) (hb : Below W.heap.size W W') : DeviceRd W' p m := ⟨h.k.below hb, h.f.below hb⟩
structure DeviceOw (lo : Nat) (W : World) (p : DeviceA) (m : DeviceM) : Prop where
  k : Kq lo W p.k.a m.k.length p.k.c m.k
  f : FlashOw lo W p.f m.f
section
variable {lo lo' : Nat} {W W' : World} {p : DeviceA} {m : DeviceM}
theorem DeviceOw.below (h : DeviceOw lo W p m) (hb : Below W.heap.size W W') : DeviceOw lo W' p m := ⟨(h.k.below hb), (h.f.below hb)⟩
theorem DeviceOw.other (h : DeviceOw lo W p m) (q : Addr) (u : Value) (hq : q.block < lo) : DeviceOw lo (W.setCell q u) p m := ⟨(h.k.other q u hq), (h.f.other q u hq)⟩
theorem DeviceOw.base (h : DeviceOw lo W p m) (hl : lo' ≤ lo) : DeviceOw lo' W p m := ⟨(h.k.base hl), (h.f.base hl)⟩
structure DeviceBy (m : DeviceM) : Prop where
  k : KqBy m.k
  f : FlashBy m.f
theorem DeviceRd.by_ (h : DeviceRd W p m) : DeviceBy m := ⟨h.k.by_, h.f.by_⟩
theorem DeviceOw.rd (h : DeviceOw lo W p m) (y : DeviceBy m) : DeviceRd W p m := ⟨h.k.rd y.k, h.f.rd y.f⟩
end
structure DeviceLn (m : DeviceM) : Prop where
  k : (m.k.length ≤ 9223372036854775807 ∧ ∀ q, q < m.k.length → (m.k.getD q kz).p.length ≤ 9223372036854775807)
  f : FlashLn m.f
structure DeviceSm (m : DeviceM) : Prop where
  k : KqSm m.k.length m.k
  f : FlashSm m.f
theorem szDeviceC (m : DeviceM) (p : DeviceA) (l : Int) (w : World) (h : DeviceRd w p m) (h0 : 0 ≤ l) (h1 : l ≤ 1048576) (hn : DeviceLn m) :
    Calls Try.prog 47 #[devV m p, .int .i64 l] w fun e w' => ∃ r : Int, e = .returned (.int .i64 r) ∧ (r = -1 ∨ 0 ≤ r ∧ r ≤ l ∧ DeviceSm m) ∧ Below w.heap.size w w' := by
  obtain ⟨V, hV⟩ : ∃ V, V = w.alloc (.cells #[.int .i64 m.i, .slice p.k.a m.k.length p.k.c, .slice p.f.b.a m.f.b.length p.f.b.c, .slice p.f.w.a m.f.w.length p.f.w.c] 65) := ⟨_, rfl⟩
  have B : Below w.heap.size w V := by rw [hV]; exact (Below.refl _ _).alloc (Nat.le_refl _) _
  have A : Arr V w.heap.size 65 [.int .i64 m.i, .slice p.k.a m.k.length p.k.c, .slice p.f.b.a m.f.b.length p.f.b.c, .slice p.f.w.a m.f.w.length p.f.w.c] := by rw [hV]; exact Arr.new _ _ _
  have H : Hid (DeviceRd w p m ∧ DeviceLn m) := ⟨h, hn⟩
  clear h hn
  go_enter Try.func47, Try.ntmps47
  go_wp2_with fail
  rw [← hV]
  clear hV
  refine (szKeySC p.k.a m.k.length p.k.c m.k l _ ((H.out.1.k).below B) h0 (by omega) H.out.2.k.1 H.out.2.k.2).mono ?_
  rintro e w1 ⟨x0, rfl, hx, hb⟩
  replace A := A.kept hb
  replace B := B.trans (hb.mono B.size)
  clear hb
  rcases hx with rfl | ⟨y0, z0, s0⟩
  · go_wp2
    go_ret
    exact ⟨_, rfl, .inl rfl, B⟩
  have g0 : ¬ x0 < 0 := by omega
  have S0 : Hid (KqSm m.k.length m.k) := s0
  clear s0
  have c0 := A.cell 2
  have c1 := A.cell 3
  simp at c0 c1
  go_wp2_with fail
  refine (szFlashC m.f p.f x0 _ ((H.out.1.f).below B) y0 (by omega) H.out.2.f).mono ?_
  rintro e w2 ⟨x1, rfl, hx, hb⟩
  replace A := A.kept hb
  replace B := B.trans (hb.mono B.size)
  clear hb
  clear c0 c1
  rcases hx with rfl | ⟨y1, z1, s1⟩
  · go_wp2
    go_ret
    exact ⟨_, rfl, .inl rfl, B⟩
  have g1 : ¬ x1 < 0 := by omega
  have S1 : Hid (FlashSm m.f) := s1
  clear s1
  go_wp2
  go_ret
  exact ⟨_, rfl, .inr ⟨y1, by omega, ⟨S0.out, S1.out⟩⟩, B⟩
theorem eqDeviceC (m : DeviceM) (p q : DeviceA) (w : World) (h : DeviceRd w p m) (g : DeviceRd w q m) (s : DeviceSm m) :
    Calls Try.prog 51 #[devV m p, devV m q] w fun e w' => e = .returned (.bool true) ∧ Below w.heap.size w w' := by
  have ne_i : (m.i != m.i) = false := by simp
  obtain ⟨V, hV⟩ : ∃ V, V = (w.alloc (.cells #[.int .i64 m.i, .slice p.k.a m.k.length p.k.c, .slice p.f.b.a m.f.b.length p.f.b.c, .slice p.f.w.a m.f.w.length p.f.w.c] 70)).alloc (.cells #[.int .i64 m.i, .slice q.k.a m.k.length q.k.c, .slice q.f.b.a m.f.b.length q.f.b.c, .slice q.f.w.a m.f.w.length q.f.w.c] 70) := ⟨_, rfl⟩
  have B : Below w.heap.size w V := by rw [hV]; exact ((Below.refl _ _).alloc (Nat.le_refl _) _).alloc (by simp) _
  have A0 : Arr V w.heap.size 70 [.int .i64 m.i, .slice p.k.a m.k.length p.k.c, .slice p.f.b.a m.f.b.length p.f.b.c, .slice p.f.w.a m.f.w.length p.f.w.c] := by rw [hV]; exact (Arr.new _ _ _).alloc _
  have A1 : Arr V (w.heap.size + 1) 70 [.int .i64 m.i, .slice q.k.a m.k.length q.k.c, .slice q.f.b.a m.f.b.length q.f.b.c, .slice q.f.w.a m.f.w.length q.f.w.c] := by
    rw [hV]
    have := Arr.new (w.alloc (.cells #[.int .i64 m.i, .slice p.k.a m.k.length p.k.c, .slice p.f.b.a m.f.b.length p.f.b.c, .slice p.f.w.a m.f.w.length p.f.w.c] 70)) [.int .i64 m.i, .slice q.k.a m.k.length q.k.c, .slice q.f.b.a m.f.b.length q.f.b.c, .slice q.f.w.a m.f.w.length q.f.w.c] 70
    simpa using this
  have H : Hid (DeviceRd w p m ∧ DeviceRd w q m ∧ DeviceSm m) := ⟨h, g, s⟩
  clear h g s
  go_enter Try.func51, Try.ntmps51
  go_wp2_with fail
  rw [← hV]
  clear hV
  refine (eqKeySC p.k.a q.k.a m.k.length p.k.c q.k.c m.k _ ((H.out.1.k).below B) ((H.out.2.1.k).below B) H.out.2.2.k).mono ?_
  rintro e w1 ⟨rfl, hb⟩
  replace A0 := A0.kept hb
  replace A1 := A1.kept hb
  replace B := B.trans (hb.mono B.size)
  clear hb
  have c0 := A0.cell 2
  have d0 := A1.cell 2
  have c1 := A0.cell 3
  have d1 := A1.cell 3
  simp at c0 d0 c1 d1
  go_wp2_with fail
  refine (eqFlashC m.f p.f q.f _ ((H.out.1.f).below B) ((H.out.2.1.f).below B) H.out.2.2.f).mono ?_
  rintro e w2 ⟨rfl, hb⟩
  replace A0 := A0.kept hb
  replace A1 := A1.kept hb
  replace B := B.trans (hb.mono B.size)
  clear hb
  clear c0 d0 c1 d1
  go_wp2
  go_ret
  exact ⟨rfl, B⟩
theorem toDeviceC (m : DeviceM) (p : DeviceA) (w : World) (h : DeviceRd w p m) (s : DeviceSm m) :
    Calls Try.prog 49 #[devV m p] w fun e w' => ∃ p' : DeviceA, e = .returned (devV m p') ∧ DeviceOw w.heap.size w' p' m ∧ Below w.heap.size w w' := by
  obtain ⟨V, hV⟩ : ∃ V, V = ((w.alloc (.cells #[.int .i64 m.i, .slice p.k.a m.k.length p.k.c, .slice p.f.b.a m.f.b.length p.f.b.c, .slice p.f.w.a m.f.w.length p.f.w.c] 65)).alloc (.cells #[.int .i64 0, .slice none 0 0, .slice none 0 0, .slice none 0 0] 70)).alloc (.cells #[.int .i64 m.i, .slice none 0 0, .slice none 0 0, .slice none 0 0] 70) := ⟨_, rfl⟩
  have hL : Below w.heap.size w V := by rw [hV]; exact (((Below.refl _ _).alloc (Nat.le_refl _) _).alloc (by simp) _).alloc (by simp; omega) _
  have k0 : Arr V w.heap.size 65 [.int .i64 m.i, .slice p.k.a m.k.length p.k.c, .slice p.f.b.a m.f.b.length p.f.b.c, .slice p.f.w.a m.f.w.length p.f.w.c] := by rw [hV]; exact ((Arr.new w _ _).alloc _).alloc _
  have k1 : Arr V (w.heap.size + 1) 70 [.int .i64 0, .slice none 0 0, .slice none 0 0, .slice none 0 0] := by
    rw [hV]
    have := (Arr.new (w.alloc (.cells #[.int .i64 m.i, .slice p.k.a m.k.length p.k.c, .slice p.f.b.a m.f.b.length p.f.b.c, .slice p.f.w.a m.f.w.length p.f.w.c] 65)) [.int .i64 0, .slice none 0 0, .slice none 0 0, .slice none 0 0] 70).alloc (.cells #[.int .i64 m.i, .slice none 0 0, .slice none 0 0, .slice none 0 0] 70)
    simpa using this
  have k2 : Arr V (w.heap.size + 1 + 1) 70 [.int .i64 m.i, .slice none 0 0, .slice none 0 0, .slice none 0 0] := by
    rw [hV]
    have := Arr.new ((w.alloc (.cells #[.int .i64 m.i, .slice p.k.a m.k.length p.k.c, .slice p.f.b.a m.f.b.length p.f.b.c, .slice p.f.w.a m.f.w.length p.f.w.c] 65)).alloc (.cells #[.int .i64 0, .slice none 0 0, .slice none 0 0, .slice none 0 0] 70)) [.int .i64 m.i, .slice none 0 0, .slice none 0 0, .slice none 0 0] 70
    simpa using this
  have zV : w.heap.size + 3 ≤ V.heap.size := by rw [hV]; simp
  have H : Hid (DeviceRd w p m ∧ DeviceSm m) := ⟨h, s⟩
  clear h s
  go_enter Try.func49, Try.ntmps49
  have B := hL
  have zW : V.heap.size ≤ V.heap.size := Nat.le_refl _
  go_wp2_with fail
  rw [← hV]
  clear hV
  refine (toKeySC p.k.a m.k.length p.k.c m.k _ ((H.out.1.k).below B) H.out.2.k).mono ?_
  rintro e w1 ⟨ak, ck, rfl, ok, hbk⟩
  replace k0 := k0.kept hbk
  replace k1 := k1.kept hbk
  replace k2 := k2.kept hbk
  replace ok := (ok.base zW)
  replace zW := Nat.le_trans zW hbk.size
  replace B := B.trans (hbk.mono B.size)
  clear hbk
  have d1 := k2.cell 1
  simp at d1
  have f2 := k2.frozen
  have lt2 := k2.lt
  have c0 := k0.cell 2
  have c1 := k0.cell 3
  simp at c0 c1
  go_wp2_with fail
  have B2 : Below w.heap.size w (w1.setCell ⟨w.heap.size + 1 + 1, 1, none⟩ (.slice ak m.k.length ck)) := (B.setCell (by simp; omega) _)
  have zW2 : V.heap.size ≤ (w1.setCell ⟨w.heap.size + 1 + 1, 1, none⟩ (.slice ak m.k.length ck)).heap.size := by simpa using zW
  have ok2 := (ok.other ⟨w.heap.size + 1 + 1, 1, none⟩ (.slice ak m.k.length ck) (by simp; omega))
  have k02 := (k0.other ⟨w.heap.size + 1 + 1, 1, none⟩ (.slice ak m.k.length ck) (by simp; omega))
  have k12 := (k1.other ⟨w.heap.size + 1 + 1, 1, none⟩ (.slice ak m.k.length ck) (by simp))
  have k22 : Arr (w1.setCell ⟨w.heap.size + 1 + 1, 1, none⟩ (.slice ak m.k.length ck)) (w.heap.size + 1 + 1) 70 [.int .i64 m.i, .slice ak m.k.length ck, .slice none 0 0, .slice none 0 0] := (k2.set 1 (.slice ak m.k.length ck))
  generalize (w1.setCell ⟨w.heap.size + 1 + 1, 1, none⟩ (.slice ak m.k.length ck)) = W0 at B2 zW2 ok2 k02 k12 k22 ⊢
  clear B zW k0 k1 k2 f2 lt2 ok c0 c1 d1
  have B := B2
  have zW := zW2
  have k0 := k02
  have k1 := k12
  have k2 := k22
  have ok := ok2
  clear B2 zW2 k02 k12 k22 ok2
  refine (toFlashC m.f p.f _ ((H.out.1.f).below B) H.out.2.f).mono ?_
  rintro e w2 ⟨af, rfl, of, hbf⟩
  replace k0 := k0.kept hbf
  replace k1 := k1.kept hbf
  replace k2 := k2.kept hbf
  replace ok := (ok.below hbf)
  replace of := (of.base zW)
  replace zW := Nat.le_trans zW hbf.size
  replace B := B.trans (hbf.mono B.size)
  clear hbf
  have d2 := k2.cell 2
  have d3 := k2.cell 3
  simp at d2 d3
  have f2 := k2.frozen
  have lt2 := k2.lt
  have d0 := k2.cell 0
  have e0 := k1.cell 0
  have d1 := k2.cell 1
  have e1 := k1.cell 1
  have e2 := k1.cell 2
  have e3 := k1.cell 3
  simp at d0 d1 e0 e1 e2 e3
  have f1 := k1.frozen
  have lt1 := k1.lt
  have HO : Hid (∀ (q0 : Addr) (u0 : Value) (q1 : Addr) (u1 : Value) (q2 : Addr) (u2 : Value) (q3 : Addr) (u3 : Value) (q4 : Addr) (u4 : Value) (q5 : Addr) (u5 : Value), q0.block < V.heap.size → q1.block < V.heap.size → q2.block < V.heap.size → q3.block < V.heap.size → q4.block < V.heap.size → q5.block < V.heap.size → DeviceOw w.heap.size ((((((w2.setCell q0 u0).setCell q1 u1).setCell q2 u2).setCell q3 u3).setCell q4 u4).setCell q5 u5) ⟨⟨ak, ck⟩, af⟩ m) := by
    intro q0 u0 q1 u1 q2 u2 q3 u3 q4 u4 q5 u5 hq0 hq1 hq2 hq3 hq4 hq5
    exact ⟨(((((((ok.other q0 u0 hq0).other q1 u1 hq1).other q2 u2 hq2).other q3 u3 hq3).other q4 u4 hq4).other q5 u5 hq5).base hL.size), (((((((of.other q0 u0 hq0).other q1 u1 hq1).other q2 u2 hq2).other q3 u3 hq3).other q4 u4 hq4).other q5 u5 hq5).base hL.size)⟩
  have HF : Hid (∀ v0 v1 r0 r1 r2 r3, Below w.heap.size w ((((((w2.setCell ⟨w.heap.size + 1 + 1, 2, none⟩ v0).setCell ⟨w.heap.size + 1 + 1, 3, none⟩ v1).setCell ⟨w.heap.size + 1, 0, none⟩ r0).setCell ⟨w.heap.size + 1, 1, none⟩ r1).setCell ⟨w.heap.size + 1, 2, none⟩ r2).setCell ⟨w.heap.size + 1, 3, none⟩ r3)) := fun v0 v1 r0 r1 r2 r3 => ((((((B.setCell (by simp; omega) _).setCell (by simp; omega) _).setCell (by simp) _).setCell (by simp) _).setCell (by simp) _).setCell (by simp) _)
  have K1 : Hid (Arr w2 (w.heap.size + 1) 70 [.int .i64 0, .slice none 0 0, .slice none 0 0, .slice none 0 0]) := k1
  clear B zW k0 k1 k2 ok of hL
  go_wp2
  have K2 : Arr w2 (w.heap.size + 1) 70 [.int .i64 0, .slice none 0 0, .slice none 0 0, .slice none 0 0] := K1.out
  have n3 := ((((((K2.other ⟨w.heap.size + 1 + 1, 2, none⟩ (.slice af.b.a m.f.b.length af.b.c) (by simp)).other ⟨w.heap.size + 1 + 1, 3, none⟩ (.slice af.w.a m.f.w.length af.w.c) (by simp)).set 0 (.int .i64 m.i)).set 1 (.slice ak m.k.length ck)).set 2 (.slice af.b.a m.f.b.length af.b.c)).set 3 (.slice af.w.a m.f.w.length af.w.c))
  exact bodyPost_ret (results_cell_row rfl _ _ (w.heap.size + 1) 70 _ (0, 0) _ rfl n3 Try.underlying70 rfl (by kernel_rfl)) rfl ⟨⟨⟨ak, ck⟩, af⟩, rfl, HO.out _ _ _ _ _ _ _ _ _ _ _ _ (by simp; omega) (by simp; omega) (by simp; omega) (by simp; omega) (by simp; omega) (by simp; omega), HF.out _ _ _ _ _ _⟩
end Go.Proofs.Ytgfjbaigmkdbcaa
