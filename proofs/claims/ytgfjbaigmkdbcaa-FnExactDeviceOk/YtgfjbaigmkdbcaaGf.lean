/-
  What is proved here: what the laws' toFlash, eqFlash, szFlash answer.
-/
import Derived.Test.YtgfjbaigmkdbcaaSlA
namespace Go.Proofs.Ytgfjbaigmkdbcaa
open Go.RowKit
set_option maxRecDepth 100000
set_option maxHeartbeats 4000000
set_option linter.unusedVariables false

structure FlashM where
  b : List Int
  w : List Int
structure FlashA where
  b : SlA
  w : SlA
abbrev flashV (m : FlashM) (p : FlashA) : Value := .agg #[.slice p.b.a m.b.length p.b.c, .slice p.w.a m.w.length p.w.c]
abbrev flashC (m : FlashM) (p : FlashA) : List Value := [.slice p.b.a m.b.length p.b.c, .slice p.w.a m.w.length p.w.c]
structure FlashRd (W : World) (p : FlashA) (m : FlashM) : Prop where
  b : Bs W p.b.a m.b.length p.b.c m.b
  w : Is W p.w.a m.w.length p.w.c m.w
theorem FlashRd.below {W W' : World} {p : FlashA} {m : FlashM} (h : FlashRd W p m) (hb : Below W.heap.size W W') : FlashRd W' p m := ⟨h.b.below hb, h.w.below hb⟩
structure FlashOw (lo : Nat) (W : World) (p : FlashA) (m : FlashM) : Prop where
  b : W.ownsRow lo 5 1 (.slice p.b.a m.b.length p.b.c) m.b.length (U8 m.b)
  w : W.ownsRow lo 3 1 (.slice p.w.a m.w.length p.w.c) m.w.length (I64 m.w)
section
variable {lo lo' : Nat} {W W' : World} {p : FlashA} {m : FlashM}
theorem FlashOw.below (h : FlashOw lo W p m) (hb : Below W.heap.size W W') : FlashOw lo W' p m := ⟨(own_below h.b hb), (own_below h.w hb)⟩
theorem FlashOw.other (h : FlashOw lo W p m) (q : Addr) (u : Value) (hq : q.block < lo) : FlashOw lo (W.setCell q u) p m := ⟨(own_other h.b q u hq), (own_other h.w q u hq)⟩
theorem FlashOw.base (h : FlashOw lo W p m) (hl : lo' ≤ lo) : FlashOw lo' W p m := ⟨(own_base h.b hl), (own_base h.w hl)⟩
structure FlashBy (m : FlashM) : Prop where
  b : (∀ x ∈ m.b, 0 ≤ x ∧ x < 256)
  w : (∀ x ∈ m.w, -9223372036854775808 ≤ x ∧ x ≤ 9223372036854775807)
theorem FlashRd.by_ (h : FlashRd W p m) : FlashBy m := ⟨h.b.2.2.2.1, h.w.2.2.2.1⟩
theorem FlashOw.rd (h : FlashOw lo W p m) (y : FlashBy m) : FlashRd W p m := ⟨bs_of_own h.b y.b, is_of_own h.w y.w⟩
end
structure FlashLn (m : FlashM) : Prop where
  b : m.b.length ≤ 9223372036854775807
  w : m.w.length ≤ 9223372036854775807
structure FlashSm (m : FlashM) : Prop where
  b : m.b.length ≤ 1048576
  w : m.w.length ≤ 1048576
theorem szFlashC (m : FlashM) (p : FlashA) (l : Int) (w : World) (h : FlashRd w p m) (h0 : 0 ≤ l) (h1 : l ≤ 1048576) (hn : FlashLn m) :
    Calls Try.prog 112 #[flashV m p, .int .i64 l] w fun e w' => ∃ r : Int, e = .returned (.int .i64 r) ∧ (r = -1 ∨ 0 ≤ r ∧ r ≤ l ∧ FlashSm m) ∧ Below w.heap.size w w' := by
  obtain ⟨V, hV⟩ : ∃ V, V = w.alloc (.cells #[.slice p.b.a m.b.length p.b.c, .slice p.w.a m.w.length p.w.c] 63) := ⟨_, rfl⟩
  have B : Below w.heap.size w V := by rw [hV]; exact (Below.refl _ _).alloc (Nat.le_refl _) _
  have A : Arr V w.heap.size 63 [.slice p.b.a m.b.length p.b.c, .slice p.w.a m.w.length p.w.c] := by rw [hV]; exact Arr.new _ _ _
  have H : Hid (FlashRd w p m ∧ FlashLn m) := ⟨h, hn⟩
  clear h hn
  go_enter Try.func112, Try.ntmps112
  go_wp2_with fail
  rw [← hV]
  clear hV
  refine (szBC p.b.a m.b.length p.b.c l _ h0 (by omega) H.out.2.b).mono ?_
  rintro e w1 ⟨x0, rfl, hx, hb⟩
  replace A := A.kept hb
  replace B := B.trans (hb.mono B.size)
  clear hb
  rcases hx with rfl | ⟨y0, z0, s0⟩
  · go_wp2
    go_ret
    exact ⟨_, rfl, .inl rfl, B⟩
  have g0 : ¬ x0 < 0 := by omega
  have S0 : Hid (m.b.length ≤ 1048576) := s0
  clear s0
  have c0 := A.cell 1
  simp at c0
  go_wp2_with fail
  refine (szIC p.w.a m.w.length p.w.c x0 _ y0 (by omega) H.out.2.w).mono ?_
  rintro e w2 ⟨x1, rfl, hx, hb⟩
  replace A := A.kept hb
  replace B := B.trans (hb.mono B.size)
  clear hb
  clear c0
  rcases hx with rfl | ⟨y1, z1, s1⟩
  · go_wp2
    go_ret
    exact ⟨_, rfl, .inl rfl, B⟩
  have g1 : ¬ x1 < 0 := by omega
  have S1 : Hid (m.w.length ≤ 1048576) := s1
  clear s1
  go_wp2
  go_ret
  exact ⟨_, rfl, .inr ⟨y1, by omega, ⟨S0.out, S1.out⟩⟩, B⟩
theorem eqFlashC (m : FlashM) (p q : FlashA) (w : World) (h : FlashRd w p m) (g : FlashRd w q m) (s : FlashSm m) :
    Calls Try.prog 116 #[flashV m p, flashV m q] w fun e w' => e = .returned (.bool true) ∧ Below w.heap.size w w' := by
  have sm_b := s.b
  have sm_w := s.w
  obtain ⟨V, hV⟩ : ∃ V, V = (w.alloc (.cells #[.slice p.b.a m.b.length p.b.c, .slice p.w.a m.w.length p.w.c] 68)).alloc (.cells #[.slice q.b.a m.b.length q.b.c, .slice q.w.a m.w.length q.w.c] 68) := ⟨_, rfl⟩
  have B : Below w.heap.size w V := by rw [hV]; exact ((Below.refl _ _).alloc (Nat.le_refl _) _).alloc (by simp) _
  have A0 : Arr V w.heap.size 68 [.slice p.b.a m.b.length p.b.c, .slice p.w.a m.w.length p.w.c] := by rw [hV]; exact (Arr.new _ _ _).alloc _
  have A1 : Arr V (w.heap.size + 1) 68 [.slice q.b.a m.b.length q.b.c, .slice q.w.a m.w.length q.w.c] := by
    rw [hV]
    have := Arr.new (w.alloc (.cells #[.slice p.b.a m.b.length p.b.c, .slice p.w.a m.w.length p.w.c] 68)) [.slice q.b.a m.b.length q.b.c, .slice q.w.a m.w.length q.w.c] 68
    simpa using this
  have H : Hid (FlashRd w p m ∧ FlashRd w q m ∧ FlashSm m) := ⟨h, g, s⟩
  clear h g s
  go_enter Try.func116, Try.ntmps116
  go_wp2_with fail
  rw [← hV]
  clear hV
  refine (eqBC p.b.a q.b.a m.b.length p.b.c q.b.c m.b _ ((H.out.1.b).below B) ((H.out.2.1.b).below B) (by omega)).mono ?_
  rintro e w1 ⟨rfl, hb⟩
  replace A0 := A0.kept hb
  replace A1 := A1.kept hb
  replace B := B.trans (hb.mono B.size)
  clear hb
  have c0 := A0.cell 1
  have d0 := A1.cell 1
  simp at c0 d0
  go_wp2_with fail
  refine (eqIC p.w.a q.w.a m.w.length p.w.c q.w.c m.w _ ((H.out.1.w).below B) ((H.out.2.1.w).below B) (by omega)).mono ?_
  rintro e w2 ⟨rfl, hb⟩
  replace A0 := A0.kept hb
  replace A1 := A1.kept hb
  replace B := B.trans (hb.mono B.size)
  clear hb
  clear c0 d0
  go_wp2
  go_ret
  exact ⟨rfl, B⟩
theorem toFlashC (m : FlashM) (p : FlashA) (w : World) (h : FlashRd w p m) (s : FlashSm m) :
    Calls Try.prog 114 #[flashV m p] w fun e w' => ∃ p' : FlashA, e = .returned (flashV m p') ∧ FlashOw w.heap.size w' p' m ∧ Below w.heap.size w w' := by
  have sm_b := s.b
  have sm_w := s.w
  obtain ⟨V, hV⟩ : ∃ V, V = ((w.alloc (.cells #[.slice p.b.a m.b.length p.b.c, .slice p.w.a m.w.length p.w.c] 63)).alloc (.cells #[.slice none 0 0, .slice none 0 0] 68)).alloc (.cells #[.slice none 0 0, .slice none 0 0] 68) := ⟨_, rfl⟩
  have hL : Below w.heap.size w V := by rw [hV]; exact (((Below.refl _ _).alloc (Nat.le_refl _) _).alloc (by simp) _).alloc (by simp; omega) _
  have k0 : Arr V w.heap.size 63 [.slice p.b.a m.b.length p.b.c, .slice p.w.a m.w.length p.w.c] := by rw [hV]; exact ((Arr.new w _ _).alloc _).alloc _
  have k1 : Arr V (w.heap.size + 1) 68 [.slice none 0 0, .slice none 0 0] := by
    rw [hV]
    have := (Arr.new (w.alloc (.cells #[.slice p.b.a m.b.length p.b.c, .slice p.w.a m.w.length p.w.c] 63)) [.slice none 0 0, .slice none 0 0] 68).alloc (.cells #[.slice none 0 0, .slice none 0 0] 68)
    simpa using this
  have k2 : Arr V (w.heap.size + 1 + 1) 68 [.slice none 0 0, .slice none 0 0] := by
    rw [hV]
    have := Arr.new ((w.alloc (.cells #[.slice p.b.a m.b.length p.b.c, .slice p.w.a m.w.length p.w.c] 63)).alloc (.cells #[.slice none 0 0, .slice none 0 0] 68)) [.slice none 0 0, .slice none 0 0] 68
    simpa using this
  have zV : w.heap.size + 3 ≤ V.heap.size := by rw [hV]; simp
  have H : Hid (FlashRd w p m ∧ FlashSm m) := ⟨h, s⟩
  clear h s
  go_enter Try.func114, Try.ntmps114
  have B := hL
  have zW : V.heap.size ≤ V.heap.size := Nat.le_refl _
  go_wp2_with fail
  rw [← hV]
  clear hV
  refine (toS p.b.a m.b.length p.b.c m.b _ ((H.out.1.b).below B) (by omega)).mono ?_
  rintro e w1 ⟨ab, cb, rfl, ob, _, hbb⟩
  replace k0 := k0.kept hbb
  replace k1 := k1.kept hbb
  replace k2 := k2.kept hbb
  replace ob := (own_base ob zW)
  replace zW := Nat.le_trans zW hbb.size
  replace B := B.trans (hbb.mono B.size)
  clear hbb
  have d0 := k2.cell 0
  simp at d0
  have f2 := k2.frozen
  have lt2 := k2.lt
  have c0 := k0.cell 1
  simp at c0
  go_wp2_with fail
  have B2 : Below w.heap.size w (w1.setCell ⟨w.heap.size + 1 + 1, 0, none⟩ (.slice ab m.b.length cb)) := (B.setCell (by simp; omega) _)
  have zW2 : V.heap.size ≤ (w1.setCell ⟨w.heap.size + 1 + 1, 0, none⟩ (.slice ab m.b.length cb)).heap.size := by simpa using zW
  have ob2 := (own_other ob ⟨w.heap.size + 1 + 1, 0, none⟩ (.slice ab m.b.length cb) (by simp; omega))
  have k02 := (k0.other ⟨w.heap.size + 1 + 1, 0, none⟩ (.slice ab m.b.length cb) (by simp; omega))
  have k12 := (k1.other ⟨w.heap.size + 1 + 1, 0, none⟩ (.slice ab m.b.length cb) (by simp))
  have k22 : Arr (w1.setCell ⟨w.heap.size + 1 + 1, 0, none⟩ (.slice ab m.b.length cb)) (w.heap.size + 1 + 1) 68 [.slice ab m.b.length cb, .slice none 0 0] := (k2.set 0 (.slice ab m.b.length cb))
  generalize (w1.setCell ⟨w.heap.size + 1 + 1, 0, none⟩ (.slice ab m.b.length cb)) = W0 at B2 zW2 ob2 k02 k12 k22 ⊢
  clear B zW k0 k1 k2 f2 lt2 ob c0 d0
  have B := B2
  have zW := zW2
  have k0 := k02
  have k1 := k12
  have k2 := k22
  have ob := ob2
  clear B2 zW2 k02 k12 k22 ob2
  refine (toSI p.w.a m.w.length p.w.c m.w _ ((H.out.1.w).below B) (by omega)).mono ?_
  rintro e w2 ⟨aw, cw, rfl, ow, _, hbw⟩
  replace k0 := k0.kept hbw
  replace k1 := k1.kept hbw
  replace k2 := k2.kept hbw
  replace ob := (own_below ob hbw)
  replace ow := (own_base ow zW)
  replace zW := Nat.le_trans zW hbw.size
  replace B := B.trans (hbw.mono B.size)
  clear hbw
  have d1 := k2.cell 1
  simp at d1
  have f2 := k2.frozen
  have lt2 := k2.lt
  have d0 := k2.cell 0
  have e0 := k1.cell 0
  have e1 := k1.cell 1
  simp at d0 e0 e1
  have f1 := k1.frozen
  have lt1 := k1.lt
  have HO : Hid (∀ (q0 : Addr) (u0 : Value) (q1 : Addr) (u1 : Value) (q2 : Addr) (u2 : Value), q0.block < V.heap.size → q1.block < V.heap.size → q2.block < V.heap.size → FlashOw w.heap.size (((w2.setCell q0 u0).setCell q1 u1).setCell q2 u2) ⟨⟨ab, cb⟩, ⟨aw, cw⟩⟩ m) := by
    intro q0 u0 q1 u1 q2 u2 hq0 hq1 hq2
    exact ⟨(own_base (own_other (own_other (own_other ob q0 u0 hq0) q1 u1 hq1) q2 u2 hq2) hL.size), (own_base (own_other (own_other (own_other ow q0 u0 hq0) q1 u1 hq1) q2 u2 hq2) hL.size)⟩
  have HF : Hid (∀ v0 r0 r1, Below w.heap.size w (((w2.setCell ⟨w.heap.size + 1 + 1, 1, none⟩ v0).setCell ⟨w.heap.size + 1, 0, none⟩ r0).setCell ⟨w.heap.size + 1, 1, none⟩ r1)) := fun v0 r0 r1 => (((B.setCell (by simp; omega) _).setCell (by simp) _).setCell (by simp) _)
  have K1 : Hid (Arr w2 (w.heap.size + 1) 68 [.slice none 0 0, .slice none 0 0]) := k1
  clear B zW k0 k1 k2 ob ow hL
  go_wp2
  have K2 : Arr w2 (w.heap.size + 1) 68 [.slice none 0 0, .slice none 0 0] := K1.out
  have n3 := (((K2.other ⟨w.heap.size + 1 + 1, 1, none⟩ (.slice aw m.w.length cw) (by simp)).set 0 (.slice ab m.b.length cb)).set 1 (.slice aw m.w.length cw))
  exact bodyPost_ret (results_cell_row rfl _ _ (w.heap.size + 1) 68 _ (0, 0) _ rfl n3 Try.underlying68 rfl (by kernel_rfl)) rfl ⟨⟨⟨ab, cb⟩, ⟨aw, cw⟩⟩, rfl, HO.out _ _ _ _ _ _ (by simp; omega) (by simp; omega) (by simp; omega), HF.out _ _ _⟩
end Go.Proofs.Ytgfjbaigmkdbcaa
