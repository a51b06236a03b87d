/-
  What is proved here: what the laws' toFlash, eqFlash, szFlash answer; contracts of the specification's l8version, l8part, l8need, l8ahead: what a part, a need and their order are as plain facts; how bundles lie in memory (parts and needs are rows of four cells, a part's sum a row of bytes); the contract of the specification's l8find.
-/
import Derived.Test.YtgfjbaigmkdbcaaJS17
import Derived.Test.YtgfjbaigmkdbcaaJS1
import Derived.Deep.CutRange
import Derived.Test.YtgfjbaigmkdbcaaJS4
namespace Go.Proofs.Ytgfjbaigmkdbcaa
open Go.RowKit
set_option maxRecDepth 100000
set_option maxHeartbeats 4000000
set_option linter.unusedVariables false

structure FlashM where
  b : List Int
  w : List Int
structure FlashA where
  b : SlA
  w : SlA
abbrev flashV (m : FlashM) (p : FlashA) : Value := .agg #[.slice p.b.a m.b.length p.b.c, .slice p.w.a m.w.length p.w.c]
abbrev flashC (m : FlashM) (p : FlashA) : List Value := [.slice p.b.a m.b.length p.b.c, .slice p.w.a m.w.length p.w.c]
structure FlashRd (W : World) (p : FlashA) (m : FlashM) : Prop where
  b : Bs W p.b.a m.b.length p.b.c m.b
  w : Is W p.w.a m.w.length p.w.c m.w
theorem FlashRd.below {W W' : World} {p : FlashA} {m : FlashM} (h : FlashRd W p m) (hb : Below W.heap.size W W') : FlashRd W' p m := ⟨h.b.below hb, h.w.below hb⟩
structure FlashOw (lo : Nat) (W : World) (p : FlashA) (m : FlashM) : Prop where
  b : W.ownsRow lo 5 1 (.slice p.b.a m.b.length p.b.c) m.b.length (U8 m.b)
  w : W.ownsRow lo 3 1 (.slice p.w.a m.w.length p.w.c) m.w.length (I64 m.w)
section
variable {lo lo' : Nat} {W W' : World} {p : FlashA} {m : FlashM}
theorem FlashOw.below (h : FlashOw lo W p m) (hb : Below W.heap.size W W') : FlashOw lo W' p m := ⟨(own_below h.b hb), (own_below h.w hb)⟩
theorem FlashOw.other (h : FlashOw lo W p m) (q : Addr) (u : Value) (hq : q.block < lo) : FlashOw lo (W.setCell q u) p m := ⟨(own_other h.b q u hq), (own_other h.w q u hq)⟩
theorem FlashOw.base (h : FlashOw lo W p m) (hl : lo' ≤ lo) : FlashOw lo' W p m := ⟨(own_base h.b hl), (own_base h.w hl)⟩
structure FlashBy (m : FlashM) : Prop where
  b : (∀ x ∈ m.b, 0 ≤ x ∧ x < 256)
  w : (∀ x ∈ m.w, -9223372036854775808 ≤ x ∧ x ≤ 9223372036854775807)
theorem FlashRd.by_ (h : FlashRd W p m) : FlashBy m := ⟨h.b.2.2.2.1, h.w.2.2.2.1⟩
theorem FlashOw.rd (h : FlashOw lo W p m) (y : FlashBy m) : FlashRd W p m := ⟨bs_of_own h.b y.b, is_of_own h.w y.w⟩
end
structure FlashLn (m : FlashM) : Prop where
  b : m.b.length ≤ 9223372036854775807
  w : m.w.length ≤ 9223372036854775807
structure FlashSm (m : FlashM) : Prop where
  b : m.b.length ≤ 1048576
  w : m.w.length ≤ 1048576
theorem szFlashC (m : FlashM) (p : FlashA) (l : Int) (w : World) (h : FlashRd w p m) (h0 : 0 ≤ l) (h1 : l ≤ 1048576) (hn : FlashLn m) :
    Calls Try.prog 112 #[flashV m p, .int .i64 l] w fun e w' => ∃ r : Int, e = .returned (.int .i64 r) ∧ (r = -1 ∨ 0 ≤ r ∧ r ≤ l ∧ FlashSm m) ∧ Below w.heap.size w w' := by
  obtain ⟨V, hV⟩ : ∃ V, V = w.alloc (.cells #[.slice p.b.a m.b.length p.b.c, .slice p.w.a m.w.length p.w.c] 63) := ⟨_, rfl⟩
  have B : Below w.heap.size w V := by rw [hV]; exact (Below.refl _ _).alloc (Nat.le_refl _) _
  have A : Arr V w.heap.size 63 [.slice p.b.a m.b.length p.b.c, .slice p.w.a m.w.length p.w.c] := by rw [hV]; exact Arr.new _ _ _
  have H : Hid (FlashRd w p m ∧ FlashLn m) := ⟨h, hn⟩
  clear h hn
  go_enter Try.func112, Try.ntmps112
  go_wp2_with fail
  rw [← hV]
  clear hV
  refine (szBC p.b.a m.b.length p.b.c l _ h0 (by omega) H.out.2.b).mono ?_
  rintro e w1 ⟨x0, rfl, hx, hb⟩
  replace A := A.kept hb
  replace B := B.trans (hb.mono B.size)
  clear hb
  rcases hx with rfl | ⟨y0, z0, s0⟩
  · go_wp2
    go_ret
    exact ⟨_, rfl, .inl rfl, B⟩
  have g0 : ¬ x0 < 0 := by omega
  have S0 : Hid (m.b.length ≤ 1048576) := s0
  clear s0
  have c0 := A.cell 1
  simp at c0
  go_wp2_with fail
  refine (szIC p.w.a m.w.length p.w.c x0 _ y0 (by omega) H.out.2.w).mono ?_
  rintro e w2 ⟨x1, rfl, hx, hb⟩
  replace A := A.kept hb
  replace B := B.trans (hb.mono B.size)
  clear hb
  clear c0
  rcases hx with rfl | ⟨y1, z1, s1⟩
  · go_wp2
    go_ret
    exact ⟨_, rfl, .inl rfl, B⟩
  have g1 : ¬ x1 < 0 := by omega
  have S1 : Hid (m.w.length ≤ 1048576) := s1
  clear s1
  go_wp2
  go_ret
  exact ⟨_, rfl, .inr ⟨y1, by omega, ⟨S0.out, S1.out⟩⟩, B⟩
theorem eqFlashC (m : FlashM) (p q : FlashA) (w : World) (h : FlashRd w p m) (g : FlashRd w q m) (s : FlashSm m) :
    Calls Try.prog 116 #[flashV m p, flashV m q] w fun e w' => e = .returned (.bool true) ∧ Below w.heap.size w w' := by
  have sm_b := s.b
  have sm_w := s.w
  obtain ⟨V, hV⟩ : ∃ V, V = (w.alloc (.cells #[.slice p.b.a m.b.length p.b.c, .slice p.w.a m.w.length p.w.c] 68)).alloc (.cells #[.slice q.b.a m.b.length q.b.c, .slice q.w.a m.w.length q.w.c] 68) := ⟨_, rfl⟩
  have B : Below w.heap.size w V := by rw [hV]; exact ((Below.refl _ _).alloc (Nat.le_refl _) _).alloc (by simp) _
  have A0 : Arr V w.heap.size 68 [.slice p.b.a m.b.length p.b.c, .slice p.w.a m.w.length p.w.c] := by rw [hV]; exact (Arr.new _ _ _).alloc _
  have A1 : Arr V (w.heap.size + 1) 68 [.slice q.b.a m.b.length q.b.c, .slice q.w.a m.w.length q.w.c] := by
    rw [hV]
    have := Arr.new (w.alloc (.cells #[.slice p.b.a m.b.length p.b.c, .slice p.w.a m.w.length p.w.c] 68)) [.slice q.b.a m.b.length q.b.c, .slice q.w.a m.w.length q.w.c] 68
    simpa using this
  have H : Hid (FlashRd w p m ∧ FlashRd w q m ∧ FlashSm m) := ⟨h, g, s⟩
  clear h g s
  go_enter Try.func116, Try.ntmps116
  go_wp2_with fail
  rw [← hV]
  clear hV
  refine (eqBC p.b.a q.b.a m.b.length p.b.c q.b.c m.b _ ((H.out.1.b).below B) ((H.out.2.1.b).below B) (by omega)).mono ?_
  rintro e w1 ⟨rfl, hb⟩
  replace A0 := A0.kept hb
  replace A1 := A1.kept hb
  replace B := B.trans (hb.mono B.size)
  clear hb
  have c0 := A0.cell 1
  have d0 := A1.cell 1
  simp at c0 d0
  go_wp2_with fail
  refine (eqIC p.w.a q.w.a m.w.length p.w.c q.w.c m.w _ ((H.out.1.w).below B) ((H.out.2.1.w).below B) (by omega)).mono ?_
  rintro e w2 ⟨rfl, hb⟩
  replace A0 := A0.kept hb
  replace A1 := A1.kept hb
  replace B := B.trans (hb.mono B.size)
  clear hb
  clear c0 d0
  go_wp2
  go_ret
  exact ⟨rfl, B⟩
theorem toFlashC (m : FlashM) (p : FlashA) (w : World) (h : FlashRd w p m) (s : FlashSm m) :
    Calls Try.prog 114 #[flashV m p] w fun e w' => ∃ p' : FlashA, e = .returned (flashV m p') ∧ FlashOw w.heap.size w' p' m ∧ Below w.heap.size w w' := by
  have sm_b := s.b
  have sm_w := s.w
  obtain ⟨V, hV⟩ : ∃ V, V = ((w.alloc (.cells #[.slice p.b.a m.b.length p.b.c, .slice p.w.a m.w.length p.w.c] 63)).alloc (.cells #[.slice none 0 0, .slice none 0 0] 68)).alloc (.cells #[.slice none 0 0, .slice none 0 0] 68) := ⟨_, rfl⟩
  have hL : Below w.heap.size w V := by rw [hV]; exact (((Below.refl _ _).alloc (Nat.le_refl _) _).alloc (by simp) _).alloc (by simp; omega) _
  have k0 : Arr V w.heap.size 63 [.slice p.b.a m.b.length p.b.c, .slice p.w.a m.w.length p.w.c] := by rw [hV]; exact ((Arr.new w _ _).alloc _).alloc _
  have k1 : Arr V (w.heap.size + 1) 68 [.slice none 0 0, .slice none 0 0] := by
    rw [hV]
    have := (Arr.new (w.alloc (.cells #[.slice p.b.a m.b.length p.b.c, .slice p.w.a m.w.length p.w.c] 63)) [.slice none 0 0, .slice none 0 0] 68).alloc (.cells #[.slice none 0 0, .slice none 0 0] 68)
    simpa using this
  have k2 : Arr V (w.heap.size + 1 + 1) 68 [.slice none 0 0, .slice none 0 0] := by
    rw [hV]
    have := Arr.new ((w.alloc (.cells #[.slice p.b.a m.b.length p.b.c, .slice p.w.a m.w.length p.w.c] 63)).alloc (.cells #[.slice none 0 0, .slice none 0 0] 68)) [.slice none 0 0, .slice none 0 0] 68
    simpa using this
  have zV : w.heap.size + 3 ≤ V.heap.size := by rw [hV]; simp
  have H : Hid (FlashRd w p m ∧ FlashSm m) := ⟨h, s⟩
  clear h s
  go_enter Try.func114, Try.ntmps114
  have B := hL
  have zW : V.heap.size ≤ V.heap.size := Nat.le_refl _
  go_wp2_with fail
  rw [← hV]
  clear hV
  refine (toS p.b.a m.b.length p.b.c m.b _ ((H.out.1.b).below B) (by omega)).mono ?_
  rintro e w1 ⟨ab, cb, rfl, ob, _, hbb⟩
  replace k0 := k0.kept hbb
  replace k1 := k1.kept hbb
  replace k2 := k2.kept hbb
  replace ob := (own_base ob zW)
  replace zW := Nat.le_trans zW hbb.size
  replace B := B.trans (hbb.mono B.size)
  clear hbb
  have d0 := k2.cell 0
  simp at d0
  have f2 := k2.frozen
  have lt2 := k2.lt
  have c0 := k0.cell 1
  simp at c0
  go_wp2_with fail
  have B2 : Below w.heap.size w (w1.setCell ⟨w.heap.size + 1 + 1, 0, none⟩ (.slice ab m.b.length cb)) := (B.setCell (by simp; omega) _)
  have zW2 : V.heap.size ≤ (w1.setCell ⟨w.heap.size + 1 + 1, 0, none⟩ (.slice ab m.b.length cb)).heap.size := by simpa using zW
  have ob2 := (own_other ob ⟨w.heap.size + 1 + 1, 0, none⟩ (.slice ab m.b.length cb) (by simp; omega))
  have k02 := (k0.other ⟨w.heap.size + 1 + 1, 0, none⟩ (.slice ab m.b.length cb) (by simp; omega))
  have k12 := (k1.other ⟨w.heap.size + 1 + 1, 0, none⟩ (.slice ab m.b.length cb) (by simp))
  have k22 : Arr (w1.setCell ⟨w.heap.size + 1 + 1, 0, none⟩ (.slice ab m.b.length cb)) (w.heap.size + 1 + 1) 68 [.slice ab m.b.length cb, .slice none 0 0] := (k2.set 0 (.slice ab m.b.length cb))
  generalize (w1.setCell ⟨w.heap.size + 1 + 1, 0, none⟩ (.slice ab m.b.length cb)) = W0 at B2 zW2 ob2 k02 k12 k22 ⊢
  clear B zW k0 k1 k2 f2 lt2 ob c0 d0
  have B := B2
  have zW := zW2
  have k0 := k02
  have k1 := k12
  have k2 := k22
  have ob := ob2
  clear B2 zW2 k02 k12 k22 ob2
  refine (toSI p.w.a m.w.length p.w.c m.w _ ((H.out.1.w).below B) (by omega)).mono ?_
  rintro e w2 ⟨aw, cw, rfl, ow, _, hbw⟩
  replace k0 := k0.kept hbw
  replace k1 := k1.kept hbw
  replace k2 := k2.kept hbw
  replace ob := (own_below ob hbw)
  replace ow := (own_base ow zW)
  replace zW := Nat.le_trans zW hbw.size
  replace B := B.trans (hbw.mono B.size)
  clear hbw
  have d1 := k2.cell 1
  simp at d1
  have f2 := k2.frozen
  have lt2 := k2.lt
  have d0 := k2.cell 0
  have e0 := k1.cell 0
  have e1 := k1.cell 1
  simp at d0 e0 e1
  have f1 := k1.frozen
  have lt1 := k1.lt
  have HO : Hid (∀ (q0 : Addr) (u0 : Value) (q1 : Addr) (u1 : Value) (q2 : Addr) (u2 : Value), q0.block < V.heap.size → q1.block < V.heap.size → q2.block < V.heap.size → FlashOw w.heap.size (((w2.setCell q0 u0).setCell q1 u1).setCell q2 u2) ⟨⟨ab, cb⟩, ⟨aw, cw⟩⟩ m) := by
    intro q0 u0 q1 u1 q2 u2 hq0 hq1 hq2
    exact ⟨(own_base (own_other (own_other (own_other ob q0 u0 hq0) q1 u1 hq1) q2 u2 hq2) hL.size), (own_base (own_other (own_other (own_other ow q0 u0 hq0) q1 u1 hq1) q2 u2 hq2) hL.size)⟩
  have HF : Hid (∀ v0 r0 r1, Below w.heap.size w (((w2.setCell ⟨w.heap.size + 1 + 1, 1, none⟩ v0).setCell ⟨w.heap.size + 1, 0, none⟩ r0).setCell ⟨w.heap.size + 1, 1, none⟩ r1)) := fun v0 r0 r1 => (((B.setCell (by simp; omega) _).setCell (by simp) _).setCell (by simp) _)
  have K1 : Hid (Arr w2 (w.heap.size + 1) 68 [.slice none 0 0, .slice none 0 0]) := k1
  clear B zW k0 k1 k2 ob ow hL
  go_wp2
  have K2 : Arr w2 (w.heap.size + 1) 68 [.slice none 0 0, .slice none 0 0] := K1.out
  have n3 := (((K2.other ⟨w.heap.size + 1 + 1, 1, none⟩ (.slice aw m.w.length cw) (by simp)).set 0 (.slice ab m.b.length cb)).set 1 (.slice aw m.w.length cw))
  exact bodyPost_ret (results_cell_row rfl _ _ (w.heap.size + 1) 68 _ (0, 0) _ rfl n3 Try.underlying68 rfl (by kernel_rfl)) rfl ⟨⟨⟨ab, cb⟩, ⟨aw, cw⟩⟩, rfl, HO.out _ _ _ _ _ _ (by simp; omega) (by simp; omega) (by simp; omega), HF.out _ _ _⟩
end Go.Proofs.Ytgfjbaigmkdbcaa
namespace Go.Proofs.Ytgfjbaigmkdbcaa
open Go.RowKit
set_option maxRecDepth 100000
set_option maxHeartbeats 1000000

abbrev verOk (n : Int) : Prop := 0 ≤ n ∧ n ≤ 1000
abbrev partOk (k v s : Int) (n : Nat) : Prop := (0 ≤ k ∧ k < 4) ∧ verOk v ∧ (1 ≤ s ∧ s ≤ 192) ∧ n = 32
abbrev needOk (o f t k : Int) : Prop := (0 ≤ k ∧ k < 4) ∧ (0 ≤ o ∧ o < 4) ∧ o ≠ k ∧ verOk f ∧ verOk t ∧ f ≤ t
abbrev needLt (o f t k o' f' t' k' : Int) : Prop := o < o' ∨ o = o' ∧ (k < k' ∨ k = k' ∧ (f < f' ∨ f = f' ∧ t < t'))
/-- A Bool by what it says. -/
theorem by_dec (P : Prop) [Decidable P] : ∃ R : Bool, decide P = R ∧ Hid (P → R = true) ∧ Hid (¬ P → R = false) := ⟨_, rfl, decide_eq_true, decide_eq_false⟩
theorem spec8version (n : Int) (w : World) : Calls Try.prog 76 #[.int .i64 n] w fun e w' => e = .returned (.bool (decide (verOk n))) ∧ w' = w := by
  obtain ⟨R, hR, HT, HF⟩ := by_dec (verOk n)
  rw [hR]
  clear hR
  by_cases h1 : 0 ≤ n
  · by_cases h2 : n ≤ 1000
    all_goals
      go_enter Try.func76, Try.ntmps76
      go_wp2
      go_ret
      exact ⟨by first | (rw [HF.out (by omega)]; rfl) | (rw [HT.out (by omega)]; rfl), rfl⟩
  · go_enter Try.func76, Try.ntmps76
    go_wp2
    go_ret
    exact ⟨by first | (rw [HF.out (by omega)]; rfl) | (rw [HT.out (by omega)]; rfl), rfl⟩
theorem spec8part (k v s : Int) (a : Option Addr) (n c : Nat) (w : World) : Calls Try.prog 77 #[.agg #[.int .i64 k, .int .i64 v, .int .i64 s, .slice a n c]] w fun e w' => e = .returned (.bool (decide (partOk k v s n))) ∧ Below w.heap.size w w' := by
  obtain ⟨R, hR, HT, HF⟩ := by_dec (partOk k v s n)
  rw [hR]
  clear hR
  have B : Below w.heap.size w (w.alloc (.cells #[.int .i64 k, .int .i64 v, .int .i64 s, .slice a n c] 112)) := (Below.refl _ _).alloc (Nat.le_refl _) _
  obtain ⟨W, hW⟩ : ∃ W, W = w.alloc (.cells #[.int .i64 k, .int .i64 v, .int .i64 s, .slice a n c] 112) := ⟨_, rfl⟩
  have A : Arr W w.heap.size 112 [.int .i64 k, .int .i64 v, .int .i64 s, .slice a n c] := by rw [hW]; exact Arr.new _ _ _
  rw [← hW] at B
  have c0 := A.cell 0
  have c1 := A.cell 1
  have c2 := A.cell 2
  have c3 := A.cell 3
  simp at c0 c1 c2 c3
  clear A
  go_enter Try.func77, Try.ntmps77
  go_upto_region 1 with fail
  rw [← hW]
  clear hW
  by_cases h1 : 0 ≤ k
  · by_cases h2 : k < 4
    · by_cases hv : verOk v
      · by_cases h3 : 1 ≤ s
        · by_cases h4 : s ≤ 192
          · obtain ⟨q, hq, hq'⟩ : ∃ q, ((n : Int) == 32) = q ∧ Hid (q = decide (n = 32)) := ⟨_, rfl, by unfold Hid; by_cases h : n = 32 <;> simp [h]; omega⟩
            have HQ : Hid (R = q) := by
              unfold Hid; rw [hq'.out]
              by_cases h : n = 32
              · rw [HT.out (by omega), decide_eq_true h]
              · rw [HF.out (by omega), decide_eq_false h]
            go_wp2_with fail
            refine (spec8version v _).mono ?_
            rintro e w1 ⟨rfl, hw⟩
            rw [hw, decide_eq_true hv]
            go_wp2
            go_ret
            exact ⟨by rw [HQ.out]; rfl, B⟩
          · go_wp2_with fail
            refine (spec8version v _).mono ?_
            rintro e w1 ⟨rfl, hw⟩
            rw [hw, decide_eq_true hv]
            go_wp2
            go_ret
            exact ⟨by first | (rw [HF.out (by omega)]; rfl) | (rw [HT.out (by omega)]; rfl), B⟩
        · go_wp2_with fail
          refine (spec8version v _).mono ?_
          rintro e w1 ⟨rfl, hw⟩
          rw [hw, decide_eq_true hv]
          go_wp2
          go_ret
          exact ⟨by first | (rw [HF.out (by omega)]; rfl) | (rw [HT.out (by omega)]; rfl), B⟩
      · go_wp2_with fail
        refine (spec8version v _).mono ?_
        rintro e w1 ⟨rfl, hw⟩
        rw [hw, decide_eq_false hv]
        go_wp2
        go_ret
        exact ⟨by first | (rw [HF.out (by omega)]; rfl) | (rw [HT.out (by omega)]; rfl), B⟩
    · go_wp2
      go_ret
      exact ⟨by first | (rw [HF.out (by omega)]; rfl) | (rw [HT.out (by omega)]; rfl), B⟩
  · go_wp2
    go_ret
    exact ⟨by first | (rw [HF.out (by omega)]; rfl) | (rw [HT.out (by omega)]; rfl), B⟩
theorem spec8need (o f t k : Int) (w : World) : Calls Try.prog 78 #[.agg #[.int .i64 o, .int .i64 f, .int .i64 t, .int .i64 k]] w fun e w' => e = .returned (.bool (decide (needOk o f t k))) ∧ Below w.heap.size w w' := by
  obtain ⟨R, hR, HT, HF⟩ := by_dec (needOk o f t k)
  rw [hR]
  clear hR
  have B : Below w.heap.size w (w.alloc (.cells #[.int .i64 o, .int .i64 f, .int .i64 t, .int .i64 k] 115)) := (Below.refl _ _).alloc (Nat.le_refl _) _
  obtain ⟨W, hW⟩ : ∃ W, W = w.alloc (.cells #[.int .i64 o, .int .i64 f, .int .i64 t, .int .i64 k] 115) := ⟨_, rfl⟩
  have A : Arr W w.heap.size 115 [.int .i64 o, .int .i64 f, .int .i64 t, .int .i64 k] := by rw [hW]; exact Arr.new _ _ _
  rw [← hW] at B
  have c0 := A.cell 0
  have c1 := A.cell 1
  have c2 := A.cell 2
  have c3 := A.cell 3
  simp at c0 c1 c2 c3
  clear A
  go_enter Try.func78, Try.ntmps78
  go_upto_region 1 with fail
  rw [← hW]
  clear hW
  by_cases h1 : 0 ≤ k
  case neg => go_wp2; go_ret; exact ⟨by rw [HF.out (by omega)]; rfl, B⟩
  by_cases h2 : k < 4
  case neg => go_wp2; go_ret; exact ⟨by rw [HF.out (by omega)]; rfl, B⟩
  by_cases h3 : 0 ≤ o
  case neg => go_wp2; go_ret; exact ⟨by rw [HF.out (by omega)]; rfl, B⟩
  by_cases h4 : o < 4
  case neg => go_wp2; go_ret; exact ⟨by rw [HF.out (by omega)]; rfl, B⟩
  by_cases h5 : o = k
  case pos => go_wp2; go_ret; exact ⟨by rw [HF.out (by omega)]; rfl, B⟩
  have h5' : (o != k) = true := by simpa using h5
  by_cases hf : verOk f
  case neg =>
    go_wp2_with fail
    refine (spec8version f _).mono ?_
    rintro e w1 ⟨rfl, hw⟩
    rw [hw, decide_eq_false hf]
    go_wp2
    go_ret
    exact ⟨by rw [HF.out (by omega)]; rfl, B⟩
  by_cases ht : verOk t
  case neg =>
    go_wp2_with fail
    refine (spec8version f _).mono ?_
    rintro e w1 ⟨rfl, hw⟩
    rw [hw, decide_eq_true hf]
    go_wp2_with fail
    refine (spec8version t _).mono ?_
    rintro e w1 ⟨rfl, hw⟩
    rw [hw, decide_eq_false ht]
    go_wp2
    go_ret
    exact ⟨by rw [HF.out (by omega)]; rfl, B⟩
  obtain ⟨q, hq, hq'⟩ : ∃ q, decide (f ≤ t) = q ∧ Hid (R = q) := ⟨_, rfl, by
    unfold Hid
    by_cases h : f ≤ t
    · rw [HT.out (by omega), decide_eq_true h]
    · rw [HF.out (by omega), decide_eq_false h]⟩
  go_wp2_with fail
  refine (spec8version f _).mono ?_
  rintro e w1 ⟨rfl, hw⟩
  rw [hw, decide_eq_true hf]
  go_wp2_with fail
  refine (spec8version t _).mono ?_
  rintro e w1 ⟨rfl, hw⟩
  rw [hw, decide_eq_true ht]
  go_wp2
  go_ret
  exact ⟨by rw [hq'.out]; rfl, B⟩
end Go.Proofs.Ytgfjbaigmkdbcaa
namespace Go.Proofs.Ytgfjbaigmkdbcaa
open Go.RowKit
set_option maxRecDepth 100000
set_option maxHeartbeats 1000000

structure PartM where
  k : Int
  v : Int
  s : Int
  h : List Int
structure NeedM where
  o : Int
  f : Int
  t : Int
  k : Int
structure BunM where
  d : Int
  n : Int
  f : Int
  ps : List PartM
  ns : List NeedM
def pz : PartM := ⟨0, 0, 0, []⟩
def nz : NeedM := ⟨0, 0, 0, 0⟩
/-- The cells of the part at the place of a row. -/
structure PartAt (W : World) (b o : Nat) (p : PartM) (ha : Option Addr) (hc : Nat) : Prop where
  k : W.cell? ⟨b, o, none⟩ = some (.int .i64 p.k)
  v : W.cell? ⟨b, o + 1, none⟩ = some (.int .i64 p.v)
  s : W.cell? ⟨b, o + 2, none⟩ = some (.int .i64 p.s)
  h : W.cell? ⟨b, o + 3, none⟩ = some (.slice ha p.h.length hc)
  by_ : Bs W ha p.h.length hc p.h
structure NeedAt (W : World) (b q : Nat) (p : NeedM) : Prop where
  o : W.cell? ⟨b, q, none⟩ = some (.int .i64 p.o)
  f : W.cell? ⟨b, q + 1, none⟩ = some (.int .i64 p.f)
  t : W.cell? ⟨b, q + 2, none⟩ = some (.int .i64 p.t)
  k : W.cell? ⟨b, q + 3, none⟩ = some (.int .i64 p.k)
/-- What a slice of parts reads as. -/
def Ps (W : World) (a : Option Addr) (n c : Nat) (ps : List PartM) : Prop :=
  (a = none → c = 0) ∧ ps.length = n ∧ n ≤ c ∧ (n = 0 ∨ ∃ b o, a = some ⟨b, o, none⟩ ∧ b < W.heap.size ∧ ∀ i, i < n → ∃ ha hc, PartAt W b (o + i * 4) (ps.getD i pz) ha hc)
def Ns (W : World) (a : Option Addr) (n c : Nat) (ns : List NeedM) : Prop :=
  (a = none → c = 0) ∧ ns.length = n ∧ n ≤ c ∧ (n = 0 ∨ ∃ b o, a = some ⟨b, o, none⟩ ∧ b < W.heap.size ∧ ∀ i, i < n → NeedAt W b (o + i * 4) (ns.getD i nz))
section
variable {W W' : World} {a : Option Addr} {n c : Nat}
theorem PartAt.below {b o : Nat} {p : PartM} {ha : Option Addr} {hc : Nat} (h : PartAt W b o p ha hc) (l : b < W.heap.size) (hb : Below W.heap.size W W') : PartAt W' b o p ha hc :=
  ⟨(hb.cell (p := ⟨b, _, none⟩) l).trans h.k, (hb.cell (p := ⟨b, _, none⟩) l).trans h.v, (hb.cell (p := ⟨b, _, none⟩) l).trans h.s, (hb.cell (p := ⟨b, _, none⟩) l).trans h.h, h.by_.below hb⟩
theorem NeedAt.below {b o : Nat} {p : NeedM} (h : NeedAt W b o p) (l : b < W.heap.size) (hb : Below W.heap.size W W') : NeedAt W' b o p :=
  ⟨(hb.cell (p := ⟨b, _, none⟩) l).trans h.o, (hb.cell (p := ⟨b, _, none⟩) l).trans h.f, (hb.cell (p := ⟨b, _, none⟩) l).trans h.t, (hb.cell (p := ⟨b, _, none⟩) l).trans h.k⟩
theorem Ps.below {ps : List PartM} (h : Ps W a n c ps) (hb : Below W.heap.size W W') : Ps W' a n c ps := by
  obtain ⟨h0, h1, h2, h⟩ := h
  refine ⟨h0, h1, h2, ?_⟩
  rcases h with h | ⟨b, o, e, l, h⟩
  · exact .inl h
  · refine .inr ⟨b, o, e, Nat.lt_of_lt_of_le l hb.size, fun i hi => ?_⟩
    obtain ⟨ha, hc, k⟩ := h i hi
    exact ⟨ha, hc, k.below l hb⟩
theorem Ns.below {ns : List NeedM} (h : Ns W a n c ns) (hb : Below W.heap.size W W') : Ns W' a n c ns := by
  obtain ⟨h0, h1, h2, h⟩ := h
  refine ⟨h0, h1, h2, ?_⟩
  rcases h with h | ⟨b, o, e, l, h⟩
  · exact .inl h
  · exact .inr ⟨b, o, e, Nat.lt_of_lt_of_le l hb.size, fun i hi => (h i hi).below l hb⟩
end
/-- The place of a kind among parts. -/
def fnd (ps : List PartM) (kind : Int) : Int := match ps.findIdx? (fun p => p.k == kind) with | some i => (i : Int) | none => -1
theorem fnd_at {ps : List PartM} {kind : Int} {i : Nat} (hi : i < ps.length) (h : (ps.getD i pz).k = kind) (hn : ∀ j, j < i → (ps.getD j pz).k ≠ kind) : fnd ps kind = i := by
  have : ps.findIdx? (fun p => p.k == kind) = some i := by
    rw [List.findIdx?_eq_some_iff_getElem]
    refine ⟨hi, by simpa [List.getD, List.getElem?_eq_getElem hi] using h, fun j hj => ?_⟩
    have := hn j hj
    simpa [List.getD, List.getElem?_eq_getElem (Nat.lt_trans hj hi)] using this
  unfold fnd
  rw [this]
theorem fnd_no {ps : List PartM} {kind : Int} (hn : ∀ j, j < ps.length → (ps.getD j pz).k ≠ kind) : fnd ps kind = -1 := by
  have : ps.findIdx? (fun p => p.k == kind) = none := by
    rw [List.findIdx?_eq_none_iff]
    intro p hp
    obtain ⟨j, hj, rfl⟩ := List.mem_iff_getElem.1 hp
    have := hn j hj
    simpa [List.getD, List.getElem?_eq_getElem hj] using this
  unfold fnd
  rw [this]
theorem spec8find (d n f : Int) (pa : Option Addr) (pn pc : Nat) (ps : List PartM) (na : Option Addr) (nn nc : Nat) (kind : Int) (w : World) (hp : Ps w pa pn pc ps) (hl : pn ≤ 1000000) :
    Calls Try.prog 136 #[.agg #[.int .i64 d, .int .i64 n, .int .i64 f, .slice pa pn pc, .slice na nn nc], .int .i64 kind] w fun e w' => e = .returned (.int .i64 (fnd ps kind)) ∧ Below w.heap.size w w' := by
  obtain ⟨W, hW⟩ : ∃ W, W = w.alloc (.cells #[.int .i64 d, .int .i64 n, .int .i64 f, .slice pa pn pc, .slice na nn nc] 31) := ⟨_, rfl⟩
  have A : Arr W w.heap.size 31 [.int .i64 d, .int .i64 n, .int .i64 f, .slice pa pn pc, .slice na nn nc] := by rw [hW]; exact Arr.new _ _ _
  have B : Below w.heap.size w W := by rw [hW]; exact (Below.refl _ _).alloc (Nat.le_refl _) _
  have c3 := A.cell 3
  simp at c3
  replace hp := hp.below B
  obtain ⟨_, hps, _, hq⟩ := hp
  clear A
  obtain ⟨R, hR⟩ : ∃ R, R = fnd ps kind := ⟨_, rfl⟩
  rw [← hR]
  have HR : Hid _ := hR
  clear hR
  go_enter Try.func136, Try.ntmps136
  go_upto_region 1 with fail
  rw [← hW]
  clear hW
  go_wp2
  go_loop [5] (fun i => ∃ k : Nat, k ≤ pn ∧ i = .int .i64 k ∧ Hid (∀ j, j < k → (ps.getD j pz).k ≠ kind)) (fun i => pn - (intOf i).toNat)
  case atStart => exact ⟨0, by omega, rfl, fun j hj => by omega⟩
  case round =>
    obtain ⟨k, hk, rfl, HN⟩ := hrel
    by_cases hlt : (k : Int) < (pn : Int)
    · rcases hq with hq | ⟨b, o, rfl, hbs, hcell⟩
      · omega
      obtain ⟨ha, hc, P⟩ := hcell k (by omega)
      obtain ⟨x, hx⟩ : ∃ x, x = (ps.getD k pz).k := ⟨_, rfl⟩
      have ck : W.cell? ⟨b, o + k * 4, none⟩ = some (.int .i64 x) := by rw [hx]; exact P.k
      have HX : Hid _ := hx
      clear hcell P hx
      by_cases he : x = kind
      · subst he
        go_wp2
        go_ret
        refine ⟨?_, B⟩
        rw [HR.out, fnd_at (by omega) HX.out.symm HN.out]
        rfl
      · go_wp2
        go_round
        case rel =>
          refine ⟨k + 1, by omega, by go_num, fun j hj => ?_⟩
          by_cases hjk : j = k
          · subst hjk; rw [← HX.out]; exact he
          · exact HN.out j (by omega)
        case measure => simp [intOf]; omega
    · go_wp2
      go_ret
      refine ⟨?_, B⟩
      rw [HR.out, fnd_no (fun j hj => HN.out j (by omega))]
      rfl
end Go.Proofs.Ytgfjbaigmkdbcaa
