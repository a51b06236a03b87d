/-
  What is proved here: what the program's RecGet answers.
-/
import Derived.Test.YtgfjbaigmkdbcaaC0t
import Derived.Test.YtgfjbaigmkdbcaaC0e
namespace Go.Proofs.Ytgfjbaigmkdbcaa
open Go.RowKit
set_option maxRecDepth 100000
set_option maxHeartbeats 4000000
set_option linter.unusedVariables false

theorem implRecGet (a : Option Addr) (n cap : Nat) (xs : List Int) (w : World) (h : Bs w a n cap xs) (hn : n ≤ 2097152) :
    Calls Try.prog 142 #[.slice a n cap] w fun e w' => e = .returned (goV xs) ∧ Below w.heap.size w w' := by
  obtain ⟨W, hW⟩ : ∃ W, W = w.alloc (.cells #[.int .i64 0, .int .i64 0, .int .i64 0, .int .i64 0] 144) := ⟨_, rfl⟩
  have B0 : Below w.heap.size w W := by rw [hW]; exact (Below.refl _ _).alloc (Nat.le_refl _) _
  have A0 : Arr W w.heap.size 144 [.int .i64 0, .int .i64 0, .int .i64 0, .int .i64 0] := by rw [hW]; exact Arr.new _ _ _
  have hl := h.2.1
  obtain ⟨V, hV⟩ : ∃ V, goV xs = V := ⟨_, rfl⟩
  rw [hV]
  have HV : Hid _ := hV
  clear hV
  by_cases h8 : n = 8
  case neg =>
    have h8' : ((n : Int) != 8) = true := by simp; omega
    have HN : Hid (V = .tuple #[rcV 0 0 0 0, .bool false]) := by
      unfold Hid
      rw [← HV.out, goV_no (fun h => h8 (by rw [← hl]; exact h.1))]
    clear h8
    have d0 := A0.cell 0
    have d1 := A0.cell 1
    have d2 := A0.cell 2
    have d3 := A0.cell 3
    simp at d0 d1 d2 d3
    have fR := A0.frozen
    have lR := A0.lt
    have HK : Hid _ := set4 A0 (.int .i64 0) (.int .i64 0) (.int .i64 0) (.int .i64 0)
    have HB : Hid _ := bel_set4 B0 (Nat.le_refl w.heap.size) (.int .i64 0) (.int .i64 0) (.int .i64 0) (.int .i64 0)
    clear A0 B0
    go_enter Try.func142, Try.ntmps142
    go_upto_region 1 with fail
    rw [← hW]
    clear hW
    go_wp2
    exact bodyPost_ret (results_row_tmp (v := .bool false) (t := 144) (cs := [.int .i64 0, .int .i64 0, .int .i64 0, .int .i64 0]) rfl rfl rfl HK.out Try.underlying144 rfl (by kernel_rfl)) rfl ⟨by rw [HN.out], HB.out⟩
  subst h8
  go_enter Try.func142, Try.ntmps142
  go_upto_region 1 with fail
  rw [← hW]
  clear hW
  have hB := h
  obtain ⟨_, _, hc, hby, h⟩ := h
  rcases h with h | ⟨b, o, rfl, hbs, hcell⟩
  · omega
  obtain ⟨x0, e0⟩ : ∃ x, x = xs.getD 0 0 := ⟨_, rfl⟩
  obtain ⟨x1, e1⟩ : ∃ x, x = xs.getD 1 0 := ⟨_, rfl⟩
  obtain ⟨x2, e2⟩ : ∃ x, x = xs.getD 2 0 := ⟨_, rfl⟩
  obtain ⟨x3, e3⟩ : ∃ x, x = xs.getD 3 0 := ⟨_, rfl⟩
  have hr0 : 0 ≤ x0 ∧ x0 < 256 := by rw [e0]; exact byte_at hby (by omega)
  have hr1 : 0 ≤ x1 ∧ x1 < 256 := by rw [e1]; exact byte_at hby (by omega)
  have hr2 : 0 ≤ x2 ∧ x2 < 256 := by rw [e2]; exact byte_at hby (by omega)
  have hr3 : 0 ≤ x3 ∧ x3 < 256 := by rw [e3]; exact byte_at hby (by omega)
  have d0 : W.cell? ⟨b, o, none⟩ = some (.int .u8 x0) := by rw [e0]; exact (B0.cell (p := ⟨b, o, none⟩) hbs).trans (hcell 0 (by omega))
  have d1 : W.cell? ⟨b, o + 1, none⟩ = some (.int .u8 x1) := by rw [e1]; exact (B0.cell (p := ⟨b, o + 1, none⟩) hbs).trans (hcell 1 (by omega))
  have d2 : W.cell? ⟨b, o + 2, none⟩ = some (.int .u8 x2) := by rw [e2]; exact (B0.cell (p := ⟨b, o + 2, none⟩) hbs).trans (hcell 2 (by omega))
  have d3 : W.cell? ⟨b, o + 3, none⟩ = some (.int .u8 x3) := by rw [e3]; exact (B0.cell (p := ⟨b, o + 3, none⟩) hbs).trans (hcell 3 (by omega))
  have E : Hid (gK xs = x0 / 2 ∧ gB xs = x0 % 2 ∧ gN xs = x1 + 256 * (x3 % 16) ∧ gF xs = x2 + 256 * (x3 / 16)) := by unfold Hid gK gB gN gF; rw [← e0, ← e1, ← e2, ← e3]; exact ⟨rfl, rfl, rfl, rfl⟩
  have q1 : x0.tdiv 2 = x0 / 2 := Int.tdiv_eq_ediv_of_nonneg (by omega)
  have q2 : x0.tmod 2 = x0 % 2 := Int.tmod_eq_emod_of_nonneg (by omega)
  have q3 : x3.tdiv 16 = x3 / 16 := Int.tdiv_eq_ediv_of_nonneg (by omega)
  have q4 : x3.tmod 16 = x3 % 16 := Int.tmod_eq_emod_of_nonneg (by omega)
  have u0 : IntKind.i64.wrap x0 = x0 := wr64 (by omega) (by omega)
  have u3 : IntKind.i64.wrap x3 = x3 := wr64 (by omega) (by omega)
  clear e0 e1 e2 e3 hcell
  go_wp2
  go_quiet (fail)
  have hq := bel_drewN W nq
  replace A0 := A0.kept hq
  replace d1 := (hq.cell (p := ⟨b, o + 1, none⟩) (Nat.lt_of_lt_of_le hbs B0.size)).trans d1
  replace d2 := (hq.cell (p := ⟨b, o + 2, none⟩) (Nat.lt_of_lt_of_le hbs B0.size)).trans d2
  have hbs2 : b < (W.drewN nq).heap.size := Nat.lt_of_lt_of_le hbs (Nat.le_trans B0.size hq.size)
  replace B0 := B0.trans (hq.mono B0.size)
  generalize W.drewN nq = W2 at A0 B0 d1 d2 hbs2 ⊢
  clear d0 d3 hq u0 u3
  go_wp2
  try simp only [Act.put]
  refine tame [kc 19 (.int .i64 x0), kc 20 (.int .i64 (x0 / 2)), kc 21 (.int .i64 x0), kc 22 (.int .i64 (x0 % 2)), kc 23 (.slice (some ⟨b, o, none⟩) 8 cap), kc 24 (.pointer (some ⟨b, o + 1, none⟩)), kc 25 (.int .u8 x1), kc 26 (.int .i64 x1), kc 27 (.int .i64 x3), kc 28 (.int .i64 (x3 % 16)), kc 29 (.int .i64 (256 * (x3 % 16))), kc 30 (.int .i64 (x1 + 256 * (x3 % 16))), kc 31 (.slice (some ⟨b, o, none⟩) 8 cap), kc 32 (.pointer (some ⟨b, o + 2, none⟩)), kc 33 (.int .u8 x2), kc 34 (.int .i64 x2), kc 35 (.int .i64 x3), kc 36 (.int .i64 (x3 / 16)), kc 37 (.int .i64 (256 * (x3 / 16))), kc 38 (.int .i64 (x2 + 256 * (x3 / 16))), kc 39 (.agg #[.int .i64 (x0 / 2), .int .i64 (x0 % 2), .int .i64 (x1 + 256 * (x3 % 16)), .int .i64 (x2 + 256 * (x3 / 16))]), ka 6 144 [.int .i64 0, .int .i64 0, .int .i64 0, .int .i64 0]] 22 (by kernel_rfl) (by kernel_rfl) (by kernel_rfl) (by repeat' first | exact trivial | apply kc_keeps | apply ka_keeps | constructor) 1 (by kernel_rfl) (fun vv ll hh yW bW => ?_) (fun vv ll hh yW bW F ivh aph => ?_)
  · have k1 := (bW.cell (p := ⟨b, o + 1, none⟩) hbs2).trans d1
    have k2 := (bW.cell (p := ⟨b, o + 2, none⟩) hbs2).trans d2
    refine ⟨tp (by kernel_rfl), tp ?_, tp (by kernel_rfl), tp ?_, tp (by kernel_rfl), tp ?_, tp ?_, tp ?_, tp (by kernel_rfl), tp ?_, tp ?_, tp ?_, tp (by kernel_rfl), tp ?_, tp ?_, tp ?_, tp (by kernel_rfl), tp ?_, tp ?_, tp ?_, tp (by kernel_rfl), ta (by kernel_rfl), trivial⟩
    all_goals
      simp only [fillK, putT, List.setIfInBounds_toArray, List.set_cons_zero, List.set_cons_succ]
      unfold execOp
      try go_simp
      all_goals first
        | (refine wr8 ?_ ?_ <;> omega)
        | (refine wr64 ?_ ?_ <;> omega)
  have f1 : Arr yW (ll 21) 144 [.int .i64 0, .int .i64 0, .int .i64 0, .int .i64 0] ∧ ll 21 < hh 21 := F.2.2.2.2.2.2.2.2.2.2.2.2.2.2.2.2.2.2.2.2.2.1
  have s1 := ivh 21 (by omega)
  clear F ivh aph
  obtain ⟨y, hy⟩ : ∃ z, z = yW := ⟨_, rfl⟩
  rw [← hy] at bW f1 s1 ⊢
  clear hy
  obtain ⟨K1, _⟩ := f1
  refine st_row (i := 22) (by kernel_rfl) rfl rfl rfl rfl (cells := [.int .i64 (x0 / 2), .int .i64 (x0 % 2), .int .i64 (x1 + 256 * (x3 % 16)), .int .i64 (x2 + 256 * (x3 / 16))]) K1 (by kernel_rfl) (by kernel_rfl) rfl (by kernel_rfl) (by intro v hv; simp at hv; rcases hv with rfl | rfl | rfl | rfl <;> rfl) ?_
  refine wpAny_done (by kernel_rfl) ?_ _
  have K2 : Arr (y.setCells (ll 21) 0 [.int .i64 (x0 / 2), .int .i64 (x0 % 2), .int .i64 (x1 + 256 * (x3 % 16)), .int .i64 (x2 + 256 * (x3 / 16))]) (ll 21) 144 [.int .i64 (x0 / 2), .int .i64 (x0 % 2), .int .i64 (x1 + 256 * (x3 % 16)), .int .i64 (x2 + 256 * (x3 / 16))] := (((K1.set 0 _).set 1 _).set 2 _).set 3 _
  generalize hg : ll 21 = g at K1 K2 s1 ⊢
  simp only [fillK, putT, List.setIfInBounds_toArray, List.set_cons_zero, List.set_cons_succ]
  clear d1 d2 q1 q2 q3 q4
  have hPg : w.heap.size ≠ g := by have := A0.lt; omega
  have A3 : Arr (y.setCells g 0 [.int .i64 (x0 / 2), .int .i64 (x0 % 2), .int .i64 (x1 + 256 * (x3 % 16)), .int .i64 (x2 + 256 * (x3 / 16))]) w.heap.size 144 [.int .i64 0, .int .i64 0, .int .i64 0, .int .i64 0] := by
    have := (((((A0.kept bW).other ⟨g, 0, none⟩ (.int .i64 (x0 / 2)) hPg).other ⟨g, 1, none⟩ (.int .i64 (x0 % 2)) hPg).other ⟨g, 2, none⟩ (.int .i64 (x1 + 256 * (x3 % 16))) hPg).other ⟨g, 3, none⟩ (.int .i64 (x2 + 256 * (x3 / 16))) hPg)
    exact this
  have B2 : Below w.heap.size w (y.setCells g 0 [.int .i64 (x0 / 2), .int .i64 (x0 % 2), .int .i64 (x1 + 256 * (x3 % 16)), .int .i64 (x2 + 256 * (x3 / 16))]) := bel_set4 (B0.trans (bW.mono B0.size)) (show w.heap.size ≤ g by have := B0.size; omega) _ _ _ _
  generalize y.setCells g 0 [.int .i64 (x0 / 2), .int .i64 (x0 % 2), .int .i64 (x1 + 256 * (x3 % 16)), .int .i64 (x2 + 256 * (x3 / 16))] = Y at K2 A3 B2 ⊢
  clear s1 bW K1 A0 B0
  obtain ⟨k, hk⟩ : ∃ k, k = x0 / 2 := ⟨_, rfl⟩
  obtain ⟨bb, hbb⟩ : ∃ k, k = x0 % 2 := ⟨_, rfl⟩
  obtain ⟨nn, hnn⟩ : ∃ k, k = x1 + 256 * (x3 % 16) := ⟨_, rfl⟩
  obtain ⟨ff, hff⟩ : ∃ k, k = x2 + 256 * (x3 / 16) := ⟨_, rfl⟩
  rw [← hk, ← hbb, ← hnn, ← hff] at K2 E
  rw [← hk, ← hbb, ← hnn, ← hff]
  clear hk hbb hnn hff hr0 hr1 hr2 hr3
  have c0 := K2.cell 0
  have c1 := K2.cell 1
  have c2 := K2.cell 2
  have c3 := K2.cell 3
  simp at c0 c1 c2 c3
  go_wp2_with fail
  refine (implRecPut k bb nn ff _).mono ?_
  rintro e w5 ⟨v5, rfl, ho5, hb5⟩
  replace K2 := K2.kept hb5
  replace A3 := A3.kept hb5
  replace B2 := B2.trans (hb5.mono B2.size)
  have hB5 := hB.below B2
  clear hb5 c0 c1 c2 c3
  obtain ⟨m5, hm5⟩ : ∃ m, m = (if rcOk k bb nn ff then 8 else 0) := ⟨_, rfl⟩
  obtain ⟨l5, hl5⟩ : ∃ m, m = (if rcOk k bb nn ff then rcB k bb nn ff else []) := ⟨_, rfl⟩
  rw [← hm5, ← hl5] at ho5
  have hby5 : ∀ x ∈ l5, 0 ≤ x ∧ x < 256 := by
    rw [hl5]
    split
    · exact rcB_byte _ _ _ _
    · intro x hx; cases hx
  obtain ⟨a5, c5, rfl, _, hbs5⟩ := Bs.own ho5 hby5
  have ha5 := own_addr ho5
  have iff5 : Hid (l5 = xs ↔ gOk xs) := by
    unfold Hid
    obtain ⟨E1, E2, E3, E4⟩ := E.out
    rw [gOk_iff hby hl, E1, E2, E3, E4, hl5]
    by_cases hh : rcOk k bb nn ff
    · rw [if_pos hh]
      exact ⟨fun q => ⟨hh, q⟩, fun q => q.2⟩
    · rw [if_neg hh]
      exact ⟨fun q => by rw [← q] at hl; simp at hl, fun q => absurd q.1 hh⟩
  clear ho5 hm5 hl5 hby5
  have c0 := K2.cell 0
  have c1 := K2.cell 1
  have c2 := K2.cell 2
  have c3 := K2.cell 3
  simp at c0 c1 c2 c3
  go_wp2_with fail
  refine (equalB' a5 m5 c5 b o 8 cap l5 xs _ hbs5 ha5 hB5).mono ?_
  rintro e w6 ⟨rfl, hw6⟩
  rw [hw6]
  clear hw6 hbs5 hB5 ha5 c0 c1 c2 c3
  by_cases hok : l5 = xs
  · rw [decide_eq_true hok]
    have c0 := K2.cell 0
    have c1 := K2.cell 1
    have c2 := K2.cell 2
    have c3 := K2.cell 3
    simp at c0 c1 c2 c3
    have d0 := A3.cell 0
    have d1 := A3.cell 1
    have d2 := A3.cell 2
    have d3 := A3.cell 3
    simp at d0 d1 d2 d3
    have fR := A3.frozen
    have lR := A3.lt
    have HK : Hid _ := set4 A3 (.int .i64 k) (.int .i64 bb) (.int .i64 nn) (.int .i64 ff)
    have HB : Hid _ := bel_set4 B2 (Nat.le_refl w.heap.size) (.int .i64 k) (.int .i64 bb) (.int .i64 nn) (.int .i64 ff)
    have HN : Hid (V = .tuple #[rcV k bb nn ff, .bool true]) := by
      unfold Hid
      obtain ⟨E1, E2, E3, E4⟩ := E.out
      rw [← HV.out, goV_yes (iff5.out.1 hok), E1, E2, E3, E4]
    clear K2 A3 hok
    go_wp2
    exact bodyPost_ret (results_row_tmp (v := .bool true) (t := 144) (cs := [.int .i64 k, .int .i64 bb, .int .i64 nn, .int .i64 ff]) rfl rfl rfl HK.out Try.underlying144 rfl (by kernel_rfl)) rfl ⟨by rw [HN.out], HB.out⟩
  · rw [decide_eq_false hok]
    have d0 := A3.cell 0
    have d1 := A3.cell 1
    have d2 := A3.cell 2
    have d3 := A3.cell 3
    simp at d0 d1 d2 d3
    have fR := A3.frozen
    have lR := A3.lt
    have HK : Hid _ := set4 A3 (.int .i64 0) (.int .i64 0) (.int .i64 0) (.int .i64 0)
    have HB : Hid _ := bel_set4 B2 (Nat.le_refl w.heap.size) (.int .i64 0) (.int .i64 0) (.int .i64 0) (.int .i64 0)
    have HN : Hid (V = .tuple #[rcV 0 0 0 0, .bool false]) := by
      unfold Hid
      rw [← HV.out, goV_no (fun h => hok (iff5.out.2 h))]
    clear K2 A3 hok
    go_wp2
    exact bodyPost_ret (results_row_tmp (v := .bool false) (t := 144) (cs := [.int .i64 0, .int .i64 0, .int .i64 0, .int .i64 0]) rfl rfl rfl HK.out Try.underlying144 rfl (by kernel_rfl)) rfl ⟨by rw [HN.out], HB.out⟩
end Go.Proofs.Ytgfjbaigmkdbcaa
