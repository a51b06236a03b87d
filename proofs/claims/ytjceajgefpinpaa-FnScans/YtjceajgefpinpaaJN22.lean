/-
  What is proved here: what the program's RecGet answers; what the program's recordsIn tells a loop that ranges over it; what the program's recordsIn tells a loop that ranges over it.
-/
import Derived.Test.YtjceajgefpinpaaJN11
import Derived.Test.YtjceajgefpinpaaJN21
namespace Go.Proofs.Ytjceajgefpinpaa
open Go.RowKit
set_option maxRecDepth 100000
set_option maxHeartbeats 4000000
set_option linter.unusedVariables false

theorem implRecGet (a : Option Addr) (n cap : Nat) (xs : List Int) (w : World) (h : Bs w a n cap xs) (hn : n ≤ 2097152) :
    Calls Try.prog 16 #[.slice a n cap] w fun e w' => e = .returned (goV xs) ∧ Below w.heap.size w w' := by
  obtain ⟨W, hW⟩ : ∃ W, W = w.alloc (.cells #[.int .i64 0, .int .i64 0, .int .i64 0, .int .i64 0] 29) := ⟨_, rfl⟩
  have B0 : Below w.heap.size w W := by rw [hW]; exact (Below.refl _ _).alloc (Nat.le_refl _) _
  have A0 : Arr W w.heap.size 29 [.int .i64 0, .int .i64 0, .int .i64 0, .int .i64 0] := by rw [hW]; exact Arr.new _ _ _
  have hl := h.2.1
  obtain ⟨V, hV⟩ : ∃ V, goV xs = V := ⟨_, rfl⟩
  rw [hV]
  have HV : Hid _ := hV
  clear hV
  by_cases h8 : n = 8
  case neg =>
    have h8' : ((n : Int) != 8) = true := by simp; omega
    have HN : Hid (V = .tuple #[rcV 0 0 0 0, .bool false]) := by
      unfold Hid
      rw [← HV.out, goV_no (fun h => h8 (by rw [← hl]; exact h.1))]
    clear h8
    have d0 := A0.cell 0
    have d1 := A0.cell 1
    have d2 := A0.cell 2
    have d3 := A0.cell 3
    simp at d0 d1 d2 d3
    have fR := A0.frozen
    have lR := A0.lt
    have HK : Hid _ := set4 A0 (.int .i64 0) (.int .i64 0) (.int .i64 0) (.int .i64 0)
    have HB : Hid _ := bel_set4 B0 (Nat.le_refl w.heap.size) (.int .i64 0) (.int .i64 0) (.int .i64 0) (.int .i64 0)
    clear A0 B0
    go_enter Try.func16, Try.ntmps16
    go_upto_region 1 with fail
    rw [← hW]
    clear hW
    go_wp2
    exact bodyPost_ret (results_row_tmp (v := .bool false) (t := 29) (cs := [.int .i64 0, .int .i64 0, .int .i64 0, .int .i64 0]) rfl rfl rfl HK.out Try.underlying29 rfl (by kernel_rfl)) rfl ⟨by rw [HN.out], HB.out⟩
  subst h8
  go_enter Try.func16, Try.ntmps16
  go_upto_region 1 with fail
  rw [← hW]
  clear hW
  have hB := h
  obtain ⟨_, _, hc, hby, h⟩ := h
  rcases h with h | ⟨b, o, rfl, hbs, hcell⟩
  · omega
  obtain ⟨x0, e0⟩ : ∃ x, x = xs.getD 0 0 := ⟨_, rfl⟩
  obtain ⟨x1, e1⟩ : ∃ x, x = xs.getD 1 0 := ⟨_, rfl⟩
  obtain ⟨x2, e2⟩ : ∃ x, x = xs.getD 2 0 := ⟨_, rfl⟩
  obtain ⟨x3, e3⟩ : ∃ x, x = xs.getD 3 0 := ⟨_, rfl⟩
  have hr0 : 0 ≤ x0 ∧ x0 < 256 := by rw [e0]; exact byte_at hby (by omega)
  have hr1 : 0 ≤ x1 ∧ x1 < 256 := by rw [e1]; exact byte_at hby (by omega)
  have hr2 : 0 ≤ x2 ∧ x2 < 256 := by rw [e2]; exact byte_at hby (by omega)
  have hr3 : 0 ≤ x3 ∧ x3 < 256 := by rw [e3]; exact byte_at hby (by omega)
  have d0 : W.cell? ⟨b, o, none⟩ = some (.int .u8 x0) := by rw [e0]; exact (B0.cell (p := ⟨b, o, none⟩) hbs).trans (hcell 0 (by omega))
  have d1 : W.cell? ⟨b, o + 1, none⟩ = some (.int .u8 x1) := by rw [e1]; exact (B0.cell (p := ⟨b, o + 1, none⟩) hbs).trans (hcell 1 (by omega))
  have d2 : W.cell? ⟨b, o + 2, none⟩ = some (.int .u8 x2) := by rw [e2]; exact (B0.cell (p := ⟨b, o + 2, none⟩) hbs).trans (hcell 2 (by omega))
  have d3 : W.cell? ⟨b, o + 3, none⟩ = some (.int .u8 x3) := by rw [e3]; exact (B0.cell (p := ⟨b, o + 3, none⟩) hbs).trans (hcell 3 (by omega))
  have E : Hid (gK xs = x0 / 2 ∧ gB xs = x0 % 2 ∧ gN xs = x1 + 256 * (x3 % 16) ∧ gF xs = x2 + 256 * (x3 / 16)) := by unfold Hid gK gB gN gF; rw [← e0, ← e1, ← e2, ← e3]; exact ⟨rfl, rfl, rfl, rfl⟩
  have q1 : x0.tdiv 2 = x0 / 2 := Int.tdiv_eq_ediv_of_nonneg (by omega)
  have q2 : x0.tmod 2 = x0 % 2 := Int.tmod_eq_emod_of_nonneg (by omega)
  have q3 : x3.tdiv 16 = x3 / 16 := Int.tdiv_eq_ediv_of_nonneg (by omega)
  have q4 : x3.tmod 16 = x3 % 16 := Int.tmod_eq_emod_of_nonneg (by omega)
  have u0 : IntKind.i64.wrap x0 = x0 := wr64 (by omega) (by omega)
  have u3 : IntKind.i64.wrap x3 = x3 := wr64 (by omega) (by omega)
  clear e0 e1 e2 e3 hcell
  go_wp2
  go_quiet (fail)
  have hq := bel_drewN W nq
  replace A0 := A0.kept hq
  replace d1 := (hq.cell (p := ⟨b, o + 1, none⟩) (Nat.lt_of_lt_of_le hbs B0.size)).trans d1
  replace d2 := (hq.cell (p := ⟨b, o + 2, none⟩) (Nat.lt_of_lt_of_le hbs B0.size)).trans d2
  have hbs2 : b < (W.drewN nq).heap.size := Nat.lt_of_lt_of_le hbs (Nat.le_trans B0.size hq.size)
  replace B0 := B0.trans (hq.mono B0.size)
  generalize W.drewN nq = W2 at A0 B0 d1 d2 hbs2 ⊢
  clear d0 d3 hq u0 u3
  go_wp2
  try simp only [Act.put]
  refine tame [kc 19 (.int .i64 x0), kc 20 (.int .i64 (x0 / 2)), kc 21 (.int .i64 x0), kc 22 (.int .i64 (x0 % 2)), kc 23 (.slice (some ⟨b, o, none⟩) 8 cap), kc 24 (.pointer (some ⟨b, o + 1, none⟩)), kc 25 (.int .u8 x1), kc 26 (.int .i64 x1), kc 27 (.int .i64 x3), kc 28 (.int .i64 (x3 % 16)), kc 29 (.int .i64 (256 * (x3 % 16))), kc 30 (.int .i64 (x1 + 256 * (x3 % 16))), kc 31 (.slice (some ⟨b, o, none⟩) 8 cap), kc 32 (.pointer (some ⟨b, o + 2, none⟩)), kc 33 (.int .u8 x2), kc 34 (.int .i64 x2), kc 35 (.int .i64 x3), kc 36 (.int .i64 (x3 / 16)), kc 37 (.int .i64 (256 * (x3 / 16))), kc 38 (.int .i64 (x2 + 256 * (x3 / 16))), kc 39 (.agg #[.int .i64 (x0 / 2), .int .i64 (x0 % 2), .int .i64 (x1 + 256 * (x3 % 16)), .int .i64 (x2 + 256 * (x3 / 16))]), ka 6 29 [.int .i64 0, .int .i64 0, .int .i64 0, .int .i64 0]] 22 (by kernel_rfl) (by kernel_rfl) (by kernel_rfl) (by repeat' first | exact trivial | apply kc_keeps | apply ka_keeps | constructor) 1 (by kernel_rfl) (fun vv ll hh yW bW => ?_) (fun vv ll hh yW bW F ivh aph => ?_)
  · have k1 := (bW.cell (p := ⟨b, o + 1, none⟩) hbs2).trans d1
    have k2 := (bW.cell (p := ⟨b, o + 2, none⟩) hbs2).trans d2
    refine ⟨tp (by kernel_rfl), tp ?_, tp (by kernel_rfl), tp ?_, tp (by kernel_rfl), tp ?_, tp ?_, tp ?_, tp (by kernel_rfl), tp ?_, tp ?_, tp ?_, tp (by kernel_rfl), tp ?_, tp ?_, tp ?_, tp (by kernel_rfl), tp ?_, tp ?_, tp ?_, tp (by kernel_rfl), ta (by kernel_rfl), trivial⟩
    all_goals
      simp only [fillK, putT, List.setIfInBounds_toArray, List.set_cons_zero, List.set_cons_succ]
      unfold execOp
      try go_simp
      all_goals first
        | (refine wr8 ?_ ?_ <;> omega)
        | (refine wr64 ?_ ?_ <;> omega)
  have f1 : Arr yW (ll 21) 29 [.int .i64 0, .int .i64 0, .int .i64 0, .int .i64 0] ∧ ll 21 < hh 21 := F.2.2.2.2.2.2.2.2.2.2.2.2.2.2.2.2.2.2.2.2.2.1
  have s1 := ivh 21 (by omega)
  clear F ivh aph
  obtain ⟨y, hy⟩ : ∃ z, z = yW := ⟨_, rfl⟩
  rw [← hy] at bW f1 s1 ⊢
  clear hy
  obtain ⟨K1, _⟩ := f1
  refine st_row (i := 22) (by kernel_rfl) rfl rfl rfl rfl (cells := [.int .i64 (x0 / 2), .int .i64 (x0 % 2), .int .i64 (x1 + 256 * (x3 % 16)), .int .i64 (x2 + 256 * (x3 / 16))]) K1 (by kernel_rfl) (by kernel_rfl) rfl (by kernel_rfl) (by intro v hv; simp at hv; rcases hv with rfl | rfl | rfl | rfl <;> rfl) ?_
  refine wpAny_done (by kernel_rfl) ?_ _
  have K2 : Arr (y.setCells (ll 21) 0 [.int .i64 (x0 / 2), .int .i64 (x0 % 2), .int .i64 (x1 + 256 * (x3 % 16)), .int .i64 (x2 + 256 * (x3 / 16))]) (ll 21) 29 [.int .i64 (x0 / 2), .int .i64 (x0 % 2), .int .i64 (x1 + 256 * (x3 % 16)), .int .i64 (x2 + 256 * (x3 / 16))] := (((K1.set 0 _).set 1 _).set 2 _).set 3 _
  generalize hg : ll 21 = g at K1 K2 s1 ⊢
  simp only [fillK, putT, List.setIfInBounds_toArray, List.set_cons_zero, List.set_cons_succ]
  clear d1 d2 q1 q2 q3 q4
  have hPg : w.heap.size ≠ g := by have := A0.lt; omega
  have A3 : Arr (y.setCells g 0 [.int .i64 (x0 / 2), .int .i64 (x0 % 2), .int .i64 (x1 + 256 * (x3 % 16)), .int .i64 (x2 + 256 * (x3 / 16))]) w.heap.size 29 [.int .i64 0, .int .i64 0, .int .i64 0, .int .i64 0] := by
    have := (((((A0.kept bW).other ⟨g, 0, none⟩ (.int .i64 (x0 / 2)) hPg).other ⟨g, 1, none⟩ (.int .i64 (x0 % 2)) hPg).other ⟨g, 2, none⟩ (.int .i64 (x1 + 256 * (x3 % 16))) hPg).other ⟨g, 3, none⟩ (.int .i64 (x2 + 256 * (x3 / 16))) hPg)
    exact this
  have B2 : Below w.heap.size w (y.setCells g 0 [.int .i64 (x0 / 2), .int .i64 (x0 % 2), .int .i64 (x1 + 256 * (x3 % 16)), .int .i64 (x2 + 256 * (x3 / 16))]) := bel_set4 (B0.trans (bW.mono B0.size)) (show w.heap.size ≤ g by have := B0.size; omega) _ _ _ _
  generalize y.setCells g 0 [.int .i64 (x0 / 2), .int .i64 (x0 % 2), .int .i64 (x1 + 256 * (x3 % 16)), .int .i64 (x2 + 256 * (x3 / 16))] = Y at K2 A3 B2 ⊢
  clear s1 bW K1 A0 B0
  obtain ⟨k, hk⟩ : ∃ k, k = x0 / 2 := ⟨_, rfl⟩
  obtain ⟨bb, hbb⟩ : ∃ k, k = x0 % 2 := ⟨_, rfl⟩
  obtain ⟨nn, hnn⟩ : ∃ k, k = x1 + 256 * (x3 % 16) := ⟨_, rfl⟩
  obtain ⟨ff, hff⟩ : ∃ k, k = x2 + 256 * (x3 / 16) := ⟨_, rfl⟩
  rw [← hk, ← hbb, ← hnn, ← hff] at K2 E
  rw [← hk, ← hbb, ← hnn, ← hff]
  clear hk hbb hnn hff hr0 hr1 hr2 hr3
  have c0 := K2.cell 0
  have c1 := K2.cell 1
  have c2 := K2.cell 2
  have c3 := K2.cell 3
  simp at c0 c1 c2 c3
  go_wp2_with fail
  refine (implRecPut k bb nn ff _).mono ?_
  rintro e w5 ⟨v5, rfl, ho5, hb5⟩
  replace K2 := K2.kept hb5
  replace A3 := A3.kept hb5
  replace B2 := B2.trans (hb5.mono B2.size)
  have hB5 := hB.below B2
  clear hb5 c0 c1 c2 c3
  obtain ⟨m5, hm5⟩ : ∃ m, m = (if rcOk k bb nn ff then 8 else 0) := ⟨_, rfl⟩
  obtain ⟨l5, hl5⟩ : ∃ m, m = (if rcOk k bb nn ff then rcB k bb nn ff else []) := ⟨_, rfl⟩
  rw [← hm5, ← hl5] at ho5
  have hby5 : ∀ x ∈ l5, 0 ≤ x ∧ x < 256 := by
    rw [hl5]
    split
    · exact rcB_byte _ _ _ _
    · intro x hx; cases hx
  obtain ⟨a5, c5, rfl, _, hbs5⟩ := Bs.own ho5 hby5
  have ha5 := own_addr ho5
  have iff5 : Hid (l5 = xs ↔ gOk xs) := by
    unfold Hid
    obtain ⟨E1, E2, E3, E4⟩ := E.out
    rw [gOk_iff hby hl, E1, E2, E3, E4, hl5]
    by_cases hh : rcOk k bb nn ff
    · rw [if_pos hh]
      exact ⟨fun q => ⟨hh, q⟩, fun q => q.2⟩
    · rw [if_neg hh]
      exact ⟨fun q => by rw [← q] at hl; simp at hl, fun q => absurd q.1 hh⟩
  clear ho5 hm5 hl5 hby5
  have c0 := K2.cell 0
  have c1 := K2.cell 1
  have c2 := K2.cell 2
  have c3 := K2.cell 3
  simp at c0 c1 c2 c3
  go_wp2_with fail
  refine (equalB' a5 m5 c5 b o 8 cap l5 xs _ hbs5 ha5 hB5).mono ?_
  rintro e w6 ⟨rfl, hw6⟩
  rw [hw6]
  clear hw6 hbs5 hB5 ha5 c0 c1 c2 c3
  by_cases hok : l5 = xs
  · rw [decide_eq_true hok]
    have c0 := K2.cell 0
    have c1 := K2.cell 1
    have c2 := K2.cell 2
    have c3 := K2.cell 3
    simp at c0 c1 c2 c3
    have d0 := A3.cell 0
    have d1 := A3.cell 1
    have d2 := A3.cell 2
    have d3 := A3.cell 3
    simp at d0 d1 d2 d3
    have fR := A3.frozen
    have lR := A3.lt
    have HK : Hid _ := set4 A3 (.int .i64 k) (.int .i64 bb) (.int .i64 nn) (.int .i64 ff)
    have HB : Hid _ := bel_set4 B2 (Nat.le_refl w.heap.size) (.int .i64 k) (.int .i64 bb) (.int .i64 nn) (.int .i64 ff)
    have HN : Hid (V = .tuple #[rcV k bb nn ff, .bool true]) := by
      unfold Hid
      obtain ⟨E1, E2, E3, E4⟩ := E.out
      rw [← HV.out, goV_yes (iff5.out.1 hok), E1, E2, E3, E4]
    clear K2 A3 hok
    go_wp2
    exact bodyPost_ret (results_row_tmp (v := .bool true) (t := 29) (cs := [.int .i64 k, .int .i64 bb, .int .i64 nn, .int .i64 ff]) rfl rfl rfl HK.out Try.underlying29 rfl (by kernel_rfl)) rfl ⟨by rw [HN.out], HB.out⟩
  · rw [decide_eq_false hok]
    have d0 := A3.cell 0
    have d1 := A3.cell 1
    have d2 := A3.cell 2
    have d3 := A3.cell 3
    simp at d0 d1 d2 d3
    have fR := A3.frozen
    have lR := A3.lt
    have HK : Hid _ := set4 A3 (.int .i64 0) (.int .i64 0) (.int .i64 0) (.int .i64 0)
    have HB : Hid _ := bel_set4 B2 (Nat.le_refl w.heap.size) (.int .i64 0) (.int .i64 0) (.int .i64 0) (.int .i64 0)
    have HN : Hid (V = .tuple #[rcV 0 0 0 0, .bool false]) := by
      unfold Hid
      rw [← HV.out, goV_no (fun h => hok (iff5.out.2 h))]
    clear K2 A3 hok
    go_wp2
    exact bodyPost_ret (results_row_tmp (v := .bool false) (t := 29) (cs := [.int .i64 0, .int .i64 0, .int .i64 0, .int .i64 0]) rfl rfl rfl HK.out Try.underlying29 rfl (by kernel_rfl)) rfl ⟨by rw [HN.out], HB.out⟩
end Go.Proofs.Ytjceajgefpinpaa
namespace Go.Proofs.Ytjceajgefpinpaa
open Go.RowKit Go.Shelf
set_option maxRecDepth 100000
set_option maxHeartbeats 4000000
set_option linter.unusedVariables false
attribute [local go_sem] Oper.semAt_some

/-- What a round keeps: what lay below n₀, blocks of other types than the records', and from B on what is no cells. -/
structure Kp3 (n₀ B : Nat) (W W' : World) : Prop where
  b : Below n₀ W W'
  t : KT W W'
  o : ∀ (g : Nat) (o : Obj), B ≤ g → W.heap[g]? = some o → o.isCells = false → W'.heap[g]? = some o
theorem Kp3.trans {n₀ B : Nat} {X Y Z : World} (h : Kp3 n₀ B X Y) (k : Kp3 n₀ B Y Z) : Kp3 n₀ B X Z := ⟨h.b.trans k.b, h.t.trans k.t, fun g o hb hg hc => k.o g o hb (h.o g o hb hg hc) hc⟩
abbrev eR (r : Rc) : Array Value := #[rcV r.k r.b r.n r.f]
theorem implRecordsIn (a : Option Addr) (n c : Nat) (w : World) :
    Calls Try.prog 50 #[.slice a n c] w fun e w' => e = .returned (.func (.func 72) #[] #[.pointer (some ⟨w.heap.size, 0, none⟩)]) ∧
      Arr w' w.heap.size 22 [.slice a n c] ∧ w'.heap.size = w.heap.size + 1 ∧ Below w.heap.size w w' := by
  obtain ⟨W, hW⟩ : ∃ W, W = w.alloc (.cells #[.slice a n c] 22) := ⟨_, rfl⟩
  have h1 : Arr W w.heap.size 22 [.slice a n c] := by rw [hW]; exact Arr.new w [.slice a n c] _
  have h3 : W.heap.size = w.heap.size + 1 := by rw [hW]; simp
  have hB : Below w.heap.size w W := by rw [hW]; exact (Below.refl _ _).alloc (Nat.le_refl _) _
  go_enter Try.func50, Try.ntmps50
  go_wp2
  rw [← hW]
  go_ret
  exact ⟨rfl, h1, h3, hB⟩
theorem bs_cap {w : World} {a : Option Addr} {n c c' : Nat} {xs : List Int} (h : Bs w a n c xs) (hn : n ≤ c') (ha : a ≠ none) : Bs w a n c' xs := ⟨fun e => absurd e ha, h.2.1, hn, h.2.2.2.1, h.2.2.2.2⟩
theorem scR_mono (xs : List Int) : ∀ (k j : Nat), ∃ t, scR xs (k + j) = scR xs k ++ t
  | k, 0 => ⟨[], by simp⟩
  | k, j + 1 => by
    obtain ⟨t, ht⟩ := scR_mono xs k j
    refine ⟨t ++ (if gOkB (pl xs (k + j)) = true then [goR (pl xs (k + j))] else []), ?_⟩
    show scR xs (k + j) ++ _ = _
    rw [ht, List.append_assoc]
    rfl
theorem scR_at {xs : List Int} {k : Nat} (hk : k < 32) (ho : gOkB (pl xs k) = true) : (scR xs k).length < (scR xs 32).length ∧ rg (scR xs 32) (scR xs k).length = goR (pl xs k) := by
  obtain ⟨t, ht⟩ := scR_mono xs (k + 1) (32 - (k + 1))
  rw [show k + 1 + (32 - (k + 1)) = 32 by omega] at ht
  have e : scR xs (k + 1) = scR xs k ++ [goR (pl xs k)] := by
    show scR xs k ++ _ = _
    rw [if_pos ho]
  rw [ht, e]
  refine ⟨by simp, ?_⟩
  simp [rg]

structure RI (w0 : World) (J : Nat → World → Prop) (xs : List Int) (lp y0 S k : Nat) (A : World) : Prop where
  j : J (scR xs k).length A
  y : Arr A y0 39 [.func (.yield lp) #[] #[]]
  b : Below w0.heap.size w0 A
  z : S ≤ A.heap.size
theorem RI.abd {w0 W : World} {J : Nat → World → Prop} {xs : List Int} {lp y0 S : Nat} (hJ : Abd W.heap.size J) (h1 : W.heap.size ≤ S) (h2 : w0.heap.size ≤ S) (h3 : y0 < S) : Abd S (RI w0 J xs lp y0 S) := fun k A B row h hg hr =>
  ⟨hJ _ A B row h.j hg (fun r e => ⟨Nat.le_trans h1 (hr r e).1, (hr r e).2⟩), (hg.block y0 h.y.lt (fun e => by have := (hr y0 e.symm).1; omega)).trans h.y, h.b.grown hg h.b.size (fun g e => Nat.le_trans h2 (hr g e).1), Nat.le_trans h.z hg.size⟩

end Go.Proofs.Ytjceajgefpinpaa
namespace Go.Proofs.Ytjceajgefpinpaa
open Go.RowKit Go.Shelf
set_option maxRecDepth 100000
set_option maxHeartbeats 4000000
set_option linter.unusedVariables false
attribute [local go_sem] Oper.semAt_some

theorem roundIn_lvl {n m : Nat} {P : Program} {l l' : Nat} {f : FuncId} {tmps : Array Value} {assign body : Code} {w : World} {R : Ending → World → Prop} (h : RoundIn Fence.wide n P l f tmps assign body w R) : RoundIn (Fence.wide.inRound l') m P l f tmps assign body w R :=
  ⟨h.1, fun c cs _ => h.2 c cs (room_wide _)⟩
theorem KT.refl (W : World) : KT W W := ⟨Nat.le_refl _, fun _ _ _ _ hg _ _ => hg⟩
theorem recTells (m B pb b o c : Nat) (xs : List Int) (w0 W : World) (hx : Bs w0 (some ⟨b, o, none⟩) 256 c xs) (hb0 : Below w0.heap.size w0 W) (hB : B ≤ W.heap.size) (hp : Arr W pb 22 [.slice (some ⟨b, o, none⟩) 256 c]) :
    TellsO m Try.prog 72 #[.pointer (some ⟨pb, 0, none⟩)] (fun k => eR (rg (scR xs 32) k)) (scR xs 32).length (Kp3 w0.heap.size B) W := by
  intro lp J hJ hY h0
  have hwide : ∀ q : Nat, Fence.wide.depth.isSome = true → 1 ≤ q := fun q h => by cases h
  refine callsIn_of_wp_marks Try.func72 rfl trivial ?_ rfl
  simp only [Try.ntmps72, List.size_toArray, List.length_cons, List.length_nil, Nat.reduceAdd, Nat.reduceSub, Array.replicate_succ, Array.replicate_zero, List.push_toArray, List.append_toArray, List.nil_append, List.cons_append]
  obtain ⟨W0, hW0⟩ : ∃ W0, W0 = W.alloc (.cells #[.func (.yield lp) #[] #[]] 39) := ⟨_, rfl⟩
  have b1 : Below W.heap.size W W0 := by rw [hW0]; exact (Below.refl _ _).alloc (Nat.le_refl _) _
  have Y0 : Arr W0 W.heap.size 39 [.func (.yield lp) #[] #[]] := by rw [hW0]; exact Arr.new W [.func (.yield lp) #[] #[]] _
  have hp0 := hp.kept b1
  have cp : (W.alloc (.cells #[.func (.yield lp) #[] #[]] 39)).cell? ⟨pb, 0, none⟩ = some (.slice (some ⟨b, o, none⟩) 256 c) := by rw [← hW0]; exact hp0.cell 0
  gi_wp2_with fail
  rw [← hW0]
  clear hW0 cp
  refine ⟨trivial, hwide _, (callsIn_wide.2 (chunkNew b o c W0)).mono ?_⟩
  rintro e w1 ⟨rfl, hp1, hq1, hs1, hb1⟩
  have B1 := (hb0.trans (b1.mono hb0.size)).trans (hb1.mono (Nat.le_trans hb0.size b1.size))
  have Y1 := Y0.kept hb1
  have z0 : W.heap.size < W0.heap.size := Y0.lt
  have hJ1 : J 0 w1 := hJ 0 W w1 none h0 (grown_bel2 (b1.trans (hb1.mono b1.size))) (fun r e => by cases e)
  have hc := hx.2.2.1
  gi_wp2_with fail
  obtain ⟨y0, hy0⟩ : ∃ y0, y0 = W.heap.size := ⟨_, rfl⟩
  have hSy : y0 < w1.heap.size := by rw [hy0]; exact Y1.lt
  have hSw : w0.heap.size ≤ w1.heap.size := B1.size
  have hSB : B ≤ w1.heap.size := by omega
  have hWS : W.heap.size ≤ w1.heap.size := by omega
  rw [← hy0] at Y1 ⊢
  have HI : Abd w1.heap.size (RI w0 J xs lp y0 w1.heap.size) := RI.abd hJ hWS hSw hSy
  have HJ : Hid (Abd W.heap.size J) := hJ
  have HX : Hid (Bs w0 (some ⟨b, o, none⟩) 256 c xs) := hx
  have HY : Hid (∀ k A, k < (scR xs 32).length → J k A → YieldAt Fence.wide (m - 1) Try.prog lp (eR (rg (scR xs 32) k)) A fun e B' => e = .returned (.bool true) ∧ J (k + 1) B' ∧ Kp3 w0.heap.size B A B') := hY
  obtain ⟨p, hp⟩ : ∃ p, p = W0.heap.size := ⟨_, rfl⟩
  rw [← hp] at hp1 hq1 ⊢
  clear hp b1 Y0 hp0 hb1 z0 hJ hY h0 hx hy0
  refine range_tellsO (n := m) (gf := 86) (lb := #[.pointer (some ⟨p, 0, none⟩), .pointer (some ⟨p + 1, 0, none⟩)]) rfl (enters_of Try.func86 (by kernel_rfl) rfl)
    (encs := ePl b o) (N := 32) (Kp := KT) KT.trans (fun V o o' h hc => KT.put o' h hc)
    (fun V hb _ => chunkTells (m - 1) p (p + 1) b o c hc V (hp1.kept hb) (hq1.kept hb)) (fun _ => rfl)
    (RI w0 J xs lp y0 w1.heap.size) HI ⟨hJ1, Y1, B1, Nat.le_refl _⟩
    (fun k a' _ => a' = { tmps := #[.func (.yield lp) #[] #[], .pointer (some ⟨pb, 0, none⟩), .pointer (some ⟨y0, 0, none⟩), .slice (some ⟨b, o + 8 * k, none⟩) 8 8, undef, undef, .slice (some ⟨b, o, none⟩) 256 c, .func (.func 86) #[] #[.pointer (some ⟨p, 0, none⟩), .pointer (some ⟨p + 1, 0, none⟩)], .slice (some ⟨b, o + 8 * k, none⟩) 8 8, undef, undef, undef, undef, undef, undef, undef, undef, undef, undef, undef, undef], defers := [] })
    (fun _ _ _ _ _ _ _ h => h) ?assign ?body ?done
  case assign =>
    rintro l k V R hk hz hi hR
    gi_wp2
    exact hR _ _ (KT.refl _) (Same.refl _ _) hi rfl
  case body =>
    rintro l k a' V hk hz hnc hi rfl
    obtain ⟨hj, hyv, hbv, hzv⟩ := hi
    have hpl := bs_pl (HX.out.below hbv) hk
    gi_wp2_with fail
    refine ⟨trivial, hwide _, CallsIn.inRound l ((callsIn_wide.2 (implRecGet (some ⟨b, o + 8 * k, none⟩) 8 8 (pl xs k) _ (bs_cap hpl (Nat.le_refl _) (by simp)) (by omega))).mono ?_)⟩
    rintro e w2 ⟨rfl, b2⟩
    obtain ⟨r, hr⟩ : ∃ r, r = goR (pl xs k) := ⟨_, rfl⟩
    rw [show goV (pl xs k) = .tuple #[rcV r.k r.b r.n r.f, .bool (gOkB (pl xs k))] by rw [hr]]
    have HRx : Hid _ := hr
    obtain ⟨X, hXX⟩ : ∃ X, X = w2.alloc (.cells #[.int .i64 r.k, .int .i64 r.b, .int .i64 r.n, .int .i64 r.f] 29) := ⟨_, rfl⟩
    have bX : Below V.heap.size V X := b2.trans (by rw [hXX]; exact (Below.refl _ _).alloc b2.size _)
    have hjX : J (scR xs k).length X := HJ.out _ V X none hj (grown_bel2 bX) (fun r e => by cases e)
    have hyX := hyv.kept bX
    have hbX := hbv.trans (bX.mono hbv.size)
    have hzX := Nat.le_trans hzv bX.size
    have HSame : Hid (Same (fun b => b = w1.heap.size ∨ b = w1.heap.size + 1) V X) := ⟨bX.size, fun g _ hg => bX.block g hg⟩
    have HNC : Hid (∀ b, b = w1.heap.size ∨ b = w1.heap.size + 1 → ∃ o : Obj, X.heap[b]? = some o ∧ o.isCells = false) := fun g hg => by
      obtain ⟨o, ho, hc⟩ := hnc g hg
      exact ⟨o, (bX.block g (Array.getElem?_eq_some_iff.1 ho).1).trans ho, hc⟩
    have AX : Arr X w2.heap.size 29 [.int .i64 r.k, .int .i64 r.b, .int .i64 r.n, .int .i64 r.f] := by rw [hXX]; exact Arr.new _ _ _
    have HKX : Hid (KT V X) := KT.of_bel bX
    clear hj hyv hbv hzv hpl b2 bX hr hnc
    cases hG : gOkB (pl xs k) with
    | false =>
      have HE : Hid (scR xs (k + 1) = scR xs k) := by
        show scR xs k ++ _ = _
        rw [hG]
        simp
      have HF : Hid (RI w0 J xs lp y0 w1.heap.size (k + 1) X ∧ KT V X ∧ Same (fun b => b = w1.heap.size ∨ b = w1.heap.size + 1) V X) := ⟨⟨by rw [HE.out]; exact hjX, hyX, hbX, hzX⟩, HKX.out, HSame.out⟩
      clear HE hG hjX hyX hbX AX
      gi_wp2
      rw [← hXX]
      refine ⟨fun _ h => (by cases h), ?_⟩
      gi_wp2
      rw [← hXX]
      exact HF.out
    | true =>
      have hat := scR_at hk hG
      have HE : Hid ((scR xs (k + 1)).length = (scR xs k).length + 1) := by
        unfold Hid
        show (scR xs k ++ _).length = _
        rw [hG]
        simp
      obtain ⟨fn, tmps, assign, body, hyl, hRd⟩ := HY.out (scR xs k).length X hat.1 hjX
      rw [hat.2, ← HRx.out] at hyl
      dsimp only [eR] at hyl
      have cy := hyX.cell 0
      have d0 := AX.cell 0
      have d1 := AX.cell 1
      have d2 := AX.cell 2
      have d3 := AX.cell 3
      simp at cy d0 d1 d2 d3
      rw [hXX] at cy d0 d1 d2 d3 hyl
      clear hat hG
      gi_wp2
      rw [← hXX]
      refine ⟨hwide _, roundIn_lvl (hRd.mono ?_)⟩
      rintro e Z ⟨rfl, hJZ, hKZ⟩
      have HF : Hid (RI w0 J xs lp y0 w1.heap.size (k + 1) Z ∧ KT V Z ∧ Same (fun b => b = w1.heap.size ∨ b = w1.heap.size + 1) V Z) :=
        ⟨⟨by rw [HE.out]; exact hJZ, hyX.kt hKZ.t (by decide) (by decide), hbX.trans hKZ.b, Nat.le_trans hzX hKZ.t.1⟩, HKX.out.trans hKZ.t,
          ⟨Nat.le_trans HSame.out.1 hKZ.t.1, fun g hg hl => by
            obtain ⟨o, ho, hc⟩ := HNC.out g hg
            rw [hKZ.o g o (by rcases hg with rfl | rfl <;> omega) ho hc, ← ho]
            exact HSame.out.2 g hg hl⟩⟩
      clear cy d0 d1 d2 d3 hyl hRd hXX hjX hyX hbX AX HE
      gi_wp2
      exact HF.out
  case done =>
    intro V hi hd
    gi_wp2
    refine ⟨by simp, .inl ⟨_, _, rfl, run_takeDeferred hd, ?_⟩⟩
    exact ⟨_, results_none rfl _ _ _, ⟨_, rfl⟩, HJ.out _ V _ (some w1.heap.size) hi.j (grownBy_putObj' V w1.heap.size _) (fun r e => by cases e; exact ⟨hWS, _, hd, rfl⟩)⟩
end Go.Proofs.Ytjceajgefpinpaa
