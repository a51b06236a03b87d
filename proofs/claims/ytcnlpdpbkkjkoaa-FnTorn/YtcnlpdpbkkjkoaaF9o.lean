/-
  What is proved here: a copy of a flash is memory of its own: the specification's l9own, the program's cloneFlash (bytes.Clone, slices.Clone); for flashes that are not empty.
-/
import Derived.Test.YtcnlpdpbkkjkoaaF9t
import Derived.Test.YtcnlpdpbkkjkoaaCtc
import Derived.Test.YtcnlpdpbkkjkoaaAppI
import Derived.Laws.Append
namespace Go.Proofs.Ytcnlpdpbkkjkoaa
set_option maxRecDepth 100000
set_option maxHeartbeats 4000000
open Go.RowKit

theorem cloneInts (a : Option Addr) (n c : Nat) (xs : List Int) (w : World) (h : Is w a n c xs) (hn : n ≤ 2098176) :
    Calls Try.prog 90 #[.slice a n c] w fun e w' => ∃ v, e = .returned v ∧ w'.ownsRow w.heap.size 3 1 v n (I64 xs) ∧ Below w.heap.size w w' := by
  have q22 : ∀ (w : World) (a : Option Addr) (n c n' c' : Nat), (binOp .eql 23 (.slice a n c) (.slice none n' c')).run Try.prog w = .ok (.bool a.isNone) w := fun w a n c n' c' => Lib.run_eql_slice_nil w _ _ a n c n' c' Try.underlying23
  cases a with
  | none =>
    obtain ⟨h0, hl, hc, _, _⟩ := h
    have hc0 := h0 rfl
    have hn0 : n = 0 := by omega
    subst hn0
    have hx : xs = [] := List.eq_nil_of_length_eq_zero hl
    subst hx
    go_enter Try.func90, Try.ntmps90
    go_wp2
    go_ret
    exact ⟨_, rfl, World.ownsRow_nil _ _ _ _, Below.refl _ _⟩
  | some ad =>
    have hB : Is (w.alloc (Obj.cells #[] 3)) (some ad) n c xs := h.below ((Below.refl _ _).alloc (Nat.le_refl _) _)
    clear h
    go_enter Try.func90, Try.ntmps90
    go_wp2_with (at_builtin; refine wpl_append_is rfl _ _ rfl w.heap.size _ 0 [] rfl (some ad) n c xs rfl ?_ hB ?_ ?_ ?_)
    · exact World.ownsRow_made w #[] 0 (Nat.le_refl _) (by unfold maxLen; omega) rfl
    · omega
    · simp
    intro v1 w1 hown1 hgrow1 _
    have hbel1 : Below w.heap.size w w1 := ((Below.refl _ _).alloc (Nat.le_refl _) _).grown hgrow1 (by simp) (by intro k hk; simp [Value.ownBlock] at hk; omega)
    clear hgrow1 hB
    go_wp2
    go_ret
    exact ⟨_, rfl, hown1, hbel1⟩

/-- A new row, within an interval of blocks. -/
def Rn (e n : Nat) (l : List Value) (lo hi : Nat) (w : World) (v : Value) : Prop := w.ownsRow lo e 1 v n l ∧ In v lo hi
theorem rn_keeps (d e n : Nat) (l : List Value) : Kd.keeps (kv d (Rn e n l)) := fun _ _ _ _ _ h hz b => ⟨own_chg h.1 h.2 (.of_below b _) (.inl (by exact hz)), h.2⟩
/-- A slice literal without elements. -/
abbrev ks0 (d : Nat) (t : TypeId) : Kd := (some d, (fun l _ => .slice (some ⟨l, 0, none⟩) 0 0), fun l h w _ => Arr w l t [] ∧ l < h)
theorem ks0_keeps (d : Nat) (t : TypeId) : Kd.keeps (ks0 d t) := fun _ _ _ _ _ h _ b => ⟨h.1.kept b, h.2⟩
section
variable {P : Program} {ev : Operand → Value} {o : Oper} {d : Nat} {w : World} {X : Prop}
theorem t0 {t : TypeId} (h : (execOp ev o).run P w = .ok (.value (.slice (some ⟨w.heap.size, 0, none⟩) 0 0)) (w.alloc (.cells #[] t))) : Dty X (TOb P ev o (ks0 d t) w) := ⟨fun _ => by
  refine ⟨?_⟩
  unfold TObR
  rw [h]
  exact ⟨undef, rfl, (Below.refl _ _).alloc (Nat.le_refl _) _, Arr.new w [] t, by simp⟩⟩
theorem tv {e n : Nat} {l : List Value} {v : Value} {w' : World} (h : (execOp ev o).run P w = .ok (.value v) w') (hb : Below w.heap.size w w') (ho : w'.ownsRow w.heap.size e 1 v n l) : Dty X (TOb P ev o (kv d (Rn e n l)) w) := ⟨fun _ => by
  refine ⟨?_⟩
  unfold TObR
  rw [h]
  exact ⟨v, rfl, hb, ho, In.of ho⟩⟩
theorem tcn {e n : Nat} {l : List Value} {f : FuncId} {args : Array Value} (hc : Calls P f args w fun e' w' => ∃ v, e' = .returned v ∧ w'.ownsRow w.heap.size e 1 v n l ∧ Below w.heap.size w w') (h : (execOp ev o).run P w = .ok (.enter f args) w) : Dty X (TOb P ev o (kv d (Rn e n l)) w) :=
  tr (fun _ => hc.mono (by rintro e' w' ⟨v, rfl, ho, hb⟩; exact ⟨v, rfl, v, rfl, hb, ho, In.of ho⟩)) h
end
/-- append([]byte{}, x...) -/
theorem run_app_bytes (w : World) (l0 : Nat) (ty : TypeId) (b o n c : Nat) (xs : List Int) (h : Bs w (some ⟨b, o, none⟩) n c xs) (h0 : 0 < n) (hn : n ≤ 2097152) :
    ∃ G w', (Builtin.append_ #[22, 22] ty #[.slice (some ⟨l0, 0, none⟩) 0 0, .slice (some ⟨b, o, none⟩) n c]).run Try.prog w = .ok (.slice (some ⟨w.heap.size, 0, none⟩) n G) w' ∧ w'.ownsRow w.heap.size 5 1 (.slice (some ⟨w.heap.size, 0, none⟩) n G) n (U8 xs) ∧ Below w.heap.size w w' := by
  obtain ⟨i0, hi, hz0, hz1, hz2⟩ := info_parts Try.info5
  obtain ⟨_, hl, _, _, h⟩ := h
  rcases h with h | ⟨b', o', e, hb, hc⟩
  · omega
  cases e
  have hr := run_append_grow (P := Try.prog) w 22 ty 5 i0 (.int .u8 0) Try.underlying22 hi hz0 ⟨l0, 0, none⟩ 0 0 [] (by simp) (fun j v hj => by simp at hj) ⟨b, o, none⟩ n c (U8 xs) (by rw [hz1]; simp [hl])
    (fun j u hj => by
      have hjl : j < n := by
        have := (List.getElem?_eq_some_iff.1 hj).1
        simpa [hl] using this
      rw [Addr.add_lit, hc j hjl]
      have e : (U8 xs)[j]? = some (.int .u8 (xs.getD j 0)) := by simp [show j < xs.length by omega]
      rw [e] at hj
      exact hj) (by omega) (by omega) (by rw [hz2]; exact growslice_fits (by omega) (by omega))
  simp only [Nat.zero_add] at hr
  have hG1 : n ≤ grownCap w n 0 5 := grownCap_ge w _ _ _
  have hG2 : grownCap w n 0 5 ≤ maxLen := grownCap_le_maxLen w n 0 5 (by unfold maxLen; omega)
  refine ⟨_, _, hr, ?_, ((Below.refl _ _).drew.alloc (Nat.le_refl _) _)⟩
  refine ⟨by simp [hl], .inr ⟨w.heap.size, _, _, rfl, Nat.le_refl _, heap_alloc_new w.drew _, hG1, hG2, ?_, ?_⟩⟩
  · simp [size_zeroCells, Value.cells, hl]; omega
  · simp [hl]
/-- append([]int{}, x...) -/
theorem run_app_ints (w : World) (l0 : Nat) (ty : TypeId) (b o n c : Nat) (xs : List Int) (h : Is w (some ⟨b, o, none⟩) n c xs) (h0 : 0 < n) (hn : n ≤ 2097152) :
    ∃ G w', (Builtin.append_ #[23, 23] ty #[.slice (some ⟨l0, 0, none⟩) 0 0, .slice (some ⟨b, o, none⟩) n c]).run Try.prog w = .ok (.slice (some ⟨w.heap.size, 0, none⟩) n G) w' ∧ w'.ownsRow w.heap.size 3 1 (.slice (some ⟨w.heap.size, 0, none⟩) n G) n (I64 xs) ∧ Below w.heap.size w w' := by
  obtain ⟨i0, hi, hz0, hz1, hz2⟩ := info_parts Try.info3
  obtain ⟨_, hl, _, _, h⟩ := h
  rcases h with h | ⟨b', o', e, hb, hc⟩
  · omega
  cases e
  have hr := run_append_grow (P := Try.prog) w 23 ty 3 i0 (.int .i64 0) Try.underlying23 hi hz0 ⟨l0, 0, none⟩ 0 0 [] (by simp) (fun j v hj => by simp at hj) ⟨b, o, none⟩ n c (I64 xs) (by rw [hz1]; simp [hl])
    (fun j u hj => by
      have hjl : j < n := by
        have := (List.getElem?_eq_some_iff.1 hj).1
        simpa [hl] using this
      rw [Addr.add_lit, hc j hjl]
      have e : (I64 xs)[j]? = some (.int .i64 (xs.getD j 0)) := by simp [show j < xs.length by omega]
      rw [e] at hj
      exact hj) (by omega) (by omega) (by rw [hz2]; exact growslice_fits (by omega) (by omega))
  simp only [Nat.zero_add] at hr
  have hG1 : n ≤ grownCap w n 0 3 := grownCap_ge w _ _ _
  have hG2 : grownCap w n 0 3 ≤ maxLen := grownCap_le_maxLen w n 0 3 (by unfold maxLen; omega)
  refine ⟨_, _, hr, ?_, ((Below.refl _ _).drew.alloc (Nat.le_refl _) _)⟩
  refine ⟨by simp [hl], .inr ⟨w.heap.size, _, _, rfl, Nat.le_refl _, heap_alloc_new w.drew _, hG1, hG2, ?_, ?_⟩⟩
  · simp [size_zeroCells, Value.cells, hl]; omega
  · simp [hl]
theorem own_otherS {w : World} {b e s n : Nat} {v : Value} {xs : List Value} (h : w.ownsRow b e s v n xs) (p : Addr) (u : Value) (hp : v.ownBlock ≠ some p.block) : (w.setCell p u).ownsRow b e s v n xs := by
  refine ⟨h.1, ?_⟩
  rcases h.2 with hn | ⟨g, cap, cur, rfl, hg, hgg, rest⟩
  · exact .inl hn
  · refine .inr ⟨g, cap, cur, rfl, hg, ?_, rest⟩
    rw [heap_setCell_other w p g u (fun e => hp (by rw [← e]; rfl))]
    exact hgg

theorem row_shape {w : World} {lo e n : Nat} {v : Value} {l : List Value} (h : w.ownsRow lo e 1 v n l) (h0 : 0 < n) : ∃ g c, v = .slice (some ⟨g, 0, none⟩) n c := by
  rcases h.2 with ⟨_, hn⟩ | ⟨g, cap, cur, rfl, _⟩
  · omega
  · exact ⟨g, cap, rfl⟩

theorem ownIt_s (aB : Option Addr) (nB cB : Nat) (aW : Option Addr) (nW cW : Nat) (bs ws : List Int) (w : World) (hB : Bs w aB nB cB bs) (hW : Is w aW nW cW ws) (hn : nB ≤ 2097152) (hm : nW ≤ 2097152) (p0 : 0 < nB) (p1 : 0 < nW) :
    Calls Try.prog 81 #[flV aB nB cB aW nW cW] w fun e w' => ∃ g c g' c', e = .returned (flV (some ⟨g, 0, none⟩) nB c (some ⟨g', 0, none⟩) nW c') ∧ OwnFl w.heap.size w' (some ⟨g, 0, none⟩) nB c (some ⟨g', 0, none⟩) nW c' bs ws ∧ Below w.heap.size w w' := by
  obtain ⟨W, hV⟩ : ∃ W, W = (w.alloc (.cells #[.slice aB nB cB, .slice aW nW cW] 25)).alloc (.cells #[.slice none 0 0, .slice none 0 0] 25) := ⟨_, rfl⟩
  have B : Below w.heap.size w W := by rw [hV]; exact ((Below.refl _ _).alloc (Nat.le_refl _) _).alloc (by simp) _
  have A0 : Arr W w.heap.size 25 [.slice aB nB cB, .slice aW nW cW] := by rw [hV]; exact (Arr.new w _ _).alloc _
  have A1 : Arr W (w.heap.size + 1) 25 [.slice none 0 0, .slice none 0 0] := by
    rw [hV]
    have := Arr.new (w.alloc (.cells #[.slice aB nB cB, .slice aW nW cW] 25)) [.slice none 0 0, .slice none 0 0] 25
    simpa using this
  have z : w.heap.size + 2 ≤ W.heap.size := by rw [hV]; simp
  have hB1 := hB.below B
  have hW1 := hW.below B
  have c0 := A0.cell 0
  have c1 := A0.cell 1
  simp at c0 c1
  obtain ⟨b, o, rfl⟩ : ∃ b o, aB = some ⟨b, o, none⟩ := by
    rcases hB.2.2.2.2 with h | ⟨b, o, e, _⟩
    · omega
    · exact ⟨b, o, e⟩
  obtain ⟨b', o', rfl⟩ : ∃ b o, aW = some ⟨b, o, none⟩ := by
    rcases hW.2.2.2.2 with h | ⟨b, o, e, _⟩
    · omega
    · exact ⟨b, o, e⟩
  clear hB hW
  go_enter Try.func81, Try.ntmps81
  go_wp2
  rw [← hV]
  clear hV
  try simp only [Act.put]
  refine tame [ks0 3 5, kc 4 (.pointer (some ⟨w.heap.size, 0, none⟩)), kc 5 (.slice (some ⟨b, o, none⟩) nB cB), kv 6 (Rn 5 nB (U8 bs)), ks0 7 3, kc 8 (.pointer (some ⟨w.heap.size, 1, none⟩)), kc 9 (.slice (some ⟨b', o', none⟩) nW cW), kv 10 (Rn 3 nW (I64 ws))] 8 (by kernel_rfl) (by kernel_rfl) (by kernel_rfl) (by repeat' first | exact trivial | apply kc_keeps | apply ks0_keeps | apply rn_keeps | constructor) 2 (by kernel_rfl) (fun vv ll hh yW bW => ?_) (fun vv ll hh yW bW F ivh aph => ?_)
  · have x0 := (bW.cell (p := ⟨w.heap.size, 0, none⟩) A0.lt).trans c0
    have x1 := (bW.cell (p := ⟨w.heap.size, 1, none⟩) A0.lt).trans c1
    obtain ⟨G3, y3, r3, o3, b3⟩ := run_app_bytes yW (ll 0) 22 b o nB cB bs (hB1.below bW) p0 hn
    obtain ⟨G7, y7, r7, o7, b7⟩ := run_app_ints yW (ll 4) 23 b' o' nW cW ws (hW1.below bW) p1 hm
    refine ⟨t0 ?_, tp (by kernel_rfl), tp ?_, tv ?_ b3 o3, t0 ?_, tp (by kernel_rfl), tp ?_, tv ?_ b7 o7, trivial⟩
    · simp only [fillK, putT, List.setIfInBounds_toArray, List.set_cons_zero, List.set_cons_succ]
      unfold execOp
      go_simp
    · simp only [fillK, putT, List.setIfInBounds_toArray, List.set_cons_zero, List.set_cons_succ]
      unfold execOp
      go_simp
    · simp only [fillK, putT, List.setIfInBounds_toArray, List.set_cons_zero, List.set_cons_succ]
      unfold execOp
      simp only [resolve, invoke, builtin, Sem.run_bind, Sem.run_pure, Result.andThen_ok, List.map_toArray, List.map_cons, List.map_nil]
      exact congrArg (fun q => q.andThen fun a w' => Result.ok (Next.value a) w') r3
    · simp only [fillK, putT, List.setIfInBounds_toArray, List.set_cons_zero, List.set_cons_succ]
      unfold execOp
      go_simp
    · simp only [fillK, putT, List.setIfInBounds_toArray, List.set_cons_zero, List.set_cons_succ]
      unfold execOp
      go_simp
    · simp only [fillK, putT, List.setIfInBounds_toArray, List.set_cons_zero, List.set_cons_succ]
      unfold execOp
      simp only [resolve, invoke, builtin, Sem.run_bind, Sem.run_pure, Result.andThen_ok, List.map_toArray, List.map_cons, List.map_nil]
      exact congrArg (fun q => q.andThen fun a w' => Result.ok (Next.value a) w') r7
  have f3 : Rn 5 nB (U8 bs) (ll 3) (hh 3) yW (vv 3) := F.2.2.2.1
  have f7 : Rn 3 nW (I64 ws) (ll 7) (hh 7) yW (vv 7) := F.2.2.2.2.2.2.2.1
  clear F
  have s1 := ivh 3 (by omega)
  have s2 := ivh 7 (by omega)
  have ap := aph 3 7 (by omega) (by omega) (by omega)
  have bs1 := bW.size
  clear ivh aph
  obtain ⟨y, hy⟩ : ∃ z, z = yW := ⟨_, rfl⟩
  rw [← hy] at bW f3 f7 s1 s2 bs1 ⊢
  clear hy
  obtain ⟨g, c, e3⟩ := row_shape f3.1 p0
  obtain ⟨g', c', e7⟩ := row_shape f7.1 p1
  rw [e3] at f3
  rw [e7] at f7
  have O : OwnFl w.heap.size y (some ⟨g, 0, none⟩) nB c (some ⟨g', 0, none⟩) nW c' bs ws := ⟨own_base f3.1 (by omega), own_base f7.1 (by omega), fun q h1 h2 => by
    have q1 := f3.2 q h1
    have q2 := f7.2 q h2
    omega⟩
  have ng : w.heap.size + 2 ≤ g := by have := (f3.2 g rfl).1; omega
  have ng' : w.heap.size + 2 ≤ g' := by have := (f7.2 g' rfl).1; omega
  have B2 := B.trans (bW.mono B.size)
  have K1 := A1.kept bW
  clear f3 f7 ap s1 s2 bs1
  refine st_set (i := 8) (by kernel_rfl) rfl rfl (v := .agg #[.slice (some ⟨g, 0, none⟩) nB c, .slice (some ⟨g', 0, none⟩) nW c']) ?_ ?_
  · simp only [fillK, putT, List.setIfInBounds_toArray, List.set_cons_zero, List.set_cons_succ]
    rw [e3, e7]
    unfold execOp
    go_simp
    try rfl
  refine st_row (i := 9) (by kernel_rfl) rfl rfl rfl rfl (cells := [.slice (some ⟨g, 0, none⟩) nB c, .slice (some ⟨g', 0, none⟩) nW c']) K1 (by kernel_rfl) (by kernel_rfl) rfl (by kernel_rfl) (by intro v hv; simp at hv; rcases hv with rfl | rfl <;> rfl) ?_
  refine wpAny_done (by kernel_rfl) ?_ _
  have K2 : Arr (y.setCells (w.heap.size + 1) 0 [.slice (some ⟨g, 0, none⟩) nB c, .slice (some ⟨g', 0, none⟩) nW c']) (w.heap.size + 1) 25 [.slice (some ⟨g, 0, none⟩) nB c, .slice (some ⟨g', 0, none⟩) nW c'] := (K1.set 0 _).set 1 _
  have B3 : Below w.heap.size w (y.setCells (w.heap.size + 1) 0 [.slice (some ⟨g, 0, none⟩) nB c, .slice (some ⟨g', 0, none⟩) nW c']) := (B2.setCell (by simp) _).setCell (by simp) _
  have O2 : OwnFl w.heap.size (y.setCells (w.heap.size + 1) 0 [.slice (some ⟨g, 0, none⟩) nB c, .slice (some ⟨g', 0, none⟩) nW c']) (some ⟨g, 0, none⟩) nB c (some ⟨g', 0, none⟩) nW c' bs ws :=
    ⟨own_otherS (own_otherS O.ob _ _ (by simp [Value.ownBlock]; omega)) _ _ (by simp [Value.ownBlock]; omega), own_otherS (own_otherS O.ow _ _ (by simp [Value.ownBlock]; omega)) _ _ (by simp [Value.ownBlock]; omega), O.ap⟩
  generalize y.setCells (w.heap.size + 1) 0 [.slice (some ⟨g, 0, none⟩) nB c, .slice (some ⟨g', 0, none⟩) nW c'] = Y at K2 B3 O2 ⊢
  simp only [fillK, putT, List.setIfInBounds_toArray, List.set_cons_zero, List.set_cons_succ]
  go_wp2
  exact bodyPost_ret (results_cell_row rfl _ _ (w.heap.size + 1) 25 _ (0, 0) _ rfl K2 Try.underlying25 rfl (by kernel_rfl)) rfl ⟨g, c, g', c', rfl, O2, B3⟩
theorem ownIt_i (aB : Option Addr) (nB cB : Nat) (aW : Option Addr) (nW cW : Nat) (bs ws : List Int) (w : World) (hB : Bs w aB nB cB bs) (hW : Is w aW nW cW ws) (hn : nB ≤ 2097152) (hm : nW ≤ 2097152) (p0 : 0 < nB) (p1 : 0 < nW) :
    Calls Try.prog 67 #[flV aB nB cB aW nW cW] w fun e w' => ∃ g c g' c', e = .returned (flV (some ⟨g, 0, none⟩) nB c (some ⟨g', 0, none⟩) nW c') ∧ OwnFl w.heap.size w' (some ⟨g, 0, none⟩) nB c (some ⟨g', 0, none⟩) nW c' bs ws ∧ Below w.heap.size w w' := by
  obtain ⟨W, hV⟩ : ∃ W, W = (w.alloc (.cells #[.slice aB nB cB, .slice aW nW cW] 25)).alloc (.cells #[.slice none 0 0, .slice none 0 0] 25) := ⟨_, rfl⟩
  have B : Below w.heap.size w W := by rw [hV]; exact ((Below.refl _ _).alloc (Nat.le_refl _) _).alloc (by simp) _
  have A0 : Arr W w.heap.size 25 [.slice aB nB cB, .slice aW nW cW] := by rw [hV]; exact (Arr.new w _ _).alloc _
  have A1 : Arr W (w.heap.size + 1) 25 [.slice none 0 0, .slice none 0 0] := by
    rw [hV]
    have := Arr.new (w.alloc (.cells #[.slice aB nB cB, .slice aW nW cW] 25)) [.slice none 0 0, .slice none 0 0] 25
    simpa using this
  have z : w.heap.size + 2 ≤ W.heap.size := by rw [hV]; simp
  have hB1 := hB.below B
  have hW1 := hW.below B
  have c0 := A0.cell 0
  have c1 := A0.cell 1
  simp at c0 c1
  obtain ⟨b, o, rfl⟩ : ∃ b o, aB = some ⟨b, o, none⟩ := by
    rcases hB.2.2.2.2 with h | ⟨b, o, e, _⟩
    · omega
    · exact ⟨b, o, e⟩
  obtain ⟨b', o', rfl⟩ : ∃ b o, aW = some ⟨b, o, none⟩ := by
    rcases hW.2.2.2.2 with h | ⟨b, o, e, _⟩
    · omega
    · exact ⟨b, o, e⟩
  clear hB hW
  go_enter Try.func67, Try.ntmps67
  go_wp2
  rw [← hV]
  clear hV
  try simp only [Act.put]
  refine tame [kc 3 (.pointer (some ⟨w.heap.size, 0, none⟩)), kc 4 (.slice (some ⟨b, o, none⟩) nB cB), kv 5 (Rn 5 nB (U8 bs)), kc 6 (.pointer (some ⟨w.heap.size, 1, none⟩)), kc 7 (.slice (some ⟨b', o', none⟩) nW cW), kv 8 (Rn 3 nW (I64 ws))] 6 (by kernel_rfl) (by kernel_rfl) (by kernel_rfl) (by repeat' first | exact trivial | apply kc_keeps | apply ks0_keeps | apply rn_keeps | constructor) 2 (by kernel_rfl) (fun vv ll hh yW bW => ?_) (fun vv ll hh yW bW F ivh aph => ?_)
  · have x0 := (bW.cell (p := ⟨w.heap.size, 0, none⟩) A0.lt).trans c0
    have x1 := (bW.cell (p := ⟨w.heap.size, 1, none⟩) A0.lt).trans c1
    refine ⟨tp (by kernel_rfl), tp ?_, tcn (cloneB _ _ _ _ _ (hB1.below bW) (by omega)) (by kernel_rfl), tp (by kernel_rfl), tp ?_, tcn (cloneInts _ _ _ _ _ (hW1.below bW) (by omega)) (by kernel_rfl), trivial⟩
    all_goals
      simp only [fillK, putT, List.setIfInBounds_toArray, List.set_cons_zero, List.set_cons_succ]
      unfold execOp
      go_simp
  have f3 : Rn 5 nB (U8 bs) (ll 2) (hh 2) yW (vv 2) := F.2.2.1
  have f7 : Rn 3 nW (I64 ws) (ll 5) (hh 5) yW (vv 5) := F.2.2.2.2.2.1
  clear F
  have s1 := ivh 2 (by omega)
  have s2 := ivh 5 (by omega)
  have ap := aph 2 5 (by omega) (by omega) (by omega)
  have bs1 := bW.size
  clear ivh aph
  obtain ⟨y, hy⟩ : ∃ z, z = yW := ⟨_, rfl⟩
  rw [← hy] at bW f3 f7 s1 s2 bs1 ⊢
  clear hy
  obtain ⟨g, c, e3⟩ := row_shape f3.1 p0
  obtain ⟨g', c', e7⟩ := row_shape f7.1 p1
  rw [e3] at f3
  rw [e7] at f7
  have O : OwnFl w.heap.size y (some ⟨g, 0, none⟩) nB c (some ⟨g', 0, none⟩) nW c' bs ws := ⟨own_base f3.1 (by omega), own_base f7.1 (by omega), fun q h1 h2 => by
    have q1 := f3.2 q h1
    have q2 := f7.2 q h2
    omega⟩
  have ng : w.heap.size + 2 ≤ g := by have := (f3.2 g rfl).1; omega
  have ng' : w.heap.size + 2 ≤ g' := by have := (f7.2 g' rfl).1; omega
  have B2 := B.trans (bW.mono B.size)
  have K1 := A1.kept bW
  clear f3 f7 ap s1 s2 bs1
  refine st_set (i := 6) (by kernel_rfl) rfl rfl (v := .agg #[.slice (some ⟨g, 0, none⟩) nB c, .slice (some ⟨g', 0, none⟩) nW c']) ?_ ?_
  · simp only [fillK, putT, List.setIfInBounds_toArray, List.set_cons_zero, List.set_cons_succ]
    rw [e3, e7]
    unfold execOp
    go_simp
    try rfl
  refine st_row (i := 7) (by kernel_rfl) rfl rfl rfl rfl (cells := [.slice (some ⟨g, 0, none⟩) nB c, .slice (some ⟨g', 0, none⟩) nW c']) K1 (by kernel_rfl) (by kernel_rfl) rfl (by kernel_rfl) (by intro v hv; simp at hv; rcases hv with rfl | rfl <;> rfl) ?_
  refine wpAny_done (by kernel_rfl) ?_ _
  have K2 : Arr (y.setCells (w.heap.size + 1) 0 [.slice (some ⟨g, 0, none⟩) nB c, .slice (some ⟨g', 0, none⟩) nW c']) (w.heap.size + 1) 25 [.slice (some ⟨g, 0, none⟩) nB c, .slice (some ⟨g', 0, none⟩) nW c'] := (K1.set 0 _).set 1 _
  have B3 : Below w.heap.size w (y.setCells (w.heap.size + 1) 0 [.slice (some ⟨g, 0, none⟩) nB c, .slice (some ⟨g', 0, none⟩) nW c']) := (B2.setCell (by simp) _).setCell (by simp) _
  have O2 : OwnFl w.heap.size (y.setCells (w.heap.size + 1) 0 [.slice (some ⟨g, 0, none⟩) nB c, .slice (some ⟨g', 0, none⟩) nW c']) (some ⟨g, 0, none⟩) nB c (some ⟨g', 0, none⟩) nW c' bs ws :=
    ⟨own_otherS (own_otherS O.ob _ _ (by simp [Value.ownBlock]; omega)) _ _ (by simp [Value.ownBlock]; omega), own_otherS (own_otherS O.ow _ _ (by simp [Value.ownBlock]; omega)) _ _ (by simp [Value.ownBlock]; omega), O.ap⟩
  generalize y.setCells (w.heap.size + 1) 0 [.slice (some ⟨g, 0, none⟩) nB c, .slice (some ⟨g', 0, none⟩) nW c'] = Y at K2 B3 O2 ⊢
  simp only [fillK, putT, List.setIfInBounds_toArray, List.set_cons_zero, List.set_cons_succ]
  go_wp2
  exact bodyPost_ret (results_cell_row rfl _ _ (w.heap.size + 1) 25 _ (0, 0) _ rfl K2 Try.underlying25 rfl (by kernel_rfl)) rfl ⟨g, c, g', c', rfl, O2, B3⟩
end Go.Proofs.Ytcnlpdpbkkjkoaa
