/-
  What is proved here: append of a text's bytes behind a row of its own, and where the row lies then.
-/
import Derived.Test.YtgfjbaigmkdbcaaDoorT1
import Derived.Maps.AppendAt
namespace Go.Proofs.YtgfjbaigmkdbcaaDoor
open Go.RowKit
set_option maxRecDepth 100000
set_option maxHeartbeats 4000000
set_option linter.unusedVariables false

theorem app_str_at (w : World) (base : Nat) (ty : TypeId) (v : Value) (n : Nat) (xs : List Int) (hown : w.ownsRow base 5 1 v n (U8 xs)) (s : ByteArray) (hn : n + s.size ≤ 1048576) (hbase : base ≤ w.heap.size) :
    ∃ v' w', (Builtin.append_ #[27, 9] ty #[v, .string s]).run Tryd.prog w = .ok v' w' ∧ w'.ownsRow base 5 1 v' (xs ++ stB s).length (U8 (xs ++ stB s)) ∧ w.grownBy w' v.ownBlock ∧ (∀ k, v'.ownBlock = some k → v.ownBlock = some k ∨ w.heap.size ≤ k) := by
  obtain ⟨i0, hi, hz0, hz1, hz2⟩ := info_parts Tryd.info5
  have hxl : xs.length = n := by have := hown.1; simpa using this
  obtain ⟨v', w', hr, o, g, _⟩ := Lib.run_append_own_string (P := Tryd.prog) w base 27 9 ty 5 i0 Tryd.underlying27 Tryd.underlying9 hi hz0 hz1 hz2 v n (U8 xs) hown s (by unfold maxLen; omega) (by omega) hbase
  refine ⟨v', w', hr, ?_, g, fun k hk => ?_⟩
  · rw [List.length_append, stB_len, hxl]
    rw [stB_cells] at o
    simpa using o
  · rcases hown.2 with ⟨rfl, h0⟩ | ⟨gb, cap, cur, rfl, hbg, hgg, h1, h2, h3, h4⟩
    · have hx : xs = [] := List.eq_nil_of_length_eq_zero (by omega)
      subst hx
      subst h0
      obtain ⟨v2, w2, hr2, o2, _, _⟩ := Lib.run_append_own_string (P := Tryd.prog) w w.heap.size 27 9 ty 5 i0 Tryd.underlying27 Tryd.underlying9 hi hz0 hz1 hz2 (.slice none 0 0) 0 [] (World.ownsRow_nil _ _ _ _) s (by unfold maxLen; omega) (by omega) (Nat.le_refl _)
      have e := hr.symm.trans hr2
      simp only [Result.ok.injEq] at e
      rw [e.1] at hk
      exact .inr (o2.lt k hk).1
    · by_cases hroom : n + s.size ≤ cap
      · have hr2 := Lib.run_append_room_string (P := Tryd.prog) w 27 9 ty 5 i0 Tryd.underlying27 Tryd.underlying9 hi hz1 gb n cap cur hgg s hroom (by omega)
        have e := hr.symm.trans hr2
        simp only [Result.ok.injEq] at e
        rw [e.1] at hk
        exact .inl hk
      · have hr2 := Lib.run_append_grow_string (P := Tryd.prog) w 27 9 ty 5 i0 (.int .u8 0) Tryd.underlying27 Tryd.underlying9 hi hz0 ⟨gb, 0, none⟩ n cap (U8 xs) (by rw [hz1]; simpa using hxl) (hown.cells (g := gb) rfl) s (by omega) (by omega) (by rw [hz2]; exact growslice_fits (by omega) (by omega))
        have e := hr.symm.trans hr2
        simp only [Result.ok.injEq] at e
        rw [e.1] at hk
        cases hk
        exact .inr (Nat.le_refl _)
theorem wpl_append_str {w : World} {ops : Array Oper} {rest : List Oper} {o : Oper} {a : Act} {Q : Exit → Act → World → Prop} (hgd : o.guard = none) (sl x : Operand)
    (ho : o.op = .call { callee := .builtin .append, args := #[sl, x], argTypes := #[27, 9] })
    (base : Nat) (v : Value) (n : Nat) (xs : List Int) (hs : a.eval sl = v) (hown : w.ownsRow base 5 1 v n (U8 xs)) (s : ByteArray) (hx : a.eval x = .string s) (hn : n + s.size ≤ 1048576) (hbase : base ≤ w.heap.size)
    (h : ∀ v' w', w'.ownsRow base 5 1 v' (xs ++ stB s).length (U8 (xs ++ stB s)) → w.grownBy w' v.ownBlock → (∀ k, v'.ownBlock = some k → v.ownBlock = some k ∨ w.heap.size ≤ k) → wpList Tryd.prog ops Q rest (a.put o.dst v') w') :
    wpList Tryd.prog ops Q (o :: rest) a w := by
  refine wpList_plain hgd fun K hK => ?_
  obtain ⟨v', w', hr, h2, h3, h4⟩ := app_str_at w base o.type v n xs hown s hn hbase
  unfold Oper.wp execOp
  simp only [ho, resolve, invoke, builtin, Sem.run_bind, Sem.run_pure, Result.andThen_ok, List.map_toArray, List.map_cons, List.map_nil, hs, hx, hr]
  exact hK _ _ (h v' w' h2 h3 h4)
/-- append of bytes, as it runs, and where the row lies then. -/
theorem run_app_at (w : World) (base : Nat) (ty : TypeId) (v : Value) (n : Nat) (xs : List Int) (hown : w.ownsRow base 5 1 v n (U8 xs)) (ad : Addr) (m c : Nat) (ys : List Int) (hb : Bs w (some ad) m c ys) (hn : n + m ≤ 1048576) (hbase : base ≤ w.heap.size) :
    ∃ v' w', (Builtin.append_ #[27, 27] ty #[v, .slice (some ad) m c]).run Tryd.prog w = .ok v' w' ∧ w'.ownsRow base 5 1 v' (n + m) (U8 (xs ++ ys)) ∧ w.grownBy w' v.ownBlock ∧ (∀ k, v'.ownBlock = some k → v.ownBlock = some k ∨ w.heap.size ≤ k) := by
  obtain ⟨i0, hi, hz0, hz1, hz2⟩ := info_parts Tryd.info5
  obtain ⟨hcap, hl, hc, _, hb⟩ := hb
  obtain ⟨v', w', h1, h2, h3, _, h5⟩ := run_append_own_at (P := Tryd.prog) w base 27 ty 5 i0 (.int .u8 0) 1 1 Tryd.underlying27 hi hz0 hz1 hz2 rfl (by decide) v n (U8 xs) hown ad m c (U8 ys) (by simp [hl]) (by
    intro j u hj
    rcases hb with hb | ⟨b, off, ha, _, hcell⟩
    · have hy : ys = [] := List.eq_nil_of_length_eq_zero (by omega)
      subst hy
      simp at hj
    · obtain rfl := Option.some.inj ha
      have hjl : j < m := by
        have := (List.getElem?_eq_some_iff.1 hj).1
        simpa [hl] using this
      rw [Addr.add_lit, hcell j hjl]
      have e : (U8 ys)[j]? = some (.int .u8 (ys.getD j 0)) := by simp [show j < ys.length by omega]
      rw [e] at hj
      exact hj) (ints_oneCell _ _) (by unfold maxLen; omega) (by omega) hbase
  refine ⟨v', w', h1, by simpa using h2, h3, fun k hk => ?_⟩
  rcases h5 with h5 | h5
  · exact .inl (h5.symm.trans hk)
  · rw [h5] at hk
    cases hk
    exact .inr (Nat.le_refl _)
end Go.Proofs.YtgfjbaigmkdbcaaDoor
