/-
  What is proved here: rows of bytes that a conversion made (their mark lies behind their cells): how they are kept, read, written and appended to; the library's internal/strconv.AppendUint, as this program has it, is what the shelf's contracts speak of; append behind a converted row, for the walk; what strconv.AppendInt does behind a converted row, at base 10 and a number from 0 to a million.
-/
import Derived.Test.YtgfjbaigmkdbcaaDoorJB4
import Derived.Lib.ConvBytes
import Derived.Lib.AppendStr
import Derived.Shelf.Strconv.AppendUint10
namespace Go.Proofs.YtgfjbaigmkdbcaaDoor
open Go.RowKit
set_option maxRecDepth 100000
set_option maxHeartbeats 2000000
set_option linter.unusedVariables false

/-- A mark that touches none of the row's cells. -/
abbrev Far (fz : Nat × Nat) (n : Nat) : Prop := fz.2 = 0 ∨ n ≤ fz.1
theorem far_cell {w : World} {g k : Nat} {cur : Array Value} {t : TypeId} {fz : Nat × Nat} (hg : w.heap[g]? = some (.cells cur t fz)) (hf : Far fz cur.size) (hk : k < cur.size) : w.frozen? ⟨g, k, none⟩ = false := by
  obtain ⟨a, b⟩ := fz
  simp only [World.frozen?, hg, Bool.and_eq_false_iff, decide_eq_false_iff_not]
  rcases hf with h | h
  · right; simp only at h; omega
  · left; simp only at h; omega
theorem storeM (P : Program) (g o : Nat) (t : TypeId) (fz : Nat × Nat) : ∀ (vs : List Value) (i : Nat) (cur : Array Value) (w : World), w.heap[g]? = some (.cells cur t fz) → Far fz cur.size → o + i + vs.length ≤ cur.size → (∀ v ∈ vs, v.oneCell' = true) →
    ∃ w' cur', (storeCells ⟨g, o, none⟩ vs i).run P w = .ok () w' ∧ w'.heap[g]? = some (.cells cur' t fz) ∧ cur'.size = cur.size ∧ cur'.toList.take (o + i + vs.length) = cur.toList.take (o + i) ++ vs ∧ w.grownBy w' (some g)
  | [], i, cur, w, hg, _, _, _ => ⟨w, cur, rfl, hg, rfl, by simp, ⟨rfl, rfl, rfl, Nat.le_refl _, fun _ _ _ => rfl⟩⟩
  | v :: rest, i, cur, w, hg, hf, hl, h1 => by
    have hi : o + i < cur.size := by simp at hl; omega
    have ha : (⟨g, o, none⟩ : Addr).add i = ⟨g, o + i, none⟩ := by unfold Addr.add; split <;> simp_all
    have hc : w.cell? ⟨g, o + i, none⟩ = some cur[o + i] := by simp [World.cell?, hg, hi]
    have hst : (store ((⟨g, o, none⟩ : Addr).add i) v).run P w = .ok () (w.setCell ⟨g, o + i, none⟩ v) := by
      rw [ha, run_store P w _ v _ (h1 v (by simp)), hc]
      simp [far_cell hg hf hi]
    obtain ⟨w', cur', hr, hb, hs, ht, gr⟩ := storeM P g o t fz rest (i + 1) (cur.setIfInBounds (o + i) v) (w.setCell ⟨g, o + i, none⟩ v) (by rw [setCell_eq_setRow w g (o + i) cur t fz v hg]; exact setRow_heap w g cur _ t fz hg) (by simpa using hf) (by simp at hl ⊢; omega) (fun x hx => h1 x (by simp [hx]))
    refine ⟨w', cur', ?_, hb, by simpa using hs, ?_, ⟨gr.os, gr.tape, gr.output, by simpa using gr.size, fun k hk hne => ?_⟩⟩
    · simp only [storeCells, Sem.run_bind, hst, Result.andThen_ok, hr]
    · have e : o + i + (v :: rest).length = o + (i + 1) + rest.length := by simp; omega
      rw [e, ht, Array.toList_setIfInBounds, ← Nat.add_assoc, List.take_add_one, List.take_set_of_le (Nat.le_refl _)]
      simp [hi]
    · rw [gr.block k (by simpa using hk) hne, heap_setCell_other w ⟨g, o + i, none⟩ k v (fun h => hne (by rw [h]))]

/-- A row of bytes that a call may write, its mark far off. -/
def ownM (w : World) (base : Nat) (v : Value) (n : Nat) (xs : List Int) : Prop :=
  xs.length = n ∧ ((v = .slice none 0 0 ∧ n = 0) ∨ ∃ g cap cur fz, v = .slice (some ⟨g, 0, none⟩) n cap ∧ base ≤ g ∧ w.heap[g]? = some (.cells cur 5 fz) ∧ Far fz cap ∧ n ≤ cap ∧ cap ≤ maxLen ∧ cur.size = cap ∧ cur.toList.take n = U8 xs)
section
variable {w w' : World} {base n : Nat} {v : Value} {xs : List Int}
theorem ownM.of (h : w.ownsRow base 5 1 v n (U8 xs)) : ownM w base v n xs := by
  refine ⟨by have := h.1; simpa using this, ?_⟩
  rcases h.2 with h | ⟨g, cap, cur, rfl, h1, h2, h3, h4, h5, h6⟩
  · exact .inl h
  · exact .inr ⟨g, cap, cur, (0, 0), rfl, h1, h2, .inl rfl, h3, h4, by simpa using h5, by simpa using h6⟩
theorem ownM.lt (h : ownM w base v n xs) : ∀ k, v.ownBlock = some k → base ≤ k ∧ k < w.heap.size := by
  intro k hk
  rcases h.2 with ⟨rfl, _⟩ | ⟨g, cap, cur, fz, rfl, hb, hg, _⟩
  · simp [Value.ownBlock] at hk
  · simp [Value.ownBlock] at hk
    subst hk
    exact ⟨hb, (Array.getElem?_eq_some_iff.1 hg).1⟩
theorem ownM.kept (h : ownM w base v n xs) (hb : ∀ k, v.ownBlock = some k → w'.heap[k]? = w.heap[k]?) : ownM w' base v n xs := by
  refine ⟨h.1, ?_⟩
  rcases h.2 with hn | ⟨g, cap, cur, fz, rfl, hb', hgg, rest⟩
  · exact .inl hn
  · exact .inr ⟨g, cap, cur, fz, rfl, hb', by rw [hb g rfl]; exact hgg, rest⟩
theorem ownM.below (h : ownM w base v n xs) (hb : Below w.heap.size w w') : ownM w' base v n xs := h.kept (fun k hk => hb.block k (h.lt k hk).2)
theorem ownM.lower {b' : Nat} (h : ownM w base v n xs) (hb : b' ≤ base) : ownM w b' v n xs := by
  refine ⟨h.1, ?_⟩
  rcases h.2 with hn | ⟨g, cap, cur, fz, e, hb', rest⟩
  · exact .inl hn
  · exact .inr ⟨g, cap, cur, fz, e, by omega, rest⟩
theorem ownM.cells {g c : Nat} (h : ownM w base (.slice (some ⟨g, 0, none⟩) n c) n xs) : ∀ j, j < n → w.cell? ⟨g, j, none⟩ = some (.int .u8 (xs.getD j 0)) := by
  intro j hj
  obtain ⟨hl, hn | ⟨g', cap, cur, fz, e, _, hgg, _, _, _, hs, ht⟩⟩ := h
  · cases hn.1
  · simp only [Value.slice.injEq, Option.some.injEq, Addr.mk.injEq] at e
    obtain ⟨⟨rfl, _⟩, _, rfl⟩ := e
    rw [cell_of_row w g j cur 5 fz hgg]
    have : (U8 xs)[j]? = some (.int .u8 (xs.getD j 0)) := by simp [show j < xs.length by omega]
    rw [← ht, List.getElem?_take_of_lt hj] at this
    simpa using this
theorem ownM.bs (h : ownM w base v n xs) (hy : ∀ x ∈ xs, 0 ≤ x ∧ x < 256) : ∃ a c, v = .slice a n c ∧ Bs w a n c xs := by
  have h0 := h
  obtain ⟨hl, ⟨rfl, rfl⟩ | ⟨g, cap, cur, fz, rfl, _, hgg, _, h1, h2, _, _⟩⟩ := h
  · exact ⟨none, 0, rfl, fun _ => rfl, hl, Nat.le_refl _, hy, .inl rfl⟩
  · exact ⟨_, cap, rfl, (fun h => by cases h), hl, h1, hy, .inr ⟨g, 0, rfl, (Array.getElem?_eq_some_iff.1 hgg).1, fun j hj => by simpa using h0.cells j hj⟩⟩
end
/-- append of bytes behind such a row, as it runs. -/
theorem app_bs_M (w : World) (base : Nat) (ty : TypeId) (v : Value) (n : Nat) (xs : List Int) (h : ownM w base v n xs) (ad : Addr) (m c : Nat) (ys : List Int) (hb : Bs w (some ad) m c ys) (hn : n + m ≤ 1048576) (hbase : base ≤ w.heap.size) :
    ∃ v' w', (Builtin.append_ #[27, 27] ty #[v, .slice (some ad) m c]).run Tryd.prog w = .ok v' w' ∧ ownM w' base v' (n + m) (xs ++ ys) ∧ w.grownBy w' v.ownBlock := by
  obtain ⟨i0, hi, hz0, hz1, hz2⟩ := info_parts Tryd.info5
  have hb0 := hb
  obtain ⟨_, hl, hc, _, hbb⟩ := hb
  have hnews : ∀ j u, (U8 ys)[j]? = some u → w.cell? (ad.add j) = some u := by
    intro j u hj
    rcases hbb with hb | ⟨b, off, ha, _, hcell⟩
    · have hy : ys = [] := List.eq_nil_of_length_eq_zero (by omega)
      subst hy
      simp at hj
    · obtain rfl := Option.some.inj ha
      have hjl : j < m := by
        have := (List.getElem?_eq_some_iff.1 hj).1
        simpa [hl] using this
      rw [Addr.add_lit, hcell j hjl]
      have e : (U8 ys)[j]? = some (.int .u8 (ys.getD j 0)) := by simp [show j < ys.length by omega]
      rw [e] at hj
      exact hj
  have h0 := h
  obtain ⟨hxl, ⟨rfl, rfl⟩ | ⟨g, cap, cur, fz, rfl, hbg, hgg, hfar, hnc, hcm, hcs, htake⟩⟩ := h
  · have hx : xs = [] := List.eq_nil_of_length_eq_zero hxl
    subst hx
    obtain ⟨v', w', hr, o, gr, _⟩ := run_app_at w base ty (.slice none 0 0) 0 [] (World.ownsRow_nil _ _ _ _) ad m c ys hb0 (by omega) hbase
    exact ⟨v', w', hr, .of o, gr⟩
  · by_cases hroom : n + m ≤ cap
    · obtain ⟨w', cur', hst, hg', hs', ht', gr⟩ := storeM Tryd.prog g n 5 fz (U8 ys) 0 cur w hgg (by rw [hcs]; exact hfar) (by simp [hl]; omega) (ints_oneCell _ _)
      have hf := run_firstCells_some (P := Tryd.prog) w 1 m ad m c (U8 ys) (by simp [hl]) hnews
      refine ⟨.slice (some ⟨g, 0, none⟩) (n + m) cap, w', ?_, ⟨by simp [hxl, hl], .inr ⟨g, cap, cur', fz, rfl, hbg, hg', hfar, hroom, hcm, by omega, ?_⟩⟩, gr⟩
      · simp [Builtin.append_, run_underlying Tryd.underlying27, sizeOf, typeInfo, hi, hz1, Builtin.lenOf, hroom, hf, Addr.add_lit, hst]
      · have e : n + 0 + (U8 ys).length = n + m := by simp [hl]
        rw [e] at ht'
        rw [ht', Nat.add_zero, htake]
        simp [U8]
    · have hg2 := grownCap_ge w (n + m) cap 5
      have hr := run_append_grow (P := Tryd.prog) w 27 ty 5 i0 (.int .u8 0) Tryd.underlying27 hi hz0 ⟨g, 0, none⟩ n cap (U8 xs) (by rw [hz1]; simpa using hxl) (by
        intro j u hj
        have hjl : j < n := by
          have := (List.getElem?_eq_some_iff.1 hj).1
          simpa [hxl] using this
        rw [Addr.add_lit, Nat.zero_add, h0.cells j hjl]
        have e : (U8 xs)[j]? = some (.int .u8 (xs.getD j 0)) := by simp [show j < xs.length by omega]
        rw [e] at hj
        exact hj) ad m c (U8 ys) (by rw [hz1]; simp [hl]) hnews (by omega) (by omega) (by rw [hz2]; exact growslice_fits (by omega) (by omega))
      refine ⟨_, _, hr, ⟨by simp [hxl, hl], .inr ⟨w.heap.size, _, _, (0, 0), rfl, hbase, heap_alloc_new w.drew _, .inl rfl, hg2, grownCap_le_maxLen w (n + m) cap 5 (by unfold maxLen; omega), ?_, ?_⟩⟩, ⟨rfl, rfl, rfl, by simp, fun k hk _ => heap_alloc_old w.drew _ hk⟩⟩
      · have hz : (Value.int IntKind.u8 0).cells.size = 1 := rfl
        simp only [Array.size_append, List.size_toArray, size_zeroCells, hz, U8, List.length_map]
        omega
      · simp only [Array.toList_append, List.append_assoc]
        rw [← List.append_assoc, show n + m = ((U8 xs) ++ (U8 ys)).length by simp [hxl, hl]]
        rw [List.take_left]
        simp [U8]
/-- append of a text behind such a row, as it runs. -/
theorem app_str_M (w : World) (base : Nat) (ty : TypeId) (v : Value) (n : Nat) (xs : List Int) (h : ownM w base v n xs) (s : ByteArray) (hn : n + s.size ≤ 1048576) (hbase : base ≤ w.heap.size) :
    ∃ v' w', (Builtin.append_ #[27, 9] ty #[v, .string s]).run Tryd.prog w = .ok v' w' ∧ ownM w' base v' (n + s.size) (xs ++ stB s) ∧ w.grownBy w' v.ownBlock := by
  obtain ⟨i0, hi, hz0, hz1, hz2⟩ := info_parts Tryd.info5
  have h0 := h
  have hsl := stB_len s
  obtain ⟨hxl, ⟨rfl, rfl⟩ | ⟨g, cap, cur, fz, rfl, hbg, hgg, hfar, hnc, hcm, hcs, htake⟩⟩ := h
  · have hx : xs = [] := List.eq_nil_of_length_eq_zero hxl
    subst hx
    obtain ⟨v', w', hr, o, gr, _⟩ := app_str_at w base ty (.slice none 0 0) 0 [] (World.ownsRow_nil _ _ _ _) s (by omega) hbase
    refine ⟨v', w', hr, ?_, gr⟩
    have := ownM.of o
    simpa [hsl] using this
  · by_cases hroom : n + s.size ≤ cap
    · obtain ⟨w', cur', hst, hg', hs', ht', gr⟩ := storeM Tryd.prog g n 5 fz (Lib.strCells s) 0 cur w hgg (by rw [hcs]; exact hfar) (by rw [Lib.strCells_length]; omega) (Lib.strCells_oneCell s)
      have hf := Lib.run_firstCells_string (P := Tryd.prog) w 1 s
      refine ⟨.slice (some ⟨g, 0, none⟩) (n + s.size) cap, w', ?_, ⟨by simp [hxl, hsl], .inr ⟨g, cap, cur', fz, rfl, hbg, hg', hfar, hroom, hcm, by omega, ?_⟩⟩, gr⟩
      · simp [Builtin.append_, run_underlying Tryd.underlying27, run_underlying Tryd.underlying9, sizeOf, typeInfo, hi, hz1, Builtin.lenOf, hroom, hf, Addr.add_lit, hst]
      · rw [Nat.add_zero, Lib.strCells_length] at ht'
        rw [ht', htake, stB_cells]
        simp [U8]
    · have hg2 := grownCap_ge w (n + s.size) cap 5
      have hr := Lib.run_append_grow_string (P := Tryd.prog) w 27 9 ty 5 i0 (.int .u8 0) Tryd.underlying27 Tryd.underlying9 hi hz0 ⟨g, 0, none⟩ n cap (U8 xs) (by rw [hz1]; simpa using hxl) (by
        intro j u hj
        have hjl : j < n := by
          have := (List.getElem?_eq_some_iff.1 hj).1
          simpa [hxl] using this
        rw [Addr.add_lit, Nat.zero_add, h0.cells j hjl]
        have e : (U8 xs)[j]? = some (.int .u8 (xs.getD j 0)) := by simp [show j < xs.length by omega]
        rw [e] at hj
        exact hj) s (by omega) (by omega) (by rw [hz2]; exact growslice_fits (by omega) (by omega))
      refine ⟨_, _, hr, ⟨by simp [hxl, hsl], .inr ⟨w.heap.size, _, _, (0, 0), rfl, hbase, heap_alloc_new w.drew _, .inl rfl, hg2, grownCap_le_maxLen w (n + s.size) cap 5 (by unfold maxLen; omega), ?_, ?_⟩⟩, ⟨rfl, rfl, rfl, by simp, fun k hk _ => heap_alloc_old w.drew _ hk⟩⟩
      · have hz : (Value.int IntKind.u8 0).cells.size = 1 := rfl
        simp only [Array.size_append, List.size_toArray, size_zeroCells, hz, U8, List.length_map, Lib.strCells_length]
        omega
      · simp only [Array.toList_append, List.append_assoc]
        rw [← List.append_assoc, stB_cells, show n + s.size = ((U8 xs) ++ (U8 (stB s))).length by simp [hxl, hsl]]
        rw [List.take_left]
        simp [U8]
/-- The row of a text that is turned into bytes. -/
theorem conv_M (w : World) (s : ByteArray) (hs : s.size ≤ 1048576) : ownM (Lib.bytesWorld w 5 s) w.heap.size (.slice (some ⟨w.heap.size, 0, none⟩) s.size (grownCap w s.size 0 5)) s.size (stB s) := by
  refine ⟨stB_len s, .inr ⟨w.heap.size, _, _, _, rfl, Nat.le_refl _, Lib.bytesWorld_at_new w 5 s, .inr ?_, grownCap_ge _ _ _ _, grownCap_le_maxLen w s.size 0 5 (by unfold maxLen; omega), ?_, ?_⟩⟩
  · have := grownCap_ge w s.size 0 5
    have e : s.data.size = s.size := rfl
    simp only [Lib.bytesCells, Array.size_append, Array.size_map, Array.size_replicate]
    omega
  · have := grownCap_ge w s.size 0 5
    have e : s.data.size = s.size := rfl
    simp only [Lib.bytesCells, Array.size_append, Array.size_map, Array.size_replicate]
    omega
  · have e : s.size = (s.data.toList.map fun b => Value.int .u8 b.toNat).length := by rw [List.length_map, Array.length_toList]; rfl
    have e2 : (Lib.bytesCells w 5 s).toList = (s.data.toList.map fun b => Value.int .u8 b.toNat) ++ (Array.replicate (grownCap w s.size 0 5 - s.size) (Value.int .u8 0)).toList := by simp [Lib.bytesCells]
    rw [e2, e, List.take_left]
    exact stB_cells s
end Go.Proofs.YtgfjbaigmkdbcaaDoor
namespace Go.Proofs.YtgfjbaigmkdbcaaDoor
open Go.RowKit
set_option maxRecDepth 100000
set_option maxHeartbeats 4000000
set_option linter.unusedVariables false

def lays288_ren : Go.Shelf.Ren := ⟨fun | 288 => 72 | 283 => 73 | 284 => 74 | 285 => 75 | 286 => 76 | 129 => 78 | 317 => 77 | 318 => 79 | 319 => 80 | 320 => 81 | 337 => 82 | 338 => 83 | n => n, fun | 37 => 27 | 53 => 98 | 3 => 3 | 4 => 4 | 9 => 9 | 171 => 101 | 0 => 0 | 173 => 104 | 212 => 108 | 51 => 109 | 5 => 5 | 20 => 20 | 213 => 110 | 46 => 111 | 232 => 114 | 233 => 115 | n => n, fun | 17 => 0 | 18 => 1 | 19 => 2 | n => n⟩
theorem lays288 : Go.Proofs.LaysM.n288 Tryd.prog lays288_ren where
  mixed := by kernel_rfl
  f129 := Tryd.func78.trans (congrArg some (by kernel_rfl))
  f283 := Tryd.func73.trans (congrArg some (by kernel_rfl))
  f284 := Tryd.func74.trans (congrArg some (by kernel_rfl))
  f285 := Tryd.func75.trans (congrArg some (by kernel_rfl))
  f286 := Tryd.func76.trans (congrArg some (by kernel_rfl))
  f288 := Tryd.func72.trans (congrArg some (by kernel_rfl))
  f317 := Tryd.func77.trans (congrArg some (by kernel_rfl))
  f318 := Tryd.func79.trans (congrArg some (by kernel_rfl))
  f319 := Tryd.func80.trans (congrArg some (by kernel_rfl))
  f320 := Tryd.func81.trans (congrArg some (by kernel_rfl))
  f337 := Tryd.func82.trans (congrArg some (by kernel_rfl))
  f338 := Tryd.func83.trans (congrArg some (by kernel_rfl))
  t0 := Tryd.underlying0
  a0 := Tryd.isAgg0
  z0 := Tryd.sizeOf0
  v0 := Tryd.zeroValue0
  t3 := Tryd.underlying3
  a3 := Tryd.isAgg3
  z3 := Tryd.sizeOf3
  v3 := Tryd.zeroValue3
  t4 := Tryd.underlying4
  a4 := Tryd.isAgg4
  z4 := Tryd.sizeOf4
  v4 := Tryd.zeroValue4
  t5 := Tryd.underlying5
  a5 := Tryd.isAgg5
  z5 := Tryd.sizeOf5
  v5 := Tryd.zeroValue5
  t9 := Tryd.underlying9
  a9 := Tryd.isAgg9
  z9 := Tryd.sizeOf9
  v9 := Tryd.zeroValue9
  t20 := Tryd.underlying20
  a20 := Tryd.isAgg20
  z20 := Tryd.sizeOf20
  v20 := Tryd.zeroValue20
  t37 := Tryd.underlying27
  a37 := Tryd.isAgg27
  z37 := Tryd.sizeOf27
  v37 := Tryd.zeroValue27
  t46 := Tryd.underlying111
  a46 := Tryd.isAgg111
  z46 := Tryd.sizeOf111
  v46 := Tryd.zeroValue111
  t51 := Tryd.underlying109
  a51 := Tryd.isAgg109
  z51 := Tryd.sizeOf109
  v51 := Tryd.zeroValue109
  t53 := Tryd.underlying98
  a53 := Tryd.isAgg98
  z53 := Tryd.sizeOf98
  v53 := Tryd.zeroValue98
  t171 := Tryd.underlying101
  a171 := Tryd.isAgg101
  z171 := Tryd.sizeOf101
  v171 := Tryd.zeroValue101
  t173 := Tryd.underlying104
  a173 := Tryd.isAgg104
  z173 := Tryd.sizeOf104
  v173 := Tryd.zeroValue104
  t212 := Tryd.underlying108
  a212 := Tryd.isAgg108
  z212 := Tryd.sizeOf108
  v212 := Tryd.zeroValue108
  t213 := Tryd.underlying110
  a213 := Tryd.isAgg110
  z213 := Tryd.sizeOf110
  t232 := Tryd.underlying114
  a232 := Tryd.isAgg114
  z232 := Tryd.sizeOf114
  v232 := Tryd.zeroValue114
  t233 := Tryd.underlying115
  a233 := Tryd.isAgg115
  z233 := Tryd.sizeOf115
  v233 := Tryd.zeroValue115
  g17 := by kernel_rfl
  g18 := by kernel_rfl
  g19 := by kernel_rfl
  i0 := by kernel_rfl
  i3 := by kernel_rfl
  i4 := by kernel_rfl
  i5 := by kernel_rfl
  i9 := by kernel_rfl
  i20 := by kernel_rfl
  i37 := by kernel_rfl
  i46 := by kernel_rfl
  i51 := by kernel_rfl
  i53 := by kernel_rfl
  i171 := by kernel_rfl
  i173 := by kernel_rfl
  i212 := by kernel_rfl
  i232 := by kernel_rfl
  i233 := by kernel_rfl
  m17 := by kernel_rfl
  m18 := by kernel_rfl
  m19 := by kernel_rfl
theorem wplM_str {w : World} {ops : Array Oper} {rest : List Oper} {o : Oper} {a : Act} {Q : Exit → Act → World → Prop} (hgd : o.guard = none) (sl x : Operand)
    (ho : o.op = .call { callee := .builtin .append, args := #[sl, x], argTypes := #[27, 9] })
    (base : Nat) (v : Value) (n : Nat) (xs : List Int) (hs : a.eval sl = v) (hown : ownM w base v n xs) (s : ByteArray) (hx : a.eval x = .string s) (hn : n + s.size ≤ 1048576) (hbase : base ≤ w.heap.size)
    (h : ∀ v' w', ownM w' base v' (n + s.size) (xs ++ stB s) → w.grownBy w' v.ownBlock → wpList Tryd.prog ops Q rest (a.put o.dst v') w') :
    wpList Tryd.prog ops Q (o :: rest) a w := by
  refine wpList_plain hgd fun K hK => ?_
  obtain ⟨v', w', hr, h2, h3⟩ := app_str_M w base o.type v n xs hown s hn hbase
  unfold Oper.wp execOp
  simp only [ho, resolve, invoke, builtin, Sem.run_bind, Sem.run_pure, Result.andThen_ok, List.map_toArray, List.map_cons, List.map_nil, hs, hx, hr]
  exact hK _ _ (h v' w' h2 h3)
theorem wplM_bs {w : World} {ops : Array Oper} {rest : List Oper} {o : Oper} {a : Act} {Q : Exit → Act → World → Prop} (hgd : o.guard = none) (sl x : Operand)
    (ho : o.op = .call { callee := .builtin .append, args := #[sl, x], argTypes := #[27, 27] })
    (base : Nat) (v : Value) (n : Nat) (xs : List Int) (hs : a.eval sl = v) (hown : ownM w base v n xs) (ad : Addr) (m c : Nat) (ys : List Int) (hx : a.eval x = .slice (some ad) m c) (hb : Bs w (some ad) m c ys) (hn : n + m ≤ 1048576) (hbase : base ≤ w.heap.size)
    (h : ∀ v' w', ownM w' base v' (n + m) (xs ++ ys) → w.grownBy w' v.ownBlock → wpList Tryd.prog ops Q rest (a.put o.dst v') w') :
    wpList Tryd.prog ops Q (o :: rest) a w := by
  refine wpList_plain hgd fun K hK => ?_
  obtain ⟨v', w', hr, h2, h3⟩ := app_bs_M w base o.type v n xs hown ad m c ys hb hn hbase
  unfold Oper.wp execOp
  simp only [ho, resolve, invoke, builtin, Sem.run_bind, Sem.run_pure, Result.andThen_ok, List.map_toArray, List.map_cons, List.map_nil, hs, hx, hr]
  exact hK _ _ (h v' w' h2 h3)
theorem small_at (u : Nat) (h : u < 100) (w : World) : Calls Tryd.prog 73 #[.int .i64 (u : Int)] w fun e w' => e = .returned (.string ⟨(Lib.decDigits u).toArray⟩) ∧ w' = w :=
  Any.internal_strconv_small { lays288 with } u h w
theorem stB_dec (u : Nat) : stB ⟨(Lib.decDigits u).toArray⟩ = dgs u := by
  simp [stB, dgs]
end Go.Proofs.YtgfjbaigmkdbcaaDoor
namespace Go.Proofs.YtgfjbaigmkdbcaaDoor
open Go.RowKit Go.Sort
set_option maxRecDepth 100000
set_option maxHeartbeats 4000000
set_option linter.unusedVariables false

abbrev Pow (w : World) : Prop := Lib.TabIs Tryd.prog w "internal/strconv.uint64pow10" .u64 Lib.pow10Tab
theorem dec_len {u : Nat} (h : u ≤ 1000000) : Lib.nDigits u ≤ 7 := by
  have := dgs_le h
  rw [← Lib.decDigits_length]
  simpa [dgs] using this
theorem grown_below {w w' : World} {base : Nat} {v : Value} {n : Nat} {xs : List Int} (h : ownM w base v n xs) (hb : base ≤ w.heap.size) (g : w.grownBy w' v.ownBlock) : Below base w w' :=
  ⟨g.os, g.tape, g.output, g.size, fun k hk => g.block k (by omega) (fun e => by have := (h.lt k e.symm).1; omega)⟩
theorem appUintS (base : Nat) (v : Value) (n : Nat) (xs : List Int) (u : Nat) (w : World) (h : ownM w base v n xs) (hn : n ≤ 1000000) (hb : base ≤ w.heap.size) (hu : u < 100) :
    Calls Tryd.prog 72 #[v, .int .u64 (u : Int), .int .i64 10] w fun e w' => ∃ v', e = .returned v' ∧ ownM w' base v' (n + (dgs u).length) (xs ++ dgs u) ∧ Below base w w' := by
  have hcv : IntKind.i64.wrap (u : Int) = (u : Int) := wr64 (by omega) (by omega)
  have hs : (⟨(Lib.decDigits u).toArray⟩ : ByteArray).size = (dgs u).length := by simp [ByteArray.size, dgs]
  have hl := dgs_le (n := u) (by omega)
  have hlt : (u : Int) < 100 := by omega
  go_enter Tryd.func72, Tryd.ntmps72
  go_wp2_with fail
  refine (small_at u hu _).mono ?_
  rintro e w1 ⟨rfl, rfl⟩
  go_wp2_with (at_builtin; refine wplM_str rfl _ _ rfl base v n xs rfl h ⟨(Lib.decDigits u).toArray⟩ rfl (by rw [hs]; omega) hb ?_)
  intro v' w' o g
  rw [stB_dec] at o
  have hB := grown_below h hb g
  clear g
  go_wp2
  go_ret
  exact ⟨_, rfl, o, hB⟩
theorem numDig_at (u : Nat) (h1 : 1 ≤ u) (h2 : u < 18446744073709551616) (w : World) (ht : Pow w) : Calls Tryd.prog 74 #[.int .u64 (u : Int)] w fun e w' => e = .returned (.int .i64 (Lib.nDigits u : Int)) ∧ w' = w :=
  Any.internal_strconv_numDigits { lays288 with } u h1 h2 w ht
theorem cut24 (w : World) (b k : Nat) (hk : k ≤ 24) : (Instr.sliceAt 101 (.pointer (some ⟨b, 0, none⟩)) none (some (.int .i64 (k : Int))) none).run Tryd.prog w = .ok (.slice (some ⟨b, 0, none⟩) k 24) w := by
  have ha : Tryd.prog.arrayLen 101 = 24 := by kernel_rfl
  have he : Tryd.prog.elem 101 = 5 := by kernel_rfl
  rw [run_sliceAt_array_h (P := Tryd.prog) w 101 ⟨b, 0, none⟩ (by rw [ha, he]; exact Tryd.underlying101) .i64 (k : Int) (by omega) (by rw [ha]; omega), he, ha]
  rfl
/-- The digits in an array of its own. -/
theorem fmt_at (u : Nat) (w : World) (hu : u < 18446744073709551616) (h20 : Lib.nDigits u ≤ 20) :
    Calls Tryd.prog 75 #[.slice (some ⟨w.heap.size, 0, none⟩) (Lib.nDigits u) 24, .int .u64 (u : Int)] (w.alloc (.cells Lib.zeros24 101)) fun e w' => e = .returned (.tuple #[]) ∧ Below w.heap.size w w' ∧ Bs w' (some ⟨w.heap.size, 0, none⟩) (Lib.nDigits u) 24 (dgs u) := by
  have hH := Lib.holds_zero0 w 101 (Lib.nDigits u) (by omega)
  have hc := Any.internal_strconv_formatBase10 { lays288 with } w.heap.size 0 24 u (Array.replicate (Lib.nDigits u) 0) (w.alloc (.cells Lib.zeros24 101)) hH (by rw [Array.size_replicate]; exact Lib.lt_pow_nDigits u) hu (by rw [Array.size_replicate]; omega)
  rw [Array.size_replicate] at hc
  refine Calls.mono (show Calls Tryd.prog 75 _ _ _ from hc) ?_
  rintro e w' ⟨rfl, k, v', dk, rfl, hF⟩
  obtain ⟨os, eo⟩ := Lib.fin_at w (.cells Lib.zeros24 101) dk k 0
  have hb : Below w.heap.size w ((putRow (fun (b : UInt8) => Value.int .u8 (b.toNat : Int)) (w.alloc (.cells Lib.zeros24 101)) w.heap.size 0 dk).drewN k) := by rw [eo]; exact Lib.below_grow w.heap.size w (Nat.le_refl _) k os
  have hdl : (dgs u).length = Lib.nDigits u := by rw [← Lib.decDigits_length]; simp [dgs]
  have hcell : ∀ j, j < Lib.nDigits u → ((putRow (fun (b : UInt8) => Value.int .u8 (b.toNat : Int)) (w.alloc (.cells Lib.zeros24 101)) w.heap.size 0 dk).drewN k).cell? ⟨w.heap.size, 0 + j, none⟩ = some (.int .u8 ((dgs u).getD j 0)) := by
    intro j hj
    have hjl : j < (Lib.decDigits u).length := by rw [Lib.decDigits_length]; exact hj
    have e : (dgs u).getD j 0 = (((Lib.decDigits u)[j]).toNat : Int) := by simp [dgs, hjl]
    rw [e, Lib.row_is_numeral hF j hjl, World.cell?_drewN]
    exact cell?_putRow (fun (b : UInt8) => Value.int .u8 (b.toNat : Int)) _ w.heap.size 0 _ dk hH (by rw [hF.size, Array.size_replicate]) j (by rw [hF.size]; exact hj)
  refine ⟨rfl, hb, (fun h => by cases h), hdl, by omega, dgs_byte u, .inr ⟨w.heap.size, 0, rfl, ?_, hcell⟩⟩
  rcases Nat.lt_or_ge w.heap.size ((putRow (fun (b : UInt8) => Value.int .u8 (b.toNat : Int)) (w.alloc (.cells Lib.zeros24 101)) w.heap.size 0 dk).drewN k).heap.size with h | h
  · exact h
  · exfalso
    have hp : 0 < Lib.nDigits u := by
      rw [Lib.nDigits]
      split <;> omega
    have := World.block_lt_of_cell? _ _ (hcell 0 hp)
    simp only [] at this
    omega
theorem appUintB (base : Nat) (v : Value) (n : Nat) (xs : List Int) (u : Nat) (w : World) (h : ownM w base v n xs) (hn : n ≤ 1000000) (hb : base ≤ w.heap.size) (hu : 100 ≤ u) (hu2 : u ≤ 1000000) (ht : Pow w) :
    Calls Tryd.prog 72 #[v, .int .u64 (u : Int), .int .i64 10] w fun e w' => ∃ v', e = .returned v' ∧ ownM w' base v' (n + (dgs u).length) (xs ++ dgs u) ∧ Below base w w' := by
  have hl := dgs_le (n := u) (by omega)
  have hdl : (dgs u).length = Lib.nDigits u := by rw [← Lib.decDigits_length]; simp [dgs]
  have hnd : Lib.nDigits u ≤ 7 := by omega
  have hp : 0 < Lib.nDigits u := by
    rw [Lib.nDigits]
    split <;> omega
  have hlt : ¬ (u : Int) < 100 := by omega
  have hcut := fun W => cut24 W w.heap.size (Lib.nDigits u) (by omega)
  have hfm := fmt_at u w (by omega) (by omega)
  have hta : Pow (w.alloc (.cells Lib.zeros24 101)) := Lib.tabIs_alloc ht _
  rw [hdl]
  generalize hN : Lib.nDigits u = N at hcut hfm hnd hdl hp ⊢
  have HN : Hid (Lib.nDigits u = N) := hN
  have HF : Hid _ := hfm
  have HT : Hid (Pow (w.alloc (.cells Lib.zeros24 101))) := hta
  clear hN hfm hta ht
  go_enter Tryd.func72, Tryd.ntmps72
  go_wp2_with fail
  refine (numDig_at u (by omega) (by omega) _ HT.out).mono ?_
  rintro e w1 ⟨rfl, rfl⟩
  rw [HN.out]
  go_wp2_with fail
  refine Calls.mono HF.out ?_
  rintro e w2 ⟨rfl, hb2, hB⟩
  have h2 := h.below hb2
  have hz := hb2.size
  clear HF
  go_wp2_with (at_builtin; refine wplM_bs rfl _ _ rfl base v n xs rfl h2 ⟨w.heap.size, 0, none⟩ N 24 (dgs u) rfl hB (by omega) (by omega) ?_)
  intro v' w' o g
  have hB2 : Below base w w' := (hb2.mono hb).trans (grown_below h2 (by omega) g)
  clear g
  go_wp2
  go_ret
  exact ⟨_, rfl, o, hB2⟩
end Go.Proofs.YtgfjbaigmkdbcaaDoor
