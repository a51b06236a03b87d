/-
  What is proved here: what the specification's l8words does: it writes a word and numbers behind a row; append of a text's bytes behind a row of its own, and where the row lies then; the contract of the specification's l8words; rows of bytes that a conversion made (their mark lies behind their cells): how they are kept, read, written and appended to.
-/
import Derived.Test.YtjceajgefpinpaaDoorJQ15
import Derived.Test.YtjceajgefpinpaaDoorTw
import Derived.Test.YtjceajgefpinpaaDoorJQ7
import Derived.Lib.AppendStr
import Derived.Deep.CutRange
import Derived.Maps.AppendAt
import Derived.Lib.ConvBytes
namespace Go.Proofs.YtjceajgefpinpaaDoor
open Go.RowKit
set_option maxRecDepth 100000
set_option maxHeartbeats 4000000
set_option linter.unusedVariables false

/-- Numbers, each behind a blank. -/
def nmL : List Int → List Int
  | [] => []
  | x :: t => 32 :: dgs x.toNat ++ nmL t
/-- A line. -/
def lnL (ws ns : List Int) : List Int := ws ++ nmL ns ++ [10]
theorem nmL_snoc : ∀ (l : List Int) (x : Int), nmL (l ++ [x]) = nmL l ++ (32 :: dgs x.toNat)
  | [], x => by simp [nmL]
  | y :: t, x => by
    show 32 :: dgs y.toNat ++ nmL (t ++ [x]) = _
    rw [nmL_snoc t x]
    simp [nmL]
abbrev nsOk (ns : List Int) : Prop := ∀ x ∈ ns, 0 ≤ x ∧ x ≤ 1000000
theorem nmL_len : ∀ (l : List Int), nsOk l → (nmL l).length ≤ 8 * l.length
  | [], _ => by simp [nmL]
  | x :: t, h => by
    have h1 := nmL_len t (fun y hy => h y (List.mem_cons_of_mem _ hy))
    have h2 := dgs_le (n := x.toNat) (by have := h x List.mem_cons_self; omega)
    simp [nmL]
    omega
theorem nmL_byte : ∀ (l : List Int), ∀ x ∈ nmL l, 0 ≤ x ∧ x < 256
  | [], x, h => by simp [nmL] at h
  | y :: t, x, h => by
    simp only [nmL, List.cons_append, List.mem_cons, List.mem_append] at h
    rcases h with rfl | h | h
    · omega
    · exact dgs_byte _ x h
    · exact nmL_byte t x h
/-- The bytes of a text. -/
def stB (s : ByteArray) : List Int := s.data.toList.map fun b => (b.toNat : Int)
theorem stB_len (s : ByteArray) : (stB s).length = s.size := by unfold stB; rw [List.length_map, Array.length_toList]; rfl
theorem stB_byte (s : ByteArray) : ∀ x ∈ stB s, 0 ≤ x ∧ x < 256 := by
  intro x hx
  unfold stB at hx
  rw [List.mem_map] at hx
  obtain ⟨b, _, rfl⟩ := hx
  have := b.toNat_lt
  omega
theorem stB_cells (s : ByteArray) : Lib.strCells s = U8 (stB s) := by simp [Lib.strCells, stB, U8]
theorem lnL_byte (s : ByteArray) (ns : List Int) : ∀ x ∈ lnL (stB s) ns, 0 ≤ x ∧ x < 256 := by
  intro x hx
  unfold lnL at hx
  rw [List.mem_append, List.mem_append] at hx
  rcases hx with (hx | hx) | hx
  · exact stB_byte s x hx
  · exact nmL_byte ns x hx
  · simp at hx; omega
theorem lnL_len (s : ByteArray) (ns : List Int) (h : nsOk ns) : (lnL (stB s) ns).length ≤ s.size + 8 * ns.length + 1 := by
  unfold lnL
  rw [List.length_append, List.length_append, stB_len]
  have := nmL_len ns h
  simp
  omega
/-- append, as it runs: bytes behind a row of its own. -/
theorem run_app_own (w : World) (base : Nat) (ty : TypeId) (v : Value) (n : Nat) (xs : List Int) (hown : w.ownsRow base 5 1 v n (U8 xs)) (ao : Option Addr) (m c : Nat) (ys : List Int) (hb : Bs w ao m c ys) (hn : n + m ≤ 1048576) (hbase : base ≤ w.heap.size) (ha : ao ≠ none) :
    ∃ v' w', (Builtin.append_ #[22, 22] ty #[v, .slice ao m c]).run Tryd.prog w = .ok v' w' ∧ w'.ownsRow base 5 1 v' (n + m) (U8 (xs ++ ys)) ∧ w.grownBy w' v.ownBlock := by
  obtain ⟨i0, hi, hz0, hz1, hz2⟩ := info_parts Tryd.info5
  obtain ⟨hcap, hl, hc, _, hb⟩ := hb
  cases ao with
  | none => exact absurd rfl ha
  | some ad =>
    obtain ⟨v', w', h1, h2, h3, _⟩ := run_append_own (P := Tryd.prog) w base 22 ty 5 i0 (.int .u8 0) 1 1 Tryd.underlying22 hi hz0 hz1 hz2 rfl (by decide) v n (U8 xs) hown ad m c (U8 ys) (by simp [hl]) (by
      intro j u hj
      rcases hb with hb | ⟨b, off, ha, _, hcell⟩
      · have hy : ys = [] := List.eq_nil_of_length_eq_zero (by omega)
        subst hy
        simp at hj
      · obtain rfl := Option.some.inj ha
        have hjl : j < m := by
          have := (List.getElem?_eq_some_iff.1 hj).1
          simpa [hl] using this
        rw [Addr.add_lit, hcell j hjl]
        have e : (U8 ys)[j]? = some (.int .u8 (ys.getD j 0)) := by simp [show j < ys.length by omega]
        rw [e] at hj
        exact hj) (ints_oneCell _ _) (by unfold maxLen; omega) (by omega) hbase
    exact ⟨v', w', h1, by simpa using h2, h3⟩
/-- Where the row of a value may lie: where another lies, or behind a point. -/
abbrev Nr (G : Option Nat) (Z : Nat) (v : Value) : Prop := ∀ k, v.ownBlock = some k → G = some k ∨ Z ≤ k
abbrev kz1 (d Z : Nat) (x : Int) : Kd := (some d, (fun l _ => .slice (some ⟨l, 0, none⟩) 1 1), fun l h w _ => Arr w l 5 [.int .u8 x] ∧ l < h ∧ Z ≤ l)
def Dz (Z n : Nat) (xs : List Int) (l h : Nat) (w : World) (v : Value) : Prop := w.ownsRow l 5 1 v n (U8 xs) ∧ In v l h ∧ Z ≤ l
def Da (base n : Nat) (xs : List Int) (_ _ : Nat) (w : World) (v : Value) : Prop := w.ownsRow base 5 1 v n (U8 xs)
theorem arr_gr {w w' : World} {g : Nat} {t : TypeId} {cs : List Value} {G : Option Nat} (h : Arr w g t cs) (hg : w.grownBy w' G) (hn : G ≠ some g) : Arr w' g t cs := by
  unfold Arr
  rw [hg.block g h.lt (fun e => hn e.symm)]
  exact h
theorem own_gr {w w' : World} {b e s n : Nat} {v : Value} {l : List Value} {G : Option Nat} (h : w.ownsRow b e s v n l) (hg : w.grownBy w' G) (hn : ∀ k, v.ownBlock = some k → G ≠ some k) : w'.ownsRow b e s v n l := by
  refine ⟨h.1, ?_⟩
  rcases h.2 with hn0 | ⟨g, cap, cur, rfl, hb, hgg, rest⟩
  · exact .inl hn0
  · refine .inr ⟨g, cap, cur, rfl, hb, ?_, rest⟩
    rw [hg.block g (Array.getElem?_eq_some_iff.1 hgg).1 (fun e => hn g rfl e.symm)]
    exact hgg
end Go.Proofs.YtjceajgefpinpaaDoor
namespace Go.Proofs.YtjceajgefpinpaaDoor
open Go.RowKit
set_option maxRecDepth 100000
set_option maxHeartbeats 4000000
set_option linter.unusedVariables false

theorem app_str_at (w : World) (base : Nat) (ty : TypeId) (v : Value) (n : Nat) (xs : List Int) (hown : w.ownsRow base 5 1 v n (U8 xs)) (s : ByteArray) (hn : n + s.size ≤ 1048576) (hbase : base ≤ w.heap.size) :
    ∃ v' w', (Builtin.append_ #[22, 9] ty #[v, .string s]).run Tryd.prog w = .ok v' w' ∧ w'.ownsRow base 5 1 v' (xs ++ stB s).length (U8 (xs ++ stB s)) ∧ w.grownBy w' v.ownBlock ∧ (∀ k, v'.ownBlock = some k → v.ownBlock = some k ∨ w.heap.size ≤ k) := by
  obtain ⟨i0, hi, hz0, hz1, hz2⟩ := info_parts Tryd.info5
  have hxl : xs.length = n := by have := hown.1; simpa using this
  obtain ⟨v', w', hr, o, g, _⟩ := Lib.run_append_own_string (P := Tryd.prog) w base 22 9 ty 5 i0 Tryd.underlying22 Tryd.underlying9 hi hz0 hz1 hz2 v n (U8 xs) hown s (by unfold maxLen; omega) (by omega) hbase
  refine ⟨v', w', hr, ?_, g, fun k hk => ?_⟩
  · rw [List.length_append, stB_len, hxl]
    rw [stB_cells] at o
    simpa using o
  · rcases hown.2 with ⟨rfl, h0⟩ | ⟨gb, cap, cur, rfl, hbg, hgg, h1, h2, h3, h4⟩
    · have hx : xs = [] := List.eq_nil_of_length_eq_zero (by omega)
      subst hx
      subst h0
      obtain ⟨v2, w2, hr2, o2, _, _⟩ := Lib.run_append_own_string (P := Tryd.prog) w w.heap.size 22 9 ty 5 i0 Tryd.underlying22 Tryd.underlying9 hi hz0 hz1 hz2 (.slice none 0 0) 0 [] (World.ownsRow_nil _ _ _ _) s (by unfold maxLen; omega) (by omega) (Nat.le_refl _)
      have e := hr.symm.trans hr2
      simp only [Result.ok.injEq] at e
      rw [e.1] at hk
      exact .inr (o2.lt k hk).1
    · by_cases hroom : n + s.size ≤ cap
      · have hr2 := Lib.run_append_room_string (P := Tryd.prog) w 22 9 ty 5 i0 Tryd.underlying22 Tryd.underlying9 hi hz1 gb n cap cur hgg s hroom (by omega)
        have e := hr.symm.trans hr2
        simp only [Result.ok.injEq] at e
        rw [e.1] at hk
        exact .inl hk
      · have hr2 := Lib.run_append_grow_string (P := Tryd.prog) w 22 9 ty 5 i0 (.int .u8 0) Tryd.underlying22 Tryd.underlying9 hi hz0 ⟨gb, 0, none⟩ n cap (U8 xs) (by rw [hz1]; simpa using hxl) (hown.cells (g := gb) rfl) s (by omega) (by omega) (by rw [hz2]; exact growslice_fits (by omega) (by omega))
        have e := hr.symm.trans hr2
        simp only [Result.ok.injEq] at e
        rw [e.1] at hk
        cases hk
        exact .inr (Nat.le_refl _)
theorem wpl_append_str {w : World} {ops : Array Oper} {rest : List Oper} {o : Oper} {a : Act} {Q : Exit → Act → World → Prop} (hgd : o.guard = none) (sl x : Operand)
    (ho : o.op = .call { callee := .builtin .append, args := #[sl, x], argTypes := #[22, 9] })
    (base : Nat) (v : Value) (n : Nat) (xs : List Int) (hs : a.eval sl = v) (hown : w.ownsRow base 5 1 v n (U8 xs)) (s : ByteArray) (hx : a.eval x = .string s) (hn : n + s.size ≤ 1048576) (hbase : base ≤ w.heap.size)
    (h : ∀ v' w', w'.ownsRow base 5 1 v' (xs ++ stB s).length (U8 (xs ++ stB s)) → w.grownBy w' v.ownBlock → (∀ k, v'.ownBlock = some k → v.ownBlock = some k ∨ w.heap.size ≤ k) → wpList Tryd.prog ops Q rest (a.put o.dst v') w') :
    wpList Tryd.prog ops Q (o :: rest) a w := by
  refine wpList_plain hgd fun K hK => ?_
  obtain ⟨v', w', hr, h2, h3, h4⟩ := app_str_at w base o.type v n xs hown s hn hbase
  unfold Oper.wp execOp
  simp only [ho, resolve, invoke, builtin, Sem.run_bind, Sem.run_pure, Result.andThen_ok, List.map_toArray, List.map_cons, List.map_nil, hs, hx, hr]
  exact hK _ _ (h v' w' h2 h3 h4)
/-- append of bytes, as it runs, and where the row lies then. -/
theorem run_app_at (w : World) (base : Nat) (ty : TypeId) (v : Value) (n : Nat) (xs : List Int) (hown : w.ownsRow base 5 1 v n (U8 xs)) (ad : Addr) (m c : Nat) (ys : List Int) (hb : Bs w (some ad) m c ys) (hn : n + m ≤ 1048576) (hbase : base ≤ w.heap.size) :
    ∃ v' w', (Builtin.append_ #[22, 22] ty #[v, .slice (some ad) m c]).run Tryd.prog w = .ok v' w' ∧ w'.ownsRow base 5 1 v' (n + m) (U8 (xs ++ ys)) ∧ w.grownBy w' v.ownBlock ∧ (∀ k, v'.ownBlock = some k → v.ownBlock = some k ∨ w.heap.size ≤ k) := by
  obtain ⟨i0, hi, hz0, hz1, hz2⟩ := info_parts Tryd.info5
  obtain ⟨hcap, hl, hc, _, hb⟩ := hb
  obtain ⟨v', w', h1, h2, h3, _, h5⟩ := run_append_own_at (P := Tryd.prog) w base 22 ty 5 i0 (.int .u8 0) 1 1 Tryd.underlying22 hi hz0 hz1 hz2 rfl (by decide) v n (U8 xs) hown ad m c (U8 ys) (by simp [hl]) (by
    intro j u hj
    rcases hb with hb | ⟨b, off, ha, _, hcell⟩
    · have hy : ys = [] := List.eq_nil_of_length_eq_zero (by omega)
      subst hy
      simp at hj
    · obtain rfl := Option.some.inj ha
      have hjl : j < m := by
        have := (List.getElem?_eq_some_iff.1 hj).1
        simpa [hl] using this
      rw [Addr.add_lit, hcell j hjl]
      have e : (U8 ys)[j]? = some (.int .u8 (ys.getD j 0)) := by simp [show j < ys.length by omega]
      rw [e] at hj
      exact hj) (ints_oneCell _ _) (by unfold maxLen; omega) (by omega) hbase
  refine ⟨v', w', h1, by simpa using h2, h3, fun k hk => ?_⟩
  rcases h5 with h5 | h5
  · exact .inl (h5.symm.trans hk)
  · rw [h5] at hk
    cases hk
    exact .inr (Nat.le_refl _)
end Go.Proofs.YtjceajgefpinpaaDoor
namespace Go.Proofs.YtjceajgefpinpaaDoor
open Go.RowKit
set_option maxRecDepth 100000
set_option maxHeartbeats 8000000
set_option linter.unusedVariables false

theorem cell_gr {w w' : World} {G : Option Nat} {b o : Nat} (h : w.grownBy w' G) (hl : b < w.heap.size) (hn : G ≠ some b) : w'.cell? ⟨b, o, none⟩ = w.cell? ⟨b, o, none⟩ := by
  unfold World.cell?
  simp only [h.block b hl (fun e => hn e.symm)]
theorem gr_chain {w a b : World} {G0 G1 : Option Nat} (h : w.grownBy a G0) (h1 : a.grownBy b G1) (hn : ∀ k, G1 = some k → G0 = some k ∨ w.heap.size ≤ k) : w.grownBy b G0 :=
  ⟨h1.os.trans h.os, h1.tape.trans h.tape, h1.output.trans h.output, Nat.le_trans h.size h1.size, fun i hi hne => by
    rw [h1.block i (Nat.lt_of_lt_of_le hi h.size) (fun e => by rcases hn i e.symm with h | h; exact hne h.symm; omega), h.block i hi hne]⟩
section
variable {P : Program} {G : Option Nat} {Z : Nat}
theorem kz1_kw {d : Nat} {x : Int} (hG : ∀ k, G = some k → k < Z) : Kwp false G (kz1 d Z x) := fun l h w w' v D hz hs => by
  have hs' : w.grownBy w' G := by simpa using hs
  exact ⟨arr_gr D.1 hs' (fun e => by have := hG l e; have := D.2.2; omega), D.2⟩
theorem dz_kw {d n : Nat} {xs : List Int} (hG : ∀ k, G = some k → k < Z) : Kwp false G (kv d (Dz Z n xs)) := fun l h w w' v D hz hs => by
  have hs' : w.grownBy w' G := by simpa using hs
  exact ⟨own_gr D.1 hs' (fun k hk e => by have := hG k e; have := D.2.1 k hk; have := D.2.2; omega), D.2⟩
theorem dl_kw {d base n : Nat} {xs : List Int} {v0 : Value} : Kwp true G (kv d (fun _ _ w v => w.ownsRow base 5 1 v n (U8 xs) ∧ ∀ k, v.ownBlock = some k → v0.ownBlock = some k ∨ Z ≤ k)) := fun l h w w' v D hz hs => by
  have hs' : Below w.heap.size w w' := by simpa using hs
  exact ⟨own_below D.1 hs', D.2⟩
theorem ow2 {X Y : Prop} {ev : Operand → Value} {o : Oper} {k : Kd} {w : World} (h : Dty X (TOb P ev o k w)) : Dty (X ∧ Y) (Tw P false G ev o k w) := ⟨fun x => Tw.of (h.out x.1)⟩
theorem tw_val {ev : Operand → Value} {o : Oper} {k : Kd} {b : Bool} {w w' : World} {v : Value} (h : (execOp ev o).run P w = .ok (.value v) w') (hR : Rsw b G k w v w') : Tw P b G ev o k w := ⟨by
  unfold TwR
  rw [h]
  exact hR⟩
theorem tz1 {ev : Operand → Value} {o : Oper} {d : Nat} {w : World} {X : Prop} {x : Int} (hz : Z ≤ w.heap.size) (h : (execOp ev o).run P w = .ok (.value (.slice (some ⟨w.heap.size, 0, none⟩) 1 1)) (w.alloc (.cells #[.int .u8 x] 5))) : Dty X (TOb P ev o (kz1 d Z x) w) := ⟨fun _ => by
  refine ⟨?_⟩
  unfold TObR
  rw [h]
  exact ⟨undef, rfl, (Below.refl _ _).alloc (Nat.le_refl _) _, Arr.new w [.int .u8 x] 5, by simp, hz⟩⟩
end
end Go.Proofs.YtjceajgefpinpaaDoor
namespace Go.Proofs.YtjceajgefpinpaaDoor
open Go.RowKit
set_option maxRecDepth 100000
set_option maxHeartbeats 2000000
set_option linter.unusedVariables false

/-- A mark that touches none of the row's cells. -/
abbrev Far (fz : Nat × Nat) (n : Nat) : Prop := fz.2 = 0 ∨ n ≤ fz.1
theorem far_cell {w : World} {g k : Nat} {cur : Array Value} {t : TypeId} {fz : Nat × Nat} (hg : w.heap[g]? = some (.cells cur t fz)) (hf : Far fz cur.size) (hk : k < cur.size) : w.frozen? ⟨g, k, none⟩ = false := by
  obtain ⟨a, b⟩ := fz
  simp only [World.frozen?, hg, Bool.and_eq_false_iff, decide_eq_false_iff_not]
  rcases hf with h | h
  · right; simp only at h; omega
  · left; simp only at h; omega
theorem storeM (P : Program) (g o : Nat) (t : TypeId) (fz : Nat × Nat) : ∀ (vs : List Value) (i : Nat) (cur : Array Value) (w : World), w.heap[g]? = some (.cells cur t fz) → Far fz cur.size → o + i + vs.length ≤ cur.size → (∀ v ∈ vs, v.oneCell' = true) →
    ∃ w' cur', (storeCells ⟨g, o, none⟩ vs i).run P w = .ok () w' ∧ w'.heap[g]? = some (.cells cur' t fz) ∧ cur'.size = cur.size ∧ cur'.toList.take (o + i + vs.length) = cur.toList.take (o + i) ++ vs ∧ w.grownBy w' (some g)
  | [], i, cur, w, hg, _, _, _ => ⟨w, cur, rfl, hg, rfl, by simp, ⟨rfl, rfl, rfl, Nat.le_refl _, fun _ _ _ => rfl⟩⟩
  | v :: rest, i, cur, w, hg, hf, hl, h1 => by
    have hi : o + i < cur.size := by simp at hl; omega
    have ha : (⟨g, o, none⟩ : Addr).add i = ⟨g, o + i, none⟩ := by unfold Addr.add; split <;> simp_all
    have hc : w.cell? ⟨g, o + i, none⟩ = some cur[o + i] := by simp [World.cell?, hg, hi]
    have hst : (store ((⟨g, o, none⟩ : Addr).add i) v).run P w = .ok () (w.setCell ⟨g, o + i, none⟩ v) := by
      rw [ha, run_store P w _ v _ (h1 v (by simp)), hc]
      simp [far_cell hg hf hi]
    obtain ⟨w', cur', hr, hb, hs, ht, gr⟩ := storeM P g o t fz rest (i + 1) (cur.setIfInBounds (o + i) v) (w.setCell ⟨g, o + i, none⟩ v) (by rw [setCell_eq_setRow w g (o + i) cur t fz v hg]; exact setRow_heap w g cur _ t fz hg) (by simpa using hf) (by simp at hl ⊢; omega) (fun x hx => h1 x (by simp [hx]))
    refine ⟨w', cur', ?_, hb, by simpa using hs, ?_, ⟨gr.os, gr.tape, gr.output, by simpa using gr.size, fun k hk hne => ?_⟩⟩
    · simp only [storeCells, Sem.run_bind, hst, Result.andThen_ok, hr]
    · have e : o + i + (v :: rest).length = o + (i + 1) + rest.length := by simp; omega
      rw [e, ht, Array.toList_setIfInBounds, ← Nat.add_assoc, List.take_add_one, List.take_set_of_le (Nat.le_refl _)]
      simp [hi]
    · rw [gr.block k (by simpa using hk) hne, heap_setCell_other w ⟨g, o + i, none⟩ k v (fun h => hne (by rw [h]))]

/-- A row of bytes that a call may write, its mark far off. -/
def ownM (w : World) (base : Nat) (v : Value) (n : Nat) (xs : List Int) : Prop :=
  xs.length = n ∧ ((v = .slice none 0 0 ∧ n = 0) ∨ ∃ g cap cur fz, v = .slice (some ⟨g, 0, none⟩) n cap ∧ base ≤ g ∧ w.heap[g]? = some (.cells cur 5 fz) ∧ Far fz cap ∧ n ≤ cap ∧ cap ≤ maxLen ∧ cur.size = cap ∧ cur.toList.take n = U8 xs)
section
variable {w w' : World} {base n : Nat} {v : Value} {xs : List Int}
theorem ownM.of (h : w.ownsRow base 5 1 v n (U8 xs)) : ownM w base v n xs := by
  refine ⟨by have := h.1; simpa using this, ?_⟩
  rcases h.2 with h | ⟨g, cap, cur, rfl, h1, h2, h3, h4, h5, h6⟩
  · exact .inl h
  · exact .inr ⟨g, cap, cur, (0, 0), rfl, h1, h2, .inl rfl, h3, h4, by simpa using h5, by simpa using h6⟩
theorem ownM.lt (h : ownM w base v n xs) : ∀ k, v.ownBlock = some k → base ≤ k ∧ k < w.heap.size := by
  intro k hk
  rcases h.2 with ⟨rfl, _⟩ | ⟨g, cap, cur, fz, rfl, hb, hg, _⟩
  · simp [Value.ownBlock] at hk
  · simp [Value.ownBlock] at hk
    subst hk
    exact ⟨hb, (Array.getElem?_eq_some_iff.1 hg).1⟩
theorem ownM.kept (h : ownM w base v n xs) (hb : ∀ k, v.ownBlock = some k → w'.heap[k]? = w.heap[k]?) : ownM w' base v n xs := by
  refine ⟨h.1, ?_⟩
  rcases h.2 with hn | ⟨g, cap, cur, fz, rfl, hb', hgg, rest⟩
  · exact .inl hn
  · exact .inr ⟨g, cap, cur, fz, rfl, hb', by rw [hb g rfl]; exact hgg, rest⟩
theorem ownM.below (h : ownM w base v n xs) (hb : Below w.heap.size w w') : ownM w' base v n xs := h.kept (fun k hk => hb.block k (h.lt k hk).2)
theorem ownM.lower {b' : Nat} (h : ownM w base v n xs) (hb : b' ≤ base) : ownM w b' v n xs := by
  refine ⟨h.1, ?_⟩
  rcases h.2 with hn | ⟨g, cap, cur, fz, e, hb', rest⟩
  · exact .inl hn
  · exact .inr ⟨g, cap, cur, fz, e, by omega, rest⟩
theorem ownM.cells {g c : Nat} (h : ownM w base (.slice (some ⟨g, 0, none⟩) n c) n xs) : ∀ j, j < n → w.cell? ⟨g, j, none⟩ = some (.int .u8 (xs.getD j 0)) := by
  intro j hj
  obtain ⟨hl, hn | ⟨g', cap, cur, fz, e, _, hgg, _, _, _, hs, ht⟩⟩ := h
  · cases hn.1
  · simp only [Value.slice.injEq, Option.some.injEq, Addr.mk.injEq] at e
    obtain ⟨⟨rfl, _⟩, _, rfl⟩ := e
    rw [cell_of_row w g j cur 5 fz hgg]
    have : (U8 xs)[j]? = some (.int .u8 (xs.getD j 0)) := by simp [show j < xs.length by omega]
    rw [← ht, List.getElem?_take_of_lt hj] at this
    simpa using this
theorem ownM.bs (h : ownM w base v n xs) (hy : ∀ x ∈ xs, 0 ≤ x ∧ x < 256) : ∃ a c, v = .slice a n c ∧ Bs w a n c xs := by
  have h0 := h
  obtain ⟨hl, ⟨rfl, rfl⟩ | ⟨g, cap, cur, fz, rfl, _, hgg, _, h1, h2, _, _⟩⟩ := h
  · exact ⟨none, 0, rfl, fun _ => rfl, hl, Nat.le_refl _, hy, .inl rfl⟩
  · exact ⟨_, cap, rfl, (fun h => by cases h), hl, h1, hy, .inr ⟨g, 0, rfl, (Array.getElem?_eq_some_iff.1 hgg).1, fun j hj => by simpa using h0.cells j hj⟩⟩
end
/-- append of bytes behind such a row, as it runs. -/
theorem app_bs_M (w : World) (base : Nat) (ty : TypeId) (v : Value) (n : Nat) (xs : List Int) (h : ownM w base v n xs) (ad : Addr) (m c : Nat) (ys : List Int) (hb : Bs w (some ad) m c ys) (hn : n + m ≤ 1048576) (hbase : base ≤ w.heap.size) :
    ∃ v' w', (Builtin.append_ #[22, 22] ty #[v, .slice (some ad) m c]).run Tryd.prog w = .ok v' w' ∧ ownM w' base v' (n + m) (xs ++ ys) ∧ w.grownBy w' v.ownBlock := by
  obtain ⟨i0, hi, hz0, hz1, hz2⟩ := info_parts Tryd.info5
  have hb0 := hb
  obtain ⟨_, hl, hc, _, hbb⟩ := hb
  have hnews : ∀ j u, (U8 ys)[j]? = some u → w.cell? (ad.add j) = some u := by
    intro j u hj
    rcases hbb with hb | ⟨b, off, ha, _, hcell⟩
    · have hy : ys = [] := List.eq_nil_of_length_eq_zero (by omega)
      subst hy
      simp at hj
    · obtain rfl := Option.some.inj ha
      have hjl : j < m := by
        have := (List.getElem?_eq_some_iff.1 hj).1
        simpa [hl] using this
      rw [Addr.add_lit, hcell j hjl]
      have e : (U8 ys)[j]? = some (.int .u8 (ys.getD j 0)) := by simp [show j < ys.length by omega]
      rw [e] at hj
      exact hj
  have h0 := h
  obtain ⟨hxl, ⟨rfl, rfl⟩ | ⟨g, cap, cur, fz, rfl, hbg, hgg, hfar, hnc, hcm, hcs, htake⟩⟩ := h
  · have hx : xs = [] := List.eq_nil_of_length_eq_zero hxl
    subst hx
    obtain ⟨v', w', hr, o, gr, _⟩ := run_app_at w base ty (.slice none 0 0) 0 [] (World.ownsRow_nil _ _ _ _) ad m c ys hb0 (by omega) hbase
    exact ⟨v', w', hr, .of o, gr⟩
  · by_cases hroom : n + m ≤ cap
    · obtain ⟨w', cur', hst, hg', hs', ht', gr⟩ := storeM Tryd.prog g n 5 fz (U8 ys) 0 cur w hgg (by rw [hcs]; exact hfar) (by simp [hl]; omega) (ints_oneCell _ _)
      have hf := run_firstCells_some (P := Tryd.prog) w 1 m ad m c (U8 ys) (by simp [hl]) hnews
      refine ⟨.slice (some ⟨g, 0, none⟩) (n + m) cap, w', ?_, ⟨by simp [hxl, hl], .inr ⟨g, cap, cur', fz, rfl, hbg, hg', hfar, hroom, hcm, by omega, ?_⟩⟩, gr⟩
      · simp [Builtin.append_, run_underlying Tryd.underlying22, sizeOf, typeInfo, hi, hz1, Builtin.lenOf, hroom, hf, Addr.add_lit, hst]
      · have e : n + 0 + (U8 ys).length = n + m := by simp [hl]
        rw [e] at ht'
        rw [ht', Nat.add_zero, htake]
        simp [U8]
    · have hg2 := grownCap_ge w (n + m) cap 5
      have hr := run_append_grow (P := Tryd.prog) w 22 ty 5 i0 (.int .u8 0) Tryd.underlying22 hi hz0 ⟨g, 0, none⟩ n cap (U8 xs) (by rw [hz1]; simpa using hxl) (by
        intro j u hj
        have hjl : j < n := by
          have := (List.getElem?_eq_some_iff.1 hj).1
          simpa [hxl] using this
        rw [Addr.add_lit, Nat.zero_add, h0.cells j hjl]
        have e : (U8 xs)[j]? = some (.int .u8 (xs.getD j 0)) := by simp [show j < xs.length by omega]
        rw [e] at hj
        exact hj) ad m c (U8 ys) (by rw [hz1]; simp [hl]) hnews (by omega) (by omega) (by rw [hz2]; exact growslice_fits (by omega) (by omega))
      refine ⟨_, _, hr, ⟨by simp [hxl, hl], .inr ⟨w.heap.size, _, _, (0, 0), rfl, hbase, heap_alloc_new w.drew _, .inl rfl, hg2, grownCap_le_maxLen w (n + m) cap 5 (by unfold maxLen; omega), ?_, ?_⟩⟩, ⟨rfl, rfl, rfl, by simp, fun k hk _ => heap_alloc_old w.drew _ hk⟩⟩
      · have hz : (Value.int IntKind.u8 0).cells.size = 1 := rfl
        simp only [Array.size_append, List.size_toArray, size_zeroCells, hz, U8, List.length_map]
        omega
      · simp only [Array.toList_append, List.append_assoc]
        rw [← List.append_assoc, show n + m = ((U8 xs) ++ (U8 ys)).length by simp [hxl, hl]]
        rw [List.take_left]
        simp [U8]
/-- append of a text behind such a row, as it runs. -/
theorem app_str_M (w : World) (base : Nat) (ty : TypeId) (v : Value) (n : Nat) (xs : List Int) (h : ownM w base v n xs) (s : ByteArray) (hn : n + s.size ≤ 1048576) (hbase : base ≤ w.heap.size) :
    ∃ v' w', (Builtin.append_ #[22, 9] ty #[v, .string s]).run Tryd.prog w = .ok v' w' ∧ ownM w' base v' (n + s.size) (xs ++ stB s) ∧ w.grownBy w' v.ownBlock := by
  obtain ⟨i0, hi, hz0, hz1, hz2⟩ := info_parts Tryd.info5
  have h0 := h
  have hsl := stB_len s
  obtain ⟨hxl, ⟨rfl, rfl⟩ | ⟨g, cap, cur, fz, rfl, hbg, hgg, hfar, hnc, hcm, hcs, htake⟩⟩ := h
  · have hx : xs = [] := List.eq_nil_of_length_eq_zero hxl
    subst hx
    obtain ⟨v', w', hr, o, gr, _⟩ := app_str_at w base ty (.slice none 0 0) 0 [] (World.ownsRow_nil _ _ _ _) s (by omega) hbase
    refine ⟨v', w', hr, ?_, gr⟩
    have := ownM.of o
    simpa [hsl] using this
  · by_cases hroom : n + s.size ≤ cap
    · obtain ⟨w', cur', hst, hg', hs', ht', gr⟩ := storeM Tryd.prog g n 5 fz (Lib.strCells s) 0 cur w hgg (by rw [hcs]; exact hfar) (by rw [Lib.strCells_length]; omega) (Lib.strCells_oneCell s)
      have hf := Lib.run_firstCells_string (P := Tryd.prog) w 1 s
      refine ⟨.slice (some ⟨g, 0, none⟩) (n + s.size) cap, w', ?_, ⟨by simp [hxl, hsl], .inr ⟨g, cap, cur', fz, rfl, hbg, hg', hfar, hroom, hcm, by omega, ?_⟩⟩, gr⟩
      · simp [Builtin.append_, run_underlying Tryd.underlying22, run_underlying Tryd.underlying9, sizeOf, typeInfo, hi, hz1, Builtin.lenOf, hroom, hf, Addr.add_lit, hst]
      · rw [Nat.add_zero, Lib.strCells_length] at ht'
        rw [ht', htake, stB_cells]
        simp [U8]
    · have hg2 := grownCap_ge w (n + s.size) cap 5
      have hr := Lib.run_append_grow_string (P := Tryd.prog) w 22 9 ty 5 i0 (.int .u8 0) Tryd.underlying22 Tryd.underlying9 hi hz0 ⟨g, 0, none⟩ n cap (U8 xs) (by rw [hz1]; simpa using hxl) (by
        intro j u hj
        have hjl : j < n := by
          have := (List.getElem?_eq_some_iff.1 hj).1
          simpa [hxl] using this
        rw [Addr.add_lit, Nat.zero_add, h0.cells j hjl]
        have e : (U8 xs)[j]? = some (.int .u8 (xs.getD j 0)) := by simp [show j < xs.length by omega]
        rw [e] at hj
        exact hj) s (by omega) (by omega) (by rw [hz2]; exact growslice_fits (by omega) (by omega))
      refine ⟨_, _, hr, ⟨by simp [hxl, hsl], .inr ⟨w.heap.size, _, _, (0, 0), rfl, hbase, heap_alloc_new w.drew _, .inl rfl, hg2, grownCap_le_maxLen w (n + s.size) cap 5 (by unfold maxLen; omega), ?_, ?_⟩⟩, ⟨rfl, rfl, rfl, by simp, fun k hk _ => heap_alloc_old w.drew _ hk⟩⟩
      · have hz : (Value.int IntKind.u8 0).cells.size = 1 := rfl
        simp only [Array.size_append, List.size_toArray, size_zeroCells, hz, U8, List.length_map, Lib.strCells_length]
        omega
      · simp only [Array.toList_append, List.append_assoc]
        rw [← List.append_assoc, stB_cells, show n + s.size = ((U8 xs) ++ (U8 (stB s))).length by simp [hxl, hsl]]
        rw [List.take_left]
        simp [U8]
/-- The row of a text that is turned into bytes. -/
theorem conv_M (w : World) (s : ByteArray) (hs : s.size ≤ 1048576) : ownM (Lib.bytesWorld w 5 s) w.heap.size (.slice (some ⟨w.heap.size, 0, none⟩) s.size (grownCap w s.size 0 5)) s.size (stB s) := by
  refine ⟨stB_len s, .inr ⟨w.heap.size, _, _, _, rfl, Nat.le_refl _, Lib.bytesWorld_at_new w 5 s, .inr ?_, grownCap_ge _ _ _ _, grownCap_le_maxLen w s.size 0 5 (by unfold maxLen; omega), ?_, ?_⟩⟩
  · have := grownCap_ge w s.size 0 5
    have e : s.data.size = s.size := rfl
    simp only [Lib.bytesCells, Array.size_append, Array.size_map, Array.size_replicate]
    omega
  · have := grownCap_ge w s.size 0 5
    have e : s.data.size = s.size := rfl
    simp only [Lib.bytesCells, Array.size_append, Array.size_map, Array.size_replicate]
    omega
  · have e : s.size = (s.data.toList.map fun b => Value.int .u8 b.toNat).length := by rw [List.length_map, Array.length_toList]; rfl
    have e2 : (Lib.bytesCells w 5 s).toList = (s.data.toList.map fun b => Value.int .u8 b.toNat) ++ (Array.replicate (grownCap w s.size 0 5 - s.size) (Value.int .u8 0)).toList := by simp [Lib.bytesCells]
    rw [e2, e, List.take_left]
    exact stB_cells s
end Go.Proofs.YtjceajgefpinpaaDoor
