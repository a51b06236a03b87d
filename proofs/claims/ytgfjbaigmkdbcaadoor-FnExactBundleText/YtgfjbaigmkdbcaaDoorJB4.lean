/-
  What is proved here: what the specification's l8words does: it writes a word and numbers behind a row; append of a text's bytes behind a row of its own, and where the row lies then; the contract of the specification's l8words.
-/
import Derived.Test.YtgfjbaigmkdbcaaDoorJB1
import Derived.Test.YtgfjbaigmkdbcaaDoorJB3
import Derived.Lib.AppendStr
import Derived.Deep.CutRange
import Derived.Maps.AppendAt
namespace Go.Proofs.YtgfjbaigmkdbcaaDoor
open Go.RowKit
set_option maxRecDepth 100000
set_option maxHeartbeats 4000000
set_option linter.unusedVariables false

/-- Numbers, each behind a blank. -/
def nmL : List Int → List Int
  | [] => []
  | x :: t => 32 :: dgs x.toNat ++ nmL t
/-- A line. -/
def lnL (ws ns : List Int) : List Int := ws ++ nmL ns ++ [10]
theorem nmL_snoc : ∀ (l : List Int) (x : Int), nmL (l ++ [x]) = nmL l ++ (32 :: dgs x.toNat)
  | [], x => by simp [nmL]
  | y :: t, x => by
    show 32 :: dgs y.toNat ++ nmL (t ++ [x]) = _
    rw [nmL_snoc t x]
    simp [nmL]
abbrev nsOk (ns : List Int) : Prop := ∀ x ∈ ns, 0 ≤ x ∧ x ≤ 1000000
theorem nmL_len : ∀ (l : List Int), nsOk l → (nmL l).length ≤ 8 * l.length
  | [], _ => by simp [nmL]
  | x :: t, h => by
    have h1 := nmL_len t (fun y hy => h y (List.mem_cons_of_mem _ hy))
    have h2 := dgs_le (n := x.toNat) (by have := h x List.mem_cons_self; omega)
    simp [nmL]
    omega
theorem nmL_byte : ∀ (l : List Int), ∀ x ∈ nmL l, 0 ≤ x ∧ x < 256
  | [], x, h => by simp [nmL] at h
  | y :: t, x, h => by
    simp only [nmL, List.cons_append, List.mem_cons, List.mem_append] at h
    rcases h with rfl | h | h
    · omega
    · exact dgs_byte _ x h
    · exact nmL_byte t x h
/-- The bytes of a text. -/
def stB (s : ByteArray) : List Int := s.data.toList.map fun b => (b.toNat : Int)
theorem stB_len (s : ByteArray) : (stB s).length = s.size := by unfold stB; rw [List.length_map, Array.length_toList]; rfl
theorem stB_byte (s : ByteArray) : ∀ x ∈ stB s, 0 ≤ x ∧ x < 256 := by
  intro x hx
  unfold stB at hx
  rw [List.mem_map] at hx
  obtain ⟨b, _, rfl⟩ := hx
  have := b.toNat_lt
  omega
theorem stB_cells (s : ByteArray) : Lib.strCells s = U8 (stB s) := by simp [Lib.strCells, stB, U8]
theorem lnL_byte (s : ByteArray) (ns : List Int) : ∀ x ∈ lnL (stB s) ns, 0 ≤ x ∧ x < 256 := by
  intro x hx
  unfold lnL at hx
  rw [List.mem_append, List.mem_append] at hx
  rcases hx with (hx | hx) | hx
  · exact stB_byte s x hx
  · exact nmL_byte ns x hx
  · simp at hx; omega
theorem lnL_len (s : ByteArray) (ns : List Int) (h : nsOk ns) : (lnL (stB s) ns).length ≤ s.size + 8 * ns.length + 1 := by
  unfold lnL
  rw [List.length_append, List.length_append, stB_len]
  have := nmL_len ns h
  simp
  omega
/-- append, as it runs: bytes behind a row of its own. -/
theorem run_app_own (w : World) (base : Nat) (ty : TypeId) (v : Value) (n : Nat) (xs : List Int) (hown : w.ownsRow base 5 1 v n (U8 xs)) (ao : Option Addr) (m c : Nat) (ys : List Int) (hb : Bs w ao m c ys) (hn : n + m ≤ 1048576) (hbase : base ≤ w.heap.size) (ha : ao ≠ none) :
    ∃ v' w', (Builtin.append_ #[27, 27] ty #[v, .slice ao m c]).run Tryd.prog w = .ok v' w' ∧ w'.ownsRow base 5 1 v' (n + m) (U8 (xs ++ ys)) ∧ w.grownBy w' v.ownBlock := by
  obtain ⟨i0, hi, hz0, hz1, hz2⟩ := info_parts Tryd.info5
  obtain ⟨hcap, hl, hc, _, hb⟩ := hb
  cases ao with
  | none => exact absurd rfl ha
  | some ad =>
    obtain ⟨v', w', h1, h2, h3, _⟩ := run_append_own (P := Tryd.prog) w base 27 ty 5 i0 (.int .u8 0) 1 1 Tryd.underlying27 hi hz0 hz1 hz2 rfl (by decide) v n (U8 xs) hown ad m c (U8 ys) (by simp [hl]) (by
      intro j u hj
      rcases hb with hb | ⟨b, off, ha, _, hcell⟩
      · have hy : ys = [] := List.eq_nil_of_length_eq_zero (by omega)
        subst hy
        simp at hj
      · obtain rfl := Option.some.inj ha
        have hjl : j < m := by
          have := (List.getElem?_eq_some_iff.1 hj).1
          simpa [hl] using this
        rw [Addr.add_lit, hcell j hjl]
        have e : (U8 ys)[j]? = some (.int .u8 (ys.getD j 0)) := by simp [show j < ys.length by omega]
        rw [e] at hj
        exact hj) (ints_oneCell _ _) (by unfold maxLen; omega) (by omega) hbase
    exact ⟨v', w', h1, by simpa using h2, h3⟩
/-- Where the row of a value may lie: where another lies, or behind a point. -/
abbrev Nr (G : Option Nat) (Z : Nat) (v : Value) : Prop := ∀ k, v.ownBlock = some k → G = some k ∨ Z ≤ k
abbrev kz1 (d Z : Nat) (x : Int) : Kd := (some d, (fun l _ => .slice (some ⟨l, 0, none⟩) 1 1), fun l h w _ => Arr w l 5 [.int .u8 x] ∧ l < h ∧ Z ≤ l)
def Dz (Z n : Nat) (xs : List Int) (l h : Nat) (w : World) (v : Value) : Prop := w.ownsRow l 5 1 v n (U8 xs) ∧ In v l h ∧ Z ≤ l
def Da (base n : Nat) (xs : List Int) (_ _ : Nat) (w : World) (v : Value) : Prop := w.ownsRow base 5 1 v n (U8 xs)
theorem arr_gr {w w' : World} {g : Nat} {t : TypeId} {cs : List Value} {G : Option Nat} (h : Arr w g t cs) (hg : w.grownBy w' G) (hn : G ≠ some g) : Arr w' g t cs := by
  unfold Arr
  rw [hg.block g h.lt (fun e => hn e.symm)]
  exact h
theorem own_gr {w w' : World} {b e s n : Nat} {v : Value} {l : List Value} {G : Option Nat} (h : w.ownsRow b e s v n l) (hg : w.grownBy w' G) (hn : ∀ k, v.ownBlock = some k → G ≠ some k) : w'.ownsRow b e s v n l := by
  refine ⟨h.1, ?_⟩
  rcases h.2 with hn0 | ⟨g, cap, cur, rfl, hb, hgg, rest⟩
  · exact .inl hn0
  · refine .inr ⟨g, cap, cur, rfl, hb, ?_, rest⟩
    rw [hg.block g (Array.getElem?_eq_some_iff.1 hgg).1 (fun e => hn g rfl e.symm)]
    exact hgg
end Go.Proofs.YtgfjbaigmkdbcaaDoor
namespace Go.Proofs.YtgfjbaigmkdbcaaDoor
open Go.RowKit
set_option maxRecDepth 100000
set_option maxHeartbeats 4000000
set_option linter.unusedVariables false

theorem app_str_at (w : World) (base : Nat) (ty : TypeId) (v : Value) (n : Nat) (xs : List Int) (hown : w.ownsRow base 5 1 v n (U8 xs)) (s : ByteArray) (hn : n + s.size ≤ 1048576) (hbase : base ≤ w.heap.size) :
    ∃ v' w', (Builtin.append_ #[27, 9] ty #[v, .string s]).run Tryd.prog w = .ok v' w' ∧ w'.ownsRow base 5 1 v' (xs ++ stB s).length (U8 (xs ++ stB s)) ∧ w.grownBy w' v.ownBlock ∧ (∀ k, v'.ownBlock = some k → v.ownBlock = some k ∨ w.heap.size ≤ k) := by
  obtain ⟨i0, hi, hz0, hz1, hz2⟩ := info_parts Tryd.info5
  have hxl : xs.length = n := by have := hown.1; simpa using this
  obtain ⟨v', w', hr, o, g, _⟩ := Lib.run_append_own_string (P := Tryd.prog) w base 27 9 ty 5 i0 Tryd.underlying27 Tryd.underlying9 hi hz0 hz1 hz2 v n (U8 xs) hown s (by unfold maxLen; omega) (by omega) hbase
  refine ⟨v', w', hr, ?_, g, fun k hk => ?_⟩
  · rw [List.length_append, stB_len, hxl]
    rw [stB_cells] at o
    simpa using o
  · rcases hown.2 with ⟨rfl, h0⟩ | ⟨gb, cap, cur, rfl, hbg, hgg, h1, h2, h3, h4⟩
    · have hx : xs = [] := List.eq_nil_of_length_eq_zero (by omega)
      subst hx
      subst h0
      obtain ⟨v2, w2, hr2, o2, _, _⟩ := Lib.run_append_own_string (P := Tryd.prog) w w.heap.size 27 9 ty 5 i0 Tryd.underlying27 Tryd.underlying9 hi hz0 hz1 hz2 (.slice none 0 0) 0 [] (World.ownsRow_nil _ _ _ _) s (by unfold maxLen; omega) (by omega) (Nat.le_refl _)
      have e := hr.symm.trans hr2
      simp only [Result.ok.injEq] at e
      rw [e.1] at hk
      exact .inr (o2.lt k hk).1
    · by_cases hroom : n + s.size ≤ cap
      · have hr2 := Lib.run_append_room_string (P := Tryd.prog) w 27 9 ty 5 i0 Tryd.underlying27 Tryd.underlying9 hi hz1 gb n cap cur hgg s hroom (by omega)
        have e := hr.symm.trans hr2
        simp only [Result.ok.injEq] at e
        rw [e.1] at hk
        exact .inl hk
      · have hr2 := Lib.run_append_grow_string (P := Tryd.prog) w 27 9 ty 5 i0 (.int .u8 0) Tryd.underlying27 Tryd.underlying9 hi hz0 ⟨gb, 0, none⟩ n cap (U8 xs) (by rw [hz1]; simpa using hxl) (hown.cells (g := gb) rfl) s (by omega) (by omega) (by rw [hz2]; exact growslice_fits (by omega) (by omega))
        have e := hr.symm.trans hr2
        simp only [Result.ok.injEq] at e
        rw [e.1] at hk
        cases hk
        exact .inr (Nat.le_refl _)
theorem wpl_append_str {w : World} {ops : Array Oper} {rest : List Oper} {o : Oper} {a : Act} {Q : Exit → Act → World → Prop} (hgd : o.guard = none) (sl x : Operand)
    (ho : o.op = .call { callee := .builtin .append, args := #[sl, x], argTypes := #[27, 9] })
    (base : Nat) (v : Value) (n : Nat) (xs : List Int) (hs : a.eval sl = v) (hown : w.ownsRow base 5 1 v n (U8 xs)) (s : ByteArray) (hx : a.eval x = .string s) (hn : n + s.size ≤ 1048576) (hbase : base ≤ w.heap.size)
    (h : ∀ v' w', w'.ownsRow base 5 1 v' (xs ++ stB s).length (U8 (xs ++ stB s)) → w.grownBy w' v.ownBlock → (∀ k, v'.ownBlock = some k → v.ownBlock = some k ∨ w.heap.size ≤ k) → wpList Tryd.prog ops Q rest (a.put o.dst v') w') :
    wpList Tryd.prog ops Q (o :: rest) a w := by
  refine wpList_plain hgd fun K hK => ?_
  obtain ⟨v', w', hr, h2, h3, h4⟩ := app_str_at w base o.type v n xs hown s hn hbase
  unfold Oper.wp execOp
  simp only [ho, resolve, invoke, builtin, Sem.run_bind, Sem.run_pure, Result.andThen_ok, List.map_toArray, List.map_cons, List.map_nil, hs, hx, hr]
  exact hK _ _ (h v' w' h2 h3 h4)
/-- append of bytes, as it runs, and where the row lies then. -/
theorem run_app_at (w : World) (base : Nat) (ty : TypeId) (v : Value) (n : Nat) (xs : List Int) (hown : w.ownsRow base 5 1 v n (U8 xs)) (ad : Addr) (m c : Nat) (ys : List Int) (hb : Bs w (some ad) m c ys) (hn : n + m ≤ 1048576) (hbase : base ≤ w.heap.size) :
    ∃ v' w', (Builtin.append_ #[27, 27] ty #[v, .slice (some ad) m c]).run Tryd.prog w = .ok v' w' ∧ w'.ownsRow base 5 1 v' (n + m) (U8 (xs ++ ys)) ∧ w.grownBy w' v.ownBlock ∧ (∀ k, v'.ownBlock = some k → v.ownBlock = some k ∨ w.heap.size ≤ k) := by
  obtain ⟨i0, hi, hz0, hz1, hz2⟩ := info_parts Tryd.info5
  obtain ⟨hcap, hl, hc, _, hb⟩ := hb
  obtain ⟨v', w', h1, h2, h3, _, h5⟩ := run_append_own_at (P := Tryd.prog) w base 27 ty 5 i0 (.int .u8 0) 1 1 Tryd.underlying27 hi hz0 hz1 hz2 rfl (by decide) v n (U8 xs) hown ad m c (U8 ys) (by simp [hl]) (by
    intro j u hj
    rcases hb with hb | ⟨b, off, ha, _, hcell⟩
    · have hy : ys = [] := List.eq_nil_of_length_eq_zero (by omega)
      subst hy
      simp at hj
    · obtain rfl := Option.some.inj ha
      have hjl : j < m := by
        have := (List.getElem?_eq_some_iff.1 hj).1
        simpa [hl] using this
      rw [Addr.add_lit, hcell j hjl]
      have e : (U8 ys)[j]? = some (.int .u8 (ys.getD j 0)) := by simp [show j < ys.length by omega]
      rw [e] at hj
      exact hj) (ints_oneCell _ _) (by unfold maxLen; omega) (by omega) hbase
  refine ⟨v', w', h1, by simpa using h2, h3, fun k hk => ?_⟩
  rcases h5 with h5 | h5
  · exact .inl (h5.symm.trans hk)
  · rw [h5] at hk
    cases hk
    exact .inr (Nat.le_refl _)
end Go.Proofs.YtgfjbaigmkdbcaaDoor
namespace Go.Proofs.YtgfjbaigmkdbcaaDoor
open Go.RowKit
set_option maxRecDepth 100000
set_option maxHeartbeats 8000000
set_option linter.unusedVariables false

theorem cell_gr {w w' : World} {G : Option Nat} {b o : Nat} (h : w.grownBy w' G) (hl : b < w.heap.size) (hn : G ≠ some b) : w'.cell? ⟨b, o, none⟩ = w.cell? ⟨b, o, none⟩ := by
  unfold World.cell?
  simp only [h.block b hl (fun e => hn e.symm)]
theorem gr_chain {w a b : World} {G0 G1 : Option Nat} (h : w.grownBy a G0) (h1 : a.grownBy b G1) (hn : ∀ k, G1 = some k → G0 = some k ∨ w.heap.size ≤ k) : w.grownBy b G0 :=
  ⟨h1.os.trans h.os, h1.tape.trans h.tape, h1.output.trans h.output, Nat.le_trans h.size h1.size, fun i hi hne => by
    rw [h1.block i (Nat.lt_of_lt_of_le hi h.size) (fun e => by rcases hn i e.symm with h | h; exact hne h.symm; omega), h.block i hi hne]⟩
section
variable {P : Program} {G : Option Nat} {Z : Nat}
theorem kz1_kw {d : Nat} {x : Int} (hG : ∀ k, G = some k → k < Z) : Kwp false G (kz1 d Z x) := fun l h w w' v D hz hs => by
  have hs' : w.grownBy w' G := by simpa using hs
  exact ⟨arr_gr D.1 hs' (fun e => by have := hG l e; have := D.2.2; omega), D.2⟩
theorem dz_kw {d n : Nat} {xs : List Int} (hG : ∀ k, G = some k → k < Z) : Kwp false G (kv d (Dz Z n xs)) := fun l h w w' v D hz hs => by
  have hs' : w.grownBy w' G := by simpa using hs
  exact ⟨own_gr D.1 hs' (fun k hk e => by have := hG k e; have := D.2.1 k hk; have := D.2.2; omega), D.2⟩
theorem dl_kw {d base n : Nat} {xs : List Int} {v0 : Value} : Kwp true G (kv d (fun _ _ w v => w.ownsRow base 5 1 v n (U8 xs) ∧ ∀ k, v.ownBlock = some k → v0.ownBlock = some k ∨ Z ≤ k)) := fun l h w w' v D hz hs => by
  have hs' : Below w.heap.size w w' := by simpa using hs
  exact ⟨own_below D.1 hs', D.2⟩
theorem ow2 {X Y : Prop} {ev : Operand → Value} {o : Oper} {k : Kd} {w : World} (h : Dty X (TOb P ev o k w)) : Dty (X ∧ Y) (Tw P false G ev o k w) := ⟨fun x => Tw.of (h.out x.1)⟩
theorem tw_val {ev : Operand → Value} {o : Oper} {k : Kd} {b : Bool} {w w' : World} {v : Value} (h : (execOp ev o).run P w = .ok (.value v) w') (hR : Rsw b G k w v w') : Tw P b G ev o k w := ⟨by
  unfold TwR
  rw [h]
  exact hR⟩
theorem tz1 {ev : Operand → Value} {o : Oper} {d : Nat} {w : World} {X : Prop} {x : Int} (hz : Z ≤ w.heap.size) (h : (execOp ev o).run P w = .ok (.value (.slice (some ⟨w.heap.size, 0, none⟩) 1 1)) (w.alloc (.cells #[.int .u8 x] 5))) : Dty X (TOb P ev o (kz1 d Z x) w) := ⟨fun _ => by
  refine ⟨?_⟩
  unfold TObR
  rw [h]
  exact ⟨undef, rfl, (Below.refl _ _).alloc (Nat.le_refl _) _, Arr.new w [.int .u8 x] 5, by simp, hz⟩⟩
end
theorem specL8words (base : Nat) (vb : Value) (n0 : Nat) (xs0 : List Int) (s : ByteArray) (a : Option Addr) (m c : Nat) (ns : List Int) (w : World) (hb : w.ownsRow base 5 1 vb n0 (U8 xs0)) (hbase : base ≤ w.heap.size) (hn0 : n0 ≤ 500000) (hs : s.size ≤ 1000)
    (hI : Is w a m c ns) (hm : m ≤ 100) (hns : nsOk ns) (hne : ∀ ad, a = some ad → vb.ownBlock ≠ some ad.block) :
    Calls Tryd.prog 28 #[vb, .string s, .slice a m c] w fun e w' => ∃ v, e = .returned v ∧ w'.ownsRow base 5 1 v (xs0 ++ lnL (stB s) ns).length (U8 (xs0 ++ lnL (stB s) ns)) ∧ w.grownBy w' vb.ownBlock := by
  have hxl : xs0.length = n0 := by have := hb.1; simpa using this
  have hsl := stB_len s
  have HI : Hid (Is w a m c ns) := hI
  have HNS : Hid (nsOk ns) := hns
  have HNE : Hid (∀ ad, a = some ad → vb.ownBlock ≠ some ad.block) := hne
  obtain ⟨G0, hG0⟩ : ∃ G0, G0 = vb.ownBlock := ⟨_, rfl⟩
  rw [← hG0] at HNE ⊢
  clear hI hns hne
  go_enter Tryd.func28, Tryd.ntmps28
  go_wp2_with (at_builtin; refine wpl_append_str (w := w) rfl _ _ rfl base vb n0 xs0 rfl hb s rfl (by omega) hbase ?_)
  intro v1 w1 o1 g1 l1
  replace o1 : w1.ownsRow base 5 1 v1 (xs0 ++ stB s).length (U8 (xs0 ++ stB s)) := by
    rw [List.length_append, hxl, hsl]
    simpa using o1
  rw [← hG0] at g1 l1
  have hml : (xs0 ++ stB s).length ≤ 501000 := by rw [List.length_append]; omega
  obtain ⟨Y, hY⟩ : ∃ Y, Y = xs0 ++ stB s := ⟨_, rfl⟩
  rw [← hY] at o1 hml
  have HE : Hid (∀ l, xs0 ++ lnL (stB s) l = Y ++ nmL l ++ [10]) := fun l => by rw [hY]; simp [lnL]
  have hlen : ns.length = m := HI.out.2.1
  have HLn : Hid _ := hlen
  have z1 := g1.size
  have HO1 : Hid (w1.ownsRow base 5 1 v1 Y.length (U8 Y)) := o1
  have HG1 : Hid (w.grownBy w1 G0) := g1
  have HN1 : Hid (Nr G0 w.heap.size v1) := l1
  clear hY hb hG0 hlen o1 g1 l1 hsl hxl
  go_wp2
  go_loopw [0, 7] (fun v i wr => ∃ k : Nat, k ≤ m ∧ i = .int .i64 k ∧ Hid (wr.ownsRow base 5 1 v (Y ++ nmL (ns.take k)).length (U8 (Y ++ nmL (ns.take k)))) ∧ Hid (w.grownBy wr G0) ∧ Hid (Nr G0 w.heap.size v)) (fun _ i _ => m - (intOf i).toNat)
  case atStart => exact ⟨0, by omega, rfl, by have := HO1.out; unfold Hid; simpa [nmL] using this, HG1.out, HN1.out⟩
  case round =>
    clear HO1 HG1 HN1
    obtain ⟨k, hk, rfl, HO, HG, HN⟩ := hrel
    by_cases hlt : k < m
    · obtain ⟨b, o, rfl, hbs, hcell⟩ : ∃ b o, a = some ⟨b, o, none⟩ ∧ b < w.heap.size ∧ ∀ i, i < m → w.cell? ⟨b, o + i, none⟩ = some (.int .i64 (ns.getD i 0)) := by
        rcases HI.out.2.2.2.2 with h | h
        · omega
        · exact h
      have hGb : u0.ownBlock ≠ some b := fun e => by
        rcases HN.out b e with h | h
        · exact HNE.out _ rfl h
        · omega
      have hx0 := HNS.out (ns.getD k 0) (by
        have hl := HLn.out
        rw [List.getD_eq_getElem?_getD, List.getElem?_eq_getElem (by omega)]
        exact List.getElem_mem _)
      have hck := hcell k hlt
      have hsnoc : ns.take (k + 1) = ns.take k ++ [ns.getD k 0] := by
        have hl := HLn.out
        rw [List.take_succ_eq_append_getElem (by omega)]
        simp [show k < ns.length by omega]
      obtain ⟨x, hx⟩ : ∃ x, x = ns.getD k 0 := ⟨_, rfl⟩
      rw [← hx] at hx0 hck hsnoc
      obtain ⟨N, hN⟩ : ∃ N : Nat, x = (N : Int) := ⟨x.toNat, by omega⟩
      subst hN
      have hN1 : N ≤ 1000000 := by omega
      have HSn : Hid (nmL (ns.take (k + 1)) = nmL (ns.take k) ++ (32 :: dgs N)) := by unfold Hid; rw [hsnoc, nmL_snoc]; simp
      have hnl := nmL_len (ns.take k) (fun y hy => HNS.out y (List.mem_of_mem_take hy))
      have htk : (ns.take k).length ≤ k := by simp; omega
      have hdl := dgs_le hN1
      have hdp : 1 ≤ (dgs N).length := by
        by_cases h : N < 10
        · rw [dgs_one h]; simp
        · rw [dgs_more h]; simp
      obtain ⟨X, hX⟩ : ∃ X, X = Y ++ nmL (ns.take k) := ⟨_, rfl⟩
      have hXl : X.length ≤ 501800 := by rw [hX, List.length_append]; omega
      have HSX : Hid (Y ++ nmL (ns.take (k + 1)) = X ++ [32] ++ dgs N) := by unfold Hid; rw [HSn.out, hX]; simp
      rw [← hX] at HO
      have hcw : wr.cell? ⟨b, o + k, none⟩ = some (.int .i64 (N : Int)) := (cell_gr HG.out hbs (HNE.out _ rfl)).trans hck
      have hbr : b < wr.heap.size := Nat.lt_of_lt_of_le hbs HG.out.size
      have hv : ∀ q, u0.ownBlock = some q → q < wr.heap.size := fun q hq => (World.ownsRow.lt HO.out q hq).2
      have hbw : base ≤ wr.heap.size := Nat.le_trans hbase HG.out.size
      have HCell : Hid _ := hcw
      have HV : Hid _ := hv
      have HGb : Hid _ := hGb
      clear hx hcell hck hsnoc hX hcw hv hGb htk hnl HSn
      go_wp2
      try simp only [Act.put]
      refine tameW (p := 2) (G := u0.ownBlock) (R := fun W => W.ownsRow base 5 1 u0 X.length (U8 X)) [kc 17 u0, kz1 18 wr.heap.size 32, kv 19 (fun _ _ W u => W.ownsRow base 5 1 u (X.length + 1) (U8 (X ++ [32])) ∧ ∀ q, u.ownBlock = some q → u0.ownBlock = some q ∨ wr.heap.size ≤ q), kc 20 (.slice (some ⟨b, o, none⟩) m c), kc 21 (.int .i64 (k : Int)), kc 22 (.pointer (some ⟨b, o + k, none⟩)), kc 23 (.int .i64 (N : Int)), kv 24 (Dz wr.heap.size (dgs N).length (dgs N))] 8 (by kernel_rfl) (by kernel_rfl) (by kernel_rfl) ⟨kc_kw _ _ _ _, kz1_kw HV.out, dl_kw, kc_kw _ _ _ _, kc_kw _ _ _ _, kc_kw _ _ _ _, kc_kw _ _ _ _, dz_kw HV.out, trivial⟩ (by kernel_rfl) HO.out (fun _ _ h hb => own_below h hb) 2 (by kernel_rfl) (fun vv ll hh yW bW => ?_) (fun vv ll hh yW bW F ivh aph => ?_)
      · have x0 := (cell_gr bW hbr HGb.out).trans HCell.out
        have hz := bW.size
        refine ⟨ow2 (tp (by kernel_rfl)), ow2 (tz1 hz ?g1), ⟨fun XR => ?g2⟩, ow2 (tp (by kernel_rfl)), ow2 (tp (by kernel_rfl)), ow2 (tp ?g3), ow2 (tp ?g4), ow2 (tr (f := 51) (args := #[.int .i64 (N : Int)]) (fun _ => (specDigits N yW hN1).mono (by rintro e w' ⟨u, rfl, o, hb⟩; exact ⟨u, rfl, u, rfl, hb, o, In.of o, hz⟩)) (by kernel_rfl)), trivial⟩
        case g2 =>
          have f1 : Arr yW (ll 1) 5 [.int .u8 32] ∧ ll 1 < hh 1 ∧ wr.heap.size ≤ ll 1 := XR.1 ⟨1, .data⟩ (by simp) rfl _ rfl
          have hB1 : Bs yW (some ⟨ll 1, 0, none⟩) 1 1 [32] := ⟨(fun h => by cases h), rfl, Nat.le_refl _, by intro x hx; simp at hx; omega, .inr ⟨ll 1, 0, rfl, f1.1.lt, fun j hj => by
            have : j = 0 := by omega
            subst this
            exact f1.1.cell 0⟩⟩
          obtain ⟨v', w', hr, ho, hg, hloc⟩ := run_app_at yW base 27 u0 X.length X (XR.2 rfl) ⟨ll 1, 0, none⟩ 1 1 [32] hB1 (by omega) (by omega)
          refine tw_val (v := v') (w' := w') ?_ ⟨v', rfl, hg, ho, fun q hq => by rcases hloc q hq with h | h; exact .inl h; exact .inr (by omega)⟩
          simp only [fillK, putT, List.setIfInBounds_toArray, List.set_cons_zero, List.set_cons_succ]
          unfold execOp
          simp only [resolve, invoke, builtin, Sem.run_bind, Sem.run_pure, Result.andThen_ok, List.map_toArray, List.map_cons, List.map_nil]
          exact congrArg (fun q => q.andThen fun a w' => Result.ok (Next.value a) w') hr
        all_goals
          simp only [fillK, putT, List.setIfInBounds_toArray, List.set_cons_zero, List.set_cons_succ]
          unfold execOp
          go_simp
          try rfl
      have F2 : yW.ownsRow base 5 1 (vv 2) (X.length + 1) (U8 (X ++ [32])) ∧ ∀ q, (vv 2).ownBlock = some q → u0.ownBlock = some q ∨ wr.heap.size ≤ q := F.2.2.1
      have F7 : Dz wr.heap.size (dgs N).length (dgs N) (ll 7) (hh 7) yW (vv 7) := F.2.2.2.2.2.2.2.1
      clear F ivh aph
      obtain ⟨y, hy⟩ : ∃ z, z = yW := ⟨_, rfl⟩
      rw [← hy] at bW F2 F7 ⊢
      clear hy
      obtain ⟨v2, hv2⟩ : ∃ q, q = vv 2 := ⟨_, rfl⟩
      obtain ⟨v7, hv7⟩ : ∃ q, q = vv 7 := ⟨_, rfl⟩
      rw [← hv2] at F2
      rw [← hv7] at F7
      obtain ⟨a7, c7, e7, _, hB7⟩ := Bs.own F7.1 (dgs_byte N)
      obtain ⟨ad, rfl⟩ : ∃ ad, a7 = some ad := by
        cases a7 with
        | some ad => exact ⟨ad, rfl⟩
        | none => have := hB7.1 rfl; have := hB7.2.2.1; omega
      have hyz := bW.size
      obtain ⟨v8, y8, hr8, ho8, hg8, hl8⟩ := run_app_at y base 27 v2 (X.length + 1) (X ++ [32]) F2.1 ad (dgs N).length c7 (dgs N) hB7 (by omega) (by omega)
      have HO8 : Hid (y8.ownsRow base 5 1 v8 (Y ++ nmL (ns.take (k + 1))).length (U8 (Y ++ nmL (ns.take (k + 1))))) := by
        unfold Hid
        rw [HSX.out, List.length_append, List.length_append]
        exact ho8
      have HG8 : Hid (w.grownBy y8 G0) := by
        unfold Hid
        refine gr_chain (gr_chain HG.out bW (fun q hq => HN.out q hq)) hg8 (fun q hq => ?_)
        rcases F2.2 q hq with h | h
        · exact HN.out q h
        · exact .inr (Nat.le_trans HG.out.size h)
      have HN8 : Hid (Nr G0 w.heap.size v8) := by
        unfold Hid
        intro q hq
        rcases hl8 q hq with h | h
        · rcases F2.2 q h with h | h
          · exact HN.out q h
          · exact .inr (Nat.le_trans HG.out.size h)
        · exact .inr (by have := HG.out.size; omega)
      have hr9 : (Builtin.append_ #[27, 27] 27 #[vv 2, vv 7]).run Tryd.prog y = .ok v8 y8 := by
        rw [← hv2, ← hv7, e7]
        exact hr8
      refine st_val (i := 8) (o := { dst := some 25, op := Op.call { callee := Callee.builtin Builtin.append, args := #[Operand.tmp 19, Operand.tmp 24], argTypes := #[27, 27] }, type := 27, pos := "l08_bundle.go:427", after := #[{ on := 2, ground := Ground.data }, { on := 7, ground := Ground.data }, { on := 7, ground := Ground.chain }], guard := none }) (by kernel_rfl) rfl rfl (v := v8) (w' := y8) ?_ ?_
      · simp only [fillK, putT, List.setIfInBounds_toArray, List.set_cons_zero, List.set_cons_succ]
        unfold execOp
        simp only [resolve, invoke, builtin, Sem.run_bind, Sem.run_pure, Result.andThen_ok, List.map_toArray, List.map_cons, List.map_nil]
        exact congrArg (fun q => q.andThen fun a w' => Result.ok (Next.value a) w') hr9
      clear hr8 hr9 ho8 hg8 hl8 F2 F7 hB7 e7 hv2 hv7 bW HO HG HN
      refine st_val (i := 9) (o := { dst := some 0, op := Op.assign (Operand.tmp 25), type := 27, pos := "l08_bundle.go:427", after := #[{ on := 8, ground := Ground.data }, { on := 8, ground := Ground.chain }, { on := 0, ground := Ground.phase }, { on := 1, ground := Ground.phase }, { on := 2, ground := Ground.phase }, { on := 3, ground := Ground.phase }, { on := 4, ground := Ground.phase }, { on := 5, ground := Ground.phase }, { on := 6, ground := Ground.phase }, { on := 7, ground := Ground.phase }, { on := 8, ground := Ground.phase }], guard := none }) (by kernel_rfl) rfl rfl (v := v8) (w' := y8) (by kernel_rfl) ?_
      refine wpAny_done (by kernel_rfl) ?_ _
      try simp only [Act.put]
      simp only [fillK, putT, List.setIfInBounds_toArray, List.set_cons_zero, List.set_cons_succ]
      go_wp2
      go_roundw
      case rel => exact ⟨k + 1, by omega, by go_num, HO8, HG8, HN8⟩
      case measure => simp [intOf]; omega
    · have hkn : k = m := by omega
      subst hkn
      have hXl : (Y ++ nmL (ns.take k)).length ≤ 501800 := by
        have := nmL_len (ns.take k) (fun y hy => HNS.out y (List.mem_of_mem_take hy))
        have htk : (ns.take k).length ≤ k := by simp; omega
        rw [List.length_append]; omega
      have htk : ns.take k = ns := List.take_of_length_le (by have := HLn.out; omega)
      rw [htk] at HO hXl
      obtain ⟨X, hX⟩ : ∃ X, X = Y ++ nmL ns := ⟨_, rfl⟩
      have HR : Hid (xs0 ++ lnL (stB s) ns = X ++ [10]) := by unfold Hid; rw [HE.out, hX]
      rw [← hX] at HO hXl
      have ho := World.ownsRow.alloc HO.out (.cells #[.int .u8 10] 5)
      have h1 := Bs.one wr 10 (by omega) (by omega)
      have hbw : base ≤ wr.heap.size := Nat.le_trans hbase HG.out.size
      clear htk hX
      go_wp2_with (at_builtin; refine wpl_append_bs rfl _ _ rfl base u0 X.length X rfl _ 1 1 [10] rfl ho h1 ?_ ?_ ?_)
      · omega
      · simp; omega
      intro v2 y2 o2 g2 _
      have HO2 : Hid (y2.ownsRow base 5 1 v2 (X.length + 1) (U8 (X ++ [10]))) := by unfold Hid; simpa using o2
      have HG2 : Hid (w.grownBy y2 G0) := by
        unfold Hid
        refine gr_chain (gr_chain HG.out (World.grownBy_alloc wr _ none) (by intro q hq; cases hq)) g2 (fun q hq => HN.out q hq)
      clear o2 g2 ho h1
      go_wp2
      go_ret
      rw [HR.out, List.length_append]
      exact ⟨_, rfl, HO2.out, HG2.out⟩
end Go.Proofs.YtgfjbaigmkdbcaaDoor
