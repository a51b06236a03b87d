/-
  What is proved here: what the specification's l8keys answers: four keys in a row of their own; contracts of the cursor of a draw (l1New, l1Byte): a new cursor over the code; a byte that is drawn is in 0 .. 255, and nothing but the cursor turns; for every code; contracts of what is drawn with a cursor (l1PickInt): a number of the list; nothing but the cursor turns; for every code.
-/
import Derived.Test.YtofflhhlacdgfaaDoorJM1
import Derived.Test.YtofflhhlacdgfaaDoorJM5
import Derived.Maps.AppendAt
import Derived.Deep.QuietTactic
import Derived.BigQuiet
import Derived.Laws.BitsLemmas
import Derived.Test.YtofflhhlacdgfaaDoorJM2
namespace Go.Proofs.YtofflhhlacdgfaaDoor
open Go.RowKit
set_option maxRecDepth 100000
set_option maxHeartbeats 4000000
set_option linter.unusedVariables false

theorem QL_one : ∀ (xs : List L4), (∀ x ∈ xs, x.a.oneCell' = true ∧ x.b.oneCell' = true ∧ x.c.oneCell' = true ∧ x.d.oneCell' = true) → ∀ u ∈ QL xs, u.oneCell' = true
  | [], _, u, h => by cases h
  | r :: t, hx, u, h => by
    have h0 := hx r (by simp)
    simp only [QL, List.mem_cons] at h
    rcases h with rfl | rfl | rfl | rfl | h
    · exact h0.1
    · exact h0.2.1
    · exact h0.2.2.1
    · exact h0.2.2.2
    · exact QL_one t (fun x hx' => hx x (by simp [hx'])) u h
theorem wpl_app_k4 {w : World} {ops : Array Oper} {rest : List Oper} {o : Oper} {a : Act} {Q : Exit → Act → World → Prop} (hgd : o.guard = none) (s x : Operand)
    (ho : o.op = .call { callee := .builtin .append, args := #[s, x], argTypes := #[51, 51] })
    (base : Nat) (v : Value) (n : Nat) (xs : List L4) (hs : a.eval s = v) (g c : Nat) (i r : Int) (b : Bool) (pa : Option Addr) (pn pc : Nat) (hx : a.eval x = .slice (some ⟨g, 0, none⟩) 1 c)
    (hown : w.ownsRow base 57 4 v n (QL xs)) (A : Arr w g 57 [.int .i64 i, .int .i64 r, .bool b, .slice pa pn pc]) (hn : n ≤ 1048576) (hbase : base ≤ w.heap.size)
    (h : ∀ v' w', w'.ownsRow base 57 4 v' (n + 1) (QL (xs ++ [⟨.int .i64 i, .int .i64 r, .bool b, .slice pa pn pc⟩])) → w.grownBy w' v.ownBlock → wpList Tryd.prog ops Q rest (a.put o.dst v') w') :
    wpList Tryd.prog ops Q (o :: rest) a w := by
  obtain ⟨i0, hi, hz0, hz1, hz2⟩ := info_parts (show (Tryd.prog.info? 57).map (fun i => (i.zero, i.size, i.bytes)) = some (some (.agg #[.int .i64 0, .int .i64 0, .bool false, .slice none 0 0]), 4, 48) by kernel_rfl)
  refine wpList_append_own_at w hgd s x 51 ho base 57 i0 (.agg #[.int .i64 0, .int .i64 0, .bool false, .slice none 0 0]) 4 48 Tryd.underlying51 hi hz0 hz1 hz2 rfl (by decide) v n (QL xs) hs hown ⟨g, 0, none⟩ 1 c (QL [⟨.int .i64 i, .int .i64 r, .bool b, .slice pa pn pc⟩]) hx rfl (fun j u hj => ?_) (QL_one _ (fun x hx => by simp at hx; subst hx; exact ⟨rfl, rfl, rfl, rfl⟩)) (by unfold maxLen; omega) (by omega) hbase ?_
  · have hj4 : j < 4 := by
      have := (List.getElem?_eq_some_iff.1 hj).1
      simpa [QL] using this
    rw [Addr.add_lit, show (0 : Nat) + j = j by omega, A.cell j]
    exact hj
  · intro v' w' h1 h2 _ _
    exact h v' w' (by rw [QL_app]; exact h1) h2
theorem own_lowK {w : World} {base base' : Nat} {e : TypeId} {size : Nat} {v : Value} {n : Nat} {xs : List Value} (h : w.ownsRow base e size v n xs) (hb : base' ≤ base) : w.ownsRow base' e size v n xs :=
  ⟨h.1, h.2.imp id fun ⟨g, cap, cur, h1, h2, h3⟩ => ⟨g, cap, cur, h1, Nat.le_trans hb h2, h3⟩⟩
theorem own_types {W : World} {lo lo' t n m : Nat} {v u : Value} {xs ys : List Value} (h : W.ownsRow lo t 4 v n xs) (k : W.ownsRow lo' 5 1 u m ys) (ht : t ≠ 5) : u.ownBlock = none ∨ u.ownBlock ≠ v.ownBlock := by
  rcases k.2 with ⟨rfl, _⟩ | ⟨g, cap, cur, rfl, _, hg, _⟩
  · exact .inl rfl
  · right
    rcases h.2 with ⟨rfl, _⟩ | ⟨g', cap', cur', rfl, _, hg', _⟩
    · simp [Value.ownBlock]
    · intro e
      simp only [Value.ownBlock, Option.some.injEq] at e
      subst e
      rw [hg] at hg'
      simp only [Option.some.injEq, Obj.cells.injEq] at hg'
      exact ht hg'.2.1.symm
/-- The bytes of the first keys, rows of their own. -/
def Pubs (lo : Nat) (W : World) (l : List L4) (k : Nat) : Prop := ∀ q, q < k → ∃ (i r : Int) (b : Bool) (a : Option Addr) (c : Nat) (xs : List Int), lg l q = ⟨.int .i64 i, .int .i64 r, .bool b, .slice a xs.length c⟩ ∧ W.ownsRow lo 5 1 (.slice a xs.length c) xs.length (U8 xs) ∧ (∀ x ∈ xs, 0 ≤ x ∧ x < 256) ∧ xs.length = 32
theorem Pubs.below {lo k : Nat} {W W' : World} {l : List L4} (h : Pubs lo W l k) (hb : Below W.heap.size W W') : Pubs lo W' l k := fun q hq => by
  obtain ⟨i, r, b, a, c, xs, e, o, hx⟩ := h q hq
  exact ⟨i, r, b, a, c, xs, e, own_below o hb, hx⟩
theorem Pubs.grown {lo lo' t n k : Nat} {W W' : World} {l : List L4} {v : Value} {ys : List Value} (h : Pubs lo W l k) (o' : W.ownsRow lo' t 4 v n ys) (ht : t ≠ 5) (hg : W.grownBy W' v.ownBlock) : Pubs lo W' l k := fun q hq => by
  obtain ⟨i, r, b, a, c, xs, e, o, hx⟩ := h q hq
  exact ⟨i, r, b, a, c, xs, e, o.kept hg (own_types o' o ht), hx⟩
theorem Pubs.snoc {lo k : Nat} {W : World} {l : List L4} (h : Pubs lo W l k) (hl : l.length = k) (i r : Int) (b : Bool) (a : Option Addr) (c : Nat) (xs : List Int) (o : W.ownsRow lo 5 1 (.slice a xs.length c) xs.length (U8 xs)) (hx : (∀ x ∈ xs, 0 ≤ x ∧ x < 256) ∧ xs.length = 32) : Pubs lo W (l ++ [⟨.int .i64 i, .int .i64 r, .bool b, .slice a xs.length c⟩]) (k + 1) := fun q hq => by
  by_cases e : q = k
  · subst e
    refine ⟨i, r, b, a, c, xs, ?_, o, hx⟩
    unfold lg
    simp [List.getD_eq_getElem?_getD, ← hl]
  · obtain ⟨i', r', b', a', c', xs', e', o', hx'⟩ := h q (by omega)
    refine ⟨i', r', b', a', c', xs', ?_, o', hx'⟩
    rw [← e']
    unfold lg
    rw [List.getD_eq_getElem?_getD, List.getD_eq_getElem?_getD, List.getElem?_append_left (by omega)]
theorem specL8keys (w : World) :
    Calls Tryd.prog 119 #[] w fun e w' => ∃ (v : Value) (l : List L4), e = .returned v ∧ w'.ownsRow w.heap.size 57 4 v 4 (QL l) ∧ l.length = 4 ∧ Pubs w.heap.size w' l 4 ∧ Below w.heap.size w w' := by
  go_enter Tryd.func119, Tryd.ntmps119
  go_wp2
  go_loopw [1, 2] (fun v i wr => ∃ (k : Nat) (l : List L4), k ≤ 4 ∧ i = .int .i64 k ∧ Hid (wr.ownsRow w.heap.size 57 4 v k (QL l)) ∧ l.length = k ∧ Hid (Pubs w.heap.size wr l k) ∧ Below w.heap.size w wr) (fun _ i _ => 4 - (intOf i).toNat)
  case atStart => exact ⟨0, [], by omega, rfl, World.ownsRow_nil _ _ _ _, rfl, (fun q hq => by omega), Below.refl _ _⟩
  case round =>
    obtain ⟨k, l, hk, rfl, HO, hl, HP, B⟩ := hrel
    by_cases hlt : k < 4
    · have hltI : (k : Int) < 4 := by omega
      go_wp2_with fail
      refine (specL8pub k hlt _).mono ?_
      rintro e w1 ⟨v1, xs, rfl, o1, hy, hlx, hb⟩
      obtain ⟨a1, c1, rfl, _, _⟩ := Bs.own o1 hy
      have HR : Hid (w1.ownsRow w.heap.size 5 1 (.slice a1 xs.length c1) xs.length (U8 xs)) := own_lowK o1 B.size
      have HY : Hid ((∀ x ∈ xs, 0 ≤ x ∧ x < 256) ∧ xs.length = 32) := ⟨hy, hlx⟩
      replace B := B.trans (hb.mono B.size)
      replace HO : Hid (w1.ownsRow w.heap.size 57 4 u1 k (QL l)) := own_below HO.out hb
      replace HP : Hid (Pubs w.heap.size w1 l k) := HP.out.below hb
      obtain ⟨m, hm⟩ : ∃ m, m = xs.length := ⟨_, rfl⟩
      have HM : Hid (m = xs.length) := hm
      rw [← hm] at HR ⊢
      clear hb o1 hy hlx hm
      obtain ⟨X, hX⟩ : ∃ X, X = w1.alloc (.cells #[.int .i64 (k : Int), .int .i64 2, .bool false, .slice a1 m c1] 57) := ⟨_, rfl⟩
      have A : Arr X w1.heap.size 57 [.int .i64 (k : Int), .int .i64 2, .bool false, .slice a1 m c1] := by rw [hX]; exact Arr.new _ _ _
      have bX : Below w1.heap.size w1 X := by rw [hX]; exact (Below.refl _ _).alloc (Nat.le_refl _) _
      obtain ⟨G, hG⟩ : ∃ G, G = w1.heap.size := ⟨_, rfl⟩
      have hGw : w1.heap.size ≤ G := by omega
      rw [← hG] at A
      go_upto_region 7 with fail
      rw [← hX]
      rw [← hG]
      clear hX hG
      have c0 := A.cell 0
      have c1' := A.cell 1
      have c2 := A.cell 2
      have c3 := A.cell 3
      simp at c0 c1' c2 c3
      have fA := A.frozen
      have lA := A.lt
      have hw : IntKind.i64.wrap ((k : Int) + 1) = (k : Int) + 1 := wr64 (by omega) (by omega)
      by_cases h2 : k = 2
      · subst h2
        obtain ⟨Y, hY⟩ : ∃ Y, Y = (X.setCell ⟨G, 1, none⟩ (.int .i64 1)).setCell ⟨G, 2, none⟩ (.bool false) := ⟨_, rfl⟩
        have bY : Below w1.heap.size w1 Y := by rw [hY]; exact (bX.setCell (p := ⟨G, 1, none⟩) hGw _).setCell (p := ⟨G, 2, none⟩) hGw _
        have A2 : Arr Y G 57 [.int .i64 2, .int .i64 1, .bool false, .slice a1 m c1] := by rw [hY]; exact (A.set 1 _).set 2 _
        go_upto_region 10 with fail
        rw [← hY]
        clear hY
        replace B := B.trans (bY.mono B.size)
        replace HO : Hid (Y.ownsRow w.heap.size 57 4 u1 2 (QL l)) := own_below HO.out bY
        replace HR : Hid (Y.ownsRow w.heap.size 5 1 (.slice a1 m c1) m (U8 xs)) := own_below HR.out bY
        replace HP : Hid (Pubs w.heap.size Y l 2) := HP.out.below bY
        clear bX bY A c0 c1' c2 c3 fA lA
        have d0 := A2.cell 0
        have d1 := A2.cell 1
        have d2 := A2.cell 2
        have d3 := A2.cell 3
        simp at d0 d1 d2 d3
        clear A2
        go_wp2_with (at_builtin; refine wpl_app_k4 rfl _ _ rfl w.heap.size u1 2 l rfl Y.heap.size 1 2 1 false a1 m c1 rfl (World.ownsRow.alloc HO.out _) (Arr.new Y [.int .i64 2, .int .i64 1, .bool false, .slice a1 m c1] 57) (by omega) (Nat.le_trans B.size (by simp)) ?_)
        intro v3 w3 O3 g3
        have hbA : Below Y.heap.size Y (Y.alloc (.cells #[.int .i64 2, .int .i64 1, .bool false, .slice a1 m c1] 57)) := (Below.refl _ _).alloc (Nat.le_refl _) _
        have HP3 : Hid (Pubs w.heap.size w3 (l ++ [⟨.int .i64 2, .int .i64 1, .bool false, .slice a1 m c1⟩]) (2 + 1)) := by
          have o1 := (World.ownsRow.alloc HR.out (.cells #[.int .i64 2, .int .i64 1, .bool false, .slice a1 m c1] 57)).kept g3 (own_types (W := Y.alloc (.cells #[.int .i64 2, .int .i64 1, .bool false, .slice a1 m c1] 57)) (World.ownsRow.alloc HO.out _) (World.ownsRow.alloc HR.out _) (by decide))
          have p1 := (HP.out.below hbA).grown (World.ownsRow.alloc HO.out _) (by decide) g3
          have := p1.snoc hl 2 1 false a1 c1 xs (by rw [← HM.out]; exact o1) HY.out
          rw [← HM.out] at this
          exact this
        have B3 : Below w.heap.size w w3 := (B.alloc B.size _).grown g3 (Nat.le_trans B.size (by simp)) (fun j hj => (World.ownsRow.lt HO.out j hj).1)
        have HO3 : Hid (w3.ownsRow w.heap.size 57 4 v3 (2 + 1) (QL (l ++ [⟨.int .i64 2, .int .i64 1, .bool false, .slice a1 m c1⟩]))) := O3
        clear O3 g3 hbA HO HP HR B d0 d1 d2 d3
        go_wp2
        go_roundw
        case rel => exact ⟨2 + 1, _, by omega, by go_num, HO3, by rw [List.length_append, hl]; rfl, HP3, B3⟩
        case measure => simp [intOf] <;> omega
      · have h2' : ((k : Int) == 2) = false := by simp; omega
        obtain ⟨b3, hb3⟩ : ∃ b3, b3 = ((k : Int) == 3) := ⟨_, rfl⟩
        have hb3' : ((k : Int) == 3) = b3 := hb3.symm
        clear hb3 h2
        obtain ⟨Y, hY⟩ : ∃ Y, Y = X.setCell ⟨G, 2, none⟩ (.bool b3) := ⟨_, rfl⟩
        have bY : Below w1.heap.size w1 Y := by rw [hY]; exact bX.setCell (p := ⟨G, 2, none⟩) hGw _
        have A2 : Arr Y G 57 [.int .i64 (k : Int), .int .i64 2, .bool b3, .slice a1 m c1] := by rw [hY]; exact A.set 2 _
        go_upto_region 10 with fail
        rw [← hY]
        clear hY
        replace B := B.trans (bY.mono B.size)
        replace HO : Hid (Y.ownsRow w.heap.size 57 4 u1 k (QL l)) := own_below HO.out bY
        replace HR : Hid (Y.ownsRow w.heap.size 5 1 (.slice a1 m c1) m (U8 xs)) := own_below HR.out bY
        replace HP : Hid (Pubs w.heap.size Y l k) := HP.out.below bY
        clear bX bY A c0 c1' c2 c3 fA lA
        have d0 := A2.cell 0
        have d1 := A2.cell 1
        have d2 := A2.cell 2
        have d3 := A2.cell 3
        simp at d0 d1 d2 d3
        clear A2
        go_wp2_with (at_builtin; refine wpl_app_k4 rfl _ _ rfl w.heap.size u1 k l rfl Y.heap.size 1 (k : Int) 2 b3 a1 m c1 rfl (World.ownsRow.alloc HO.out _) (Arr.new Y [.int .i64 (k : Int), .int .i64 2, .bool b3, .slice a1 m c1] 57) (by omega) (Nat.le_trans B.size (by simp)) ?_)
        intro v3 w3 O3 g3
        have hbA : Below Y.heap.size Y (Y.alloc (.cells #[.int .i64 (k : Int), .int .i64 2, .bool b3, .slice a1 m c1] 57)) := (Below.refl _ _).alloc (Nat.le_refl _) _
        have HP3 : Hid (Pubs w.heap.size w3 (l ++ [⟨.int .i64 (k : Int), .int .i64 2, .bool b3, .slice a1 m c1⟩]) (k + 1)) := by
          have o1 := (World.ownsRow.alloc HR.out (.cells #[.int .i64 (k : Int), .int .i64 2, .bool b3, .slice a1 m c1] 57)).kept g3 (own_types (W := Y.alloc (.cells #[.int .i64 (k : Int), .int .i64 2, .bool b3, .slice a1 m c1] 57)) (World.ownsRow.alloc HO.out _) (World.ownsRow.alloc HR.out _) (by decide))
          have p1 := (HP.out.below hbA).grown (World.ownsRow.alloc HO.out _) (by decide) g3
          have := p1.snoc hl (k : Int) 2 b3 a1 c1 xs (by rw [← HM.out]; exact o1) HY.out
          rw [← HM.out] at this
          exact this
        have B3 : Below w.heap.size w w3 := (B.alloc B.size _).grown g3 (Nat.le_trans B.size (by simp)) (fun j hj => (World.ownsRow.lt HO.out j hj).1)
        have HO3 : Hid (w3.ownsRow w.heap.size 57 4 v3 (k + 1) (QL (l ++ [⟨.int .i64 (k : Int), .int .i64 2, .bool b3, .slice a1 m c1⟩]))) := O3
        clear O3 g3 hbA HO HP HR B d0 d1 d2 d3
        go_wp2
        go_roundw
        case rel => exact ⟨k + 1, _, by omega, by go_num, HO3, by rw [List.length_append, hl]; rfl, HP3, B3⟩
        case measure => simp [intOf] <;> omega
    · have hk4 : k = 4 := by omega
      subst hk4
      go_wp2
      go_ret
      exact ⟨_, l, rfl, HO.out, hl, HP.out, B⟩
end Go.Proofs.YtofflhhlacdgfaaDoor
namespace Go.Proofs.YtofflhhlacdgfaaDoor
open Go.RowKit

/-- The cursor's block. -/
def Cur (W : World) (p : Nat) (a : Option Addr) (n c : Nat) : Prop :=
  ∃ (i : Nat) (h : Int), i ≤ n ∧ W.heap[p]? = some (.cells #[.slice a n c, .int .i64 i, .int .i64 h] 114 (0, 0))

/-- The code, apart from the cursor. -/
def Coded (W : World) (p : Nat) (a : Option Addr) (n c : Nat) (xs : List Int) : Prop := Bs W a n c xs ∧ n ≤ 9223372036854775807 ∧ ∀ b o s, a = some ⟨b, o, s⟩ → n ≠ 0 → b ≠ p

theorem grown_into {W Wr W' : World} {p : Nat} {row : Option Nat} (h : W.grownBy Wr (some p)) (hg : Wr.grownBy W' row) (hr : ∀ k, row = some k → W.heap.size ≤ k ∨ k = p) : W.grownBy W' (some p) :=
  ⟨hg.os.trans h.os, hg.tape.trans h.tape, hg.output.trans h.output, Nat.le_trans h.size hg.size, fun i hi hne => by
    rw [hg.block i (Nat.lt_of_lt_of_le hi h.size) (fun e => ?_)]
    · exact h.block i hi hne
    · rcases hr i e.symm with h1 | h1
      · omega
      · exact hne (by rw [h1])⟩

theorem Coded.grown {W W' : World} {p : Nat} {a : Option Addr} {n c : Nat} {xs : List Int} (h : Coded W p a n c xs) (hg : W.grownBy W' (some p)) : Coded W' p a n c xs := by
  obtain ⟨⟨h0, hl, hc, hby, h⟩, hm, hne⟩ := h
  refine ⟨⟨h0, hl, hc, hby, ?_⟩, hm, hne⟩
  rcases h with h | ⟨b, o, ha, hb, hcell⟩
  · exact .inl h
  · by_cases hn : n = 0
    · exact .inl hn
    · refine .inr ⟨b, o, ha, Nat.lt_of_lt_of_le hb hg.size, fun j hj => ?_⟩
      exact hg.cell (hcell j hj) (fun e => hne b o none ha hn (by simpa using e))

theorem and255 (z : Int) : 0 ≤ bits BinOp.and IntKind.i64 z 255 ∧ bits BinOp.and IntKind.i64 z 255 ≤ 255 := by
  have h : ((BitVec.ofInt 64 z &&& BitVec.ofInt 64 255).toNat) ≤ 255 := by
    rw [BitVec.toNat_and]
    exact Nat.le_trans Nat.and_le_right (by decide)
  have e : bits BinOp.and IntKind.i64 z 255 = IntKind.i64.wrap ((BitVec.ofInt 64 z &&& BitVec.ofInt 64 255).toNat : Int) := rfl
  rw [e, IntKind.wrap_i64]
  omega

set_option maxHeartbeats 1000000 in
theorem curNew (a : Option Addr) (n c : Nat) (xs : List Int) (w : World) (h : Bs w a n c xs) (hm : n ≤ 9223372036854775807) :
    Calls Tryd.prog 47 #[.slice a n c] w fun e w' => e = .returned (.pointer (some ⟨w.heap.size, 0, none⟩)) ∧ Cur w' w.heap.size a n c ∧ Coded w' w.heap.size a n c xs ∧ w'.heap.size = w.heap.size + 1 ∧ Below w.heap.size w w' := by
  have h' := h
  obtain ⟨_, hl, hc, hby, h⟩ := h
  go_enter Tryd.func47, Tryd.ntmps47
  go_wp2
  go_loop [3, 4] (fun hh i => ∃ (k : Nat) (H : Int), k ≤ n ∧ k ≤ 4000 ∧ i = .int .i64 k ∧ hh = .int .i64 H) (fun _ i => 4000 - (intOf i).toNat)
  case atStart => exact ⟨0, _, by omega, by omega, rfl, rfl⟩
  case round =>
    obtain ⟨k, H, hk, hk2, rfl, rfl⟩ := hrel
    by_cases hlt : (k : Int) < (n : Int)
    · by_cases hlt2 : (k : Int) < 4000
      · rcases h with h | ⟨b, o, rfl, hbs, hcell⟩
        · omega
        obtain ⟨x, hx⟩ : ∃ x, x = xs.getD k 0 := ⟨_, rfl⟩
        have hck : w.cell? ⟨b, o + k, none⟩ = some (.int .u8 x) := by rw [hx]; exact hcell k (by omega)
        clear hcell hx hby h'
        go_wp2
        go_round
        case rel => exact ⟨k + 1, _, by omega, by omega, by go_num, rfl⟩
        case measure => simp [intOf]; omega
      · go_wp2
        go_ret
        refine ⟨rfl, ⟨0, H, by omega, heap_alloc_new w _⟩, ⟨h'.below ((Below.refl _ _).alloc (Nat.le_refl _) _), hm, ?_⟩, by simp, (Below.refl _ _).alloc (Nat.le_refl _) _⟩
        intro b o s ha hn0
        rcases h with h | ⟨b', o', ha', hbs, _⟩
        · omega
        · rw [ha'] at ha
          simp only [Option.some.injEq, Addr.mk.injEq] at ha
          omega
    · go_wp2
      go_ret
      refine ⟨rfl, ⟨0, H, by omega, heap_alloc_new w _⟩, ⟨h'.below ((Below.refl _ _).alloc (Nat.le_refl _) _), hm, ?_⟩, by simp, (Below.refl _ _).alloc (Nat.le_refl _) _⟩
      intro b o s ha hn0
      rcases h with h | ⟨b', o', ha', hbs, _⟩
      · omega
      · rw [ha'] at ha
        simp only [Option.some.injEq, Addr.mk.injEq] at ha
        omega

theorem grown_drewN {w w1 : World} {r : Option Nat} (h : w.grownBy w1 r) (q : Nat) : w.grownBy (w1.drewN q) r := ⟨h.os, h.tape, h.output, h.size, h.block⟩

theorem cur_set2 {w : World} {p n c i : Nat} {a : Option Addr} {h : Int} (hp : w.heap[p]? = some (.cells #[.slice a n c, .int .i64 i, .int .i64 h] 114 (0, 0))) (H : Int) :
    (w.setCell ⟨p, 2, none⟩ (.int .i64 H)).heap[p]? = some (.cells #[.slice a n c, .int .i64 i, .int .i64 H] 114 (0, 0)) := by
  rw [heap_setCell_same w p 2 _ 114 (.int .i64 H) hp]; rfl
theorem cur_set1 {w : World} {p n c i : Nat} {a : Option Addr} {h : Int} (hp : w.heap[p]? = some (.cells #[.slice a n c, .int .i64 i, .int .i64 h] 114 (0, 0))) (I : Int) :
    (w.setCell ⟨p, 1, none⟩ (.int .i64 I)).heap[p]? = some (.cells #[.slice a n c, .int .i64 I, .int .i64 h] 114 (0, 0)) := by
  rw [heap_setCell_same w p 1 _ 114 (.int .i64 I) hp]; rfl
theorem cur_grown2 (w : World) (p : Nat) (u : Value) (j : Nat) : w.grownBy (w.setCell ⟨p, j, none⟩ u) (some p) :=
  ⟨rfl, rfl, rfl, by simp, fun k _ hk => heap_setCell_other w ⟨p, j, none⟩ k u (fun e => hk (by simp [e]))⟩

set_option maxHeartbeats 1000000 in
theorem curByte (p : Nat) (a : Option Addr) (n c : Nat) (xs : List Int) (w : World) (hcur : Cur w p a n c) (hcode : Coded w p a n c xs) :
    Calls Tryd.prog 112 #[.pointer (some ⟨p, 0, none⟩)] w fun e w' => ∃ x : Int, e = .returned (.int .i64 x) ∧ 0 ≤ x ∧ x ≤ 255 ∧ Cur w' p a n c ∧ w.grownBy w' (some p) := by
  obtain ⟨i, h, hin, hp⟩ := hcur
  obtain ⟨⟨h0, hl, hc, hby, hb⟩, hm, hne⟩ := hcode
  have c0 : w.cell? ⟨p, 0, none⟩ = some (.slice a n c) := by simp [World.cell?, hp]
  have c1 : w.cell? ⟨p, 1, none⟩ = some (.int .i64 i) := by simp [World.cell?, hp]
  have c2 : w.cell? ⟨p, 2, none⟩ = some (.int .i64 h) := by simp [World.cell?, hp]
  have f1 : w.frozen? ⟨p, 1, none⟩ = false := by simp [World.frozen?, hp]
  have f2 : w.frozen? ⟨p, 2, none⟩ = false := by simp [World.frozen?, hp]
  go_enter Tryd.func112, Tryd.ntmps112
  go_wp2
  clear c2
  generalize wrap64 (wrap64 (h * 6364136223846793005) + 1442695040888963407) = H
  have hp1 := cur_set2 hp H
  have hg1 := cur_grown2 w p (.int .i64 H) 2
  have e0 := World.cell?_setCell_other w ⟨p, 2, none⟩ ⟨p, 0, none⟩ (.int .i64 H) (by simp)
  generalize w.setCell ⟨p, 2, none⟩ (.int .i64 H) = w1 at hp1 hg1 e0 ⊢
  clear c0 c1 f1 f2 hp e0
  have c0 : w1.cell? ⟨p, 0, none⟩ = some (.slice a n c) := by simp [World.cell?, hp1]
  have c1 : w1.cell? ⟨p, 1, none⟩ = some (.int .i64 i) := by simp [World.cell?, hp1]
  have c2 : w1.cell? ⟨p, 2, none⟩ = some (.int .i64 H) := by simp [World.cell?, hp1]
  have f1 : w1.frozen? ⟨p, 1, none⟩ = false := by simp [World.frozen?, hp1]
  go_quiet (fail)
  go_wp2
  have hX := and255 (bits BinOp.xor IntKind.i64 (H / 8589934592) (H / 35184372088832))
  generalize bits BinOp.and IntKind.i64 (bits BinOp.xor IntKind.i64 (H / 8589934592) (H / 35184372088832)) 255 = X at hX ⊢
  obtain ⟨hX0, hX1⟩ := hX
  by_cases hin2 : (i : Int) < (n : Int)
  · rcases hb with hb | ⟨b, o, rfl, hbs, hcell⟩
    · omega
    have hbp : b ≠ p := hne b o none rfl (by omega)
    obtain ⟨y, hy⟩ : ∃ y, y = xs.getD i 0 := ⟨_, rfl⟩
    have hck : w1.cell? ⟨b, o + i, none⟩ = some (.int .u8 y) := by rw [hy]; exact hg1.cell (hcell i (by omega)) (by simpa using hbp)
    have hyb : 0 ≤ y ∧ y < 256 := by rw [hy]; exact get_byte hby (by omega)
    obtain ⟨hy0, hy1⟩ := hyb
    have hi0 : (0 : Int) ≤ (i : Int) := by omega
    clear hcell hy hby
    go_quiet (fail)
    go_wp2
    go_quiet (fail)
    go_wp2
    have hZ := and255 (X + y)
    generalize bits BinOp.and IntKind.i64 (X + y) 255 = Z at hZ ⊢
    go_ret
    refine ⟨Z, rfl, hZ.1, hZ.2, ⟨i + 1, H, by omega, ?_⟩, ?_⟩
    · rw [show (((i + 1 : Nat) : Int)) = (i : Int) + 1 by omega]
      exact cur_set1 (w := w1.drewN _) hp1 ((i : Int) + 1)
    · exact grown_trans (grown_drewN hg1 _) (cur_grown2 _ _ _ _)
  · have hd : decide (i < n) = false := by simp; omega
    go_quiet (fail)
    go_wp2
    go_ret
    exact ⟨X, rfl, hX0, hX1, ⟨i, H, hin, hp1⟩, grown_drewN hg1 _⟩

set_option maxHeartbeats 1000000 in
theorem curBelow (p : Nat) (a : Option Addr) (n c : Nat) (xs : List Int) (N : Int) (w : World) (hcur : Cur w p a n c) (hcode : Coded w p a n c xs) (hN : N ≤ 9223372036854775807) :
    Calls Tryd.prog 77 #[.pointer (some ⟨p, 0, none⟩), .int .i64 N] w fun e w' => ∃ x : Int, e = .returned (.int .i64 x) ∧ 0 ≤ x ∧ (0 < N → x < N) ∧ (N ≤ 0 → x = 0) ∧ Cur w' p a n c ∧ w.grownBy w' (some p) := by
  by_cases h0 : N ≤ 0
  · go_enter Tryd.func77, Tryd.ntmps77
    go_wp2
    go_ret
    exact ⟨0, rfl, by omega, by omega, fun _ => rfl, hcur, World.grownBy.refl _ _⟩
  by_cases h1 : N ≤ 256
  · go_enter Tryd.func77, Tryd.ntmps77
    go_wp2_with fail
    refine (curByte p a n c xs _ hcur hcode).mono ?_
    rintro e w1 ⟨x, rfl, hx0, hx1, hc1, hg1⟩
    have hz : (N == 0) = false := by simp; omega
    go_wp2
    go_ret
    exact ⟨x % N, rfl, Int.emod_nonneg _ (by omega), fun h => Int.emod_lt_of_pos _ h, by omega, hc1, hg1⟩
  · go_enter Tryd.func77, Tryd.ntmps77
    go_wp2_with fail
    refine (curByte p a n c xs _ hcur hcode).mono ?_
    rintro e w1 ⟨x, rfl, hx0, hx1, hc1, hg1⟩
    have hd1 := hcode.grown hg1
    clear hcur hcode
    go_wp2_with fail
    refine (curByte p a n c xs _ hc1 hd1).mono ?_
    rintro e w2 ⟨y, rfl, hy0, hy1, hc2, hg2⟩
    have hd2 := hd1.grown hg2
    have k2 := grown_trans hg1 hg2
    clear hc1 hd1 hg1 hg2
    go_wp2_with fail
    refine (curByte p a n c xs _ hc2 hd2).mono ?_
    rintro e w3 ⟨z, rfl, hz0, hz1, hc3, hg3⟩
    have hd3 := hd2.grown hg3
    have k3 := grown_trans k2 hg3
    clear hc2 hd2 k2 hg3
    go_wp2_with fail
    refine (curByte p a n c xs _ hc3 hd3).mono ?_
    rintro e w4 ⟨u, rfl, hu0, hu1, hc4, hg4⟩
    have k4 := grown_trans k3 hg4
    clear hc3 hd3 k3 hg4
    have hz : (N == 0) = false := by simp; omega
    go_wp2
    go_ret
    exact ⟨_, rfl, Int.emod_nonneg _ (by omega), fun h => Int.emod_lt_of_pos _ h, by omega, hc4, k4⟩

set_option maxHeartbeats 1000000 in
theorem curOnce (p : Nat) (a : Option Addr) (n c : Nat) (xs : List Int) (N : Int) (w : World) (hcur : Cur w p a n c) (hcode : Coded w p a n c xs) (hN : N ≤ 9223372036854775807) :
    Calls Tryd.prog 69 #[.pointer (some ⟨p, 0, none⟩), .int .i64 N] w fun e w' => ∃ x : Bool, e = .returned (.bool x) ∧ Cur w' p a n c ∧ w.grownBy w' (some p) := by
  go_enter Tryd.func69, Tryd.ntmps69
  go_wp2_with fail
  refine (curBelow p a n c xs N _ hcur hcode hN).mono ?_
  rintro e w1 ⟨x, rfl, _, _, _, hc1, hg1⟩
  go_wp2
  go_ret
  exact ⟨_, rfl, hc1, hg1⟩
end Go.Proofs.YtofflhhlacdgfaaDoor
namespace Go.Proofs.YtofflhhlacdgfaaDoor
open Go.RowKit

/-- What each draw leaves: the cursor is one, nothing but it has turned. -/
structure Drawn (W W' : World) (p : Nat) (a : Option Addr) (n c : Nat) : Prop where
  cur : Cur W' p a n c
  gr : W.grownBy W' (some p)

theorem cur_lt {W : World} {p n c : Nat} {a : Option Addr} (h : Cur W p a n c) : p < W.heap.size := by
  obtain ⟨i, hh, _, hp⟩ := h
  exact (Array.getElem?_eq_some_iff.1 hp).1

theorem cur_keep {W W' : World} {p n c : Nat} {a : Option Addr} {row : Option Nat} (h : Cur W p a n c) (hg : W.grownBy W' row) (hr : row ≠ some p) : Cur W' p a n c := by
  have hlt := cur_lt h
  obtain ⟨i, hh, hi, hp⟩ := h
  exact ⟨i, hh, hi, (hg.block p hlt (fun e => hr e.symm)).trans hp⟩

theorem grown_alloc (w : World) (o : Obj) (r : Option Nat) : w.grownBy (w.alloc o) r := World.grownBy_alloc w o r

set_option maxHeartbeats 1000000 in
theorem curPick (p : Nat) (a : Option Addr) (n c : Nat) (xs : List Int) (g m : Nat) (L : List Int) (w : World) (hcur : Cur w p a n c) (hcode : Coded w p a n c xs)
    (hL : L.length = m) (hm : 0 < m) (hm2 : m ≤ 100) (hgp : g ≠ p) (hcells : ∀ j, j < m → w.cell? ⟨g, j, none⟩ = some (.int .i64 (L.getD j 0))) :
    Calls Tryd.prog 76 #[.pointer (some ⟨p, 0, none⟩), .slice (some ⟨g, 0, none⟩) m m] w fun e w' => ∃ x : Int, e = .returned (.int .i64 x) ∧ x ∈ L ∧ Cur w' p a n c ∧ w.grownBy w' (some p) := by
  go_enter Tryd.func76, Tryd.ntmps76
  go_wp2_with fail
  refine (curBelow p a n c xs _ _ hcur hcode (by omega)).mono ?_
  rintro e w1 ⟨k, rfl, hk0, hk1, _, hc1, hg1⟩
  have hk2 := hk1 (by omega)
  clear hk1
  obtain ⟨K, rfl⟩ := Int.eq_ofNat_of_zero_le hk0
  obtain ⟨x, hx⟩ : ∃ x, x = L.getD K 0 := ⟨_, rfl⟩
  have hck : w1.cell? ⟨g, K, none⟩ = some (.int .i64 x) := by rw [hx]; exact hg1.cell (hcells K (by omega)) (by simpa using hgp)
  have HM : Hid (x ∈ L) := by
    unfold Hid
    have e : L.getD K 0 = L[K]'(by omega) := by simp [show K < L.length by omega]
    rw [hx, e]; exact List.getElem_mem _
  clear hcells hx
  go_wp2
  go_ret
  exact ⟨x, rfl, HM.out, hc1, hg1⟩

theorem cells_arr (w : World) (L : List Int) (t : TypeId) : ∀ j, j < L.length → (w.alloc (.cells (L.map (Value.int .i64)).toArray t)).cell? ⟨w.heap.size, j, none⟩ = some (.int .i64 (L.getD j 0)) := by
  intro j hj
  rw [World.cell?_alloc_at _ _ _ _ rfl]
  simp [hj]

/-- While something is drawn: the cursor lies behind all that was there, which is as it was. -/
structure Dw (w W : World) (a : Option Addr) (n c : Nat) : Prop where
  fr : Below w.heap.size w W
  cur : Cur W w.heap.size a n c

theorem coded_of {w W : World} {a : Option Addr} {n c : Nat} {xs : List Int} (h : Bs w a n c xs) (hm : n ≤ 9223372036854775807) (hb : Below w.heap.size w W) : Coded W w.heap.size a n c xs := by
  refine ⟨h.below hb, hm, ?_⟩
  intro b o s ha hn
  obtain ⟨_, _, _, _, h⟩ := h
  rcases h with h | ⟨b', o', ha', hbs, _⟩
  · exact absurd h hn
  · rw [ha'] at ha
    simp only [Option.some.injEq, Addr.mk.injEq] at ha
    omega

theorem Dw.draw {w W W' : World} {a : Option Addr} {n c : Nat} (h : Dw w W a n c) (hc : Cur W' w.heap.size a n c) (hg : W.grownBy W' (some w.heap.size)) : Dw w W' a n c :=
  ⟨h.fr.grown hg h.fr.size (fun k hk => by simp at hk; omega), hc⟩

theorem Dw.alloc {w W : World} {a : Option Addr} {n c : Nat} (h : Dw w W a n c) (o : Obj) : Dw w (W.alloc o) a n c :=
  ⟨h.fr.alloc h.fr.size o, cur_keep h.cur (grown_alloc W o none) (by simp)⟩

theorem Dw.app {w W W' : World} {a : Option Addr} {n c m : Nat} {v : Value} {l : List Value} (h : Dw w W a n c) (ho : W.ownsRow (w.heap.size + 1) 5 1 v m l) (hg : W.grownBy W' v.ownBlock) : Dw w W' a n c :=
  ⟨h.fr.grown hg h.fr.size (fun k hk => by have := (ho.lt k hk).1; omega), cur_keep h.cur hg (fun e => by have := (ho.lt _ e).1; omega)⟩

theorem Dw.lt {w W : World} {a : Option Addr} {n c : Nat} (h : Dw w W a n c) : w.heap.size + 1 ≤ W.heap.size := cur_lt h.cur

theorem own_draw {W W' : World} {p m : Nat} {v : Value} {l : List Value} (h : W.ownsRow (p + 1) 5 1 v m l) (hg : W.grownBy W' (some p)) : W'.ownsRow (p + 1) 5 1 v m l :=
  h.kept hg (by
    cases hv : v.ownBlock with
    | none => exact .inl rfl
    | some k => exact .inr (fun e => by have := (h.lt k hv).1; simp at e; omega))

/-- A row of bytes of the call's own. -/
def Rw (w W : World) (v : Value) (l : List Int) : Prop := W.ownsRow (w.heap.size + 1) 5 1 v l.length (U8 l) ∧ ∀ x ∈ l, 0 ≤ x ∧ x < 256

theorem Rw.draw {w W W' : World} {v : Value} {l : List Int} (h : Rw w W v l) (hg : W.grownBy W' (some w.heap.size)) : Rw w W' v l := ⟨own_draw h.1 hg, h.2⟩
theorem Rw.alloc {w W : World} {v : Value} {l : List Int} (h : Rw w W v l) (o : Obj) : Rw w (W.alloc o) v l := ⟨h.1.alloc o, h.2⟩
theorem Rw.kept {w W W' : World} {u v : Value} {l : List Int} (h : Rw w W v l) (hg : W.grownBy W' u.ownBlock) (ha : Apart u v) : Rw w W' v l := ⟨own_kept h.1 hg ha, h.2⟩
end Go.Proofs.YtofflhhlacdgfaaDoor
