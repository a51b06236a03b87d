/-
  What is proved here: what the specification's l8keys answers: four keys in a row of their own.
-/
import Derived.Test.YtofflhhlacdgfaaDoorKf0
import Derived.Test.YtofflhhlacdgfaaDoorK0s
import Derived.Maps.AppendAt
namespace Go.Proofs.YtofflhhlacdgfaaDoor
open Go.RowKit
set_option maxRecDepth 100000
set_option maxHeartbeats 4000000
set_option linter.unusedVariables false

theorem QL_one : ∀ (xs : List L4), (∀ x ∈ xs, x.a.oneCell' = true ∧ x.b.oneCell' = true ∧ x.c.oneCell' = true ∧ x.d.oneCell' = true) → ∀ u ∈ QL xs, u.oneCell' = true
  | [], _, u, h => by cases h
  | r :: t, hx, u, h => by
    have h0 := hx r (by simp)
    simp only [QL, List.mem_cons] at h
    rcases h with rfl | rfl | rfl | rfl | h
    · exact h0.1
    · exact h0.2.1
    · exact h0.2.2.1
    · exact h0.2.2.2
    · exact QL_one t (fun x hx' => hx x (by simp [hx'])) u h
theorem wpl_app_k4 {w : World} {ops : Array Oper} {rest : List Oper} {o : Oper} {a : Act} {Q : Exit → Act → World → Prop} (hgd : o.guard = none) (s x : Operand)
    (ho : o.op = .call { callee := .builtin .append, args := #[s, x], argTypes := #[51, 51] })
    (base : Nat) (v : Value) (n : Nat) (xs : List L4) (hs : a.eval s = v) (g c : Nat) (i r : Int) (b : Bool) (pa : Option Addr) (pn pc : Nat) (hx : a.eval x = .slice (some ⟨g, 0, none⟩) 1 c)
    (hown : w.ownsRow base 57 4 v n (QL xs)) (A : Arr w g 57 [.int .i64 i, .int .i64 r, .bool b, .slice pa pn pc]) (hn : n ≤ 1048576) (hbase : base ≤ w.heap.size)
    (h : ∀ v' w', w'.ownsRow base 57 4 v' (n + 1) (QL (xs ++ [⟨.int .i64 i, .int .i64 r, .bool b, .slice pa pn pc⟩])) → w.grownBy w' v.ownBlock → wpList Tryd.prog ops Q rest (a.put o.dst v') w') :
    wpList Tryd.prog ops Q (o :: rest) a w := by
  obtain ⟨i0, hi, hz0, hz1, hz2⟩ := info_parts (show (Tryd.prog.info? 57).map (fun i => (i.zero, i.size, i.bytes)) = some (some (.agg #[.int .i64 0, .int .i64 0, .bool false, .slice none 0 0]), 4, 48) by kernel_rfl)
  refine wpList_append_own_at w hgd s x 51 ho base 57 i0 (.agg #[.int .i64 0, .int .i64 0, .bool false, .slice none 0 0]) 4 48 Tryd.underlying51 hi hz0 hz1 hz2 rfl (by decide) v n (QL xs) hs hown ⟨g, 0, none⟩ 1 c (QL [⟨.int .i64 i, .int .i64 r, .bool b, .slice pa pn pc⟩]) hx rfl (fun j u hj => ?_) (QL_one _ (fun x hx => by simp at hx; subst hx; exact ⟨rfl, rfl, rfl, rfl⟩)) (by unfold maxLen; omega) (by omega) hbase ?_
  · have hj4 : j < 4 := by
      have := (List.getElem?_eq_some_iff.1 hj).1
      simpa [QL] using this
    rw [Addr.add_lit, show (0 : Nat) + j = j by omega, A.cell j]
    exact hj
  · intro v' w' h1 h2 _ _
    exact h v' w' (by rw [QL_app]; exact h1) h2
theorem own_lowK {w : World} {base base' : Nat} {e : TypeId} {size : Nat} {v : Value} {n : Nat} {xs : List Value} (h : w.ownsRow base e size v n xs) (hb : base' ≤ base) : w.ownsRow base' e size v n xs :=
  ⟨h.1, h.2.imp id fun ⟨g, cap, cur, h1, h2, h3⟩ => ⟨g, cap, cur, h1, Nat.le_trans hb h2, h3⟩⟩
theorem own_types {W : World} {lo lo' t n m : Nat} {v u : Value} {xs ys : List Value} (h : W.ownsRow lo t 4 v n xs) (k : W.ownsRow lo' 5 1 u m ys) (ht : t ≠ 5) : u.ownBlock = none ∨ u.ownBlock ≠ v.ownBlock := by
  rcases k.2 with ⟨rfl, _⟩ | ⟨g, cap, cur, rfl, _, hg, _⟩
  · exact .inl rfl
  · right
    rcases h.2 with ⟨rfl, _⟩ | ⟨g', cap', cur', rfl, _, hg', _⟩
    · simp [Value.ownBlock]
    · intro e
      simp only [Value.ownBlock, Option.some.injEq] at e
      subst e
      rw [hg] at hg'
      simp only [Option.some.injEq, Obj.cells.injEq] at hg'
      exact ht hg'.2.1.symm
/-- The bytes of the first keys, rows of their own. -/
def Pubs (lo : Nat) (W : World) (l : List L4) (k : Nat) : Prop := ∀ q, q < k → ∃ (i r : Int) (b : Bool) (a : Option Addr) (c : Nat) (xs : List Int), lg l q = ⟨.int .i64 i, .int .i64 r, .bool b, .slice a xs.length c⟩ ∧ W.ownsRow lo 5 1 (.slice a xs.length c) xs.length (U8 xs) ∧ (∀ x ∈ xs, 0 ≤ x ∧ x < 256) ∧ xs.length = 32
theorem Pubs.below {lo k : Nat} {W W' : World} {l : List L4} (h : Pubs lo W l k) (hb : Below W.heap.size W W') : Pubs lo W' l k := fun q hq => by
  obtain ⟨i, r, b, a, c, xs, e, o, hx⟩ := h q hq
  exact ⟨i, r, b, a, c, xs, e, own_below o hb, hx⟩
theorem Pubs.grown {lo lo' t n k : Nat} {W W' : World} {l : List L4} {v : Value} {ys : List Value} (h : Pubs lo W l k) (o' : W.ownsRow lo' t 4 v n ys) (ht : t ≠ 5) (hg : W.grownBy W' v.ownBlock) : Pubs lo W' l k := fun q hq => by
  obtain ⟨i, r, b, a, c, xs, e, o, hx⟩ := h q hq
  exact ⟨i, r, b, a, c, xs, e, o.kept hg (own_types o' o ht), hx⟩
theorem Pubs.snoc {lo k : Nat} {W : World} {l : List L4} (h : Pubs lo W l k) (hl : l.length = k) (i r : Int) (b : Bool) (a : Option Addr) (c : Nat) (xs : List Int) (o : W.ownsRow lo 5 1 (.slice a xs.length c) xs.length (U8 xs)) (hx : (∀ x ∈ xs, 0 ≤ x ∧ x < 256) ∧ xs.length = 32) : Pubs lo W (l ++ [⟨.int .i64 i, .int .i64 r, .bool b, .slice a xs.length c⟩]) (k + 1) := fun q hq => by
  by_cases e : q = k
  · subst e
    refine ⟨i, r, b, a, c, xs, ?_, o, hx⟩
    unfold lg
    simp [List.getD_eq_getElem?_getD, ← hl]
  · obtain ⟨i', r', b', a', c', xs', e', o', hx'⟩ := h q (by omega)
    refine ⟨i', r', b', a', c', xs', ?_, o', hx'⟩
    rw [← e']
    unfold lg
    rw [List.getD_eq_getElem?_getD, List.getD_eq_getElem?_getD, List.getElem?_append_left (by omega)]
theorem specL8keys (w : World) :
    Calls Tryd.prog 119 #[] w fun e w' => ∃ (v : Value) (l : List L4), e = .returned v ∧ w'.ownsRow w.heap.size 57 4 v 4 (QL l) ∧ l.length = 4 ∧ Pubs w.heap.size w' l 4 ∧ Below w.heap.size w w' := by
  go_enter Tryd.func119, Tryd.ntmps119
  go_wp2
  go_loopw [1, 2] (fun v i wr => ∃ (k : Nat) (l : List L4), k ≤ 4 ∧ i = .int .i64 k ∧ Hid (wr.ownsRow w.heap.size 57 4 v k (QL l)) ∧ l.length = k ∧ Hid (Pubs w.heap.size wr l k) ∧ Below w.heap.size w wr) (fun _ i _ => 4 - (intOf i).toNat)
  case atStart => exact ⟨0, [], by omega, rfl, World.ownsRow_nil _ _ _ _, rfl, (fun q hq => by omega), Below.refl _ _⟩
  case round =>
    obtain ⟨k, l, hk, rfl, HO, hl, HP, B⟩ := hrel
    by_cases hlt : k < 4
    · have hltI : (k : Int) < 4 := by omega
      go_wp2_with fail
      refine (specL8pub k hlt _).mono ?_
      rintro e w1 ⟨v1, xs, rfl, o1, hy, hlx, hb⟩
      obtain ⟨a1, c1, rfl, _, _⟩ := Bs.own o1 hy
      have HR : Hid (w1.ownsRow w.heap.size 5 1 (.slice a1 xs.length c1) xs.length (U8 xs)) := own_lowK o1 B.size
      have HY : Hid ((∀ x ∈ xs, 0 ≤ x ∧ x < 256) ∧ xs.length = 32) := ⟨hy, hlx⟩
      replace B := B.trans (hb.mono B.size)
      replace HO : Hid (w1.ownsRow w.heap.size 57 4 u1 k (QL l)) := own_below HO.out hb
      replace HP : Hid (Pubs w.heap.size w1 l k) := HP.out.below hb
      obtain ⟨m, hm⟩ : ∃ m, m = xs.length := ⟨_, rfl⟩
      have HM : Hid (m = xs.length) := hm
      rw [← hm] at HR ⊢
      clear hb o1 hy hlx hm
      obtain ⟨X, hX⟩ : ∃ X, X = w1.alloc (.cells #[.int .i64 (k : Int), .int .i64 2, .bool false, .slice a1 m c1] 57) := ⟨_, rfl⟩
      have A : Arr X w1.heap.size 57 [.int .i64 (k : Int), .int .i64 2, .bool false, .slice a1 m c1] := by rw [hX]; exact Arr.new _ _ _
      have bX : Below w1.heap.size w1 X := by rw [hX]; exact (Below.refl _ _).alloc (Nat.le_refl _) _
      obtain ⟨G, hG⟩ : ∃ G, G = w1.heap.size := ⟨_, rfl⟩
      have hGw : w1.heap.size ≤ G := by omega
      rw [← hG] at A
      go_upto_region 7 with fail
      rw [← hX]
      rw [← hG]
      clear hX hG
      have c0 := A.cell 0
      have c1' := A.cell 1
      have c2 := A.cell 2
      have c3 := A.cell 3
      simp at c0 c1' c2 c3
      have fA := A.frozen
      have lA := A.lt
      have hw : IntKind.i64.wrap ((k : Int) + 1) = (k : Int) + 1 := wr64 (by omega) (by omega)
      by_cases h2 : k = 2
      · subst h2
        obtain ⟨Y, hY⟩ : ∃ Y, Y = (X.setCell ⟨G, 1, none⟩ (.int .i64 1)).setCell ⟨G, 2, none⟩ (.bool false) := ⟨_, rfl⟩
        have bY : Below w1.heap.size w1 Y := by rw [hY]; exact (bX.setCell (p := ⟨G, 1, none⟩) hGw _).setCell (p := ⟨G, 2, none⟩) hGw _
        have A2 : Arr Y G 57 [.int .i64 2, .int .i64 1, .bool false, .slice a1 m c1] := by rw [hY]; exact (A.set 1 _).set 2 _
        go_upto_region 10 with fail
        rw [← hY]
        clear hY
        replace B := B.trans (bY.mono B.size)
        replace HO : Hid (Y.ownsRow w.heap.size 57 4 u1 2 (QL l)) := own_below HO.out bY
        replace HR : Hid (Y.ownsRow w.heap.size 5 1 (.slice a1 m c1) m (U8 xs)) := own_below HR.out bY
        replace HP : Hid (Pubs w.heap.size Y l 2) := HP.out.below bY
        clear bX bY A c0 c1' c2 c3 fA lA
        have d0 := A2.cell 0
        have d1 := A2.cell 1
        have d2 := A2.cell 2
        have d3 := A2.cell 3
        simp at d0 d1 d2 d3
        clear A2
        go_wp2_with (at_builtin; refine wpl_app_k4 rfl _ _ rfl w.heap.size u1 2 l rfl Y.heap.size 1 2 1 false a1 m c1 rfl (World.ownsRow.alloc HO.out _) (Arr.new Y [.int .i64 2, .int .i64 1, .bool false, .slice a1 m c1] 57) (by omega) (Nat.le_trans B.size (by simp)) ?_)
        intro v3 w3 O3 g3
        have hbA : Below Y.heap.size Y (Y.alloc (.cells #[.int .i64 2, .int .i64 1, .bool false, .slice a1 m c1] 57)) := (Below.refl _ _).alloc (Nat.le_refl _) _
        have HP3 : Hid (Pubs w.heap.size w3 (l ++ [⟨.int .i64 2, .int .i64 1, .bool false, .slice a1 m c1⟩]) (2 + 1)) := by
          have o1 := (World.ownsRow.alloc HR.out (.cells #[.int .i64 2, .int .i64 1, .bool false, .slice a1 m c1] 57)).kept g3 (own_types (W := Y.alloc (.cells #[.int .i64 2, .int .i64 1, .bool false, .slice a1 m c1] 57)) (World.ownsRow.alloc HO.out _) (World.ownsRow.alloc HR.out _) (by decide))
          have p1 := (HP.out.below hbA).grown (World.ownsRow.alloc HO.out _) (by decide) g3
          have := p1.snoc hl 2 1 false a1 c1 xs (by rw [← HM.out]; exact o1) HY.out
          rw [← HM.out] at this
          exact this
        have B3 : Below w.heap.size w w3 := (B.alloc B.size _).grown g3 (Nat.le_trans B.size (by simp)) (fun j hj => (World.ownsRow.lt HO.out j hj).1)
        have HO3 : Hid (w3.ownsRow w.heap.size 57 4 v3 (2 + 1) (QL (l ++ [⟨.int .i64 2, .int .i64 1, .bool false, .slice a1 m c1⟩]))) := O3
        clear O3 g3 hbA HO HP HR B d0 d1 d2 d3
        go_wp2
        go_roundw
        case rel => exact ⟨2 + 1, _, by omega, by go_num, HO3, by rw [List.length_append, hl]; rfl, HP3, B3⟩
        case measure => simp [intOf] <;> omega
      · have h2' : ((k : Int) == 2) = false := by simp; omega
        obtain ⟨b3, hb3⟩ : ∃ b3, b3 = ((k : Int) == 3) := ⟨_, rfl⟩
        have hb3' : ((k : Int) == 3) = b3 := hb3.symm
        clear hb3 h2
        obtain ⟨Y, hY⟩ : ∃ Y, Y = X.setCell ⟨G, 2, none⟩ (.bool b3) := ⟨_, rfl⟩
        have bY : Below w1.heap.size w1 Y := by rw [hY]; exact bX.setCell (p := ⟨G, 2, none⟩) hGw _
        have A2 : Arr Y G 57 [.int .i64 (k : Int), .int .i64 2, .bool b3, .slice a1 m c1] := by rw [hY]; exact A.set 2 _
        go_upto_region 10 with fail
        rw [← hY]
        clear hY
        replace B := B.trans (bY.mono B.size)
        replace HO : Hid (Y.ownsRow w.heap.size 57 4 u1 k (QL l)) := own_below HO.out bY
        replace HR : Hid (Y.ownsRow w.heap.size 5 1 (.slice a1 m c1) m (U8 xs)) := own_below HR.out bY
        replace HP : Hid (Pubs w.heap.size Y l k) := HP.out.below bY
        clear bX bY A c0 c1' c2 c3 fA lA
        have d0 := A2.cell 0
        have d1 := A2.cell 1
        have d2 := A2.cell 2
        have d3 := A2.cell 3
        simp at d0 d1 d2 d3
        clear A2
        go_wp2_with (at_builtin; refine wpl_app_k4 rfl _ _ rfl w.heap.size u1 k l rfl Y.heap.size 1 (k : Int) 2 b3 a1 m c1 rfl (World.ownsRow.alloc HO.out _) (Arr.new Y [.int .i64 (k : Int), .int .i64 2, .bool b3, .slice a1 m c1] 57) (by omega) (Nat.le_trans B.size (by simp)) ?_)
        intro v3 w3 O3 g3
        have hbA : Below Y.heap.size Y (Y.alloc (.cells #[.int .i64 (k : Int), .int .i64 2, .bool b3, .slice a1 m c1] 57)) := (Below.refl _ _).alloc (Nat.le_refl _) _
        have HP3 : Hid (Pubs w.heap.size w3 (l ++ [⟨.int .i64 (k : Int), .int .i64 2, .bool b3, .slice a1 m c1⟩]) (k + 1)) := by
          have o1 := (World.ownsRow.alloc HR.out (.cells #[.int .i64 (k : Int), .int .i64 2, .bool b3, .slice a1 m c1] 57)).kept g3 (own_types (W := Y.alloc (.cells #[.int .i64 (k : Int), .int .i64 2, .bool b3, .slice a1 m c1] 57)) (World.ownsRow.alloc HO.out _) (World.ownsRow.alloc HR.out _) (by decide))
          have p1 := (HP.out.below hbA).grown (World.ownsRow.alloc HO.out _) (by decide) g3
          have := p1.snoc hl (k : Int) 2 b3 a1 c1 xs (by rw [← HM.out]; exact o1) HY.out
          rw [← HM.out] at this
          exact this
        have B3 : Below w.heap.size w w3 := (B.alloc B.size _).grown g3 (Nat.le_trans B.size (by simp)) (fun j hj => (World.ownsRow.lt HO.out j hj).1)
        have HO3 : Hid (w3.ownsRow w.heap.size 57 4 v3 (k + 1) (QL (l ++ [⟨.int .i64 (k : Int), .int .i64 2, .bool b3, .slice a1 m c1⟩]))) := O3
        clear O3 g3 hbA HO HP HR B d0 d1 d2 d3
        go_wp2
        go_roundw
        case rel => exact ⟨k + 1, _, by omega, by go_num, HO3, by rw [List.length_append, hl]; rfl, HP3, B3⟩
        case measure => simp [intOf] <;> omega
    · have hk4 : k = 4 := by omega
      subst hk4
      go_wp2
      go_ret
      exact ⟨_, l, rfl, HO.out, hl, HP.out, B⟩
end Go.Proofs.YtofflhhlacdgfaaDoor
