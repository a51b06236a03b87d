/-
  What is proved here: what the laws' toBundle, eqBundle, szBundle answer.
-/
import Derived.Test.YtgfjbaigmkdbcaaJB10
import Derived.Test.YtgfjbaigmkdbcaaJB11
namespace Go.Proofs.Ytgfjbaigmkdbcaa
open Go.RowKit
set_option maxRecDepth 100000
set_option maxHeartbeats 4000000
set_option linter.unusedVariables false

abbrev nrc (x : NeedM) : Rc := ⟨x.o, x.f, x.t, x.k⟩
theorem rg_nrc (ns : List NeedM) (i : Nat) (h : i < ns.length) : rg (ns.map nrc) i = nrc (ns.getD i nz) := by simp [rg, h]
theorem Ns.rs {W : World} {a : Option Addr} {n c : Nat} {ns : List NeedM} (h : Ns W a n c ns) : Rs W a n c (ns.map nrc) := by
  obtain ⟨h0, h1, h2, h3⟩ := h
  refine ⟨h0, by simpa using h1, h2, ?_⟩
  rcases h3 with h3 | ⟨b, o, e, hb, hc⟩
  · exact .inl h3
  · refine .inr ⟨b, o, e, hb, fun i hi => ?_⟩
    rw [rg_nrc _ _ (by omega)]
    exact ⟨(hc i hi).o, (hc i hi).f, (hc i hi).t, (hc i hi).k⟩
theorem Rs.ns {W : World} {a : Option Addr} {n c : Nat} {ns : List NeedM} (h : Rs W a n c (ns.map nrc)) : Ns W a n c ns := by
  obtain ⟨h0, h1, h2, h3⟩ := h
  have h1' : ns.length = n := by simpa using h1
  refine ⟨h0, h1', h2, ?_⟩
  rcases h3 with h3 | ⟨b, o, e, hb, hc⟩
  · exact .inl h3
  · refine .inr ⟨b, o, e, hb, fun i hi => ?_⟩
    have := hc i hi
    rw [rg_nrc _ _ (by omega)] at this
    exact ⟨this.h0, this.h1, this.h2, this.h3⟩
abbrev bunV (d n f : Int) (pa : Option Addr) (pn pc : Nat) (na : Option Addr) (nn nc : Nat) : Value := .agg #[.int .i64 d, .int .i64 n, .int .i64 f, .slice pa pn pc, .slice na nn nc]
theorem szBundleC (d n f : Int) (pa : Option Addr) (pn pc : Nat) (na : Option Addr) (nn nc : Nat) (ps : List PartM) (l : Int) (w : World) (hP : Ps w pa pn pc ps) (h0 : 0 ≤ l) (hl : l ≤ 1048576) (hp : pn ≤ 9223372036854775807) (hq : ∀ q, q < pn → (ps.getD q pz).h.length ≤ 9223372036854775807) (hn : nn ≤ 9223372036854775807) :
    Calls Try.prog 15 #[bunV d n f pa pn pc na nn nc, .int .i64 l] w fun e w' => ∃ r : Int, e = .returned (.int .i64 r) ∧ (r = -1 ∨ 0 ≤ r ∧ PqSm pn ps ∧ nn ≤ 1048576) ∧ Below w.heap.size w w' := by
  obtain ⟨V, hV⟩ : ∃ V, V = w.alloc (.cells #[.int .i64 d, .int .i64 n, .int .i64 f, .slice pa pn pc, .slice na nn nc] 25) := ⟨_, rfl⟩
  have B : Below w.heap.size w V := by rw [hV]; exact (Below.refl _ _).alloc (Nat.le_refl _) _
  have A : Arr V w.heap.size 25 [.int .i64 d, .int .i64 n, .int .i64 f, .slice pa pn pc, .slice na nn nc] := by rw [hV]; exact Arr.new _ _ _
  have HQ : Hid _ := hq
  have HP : Hid (Ps w pa pn pc ps) := hP
  clear hq hP
  go_enter Try.func15, Try.ntmps15
  go_wp2_with fail
  rw [← hV]
  clear hV
  refine (szPartSC pa pn pc ps l _ (HP.out.below B) h0 hl hp HQ.out).mono ?_
  rintro e w1 ⟨x, rfl, hx, hb⟩
  replace A := A.kept hb
  replace B := B.trans (hb.mono B.size)
  clear hb
  rcases hx with rfl | ⟨x0, x1, hs⟩
  · go_wp2
    go_ret
    exact ⟨_, rfl, .inl rfl, B⟩
  have hx' : ¬ x < 0 := by omega
  have HS : Hid _ := hs
  clear hs HQ HP
  have c0 := A.cell 4
  simp at c0
  go_wp2_with fail
  refine (szNeedSC na nn nc x _ x0 (by omega) hn).mono ?_
  rintro e w2 ⟨y, rfl, hy, hb⟩
  replace B := B.trans (hb.mono B.size)
  clear hb c0 A
  rcases hy with rfl | ⟨y0, y1, y2⟩
  · go_wp2
    go_ret
    exact ⟨_, rfl, .inl rfl, B⟩
  have hy' : ¬ y < 0 := by omega
  go_wp2
  go_ret
  exact ⟨_, rfl, .inr ⟨y0, HS.out, by omega⟩, B⟩
theorem eqBundleC (d n f : Int) (pa : Option Addr) (pn pc : Nat) (na : Option Addr) (nn nc : Nat) (pa' : Option Addr) (pc' : Nat) (na' : Option Addr) (nc' : Nat) (ps : List PartM) (ns : List NeedM) (w : World)
    (hP : Ps w pa pn pc ps) (hN : Ns w na nn nc ns) (hP' : Ps w pa' pn pc' ps) (hN' : Ns w na' nn nc' ns) (hp : PqSm pn ps) (hn : nn ≤ 1048576) :
    Calls Try.prog 19 #[bunV d n f pa pn pc na nn nc, bunV d n f pa' pn pc' na' nn nc'] w fun e w' => e = .returned (.bool true) ∧ Below w.heap.size w w' := by
  have h0 : (d != d) = false := by simp
  have h1 : (n != n) = false := by simp
  have h2 : (f != f) = false := by simp
  obtain ⟨V, hV⟩ : ∃ V, V = (w.alloc (.cells #[.int .i64 d, .int .i64 n, .int .i64 f, .slice pa pn pc, .slice na nn nc] 31)).alloc (.cells #[.int .i64 d, .int .i64 n, .int .i64 f, .slice pa' pn pc', .slice na' nn nc'] 31) := ⟨_, rfl⟩
  have B : Below w.heap.size w V := by rw [hV]; exact ((Below.refl _ _).alloc (Nat.le_refl _) _).alloc (by simp) _
  have A0 : Arr V w.heap.size 31 [.int .i64 d, .int .i64 n, .int .i64 f, .slice pa pn pc, .slice na nn nc] := by rw [hV]; exact (Arr.new _ _ _).alloc _
  have A1 : Arr V (w.heap.size + 1) 31 [.int .i64 d, .int .i64 n, .int .i64 f, .slice pa' pn pc', .slice na' nn nc'] := by
    rw [hV]
    have := Arr.new (w.alloc (.cells #[.int .i64 d, .int .i64 n, .int .i64 f, .slice pa pn pc, .slice na nn nc] 31)) [.int .i64 d, .int .i64 n, .int .i64 f, .slice pa' pn pc', .slice na' nn nc'] 31
    simpa using this
  have HH : Hid (Ps w pa pn pc ps ∧ Ns w na nn nc ns ∧ Ps w pa' pn pc' ps ∧ Ns w na' nn nc' ns ∧ PqSm pn ps) := ⟨hP, hN, hP', hN', hp⟩
  clear hP hN hP' hN' hp
  go_enter Try.func19, Try.ntmps19
  go_wp2_with fail
  rw [← hV]
  clear hV
  refine (eqPartSC pa pa' pn pc pc' ps _ (HH.out.1.below B) (HH.out.2.2.1.below B) HH.out.2.2.2.2).mono ?_
  rintro e w1 ⟨rfl, hb⟩
  replace A0 := A0.kept hb
  replace A1 := A1.kept hb
  replace B := B.trans (hb.mono B.size)
  clear hb
  have c0 := A0.cell 4
  have c1 := A1.cell 4
  simp at c0 c1
  go_wp2_with fail
  refine (eqNeedSC na na' nn nc nc' _ _ (HH.out.2.1.below B).rs (HH.out.2.2.2.1.below B).rs hn).mono ?_
  rintro e w2 ⟨rfl, hb⟩
  replace B := B.trans (hb.mono B.size)
  clear hb c0 c1
  go_wp2
  go_ret
  exact ⟨rfl, B⟩
theorem toBundleC (d n f : Int) (pa : Option Addr) (pn pc : Nat) (na : Option Addr) (nn nc : Nat) (ps : List PartM) (ns : List NeedM) (w : World) (hP : Ps w pa pn pc ps) (hN : Ns w na nn nc ns) (hp : PqSm pn ps) (hn : nn ≤ 1048576) :
    Calls Try.prog 17 #[bunV d n f pa pn pc na nn nc] w fun e w' => ∃ pa' pc' na' nc', e = .returned (bunV d n f pa' pn pc' na' nn nc') ∧ Pq w.heap.size w' pa' pn pc' ps ∧ w'.ownsRow w.heap.size 115 4 (.slice na' nn nc') nn (FL (ns.map nrc)) ∧ Below w.heap.size w w' := by
  obtain ⟨V, hV⟩ : ∃ V, V = (((w.alloc (.cells #[.int .i64 d, .int .i64 n, .int .i64 f, .slice pa pn pc, .slice na nn nc] 25)).alloc (.cells #[.int .i64 0, .int .i64 0, .int .i64 0, .slice none 0 0, .slice none 0 0] 31)).alloc (.cells #[.int .i64 d, .int .i64 n, .int .i64 f, .slice none 0 0, .slice none 0 0] 31)) := ⟨_, rfl⟩
  have hL : Below w.heap.size w V := by rw [hV]; exact (((Below.refl _ _).alloc (Nat.le_refl _) _).alloc (by simp) _).alloc (by simp; omega) _
  have hA0 : Arr V w.heap.size 25 [.int .i64 d, .int .i64 n, .int .i64 f, .slice pa pn pc, .slice na nn nc] := by
    rw [hV]
    have := ((Arr.new w [.int .i64 d, .int .i64 n, .int .i64 f, .slice pa pn pc, .slice na nn nc] 25).alloc (.cells #[.int .i64 0, .int .i64 0, .int .i64 0, .slice none 0 0, .slice none 0 0] 31)).alloc (.cells #[.int .i64 d, .int .i64 n, .int .i64 f, .slice none 0 0, .slice none 0 0] 31)
    exact this
  have hA1 : Arr V (w.heap.size + 1) 31 [.int .i64 0, .int .i64 0, .int .i64 0, .slice none 0 0, .slice none 0 0] := by
    rw [hV]
    have := (Arr.new (w.alloc (.cells #[.int .i64 d, .int .i64 n, .int .i64 f, .slice pa pn pc, .slice na nn nc] 25)) [.int .i64 0, .int .i64 0, .int .i64 0, .slice none 0 0, .slice none 0 0] 31).alloc (.cells #[.int .i64 d, .int .i64 n, .int .i64 f, .slice none 0 0, .slice none 0 0] 31)
    simpa using this
  have hA2 : Arr V (w.heap.size + 1 + 1) 31 [.int .i64 d, .int .i64 n, .int .i64 f, .slice none 0 0, .slice none 0 0] := by
    rw [hV]
    have := Arr.new ((w.alloc (.cells #[.int .i64 d, .int .i64 n, .int .i64 f, .slice pa pn pc, .slice na nn nc] 25)).alloc (.cells #[.int .i64 0, .int .i64 0, .int .i64 0, .slice none 0 0, .slice none 0 0] 31)) [.int .i64 d, .int .i64 n, .int .i64 f, .slice none 0 0, .slice none 0 0] 31
    simpa using this
  have zV : w.heap.size + 3 ≤ V.heap.size := by rw [hV]; simp
  have HN : Hid (Ns w na nn nc ns) := hN
  have HP : Hid (PqSm pn ps) := hp
  go_enter Try.func17, Try.ntmps17
  go_wp2_with fail
  rw [← hV]
  refine (toPartSC pa pn pc ps _ (hP.below hL) HP.out).mono ?_
  rintro e w1 ⟨a1, c1, rfl, ho1, hb1⟩
  clear hV hP hN hp
  have hb1' := hL.trans (hb1.mono hL.size)
  have k0 := hA0.kept hb1
  have k1 := hA1.kept hb1
  have k2 := hA2.kept hb1
  clear hA0 hA1 hA2
  have c4 := k0.cell 4
  have d3 := k2.cell 3
  have f2 := k2.frozen
  simp at c4 d3
  have hlt := k2.lt
  go_wp2_with fail
  have hb2 : Below w.heap.size w (w1.setCell ⟨w.heap.size + 1 + 1, 3, none⟩ (.slice a1 pn c1)) := hb1'.setCell (by simp; omega) _
  have hWW2 : V.heap.size ≤ (w1.setCell ⟨w.heap.size + 1 + 1, 3, none⟩ (.slice a1 pn c1)).heap.size := by simpa using hb1.size
  have ho2 := ho1.other ⟨w.heap.size + 1 + 1, 3, none⟩ (.slice a1 pn c1) (by simp; omega)
  have m1 := k1.other ⟨w.heap.size + 1 + 1, 3, none⟩ (.slice a1 pn c1) (by simp)
  have m2 : Arr _ _ _ [.int .i64 d, .int .i64 n, .int .i64 f, .slice a1 pn c1, .slice none 0 0] := k2.set 3 (.slice a1 pn c1)
  generalize (w1.setCell ⟨w.heap.size + 1 + 1, 3, none⟩ (.slice a1 pn c1)) = W2 at hb2 ho2 m1 m2 hWW2 ⊢
  clear c4 d3 f2 hlt k0 k1 k2 ho1 hb1 hb1'
  refine (toNeedSC na nn nc _ _ (HN.out.below hb2).rs hn).mono ?_
  rintro e w3 ⟨a3, c3, rfl, ho3, hb3⟩
  have n1 := m1.kept hb3
  have n2 := m2.kept hb3
  have e0 := n1.cell 0
  have e1 := n1.cell 1
  have e2 := n1.cell 2
  have e3 := n1.cell 3
  have e4 := n1.cell 4
  have d0 := n2.cell 0
  have d1 := n2.cell 1
  have d2 := n2.cell 2
  have d3 := n2.cell 3
  have d4 := n2.cell 4
  have f1 := n1.frozen
  have f2 := n2.frozen
  simp at e0 e1 e2 e3 e4 d0 d1 d2 d3 d4
  have hb4 := hb2.trans (hb3.mono hb2.size)
  have HO : Hid (∀ q u, q.block < V.heap.size → ∀ q0 u0, q0.block < V.heap.size → ∀ q1 u1, q1.block < V.heap.size → ∀ q2 u2, q2.block < V.heap.size → ∀ q3 u3, q3.block < V.heap.size → ∀ q4 u4, q4.block < V.heap.size → Pq w.heap.size ((((((w3.setCell q u).setCell q0 u0).setCell q1 u1).setCell q2 u2).setCell q3 u3).setCell q4 u4) a1 pn c1 ps ∧ ((((((w3.setCell q u).setCell q0 u0).setCell q1 u1).setCell q2 u2).setCell q3 u3).setCell q4 u4).ownsRow w.heap.size 115 4 (.slice a3 nn c3) nn (FL (ns.map nrc))) := by
    intro q u h q0 u0 h0 q1 u1 h1 q2 u2 h2 q3 u3 h3 q4 u4 h4
    exact ⟨((((((((ho2.below hb3).other q u h).other q0 u0 h0).other q1 u1 h1).other q2 u2 h2).other q3 u3 h3).other q4 u4 h4)).base hL.size, own_base (own_other (own_other (own_other (own_other (own_other (own_other (own_base ho3 hWW2) q u h) q0 u0 h0) q1 u1 h1) q2 u2 h2) q3 u3 h3) q4 u4 h4) hL.size⟩
  have HF : Hid (∀ u u0 u1 u2 u3 u4, Below w.heap.size w ((((((w3.setCell ⟨w.heap.size + 1 + 1, 4, none⟩ u).setCell ⟨w.heap.size + 1, 0, none⟩ u0).setCell ⟨w.heap.size + 1, 1, none⟩ u1).setCell ⟨w.heap.size + 1, 2, none⟩ u2).setCell ⟨w.heap.size + 1, 3, none⟩ u3).setCell ⟨w.heap.size + 1, 4, none⟩ u4)) := fun u u0 u1 u2 u3 u4 =>
    (((((hb4.setCell (by simp; omega) _).setCell (by simp) _).setCell (by simp) _).setCell (by simp) _).setCell (by simp) _).setCell (by simp) _
  have K1 : Hid (Arr w3 (w.heap.size + 1) 31 [.int .i64 0, .int .i64 0, .int .i64 0, .slice none 0 0, .slice none 0 0]) := n1
  clear hb4 ho2 ho3 hb3 hb2 m1 m2 hL n1 n2
  go_wp2
  have K2 : Arr w3 (w.heap.size + 1) 31 [.int .i64 0, .int .i64 0, .int .i64 0, .slice none 0 0, .slice none 0 0] := K1.out
  have n3 := (((((K2.other ⟨w.heap.size + 1 + 1, 4, none⟩ (.slice a3 nn c3) (by simp)).set 0 (.int .i64 d)).set 1 (.int .i64 n)).set 2 (.int .i64 f)).set 3 (.slice a1 pn c1)).set 4 (.slice a3 nn c3)
  have H := HO.out ⟨w.heap.size + 1 + 1, 4, none⟩ (.slice a3 nn c3) (by simp; omega) ⟨w.heap.size + 1, 0, none⟩ (.int .i64 d) (by simp; omega) ⟨w.heap.size + 1, 1, none⟩ (.int .i64 n) (by simp; omega) ⟨w.heap.size + 1, 2, none⟩ (.int .i64 f) (by simp; omega) ⟨w.heap.size + 1, 3, none⟩ (.slice a1 pn c1) (by simp; omega) ⟨w.heap.size + 1, 4, none⟩ (.slice a3 nn c3) (by simp; omega)
  exact bodyPost_ret (results_cell_row rfl _ _ (w.heap.size + 1) 31 _ (0, 0) _ rfl n3 Try.underlying31 rfl (by kernel_rfl)) rfl ⟨a1, c1, a3, c3, rfl, H.1, H.2, HF.out _ _ _ _ _ _⟩
end Go.Proofs.Ytgfjbaigmkdbcaa
