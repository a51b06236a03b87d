/-
  What is proved here: rows of parts and of needs that are owned, as they are read; what is left of it when one cell of a row is written.
-/
import Derived.Test.YtofflhhlacdgfaaDoorPd0
import Derived.Test.YtofflhhlacdgfaaDoorJM21
namespace Go.Proofs.YtofflhhlacdgfaaDoor
open Go.RowKit
set_option maxRecDepth 100000
set_option maxHeartbeats 4000000
set_option linter.unusedVariables false

/-- A part in a row; its sum lies elsewhere. -/
abbrev PtAt (W : World) (lo g q : Nat) : Prop := ∃ (x : PartM) (ha : Option Addr) (hc : Nat), PartAt W g (q * 4) x ha hc ∧ x.h.length = 32 ∧ ∀ b o, ha = some ⟨b, o, none⟩ → b ≠ g ∧ lo ≤ b
abbrev PtL (W : World) (g q : Nat) : Prop := ∃ (x : PartM) (ha : Option Addr) (hc : Nat), PartAt W g (q * 4) x ha hc
theorem ps_all {W : World} {g k cap : Nat} (h : ∀ q, q < k → PtL W g q) (hg : g < W.heap.size) (hcap : k ≤ cap) : ∃ ps, Ps W (some ⟨g, 0, none⟩) k cap ps := by
  refine ⟨(List.range k).map (fun q => if hq : q < k then (h q hq).choose else pz), (fun h => by cases h), by simp, hcap, .inr ⟨g, 0, rfl, hg, fun i hi => ?_⟩⟩
  have e : ((List.range k).map (fun q => if hq : q < k then (h q hq).choose else pz)).getD i pz = (h i hi).choose := by
    rw [List.getD_eq_getElem?_getD, List.getElem?_map, List.getElem?_range hi]
    simp [hi]
  rw [e, Nat.zero_add]
  exact (h i hi).choose_spec
theorem pt_of {W : World} {lo g k cap : Nat} {l : List L4} (O : W.ownsRow lo 45 4 (.slice (some ⟨g, 0, none⟩) k cap) k (QL l)) (hl : l.length = k) (P : Sums lo W l k) : ∀ q, q < k → PtAt W lo g q := fun q hq => by
  obtain ⟨i, r, b, a, c, xs, e, o, hx, h32⟩ := P q hq
  obtain ⟨g0, g1, g2, g3⟩ := QL_get l q (by omega)
  rw [e] at g0 g1 g2 g3
  refine ⟨⟨i, r, b, xs⟩, a, c, ⟨(O.cellAt _ (by omega)).trans g0, (O.cellAt _ (by omega)).trans g1, (O.cellAt _ (by omega)).trans g2, (O.cellAt _ (by omega)).trans g3, bs_of_own o hx⟩, h32, fun b' o' e' => ?_⟩
  have hlo := World.ownsRow.lt o b' (by rw [e']; rfl)
  have := own_types O o (by decide)
  rw [e'] at this
  refine ⟨?_, hlo.1⟩
  rcases this with h | h
  · cases h
  · intro hb
    exact h (by simp [Value.ownBlock, hb])
theorem PtAt.l {W : World} {lo g q : Nat} (h : PtAt W lo g q) : PtL W g q := by
  obtain ⟨x, ha, hc, K, _⟩ := h
  exact ⟨x, ha, hc, K⟩
theorem pt_far {W : World} {lo g q k : Nat} {u : Value} (h : PtAt W lo g q) (hk : (W.cell? ⟨g, k, none⟩).isSome = true) (hf : k < q * 4 ∨ q * 4 + 4 ≤ k) : PtL (W.setCell ⟨g, k, none⟩ u) g q := by
  obtain ⟨x, ha, hc, K, _, hne⟩ := h
  refine ⟨x, ha, hc, ⟨?_, ?_, ?_, ?_, bs_put K.by_ (fun b o e => (hne b o e).1)⟩⟩
  · rw [cell_put hk, if_neg (by omega)]; exact K.k
  · rw [cell_put hk, if_neg (by omega)]; exact K.v
  · rw [cell_put hk, if_neg (by omega)]; exact K.s
  · rw [cell_put hk, if_neg (by omega)]; exact K.h
theorem pt_2 {W : World} {lo g q : Nat} {y : Int} (h : PtAt W lo g q) : PtL (W.setCell ⟨g, q * 4 + 2, none⟩ (.int .i64 y)) g q := by
  obtain ⟨x, ha, hc, K, _, hne⟩ := h
  have hk : (W.cell? ⟨g, q * 4 + 2, none⟩).isSome = true := by rw [K.s]; rfl
  refine ⟨⟨x.k, x.v, y, x.h⟩, ha, hc, ⟨?_, ?_, ?_, ?_, bs_put K.by_ (fun b o e => (hne b o e).1)⟩⟩
  · rw [cell_put hk, if_neg (by omega)]; exact K.k
  · rw [cell_put hk, if_neg (by omega)]; exact K.v
  · rw [cell_put hk, if_pos rfl]
  · rw [cell_put hk, if_neg (by omega)]; exact K.h
theorem pt_3 {W : World} {g q b o hc : Nat} {x : PartM} (K : PartAt W g (q * 4) x (some ⟨b, o, none⟩) hc) (h32 : x.h.length = 32) (hne : b ≠ g) : PtL (W.setCell ⟨g, q * 4 + 3, none⟩ (.slice (some ⟨b, o + 1, none⟩) 31 (hc - 1))) g q := by
  have hk : (W.cell? ⟨g, q * 4 + 3, none⟩).isSome = true := by rw [K.h]; rfl
  have hb := K.by_
  rw [h32] at hb
  have ht := bs_tailK (n := 31) hb
  have hl : x.h.tail.length = 31 := by rw [List.length_tail, h32]
  refine ⟨⟨x.k, x.v, x.s, x.h.tail⟩, some ⟨b, o + 1, none⟩, hc - 1, ⟨?_, ?_, ?_, ?_, ?_⟩⟩
  · rw [cell_put hk, if_neg (by omega)]; exact K.k
  · rw [cell_put hk, if_neg (by omega)]; exact K.v
  · rw [cell_put hk, if_neg (by omega)]; exact K.s
  · rw [cell_put hk, if_pos rfl]
    show some (Value.slice _ 31 _) = some (Value.slice _ x.h.tail.length _)
    rw [hl]
  · show Bs _ _ x.h.tail.length _ x.h.tail
    rw [hl]
    exact bs_put ht (fun b' o' e => by cases e; exact hne)
theorem ns_rs {w : World} {a : Option Addr} {n c : Nat} {ns : List NeedM} (h : Rs w a n c (ns.map nrc)) : Ns w a n c ns := by
  obtain ⟨h0, h1, h2, h3⟩ := h
  have hl : ns.length = n := by simpa using h1
  refine ⟨h0, hl, h2, ?_⟩
  rcases h3 with h3 | ⟨b, o, e, hlt, hc⟩
  · exact .inl h3
  · refine .inr ⟨b, o, e, hlt, fun i hi => ?_⟩
    have := hc i hi
    have er : rg (ns.map nrc) i = nrc (ns.getD i nz) := by
      unfold rg
      rw [List.getD_eq_getElem?_getD, List.getD_eq_getElem?_getD, List.getElem?_map, List.getElem?_eq_getElem (by omega)]
      rfl
    rw [er] at this
    exact ⟨this.h0, this.h1, this.h2, this.h3⟩
theorem ns_of {w : World} {lo n : Nat} {v : Value} {ns : List NeedM} (h : w.ownsRow lo 41 4 v n (FL (ns.map nrc))) : ∃ a c, v = .slice a n c ∧ Ns w a n c ns := by
  obtain ⟨a, c, e, _, hr⟩ := Rs.own h
  exact ⟨a, c, e, ns_rs hr⟩
theorem own_ty {W : World} {lo lo' t t' s s' n m : Nat} {v u : Value} {xs ys : List Value} (h : W.ownsRow lo t s v n xs) (k : W.ownsRow lo' t' s' u m ys) (ht : t ≠ t') : u.ownBlock = none ∨ u.ownBlock ≠ v.ownBlock := by
  rcases k.2 with ⟨rfl, _⟩ | ⟨g, cap, cur, rfl, _, hg, _⟩
  · exact .inl rfl
  · right
    rcases h.2 with ⟨rfl, _⟩ | ⟨g', cap', cur', rfl, _, hg', _⟩
    · simp [Value.ownBlock]
    · intro e
      simp only [Value.ownBlock, Option.some.injEq] at e
      subst e
      rw [hg] at hg'
      simp only [Option.some.injEq, Obj.cells.injEq] at hg'
      exact ht hg'.2.1.symm
/-- A row is not the block of a cell of another type. -/
theorem own_arr {W : World} {lo t t' s n G : Nat} {v : Value} {xs cs : List Value} (k : W.ownsRow lo t s v n xs) (A : Arr W G t' cs) (ht : t' ≠ t) : v.ownBlock = none ∨ v.ownBlock ≠ some G := by
  rcases k.2 with ⟨rfl, _⟩ | ⟨g, cap, cur, rfl, _, hg, _⟩
  · exact .inl rfl
  · right
    intro e
    simp only [Value.ownBlock, Option.some.injEq] at e
    subst e
    unfold Arr at A
    rw [hg] at A
    simp only [Option.some.injEq, Obj.cells.injEq] at A
    exact ht A.2.1.symm
theorem own_cellP {W : World} {lo t t' s n G j : Nat} {v u : Value} {xs cs : List Value} (k : W.ownsRow lo t s v n xs) (A : Arr W G t' cs) (ht : t' ≠ t) : (W.setCell ⟨G, j, none⟩ u).ownsRow lo t s v n xs :=
  k.kept (cur_grown2 W G u j) (own_arr k A ht)
theorem Sums.cell {lo k t' G j : Nat} {W : World} {l : List L4} {u : Value} {cs : List Value} (h : Sums lo W l k) (A : Arr W G t' cs) (ht : t' ≠ 5) : Sums lo (W.setCell ⟨G, j, none⟩ u) l k := fun q hq => by
  obtain ⟨i, r, b, a, c, xs, e, o, hx⟩ := h q hq
  exact ⟨i, r, b, a, c, xs, e, own_cellP o A ht, hx⟩
theorem own_row4 {W : World} {lo lo' t t' n m j : Nat} {g : Nat} {cap : Nat} {v u : Value} {xs ys : List Value} (k : W.ownsRow lo t 4 v n xs) (h : W.ownsRow lo' t' 4 (.slice (some ⟨g, 0, none⟩) m cap) m ys) (ht : t' ≠ t) : (W.setCell ⟨g, j, none⟩ u).ownsRow lo t 4 v n xs :=
  k.kept (cur_grown2 W g u j) (own_ty h k ht)
theorem D8.app {w W W' : World} {p : Nat} {a : Option Addr} {n c : Nat} (h : D8 w W p a n c) {lo t s m : Nat} {v : Value} {xs : List Value} (o : W.ownsRow lo t s v m xs) (hlo : w.heap.size ≤ lo) (hp : p < w.heap.size) (hg : W.grownBy W' v.ownBlock) : D8 w W' p a n c :=
  ⟨cur_keep h.cu hg (fun e => by have := (World.ownsRow.lt o p e).1; omega), grown_into h.gr hg (fun k hk => .inl (Nat.le_trans hlo (World.ownsRow.lt o k hk).1))⟩
end Go.Proofs.YtofflhhlacdgfaaDoor
