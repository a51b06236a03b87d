/-
  What is proved here: what is held of a drawn bundle when one cell of its first part is written, or the part is appended again, and how the bundle reads then.
-/
import Derived.Test.YtofflhhlacdgfaaDoorPd2
namespace Go.Proofs.YtofflhhlacdgfaaDoor
open Go.RowKit
set_option maxRecDepth 100000
set_option maxHeartbeats 4000000
set_option linter.unusedVariables false

theorem run_app_p4 (w : World) (base : Nat) (v : Value) (n : Nat) (xs : List L4) (hown : w.ownsRow base 45 4 v n (QL xs)) (g c : Nat) (i r b : Int) (pa : Option Addr) (pn pc : Nat)
    (A : Arr w g 45 [.int .i64 i, .int .i64 r, .int .i64 b, .slice pa pn pc]) (hn : n ≤ 1048576) (hbase : base ≤ w.heap.size) :
    ∃ v' w', (Builtin.append_ #[23, 23] 23 #[v, .slice (some ⟨g, 0, none⟩) 1 c]).run Tryd.prog w = .ok v' w' ∧ w'.ownsRow base 45 4 v' (n + 1) (QL (xs ++ [⟨.int .i64 i, .int .i64 r, .int .i64 b, .slice pa pn pc⟩])) ∧ w.grownBy w' v.ownBlock := by
  obtain ⟨i0, hi, hz0, hz1, hz2⟩ := info_parts (show (Tryd.prog.info? 45).map (fun i => (i.zero, i.size, i.bytes)) = some (some (.agg #[.int .i64 0, .int .i64 0, .int .i64 0, .slice none 0 0]), 4, 48) by kernel_rfl)
  obtain ⟨v', w', h1, h2, h3, _, h5⟩ := run_append_own_at (P := Tryd.prog) w base 23 23 45 i0 (.agg #[.int .i64 0, .int .i64 0, .int .i64 0, .slice none 0 0]) 4 48 Tryd.underlying23 hi hz0 hz1 hz2 rfl (by decide) v n (QL xs) hown ⟨g, 0, none⟩ 1 c (QL [⟨.int .i64 i, .int .i64 r, .int .i64 b, .slice pa pn pc⟩]) rfl
    (fun j u hj => by
      rw [Addr.add_lit]
      have hj4 : j < 4 := by
        have := (List.getElem?_eq_some_iff.1 hj).1
        simpa [QL] using this
      rw [show (0 : Nat) + j = j by omega, A.cell j]
      exact hj)
    (QL_one _ (fun x hx => by simp at hx; subst hx; exact ⟨rfl, rfl, rfl, rfl⟩)) (by unfold maxLen; omega) (by omega) hbase
  exact ⟨v', w', h1, by rw [QL_app]; exact h2, h3⟩
/-- Bytes that lie in a block of bytes. -/
abbrev InB (W : World) (a : Option Addr) (n c : Nat) (xs : List Int) : Prop := Bs W a n c xs ∧ ∀ b o, a = some ⟨b, o, none⟩ → ∃ cur, W.heap[b]? = some (.cells cur 5 (0, 0))
theorem InB.of {W : World} {lo n c : Nat} {a : Option Addr} {xs : List Int} (o : W.ownsRow lo 5 1 (.slice a n c) n (U8 xs)) (hx : ∀ x ∈ xs, 0 ≤ x ∧ x < 256) (hl : xs.length = n) : InB W a n c xs := by
  subst hl
  refine ⟨bs_of_own o hx, fun b o' e => ?_⟩
  rcases o.2 with ⟨h, _⟩ | ⟨g, cap, cur, h, _, hg, _⟩
  · rw [e] at h; cases h
  · rw [e] at h
    injection h with h1 h2 h3
    injection h1 with h1
    injection h1 with h1 h4 h5
    subst h1
    exact ⟨cur, hg⟩
theorem InB.set {W : World} {a : Option Addr} {n c G j t : Nat} {xs : List Int} {cur : Array Value} {u : Value} (h : InB W a n c xs) (hG : W.heap[G]? = some (.cells cur t (0, 0))) (ht : t ≠ 5) : InB (W.setCell ⟨G, j, none⟩ u) a n c xs := by
  have hne : ∀ b o, a = some ⟨b, o, none⟩ → b ≠ G := fun b o e hb => by
    obtain ⟨cur', h'⟩ := h.2 b o e
    rw [hb, hG] at h'
    simp only [Option.some.injEq, Obj.cells.injEq] at h'
    exact ht h'.2.1
  refine ⟨bs_put h.1 hne, fun b o e => ?_⟩
  obtain ⟨cur', h'⟩ := h.2 b o e
  exact ⟨cur', by rw [heap_setCell_other W ⟨G, j, none⟩ b u (fun e' => hne b o e e')]; exact h'⟩
/-- The sums of the first parts, as they are read. -/
def SumB (W : World) (l : List L4) (k : Nat) : Prop := ∀ q, q < k → ∃ (i r b : Int) (a : Option Addr) (c : Nat) (xs : List Int), lg l q = ⟨.int .i64 i, .int .i64 r, .int .i64 b, .slice a xs.length c⟩ ∧ InB W a xs.length c xs
theorem Sums.b {lo k : Nat} {W : World} {l : List L4} (h : Sums lo W l k) : SumB W l k := fun q hq => by
  obtain ⟨i, r, b, a, c, xs, e, o, hx⟩ := h q hq
  exact ⟨i, r, b, a, c, xs, e, InB.of o hx.1 rfl⟩
theorem SumB.set {W : World} {l : List L4} {k G j t : Nat} {cur : Array Value} {u : Value} (h : SumB W l k) (hG : W.heap[G]? = some (.cells cur t (0, 0))) (ht : t ≠ 5) : SumB (W.setCell ⟨G, j, none⟩ u) l k := fun q hq => by
  obtain ⟨i, r, b, a, c, xs, e, o⟩ := h q hq
  exact ⟨i, r, b, a, c, xs, e, o.set hG ht⟩
/-- What is read of a drawn bundle. -/
structure Bf (w W : World) (p : Nat) (a : Option Addr) (n c g cap k : Nat) (l : List L4) (nv : Value) (m : Nat) (ns : List NeedM) : Prop where
  D : D8 w W p a n c
  O : W.ownsRow w.heap.size 45 4 (.slice (some ⟨g, 0, none⟩) k cap) k (QL l)
  S : SumB W l k
  N : W.ownsRow w.heap.size 41 4 nv m (FL (ns.map nrc))
section
variable {w W W' : World} {p : Nat} {a : Option Addr} {n c g cap k : Nat} {l : List L4} {nv : Value} {m : Nat} {ns : List NeedM}
theorem Bw.f (h : Bw w W p a n c g cap k l nv m ns) : Bf w W p a n c g cap k l nv m ns := ⟨h.D, h.O, h.S.b, h.N⟩
theorem Bf.set (h : Bf w W p a n c g cap k l nv m ns) (hp : p < w.heap.size) {G : Nat} {cs : List Value} (A : Arr W G 26 cs) (hG : w.heap.size ≤ G) (j : Nat) (u : Value) : Bf w (W.setCell ⟨G, j, none⟩ u) p a n c g cap k l nv m ns :=
  ⟨h.D.set hG hp j u, own_cellP h.O A (by decide), h.S.set A (by decide), own_cellP h.N A (by decide)⟩
theorem Bf.set5 (h : Bf w W p a n c g cap k l nv m ns) (hp : p < w.heap.size) {G : Nat} {cs : List Value} (A : Arr W G 26 cs) (hG : w.heap.size ≤ G) (u0 u1 u2 u3 u4 : Value) :
    Bf w (((((W.setCell ⟨G, 0, none⟩ u0).setCell ⟨G, 1, none⟩ u1).setCell ⟨G, 2, none⟩ u2).setCell ⟨G, 3, none⟩ u3).setCell ⟨G, 4, none⟩ u4) p a n c g cap k l nv m ns :=
  ((((h.set hp A hG 0 u0).set hp (A.set 0 u0) hG 1 u1).set hp ((A.set 0 u0).set 1 u1) hG 2 u2).set hp (((A.set 0 u0).set 1 u1).set 2 u2) hG 3 u3).set hp ((((A.set 0 u0).set 1 u1).set 2 u2).set 3 u3) hG 4 u4
theorem Bf.ps (h : Bf w W p a n c g cap k l nv m ns) (hl : l.length = k) : ∃ ps, Ps W (some ⟨g, 0, none⟩) k cap ps := by
  have hb := World.ownsRow.lt h.O g rfl
  have hcap : k ≤ cap := by
    rcases h.O.2 with ⟨h, h0⟩ | ⟨g', cap', cur, h, _, _, h1, _⟩
    · cases h
    · injection h with h2 h3 h4; omega
  refine ps_all (fun q hq => ?_) hb.2 hcap
  obtain ⟨i, r, b, a', c', xs, e, o⟩ := h.S q hq
  obtain ⟨g0, g1, g2, g3⟩ := QL_get l q (by omega)
  rw [e] at g0 g1 g2 g3
  exact ⟨⟨i, r, b, xs⟩, a', c', ⟨(h.O.cellAt _ (by omega)).trans g0, (h.O.cellAt _ (by omega)).trans g1, (h.O.cellAt _ (by omega)).trans g2, (h.O.cellAt _ (by omega)).trans g3, o.1⟩⟩
theorem Bw.base {w1 : World} (h : Bw w1 W p a n c g cap k l nv m ns) (D : D8 w w1 p a n c) : Bw w W p a n c g cap k l nv m ns :=
  ⟨D.draw h.D.cu h.D.gr, own_lowK h.O D.gr.size, h.S.low D.gr.size, own_lowK h.N D.gr.size⟩
theorem row_block (h : W.ownsRow w.heap.size 45 4 (.slice (some ⟨g, 0, none⟩) k cap) k (QL l)) : ∃ cur, W.heap[g]? = some (.cells cur 45 (0, 0)) := by
  rcases h.2 with ⟨h, h0⟩ | ⟨g', cap', cur, h, _, hg, _⟩
  · cases h
  · injection h with h2 h3 h4
    injection h2 with h2
    injection h2 with h2
    subst h2
    exact ⟨cur, hg⟩
theorem Bw.putS {x : L4} {t : List L4} (h : Bw w W p a n c g cap k (x :: t) nv m ns) (hp : p < w.heap.size) (hk : 0 < k) (y : Int) : Bf w (W.setCell ⟨g, 2, none⟩ (.int .i64 y)) p a n c g cap k (⟨x.a, x.b, .int .i64 y, x.d⟩ :: t) nv m ns := by
  have hb := World.ownsRow.lt h.O g rfl
  obtain ⟨cur, hg⟩ := row_block h.O
  refine ⟨h.D.set hb.1 hp 2 _, ?_, fun q hq => ?_, own_row4 h.N h.O (by decide)⟩
  · have := (h.O.stored 2 (.int .i64 y)).1
    exact this
  · obtain ⟨i, r, b, a', c', xs, e, o⟩ := (h.S.b.set (j := 2) (u := .int .i64 y) hg (by decide)) q hq
    cases q with
    | zero =>
      have e1 : x = ⟨.int .i64 i, .int .i64 r, .int .i64 b, .slice a' xs.length c'⟩ := e
      subst e1
      exact ⟨i, r, y, a', c', xs, rfl, o⟩
    | succ q => exact ⟨i, r, b, a', c', xs, e, o⟩
theorem Bw.putH {x : L4} {t : List L4} {bk ck : Nat} (h : Bw w W p a n c g cap k (x :: t) nv m ns) (hp : p < w.heap.size) (hk : 0 < k) (ex : x.d = .slice (some ⟨bk, 0, none⟩) 32 ck) : Bf w (W.setCell ⟨g, 3, none⟩ (.slice (some ⟨bk, 0 + 1, none⟩) 31 (ck - 1))) p a n c g cap k (⟨x.a, x.b, x.c, .slice (some ⟨bk, 0 + 1, none⟩) 31 (ck - 1)⟩ :: t) nv m ns := by
  have hb := World.ownsRow.lt h.O g rfl
  obtain ⟨cur, hg⟩ := row_block h.O
  refine ⟨h.D.set hb.1 hp 3 _, ?_, fun q hq => ?_, own_row4 h.N h.O (by decide)⟩
  · have := (h.O.stored 3 (.slice (some ⟨bk, 0 + 1, none⟩) 31 (ck - 1))).1
    exact this
  · cases q with
    | zero =>
      obtain ⟨i, r, b, a', c', xs, e, o⟩ := (h.S.b.set (j := 3) (u := .slice (some ⟨bk, 0 + 1, none⟩) 31 (ck - 1)) hg (by decide)) 0 hq
      have e1 : x = ⟨.int .i64 i, .int .i64 r, .int .i64 b, .slice a' xs.length c'⟩ := e
      subst e1
      have ex' : (Value.slice a' xs.length c') = .slice (some ⟨bk, 0, none⟩) 32 ck := ex
      injection ex' with x1 x2 x3
      subst x1
      subst x3
      rw [x2] at o
      have ht := bs_tailK (n := 31) o.1
      have hl : xs.tail.length = 31 := by rw [List.length_tail, x2]
      refine ⟨i, r, b, some ⟨bk, 0 + 1, none⟩, c' - 1, xs.tail, by rw [hl]; rfl, ?_⟩
      rw [hl]
      exact ⟨ht, fun b' o' e' => by cases e'; exact o.2 bk 0 rfl⟩
    | succ q =>
      obtain ⟨i, r, b, a', c', xs, e, o⟩ := (h.S.b.set (j := 3) (u := .slice (some ⟨bk, 0 + 1, none⟩) 31 (ck - 1)) hg (by decide)) (q + 1) hq
      exact ⟨i, r, b, a', c', xs, e, o⟩
/-- The first part. -/
theorem Bw.first {x : L4} {t : List L4} (h : Bw w W p a n c g cap k (x :: t) nv m ns) (hk : 0 < k) : ∃ (i r b : Int) (bk ck : Nat), x = ⟨.int .i64 i, .int .i64 r, .int .i64 b, .slice (some ⟨bk, 0, none⟩) 32 ck⟩ ∧ 32 ≤ ck ∧
    W.cell? ⟨g, 0, none⟩ = some (.int .i64 i) ∧ W.cell? ⟨g, 1, none⟩ = some (.int .i64 r) ∧ W.cell? ⟨g, 2, none⟩ = some (.int .i64 b) ∧ W.cell? ⟨g, 3, none⟩ = some (.slice (some ⟨bk, 0, none⟩) 32 ck) := by
  obtain ⟨i, r, b, a', c', xs, e, o, hx, h32⟩ := h.S 0 hk
  have e1 : x = ⟨.int .i64 i, .int .i64 r, .int .i64 b, .slice a' xs.length c'⟩ := e
  subst e1
  rw [h32] at o
  have hc : ∃ bk, a' = some ⟨bk, 0, none⟩ ∧ 32 ≤ c' := by
    rcases o.2 with ⟨_, h0⟩ | ⟨g', cap', cur, h', _, _, h1, _⟩
    · omega
    · injection h' with h2 h3 h4
      exact ⟨g', h2, by omega⟩
  obtain ⟨bk, rfl, hc⟩ := hc
  rw [h32]
  exact ⟨i, r, b, bk, c', rfl, hc, (h.O.cellAt 0 (by omega)).trans rfl, (h.O.cellAt 1 (by omega)).trans rfl, (h.O.cellAt 2 (by omega)).trans rfl, (h.O.cellAt 3 (by omega)).trans (by simp [QL, h32])⟩
theorem Bw.papp {x : L4} {t : List L4} {v' : Value} (h : Bw w W p a n c g cap k (x :: t) nv m ns) (hp : p < w.heap.size) (hk : 0 < k) (hl : (x :: t).length = k) (O' : W'.ownsRow w.heap.size 45 4 v' (k + 1) (QL ((x :: t) ++ [x]))) (hg : W.grownBy W' (Value.slice (some ⟨g, 0, none⟩) k cap).ownBlock) : ∃ g' cap', v' = .slice (some ⟨g', 0, none⟩) (k + 1) cap' ∧ Bw w W' p a n c g' cap' (k + 1) ((x :: t) ++ [x]) nv m ns := by
  obtain ⟨g', cap', rfl⟩ : ∃ g' cap', v' = .slice (some ⟨g', 0, none⟩) (k + 1) cap' := by
    rcases O'.2 with ⟨_, h0⟩ | ⟨g', cap', cur, h', _⟩
    · omega
    · exact ⟨g', cap', h'⟩
  refine ⟨g', cap', rfl, h.D.app h.O (Nat.le_refl _) hp hg, O', ?_, h.N.kept hg (own_ty h.O h.N (by decide))⟩
  have hS : Sums w.heap.size W' (x :: t) k := h.S.grown h.O (by decide) hg
  obtain ⟨i, r, b, a', c', xs, e, o, hx⟩ := hS 0 hk
  have e1 : x = ⟨.int .i64 i, .int .i64 r, .int .i64 b, .slice a' xs.length c'⟩ := e
  subst e1
  exact hS.snoc hl i r b a' c' xs o hx
end
end Go.Proofs.YtofflhhlacdgfaaDoor
