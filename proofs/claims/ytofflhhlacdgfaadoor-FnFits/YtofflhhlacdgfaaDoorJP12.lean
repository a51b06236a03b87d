/-
  What is proved here: contracts of two helpers of the exact laws (mark a slice of ints, look whether the marks are held), for every slice of at most 2^21 ints; plain facts on four rows (three of ints, one of bytes) that a call owns, apart from each other, and how they stay while one is marked or newer memory is made; no condition; an append onto a row of bytes that the call itself owns, as a step of a region that draws its order.
-/
import Derived.Test.YtofflhhlacdgfaaDoorJP1
import Derived.Test.YtofflhhlacdgfaaDoorJP11
import Derived.Test.YtofflhhlacdgfaaDoorJP7
import Derived.Deep.AppendLies
namespace Go.Proofs.YtofflhhlacdgfaaDoor
open Go.RowKit



/-- The marks: k0, k0 + 1, ... -/
def marksI (k0 : Int) (n : Nat) : List Int := (List.range n).map (fun j : Nat => (k0 + (j : Int)))
theorem marksI_len (k0 : Int) (n : Nat) : (marksI k0 n).length = n := by simp [marksI]
theorem marksI_get (k0 : Int) (n k : Nat) (h : k < n) : (marksI k0 n).getD k 0 = (k0 + (k : Int)) := by simp [marksI, h]
theorem marksI_int (k0 : Int) (n : Nat) (h0 : 0 ≤ k0) (h1 : k0 ≤ 10000000) (hn : n ≤ 2097152) : ∀ x ∈ marksI k0 n, -9223372036854775808 ≤ x ∧ x ≤ 9223372036854775807 := by
  intro x hx; simp only [marksI, List.mem_map, List.mem_range] at hx; obtain ⟨j, hj, rfl⟩ := hx; omega
theorem set_marksI (xs : List Int) (k0 : Int) (n k : Nat) (h : k < n) (hn : xs.length = n) :
    (I64 (marksI k0 k ++ xs.drop k)).set k (.int .i64 ((k0 + (k : Int)))) = I64 (marksI k0 (k + 1) ++ xs.drop (k + 1)) := by
  have e : xs.drop k = xs.getD k 0 :: xs.drop (k + 1) := by
    rw [List.drop_eq_getElem_cons (by omega)]; simp [show k < xs.length by omega]
  have e2 : marksI k0 (k + 1) = marksI k0 k ++ [(k0 + (k : Int))] := by simp [marksI, List.range_succ]
  rw [e, e2]
  simp only [I64, List.map_append, List.map_cons]
  rw [List.set_append_right _ _ (by simp [marksI_len])]
  simp [marksI_len]

end Go.Proofs.YtofflhhlacdgfaaDoor
namespace Go.Proofs.YtofflhhlacdgfaaDoor
open Go.RowKit

structure S4 (w W : World) (s0 sx sy sg : Value) (n0 nx ny ng : Nat) (l0 lx ly lg : List Int) : Prop where
  fr : Below w.heap.size w W
  o0 : W.ownsRow w.heap.size 3 1 s0 n0 (I64 l0)
  ox : W.ownsRow w.heap.size 3 1 sx nx (I64 lx)
  oy : W.ownsRow w.heap.size 5 1 sy ny (U8 ly)
  og : W.ownsRow w.heap.size 3 1 sg ng (I64 lg)
  d0x : Apart s0 sx
  d0y : Apart s0 sy
  d0g : Apart s0 sg
  dxy : Apart sx sy
  dxg : Apart sx sg
  dyg : Apart sy sg

theorem S4.below {w W W' : World} {s0 sx sy sg : Value} {n0 nx ny ng : Nat} {l0 lx ly lg : List Int} (h : S4 w W s0 sx sy sg n0 nx ny ng l0 lx ly lg) (hb : Below W.heap.size W W') : S4 w W' s0 sx sy sg n0 nx ny ng l0 lx ly lg :=
  ⟨h.fr.trans (hb.mono h.fr.size), own_below h.o0 hb, own_below h.ox hb, own_below h.oy hb, own_below h.og hb, h.d0x, h.d0y, h.d0g, h.dxy, h.dxg, h.dyg⟩
theorem S4.markx {w W W' : World} {s0 sx sy sg : Value} {n0 nx ny ng : Nat} {l0 lx lx' ly lg : List Int} (h : S4 w W s0 sx sy sg n0 nx ny ng l0 lx ly lg) (ho : W'.ownsRow w.heap.size 3 1 sx nx (I64 lx')) (hg : W.grownBy W' sx.ownBlock) : S4 w W' s0 sx sy sg n0 nx ny ng l0 lx' ly lg :=
  ⟨below_mark h.fr h.ox hg, own_kept h.o0 hg h.d0x.symm, ho, own_kept h.oy hg h.dxy, own_kept h.og hg h.dxg, h.d0x, h.d0y, h.d0g, h.dxy, h.dxg, h.dyg⟩
theorem S4.marky {w W W' : World} {s0 sx sy sg : Value} {n0 nx ny ng : Nat} {l0 lx ly ly' lg : List Int} (h : S4 w W s0 sx sy sg n0 nx ny ng l0 lx ly lg) (ho : W'.ownsRow w.heap.size 5 1 sy ny (U8 ly')) (hg : W.grownBy W' sy.ownBlock) : S4 w W' s0 sx sy sg n0 nx ny ng l0 lx ly' lg :=
  ⟨below_mark h.fr h.oy hg, own_kept h.o0 hg h.d0y.symm, own_kept h.ox hg h.dxy.symm, ho, own_kept h.og hg h.dyg, h.d0x, h.d0y, h.d0g, h.dxy, h.dxg, h.dyg⟩
theorem S4.markg {w W W' : World} {s0 sx sy sg : Value} {n0 nx ny ng : Nat} {l0 lx ly lg lg' : List Int} (h : S4 w W s0 sx sy sg n0 nx ny ng l0 lx ly lg) (ho : W'.ownsRow w.heap.size 3 1 sg ng (I64 lg')) (hg : W.grownBy W' sg.ownBlock) : S4 w W' s0 sx sy sg n0 nx ny ng l0 lx ly lg' :=
  ⟨below_mark h.fr h.og hg, own_kept h.o0 hg h.d0g.symm, own_kept h.ox hg h.dxg.symm, own_kept h.oy hg h.dyg.symm, ho, h.d0x, h.d0y, h.d0g, h.dxy, h.dxg, h.dyg⟩
end Go.Proofs.YtofflhhlacdgfaaDoor
namespace Go.Proofs.YtofflhhlacdgfaaDoor
set_option maxRecDepth 100000
open Go.RowKit

theorem step_append_bs {w : World} {ops : Array Oper} {o : Oper} {a : Act} {K : Act → World → Prop} {Q : Exit → Act → World → Prop} {E : Prop} (hgd : o.guard = none) (s x : Operand)
    (ho : o.op = .call { callee := .builtin .append, args := #[s, x], argTypes := #[22, 22] })
    (base : Nat) (v : Value) (n : Nat) (xs : List Int) (hs : a.eval s = v) (ad : Addr) (m c : Nat) (ys : List Int) (hx : a.eval x = .slice (some ad) m c)
    (hown : w.ownsRow base 5 1 v n (U8 xs)) (hb : Bs w (some ad) m c ys) (hlen : n + m ≤ 1099511627776) (hbase : base ≤ w.heap.size)
    (h : ∀ v' w', w'.ownsRow base 5 1 v' (n + m) (U8 (xs ++ ys)) → w.grownBy w' v.ownBlock → (v'.ownBlock = v.ownBlock ∨ v'.ownBlock = some w.heap.size) → K (a.put o.dst v') w') :
    if Region.wanted o (yielded ops a.tmps) = true then Oper.wp Tryd.prog o a w K Q else E := by
  obtain ⟨i0, hi, hz0, hz1, hz2⟩ := info_parts Tryd.info5
  obtain ⟨_, hl, hc, _, hb⟩ := hb
  have hw : Region.wanted o (yielded ops a.tmps) = true := by simp [Region.wanted, hgd]
  rw [if_pos hw]
  have hnews : ∀ j u, (U8 ys)[j]? = some u → w.cell? (ad.add j) = some u := by
    rcases hb with hb | ⟨b, off, ha, _, hcell⟩
    · intro j u hj
      have hy : ys = [] := List.eq_nil_of_length_eq_zero (by omega)
      subst hy
      simp at hj
    · obtain rfl := Option.some.inj ha
      intro j u hj
      have hjl : j < m := by
        have := (List.getElem?_eq_some_iff.1 hj).1
        simpa [hl] using this
      rw [Addr.add_lit, hcell j hjl]
      have e : (U8 ys)[j]? = some (.int .u8 (ys.getD j 0)) := by simp [show j < ys.length by omega]
      rw [e] at hj
      exact hj
  obtain ⟨v', w', hr, h2, h3, _, h5⟩ := run_append_own_at (P := Tryd.prog) w base 22 o.type 5 i0 (.int .u8 0) 1 1 Tryd.underlying22 hi hz0 hz1 hz2 rfl (by decide) v n (U8 xs) hown ad m c (U8 ys) (by simp [hl]) hnews (ints_oneCell _ _)
    (by unfold maxLen; omega) (by omega) hbase
  unfold Oper.wp execOp
  simp only [ho, resolve, invoke, builtin, Sem.run_bind, Sem.run_pure, Result.andThen_ok, List.map_toArray, List.map_cons, List.map_nil, hs, hx, hr]
  exact h v' w' (by simpa using h2) h3 h5
theorem made_below {w w' : World} (hg : (w.drew.alloc (.cells #[] 5)).grownBy w' (Value.ownBlock (.slice (some ⟨w.heap.size, 0, none⟩) 0 0))) : Below w.heap.size w w' :=
  ((Below.refl _ _).drew.alloc (Nat.le_refl _) _).grown hg (by simp) (fun k hk => by have e : w.heap.size = k := Option.some.inj hk; rw [← e]; exact Nat.le_refl _)
end Go.Proofs.YtofflhhlacdgfaaDoor
