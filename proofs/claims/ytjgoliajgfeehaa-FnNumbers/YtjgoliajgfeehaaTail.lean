/-
  What is proved here: plain facts on three rows of bytes that a call owns, apart from each other, and how they stay while one is marked or newer memory is made; no condition.
-/
import Derived.Test.YtjgoliajgfeehaaSmall
namespace Go.Proofs.Ytjgoliajgfeehaa
open Go.RowKit

theorem bs_of_own {W : World} {B n c : Nat} {a : Option Addr} {l : List Int} (h : W.ownsRow B 5 1 (.slice a n c) n (U8 l)) (hby : ∀ x ∈ l, 0 ≤ x ∧ x < 256) : Bs W a n c l := by
  obtain ⟨a', c', e, _, hb⟩ := Bs.own h hby
  simp only [Value.slice.injEq, true_and] at e
  obtain ⟨rfl, rfl⟩ := e
  exact hb

def Apart (u v : Value) : Prop := ∀ k, u.ownBlock = some k → v.ownBlock ≠ some k

theorem apart_of {wA wB : World} {B1 B2 n1 n2 : Nat} {v1 v2 : Value} {l1 l2 : List Value} (h1 : wA.ownsRow B1 5 1 v1 n1 l1) (h2 : wB.ownsRow B2 5 1 v2 n2 l2) (hs : wA.heap.size ≤ B2) : Apart v1 v2 := by
  intro k hk he
  have e1 := (h1.lt k hk).2
  have e2 := (h2.lt k he).1
  omega

theorem Apart.symm {u v : Value} (h : Apart u v) : Apart v u := fun k hk he => h k he hk

theorem own_kept {W W' : World} {B n : Nat} {u v : Value} {l : List Value} (h : W.ownsRow B 5 1 v n l) (hg : W.grownBy W' u.ownBlock) (ha : Apart u v) : W'.ownsRow B 5 1 v n l := by
  refine h.kept hg ?_
  cases hv : v.ownBlock with
  | none => exact .inl rfl
  | some k => exact .inr (fun e => ha k e.symm hv)

/-- Three rows of the call's own, apart from each other; nothing that was there has turned. -/
structure St (w W : World) (s0 sx sg : Value) (n0 nx ng : Nat) (l0 lx lg : List Int) : Prop where
  fr : Below w.heap.size w W
  o0 : W.ownsRow w.heap.size 5 1 s0 n0 (U8 l0)
  ox : W.ownsRow w.heap.size 5 1 sx nx (U8 lx)
  og : W.ownsRow w.heap.size 5 1 sg ng (U8 lg)
  d0x : Apart s0 sx
  d0g : Apart s0 sg
  dxg : Apart sx sg

theorem St.below {w W W' : World} {s0 sx sg : Value} {n0 nx ng : Nat} {l0 lx lg : List Int} (h : St w W s0 sx sg n0 nx ng l0 lx lg) (hb : Below W.heap.size W W') : St w W' s0 sx sg n0 nx ng l0 lx lg :=
  ⟨h.fr.trans (hb.mono h.fr.size), own_below h.o0 hb, own_below h.ox hb, own_below h.og hb, h.d0x, h.d0g, h.dxg⟩

theorem below_mark {n : Nat} {w wr w' : World} {v : Value} {xs : List Value} (hb : Below w.heap.size w wr) (hown : wr.ownsRow w.heap.size 5 1 v n xs) (hg : wr.grownBy w' v.ownBlock) : Below w.heap.size w w' :=
  hb.grown hg hb.size (fun k hk => (hown.lt k hk).1)

theorem St.markx {w W W' : World} {s0 sx sg : Value} {n0 nx ng : Nat} {l0 lx lx' lg : List Int} (h : St w W s0 sx sg n0 nx ng l0 lx lg) (ho : W'.ownsRow w.heap.size 5 1 sx nx (U8 lx')) (hg : W.grownBy W' sx.ownBlock) : St w W' s0 sx sg n0 nx ng l0 lx' lg :=
  ⟨below_mark h.fr h.ox hg, own_kept h.o0 hg h.d0x.symm, ho, own_kept h.og hg h.dxg, h.d0x, h.d0g, h.dxg⟩

theorem St.markg {w W W' : World} {s0 sx sg : Value} {n0 nx ng : Nat} {l0 lx lg lg' : List Int} (h : St w W s0 sx sg n0 nx ng l0 lx lg) (ho : W'.ownsRow w.heap.size 5 1 sg ng (U8 lg')) (hg : W.grownBy W' sg.ownBlock) : St w W' s0 sx sg n0 nx ng l0 lx lg' :=
  ⟨below_mark h.fr h.og hg, own_kept h.o0 hg h.d0g.symm, own_kept h.ox hg h.dxg.symm, ho, h.d0x, h.d0g, h.dxg⟩

theorem St.other {w W W' : World} {s0 sx sg u : Value} {n0 nx ng nu : Nat} {l0 lx lg : List Int} {lu : List Value} (h : St w W s0 sx sg n0 nx ng l0 lx lg) (hu : W.ownsRow w.heap.size 5 1 u nu lu) (hg : W.grownBy W' u.ownBlock)
    (e0 : Apart u s0) (ex : Apart u sx) (eg : Apart u sg) : St w W' s0 sx sg n0 nx ng l0 lx lg :=
  ⟨below_mark h.fr hu hg, own_kept h.o0 hg e0, own_kept h.ox hg ex, own_kept h.og hg eg, h.d0x, h.d0g, h.dxg⟩

end Go.Proofs.Ytjgoliajgfeehaa
