/-
  What is proved here: what the laws' toBundle and markBundle do, and where their rows lie.
-/
import Derived.Test.YtofflhhlacdgfaaDoorJM20
import Derived.Test.YtofflhhlacdgfaaDoorP0m
namespace Go.Proofs.YtofflhhlacdgfaaDoor
open Go.RowKit
set_option maxRecDepth 100000
set_option maxHeartbeats 4000000
set_option linter.unusedVariables false

theorem Chg.wide {W W' : World} {a b a' b' : Nat} (h : Chg W W' a b) (h1 : a' ≤ a) (h2 : b ≤ b') : Chg W W' a' b' := ⟨h.os, h.tape, h.output, h.size, fun i hi hj => h.block i hi (by omega)⟩
theorem Chg.cell {W : World} (p : Addr) (u : Value) : Chg W (W.setCell p u) p.block (p.block + 1) :=
  ⟨rfl, rfl, rfl, by simp, fun i _ hj => heap_setCell_other W p i u (fun e => by omega)⟩
section
variable {lo hi : Nat} {W W' : World} {a : Option Addr} {n c : Nat} {xs : List PartM}
theorem Pqh.belowh (h : Pqh lo hi W a n c xs) (hb : Below W.heap.size W W') : Pqh lo hi W' a n c xs := h.chg (.of_below hb hi) (.inr (.inr (Nat.le_refl _)))
theorem Pqh.other (h : Pqh lo hi W a n c xs) (p : Addr) (u : Value) (hp : p.block < lo) : Pqh lo hi (W.setCell p u) a n c xs := h.chg (Chg.cell p u) (.inr (.inl hp))
theorem Pqh.base {lo' : Nat} (h : Pqh lo hi W a n c xs) (hl : lo' ≤ lo) : Pqh lo' hi W a n c xs := by
  obtain ⟨h0, h1, hz, g, l, rfl, h2, h3, h4, h5, h6⟩ := h
  exact ⟨h0, h1, hz, g, l, rfl, by omega, h3, own_base h4 hl, h5, h6⟩
end
theorem markBundleC (lo mid hi : Nat) (d n f : Int) (pa : Option Addr) (pn pc : Nat) (na : Option Addr) (nn nc : Nat) (ps : List PartM) (l : List Rc) (k0 : Int) (w : World) (hP : Pqh lo mid w pa pn pc ps) (hN : Rq w mid hi 41 (.slice na nn nc) nn l) (h1 : lo ≤ mid) (h2 : mid ≤ hi) (hp : PqSm pn ps) (hn : nn ≤ 1048576) (h0 : 0 ≤ k0) (hk : k0 ≤ 10000) :
    Calls Tryd.prog 37 #[bunV d n f pa pn pc na nn nc, .int .i64 k0] w fun e w' => ∃ x : Int, e = .returned (.int .i64 x) ∧ 0 ≤ x ∧ Chg w w' lo hi := by
  obtain ⟨V, hV⟩ : ∃ V, V = w.alloc (.cells #[.int .i64 d, .int .i64 n, .int .i64 f, .slice pa pn pc, .slice na nn nc] 26) := ⟨_, rfl⟩
  have B : Below w.heap.size w V := by rw [hV]; exact (Below.refl _ _).alloc (Nat.le_refl _) _
  have A : Arr V w.heap.size 26 [.int .i64 d, .int .i64 n, .int .i64 f, .slice pa pn pc, .slice na nn nc] := by rw [hV]; exact Arr.new _ _ _
  have c3 := A.cell 3
  have c4 := A.cell 4
  simp at c3 c4
  have HP : Hid (Pqh lo mid V pa pn pc ps) := hP.belowh B
  have HN : Hid (Rq V mid hi 41 (.slice na nn nc) nn l) := hN.chg (.of_below B hi) (.inr (.inr (Nat.le_refl _)))
  have HC : Hid (Chg w V lo hi) := (Chg.of_below B lo).wide (Nat.le_refl _) (by omega)
  have hz := hN.z
  have HM : Hid (PqSm pn ps) := hp
  clear hP hN hp B
  go_enter Tryd.func37, Tryd.ntmps37
  go_wp2_with fail
  rw [← hV]
  clear hV
  refine Calls.mono (markPartSC lo mid pa pn pc ps k0 V HP.out HM.out h0 (by omega)) ?_
  rintro e w1 ⟨x, rfl, ⟨hx0, hx1⟩, hc⟩
  have HC1 : Hid (Chg w w1 lo hi) := chg_tr HC.out (hc.wide (Nat.le_refl _) h2)
  have HN1 : Hid (Rq w1 mid hi 41 (.slice na nn nc) nn l) := HN.out.chg hc (by omega)
  replace A := A.chg hc (by omega)
  clear c3 c4 hc HC HN HP
  have c3 := A.cell 3
  have c4 := A.cell 4
  simp at c3 c4
  go_wp2_with fail
  refine Calls.mono (markNeedSC mid nn _ x l w1 HN1.out.o hn hx0 (by omega)) ?_
  rintro e w2 ⟨rfl, o, g⟩
  have hc := HN1.out.gr g
  have HC2 : Hid (Chg w w2 lo hi) := chg_tr HC1.out (hc.wide h1 (Nat.le_refl _))
  clear o g hc HC1 HN1 c3 c4
  go_wp2
  go_ret
  exact ⟨_, rfl, by omega, HC2.out⟩
end Go.Proofs.YtofflhhlacdgfaaDoor
