/-
  What is proved here: contracts of the laws' helpers on a Flash (copy, hold two against each other, count, mark, look for the marks), for every value whose slices hold at most 2^21 elements each.
-/
import Derived.Test.YtcnlpdpbkkjkoaaSmA
import Derived.Test.YtcnlpdpbkkjkoaaSmAI
import Derived.Test.YtcnlpdpbkkjkoaaSmB
import Derived.Test.YtcnlpdpbkkjkoaaSmBI
import Derived.Test.YtcnlpdpbkkjkoaaSz
import Derived.Test.YtcnlpdpbkkjkoaaSzB
import Derived.Test.YtcnlpdpbkkjkoaaGr0
namespace Go.Proofs.Ytcnlpdpbkkjkoaa
set_option maxRecDepth 100000
open Go.RowKit

/-- A Flash as a value. -/
abbrev flV (aB : Option Addr) (nB cB : Nat) (aW : Option Addr) (nW cW : Nat) : Value := .agg #[.slice aB nB cB, .slice aW nW cW]

theorem arr2 {W : World} {g : Nat} {t : TypeId} {a b : Value} (h : Arr W g t [a, b]) : W.cell? ⟨g, 0, none⟩ = some a ∧ W.cell? ⟨g, 1, none⟩ = some b := ⟨h.cell 0, h.cell 1⟩

set_option maxHeartbeats 1000000 in
theorem szFlashC (aB : Option Addr) (nB cB : Nat) (aW : Option Addr) (nW cW : Nat) (l : Int) (w : World) (h0 : 0 ≤ l) (hl : l ≤ 1048576) (hB : nB ≤ 9223372036854775807) (hW : nW ≤ 9223372036854775807) :
    Calls Try.prog 31 #[flV aB nB cB aW nW cW, .int .i64 l] w fun e w' => ∃ r : Int, e = .returned (.int .i64 r) ∧ (r = -1 ∨ 0 ≤ r ∧ r ≤ l ∧ nB ≤ 1048576 ∧ nW ≤ 1048576) ∧ Below w.heap.size w w' := by
  have HB : Hid (Below w.heap.size w (w.alloc (.cells #[.slice aB nB cB, .slice aW nW cW] 45))) := (Below.refl _ _).alloc (Nat.le_refl _) _
  go_enter Try.func31, Try.ntmps31
  go_wp2_with fail
  refine (szB aB nB cB l _ (by omega) (by omega) hB).mono ?_
  rintro e w' ⟨rfl, rfl⟩
  by_cases h1 : l - (nB : Int) < 0
  · rw [if_pos h1]
    go_wp2
    go_ret
    exact ⟨-1, rfl, .inl rfl, HB.out⟩
  rw [if_neg h1]
  obtain ⟨l1, hl1⟩ : ∃ l1 : Int, l1 = l - (nB : Int) := ⟨_, rfl⟩
  rw [← hl1]
  rw [← hl1] at h1
  have HL1 : Hid _ := hl1
  have hl1' : l1 ≤ 1048576 := by omega
  clear hl1
  go_wp2_with fail
  refine (szI aW nW cW l1 _ (by omega) (by omega) hW).mono ?_
  rintro e w' ⟨rfl, rfl⟩
  by_cases h2 : l1 - (nW : Int) < 0
  · rw [if_pos h2]
    go_wp2
    go_ret
    exact ⟨-1, rfl, .inl rfl, HB.out⟩
  rw [if_neg h2]
  obtain ⟨l2, hl2⟩ : ∃ l2 : Int, l2 = l1 - (nW : Int) := ⟨_, rfl⟩
  rw [← hl2]
  rw [← hl2] at h2
  have HL2 : Hid _ := hl2
  clear hl2
  go_wp2
  go_ret
  have hl1 := HL1.out
  have hl2 := HL2.out
  exact ⟨l2, rfl, .inr ⟨by omega, by omega, by omega, by omega⟩, HB.out⟩

/-- A flash that is memory of its own: two rows apart, behind an earlier point of memory. -/
structure OwnFl (lo : Nat) (W : World) (aB : Option Addr) (nB cB : Nat) (aW : Option Addr) (nW cW : Nat) (bs ws : List Int) : Prop where
  ob : W.ownsRow lo 5 1 (.slice aB nB cB) nB (U8 bs)
  ow : W.ownsRow lo 3 1 (.slice aW nW cW) nW (I64 ws)
  ap : Apart (.slice aB nB cB) (.slice aW nW cW)
section
variable {lo : Nat} {W W' : World} {aB : Option Addr} {nB cB : Nat} {aW : Option Addr} {nW cW : Nat} {bs ws : List Int}
theorem OwnFl.below (h : OwnFl lo W aB nB cB aW nW cW bs ws) (hb : Below W.heap.size W W') : OwnFl lo W' aB nB cB aW nW cW bs ws := ⟨own_below h.ob hb, own_below h.ow hb, h.ap⟩
theorem OwnFl.base (h : OwnFl lo W aB nB cB aW nW cW bs ws) {b : Nat} (hb : b ≤ lo) : OwnFl b W aB nB cB aW nW cW bs ws := ⟨own_base h.ob hb, own_base h.ow hb, h.ap⟩
theorem OwnFl.alloc (h : OwnFl lo W aB nB cB aW nW cW bs ws) (o : Obj) : OwnFl lo (W.alloc o) aB nB cB aW nW cW bs ws := ⟨h.ob.alloc _, h.ow.alloc _, h.ap⟩
theorem OwnFl.drewN (h : OwnFl lo W aB nB cB aW nW cW bs ws) (q : Nat) : OwnFl lo (W.drewN q) aB nB cB aW nW cW bs ws := h.below (bel_drewN _ _)
end

set_option maxHeartbeats 1000000 in
theorem toFlashC (aB : Option Addr) (nB cB : Nat) (aW : Option Addr) (nW cW : Nat) (bs ws : List Int) (w : World) (hB : Bs w aB nB cB bs) (hW : Is w aW nW cW ws) (hn : nB ≤ 2097152) (hm : nW ≤ 2097152) :
    Calls Try.prog 32 #[flV aB nB cB aW nW cW] w fun e w' => ∃ aB' cB' aW' cW', e = .returned (flV aB' nB cB' aW' nW cW') ∧ OwnFl w.heap.size w' aB' nB cB' aW' nW cW' bs ws ∧ Below w.heap.size w w' := by
  have hbb := hB.2.2.2.1
  have hwb := hW.2.2.2.1
  obtain ⟨V, hV⟩ : ∃ V, V = ((w.alloc (.cells #[.slice aB nB cB, .slice aW nW cW] 45)).alloc (.cells #[.slice none 0 0, .slice none 0 0] 25)).alloc (.cells #[.slice none 0 0, .slice none 0 0] 25) := ⟨_, rfl⟩
  have hL : Below w.heap.size w V := by rw [hV]; exact (((Below.refl _ _).alloc (Nat.le_refl _) _).alloc (by simp) _).alloc (by simp; omega) _
  have hA0 : Arr V w.heap.size 45 [.slice aB nB cB, .slice aW nW cW] := by rw [hV]; exact ((Arr.new w _ _).alloc _).alloc _
  have hA1 : Arr V (w.heap.size + 1) 25 [.slice none 0 0, .slice none 0 0] := by
    rw [hV]
    have := (Arr.new (w.alloc (.cells #[.slice aB nB cB, .slice aW nW cW] 45)) [.slice none 0 0, .slice none 0 0] 25).alloc (.cells #[.slice none 0 0, .slice none 0 0] 25)
    simpa using this
  have hA2 : Arr V (w.heap.size + 1 + 1) 25 [.slice none 0 0, .slice none 0 0] := by
    rw [hV]
    have := Arr.new ((w.alloc (.cells #[.slice aB nB cB, .slice aW nW cW] 45)).alloc (.cells #[.slice none 0 0, .slice none 0 0] 25)) [.slice none 0 0, .slice none 0 0] 25
    simpa using this
  go_enter Try.func32, Try.ntmps32
  go_wp2_with fail
  rw [show ((w.alloc (.cells #[.slice aB nB cB, .slice aW nW cW] 45)).alloc (.cells #[.slice none 0 0, .slice none 0 0] 25)).alloc (.cells #[.slice none 0 0, .slice none 0 0] 25) = V from hV.symm]
  refine (toS aB nB cB bs _ (hB.below hL) hn).mono ?_
  rintro e w1 ⟨aB', cB', rfl, ho1, _, hb1⟩
  have hb1' := hL.trans (hb1.mono hL.size)
  have k0 := hA0.kept hb1
  have k1 := hA1.kept hb1
  have k2 := hA2.kept hb1
  clear hA0 hA1 hA2
  have c1 := k0.cell 1
  have d0 := k2.cell 0
  have f := k2.frozen
  simp at c1 d0
  have hlt := k2.lt
  go_wp2_with fail
  have hb2 : Below w.heap.size w (w1.setCell ⟨w.heap.size + 1 + 1, 0, none⟩ (.slice aB' nB cB')) := hb1'.setCell (by simp; omega) _
  have hWs : w.heap.size + 1 + 1 < V.heap.size := by rw [hV]; simp
  have hWW2 : V.heap.size ≤ (w1.setCell ⟨w.heap.size + 1 + 1, 0, none⟩ (.slice aB' nB cB')).heap.size := by simpa using hb1.size
  have ho2 := own_other ho1 ⟨w.heap.size + 1 + 1, 0, none⟩ (.slice aB' nB cB') hWs
  have m1 := k1.other ⟨w.heap.size + 1 + 1, 0, none⟩ (.slice aB' nB cB') (by simp)
  have m2 : Arr _ _ _ [.slice aB' nB cB', .slice none 0 0] := k2.set 0 (.slice aB' nB cB')
  generalize (w1.setCell ⟨w.heap.size + 1 + 1, 0, none⟩ (.slice aB' nB cB')) = W2 at hb2 ho2 m1 m2 hWW2 ⊢
  clear c1 d0 f hlt k0 k1 k2 ho1 hb1 hb1'
  refine (toSI aW nW cW ws _ (hW.below hb2) hm).mono ?_
  rintro e w3 ⟨aW', cW', rfl, ho3, _, hb3⟩
  have n1 := m1.kept hb3
  have n2 := m2.kept hb3
  have e0 := n1.cell 0
  have e1 := n1.cell 1
  have d0 := n2.cell 0
  have d1 := n2.cell 1
  have f1 := n1.frozen
  have f2 := n2.frozen
  simp at e0 e1 d0 d1
  have hb4 := hb2.trans (hb3.mono hb2.size)
  have ap := apart_of ho2 ho3 (Nat.le_refl _)
  have HO : Hid (∀ p u, p.block < V.heap.size → ∀ p' u', p'.block < V.heap.size → ∀ p'' u'', p''.block < V.heap.size → OwnFl w.heap.size (((w3.setCell p u).setCell p' u').setCell p'' u'') aB' nB cB' aW' nW cW' bs ws) := by
    intro p u h1 p' u' h2 p'' u'' h3
    exact ⟨own_base (own_other (own_other (own_other (own_below ho2 hb3) p u h1) p' u' h2) p'' u'' h3) hL.size, own_base (own_other (own_other (own_other (own_base ho3 hWW2) p u h1) p' u' h2) p'' u'' h3) hL.size, ap⟩
  have HF : Hid (∀ u0 u1 u2, Below w.heap.size w (((w3.setCell ⟨w.heap.size + 1 + 1, 1, none⟩ u0).setCell ⟨w.heap.size + 1, 0, none⟩ u1).setCell ⟨w.heap.size + 1, 1, none⟩ u2)) := fun u0 u1 u2 =>
    ((hb4.setCell (by simp; omega) _).setCell (by simp) _).setCell (by simp) _
  clear hb4 ap ho2 ho3 hb3 hb2 m1 m2 hL hbb hwb hB hW
  go_wp2
  have n3 := ((n1.other ⟨w.heap.size + 1 + 1, 1, none⟩ (.slice aW' nW cW') (by simp)).set 0 (.slice aB' nB cB')).set 1 (.slice aW' nW cW')
  exact bodyPost_ret (results_cell_row rfl _ _ (w.heap.size + 1) 25 _ (0, 0) _ rfl n3 Try.underlying25 rfl (by kernel_rfl)) rfl ⟨aB', cB', aW', cW', rfl, HO.out _ _ (by simp; omega) _ _ (by simp; omega) _ _ (by simp; omega), HF.out _ _ _⟩

set_option maxHeartbeats 1000000 in
theorem eqFlashC (aB : Option Addr) (nB cB : Nat) (aW : Option Addr) (nW cW : Nat) (xB : Option Addr) (dB : Nat) (xW : Option Addr) (dW : Nat) (bs ws : List Int) (w : World)
    (hB : Bs w aB nB cB bs) (hW : Is w aW nW cW ws) (hB' : Bs w xB nB dB bs) (hW' : Is w xW nW dW ws) (hn : nB ≤ 2097152) (hm : nW ≤ 2097152) :
    Calls Try.prog 34 #[flV aB nB cB aW nW cW, flV xB nB dB xW nW dW] w fun e w' => e = .returned (.bool true) ∧ Below w.heap.size w w' := by
  have hL : Below w.heap.size w ((w.alloc (.cells #[.slice aB nB cB, .slice aW nW cW] 25)).alloc (.cells #[.slice xB nB dB, .slice xW nW dW] 25)) := ((Below.refl _ _).alloc (Nat.le_refl _) _).alloc (by simp) _
  have HB : Hid _ := hL
  clear hL
  go_enter Try.func34, Try.ntmps34
  go_wp2_with fail
  refine (eqB aB xB nB cB dB bs _ (hB.below HB.out) (hB'.below HB.out) hn).mono ?_
  rintro e w1 ⟨q1, rfl, rfl⟩
  go_wp2_with fail
  refine (eqI aW xW nW cW dW ws _ (hW.below (bel_dN HB.out q1)) (hW'.below (bel_dN HB.out q1)) hm).mono ?_
  rintro e w2 ⟨q2, rfl, rfl⟩
  go_wp2
  go_ret
  exact ⟨rfl, bel_dN HB.out _⟩

set_option maxHeartbeats 1000000 in
theorem markFlashC (B : Nat) (aB : Option Addr) (nB cB : Nat) (aW : Option Addr) (nW cW : Nat) (bs ws : List Int) (k0 : Int) (w : World) (o : OwnFl B w aB nB cB aW nW cW bs ws)
    (hn : nB ≤ 2097152) (hm : nW ≤ 2097152) (h0 : 0 ≤ k0) (h1 : k0 ≤ 5000000) :
    Calls Try.prog 37 #[flV aB nB cB aW nW cW, .int .i64 k0] w fun e w' => e = .returned (.int .i64 (k0 + nB + nW)) ∧ OwnFl B w' aB nB cB aW nW cW (marks k0 nB) (marksI (k0 + nB) nW) ∧ Gr2 w w' (Value.ownBlock (.slice aB nB cB)) (Value.ownBlock (.slice aW nW cW)) := by
  have ob := o.ob
  have ow := o.ow
  have ap := o.ap
  clear o
  have HA : Hid (Arr (w.alloc (.cells #[.slice aB nB cB, .slice aW nW cW] 25)) w.heap.size 25 [.slice aB nB cB, .slice aW nW cW]) := Arr.new _ _ _
  go_enter Try.func37, Try.ntmps37
  go_wp2_with fail
  refine (markB B nB _ k0 bs _ (ob.alloc _) hn h0 (by omega)).mono ?_
  rintro e w1 ⟨rfl, ob1, g1⟩
  have ow1 := own_kept (ow.alloc (.cells #[.slice aB nB cB, .slice aW nW cW] 25)) g1 ap
  have hA1 : Arr w1 w.heap.size 25 [.slice aB nB cB, .slice aW nW cW] := by
    unfold Arr
    rw [g1.block w.heap.size (by simp) (fun e => by have := (ob.lt _ e.symm).2; omega)]
    exact HA.out
  have c1 := hA1.cell 1
  simp at c1
  go_wp2_with fail
  refine (markI B nW _ (k0 + nB) ws _ ow1 hm (by omega) (by omega)).mono ?_
  rintro e w2 ⟨rfl, ow2, g2⟩
  have ob2 := own_kept ob1 g2 ap.symm
  have GG : Gr2 w w2 (Value.ownBlock (.slice aB nB cB)) (Value.ownBlock (.slice aW nW cW)) :=
    ⟨g2.os.trans g1.os, g2.tape.trans g1.tape, g2.output.trans g1.output, Nat.le_trans (by simp) (Nat.le_trans g1.size g2.size), fun i hi n1 n2 => by
      have hi1 : i < (w.alloc (.cells #[.slice aB nB cB, .slice aW nW cW] 25)).heap.size := by simp; omega
      rw [g2.block i (Nat.lt_of_lt_of_le hi1 g1.size) n2, g1.block i hi1 n1, heap_alloc_old _ _ hi]⟩
  clear g1 g2 c1 hA1 HA ow1 ob1
  go_wp2
  go_ret
  exact ⟨rfl, ⟨ob2, ow2, ap⟩, GG⟩

set_option maxHeartbeats 1000000 in
theorem heldFlashC (aB : Option Addr) (nB cB : Nat) (aW : Option Addr) (nW cW : Nat) (k0 : Int) (w : World) (ob : Bs w aB nB cB (marks k0 nB)) (ow : Is w aW nW cW (marksI (k0 + nB) nW))
    (hn : nB ≤ 2097152) (hm : nW ≤ 2097152) (h0 : 0 ≤ k0) (h1 : k0 ≤ 5000000) :
    Calls Try.prog 38 #[flV aB nB cB aW nW cW, .int .i64 k0] w fun e w' => e = .returned (.int .i64 (k0 + nB + nW)) ∧ Below w.heap.size w w' := by
  have HB : Hid (Below w.heap.size w (w.alloc (.cells #[.slice aB nB cB, .slice aW nW cW] 25))) := (Below.refl _ _).alloc (Nat.le_refl _) _
  have l1 : ¬ (k0 + (nB : Int) < 0) := by omega
  have l2 : ¬ (k0 + (nB : Int) + (nW : Int) < 0) := by omega
  go_enter Try.func38, Try.ntmps38
  go_wp2_with fail
  refine (heldB aB nB cB k0 _ (ob.below HB.out) hn h0 (by omega)).mono ?_
  rintro e w1 ⟨rfl, rfl⟩
  go_wp2_with fail
  refine (heldI aW nW cW (k0 + nB) _ (ow.below HB.out) hm (by omega) (by omega)).mono ?_
  rintro e w2 ⟨rfl, rfl⟩
  go_wp2
  go_ret
  exact ⟨rfl, HB.out⟩
end Go.Proofs.Ytcnlpdpbkkjkoaa
