/-
  What is proved here: contracts of the laws' helpers on a Sha (copy, hold two against each other, count), and of the program's ShaOk, for every value whose slices hold at most 2^21 elements each.
-/
import Derived.Test.YtgapfkiceolceaaW2
import Derived.Test.YtgapfkiceolceaaSmA
import Derived.Test.YtgapfkiceolceaaSmAI
import Derived.Test.YtgapfkiceolceaaAp
namespace Go.Proofs.Ytgapfkiceolceaa
open Go.RowKit

theorem c33_of {W : World} {g g' : Nat} {t t' : TypeId} {a b c a' b' c' : Value} (h : Arr W g t [a, b, c]) (h' : Arr W g' t' [a', b', c']) :
    W.cell? ⟨g, 0, none⟩ = some a ∧ W.cell? ⟨g, 1, none⟩ = some b ∧ W.cell? ⟨g, 2, none⟩ = some c ∧ W.cell? ⟨g', 0, none⟩ = some a' ∧ W.cell? ⟨g', 1, none⟩ = some b' ∧ W.cell? ⟨g', 2, none⟩ = some c' :=
  ⟨h.cell 0, h.cell 1, h.cell 2, h'.cell 0, h'.cell 1, h'.cell 2⟩

set_option maxHeartbeats 1000000 in
theorem implShaOk (aH : Option Addr) (nH cH : Nat) (N : Int) (aT : Option Addr) (nT cT : Nat) (hs ts : List Int) (w : World) (hH : Is w aH nH cH hs) (hT : Bs w aT nT cT ts) :
    Calls Try.prog 7 #[shaV aH nH cH N aT nT cT] w fun e w' => e = .returned (.bool (shaOk hs N ts)) ∧ Below w.heap.size w w' := by
  have hB : Below w.heap.size w (w.alloc (.cells #[.slice aH nH cH, .int .i64 N, .slice aT nT cT] 28)) := (Below.refl _ _).alloc (Nat.le_refl _) _
  have HB : Hid _ := hB
  clear hB
  go_enter Try.func7, Try.ntmps7
  go_wp2_with fail
  refine (shaOpen aH nH cH N aT nT cT hs ts _ (hH.below HB.out) (hT.below HB.out)).mono ?_
  rintro e w' ⟨l, rfl, hl8, _, hb⟩
  have hb2 := HB.out.trans (hb.mono HB.out.size)
  obtain ⟨l0, l1, l2, l3, l4, l5, l6, l7, rfl⟩ := list8 hl8
  have hsz := hb2.size
  clear HB hb hH hT
  go_wp2
  go_ret
  exact ⟨rfl, hb2.alloc hsz _⟩

set_option maxHeartbeats 1000000 in
theorem szI (a : Option Addr) (n c : Nat) (l : Int) (w : World) (h0 : 0 ≤ l) (h1 : l ≤ 1048576) (hn : n ≤ 9223372036854775807) :
    Calls Try.prog 9 #[.slice a n c, .int .i64 l] w fun e w' => e = .returned (.int .i64 (if l - (n : Int) < 0 then -1 else l - (n : Int))) ∧ w' = w := by
  have hw : wrap64 (l - (n : Int)) = l - (n : Int) := by unfold wrap64; omega
  by_cases hlt : l - (n : Int) < 0
  · rw [if_pos hlt]
    go_enter Try.func9, Try.ntmps9
    go_wp2
    go_ret
    exact ⟨rfl, rfl⟩
  · rw [if_neg hlt]
    go_enter Try.func9, Try.ntmps9
    go_wp2
    go_ret
    exact ⟨rfl, rfl⟩

set_option maxHeartbeats 1000000 in
theorem szB (a : Option Addr) (n c : Nat) (l : Int) (w : World) (h0 : 0 ≤ l) (h1 : l ≤ 1048576) (hn : n ≤ 9223372036854775807) :
    Calls Try.prog 10 #[.slice a n c, .int .i64 l] w fun e w' => e = .returned (.int .i64 (if l - (n : Int) < 0 then -1 else l - (n : Int))) ∧ w' = w := by
  have hw : wrap64 (l - (n : Int)) = l - (n : Int) := by unfold wrap64; omega
  by_cases hlt : l - (n : Int) < 0
  · rw [if_pos hlt]
    go_enter Try.func10, Try.ntmps10
    go_wp2
    go_ret
    exact ⟨rfl, rfl⟩
  · rw [if_neg hlt]
    go_enter Try.func10, Try.ntmps10
    go_wp2
    go_ret
    exact ⟨rfl, rfl⟩

set_option maxHeartbeats 1000000 in
theorem szShaC (aH : Option Addr) (nH cH : Nat) (N : Int) (aT : Option Addr) (nT cT : Nat) (l : Int) (w : World) (h0 : 0 ≤ l) (hl : l ≤ 1048576) (hH : nH ≤ 9223372036854775807) (hT : nT ≤ 9223372036854775807) :
    Calls Try.prog 4 #[shaV aH nH cH N aT nT cT, .int .i64 l] w fun e w' => ∃ r : Int, e = .returned (.int .i64 r) ∧ (r = -1 ∨ 0 ≤ r ∧ nH ≤ 1048576 ∧ nT ≤ 1048576) ∧ Below w.heap.size w w' := by
  have HB : Hid (Below w.heap.size w (w.alloc (.cells #[.slice aH nH cH, .int .i64 N, .slice aT nT cT] 25))) := (Below.refl _ _).alloc (Nat.le_refl _) _
  go_enter Try.func4, Try.ntmps4
  go_wp2_with fail
  refine (szI aH nH cH l _ (by omega) (by omega) hH).mono ?_
  rintro e w' ⟨rfl, rfl⟩
  by_cases h1 : l - (nH : Int) < 0
  · rw [if_pos h1]
    go_wp2
    go_ret
    exact ⟨-1, rfl, .inl rfl, HB.out⟩
  rw [if_neg h1]
  obtain ⟨l1, hl1⟩ : ∃ l1 : Int, l1 = l - (nH : Int) := ⟨_, rfl⟩
  rw [← hl1]
  rw [← hl1] at h1
  have HL1 : Hid _ := hl1
  have hl1' : l1 ≤ 1048576 := by omega
  clear hl1
  go_wp2_with fail
  refine (szB aT nT cT l1 _ (by omega) (by omega) hT).mono ?_
  rintro e w' ⟨rfl, rfl⟩
  by_cases h2 : l1 - (nT : Int) < 0
  · rw [if_pos h2]
    go_wp2
    go_ret
    exact ⟨-1, rfl, .inl rfl, HB.out⟩
  rw [if_neg h2]
  obtain ⟨l2, hl2⟩ : ∃ l2 : Int, l2 = l1 - (nT : Int) := ⟨_, rfl⟩
  rw [← hl2]
  rw [← hl2] at h2
  have HL2 : Hid _ := hl2
  clear hl2
  go_wp2
  go_ret
  have hl1 := HL1.out
  have hl2 := HL2.out
  exact ⟨l2, rfl, .inr ⟨by omega, by omega, by omega⟩, HB.out⟩


/-- What a copy of a Sha is: memory of its own, the two slices apart. -/
structure OwnSha (w W : World) (aH : Option Addr) (nH cH : Nat) (aT : Option Addr) (nT cT : Nat) (hs ts : List Int) : Prop where
  oh : W.ownsRow w.heap.size 3 1 (.slice aH nH cH) nH (I64 hs)
  ot : W.ownsRow w.heap.size 5 1 (.slice aT nT cT) nT (U8 ts)
  ap : Apart (.slice aH nH cH) (.slice aT nT cT)

set_option maxHeartbeats 1000000 in
theorem toShaC (aH : Option Addr) (nH cH : Nat) (N : Int) (aT : Option Addr) (nT cT : Nat) (hs ts : List Int) (w : World) (hH : Is w aH nH cH hs) (hT : Bs w aT nT cT ts) (hn : nH ≤ 2097152) (hm : nT ≤ 2097152) :
    Calls Try.prog 6 #[shaV aH nH cH N aT nT cT] w fun e w' => ∃ aH' cH' aT' cT', e = .returned (shaV aH' nH cH' N aT' nT cT') ∧ OwnSha w w' aH' nH cH' aT' nT cT' hs ts ∧ Below w.heap.size w w' := by
  have htb := hT.2.2.2.1
  have hhb := hH.2.2.2.1
  obtain ⟨W, hW⟩ : ∃ W, W = ((w.alloc (.cells #[.slice aH nH cH, .int .i64 N, .slice aT nT cT] 25)).alloc (.cells #[.slice none 0 0, .int .i64 0, .slice none 0 0] 28)).alloc (.cells #[.slice none 0 0, .int .i64 0, .slice none 0 0] 28) := ⟨_, rfl⟩
  have hB : Below w.heap.size w W := by rw [hW]; exact (((Below.refl _ _).alloc (Nat.le_refl _) _).alloc (by simp) _).alloc (by simp; omega) _
  have hA0 : Arr W w.heap.size 25 [.slice aH nH cH, .int .i64 N, .slice aT nT cT] := by rw [hW]; exact ((Arr.new w _ _).alloc _).alloc _
  have hA1 : Arr W (w.heap.size + 1) 28 [.slice none 0 0, .int .i64 0, .slice none 0 0] := by
    rw [hW]
    have := (Arr.new (w.alloc (.cells #[.slice aH nH cH, .int .i64 N, .slice aT nT cT] 25)) [.slice none 0 0, .int .i64 0, .slice none 0 0] 28).alloc (.cells #[.slice none 0 0, .int .i64 0, .slice none 0 0] 28)
    simpa using this
  have hA2 : Arr W (w.heap.size + 1 + 1) 28 [.slice none 0 0, .int .i64 0, .slice none 0 0] := by
    rw [hW]
    have := Arr.new ((w.alloc (.cells #[.slice aH nH cH, .int .i64 N, .slice aT nT cT] 25)).alloc (.cells #[.slice none 0 0, .int .i64 0, .slice none 0 0] 28)) [.slice none 0 0, .int .i64 0, .slice none 0 0] 28
    simpa using this
  go_enter Try.func6, Try.ntmps6
  go_wp2_with fail
  rw [show ((w.alloc (.cells #[.slice aH nH cH, .int .i64 N, .slice aT nT cT] 25)).alloc (.cells #[.slice none 0 0, .int .i64 0, .slice none 0 0] 28)).alloc (.cells #[.slice none 0 0, .int .i64 0, .slice none 0 0] 28) = W from hW.symm]
  refine (toSI aH nH cH hs _ (hH.below hB) hn).mono ?_
  rintro e w1 ⟨aH', cH', rfl, ho1, _, hb1⟩
  have hb1' := hB.trans (hb1.mono hB.size)
  have k0 := hA0.kept hb1
  have k1 := hA1.kept hb1
  have k2 := hA2.kept hb1
  have ho1' := own_base ho1 hB.size
  have hfar : ∀ k, Value.ownBlock (.slice aH' nH cH') = some k → W.heap.size ≤ k := fun k hk => (ho1.lt k hk).1
  clear hA0 hA1 hA2
  have c1 := k0.cell 1
  have c2 := k0.cell 2
  have d0 := k2.cell 0
  have d1 := k2.cell 1
  have f := k2.frozen
  simp at c1 c2 d0 d1
  have hlt := k2.lt
  go_wp2_with fail
  have hb2 : Below w.heap.size w ((w1.setCell ⟨w.heap.size + 1 + 1, 0, none⟩ (.slice aH' nH cH')).setCell ⟨w.heap.size + 1 + 1, 1, none⟩ (.int .i64 N)) := (hb1'.setCell (by simp; omega) _).setCell (by simp; omega) _
  have hWs : w.heap.size + 1 + 1 < W.heap.size := by rw [hW]; simp
  have hWW2 : W.heap.size ≤ ((w1.setCell ⟨w.heap.size + 1 + 1, 0, none⟩ (.slice aH' nH cH')).setCell ⟨w.heap.size + 1 + 1, 1, none⟩ (.int .i64 N)).heap.size := by simpa using hb1.size
  have ho2 := own_other (own_other ho1 ⟨w.heap.size + 1 + 1, 0, none⟩ (.slice aH' nH cH') hWs) ⟨w.heap.size + 1 + 1, 1, none⟩ (.int .i64 N) hWs
  have m1 := (k1.other ⟨w.heap.size + 1 + 1, 0, none⟩ (.slice aH' nH cH') (by simp)).other ⟨w.heap.size + 1 + 1, 1, none⟩ (.int .i64 N) (by simp)
  have m2 : Arr _ _ _ [.slice aH' nH cH', .int .i64 N, .slice none 0 0] := (k2.set 0 (.slice aH' nH cH')).set 1 (.int .i64 N)
  generalize ((w1.setCell ⟨w.heap.size + 1 + 1, 0, none⟩ (.slice aH' nH cH')).setCell ⟨w.heap.size + 1 + 1, 1, none⟩ (.int .i64 N)) = W2 at hb2 ho2 m1 m2 hWW2 ⊢
  clear c1 c2 d0 d1 f hlt k0 k1 k2 ho1 ho1' hb1 hb1'
  refine (toS aT nT cT ts _ (hT.below hb2) hm).mono ?_
  rintro e w3 ⟨aT', cT', rfl, ho3, _, hb3⟩
  have n1 := m1.kept hb3
  have n2 := m2.kept hb3
  have e0 := n1.cell 0
  have e1 := n1.cell 1
  have e2 := n1.cell 2
  have d0 := n2.cell 0
  have d1 := n2.cell 1
  have d2 := n2.cell 2
  have f1 := n1.frozen
  have f2 := n2.frozen
  simp at e0 e1 e2 d0 d1 d2
  have hb4 := hb2.trans (hb3.mono hb2.size)
  have ap := apart_of ho2 ho3 (Nat.le_refl _)
  have hWW := hb2.size
  have HO : Hid (∀ p u, p.block < W.heap.size → ∀ p' u', p'.block < W.heap.size → ∀ p'' u'', p''.block < W.heap.size → ∀ p3 u3, p3.block < W.heap.size → OwnSha w ((((w3.setCell p u).setCell p' u').setCell p'' u'').setCell p3 u3) aH' nH cH' aT' nT cT' hs ts) := by
    intro p u h1 p' u' h2 p'' u'' h3 p3 u3 h4
    exact ⟨own_base (own_other (own_other (own_other (own_other (own_below ho2 hb3) p u h1) p' u' h2) p'' u'' h3) p3 u3 h4) hB.size, own_base (own_other (own_other (own_other (own_other (own_base ho3 hWW2) p u h1) p' u' h2) p'' u'' h3) p3 u3 h4) hB.size, ap⟩
  have HF : Hid (∀ u0 u1 u2 u3, Below w.heap.size w ((((w3.setCell ⟨w.heap.size + 1 + 1, 2, none⟩ u0).setCell ⟨w.heap.size + 1, 0, none⟩ u1).setCell ⟨w.heap.size + 1, 1, none⟩ u2).setCell ⟨w.heap.size + 1, 2, none⟩ u3)) := fun u0 u1 u2 u3 =>
    (((hb4.setCell (by simp; omega) _).setCell (by simp) _).setCell (by simp) _).setCell (by simp) _
  clear hb4 ap ho2 ho3 hb3 hb2 m1 m2 hB hfar htb hhb hH hT
  go_wp2
  have n3 := (((n1.other ⟨w.heap.size + 1 + 1, 2, none⟩ (.slice aT' nT cT') (by simp)).set 0 (.slice aH' nH cH')).set 1 (.int .i64 N)).set 2 (.slice aT' nT cT')
  exact bodyPost_ret (results_cell_row rfl _ _ (w.heap.size + 1) 28 _ (0, 0) _ rfl n3 Try.underlying28 rfl (by kernel_rfl)) rfl ⟨aH', cH', aT', cT', rfl, HO.out _ _ (by simp; omega) _ _ (by simp; omega) _ _ (by simp; omega) _ _ (by simp; omega), HF.out _ _ _ _⟩

set_option maxHeartbeats 1000000 in
theorem eqShaC (aH : Option Addr) (nH cH : Nat) (N : Int) (aT : Option Addr) (nT cT : Nat) (bH : Option Addr) (dH : Nat) (bT : Option Addr) (dT : Nat) (hs ts : List Int) (w : World)
    (hH : Is w aH nH cH hs) (hT : Bs w aT nT cT ts) (hH' : Is w bH nH dH hs) (hT' : Bs w bT nT dT ts) (hn : nH ≤ 2097152) (hm : nT ≤ 2097152) :
    Calls Try.prog 8 #[shaV aH nH cH N aT nT cT, shaV bH nH dH N bT nT dT] w fun e w' => e = .returned (.bool true) ∧ Below w.heap.size w w' := by
  have hB : Below w.heap.size w ((w.alloc (.cells #[.slice aH nH cH, .int .i64 N, .slice aT nT cT] 28)).alloc (.cells #[.slice bH nH dH, .int .i64 N, .slice bT nT dT] 28)) := ((Below.refl _ _).alloc (Nat.le_refl _) _).alloc (by simp) _
  have HB : Hid _ := hB
  have hN : (N != N) = false := by simp
  clear hB
  go_enter Try.func8, Try.ntmps8
  go_wp2_with fail
  refine (eqI aH bH nH cH dH hs _ (hH.below HB.out) (hH'.below HB.out) hn).mono ?_
  rintro e w1 ⟨q1, rfl, rfl⟩
  go_wp2_with fail
  refine (eqB aT bT nT cT dT ts _ (hT.below (bel_dN HB.out q1)) (hT'.below (bel_dN HB.out q1)) hm).mono ?_
  rintro e w2 ⟨q2, rfl, rfl⟩
  go_wp2
  go_ret
  exact ⟨rfl, bel_dN HB.out _⟩
end Go.Proofs.Ytgapfkiceolceaa
