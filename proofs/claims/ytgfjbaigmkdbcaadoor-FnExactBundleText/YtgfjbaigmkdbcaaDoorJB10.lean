/-
  What is proved here: what both sides' BootText answer; contracts of the specification's l8version, l8part, l8need, l8ahead: what a part, a need and their order are as plain facts; how bundles lie in memory (parts and needs are rows of four cells, a part's sum a row of bytes); the contract of the specification's l8find.
-/
import Derived.Test.YtgfjbaigmkdbcaaDoorT4
import Derived.Test.YtgfjbaigmkdbcaaDoorJB9
import Derived.Test.YtgfjbaigmkdbcaaDoorJB1
import Derived.Deep.CutRange
namespace Go.Proofs.YtgfjbaigmkdbcaaDoor
open Go.RowKit
set_option maxRecDepth 100000
set_option maxHeartbeats 4000000
set_option linter.unusedVariables false

/-- The lines of a state. -/
def bxL (b n f : Int) (t : Bool) (i o : Int) : List Int := if btOk b n f t i o then lnL (stB ⟨#[98, 97, 110, 107]⟩) [b, n, f] ++ (if t = true then lnL (stB ⟨#[116, 114, 105, 97, 108]⟩) [i, o] else []) else []
theorem bxL_len (b n f : Int) (t : Bool) (i o : Int) : (bxL b n f t i o).length ≤ 2000 := by
  unfold bxL
  split
  · next h =>
    have l1 := lnL_len ⟨#[98, 97, 110, 107]⟩ [b, n, f] (ns3 (by omega) (by omega) (by omega))
    simp only [show ∀ a : Array UInt8, (⟨a⟩ : ByteArray).size = a.size from fun _ => rfl, List.size_toArray, List.length_cons, List.length_nil] at l1
    rw [List.length_append]
    split
    · next ht =>
      have hio := h.2.2.2
      rw [if_pos ht] at hio
      have l2 := lnL_len ⟨#[116, 114, 105, 97, 108]⟩ [i, o] (ns2 (by omega) (by omega))
      simp only [show ∀ a : Array UInt8, (⟨a⟩ : ByteArray).size = a.size from fun _ => rfl, List.size_toArray, List.length_cons, List.length_nil] at l2
      omega
    · simp only [List.length_nil]
      omega
  · simp
theorem bxL_byte (b n f : Int) (t : Bool) (i o : Int) : ∀ x ∈ bxL b n f t i o, 0 ≤ x ∧ x < 256 := by
  unfold bxL
  split
  · intro x hx
    rw [List.mem_append] at hx
    rcases hx with h | h
    · exact lnL_byte _ _ x h
    · split at h
      · exact lnL_byte _ _ x h
      · cases h
  · intro x hx; cases hx
theorem specLitOn (base : Nat) (vb : Value) (n0 : Nat) (xs0 : List Int) (s : ByteArray) (cs : List Int) (m : Nat) (w : World) (hb : w.ownsRow base 5 1 vb n0 (U8 xs0)) (hbase : base ≤ w.heap.size) (hn0 : n0 ≤ 400000) (hs : s.size ≤ 1000) (hm : cs.length = m) (h100 : m ≤ 100) (hc : nsOk cs) :
    Calls Tryd.prog 28 #[vb, .string s, .slice (some ⟨w.heap.size, 0, none⟩) m m] (w.alloc (.cells (I6 cs).toArray 3)) fun e w' => ∃ v, e = .returned v ∧ w'.ownsRow base 5 1 v (xs0 ++ lnL (stB s) cs).length (U8 (xs0 ++ lnL (stB s) cs)) ∧ Below base w w' := by
  have b := litBelow w (.cells (I6 cs).toArray 3)
  have hlt : ∀ k, vb.ownBlock = some k → base ≤ k ∧ k < w.heap.size := fun k hk => (ownM.of (xs := xs0) hb).lt k hk
  refine Calls.mono (specL8words base vb n0 xs0 s _ m m cs _ (own_below hb b) (Nat.le_trans hbase b.size) (by omega) hs (isLit (Arr.new w (I6 cs) 3) hm hc) h100 hc ?_) ?_
  · rintro ad e h
    cases e
    have := (hlt _ h).2
    simp at this
  rintro e w' ⟨v, rfl, o, g⟩
  refine ⟨v, rfl, o, (b.mono hbase).trans ⟨g.os, g.tape, g.output, g.size, fun k hk => ?_⟩⟩
  refine g.block k (Nat.lt_of_lt_of_le hk (Nat.le_trans hbase b.size)) fun e => ?_
  have := (hlt k e.symm).1
  omega
theorem specL10text (b n f : Int) (t : Bool) (i o : Int) (w : World) (hok : btOk b n f t i o) : Calls Tryd.prog 41 #[btV b n f t i o] w fun e w' => ∃ v, e = .returned v ∧ w'.ownsRow w.heap.size 5 1 v (bxL b n f t i o).length (U8 (bxL b n f t i o)) ∧ Below w.heap.size w w' := by
  obtain ⟨V, hV⟩ : ∃ V, V = w.alloc (.cells #[.int .i64 b, .int .i64 n, .int .i64 f, .bool t, .int .i64 i, .int .i64 o] 48) := ⟨_, rfl⟩
  have B : Below w.heap.size w V := by rw [hV]; exact (Below.refl _ _).alloc (Nat.le_refl _) _
  have A : Arr V w.heap.size 48 [.int .i64 b, .int .i64 n, .int .i64 f, .bool t, .int .i64 i, .int .i64 o] := by rw [hV]; exact Arr.new _ _ _
  have e0 : bxL b n f t i o = lnL (stB ⟨#[98, 97, 110, 107]⟩) [b, n, f] ++ (if t = true then lnL (stB ⟨#[116, 114, 105, 97, 108]⟩) [i, o] else []) := if_pos hok
  rw [e0]
  clear e0
  obtain ⟨Z, hZ⟩ : ∃ Z, Z = lnL (stB ⟨#[98, 97, 110, 107]⟩) [b, n, f] ++ (if t = true then lnL (stB ⟨#[116, 114, 105, 97, 108]⟩) [i, o] else []) := ⟨_, rfl⟩
  rw [← hZ]
  have HZt : Hid (t = true → Z = lnL (stB ⟨#[98, 97, 110, 107]⟩) [b, n, f] ++ lnL (stB ⟨#[116, 114, 105, 97, 108]⟩) [i, o]) := fun h => by rw [hZ, if_pos h]
  have HZf : Hid (t = false → Z = lnL (stB ⟨#[98, 97, 110, 107]⟩) [b, n, f]) := fun h => by rw [hZ, h]; simp
  clear hZ
  have H3 : Hid (nsOk [b, n, f]) := ns3 (by omega) (by omega) (by omega)
  have hio := hok.2.2.2
  have H2 : Hid (t = true → nsOk [i, o]) := fun ht => by
    rw [if_pos ht] at hio
    exact ns2 (by omega) (by omega)
  have H3l : Hid ((lnL (stB ⟨#[98, 97, 110, 107]⟩) [b, n, f]).length ≤ 2000) := by
    have l1 := lnL_len ⟨#[98, 97, 110, 107]⟩ [b, n, f] H3
    simp only [show ∀ a : Array UInt8, (⟨a⟩ : ByteArray).size = a.size from fun _ => rfl, List.size_toArray, List.length_cons, List.length_nil] at l1
    unfold Hid
    omega
  clear hok hio
  have c0 := A.cell 0
  have c1 := A.cell 1
  have c2 := A.cell 2
  have c3 := A.cell 3
  have c4 := A.cell 4
  have c5 := A.cell 5
  simp at c0 c1 c2 c3 c4 c5
  go_enter Tryd.func41, Tryd.ntmps41
  go_upto_region 1 with fail
  rw [← hV]
  clear hV
  go_wp2_with fail
  refine Calls.mono (specLit ⟨#[98, 97, 110, 107]⟩ [b, n, f] 3 V (by decide) rfl (by omega) H3.out) ?_
  rintro e w1 ⟨v, rfl, ow, hb⟩
  have HO : Hid (w1.ownsRow w.heap.size 5 1 v (lnL (stB ⟨#[98, 97, 110, 107]⟩) [b, n, f]).length (U8 (lnL (stB ⟨#[98, 97, 110, 107]⟩) [b, n, f]))) := own_base ow B.size
  replace A := A.kept hb
  replace B := B.trans (hb.mono B.size)
  clear hb c0 c1 c2 c3 c4 c5 ow
  have c0 := A.cell 0
  have c1 := A.cell 1
  have c2 := A.cell 2
  have c3 := A.cell 3
  have c4 := A.cell 4
  have c5 := A.cell 5
  simp at c0 c1 c2 c3 c4 c5
  cases t
  case false =>
    go_wp2
    go_ret
    exact ⟨_, rfl, by rw [HZf.out (by first | rfl | trivial)]; exact HO.out, B⟩
  case true =>
    go_wp2_with fail
    refine Calls.mono (specLitOn w.heap.size v _ _ ⟨#[116, 114, 105, 97, 108]⟩ [i, o] 2 w1 HO.out B.size (Nat.le_trans H3l.out (by omega)) (by decide) rfl (by omega) (H2.out (by first | rfl | trivial))) ?_
    rintro e w2 ⟨v2, rfl, o2, hb⟩
    replace B := B.trans hb
    have HO2 : Hid (w2.ownsRow w.heap.size 5 1 v2 (lnL (stB ⟨#[98, 97, 110, 107]⟩) [b, n, f] ++ lnL (stB ⟨#[116, 114, 105, 97, 108]⟩) [i, o]).length (U8 (lnL (stB ⟨#[98, 97, 110, 107]⟩) [b, n, f] ++ lnL (stB ⟨#[116, 114, 105, 97, 108]⟩) [i, o]))) := o2
    clear hb c0 c1 c2 c3 c4 c5 o2 A HO
    go_wp2
    go_ret
    exact ⟨_, rfl, by rw [HZt.out (by first | rfl | trivial)]; exact HO2.out, B⟩
theorem specBootText (b n f : Int) (t : Bool) (i o : Int) (w : World) : Calls Tryd.prog 19 #[btV b n f t i o] w fun e w' => ∃ v, e = .returned v ∧ w'.ownsRow w.heap.size 5 1 v (bxL b n f t i o).length (U8 (bxL b n f t i o)) ∧ Below w.heap.size w w' := by
  obtain ⟨V, hV⟩ : ∃ V, V = w.alloc (.cells #[.int .i64 b, .int .i64 n, .int .i64 f, .bool t, .int .i64 i, .int .i64 o] 48) := ⟨_, rfl⟩
  have B : Below w.heap.size w V := by rw [hV]; exact (Below.refl _ _).alloc (Nat.le_refl _) _
  have A : Arr V w.heap.size 48 [.int .i64 b, .int .i64 n, .int .i64 f, .bool t, .int .i64 i, .int .i64 o] := by rw [hV]; exact Arr.new _ _ _
  by_cases hok : btOk b n f t i o
  case neg =>
    have e0 : bxL b n f t i o = [] := if_neg hok
    rw [e0]
    have HD : Hid (decide (btOk b n f t i o) = false) := decide_eq_false hok
    have c0 := A.cell 0
    have c1 := A.cell 1
    have c2 := A.cell 2
    have c3 := A.cell 3
    have c4 := A.cell 4
    have c5 := A.cell 5
    simp at c0 c1 c2 c3 c4 c5
    clear e0 hok
    go_enter Tryd.func19, Tryd.ntmps19
    go_upto_region 1 with fail
    rw [← hV]
    clear hV
    go_wp2_with fail
    refine (specBootOk b n f t i o _).mono ?_
    rintro e w1 ⟨rfl, hb⟩
    rw [HD.out]
    replace B := B.trans (hb.mono B.size)
    clear hb c0 c1 c2 c3 c4 c5
    go_wp2
    go_ret
    exact ⟨_, rfl, World.ownsRow_nil _ _ _ _, B⟩
  have HD : Hid (decide (btOk b n f t i o) = true) := decide_eq_true hok
  have HL : Hid (∀ Z, Calls Tryd.prog 41 #[btV b n f t i o] Z fun e w' => ∃ v, e = .returned v ∧ w'.ownsRow Z.heap.size 5 1 v (bxL b n f t i o).length (U8 (bxL b n f t i o)) ∧ Below Z.heap.size Z w') := fun Z => specL10text b n f t i o Z hok
  clear hok
  have c0 := A.cell 0
  have c1 := A.cell 1
  have c2 := A.cell 2
  have c3 := A.cell 3
  have c4 := A.cell 4
  have c5 := A.cell 5
  simp at c0 c1 c2 c3 c4 c5
  go_enter Tryd.func19, Tryd.ntmps19
  go_upto_region 1 with fail
  rw [← hV]
  clear hV
  go_wp2_with fail
  refine (specBootOk b n f t i o _).mono ?_
  rintro e w1 ⟨rfl, hb⟩
  rw [HD.out]
  replace A := A.kept hb
  replace B := B.trans (hb.mono B.size)
  clear hb c0 c1 c2 c3 c4 c5
  have c0 := A.cell 0
  have c1 := A.cell 1
  have c2 := A.cell 2
  have c3 := A.cell 3
  have c4 := A.cell 4
  have c5 := A.cell 5
  simp at c0 c1 c2 c3 c4 c5
  go_wp2_with fail
  refine Calls.mono (HL.out _) ?_
  rintro e w2 ⟨v, rfl, o2, hb⟩
  have HO : Hid (w2.ownsRow w.heap.size 5 1 v (bxL b n f t i o).length (U8 (bxL b n f t i o))) := own_base o2 B.size
  replace B := B.trans (hb.mono B.size)
  clear hb c0 c1 c2 c3 c4 c5 o2 A HL
  go_wp2
  go_ret
  exact ⟨_, rfl, HO.out, B⟩
theorem implBootText (b n f : Int) (t : Bool) (i o : Int) (w : World) (ht : Pow w) : Calls Tryd.prog 21 #[btV b n f t i o] w fun e w' => ∃ v, e = .returned v ∧ ownM w' w.heap.size v (bxL b n f t i o).length (bxL b n f t i o) ∧ Below w.heap.size w w' := by
  have HT : Hid (Pow w) := ht
  obtain ⟨V, hV⟩ : ∃ V, V = w.alloc (.cells #[.int .i64 b, .int .i64 n, .int .i64 f, .bool t, .int .i64 i, .int .i64 o] 48) := ⟨_, rfl⟩
  have B : Below w.heap.size w V := by rw [hV]; exact (Below.refl _ _).alloc (Nat.le_refl _) _
  have A : Arr V w.heap.size 48 [.int .i64 b, .int .i64 n, .int .i64 f, .bool t, .int .i64 i, .int .i64 o] := by rw [hV]; exact Arr.new _ _ _
  by_cases hok : btOk b n f t i o
  case neg =>
    have e0 : bxL b n f t i o = [] := if_neg hok
    rw [e0]
    have HD : Hid (decide (btOk b n f t i o) = false) := decide_eq_false hok
    have c0 := A.cell 0
    have c1 := A.cell 1
    have c2 := A.cell 2
    have c3 := A.cell 3
    have c4 := A.cell 4
    have c5 := A.cell 5
    simp at c0 c1 c2 c3 c4 c5
    clear e0 hok
    go_enter Tryd.func21, Tryd.ntmps21
    go_upto_region 1 with fail
    rw [← hV]
    clear hV
    go_wp2_with fail
    refine (implBootOk b n f t i o _).mono ?_
    rintro e w1 ⟨rfl, hb⟩
    rw [HD.out]
    replace B := B.trans (hb.mono B.size)
    clear hb c0 c1 c2 c3 c4 c5
    go_wp2
    go_ret
    exact ⟨_, rfl, .of (World.ownsRow_nil _ _ _ _), B⟩
  have HD : Hid (decide (btOk b n f t i o) = true) := decide_eq_true hok
  have e0 : bxL b n f t i o = lnL (stB ⟨#[98, 97, 110, 107]⟩) [b, n, f] ++ (if t = true then lnL (stB ⟨#[116, 114, 105, 97, 108]⟩) [i, o] else []) := if_pos hok
  rw [e0]
  clear e0
  obtain ⟨Z, hZ⟩ : ∃ Z, Z = lnL (stB ⟨#[98, 97, 110, 107]⟩) [b, n, f] ++ (if t = true then lnL (stB ⟨#[116, 114, 105, 97, 108]⟩) [i, o] else []) := ⟨_, rfl⟩
  rw [← hZ]
  have HZt : Hid (t = true → Z = lnL (stB ⟨#[98, 97, 110, 107]⟩) [b, n, f] ++ lnL (stB ⟨#[116, 114, 105, 97, 108]⟩) [i, o]) := fun h => by rw [hZ, if_pos h]
  have HZf : Hid (t = false → Z = lnL (stB ⟨#[98, 97, 110, 107]⟩) [b, n, f]) := fun h => by rw [hZ, h]; simp
  clear hZ
  have H3 : Hid (nsOk [b, n, f]) := ns3 (by omega) (by omega) (by omega)
  have hio := hok.2.2.2
  have H2 : Hid (t = true → nsOk [i, o]) := fun ht => by
    rw [if_pos ht] at hio
    exact ns2 (by omega) (by omega)
  have H3l : Hid ((lnL (stB ⟨#[98, 97, 110, 107]⟩) [b, n, f]).length ≤ 2000) := by
    have l1 := lnL_len ⟨#[98, 97, 110, 107]⟩ [b, n, f] H3
    simp only [show ∀ a : Array UInt8, (⟨a⟩ : ByteArray).size = a.size from fun _ => rfl, List.size_toArray, List.length_cons, List.length_nil] at l1
    unfold Hid
    omega
  have H2l : Hid (t = true → (lnL (stB ⟨#[116, 114, 105, 97, 108]⟩) [i, o]).length ≤ 2000) := fun ht => by
    have l1 := lnL_len ⟨#[116, 114, 105, 97, 108]⟩ [i, o] (H2.out ht)
    simp only [show ∀ a : Array UInt8, (⟨a⟩ : ByteArray).size = a.size from fun _ => rfl, List.size_toArray, List.length_cons, List.length_nil] at l1
    omega
  clear hok hio
  have c0 := A.cell 0
  have c1 := A.cell 1
  have c2 := A.cell 2
  have c3 := A.cell 3
  have c4 := A.cell 4
  have c5 := A.cell 5
  simp at c0 c1 c2 c3 c4 c5
  go_enter Tryd.func21, Tryd.ntmps21
  go_upto_region 1 with fail
  rw [← hV]
  clear hV
  go_wp2_with fail
  refine (implBootOk b n f t i o _).mono ?_
  rintro e w1 ⟨rfl, hb⟩
  rw [HD.out]
  replace A := A.kept hb
  replace B := B.trans (hb.mono B.size)
  clear hb c0 c1 c2 c3 c4 c5
  have c0 := A.cell 0
  have c1 := A.cell 1
  have c2 := A.cell 2
  have c3 := A.cell 3
  have c4 := A.cell 4
  have c5 := A.cell 5
  simp at c0 c1 c2 c3 c4 c5
  go_wp2_with fail
  refine Calls.mono (implLit ⟨#[98, 97, 110, 107]⟩ [b, n, f] 3 w1 (pow_below HT.out B) (by decide) rfl (by omega) H3.out) ?_
  rintro e w2 ⟨v, rfl, ow, hb⟩
  have HO : Hid (ownM w2 w.heap.size v (lnL (stB ⟨#[98, 97, 110, 107]⟩) [b, n, f]).length (lnL (stB ⟨#[98, 97, 110, 107]⟩) [b, n, f])) := ow.lower B.size
  replace A := A.kept hb
  replace B := B.trans (hb.mono B.size)
  clear hb c0 c1 c2 c3 c4 c5 ow
  have c0 := A.cell 0
  have c1 := A.cell 1
  have c2 := A.cell 2
  have c3 := A.cell 3
  have c4 := A.cell 4
  have c5 := A.cell 5
  simp at c0 c1 c2 c3 c4 c5
  cases t
  case false =>
    go_wp2
    go_ret
    exact ⟨_, rfl, by rw [HZf.out (by first | rfl | trivial)]; exact HO.out, B⟩
  case true =>
    obtain ⟨a1, k1, rfl, hB1⟩ := HO.out.bs (lnL_byte _ _)
    have HB1 : Hid (Bs w2 a1 (lnL (stB ⟨#[98, 97, 110, 107]⟩) [b, n, f]).length k1 (lnL (stB ⟨#[98, 97, 110, 107]⟩) [b, n, f])) := hB1
    clear hB1
    go_wp2_with fail
    refine Calls.mono (implLit ⟨#[116, 114, 105, 97, 108]⟩ [i, o] 2 w2 (pow_below HT.out B) (by decide) rfl (by omega) (H2.out (by first | rfl | trivial))) ?_
    rintro e w3 ⟨v2, rfl, o2, hb⟩
    obtain ⟨a2, k2, rfl, hB2⟩ := o2.bs (lnL_byte _ _)
    have HB2 : Hid (Bs w3 a2 (lnL (stB ⟨#[116, 114, 105, 97, 108]⟩) [i, o]).length k2 (lnL (stB ⟨#[116, 114, 105, 97, 108]⟩) [i, o])) := hB2
    replace HB1 : Hid (Bs w3 a1 (lnL (stB ⟨#[98, 97, 110, 107]⟩) [b, n, f]).length k1 (lnL (stB ⟨#[98, 97, 110, 107]⟩) [b, n, f])) := HB1.out.below hb
    replace B := B.trans (hb.mono B.size)
    clear hb c0 c1 c2 c3 c4 c5 o2 A HO hB2
    replace HZt := HZt.out (by first | rfl | trivial)
    generalize lnL (stB ⟨#[116, 114, 105, 97, 108]⟩) [i, o] = Y at HB2 H2l HZt ⊢
    generalize lnL (stB ⟨#[98, 97, 110, 107]⟩) [b, n, f] = X at HB1 H3l HZt ⊢
    clear HZf
    generalize hx : X.length = x at HB1 H3l ⊢
    generalize hy : Y.length = y at HB2 H2l ⊢
    have HX : Hid (X.length + Y.length = x + y) := by unfold Hid; rw [hx, hy]
    clear hx hy
    go_wp2_with fail
    have eA := Arr.new w3 [.slice a1 x k1, .slice a2 y k2] 27
    have b4 : Below w3.heap.size w3 (w3.alloc (.cells #[.slice a1 x k1, .slice a2 y k2] 27)) := (Below.refl _ _).alloc (Nat.le_refl _) _
    have lx := H3l.out
    have ly := H2l.out (by first | rfl | trivial)
    refine Calls.mono (concat2 w3.heap.size a1 a2 x k1 y k2 X Y _ eA.lt (eA.cell 0) (eA.cell 1) (HB1.out.below b4) (HB2.out.below b4) (by omega) (by omega)) ?_
    rintro e w4 ⟨v4, rfl, o4, hb⟩
    have HO4 : Hid (ownM w4 w.heap.size v4 (X ++ Y).length (X ++ Y)) := by
      unfold Hid
      rw [List.length_append, HX.out]
      exact .of (own_base o4 (Nat.le_trans B.size b4.size))
    replace B := (B.trans (b4.mono B.size)).trans (hb.mono (Nat.le_trans B.size b4.size))
    clear hb o4 b4 eA
    go_wp2
    go_ret
    exact ⟨_, rfl, by rw [HZt]; exact HO4.out, B⟩
end Go.Proofs.YtgfjbaigmkdbcaaDoor
namespace Go.Proofs.YtgfjbaigmkdbcaaDoor
open Go.RowKit
set_option maxRecDepth 100000
set_option maxHeartbeats 1000000

abbrev verOk (n : Int) : Prop := 0 ≤ n ∧ n ≤ 1000
abbrev partOk (k v s : Int) (n : Nat) : Prop := (0 ≤ k ∧ k < 4) ∧ verOk v ∧ (1 ≤ s ∧ s ≤ 192) ∧ n = 32
abbrev needOk (o f t k : Int) : Prop := (0 ≤ k ∧ k < 4) ∧ (0 ≤ o ∧ o < 4) ∧ o ≠ k ∧ verOk f ∧ verOk t ∧ f ≤ t
abbrev needLt (o f t k o' f' t' k' : Int) : Prop := o < o' ∨ o = o' ∧ (k < k' ∨ k = k' ∧ (f < f' ∨ f = f' ∧ t < t'))
/-- A Bool by what it says. -/
theorem by_dec (P : Prop) [Decidable P] : ∃ R : Bool, decide P = R ∧ Hid (P → R = true) ∧ Hid (¬ P → R = false) := ⟨_, rfl, decide_eq_true, decide_eq_false⟩
theorem spec8version (n : Int) (w : World) : Calls Tryd.prog 43 #[.int .i64 n] w fun e w' => e = .returned (.bool (decide (verOk n))) ∧ w' = w := by
  obtain ⟨R, hR, HT, HF⟩ := by_dec (verOk n)
  rw [hR]
  clear hR
  by_cases h1 : 0 ≤ n
  · by_cases h2 : n ≤ 1000
    all_goals
      go_enter Tryd.func43, Tryd.ntmps43
      go_wp2
      go_ret
      exact ⟨by first | (rw [HF.out (by omega)]; rfl) | (rw [HT.out (by omega)]; rfl), rfl⟩
  · go_enter Tryd.func43, Tryd.ntmps43
    go_wp2
    go_ret
    exact ⟨by first | (rw [HF.out (by omega)]; rfl) | (rw [HT.out (by omega)]; rfl), rfl⟩
theorem spec8part (k v s : Int) (a : Option Addr) (n c : Nat) (w : World) : Calls Tryd.prog 48 #[.agg #[.int .i64 k, .int .i64 v, .int .i64 s, .slice a n c]] w fun e w' => e = .returned (.bool (decide (partOk k v s n))) ∧ Below w.heap.size w w' := by
  obtain ⟨R, hR, HT, HF⟩ := by_dec (partOk k v s n)
  rw [hR]
  clear hR
  have B : Below w.heap.size w (w.alloc (.cells #[.int .i64 k, .int .i64 v, .int .i64 s, .slice a n c] 63)) := (Below.refl _ _).alloc (Nat.le_refl _) _
  obtain ⟨W, hW⟩ : ∃ W, W = w.alloc (.cells #[.int .i64 k, .int .i64 v, .int .i64 s, .slice a n c] 63) := ⟨_, rfl⟩
  have A : Arr W w.heap.size 63 [.int .i64 k, .int .i64 v, .int .i64 s, .slice a n c] := by rw [hW]; exact Arr.new _ _ _
  rw [← hW] at B
  have c0 := A.cell 0
  have c1 := A.cell 1
  have c2 := A.cell 2
  have c3 := A.cell 3
  simp at c0 c1 c2 c3
  clear A
  go_enter Tryd.func48, Tryd.ntmps48
  go_upto_region 1 with fail
  rw [← hW]
  clear hW
  by_cases h1 : 0 ≤ k
  · by_cases h2 : k < 4
    · by_cases hv : verOk v
      · by_cases h3 : 1 ≤ s
        · by_cases h4 : s ≤ 192
          · obtain ⟨q, hq, hq'⟩ : ∃ q, ((n : Int) == 32) = q ∧ Hid (q = decide (n = 32)) := ⟨_, rfl, by unfold Hid; by_cases h : n = 32 <;> simp [h]; omega⟩
            have HQ : Hid (R = q) := by
              unfold Hid; rw [hq'.out]
              by_cases h : n = 32
              · rw [HT.out (by omega), decide_eq_true h]
              · rw [HF.out (by omega), decide_eq_false h]
            go_wp2_with fail
            refine (spec8version v _).mono ?_
            rintro e w1 ⟨rfl, hw⟩
            rw [hw, decide_eq_true hv]
            go_wp2
            go_ret
            exact ⟨by rw [HQ.out]; rfl, B⟩
          · go_wp2_with fail
            refine (spec8version v _).mono ?_
            rintro e w1 ⟨rfl, hw⟩
            rw [hw, decide_eq_true hv]
            go_wp2
            go_ret
            exact ⟨by first | (rw [HF.out (by omega)]; rfl) | (rw [HT.out (by omega)]; rfl), B⟩
        · go_wp2_with fail
          refine (spec8version v _).mono ?_
          rintro e w1 ⟨rfl, hw⟩
          rw [hw, decide_eq_true hv]
          go_wp2
          go_ret
          exact ⟨by first | (rw [HF.out (by omega)]; rfl) | (rw [HT.out (by omega)]; rfl), B⟩
      · go_wp2_with fail
        refine (spec8version v _).mono ?_
        rintro e w1 ⟨rfl, hw⟩
        rw [hw, decide_eq_false hv]
        go_wp2
        go_ret
        exact ⟨by first | (rw [HF.out (by omega)]; rfl) | (rw [HT.out (by omega)]; rfl), B⟩
    · go_wp2
      go_ret
      exact ⟨by first | (rw [HF.out (by omega)]; rfl) | (rw [HT.out (by omega)]; rfl), B⟩
  · go_wp2
    go_ret
    exact ⟨by first | (rw [HF.out (by omega)]; rfl) | (rw [HT.out (by omega)]; rfl), B⟩
theorem spec8need (o f t k : Int) (w : World) : Calls Tryd.prog 49 #[.agg #[.int .i64 o, .int .i64 f, .int .i64 t, .int .i64 k]] w fun e w' => e = .returned (.bool (decide (needOk o f t k))) ∧ Below w.heap.size w w' := by
  obtain ⟨R, hR, HT, HF⟩ := by_dec (needOk o f t k)
  rw [hR]
  clear hR
  have B : Below w.heap.size w (w.alloc (.cells #[.int .i64 o, .int .i64 f, .int .i64 t, .int .i64 k] 65)) := (Below.refl _ _).alloc (Nat.le_refl _) _
  obtain ⟨W, hW⟩ : ∃ W, W = w.alloc (.cells #[.int .i64 o, .int .i64 f, .int .i64 t, .int .i64 k] 65) := ⟨_, rfl⟩
  have A : Arr W w.heap.size 65 [.int .i64 o, .int .i64 f, .int .i64 t, .int .i64 k] := by rw [hW]; exact Arr.new _ _ _
  rw [← hW] at B
  have c0 := A.cell 0
  have c1 := A.cell 1
  have c2 := A.cell 2
  have c3 := A.cell 3
  simp at c0 c1 c2 c3
  clear A
  go_enter Tryd.func49, Tryd.ntmps49
  go_upto_region 1 with fail
  rw [← hW]
  clear hW
  by_cases h1 : 0 ≤ k
  case neg => go_wp2; go_ret; exact ⟨by rw [HF.out (by omega)]; rfl, B⟩
  by_cases h2 : k < 4
  case neg => go_wp2; go_ret; exact ⟨by rw [HF.out (by omega)]; rfl, B⟩
  by_cases h3 : 0 ≤ o
  case neg => go_wp2; go_ret; exact ⟨by rw [HF.out (by omega)]; rfl, B⟩
  by_cases h4 : o < 4
  case neg => go_wp2; go_ret; exact ⟨by rw [HF.out (by omega)]; rfl, B⟩
  by_cases h5 : o = k
  case pos => go_wp2; go_ret; exact ⟨by rw [HF.out (by omega)]; rfl, B⟩
  have h5' : (o != k) = true := by simpa using h5
  by_cases hf : verOk f
  case neg =>
    go_wp2_with fail
    refine (spec8version f _).mono ?_
    rintro e w1 ⟨rfl, hw⟩
    rw [hw, decide_eq_false hf]
    go_wp2
    go_ret
    exact ⟨by rw [HF.out (by omega)]; rfl, B⟩
  by_cases ht : verOk t
  case neg =>
    go_wp2_with fail
    refine (spec8version f _).mono ?_
    rintro e w1 ⟨rfl, hw⟩
    rw [hw, decide_eq_true hf]
    go_wp2_with fail
    refine (spec8version t _).mono ?_
    rintro e w1 ⟨rfl, hw⟩
    rw [hw, decide_eq_false ht]
    go_wp2
    go_ret
    exact ⟨by rw [HF.out (by omega)]; rfl, B⟩
  obtain ⟨q, hq, hq'⟩ : ∃ q, decide (f ≤ t) = q ∧ Hid (R = q) := ⟨_, rfl, by
    unfold Hid
    by_cases h : f ≤ t
    · rw [HT.out (by omega), decide_eq_true h]
    · rw [HF.out (by omega), decide_eq_false h]⟩
  go_wp2_with fail
  refine (spec8version f _).mono ?_
  rintro e w1 ⟨rfl, hw⟩
  rw [hw, decide_eq_true hf]
  go_wp2_with fail
  refine (spec8version t _).mono ?_
  rintro e w1 ⟨rfl, hw⟩
  rw [hw, decide_eq_true ht]
  go_wp2
  go_ret
  exact ⟨by rw [hq'.out]; rfl, B⟩
end Go.Proofs.YtgfjbaigmkdbcaaDoor
namespace Go.Proofs.YtgfjbaigmkdbcaaDoor
open Go.RowKit
set_option maxRecDepth 100000
set_option maxHeartbeats 1000000

structure PartM where
  k : Int
  v : Int
  s : Int
  h : List Int
structure NeedM where
  o : Int
  f : Int
  t : Int
  k : Int
structure BunM where
  d : Int
  n : Int
  f : Int
  ps : List PartM
  ns : List NeedM
def pz : PartM := ⟨0, 0, 0, []⟩
def nz : NeedM := ⟨0, 0, 0, 0⟩
/-- The cells of the part at the place of a row. -/
structure PartAt (W : World) (b o : Nat) (p : PartM) (ha : Option Addr) (hc : Nat) : Prop where
  k : W.cell? ⟨b, o, none⟩ = some (.int .i64 p.k)
  v : W.cell? ⟨b, o + 1, none⟩ = some (.int .i64 p.v)
  s : W.cell? ⟨b, o + 2, none⟩ = some (.int .i64 p.s)
  h : W.cell? ⟨b, o + 3, none⟩ = some (.slice ha p.h.length hc)
  by_ : Bs W ha p.h.length hc p.h
structure NeedAt (W : World) (b q : Nat) (p : NeedM) : Prop where
  o : W.cell? ⟨b, q, none⟩ = some (.int .i64 p.o)
  f : W.cell? ⟨b, q + 1, none⟩ = some (.int .i64 p.f)
  t : W.cell? ⟨b, q + 2, none⟩ = some (.int .i64 p.t)
  k : W.cell? ⟨b, q + 3, none⟩ = some (.int .i64 p.k)
/-- What a slice of parts reads as. -/
def Ps (W : World) (a : Option Addr) (n c : Nat) (ps : List PartM) : Prop :=
  (a = none → c = 0) ∧ ps.length = n ∧ n ≤ c ∧ (n = 0 ∨ ∃ b o, a = some ⟨b, o, none⟩ ∧ b < W.heap.size ∧ ∀ i, i < n → ∃ ha hc, PartAt W b (o + i * 4) (ps.getD i pz) ha hc)
def Ns (W : World) (a : Option Addr) (n c : Nat) (ns : List NeedM) : Prop :=
  (a = none → c = 0) ∧ ns.length = n ∧ n ≤ c ∧ (n = 0 ∨ ∃ b o, a = some ⟨b, o, none⟩ ∧ b < W.heap.size ∧ ∀ i, i < n → NeedAt W b (o + i * 4) (ns.getD i nz))
section
variable {W W' : World} {a : Option Addr} {n c : Nat}
theorem PartAt.below {b o : Nat} {p : PartM} {ha : Option Addr} {hc : Nat} (h : PartAt W b o p ha hc) (l : b < W.heap.size) (hb : Below W.heap.size W W') : PartAt W' b o p ha hc :=
  ⟨(hb.cell (p := ⟨b, _, none⟩) l).trans h.k, (hb.cell (p := ⟨b, _, none⟩) l).trans h.v, (hb.cell (p := ⟨b, _, none⟩) l).trans h.s, (hb.cell (p := ⟨b, _, none⟩) l).trans h.h, h.by_.below hb⟩
theorem NeedAt.below {b o : Nat} {p : NeedM} (h : NeedAt W b o p) (l : b < W.heap.size) (hb : Below W.heap.size W W') : NeedAt W' b o p :=
  ⟨(hb.cell (p := ⟨b, _, none⟩) l).trans h.o, (hb.cell (p := ⟨b, _, none⟩) l).trans h.f, (hb.cell (p := ⟨b, _, none⟩) l).trans h.t, (hb.cell (p := ⟨b, _, none⟩) l).trans h.k⟩
theorem Ps.below {ps : List PartM} (h : Ps W a n c ps) (hb : Below W.heap.size W W') : Ps W' a n c ps := by
  obtain ⟨h0, h1, h2, h⟩ := h
  refine ⟨h0, h1, h2, ?_⟩
  rcases h with h | ⟨b, o, e, l, h⟩
  · exact .inl h
  · refine .inr ⟨b, o, e, Nat.lt_of_lt_of_le l hb.size, fun i hi => ?_⟩
    obtain ⟨ha, hc, k⟩ := h i hi
    exact ⟨ha, hc, k.below l hb⟩
theorem Ns.below {ns : List NeedM} (h : Ns W a n c ns) (hb : Below W.heap.size W W') : Ns W' a n c ns := by
  obtain ⟨h0, h1, h2, h⟩ := h
  refine ⟨h0, h1, h2, ?_⟩
  rcases h with h | ⟨b, o, e, l, h⟩
  · exact .inl h
  · exact .inr ⟨b, o, e, Nat.lt_of_lt_of_le l hb.size, fun i hi => (h i hi).below l hb⟩
end
/-- The place of a kind among parts. -/
def fnd (ps : List PartM) (kind : Int) : Int := match ps.findIdx? (fun p => p.k == kind) with | some i => (i : Int) | none => -1
theorem fnd_at {ps : List PartM} {kind : Int} {i : Nat} (hi : i < ps.length) (h : (ps.getD i pz).k = kind) (hn : ∀ j, j < i → (ps.getD j pz).k ≠ kind) : fnd ps kind = i := by
  have : ps.findIdx? (fun p => p.k == kind) = some i := by
    rw [List.findIdx?_eq_some_iff_getElem]
    refine ⟨hi, by simpa [List.getD, List.getElem?_eq_getElem hi] using h, fun j hj => ?_⟩
    have := hn j hj
    simpa [List.getD, List.getElem?_eq_getElem (Nat.lt_trans hj hi)] using this
  unfold fnd
  rw [this]
theorem fnd_no {ps : List PartM} {kind : Int} (hn : ∀ j, j < ps.length → (ps.getD j pz).k ≠ kind) : fnd ps kind = -1 := by
  have : ps.findIdx? (fun p => p.k == kind) = none := by
    rw [List.findIdx?_eq_none_iff]
    intro p hp
    obtain ⟨j, hj, rfl⟩ := List.mem_iff_getElem.1 hp
    have := hn j hj
    simpa [List.getD, List.getElem?_eq_getElem hj] using this
  unfold fnd
  rw [this]
end Go.Proofs.YtgfjbaigmkdbcaaDoor
