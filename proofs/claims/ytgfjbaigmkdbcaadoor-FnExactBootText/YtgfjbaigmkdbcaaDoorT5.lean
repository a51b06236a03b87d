/-
  What is proved here: what both sides' BootText answer.
-/
import Derived.Test.YtgfjbaigmkdbcaaDoorT4
import Derived.Test.YtgfjbaigmkdbcaaDoorC0l
import Derived.Test.YtgfjbaigmkdbcaaDoorCt
namespace Go.Proofs.YtgfjbaigmkdbcaaDoor
open Go.RowKit
set_option maxRecDepth 100000
set_option maxHeartbeats 4000000
set_option linter.unusedVariables false

/-- The lines of a state. -/
def bxL (b n f : Int) (t : Bool) (i o : Int) : List Int := if btOk b n f t i o then lnL (stB ⟨#[98, 97, 110, 107]⟩) [b, n, f] ++ (if t = true then lnL (stB ⟨#[116, 114, 105, 97, 108]⟩) [i, o] else []) else []
theorem bxL_len (b n f : Int) (t : Bool) (i o : Int) : (bxL b n f t i o).length ≤ 2000 := by
  unfold bxL
  split
  · next h =>
    have l1 := lnL_len ⟨#[98, 97, 110, 107]⟩ [b, n, f] (ns3 (by omega) (by omega) (by omega))
    simp only [show ∀ a : Array UInt8, (⟨a⟩ : ByteArray).size = a.size from fun _ => rfl, List.size_toArray, List.length_cons, List.length_nil] at l1
    rw [List.length_append]
    split
    · next ht =>
      have hio := h.2.2.2
      rw [if_pos ht] at hio
      have l2 := lnL_len ⟨#[116, 114, 105, 97, 108]⟩ [i, o] (ns2 (by omega) (by omega))
      simp only [show ∀ a : Array UInt8, (⟨a⟩ : ByteArray).size = a.size from fun _ => rfl, List.size_toArray, List.length_cons, List.length_nil] at l2
      omega
    · simp only [List.length_nil]
      omega
  · simp
theorem bxL_byte (b n f : Int) (t : Bool) (i o : Int) : ∀ x ∈ bxL b n f t i o, 0 ≤ x ∧ x < 256 := by
  unfold bxL
  split
  · intro x hx
    rw [List.mem_append] at hx
    rcases hx with h | h
    · exact lnL_byte _ _ x h
    · split at h
      · exact lnL_byte _ _ x h
      · cases h
  · intro x hx; cases hx
theorem specLitOn (base : Nat) (vb : Value) (n0 : Nat) (xs0 : List Int) (s : ByteArray) (cs : List Int) (m : Nat) (w : World) (hb : w.ownsRow base 5 1 vb n0 (U8 xs0)) (hbase : base ≤ w.heap.size) (hn0 : n0 ≤ 400000) (hs : s.size ≤ 1000) (hm : cs.length = m) (h100 : m ≤ 100) (hc : nsOk cs) :
    Calls Tryd.prog 28 #[vb, .string s, .slice (some ⟨w.heap.size, 0, none⟩) m m] (w.alloc (.cells (I6 cs).toArray 3)) fun e w' => ∃ v, e = .returned v ∧ w'.ownsRow base 5 1 v (xs0 ++ lnL (stB s) cs).length (U8 (xs0 ++ lnL (stB s) cs)) ∧ Below base w w' := by
  have b := litBelow w (.cells (I6 cs).toArray 3)
  have hlt : ∀ k, vb.ownBlock = some k → base ≤ k ∧ k < w.heap.size := fun k hk => (ownM.of (xs := xs0) hb).lt k hk
  refine Calls.mono (specL8words base vb n0 xs0 s _ m m cs _ (own_below hb b) (Nat.le_trans hbase b.size) (by omega) hs (isLit (Arr.new w (I6 cs) 3) hm hc) h100 hc ?_) ?_
  · rintro ad e h
    cases e
    have := (hlt _ h).2
    simp at this
  rintro e w' ⟨v, rfl, o, g⟩
  refine ⟨v, rfl, o, (b.mono hbase).trans ⟨g.os, g.tape, g.output, g.size, fun k hk => ?_⟩⟩
  refine g.block k (Nat.lt_of_lt_of_le hk (Nat.le_trans hbase b.size)) fun e => ?_
  have := (hlt k e.symm).1
  omega
theorem specL10text (b n f : Int) (t : Bool) (i o : Int) (w : World) (hok : btOk b n f t i o) : Calls Tryd.prog 41 #[btV b n f t i o] w fun e w' => ∃ v, e = .returned v ∧ w'.ownsRow w.heap.size 5 1 v (bxL b n f t i o).length (U8 (bxL b n f t i o)) ∧ Below w.heap.size w w' := by
  obtain ⟨V, hV⟩ : ∃ V, V = w.alloc (.cells #[.int .i64 b, .int .i64 n, .int .i64 f, .bool t, .int .i64 i, .int .i64 o] 48) := ⟨_, rfl⟩
  have B : Below w.heap.size w V := by rw [hV]; exact (Below.refl _ _).alloc (Nat.le_refl _) _
  have A : Arr V w.heap.size 48 [.int .i64 b, .int .i64 n, .int .i64 f, .bool t, .int .i64 i, .int .i64 o] := by rw [hV]; exact Arr.new _ _ _
  have e0 : bxL b n f t i o = lnL (stB ⟨#[98, 97, 110, 107]⟩) [b, n, f] ++ (if t = true then lnL (stB ⟨#[116, 114, 105, 97, 108]⟩) [i, o] else []) := if_pos hok
  rw [e0]
  clear e0
  obtain ⟨Z, hZ⟩ : ∃ Z, Z = lnL (stB ⟨#[98, 97, 110, 107]⟩) [b, n, f] ++ (if t = true then lnL (stB ⟨#[116, 114, 105, 97, 108]⟩) [i, o] else []) := ⟨_, rfl⟩
  rw [← hZ]
  have HZt : Hid (t = true → Z = lnL (stB ⟨#[98, 97, 110, 107]⟩) [b, n, f] ++ lnL (stB ⟨#[116, 114, 105, 97, 108]⟩) [i, o]) := fun h => by rw [hZ, if_pos h]
  have HZf : Hid (t = false → Z = lnL (stB ⟨#[98, 97, 110, 107]⟩) [b, n, f]) := fun h => by rw [hZ, h]; simp
  clear hZ
  have H3 : Hid (nsOk [b, n, f]) := ns3 (by omega) (by omega) (by omega)
  have hio := hok.2.2.2
  have H2 : Hid (t = true → nsOk [i, o]) := fun ht => by
    rw [if_pos ht] at hio
    exact ns2 (by omega) (by omega)
  have H3l : Hid ((lnL (stB ⟨#[98, 97, 110, 107]⟩) [b, n, f]).length ≤ 2000) := by
    have l1 := lnL_len ⟨#[98, 97, 110, 107]⟩ [b, n, f] H3
    simp only [show ∀ a : Array UInt8, (⟨a⟩ : ByteArray).size = a.size from fun _ => rfl, List.size_toArray, List.length_cons, List.length_nil] at l1
    unfold Hid
    omega
  clear hok hio
  have c0 := A.cell 0
  have c1 := A.cell 1
  have c2 := A.cell 2
  have c3 := A.cell 3
  have c4 := A.cell 4
  have c5 := A.cell 5
  simp at c0 c1 c2 c3 c4 c5
  go_enter Tryd.func41, Tryd.ntmps41
  go_upto_region 1 with fail
  rw [← hV]
  clear hV
  go_wp2_with fail
  refine Calls.mono (specLit ⟨#[98, 97, 110, 107]⟩ [b, n, f] 3 V (by decide) rfl (by omega) H3.out) ?_
  rintro e w1 ⟨v, rfl, ow, hb⟩
  have HO : Hid (w1.ownsRow w.heap.size 5 1 v (lnL (stB ⟨#[98, 97, 110, 107]⟩) [b, n, f]).length (U8 (lnL (stB ⟨#[98, 97, 110, 107]⟩) [b, n, f]))) := own_base ow B.size
  replace A := A.kept hb
  replace B := B.trans (hb.mono B.size)
  clear hb c0 c1 c2 c3 c4 c5 ow
  have c0 := A.cell 0
  have c1 := A.cell 1
  have c2 := A.cell 2
  have c3 := A.cell 3
  have c4 := A.cell 4
  have c5 := A.cell 5
  simp at c0 c1 c2 c3 c4 c5
  cases t
  case false =>
    go_wp2
    go_ret
    exact ⟨_, rfl, by rw [HZf.out (by first | rfl | trivial)]; exact HO.out, B⟩
  case true =>
    go_wp2_with fail
    refine Calls.mono (specLitOn w.heap.size v _ _ ⟨#[116, 114, 105, 97, 108]⟩ [i, o] 2 w1 HO.out B.size (Nat.le_trans H3l.out (by omega)) (by decide) rfl (by omega) (H2.out (by first | rfl | trivial))) ?_
    rintro e w2 ⟨v2, rfl, o2, hb⟩
    replace B := B.trans hb
    have HO2 : Hid (w2.ownsRow w.heap.size 5 1 v2 (lnL (stB ⟨#[98, 97, 110, 107]⟩) [b, n, f] ++ lnL (stB ⟨#[116, 114, 105, 97, 108]⟩) [i, o]).length (U8 (lnL (stB ⟨#[98, 97, 110, 107]⟩) [b, n, f] ++ lnL (stB ⟨#[116, 114, 105, 97, 108]⟩) [i, o]))) := o2
    clear hb c0 c1 c2 c3 c4 c5 o2 A HO
    go_wp2
    go_ret
    exact ⟨_, rfl, by rw [HZt.out (by first | rfl | trivial)]; exact HO2.out, B⟩
theorem specBootText (b n f : Int) (t : Bool) (i o : Int) (w : World) : Calls Tryd.prog 19 #[btV b n f t i o] w fun e w' => ∃ v, e = .returned v ∧ w'.ownsRow w.heap.size 5 1 v (bxL b n f t i o).length (U8 (bxL b n f t i o)) ∧ Below w.heap.size w w' := by
  obtain ⟨V, hV⟩ : ∃ V, V = w.alloc (.cells #[.int .i64 b, .int .i64 n, .int .i64 f, .bool t, .int .i64 i, .int .i64 o] 48) := ⟨_, rfl⟩
  have B : Below w.heap.size w V := by rw [hV]; exact (Below.refl _ _).alloc (Nat.le_refl _) _
  have A : Arr V w.heap.size 48 [.int .i64 b, .int .i64 n, .int .i64 f, .bool t, .int .i64 i, .int .i64 o] := by rw [hV]; exact Arr.new _ _ _
  by_cases hok : btOk b n f t i o
  case neg =>
    have e0 : bxL b n f t i o = [] := if_neg hok
    rw [e0]
    have HD : Hid (decide (btOk b n f t i o) = false) := decide_eq_false hok
    have c0 := A.cell 0
    have c1 := A.cell 1
    have c2 := A.cell 2
    have c3 := A.cell 3
    have c4 := A.cell 4
    have c5 := A.cell 5
    simp at c0 c1 c2 c3 c4 c5
    clear e0 hok
    go_enter Tryd.func19, Tryd.ntmps19
    go_upto_region 1 with fail
    rw [← hV]
    clear hV
    go_wp2_with fail
    refine (specBootOk b n f t i o _).mono ?_
    rintro e w1 ⟨rfl, hb⟩
    rw [HD.out]
    replace B := B.trans (hb.mono B.size)
    clear hb c0 c1 c2 c3 c4 c5
    go_wp2
    go_ret
    exact ⟨_, rfl, World.ownsRow_nil _ _ _ _, B⟩
  have HD : Hid (decide (btOk b n f t i o) = true) := decide_eq_true hok
  have HL : Hid (∀ Z, Calls Tryd.prog 41 #[btV b n f t i o] Z fun e w' => ∃ v, e = .returned v ∧ w'.ownsRow Z.heap.size 5 1 v (bxL b n f t i o).length (U8 (bxL b n f t i o)) ∧ Below Z.heap.size Z w') := fun Z => specL10text b n f t i o Z hok
  clear hok
  have c0 := A.cell 0
  have c1 := A.cell 1
  have c2 := A.cell 2
  have c3 := A.cell 3
  have c4 := A.cell 4
  have c5 := A.cell 5
  simp at c0 c1 c2 c3 c4 c5
  go_enter Tryd.func19, Tryd.ntmps19
  go_upto_region 1 with fail
  rw [← hV]
  clear hV
  go_wp2_with fail
  refine (specBootOk b n f t i o _).mono ?_
  rintro e w1 ⟨rfl, hb⟩
  rw [HD.out]
  replace A := A.kept hb
  replace B := B.trans (hb.mono B.size)
  clear hb c0 c1 c2 c3 c4 c5
  have c0 := A.cell 0
  have c1 := A.cell 1
  have c2 := A.cell 2
  have c3 := A.cell 3
  have c4 := A.cell 4
  have c5 := A.cell 5
  simp at c0 c1 c2 c3 c4 c5
  go_wp2_with fail
  refine Calls.mono (HL.out _) ?_
  rintro e w2 ⟨v, rfl, o2, hb⟩
  have HO : Hid (w2.ownsRow w.heap.size 5 1 v (bxL b n f t i o).length (U8 (bxL b n f t i o))) := own_base o2 B.size
  replace B := B.trans (hb.mono B.size)
  clear hb c0 c1 c2 c3 c4 c5 o2 A HL
  go_wp2
  go_ret
  exact ⟨_, rfl, HO.out, B⟩
theorem implBootText (b n f : Int) (t : Bool) (i o : Int) (w : World) (ht : Pow w) : Calls Tryd.prog 21 #[btV b n f t i o] w fun e w' => ∃ v, e = .returned v ∧ ownM w' w.heap.size v (bxL b n f t i o).length (bxL b n f t i o) ∧ Below w.heap.size w w' := by
  have HT : Hid (Pow w) := ht
  obtain ⟨V, hV⟩ : ∃ V, V = w.alloc (.cells #[.int .i64 b, .int .i64 n, .int .i64 f, .bool t, .int .i64 i, .int .i64 o] 48) := ⟨_, rfl⟩
  have B : Below w.heap.size w V := by rw [hV]; exact (Below.refl _ _).alloc (Nat.le_refl _) _
  have A : Arr V w.heap.size 48 [.int .i64 b, .int .i64 n, .int .i64 f, .bool t, .int .i64 i, .int .i64 o] := by rw [hV]; exact Arr.new _ _ _
  by_cases hok : btOk b n f t i o
  case neg =>
    have e0 : bxL b n f t i o = [] := if_neg hok
    rw [e0]
    have HD : Hid (decide (btOk b n f t i o) = false) := decide_eq_false hok
    have c0 := A.cell 0
    have c1 := A.cell 1
    have c2 := A.cell 2
    have c3 := A.cell 3
    have c4 := A.cell 4
    have c5 := A.cell 5
    simp at c0 c1 c2 c3 c4 c5
    clear e0 hok
    go_enter Tryd.func21, Tryd.ntmps21
    go_upto_region 1 with fail
    rw [← hV]
    clear hV
    go_wp2_with fail
    refine (implBootOk b n f t i o _).mono ?_
    rintro e w1 ⟨rfl, hb⟩
    rw [HD.out]
    replace B := B.trans (hb.mono B.size)
    clear hb c0 c1 c2 c3 c4 c5
    go_wp2
    go_ret
    exact ⟨_, rfl, .of (World.ownsRow_nil _ _ _ _), B⟩
  have HD : Hid (decide (btOk b n f t i o) = true) := decide_eq_true hok
  have e0 : bxL b n f t i o = lnL (stB ⟨#[98, 97, 110, 107]⟩) [b, n, f] ++ (if t = true then lnL (stB ⟨#[116, 114, 105, 97, 108]⟩) [i, o] else []) := if_pos hok
  rw [e0]
  clear e0
  obtain ⟨Z, hZ⟩ : ∃ Z, Z = lnL (stB ⟨#[98, 97, 110, 107]⟩) [b, n, f] ++ (if t = true then lnL (stB ⟨#[116, 114, 105, 97, 108]⟩) [i, o] else []) := ⟨_, rfl⟩
  rw [← hZ]
  have HZt : Hid (t = true → Z = lnL (stB ⟨#[98, 97, 110, 107]⟩) [b, n, f] ++ lnL (stB ⟨#[116, 114, 105, 97, 108]⟩) [i, o]) := fun h => by rw [hZ, if_pos h]
  have HZf : Hid (t = false → Z = lnL (stB ⟨#[98, 97, 110, 107]⟩) [b, n, f]) := fun h => by rw [hZ, h]; simp
  clear hZ
  have H3 : Hid (nsOk [b, n, f]) := ns3 (by omega) (by omega) (by omega)
  have hio := hok.2.2.2
  have H2 : Hid (t = true → nsOk [i, o]) := fun ht => by
    rw [if_pos ht] at hio
    exact ns2 (by omega) (by omega)
  have H3l : Hid ((lnL (stB ⟨#[98, 97, 110, 107]⟩) [b, n, f]).length ≤ 2000) := by
    have l1 := lnL_len ⟨#[98, 97, 110, 107]⟩ [b, n, f] H3
    simp only [show ∀ a : Array UInt8, (⟨a⟩ : ByteArray).size = a.size from fun _ => rfl, List.size_toArray, List.length_cons, List.length_nil] at l1
    unfold Hid
    omega
  have H2l : Hid (t = true → (lnL (stB ⟨#[116, 114, 105, 97, 108]⟩) [i, o]).length ≤ 2000) := fun ht => by
    have l1 := lnL_len ⟨#[116, 114, 105, 97, 108]⟩ [i, o] (H2.out ht)
    simp only [show ∀ a : Array UInt8, (⟨a⟩ : ByteArray).size = a.size from fun _ => rfl, List.size_toArray, List.length_cons, List.length_nil] at l1
    omega
  clear hok hio
  have c0 := A.cell 0
  have c1 := A.cell 1
  have c2 := A.cell 2
  have c3 := A.cell 3
  have c4 := A.cell 4
  have c5 := A.cell 5
  simp at c0 c1 c2 c3 c4 c5
  go_enter Tryd.func21, Tryd.ntmps21
  go_upto_region 1 with fail
  rw [← hV]
  clear hV
  go_wp2_with fail
  refine (implBootOk b n f t i o _).mono ?_
  rintro e w1 ⟨rfl, hb⟩
  rw [HD.out]
  replace A := A.kept hb
  replace B := B.trans (hb.mono B.size)
  clear hb c0 c1 c2 c3 c4 c5
  have c0 := A.cell 0
  have c1 := A.cell 1
  have c2 := A.cell 2
  have c3 := A.cell 3
  have c4 := A.cell 4
  have c5 := A.cell 5
  simp at c0 c1 c2 c3 c4 c5
  go_wp2_with fail
  refine Calls.mono (implLit ⟨#[98, 97, 110, 107]⟩ [b, n, f] 3 w1 (pow_below HT.out B) (by decide) rfl (by omega) H3.out) ?_
  rintro e w2 ⟨v, rfl, ow, hb⟩
  have HO : Hid (ownM w2 w.heap.size v (lnL (stB ⟨#[98, 97, 110, 107]⟩) [b, n, f]).length (lnL (stB ⟨#[98, 97, 110, 107]⟩) [b, n, f])) := ow.lower B.size
  replace A := A.kept hb
  replace B := B.trans (hb.mono B.size)
  clear hb c0 c1 c2 c3 c4 c5 ow
  have c0 := A.cell 0
  have c1 := A.cell 1
  have c2 := A.cell 2
  have c3 := A.cell 3
  have c4 := A.cell 4
  have c5 := A.cell 5
  simp at c0 c1 c2 c3 c4 c5
  cases t
  case false =>
    go_wp2
    go_ret
    exact ⟨_, rfl, by rw [HZf.out (by first | rfl | trivial)]; exact HO.out, B⟩
  case true =>
    obtain ⟨a1, k1, rfl, hB1⟩ := HO.out.bs (lnL_byte _ _)
    have HB1 : Hid (Bs w2 a1 (lnL (stB ⟨#[98, 97, 110, 107]⟩) [b, n, f]).length k1 (lnL (stB ⟨#[98, 97, 110, 107]⟩) [b, n, f])) := hB1
    clear hB1
    go_wp2_with fail
    refine Calls.mono (implLit ⟨#[116, 114, 105, 97, 108]⟩ [i, o] 2 w2 (pow_below HT.out B) (by decide) rfl (by omega) (H2.out (by first | rfl | trivial))) ?_
    rintro e w3 ⟨v2, rfl, o2, hb⟩
    obtain ⟨a2, k2, rfl, hB2⟩ := o2.bs (lnL_byte _ _)
    have HB2 : Hid (Bs w3 a2 (lnL (stB ⟨#[116, 114, 105, 97, 108]⟩) [i, o]).length k2 (lnL (stB ⟨#[116, 114, 105, 97, 108]⟩) [i, o])) := hB2
    replace HB1 : Hid (Bs w3 a1 (lnL (stB ⟨#[98, 97, 110, 107]⟩) [b, n, f]).length k1 (lnL (stB ⟨#[98, 97, 110, 107]⟩) [b, n, f])) := HB1.out.below hb
    replace B := B.trans (hb.mono B.size)
    clear hb c0 c1 c2 c3 c4 c5 o2 A HO hB2
    replace HZt := HZt.out (by first | rfl | trivial)
    generalize lnL (stB ⟨#[116, 114, 105, 97, 108]⟩) [i, o] = Y at HB2 H2l HZt ⊢
    generalize lnL (stB ⟨#[98, 97, 110, 107]⟩) [b, n, f] = X at HB1 H3l HZt ⊢
    clear HZf
    generalize hx : X.length = x at HB1 H3l ⊢
    generalize hy : Y.length = y at HB2 H2l ⊢
    have HX : Hid (X.length + Y.length = x + y) := by unfold Hid; rw [hx, hy]
    clear hx hy
    go_wp2_with fail
    have eA := Arr.new w3 [.slice a1 x k1, .slice a2 y k2] 27
    have b4 : Below w3.heap.size w3 (w3.alloc (.cells #[.slice a1 x k1, .slice a2 y k2] 27)) := (Below.refl _ _).alloc (Nat.le_refl _) _
    have lx := H3l.out
    have ly := H2l.out (by first | rfl | trivial)
    refine Calls.mono (concat2 w3.heap.size a1 a2 x k1 y k2 X Y _ eA.lt (eA.cell 0) (eA.cell 1) (HB1.out.below b4) (HB2.out.below b4) (by omega) (by omega)) ?_
    rintro e w4 ⟨v4, rfl, o4, hb⟩
    have HO4 : Hid (ownM w4 w.heap.size v4 (X ++ Y).length (X ++ Y)) := by
      unfold Hid
      rw [List.length_append, HX.out]
      exact .of (own_base o4 (Nat.le_trans B.size b4.size))
    replace B := (B.trans (b4.mono B.size)).trans (hb.mono (Nat.le_trans B.size b4.size))
    clear hb o4 b4 eA
    go_wp2
    go_ret
    exact ⟨_, rfl, by rw [HZt]; exact HO4.out, B⟩
end Go.Proofs.YtgfjbaigmkdbcaaDoor
