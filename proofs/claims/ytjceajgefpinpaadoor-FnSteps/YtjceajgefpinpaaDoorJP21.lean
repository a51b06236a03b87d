/-
  What is proved here: what both sides' RecText answer; what both sides' BootText answer.
-/
import Derived.Test.YtjceajgefpinpaaDoorJP20
import Derived.Test.YtjceajgefpinpaaDoorJP6
import Derived.Test.YtjceajgefpinpaaDoorJP9
import Derived.Test.YtjceajgefpinpaaDoorJP8
namespace Go.Proofs.YtjceajgefpinpaaDoor
open Go.RowKit
set_option maxRecDepth 100000
set_option maxHeartbeats 4000000
set_option linter.unusedVariables false

/-- A record's line. -/
def rtK (k b n f : Int) : List Int := if k = 1 then lnL (stB ⟨#[104, 101, 97, 100]⟩) [n] else if k = 2 then lnL (stB ⟨#[115, 101, 116]⟩) [b, n, f] else if k = 3 then lnL (stB ⟨#[99, 111, 109, 109, 105, 116]⟩) [b, n] else if k = 4 then lnL (stB ⟨#[116, 114, 121]⟩) [] else if k = 5 then lnL (stB ⟨#[99, 111, 110, 102, 105, 114, 109]⟩) [f] else lnL (stB ⟨#[98, 97, 99, 107]⟩) []
def rtL (k b n f : Int) : List Int := if rcOk k b n f then rtK k b n f else []
theorem ns1 {x : Int} (h : 0 ≤ x ∧ x ≤ 1000000) : nsOk [x] := by intro y hy; simp at hy; omega
theorem ns2 {x y : Int} (h : 0 ≤ x ∧ x ≤ 1000000) (h' : 0 ≤ y ∧ y ≤ 1000000) : nsOk [x, y] := by intro z hz; simp at hz; omega
theorem ns3 {x y z : Int} (h : 0 ≤ x ∧ x ≤ 1000000) (h' : 0 ≤ y ∧ y ≤ 1000000) (h'' : 0 ≤ z ∧ z ≤ 1000000) : nsOk [x, y, z] := by intro u hu; simp at hu; omega
theorem implRecText (k b n f : Int) (w : World) (ht : Pow w) : Calls Tryd.prog 11 #[rcV k b n f] w fun e w' => ∃ v, e = .returned v ∧ ownM w' w.heap.size v (rtL k b n f).length (rtL k b n f) ∧ Below w.heap.size w w' := by
  have HT : Hid (Pow w) := ht
  obtain ⟨V, hV⟩ : ∃ V, V = w.alloc (.cells #[.int .i64 k, .int .i64 b, .int .i64 n, .int .i64 f] 24) := ⟨_, rfl⟩
  have B : Below w.heap.size w V := by rw [hV]; exact (Below.refl _ _).alloc (Nat.le_refl _) _
  have A : Arr V w.heap.size 24 [.int .i64 k, .int .i64 b, .int .i64 n, .int .i64 f] := by rw [hV]; exact Arr.new _ _ _
  by_cases hok : rcOk k b n f
  case neg =>
    have e0 : rtL k b n f = [] := if_neg hok
    rw [e0]
    have HD : Hid (decide (rcOk k b n f) = false) := decide_eq_false hok
    have c0 := A.cell 0
    have c1 := A.cell 1
    have c2 := A.cell 2
    have c3 := A.cell 3
    simp at c0 c1 c2 c3
    clear e0 hok
    go_enter Tryd.func11, Tryd.ntmps11
    go_upto_region 1 with fail
    rw [← hV]
    clear hV
    go_wp2_with fail
    refine (implRecOk k b n f _).mono ?_
    rintro e w1 ⟨rfl, hb⟩
    rw [HD.out]
    replace B := B.trans (hb.mono B.size)
    clear hb c0 c1 c2 c3
    go_wp2
    go_ret
    exact ⟨_, rfl, .of (World.ownsRow_nil _ _ _ _), B⟩
  have HD : Hid (decide (rcOk k b n f) = true) := decide_eq_true hok
  have e0 : rtL k b n f = rtK k b n f := if_pos hok
  rw [e0]
  clear e0
  have hbb : (0 ≤ b ∧ b ≤ 1000000) ∧ (0 ≤ n ∧ n ≤ 1000000) ∧ (0 ≤ f ∧ f ≤ 1000000) := by omega
  have hk : k = 1 ∨ k = 2 ∨ k = 3 ∨ k = 4 ∨ k = 5 ∨ k = 6 := by omega
  have HBb : Hid _ := hbb
  clear hok hbb
  rcases hk with rfl | rfl | rfl | rfl | rfl | rfl
  · rw [show rtK 1 b n f = lnL (stB ⟨#[104, 101, 97, 100]⟩) [n] from rfl]
    have c0 := A.cell 0
    have c1 := A.cell 1
    have c2 := A.cell 2
    have c3 := A.cell 3
    simp at c0 c1 c2 c3
    go_enter Tryd.func11, Tryd.ntmps11
    go_upto_region 1 with fail
    rw [← hV]
    clear hV
    go_wp2_with fail
    refine (implRecOk 1 b n f _).mono ?_
    rintro e w1 ⟨rfl, hb⟩
    rw [HD.out]
    replace A := A.kept hb
    replace B := B.trans (hb.mono B.size)
    clear hb c0 c1 c2 c3
    have c0 := A.cell 0
    have c1 := A.cell 1
    have c2 := A.cell 2
    have c3 := A.cell 3
    simp at c0 c1 c2 c3
    go_wp2_with fail
    refine Calls.mono (implLit ⟨#[104, 101, 97, 100]⟩ [n] 1 w1 (pow_below HT.out B) (by decide) rfl (by omega) (ns1 HBb.out.2.1)) ?_
    rintro e w2 ⟨v, rfl, o, hb⟩
    have HO : Hid (ownM w2 w.heap.size v (lnL (stB ⟨#[104, 101, 97, 100]⟩) [n]).length (lnL (stB ⟨#[104, 101, 97, 100]⟩) [n])) := o.lower B.size
    replace B := B.trans (hb.mono B.size)
    clear hb c0 c1 c2 c3 o A
    go_wp2
    go_ret
    exact ⟨_, rfl, HO.out, B⟩
  · rw [show rtK 2 b n f = lnL (stB ⟨#[115, 101, 116]⟩) [b, n, f] from rfl]
    have c0 := A.cell 0
    have c1 := A.cell 1
    have c2 := A.cell 2
    have c3 := A.cell 3
    simp at c0 c1 c2 c3
    go_enter Tryd.func11, Tryd.ntmps11
    go_upto_region 1 with fail
    rw [← hV]
    clear hV
    go_wp2_with fail
    refine (implRecOk 2 b n f _).mono ?_
    rintro e w1 ⟨rfl, hb⟩
    rw [HD.out]
    replace A := A.kept hb
    replace B := B.trans (hb.mono B.size)
    clear hb c0 c1 c2 c3
    have c0 := A.cell 0
    have c1 := A.cell 1
    have c2 := A.cell 2
    have c3 := A.cell 3
    simp at c0 c1 c2 c3
    go_wp2_with fail
    refine Calls.mono (implLit ⟨#[115, 101, 116]⟩ [b, n, f] 3 w1 (pow_below HT.out B) (by decide) rfl (by omega) (ns3 HBb.out.1 HBb.out.2.1 HBb.out.2.2)) ?_
    rintro e w2 ⟨v, rfl, o, hb⟩
    have HO : Hid (ownM w2 w.heap.size v (lnL (stB ⟨#[115, 101, 116]⟩) [b, n, f]).length (lnL (stB ⟨#[115, 101, 116]⟩) [b, n, f])) := o.lower B.size
    replace B := B.trans (hb.mono B.size)
    clear hb c0 c1 c2 c3 o A
    go_wp2
    go_ret
    exact ⟨_, rfl, HO.out, B⟩
  · rw [show rtK 3 b n f = lnL (stB ⟨#[99, 111, 109, 109, 105, 116]⟩) [b, n] from rfl]
    have c0 := A.cell 0
    have c1 := A.cell 1
    have c2 := A.cell 2
    have c3 := A.cell 3
    simp at c0 c1 c2 c3
    go_enter Tryd.func11, Tryd.ntmps11
    go_upto_region 1 with fail
    rw [← hV]
    clear hV
    go_wp2_with fail
    refine (implRecOk 3 b n f _).mono ?_
    rintro e w1 ⟨rfl, hb⟩
    rw [HD.out]
    replace A := A.kept hb
    replace B := B.trans (hb.mono B.size)
    clear hb c0 c1 c2 c3
    have c0 := A.cell 0
    have c1 := A.cell 1
    have c2 := A.cell 2
    have c3 := A.cell 3
    simp at c0 c1 c2 c3
    go_wp2_with fail
    refine Calls.mono (implLit ⟨#[99, 111, 109, 109, 105, 116]⟩ [b, n] 2 w1 (pow_below HT.out B) (by decide) rfl (by omega) (ns2 HBb.out.1 HBb.out.2.1)) ?_
    rintro e w2 ⟨v, rfl, o, hb⟩
    have HO : Hid (ownM w2 w.heap.size v (lnL (stB ⟨#[99, 111, 109, 109, 105, 116]⟩) [b, n]).length (lnL (stB ⟨#[99, 111, 109, 109, 105, 116]⟩) [b, n])) := o.lower B.size
    replace B := B.trans (hb.mono B.size)
    clear hb c0 c1 c2 c3 o A
    go_wp2
    go_ret
    exact ⟨_, rfl, HO.out, B⟩
  · rw [show rtK 4 b n f = lnL (stB ⟨#[116, 114, 121]⟩) [] from rfl]
    have c0 := A.cell 0
    have c1 := A.cell 1
    have c2 := A.cell 2
    have c3 := A.cell 3
    simp at c0 c1 c2 c3
    go_enter Tryd.func11, Tryd.ntmps11
    go_upto_region 1 with fail
    rw [← hV]
    clear hV
    go_wp2_with fail
    refine (implRecOk 4 b n f _).mono ?_
    rintro e w1 ⟨rfl, hb⟩
    rw [HD.out]
    replace A := A.kept hb
    replace B := B.trans (hb.mono B.size)
    clear hb c0 c1 c2 c3
    have c0 := A.cell 0
    have c1 := A.cell 1
    have c2 := A.cell 2
    have c3 := A.cell 3
    simp at c0 c1 c2 c3
    go_wp2_with fail
    refine Calls.mono (implNil ⟨#[116, 114, 121]⟩ w1 (pow_below HT.out B) (by decide)) ?_
    rintro e w2 ⟨v, rfl, o, hb⟩
    have HO : Hid (ownM w2 w.heap.size v (lnL (stB ⟨#[116, 114, 121]⟩) []).length (lnL (stB ⟨#[116, 114, 121]⟩) [])) := o.lower B.size
    replace B := B.trans (hb.mono B.size)
    clear hb c0 c1 c2 c3 o A
    go_wp2
    go_ret
    exact ⟨_, rfl, HO.out, B⟩
  · rw [show rtK 5 b n f = lnL (stB ⟨#[99, 111, 110, 102, 105, 114, 109]⟩) [f] from rfl]
    have c0 := A.cell 0
    have c1 := A.cell 1
    have c2 := A.cell 2
    have c3 := A.cell 3
    simp at c0 c1 c2 c3
    go_enter Tryd.func11, Tryd.ntmps11
    go_upto_region 1 with fail
    rw [← hV]
    clear hV
    go_wp2_with fail
    refine (implRecOk 5 b n f _).mono ?_
    rintro e w1 ⟨rfl, hb⟩
    rw [HD.out]
    replace A := A.kept hb
    replace B := B.trans (hb.mono B.size)
    clear hb c0 c1 c2 c3
    have c0 := A.cell 0
    have c1 := A.cell 1
    have c2 := A.cell 2
    have c3 := A.cell 3
    simp at c0 c1 c2 c3
    go_wp2_with fail
    refine Calls.mono (implLit ⟨#[99, 111, 110, 102, 105, 114, 109]⟩ [f] 1 w1 (pow_below HT.out B) (by decide) rfl (by omega) (ns1 HBb.out.2.2)) ?_
    rintro e w2 ⟨v, rfl, o, hb⟩
    have HO : Hid (ownM w2 w.heap.size v (lnL (stB ⟨#[99, 111, 110, 102, 105, 114, 109]⟩) [f]).length (lnL (stB ⟨#[99, 111, 110, 102, 105, 114, 109]⟩) [f])) := o.lower B.size
    replace B := B.trans (hb.mono B.size)
    clear hb c0 c1 c2 c3 o A
    go_wp2
    go_ret
    exact ⟨_, rfl, HO.out, B⟩
  · rw [show rtK 6 b n f = lnL (stB ⟨#[98, 97, 99, 107]⟩) [] from rfl]
    have c0 := A.cell 0
    have c1 := A.cell 1
    have c2 := A.cell 2
    have c3 := A.cell 3
    simp at c0 c1 c2 c3
    go_enter Tryd.func11, Tryd.ntmps11
    go_upto_region 1 with fail
    rw [← hV]
    clear hV
    go_wp2_with fail
    refine (implRecOk 6 b n f _).mono ?_
    rintro e w1 ⟨rfl, hb⟩
    rw [HD.out]
    replace A := A.kept hb
    replace B := B.trans (hb.mono B.size)
    clear hb c0 c1 c2 c3
    have c0 := A.cell 0
    have c1 := A.cell 1
    have c2 := A.cell 2
    have c3 := A.cell 3
    simp at c0 c1 c2 c3
    go_wp2_with fail
    refine Calls.mono (implNil ⟨#[98, 97, 99, 107]⟩ w1 (pow_below HT.out B) (by decide)) ?_
    rintro e w2 ⟨v, rfl, o, hb⟩
    have HO : Hid (ownM w2 w.heap.size v (lnL (stB ⟨#[98, 97, 99, 107]⟩) []).length (lnL (stB ⟨#[98, 97, 99, 107]⟩) [])) := o.lower B.size
    replace B := B.trans (hb.mono B.size)
    clear hb c0 c1 c2 c3 o A
    go_wp2
    go_ret
    exact ⟨_, rfl, HO.out, B⟩
theorem rtL_len (k b n f : Int) : (rtL k b n f).length ≤ 2000 := by
  unfold rtL
  split
  · next h =>
    have hb : (0 ≤ b ∧ b ≤ 1000000) ∧ (0 ≤ n ∧ n ≤ 1000000) ∧ (0 ≤ f ∧ f ≤ 1000000) := by omega
    have h0 : nsOk [] := by intro x hx; cases hx
    unfold rtK
    have l1 := lnL_len ⟨#[104, 101, 97, 100]⟩ [n] (ns1 hb.2.1)
    have l2 := lnL_len ⟨#[115, 101, 116]⟩ [b, n, f] (ns3 hb.1 hb.2.1 hb.2.2)
    have l3 := lnL_len ⟨#[99, 111, 109, 109, 105, 116]⟩ [b, n] (ns2 hb.1 hb.2.1)
    have l4 := lnL_len ⟨#[116, 114, 121]⟩ [] h0
    have l5 := lnL_len ⟨#[99, 111, 110, 102, 105, 114, 109]⟩ [f] (ns1 hb.2.2)
    have l6 := lnL_len ⟨#[98, 97, 99, 107]⟩ [] h0
    simp only [show ∀ a : Array UInt8, (⟨a⟩ : ByteArray).size = a.size from fun _ => rfl, List.size_toArray, List.length_cons, List.length_nil] at l1 l2 l3 l4 l5 l6
    split
    · omega
    split
    · omega
    split
    · omega
    split
    · omega
    split <;> omega
  · simp
theorem rtL_byte (k b n f : Int) : ∀ x ∈ rtL k b n f, 0 ≤ x ∧ x < 256 := by
  unfold rtL rtK
  repeat' split
  all_goals first | exact lnL_byte _ _ | (intro x hx; cases hx)
end Go.Proofs.YtjceajgefpinpaaDoor
namespace Go.Proofs.YtjceajgefpinpaaDoor
open Go.RowKit
set_option maxRecDepth 100000
set_option maxHeartbeats 4000000
set_option linter.unusedVariables false

/-- The lines of a state. -/
def bxL (b n f : Int) (t : Bool) (i o : Int) : List Int := if btOk b n f t i o then lnL (stB ⟨#[98, 97, 110, 107]⟩) [b, n, f] ++ (if t = true then lnL (stB ⟨#[116, 114, 105, 97, 108]⟩) [i, o] else []) else []
theorem bxL_len (b n f : Int) (t : Bool) (i o : Int) : (bxL b n f t i o).length ≤ 2000 := by
  unfold bxL
  split
  · next h =>
    have l1 := lnL_len ⟨#[98, 97, 110, 107]⟩ [b, n, f] (ns3 (by omega) (by omega) (by omega))
    simp only [show ∀ a : Array UInt8, (⟨a⟩ : ByteArray).size = a.size from fun _ => rfl, List.size_toArray, List.length_cons, List.length_nil] at l1
    rw [List.length_append]
    split
    · next ht =>
      have hio := h.2.2.2
      rw [if_pos ht] at hio
      have l2 := lnL_len ⟨#[116, 114, 105, 97, 108]⟩ [i, o] (ns2 (by omega) (by omega))
      simp only [show ∀ a : Array UInt8, (⟨a⟩ : ByteArray).size = a.size from fun _ => rfl, List.size_toArray, List.length_cons, List.length_nil] at l2
      omega
    · simp only [List.length_nil]
      omega
  · simp
theorem bxL_byte (b n f : Int) (t : Bool) (i o : Int) : ∀ x ∈ bxL b n f t i o, 0 ≤ x ∧ x < 256 := by
  unfold bxL
  split
  · intro x hx
    rw [List.mem_append] at hx
    rcases hx with h | h
    · exact lnL_byte _ _ x h
    · split at h
      · exact lnL_byte _ _ x h
      · cases h
  · intro x hx; cases hx
theorem implBootText (b n f : Int) (t : Bool) (i o : Int) (w : World) (ht : Pow w) : Calls Tryd.prog 18 #[btV b n f t i o] w fun e w' => ∃ v, e = .returned v ∧ ownM w' w.heap.size v (bxL b n f t i o).length (bxL b n f t i o) ∧ Below w.heap.size w w' := by
  have HT : Hid (Pow w) := ht
  obtain ⟨V, hV⟩ : ∃ V, V = w.alloc (.cells #[.int .i64 b, .int .i64 n, .int .i64 f, .bool t, .int .i64 i, .int .i64 o] 35) := ⟨_, rfl⟩
  have B : Below w.heap.size w V := by rw [hV]; exact (Below.refl _ _).alloc (Nat.le_refl _) _
  have A : Arr V w.heap.size 35 [.int .i64 b, .int .i64 n, .int .i64 f, .bool t, .int .i64 i, .int .i64 o] := by rw [hV]; exact Arr.new _ _ _
  by_cases hok : btOk b n f t i o
  case neg =>
    have e0 : bxL b n f t i o = [] := if_neg hok
    rw [e0]
    have HD : Hid (decide (btOk b n f t i o) = false) := decide_eq_false hok
    have c0 := A.cell 0
    have c1 := A.cell 1
    have c2 := A.cell 2
    have c3 := A.cell 3
    have c4 := A.cell 4
    have c5 := A.cell 5
    simp at c0 c1 c2 c3 c4 c5
    clear e0 hok
    go_enter Tryd.func18, Tryd.ntmps18
    go_upto_region 1 with fail
    rw [← hV]
    clear hV
    go_wp2_with fail
    refine (implBootOk b n f t i o _).mono ?_
    rintro e w1 ⟨rfl, hb⟩
    rw [HD.out]
    replace B := B.trans (hb.mono B.size)
    clear hb c0 c1 c2 c3 c4 c5
    go_wp2
    go_ret
    exact ⟨_, rfl, .of (World.ownsRow_nil _ _ _ _), B⟩
  have HD : Hid (decide (btOk b n f t i o) = true) := decide_eq_true hok
  have e0 : bxL b n f t i o = lnL (stB ⟨#[98, 97, 110, 107]⟩) [b, n, f] ++ (if t = true then lnL (stB ⟨#[116, 114, 105, 97, 108]⟩) [i, o] else []) := if_pos hok
  rw [e0]
  clear e0
  obtain ⟨Z, hZ⟩ : ∃ Z, Z = lnL (stB ⟨#[98, 97, 110, 107]⟩) [b, n, f] ++ (if t = true then lnL (stB ⟨#[116, 114, 105, 97, 108]⟩) [i, o] else []) := ⟨_, rfl⟩
  rw [← hZ]
  have HZt : Hid (t = true → Z = lnL (stB ⟨#[98, 97, 110, 107]⟩) [b, n, f] ++ lnL (stB ⟨#[116, 114, 105, 97, 108]⟩) [i, o]) := fun h => by rw [hZ, if_pos h]
  have HZf : Hid (t = false → Z = lnL (stB ⟨#[98, 97, 110, 107]⟩) [b, n, f]) := fun h => by rw [hZ, h]; simp
  clear hZ
  have H3 : Hid (nsOk [b, n, f]) := ns3 (by omega) (by omega) (by omega)
  have hio := hok.2.2.2
  have H2 : Hid (t = true → nsOk [i, o]) := fun ht => by
    rw [if_pos ht] at hio
    exact ns2 (by omega) (by omega)
  have H3l : Hid ((lnL (stB ⟨#[98, 97, 110, 107]⟩) [b, n, f]).length ≤ 2000) := by
    have l1 := lnL_len ⟨#[98, 97, 110, 107]⟩ [b, n, f] H3
    simp only [show ∀ a : Array UInt8, (⟨a⟩ : ByteArray).size = a.size from fun _ => rfl, List.size_toArray, List.length_cons, List.length_nil] at l1
    unfold Hid
    omega
  have H2l : Hid (t = true → (lnL (stB ⟨#[116, 114, 105, 97, 108]⟩) [i, o]).length ≤ 2000) := fun ht => by
    have l1 := lnL_len ⟨#[116, 114, 105, 97, 108]⟩ [i, o] (H2.out ht)
    simp only [show ∀ a : Array UInt8, (⟨a⟩ : ByteArray).size = a.size from fun _ => rfl, List.size_toArray, List.length_cons, List.length_nil] at l1
    omega
  clear hok hio
  have c0 := A.cell 0
  have c1 := A.cell 1
  have c2 := A.cell 2
  have c3 := A.cell 3
  have c4 := A.cell 4
  have c5 := A.cell 5
  simp at c0 c1 c2 c3 c4 c5
  go_enter Tryd.func18, Tryd.ntmps18
  go_upto_region 1 with fail
  rw [← hV]
  clear hV
  go_wp2_with fail
  refine (implBootOk b n f t i o _).mono ?_
  rintro e w1 ⟨rfl, hb⟩
  rw [HD.out]
  replace A := A.kept hb
  replace B := B.trans (hb.mono B.size)
  clear hb c0 c1 c2 c3 c4 c5
  have c0 := A.cell 0
  have c1 := A.cell 1
  have c2 := A.cell 2
  have c3 := A.cell 3
  have c4 := A.cell 4
  have c5 := A.cell 5
  simp at c0 c1 c2 c3 c4 c5
  go_wp2_with fail
  refine Calls.mono (implLit ⟨#[98, 97, 110, 107]⟩ [b, n, f] 3 w1 (pow_below HT.out B) (by decide) rfl (by omega) H3.out) ?_
  rintro e w2 ⟨v, rfl, ow, hb⟩
  have HO : Hid (ownM w2 w.heap.size v (lnL (stB ⟨#[98, 97, 110, 107]⟩) [b, n, f]).length (lnL (stB ⟨#[98, 97, 110, 107]⟩) [b, n, f])) := ow.lower B.size
  replace A := A.kept hb
  replace B := B.trans (hb.mono B.size)
  clear hb c0 c1 c2 c3 c4 c5 ow
  have c0 := A.cell 0
  have c1 := A.cell 1
  have c2 := A.cell 2
  have c3 := A.cell 3
  have c4 := A.cell 4
  have c5 := A.cell 5
  simp at c0 c1 c2 c3 c4 c5
  cases t
  case false =>
    go_wp2
    go_ret
    exact ⟨_, rfl, by rw [HZf.out (by first | rfl | trivial)]; exact HO.out, B⟩
  case true =>
    obtain ⟨a1, k1, rfl, hB1⟩ := HO.out.bs (lnL_byte _ _)
    have HB1 : Hid (Bs w2 a1 (lnL (stB ⟨#[98, 97, 110, 107]⟩) [b, n, f]).length k1 (lnL (stB ⟨#[98, 97, 110, 107]⟩) [b, n, f])) := hB1
    clear hB1
    go_wp2_with fail
    refine Calls.mono (implLit ⟨#[116, 114, 105, 97, 108]⟩ [i, o] 2 w2 (pow_below HT.out B) (by decide) rfl (by omega) (H2.out (by first | rfl | trivial))) ?_
    rintro e w3 ⟨v2, rfl, o2, hb⟩
    obtain ⟨a2, k2, rfl, hB2⟩ := o2.bs (lnL_byte _ _)
    have HB2 : Hid (Bs w3 a2 (lnL (stB ⟨#[116, 114, 105, 97, 108]⟩) [i, o]).length k2 (lnL (stB ⟨#[116, 114, 105, 97, 108]⟩) [i, o])) := hB2
    replace HB1 : Hid (Bs w3 a1 (lnL (stB ⟨#[98, 97, 110, 107]⟩) [b, n, f]).length k1 (lnL (stB ⟨#[98, 97, 110, 107]⟩) [b, n, f])) := HB1.out.below hb
    replace B := B.trans (hb.mono B.size)
    clear hb c0 c1 c2 c3 c4 c5 o2 A HO hB2
    replace HZt := HZt.out (by first | rfl | trivial)
    generalize lnL (stB ⟨#[116, 114, 105, 97, 108]⟩) [i, o] = Y at HB2 H2l HZt ⊢
    generalize lnL (stB ⟨#[98, 97, 110, 107]⟩) [b, n, f] = X at HB1 H3l HZt ⊢
    clear HZf
    generalize hx : X.length = x at HB1 H3l ⊢
    generalize hy : Y.length = y at HB2 H2l ⊢
    have HX : Hid (X.length + Y.length = x + y) := by unfold Hid; rw [hx, hy]
    clear hx hy
    go_wp2_with fail
    have eA := Arr.new w3 [.slice a1 x k1, .slice a2 y k2] 22
    have b4 : Below w3.heap.size w3 (w3.alloc (.cells #[.slice a1 x k1, .slice a2 y k2] 22)) := (Below.refl _ _).alloc (Nat.le_refl _) _
    have lx := H3l.out
    have ly := H2l.out (by first | rfl | trivial)
    refine Calls.mono (concat2 w3.heap.size a1 a2 x k1 y k2 X Y _ eA.lt (eA.cell 0) (eA.cell 1) (HB1.out.below b4) (HB2.out.below b4) (by omega) (by omega)) ?_
    rintro e w4 ⟨v4, rfl, o4, hb⟩
    have HO4 : Hid (ownM w4 w.heap.size v4 (X ++ Y).length (X ++ Y)) := by
      unfold Hid
      rw [List.length_append, HX.out]
      exact .of (own_base o4 (Nat.le_trans B.size b4.size))
    replace B := (B.trans (b4.mono B.size)).trans (hb.mono (Nat.le_trans B.size b4.size))
    clear hb o4 b4 eA
    go_wp2
    go_ret
    exact ⟨_, rfl, by rw [HZt]; exact HO4.out, B⟩
end Go.Proofs.YtjceajgefpinpaaDoor
