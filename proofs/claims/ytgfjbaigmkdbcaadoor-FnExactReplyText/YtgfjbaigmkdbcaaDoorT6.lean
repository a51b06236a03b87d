/-
  What is proved here: what both sides' ReplyText answer.
-/
import Derived.Test.YtgfjbaigmkdbcaaDoorT4
import Derived.Test.YtgfjbaigmkdbcaaDoorC0a
import Derived.Test.YtgfjbaigmkdbcaaDoorCin
namespace Go.Proofs.YtgfjbaigmkdbcaaDoor
open Go.RowKit
set_option maxRecDepth 100000
set_option maxHeartbeats 4000000
set_option linter.unusedVariables false

/-- A reply that may be told. -/
def rpOk (c b n o : Int) : Prop := (0 ≤ c ∧ c ≤ 20) ∧ (0 ≤ b ∧ b ≤ 1) ∧ (0 ≤ n ∧ n ≤ 1000) ∧ (0 ≤ o ∧ o ≤ 100000)
instance (c b n o : Int) : Decidable (rpOk c b n o) := by unfold rpOk; infer_instance
/-- A reply's line. -/
def rpK (c b n o : Int) : List Int := if c = 0 then lnL (stB ⟨#[119, 101, 108, 108]⟩) [b, n, o] else lnL (stB ⟨#[99, 111, 100, 101]⟩) [c, o]
def rpL (c b n o : Int) : List Int := if rpOk c b n o then rpK c b n o else []
theorem rpL_len (c b n o : Int) : (rpL c b n o).length ≤ 2000 := by
  unfold rpL
  split
  · next h =>
    unfold rpOk at h
    have l1 := lnL_len ⟨#[119, 101, 108, 108]⟩ [b, n, o] (ns3 (by omega) (by omega) (by omega))
    have l2 := lnL_len ⟨#[99, 111, 100, 101]⟩ [c, o] (ns2 (by omega) (by omega))
    simp only [show ∀ a : Array UInt8, (⟨a⟩ : ByteArray).size = a.size from fun _ => rfl, List.size_toArray, List.length_cons, List.length_nil] at l1 l2
    unfold rpK
    split <;> omega
  · simp
theorem rpL_byte (c b n o : Int) : ∀ x ∈ rpL c b n o, 0 ≤ x ∧ x < 256 := by
  unfold rpL rpK
  repeat' split
  all_goals first | exact lnL_byte _ _ | (intro x hx; cases hx)
theorem specReplyText (c b n o : Int) (w : World) : Calls Tryd.prog 22 #[rcV c b n o] w fun e w' => ∃ v, e = .returned v ∧ w'.ownsRow w.heap.size 5 1 v (rpL c b n o).length (U8 (rpL c b n o)) ∧ Below w.heap.size w w' := by
  have HT : Hid (True) := trivial
  obtain ⟨V, hV⟩ : ∃ V, V = w.alloc (.cells #[.int .i64 c, .int .i64 b, .int .i64 n, .int .i64 o] 54) := ⟨_, rfl⟩
  have B : Below w.heap.size w V := by rw [hV]; exact (Below.refl _ _).alloc (Nat.le_refl _) _
  have A : Arr V w.heap.size 54 [.int .i64 c, .int .i64 b, .int .i64 n, .int .i64 o] := by rw [hV]; exact Arr.new _ _ _
  have HN : Hid (¬ rpOk c b n o → rpL c b n o = []) := fun h => if_neg h
  have HY : Hid (rpOk c b n o → rpL c b n o = rpK c b n o) := fun h => if_pos h
  generalize hX : rpL c b n o = X at HN HY ⊢
  clear hX
  have c0 := A.cell 0
  have c1 := A.cell 1
  have c2 := A.cell 2
  have c3 := A.cell 3
  simp at c0 c1 c2 c3
  go_enter Tryd.func22, Tryd.ntmps22
  go_upto_region 1 with fail
  rw [← hV]
  clear hV
  by_cases h0 : 0 ≤ c
  case neg =>
    go_wp2
    go_ret
    exact ⟨_, rfl, by rw [HN.out (by unfold rpOk; omega)]; exact World.ownsRow_nil _ _ _ _, B⟩
  by_cases h1 : c ≤ 20
  case neg =>
    go_wp2
    go_ret
    exact ⟨_, rfl, by rw [HN.out (by unfold rpOk; omega)]; exact World.ownsRow_nil _ _ _ _, B⟩
  by_cases h2 : 0 ≤ b
  case neg =>
    go_wp2
    go_ret
    exact ⟨_, rfl, by rw [HN.out (by unfold rpOk; omega)]; exact World.ownsRow_nil _ _ _ _, B⟩
  by_cases h3 : b ≤ 1
  case neg =>
    go_wp2
    go_ret
    exact ⟨_, rfl, by rw [HN.out (by unfold rpOk; omega)]; exact World.ownsRow_nil _ _ _ _, B⟩
  by_cases h5 : 0 ≤ n ∧ n ≤ 1000
  case neg =>
    go_wp2_with fail
    refine (spec8ver n _).mono ?_
    rintro e w1 ⟨rfl, hw⟩
    rw [hw, decide_eq_false h5]
    clear hw
    go_wp2
    go_ret
    exact ⟨_, rfl, by rw [HN.out (by unfold rpOk; omega)]; exact World.ownsRow_nil _ _ _ _, B⟩
  by_cases h6 : 0 ≤ o
  case neg =>
    go_wp2_with fail
    refine (spec8ver n _).mono ?_
    rintro e w1 ⟨rfl, hw⟩
    rw [hw, decide_eq_true h5]
    clear hw
    go_wp2
    go_ret
    exact ⟨_, rfl, by rw [HN.out (by unfold rpOk; omega)]; exact World.ownsRow_nil _ _ _ _, B⟩
  by_cases h7 : o ≤ 100000
  case neg =>
    go_wp2_with fail
    refine (spec8ver n _).mono ?_
    rintro e w1 ⟨rfl, hw⟩
    rw [hw, decide_eq_true h5]
    clear hw
    go_wp2
    go_ret
    exact ⟨_, rfl, by rw [HN.out (by unfold rpOk; omega)]; exact World.ownsRow_nil _ _ _ _, B⟩
  have hok : rpOk c b n o := by unfold rpOk; omega
  have Hok : Hid (rpOk c b n o) := hok
  by_cases hc0 : c = 0
  case pos =>
    have HC0 : Hid (c = 0) := hc0
    have HK : Hid (rpK c b n o = lnL (stB ⟨#[119, 101, 108, 108]⟩) [b, n, o]) := by unfold Hid rpK; rw [if_pos hc0]
    clear HN hok
    have HNS : Hid (nsOk [b, n, o]) := ns3 (by have := Hok.out; unfold rpOk at this; omega) (by have := Hok.out; unfold rpOk at this; omega) (by have := Hok.out; unfold rpOk at this; omega)
    clear hc0
    go_wp2_with fail
    refine (spec8ver n _).mono ?_
    rintro e w1 ⟨rfl, hw⟩
    rw [hw, decide_eq_true h5]
    clear hw
    have hcb : (c == 0) = true := by have := HC0.out; simpa using this
    go_wp2_with fail
    refine Calls.mono (specLit ⟨#[119, 101, 108, 108]⟩ [b, n, o] 3 V (by decide) rfl (by omega) HNS.out) ?_
    rintro e w2 ⟨v, rfl, ow, hb⟩
    have HO : Hid (w2.ownsRow w.heap.size 5 1 v (lnL (stB ⟨#[119, 101, 108, 108]⟩) [b, n, o]).length (U8 (lnL (stB ⟨#[119, 101, 108, 108]⟩) [b, n, o]))) := own_base ow B.size
    replace B := B.trans (hb.mono B.size)
    clear hb c0 c1 c2 c3 ow A
    go_wp2
    go_ret
    exact ⟨_, rfl, by rw [HY.out Hok.out, HK.out]; exact HO.out, B⟩
  case neg =>
    have HC0 : Hid (¬ c = 0) := hc0
    have HK : Hid (rpK c b n o = lnL (stB ⟨#[99, 111, 100, 101]⟩) [c, o]) := by unfold Hid rpK; rw [if_neg hc0]
    clear HN hok
    have HNS : Hid (nsOk [c, o]) := ns2 (by have := Hok.out; unfold rpOk at this; omega) (by have := Hok.out; unfold rpOk at this; omega)
    clear hc0
    go_wp2_with fail
    refine (spec8ver n _).mono ?_
    rintro e w1 ⟨rfl, hw⟩
    rw [hw, decide_eq_true h5]
    clear hw
    have hcb : (c == 0) = false := by have := HC0.out; simpa using this
    go_wp2_with fail
    refine Calls.mono (specLit ⟨#[99, 111, 100, 101]⟩ [c, o] 2 V (by decide) rfl (by omega) HNS.out) ?_
    rintro e w2 ⟨v, rfl, ow, hb⟩
    have HO : Hid (w2.ownsRow w.heap.size 5 1 v (lnL (stB ⟨#[99, 111, 100, 101]⟩) [c, o]).length (U8 (lnL (stB ⟨#[99, 111, 100, 101]⟩) [c, o]))) := own_base ow B.size
    replace B := B.trans (hb.mono B.size)
    clear hb c0 c1 c2 c3 ow A
    go_wp2
    go_ret
    exact ⟨_, rfl, by rw [HY.out Hok.out, HK.out]; exact HO.out, B⟩
theorem implReplyText (c b n o : Int) (w : World) (ht : Pow w) : Calls Tryd.prog 24 #[rcV c b n o] w fun e w' => ∃ v, e = .returned v ∧ ownM w' w.heap.size v (rpL c b n o).length (rpL c b n o) ∧ Below w.heap.size w w' := by
  have HT : Hid (Pow w) := ht
  obtain ⟨V, hV⟩ : ∃ V, V = w.alloc (.cells #[.int .i64 c, .int .i64 b, .int .i64 n, .int .i64 o] 54) := ⟨_, rfl⟩
  have B : Below w.heap.size w V := by rw [hV]; exact (Below.refl _ _).alloc (Nat.le_refl _) _
  have A : Arr V w.heap.size 54 [.int .i64 c, .int .i64 b, .int .i64 n, .int .i64 o] := by rw [hV]; exact Arr.new _ _ _
  have HN : Hid (¬ rpOk c b n o → rpL c b n o = []) := fun h => if_neg h
  have HY : Hid (rpOk c b n o → rpL c b n o = rpK c b n o) := fun h => if_pos h
  generalize hX : rpL c b n o = X at HN HY ⊢
  clear hX
  have c0 := A.cell 0
  have c1 := A.cell 1
  have c2 := A.cell 2
  have c3 := A.cell 3
  simp at c0 c1 c2 c3
  go_enter Tryd.func24, Tryd.ntmps24
  go_upto_region 1 with fail
  rw [← hV]
  clear hV
  by_cases h0 : 0 ≤ c ∧ c ≤ 20
  case neg =>
    go_wp2_with fail
    refine (implIsIn c 0 20 _).mono ?_
    rintro e w1 ⟨rfl, hw⟩
    rw [hw, decide_eq_false h0]
    clear hw
    go_wp2
    go_ret
    exact ⟨_, rfl, by rw [HN.out (by unfold rpOk; omega)]; exact .of (World.ownsRow_nil _ _ _ _), B⟩
  by_cases h1 : 0 ≤ b ∧ b ≤ 1
  case neg =>
    go_wp2_with fail
    refine (implIsIn c 0 20 _).mono ?_
    rintro e w1 ⟨rfl, hw⟩
    rw [hw, decide_eq_true h0]
    clear hw
    go_wp2_with fail
    refine (implIsBank b _).mono ?_
    rintro e w1 ⟨rfl, hw⟩
    rw [hw, decide_eq_false h1]
    clear hw
    go_wp2
    go_ret
    exact ⟨_, rfl, by rw [HN.out (by unfold rpOk; omega)]; exact .of (World.ownsRow_nil _ _ _ _), B⟩
  by_cases h2 : 0 ≤ n ∧ n ≤ 1000
  case neg =>
    go_wp2_with fail
    refine (implIsIn c 0 20 _).mono ?_
    rintro e w1 ⟨rfl, hw⟩
    rw [hw, decide_eq_true h0]
    clear hw
    go_wp2_with fail
    refine (implIsBank b _).mono ?_
    rintro e w1 ⟨rfl, hw⟩
    rw [hw, decide_eq_true h1]
    clear hw
    go_wp2_with fail
    refine (implIsVer n _).mono ?_
    rintro e w1 ⟨rfl, hw⟩
    rw [hw, decide_eq_false h2]
    clear hw
    go_wp2
    go_ret
    exact ⟨_, rfl, by rw [HN.out (by unfold rpOk; omega)]; exact .of (World.ownsRow_nil _ _ _ _), B⟩
  by_cases h3 : 0 ≤ o ∧ o ≤ 100000
  case neg =>
    go_wp2_with fail
    refine (implIsIn c 0 20 _).mono ?_
    rintro e w1 ⟨rfl, hw⟩
    rw [hw, decide_eq_true h0]
    clear hw
    go_wp2_with fail
    refine (implIsBank b _).mono ?_
    rintro e w1 ⟨rfl, hw⟩
    rw [hw, decide_eq_true h1]
    clear hw
    go_wp2_with fail
    refine (implIsVer n _).mono ?_
    rintro e w1 ⟨rfl, hw⟩
    rw [hw, decide_eq_true h2]
    clear hw
    go_wp2_with fail
    refine (implIsIn o 0 100000 _).mono ?_
    rintro e w1 ⟨rfl, hw⟩
    rw [hw, decide_eq_false h3]
    clear hw
    go_wp2
    go_ret
    exact ⟨_, rfl, by rw [HN.out (by unfold rpOk; omega)]; exact .of (World.ownsRow_nil _ _ _ _), B⟩
  have hok : rpOk c b n o := by unfold rpOk; omega
  have Hok : Hid (rpOk c b n o) := hok
  by_cases hc0 : c = 0
  case pos =>
    have HC0 : Hid (c = 0) := hc0
    have HK : Hid (rpK c b n o = lnL (stB ⟨#[119, 101, 108, 108]⟩) [b, n, o]) := by unfold Hid rpK; rw [if_pos hc0]
    clear HN hok
    have HNS : Hid (nsOk [b, n, o]) := ns3 (by have := Hok.out; unfold rpOk at this; omega) (by have := Hok.out; unfold rpOk at this; omega) (by have := Hok.out; unfold rpOk at this; omega)
    clear hc0
    go_wp2_with fail
    refine (implIsIn c 0 20 _).mono ?_
    rintro e w1 ⟨rfl, hw⟩
    rw [hw, decide_eq_true h0]
    clear hw
    go_wp2_with fail
    refine (implIsBank b _).mono ?_
    rintro e w1 ⟨rfl, hw⟩
    rw [hw, decide_eq_true h1]
    clear hw
    go_wp2_with fail
    refine (implIsVer n _).mono ?_
    rintro e w1 ⟨rfl, hw⟩
    rw [hw, decide_eq_true h2]
    clear hw
    go_wp2_with fail
    refine (implIsIn o 0 100000 _).mono ?_
    rintro e w1 ⟨rfl, hw⟩
    rw [hw, decide_eq_true h3]
    clear hw
    have hcb : (c == 0) = true := by have := HC0.out; simpa using this
    go_wp2_with fail
    refine Calls.mono (implLit ⟨#[119, 101, 108, 108]⟩ [b, n, o] 3 V (pow_below HT.out B) (by decide) rfl (by omega) HNS.out) ?_
    rintro e w2 ⟨v, rfl, ow, hb⟩
    have HO : Hid (ownM w2 w.heap.size v (lnL (stB ⟨#[119, 101, 108, 108]⟩) [b, n, o]).length (lnL (stB ⟨#[119, 101, 108, 108]⟩) [b, n, o])) := ow.lower B.size
    replace B := B.trans (hb.mono B.size)
    clear hb c0 c1 c2 c3 ow A
    go_wp2
    go_ret
    exact ⟨_, rfl, by rw [HY.out Hok.out, HK.out]; exact HO.out, B⟩
  case neg =>
    have HC0 : Hid (¬ c = 0) := hc0
    have HK : Hid (rpK c b n o = lnL (stB ⟨#[99, 111, 100, 101]⟩) [c, o]) := by unfold Hid rpK; rw [if_neg hc0]
    clear HN hok
    have HNS : Hid (nsOk [c, o]) := ns2 (by have := Hok.out; unfold rpOk at this; omega) (by have := Hok.out; unfold rpOk at this; omega)
    clear hc0
    go_wp2_with fail
    refine (implIsIn c 0 20 _).mono ?_
    rintro e w1 ⟨rfl, hw⟩
    rw [hw, decide_eq_true h0]
    clear hw
    go_wp2_with fail
    refine (implIsBank b _).mono ?_
    rintro e w1 ⟨rfl, hw⟩
    rw [hw, decide_eq_true h1]
    clear hw
    go_wp2_with fail
    refine (implIsVer n _).mono ?_
    rintro e w1 ⟨rfl, hw⟩
    rw [hw, decide_eq_true h2]
    clear hw
    go_wp2_with fail
    refine (implIsIn o 0 100000 _).mono ?_
    rintro e w1 ⟨rfl, hw⟩
    rw [hw, decide_eq_true h3]
    clear hw
    have hcb : (c == 0) = false := by have := HC0.out; simpa using this
    go_wp2_with fail
    refine Calls.mono (implLit ⟨#[99, 111, 100, 101]⟩ [c, o] 2 V (pow_below HT.out B) (by decide) rfl (by omega) HNS.out) ?_
    rintro e w2 ⟨v, rfl, ow, hb⟩
    have HO : Hid (ownM w2 w.heap.size v (lnL (stB ⟨#[99, 111, 100, 101]⟩) [c, o]).length (lnL (stB ⟨#[99, 111, 100, 101]⟩) [c, o])) := ow.lower B.size
    replace B := B.trans (hb.mono B.size)
    clear hb c0 c1 c2 c3 ow A
    go_wp2
    go_ret
    exact ⟨_, rfl, by rw [HY.out Hok.out, HK.out]; exact HO.out, B⟩
end Go.Proofs.YtgfjbaigmkdbcaaDoor
