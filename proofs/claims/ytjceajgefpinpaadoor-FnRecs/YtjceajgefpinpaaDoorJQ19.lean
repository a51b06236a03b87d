/-
  What is proved here: what both sides' RecText answer; the contract of the laws' same: two slices of bytes are held against each other.
-/
import Derived.Test.YtjceajgefpinpaaDoorJQ18
import Derived.Test.YtjceajgefpinpaaDoorJQ5
import Derived.Test.YtjceajgefpinpaaDoorJQ1
import Derived.Laws.BytesArg
namespace Go.Proofs.YtjceajgefpinpaaDoor
open Go.RowKit
set_option maxRecDepth 100000
set_option maxHeartbeats 4000000
set_option linter.unusedVariables false

/-- A record's line. -/
def rtK (k b n f : Int) : List Int := if k = 1 then lnL (stB ⟨#[104, 101, 97, 100]⟩) [n] else if k = 2 then lnL (stB ⟨#[115, 101, 116]⟩) [b, n, f] else if k = 3 then lnL (stB ⟨#[99, 111, 109, 109, 105, 116]⟩) [b, n] else if k = 4 then lnL (stB ⟨#[116, 114, 121]⟩) [] else if k = 5 then lnL (stB ⟨#[99, 111, 110, 102, 105, 114, 109]⟩) [f] else lnL (stB ⟨#[98, 97, 99, 107]⟩) []
def rtL (k b n f : Int) : List Int := if rcOk k b n f then rtK k b n f else []
theorem ns1 {x : Int} (h : 0 ≤ x ∧ x ≤ 1000000) : nsOk [x] := by intro y hy; simp at hy; omega
theorem ns2 {x y : Int} (h : 0 ≤ x ∧ x ≤ 1000000) (h' : 0 ≤ y ∧ y ≤ 1000000) : nsOk [x, y] := by intro z hz; simp at hz; omega
theorem ns3 {x y z : Int} (h : 0 ≤ x ∧ x ≤ 1000000) (h' : 0 ≤ y ∧ y ≤ 1000000) (h'' : 0 ≤ z ∧ z ≤ 1000000) : nsOk [x, y, z] := by intro u hu; simp at hu; omega
theorem implRecText (k b n f : Int) (w : World) (ht : Pow w) : Calls Tryd.prog 11 #[rcV k b n f] w fun e w' => ∃ v, e = .returned v ∧ ownM w' w.heap.size v (rtL k b n f).length (rtL k b n f) ∧ Below w.heap.size w w' := by
  have HT : Hid (Pow w) := ht
  obtain ⟨V, hV⟩ : ∃ V, V = w.alloc (.cells #[.int .i64 k, .int .i64 b, .int .i64 n, .int .i64 f] 24) := ⟨_, rfl⟩
  have B : Below w.heap.size w V := by rw [hV]; exact (Below.refl _ _).alloc (Nat.le_refl _) _
  have A : Arr V w.heap.size 24 [.int .i64 k, .int .i64 b, .int .i64 n, .int .i64 f] := by rw [hV]; exact Arr.new _ _ _
  by_cases hok : rcOk k b n f
  case neg =>
    have e0 : rtL k b n f = [] := if_neg hok
    rw [e0]
    have HD : Hid (decide (rcOk k b n f) = false) := decide_eq_false hok
    have c0 := A.cell 0
    have c1 := A.cell 1
    have c2 := A.cell 2
    have c3 := A.cell 3
    simp at c0 c1 c2 c3
    clear e0 hok
    go_enter Tryd.func11, Tryd.ntmps11
    go_upto_region 1 with fail
    rw [← hV]
    clear hV
    go_wp2_with fail
    refine (implRecOk k b n f _).mono ?_
    rintro e w1 ⟨rfl, hb⟩
    rw [HD.out]
    replace B := B.trans (hb.mono B.size)
    clear hb c0 c1 c2 c3
    go_wp2
    go_ret
    exact ⟨_, rfl, .of (World.ownsRow_nil _ _ _ _), B⟩
  have HD : Hid (decide (rcOk k b n f) = true) := decide_eq_true hok
  have e0 : rtL k b n f = rtK k b n f := if_pos hok
  rw [e0]
  clear e0
  have hbb : (0 ≤ b ∧ b ≤ 1000000) ∧ (0 ≤ n ∧ n ≤ 1000000) ∧ (0 ≤ f ∧ f ≤ 1000000) := by omega
  have hk : k = 1 ∨ k = 2 ∨ k = 3 ∨ k = 4 ∨ k = 5 ∨ k = 6 := by omega
  have HBb : Hid _ := hbb
  clear hok hbb
  rcases hk with rfl | rfl | rfl | rfl | rfl | rfl
  · rw [show rtK 1 b n f = lnL (stB ⟨#[104, 101, 97, 100]⟩) [n] from rfl]
    have c0 := A.cell 0
    have c1 := A.cell 1
    have c2 := A.cell 2
    have c3 := A.cell 3
    simp at c0 c1 c2 c3
    go_enter Tryd.func11, Tryd.ntmps11
    go_upto_region 1 with fail
    rw [← hV]
    clear hV
    go_wp2_with fail
    refine (implRecOk 1 b n f _).mono ?_
    rintro e w1 ⟨rfl, hb⟩
    rw [HD.out]
    replace A := A.kept hb
    replace B := B.trans (hb.mono B.size)
    clear hb c0 c1 c2 c3
    have c0 := A.cell 0
    have c1 := A.cell 1
    have c2 := A.cell 2
    have c3 := A.cell 3
    simp at c0 c1 c2 c3
    go_wp2_with fail
    refine Calls.mono (implLit ⟨#[104, 101, 97, 100]⟩ [n] 1 w1 (pow_below HT.out B) (by decide) rfl (by omega) (ns1 HBb.out.2.1)) ?_
    rintro e w2 ⟨v, rfl, o, hb⟩
    have HO : Hid (ownM w2 w.heap.size v (lnL (stB ⟨#[104, 101, 97, 100]⟩) [n]).length (lnL (stB ⟨#[104, 101, 97, 100]⟩) [n])) := o.lower B.size
    replace B := B.trans (hb.mono B.size)
    clear hb c0 c1 c2 c3 o A
    go_wp2
    go_ret
    exact ⟨_, rfl, HO.out, B⟩
  · rw [show rtK 2 b n f = lnL (stB ⟨#[115, 101, 116]⟩) [b, n, f] from rfl]
    have c0 := A.cell 0
    have c1 := A.cell 1
    have c2 := A.cell 2
    have c3 := A.cell 3
    simp at c0 c1 c2 c3
    go_enter Tryd.func11, Tryd.ntmps11
    go_upto_region 1 with fail
    rw [← hV]
    clear hV
    go_wp2_with fail
    refine (implRecOk 2 b n f _).mono ?_
    rintro e w1 ⟨rfl, hb⟩
    rw [HD.out]
    replace A := A.kept hb
    replace B := B.trans (hb.mono B.size)
    clear hb c0 c1 c2 c3
    have c0 := A.cell 0
    have c1 := A.cell 1
    have c2 := A.cell 2
    have c3 := A.cell 3
    simp at c0 c1 c2 c3
    go_wp2_with fail
    refine Calls.mono (implLit ⟨#[115, 101, 116]⟩ [b, n, f] 3 w1 (pow_below HT.out B) (by decide) rfl (by omega) (ns3 HBb.out.1 HBb.out.2.1 HBb.out.2.2)) ?_
    rintro e w2 ⟨v, rfl, o, hb⟩
    have HO : Hid (ownM w2 w.heap.size v (lnL (stB ⟨#[115, 101, 116]⟩) [b, n, f]).length (lnL (stB ⟨#[115, 101, 116]⟩) [b, n, f])) := o.lower B.size
    replace B := B.trans (hb.mono B.size)
    clear hb c0 c1 c2 c3 o A
    go_wp2
    go_ret
    exact ⟨_, rfl, HO.out, B⟩
  · rw [show rtK 3 b n f = lnL (stB ⟨#[99, 111, 109, 109, 105, 116]⟩) [b, n] from rfl]
    have c0 := A.cell 0
    have c1 := A.cell 1
    have c2 := A.cell 2
    have c3 := A.cell 3
    simp at c0 c1 c2 c3
    go_enter Tryd.func11, Tryd.ntmps11
    go_upto_region 1 with fail
    rw [← hV]
    clear hV
    go_wp2_with fail
    refine (implRecOk 3 b n f _).mono ?_
    rintro e w1 ⟨rfl, hb⟩
    rw [HD.out]
    replace A := A.kept hb
    replace B := B.trans (hb.mono B.size)
    clear hb c0 c1 c2 c3
    have c0 := A.cell 0
    have c1 := A.cell 1
    have c2 := A.cell 2
    have c3 := A.cell 3
    simp at c0 c1 c2 c3
    go_wp2_with fail
    refine Calls.mono (implLit ⟨#[99, 111, 109, 109, 105, 116]⟩ [b, n] 2 w1 (pow_below HT.out B) (by decide) rfl (by omega) (ns2 HBb.out.1 HBb.out.2.1)) ?_
    rintro e w2 ⟨v, rfl, o, hb⟩
    have HO : Hid (ownM w2 w.heap.size v (lnL (stB ⟨#[99, 111, 109, 109, 105, 116]⟩) [b, n]).length (lnL (stB ⟨#[99, 111, 109, 109, 105, 116]⟩) [b, n])) := o.lower B.size
    replace B := B.trans (hb.mono B.size)
    clear hb c0 c1 c2 c3 o A
    go_wp2
    go_ret
    exact ⟨_, rfl, HO.out, B⟩
  · rw [show rtK 4 b n f = lnL (stB ⟨#[116, 114, 121]⟩) [] from rfl]
    have c0 := A.cell 0
    have c1 := A.cell 1
    have c2 := A.cell 2
    have c3 := A.cell 3
    simp at c0 c1 c2 c3
    go_enter Tryd.func11, Tryd.ntmps11
    go_upto_region 1 with fail
    rw [← hV]
    clear hV
    go_wp2_with fail
    refine (implRecOk 4 b n f _).mono ?_
    rintro e w1 ⟨rfl, hb⟩
    rw [HD.out]
    replace A := A.kept hb
    replace B := B.trans (hb.mono B.size)
    clear hb c0 c1 c2 c3
    have c0 := A.cell 0
    have c1 := A.cell 1
    have c2 := A.cell 2
    have c3 := A.cell 3
    simp at c0 c1 c2 c3
    go_wp2_with fail
    refine Calls.mono (implNil ⟨#[116, 114, 121]⟩ w1 (pow_below HT.out B) (by decide)) ?_
    rintro e w2 ⟨v, rfl, o, hb⟩
    have HO : Hid (ownM w2 w.heap.size v (lnL (stB ⟨#[116, 114, 121]⟩) []).length (lnL (stB ⟨#[116, 114, 121]⟩) [])) := o.lower B.size
    replace B := B.trans (hb.mono B.size)
    clear hb c0 c1 c2 c3 o A
    go_wp2
    go_ret
    exact ⟨_, rfl, HO.out, B⟩
  · rw [show rtK 5 b n f = lnL (stB ⟨#[99, 111, 110, 102, 105, 114, 109]⟩) [f] from rfl]
    have c0 := A.cell 0
    have c1 := A.cell 1
    have c2 := A.cell 2
    have c3 := A.cell 3
    simp at c0 c1 c2 c3
    go_enter Tryd.func11, Tryd.ntmps11
    go_upto_region 1 with fail
    rw [← hV]
    clear hV
    go_wp2_with fail
    refine (implRecOk 5 b n f _).mono ?_
    rintro e w1 ⟨rfl, hb⟩
    rw [HD.out]
    replace A := A.kept hb
    replace B := B.trans (hb.mono B.size)
    clear hb c0 c1 c2 c3
    have c0 := A.cell 0
    have c1 := A.cell 1
    have c2 := A.cell 2
    have c3 := A.cell 3
    simp at c0 c1 c2 c3
    go_wp2_with fail
    refine Calls.mono (implLit ⟨#[99, 111, 110, 102, 105, 114, 109]⟩ [f] 1 w1 (pow_below HT.out B) (by decide) rfl (by omega) (ns1 HBb.out.2.2)) ?_
    rintro e w2 ⟨v, rfl, o, hb⟩
    have HO : Hid (ownM w2 w.heap.size v (lnL (stB ⟨#[99, 111, 110, 102, 105, 114, 109]⟩) [f]).length (lnL (stB ⟨#[99, 111, 110, 102, 105, 114, 109]⟩) [f])) := o.lower B.size
    replace B := B.trans (hb.mono B.size)
    clear hb c0 c1 c2 c3 o A
    go_wp2
    go_ret
    exact ⟨_, rfl, HO.out, B⟩
  · rw [show rtK 6 b n f = lnL (stB ⟨#[98, 97, 99, 107]⟩) [] from rfl]
    have c0 := A.cell 0
    have c1 := A.cell 1
    have c2 := A.cell 2
    have c3 := A.cell 3
    simp at c0 c1 c2 c3
    go_enter Tryd.func11, Tryd.ntmps11
    go_upto_region 1 with fail
    rw [← hV]
    clear hV
    go_wp2_with fail
    refine (implRecOk 6 b n f _).mono ?_
    rintro e w1 ⟨rfl, hb⟩
    rw [HD.out]
    replace A := A.kept hb
    replace B := B.trans (hb.mono B.size)
    clear hb c0 c1 c2 c3
    have c0 := A.cell 0
    have c1 := A.cell 1
    have c2 := A.cell 2
    have c3 := A.cell 3
    simp at c0 c1 c2 c3
    go_wp2_with fail
    refine Calls.mono (implNil ⟨#[98, 97, 99, 107]⟩ w1 (pow_below HT.out B) (by decide)) ?_
    rintro e w2 ⟨v, rfl, o, hb⟩
    have HO : Hid (ownM w2 w.heap.size v (lnL (stB ⟨#[98, 97, 99, 107]⟩) []).length (lnL (stB ⟨#[98, 97, 99, 107]⟩) [])) := o.lower B.size
    replace B := B.trans (hb.mono B.size)
    clear hb c0 c1 c2 c3 o A
    go_wp2
    go_ret
    exact ⟨_, rfl, HO.out, B⟩
theorem rtL_len (k b n f : Int) : (rtL k b n f).length ≤ 2000 := by
  unfold rtL
  split
  · next h =>
    have hb : (0 ≤ b ∧ b ≤ 1000000) ∧ (0 ≤ n ∧ n ≤ 1000000) ∧ (0 ≤ f ∧ f ≤ 1000000) := by omega
    have h0 : nsOk [] := by intro x hx; cases hx
    unfold rtK
    have l1 := lnL_len ⟨#[104, 101, 97, 100]⟩ [n] (ns1 hb.2.1)
    have l2 := lnL_len ⟨#[115, 101, 116]⟩ [b, n, f] (ns3 hb.1 hb.2.1 hb.2.2)
    have l3 := lnL_len ⟨#[99, 111, 109, 109, 105, 116]⟩ [b, n] (ns2 hb.1 hb.2.1)
    have l4 := lnL_len ⟨#[116, 114, 121]⟩ [] h0
    have l5 := lnL_len ⟨#[99, 111, 110, 102, 105, 114, 109]⟩ [f] (ns1 hb.2.2)
    have l6 := lnL_len ⟨#[98, 97, 99, 107]⟩ [] h0
    simp only [show ∀ a : Array UInt8, (⟨a⟩ : ByteArray).size = a.size from fun _ => rfl, List.size_toArray, List.length_cons, List.length_nil] at l1 l2 l3 l4 l5 l6
    split
    · omega
    split
    · omega
    split
    · omega
    split
    · omega
    split <;> omega
  · simp
theorem rtL_byte (k b n f : Int) : ∀ x ∈ rtL k b n f, 0 ≤ x ∧ x < 256 := by
  unfold rtL rtK
  repeat' split
  all_goals first | exact lnL_byte _ _ | (intro x hx; cases hx)
end Go.Proofs.YtjceajgefpinpaaDoor
namespace Go.Proofs.YtjceajgefpinpaaDoor
set_option maxRecDepth 100000
open Go.RowKit

theorem conv_bs {w : World} {a : Option Addr} {n c : Nat} {xs : List Int} (h : Bs w a n c xs) : (convert 22 9 (.slice a n c)).run Tryd.prog w = .ok (.string (strOfNums xs)) w := by
  obtain ⟨_, hl, hc, _, h⟩ := h
  rcases h with h | ⟨b, o, rfl, _, hcell⟩
  · subst h
    have hx : xs = [] := List.eq_nil_of_length_eq_zero hl
    subst hx
    rw [run_convert_bytes_string w 22 9 5 _ 0 c Tryd.underlying22 Tryd.underlying5 Tryd.underlying9]
    cases a with
    | none => simp [Conv.bytesToString]; rfl
    | some ad => simp [Conv.bytesToString, loadCells]; rfl
  · exact run_convert_bytes_arg w 22 5 Tryd.underlying22 Tryd.underlying5 b o n c xs hl hcell 9 Tryd.underlying9

set_option maxHeartbeats 400000 in
theorem sameB (a a' : Option Addr) (n c n' c' : Nat) (xs ys : List Int) (w : World) (h : Bs w a n c xs) (h' : Bs w a' n' c' ys) :
    Calls Tryd.prog 13 #[.slice a n c, .slice a' n' c'] w fun e w' => e = .returned (.bool ((strOfNums xs).toList == (strOfNums ys).toList)) ∧ w' = w := by
  have g1 := conv_bs h
  have g2 := conv_bs h'
  clear h h'
  go_enter Tryd.func13, Tryd.ntmps13
  go_wp2
  go_ret
  exact ⟨rfl, rfl⟩

theorem sameT (a a' : Option Addr) (n c n' c' : Nat) (xs ys : List Int) (w : World) (h : Bs w a n c xs) (h' : Bs w a' n' c' ys) (e : xs = ys) :
    Calls Tryd.prog 13 #[.slice a n c, .slice a' n' c'] w fun e w' => e = .returned (.bool true) ∧ w' = w := by
  refine (sameB a a' n c n' c' xs ys w h h').mono ?_
  rintro e' w' ⟨rfl, hw⟩
  subst e
  exact ⟨by simp, hw⟩

end Go.Proofs.YtjceajgefpinpaaDoor
