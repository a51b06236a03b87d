/-
  What is proved here: rows of records of four ints: stores of four cells, marks; no program is spoken of; what the laws' helpers on lists of records do: eqRecS, markRecS, heldRecS; what both sides' BootOk answer.
-/
import Derived.Test.YtjceajgefpinpaaDoorJP2
import Derived.Test.YtjceajgefpinpaaDoorJP1
import Derived.Test.YtjceajgefpinpaaDoorJP8
import Derived.Test.YtjceajgefpinpaaDoorJP5
namespace Go.Proofs.YtjceajgefpinpaaDoor
open Go.RowKit
set_option maxRecDepth 100000
set_option linter.unusedVariables false

theorem bel_row4 {w W : World} {B g : Nat} (h : Below B w W) (hg : B ≤ g) (m : Nat) (a b c d : Value) : Below B w ((((W.setCell ⟨g, m, none⟩ a).setCell ⟨g, m + 1, none⟩ b).setCell ⟨g, m + 2, none⟩ c).setCell ⟨g, m + 3, none⟩ d) :=
  (((h.setCell hg _).setCell hg _).setCell hg _).setCell hg _
def mkR (k0 : Int) (n : Nat) : List Rc := (List.range n).map fun (i : Nat) => ⟨k0 + 4 * (i : Int), k0 + 4 * (i : Int) + 1, k0 + 4 * (i : Int) + 2, k0 + 4 * (i : Int) + 3⟩
theorem mkR_len (k0 : Int) (n : Nat) : (mkR k0 n).length = n := by simp [mkR]
theorem mkR_get (k0 : Int) (n i : Nat) (h : i < n) : rg (mkR k0 n) i = ⟨k0 + 4 * (i : Int), k0 + 4 * (i : Int) + 1, k0 + 4 * (i : Int) + 2, k0 + 4 * (i : Int) + 3⟩ := by simp [rg, mkR, h]
theorem grown_row4 {W : World} {g : Nat} (m : Nat) (a b c d : Value) : W.grownBy ((((W.setCell ⟨g, m, none⟩ a).setCell ⟨g, m + 1, none⟩ b).setCell ⟨g, m + 2, none⟩ c).setCell ⟨g, m + 3, none⟩ d) (some g) :=
  ⟨rfl, rfl, rfl, by simp, fun i hi hne => by
    have e : ∀ (X : World) (q : Nat) (v : Value), (X.setCell ⟨g, q, none⟩ v).heap[i]? = X.heap[i]? := fun X q v => heap_setCell_other X ⟨g, q, none⟩ i v (fun h => hne (by rw [h]))
    rw [e, e, e, e]⟩
theorem grown_tr {a b c : World} {r : Option Nat} (h : a.grownBy b r) (h' : b.grownBy c r) : a.grownBy c r :=
  ⟨h'.os.trans h.os, h'.tape.trans h.tape, h'.output.trans h.output, Nat.le_trans h.size h'.size, fun i hi hne => (h'.block i (Nat.lt_of_lt_of_le hi h.size) hne).trans (h.block i hi hne)⟩
end Go.Proofs.YtjceajgefpinpaaDoor
namespace Go.Proofs.YtjceajgefpinpaaDoor
open Go.RowKit
set_option maxRecDepth 100000
set_option maxHeartbeats 4000000
set_option linter.unusedVariables false

end Go.Proofs.YtjceajgefpinpaaDoor
namespace Go.Proofs.YtjceajgefpinpaaDoor
open Go.RowKit
set_option maxRecDepth 100000
set_option maxHeartbeats 4000000
set_option linter.unusedVariables false

theorem specBootOk (b n f : Int) (t : Bool) (i o : Int) (w : World) : Calls Tryd.prog 16 #[btV b n f t i o] w fun e w' => e = .returned (.bool (decide (btOk b n f t i o))) ∧ Below w.heap.size w w' := by
  obtain ⟨R, hR, HT, HF⟩ := by_dec0 (btOk b n f t i o)
  rw [hR]
  clear hR
  obtain ⟨W, hW⟩ : ∃ W, W = w.alloc (.cells #[.int .i64 b, .int .i64 n, .int .i64 f, .bool t, .int .i64 i, .int .i64 o] 35) := ⟨_, rfl⟩
  have B : Hid (Below w.heap.size w W) := by unfold Hid; rw [hW]; exact (Below.refl _ _).alloc (Nat.le_refl _) _
  have A : Arr W w.heap.size 35 [.int .i64 b, .int .i64 n, .int .i64 f, .bool t, .int .i64 i, .int .i64 o] := by rw [hW]; exact Arr.new _ _ _
  have c0 := A.cell 0
  have c1 := A.cell 1
  have c2 := A.cell 2
  have c3 := A.cell 3
  have c4 := A.cell 4
  have c5 := A.cell 5
  simp at c0 c1 c2 c3 c4 c5
  clear A
  go_enter Tryd.func16, Tryd.ntmps16
  go_upto_region 1 with fail
  rw [← hW]
  clear hW
  cases t
  · by_cases h1 : 0 ≤ b
    case neg =>
      go_wp2
      go_ret
      exact ⟨by first | (rw [HF.out (by simp; omega)]; first | rfl | (simp; omega)) | (rw [HT.out (by refine ⟨by omega, by omega, by omega, ?_⟩; simp; omega)]; first | rfl | (simp; omega)), B.out⟩
    by_cases h2 : b ≤ 1
    case neg =>
      go_wp2
      go_ret
      exact ⟨by first | (rw [HF.out (by simp; omega)]; first | rfl | (simp; omega)) | (rw [HT.out (by refine ⟨by omega, by omega, by omega, ?_⟩; simp; omega)]; first | rfl | (simp; omega)), B.out⟩
    by_cases h3 : 1 ≤ n
    case neg =>
      go_wp2
      go_ret
      exact ⟨by first | (rw [HF.out (by simp; omega)]; first | rfl | (simp; omega)) | (rw [HT.out (by refine ⟨by omega, by omega, by omega, ?_⟩; simp; omega)]; first | rfl | (simp; omega)), B.out⟩
    go_wp2_with fail
    refine (spec8ver n _).mono ?_
    rintro e w1 ⟨rfl, hw⟩
    rw [hw]
    clear hw
    by_cases h4 : 0 ≤ n ∧ n ≤ 1000
    case neg =>
      rw [decide_eq_false h4]
      go_wp2
      go_ret
      exact ⟨by first | (rw [HF.out (by simp; omega)]; first | rfl | (simp; omega)) | (rw [HT.out (by refine ⟨by omega, by omega, by omega, ?_⟩; simp; omega)]; first | rfl | (simp; omega)), B.out⟩
    rw [decide_eq_true h4]
    go_wp2_with fail
    refine (spec8ver f _).mono ?_
    rintro e w1 ⟨rfl, hw⟩
    rw [hw]
    clear hw
    by_cases h5 : 0 ≤ f ∧ f ≤ 1000
    case neg =>
      rw [decide_eq_false h5]
      go_wp2
      go_ret
      exact ⟨by first | (rw [HF.out (by simp; omega)]; first | rfl | (simp; omega)) | (rw [HT.out (by refine ⟨by omega, by omega, by omega, ?_⟩; simp; omega)]; first | rfl | (simp; omega)), B.out⟩
    rw [decide_eq_true h5]
    by_cases h6 : 0 ≤ i
    case neg =>
      go_wp2
      go_ret
      exact ⟨by first | (rw [HF.out (by simp; omega)]; first | rfl | (simp; omega)) | (rw [HT.out (by refine ⟨by omega, by omega, by omega, ?_⟩; simp; omega)]; first | rfl | (simp; omega)), B.out⟩
    by_cases h7 : i ≤ 3
    case neg =>
      go_wp2
      go_ret
      exact ⟨by first | (rw [HF.out (by simp; omega)]; first | rfl | (simp; omega)) | (rw [HT.out (by refine ⟨by omega, by omega, by omega, ?_⟩; simp; omega)]; first | rfl | (simp; omega)), B.out⟩
    go_wp2_with fail
    refine (spec8ver o _).mono ?_
    rintro e w1 ⟨rfl, hw⟩
    rw [hw]
    clear hw
    by_cases h8 : 0 ≤ o ∧ o ≤ 1000
    case neg =>
      rw [decide_eq_false h8]
      go_wp2
      go_ret
      exact ⟨by first | (rw [HF.out (by simp; omega)]; first | rfl | (simp; omega)) | (rw [HT.out (by refine ⟨by omega, by omega, by omega, ?_⟩; simp; omega)]; first | rfl | (simp; omega)), B.out⟩
    rw [decide_eq_true h8]
    by_cases g_i : i = 0
    case neg =>
      have g_i' : (i == 0) = false := by simpa using g_i
      go_wp2
      go_ret
      exact ⟨by first | (rw [HF.out (by simp; omega)]; first | rfl | (simp; omega)) | (rw [HT.out (by refine ⟨by omega, by omega, by omega, ?_⟩; simp; omega)]; first | rfl | (simp; omega)), B.out⟩
    have g_i' : (i == 0) = true := by simpa using g_i
    have K_g_i : Hid (i = 0) := g_i
    clear g_i
    by_cases g_o : o = 0
    case neg =>
      have g_o' : (o == 0) = false := by simpa using g_o
      go_wp2
      go_ret
      have g_i := K_g_i.out
      exact ⟨by first | (rw [HF.out (by simp; omega)]; first | rfl | (simp; omega)) | (rw [HT.out (by refine ⟨by omega, by omega, by omega, ?_⟩; simp; omega)]; first | rfl | (simp; omega)), B.out⟩
    have g_o' : (o == 0) = true := by simpa using g_o
    have K_g_o : Hid (o = 0) := g_o
    clear g_o
    go_wp2
    go_ret
    have g_i := K_g_i.out
    have g_o := K_g_o.out
    exact ⟨by first | (rw [HF.out (by simp; omega)]; first | rfl | (simp; omega)) | (rw [HT.out (by refine ⟨by omega, by omega, by omega, ?_⟩; simp; omega)]; first | rfl | (simp; omega)), B.out⟩
  · by_cases h1 : 0 ≤ b
    case neg =>
      go_wp2
      go_ret
      exact ⟨by first | (rw [HF.out (by simp; omega)]; first | rfl | (simp; omega)) | (rw [HT.out (by refine ⟨by omega, by omega, by omega, ?_⟩; simp; omega)]; first | rfl | (simp; omega)), B.out⟩
    by_cases h2 : b ≤ 1
    case neg =>
      go_wp2
      go_ret
      exact ⟨by first | (rw [HF.out (by simp; omega)]; first | rfl | (simp; omega)) | (rw [HT.out (by refine ⟨by omega, by omega, by omega, ?_⟩; simp; omega)]; first | rfl | (simp; omega)), B.out⟩
    by_cases h3 : 1 ≤ n
    case neg =>
      go_wp2
      go_ret
      exact ⟨by first | (rw [HF.out (by simp; omega)]; first | rfl | (simp; omega)) | (rw [HT.out (by refine ⟨by omega, by omega, by omega, ?_⟩; simp; omega)]; first | rfl | (simp; omega)), B.out⟩
    go_wp2_with fail
    refine (spec8ver n _).mono ?_
    rintro e w1 ⟨rfl, hw⟩
    rw [hw]
    clear hw
    by_cases h4 : 0 ≤ n ∧ n ≤ 1000
    case neg =>
      rw [decide_eq_false h4]
      go_wp2
      go_ret
      exact ⟨by first | (rw [HF.out (by simp; omega)]; first | rfl | (simp; omega)) | (rw [HT.out (by refine ⟨by omega, by omega, by omega, ?_⟩; simp; omega)]; first | rfl | (simp; omega)), B.out⟩
    rw [decide_eq_true h4]
    go_wp2_with fail
    refine (spec8ver f _).mono ?_
    rintro e w1 ⟨rfl, hw⟩
    rw [hw]
    clear hw
    by_cases h5 : 0 ≤ f ∧ f ≤ 1000
    case neg =>
      rw [decide_eq_false h5]
      go_wp2
      go_ret
      exact ⟨by first | (rw [HF.out (by simp; omega)]; first | rfl | (simp; omega)) | (rw [HT.out (by refine ⟨by omega, by omega, by omega, ?_⟩; simp; omega)]; first | rfl | (simp; omega)), B.out⟩
    rw [decide_eq_true h5]
    by_cases h6 : 0 ≤ i
    case neg =>
      go_wp2
      go_ret
      exact ⟨by first | (rw [HF.out (by simp; omega)]; first | rfl | (simp; omega)) | (rw [HT.out (by refine ⟨by omega, by omega, by omega, ?_⟩; simp; omega)]; first | rfl | (simp; omega)), B.out⟩
    by_cases h7 : i ≤ 3
    case neg =>
      go_wp2
      go_ret
      exact ⟨by first | (rw [HF.out (by simp; omega)]; first | rfl | (simp; omega)) | (rw [HT.out (by refine ⟨by omega, by omega, by omega, ?_⟩; simp; omega)]; first | rfl | (simp; omega)), B.out⟩
    go_wp2_with fail
    refine (spec8ver o _).mono ?_
    rintro e w1 ⟨rfl, hw⟩
    rw [hw]
    clear hw
    by_cases h8 : 0 ≤ o ∧ o ≤ 1000
    case neg =>
      rw [decide_eq_false h8]
      go_wp2
      go_ret
      exact ⟨by first | (rw [HF.out (by simp; omega)]; first | rfl | (simp; omega)) | (rw [HT.out (by refine ⟨by omega, by omega, by omega, ?_⟩; simp; omega)]; first | rfl | (simp; omega)), B.out⟩
    rw [decide_eq_true h8]
    by_cases h9 : 1 ≤ o
    case neg =>
      go_wp2
      go_ret
      exact ⟨by first | (rw [HF.out (by simp; omega)]; first | rfl | (simp; omega)) | (rw [HT.out (by refine ⟨by omega, by omega, by omega, ?_⟩; simp; omega)]; first | rfl | (simp; omega)), B.out⟩
    go_wp2
    go_ret
    exact ⟨by first | (rw [HF.out (by simp; omega)]; first | rfl | (simp; omega)) | (rw [HT.out (by refine ⟨by omega, by omega, by omega, ?_⟩; simp; omega)]; first | rfl | (simp; omega)), B.out⟩
theorem implBootOk (b n f : Int) (t : Bool) (i o : Int) (w : World) : Calls Tryd.prog 17 #[btV b n f t i o] w fun e w' => e = .returned (.bool (decide (btOk b n f t i o))) ∧ Below w.heap.size w w' := by
  obtain ⟨R, hR, HT, HF⟩ := by_dec0 (btOk b n f t i o)
  rw [hR]
  clear hR
  obtain ⟨W, hW⟩ : ∃ W, W = w.alloc (.cells #[.int .i64 b, .int .i64 n, .int .i64 f, .bool t, .int .i64 i, .int .i64 o] 35) := ⟨_, rfl⟩
  have B : Hid (Below w.heap.size w W) := by unfold Hid; rw [hW]; exact (Below.refl _ _).alloc (Nat.le_refl _) _
  have A : Arr W w.heap.size 35 [.int .i64 b, .int .i64 n, .int .i64 f, .bool t, .int .i64 i, .int .i64 o] := by rw [hW]; exact Arr.new _ _ _
  have c0 := A.cell 0
  have c1 := A.cell 1
  have c2 := A.cell 2
  have c3 := A.cell 3
  have c4 := A.cell 4
  have c5 := A.cell 5
  simp at c0 c1 c2 c3 c4 c5
  clear A
  go_enter Tryd.func17, Tryd.ntmps17
  go_upto_region 1 with fail
  rw [← hW]
  clear hW
  cases t
  · go_wp2_with fail
    refine (implIsBank b _).mono ?_
    rintro e w1 ⟨rfl, hw⟩
    rw [hw]
    clear hw
    by_cases v_b : 0 ≤ b ∧ b ≤ 1
    case neg =>
      rw [decide_eq_false v_b]
      go_wp2
      go_ret
      exact ⟨by first | (rw [HF.out (by simp; omega)]; first | rfl | (simp; omega)) | (rw [HT.out (by refine ⟨by omega, by omega, by omega, ?_⟩; simp; omega)]; first | rfl | (simp; omega)), B.out⟩
    rw [decide_eq_true v_b]
    go_wp2_with fail
    refine (implIsNum n _).mono ?_
    rintro e w1 ⟨rfl, hw⟩
    rw [hw]
    clear hw
    by_cases v_n : 1 ≤ n ∧ n ≤ 1000
    case neg =>
      rw [decide_eq_false v_n]
      go_wp2
      go_ret
      exact ⟨by first | (rw [HF.out (by simp; omega)]; first | rfl | (simp; omega)) | (rw [HT.out (by refine ⟨by omega, by omega, by omega, ?_⟩; simp; omega)]; first | rfl | (simp; omega)), B.out⟩
    rw [decide_eq_true v_n]
    go_wp2_with fail
    refine (implIsVer f _).mono ?_
    rintro e w1 ⟨rfl, hw⟩
    rw [hw]
    clear hw
    by_cases v_f : 0 ≤ f ∧ f ≤ 1000
    case neg =>
      rw [decide_eq_false v_f]
      go_wp2
      go_ret
      exact ⟨by first | (rw [HF.out (by simp; omega)]; first | rfl | (simp; omega)) | (rw [HT.out (by refine ⟨by omega, by omega, by omega, ?_⟩; simp; omega)]; first | rfl | (simp; omega)), B.out⟩
    rw [decide_eq_true v_f]
    by_cases g_i : i = 0
    case neg =>
      have g_i' : (i == 0) = false := by simpa using g_i
      go_wp2
      go_ret
      exact ⟨by first | (rw [HF.out (by simp; omega)]; first | rfl | (simp; omega)) | (rw [HT.out (by refine ⟨by omega, by omega, by omega, ?_⟩; simp; omega)]; first | rfl | (simp; omega)), B.out⟩
    have g_i' : (i == 0) = true := by simpa using g_i
    have K_g_i : Hid (i = 0) := g_i
    clear g_i
    by_cases g_o : o = 0
    case neg =>
      have g_o' : (o == 0) = false := by simpa using g_o
      go_wp2
      go_ret
      have g_i := K_g_i.out
      exact ⟨by first | (rw [HF.out (by simp; omega)]; first | rfl | (simp; omega)) | (rw [HT.out (by refine ⟨by omega, by omega, by omega, ?_⟩; simp; omega)]; first | rfl | (simp; omega)), B.out⟩
    have g_o' : (o == 0) = true := by simpa using g_o
    have K_g_o : Hid (o = 0) := g_o
    clear g_o
    go_wp2
    go_ret
    have g_i := K_g_i.out
    have g_o := K_g_o.out
    exact ⟨by first | (rw [HF.out (by simp; omega)]; first | rfl | (simp; omega)) | (rw [HT.out (by refine ⟨by omega, by omega, by omega, ?_⟩; simp; omega)]; first | rfl | (simp; omega)), B.out⟩
  · go_wp2_with fail
    refine (implIsBank b _).mono ?_
    rintro e w1 ⟨rfl, hw⟩
    rw [hw]
    clear hw
    by_cases v_b : 0 ≤ b ∧ b ≤ 1
    case neg =>
      rw [decide_eq_false v_b]
      go_wp2
      go_ret
      exact ⟨by first | (rw [HF.out (by simp; omega)]; first | rfl | (simp; omega)) | (rw [HT.out (by refine ⟨by omega, by omega, by omega, ?_⟩; simp; omega)]; first | rfl | (simp; omega)), B.out⟩
    rw [decide_eq_true v_b]
    go_wp2_with fail
    refine (implIsNum n _).mono ?_
    rintro e w1 ⟨rfl, hw⟩
    rw [hw]
    clear hw
    by_cases v_n : 1 ≤ n ∧ n ≤ 1000
    case neg =>
      rw [decide_eq_false v_n]
      go_wp2
      go_ret
      exact ⟨by first | (rw [HF.out (by simp; omega)]; first | rfl | (simp; omega)) | (rw [HT.out (by refine ⟨by omega, by omega, by omega, ?_⟩; simp; omega)]; first | rfl | (simp; omega)), B.out⟩
    rw [decide_eq_true v_n]
    go_wp2_with fail
    refine (implIsVer f _).mono ?_
    rintro e w1 ⟨rfl, hw⟩
    rw [hw]
    clear hw
    by_cases v_f : 0 ≤ f ∧ f ≤ 1000
    case neg =>
      rw [decide_eq_false v_f]
      go_wp2
      go_ret
      exact ⟨by first | (rw [HF.out (by simp; omega)]; first | rfl | (simp; omega)) | (rw [HT.out (by refine ⟨by omega, by omega, by omega, ?_⟩; simp; omega)]; first | rfl | (simp; omega)), B.out⟩
    rw [decide_eq_true v_f]
    go_wp2_with fail
    refine (implIsIn i 0 3 _).mono ?_
    rintro e w1 ⟨rfl, hw⟩
    rw [hw]
    clear hw
    by_cases v_i : 0 ≤ i ∧ i ≤ 3
    case neg =>
      rw [decide_eq_false v_i]
      go_wp2
      go_ret
      exact ⟨by first | (rw [HF.out (by simp; omega)]; first | rfl | (simp; omega)) | (rw [HT.out (by refine ⟨by omega, by omega, by omega, ?_⟩; simp; omega)]; first | rfl | (simp; omega)), B.out⟩
    rw [decide_eq_true v_i]
    go_wp2_with fail
    refine (implIsNum o _).mono ?_
    rintro e w1 ⟨rfl, hw⟩
    rw [hw]
    clear hw
    by_cases v_o : 1 ≤ o ∧ o ≤ 1000
    case neg =>
      rw [decide_eq_false v_o]
      go_wp2
      go_ret
      exact ⟨by first | (rw [HF.out (by simp; omega)]; first | rfl | (simp; omega)) | (rw [HT.out (by refine ⟨by omega, by omega, by omega, ?_⟩; simp; omega)]; first | rfl | (simp; omega)), B.out⟩
    rw [decide_eq_true v_o]
    go_wp2
    go_ret
    exact ⟨by first | (rw [HF.out (by simp; omega)]; first | rfl | (simp; omega)) | (rw [HT.out (by refine ⟨by omega, by omega, by omega, ?_⟩; simp; omega)]; first | rfl | (simp; omega)), B.out⟩
end Go.Proofs.YtjceajgefpinpaaDoor
