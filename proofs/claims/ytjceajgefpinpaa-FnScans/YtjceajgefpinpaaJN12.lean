/-
  What is proved here: rows of records of four ints: stores of four cells, marks; no program is spoken of; what the laws' helpers on lists of records do: eqRecS, markRecS, heldRecS; what both sides' BootOk answer.
-/
import Derived.Test.YtjceajgefpinpaaJN2
import Derived.Test.YtjceajgefpinpaaJN1
import Derived.Test.YtjceajgefpinpaaJN5
import Derived.Test.YtjceajgefpinpaaJN11
import Derived.Test.YtjceajgefpinpaaJN6
namespace Go.Proofs.Ytjceajgefpinpaa
open Go.RowKit
set_option maxRecDepth 100000
set_option linter.unusedVariables false

theorem bel_row4 {w W : World} {B g : Nat} (h : Below B w W) (hg : B ≤ g) (m : Nat) (a b c d : Value) : Below B w ((((W.setCell ⟨g, m, none⟩ a).setCell ⟨g, m + 1, none⟩ b).setCell ⟨g, m + 2, none⟩ c).setCell ⟨g, m + 3, none⟩ d) :=
  (((h.setCell hg _).setCell hg _).setCell hg _).setCell hg _
def mkR (k0 : Int) (n : Nat) : List Rc := (List.range n).map fun (i : Nat) => ⟨k0 + 4 * (i : Int), k0 + 4 * (i : Int) + 1, k0 + 4 * (i : Int) + 2, k0 + 4 * (i : Int) + 3⟩
theorem mkR_len (k0 : Int) (n : Nat) : (mkR k0 n).length = n := by simp [mkR]
theorem mkR_get (k0 : Int) (n i : Nat) (h : i < n) : rg (mkR k0 n) i = ⟨k0 + 4 * (i : Int), k0 + 4 * (i : Int) + 1, k0 + 4 * (i : Int) + 2, k0 + 4 * (i : Int) + 3⟩ := by simp [rg, mkR, h]
theorem grown_row4 {W : World} {g : Nat} (m : Nat) (a b c d : Value) : W.grownBy ((((W.setCell ⟨g, m, none⟩ a).setCell ⟨g, m + 1, none⟩ b).setCell ⟨g, m + 2, none⟩ c).setCell ⟨g, m + 3, none⟩ d) (some g) :=
  ⟨rfl, rfl, rfl, by simp, fun i hi hne => by
    have e : ∀ (X : World) (q : Nat) (v : Value), (X.setCell ⟨g, q, none⟩ v).heap[i]? = X.heap[i]? := fun X q v => heap_setCell_other X ⟨g, q, none⟩ i v (fun h => hne (by rw [h]))
    rw [e, e, e, e]⟩
theorem grown_tr {a b c : World} {r : Option Nat} (h : a.grownBy b r) (h' : b.grownBy c r) : a.grownBy c r :=
  ⟨h'.os.trans h.os, h'.tape.trans h.tape, h'.output.trans h.output, Nat.le_trans h.size h'.size, fun i hi hne => (h'.block i (Nat.lt_of_lt_of_le hi h.size) hne).trans (h.block i hi hne)⟩
end Go.Proofs.Ytjceajgefpinpaa
namespace Go.Proofs.Ytjceajgefpinpaa
open Go.RowKit
set_option maxRecDepth 100000
set_option maxHeartbeats 4000000
set_option linter.unusedVariables false

theorem eqRecSC (a a' : Option Addr) (n cap cap' : Nat) (xs : List Rc) (w : World) (h : Rs w a n cap xs) (h' : Rs w a' n cap' xs) (hn : n ≤ 1048576) :
    Calls Try.prog 33 #[.slice a n cap, .slice a' n cap'] w fun e w' => e = .returned (.bool true) ∧ Below w.heap.size w w' := by
  have hne : ((n : Int) != (n : Int)) = false := by simp
  go_enter Try.func33, Try.ntmps33
  go_wp2
  go_loopw [5] (fun i wr => ∃ k : Nat, k ≤ n ∧ i = .int .i64 k ∧ Below w.heap.size w wr) (fun i _ => n - (intOf i).toNat)
  case atStart => exact ⟨0, Nat.zero_le _, rfl, Below.refl _ _⟩
  case round =>
    obtain ⟨k, hk, rfl, hb⟩ := hrel
    by_cases hlt : k < n
    · have hltI : (k : Int) < (n : Int) := by omega
      obtain ⟨b, o, rfl, hbs, hcell⟩ := h.opened (by omega)
      obtain ⟨b', o', rfl, hbs', hcell'⟩ := h'.opened (by omega)
      obtain ⟨x, hx⟩ : ∃ x, x = rg xs k := ⟨_, rfl⟩
      have hr := hcell k hlt
      have hr' := hcell' k hlt
      rw [← hx] at hr hr'
      clear hx hcell hcell'
      obtain ⟨xk, xb, xn, xf⟩ := x
      obtain ⟨c0, c1, c2, c3⟩ := hr.below hbs (hb.mono (Nat.le_refl _))
      obtain ⟨d0, d1, d2, d3⟩ := hr'.below hbs' (hb.mono (Nat.le_refl _))
      dsimp only at c0 c1 c2 c3 d0 d1 d2 d3
      have l1 : b < wr.heap.size := Nat.lt_of_lt_of_le hbs hb.size
      have l2 : b' < wr.heap.size := Nat.lt_of_lt_of_le hbs' hb.size
      go_wp2
      try simp only [Act.put]
      refine tameG [kc 17 (.slice (some ⟨b, o, none⟩) n cap), kc 18 (.int .i64 (k : Int)), kc 19 (.pointer (some ⟨b, o + k * 4, none⟩)), kc 20 (.agg #[.int .i64 xk, .int .i64 xb, .int .i64 xn, .int .i64 xf]), kc 21 (.slice (some ⟨b', o', none⟩) n cap'), kc 22 (.int .i64 (k : Int)), kc 23 (.pointer (some ⟨b', o' + k * 4, none⟩)), kc 24 (.agg #[.int .i64 xk, .int .i64 xb, .int .i64 xn, .int .i64 xf]), kc 25 (.bool true), kc 26 (.bool false)] 10 (by kernel_rfl) (by kernel_rfl) (by kernel_rfl) (by repeat' first | exact trivial | apply kc_keeps | constructor) 0 (by kernel_rfl) (fun vv ll hh yW bW => ?_) (fun vv ll hh yW bW F ivh aph => ?_)
      · have x0 := (bW.cell (p := ⟨b, _, none⟩) l1).trans c0
        have x1 := (bW.cell (p := ⟨b, _, none⟩) l1).trans c1
        have x2 := (bW.cell (p := ⟨b, _, none⟩) l1).trans c2
        have x3 := (bW.cell (p := ⟨b, _, none⟩) l1).trans c3
        have y0 := (bW.cell (p := ⟨b', _, none⟩) l2).trans d0
        have y1 := (bW.cell (p := ⟨b', _, none⟩) l2).trans d1
        have y2 := (bW.cell (p := ⟨b', _, none⟩) l2).trans d2
        have y3 := (bW.cell (p := ⟨b', _, none⟩) l2).trans d3
        refine ⟨og (tp (by kernel_rfl)) (by kernel_rfl), og (tp (by kernel_rfl)) (by kernel_rfl), og (tp ?_) (by kernel_rfl), og (tp ?_) (by kernel_rfl), og (tp (by kernel_rfl)) (by kernel_rfl), og (tp (by kernel_rfl)) (by kernel_rfl), og (tp ?_) (by kernel_rfl), og (tp ?_) (by kernel_rfl), og (tc (eqRecC xk xb xn xf _) (by kernel_rfl)) (by kernel_rfl), og (tp (by kernel_rfl)) (by kernel_rfl), trivial⟩
        all_goals
          simp only [fillK, putT, List.setIfInBounds_toArray, List.set_cons_zero, List.set_cons_succ]
          unfold execOp
          go_simp
          try rfl
      clear F ivh aph
      obtain ⟨y, hy⟩ : ∃ z, z = yW := ⟨_, rfl⟩
      rw [← hy] at bW ⊢
      clear hy
      refine wpAny_done (by kernel_rfl) ?_ _
      simp only [fillK, putT, List.setIfInBounds_toArray, List.set_cons_zero, List.set_cons_succ]
      replace hb := hb.trans (bW.mono hb.size)
      clear bW c0 c1 c2 c3 d0 d1 d2 d3
      go_wp2
      go_roundw
      case rel => exact ⟨k + 1, by omega, by go_num, hb⟩
      case measure => simp [intOf]; omega
    · have hkn : k = n := by omega
      subst hkn
      go_wp2
      go_ret
      exact ⟨rfl, hb⟩
theorem markRecSC (B n : Nat) (v : Value) (k0 : Int) (xs : List Rc) (w : World) (hown : w.ownsRow B 29 4 v n (FL xs)) (hn : n ≤ 1048576) (h0 : 0 ≤ k0) (h1 : k0 ≤ 10000000) :
    Calls Try.prog 34 #[v, .int .i64 k0] w fun e w' => e = .returned (.int .i64 (k0 + 4 * (n : Int))) ∧ w'.ownsRow B 29 4 v n (FL (mkR k0 n)) ∧ w.grownBy w' v.ownBlock := by
  by_cases hn0 : n = 0
  · subst hn0
    have hx : xs = [] := List.eq_nil_of_length_eq_zero (rq_len hown)
    subst hx
    obtain ⟨a, c, rfl, _, _⟩ := Rs.own hown
    go_enter Try.func34, Try.ntmps34
    go_wp2
    go_loopw [5, 1] (fun i m wr => i = .int .i64 0 ∧ m = .int .i64 k0 ∧ wr = w) (fun i _ _ => 0)
    case atStart => exact ⟨rfl, rfl, rfl⟩
    case round =>
      obtain ⟨rfl, rfl, rfl⟩ := hrel
      go_wp2
      go_ret
      exact ⟨by simp, hown, World.grownBy.refl _ _⟩
  obtain ⟨g, cap, rfl⟩ : ∃ g cap, v = .slice (some ⟨g, 0, none⟩) n cap := by
    rcases hown.2 with ⟨_, h⟩ | ⟨g, cap, cur, h, _⟩
    · exact absurd h hn0
    · exact ⟨g, cap, h⟩
  go_enter Try.func34, Try.ntmps34
  go_wp2
  go_loopw [5, 1] (fun i m wr => ∃ k : Nat, k ≤ n ∧ i = .int .i64 k ∧ m = .int .i64 (k0 + 4 * (k : Int)) ∧ (∃ l, wr.ownsRow B 29 4 (.slice (some ⟨g, 0, none⟩) n cap) n (FL l) ∧ ∀ q, q < k → rg l q = rg (mkR k0 n) q) ∧ w.grownBy wr (some g)) (fun i _ _ => n - (intOf i).toNat)
  case atStart => exact ⟨0, Nat.zero_le _, rfl, by simp, ⟨_, hown, by omega⟩, World.grownBy.refl _ _⟩
  case round =>
    obtain ⟨k, hk, rfl, rfl, ⟨l, hown2, hall⟩, hg⟩ := hrel
    have HL : Hid _ := hall
    clear hall hown
    by_cases hlt : k < n
    · obtain ⟨d0, d1, d2, d3⟩ := rq_at hown2 k hlt
      have f0 := fun j => hown2.frozenAt j
      have lS := (hown2.lt g rfl).2
      obtain ⟨m, hm⟩ : ∃ m : Int, m = k0 + 4 * (k : Int) := ⟨_, rfl⟩
      rw [← hm]
      have mb : 0 ≤ m ∧ m ≤ 20000000 := by omega
      have w1 : IntKind.i64.wrap (m + 1) = m + 1 := wr64 (by omega) (by omega)
      have w2 : IntKind.i64.wrap (m + 1 + 1) = m + 2 := by rw [show m + 1 + 1 = m + 2 by omega]; exact wr64 (by omega) (by omega)
      have w3 : IntKind.i64.wrap (m + 2 + 1) = m + 3 := by rw [show m + 2 + 1 = m + 3 by omega]; exact wr64 (by omega) (by omega)
      have w4 : IntKind.i64.wrap (m + 3 + 1) = m + 4 := by rw [show m + 3 + 1 = m + 4 by omega]; exact wr64 (by omega) (by omega)
      have HS : Hid _ := rq_set hown2 k hlt ⟨m, m + 1, m + 2, m + 3⟩
      have HG : Hid _ := grown_tr hg (grown_row4 (W := wr) (g := g) (k * 4) (.int .i64 m) (.int .i64 (m + 1)) (.int .i64 (m + 2)) (.int .i64 (m + 3)))
      have HLL : Hid (l.length = n) := rq_len hown2
      have HM : Hid _ := hm
      clear hm hown2 hg
      go_wp2
      go_roundw
      case rel =>
        refine ⟨k + 1, by omega, by go_num, by rw [HM.out]; congr 1; omega, ⟨_, HS.out, fun q hq => ?_⟩, HG.out⟩
        rw [rg_set _ _ _ _ (by rw [HLL.out]; exact hlt)]
        split
        · next e => subst e; rw [mkR_get k0 n q hlt, HM.out]
        · exact HL.out q (by omega)
      case measure => simp [intOf]; omega
    · have hkn : k = n := by omega
      subst hkn
      go_wp2
      go_ret
      have : l = mkR k0 k := rg_ext (by rw [rq_len hown2, mkR_len]) (fun q hq => HL.out q (by rw [← rq_len hown2]; exact hq))
      subst this
      exact ⟨rfl, hown2, hg⟩
theorem heldRecSC (a : Option Addr) (n cap : Nat) (k0 : Int) (w : World) (h : Rs w a n cap (mkR k0 n)) (hn : n ≤ 1048576) (h0 : 0 ≤ k0) (h1 : k0 ≤ 10000000) :
    Calls Try.prog 35 #[.slice a n cap, .int .i64 k0] w fun e w' => e = .returned (.int .i64 (k0 + 4 * (n : Int))) ∧ w' = w := by
  go_enter Try.func35, Try.ntmps35
  go_wp2
  go_loop [5, 1] (fun i m => ∃ k : Nat, k ≤ n ∧ i = .int .i64 k ∧ m = .int .i64 (k0 + 4 * (k : Int))) (fun i _ => n - (intOf i).toNat)
  case atStart => exact ⟨0, Nat.zero_le _, rfl, by simp⟩
  case round =>
    obtain ⟨k, hk, rfl, rfl⟩ := hrel
    by_cases hlt : k < n
    · obtain ⟨b, o, rfl, hbs, hcell⟩ := h.opened (by omega)
      have hr := hcell k hlt
      rw [mkR_get k0 n k hlt] at hr
      obtain ⟨d0, d1, d2, d3⟩ := hr
      dsimp only at d0 d1 d2 d3
      obtain ⟨m, hm⟩ : ∃ m : Int, m = k0 + 4 * (k : Int) := ⟨_, rfl⟩
      rw [← hm] at d0 d1 d2 d3 ⊢
      have mb : 0 ≤ m ∧ m ≤ 20000000 := by omega
      have w1 : IntKind.i64.wrap (m + 1) = m + 1 := wr64 (by omega) (by omega)
      have w2 : IntKind.i64.wrap (m + 1 + 1) = m + 2 := by rw [show m + 1 + 1 = m + 2 by omega]; exact wr64 (by omega) (by omega)
      have w3 : IntKind.i64.wrap (m + 2 + 1) = m + 3 := by rw [show m + 2 + 1 = m + 3 by omega]; exact wr64 (by omega) (by omega)
      have w4 : IntKind.i64.wrap (m + 3 + 1) = m + 4 := by rw [show m + 3 + 1 = m + 4 by omega]; exact wr64 (by omega) (by omega)
      have e0 : (m != m) = false := by simp
      have e1 : (m + 1 != m + 1) = false := by simp
      have e2 : (m + 2 != m + 2) = false := by simp
      have e3 : (m + 3 != m + 3) = false := by simp
      have HM : Hid _ := hm
      clear hm hcell
      go_wp2
      go_round
      case rel => exact ⟨k + 1, by omega, by go_num, by rw [HM.out]; congr 1; omega⟩
      case measure => simp [intOf]; omega
    · have hkn : k = n := by omega
      subst hkn
      go_wp2
      go_ret
      exact ⟨rfl, rfl⟩
end Go.Proofs.Ytjceajgefpinpaa
namespace Go.Proofs.Ytjceajgefpinpaa
open Go.RowKit
set_option maxRecDepth 100000
set_option maxHeartbeats 4000000
set_option linter.unusedVariables false

theorem specBootOk (b n f : Int) (t : Bool) (i o : Int) (w : World) : Calls Try.prog 36 #[btV b n f t i o] w fun e w' => e = .returned (.bool (decide (btOk b n f t i o))) ∧ Below w.heap.size w w' := by
  obtain ⟨R, hR, HT, HF⟩ := by_dec0 (btOk b n f t i o)
  rw [hR]
  clear hR
  obtain ⟨W, hW⟩ : ∃ W, W = w.alloc (.cells #[.int .i64 b, .int .i64 n, .int .i64 f, .bool t, .int .i64 i, .int .i64 o] 35) := ⟨_, rfl⟩
  have B : Hid (Below w.heap.size w W) := by unfold Hid; rw [hW]; exact (Below.refl _ _).alloc (Nat.le_refl _) _
  have A : Arr W w.heap.size 35 [.int .i64 b, .int .i64 n, .int .i64 f, .bool t, .int .i64 i, .int .i64 o] := by rw [hW]; exact Arr.new _ _ _
  have c0 := A.cell 0
  have c1 := A.cell 1
  have c2 := A.cell 2
  have c3 := A.cell 3
  have c4 := A.cell 4
  have c5 := A.cell 5
  simp at c0 c1 c2 c3 c4 c5
  clear A
  go_enter Try.func36, Try.ntmps36
  go_upto_region 1 with fail
  rw [← hW]
  clear hW
  cases t
  · by_cases h1 : 0 ≤ b
    case neg =>
      go_wp2
      go_ret
      exact ⟨by first | (rw [HF.out (by simp; omega)]; first | rfl | (simp; omega)) | (rw [HT.out (by refine ⟨by omega, by omega, by omega, ?_⟩; simp; omega)]; first | rfl | (simp; omega)), B.out⟩
    by_cases h2 : b ≤ 1
    case neg =>
      go_wp2
      go_ret
      exact ⟨by first | (rw [HF.out (by simp; omega)]; first | rfl | (simp; omega)) | (rw [HT.out (by refine ⟨by omega, by omega, by omega, ?_⟩; simp; omega)]; first | rfl | (simp; omega)), B.out⟩
    by_cases h3 : 1 ≤ n
    case neg =>
      go_wp2
      go_ret
      exact ⟨by first | (rw [HF.out (by simp; omega)]; first | rfl | (simp; omega)) | (rw [HT.out (by refine ⟨by omega, by omega, by omega, ?_⟩; simp; omega)]; first | rfl | (simp; omega)), B.out⟩
    go_wp2_with fail
    refine (spec8ver n _).mono ?_
    rintro e w1 ⟨rfl, hw⟩
    rw [hw]
    clear hw
    by_cases h4 : 0 ≤ n ∧ n ≤ 1000
    case neg =>
      rw [decide_eq_false h4]
      go_wp2
      go_ret
      exact ⟨by first | (rw [HF.out (by simp; omega)]; first | rfl | (simp; omega)) | (rw [HT.out (by refine ⟨by omega, by omega, by omega, ?_⟩; simp; omega)]; first | rfl | (simp; omega)), B.out⟩
    rw [decide_eq_true h4]
    go_wp2_with fail
    refine (spec8ver f _).mono ?_
    rintro e w1 ⟨rfl, hw⟩
    rw [hw]
    clear hw
    by_cases h5 : 0 ≤ f ∧ f ≤ 1000
    case neg =>
      rw [decide_eq_false h5]
      go_wp2
      go_ret
      exact ⟨by first | (rw [HF.out (by simp; omega)]; first | rfl | (simp; omega)) | (rw [HT.out (by refine ⟨by omega, by omega, by omega, ?_⟩; simp; omega)]; first | rfl | (simp; omega)), B.out⟩
    rw [decide_eq_true h5]
    by_cases h6 : 0 ≤ i
    case neg =>
      go_wp2
      go_ret
      exact ⟨by first | (rw [HF.out (by simp; omega)]; first | rfl | (simp; omega)) | (rw [HT.out (by refine ⟨by omega, by omega, by omega, ?_⟩; simp; omega)]; first | rfl | (simp; omega)), B.out⟩
    by_cases h7 : i ≤ 3
    case neg =>
      go_wp2
      go_ret
      exact ⟨by first | (rw [HF.out (by simp; omega)]; first | rfl | (simp; omega)) | (rw [HT.out (by refine ⟨by omega, by omega, by omega, ?_⟩; simp; omega)]; first | rfl | (simp; omega)), B.out⟩
    go_wp2_with fail
    refine (spec8ver o _).mono ?_
    rintro e w1 ⟨rfl, hw⟩
    rw [hw]
    clear hw
    by_cases h8 : 0 ≤ o ∧ o ≤ 1000
    case neg =>
      rw [decide_eq_false h8]
      go_wp2
      go_ret
      exact ⟨by first | (rw [HF.out (by simp; omega)]; first | rfl | (simp; omega)) | (rw [HT.out (by refine ⟨by omega, by omega, by omega, ?_⟩; simp; omega)]; first | rfl | (simp; omega)), B.out⟩
    rw [decide_eq_true h8]
    by_cases g_i : i = 0
    case neg =>
      have g_i' : (i == 0) = false := by simpa using g_i
      go_wp2
      go_ret
      exact ⟨by first | (rw [HF.out (by simp; omega)]; first | rfl | (simp; omega)) | (rw [HT.out (by refine ⟨by omega, by omega, by omega, ?_⟩; simp; omega)]; first | rfl | (simp; omega)), B.out⟩
    have g_i' : (i == 0) = true := by simpa using g_i
    have K_g_i : Hid (i = 0) := g_i
    clear g_i
    by_cases g_o : o = 0
    case neg =>
      have g_o' : (o == 0) = false := by simpa using g_o
      go_wp2
      go_ret
      have g_i := K_g_i.out
      exact ⟨by first | (rw [HF.out (by simp; omega)]; first | rfl | (simp; omega)) | (rw [HT.out (by refine ⟨by omega, by omega, by omega, ?_⟩; simp; omega)]; first | rfl | (simp; omega)), B.out⟩
    have g_o' : (o == 0) = true := by simpa using g_o
    have K_g_o : Hid (o = 0) := g_o
    clear g_o
    go_wp2
    go_ret
    have g_i := K_g_i.out
    have g_o := K_g_o.out
    exact ⟨by first | (rw [HF.out (by simp; omega)]; first | rfl | (simp; omega)) | (rw [HT.out (by refine ⟨by omega, by omega, by omega, ?_⟩; simp; omega)]; first | rfl | (simp; omega)), B.out⟩
  · by_cases h1 : 0 ≤ b
    case neg =>
      go_wp2
      go_ret
      exact ⟨by first | (rw [HF.out (by simp; omega)]; first | rfl | (simp; omega)) | (rw [HT.out (by refine ⟨by omega, by omega, by omega, ?_⟩; simp; omega)]; first | rfl | (simp; omega)), B.out⟩
    by_cases h2 : b ≤ 1
    case neg =>
      go_wp2
      go_ret
      exact ⟨by first | (rw [HF.out (by simp; omega)]; first | rfl | (simp; omega)) | (rw [HT.out (by refine ⟨by omega, by omega, by omega, ?_⟩; simp; omega)]; first | rfl | (simp; omega)), B.out⟩
    by_cases h3 : 1 ≤ n
    case neg =>
      go_wp2
      go_ret
      exact ⟨by first | (rw [HF.out (by simp; omega)]; first | rfl | (simp; omega)) | (rw [HT.out (by refine ⟨by omega, by omega, by omega, ?_⟩; simp; omega)]; first | rfl | (simp; omega)), B.out⟩
    go_wp2_with fail
    refine (spec8ver n _).mono ?_
    rintro e w1 ⟨rfl, hw⟩
    rw [hw]
    clear hw
    by_cases h4 : 0 ≤ n ∧ n ≤ 1000
    case neg =>
      rw [decide_eq_false h4]
      go_wp2
      go_ret
      exact ⟨by first | (rw [HF.out (by simp; omega)]; first | rfl | (simp; omega)) | (rw [HT.out (by refine ⟨by omega, by omega, by omega, ?_⟩; simp; omega)]; first | rfl | (simp; omega)), B.out⟩
    rw [decide_eq_true h4]
    go_wp2_with fail
    refine (spec8ver f _).mono ?_
    rintro e w1 ⟨rfl, hw⟩
    rw [hw]
    clear hw
    by_cases h5 : 0 ≤ f ∧ f ≤ 1000
    case neg =>
      rw [decide_eq_false h5]
      go_wp2
      go_ret
      exact ⟨by first | (rw [HF.out (by simp; omega)]; first | rfl | (simp; omega)) | (rw [HT.out (by refine ⟨by omega, by omega, by omega, ?_⟩; simp; omega)]; first | rfl | (simp; omega)), B.out⟩
    rw [decide_eq_true h5]
    by_cases h6 : 0 ≤ i
    case neg =>
      go_wp2
      go_ret
      exact ⟨by first | (rw [HF.out (by simp; omega)]; first | rfl | (simp; omega)) | (rw [HT.out (by refine ⟨by omega, by omega, by omega, ?_⟩; simp; omega)]; first | rfl | (simp; omega)), B.out⟩
    by_cases h7 : i ≤ 3
    case neg =>
      go_wp2
      go_ret
      exact ⟨by first | (rw [HF.out (by simp; omega)]; first | rfl | (simp; omega)) | (rw [HT.out (by refine ⟨by omega, by omega, by omega, ?_⟩; simp; omega)]; first | rfl | (simp; omega)), B.out⟩
    go_wp2_with fail
    refine (spec8ver o _).mono ?_
    rintro e w1 ⟨rfl, hw⟩
    rw [hw]
    clear hw
    by_cases h8 : 0 ≤ o ∧ o ≤ 1000
    case neg =>
      rw [decide_eq_false h8]
      go_wp2
      go_ret
      exact ⟨by first | (rw [HF.out (by simp; omega)]; first | rfl | (simp; omega)) | (rw [HT.out (by refine ⟨by omega, by omega, by omega, ?_⟩; simp; omega)]; first | rfl | (simp; omega)), B.out⟩
    rw [decide_eq_true h8]
    by_cases h9 : 1 ≤ o
    case neg =>
      go_wp2
      go_ret
      exact ⟨by first | (rw [HF.out (by simp; omega)]; first | rfl | (simp; omega)) | (rw [HT.out (by refine ⟨by omega, by omega, by omega, ?_⟩; simp; omega)]; first | rfl | (simp; omega)), B.out⟩
    go_wp2
    go_ret
    exact ⟨by first | (rw [HF.out (by simp; omega)]; first | rfl | (simp; omega)) | (rw [HT.out (by refine ⟨by omega, by omega, by omega, ?_⟩; simp; omega)]; first | rfl | (simp; omega)), B.out⟩
theorem implBootOk (b n f : Int) (t : Bool) (i o : Int) (w : World) : Calls Try.prog 21 #[btV b n f t i o] w fun e w' => e = .returned (.bool (decide (btOk b n f t i o))) ∧ Below w.heap.size w w' := by
  obtain ⟨R, hR, HT, HF⟩ := by_dec0 (btOk b n f t i o)
  rw [hR]
  clear hR
  obtain ⟨W, hW⟩ : ∃ W, W = w.alloc (.cells #[.int .i64 b, .int .i64 n, .int .i64 f, .bool t, .int .i64 i, .int .i64 o] 35) := ⟨_, rfl⟩
  have B : Hid (Below w.heap.size w W) := by unfold Hid; rw [hW]; exact (Below.refl _ _).alloc (Nat.le_refl _) _
  have A : Arr W w.heap.size 35 [.int .i64 b, .int .i64 n, .int .i64 f, .bool t, .int .i64 i, .int .i64 o] := by rw [hW]; exact Arr.new _ _ _
  have c0 := A.cell 0
  have c1 := A.cell 1
  have c2 := A.cell 2
  have c3 := A.cell 3
  have c4 := A.cell 4
  have c5 := A.cell 5
  simp at c0 c1 c2 c3 c4 c5
  clear A
  go_enter Try.func21, Try.ntmps21
  go_upto_region 1 with fail
  rw [← hW]
  clear hW
  cases t
  · go_wp2_with fail
    refine (implIsBank b _).mono ?_
    rintro e w1 ⟨rfl, hw⟩
    rw [hw]
    clear hw
    by_cases v_b : 0 ≤ b ∧ b ≤ 1
    case neg =>
      rw [decide_eq_false v_b]
      go_wp2
      go_ret
      exact ⟨by first | (rw [HF.out (by simp; omega)]; first | rfl | (simp; omega)) | (rw [HT.out (by refine ⟨by omega, by omega, by omega, ?_⟩; simp; omega)]; first | rfl | (simp; omega)), B.out⟩
    rw [decide_eq_true v_b]
    go_wp2_with fail
    refine (implIsNum n _).mono ?_
    rintro e w1 ⟨rfl, hw⟩
    rw [hw]
    clear hw
    by_cases v_n : 1 ≤ n ∧ n ≤ 1000
    case neg =>
      rw [decide_eq_false v_n]
      go_wp2
      go_ret
      exact ⟨by first | (rw [HF.out (by simp; omega)]; first | rfl | (simp; omega)) | (rw [HT.out (by refine ⟨by omega, by omega, by omega, ?_⟩; simp; omega)]; first | rfl | (simp; omega)), B.out⟩
    rw [decide_eq_true v_n]
    go_wp2_with fail
    refine (implIsVer f _).mono ?_
    rintro e w1 ⟨rfl, hw⟩
    rw [hw]
    clear hw
    by_cases v_f : 0 ≤ f ∧ f ≤ 1000
    case neg =>
      rw [decide_eq_false v_f]
      go_wp2
      go_ret
      exact ⟨by first | (rw [HF.out (by simp; omega)]; first | rfl | (simp; omega)) | (rw [HT.out (by refine ⟨by omega, by omega, by omega, ?_⟩; simp; omega)]; first | rfl | (simp; omega)), B.out⟩
    rw [decide_eq_true v_f]
    by_cases g_i : i = 0
    case neg =>
      have g_i' : (i == 0) = false := by simpa using g_i
      go_wp2
      go_ret
      exact ⟨by first | (rw [HF.out (by simp; omega)]; first | rfl | (simp; omega)) | (rw [HT.out (by refine ⟨by omega, by omega, by omega, ?_⟩; simp; omega)]; first | rfl | (simp; omega)), B.out⟩
    have g_i' : (i == 0) = true := by simpa using g_i
    have K_g_i : Hid (i = 0) := g_i
    clear g_i
    by_cases g_o : o = 0
    case neg =>
      have g_o' : (o == 0) = false := by simpa using g_o
      go_wp2
      go_ret
      have g_i := K_g_i.out
      exact ⟨by first | (rw [HF.out (by simp; omega)]; first | rfl | (simp; omega)) | (rw [HT.out (by refine ⟨by omega, by omega, by omega, ?_⟩; simp; omega)]; first | rfl | (simp; omega)), B.out⟩
    have g_o' : (o == 0) = true := by simpa using g_o
    have K_g_o : Hid (o = 0) := g_o
    clear g_o
    go_wp2
    go_ret
    have g_i := K_g_i.out
    have g_o := K_g_o.out
    exact ⟨by first | (rw [HF.out (by simp; omega)]; first | rfl | (simp; omega)) | (rw [HT.out (by refine ⟨by omega, by omega, by omega, ?_⟩; simp; omega)]; first | rfl | (simp; omega)), B.out⟩
  · go_wp2_with fail
    refine (implIsBank b _).mono ?_
    rintro e w1 ⟨rfl, hw⟩
    rw [hw]
    clear hw
    by_cases v_b : 0 ≤ b ∧ b ≤ 1
    case neg =>
      rw [decide_eq_false v_b]
      go_wp2
      go_ret
      exact ⟨by first | (rw [HF.out (by simp; omega)]; first | rfl | (simp; omega)) | (rw [HT.out (by refine ⟨by omega, by omega, by omega, ?_⟩; simp; omega)]; first | rfl | (simp; omega)), B.out⟩
    rw [decide_eq_true v_b]
    go_wp2_with fail
    refine (implIsNum n _).mono ?_
    rintro e w1 ⟨rfl, hw⟩
    rw [hw]
    clear hw
    by_cases v_n : 1 ≤ n ∧ n ≤ 1000
    case neg =>
      rw [decide_eq_false v_n]
      go_wp2
      go_ret
      exact ⟨by first | (rw [HF.out (by simp; omega)]; first | rfl | (simp; omega)) | (rw [HT.out (by refine ⟨by omega, by omega, by omega, ?_⟩; simp; omega)]; first | rfl | (simp; omega)), B.out⟩
    rw [decide_eq_true v_n]
    go_wp2_with fail
    refine (implIsVer f _).mono ?_
    rintro e w1 ⟨rfl, hw⟩
    rw [hw]
    clear hw
    by_cases v_f : 0 ≤ f ∧ f ≤ 1000
    case neg =>
      rw [decide_eq_false v_f]
      go_wp2
      go_ret
      exact ⟨by first | (rw [HF.out (by simp; omega)]; first | rfl | (simp; omega)) | (rw [HT.out (by refine ⟨by omega, by omega, by omega, ?_⟩; simp; omega)]; first | rfl | (simp; omega)), B.out⟩
    rw [decide_eq_true v_f]
    go_wp2_with fail
    refine (implIsIn i 0 3 _).mono ?_
    rintro e w1 ⟨rfl, hw⟩
    rw [hw]
    clear hw
    by_cases v_i : 0 ≤ i ∧ i ≤ 3
    case neg =>
      rw [decide_eq_false v_i]
      go_wp2
      go_ret
      exact ⟨by first | (rw [HF.out (by simp; omega)]; first | rfl | (simp; omega)) | (rw [HT.out (by refine ⟨by omega, by omega, by omega, ?_⟩; simp; omega)]; first | rfl | (simp; omega)), B.out⟩
    rw [decide_eq_true v_i]
    go_wp2_with fail
    refine (implIsNum o _).mono ?_
    rintro e w1 ⟨rfl, hw⟩
    rw [hw]
    clear hw
    by_cases v_o : 1 ≤ o ∧ o ≤ 1000
    case neg =>
      rw [decide_eq_false v_o]
      go_wp2
      go_ret
      exact ⟨by first | (rw [HF.out (by simp; omega)]; first | rfl | (simp; omega)) | (rw [HT.out (by refine ⟨by omega, by omega, by omega, ?_⟩; simp; omega)]; first | rfl | (simp; omega)), B.out⟩
    rw [decide_eq_true v_o]
    go_wp2
    go_ret
    exact ⟨by first | (rw [HF.out (by simp; omega)]; first | rfl | (simp; omega)) | (rw [HT.out (by refine ⟨by omega, by omega, by omega, ?_⟩; simp; omega)]; first | rfl | (simp; omega)), B.out⟩
end Go.Proofs.Ytjceajgefpinpaa
