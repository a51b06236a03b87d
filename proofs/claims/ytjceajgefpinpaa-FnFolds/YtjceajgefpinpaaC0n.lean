/-
  What is proved here: what the laws' helpers on lists of records do: eqRecS, markRecS, heldRecS.
-/
import Derived.Test.YtjceajgefpinpaaC0t
import Derived.Test.YtjceajgefpinpaaRow4
namespace Go.Proofs.Ytjceajgefpinpaa
open Go.RowKit
set_option maxRecDepth 100000
set_option maxHeartbeats 4000000
set_option linter.unusedVariables false

theorem eqRecSC (a a' : Option Addr) (n cap cap' : Nat) (xs : List Rc) (w : World) (h : Rs w a n cap xs) (h' : Rs w a' n cap' xs) (hn : n ≤ 1048576) :
    Calls Try.prog 33 #[.slice a n cap, .slice a' n cap'] w fun e w' => e = .returned (.bool true) ∧ Below w.heap.size w w' := by
  have hne : ((n : Int) != (n : Int)) = false := by simp
  go_enter Try.func33, Try.ntmps33
  go_wp2
  go_loopw [5] (fun i wr => ∃ k : Nat, k ≤ n ∧ i = .int .i64 k ∧ Below w.heap.size w wr) (fun i _ => n - (intOf i).toNat)
  case atStart => exact ⟨0, Nat.zero_le _, rfl, Below.refl _ _⟩
  case round =>
    obtain ⟨k, hk, rfl, hb⟩ := hrel
    by_cases hlt : k < n
    · have hltI : (k : Int) < (n : Int) := by omega
      obtain ⟨b, o, rfl, hbs, hcell⟩ := h.opened (by omega)
      obtain ⟨b', o', rfl, hbs', hcell'⟩ := h'.opened (by omega)
      obtain ⟨x, hx⟩ : ∃ x, x = rg xs k := ⟨_, rfl⟩
      have hr := hcell k hlt
      have hr' := hcell' k hlt
      rw [← hx] at hr hr'
      clear hx hcell hcell'
      obtain ⟨xk, xb, xn, xf⟩ := x
      obtain ⟨c0, c1, c2, c3⟩ := hr.below hbs (hb.mono (Nat.le_refl _))
      obtain ⟨d0, d1, d2, d3⟩ := hr'.below hbs' (hb.mono (Nat.le_refl _))
      dsimp only at c0 c1 c2 c3 d0 d1 d2 d3
      have l1 : b < wr.heap.size := Nat.lt_of_lt_of_le hbs hb.size
      have l2 : b' < wr.heap.size := Nat.lt_of_lt_of_le hbs' hb.size
      go_wp2
      try simp only [Act.put]
      refine tameG [kc 17 (.slice (some ⟨b, o, none⟩) n cap), kc 18 (.int .i64 (k : Int)), kc 19 (.pointer (some ⟨b, o + k * 4, none⟩)), kc 20 (.agg #[.int .i64 xk, .int .i64 xb, .int .i64 xn, .int .i64 xf]), kc 21 (.slice (some ⟨b', o', none⟩) n cap'), kc 22 (.int .i64 (k : Int)), kc 23 (.pointer (some ⟨b', o' + k * 4, none⟩)), kc 24 (.agg #[.int .i64 xk, .int .i64 xb, .int .i64 xn, .int .i64 xf]), kc 25 (.bool true), kc 26 (.bool false)] 10 (by kernel_rfl) (by kernel_rfl) (by kernel_rfl) (by repeat' first | exact trivial | apply kc_keeps | constructor) 0 (by kernel_rfl) (fun vv ll hh yW bW => ?_) (fun vv ll hh yW bW F ivh aph => ?_)
      · have x0 := (bW.cell (p := ⟨b, _, none⟩) l1).trans c0
        have x1 := (bW.cell (p := ⟨b, _, none⟩) l1).trans c1
        have x2 := (bW.cell (p := ⟨b, _, none⟩) l1).trans c2
        have x3 := (bW.cell (p := ⟨b, _, none⟩) l1).trans c3
        have y0 := (bW.cell (p := ⟨b', _, none⟩) l2).trans d0
        have y1 := (bW.cell (p := ⟨b', _, none⟩) l2).trans d1
        have y2 := (bW.cell (p := ⟨b', _, none⟩) l2).trans d2
        have y3 := (bW.cell (p := ⟨b', _, none⟩) l2).trans d3
        refine ⟨og (tp (by kernel_rfl)) (by kernel_rfl), og (tp (by kernel_rfl)) (by kernel_rfl), og (tp ?_) (by kernel_rfl), og (tp ?_) (by kernel_rfl), og (tp (by kernel_rfl)) (by kernel_rfl), og (tp (by kernel_rfl)) (by kernel_rfl), og (tp ?_) (by kernel_rfl), og (tp ?_) (by kernel_rfl), og (tc (eqRecC xk xb xn xf _) (by kernel_rfl)) (by kernel_rfl), og (tp (by kernel_rfl)) (by kernel_rfl), trivial⟩
        all_goals
          simp only [fillK, putT, List.setIfInBounds_toArray, List.set_cons_zero, List.set_cons_succ]
          unfold execOp
          go_simp
          try rfl
      clear F ivh aph
      obtain ⟨y, hy⟩ : ∃ z, z = yW := ⟨_, rfl⟩
      rw [← hy] at bW ⊢
      clear hy
      refine wpAny_done (by kernel_rfl) ?_ _
      simp only [fillK, putT, List.setIfInBounds_toArray, List.set_cons_zero, List.set_cons_succ]
      replace hb := hb.trans (bW.mono hb.size)
      clear bW c0 c1 c2 c3 d0 d1 d2 d3
      go_wp2
      go_roundw
      case rel => exact ⟨k + 1, by omega, by go_num, hb⟩
      case measure => simp [intOf]; omega
    · have hkn : k = n := by omega
      subst hkn
      go_wp2
      go_ret
      exact ⟨rfl, hb⟩
theorem markRecSC (B n : Nat) (v : Value) (k0 : Int) (xs : List Rc) (w : World) (hown : w.ownsRow B 29 4 v n (FL xs)) (hn : n ≤ 1048576) (h0 : 0 ≤ k0) (h1 : k0 ≤ 10000000) :
    Calls Try.prog 34 #[v, .int .i64 k0] w fun e w' => e = .returned (.int .i64 (k0 + 4 * (n : Int))) ∧ w'.ownsRow B 29 4 v n (FL (mkR k0 n)) ∧ w.grownBy w' v.ownBlock := by
  by_cases hn0 : n = 0
  · subst hn0
    have hx : xs = [] := List.eq_nil_of_length_eq_zero (rq_len hown)
    subst hx
    obtain ⟨a, c, rfl, _, _⟩ := Rs.own hown
    go_enter Try.func34, Try.ntmps34
    go_wp2
    go_loopw [5, 1] (fun i m wr => i = .int .i64 0 ∧ m = .int .i64 k0 ∧ wr = w) (fun i _ _ => 0)
    case atStart => exact ⟨rfl, rfl, rfl⟩
    case round =>
      obtain ⟨rfl, rfl, rfl⟩ := hrel
      go_wp2
      go_ret
      exact ⟨by simp, hown, World.grownBy.refl _ _⟩
  obtain ⟨g, cap, rfl⟩ : ∃ g cap, v = .slice (some ⟨g, 0, none⟩) n cap := by
    rcases hown.2 with ⟨_, h⟩ | ⟨g, cap, cur, h, _⟩
    · exact absurd h hn0
    · exact ⟨g, cap, h⟩
  go_enter Try.func34, Try.ntmps34
  go_wp2
  go_loopw [5, 1] (fun i m wr => ∃ k : Nat, k ≤ n ∧ i = .int .i64 k ∧ m = .int .i64 (k0 + 4 * (k : Int)) ∧ (∃ l, wr.ownsRow B 29 4 (.slice (some ⟨g, 0, none⟩) n cap) n (FL l) ∧ ∀ q, q < k → rg l q = rg (mkR k0 n) q) ∧ w.grownBy wr (some g)) (fun i _ _ => n - (intOf i).toNat)
  case atStart => exact ⟨0, Nat.zero_le _, rfl, by simp, ⟨_, hown, by omega⟩, World.grownBy.refl _ _⟩
  case round =>
    obtain ⟨k, hk, rfl, rfl, ⟨l, hown2, hall⟩, hg⟩ := hrel
    have HL : Hid _ := hall
    clear hall hown
    by_cases hlt : k < n
    · obtain ⟨d0, d1, d2, d3⟩ := rq_at hown2 k hlt
      have f0 := fun j => hown2.frozenAt j
      have lS := (hown2.lt g rfl).2
      obtain ⟨m, hm⟩ : ∃ m : Int, m = k0 + 4 * (k : Int) := ⟨_, rfl⟩
      rw [← hm]
      have mb : 0 ≤ m ∧ m ≤ 20000000 := by omega
      have w1 : IntKind.i64.wrap (m + 1) = m + 1 := wr64 (by omega) (by omega)
      have w2 : IntKind.i64.wrap (m + 1 + 1) = m + 2 := by rw [show m + 1 + 1 = m + 2 by omega]; exact wr64 (by omega) (by omega)
      have w3 : IntKind.i64.wrap (m + 2 + 1) = m + 3 := by rw [show m + 2 + 1 = m + 3 by omega]; exact wr64 (by omega) (by omega)
      have w4 : IntKind.i64.wrap (m + 3 + 1) = m + 4 := by rw [show m + 3 + 1 = m + 4 by omega]; exact wr64 (by omega) (by omega)
      have HS : Hid _ := rq_set hown2 k hlt ⟨m, m + 1, m + 2, m + 3⟩
      have HG : Hid _ := grown_tr hg (grown_row4 (W := wr) (g := g) (k * 4) (.int .i64 m) (.int .i64 (m + 1)) (.int .i64 (m + 2)) (.int .i64 (m + 3)))
      have HLL : Hid (l.length = n) := rq_len hown2
      have HM : Hid _ := hm
      clear hm hown2 hg
      go_wp2
      go_roundw
      case rel =>
        refine ⟨k + 1, by omega, by go_num, by rw [HM.out]; congr 1; omega, ⟨_, HS.out, fun q hq => ?_⟩, HG.out⟩
        rw [rg_set _ _ _ _ (by rw [HLL.out]; exact hlt)]
        split
        · next e => subst e; rw [mkR_get k0 n q hlt, HM.out]
        · exact HL.out q (by omega)
      case measure => simp [intOf]; omega
    · have hkn : k = n := by omega
      subst hkn
      go_wp2
      go_ret
      have : l = mkR k0 k := rg_ext (by rw [rq_len hown2, mkR_len]) (fun q hq => HL.out q (by rw [← rq_len hown2]; exact hq))
      subst this
      exact ⟨rfl, hown2, hg⟩
theorem heldRecSC (a : Option Addr) (n cap : Nat) (k0 : Int) (w : World) (h : Rs w a n cap (mkR k0 n)) (hn : n ≤ 1048576) (h0 : 0 ≤ k0) (h1 : k0 ≤ 10000000) :
    Calls Try.prog 35 #[.slice a n cap, .int .i64 k0] w fun e w' => e = .returned (.int .i64 (k0 + 4 * (n : Int))) ∧ w' = w := by
  go_enter Try.func35, Try.ntmps35
  go_wp2
  go_loop [5, 1] (fun i m => ∃ k : Nat, k ≤ n ∧ i = .int .i64 k ∧ m = .int .i64 (k0 + 4 * (k : Int))) (fun i _ => n - (intOf i).toNat)
  case atStart => exact ⟨0, Nat.zero_le _, rfl, by simp⟩
  case round =>
    obtain ⟨k, hk, rfl, rfl⟩ := hrel
    by_cases hlt : k < n
    · obtain ⟨b, o, rfl, hbs, hcell⟩ := h.opened (by omega)
      have hr := hcell k hlt
      rw [mkR_get k0 n k hlt] at hr
      obtain ⟨d0, d1, d2, d3⟩ := hr
      dsimp only at d0 d1 d2 d3
      obtain ⟨m, hm⟩ : ∃ m : Int, m = k0 + 4 * (k : Int) := ⟨_, rfl⟩
      rw [← hm] at d0 d1 d2 d3 ⊢
      have mb : 0 ≤ m ∧ m ≤ 20000000 := by omega
      have w1 : IntKind.i64.wrap (m + 1) = m + 1 := wr64 (by omega) (by omega)
      have w2 : IntKind.i64.wrap (m + 1 + 1) = m + 2 := by rw [show m + 1 + 1 = m + 2 by omega]; exact wr64 (by omega) (by omega)
      have w3 : IntKind.i64.wrap (m + 2 + 1) = m + 3 := by rw [show m + 2 + 1 = m + 3 by omega]; exact wr64 (by omega) (by omega)
      have w4 : IntKind.i64.wrap (m + 3 + 1) = m + 4 := by rw [show m + 3 + 1 = m + 4 by omega]; exact wr64 (by omega) (by omega)
      have e0 : (m != m) = false := by simp
      have e1 : (m + 1 != m + 1) = false := by simp
      have e2 : (m + 2 != m + 2) = false := by simp
      have e3 : (m + 3 != m + 3) = false := by simp
      have HM : Hid _ := hm
      clear hm hcell
      go_wp2
      go_round
      case rel => exact ⟨k + 1, by omega, by go_num, by rw [HM.out]; congr 1; omega⟩
      case measure => simp [intOf]; omega
    · have hkn : k = n := by omega
      subst hkn
      go_wp2
      go_ret
      exact ⟨rfl, rfl⟩
end Go.Proofs.Ytjceajgefpinpaa
