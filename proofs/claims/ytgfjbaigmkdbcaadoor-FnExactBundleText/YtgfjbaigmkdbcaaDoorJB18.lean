/-
  What is proved here: what the laws' helpers on lists of Need do: toNeedS and the like; what the laws' toBundle, eqBundle, szBundle answer; what both sides' BundleText answer.
-/
import Derived.Test.YtgfjbaigmkdbcaaDoorJB17
import Derived.Test.YtgfjbaigmkdbcaaDoorTm
import Derived.Test.YtgfjbaigmkdbcaaDoorJB1
import Derived.Test.YtgfjbaigmkdbcaaDoorJB16
import Derived.Test.YtgfjbaigmkdbcaaDoorJB10
import Derived.Test.YtgfjbaigmkdbcaaDoorBd
namespace Go.Proofs.YtgfjbaigmkdbcaaDoor
open Go.RowKit
set_option maxRecDepth 100000
set_option maxHeartbeats 4000000
set_option linter.unusedVariables false

theorem szNeedSC (a : Option Addr) (n cap : Nat) (left : Int) (w : World) (h0 : 0 ≤ left) (h1 : left ≤ 1048576) (hn : n ≤ 9223372036854775807) :
    Calls Tryd.prog 26 #[.slice a n cap, .int .i64 left] w fun e w' => ∃ x : Int, e = .returned (.int .i64 x) ∧ (x = -1 ∨ (0 ≤ x ∧ x ≤ 1048576 ∧ (n : Int) ≤ left)) ∧ Below w.heap.size w w' := by
  have hw : IntKind.i64.wrap (left - n) = left - n := wr64 (by omega) (by omega)
  by_cases h : left - (n : Int) < 0
  all_goals
    go_enter Tryd.func26, Tryd.ntmps26
    go_wp2
    go_ret
  · exact ⟨_, rfl, .inl rfl, Below.refl _ _⟩
  · exact ⟨_, rfl, .inr ⟨by omega, by omega, by omega⟩, Below.refl _ _⟩

theorem toNeedSC (a : Option Addr) (n cap : Nat) (xs : List Rc) (w : World) (h : Rs w a n cap xs) (hn : n ≤ 1048576) :
    Calls Tryd.prog 30 #[.slice a n cap] w fun e w' => ∃ a' c', e = .returned (.slice a' n c') ∧ w'.ownsRow w.heap.size 65 4 (.slice a' n c') n (FL xs) ∧ Below w.heap.size w w' := by
  obtain ⟨i0, hi, hz0, hz1, hz2⟩ := info_parts (show (Tryd.prog.info? 65).map (fun i => (i.zero, i.size, i.bytes)) = some (some (rcV 0 0 0 0), 4, 32) by kernel_rfl)
  have hl := h.2.1
  go_enter Tryd.func30, Tryd.ntmps30
  go_wp2_with (at_make; refine wpList_make_full _ rfl _ _ 30 rfl w.heap.size 65 i0 (rcV 0 0 0 0) 4 Tryd.underlying30 hi hz0 hz1 .i64 .i64 n n n rfl rfl rfl rfl (by rw [hz2]; omega) (by unfold maxLen; omega) (Nat.le_refl _) ?_; intro w1 hown hgrow)
  have hbel : Below w.heap.size w w1 := (Below.refl _ _).grown hgrow (Nat.le_refl _) (by intro k hk; cases hk)
  have hown0 : w1.ownsRow w.heap.size 65 4 (.slice (some ⟨w.heap.size, 0, none⟩) n n) n (FL (List.replicate n rz)) := by
    rw [← FL_rep]; exact hown
  clear hown hgrow
  go_loopw [4] (fun i wr => ∃ k : Nat, k ≤ n ∧ i = .int .i64 k ∧ (∃ l, wr.ownsRow w.heap.size 65 4 (.slice (some ⟨w.heap.size, 0, none⟩) n n) n (FL l) ∧ ∀ q, q < k → rg l q = rg xs q) ∧ Below w.heap.size w wr) (fun i _ => n - (intOf i).toNat)
  case atStart => exact ⟨0, Nat.zero_le _, rfl, ⟨_, hown0, by omega⟩, hbel⟩
  case round =>
    obtain ⟨k, hk, rfl, ⟨l, hown, hall⟩, hb⟩ := hrel
    have HL : Hid _ := hall
    clear hown0 hbel hall
    by_cases hlt : k < n
    · obtain ⟨b, o, rfl, hbs, hcell⟩ := h.opened (by omega)
      obtain ⟨x, hx⟩ : ∃ x, x = rg xs k := ⟨_, rfl⟩
      have hr := hcell k hlt
      rw [← hx] at hr
      obtain ⟨c0, c1, c2, c3⟩ := hr.below hbs (hb.mono (Nat.le_refl _))
      have HX : Hid _ := hx
      clear hx hcell
      obtain ⟨xk, xb, xn, xf⟩ := x
      dsimp only at c0 c1 c2 c3
      go_wp2_with fail
      refine (toNeedC xk xb xn xf _).mono ?_
      rintro e w2 ⟨rfl, hb2⟩
      have hown2 := own_below hown hb2
      have hB2 := hb.trans (hb2.mono hb.size)
      obtain ⟨d0, d1, d2, d3⟩ := rq_at hown2 k hlt
      have f0 := fun j => hown2.frozenAt j
      have HS : Hid _ := rq_set hown2 k hlt ⟨xk, xb, xn, xf⟩
      have HB : Hid _ := bel_row4 hB2 (Nat.le_refl w.heap.size) (k * 4) (.int .i64 xk) (.int .i64 xb) (.int .i64 xn) (.int .i64 xf)
      have lS := (hown2.lt w.heap.size rfl).2
      have hll := rq_len hown2
      have HLL : Hid (l.length = n) := hll
      clear hll hown hown2 hb hb2 hB2 c0 c1 c2 c3
      go_wp2
      go_roundw
      case rel =>
        refine ⟨k + 1, by omega, by go_num, ⟨_, HS.out, fun q hq => ?_⟩, HB.out⟩
        rw [rg_set _ _ _ _ (by rw [HLL.out]; exact hlt)]
        split
        · next e => rw [e]; exact HX.out
        · exact HL.out q (by omega)
      case measure => simp [intOf]; omega
    · have hkn : k = n := by omega
      subst hkn
      go_wp2
      go_ret
      have : l = xs := rg_ext (by rw [rq_len hown, hl]) (fun q hq => HL.out q (by rw [← rq_len hown]; exact hq))
      subst this
      exact ⟨_, _, rfl, hown, hb⟩

theorem eqNeedSC (a a' : Option Addr) (n cap cap' : Nat) (xs : List Rc) (w : World) (h : Rs w a n cap xs) (h' : Rs w a' n cap' xs) (hn : n ≤ 1048576) :
    Calls Tryd.prog 35 #[.slice a n cap, .slice a' n cap'] w fun e w' => e = .returned (.bool true) ∧ Below w.heap.size w w' := by
  have hne : ((n : Int) != (n : Int)) = false := by simp
  go_enter Tryd.func35, Tryd.ntmps35
  go_wp2
  go_loopw [5] (fun i wr => ∃ k : Nat, k ≤ n ∧ i = .int .i64 k ∧ Below w.heap.size w wr) (fun i _ => n - (intOf i).toNat)
  case atStart => exact ⟨0, Nat.zero_le _, rfl, Below.refl _ _⟩
  case round =>
    obtain ⟨k, hk, rfl, hb⟩ := hrel
    by_cases hlt : k < n
    · have hltI : (k : Int) < (n : Int) := by omega
      obtain ⟨b, o, rfl, hbs, hcell⟩ := h.opened (by omega)
      obtain ⟨b', o', rfl, hbs', hcell'⟩ := h'.opened (by omega)
      obtain ⟨x, hx⟩ : ∃ x, x = rg xs k := ⟨_, rfl⟩
      have hr := hcell k hlt
      have hr' := hcell' k hlt
      rw [← hx] at hr hr'
      clear hx hcell hcell'
      obtain ⟨xk, xb, xn, xf⟩ := x
      obtain ⟨c0, c1, c2, c3⟩ := hr.below hbs (hb.mono (Nat.le_refl _))
      obtain ⟨d0, d1, d2, d3⟩ := hr'.below hbs' (hb.mono (Nat.le_refl _))
      dsimp only at c0 c1 c2 c3 d0 d1 d2 d3
      have l1 : b < wr.heap.size := Nat.lt_of_lt_of_le hbs hb.size
      have l2 : b' < wr.heap.size := Nat.lt_of_lt_of_le hbs' hb.size
      go_wp2
      try simp only [Act.put]
      refine tameG [kc 17 (.slice (some ⟨b, o, none⟩) n cap), kc 18 (.int .i64 (k : Int)), kc 19 (.pointer (some ⟨b, o + k * 4, none⟩)), kc 20 (.agg #[.int .i64 xk, .int .i64 xb, .int .i64 xn, .int .i64 xf]), kc 21 (.slice (some ⟨b', o', none⟩) n cap'), kc 22 (.int .i64 (k : Int)), kc 23 (.pointer (some ⟨b', o' + k * 4, none⟩)), kc 24 (.agg #[.int .i64 xk, .int .i64 xb, .int .i64 xn, .int .i64 xf]), kc 25 (.bool true), kc 26 (.bool false)] 10 (by kernel_rfl) (by kernel_rfl) (by kernel_rfl) (by repeat' first | exact trivial | apply kc_keeps | constructor) 0 (by kernel_rfl) (fun vv ll hh yW bW => ?_) (fun vv ll hh yW bW F ivh aph => ?_)
      · have x0 := (bW.cell (p := ⟨b, _, none⟩) l1).trans c0
        have x1 := (bW.cell (p := ⟨b, _, none⟩) l1).trans c1
        have x2 := (bW.cell (p := ⟨b, _, none⟩) l1).trans c2
        have x3 := (bW.cell (p := ⟨b, _, none⟩) l1).trans c3
        have y0 := (bW.cell (p := ⟨b', _, none⟩) l2).trans d0
        have y1 := (bW.cell (p := ⟨b', _, none⟩) l2).trans d1
        have y2 := (bW.cell (p := ⟨b', _, none⟩) l2).trans d2
        have y3 := (bW.cell (p := ⟨b', _, none⟩) l2).trans d3
        refine ⟨og (tp (by kernel_rfl)) (by kernel_rfl), og (tp (by kernel_rfl)) (by kernel_rfl), og (tp ?_) (by kernel_rfl), og (tp ?_) (by kernel_rfl), og (tp (by kernel_rfl)) (by kernel_rfl), og (tp (by kernel_rfl)) (by kernel_rfl), og (tp ?_) (by kernel_rfl), og (tp ?_) (by kernel_rfl), og (tc (eqNeedC xk xb xn xf _) (by kernel_rfl)) (by kernel_rfl), og (tp (by kernel_rfl)) (by kernel_rfl), trivial⟩
        all_goals
          simp only [fillK, putT, List.setIfInBounds_toArray, List.set_cons_zero, List.set_cons_succ]
          unfold execOp
          go_simp
          try rfl
      clear F ivh aph
      obtain ⟨y, hy⟩ : ∃ z, z = yW := ⟨_, rfl⟩
      rw [← hy] at bW ⊢
      clear hy
      refine wpAny_done (by kernel_rfl) ?_ _
      simp only [fillK, putT, List.setIfInBounds_toArray, List.set_cons_zero, List.set_cons_succ]
      replace hb := hb.trans (bW.mono hb.size)
      clear bW c0 c1 c2 c3 d0 d1 d2 d3
      go_wp2
      go_roundw
      case rel => exact ⟨k + 1, by omega, by go_num, hb⟩
      case measure => simp [intOf]; omega
    · have hkn : k = n := by omega
      subst hkn
      go_wp2
      go_ret
      exact ⟨rfl, hb⟩
theorem markNeedSC (B n : Nat) (v : Value) (k0 : Int) (xs : List Rc) (w : World) (hown : w.ownsRow B 65 4 v n (FL xs)) (hn : n ≤ 1048576) (h0 : 0 ≤ k0) (h1 : k0 ≤ 2000000000000000) :
    Calls Tryd.prog 37 #[v, .int .i64 k0] w fun e w' => e = .returned (.int .i64 (k0 + 4 * (n : Int))) ∧ w'.ownsRow B 65 4 v n (FL (mkR k0 n)) ∧ w.grownBy w' v.ownBlock := by
  by_cases hn0 : n = 0
  · subst hn0
    have hx : xs = [] := List.eq_nil_of_length_eq_zero (rq_len hown)
    subst hx
    obtain ⟨a, c, rfl, _, _⟩ := Rs.own hown
    go_enter Tryd.func37, Tryd.ntmps37
    go_wp2
    go_loopw [5, 1] (fun i m wr => i = .int .i64 0 ∧ m = .int .i64 k0 ∧ wr = w) (fun i _ _ => 0)
    case atStart => exact ⟨rfl, rfl, rfl⟩
    case round =>
      obtain ⟨rfl, rfl, rfl⟩ := hrel
      go_wp2
      go_ret
      exact ⟨by simp, hown, World.grownBy.refl _ _⟩
  obtain ⟨g, cap, rfl⟩ : ∃ g cap, v = .slice (some ⟨g, 0, none⟩) n cap := by
    rcases hown.2 with ⟨_, h⟩ | ⟨g, cap, cur, h, _⟩
    · exact absurd h hn0
    · exact ⟨g, cap, h⟩
  go_enter Tryd.func37, Tryd.ntmps37
  go_wp2
  go_loopw [5, 1] (fun i m wr => ∃ k : Nat, k ≤ n ∧ i = .int .i64 k ∧ m = .int .i64 (k0 + 4 * (k : Int)) ∧ (∃ l, wr.ownsRow B 65 4 (.slice (some ⟨g, 0, none⟩) n cap) n (FL l) ∧ ∀ q, q < k → rg l q = rg (mkR k0 n) q) ∧ w.grownBy wr (some g)) (fun i _ _ => n - (intOf i).toNat)
  case atStart => exact ⟨0, Nat.zero_le _, rfl, by simp, ⟨_, hown, by omega⟩, World.grownBy.refl _ _⟩
  case round =>
    obtain ⟨k, hk, rfl, rfl, ⟨l, hown2, hall⟩, hg⟩ := hrel
    have HL : Hid _ := hall
    clear hall hown
    by_cases hlt : k < n
    · obtain ⟨d0, d1, d2, d3⟩ := rq_at hown2 k hlt
      have f0 := fun j => hown2.frozenAt j
      have lS := (hown2.lt g rfl).2
      obtain ⟨m, hm⟩ : ∃ m : Int, m = k0 + 4 * (k : Int) := ⟨_, rfl⟩
      rw [← hm]
      have mb : 0 ≤ m ∧ m ≤ 200000001000000010000000 := by omega
      have w1 : IntKind.i64.wrap (m + 1) = m + 1 := wr64 (by omega) (by omega)
      have w2 : IntKind.i64.wrap (m + 1 + 1) = m + 2 := by rw [show m + 1 + 1 = m + 2 by omega]; exact wr64 (by omega) (by omega)
      have w3 : IntKind.i64.wrap (m + 2 + 1) = m + 3 := by rw [show m + 2 + 1 = m + 3 by omega]; exact wr64 (by omega) (by omega)
      have w4 : IntKind.i64.wrap (m + 3 + 1) = m + 4 := by rw [show m + 3 + 1 = m + 4 by omega]; exact wr64 (by omega) (by omega)
      have HS : Hid _ := rq_set hown2 k hlt ⟨m, m + 1, m + 2, m + 3⟩
      have HG : Hid _ := grown_tr hg (grown_row4 (W := wr) (g := g) (k * 4) (.int .i64 m) (.int .i64 (m + 1)) (.int .i64 (m + 2)) (.int .i64 (m + 3)))
      have HLL : Hid (l.length = n) := rq_len hown2
      have HM : Hid _ := hm
      clear hm hown2 hg
      go_wp2
      go_roundw
      case rel =>
        refine ⟨k + 1, by omega, by go_num, by rw [HM.out]; congr 1; omega, ⟨_, HS.out, fun q hq => ?_⟩, HG.out⟩
        rw [rg_set _ _ _ _ (by rw [HLL.out]; exact hlt)]
        split
        · next e => subst e; rw [mkR_get k0 n q hlt, HM.out]
        · exact HL.out q (by omega)
      case measure => simp [intOf]; omega
    · have hkn : k = n := by omega
      subst hkn
      go_wp2
      go_ret
      have : l = mkR k0 k := rg_ext (by rw [rq_len hown2, mkR_len]) (fun q hq => HL.out q (by rw [← rq_len hown2]; exact hq))
      subst this
      exact ⟨rfl, hown2, hg⟩
end Go.Proofs.YtgfjbaigmkdbcaaDoor
namespace Go.Proofs.YtgfjbaigmkdbcaaDoor
open Go.RowKit
set_option maxRecDepth 100000
set_option maxHeartbeats 4000000
set_option linter.unusedVariables false

abbrev nrc (x : NeedM) : Rc := ⟨x.o, x.f, x.t, x.k⟩
theorem rg_nrc (ns : List NeedM) (i : Nat) (h : i < ns.length) : rg (ns.map nrc) i = nrc (ns.getD i nz) := by simp [rg, h]
theorem Ns.rs {W : World} {a : Option Addr} {n c : Nat} {ns : List NeedM} (h : Ns W a n c ns) : Rs W a n c (ns.map nrc) := by
  obtain ⟨h0, h1, h2, h3⟩ := h
  refine ⟨h0, by simpa using h1, h2, ?_⟩
  rcases h3 with h3 | ⟨b, o, e, hb, hc⟩
  · exact .inl h3
  · refine .inr ⟨b, o, e, hb, fun i hi => ?_⟩
    rw [rg_nrc _ _ (by omega)]
    exact ⟨(hc i hi).o, (hc i hi).f, (hc i hi).t, (hc i hi).k⟩
theorem Rs.ns {W : World} {a : Option Addr} {n c : Nat} {ns : List NeedM} (h : Rs W a n c (ns.map nrc)) : Ns W a n c ns := by
  obtain ⟨h0, h1, h2, h3⟩ := h
  have h1' : ns.length = n := by simpa using h1
  refine ⟨h0, h1', h2, ?_⟩
  rcases h3 with h3 | ⟨b, o, e, hb, hc⟩
  · exact .inl h3
  · refine .inr ⟨b, o, e, hb, fun i hi => ?_⟩
    have := hc i hi
    rw [rg_nrc _ _ (by omega)] at this
    exact ⟨this.h0, this.h1, this.h2, this.h3⟩
abbrev bunV (d n f : Int) (pa : Option Addr) (pn pc : Nat) (na : Option Addr) (nn nc : Nat) : Value := .agg #[.int .i64 d, .int .i64 n, .int .i64 f, .slice pa pn pc, .slice na nn nc]
theorem szBundleC (d n f : Int) (pa : Option Addr) (pn pc : Nat) (na : Option Addr) (nn nc : Nat) (ps : List PartM) (l : Int) (w : World) (hP : Ps w pa pn pc ps) (h0 : 0 ≤ l) (hl : l ≤ 1048576) (hp : pn ≤ 9223372036854775807) (hq : ∀ q, q < pn → (ps.getD q pz).h.length ≤ 9223372036854775807) (hn : nn ≤ 9223372036854775807) :
    Calls Tryd.prog 7 #[bunV d n f pa pn pc na nn nc, .int .i64 l] w fun e w' => ∃ r : Int, e = .returned (.int .i64 r) ∧ (r = -1 ∨ 0 ≤ r ∧ PqSm pn ps ∧ nn ≤ 1048576) ∧ Below w.heap.size w w' := by
  obtain ⟨V, hV⟩ : ∃ V, V = w.alloc (.cells #[.int .i64 d, .int .i64 n, .int .i64 f, .slice pa pn pc, .slice na nn nc] 25) := ⟨_, rfl⟩
  have B : Below w.heap.size w V := by rw [hV]; exact (Below.refl _ _).alloc (Nat.le_refl _) _
  have A : Arr V w.heap.size 25 [.int .i64 d, .int .i64 n, .int .i64 f, .slice pa pn pc, .slice na nn nc] := by rw [hV]; exact Arr.new _ _ _
  have HQ : Hid _ := hq
  have HP : Hid (Ps w pa pn pc ps) := hP
  clear hq hP
  go_enter Tryd.func7, Tryd.ntmps7
  go_wp2_with fail
  rw [← hV]
  clear hV
  refine (szPartSC pa pn pc ps l _ (HP.out.below B) h0 hl hp HQ.out).mono ?_
  rintro e w1 ⟨x, rfl, hx, hb⟩
  replace A := A.kept hb
  replace B := B.trans (hb.mono B.size)
  clear hb
  rcases hx with rfl | ⟨x0, x1, hs⟩
  · go_wp2
    go_ret
    exact ⟨_, rfl, .inl rfl, B⟩
  have hx' : ¬ x < 0 := by omega
  have HS : Hid _ := hs
  clear hs HQ HP
  have c0 := A.cell 4
  simp at c0
  go_wp2_with fail
  refine (szNeedSC na nn nc x _ x0 (by omega) hn).mono ?_
  rintro e w2 ⟨y, rfl, hy, hb⟩
  replace B := B.trans (hb.mono B.size)
  clear hb c0 A
  rcases hy with rfl | ⟨y0, y1, y2⟩
  · go_wp2
    go_ret
    exact ⟨_, rfl, .inl rfl, B⟩
  have hy' : ¬ y < 0 := by omega
  go_wp2
  go_ret
  exact ⟨_, rfl, .inr ⟨y0, HS.out, by omega⟩, B⟩
theorem eqBundleC (d n f : Int) (pa : Option Addr) (pn pc : Nat) (na : Option Addr) (nn nc : Nat) (pa' : Option Addr) (pc' : Nat) (na' : Option Addr) (nc' : Nat) (ps : List PartM) (ns : List NeedM) (w : World)
    (hP : Ps w pa pn pc ps) (hN : Ns w na nn nc ns) (hP' : Ps w pa' pn pc' ps) (hN' : Ns w na' nn nc' ns) (hp : PqSm pn ps) (hn : nn ≤ 1048576) :
    Calls Tryd.prog 12 #[bunV d n f pa pn pc na nn nc, bunV d n f pa' pn pc' na' nn nc'] w fun e w' => e = .returned (.bool true) ∧ Below w.heap.size w w' := by
  have h0 : (d != d) = false := by simp
  have h1 : (n != n) = false := by simp
  have h2 : (f != f) = false := by simp
  obtain ⟨V, hV⟩ : ∃ V, V = (w.alloc (.cells #[.int .i64 d, .int .i64 n, .int .i64 f, .slice pa pn pc, .slice na nn nc] 32)).alloc (.cells #[.int .i64 d, .int .i64 n, .int .i64 f, .slice pa' pn pc', .slice na' nn nc'] 32) := ⟨_, rfl⟩
  have B : Below w.heap.size w V := by rw [hV]; exact ((Below.refl _ _).alloc (Nat.le_refl _) _).alloc (by simp) _
  have A0 : Arr V w.heap.size 32 [.int .i64 d, .int .i64 n, .int .i64 f, .slice pa pn pc, .slice na nn nc] := by rw [hV]; exact (Arr.new _ _ _).alloc _
  have A1 : Arr V (w.heap.size + 1) 32 [.int .i64 d, .int .i64 n, .int .i64 f, .slice pa' pn pc', .slice na' nn nc'] := by
    rw [hV]
    have := Arr.new (w.alloc (.cells #[.int .i64 d, .int .i64 n, .int .i64 f, .slice pa pn pc, .slice na nn nc] 32)) [.int .i64 d, .int .i64 n, .int .i64 f, .slice pa' pn pc', .slice na' nn nc'] 32
    simpa using this
  have HH : Hid (Ps w pa pn pc ps ∧ Ns w na nn nc ns ∧ Ps w pa' pn pc' ps ∧ Ns w na' nn nc' ns ∧ PqSm pn ps) := ⟨hP, hN, hP', hN', hp⟩
  clear hP hN hP' hN' hp
  go_enter Tryd.func12, Tryd.ntmps12
  go_wp2_with fail
  rw [← hV]
  clear hV
  refine (eqPartSC pa pa' pn pc pc' ps _ (HH.out.1.below B) (HH.out.2.2.1.below B) HH.out.2.2.2.2).mono ?_
  rintro e w1 ⟨rfl, hb⟩
  replace A0 := A0.kept hb
  replace A1 := A1.kept hb
  replace B := B.trans (hb.mono B.size)
  clear hb
  have c0 := A0.cell 4
  have c1 := A1.cell 4
  simp at c0 c1
  go_wp2_with fail
  refine (eqNeedSC na na' nn nc nc' _ _ (HH.out.2.1.below B).rs (HH.out.2.2.2.1.below B).rs hn).mono ?_
  rintro e w2 ⟨rfl, hb⟩
  replace B := B.trans (hb.mono B.size)
  clear hb c0 c1
  go_wp2
  go_ret
  exact ⟨rfl, B⟩
theorem toBundleC (d n f : Int) (pa : Option Addr) (pn pc : Nat) (na : Option Addr) (nn nc : Nat) (ps : List PartM) (ns : List NeedM) (w : World) (hP : Ps w pa pn pc ps) (hN : Ns w na nn nc ns) (hp : PqSm pn ps) (hn : nn ≤ 1048576) :
    Calls Tryd.prog 9 #[bunV d n f pa pn pc na nn nc] w fun e w' => ∃ pa' pc' na' nc', e = .returned (bunV d n f pa' pn pc' na' nn nc') ∧ Pq w.heap.size w' pa' pn pc' ps ∧ w'.ownsRow w.heap.size 65 4 (.slice na' nn nc') nn (FL (ns.map nrc)) ∧ Below w.heap.size w w' := by
  obtain ⟨V, hV⟩ : ∃ V, V = (((w.alloc (.cells #[.int .i64 d, .int .i64 n, .int .i64 f, .slice pa pn pc, .slice na nn nc] 25)).alloc (.cells #[.int .i64 0, .int .i64 0, .int .i64 0, .slice none 0 0, .slice none 0 0] 32)).alloc (.cells #[.int .i64 d, .int .i64 n, .int .i64 f, .slice none 0 0, .slice none 0 0] 32)) := ⟨_, rfl⟩
  have hL : Below w.heap.size w V := by rw [hV]; exact (((Below.refl _ _).alloc (Nat.le_refl _) _).alloc (by simp) _).alloc (by simp; omega) _
  have hA0 : Arr V w.heap.size 25 [.int .i64 d, .int .i64 n, .int .i64 f, .slice pa pn pc, .slice na nn nc] := by
    rw [hV]
    have := ((Arr.new w [.int .i64 d, .int .i64 n, .int .i64 f, .slice pa pn pc, .slice na nn nc] 25).alloc (.cells #[.int .i64 0, .int .i64 0, .int .i64 0, .slice none 0 0, .slice none 0 0] 32)).alloc (.cells #[.int .i64 d, .int .i64 n, .int .i64 f, .slice none 0 0, .slice none 0 0] 32)
    exact this
  have hA1 : Arr V (w.heap.size + 1) 32 [.int .i64 0, .int .i64 0, .int .i64 0, .slice none 0 0, .slice none 0 0] := by
    rw [hV]
    have := (Arr.new (w.alloc (.cells #[.int .i64 d, .int .i64 n, .int .i64 f, .slice pa pn pc, .slice na nn nc] 25)) [.int .i64 0, .int .i64 0, .int .i64 0, .slice none 0 0, .slice none 0 0] 32).alloc (.cells #[.int .i64 d, .int .i64 n, .int .i64 f, .slice none 0 0, .slice none 0 0] 32)
    simpa using this
  have hA2 : Arr V (w.heap.size + 1 + 1) 32 [.int .i64 d, .int .i64 n, .int .i64 f, .slice none 0 0, .slice none 0 0] := by
    rw [hV]
    have := Arr.new ((w.alloc (.cells #[.int .i64 d, .int .i64 n, .int .i64 f, .slice pa pn pc, .slice na nn nc] 25)).alloc (.cells #[.int .i64 0, .int .i64 0, .int .i64 0, .slice none 0 0, .slice none 0 0] 32)) [.int .i64 d, .int .i64 n, .int .i64 f, .slice none 0 0, .slice none 0 0] 32
    simpa using this
  have zV : w.heap.size + 3 ≤ V.heap.size := by rw [hV]; simp
  have HN : Hid (Ns w na nn nc ns) := hN
  have HP : Hid (PqSm pn ps) := hp
  go_enter Tryd.func9, Tryd.ntmps9
  go_wp2_with fail
  rw [← hV]
  refine (toPartSC pa pn pc ps _ (hP.below hL) HP.out).mono ?_
  rintro e w1 ⟨a1, c1, rfl, ho1, hb1⟩
  clear hV hP hN hp
  have hb1' := hL.trans (hb1.mono hL.size)
  have k0 := hA0.kept hb1
  have k1 := hA1.kept hb1
  have k2 := hA2.kept hb1
  clear hA0 hA1 hA2
  have c4 := k0.cell 4
  have d3 := k2.cell 3
  have f2 := k2.frozen
  simp at c4 d3
  have hlt := k2.lt
  go_wp2_with fail
  have hb2 : Below w.heap.size w (w1.setCell ⟨w.heap.size + 1 + 1, 3, none⟩ (.slice a1 pn c1)) := hb1'.setCell (by simp; omega) _
  have hWW2 : V.heap.size ≤ (w1.setCell ⟨w.heap.size + 1 + 1, 3, none⟩ (.slice a1 pn c1)).heap.size := by simpa using hb1.size
  have ho2 := ho1.other ⟨w.heap.size + 1 + 1, 3, none⟩ (.slice a1 pn c1) (by simp; omega)
  have m1 := k1.other ⟨w.heap.size + 1 + 1, 3, none⟩ (.slice a1 pn c1) (by simp)
  have m2 : Arr _ _ _ [.int .i64 d, .int .i64 n, .int .i64 f, .slice a1 pn c1, .slice none 0 0] := k2.set 3 (.slice a1 pn c1)
  generalize (w1.setCell ⟨w.heap.size + 1 + 1, 3, none⟩ (.slice a1 pn c1)) = W2 at hb2 ho2 m1 m2 hWW2 ⊢
  clear c4 d3 f2 hlt k0 k1 k2 ho1 hb1 hb1'
  refine (toNeedSC na nn nc _ _ (HN.out.below hb2).rs hn).mono ?_
  rintro e w3 ⟨a3, c3, rfl, ho3, hb3⟩
  have n1 := m1.kept hb3
  have n2 := m2.kept hb3
  have e0 := n1.cell 0
  have e1 := n1.cell 1
  have e2 := n1.cell 2
  have e3 := n1.cell 3
  have e4 := n1.cell 4
  have d0 := n2.cell 0
  have d1 := n2.cell 1
  have d2 := n2.cell 2
  have d3 := n2.cell 3
  have d4 := n2.cell 4
  have f1 := n1.frozen
  have f2 := n2.frozen
  simp at e0 e1 e2 e3 e4 d0 d1 d2 d3 d4
  have hb4 := hb2.trans (hb3.mono hb2.size)
  have HO : Hid (∀ q u, q.block < V.heap.size → ∀ q0 u0, q0.block < V.heap.size → ∀ q1 u1, q1.block < V.heap.size → ∀ q2 u2, q2.block < V.heap.size → ∀ q3 u3, q3.block < V.heap.size → ∀ q4 u4, q4.block < V.heap.size → Pq w.heap.size ((((((w3.setCell q u).setCell q0 u0).setCell q1 u1).setCell q2 u2).setCell q3 u3).setCell q4 u4) a1 pn c1 ps ∧ ((((((w3.setCell q u).setCell q0 u0).setCell q1 u1).setCell q2 u2).setCell q3 u3).setCell q4 u4).ownsRow w.heap.size 65 4 (.slice a3 nn c3) nn (FL (ns.map nrc))) := by
    intro q u h q0 u0 h0 q1 u1 h1 q2 u2 h2 q3 u3 h3 q4 u4 h4
    exact ⟨((((((((ho2.below hb3).other q u h).other q0 u0 h0).other q1 u1 h1).other q2 u2 h2).other q3 u3 h3).other q4 u4 h4)).base hL.size, own_base (own_other (own_other (own_other (own_other (own_other (own_other (own_base ho3 hWW2) q u h) q0 u0 h0) q1 u1 h1) q2 u2 h2) q3 u3 h3) q4 u4 h4) hL.size⟩
  have HF : Hid (∀ u u0 u1 u2 u3 u4, Below w.heap.size w ((((((w3.setCell ⟨w.heap.size + 1 + 1, 4, none⟩ u).setCell ⟨w.heap.size + 1, 0, none⟩ u0).setCell ⟨w.heap.size + 1, 1, none⟩ u1).setCell ⟨w.heap.size + 1, 2, none⟩ u2).setCell ⟨w.heap.size + 1, 3, none⟩ u3).setCell ⟨w.heap.size + 1, 4, none⟩ u4)) := fun u u0 u1 u2 u3 u4 =>
    (((((hb4.setCell (by simp; omega) _).setCell (by simp) _).setCell (by simp) _).setCell (by simp) _).setCell (by simp) _).setCell (by simp) _
  have K1 : Hid (Arr w3 (w.heap.size + 1) 32 [.int .i64 0, .int .i64 0, .int .i64 0, .slice none 0 0, .slice none 0 0]) := n1
  clear hb4 ho2 ho3 hb3 hb2 m1 m2 hL n1 n2
  go_wp2
  have K2 : Arr w3 (w.heap.size + 1) 32 [.int .i64 0, .int .i64 0, .int .i64 0, .slice none 0 0, .slice none 0 0] := K1.out
  have n3 := (((((K2.other ⟨w.heap.size + 1 + 1, 4, none⟩ (.slice a3 nn c3) (by simp)).set 0 (.int .i64 d)).set 1 (.int .i64 n)).set 2 (.int .i64 f)).set 3 (.slice a1 pn c1)).set 4 (.slice a3 nn c3)
  have H := HO.out ⟨w.heap.size + 1 + 1, 4, none⟩ (.slice a3 nn c3) (by simp; omega) ⟨w.heap.size + 1, 0, none⟩ (.int .i64 d) (by simp; omega) ⟨w.heap.size + 1, 1, none⟩ (.int .i64 n) (by simp; omega) ⟨w.heap.size + 1, 2, none⟩ (.int .i64 f) (by simp; omega) ⟨w.heap.size + 1, 3, none⟩ (.slice a1 pn c1) (by simp; omega) ⟨w.heap.size + 1, 4, none⟩ (.slice a3 nn c3) (by simp; omega)
  exact bodyPost_ret (results_cell_row rfl _ _ (w.heap.size + 1) 32 _ (0, 0) _ rfl n3 Tryd.underlying32 rfl (by kernel_rfl)) rfl ⟨a1, c1, a3, c3, rfl, H.1, H.2, HF.out _ _ _ _ _ _⟩
end Go.Proofs.YtgfjbaigmkdbcaaDoor
namespace Go.Proofs.YtgfjbaigmkdbcaaDoor
open Go.RowKit
set_option maxRecDepth 100000
set_option maxHeartbeats 8000000
set_option linter.unusedVariables false

def txP (p : PartM) : List Int := lnL (stB ⟨#[112, 97, 114, 116]⟩) [p.k, p.v, p.s]
def txN (q : NeedM) : List Int := lnL (stB ⟨#[110, 101, 101, 100]⟩) [q.o, q.k, q.f, q.t]
/-- A bundle's lines, as far as j parts and i needs. -/
def txX (B : BunM) (j i : Nat) : List Int := lnL (stB ⟨#[98, 117, 110, 100, 108, 101]⟩) [B.n, B.d, B.f] ++ ((B.ps.take j).map txP).flatten ++ ((B.ns.take i).map txN).flatten
def txB (B : BunM) : List Int := if bOk B = true then txX B B.ps.length B.ns.length else []
theorem ns4 {x y z u : Int} (h : 0 ≤ x ∧ x ≤ 1000000) (h' : 0 ≤ y ∧ y ≤ 1000000) (h'' : 0 ≤ z ∧ z ≤ 1000000) (h3 : 0 ≤ u ∧ u ≤ 1000000) : nsOk [x, y, z, u] := by intro v hv; simp at hv; omega
theorem txX_p (B : BunM) (j : Nat) (h : j < B.ps.length) : txX B (j + 1) 0 = txX B j 0 ++ txP (B.ps.getD j pz) := by
  unfold txX
  rw [List.take_succ_eq_append_getElem h, List.map_append, List.flatten_append]
  simp [h]
theorem txX_n (B : BunM) (m i : Nat) (h : i < B.ns.length) : txX B m (i + 1) = txX B m i ++ txN (B.ns.getD i nz) := by
  unfold txX
  rw [List.take_succ_eq_append_getElem h, List.map_append, List.flatten_append]
  simp [h]
theorem sizB (a : Array UInt8) : (⟨a⟩ : ByteArray).size = a.size := rfl
theorem txX_byte (B : BunM) (j i : Nat) : ∀ x ∈ txX B j i, 0 ≤ x ∧ x < 256 := by
  intro x hx
  unfold txX at hx
  simp only [List.mem_append, List.mem_flatten, List.mem_map] at hx
  rcases hx with (h | ⟨l, ⟨p, _, rfl⟩, h⟩) | ⟨l, ⟨p, _, rfl⟩, h⟩
  · exact lnL_byte _ _ x h
  · exact lnL_byte _ _ x h
  · exact lnL_byte _ _ x h
theorem txB_byte (B : BunM) : ∀ x ∈ txB B, 0 ≤ x ∧ x < 256 := by
  unfold txB
  split
  · exact txX_byte _ _ _
  · intro x hx; cases hx
theorem flat_len {α : Type} (f : α → List Int) (c : Nat) : ∀ l : List α, (∀ x ∈ l, (f x).length ≤ c) → (l.map f).flatten.length ≤ l.length * c
  | [], _ => by simp
  | x :: t, h => by
    have h1 := flat_len f c t (fun y hy => h y (List.mem_cons_of_mem _ hy))
    have h2 := h x (List.mem_cons_self ..)
    rw [List.map_cons, List.flatten_cons, List.length_append, List.length_cons, Nat.succ_mul]
    omega
structure TxOk (B : BunM) : Prop where
  h : nsOk [B.n, B.d, B.f]
  p : ∀ i, i < B.ps.length → nsOk [(B.ps.getD i pz).k, (B.ps.getD i pz).v, (B.ps.getD i pz).s]
  n : ∀ i, i < B.ns.length → nsOk [(B.ns.getD i nz).o, (B.ns.getD i nz).k, (B.ns.getD i nz).f, (B.ns.getD i nz).t]
  pl : B.ps.length ≤ 4
  nl : B.ns.length ≤ 8
theorem tx_ok {B : BunM} (h : bunOk B) : TxOk B := by
  have hh := h.1
  refine ⟨ns3 (by omega) (by omega) (by omega), fun i hi => ?_, fun i hi => ?_, by omega, by omega⟩
  · have := (h.2.1 i hi).1
    exact ns3 (by omega) (by omega) (by omega)
  · have := (h.2.2 i hi).1
    exact ns4 (by omega) (by omega) (by omega) (by omega)
theorem txP_len {p : PartM} (h : nsOk [p.k, p.v, p.s]) : (txP p).length ≤ 40 := by
  have l1 := lnL_len ⟨#[112, 97, 114, 116]⟩ _ h
  simp only [sizB, List.size_toArray, List.length_cons, List.length_nil] at l1
  unfold txP
  omega
theorem txN_len {q : NeedM} (h : nsOk [q.o, q.k, q.f, q.t]) : (txN q).length ≤ 40 := by
  have l1 := lnL_len ⟨#[110, 101, 101, 100]⟩ _ h
  simp only [sizB, List.size_toArray, List.length_cons, List.length_nil] at l1
  unfold txN
  omega
theorem txX_len {B : BunM} (h : TxOk B) (j i : Nat) : (txX B j i).length ≤ 1000 := by
  have l0 := lnL_len ⟨#[98, 117, 110, 100, 108, 101]⟩ _ h.h
  simp only [sizB, List.size_toArray, List.length_cons, List.length_nil] at l0
  have l1 := flat_len txP 40 (B.ps.take j) (fun p hp => by
    obtain ⟨k, hk, e⟩ := List.mem_iff_getElem.1 (List.mem_of_mem_take hp)
    have := h.p k hk
    rw [List.getD_eq_getElem?_getD, List.getElem?_eq_getElem hk] at this
    simp only [Option.getD_some, e] at this
    exact txP_len this)
  have l2 := flat_len txN 40 (B.ns.take i) (fun p hp => by
    obtain ⟨k, hk, e⟩ := List.mem_iff_getElem.1 (List.mem_of_mem_take hp)
    have := h.n k hk
    rw [List.getD_eq_getElem?_getD, List.getElem?_eq_getElem hk] at this
    simp only [Option.getD_some, e] at this
    exact txN_len this)
  have m1 : (B.ps.take j).length ≤ 4 := by have := h.pl; simp; omega
  have m2 : (B.ns.take i).length ≤ 8 := by have := h.nl; simp; omega
  unfold txX
  rw [List.length_append, List.length_append]
  omega
theorem txB_len (B : BunM) : (txB B).length ≤ 2000 := by
  unfold txB
  split
  · next h =>
    have := txX_len (tx_ok ((bOk_iff B).1 h)) B.ps.length B.ns.length
    omega
  · simp
end Go.Proofs.YtgfjbaigmkdbcaaDoor
