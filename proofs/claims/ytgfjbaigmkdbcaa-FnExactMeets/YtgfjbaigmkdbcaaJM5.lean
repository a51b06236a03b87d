/-
  What is proved here: what the laws' toPartS, eqPartS, szPartS answer, and rows of such elements in memory of their own; records and states as plain data; no program is spoken of; what a record does to a state, as plain data; no program is spoken of; rows of records in memory, four cells each; no program is spoken of.
-/
import Derived.Test.YtgfjbaigmkdbcaaJM3
import Derived.Test.YtgfjbaigmkdbcaaTm
import Derived.Test.YtgfjbaigmkdbcaaJM1
import Derived.Test.YtgfjbaigmkdbcaaJM2
namespace Go.Proofs.Ytgfjbaigmkdbcaa
open Go.RowKit
set_option maxRecDepth 100000
set_option maxHeartbeats 4000000
set_option linter.unusedVariables false

/-- A row of its own from block lo on, whose inner rows lie behind it. -/
structure Pq (lo : Nat) (W : World) (a : Option Addr) (n c : Nat) (xs : List PartM) : Prop where
  len : xs.length = n
  cap : n ≤ c
  row : ∃ g l, a = some ⟨g, 0, none⟩ ∧ lo ≤ g ∧ g < W.heap.size ∧ W.ownsRow lo 112 4 (.slice a n c) n (QL l) ∧ (∀ q, q < n → ∃ b d, lg l q = part4 (xs.getD q pz) b d ∧ W.ownsRow (g + 1) 5 1 (.slice b (xs.getD q pz).h.length d) (xs.getD q pz).h.length (U8 (xs.getD q pz).h)) ∧ ∀ q q', q < q' → q' < n → Apart (lg l q).d (lg l q').d
theorem Pq.below {lo : Nat} {W W' : World} {a : Option Addr} {n c : Nat} {xs : List PartM} (h : Pq lo W a n c xs) (hb : Below W.heap.size W W') : Pq lo W' a n c xs := by
  obtain ⟨h0, h1, g, l, rfl, h2, h3, h4, h5, h6⟩ := h
  refine ⟨h0, h1, g, l, rfl, h2, Nat.lt_of_lt_of_le h3 hb.size, own_below h4 hb, fun q hq => ?_, h6⟩
  obtain ⟨b, d, e, o⟩ := h5 q hq
  exact ⟨b, d, e, own_below o hb⟩
theorem Pq.other {lo : Nat} {W : World} {a : Option Addr} {n c : Nat} {xs : List PartM} (h : Pq lo W a n c xs) (p : Addr) (u : Value) (hp : p.block < lo) : Pq lo (W.setCell p u) a n c xs := by
  obtain ⟨h0, h1, g, l, rfl, h2, h3, h4, h5, h6⟩ := h
  refine ⟨h0, h1, g, l, rfl, h2, by simpa using h3, own_other h4 p u hp, fun q hq => ?_, h6⟩
  obtain ⟨b, d, e, o⟩ := h5 q hq
  exact ⟨b, d, e, own_other o p u (by omega)⟩
theorem Pq.base {lo lo' : Nat} {W : World} {a : Option Addr} {n c : Nat} {xs : List PartM} (h : Pq lo W a n c xs) (hl : lo' ≤ lo) : Pq lo' W a n c xs := by
  obtain ⟨h0, h1, g, l, rfl, h2, h3, h4, h5, h6⟩ := h
  exact ⟨h0, h1, g, l, rfl, by omega, h3, own_base h4 hl, h5, h6⟩
abbrev PqBy (xs : List PartM) : Prop := ∀ q, q < xs.length → ∀ x ∈ (xs.getD q pz).h, 0 ≤ x ∧ x < 256
theorem Pq.rd {lo : Nat} {W : World} {a : Option Addr} {n c : Nat} {xs : List PartM} (h : Pq lo W a n c xs) (hy : PqBy xs) : Ps W a n c xs := by
  obtain ⟨h0, h1, g, l, rfl, h2, h3, h4, h5, _⟩ := h
  refine ⟨(fun h => by cases h), h0, h1, .inr ⟨g, 0, rfl, h3, fun i hi => ?_⟩⟩
  obtain ⟨b, d, e, o⟩ := h5 i hi
  obtain ⟨q0, q1, q2, q3⟩ := q4_at h4 i hi
  rw [e] at q0 q1 q2 q3
  rw [Nat.zero_add]
  exact ⟨b, d, q0, q1, q2, q3, bs_of_own o (hy i (by omega))⟩
theorem Ps.by_ {W : World} {a : Option Addr} {n c : Nat} {xs : List PartM} (h : Ps W a n c xs) : PqBy xs := by
  obtain ⟨_, h1, _, h⟩ := h
  intro q hq
  rcases h with h | ⟨b, o, _, _, h⟩
  · omega
  · obtain ⟨_, _, P⟩ := h q (by omega)
    exact P.by_.2.2.2.1
theorem Ps.opened {W : World} {a : Option Addr} {n c : Nat} {xs : List PartM} (h : Ps W a n c xs) (hn : 0 < n) : ∃ b o, a = some ⟨b, o, none⟩ ∧ b < W.heap.size ∧ ∀ i, i < n → ∃ ha hc, PartAt W b (o + i * 4) (xs.getD i pz) ha hc := by
  rcases h.2.2.2 with h | h
  · omega
  · exact h
abbrev PqSm (n : Nat) (xs : List PartM) : Prop := n ≤ 1048576 ∧ ∀ q, q < n → (xs.getD q pz).h.length ≤ 1048576
theorem toPartSC (a : Option Addr) (n cap : Nat) (xs : List PartM) (w : World) (h : Ps w a n cap xs) (hn : PqSm n xs) :
    Calls Try.prog 80 #[.slice a n cap] w fun e w' => ∃ a' c', e = .returned (.slice a' n c') ∧ Pq w.heap.size w' a' n c' xs ∧ Below w.heap.size w w' := by
  obtain ⟨i0, hi, hz0, hz1, hz2⟩ := info_parts (show (Try.prog.info? 112).map (fun i => (i.zero, i.size, i.bytes)) = some (some (.agg #[.int .i64 0, .int .i64 0, .int .i64 0, .slice none 0 0]), 4, 48) by kernel_rfl)
  have hl := h.2.1
  have hn1 := hn.1
  go_enter Try.func80, Try.ntmps80
  go_wp2_with (at_make; refine wpList_make_full _ rfl _ _ 28 rfl w.heap.size 112 i0 (.agg #[.int .i64 0, .int .i64 0, .int .i64 0, .slice none 0 0]) 4 Try.underlying28 hi hz0 hz1 .i64 .i64 n n n rfl rfl rfl rfl (by rw [hz2]; omega) (by unfold maxLen; omega) (Nat.le_refl _) ?_; intro w1 hown hgrow)
  have hbel : Below w.heap.size w w1 := (Below.refl _ _).grown hgrow (Nat.le_refl _) (by intro k hk; cases hk)
  have hown0 : w1.ownsRow w.heap.size 112 4 (.slice (some ⟨w.heap.size, 0, none⟩) n n) n (QL (List.replicate n ⟨.int .i64 0, .int .i64 0, .int .i64 0, .slice none 0 0⟩)) := by
    rw [← QL_rep]; exact hown
  clear hown hgrow
  go_loopw [4] (fun i wr => ∃ k : Nat, k ≤ n ∧ i = .int .i64 k ∧ (∃ l, wr.ownsRow w.heap.size 112 4 (.slice (some ⟨w.heap.size, 0, none⟩) n n) n (QL l) ∧ (∀ q, q < k → ∃ b d, lg l q = part4 (xs.getD q pz) b d ∧ wr.ownsRow (w.heap.size + 1) 5 1 (.slice b (xs.getD q pz).h.length d) (xs.getD q pz).h.length (U8 (xs.getD q pz).h)) ∧ ∀ q q', q < q' → q' < k → Apart (lg l q).d (lg l q').d) ∧ Below w.heap.size w wr) (fun i _ => n - (intOf i).toNat)
  case atStart => exact ⟨0, Nat.zero_le _, rfl, ⟨_, hown0, by omega, by omega⟩, hbel⟩
  case round =>
    obtain ⟨k, hk, rfl, ⟨l, hown, hall, hapt⟩, hb⟩ := hrel
    have HL : Hid _ := hall
    have HAp : Hid _ := hapt
    clear hown0 hbel hall hapt
    have hgs : w.heap.size + 1 ≤ wr.heap.size := (hown.lt w.heap.size rfl).2
    by_cases hlt : k < n
    · obtain ⟨b, o, rfl, hbs, hcell⟩ := h.opened (by omega)
      obtain ⟨x, hx⟩ : ∃ x, x = xs.getD k pz := ⟨_, rfl⟩
      obtain ⟨ha, hc, hr⟩ := hcell k hlt
      have hsm := hn.2 k hlt
      rw [← hx] at hr hsm
      replace hr := hr.below hbs (hb.mono (Nat.le_refl _))
      have HX : Hid _ := hx
      have HN : Hid _ := hn
      clear hx hcell hn
      obtain ⟨x0, x1, x2, p⟩ := x
      obtain ⟨c0, c1, c2, c3, hB⟩ := hr
      dsimp only at c0 c1 c2 c3 hB hsm
      obtain ⟨m, hm⟩ : ∃ m, m = p.length := ⟨_, rfl⟩
      have HM : Hid _ := hm
      rw [← hm] at c3 hB hsm
      clear hm
      go_wp2_with fail
      refine (toPartC x0 x1 x2 ha m hc p _ hB (by omega)).mono ?_
      rintro e w2 ⟨a2, c2', rfl, o2, hb2⟩
      have hown2 := own_below hown hb2
      have hB2 := hb.trans (hb2.mono hb.size)
      obtain ⟨d0, d1, d2, d3⟩ := q4_at hown2 k hlt
      have f0 := fun j => hown2.frozenAt j
      have HS : Hid _ := q4_set hown2 k hlt ⟨.int .i64 x0, .int .i64 x1, .int .i64 x2, .slice a2 m c2'⟩
      have HB : Hid _ := bel_r4 hB2 (Nat.le_refl w.heap.size) (k * 4) (.int .i64 x0) (.int .i64 x1) (.int .i64 x2) (.slice a2 m c2')
      have HO : Hid _ := own_r4 (own_base o2 hgs) (Nat.lt_succ_self w.heap.size) (k * 4) (.int .i64 x0) (.int .i64 x1) (.int .i64 x2) (.slice a2 m c2')
      have HA : Hid (∀ q, q < k → ∃ b d, lg l q = part4 (xs.getD q pz) b d ∧ ((((w2.setCell ⟨w.heap.size, k * 4, none⟩ (.int .i64 x0)).setCell ⟨w.heap.size, k * 4 + 1, none⟩ (.int .i64 x1)).setCell ⟨w.heap.size, k * 4 + 2, none⟩ (.int .i64 x2)).setCell ⟨w.heap.size, k * 4 + 3, none⟩ (.slice a2 m c2')).ownsRow (w.heap.size + 1) 5 1 (.slice b (xs.getD q pz).h.length d) (xs.getD q pz).h.length (U8 (xs.getD q pz).h)) := by
        intro q hq
        obtain ⟨b, d, e, o⟩ := HL.out q hq
        exact ⟨b, d, e, own_r4 (own_below o hb2) (Nat.lt_succ_self w.heap.size) (k * 4) (.int .i64 x0) (.int .i64 x1) (.int .i64 x2) (.slice a2 m c2')⟩
      have HP2 : Hid (∀ q, q < k → Apart (lg l q).d (.slice a2 m c2')) := by
        intro q hq
        obtain ⟨b, d, e, o⟩ := HL.out q hq
        rw [e]
        exact apart_of o o2 (Nat.le_refl _)
      have lS := (hown2.lt w.heap.size rfl).2
      have HLL : Hid (l.length = n) := q4_len hown2
      clear hown hown2 hb hb2 hB2 c0 c1 c2 c3 o2 hB HL
      go_wp2
      go_roundw
      case rel =>
        refine ⟨k + 1, by omega, by go_num, ⟨_, HS.out, fun q hq => ?_, fun q q' h1 h2 => ?_⟩, HB.out⟩
        · rw [lg_set _ _ _ _ (by rw [HLL.out]; exact hlt)]
          split
          · next e => subst e; rw [← HX.out]; have hm := HM.out; subst hm; exact ⟨a2, c2', rfl, HO.out⟩
          · exact HA.out q (by omega)
        · rw [lg_set _ _ _ _ (by rw [HLL.out]; exact hlt), lg_set _ _ _ _ (by rw [HLL.out]; exact hlt), if_neg (show ¬ q = k by omega)]
          split
          · next e => exact HP2.out q (by omega)
          · next e => exact HAp.out q q' h1 (by omega)
      case measure => simp [intOf]; omega
    · have hkn : k = n := by omega
      subst hkn
      go_wp2
      go_ret
      exact ⟨_, _, rfl, ⟨hl, Nat.le_refl _, _, l, rfl, Nat.le_refl _, (hown.lt w.heap.size rfl).2, hown, HL.out, HAp.out⟩, hb⟩
theorem eqPartSC (a a' : Option Addr) (n cap cap' : Nat) (xs : List PartM) (w : World) (h : Ps w a n cap xs) (h' : Ps w a' n cap' xs) (hn : PqSm n xs) :
    Calls Try.prog 90 #[.slice a n cap, .slice a' n cap'] w fun e w' => e = .returned (.bool true) ∧ Below w.heap.size w w' := by
  have hne : ((n : Int) != (n : Int)) = false := by simp
  have hn1 := hn.1
  go_enter Try.func90, Try.ntmps90
  go_wp2
  go_loopw [5] (fun i wr => ∃ k : Nat, k ≤ n ∧ i = .int .i64 k ∧ Below w.heap.size w wr) (fun i _ => n - (intOf i).toNat)
  case atStart => exact ⟨0, Nat.zero_le _, rfl, Below.refl _ _⟩
  case round =>
    obtain ⟨k, hk, rfl, hb⟩ := hrel
    by_cases hlt : k < n
    · have hltI : (k : Int) < (n : Int) := by omega
      obtain ⟨b, o, rfl, hbs, hcell⟩ := h.opened (by omega)
      obtain ⟨b', o', rfl, hbs', hcell'⟩ := h'.opened (by omega)
      obtain ⟨x, hx⟩ : ∃ x, x = xs.getD k pz := ⟨_, rfl⟩
      obtain ⟨ha, hc, hr⟩ := hcell k hlt
      obtain ⟨ha', hc', hr'⟩ := hcell' k hlt
      have hsm := hn.2 k hlt
      rw [← hx] at hr hr' hsm
      clear hx hcell hcell'
      replace hr := hr.below hbs (hb.mono (Nat.le_refl _))
      replace hr' := hr'.below hbs' (hb.mono (Nat.le_refl _))
      obtain ⟨x0, x1, x2, p⟩ := x
      obtain ⟨c0, c1, c2, c3, hB⟩ := hr
      obtain ⟨d0, d1, d2, d3, hB'⟩ := hr'
      dsimp only at c0 c1 c2 c3 d0 d1 d2 d3 hB hB' hsm
      obtain ⟨m, hm⟩ : ∃ m, m = p.length := ⟨_, rfl⟩
      rw [← hm] at c3 d3 hB hB' hsm
      clear hm
      have l1 : b < wr.heap.size := Nat.lt_of_lt_of_le hbs hb.size
      have l2 : b' < wr.heap.size := Nat.lt_of_lt_of_le hbs' hb.size
      go_wp2
      try simp only [Act.put]
      refine tameG [kc 17 (.slice (some ⟨b, o, none⟩) n cap), kc 18 (.int .i64 (k : Int)), kc 19 (.pointer (some ⟨b, o + k * 4, none⟩)), kc 20 (partV x0 x1 x2 ha m hc), kc 21 (.slice (some ⟨b', o', none⟩) n cap'), kc 22 (.int .i64 (k : Int)), kc 23 (.pointer (some ⟨b', o' + k * 4, none⟩)), kc 24 (partV x0 x1 x2 ha' m hc'), kc 25 (.bool true), kc 26 (.bool false)] 10 (by kernel_rfl) (by kernel_rfl) (by kernel_rfl) (by repeat' first | exact trivial | apply kc_keeps | constructor) 0 (by kernel_rfl) (fun vv ll hh yW bW => ?_) (fun vv ll hh yW bW F ivh aph => ?_)
      · have x0' := (bW.cell (p := ⟨b, _, none⟩) l1).trans c0
        have x1' := (bW.cell (p := ⟨b, _, none⟩) l1).trans c1
        have x2' := (bW.cell (p := ⟨b, _, none⟩) l1).trans c2
        have x3' := (bW.cell (p := ⟨b, _, none⟩) l1).trans c3
        have y0 := (bW.cell (p := ⟨b', _, none⟩) l2).trans d0
        have y1 := (bW.cell (p := ⟨b', _, none⟩) l2).trans d1
        have y2 := (bW.cell (p := ⟨b', _, none⟩) l2).trans d2
        have y3 := (bW.cell (p := ⟨b', _, none⟩) l2).trans d3
        refine ⟨og (tp (by kernel_rfl)) (by kernel_rfl), og (tp (by kernel_rfl)) (by kernel_rfl), og (tp ?_) (by kernel_rfl), og (tp ?_) (by kernel_rfl), og (tp (by kernel_rfl)) (by kernel_rfl), og (tp (by kernel_rfl)) (by kernel_rfl), og (tp ?_) (by kernel_rfl), og (tp ?_) (by kernel_rfl), og (tc (eqPartC x0 x1 x2 ha m hc ha' hc' p _ (hB.below bW) (hB'.below bW) (by omega)) (by kernel_rfl)) (by kernel_rfl), og (tp (by kernel_rfl)) (by kernel_rfl), trivial⟩
        all_goals
          simp only [fillK, putT, List.setIfInBounds_toArray, List.set_cons_zero, List.set_cons_succ]
          unfold execOp
          go_simp
          try rfl
      clear F ivh aph
      obtain ⟨y, hy⟩ : ∃ z, z = yW := ⟨_, rfl⟩
      rw [← hy] at bW ⊢
      clear hy
      refine wpAny_done (by kernel_rfl) ?_ _
      simp only [fillK, putT, List.setIfInBounds_toArray, List.set_cons_zero, List.set_cons_succ]
      replace hb := hb.trans (bW.mono hb.size)
      clear bW c0 c1 c2 c3 d0 d1 d2 d3 hB hB'
      go_wp2
      go_roundw
      case rel => exact ⟨k + 1, by omega, by go_num, hb⟩
      case measure => simp [intOf]; omega
    · have hkn : k = n := by omega
      subst hkn
      go_wp2
      go_ret
      exact ⟨rfl, hb⟩
theorem szPartSC (a : Option Addr) (n cap : Nat) (xs : List PartM) (left : Int) (w : World) (h : Ps w a n cap xs) (h0 : 0 ≤ left) (h1 : left ≤ 1048576) (hn : n ≤ 9223372036854775807) (hq : ∀ q, q < n → (xs.getD q pz).h.length ≤ 9223372036854775807) :
    Calls Try.prog 74 #[.slice a n cap, .int .i64 left] w fun e w' => ∃ x : Int, e = .returned (.int .i64 x) ∧ (x = -1 ∨ (0 ≤ x ∧ x ≤ left ∧ PqSm n xs)) ∧ Below w.heap.size w w' := by
  have hw : IntKind.i64.wrap (left - n) = left - n := wr64 (by omega) (by omega)
  by_cases hlt0 : left - (n : Int) < 0
  · go_enter Try.func74, Try.ntmps74
    go_wp2
    go_ret
    exact ⟨_, rfl, .inl rfl, Below.refl _ _⟩
  obtain ⟨l1, hl1⟩ : ∃ l1 : Int, l1 = left - (n : Int) := ⟨_, rfl⟩
  have hl2 : l1 ≤ left := by omega
  have hnI : (n : Int) ≤ 1048576 := by omega
  have HL1 : Hid _ := hl1
  have e1 : left - (n : Int) = l1 := hl1.symm
  clear hl1
  go_enter Try.func74, Try.ntmps74
  go_wp2
  clear e1
  go_loopw [1, 5] (fun u i wr => ∃ k : Nat, k ≤ n ∧ i = .int .i64 k ∧ (∃ r : Int, u = .int .i64 r ∧ 0 ≤ r ∧ r ≤ left) ∧ (∀ q, q < k → (xs.getD q pz).h.length ≤ 1048576) ∧ Below w.heap.size w wr) (fun _ i _ => n - (intOf i).toNat)
  case atStart => exact ⟨0, Nat.zero_le _, rfl, ⟨_, rfl, by omega, by omega⟩, by omega, Below.refl _ _⟩
  case round =>
    obtain ⟨k, hk, rfl, ⟨r, rfl, hr0, hr1⟩, hall, hb⟩ := hrel
    have HA : Hid _ := hall
    clear hall
    by_cases hlt : k < n
    · obtain ⟨b, o, rfl, hbs, hcell⟩ := h.opened (by omega)
      obtain ⟨x, hx⟩ : ∃ x, x = xs.getD k pz := ⟨_, rfl⟩
      obtain ⟨ha, hc, hr⟩ := hcell k hlt
      have hqq := hq k hlt
      rw [← hx] at hr hqq
      have HX : Hid _ := hx
      have HQ : Hid _ := hq
      clear hx hcell hq
      replace hr := hr.below hbs (hb.mono (Nat.le_refl _))
      obtain ⟨x0, x1, x2, p⟩ := x
      obtain ⟨c0, c1, c2, c3, hB⟩ := hr
      dsimp only at c0 c1 c2 c3 hB hqq
      obtain ⟨m, hm⟩ : ∃ m, m = p.length := ⟨_, rfl⟩
      have HM : Hid _ := hm
      rw [← hm] at c3 hqq
      clear hm hB
      go_wp2_with fail
      refine (szPartC x0 x1 x2 ha m hc r _ hr0 (by omega) hqq).mono ?_
      rintro e w2 ⟨r2, rfl, h2, hb2⟩
      have hB2 := hb.trans (hb2.mono hb.size)
      clear hb hb2 c0 c1 c2 c3
      rcases h2 with rfl | ⟨g0, g1, g2⟩
      · go_wp2
        go_ret
        exact ⟨_, rfl, .inl rfl, hB2⟩
      · have gn : ¬ r2 < 0 := by omega
        go_wp2
        go_roundw
        case rel =>
          refine ⟨k + 1, by omega, by go_num, ⟨r2, rfl, g0, by omega⟩, fun q hq => ?_, hB2⟩
          by_cases e : q = k
          · subst e; rw [← HX.out]; dsimp only; rw [← HM.out]; omega
          · exact HA.out q (by omega)
        case measure => simp [intOf]; omega
    · have hkn : k = n := by omega
      subst hkn
      go_wp2
      go_ret
      exact ⟨r, rfl, .inr ⟨hr0, hr1, by omega, HA.out⟩, hb⟩
end Go.Proofs.Ytgfjbaigmkdbcaa
namespace Go.Proofs.Ytgfjbaigmkdbcaa
open Go.RowKit
set_option maxRecDepth 100000
set_option maxHeartbeats 1000000

theorem by_dec0 (P : Prop) [Decidable P] : ∃ R : Bool, decide P = R ∧ Hid (P → R = true) ∧ Hid (¬ P → R = false) := ⟨_, rfl, decide_eq_true, decide_eq_false⟩
/-- A record that may be. -/
abbrev rcOk (k b n f : Int) : Prop := (k = 1 ∧ b = 0 ∧ (0 ≤ n ∧ n ≤ 1000) ∧ f = 0) ∨ (k = 2 ∧ (0 ≤ b ∧ b ≤ 1) ∧ (1 ≤ n ∧ n ≤ 1000) ∧ (0 ≤ f ∧ f ≤ 1000)) ∨
  (k = 3 ∧ (0 ≤ b ∧ b ≤ 1) ∧ (1 ≤ n ∧ n ≤ 1000) ∧ f = 0) ∨ (k = 5 ∧ b = 0 ∧ n = 0 ∧ (0 ≤ f ∧ f ≤ 1000)) ∨ ((k = 4 ∨ k = 6) ∧ b = 0 ∧ n = 0 ∧ f = 0)
/-- A state that may be. -/
abbrev btOk (b n f : Int) (t : Bool) (i o : Int) : Prop := (0 ≤ b ∧ b ≤ 1) ∧ (1 ≤ n ∧ n ≤ 1000) ∧ (0 ≤ f ∧ f ≤ 1000) ∧ (if t = true then (0 ≤ i ∧ i ≤ 3) ∧ (1 ≤ o ∧ o ≤ 1000) else i = 0 ∧ o = 0)
abbrev rcV (k b n f : Int) : Value := .agg #[.int .i64 k, .int .i64 b, .int .i64 n, .int .i64 f]
abbrev btV (b n f : Int) (t : Bool) (i o : Int) : Value := .agg #[.int .i64 b, .int .i64 n, .int .i64 f, .bool t, .int .i64 i, .int .i64 o]

theorem heap_mid (w : World) (a b c : Obj) : (((w.alloc a).alloc b).alloc c).heap[w.heap.size + 1]? = some b := by
  rw [heap_alloc_old _ _ (by simp)]
  have := heap_alloc_new (w.alloc a) b
  simpa using this
end Go.Proofs.Ytgfjbaigmkdbcaa
namespace Go.Proofs.Ytgfjbaigmkdbcaa
open Go.RowKit
/-- A record. -/
structure Rc where
  k : Int
  b : Int
  n : Int
  f : Int
/-- A state. -/
structure Bt where
  b : Int
  n : Int
  f : Int
  t : Bool
  i : Int
  o : Int
abbrev btC (s : Bt) : List Value := [.int .i64 s.b, .int .i64 s.n, .int .i64 s.f, .bool s.t, .int .i64 s.i, .int .i64 s.o]
abbrev rcC (r : Rc) : List Value := [.int .i64 r.k, .int .i64 r.b, .int .i64 r.n, .int .i64 r.f]
abbrev btW (s : Bt) : Value := btV s.b s.n s.f s.t s.i s.o
abbrev stV (s : Bt × Bool) : Value := .tuple #[btW s.1, .bool s.2]
abbrev Rc.Ok (r : Rc) : Prop := rcOk r.k r.b r.n r.f
abbrev Bt.Ok (s : Bt) : Prop := btOk s.b s.n s.f s.t s.i s.o
/-- What a record leaves of a state, and whether it fits. -/
def stT (s : Bt) (r : Rc) : Bt × Bool :=
  if r.k = 3 then (if s.t = true ∨ r.b = s.b then (s, false) else (⟨r.b, r.n, s.f, true, 0, s.n⟩, true))
  else if r.k = 4 then (if s.t = false ∨ 3 ≤ s.i then (s, false) else (⟨s.b, s.n, s.f, s.t, s.i + 1, s.o⟩, true))
  else if r.k = 5 then (if s.t = false then (s, false) else (⟨s.b, s.n, max s.f r.f, false, 0, 0⟩, true))
  else if r.k = 6 then (if s.t = false then (s, false) else (⟨1 - s.b, s.o, s.f, false, 0, 0⟩, true))
  else (s, false)
/-- What Step answers. -/
def stepT (s : Bt) (r : Rc) : Bt × Bool := if s.Ok ∧ r.Ok then stT s r else (⟨0, 0, 0, false, 0, 0⟩, false)
theorem stT_ok {s : Bt} {r : Rc} (hs : s.Ok) (hr : r.Ok) : (stT s r).1.Ok := by
  obtain ⟨b, n, f, t, i, o⟩ := s
  obtain ⟨k, rb, rn, rf⟩ := r
  unfold stT
  dsimp only [Bt.Ok, Rc.Ok] at hs hr ⊢
  obtain ⟨h1, h2, h3, h4⟩ := hs
  split
  · split
    · exact ⟨h1, h2, h3, h4⟩
    · next h5 h6 =>
      cases t
      · exact ⟨by dsimp only; omega, by dsimp only; omega, by dsimp only; omega, by rw [if_pos rfl]; dsimp only; omega⟩
      · exact absurd (.inl rfl) h6
  split
  · split
    · exact ⟨h1, h2, h3, h4⟩
    · next h5 h6 =>
      cases t
      · exact absurd (.inl rfl) h6
      · rw [if_pos rfl] at h4
        exact ⟨h1, h2, h3, by rw [if_pos rfl]; dsimp only; omega⟩
  split
  · split
    · exact ⟨h1, h2, h3, h4⟩
    · exact ⟨h1, h2, by dsimp only; omega, by rw [if_neg (by simp)]; exact ⟨rfl, rfl⟩⟩
  split
  · split
    · exact ⟨h1, h2, h3, h4⟩
    · next h5 h6 =>
      cases t
      · exact absurd rfl h6
      · rw [if_pos rfl] at h4
        exact ⟨by dsimp only; omega, by dsimp only; omega, h3, by rw [if_neg (by simp)]; exact ⟨rfl, rfl⟩⟩
  exact ⟨h1, h2, h3, h4⟩
theorem stT_floor {s : Bt} {r : Rc} : s.f ≤ (stT s r).1.f := by
  unfold stT
  repeat' split
  all_goals first | exact Int.le_refl _ | (dsimp only; omega)
end Go.Proofs.Ytgfjbaigmkdbcaa
namespace Go.Proofs.Ytgfjbaigmkdbcaa
open Go.RowKit
set_option maxRecDepth 100000

abbrev rz : Rc := ⟨0, 0, 0, 0⟩
def rg (xs : List Rc) (i : Nat) : Rc := xs.getD i rz
/-- The cells of records in a row. -/
def FL : List Rc → List Value
  | [] => []
  | r :: t => .int .i64 r.k :: .int .i64 r.b :: .int .i64 r.n :: .int .i64 r.f :: FL t
theorem FL_len : ∀ xs : List Rc, (FL xs).length = xs.length * 4
  | [] => rfl
  | _ :: t => by simp [FL, FL_len t]; omega
theorem FL_get : ∀ (xs : List Rc) (i : Nat), i < xs.length → (FL xs)[i * 4]? = some (.int .i64 (rg xs i).k) ∧ (FL xs)[i * 4 + 1]? = some (.int .i64 (rg xs i).b) ∧ (FL xs)[i * 4 + 2]? = some (.int .i64 (rg xs i).n) ∧ (FL xs)[i * 4 + 3]? = some (.int .i64 (rg xs i).f)
  | [], i, h => by simp at h
  | r :: t, 0, _ => ⟨rfl, rfl, rfl, rfl⟩
  | r :: t, i + 1, h => by
    have e : (i + 1) * 4 = i * 4 + 4 := by omega
    rw [e]
    exact FL_get t i (by simpa using h)
theorem FL_set : ∀ (xs : List Rc) (i : Nat) (r : Rc), i < xs.length → FL (xs.set i r) = ((((FL xs).set (i * 4) (.int .i64 r.k)).set (i * 4 + 1) (.int .i64 r.b)).set (i * 4 + 2) (.int .i64 r.n)).set (i * 4 + 3) (.int .i64 r.f)
  | [], i, r, h => by simp at h
  | x :: t, 0, r, _ => rfl
  | x :: t, i + 1, r, h => by
    have e : (i + 1) * 4 = i * 4 + 4 := by omega
    rw [e]
    show _ :: _ :: _ :: _ :: FL (t.set i r) = _ :: _ :: _ :: _ :: _
    rw [FL_set t i r (by simpa using h)]
theorem FL_app : ∀ xs ys : List Rc, FL (xs ++ ys) = FL xs ++ FL ys
  | [], _ => rfl
  | x :: t, ys => by show _ :: _ :: _ :: _ :: FL (t ++ ys) = _; rw [FL_app t ys]; rfl
theorem FL_rep (n : Nat) : (madeCells #[Value.int .i64 0, .int .i64 0, .int .i64 0, .int .i64 0] (n * 4)).toList = FL (List.replicate n rz) := by
  apply List.ext_getElem?
  intro i
  by_cases hi : i < n * 4
  · have h1 : (madeCells #[Value.int .i64 0, .int .i64 0, .int .i64 0, .int .i64 0] (n * 4)).toList[i]? = some (.int .i64 0) := by
      unfold madeCells
      have : i % 4 = 0 ∨ i % 4 = 1 ∨ i % 4 = 2 ∨ i % 4 = 3 := by omega
      simp [hi]
      rcases this with h | h | h | h <;> simp [h]
    rw [h1]
    obtain ⟨a, b, c, d⟩ := FL_get (List.replicate n rz) (i / 4) (by simp; omega)
    have e : rg (List.replicate n rz) (i / 4) = rz := by unfold rg; simp only [List.getD_eq_getElem?_getD, List.getElem?_replicate]; split <;> rfl
    rw [e] at a b c d
    have : i = i / 4 * 4 ∨ i = i / 4 * 4 + 1 ∨ i = i / 4 * 4 + 2 ∨ i = i / 4 * 4 + 3 := by omega
    rcases this with h | h | h | h <;> rw [h]
    · exact a.symm
    · exact b.symm
    · exact c.symm
    · exact d.symm
  · rw [List.getElem?_eq_none (by rw [Array.length_toList, size_madeCells]; omega), List.getElem?_eq_none (by rw [FL_len]; simp; omega)]
theorem rg_set (xs : List Rc) (i j : Nat) (r : Rc) (h : i < xs.length) : rg (xs.set i r) j = if j = i then r else rg xs j := by
  unfold rg
  by_cases e : j = i
  · subst e; simp [h]
  · have e' : ¬ i = j := fun h => e h.symm
    simp [e, e']
theorem rg_ext {xs ys : List Rc} (h : xs.length = ys.length) (hg : ∀ i, i < xs.length → rg xs i = rg ys i) : xs = ys := by
  apply List.ext_getElem h
  intro i h1 h2
  have := hg i h1
  unfold rg at this
  simpa [h1, h2] using this
theorem rg_take (xs : List Rc) (k i : Nat) (h : i < k) : rg (xs.take k) i = rg xs i := by
  unfold rg
  simp [List.getD_eq_getElem?_getD, h]
theorem rc_snoc (xs : List Rc) (k : Nat) (h : k < xs.length) : xs.take (k + 1) = xs.take k ++ [rg xs k] := by
  rw [List.take_succ_eq_append_getElem h]; simp [rg, h]
structure Rat (W : World) (b o : Nat) (r : Rc) : Prop where
  h0 : W.cell? ⟨b, o, none⟩ = some (.int .i64 r.k)
  h1 : W.cell? ⟨b, o + 1, none⟩ = some (.int .i64 r.b)
  h2 : W.cell? ⟨b, o + 2, none⟩ = some (.int .i64 r.n)
  h3 : W.cell? ⟨b, o + 3, none⟩ = some (.int .i64 r.f)
theorem Rat.below {W W' : World} {b o : Nat} {x : Rc} (h : Rat W b o x) (l : b < W.heap.size) (hb : Below W.heap.size W W') : Rat W' b o x :=
  ⟨(hb.cell (p := ⟨b, _, none⟩) l).trans h.h0, (hb.cell (p := ⟨b, _, none⟩) l).trans h.h1, (hb.cell (p := ⟨b, _, none⟩) l).trans h.h2, (hb.cell (p := ⟨b, _, none⟩) l).trans h.h3⟩
/-- What a slice of records reads as. -/
def Rs (w : World) (a : Option Addr) (n cap : Nat) (xs : List Rc) : Prop :=
  (a = none → cap = 0) ∧ xs.length = n ∧ n ≤ cap ∧ (n = 0 ∨ ∃ b o, a = some ⟨b, o, none⟩ ∧ b < w.heap.size ∧ ∀ i, i < n → Rat w b (o + i * 4) (rg xs i))
theorem Rs.below {w w' : World} {a : Option Addr} {n cap : Nat} {xs : List Rc} (h : Rs w a n cap xs) (hb : Below w.heap.size w w') : Rs w' a n cap xs := by
  obtain ⟨h0, h1, h2, h4⟩ := h
  refine ⟨h0, h1, h2, ?_⟩
  rcases h4 with h4 | ⟨b, o, ha, hlt, hc⟩
  · exact .inl h4
  · exact .inr ⟨b, o, ha, Nat.lt_of_lt_of_le hlt hb.size, fun j hj => (hc j hj).below hlt hb⟩
theorem Rs.opened {w : World} {a : Option Addr} {n cap : Nat} {xs : List Rc} (h : Rs w a n cap xs) (hn : 0 < n) : ∃ b o, a = some ⟨b, o, none⟩ ∧ b < w.heap.size ∧ ∀ i, i < n → Rat w b (o + i * 4) (rg xs i) := by
  rcases h.2.2.2 with h | h
  · omega
  · exact h
section
variable {w : World} {lo t n cap g : Nat} {xs : List Rc}
theorem rq_len {v : Value} (h : w.ownsRow lo t 4 v n (FL xs)) : xs.length = n := by have := h.1; rw [FL_len] at this; omega
theorem rq_at (h : w.ownsRow lo t 4 (.slice (some ⟨g, 0, none⟩) n cap) n (FL xs)) (i : Nat) (hi : i < n) : Rat w g (i * 4) (rg xs i) := by
  have hl := rq_len h
  obtain ⟨a, b, c, d⟩ := FL_get xs i (by omega)
  exact ⟨(h.cellAt _ (by omega)).trans a, (h.cellAt _ (by omega)).trans b, (h.cellAt _ (by omega)).trans c, (h.cellAt _ (by omega)).trans d⟩
theorem rq_set (h : w.ownsRow lo t 4 (.slice (some ⟨g, 0, none⟩) n cap) n (FL xs)) (i : Nat) (hi : i < n) (r : Rc) :
    ((((w.setCell ⟨g, i * 4, none⟩ (.int .i64 r.k)).setCell ⟨g, i * 4 + 1, none⟩ (.int .i64 r.b)).setCell ⟨g, i * 4 + 2, none⟩ (.int .i64 r.n)).setCell ⟨g, i * 4 + 3, none⟩ (.int .i64 r.f)).ownsRow lo t 4 (.slice (some ⟨g, 0, none⟩) n cap) n (FL (xs.set i r)) := by
  rw [FL_set xs i r (by rw [rq_len h]; exact hi)]
  exact ((((h.stored (i * 4) (.int .i64 r.k)).1.stored (i * 4 + 1) (.int .i64 r.b)).1.stored (i * 4 + 2) (.int .i64 r.n)).1.stored (i * 4 + 3) (.int .i64 r.f)).1
theorem Rs.own {v : Value} (h : w.ownsRow lo t 4 v n (FL xs)) : ∃ a cap, v = .slice a n cap ∧ cap ≤ maxLen ∧ Rs w a n cap xs := by
  have hl := rq_len h
  rcases h.2 with ⟨rfl, rfl⟩ | ⟨g, cap, cur, rfl, hg, hgg, h1, h2, h3, h4⟩
  · exact ⟨none, 0, rfl, by unfold maxLen; omega, fun _ => rfl, hl, Nat.le_refl _, .inl rfl⟩
  · exact ⟨_, cap, rfl, h2, (fun h => by cases h), hl, h1, .inr ⟨g, 0, rfl, (Array.getElem?_eq_some_iff.1 hgg).1, fun i hi => by simpa using rq_at h i hi⟩⟩
theorem rs_of_own {a : Option Addr} {c : Nat} (h : w.ownsRow lo t 4 (.slice a n c) n (FL xs)) : Rs w a n c xs := by
  obtain ⟨a', c', e, _, hb⟩ := Rs.own h
  simp only [Value.slice.injEq, true_and] at e
  obtain ⟨rfl, rfl⟩ := e
  exact hb
end
/-- A row of records within [lo, hi). -/
structure Rq (W : World) (lo hi e : Nat) (v : Value) (n : Nat) (l : List Rc) : Prop where
  o : W.ownsRow lo e 4 v n (FL l)
  i : In v lo hi
  z : hi ≤ W.heap.size
section
variable {W W' : World} {lo hi e n : Nat} {v : Value} {l : List Rc}
theorem Rq.new (o : W.ownsRow lo e 4 v n (FL l)) : Rq W lo W.heap.size e v n l := ⟨o, In.of o, Nat.le_refl _⟩
theorem Rq.chg (h : Rq W lo hi e v n l) {a b : Nat} (hc : Chg W W' a b) (hl : hi ≤ a ∨ b ≤ lo ∨ b ≤ a) : Rq W' lo hi e v n l := by
  by_cases hab : b ≤ a
  · have hc' : Chg W W' hi hi := ⟨hc.os, hc.tape, hc.output, hc.size, fun i hi _ => hc.block i hi (by omega)⟩
    exact ⟨own_chg h.o h.i hc' (by omega), h.i, Nat.le_trans h.z hc.size⟩
  · exact ⟨own_chg h.o h.i hc (by omega), h.i, Nat.le_trans h.z hc.size⟩
theorem Rq.marked (h : Rq W lo hi e v n l) {l' : List Rc} (hg : W.grownBy W' v.ownBlock) (o : W'.ownsRow lo e 4 v n (FL l')) : Rq W' lo hi e v n l' := ⟨o, h.i, Nat.le_trans h.z hg.size⟩
theorem Rq.gr (h : Rq W lo hi e v n l) (hg : W.grownBy W' v.ownBlock) : Chg W W' lo hi := .of_grown hg h.i
end
end Go.Proofs.Ytgfjbaigmkdbcaa
