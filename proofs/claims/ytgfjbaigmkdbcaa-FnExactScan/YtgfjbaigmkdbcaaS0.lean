/-
  What is proved here: rows of slices of bytes; what the laws' toByteSS, eqByteSS, szByteSS answer.
-/
import Derived.Test.YtgfjbaigmkdbcaaQ4
import Derived.Test.YtgfjbaigmkdbcaaSmA
import Derived.Test.YtgfjbaigmkdbcaaSmB
import Derived.Test.YtgfjbaigmkdbcaaSzB
import Derived.Test.YtgfjbaigmkdbcaaTm
namespace Go.Proofs.Ytgfjbaigmkdbcaa
open Go.RowKit
set_option maxRecDepth 100000
set_option maxHeartbeats 4000000
set_option linter.unusedVariables false

/-- What a slice of slices of bytes reads as. -/
def Bss (W : World) (a : Option Addr) (n c : Nat) (xs : List (List Int)) : Prop :=
  (a = none → c = 0) ∧ xs.length = n ∧ n ≤ c ∧ (n = 0 ∨ ∃ b o, a = some ⟨b, o, none⟩ ∧ b < W.heap.size ∧ ∀ i, i < n → ∃ ha hc, W.cell? ⟨b, o + i, none⟩ = some (.slice ha (xs.getD i []).length hc) ∧ Bs W ha (xs.getD i []).length hc (xs.getD i []))
theorem Bss.below {W W' : World} {a : Option Addr} {n c : Nat} {xs : List (List Int)} (h : Bss W a n c xs) (hb : Below W.heap.size W W') : Bss W' a n c xs := by
  obtain ⟨h0, h1, h2, h⟩ := h
  refine ⟨h0, h1, h2, ?_⟩
  rcases h with h | ⟨b, o, e, l, h⟩
  · exact .inl h
  · refine .inr ⟨b, o, e, Nat.lt_of_lt_of_le l hb.size, fun i hi => ?_⟩
    obtain ⟨ha, hc, k, q⟩ := h i hi
    exact ⟨ha, hc, (hb.cell (p := ⟨b, _, none⟩) l).trans k, q.below hb⟩
theorem Bss.opened {W : World} {a : Option Addr} {n c : Nat} {xs : List (List Int)} (h : Bss W a n c xs) (hn : 0 < n) : ∃ b o, a = some ⟨b, o, none⟩ ∧ b < W.heap.size ∧ ∀ i, i < n → ∃ ha hc, W.cell? ⟨b, o + i, none⟩ = some (.slice ha (xs.getD i []).length hc) ∧ Bs W ha (xs.getD i []).length hc (xs.getD i []) := by
  rcases h.2.2.2 with h | h
  · omega
  · exact h
/-- A row of its own from block lo on, whose inner rows lie behind it. -/
structure Sq (lo : Nat) (W : World) (a : Option Addr) (n c : Nat) (xs : List (List Int)) : Prop where
  len : xs.length = n
  cap : n ≤ c
  row : ∃ g l, a = some ⟨g, 0, none⟩ ∧ lo ≤ g ∧ g < W.heap.size ∧ W.ownsRow lo 35 1 (.slice a n c) n l ∧ ∀ q, q < n → ∃ b d, l[q]? = some (.slice b (xs.getD q []).length d) ∧ W.ownsRow (g + 1) 5 1 (.slice b (xs.getD q []).length d) (xs.getD q []).length (U8 (xs.getD q []))
theorem Sq.below {lo : Nat} {W W' : World} {a : Option Addr} {n c : Nat} {xs : List (List Int)} (h : Sq lo W a n c xs) (hb : Below W.heap.size W W') : Sq lo W' a n c xs := by
  obtain ⟨h0, h1, g, l, rfl, h2, h3, h4, h5⟩ := h
  refine ⟨h0, h1, g, l, rfl, h2, Nat.lt_of_lt_of_le h3 hb.size, own_below h4 hb, fun q hq => ?_⟩
  obtain ⟨b, d, e, o⟩ := h5 q hq
  exact ⟨b, d, e, own_below o hb⟩
theorem Sq.other {lo : Nat} {W : World} {a : Option Addr} {n c : Nat} {xs : List (List Int)} (h : Sq lo W a n c xs) (p : Addr) (u : Value) (hp : p.block < lo) : Sq lo (W.setCell p u) a n c xs := by
  obtain ⟨h0, h1, g, l, rfl, h2, h3, h4, h5⟩ := h
  refine ⟨h0, h1, g, l, rfl, h2, by simpa using h3, own_other h4 p u hp, fun q hq => ?_⟩
  obtain ⟨b, d, e, o⟩ := h5 q hq
  exact ⟨b, d, e, own_other o p u (by omega)⟩
theorem Sq.base {lo lo' : Nat} {W : World} {a : Option Addr} {n c : Nat} {xs : List (List Int)} (h : Sq lo W a n c xs) (hl : lo' ≤ lo) : Sq lo' W a n c xs := by
  obtain ⟨h0, h1, g, l, rfl, h2, h3, h4, h5⟩ := h
  exact ⟨h0, h1, g, l, rfl, by omega, h3, own_base h4 hl, h5⟩
abbrev SqBy (xs : List (List Int)) : Prop := ∀ q, q < xs.length → ∀ x ∈ xs.getD q [], 0 ≤ x ∧ x < 256
theorem Sq.rd {lo : Nat} {W : World} {a : Option Addr} {n c : Nat} {xs : List (List Int)} (h : Sq lo W a n c xs) (hy : SqBy xs) : Bss W a n c xs := by
  obtain ⟨h0, h1, g, l, rfl, h2, h3, h4, h5⟩ := h
  refine ⟨(fun h => by cases h), h0, h1, .inr ⟨g, 0, rfl, h3, fun i hi => ?_⟩⟩
  obtain ⟨b, d, e, o⟩ := h5 i hi
  refine ⟨b, d, ?_, bs_of_own o (hy i (by omega))⟩
  rw [Nat.zero_add]
  exact (h4.cellAt i (by omega)).trans e
theorem Bss.by_ {W : World} {a : Option Addr} {n c : Nat} {xs : List (List Int)} (h : Bss W a n c xs) : SqBy xs := by
  obtain ⟨_, h1, _, h⟩ := h
  intro q hq
  rcases h with h | ⟨b, o, _, _, h⟩
  · omega
  · obtain ⟨_, _, _, P⟩ := h q (by omega)
    exact P.2.2.2.1
abbrev SqSm (n : Nat) (xs : List (List Int)) : Prop := n ≤ 1048576 ∧ ∀ q, q < n → (xs.getD q []).length ≤ 1048576
theorem szBC (a : Option Addr) (n c : Nat) (l : Int) (w : World) (h0 : 0 ≤ l) (hl : l ≤ 1048576) (hn : n ≤ 9223372036854775807) :
    Calls Try.prog 117 #[.slice a n c, .int .i64 l] w fun e w' => ∃ r : Int, e = .returned (.int .i64 r) ∧ (r = -1 ∨ 0 ≤ r ∧ r ≤ l ∧ n ≤ 1048576) ∧ Below w.heap.size w w' := by
  refine (szB a n c l _ (by omega) (by omega) hn).mono ?_
  rintro e w' ⟨rfl, rfl⟩
  by_cases h1 : l - (n : Int) < 0
  · rw [if_pos h1]; exact ⟨_, rfl, .inl rfl, Below.refl _ _⟩
  · rw [if_neg h1]; exact ⟨_, rfl, .inr ⟨by omega, by omega, by omega⟩, Below.refl _ _⟩
theorem eqBC (a a' : Option Addr) (n c c' : Nat) (xs : List Int) (w : World) (h : Bs w a n c xs) (h' : Bs w a' n c' xs) (hn : n ≤ 2097152) :
    Calls Try.prog 22 #[.slice a n c, .slice a' n c'] w fun e w' => e = .returned (.bool true) ∧ Below w.heap.size w w' := by
  refine (eqB a a' n c c' xs _ h h' hn).mono ?_
  rintro e w' ⟨q, rfl, rfl⟩
  exact ⟨rfl, bel_drewN _ _⟩
theorem toByteSSC (a : Option Addr) (n cap : Nat) (xs : List (List Int)) (w : World) (h : Bss w a n cap xs) (hn : SqSm n xs) :
    Calls Try.prog 122 #[.slice a n cap] w fun e w' => ∃ a' c', e = .returned (.slice a' n c') ∧ Sq w.heap.size w' a' n c' xs ∧ Below w.heap.size w w' := by
  obtain ⟨i0, hi, hz0, hz1, hz2⟩ := info_parts (show (Try.prog.info? 35).map (fun i => (i.zero, i.size, i.bytes)) = some (some (.slice none 0 0), 1, 24) by kernel_rfl)
  have hl := h.2.1
  have hn1 := hn.1
  go_enter Try.func122, Try.ntmps122
  go_wp2_with (at_make; refine wpList_make_full _ rfl _ _ 87 rfl w.heap.size 35 i0 (.slice none 0 0) 1 Try.underlying87 hi hz0 hz1 .i64 .i64 n n n rfl rfl rfl rfl (by rw [hz2]; omega) (by unfold maxLen; omega) (Nat.le_refl _) ?_; intro w1 hown hgrow)
  have hbel : Below w.heap.size w w1 := (Below.refl _ _).grown hgrow (Nat.le_refl _) (by intro k hk; cases hk)
  obtain ⟨l0, hl0⟩ : ∃ l0, l0 = (madeCells (Value.slice none 0 0).cells (n * 1)).toList := ⟨_, rfl⟩
  rw [← hl0] at hown
  clear hl0 hgrow
  go_loopw [4] (fun i wr => ∃ k : Nat, k ≤ n ∧ i = .int .i64 k ∧ (∃ l, wr.ownsRow w.heap.size 35 1 (.slice (some ⟨w.heap.size, 0, none⟩) n n) n l ∧ ∀ q, q < k → ∃ b d, l[q]? = some (.slice b (xs.getD q []).length d) ∧ wr.ownsRow (w.heap.size + 1) 5 1 (.slice b (xs.getD q []).length d) (xs.getD q []).length (U8 (xs.getD q []))) ∧ Below w.heap.size w wr) (fun i _ => n - (intOf i).toNat)
  case atStart => exact ⟨0, Nat.zero_le _, rfl, ⟨_, hown, by omega⟩, hbel⟩
  case round =>
    clear hown hbel
    obtain ⟨k, hk, rfl, ⟨l, hown, hall⟩, hb⟩ := hrel
    have HL : Hid _ := hall
    clear hall
    have hgs : w.heap.size + 1 ≤ wr.heap.size := (hown.lt w.heap.size rfl).2
    by_cases hlt : k < n
    · obtain ⟨b, o, rfl, hbs, hcell⟩ := h.opened (by omega)
      obtain ⟨p, hx⟩ : ∃ p, p = xs.getD k [] := ⟨_, rfl⟩
      obtain ⟨ha, hc, c0, hB⟩ := hcell k hlt
      have hsm := hn.2 k hlt
      rw [← hx] at c0 hB hsm
      replace c0 := (hb.cell (p := ⟨b, _, none⟩) hbs).trans c0
      replace hB := hB.below (hb.mono (Nat.le_refl _))
      have HX : Hid _ := hx
      have HN : Hid _ := hn
      clear hx hcell hn
      obtain ⟨m, hm⟩ : ∃ m, m = p.length := ⟨_, rfl⟩
      have HM : Hid _ := hm
      rw [← hm] at c0 hB hsm
      clear hm
      go_wp2_with fail
      refine (toS ha m hc p _ hB (by omega)).mono ?_
      rintro e w2 ⟨a2, c2', rfl, o2, _, hb2⟩
      have hown2 := own_below hown hb2
      have hB2 := hb.trans (hb2.mono hb.size)
      have hll : l.length = n := by have := hown2.1; omega
      obtain ⟨u0, hu0⟩ : ∃ u, w2.cell? ⟨w.heap.size, k, none⟩ = some u := by
        rw [hown2.cellAt k (by omega)]
        exact ⟨_, List.getElem?_eq_getElem (by omega)⟩
      have f0 := fun j => hown2.frozenAt j
      have HS : Hid _ := (hown2.stored k (.slice a2 m c2')).1
      have HB : Hid _ := hB2.setCell (p := ⟨w.heap.size, k, none⟩) (Nat.le_refl _) (.slice a2 m c2')
      have HO : Hid _ := own_other (own_base o2 hgs) ⟨w.heap.size, k, none⟩ (.slice a2 m c2') (Nat.lt_succ_self w.heap.size)
      have HA : Hid (∀ q, q < k → ∃ b d, l[q]? = some (.slice b (xs.getD q []).length d) ∧ (w2.setCell ⟨w.heap.size, k, none⟩ (.slice a2 m c2')).ownsRow (w.heap.size + 1) 5 1 (.slice b (xs.getD q []).length d) (xs.getD q []).length (U8 (xs.getD q []))) := by
        intro q hq
        obtain ⟨b, d, e, o⟩ := HL.out q hq
        exact ⟨b, d, e, own_other (own_below o hb2) ⟨w.heap.size, k, none⟩ (.slice a2 m c2') (Nat.lt_succ_self w.heap.size)⟩
      have lS := (hown2.lt w.heap.size rfl).2
      have HLL : Hid (l.length = n) := hll
      clear hll hown hown2 hb hb2 hB2 c0 o2 hB HL
      go_wp2
      go_roundw
      case rel =>
        refine ⟨k + 1, by omega, by go_num, ⟨_, HS.out, fun q hq => ?_⟩, HB.out⟩
        by_cases e : q = k
        · subst e
          have hm := HM.out
          subst hm
          rw [← HX.out]
          exact ⟨a2, c2', by simp [HLL.out, hlt], HO.out⟩
        · rw [List.getElem?_set_ne (by omega)]
          exact HA.out q (by omega)
      case measure => simp [intOf]; omega
    · have hkn : k = n := by omega
      subst hkn
      go_wp2
      go_ret
      exact ⟨_, _, rfl, ⟨hl, Nat.le_refl _, _, l, rfl, Nat.le_refl _, (hown.lt w.heap.size rfl).2, hown, HL.out⟩, hb⟩
theorem eqByteSSC (a a' : Option Addr) (n cap cap' : Nat) (xs : List (List Int)) (w : World) (h : Bss w a n cap xs) (h' : Bss w a' n cap' xs) (hn : SqSm n xs) :
    Calls Try.prog 123 #[.slice a n cap, .slice a' n cap'] w fun e w' => e = .returned (.bool true) ∧ Below w.heap.size w w' := by
  have hne : ((n : Int) != (n : Int)) = false := by simp
  have hn1 := hn.1
  go_enter Try.func123, Try.ntmps123
  go_wp2
  go_loopw [5] (fun i wr => ∃ k : Nat, k ≤ n ∧ i = .int .i64 k ∧ Below w.heap.size w wr) (fun i _ => n - (intOf i).toNat)
  case atStart => exact ⟨0, Nat.zero_le _, rfl, Below.refl _ _⟩
  case round =>
    obtain ⟨k, hk, rfl, hb⟩ := hrel
    by_cases hlt : k < n
    · have hltI : (k : Int) < (n : Int) := by omega
      obtain ⟨b, o, rfl, hbs, hcell⟩ := h.opened (by omega)
      obtain ⟨b', o', rfl, hbs', hcell'⟩ := h'.opened (by omega)
      obtain ⟨p, hx⟩ : ∃ x, x = xs.getD k [] := ⟨_, rfl⟩
      obtain ⟨ha, hc, c0, hB⟩ := hcell k hlt
      obtain ⟨ha', hc', d0, hB'⟩ := hcell' k hlt
      have hsm := hn.2 k hlt
      rw [← hx] at c0 d0 hB hB' hsm
      clear hx hcell hcell'
      replace c0 := (hb.cell (p := ⟨b, _, none⟩) hbs).trans c0
      replace d0 := (hb.cell (p := ⟨b', _, none⟩) hbs').trans d0
      replace hB := hB.below (hb.mono (Nat.le_refl _))
      replace hB' := hB'.below (hb.mono (Nat.le_refl _))
      obtain ⟨m, hm⟩ : ∃ m, m = p.length := ⟨_, rfl⟩
      rw [← hm] at c0 d0 hB hB' hsm
      clear hm
      have l1 : b < wr.heap.size := Nat.lt_of_lt_of_le hbs hb.size
      have l2 : b' < wr.heap.size := Nat.lt_of_lt_of_le hbs' hb.size
      go_wp2
      try simp only [Act.put]
      refine tameG [kc 17 (.slice (some ⟨b, o, none⟩) n cap), kc 18 (.int .i64 (k : Int)), kc 19 (.pointer (some ⟨b, o + k, none⟩)), kc 20 (.slice ha m hc), kc 21 (.slice (some ⟨b', o', none⟩) n cap'), kc 22 (.int .i64 (k : Int)), kc 23 (.pointer (some ⟨b', o' + k, none⟩)), kc 24 (.slice ha' m hc'), kc 25 (.bool true), kc 26 (.bool false)] 10 (by kernel_rfl) (by kernel_rfl) (by kernel_rfl) (by repeat' first | exact trivial | apply kc_keeps | constructor) 0 (by kernel_rfl) (fun vv ll hh yW bW => ?_) (fun vv ll hh yW bW F ivh aph => ?_)
      · have x0' := (bW.cell (p := ⟨b, _, none⟩) l1).trans c0
        have y0 := (bW.cell (p := ⟨b', _, none⟩) l2).trans d0
        refine ⟨og (tp (by kernel_rfl)) (by kernel_rfl), og (tp (by kernel_rfl)) (by kernel_rfl), og (tp ?_) (by kernel_rfl), og (tp ?_) (by kernel_rfl), og (tp (by kernel_rfl)) (by kernel_rfl), og (tp (by kernel_rfl)) (by kernel_rfl), og (tp ?_) (by kernel_rfl), og (tp ?_) (by kernel_rfl), og (tc (eqBC ha ha' m hc hc' p _ (hB.below bW) (hB'.below bW) (by omega)) (by kernel_rfl)) (by kernel_rfl), og (tp (by kernel_rfl)) (by kernel_rfl), trivial⟩
        all_goals
          simp only [fillK, putT, List.setIfInBounds_toArray, List.set_cons_zero, List.set_cons_succ]
          unfold execOp
          go_simp
          try rfl
      clear F ivh aph
      obtain ⟨y, hy⟩ : ∃ z, z = yW := ⟨_, rfl⟩
      rw [← hy] at bW ⊢
      clear hy
      refine wpAny_done (by kernel_rfl) ?_ _
      simp only [fillK, putT, List.setIfInBounds_toArray, List.set_cons_zero, List.set_cons_succ]
      replace hb := hb.trans (bW.mono hb.size)
      clear bW c0 d0 hB hB'
      go_wp2
      go_roundw
      case rel => exact ⟨k + 1, by omega, by go_num, hb⟩
      case measure => simp [intOf]; omega
    · have hkn : k = n := by omega
      subst hkn
      go_wp2
      go_ret
      exact ⟨rfl, hb⟩
theorem szByteSSC (a : Option Addr) (n cap : Nat) (xs : List (List Int)) (left : Int) (w : World) (h : Bss w a n cap xs) (h0 : 0 ≤ left) (h1 : left ≤ 1048576) (hn : n ≤ 9223372036854775807) (hq : ∀ q, q < n → (xs.getD q []).length ≤ 9223372036854775807) :
    Calls Try.prog 121 #[.slice a n cap, .int .i64 left] w fun e w' => ∃ x : Int, e = .returned (.int .i64 x) ∧ (x = -1 ∨ (0 ≤ x ∧ x ≤ left ∧ SqSm n xs)) ∧ Below w.heap.size w w' := by
  have hw : IntKind.i64.wrap (left - n) = left - n := wr64 (by omega) (by omega)
  by_cases hlt0 : left - (n : Int) < 0
  · go_enter Try.func121, Try.ntmps121
    go_wp2
    go_ret
    exact ⟨_, rfl, .inl rfl, Below.refl _ _⟩
  obtain ⟨l1, hl1⟩ : ∃ l1 : Int, l1 = left - (n : Int) := ⟨_, rfl⟩
  have hl2 : l1 ≤ left := by omega
  have hnI : (n : Int) ≤ 1048576 := by omega
  have e1 : left - (n : Int) = l1 := hl1.symm
  clear hl1
  go_enter Try.func121, Try.ntmps121
  go_wp2
  clear e1
  go_loopw [1, 5] (fun u i wr => ∃ k : Nat, k ≤ n ∧ i = .int .i64 k ∧ (∃ r : Int, u = .int .i64 r ∧ 0 ≤ r ∧ r ≤ left) ∧ (∀ q, q < k → (xs.getD q []).length ≤ 1048576) ∧ Below w.heap.size w wr) (fun _ i _ => n - (intOf i).toNat)
  case atStart => exact ⟨0, Nat.zero_le _, rfl, ⟨_, rfl, by omega, by omega⟩, by omega, Below.refl _ _⟩
  case round =>
    obtain ⟨k, hk, rfl, ⟨r, rfl, hr0, hr1⟩, hall, hb⟩ := hrel
    have HA : Hid _ := hall
    clear hall
    by_cases hlt : k < n
    · obtain ⟨b, o, rfl, hbs, hcell⟩ := h.opened (by omega)
      obtain ⟨p, hx⟩ : ∃ x, x = xs.getD k [] := ⟨_, rfl⟩
      obtain ⟨ha, hc, c0, hB⟩ := hcell k hlt
      have hqq := hq k hlt
      rw [← hx] at c0 hqq
      have HX : Hid _ := hx
      have HQ : Hid _ := hq
      clear hx hcell hq hB
      replace c0 := (hb.cell (p := ⟨b, _, none⟩) hbs).trans c0
      obtain ⟨m, hm⟩ : ∃ m, m = p.length := ⟨_, rfl⟩
      have HM : Hid _ := hm
      rw [← hm] at c0 hqq
      clear hm
      go_wp2_with fail
      refine (szBC ha m hc r _ hr0 (by omega) hqq).mono ?_
      rintro e w2 ⟨r2, rfl, h2, hb2⟩
      have hB2 := hb.trans (hb2.mono hb.size)
      clear hb hb2 c0
      rcases h2 with rfl | ⟨g0, g1, g2⟩
      · go_wp2
        go_ret
        exact ⟨_, rfl, .inl rfl, hB2⟩
      · have gn : ¬ r2 < 0 := by omega
        go_wp2
        go_roundw
        case rel =>
          refine ⟨k + 1, by omega, by go_num, ⟨r2, rfl, g0, by omega⟩, fun q hq => ?_, hB2⟩
          by_cases e : q = k
          · subst e; rw [← HX.out, ← HM.out]; omega
          · exact HA.out q (by omega)
        case measure => simp [intOf]; omega
    · have hkn : k = n := by omega
      subst hkn
      go_wp2
      go_ret
      exact ⟨r, rfl, .inr ⟨hr0, hr1, by omega, HA.out⟩, hb⟩
end Go.Proofs.Ytgfjbaigmkdbcaa
