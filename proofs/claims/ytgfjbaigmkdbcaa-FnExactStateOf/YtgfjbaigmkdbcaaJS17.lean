/-
  What is proved here: rows of slices of bytes; what the laws' toByteSS, eqByteSS, szByteSS answer; the contract of a helper of the exact laws (copy a slice of ints), for every slice of at most 2^21 ints; contracts of two helpers of the exact laws (mark a slice of ints, look whether the marks are held), for every slice of at most 2^21 ints; the contract of the laws' count of a slice of ints; where a slice lies, and the laws' helpers on ints told as on bytes.
-/
import Derived.Test.YtgfjbaigmkdbcaaJS16
import Derived.Test.YtgfjbaigmkdbcaaTm
import Derived.Test.YtgfjbaigmkdbcaaJS1
namespace Go.Proofs.Ytgfjbaigmkdbcaa
open Go.RowKit
set_option maxRecDepth 100000
set_option maxHeartbeats 4000000
set_option linter.unusedVariables false

/-- What a slice of slices of bytes reads as. -/
def Bss (W : World) (a : Option Addr) (n c : Nat) (xs : List (List Int)) : Prop :=
  (a = none → c = 0) ∧ xs.length = n ∧ n ≤ c ∧ (n = 0 ∨ ∃ b o, a = some ⟨b, o, none⟩ ∧ b < W.heap.size ∧ ∀ i, i < n → ∃ ha hc, W.cell? ⟨b, o + i, none⟩ = some (.slice ha (xs.getD i []).length hc) ∧ Bs W ha (xs.getD i []).length hc (xs.getD i []))
theorem Bss.below {W W' : World} {a : Option Addr} {n c : Nat} {xs : List (List Int)} (h : Bss W a n c xs) (hb : Below W.heap.size W W') : Bss W' a n c xs := by
  obtain ⟨h0, h1, h2, h⟩ := h
  refine ⟨h0, h1, h2, ?_⟩
  rcases h with h | ⟨b, o, e, l, h⟩
  · exact .inl h
  · refine .inr ⟨b, o, e, Nat.lt_of_lt_of_le l hb.size, fun i hi => ?_⟩
    obtain ⟨ha, hc, k, q⟩ := h i hi
    exact ⟨ha, hc, (hb.cell (p := ⟨b, _, none⟩) l).trans k, q.below hb⟩
theorem Bss.opened {W : World} {a : Option Addr} {n c : Nat} {xs : List (List Int)} (h : Bss W a n c xs) (hn : 0 < n) : ∃ b o, a = some ⟨b, o, none⟩ ∧ b < W.heap.size ∧ ∀ i, i < n → ∃ ha hc, W.cell? ⟨b, o + i, none⟩ = some (.slice ha (xs.getD i []).length hc) ∧ Bs W ha (xs.getD i []).length hc (xs.getD i []) := by
  rcases h.2.2.2 with h | h
  · omega
  · exact h
/-- A row of its own from block lo on, whose inner rows lie behind it. -/
structure Sq (lo : Nat) (W : World) (a : Option Addr) (n c : Nat) (xs : List (List Int)) : Prop where
  len : xs.length = n
  cap : n ≤ c
  row : ∃ g l, a = some ⟨g, 0, none⟩ ∧ lo ≤ g ∧ g < W.heap.size ∧ W.ownsRow lo 35 1 (.slice a n c) n l ∧ ∀ q, q < n → ∃ b d, l[q]? = some (.slice b (xs.getD q []).length d) ∧ W.ownsRow (g + 1) 5 1 (.slice b (xs.getD q []).length d) (xs.getD q []).length (U8 (xs.getD q []))
theorem Sq.below {lo : Nat} {W W' : World} {a : Option Addr} {n c : Nat} {xs : List (List Int)} (h : Sq lo W a n c xs) (hb : Below W.heap.size W W') : Sq lo W' a n c xs := by
  obtain ⟨h0, h1, g, l, rfl, h2, h3, h4, h5⟩ := h
  refine ⟨h0, h1, g, l, rfl, h2, Nat.lt_of_lt_of_le h3 hb.size, own_below h4 hb, fun q hq => ?_⟩
  obtain ⟨b, d, e, o⟩ := h5 q hq
  exact ⟨b, d, e, own_below o hb⟩
theorem Sq.other {lo : Nat} {W : World} {a : Option Addr} {n c : Nat} {xs : List (List Int)} (h : Sq lo W a n c xs) (p : Addr) (u : Value) (hp : p.block < lo) : Sq lo (W.setCell p u) a n c xs := by
  obtain ⟨h0, h1, g, l, rfl, h2, h3, h4, h5⟩ := h
  refine ⟨h0, h1, g, l, rfl, h2, by simpa using h3, own_other h4 p u hp, fun q hq => ?_⟩
  obtain ⟨b, d, e, o⟩ := h5 q hq
  exact ⟨b, d, e, own_other o p u (by omega)⟩
theorem Sq.base {lo lo' : Nat} {W : World} {a : Option Addr} {n c : Nat} {xs : List (List Int)} (h : Sq lo W a n c xs) (hl : lo' ≤ lo) : Sq lo' W a n c xs := by
  obtain ⟨h0, h1, g, l, rfl, h2, h3, h4, h5⟩ := h
  exact ⟨h0, h1, g, l, rfl, by omega, h3, own_base h4 hl, h5⟩
abbrev SqBy (xs : List (List Int)) : Prop := ∀ q, q < xs.length → ∀ x ∈ xs.getD q [], 0 ≤ x ∧ x < 256
theorem Sq.rd {lo : Nat} {W : World} {a : Option Addr} {n c : Nat} {xs : List (List Int)} (h : Sq lo W a n c xs) (hy : SqBy xs) : Bss W a n c xs := by
  obtain ⟨h0, h1, g, l, rfl, h2, h3, h4, h5⟩ := h
  refine ⟨(fun h => by cases h), h0, h1, .inr ⟨g, 0, rfl, h3, fun i hi => ?_⟩⟩
  obtain ⟨b, d, e, o⟩ := h5 i hi
  refine ⟨b, d, ?_, bs_of_own o (hy i (by omega))⟩
  rw [Nat.zero_add]
  exact (h4.cellAt i (by omega)).trans e
theorem Bss.by_ {W : World} {a : Option Addr} {n c : Nat} {xs : List (List Int)} (h : Bss W a n c xs) : SqBy xs := by
  obtain ⟨_, h1, _, h⟩ := h
  intro q hq
  rcases h with h | ⟨b, o, _, _, h⟩
  · omega
  · obtain ⟨_, _, _, P⟩ := h q (by omega)
    exact P.2.2.2.1
abbrev SqSm (n : Nat) (xs : List (List Int)) : Prop := n ≤ 1048576 ∧ ∀ q, q < n → (xs.getD q []).length ≤ 1048576
theorem szBC (a : Option Addr) (n c : Nat) (l : Int) (w : World) (h0 : 0 ≤ l) (hl : l ≤ 1048576) (hn : n ≤ 9223372036854775807) :
    Calls Try.prog 117 #[.slice a n c, .int .i64 l] w fun e w' => ∃ r : Int, e = .returned (.int .i64 r) ∧ (r = -1 ∨ 0 ≤ r ∧ r ≤ l ∧ n ≤ 1048576) ∧ Below w.heap.size w w' := by
  refine (szB a n c l _ (by omega) (by omega) hn).mono ?_
  rintro e w' ⟨rfl, rfl⟩
  by_cases h1 : l - (n : Int) < 0
  · rw [if_pos h1]; exact ⟨_, rfl, .inl rfl, Below.refl _ _⟩
  · rw [if_neg h1]; exact ⟨_, rfl, .inr ⟨by omega, by omega, by omega⟩, Below.refl _ _⟩
theorem eqBC (a a' : Option Addr) (n c c' : Nat) (xs : List Int) (w : World) (h : Bs w a n c xs) (h' : Bs w a' n c' xs) (hn : n ≤ 2097152) :
    Calls Try.prog 22 #[.slice a n c, .slice a' n c'] w fun e w' => e = .returned (.bool true) ∧ Below w.heap.size w w' := by
  refine (eqB a a' n c c' xs _ h h' hn).mono ?_
  rintro e w' ⟨q, rfl, rfl⟩
  exact ⟨rfl, bel_drewN _ _⟩
theorem toByteSSC (a : Option Addr) (n cap : Nat) (xs : List (List Int)) (w : World) (h : Bss w a n cap xs) (hn : SqSm n xs) :
    Calls Try.prog 122 #[.slice a n cap] w fun e w' => ∃ a' c', e = .returned (.slice a' n c') ∧ Sq w.heap.size w' a' n c' xs ∧ Below w.heap.size w w' := by
  obtain ⟨i0, hi, hz0, hz1, hz2⟩ := info_parts (show (Try.prog.info? 35).map (fun i => (i.zero, i.size, i.bytes)) = some (some (.slice none 0 0), 1, 24) by kernel_rfl)
  have hl := h.2.1
  have hn1 := hn.1
  go_enter Try.func122, Try.ntmps122
  go_wp2_with (at_make; refine wpList_make_full _ rfl _ _ 87 rfl w.heap.size 35 i0 (.slice none 0 0) 1 Try.underlying87 hi hz0 hz1 .i64 .i64 n n n rfl rfl rfl rfl (by rw [hz2]; omega) (by unfold maxLen; omega) (Nat.le_refl _) ?_; intro w1 hown hgrow)
  have hbel : Below w.heap.size w w1 := (Below.refl _ _).grown hgrow (Nat.le_refl _) (by intro k hk; cases hk)
  obtain ⟨l0, hl0⟩ : ∃ l0, l0 = (madeCells (Value.slice none 0 0).cells (n * 1)).toList := ⟨_, rfl⟩
  rw [← hl0] at hown
  clear hl0 hgrow
  go_loopw [4] (fun i wr => ∃ k : Nat, k ≤ n ∧ i = .int .i64 k ∧ (∃ l, wr.ownsRow w.heap.size 35 1 (.slice (some ⟨w.heap.size, 0, none⟩) n n) n l ∧ ∀ q, q < k → ∃ b d, l[q]? = some (.slice b (xs.getD q []).length d) ∧ wr.ownsRow (w.heap.size + 1) 5 1 (.slice b (xs.getD q []).length d) (xs.getD q []).length (U8 (xs.getD q []))) ∧ Below w.heap.size w wr) (fun i _ => n - (intOf i).toNat)
  case atStart => exact ⟨0, Nat.zero_le _, rfl, ⟨_, hown, by omega⟩, hbel⟩
  case round =>
    clear hown hbel
    obtain ⟨k, hk, rfl, ⟨l, hown, hall⟩, hb⟩ := hrel
    have HL : Hid _ := hall
    clear hall
    have hgs : w.heap.size + 1 ≤ wr.heap.size := (hown.lt w.heap.size rfl).2
    by_cases hlt : k < n
    · obtain ⟨b, o, rfl, hbs, hcell⟩ := h.opened (by omega)
      obtain ⟨p, hx⟩ : ∃ p, p = xs.getD k [] := ⟨_, rfl⟩
      obtain ⟨ha, hc, c0, hB⟩ := hcell k hlt
      have hsm := hn.2 k hlt
      rw [← hx] at c0 hB hsm
      replace c0 := (hb.cell (p := ⟨b, _, none⟩) hbs).trans c0
      replace hB := hB.below (hb.mono (Nat.le_refl _))
      have HX : Hid _ := hx
      have HN : Hid _ := hn
      clear hx hcell hn
      obtain ⟨m, hm⟩ : ∃ m, m = p.length := ⟨_, rfl⟩
      have HM : Hid _ := hm
      rw [← hm] at c0 hB hsm
      clear hm
      go_wp2_with fail
      refine (toS ha m hc p _ hB (by omega)).mono ?_
      rintro e w2 ⟨a2, c2', rfl, o2, _, hb2⟩
      have hown2 := own_below hown hb2
      have hB2 := hb.trans (hb2.mono hb.size)
      have hll : l.length = n := by have := hown2.1; omega
      obtain ⟨u0, hu0⟩ : ∃ u, w2.cell? ⟨w.heap.size, k, none⟩ = some u := by
        rw [hown2.cellAt k (by omega)]
        exact ⟨_, List.getElem?_eq_getElem (by omega)⟩
      have f0 := fun j => hown2.frozenAt j
      have HS : Hid _ := (hown2.stored k (.slice a2 m c2')).1
      have HB : Hid _ := hB2.setCell (p := ⟨w.heap.size, k, none⟩) (Nat.le_refl _) (.slice a2 m c2')
      have HO : Hid _ := own_other (own_base o2 hgs) ⟨w.heap.size, k, none⟩ (.slice a2 m c2') (Nat.lt_succ_self w.heap.size)
      have HA : Hid (∀ q, q < k → ∃ b d, l[q]? = some (.slice b (xs.getD q []).length d) ∧ (w2.setCell ⟨w.heap.size, k, none⟩ (.slice a2 m c2')).ownsRow (w.heap.size + 1) 5 1 (.slice b (xs.getD q []).length d) (xs.getD q []).length (U8 (xs.getD q []))) := by
        intro q hq
        obtain ⟨b, d, e, o⟩ := HL.out q hq
        exact ⟨b, d, e, own_other (own_below o hb2) ⟨w.heap.size, k, none⟩ (.slice a2 m c2') (Nat.lt_succ_self w.heap.size)⟩
      have lS := (hown2.lt w.heap.size rfl).2
      have HLL : Hid (l.length = n) := hll
      clear hll hown hown2 hb hb2 hB2 c0 o2 hB HL
      go_wp2
      go_roundw
      case rel =>
        refine ⟨k + 1, by omega, by go_num, ⟨_, HS.out, fun q hq => ?_⟩, HB.out⟩
        by_cases e : q = k
        · subst e
          have hm := HM.out
          subst hm
          rw [← HX.out]
          exact ⟨a2, c2', by simp [HLL.out, hlt], HO.out⟩
        · rw [List.getElem?_set_ne (by omega)]
          exact HA.out q (by omega)
      case measure => simp [intOf]; omega
    · have hkn : k = n := by omega
      subst hkn
      go_wp2
      go_ret
      exact ⟨_, _, rfl, ⟨hl, Nat.le_refl _, _, l, rfl, Nat.le_refl _, (hown.lt w.heap.size rfl).2, hown, HL.out⟩, hb⟩
theorem eqByteSSC (a a' : Option Addr) (n cap cap' : Nat) (xs : List (List Int)) (w : World) (h : Bss w a n cap xs) (h' : Bss w a' n cap' xs) (hn : SqSm n xs) :
    Calls Try.prog 123 #[.slice a n cap, .slice a' n cap'] w fun e w' => e = .returned (.bool true) ∧ Below w.heap.size w w' := by
  have hne : ((n : Int) != (n : Int)) = false := by simp
  have hn1 := hn.1
  go_enter Try.func123, Try.ntmps123
  go_wp2
  go_loopw [5] (fun i wr => ∃ k : Nat, k ≤ n ∧ i = .int .i64 k ∧ Below w.heap.size w wr) (fun i _ => n - (intOf i).toNat)
  case atStart => exact ⟨0, Nat.zero_le _, rfl, Below.refl _ _⟩
  case round =>
    obtain ⟨k, hk, rfl, hb⟩ := hrel
    by_cases hlt : k < n
    · have hltI : (k : Int) < (n : Int) := by omega
      obtain ⟨b, o, rfl, hbs, hcell⟩ := h.opened (by omega)
      obtain ⟨b', o', rfl, hbs', hcell'⟩ := h'.opened (by omega)
      obtain ⟨p, hx⟩ : ∃ x, x = xs.getD k [] := ⟨_, rfl⟩
      obtain ⟨ha, hc, c0, hB⟩ := hcell k hlt
      obtain ⟨ha', hc', d0, hB'⟩ := hcell' k hlt
      have hsm := hn.2 k hlt
      rw [← hx] at c0 d0 hB hB' hsm
      clear hx hcell hcell'
      replace c0 := (hb.cell (p := ⟨b, _, none⟩) hbs).trans c0
      replace d0 := (hb.cell (p := ⟨b', _, none⟩) hbs').trans d0
      replace hB := hB.below (hb.mono (Nat.le_refl _))
      replace hB' := hB'.below (hb.mono (Nat.le_refl _))
      obtain ⟨m, hm⟩ : ∃ m, m = p.length := ⟨_, rfl⟩
      rw [← hm] at c0 d0 hB hB' hsm
      clear hm
      have l1 : b < wr.heap.size := Nat.lt_of_lt_of_le hbs hb.size
      have l2 : b' < wr.heap.size := Nat.lt_of_lt_of_le hbs' hb.size
      go_wp2
      try simp only [Act.put]
      refine tameG [kc 17 (.slice (some ⟨b, o, none⟩) n cap), kc 18 (.int .i64 (k : Int)), kc 19 (.pointer (some ⟨b, o + k, none⟩)), kc 20 (.slice ha m hc), kc 21 (.slice (some ⟨b', o', none⟩) n cap'), kc 22 (.int .i64 (k : Int)), kc 23 (.pointer (some ⟨b', o' + k, none⟩)), kc 24 (.slice ha' m hc'), kc 25 (.bool true), kc 26 (.bool false)] 10 (by kernel_rfl) (by kernel_rfl) (by kernel_rfl) (by repeat' first | exact trivial | apply kc_keeps | constructor) 0 (by kernel_rfl) (fun vv ll hh yW bW => ?_) (fun vv ll hh yW bW F ivh aph => ?_)
      · have x0' := (bW.cell (p := ⟨b, _, none⟩) l1).trans c0
        have y0 := (bW.cell (p := ⟨b', _, none⟩) l2).trans d0
        refine ⟨og (tp (by kernel_rfl)) (by kernel_rfl), og (tp (by kernel_rfl)) (by kernel_rfl), og (tp ?_) (by kernel_rfl), og (tp ?_) (by kernel_rfl), og (tp (by kernel_rfl)) (by kernel_rfl), og (tp (by kernel_rfl)) (by kernel_rfl), og (tp ?_) (by kernel_rfl), og (tp ?_) (by kernel_rfl), og (tc (eqBC ha ha' m hc hc' p _ (hB.below bW) (hB'.below bW) (by omega)) (by kernel_rfl)) (by kernel_rfl), og (tp (by kernel_rfl)) (by kernel_rfl), trivial⟩
        all_goals
          simp only [fillK, putT, List.setIfInBounds_toArray, List.set_cons_zero, List.set_cons_succ]
          unfold execOp
          go_simp
          try rfl
      clear F ivh aph
      obtain ⟨y, hy⟩ : ∃ z, z = yW := ⟨_, rfl⟩
      rw [← hy] at bW ⊢
      clear hy
      refine wpAny_done (by kernel_rfl) ?_ _
      simp only [fillK, putT, List.setIfInBounds_toArray, List.set_cons_zero, List.set_cons_succ]
      replace hb := hb.trans (bW.mono hb.size)
      clear bW c0 d0 hB hB'
      go_wp2
      go_roundw
      case rel => exact ⟨k + 1, by omega, by go_num, hb⟩
      case measure => simp [intOf]; omega
    · have hkn : k = n := by omega
      subst hkn
      go_wp2
      go_ret
      exact ⟨rfl, hb⟩
theorem szByteSSC (a : Option Addr) (n cap : Nat) (xs : List (List Int)) (left : Int) (w : World) (h : Bss w a n cap xs) (h0 : 0 ≤ left) (h1 : left ≤ 1048576) (hn : n ≤ 9223372036854775807) (hq : ∀ q, q < n → (xs.getD q []).length ≤ 9223372036854775807) :
    Calls Try.prog 121 #[.slice a n cap, .int .i64 left] w fun e w' => ∃ x : Int, e = .returned (.int .i64 x) ∧ (x = -1 ∨ (0 ≤ x ∧ x ≤ left ∧ SqSm n xs)) ∧ Below w.heap.size w w' := by
  have hw : IntKind.i64.wrap (left - n) = left - n := wr64 (by omega) (by omega)
  by_cases hlt0 : left - (n : Int) < 0
  · go_enter Try.func121, Try.ntmps121
    go_wp2
    go_ret
    exact ⟨_, rfl, .inl rfl, Below.refl _ _⟩
  obtain ⟨l1, hl1⟩ : ∃ l1 : Int, l1 = left - (n : Int) := ⟨_, rfl⟩
  have hl2 : l1 ≤ left := by omega
  have hnI : (n : Int) ≤ 1048576 := by omega
  have e1 : left - (n : Int) = l1 := hl1.symm
  clear hl1
  go_enter Try.func121, Try.ntmps121
  go_wp2
  clear e1
  go_loopw [1, 5] (fun u i wr => ∃ k : Nat, k ≤ n ∧ i = .int .i64 k ∧ (∃ r : Int, u = .int .i64 r ∧ 0 ≤ r ∧ r ≤ left) ∧ (∀ q, q < k → (xs.getD q []).length ≤ 1048576) ∧ Below w.heap.size w wr) (fun _ i _ => n - (intOf i).toNat)
  case atStart => exact ⟨0, Nat.zero_le _, rfl, ⟨_, rfl, by omega, by omega⟩, by omega, Below.refl _ _⟩
  case round =>
    obtain ⟨k, hk, rfl, ⟨r, rfl, hr0, hr1⟩, hall, hb⟩ := hrel
    have HA : Hid _ := hall
    clear hall
    by_cases hlt : k < n
    · obtain ⟨b, o, rfl, hbs, hcell⟩ := h.opened (by omega)
      obtain ⟨p, hx⟩ : ∃ x, x = xs.getD k [] := ⟨_, rfl⟩
      obtain ⟨ha, hc, c0, hB⟩ := hcell k hlt
      have hqq := hq k hlt
      rw [← hx] at c0 hqq
      have HX : Hid _ := hx
      have HQ : Hid _ := hq
      clear hx hcell hq hB
      replace c0 := (hb.cell (p := ⟨b, _, none⟩) hbs).trans c0
      obtain ⟨m, hm⟩ : ∃ m, m = p.length := ⟨_, rfl⟩
      have HM : Hid _ := hm
      rw [← hm] at c0 hqq
      clear hm
      go_wp2_with fail
      refine (szBC ha m hc r _ hr0 (by omega) hqq).mono ?_
      rintro e w2 ⟨r2, rfl, h2, hb2⟩
      have hB2 := hb.trans (hb2.mono hb.size)
      clear hb hb2 c0
      rcases h2 with rfl | ⟨g0, g1, g2⟩
      · go_wp2
        go_ret
        exact ⟨_, rfl, .inl rfl, hB2⟩
      · have gn : ¬ r2 < 0 := by omega
        go_wp2
        go_roundw
        case rel =>
          refine ⟨k + 1, by omega, by go_num, ⟨r2, rfl, g0, by omega⟩, fun q hq => ?_, hB2⟩
          by_cases e : q = k
          · subst e; rw [← HX.out, ← HM.out]; omega
          · exact HA.out q (by omega)
        case measure => simp [intOf]; omega
    · have hkn : k = n := by omega
      subst hkn
      go_wp2
      go_ret
      exact ⟨r, rfl, .inr ⟨hr0, hr1, by omega, HA.out⟩, hb⟩
end Go.Proofs.Ytgfjbaigmkdbcaa
namespace Go.Proofs.Ytgfjbaigmkdbcaa
open Go.RowKit

set_option maxHeartbeats 400000 in
theorem toI (a : Option Addr) (n cap : Nat) (xs : List Int) (w : World) (h : Is w a n cap xs) (hn : n ≤ 2097152) :
    Calls Try.prog 145 #[.slice a n cap] w fun e w' => ∃ v, e = .returned v ∧ w'.ownsRow w.heap.size 3 1 v n (I64 xs) ∧ Below w.heap.size w w' := by
  obtain ⟨i0, hi, hz0, hz1, hz2⟩ := info_parts Try.info3
  obtain ⟨_, hl, hc, _, h⟩ := h
  go_enter Try.func145, Try.ntmps145
  go_wp2_with (at_make; refine wpList_make_full _ rfl _ _ 61 rfl w.heap.size 3 i0 (.int .i64 0) 1 Try.underlying61 hi hz0 hz1 .i64 .i64 n n n rfl rfl rfl rfl (by rw [hz2]; omega) (by unfold maxLen; omega) (Nat.le_refl _) ?_; intro w1 hown hgrow)
  have hbel : Below w.heap.size w w1 := (Below.refl _ _).grown hgrow (Nat.le_refl _) (by intro k hk; cases hk)
  have hown0 : w1.ownsRow w.heap.size 3 1 (.slice (some ⟨w.heap.size, 0, none⟩) n n) n (I64 (xs.take 0 ++ List.replicate (n - 0) 0)) := by
    have e : (madeCells (Value.int IntKind.i64 0).cells (n * 1)).toList = I64 (xs.take 0 ++ List.replicate (n - 0) 0) := by
      rw [Nat.mul_one]; simpa [I64, Value.cells] using toList_madeCells_one (.int .i64 0) n
    rw [← e]; exact hown
  clear hown hgrow
  go_loopw [4] (fun i wr => ∃ k : Nat, k ≤ n ∧ i = .int .i64 k ∧ wr.ownsRow w.heap.size 3 1 (.slice (some ⟨w.heap.size, 0, none⟩) n n) n (I64 (xs.take k ++ List.replicate (n - k) 0)) ∧ Below w.heap.size w wr) (fun i _ => n - (intOf i).toNat)
  case atStart => exact ⟨0, Nat.zero_le _, rfl, hown0, hbel⟩
  case round =>
    obtain ⟨k, hk, rfl, hown, hb⟩ := hrel
    clear hown0 hbel
    by_cases hlt : k < n
    · rcases h with h | ⟨b, o, rfl, hbs, hcell⟩
      · omega
      · obtain ⟨x, hx⟩ : ∃ x, x = xs.getD k 0 := ⟨_, rfl⟩
        have hck : wr.cell? ⟨b, o + k, none⟩ = some (.int .i64 x) := by rw [hx]; exact (hb.cell (p := ⟨b, o + k, none⟩) hbs).trans (hcell k hlt)
        have hfz := hown.frozenAt k
        obtain ⟨u, hu⟩ : ∃ u, wr.cell? ⟨w.heap.size, k, none⟩ = some u := by
          rw [hown.cellAt k (by omega)]
          have : k < (I64 (xs.take k ++ List.replicate (n - k) 0)).length := by simp; omega
          exact ⟨_, List.getElem?_eq_getElem this⟩
        have hst := hown.stored k (.int .i64 x)
        rw [hx, set_takeI xs n k (by omega) hl, ← hx] at hst
        have hb2 := hb.setCell (p := ⟨w.heap.size, k, none⟩) (Nat.le_refl _) (.int .i64 x)
        have HS : Hid _ := hst
        have HB : Hid _ := hb2
        clear hst hb2 hown hcell hx
        go_wp2
        go_roundw
        case rel => exact ⟨k + 1, by omega, by go_num, HS.out.1, HB.out⟩
        case measure => simp [intOf]; omega
    · have hkn : k = n := by omega
      subst hkn
      go_wp2
      go_ret
      refine ⟨_, rfl, ?_, hb⟩
      simpa [List.take_of_length_le (show xs.length ≤ k by omega)] using hown

theorem toSI (a : Option Addr) (n cap : Nat) (xs : List Int) (w : World) (h : Is w a n cap xs) (hn : n ≤ 2097152) :
    Calls Try.prog 145 #[.slice a n cap] w fun e w' => ∃ a' cap', e = .returned (.slice a' n cap') ∧ w'.ownsRow w.heap.size 3 1 (.slice a' n cap') n (I64 xs) ∧ Is w' a' n cap' xs ∧ Below w.heap.size w w' := by
  have hby := h.2.2.2.1
  refine (toI a n cap xs w h hn).mono ?_
  rintro e w' ⟨v, rfl, hown, hb⟩
  obtain ⟨a', cap', rfl, _, hbs⟩ := Is.own hown hby
  exact ⟨a', cap', rfl, hown, hbs, hb⟩
end Go.Proofs.Ytgfjbaigmkdbcaa
namespace Go.Proofs.Ytgfjbaigmkdbcaa
open Go.RowKit



/-- The marks: k0, k0 + 1, ... -/
def marksI (k0 : Int) (n : Nat) : List Int := (List.range n).map (fun j : Nat => (k0 + (j : Int)))
theorem marksI_len (k0 : Int) (n : Nat) : (marksI k0 n).length = n := by simp [marksI]
theorem marksI_get (k0 : Int) (n k : Nat) (h : k < n) : (marksI k0 n).getD k 0 = (k0 + (k : Int)) := by simp [marksI, h]
theorem marksI_int (k0 : Int) (n : Nat) (h0 : 0 ≤ k0) (h1 : k0 ≤ 10000000) (hn : n ≤ 2097152) : ∀ x ∈ marksI k0 n, -9223372036854775808 ≤ x ∧ x ≤ 9223372036854775807 := by
  intro x hx; simp only [marksI, List.mem_map, List.mem_range] at hx; obtain ⟨j, hj, rfl⟩ := hx; omega
theorem set_marksI (xs : List Int) (k0 : Int) (n k : Nat) (h : k < n) (hn : xs.length = n) :
    (I64 (marksI k0 k ++ xs.drop k)).set k (.int .i64 ((k0 + (k : Int)))) = I64 (marksI k0 (k + 1) ++ xs.drop (k + 1)) := by
  have e : xs.drop k = xs.getD k 0 :: xs.drop (k + 1) := by
    rw [List.drop_eq_getElem_cons (by omega)]; simp [show k < xs.length by omega]
  have e2 : marksI k0 (k + 1) = marksI k0 k ++ [(k0 + (k : Int))] := by simp [marksI, List.range_succ]
  rw [e, e2]
  simp only [I64, List.map_append, List.map_cons]
  rw [List.set_append_right _ _ (by simp [marksI_len])]
  simp [marksI_len]

set_option maxHeartbeats 400000 in
theorem markI {ty : Nat} (B n : Nat) (v : Value) (k0 : Int) (xs : List Int) (w : World) (hown : w.ownsRow B ty 1 v n (I64 xs)) (hn : n ≤ 2097152) (h0 : 0 ≤ k0) (h1 : k0 ≤ 10000000) :
    Calls Try.prog 72 #[v, .int .i64 k0] w fun e w' => e = .returned (.int .i64 (k0 + n)) ∧ w'.ownsRow B ty 1 v n (I64 (marksI k0 n)) ∧ w.grownBy w' v.ownBlock := by
  obtain ⟨hl, hs⟩ := own_shapeI hown
  rcases hs with ⟨rfl, rfl⟩ | ⟨g, cap, rfl, hg, hgs, hnc, hcm, hc, hf⟩
  · go_enter Try.func72, Try.ntmps72
    go_wp2
    refine wp_loop_rounds 1 ?_
    rw [rounds_succ]
    go_wp2
    go_ret
    exact ⟨by simp, by simpa [marksI] using World.ownsRow_nil w B ty 1, World.grownBy.refl _ _⟩
  · have hown0 : w.ownsRow B ty 1 (.slice (some ⟨g, 0, none⟩) n cap) n (I64 (marksI k0 0 ++ xs.drop 0)) := by simpa [marksI] using hown
    clear hown hc hf
    go_enter Try.func72, Try.ntmps72
    go_wp2
    go_loopw [1, 5] (fun m i wr => ∃ k : Nat, k ≤ n ∧ i = .int .i64 k ∧ m = .int .i64 (k0 + k) ∧ wr.ownsRow B ty 1 (.slice (some ⟨g, 0, none⟩) n cap) n (I64 (marksI k0 k ++ xs.drop k)) ∧ w.grownBy wr (some g)) (fun _ i _ => n - (intOf i).toNat)
    case atStart => exact ⟨0, Nat.zero_le _, rfl, by simp, hown0, World.grownBy.refl _ _⟩
    case round =>
      obtain ⟨k, hk, rfl, rfl, hown, hb⟩ := hrel
      clear hown0
      by_cases hlt : k < n
      · have hfz := hown.frozenAt k
        obtain ⟨u, hu⟩ : ∃ u, wr.cell? ⟨g, k, none⟩ = some u := by
          rw [hown.cellAt k (by omega)]
          have : k < (I64 (marksI k0 k ++ xs.drop k)).length := by simp [marksI_len]; omega
          exact ⟨_, List.getElem?_eq_getElem this⟩
        have hst := hown.stored k (.int .i64 ((k0 + (k : Int))))
        rw [set_marksI xs k0 n k hlt hl] at hst
        have HS : Hid _ := hst
        have HB : Hid _ := hb
        clear hst hb hown
        go_wp2
        go_roundw
        case rel => exact ⟨k + 1, by omega, by go_num, by go_num, HS.out.1, grown_trans HB.out HS.out.2⟩
        case measure => simp [intOf]; omega
      · have hkn : k = n := by omega
        subst hkn
        go_wp2
        go_ret
        refine ⟨rfl, ?_, hb⟩
        simpa [List.drop_eq_nil_of_le (show xs.length ≤ k by omega)] using hown

set_option maxHeartbeats 400000 in
theorem heldI (a : Option Addr) (n cap : Nat) (k0 : Int) (w : World) (h : Is w a n cap (marksI k0 n)) (hn : n ≤ 2097152) (h0 : 0 ≤ k0) (h1 : k0 ≤ 10000000) :
    Calls Try.prog 73 #[.slice a n cap, .int .i64 k0] w fun e w' => e = .returned (.int .i64 (k0 + n)) ∧ w' = w := by
  obtain ⟨_, hl, hc, _, h⟩ := h
  go_enter Try.func73, Try.ntmps73
  go_wp2
  go_loop [1, 5] (fun m i => ∃ k : Nat, k ≤ n ∧ i = .int .i64 k ∧ m = .int .i64 (k0 + k)) (fun _ i => n - (intOf i).toNat)
  case atStart => exact ⟨0, Nat.zero_le _, rfl, by simp⟩
  case round =>
    obtain ⟨k, hk, rfl, rfl⟩ := hrel
    by_cases hlt : k < n
    · rcases h with h | ⟨b, o, rfl, hbs, hcell⟩
      · omega
      · have hck : w.cell? ⟨b, o + k, none⟩ = some (.int .i64 ((k0 + (k : Int)))) := by rw [← marksI_get k0 n k hlt]; exact hcell k hlt
        have hxx : (((k0 + (k : Int))) != ((k0 + (k : Int)))) = false := by simp
        clear hcell
        go_wp2
        go_round
        case rel => exact ⟨k + 1, by omega, by go_num, by go_num⟩
        case measure => simp [intOf]; omega
    · have hkn : k = n := by omega
      subst hkn
      go_wp2
      go_ret
      exact ⟨rfl, rfl⟩
end Go.Proofs.Ytgfjbaigmkdbcaa
namespace Go.Proofs.Ytgfjbaigmkdbcaa
open Go.RowKit

set_option maxHeartbeats 1000000 in
theorem szI (a : Option Addr) (n c : Nat) (l : Int) (w : World) (h0 : 0 ≤ l) (h1 : l ≤ 1048576) (hn : n ≤ 9223372036854775807) :
    Calls Try.prog 144 #[.slice a n c, .int .i64 l] w fun e w' => e = .returned (.int .i64 (if l - (n : Int) < 0 then -1 else l - (n : Int))) ∧ w' = w := by
  have hw : wrap64 (l - (n : Int)) = l - (n : Int) := by unfold wrap64; omega
  by_cases hlt : l - (n : Int) < 0
  · rw [if_pos hlt]
    go_enter Try.func144, Try.ntmps144
    go_wp2
    go_ret
    exact ⟨rfl, rfl⟩
  · rw [if_neg hlt]
    go_enter Try.func144, Try.ntmps144
    go_wp2
    go_ret
    exact ⟨rfl, rfl⟩

end Go.Proofs.Ytgfjbaigmkdbcaa
namespace Go.Proofs.Ytgfjbaigmkdbcaa
open Go.RowKit

/-- Where a slice lies, and its capacity. -/
structure SlA where
  a : Option Addr
  c : Nat
theorem szIC (a : Option Addr) (n c : Nat) (l : Int) (w : World) (h0 : 0 ≤ l) (hl : l ≤ 1048576) (hn : n ≤ 9223372036854775807) :
    Calls Try.prog 144 #[.slice a n c, .int .i64 l] w fun e w' => ∃ r : Int, e = .returned (.int .i64 r) ∧ (r = -1 ∨ 0 ≤ r ∧ r ≤ l ∧ n ≤ 1048576) ∧ Below w.heap.size w w' := by
  refine (szI a n c l _ (by omega) (by omega) hn).mono ?_
  rintro e w' ⟨rfl, rfl⟩
  by_cases h1 : l - (n : Int) < 0
  · rw [if_pos h1]; exact ⟨_, rfl, .inl rfl, Below.refl _ _⟩
  · rw [if_neg h1]; exact ⟨_, rfl, .inr ⟨by omega, by omega, by omega⟩, Below.refl _ _⟩
theorem eqIC (a a' : Option Addr) (n c c' : Nat) (xs : List Int) (w : World) (h : Is w a n c xs) (h' : Is w a' n c' xs) (hn : n ≤ 2097152) :
    Calls Try.prog 69 #[.slice a n c, .slice a' n c'] w fun e w' => e = .returned (.bool true) ∧ Below w.heap.size w w' := by
  refine (eqI a a' n c c' xs _ h h' hn).mono ?_
  rintro e w' ⟨q, rfl, rfl⟩
  exact ⟨rfl, bel_drewN _ _⟩
end Go.Proofs.Ytgfjbaigmkdbcaa
