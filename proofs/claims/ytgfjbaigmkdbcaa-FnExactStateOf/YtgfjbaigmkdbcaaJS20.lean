/-
  What is proved here: what the laws' toKey, eqKey, szKey answer; what the laws' toKeyS, eqKeyS, szKeyS answer, and rows of such elements in memory of their own.
-/
import Derived.Test.YtgfjbaigmkdbcaaBg
import Derived.Test.YtgfjbaigmkdbcaaJS16
import Derived.Test.YtgfjbaigmkdbcaaTm
namespace Go.Proofs.Ytgfjbaigmkdbcaa
open Go.RowKit
set_option maxRecDepth 100000
set_option maxHeartbeats 4000000
set_option linter.unusedVariables false

abbrev keyV (x0 x1 : Int) (x2 : Bool) (a : Option Addr) (n c : Nat) : Value := .agg #[.int .i64 x0, .int .i64 x1, .bool x2, .slice a n c]
abbrev key4 (x : KeyM) (a : Option Addr) (c : Nat) : L4 := ⟨.int .i64 x.i, .int .i64 x.r, .bool x.v, .slice a x.p.length c⟩
theorem szKeyC (x0 x1 : Int) (x2 : Bool) (a : Option Addr) (n c : Nat) (l : Int) (w : World) (h0 : 0 ≤ l) (hl : l ≤ 1048576) (hn : n ≤ 9223372036854775807) :
    Calls Try.prog 96 #[keyV x0 x1 x2 a n c, .int .i64 l] w fun e w' => ∃ r : Int, e = .returned (.int .i64 r) ∧ (r = -1 ∨ 0 ≤ r ∧ r ≤ l ∧ (n : Int) ≤ 1048576) ∧ Below w.heap.size w w' := by
  have HB : Hid (Below w.heap.size w (w.alloc (.cells #[.int .i64 x0, .int .i64 x1, .bool x2, .slice a n c] 130))) := (Below.refl _ _).alloc (Nat.le_refl _) _
  go_enter Try.func96, Try.ntmps96
  go_wp2_with fail
  refine (szB a n c l _ (by omega) (by omega) hn).mono ?_
  rintro e w' ⟨rfl, rfl⟩
  by_cases h1 : l - (n : Int) < 0
  · rw [if_pos h1]
    go_wp2
    go_ret
    exact ⟨-1, rfl, .inl rfl, HB.out⟩
  rw [if_neg h1]
  obtain ⟨l1, hl1⟩ : ∃ l1 : Int, l1 = l - (n : Int) := ⟨_, rfl⟩
  rw [← hl1]
  rw [← hl1] at h1
  have HL1 : Hid _ := hl1
  clear hl1
  go_wp2
  go_ret
  have hl1 := HL1.out
  exact ⟨l1, rfl, .inr ⟨by omega, by omega, by omega⟩, HB.out⟩
theorem eqKeyC (x0 x1 : Int) (x2 : Bool) (a : Option Addr) (n c : Nat) (a' : Option Addr) (c' : Nat) (p : List Int) (w : World) (hB : Bs w a n c p) (hB' : Bs w a' n c' p) (hn : n ≤ 2097152) :
    Calls Try.prog 101 #[keyV x0 x1 x2 a n c, keyV x0 x1 x2 a' n c'] w fun e w' => e = .returned (.bool true) ∧ Below w.heap.size w w' := by
  have h0 : (x0 != x0) = false := by simp
  have h1 : (x1 != x1) = false := by simp
  have h2 : (x2 != x2) = false := by simp
  have hL : Below w.heap.size w ((w.alloc (.cells #[.int .i64 x0, .int .i64 x1, .bool x2, .slice a n c] 131)).alloc (.cells #[.int .i64 x0, .int .i64 x1, .bool x2, .slice a' n c'] 131)) := ((Below.refl _ _).alloc (Nat.le_refl _) _).alloc (by simp) _
  have HB : Hid _ := hL
  clear hL
  go_enter Try.func101, Try.ntmps101
  go_wp2_with fail
  refine (eqB a a' n c c' p _ (hB.below HB.out) (hB'.below HB.out) hn).mono ?_
  rintro e w1 ⟨q1, rfl, rfl⟩
  go_wp2
  go_ret
  exact ⟨rfl, bel_dN HB.out q1⟩
theorem toKeyC (x0 x1 : Int) (x2 : Bool) (a : Option Addr) (n c : Nat) (p : List Int) (w : World) (hB : Bs w a n c p) (hn : n ≤ 2097152) :
    Calls Try.prog 97 #[keyV x0 x1 x2 a n c] w fun e w' => ∃ a' c', e = .returned (keyV x0 x1 x2 a' n c') ∧ w'.ownsRow w.heap.size 5 1 (.slice a' n c') n (U8 p) ∧ Below w.heap.size w w' := by
  have hbb := hB.2.2.2.1
  obtain ⟨V, hV⟩ : ∃ V, V = (((w.alloc (.cells #[.int .i64 x0, .int .i64 x1, .bool x2, .slice a n c] 130)).alloc (.cells #[.int .i64 0, .int .i64 0, .bool false, .slice none 0 0] 131)).alloc (.cells #[.int .i64 x0, .int .i64 x1, .bool x2, .slice none 0 0] 131)) := ⟨_, rfl⟩
  have hL : Below w.heap.size w V := by rw [hV]; exact ((((Below.refl _ _).alloc (Nat.le_refl _) _).alloc (by simp) _).alloc (by simp; omega) _)
  have hA1 : Arr V (w.heap.size + 1) 131 [.int .i64 0, .int .i64 0, .bool false, .slice none 0 0] := by
    rw [hV]
    have := (Arr.new (w.alloc (.cells #[.int .i64 x0, .int .i64 x1, .bool x2, .slice a n c] 130)) [.int .i64 0, .int .i64 0, .bool false, .slice none 0 0] 131).alloc (.cells #[.int .i64 x0, .int .i64 x1, .bool x2, .slice none 0 0] 131)
    simpa using this
  have hA2 : Arr V (w.heap.size + 1 + 1) 131 [.int .i64 x0, .int .i64 x1, .bool x2, .slice none 0 0] := by
    rw [hV]
    have := Arr.new ((w.alloc (.cells #[.int .i64 x0, .int .i64 x1, .bool x2, .slice a n c] 130)).alloc (.cells #[.int .i64 0, .int .i64 0, .bool false, .slice none 0 0] 131)) [.int .i64 x0, .int .i64 x1, .bool x2, .slice none 0 0] 131
    simpa using this
  have zV : w.heap.size + 3 ≤ V.heap.size := by rw [hV]; simp
  go_enter Try.func97, Try.ntmps97
  go_wp2_with fail
  rw [← hV]
  refine (toS a n c p _ (hB.below hL) hn).mono ?_
  rintro e w1 ⟨a1, c1, rfl, ho1, _, hb1⟩
  clear hV
  have hb1' := hL.trans (hb1.mono hL.size)
  have k1 := hA1.kept hb1
  have k2 := hA2.kept hb1
  clear hA1 hA2
  have d0 := k2.cell 0
  have d1 := k2.cell 1
  have d2 := k2.cell 2
  have d3 := k2.cell 3
  have f := k2.frozen
  have f1 := k1.frozen
  have e0 := k1.cell 0
  have e1 := k1.cell 1
  have e2 := k1.cell 2
  have e3 := k1.cell 3
  simp at d0 d1 d2 d3 e0 e1 e2 e3
  have hlt := k2.lt
  have hlt1 := k1.lt
  have HO : Hid (∀ q u, q.block < V.heap.size → ∀ q0 u0, q0.block < V.heap.size → ∀ q1 u1, q1.block < V.heap.size → ∀ q2 u2, q2.block < V.heap.size → ∀ q3 u3, q3.block < V.heap.size → (((((w1.setCell q u).setCell q0 u0).setCell q1 u1).setCell q2 u2).setCell q3 u3).ownsRow w.heap.size 5 1 (.slice a1 n c1) n (U8 p)) := by
    intro q u h q0 u0 h0 q1 u1 h1 q2 u2 h2 q3 u3 h3
    exact own_base (own_other (own_other (own_other (own_other (own_other ho1 q u h) q0 u0 h0) q1 u1 h1) q2 u2 h2) q3 u3 h3) hL.size
  have HF : Hid (∀ u u0 u1 u2 u3, Below w.heap.size w (((((w1.setCell ⟨w.heap.size + 1 + 1, 3, none⟩ u).setCell ⟨w.heap.size + 1, 0, none⟩ u0).setCell ⟨w.heap.size + 1, 1, none⟩ u1).setCell ⟨w.heap.size + 1, 2, none⟩ u2).setCell ⟨w.heap.size + 1, 3, none⟩ u3)) := fun u u0 u1 u2 u3 =>
    ((((hb1'.setCell (by simp; omega) _).setCell (by simp) _).setCell (by simp) _).setCell (by simp) _).setCell (by simp) _
  have K1 : Hid (Arr w1 (w.heap.size + 1) 131 [.int .i64 0, .int .i64 0, .bool false, .slice none 0 0]) := k1
  clear hb1 hb1' ho1 hL hB hbb k1 k2
  go_wp2
  have K2 : Arr w1 (w.heap.size + 1) 131 [.int .i64 0, .int .i64 0, .bool false, .slice none 0 0] := K1.out
  have n3 := ((((K2.other ⟨w.heap.size + 1 + 1, 3, none⟩ (.slice a1 n c1) (by simp)).set 0 (.int .i64 x0)).set 1 (.int .i64 x1)).set 2 (.bool x2)).set 3 (.slice a1 n c1)
  exact bodyPost_ret (results_cell_row rfl _ _ (w.heap.size + 1) 131 _ (0, 0) _ rfl n3 Try.underlying131 rfl (by kernel_rfl)) rfl ⟨a1, c1, rfl, HO.out _ _ (by simp; omega) _ _ (by simp; omega) _ _ (by simp; omega) _ _ (by simp; omega) _ _ (by simp; omega), HF.out _ _ _ _ _⟩
end Go.Proofs.Ytgfjbaigmkdbcaa
namespace Go.Proofs.Ytgfjbaigmkdbcaa
open Go.RowKit
set_option maxRecDepth 100000
set_option maxHeartbeats 4000000
set_option linter.unusedVariables false

/-- A row of its own from block lo on, whose inner rows lie behind it. -/
structure Kq (lo : Nat) (W : World) (a : Option Addr) (n c : Nat) (xs : List KeyM) : Prop where
  len : xs.length = n
  cap : n ≤ c
  row : ∃ g l, a = some ⟨g, 0, none⟩ ∧ lo ≤ g ∧ g < W.heap.size ∧ W.ownsRow lo 131 4 (.slice a n c) n (QL l) ∧ (∀ q, q < n → ∃ b d, lg l q = key4 (xs.getD q kz) b d ∧ W.ownsRow (g + 1) 5 1 (.slice b (xs.getD q kz).p.length d) (xs.getD q kz).p.length (U8 (xs.getD q kz).p)) ∧ ∀ q q', q < q' → q' < n → Apart (lg l q).d (lg l q').d
theorem Kq.below {lo : Nat} {W W' : World} {a : Option Addr} {n c : Nat} {xs : List KeyM} (h : Kq lo W a n c xs) (hb : Below W.heap.size W W') : Kq lo W' a n c xs := by
  obtain ⟨h0, h1, g, l, rfl, h2, h3, h4, h5, h6⟩ := h
  refine ⟨h0, h1, g, l, rfl, h2, Nat.lt_of_lt_of_le h3 hb.size, own_below h4 hb, fun q hq => ?_, h6⟩
  obtain ⟨b, d, e, o⟩ := h5 q hq
  exact ⟨b, d, e, own_below o hb⟩
theorem Kq.other {lo : Nat} {W : World} {a : Option Addr} {n c : Nat} {xs : List KeyM} (h : Kq lo W a n c xs) (p : Addr) (u : Value) (hp : p.block < lo) : Kq lo (W.setCell p u) a n c xs := by
  obtain ⟨h0, h1, g, l, rfl, h2, h3, h4, h5, h6⟩ := h
  refine ⟨h0, h1, g, l, rfl, h2, by simpa using h3, own_other h4 p u hp, fun q hq => ?_, h6⟩
  obtain ⟨b, d, e, o⟩ := h5 q hq
  exact ⟨b, d, e, own_other o p u (by omega)⟩
theorem Kq.base {lo lo' : Nat} {W : World} {a : Option Addr} {n c : Nat} {xs : List KeyM} (h : Kq lo W a n c xs) (hl : lo' ≤ lo) : Kq lo' W a n c xs := by
  obtain ⟨h0, h1, g, l, rfl, h2, h3, h4, h5, h6⟩ := h
  exact ⟨h0, h1, g, l, rfl, by omega, h3, own_base h4 hl, h5, h6⟩
abbrev KqBy (xs : List KeyM) : Prop := ∀ q, q < xs.length → ∀ x ∈ (xs.getD q kz).p, 0 ≤ x ∧ x < 256
theorem Kq.rd {lo : Nat} {W : World} {a : Option Addr} {n c : Nat} {xs : List KeyM} (h : Kq lo W a n c xs) (hy : KqBy xs) : Ks W a n c xs := by
  obtain ⟨h0, h1, g, l, rfl, h2, h3, h4, h5, _⟩ := h
  refine ⟨(fun h => by cases h), h0, h1, .inr ⟨g, 0, rfl, h3, fun i hi => ?_⟩⟩
  obtain ⟨b, d, e, o⟩ := h5 i hi
  obtain ⟨q0, q1, q2, q3⟩ := q4_at h4 i hi
  rw [e] at q0 q1 q2 q3
  rw [Nat.zero_add]
  exact ⟨b, d, q0, q1, q2, q3, bs_of_own o (hy i (by omega))⟩
theorem Ks.by_ {W : World} {a : Option Addr} {n c : Nat} {xs : List KeyM} (h : Ks W a n c xs) : KqBy xs := by
  obtain ⟨_, h1, _, h⟩ := h
  intro q hq
  rcases h with h | ⟨b, o, _, _, h⟩
  · omega
  · obtain ⟨_, _, P⟩ := h q (by omega)
    exact P.by_.2.2.2.1
theorem Ks.opened {W : World} {a : Option Addr} {n c : Nat} {xs : List KeyM} (h : Ks W a n c xs) (hn : 0 < n) : ∃ b o, a = some ⟨b, o, none⟩ ∧ b < W.heap.size ∧ ∀ i, i < n → ∃ ha hc, KeyAt W b (o + i * 4) (xs.getD i kz) ha hc := by
  rcases h.2.2.2 with h | h
  · omega
  · exact h
abbrev KqSm (n : Nat) (xs : List KeyM) : Prop := n ≤ 1048576 ∧ ∀ q, q < n → (xs.getD q kz).p.length ≤ 1048576
theorem toKeySC (a : Option Addr) (n cap : Nat) (xs : List KeyM) (w : World) (h : Ks w a n cap xs) (hn : KqSm n xs) :
    Calls Try.prog 30 #[.slice a n cap] w fun e w' => ∃ a' c', e = .returned (.slice a' n c') ∧ Kq w.heap.size w' a' n c' xs ∧ Below w.heap.size w w' := by
  obtain ⟨i0, hi, hz0, hz1, hz2⟩ := info_parts (show (Try.prog.info? 131).map (fun i => (i.zero, i.size, i.bytes)) = some (some (.agg #[.int .i64 0, .int .i64 0, .bool false, .slice none 0 0]), 4, 48) by kernel_rfl)
  have hl := h.2.1
  have hn1 := hn.1
  go_enter Try.func30, Try.ntmps30
  go_wp2_with (at_make; refine wpList_make_full _ rfl _ _ 44 rfl w.heap.size 131 i0 (.agg #[.int .i64 0, .int .i64 0, .bool false, .slice none 0 0]) 4 Try.underlying44 hi hz0 hz1 .i64 .i64 n n n rfl rfl rfl rfl (by rw [hz2]; omega) (by unfold maxLen; omega) (Nat.le_refl _) ?_; intro w1 hown hgrow)
  have hbel : Below w.heap.size w w1 := (Below.refl _ _).grown hgrow (Nat.le_refl _) (by intro k hk; cases hk)
  have hown0 : w1.ownsRow w.heap.size 131 4 (.slice (some ⟨w.heap.size, 0, none⟩) n n) n (QL (List.replicate n ⟨.int .i64 0, .int .i64 0, .bool false, .slice none 0 0⟩)) := by
    rw [← QL_rep]; exact hown
  clear hown hgrow
  go_loopw [4] (fun i wr => ∃ k : Nat, k ≤ n ∧ i = .int .i64 k ∧ (∃ l, wr.ownsRow w.heap.size 131 4 (.slice (some ⟨w.heap.size, 0, none⟩) n n) n (QL l) ∧ (∀ q, q < k → ∃ b d, lg l q = key4 (xs.getD q kz) b d ∧ wr.ownsRow (w.heap.size + 1) 5 1 (.slice b (xs.getD q kz).p.length d) (xs.getD q kz).p.length (U8 (xs.getD q kz).p)) ∧ ∀ q q', q < q' → q' < k → Apart (lg l q).d (lg l q').d) ∧ Below w.heap.size w wr) (fun i _ => n - (intOf i).toNat)
  case atStart => exact ⟨0, Nat.zero_le _, rfl, ⟨_, hown0, by omega, by omega⟩, hbel⟩
  case round =>
    obtain ⟨k, hk, rfl, ⟨l, hown, hall, hapt⟩, hb⟩ := hrel
    have HL : Hid _ := hall
    have HAp : Hid _ := hapt
    clear hown0 hbel hall hapt
    have hgs : w.heap.size + 1 ≤ wr.heap.size := (hown.lt w.heap.size rfl).2
    by_cases hlt : k < n
    · obtain ⟨b, o, rfl, hbs, hcell⟩ := h.opened (by omega)
      obtain ⟨x, hx⟩ : ∃ x, x = xs.getD k kz := ⟨_, rfl⟩
      obtain ⟨ha, hc, hr⟩ := hcell k hlt
      have hsm := hn.2 k hlt
      rw [← hx] at hr hsm
      replace hr := hr.below hbs (hb.mono (Nat.le_refl _))
      have HX : Hid _ := hx
      have HN : Hid _ := hn
      clear hx hcell hn
      obtain ⟨x0, x1, x2, p⟩ := x
      obtain ⟨c0, c1, c2, c3, hB⟩ := hr
      dsimp only at c0 c1 c2 c3 hB hsm
      obtain ⟨m, hm⟩ : ∃ m, m = p.length := ⟨_, rfl⟩
      have HM : Hid _ := hm
      rw [← hm] at c3 hB hsm
      clear hm
      go_wp2_with fail
      refine (toKeyC x0 x1 x2 ha m hc p _ hB (by omega)).mono ?_
      rintro e w2 ⟨a2, c2', rfl, o2, hb2⟩
      have hown2 := own_below hown hb2
      have hB2 := hb.trans (hb2.mono hb.size)
      obtain ⟨d0, d1, d2, d3⟩ := q4_at hown2 k hlt
      have f0 := fun j => hown2.frozenAt j
      have HS : Hid _ := q4_set hown2 k hlt ⟨.int .i64 x0, .int .i64 x1, .bool x2, .slice a2 m c2'⟩
      have HB : Hid _ := bel_r4 hB2 (Nat.le_refl w.heap.size) (k * 4) (.int .i64 x0) (.int .i64 x1) (.bool x2) (.slice a2 m c2')
      have HO : Hid _ := own_r4 (own_base o2 hgs) (Nat.lt_succ_self w.heap.size) (k * 4) (.int .i64 x0) (.int .i64 x1) (.bool x2) (.slice a2 m c2')
      have HA : Hid (∀ q, q < k → ∃ b d, lg l q = key4 (xs.getD q kz) b d ∧ ((((w2.setCell ⟨w.heap.size, k * 4, none⟩ (.int .i64 x0)).setCell ⟨w.heap.size, k * 4 + 1, none⟩ (.int .i64 x1)).setCell ⟨w.heap.size, k * 4 + 2, none⟩ (.bool x2)).setCell ⟨w.heap.size, k * 4 + 3, none⟩ (.slice a2 m c2')).ownsRow (w.heap.size + 1) 5 1 (.slice b (xs.getD q kz).p.length d) (xs.getD q kz).p.length (U8 (xs.getD q kz).p)) := by
        intro q hq
        obtain ⟨b, d, e, o⟩ := HL.out q hq
        exact ⟨b, d, e, own_r4 (own_below o hb2) (Nat.lt_succ_self w.heap.size) (k * 4) (.int .i64 x0) (.int .i64 x1) (.bool x2) (.slice a2 m c2')⟩
      have HP2 : Hid (∀ q, q < k → Apart (lg l q).d (.slice a2 m c2')) := by
        intro q hq
        obtain ⟨b, d, e, o⟩ := HL.out q hq
        rw [e]
        exact apart_of o o2 (Nat.le_refl _)
      have lS := (hown2.lt w.heap.size rfl).2
      have HLL : Hid (l.length = n) := q4_len hown2
      clear hown hown2 hb hb2 hB2 c0 c1 c2 c3 o2 hB HL
      go_wp2
      go_roundw
      case rel =>
        refine ⟨k + 1, by omega, by go_num, ⟨_, HS.out, fun q hq => ?_, fun q q' h1 h2 => ?_⟩, HB.out⟩
        · rw [lg_set _ _ _ _ (by rw [HLL.out]; exact hlt)]
          split
          · next e => subst e; rw [← HX.out]; have hm := HM.out; subst hm; exact ⟨a2, c2', rfl, HO.out⟩
          · exact HA.out q (by omega)
        · rw [lg_set _ _ _ _ (by rw [HLL.out]; exact hlt), lg_set _ _ _ _ (by rw [HLL.out]; exact hlt), if_neg (show ¬ q = k by omega)]
          split
          · next e => exact HP2.out q (by omega)
          · next e => exact HAp.out q q' h1 (by omega)
      case measure => simp [intOf]; omega
    · have hkn : k = n := by omega
      subst hkn
      go_wp2
      go_ret
      exact ⟨_, _, rfl, ⟨hl, Nat.le_refl _, _, l, rfl, Nat.le_refl _, (hown.lt w.heap.size rfl).2, hown, HL.out, HAp.out⟩, hb⟩
theorem eqKeySC (a a' : Option Addr) (n cap cap' : Nat) (xs : List KeyM) (w : World) (h : Ks w a n cap xs) (h' : Ks w a' n cap' xs) (hn : KqSm n xs) :
    Calls Try.prog 32 #[.slice a n cap, .slice a' n cap'] w fun e w' => e = .returned (.bool true) ∧ Below w.heap.size w w' := by
  have hne : ((n : Int) != (n : Int)) = false := by simp
  have hn1 := hn.1
  go_enter Try.func32, Try.ntmps32
  go_wp2
  go_loopw [5] (fun i wr => ∃ k : Nat, k ≤ n ∧ i = .int .i64 k ∧ Below w.heap.size w wr) (fun i _ => n - (intOf i).toNat)
  case atStart => exact ⟨0, Nat.zero_le _, rfl, Below.refl _ _⟩
  case round =>
    obtain ⟨k, hk, rfl, hb⟩ := hrel
    by_cases hlt : k < n
    · have hltI : (k : Int) < (n : Int) := by omega
      obtain ⟨b, o, rfl, hbs, hcell⟩ := h.opened (by omega)
      obtain ⟨b', o', rfl, hbs', hcell'⟩ := h'.opened (by omega)
      obtain ⟨x, hx⟩ : ∃ x, x = xs.getD k kz := ⟨_, rfl⟩
      obtain ⟨ha, hc, hr⟩ := hcell k hlt
      obtain ⟨ha', hc', hr'⟩ := hcell' k hlt
      have hsm := hn.2 k hlt
      rw [← hx] at hr hr' hsm
      clear hx hcell hcell'
      replace hr := hr.below hbs (hb.mono (Nat.le_refl _))
      replace hr' := hr'.below hbs' (hb.mono (Nat.le_refl _))
      obtain ⟨x0, x1, x2, p⟩ := x
      obtain ⟨c0, c1, c2, c3, hB⟩ := hr
      obtain ⟨d0, d1, d2, d3, hB'⟩ := hr'
      dsimp only at c0 c1 c2 c3 d0 d1 d2 d3 hB hB' hsm
      obtain ⟨m, hm⟩ : ∃ m, m = p.length := ⟨_, rfl⟩
      rw [← hm] at c3 d3 hB hB' hsm
      clear hm
      have l1 : b < wr.heap.size := Nat.lt_of_lt_of_le hbs hb.size
      have l2 : b' < wr.heap.size := Nat.lt_of_lt_of_le hbs' hb.size
      go_wp2
      try simp only [Act.put]
      refine tameG [kc 17 (.slice (some ⟨b, o, none⟩) n cap), kc 18 (.int .i64 (k : Int)), kc 19 (.pointer (some ⟨b, o + k * 4, none⟩)), kc 20 (keyV x0 x1 x2 ha m hc), kc 21 (.slice (some ⟨b', o', none⟩) n cap'), kc 22 (.int .i64 (k : Int)), kc 23 (.pointer (some ⟨b', o' + k * 4, none⟩)), kc 24 (keyV x0 x1 x2 ha' m hc'), kc 25 (.bool true), kc 26 (.bool false)] 10 (by kernel_rfl) (by kernel_rfl) (by kernel_rfl) (by repeat' first | exact trivial | apply kc_keeps | constructor) 0 (by kernel_rfl) (fun vv ll hh yW bW => ?_) (fun vv ll hh yW bW F ivh aph => ?_)
      · have x0' := (bW.cell (p := ⟨b, _, none⟩) l1).trans c0
        have x1' := (bW.cell (p := ⟨b, _, none⟩) l1).trans c1
        have x2' := (bW.cell (p := ⟨b, _, none⟩) l1).trans c2
        have x3' := (bW.cell (p := ⟨b, _, none⟩) l1).trans c3
        have y0 := (bW.cell (p := ⟨b', _, none⟩) l2).trans d0
        have y1 := (bW.cell (p := ⟨b', _, none⟩) l2).trans d1
        have y2 := (bW.cell (p := ⟨b', _, none⟩) l2).trans d2
        have y3 := (bW.cell (p := ⟨b', _, none⟩) l2).trans d3
        refine ⟨og (tp (by kernel_rfl)) (by kernel_rfl), og (tp (by kernel_rfl)) (by kernel_rfl), og (tp ?_) (by kernel_rfl), og (tp ?_) (by kernel_rfl), og (tp (by kernel_rfl)) (by kernel_rfl), og (tp (by kernel_rfl)) (by kernel_rfl), og (tp ?_) (by kernel_rfl), og (tp ?_) (by kernel_rfl), og (tc (eqKeyC x0 x1 x2 ha m hc ha' hc' p _ (hB.below bW) (hB'.below bW) (by omega)) (by kernel_rfl)) (by kernel_rfl), og (tp (by kernel_rfl)) (by kernel_rfl), trivial⟩
        all_goals
          simp only [fillK, putT, List.setIfInBounds_toArray, List.set_cons_zero, List.set_cons_succ]
          unfold execOp
          go_simp
          try rfl
      clear F ivh aph
      obtain ⟨y, hy⟩ : ∃ z, z = yW := ⟨_, rfl⟩
      rw [← hy] at bW ⊢
      clear hy
      refine wpAny_done (by kernel_rfl) ?_ _
      simp only [fillK, putT, List.setIfInBounds_toArray, List.set_cons_zero, List.set_cons_succ]
      replace hb := hb.trans (bW.mono hb.size)
      clear bW c0 c1 c2 c3 d0 d1 d2 d3 hB hB'
      go_wp2
      go_roundw
      case rel => exact ⟨k + 1, by omega, by go_num, hb⟩
      case measure => simp [intOf]; omega
    · have hkn : k = n := by omega
      subst hkn
      go_wp2
      go_ret
      exact ⟨rfl, hb⟩
theorem szKeySC (a : Option Addr) (n cap : Nat) (xs : List KeyM) (left : Int) (w : World) (h : Ks w a n cap xs) (h0 : 0 ≤ left) (h1 : left ≤ 1048576) (hn : n ≤ 9223372036854775807) (hq : ∀ q, q < n → (xs.getD q kz).p.length ≤ 9223372036854775807) :
    Calls Try.prog 28 #[.slice a n cap, .int .i64 left] w fun e w' => ∃ x : Int, e = .returned (.int .i64 x) ∧ (x = -1 ∨ (0 ≤ x ∧ x ≤ left ∧ KqSm n xs)) ∧ Below w.heap.size w w' := by
  have hw : IntKind.i64.wrap (left - n) = left - n := wr64 (by omega) (by omega)
  by_cases hlt0 : left - (n : Int) < 0
  · go_enter Try.func28, Try.ntmps28
    go_wp2
    go_ret
    exact ⟨_, rfl, .inl rfl, Below.refl _ _⟩
  obtain ⟨l1, hl1⟩ : ∃ l1 : Int, l1 = left - (n : Int) := ⟨_, rfl⟩
  have hl2 : l1 ≤ left := by omega
  have hnI : (n : Int) ≤ 1048576 := by omega
  have HL1 : Hid _ := hl1
  have e1 : left - (n : Int) = l1 := hl1.symm
  clear hl1
  go_enter Try.func28, Try.ntmps28
  go_wp2
  clear e1
  go_loopw [1, 5] (fun u i wr => ∃ k : Nat, k ≤ n ∧ i = .int .i64 k ∧ (∃ r : Int, u = .int .i64 r ∧ 0 ≤ r ∧ r ≤ left) ∧ (∀ q, q < k → (xs.getD q kz).p.length ≤ 1048576) ∧ Below w.heap.size w wr) (fun _ i _ => n - (intOf i).toNat)
  case atStart => exact ⟨0, Nat.zero_le _, rfl, ⟨_, rfl, by omega, by omega⟩, by omega, Below.refl _ _⟩
  case round =>
    obtain ⟨k, hk, rfl, ⟨r, rfl, hr0, hr1⟩, hall, hb⟩ := hrel
    have HA : Hid _ := hall
    clear hall
    by_cases hlt : k < n
    · obtain ⟨b, o, rfl, hbs, hcell⟩ := h.opened (by omega)
      obtain ⟨x, hx⟩ : ∃ x, x = xs.getD k kz := ⟨_, rfl⟩
      obtain ⟨ha, hc, hr⟩ := hcell k hlt
      have hqq := hq k hlt
      rw [← hx] at hr hqq
      have HX : Hid _ := hx
      have HQ : Hid _ := hq
      clear hx hcell hq
      replace hr := hr.below hbs (hb.mono (Nat.le_refl _))
      obtain ⟨x0, x1, x2, p⟩ := x
      obtain ⟨c0, c1, c2, c3, hB⟩ := hr
      dsimp only at c0 c1 c2 c3 hB hqq
      obtain ⟨m, hm⟩ : ∃ m, m = p.length := ⟨_, rfl⟩
      have HM : Hid _ := hm
      rw [← hm] at c3 hqq
      clear hm hB
      go_wp2_with fail
      refine (szKeyC x0 x1 x2 ha m hc r _ hr0 (by omega) hqq).mono ?_
      rintro e w2 ⟨r2, rfl, h2, hb2⟩
      have hB2 := hb.trans (hb2.mono hb.size)
      clear hb hb2 c0 c1 c2 c3
      rcases h2 with rfl | ⟨g0, g1, g2⟩
      · go_wp2
        go_ret
        exact ⟨_, rfl, .inl rfl, hB2⟩
      · have gn : ¬ r2 < 0 := by omega
        go_wp2
        go_roundw
        case rel =>
          refine ⟨k + 1, by omega, by go_num, ⟨r2, rfl, g0, by omega⟩, fun q hq => ?_, hB2⟩
          by_cases e : q = k
          · subst e; rw [← HX.out]; dsimp only; rw [← HM.out]; omega
          · exact HA.out q (by omega)
        case measure => simp [intOf]; omega
    · have hkn : k = n := by omega
      subst hkn
      go_wp2
      go_ret
      exact ⟨r, rfl, .inr ⟨hr0, hr1, by omega, HA.out⟩, hb⟩
end Go.Proofs.Ytgfjbaigmkdbcaa
