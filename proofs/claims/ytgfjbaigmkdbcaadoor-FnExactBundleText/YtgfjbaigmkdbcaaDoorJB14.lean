/-
  What is proved here: rows of four cells an element, in memory of their own; no program is spoken of; rows of four cells in memory, and what a list is that is ok and ascends; no program is spoken of; the contract of the program's listOk over parts: it answers whether there are not too many, each is ok, and each is below the one behind it.
-/
import Derived.Test.YtgfjbaigmkdbcaaDoorJB13
import Derived.Test.YtgfjbaigmkdbcaaDoorJB1
import Derived.Test.YtgfjbaigmkdbcaaDoorJB10
import Derived.Test.YtgfjbaigmkdbcaaDoorTm
namespace Go.Proofs.YtgfjbaigmkdbcaaDoor
open Go.RowKit
set_option maxRecDepth 100000
set_option linter.unusedVariables false

structure L4 where
  a : Value
  b : Value
  c : Value
  d : Value
structure Cell4 (W : World) (b o : Nat) (x : L4) : Prop where
  h0 : W.cell? ⟨b, o, none⟩ = some x.a
  h1 : W.cell? ⟨b, o + 1, none⟩ = some x.b
  h2 : W.cell? ⟨b, o + 2, none⟩ = some x.c
  h3 : W.cell? ⟨b, o + 3, none⟩ = some x.d
theorem Cell4.below {W W' : World} {b o : Nat} {x : L4} (h : Cell4 W b o x) (l : b < W.heap.size) (hb : Below W.heap.size W W') : Cell4 W' b o x :=
  ⟨(hb.cell (p := ⟨b, _, none⟩) l).trans h.h0, (hb.cell (p := ⟨b, _, none⟩) l).trans h.h1, (hb.cell (p := ⟨b, _, none⟩) l).trans h.h2, (hb.cell (p := ⟨b, _, none⟩) l).trans h.h3⟩
def Rw4 (W : World) (a : Option Addr) (n : Nat) (v : Nat → L4) : Prop := n = 0 ∨ ∃ b o, a = some ⟨b, o, none⟩ ∧ b < W.heap.size ∧ ∀ i, i < n → Cell4 W b (o + i * 4) (v i)
theorem Rw4.below {W W' : World} {a : Option Addr} {n : Nat} {v : Nat → L4} (h : Rw4 W a n v) (hb : Below W.heap.size W W') : Rw4 W' a n v := by
  rcases h with h | ⟨b, o, e, l, h⟩
  · exact .inl h
  · exact .inr ⟨b, o, e, Nat.lt_of_lt_of_le l hb.size, fun i hi => (h i hi).below l hb⟩
def lz : L4 := ⟨.int .i64 0, .int .i64 0, .int .i64 0, .int .i64 0⟩
def lg (xs : List L4) (i : Nat) : L4 := xs.getD i lz
/-- The cells of a row. -/
def QL : List L4 → List Value
  | [] => []
  | r :: t => r.a :: r.b :: r.c :: r.d :: QL t
theorem QL_len : ∀ xs : List L4, (QL xs).length = xs.length * 4
  | [] => rfl
  | _ :: t => by simp [QL, QL_len t]; omega
theorem QL_get : ∀ (xs : List L4) (i : Nat), i < xs.length → (QL xs)[i * 4]? = some (lg xs i).a ∧ (QL xs)[i * 4 + 1]? = some (lg xs i).b ∧ (QL xs)[i * 4 + 2]? = some (lg xs i).c ∧ (QL xs)[i * 4 + 3]? = some (lg xs i).d
  | [], i, h => by simp at h
  | r :: t, 0, _ => ⟨rfl, rfl, rfl, rfl⟩
  | r :: t, i + 1, h => by
    have e : (i + 1) * 4 = i * 4 + 4 := by omega
    rw [e]
    exact QL_get t i (by simpa using h)
theorem QL_set : ∀ (xs : List L4) (i : Nat) (r : L4), i < xs.length → QL (xs.set i r) = ((((QL xs).set (i * 4) r.a).set (i * 4 + 1) r.b).set (i * 4 + 2) r.c).set (i * 4 + 3) r.d
  | [], i, r, h => by simp at h
  | x :: t, 0, r, _ => rfl
  | x :: t, i + 1, r, h => by
    have e : (i + 1) * 4 = i * 4 + 4 := by omega
    rw [e]
    show _ :: _ :: _ :: _ :: QL (t.set i r) = _ :: _ :: _ :: _ :: _
    rw [QL_set t i r (by simpa using h)]
theorem QL_app : ∀ xs ys : List L4, QL (xs ++ ys) = QL xs ++ QL ys
  | [], _ => rfl
  | x :: t, ys => by show _ :: _ :: _ :: _ :: QL (t ++ ys) = _; rw [QL_app t ys]; rfl
theorem lg_set (xs : List L4) (i j : Nat) (r : L4) (h : i < xs.length) : lg (xs.set i r) j = if j = i then r else lg xs j := by
  unfold lg
  by_cases e : j = i
  · subst e; simp [h]
  · have e' : ¬ i = j := fun h => e h.symm
    simp [e, e']
theorem lg_rep (n i : Nat) (z : L4) (h : i < n) : lg (List.replicate n z) i = z := by unfold lg; simp [h]
theorem QL_rep (n : Nat) (z : L4) : (madeCells #[z.a, z.b, z.c, z.d] (n * 4)).toList = QL (List.replicate n z) := by
  apply List.ext_getElem?
  intro i
  by_cases hi : i < n * 4
  · obtain ⟨a, b, c, d⟩ := QL_get (List.replicate n z) (i / 4) (by simp; omega)
    rw [lg_rep n _ z (by omega)] at a b c d
    have hm : i % 4 = 0 ∨ i % 4 = 1 ∨ i % 4 = 2 ∨ i % 4 = 3 := by omega
    rcases hm with h | h | h | h
    · rw [show i = i / 4 * 4 by omega, a]; unfold madeCells; simp [show i / 4 * 4 < n * 4 by omega]
    · rw [show i = i / 4 * 4 + 1 by omega, b]; unfold madeCells; simp [show i / 4 * 4 + 1 < n * 4 by omega, show (i / 4 * 4 + 1) % 4 = 1 by omega]
    · rw [show i = i / 4 * 4 + 2 by omega, c]; unfold madeCells; simp [show i / 4 * 4 + 2 < n * 4 by omega, show (i / 4 * 4 + 2) % 4 = 2 by omega]
    · rw [show i = i / 4 * 4 + 3 by omega, d]; unfold madeCells; simp [show i / 4 * 4 + 3 < n * 4 by omega, show (i / 4 * 4 + 3) % 4 = 3 by omega]
  · rw [List.getElem?_eq_none (by rw [Array.length_toList, size_madeCells]; omega), List.getElem?_eq_none (by rw [QL_len]; simp; omega)]
section
variable {w : World} {lo t n cap g : Nat} {xs : List L4}
theorem q4_len {v : Value} (h : w.ownsRow lo t 4 v n (QL xs)) : xs.length = n := by have := h.1; rw [QL_len] at this; omega
theorem q4_at (h : w.ownsRow lo t 4 (.slice (some ⟨g, 0, none⟩) n cap) n (QL xs)) (i : Nat) (hi : i < n) : Cell4 w g (i * 4) (lg xs i) := by
  have hl := q4_len h
  obtain ⟨a, b, c, d⟩ := QL_get xs i (by omega)
  exact ⟨(h.cellAt _ (by omega)).trans a, (h.cellAt _ (by omega)).trans b, (h.cellAt _ (by omega)).trans c, (h.cellAt _ (by omega)).trans d⟩
theorem q4_set (h : w.ownsRow lo t 4 (.slice (some ⟨g, 0, none⟩) n cap) n (QL xs)) (i : Nat) (hi : i < n) (r : L4) :
    ((((w.setCell ⟨g, i * 4, none⟩ r.a).setCell ⟨g, i * 4 + 1, none⟩ r.b).setCell ⟨g, i * 4 + 2, none⟩ r.c).setCell ⟨g, i * 4 + 3, none⟩ r.d).ownsRow lo t 4 (.slice (some ⟨g, 0, none⟩) n cap) n (QL (xs.set i r)) := by
  rw [QL_set xs i r (by rw [q4_len h]; exact hi)]
  exact ((((h.stored (i * 4) r.a).1.stored (i * 4 + 1) r.b).1.stored (i * 4 + 2) r.c).1.stored (i * 4 + 3) r.d).1
end
theorem bel_r4 {w W : World} {B g : Nat} (h : Below B w W) (hg : B ≤ g) (m : Nat) (a b c d : Value) : Below B w ((((W.setCell ⟨g, m, none⟩ a).setCell ⟨g, m + 1, none⟩ b).setCell ⟨g, m + 2, none⟩ c).setCell ⟨g, m + 3, none⟩ d) :=
  (((h.setCell hg _).setCell hg _).setCell hg _).setCell hg _
theorem own_r4 {W : World} {b e s n : Nat} {v : Value} {xs : List Value} (h : W.ownsRow b e s v n xs) {g : Nat} (hg : g < b) (m : Nat) (p q r u : Value) :
    ((((W.setCell ⟨g, m, none⟩ p).setCell ⟨g, m + 1, none⟩ q).setCell ⟨g, m + 2, none⟩ r).setCell ⟨g, m + 3, none⟩ u).ownsRow b e s v n xs :=
  own_other (own_other (own_other (own_other h _ _ hg) _ _ hg) _ _ hg) _ _ hg
end Go.Proofs.YtgfjbaigmkdbcaaDoor
namespace Go.Proofs.YtgfjbaigmkdbcaaDoor
open Go.RowKit

abbrev lstOkP (n : Nat) (most : Int) (P : Nat → Bool) (C : Nat → Int) : Prop := (n : Int) ≤ most ∧ ∀ i, i < n → P i = true ∧ (0 < i → C (i - 1) < 0)
def lstOk (n : Nat) (most : Int) (P : Nat → Bool) (C : Nat → Int) : Bool := decide (lstOkP n most P C)
theorem lstOk_dec (n : Nat) (most : Int) (P : Nat → Bool) (C : Nat → Int) : ∃ R, lstOk n most P C = R ∧ Hid (lstOkP n most P C → R = true) ∧ Hid (¬ lstOkP n most P C → R = false) := ⟨_, rfl, decide_eq_true, decide_eq_false⟩
end Go.Proofs.YtgfjbaigmkdbcaaDoor
namespace Go.Proofs.YtgfjbaigmkdbcaaDoor
open Go.RowKit
set_option maxRecDepth 100000
set_option maxHeartbeats 8000000

theorem implListOkPart (a : Option Addr) (n c : Nat) (most : Int) (hm : most ≤ 1000) (v : Nat → L4) (P : Nat → Bool) (C : Nat → Int) (w : World) (hl : Rw4 w a n v) (hS : ∀ i, i < n → ∃ ki kr kv ha hn hc, v i = (⟨.int .i64 ki, .int .i64 kr, .int .i64 kv, .slice ha hn hc⟩ : L4))
    (hP : ∀ i, i < n → ∀ W, Below w.heap.size w W → Calls Tryd.prog 56 #[.agg #[(v i).a, (v i).b, (v i).c, (v i).d]] W fun e w' => e = .returned (.bool (P i)) ∧ Below W.heap.size W w')
    (hC : ∀ i, i + 1 < n → ∀ W, Below w.heap.size w W → Calls Tryd.prog 57 #[.agg #[(v i).a, (v i).b, (v i).c, (v i).d], .agg #[(v (i + 1)).a, (v (i + 1)).b, (v (i + 1)).c, (v (i + 1)).d]] W fun e w' => e = .returned (.int .i64 (C i)) ∧ Below W.heap.size W w') :
    Calls Tryd.prog 55 #[.slice a n c, .int .i64 most, .func (.func 56) #[] #[], .func (.func 57) #[] #[]] w fun e w' => e = .returned (.bool (lstOk n most P C)) ∧ Below w.heap.size w w' := by
  obtain ⟨R, hR, HT, HF⟩ := lstOk_dec n most P C
  rw [hR]
  clear hR
  have HPP : Hid _ := hP
  have HCC : Hid _ := hC
  clear hP hC
  go_enter Tryd.func55, Tryd.ntmps55
  by_cases h8 : most < (n : Int)
  case pos =>
    have HNo : Hid (R = false) := HF.out (fun h => by have := h.1; omega)
    go_wp2
    go_ret
    exact ⟨by rw [HNo.out]; rfl, Below.refl _ _⟩
  have HKs : Hid (Rw4 w a n v) := hl
  clear hl
  go_wp2
  go_loopw [17] (fun i wr => ∃ k : Nat, k ≤ n ∧ i = .int .i64 k ∧ Hid (∀ j, j < k → P j = true ∧ (0 < j → C (j - 1) < 0)) ∧ Below w.heap.size w wr) (fun i _ => n - (intOf i).toNat)
  case atStart => exact ⟨0, by omega, rfl, (fun j hj => by omega), Below.refl _ _⟩
  case round =>
    obtain ⟨k, hk, rfl, HN, Bl⟩ := hrel
    by_cases hlt : (k : Int) < (n : Int)
    · obtain ⟨b, o, rfl, hbs, hcell⟩ : ∃ b o, a = some ⟨b, o, none⟩ ∧ b < wr.heap.size ∧ ∀ i, i < n → Cell4 wr b (o + i * 4) (v i) := by
        rcases HKs.out.below Bl with hq | hq
        · omega
        · exact hq
      have P0 := hcell k (by omega)
      obtain ⟨p, ep⟩ : ∃ p, p = v k := ⟨_, rfl⟩
      have cP := HPP.out k (by omega)
      obtain ⟨ki, kr, kv, ha, hn, hc, es⟩ := hS k (by omega)
      rw [← ep] at es
      rw [← ep] at P0 cP
      subst es
      obtain ⟨q1, q2, q3, q4⟩ := P0
      simp only [] at q1 q2 q3 q4 cP
      have HE : Hid _ := ep
      have hk0 : (0 : Int) ≤ (k : Int) := by omega
      clear ep
      go_upto_region 6 with fail
      obtain ⟨Z, hZ⟩ : ∃ Z, Z = wr.alloc (.cells #[.int .i64 ki, .int .i64 kr, .int .i64 kv, .slice ha hn hc] 63) := ⟨_, rfl⟩
      have bV : Below wr.heap.size wr Z := by rw [hZ]; exact (Below.refl _ _).alloc (Nat.le_refl _) _
      have D : Arr Z wr.heap.size 63 [.int .i64 ki, .int .i64 kr, .int .i64 kv, .slice ha hn hc] := by rw [hZ]; exact Arr.new _ _ _
      rw [← hZ]
      obtain ⟨X, hX⟩ : ∃ X, X = wr.heap.size := ⟨_, rfl⟩
      rw [← hX] at D ⊢
      replace hcell := fun i hi => (hcell i hi).below hbs bV
      replace hbs := Nat.lt_of_lt_of_le hbs bV.size
      replace Bl := Bl.trans (bV.mono Bl.size)
      replace cP := fun W (h : Below Z.heap.size Z W) => cP W (Bl.trans (h.mono Bl.size))
      have CP : Hid _ := cP
      clear hZ hX bV q1 q2 q3 q4 cP
      have d0 := D.cell 0
      have d1 := D.cell 1
      have d2 := D.cell 2
      have d3 := D.cell 3
      simp at d0 d1 d2 d3
      obtain ⟨pk, epk⟩ : ∃ q, q = P k := ⟨_, rfl⟩
      rw [← epk] at CP
      have HPK : Hid _ := epk
      clear epk
      cases pk with
      | false =>
        have HNo : Hid (R = false) := HF.out (fun h => by
          have h2 := (h.2 k (by omega)).1
          rw [← HPK.out] at h2
          cases h2)
        try simp only [Act.put]
        refine tameG [kc 22 (.func (.func 56) #[] #[]), kc 23 (.agg #[.int .i64 ki, .int .i64 kr, .int .i64 kv, .slice ha hn hc]), kc 24 (.bool false), kc 25 (.bool true), kc 26 (.bool true), kc 27 (undef), kc 28 (undef), kc 29 (undef), kc 30 (undef), kc 31 (undef), kc 32 (undef), kc 33 (undef), kc 34 (undef), kc 35 (undef), kc 36 (undef), kc 37 (undef), kc 38 (undef), kc 39 (undef), kc 40 (.bool true)] 19 (by kernel_rfl) (by kernel_rfl) (by kernel_rfl) (by repeat' first | exact trivial | apply kc_keeps | constructor) 0 (by kernel_rfl) (fun vv ll hh yW bW => ?_) (fun vv ll hh yW bW F ivh aph => ?_)
        · have x0 := (bW.cell (p := ⟨X, 0, none⟩) D.lt).trans d0
          have x1 := (bW.cell (p := ⟨X, 1, none⟩) D.lt).trans d1
          have x2 := (bW.cell (p := ⟨X, 2, none⟩) D.lt).trans d2
          have x3 := (bW.cell (p := ⟨X, 3, none⟩) D.lt).trans d3
          refine ⟨og (tp (by kernel_rfl)) (by kernel_rfl), og (tp ?_) (by kernel_rfl), og (tc (CP.out yW bW) (by kernel_rfl)) (by kernel_rfl), og (tp (by kernel_rfl)) (by kernel_rfl), og (tp (by kernel_rfl)) (by kernel_rfl), ou (by kernel_rfl), ou (by kernel_rfl), ou (by kernel_rfl), ou (by kernel_rfl), ou (by kernel_rfl), ou (by kernel_rfl), ou (by kernel_rfl), ou (by kernel_rfl), ou (by kernel_rfl), ou (by kernel_rfl), ou (by kernel_rfl), ou (by kernel_rfl), ou (by kernel_rfl), og (tp (by kernel_rfl)) (by kernel_rfl), trivial⟩
          all_goals
            simp only [fillK, putT, List.setIfInBounds_toArray, List.set_cons_zero, List.set_cons_succ]
            unfold execOp
            go_simp
            try rfl
        clear F ivh aph
        obtain ⟨y, hy⟩ : ∃ z, z = yW := ⟨_, rfl⟩
        rw [← hy] at bW ⊢
        clear hy
        refine wpAny_done (by kernel_rfl) ?_ _
        simp only [fillK, putT, List.setIfInBounds_toArray, List.set_cons_zero, List.set_cons_succ]
        go_wp2
        go_ret
        exact ⟨by rw [HNo.out]; rfl, Bl.trans (bW.mono Bl.size)⟩
      | true =>
        by_cases hz : 0 < k
        · have hkd : (0 : Int) < (k : Int) := by omega
          have hk1 : (1 : Int) ≤ (k : Int) := by omega
          have hk2 : (k : Int) - 1 < (n : Int) := by omega
          have hw1 : IntKind.i64.wrap ((k : Int) - 1) = (k : Int) - 1 := by rw [IntKind.wrap_i64]; omega
          have ht1 : ((k : Int) - 1).toNat = k - 1 := by omega
          have P' := hcell (k - 1) (by omega)
          have cC := HCC.out (k - 1) (by omega)
          rw [show k - 1 + 1 = k by omega, ← HE.out] at cC
          obtain ⟨q, eq⟩ : ∃ q, q = v (k - 1) := ⟨_, rfl⟩
          rw [← eq] at P' cC
          obtain ⟨ki', kr', kv', ha', hn', hc', es⟩ := hS (k - 1) (by omega)
          rw [← eq] at es
          clear eq
          subst es
          obtain ⟨r0, r1, r2, r3⟩ := P'
          simp only [] at r0 r1 r2 r3 cC
          replace cC := fun W (h : Below Z.heap.size Z W) => cC W (Bl.trans (h.mono Bl.size))
          obtain ⟨cv, ecv⟩ : ∃ z, z = C (k - 1) := ⟨_, rfl⟩
          rw [← ecv] at cC
          have CC : Hid _ := cC
          have HCV : Hid _ := ecv
          clear cC ecv hcell
          by_cases hzk : cv < 0
          · have hzn : ¬ 0 ≤ cv := by omega
            have HZK : Hid _ := hzk
            try simp only [Act.put]
            refine tameG [kc 22 (.func (.func 56) #[] #[]), kc 23 (.agg #[.int .i64 ki, .int .i64 kr, .int .i64 kv, .slice ha hn hc]), kc 24 (.bool true), kc 25 (.bool false), kc 26 (.bool false), kc 27 (.int .i64 (k : Int)), kc 28 (.bool true), kc 29 (.bool true), kc 30 (.func (.func 57) #[] #[]), kc 31 (.slice (some ⟨b, o, none⟩) n c), kc 32 (.int .i64 (k : Int)), kc 33 (.int .i64 ((k : Int) - 1)), kc 34 (.pointer (some ⟨b, o + (k - 1) * 4, none⟩)), kc 35 (.agg #[.int .i64 ki', .int .i64 kr', .int .i64 kv', .slice ha' hn' hc']), kc 36 (.agg #[.int .i64 ki, .int .i64 kr, .int .i64 kv, .slice ha hn hc]), kc 37 (.int .i64 cv), kc 38 (.bool false), kc 39 (.bool false), kc 40 (.bool false)] 19 (by kernel_rfl) (by kernel_rfl) (by kernel_rfl) (by repeat' first | exact trivial | apply kc_keeps | constructor) 0 (by kernel_rfl) (fun vv ll hh yW bW => ?_) (fun vv ll hh yW bW F ivh aph => ?_)
            · have x0 := (bW.cell (p := ⟨X, 0, none⟩) D.lt).trans d0
              have x1 := (bW.cell (p := ⟨X, 1, none⟩) D.lt).trans d1
              have x2 := (bW.cell (p := ⟨X, 2, none⟩) D.lt).trans d2
              have x3 := (bW.cell (p := ⟨X, 3, none⟩) D.lt).trans d3
              have y0 := (bW.cell (p := ⟨b, _, none⟩) hbs).trans r0
              have y1 := (bW.cell (p := ⟨b, _, none⟩) hbs).trans r1
              have y2 := (bW.cell (p := ⟨b, _, none⟩) hbs).trans r2
              have y3 := (bW.cell (p := ⟨b, _, none⟩) hbs).trans r3
              refine ⟨og (tp (by kernel_rfl)) (by kernel_rfl), og (tp ?_) (by kernel_rfl), og (tc (CP.out yW bW) (by kernel_rfl)) (by kernel_rfl), og (tp (by kernel_rfl)) (by kernel_rfl), og (tp (by kernel_rfl)) (by kernel_rfl), og (tp (by kernel_rfl)) (by kernel_rfl), og (tp ?_) (by kernel_rfl), og (tp (by kernel_rfl)) (by kernel_rfl), og (tp (by kernel_rfl)) (by kernel_rfl), og (tp (by kernel_rfl)) (by kernel_rfl), og (tp (by kernel_rfl)) (by kernel_rfl), og (tp ?_) (by kernel_rfl), og (tp ?_) (by kernel_rfl), og (tp ?_) (by kernel_rfl), og (tp ?_) (by kernel_rfl), og (tc (CC.out yW bW) (by kernel_rfl)) (by kernel_rfl), og (tp ?_) (by kernel_rfl), og (tp (by kernel_rfl)) (by kernel_rfl), og (tp (by kernel_rfl)) (by kernel_rfl), trivial⟩
              all_goals
                simp only [fillK, putT, List.setIfInBounds_toArray, List.set_cons_zero, List.set_cons_succ]
                unfold execOp
                go_simp
                try rfl
            clear F ivh aph
            obtain ⟨y, hy⟩ : ∃ z, z = yW := ⟨_, rfl⟩
            rw [← hy] at bW ⊢
            clear hy
            refine wpAny_done (by kernel_rfl) ?_ _
            simp only [fillK, putT, List.setIfInBounds_toArray, List.set_cons_zero, List.set_cons_succ]
            replace Bl := Bl.trans (bW.mono Bl.size)
            have HN2 : Hid (∀ j, j < k + 1 → P j = true ∧ (0 < j → C (j - 1) < 0)) := by
              unfold Hid; intro j hj
              by_cases hjk : j = k
              · subst hjk
                exact ⟨HPK.out.symm, fun _ => by rw [← HCV.out]; exact HZK.out⟩
              · exact HN.out j (by omega)
            go_wp2
            go_roundw
            case rel => exact ⟨k + 1, by omega, by go_num, HN2, Bl⟩
            case measure => simp [intOf]; omega
          · have hzn : 0 ≤ cv := by omega
            have HNo : Hid (R = false) := HF.out (fun h => by
              have h2 := (h.2 k (by omega)).2 hz
              rw [← HCV.out] at h2
              omega)
            try simp only [Act.put]
            refine tameG [kc 22 (.func (.func 56) #[] #[]), kc 23 (.agg #[.int .i64 ki, .int .i64 kr, .int .i64 kv, .slice ha hn hc]), kc 24 (.bool true), kc 25 (.bool false), kc 26 (.bool false), kc 27 (.int .i64 (k : Int)), kc 28 (.bool true), kc 29 (.bool true), kc 30 (.func (.func 57) #[] #[]), kc 31 (.slice (some ⟨b, o, none⟩) n c), kc 32 (.int .i64 (k : Int)), kc 33 (.int .i64 ((k : Int) - 1)), kc 34 (.pointer (some ⟨b, o + (k - 1) * 4, none⟩)), kc 35 (.agg #[.int .i64 ki', .int .i64 kr', .int .i64 kv', .slice ha' hn' hc']), kc 36 (.agg #[.int .i64 ki, .int .i64 kr, .int .i64 kv, .slice ha hn hc]), kc 37 (.int .i64 cv), kc 38 (.bool true), kc 39 (.bool true), kc 40 (.bool true)] 19 (by kernel_rfl) (by kernel_rfl) (by kernel_rfl) (by repeat' first | exact trivial | apply kc_keeps | constructor) 0 (by kernel_rfl) (fun vv ll hh yW bW => ?_) (fun vv ll hh yW bW F ivh aph => ?_)
            · have x0 := (bW.cell (p := ⟨X, 0, none⟩) D.lt).trans d0
              have x1 := (bW.cell (p := ⟨X, 1, none⟩) D.lt).trans d1
              have x2 := (bW.cell (p := ⟨X, 2, none⟩) D.lt).trans d2
              have x3 := (bW.cell (p := ⟨X, 3, none⟩) D.lt).trans d3
              have y0 := (bW.cell (p := ⟨b, _, none⟩) hbs).trans r0
              have y1 := (bW.cell (p := ⟨b, _, none⟩) hbs).trans r1
              have y2 := (bW.cell (p := ⟨b, _, none⟩) hbs).trans r2
              have y3 := (bW.cell (p := ⟨b, _, none⟩) hbs).trans r3
              refine ⟨og (tp (by kernel_rfl)) (by kernel_rfl), og (tp ?_) (by kernel_rfl), og (tc (CP.out yW bW) (by kernel_rfl)) (by kernel_rfl), og (tp (by kernel_rfl)) (by kernel_rfl), og (tp (by kernel_rfl)) (by kernel_rfl), og (tp (by kernel_rfl)) (by kernel_rfl), og (tp ?_) (by kernel_rfl), og (tp (by kernel_rfl)) (by kernel_rfl), og (tp (by kernel_rfl)) (by kernel_rfl), og (tp (by kernel_rfl)) (by kernel_rfl), og (tp (by kernel_rfl)) (by kernel_rfl), og (tp ?_) (by kernel_rfl), og (tp ?_) (by kernel_rfl), og (tp ?_) (by kernel_rfl), og (tp ?_) (by kernel_rfl), og (tc (CC.out yW bW) (by kernel_rfl)) (by kernel_rfl), og (tp ?_) (by kernel_rfl), og (tp (by kernel_rfl)) (by kernel_rfl), og (tp (by kernel_rfl)) (by kernel_rfl), trivial⟩
              all_goals
                simp only [fillK, putT, List.setIfInBounds_toArray, List.set_cons_zero, List.set_cons_succ]
                unfold execOp
                go_simp
                try rfl
            clear F ivh aph
            obtain ⟨y, hy⟩ : ∃ z, z = yW := ⟨_, rfl⟩
            rw [← hy] at bW ⊢
            clear hy
            refine wpAny_done (by kernel_rfl) ?_ _
            simp only [fillK, putT, List.setIfInBounds_toArray, List.set_cons_zero, List.set_cons_succ]
            go_wp2
            go_ret
            exact ⟨by rw [HNo.out]; rfl, Bl.trans (bW.mono Bl.size)⟩
        · have HZ0 : Hid (k = 0) := by unfold Hid; omega
          have hkd : (0 < k) = False := by simp; omega
          clear hcell hz
          try simp only [Act.put]
          refine tameG [kc 22 (.func (.func 56) #[] #[]), kc 23 (.agg #[.int .i64 ki, .int .i64 kr, .int .i64 kv, .slice ha hn hc]), kc 24 (.bool true), kc 25 (.bool false), kc 26 (.bool false), kc 27 (.int .i64 (k : Int)), kc 28 (.bool false), kc 29 (.bool false), kc 30 (undef), kc 31 (undef), kc 32 (undef), kc 33 (undef), kc 34 (undef), kc 35 (undef), kc 36 (undef), kc 37 (undef), kc 38 (undef), kc 39 (.bool false), kc 40 (.bool false)] 19 (by kernel_rfl) (by kernel_rfl) (by kernel_rfl) (by repeat' first | exact trivial | apply kc_keeps | constructor) 0 (by kernel_rfl) (fun vv ll hh yW bW => ?_) (fun vv ll hh yW bW F ivh aph => ?_)
          · have x0 := (bW.cell (p := ⟨X, 0, none⟩) D.lt).trans d0
            have x1 := (bW.cell (p := ⟨X, 1, none⟩) D.lt).trans d1
            have x2 := (bW.cell (p := ⟨X, 2, none⟩) D.lt).trans d2
            have x3 := (bW.cell (p := ⟨X, 3, none⟩) D.lt).trans d3
            refine ⟨og (tp (by kernel_rfl)) (by kernel_rfl), og (tp ?_) (by kernel_rfl), og (tc (CP.out yW bW) (by kernel_rfl)) (by kernel_rfl), og (tp (by kernel_rfl)) (by kernel_rfl), og (tp (by kernel_rfl)) (by kernel_rfl), og (tp (by kernel_rfl)) (by kernel_rfl), og (tp ?_) (by kernel_rfl), og (tp (by kernel_rfl)) (by kernel_rfl), ou (by kernel_rfl), ou (by kernel_rfl), ou (by kernel_rfl), ou (by kernel_rfl), ou (by kernel_rfl), ou (by kernel_rfl), ou (by kernel_rfl), ou (by kernel_rfl), ou (by kernel_rfl), og (tp (by kernel_rfl)) (by kernel_rfl), og (tp (by kernel_rfl)) (by kernel_rfl), trivial⟩
            all_goals
              simp only [fillK, putT, List.setIfInBounds_toArray, List.set_cons_zero, List.set_cons_succ]
              unfold execOp
              go_simp
              try rfl
          clear F ivh aph
          obtain ⟨y, hy⟩ : ∃ z, z = yW := ⟨_, rfl⟩
          rw [← hy] at bW ⊢
          clear hy
          refine wpAny_done (by kernel_rfl) ?_ _
          simp only [fillK, putT, List.setIfInBounds_toArray, List.set_cons_zero, List.set_cons_succ]
          replace Bl := Bl.trans (bW.mono Bl.size)
          have HN2 : Hid (∀ j, j < k + 1 → P j = true ∧ (0 < j → C (j - 1) < 0)) := by
            unfold Hid; intro j hj
            by_cases hjk : j = k
            · subst hjk
              exact ⟨HPK.out.symm, fun h => by have := HZ0.out; omega⟩
            · exact HN.out j (by omega)
          go_wp2
          go_roundw
          case rel => exact ⟨k + 1, by omega, by go_num, HN2, Bl⟩
          case measure => simp [intOf]; omega
    · have HRT : Hid (R = true) := HT.out ⟨by omega, fun i hi => HN.out i (by omega)⟩
      go_wp2
      go_ret
      exact ⟨by rw [HRT.out]; rfl, Bl⟩
end Go.Proofs.YtgfjbaigmkdbcaaDoor
