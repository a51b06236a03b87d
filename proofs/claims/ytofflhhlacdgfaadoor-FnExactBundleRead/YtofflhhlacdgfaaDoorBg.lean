/-
  What is proved here: how keys lie in memory; the contract of the specification's KeysOk; what keys are as a plain fact.
-/
import Derived.Test.YtofflhhlacdgfaaDoorJM2
import Derived.Test.YtofflhhlacdgfaaDoorTm
namespace Go.Proofs.YtofflhhlacdgfaaDoor
open Go.RowKit
set_option maxRecDepth 100000
set_option maxHeartbeats 8000000

structure KeyM where
  i : Int
  r : Int
  v : Bool
  p : List Int
def kz : KeyM := ⟨0, 0, false, []⟩
structure KeyAt (W : World) (b q : Nat) (x : KeyM) (ha : Option Addr) (hc : Nat) : Prop where
  i : W.cell? ⟨b, q, none⟩ = some (.int .i64 x.i)
  r : W.cell? ⟨b, q + 1, none⟩ = some (.int .i64 x.r)
  v : W.cell? ⟨b, q + 2, none⟩ = some (.bool x.v)
  p : W.cell? ⟨b, q + 3, none⟩ = some (.slice ha x.p.length hc)
  by_ : Bs W ha x.p.length hc x.p
theorem KeyAt.below {W W' : World} {b q : Nat} {x : KeyM} {ha : Option Addr} {hc : Nat} (h : KeyAt W b q x ha hc) (l : b < W.heap.size) (hb : Below W.heap.size W W') : KeyAt W' b q x ha hc :=
  ⟨(hb.cell (p := ⟨b, _, none⟩) l).trans h.i, (hb.cell (p := ⟨b, _, none⟩) l).trans h.r, (hb.cell (p := ⟨b, _, none⟩) l).trans h.v, (hb.cell (p := ⟨b, _, none⟩) l).trans h.p, h.by_.below hb⟩
/-- What a slice of keys reads as. -/
def Ks (W : World) (a : Option Addr) (n c : Nat) (ks : List KeyM) : Prop :=
  (a = none → c = 0) ∧ ks.length = n ∧ n ≤ c ∧ (n = 0 ∨ ∃ b o, a = some ⟨b, o, none⟩ ∧ b < W.heap.size ∧ ∀ i, i < n → ∃ ha hc, KeyAt W b (o + i * 4) (ks.getD i kz) ha hc)
theorem Ks.below {W W' : World} {a : Option Addr} {n c : Nat} {ks : List KeyM} (h : Ks W a n c ks) (hb : Below W.heap.size W W') : Ks W' a n c ks := by
  obtain ⟨h0, h1, h2, h⟩ := h
  refine ⟨h0, h1, h2, ?_⟩
  rcases h with h | ⟨b, o, e, l, h⟩
  · exact .inl h
  · refine .inr ⟨b, o, e, Nat.lt_of_lt_of_le l hb.size, fun i hi => ?_⟩
    obtain ⟨ha, hc, k⟩ := h i hi
    exact ⟨ha, hc, k.below l hb⟩
abbrev kOkAt (ks : List KeyM) (j : Nat) : Prop := ((0 ≤ (ks.getD j kz).i ∧ (ks.getD j kz).i ≤ 255) ∧ ((ks.getD j kz).r = 1 ∨ (ks.getD j kz).r = 2) ∧ (ks.getD j kz).p.length = 32) ∧ (0 < j → (ks.getD (j - 1) kz).i < (ks.getD j kz).i)
abbrev ksOk (ks : List KeyM) : Prop := ks.length ≤ 8 ∧ ∀ j, j < ks.length → kOkAt ks j
def kOk (ks : List KeyM) : Bool := decide (ks.length ≤ 8) && decide (∀ j, j < ks.length → kOkAt ks j)
theorem kOk_iff (ks : List KeyM) : kOk ks = true ↔ ksOk ks := by
  unfold kOk
  rw [Bool.and_eq_true, decide_eq_true_iff, decide_eq_true_iff]
theorem kOk_dec (ks : List KeyM) : ∃ R, kOk ks = R ∧ Hid (ksOk ks → R = true) ∧ Hid (¬ ksOk ks → R = false) := ⟨_, rfl, (kOk_iff ks).2, fun h => by
  cases e : kOk ks with
  | false => rfl
  | true => exact absurd ((kOk_iff ks).1 e) h⟩
theorem spec8KeysOk (a : Option Addr) (n c : Nat) (ks : List KeyM) (w : World) (hp : Ks w a n c ks) :
    Calls Tryd.prog 30 #[.slice a n c] w fun e w' => e = .returned (.bool (kOk ks)) ∧ Below w.heap.size w w' := by
  obtain ⟨R, hR, HT, HF⟩ := kOk_dec ks
  rw [hR]
  clear hR
  have lp := hp.2.1
  go_enter Tryd.func30, Tryd.ntmps30
  by_cases h8 : 8 < (n : Int)
  case pos =>
    have HNo : Hid (R = false) := HF.out (fun h => by have := h.1; omega)
    go_wp2
    go_ret
    exact ⟨by rw [HNo.out]; rfl, Below.refl _ _⟩
  have HKs : Hid (Ks w a n c ks) := hp
  clear hp
  go_wp2
  go_loopw [3] (fun i wr => ∃ k : Nat, k ≤ n ∧ i = .int .i64 k ∧ Hid (∀ j, j < k → kOkAt ks j) ∧ Below w.heap.size w wr) (fun i _ => n - (intOf i).toNat)
  case atStart => exact ⟨0, by omega, rfl, (fun j hj => by omega), Below.refl _ _⟩
  case round =>
    obtain ⟨k, hk, rfl, HN, Bl⟩ := hrel
    by_cases hlt : (k : Int) < (n : Int)
    · obtain ⟨b, o, rfl, hbs, hcell⟩ : ∃ b o, a = some ⟨b, o, none⟩ ∧ b < wr.heap.size ∧ ∀ i, i < n → ∃ ha hc, KeyAt wr b (o + i * 4) (ks.getD i kz) ha hc := by
        rcases (HKs.out.below Bl).2.2.2 with hq | hq
        · omega
        · exact hq
      obtain ⟨ha, hc, P⟩ := hcell k (by omega)
      obtain ⟨p, ep⟩ : ∃ p, p = ks.getD k kz := ⟨_, rfl⟩
      rw [← ep] at P
      obtain ⟨ki, kr, kv, kp⟩ := p
      obtain ⟨q1, q2, q3, q4, _⟩ := P
      simp only [] at q1 q2 q3 q4
      have HE : Hid _ := ep
      have hk0 : (0 : Int) ≤ (k : Int) := by omega
      clear ep
      go_upto_region 7 with fail
      obtain ⟨Z, hZ⟩ : ∃ Z, Z = wr.alloc (.cells #[.int .i64 ki, .int .i64 kr, .bool kv, .slice ha kp.length hc] 57) := ⟨_, rfl⟩
      have bV : Below wr.heap.size wr Z := by rw [hZ]; exact (Below.refl _ _).alloc (Nat.le_refl _) _
      have D : Arr Z wr.heap.size 57 [.int .i64 ki, .int .i64 kr, .bool kv, .slice ha kp.length hc] := by rw [hZ]; exact Arr.new _ _ _
      rw [← hZ]
      obtain ⟨X, hX⟩ : ∃ X, X = wr.heap.size := ⟨_, rfl⟩
      rw [← hX] at D ⊢
      replace hcell := fun i hi => (hcell i hi).imp fun ha h => h.imp fun hc h => h.below hbs bV
      replace hbs := Nat.lt_of_lt_of_le hbs bV.size
      replace Bl := Bl.trans (bV.mono Bl.size)
      clear hZ hX bV q1 q2 q3 q4
      have d0 := D.cell 0
      have d1 := D.cell 1
      have d3 := D.cell 3
      simp at d0 d1 d3
      by_cases h1 : ki < 0
      case pos =>
        have HNo : Hid (R = false) := HF.out (fun h => by
          have h2 := (h.2 k (by omega)).1
          rw [← HE.out] at h2
          simp only [] at h2
          omega)
        try simp only [Act.put]
        refine tameG [kc 18 (.pointer (some ⟨X, 0, none⟩)), kc 19 (.int .i64 ki), kc 20 (.bool true), kc 21 (.bool true), kc 22 (undef), kc 23 (undef), kc 24 (undef), kc 25 (.bool true), kc 26 (.bool true), kc 27 (undef), kc 28 (undef), kc 29 (undef), kc 30 (undef), kc 31 (undef), kc 32 (undef), kc 33 (undef), kc 34 (undef), kc 35 (.bool true), kc 36 (.bool true), kc 37 (undef), kc 38 (undef), kc 39 (undef), kc 40 (undef), kc 41 (.bool true), kc 42 (.bool true), kc 43 (undef), kc 44 (undef), kc 45 (undef), kc 46 (undef), kc 47 (undef), kc 48 (undef), kc 49 (undef), kc 50 (undef), kc 51 (undef), kc 52 (undef), kc 53 (undef), kc 54 (undef), kc 55 (undef), kc 56 (.bool true)] 39 (by kernel_rfl) (by kernel_rfl) (by kernel_rfl) (by repeat' first | exact trivial | apply kc_keeps | constructor) 0 (by kernel_rfl) (fun vv ll hh yW bW => ?_) (fun vv ll hh yW bW F ivh aph => ?_)
        · have x0 := (bW.cell (p := ⟨X, 0, none⟩) D.lt).trans d0
          have x1 := (bW.cell (p := ⟨X, 1, none⟩) D.lt).trans d1
          have x3 := (bW.cell (p := ⟨X, 3, none⟩) D.lt).trans d3
          refine ⟨og (tp (by kernel_rfl)) (by kernel_rfl), og (tp ?_) (by kernel_rfl), og (tp ?_) (by kernel_rfl), og (tp (by kernel_rfl)) (by kernel_rfl), ou (by kernel_rfl), ou (by kernel_rfl), ou (by kernel_rfl), og (tp (by kernel_rfl)) (by kernel_rfl), og (tp (by kernel_rfl)) (by kernel_rfl), ou (by kernel_rfl), ou (by kernel_rfl), ou (by kernel_rfl), ou (by kernel_rfl), ou (by kernel_rfl), ou (by kernel_rfl), ou (by kernel_rfl), ou (by kernel_rfl), og (tp (by kernel_rfl)) (by kernel_rfl), og (tp (by kernel_rfl)) (by kernel_rfl), ou (by kernel_rfl), ou (by kernel_rfl), ou (by kernel_rfl), ou (by kernel_rfl), og (tp (by kernel_rfl)) (by kernel_rfl), og (tp (by kernel_rfl)) (by kernel_rfl), ou (by kernel_rfl), ou (by kernel_rfl), ou (by kernel_rfl), ou (by kernel_rfl), ou (by kernel_rfl), ou (by kernel_rfl), ou (by kernel_rfl), ou (by kernel_rfl), ou (by kernel_rfl), ou (by kernel_rfl), ou (by kernel_rfl), ou (by kernel_rfl), ou (by kernel_rfl), og (tp (by kernel_rfl)) (by kernel_rfl), trivial⟩
          all_goals
            simp only [fillK, putT, List.setIfInBounds_toArray, List.set_cons_zero, List.set_cons_succ]
            unfold execOp
            go_simp
        clear F ivh aph
        obtain ⟨y, hy⟩ : ∃ z, z = yW := ⟨_, rfl⟩
        rw [← hy] at bW ⊢
        clear hy
        refine wpAny_done (by kernel_rfl) ?_ _
        simp only [fillK, putT, List.setIfInBounds_toArray, List.set_cons_zero, List.set_cons_succ]
        go_wp2
        go_ret
        exact ⟨by rw [HNo.out]; rfl, Bl.trans (bW.mono Bl.size)⟩
      by_cases h2 : 255 < ki
      case pos =>
        have HNo : Hid (R = false) := HF.out (fun h => by
          have h2 := (h.2 k (by omega)).1
          rw [← HE.out] at h2
          simp only [] at h2
          omega)
        try simp only [Act.put]
        refine tameG [kc 18 (.pointer (some ⟨X, 0, none⟩)), kc 19 (.int .i64 ki), kc 20 (.bool false), kc 21 (.bool false), kc 22 (.pointer (some ⟨X, 0, none⟩)), kc 23 (.int .i64 ki), kc 24 (.bool true), kc 25 (.bool true), kc 26 (.bool true), kc 27 (undef), kc 28 (undef), kc 29 (undef), kc 30 (undef), kc 31 (undef), kc 32 (undef), kc 33 (undef), kc 34 (undef), kc 35 (.bool true), kc 36 (.bool true), kc 37 (undef), kc 38 (undef), kc 39 (undef), kc 40 (undef), kc 41 (.bool true), kc 42 (.bool true), kc 43 (undef), kc 44 (undef), kc 45 (undef), kc 46 (undef), kc 47 (undef), kc 48 (undef), kc 49 (undef), kc 50 (undef), kc 51 (undef), kc 52 (undef), kc 53 (undef), kc 54 (undef), kc 55 (undef), kc 56 (.bool true)] 39 (by kernel_rfl) (by kernel_rfl) (by kernel_rfl) (by repeat' first | exact trivial | apply kc_keeps | constructor) 0 (by kernel_rfl) (fun vv ll hh yW bW => ?_) (fun vv ll hh yW bW F ivh aph => ?_)
        · have x0 := (bW.cell (p := ⟨X, 0, none⟩) D.lt).trans d0
          have x1 := (bW.cell (p := ⟨X, 1, none⟩) D.lt).trans d1
          have x3 := (bW.cell (p := ⟨X, 3, none⟩) D.lt).trans d3
          refine ⟨og (tp (by kernel_rfl)) (by kernel_rfl), og (tp ?_) (by kernel_rfl), og (tp ?_) (by kernel_rfl), og (tp (by kernel_rfl)) (by kernel_rfl), og (tp (by kernel_rfl)) (by kernel_rfl), og (tp ?_) (by kernel_rfl), og (tp ?_) (by kernel_rfl), og (tp (by kernel_rfl)) (by kernel_rfl), og (tp (by kernel_rfl)) (by kernel_rfl), ou (by kernel_rfl), ou (by kernel_rfl), ou (by kernel_rfl), ou (by kernel_rfl), ou (by kernel_rfl), ou (by kernel_rfl), ou (by kernel_rfl), ou (by kernel_rfl), og (tp (by kernel_rfl)) (by kernel_rfl), og (tp (by kernel_rfl)) (by kernel_rfl), ou (by kernel_rfl), ou (by kernel_rfl), ou (by kernel_rfl), ou (by kernel_rfl), og (tp (by kernel_rfl)) (by kernel_rfl), og (tp (by kernel_rfl)) (by kernel_rfl), ou (by kernel_rfl), ou (by kernel_rfl), ou (by kernel_rfl), ou (by kernel_rfl), ou (by kernel_rfl), ou (by kernel_rfl), ou (by kernel_rfl), ou (by kernel_rfl), ou (by kernel_rfl), ou (by kernel_rfl), ou (by kernel_rfl), ou (by kernel_rfl), ou (by kernel_rfl), og (tp (by kernel_rfl)) (by kernel_rfl), trivial⟩
          all_goals
            simp only [fillK, putT, List.setIfInBounds_toArray, List.set_cons_zero, List.set_cons_succ]
            unfold execOp
            go_simp
        clear F ivh aph
        obtain ⟨y, hy⟩ : ∃ z, z = yW := ⟨_, rfl⟩
        rw [← hy] at bW ⊢
        clear hy
        refine wpAny_done (by kernel_rfl) ?_ _
        simp only [fillK, putT, List.setIfInBounds_toArray, List.set_cons_zero, List.set_cons_succ]
        go_wp2
        go_ret
        exact ⟨by rw [HNo.out]; rfl, Bl.trans (bW.mono Bl.size)⟩
      by_cases h3 : kr ≠ 1 ∧ kr ≠ 2
      case pos =>
        have HNo : Hid (R = false) := HF.out (fun h => by
          have h2 := (h.2 k (by omega)).1
          rw [← HE.out] at h2
          simp only [] at h2
          omega)
        have g1 : (kr != 1) = true := by simpa using h3.1
        have g2 : (kr != 2) = true := by simpa using h3.2
        clear h3
        try simp only [Act.put]
        refine tameG [kc 18 (.pointer (some ⟨X, 0, none⟩)), kc 19 (.int .i64 ki), kc 20 (.bool false), kc 21 (.bool false), kc 22 (.pointer (some ⟨X, 0, none⟩)), kc 23 (.int .i64 ki), kc 24 (.bool false), kc 25 (.bool false), kc 26 (.bool false), kc 27 (.pointer (some ⟨X, 1, none⟩)), kc 28 (.int .i64 kr), kc 29 (.bool true), kc 30 (.bool true), kc 31 (.pointer (some ⟨X, 1, none⟩)), kc 32 (.int .i64 kr), kc 33 (.bool true), kc 34 (.bool true), kc 35 (.bool true), kc 36 (.bool true), kc 37 (undef), kc 38 (undef), kc 39 (undef), kc 40 (undef), kc 41 (.bool true), kc 42 (.bool true), kc 43 (undef), kc 44 (undef), kc 45 (undef), kc 46 (undef), kc 47 (undef), kc 48 (undef), kc 49 (undef), kc 50 (undef), kc 51 (undef), kc 52 (undef), kc 53 (undef), kc 54 (undef), kc 55 (undef), kc 56 (.bool true)] 39 (by kernel_rfl) (by kernel_rfl) (by kernel_rfl) (by repeat' first | exact trivial | apply kc_keeps | constructor) 0 (by kernel_rfl) (fun vv ll hh yW bW => ?_) (fun vv ll hh yW bW F ivh aph => ?_)
        · have x0 := (bW.cell (p := ⟨X, 0, none⟩) D.lt).trans d0
          have x1 := (bW.cell (p := ⟨X, 1, none⟩) D.lt).trans d1
          have x3 := (bW.cell (p := ⟨X, 3, none⟩) D.lt).trans d3
          refine ⟨og (tp (by kernel_rfl)) (by kernel_rfl), og (tp ?_) (by kernel_rfl), og (tp ?_) (by kernel_rfl), og (tp (by kernel_rfl)) (by kernel_rfl), og (tp (by kernel_rfl)) (by kernel_rfl), og (tp ?_) (by kernel_rfl), og (tp ?_) (by kernel_rfl), og (tp (by kernel_rfl)) (by kernel_rfl), og (tp (by kernel_rfl)) (by kernel_rfl), og (tp (by kernel_rfl)) (by kernel_rfl), og (tp ?_) (by kernel_rfl), og (tp ?_) (by kernel_rfl), og (tp (by kernel_rfl)) (by kernel_rfl), og (tp (by kernel_rfl)) (by kernel_rfl), og (tp ?_) (by kernel_rfl), og (tp ?_) (by kernel_rfl), og (tp (by kernel_rfl)) (by kernel_rfl), og (tp (by kernel_rfl)) (by kernel_rfl), og (tp (by kernel_rfl)) (by kernel_rfl), ou (by kernel_rfl), ou (by kernel_rfl), ou (by kernel_rfl), ou (by kernel_rfl), og (tp (by kernel_rfl)) (by kernel_rfl), og (tp (by kernel_rfl)) (by kernel_rfl), ou (by kernel_rfl), ou (by kernel_rfl), ou (by kernel_rfl), ou (by kernel_rfl), ou (by kernel_rfl), ou (by kernel_rfl), ou (by kernel_rfl), ou (by kernel_rfl), ou (by kernel_rfl), ou (by kernel_rfl), ou (by kernel_rfl), ou (by kernel_rfl), ou (by kernel_rfl), og (tp (by kernel_rfl)) (by kernel_rfl), trivial⟩
          all_goals
            simp only [fillK, putT, List.setIfInBounds_toArray, List.set_cons_zero, List.set_cons_succ]
            unfold execOp
            go_simp
        clear F ivh aph
        obtain ⟨y, hy⟩ : ∃ z, z = yW := ⟨_, rfl⟩
        rw [← hy] at bW ⊢
        clear hy
        refine wpAny_done (by kernel_rfl) ?_ _
        simp only [fillK, putT, List.setIfInBounds_toArray, List.set_cons_zero, List.set_cons_succ]
        go_wp2
        go_ret
        exact ⟨by rw [HNo.out]; rfl, Bl.trans (bW.mono Bl.size)⟩
      by_cases hr : kr = 1
      · have g1 : (kr != 1) = false := by simpa using hr
        clear h3
        have HRr : Hid (kr = 1 ∨ kr = 2) := .inl hr
        clear hr
        by_cases h4 : (kp.length : Int) = 32
        case neg =>
          have HNo : Hid (R = false) := HF.out (fun h => by
            have h2 := (h.2 k (by omega)).1
            rw [← HE.out] at h2
            simp only [] at h2
            omega)
          have g4 : ((kp.length : Int) != 32) = true := by simpa using h4
          clear h4
          try simp only [Act.put]
          refine tameG [kc 18 (.pointer (some ⟨X, 0, none⟩)), kc 19 (.int .i64 ki), kc 20 (.bool false), kc 21 (.bool false), kc 22 (.pointer (some ⟨X, 0, none⟩)), kc 23 (.int .i64 ki), kc 24 (.bool false), kc 25 (.bool false), kc 26 (.bool false), kc 27 (.pointer (some ⟨X, 1, none⟩)), kc 28 (.int .i64 kr), kc 29 (.bool false), kc 30 (.bool false), kc 31 (undef), kc 32 (undef), kc 33 (undef), kc 34 (.bool false), kc 35 (.bool false), kc 36 (.bool false), kc 37 (.pointer (some ⟨X, 3, none⟩)), kc 38 (.slice ha kp.length hc), kc 39 (.int .i64 (kp.length : Int)), kc 40 (.bool true), kc 41 (.bool true), kc 42 (.bool true), kc 43 (undef), kc 44 (undef), kc 45 (undef), kc 46 (undef), kc 47 (undef), kc 48 (undef), kc 49 (undef), kc 50 (undef), kc 51 (undef), kc 52 (undef), kc 53 (undef), kc 54 (undef), kc 55 (undef), kc 56 (.bool true)] 39 (by kernel_rfl) (by kernel_rfl) (by kernel_rfl) (by repeat' first | exact trivial | apply kc_keeps | constructor) 0 (by kernel_rfl) (fun vv ll hh yW bW => ?_) (fun vv ll hh yW bW F ivh aph => ?_)
          · have x0 := (bW.cell (p := ⟨X, 0, none⟩) D.lt).trans d0
            have x1 := (bW.cell (p := ⟨X, 1, none⟩) D.lt).trans d1
            have x3 := (bW.cell (p := ⟨X, 3, none⟩) D.lt).trans d3
            refine ⟨og (tp (by kernel_rfl)) (by kernel_rfl), og (tp ?_) (by kernel_rfl), og (tp ?_) (by kernel_rfl), og (tp (by kernel_rfl)) (by kernel_rfl), og (tp (by kernel_rfl)) (by kernel_rfl), og (tp ?_) (by kernel_rfl), og (tp ?_) (by kernel_rfl), og (tp (by kernel_rfl)) (by kernel_rfl), og (tp (by kernel_rfl)) (by kernel_rfl), og (tp (by kernel_rfl)) (by kernel_rfl), og (tp ?_) (by kernel_rfl), og (tp ?_) (by kernel_rfl), og (tp (by kernel_rfl)) (by kernel_rfl), ou (by kernel_rfl), ou (by kernel_rfl), ou (by kernel_rfl), og (tp (by kernel_rfl)) (by kernel_rfl), og (tp (by kernel_rfl)) (by kernel_rfl), og (tp (by kernel_rfl)) (by kernel_rfl), og (tp (by kernel_rfl)) (by kernel_rfl), og (tp ?_) (by kernel_rfl), og (tp ?_) (by kernel_rfl), og (tp ?_) (by kernel_rfl), og (tp (by kernel_rfl)) (by kernel_rfl), og (tp (by kernel_rfl)) (by kernel_rfl), ou (by kernel_rfl), ou (by kernel_rfl), ou (by kernel_rfl), ou (by kernel_rfl), ou (by kernel_rfl), ou (by kernel_rfl), ou (by kernel_rfl), ou (by kernel_rfl), ou (by kernel_rfl), ou (by kernel_rfl), ou (by kernel_rfl), ou (by kernel_rfl), ou (by kernel_rfl), og (tp (by kernel_rfl)) (by kernel_rfl), trivial⟩
            all_goals
              simp only [fillK, putT, List.setIfInBounds_toArray, List.set_cons_zero, List.set_cons_succ]
              unfold execOp
              go_simp
          clear F ivh aph
          obtain ⟨y, hy⟩ : ∃ z, z = yW := ⟨_, rfl⟩
          rw [← hy] at bW ⊢
          clear hy
          refine wpAny_done (by kernel_rfl) ?_ _
          simp only [fillK, putT, List.setIfInBounds_toArray, List.set_cons_zero, List.set_cons_succ]
          go_wp2
          go_ret
          exact ⟨by rw [HNo.out]; rfl, Bl.trans (bW.mono Bl.size)⟩
        have g4 : ((kp.length : Int) != 32) = false := by simpa using h4
        have HKP : Hid (kp.length = 32) := by unfold Hid; omega
        clear h4
        by_cases hz : 0 < k
        · have hkd : (0 : Int) < (k : Int) := by omega
          have hk1 : (1 : Int) ≤ (k : Int) := by omega
          have hk2 : (k : Int) - 1 < (n : Int) := by omega
          have hw1 : IntKind.i64.wrap ((k : Int) - 1) = (k : Int) - 1 := by rw [IntKind.wrap_i64]; omega
          have ht1 : ((k : Int) - 1).toNat = k - 1 := by omega
          obtain ⟨ha', hc', P'⟩ := hcell (k - 1) (by omega)
          obtain ⟨z, hzz⟩ : ∃ z, z = (ks.getD (k - 1) kz).i := ⟨_, rfl⟩
          have r1 : Z.cell? ⟨b, o + (k - 1) * 4, none⟩ = some (.int .i64 z) := by rw [hzz]; exact P'.i
          have HZ : Hid _ := hzz
          clear hzz P' hcell
          by_cases hzk : z < ki
          · have hzn : ¬ ki ≤ z := by omega
            have HZK : Hid _ := hzk
            try simp only [Act.put]
            refine tameG [kc 18 (.pointer (some ⟨X, 0, none⟩)), kc 19 (.int .i64 ki), kc 20 (.bool false), kc 21 (.bool false), kc 22 (.pointer (some ⟨X, 0, none⟩)), kc 23 (.int .i64 ki), kc 24 (.bool false), kc 25 (.bool false), kc 26 (.bool false), kc 27 (.pointer (some ⟨X, 1, none⟩)), kc 28 (.int .i64 kr), kc 29 (.bool false), kc 30 (.bool false), kc 31 (undef), kc 32 (undef), kc 33 (undef), kc 34 (.bool false), kc 35 (.bool false), kc 36 (.bool false), kc 37 (.pointer (some ⟨X, 3, none⟩)), kc 38 (.slice ha kp.length hc), kc 39 (.int .i64 (kp.length : Int)), kc 40 (.bool false), kc 41 (.bool false), kc 42 (.bool false), kc 43 (.int .i64 (k : Int)), kc 44 (.bool true), kc 45 (.bool true), kc 46 (.slice (some ⟨b, o, none⟩) n c), kc 47 (.int .i64 (k : Int)), kc 48 (.int .i64 ((k : Int) - 1)), kc 49 (.pointer (some ⟨b, o + (k - 1) * 4, none⟩)), kc 50 (.pointer (some ⟨b, o + (k - 1) * 4, none⟩)), kc 51 (.int .i64 z), kc 52 (.pointer (some ⟨X, 0, none⟩)), kc 53 (.int .i64 ki), kc 54 (.bool false), kc 55 (.bool false), kc 56 (.bool false)] 39 (by kernel_rfl) (by kernel_rfl) (by kernel_rfl) (by repeat' first | exact trivial | apply kc_keeps | constructor) 0 (by kernel_rfl) (fun vv ll hh yW bW => ?_) (fun vv ll hh yW bW F ivh aph => ?_)
            · have x0 := (bW.cell (p := ⟨X, 0, none⟩) D.lt).trans d0
              have x1 := (bW.cell (p := ⟨X, 1, none⟩) D.lt).trans d1
              have x3 := (bW.cell (p := ⟨X, 3, none⟩) D.lt).trans d3
              have x4 := (bW.cell (p := ⟨b, _, none⟩) hbs).trans r1
              refine ⟨og (tp (by kernel_rfl)) (by kernel_rfl), og (tp ?_) (by kernel_rfl), og (tp ?_) (by kernel_rfl), og (tp (by kernel_rfl)) (by kernel_rfl), og (tp (by kernel_rfl)) (by kernel_rfl), og (tp ?_) (by kernel_rfl), og (tp ?_) (by kernel_rfl), og (tp (by kernel_rfl)) (by kernel_rfl), og (tp (by kernel_rfl)) (by kernel_rfl), og (tp (by kernel_rfl)) (by kernel_rfl), og (tp ?_) (by kernel_rfl), og (tp ?_) (by kernel_rfl), og (tp (by kernel_rfl)) (by kernel_rfl), ou (by kernel_rfl), ou (by kernel_rfl), ou (by kernel_rfl), og (tp (by kernel_rfl)) (by kernel_rfl), og (tp (by kernel_rfl)) (by kernel_rfl), og (tp (by kernel_rfl)) (by kernel_rfl), og (tp (by kernel_rfl)) (by kernel_rfl), og (tp ?_) (by kernel_rfl), og (tp ?_) (by kernel_rfl), og (tp ?_) (by kernel_rfl), og (tp (by kernel_rfl)) (by kernel_rfl), og (tp (by kernel_rfl)) (by kernel_rfl), og (tp (by kernel_rfl)) (by kernel_rfl), og (tp ?_) (by kernel_rfl), og (tp (by kernel_rfl)) (by kernel_rfl), og (tp (by kernel_rfl)) (by kernel_rfl), og (tp (by kernel_rfl)) (by kernel_rfl), og (tp ?_) (by kernel_rfl), og (tp ?_) (by kernel_rfl), og (tp ?_) (by kernel_rfl), og (tp ?_) (by kernel_rfl), og (tp (by kernel_rfl)) (by kernel_rfl), og (tp ?_) (by kernel_rfl), og (tp ?_) (by kernel_rfl), og (tp (by kernel_rfl)) (by kernel_rfl), og (tp (by kernel_rfl)) (by kernel_rfl), trivial⟩
              all_goals
                simp only [fillK, putT, List.setIfInBounds_toArray, List.set_cons_zero, List.set_cons_succ]
                unfold execOp
                go_simp
            clear F ivh aph
            obtain ⟨y, hy⟩ : ∃ z, z = yW := ⟨_, rfl⟩
            rw [← hy] at bW ⊢
            clear hy
            refine wpAny_done (by kernel_rfl) ?_ _
            simp only [fillK, putT, List.setIfInBounds_toArray, List.set_cons_zero, List.set_cons_succ]
            replace Bl := Bl.trans (bW.mono Bl.size)
            have HN2 : Hid (∀ j, j < k + 1 → kOkAt ks j) := by
              unfold Hid; intro j hj
              by_cases hjk : j = k
              · subst hjk
                refine ⟨?_, fun _ => by rw [← HE.out, ← HZ.out]; exact HZK.out⟩
                rw [← HE.out]
                exact ⟨⟨(by show 0 ≤ ki; omega), (by show ki ≤ 255; omega)⟩, HRr.out, HKP.out⟩
              · exact HN.out j (by omega)
            go_wp2
            go_roundw
            case rel => exact ⟨k + 1, by omega, by go_num, HN2, Bl⟩
            case measure => simp [intOf]; omega
          · have hzn : ki ≤ z := by omega
            have HNo : Hid (R = false) := HF.out (fun h => by
              have h2 := (h.2 k (by omega)).2 hz
              rw [← HE.out, ← HZ.out] at h2
              exact hzk h2)
            try simp only [Act.put]
            refine tameG [kc 18 (.pointer (some ⟨X, 0, none⟩)), kc 19 (.int .i64 ki), kc 20 (.bool false), kc 21 (.bool false), kc 22 (.pointer (some ⟨X, 0, none⟩)), kc 23 (.int .i64 ki), kc 24 (.bool false), kc 25 (.bool false), kc 26 (.bool false), kc 27 (.pointer (some ⟨X, 1, none⟩)), kc 28 (.int .i64 kr), kc 29 (.bool false), kc 30 (.bool false), kc 31 (undef), kc 32 (undef), kc 33 (undef), kc 34 (.bool false), kc 35 (.bool false), kc 36 (.bool false), kc 37 (.pointer (some ⟨X, 3, none⟩)), kc 38 (.slice ha kp.length hc), kc 39 (.int .i64 (kp.length : Int)), kc 40 (.bool false), kc 41 (.bool false), kc 42 (.bool false), kc 43 (.int .i64 (k : Int)), kc 44 (.bool true), kc 45 (.bool true), kc 46 (.slice (some ⟨b, o, none⟩) n c), kc 47 (.int .i64 (k : Int)), kc 48 (.int .i64 ((k : Int) - 1)), kc 49 (.pointer (some ⟨b, o + (k - 1) * 4, none⟩)), kc 50 (.pointer (some ⟨b, o + (k - 1) * 4, none⟩)), kc 51 (.int .i64 z), kc 52 (.pointer (some ⟨X, 0, none⟩)), kc 53 (.int .i64 ki), kc 54 (.bool true), kc 55 (.bool true), kc 56 (.bool true)] 39 (by kernel_rfl) (by kernel_rfl) (by kernel_rfl) (by repeat' first | exact trivial | apply kc_keeps | constructor) 0 (by kernel_rfl) (fun vv ll hh yW bW => ?_) (fun vv ll hh yW bW F ivh aph => ?_)
            · have x0 := (bW.cell (p := ⟨X, 0, none⟩) D.lt).trans d0
              have x1 := (bW.cell (p := ⟨X, 1, none⟩) D.lt).trans d1
              have x3 := (bW.cell (p := ⟨X, 3, none⟩) D.lt).trans d3
              have x4 := (bW.cell (p := ⟨b, _, none⟩) hbs).trans r1
              refine ⟨og (tp (by kernel_rfl)) (by kernel_rfl), og (tp ?_) (by kernel_rfl), og (tp ?_) (by kernel_rfl), og (tp (by kernel_rfl)) (by kernel_rfl), og (tp (by kernel_rfl)) (by kernel_rfl), og (tp ?_) (by kernel_rfl), og (tp ?_) (by kernel_rfl), og (tp (by kernel_rfl)) (by kernel_rfl), og (tp (by kernel_rfl)) (by kernel_rfl), og (tp (by kernel_rfl)) (by kernel_rfl), og (tp ?_) (by kernel_rfl), og (tp ?_) (by kernel_rfl), og (tp (by kernel_rfl)) (by kernel_rfl), ou (by kernel_rfl), ou (by kernel_rfl), ou (by kernel_rfl), og (tp (by kernel_rfl)) (by kernel_rfl), og (tp (by kernel_rfl)) (by kernel_rfl), og (tp (by kernel_rfl)) (by kernel_rfl), og (tp (by kernel_rfl)) (by kernel_rfl), og (tp ?_) (by kernel_rfl), og (tp ?_) (by kernel_rfl), og (tp ?_) (by kernel_rfl), og (tp (by kernel_rfl)) (by kernel_rfl), og (tp (by kernel_rfl)) (by kernel_rfl), og (tp (by kernel_rfl)) (by kernel_rfl), og (tp ?_) (by kernel_rfl), og (tp (by kernel_rfl)) (by kernel_rfl), og (tp (by kernel_rfl)) (by kernel_rfl), og (tp (by kernel_rfl)) (by kernel_rfl), og (tp ?_) (by kernel_rfl), og (tp ?_) (by kernel_rfl), og (tp ?_) (by kernel_rfl), og (tp ?_) (by kernel_rfl), og (tp (by kernel_rfl)) (by kernel_rfl), og (tp ?_) (by kernel_rfl), og (tp ?_) (by kernel_rfl), og (tp (by kernel_rfl)) (by kernel_rfl), og (tp (by kernel_rfl)) (by kernel_rfl), trivial⟩
              all_goals
                simp only [fillK, putT, List.setIfInBounds_toArray, List.set_cons_zero, List.set_cons_succ]
                unfold execOp
                go_simp
            clear F ivh aph
            obtain ⟨y, hy⟩ : ∃ z, z = yW := ⟨_, rfl⟩
            rw [← hy] at bW ⊢
            clear hy
            refine wpAny_done (by kernel_rfl) ?_ _
            simp only [fillK, putT, List.setIfInBounds_toArray, List.set_cons_zero, List.set_cons_succ]
            go_wp2
            go_ret
            exact ⟨by rw [HNo.out]; rfl, Bl.trans (bW.mono Bl.size)⟩
        · have HZ0 : Hid (k = 0) := by unfold Hid; omega
          have hkd : (0 < k) = False := by simp; omega
          clear hcell hz
          try simp only [Act.put]
          refine tameG [kc 18 (.pointer (some ⟨X, 0, none⟩)), kc 19 (.int .i64 ki), kc 20 (.bool false), kc 21 (.bool false), kc 22 (.pointer (some ⟨X, 0, none⟩)), kc 23 (.int .i64 ki), kc 24 (.bool false), kc 25 (.bool false), kc 26 (.bool false), kc 27 (.pointer (some ⟨X, 1, none⟩)), kc 28 (.int .i64 kr), kc 29 (.bool false), kc 30 (.bool false), kc 31 (undef), kc 32 (undef), kc 33 (undef), kc 34 (.bool false), kc 35 (.bool false), kc 36 (.bool false), kc 37 (.pointer (some ⟨X, 3, none⟩)), kc 38 (.slice ha kp.length hc), kc 39 (.int .i64 (kp.length : Int)), kc 40 (.bool false), kc 41 (.bool false), kc 42 (.bool false), kc 43 (.int .i64 (k : Int)), kc 44 (.bool false), kc 45 (.bool false), kc 46 (undef), kc 47 (undef), kc 48 (undef), kc 49 (undef), kc 50 (undef), kc 51 (undef), kc 52 (undef), kc 53 (undef), kc 54 (undef), kc 55 (.bool false), kc 56 (.bool false)] 39 (by kernel_rfl) (by kernel_rfl) (by kernel_rfl) (by repeat' first | exact trivial | apply kc_keeps | constructor) 0 (by kernel_rfl) (fun vv ll hh yW bW => ?_) (fun vv ll hh yW bW F ivh aph => ?_)
          · have x0 := (bW.cell (p := ⟨X, 0, none⟩) D.lt).trans d0
            have x1 := (bW.cell (p := ⟨X, 1, none⟩) D.lt).trans d1
            have x3 := (bW.cell (p := ⟨X, 3, none⟩) D.lt).trans d3
            refine ⟨og (tp (by kernel_rfl)) (by kernel_rfl), og (tp ?_) (by kernel_rfl), og (tp ?_) (by kernel_rfl), og (tp (by kernel_rfl)) (by kernel_rfl), og (tp (by kernel_rfl)) (by kernel_rfl), og (tp ?_) (by kernel_rfl), og (tp ?_) (by kernel_rfl), og (tp (by kernel_rfl)) (by kernel_rfl), og (tp (by kernel_rfl)) (by kernel_rfl), og (tp (by kernel_rfl)) (by kernel_rfl), og (tp ?_) (by kernel_rfl), og (tp ?_) (by kernel_rfl), og (tp (by kernel_rfl)) (by kernel_rfl), ou (by kernel_rfl), ou (by kernel_rfl), ou (by kernel_rfl), og (tp (by kernel_rfl)) (by kernel_rfl), og (tp (by kernel_rfl)) (by kernel_rfl), og (tp (by kernel_rfl)) (by kernel_rfl), og (tp (by kernel_rfl)) (by kernel_rfl), og (tp ?_) (by kernel_rfl), og (tp ?_) (by kernel_rfl), og (tp ?_) (by kernel_rfl), og (tp (by kernel_rfl)) (by kernel_rfl), og (tp (by kernel_rfl)) (by kernel_rfl), og (tp (by kernel_rfl)) (by kernel_rfl), og (tp ?_) (by kernel_rfl), og (tp (by kernel_rfl)) (by kernel_rfl), ou (by kernel_rfl), ou (by kernel_rfl), ou (by kernel_rfl), ou (by kernel_rfl), ou (by kernel_rfl), ou (by kernel_rfl), ou (by kernel_rfl), ou (by kernel_rfl), ou (by kernel_rfl), og (tp (by kernel_rfl)) (by kernel_rfl), og (tp (by kernel_rfl)) (by kernel_rfl), trivial⟩
            all_goals
              simp only [fillK, putT, List.setIfInBounds_toArray, List.set_cons_zero, List.set_cons_succ]
              unfold execOp
              go_simp
          clear F ivh aph
          obtain ⟨y, hy⟩ : ∃ z, z = yW := ⟨_, rfl⟩
          rw [← hy] at bW ⊢
          clear hy
          refine wpAny_done (by kernel_rfl) ?_ _
          simp only [fillK, putT, List.setIfInBounds_toArray, List.set_cons_zero, List.set_cons_succ]
          replace Bl := Bl.trans (bW.mono Bl.size)
          have HN2 : Hid (∀ j, j < k + 1 → kOkAt ks j) := by
            unfold Hid; intro j hj
            by_cases hjk : j = k
            · subst hjk
              refine ⟨?_, fun h => by have := HZ0.out; omega⟩
              rw [← HE.out]
              exact ⟨⟨(by show 0 ≤ ki; omega), (by show ki ≤ 255; omega)⟩, HRr.out, HKP.out⟩
            · exact HN.out j (by omega)
          go_wp2
          go_roundw
          case rel => exact ⟨k + 1, by omega, by go_num, HN2, Bl⟩
          case measure => simp [intOf]; omega
      · have g1 : (kr != 1) = true := by simpa using hr
        have hr2 : kr = 2 := by omega
        have g2 : (kr != 2) = false := by simpa using hr2
        clear h3
        have HRr : Hid (kr = 1 ∨ kr = 2) := .inr hr2
        clear hr2
        clear hr
        by_cases h4 : (kp.length : Int) = 32
        case neg =>
          have HNo : Hid (R = false) := HF.out (fun h => by
            have h2 := (h.2 k (by omega)).1
            rw [← HE.out] at h2
            simp only [] at h2
            omega)
          have g4 : ((kp.length : Int) != 32) = true := by simpa using h4
          clear h4
          try simp only [Act.put]
          refine tameG [kc 18 (.pointer (some ⟨X, 0, none⟩)), kc 19 (.int .i64 ki), kc 20 (.bool false), kc 21 (.bool false), kc 22 (.pointer (some ⟨X, 0, none⟩)), kc 23 (.int .i64 ki), kc 24 (.bool false), kc 25 (.bool false), kc 26 (.bool false), kc 27 (.pointer (some ⟨X, 1, none⟩)), kc 28 (.int .i64 kr), kc 29 (.bool true), kc 30 (.bool true), kc 31 (.pointer (some ⟨X, 1, none⟩)), kc 32 (.int .i64 kr), kc 33 (.bool false), kc 34 (.bool false), kc 35 (.bool false), kc 36 (.bool false), kc 37 (.pointer (some ⟨X, 3, none⟩)), kc 38 (.slice ha kp.length hc), kc 39 (.int .i64 (kp.length : Int)), kc 40 (.bool true), kc 41 (.bool true), kc 42 (.bool true), kc 43 (undef), kc 44 (undef), kc 45 (undef), kc 46 (undef), kc 47 (undef), kc 48 (undef), kc 49 (undef), kc 50 (undef), kc 51 (undef), kc 52 (undef), kc 53 (undef), kc 54 (undef), kc 55 (undef), kc 56 (.bool true)] 39 (by kernel_rfl) (by kernel_rfl) (by kernel_rfl) (by repeat' first | exact trivial | apply kc_keeps | constructor) 0 (by kernel_rfl) (fun vv ll hh yW bW => ?_) (fun vv ll hh yW bW F ivh aph => ?_)
          · have x0 := (bW.cell (p := ⟨X, 0, none⟩) D.lt).trans d0
            have x1 := (bW.cell (p := ⟨X, 1, none⟩) D.lt).trans d1
            have x3 := (bW.cell (p := ⟨X, 3, none⟩) D.lt).trans d3
            refine ⟨og (tp (by kernel_rfl)) (by kernel_rfl), og (tp ?_) (by kernel_rfl), og (tp ?_) (by kernel_rfl), og (tp (by kernel_rfl)) (by kernel_rfl), og (tp (by kernel_rfl)) (by kernel_rfl), og (tp ?_) (by kernel_rfl), og (tp ?_) (by kernel_rfl), og (tp (by kernel_rfl)) (by kernel_rfl), og (tp (by kernel_rfl)) (by kernel_rfl), og (tp (by kernel_rfl)) (by kernel_rfl), og (tp ?_) (by kernel_rfl), og (tp ?_) (by kernel_rfl), og (tp (by kernel_rfl)) (by kernel_rfl), og (tp (by kernel_rfl)) (by kernel_rfl), og (tp ?_) (by kernel_rfl), og (tp ?_) (by kernel_rfl), og (tp (by kernel_rfl)) (by kernel_rfl), og (tp (by kernel_rfl)) (by kernel_rfl), og (tp (by kernel_rfl)) (by kernel_rfl), og (tp (by kernel_rfl)) (by kernel_rfl), og (tp ?_) (by kernel_rfl), og (tp ?_) (by kernel_rfl), og (tp ?_) (by kernel_rfl), og (tp (by kernel_rfl)) (by kernel_rfl), og (tp (by kernel_rfl)) (by kernel_rfl), ou (by kernel_rfl), ou (by kernel_rfl), ou (by kernel_rfl), ou (by kernel_rfl), ou (by kernel_rfl), ou (by kernel_rfl), ou (by kernel_rfl), ou (by kernel_rfl), ou (by kernel_rfl), ou (by kernel_rfl), ou (by kernel_rfl), ou (by kernel_rfl), ou (by kernel_rfl), og (tp (by kernel_rfl)) (by kernel_rfl), trivial⟩
            all_goals
              simp only [fillK, putT, List.setIfInBounds_toArray, List.set_cons_zero, List.set_cons_succ]
              unfold execOp
              go_simp
          clear F ivh aph
          obtain ⟨y, hy⟩ : ∃ z, z = yW := ⟨_, rfl⟩
          rw [← hy] at bW ⊢
          clear hy
          refine wpAny_done (by kernel_rfl) ?_ _
          simp only [fillK, putT, List.setIfInBounds_toArray, List.set_cons_zero, List.set_cons_succ]
          go_wp2
          go_ret
          exact ⟨by rw [HNo.out]; rfl, Bl.trans (bW.mono Bl.size)⟩
        have g4 : ((kp.length : Int) != 32) = false := by simpa using h4
        have HKP : Hid (kp.length = 32) := by unfold Hid; omega
        clear h4
        by_cases hz : 0 < k
        · have hkd : (0 : Int) < (k : Int) := by omega
          have hk1 : (1 : Int) ≤ (k : Int) := by omega
          have hk2 : (k : Int) - 1 < (n : Int) := by omega
          have hw1 : IntKind.i64.wrap ((k : Int) - 1) = (k : Int) - 1 := by rw [IntKind.wrap_i64]; omega
          have ht1 : ((k : Int) - 1).toNat = k - 1 := by omega
          obtain ⟨ha', hc', P'⟩ := hcell (k - 1) (by omega)
          obtain ⟨z, hzz⟩ : ∃ z, z = (ks.getD (k - 1) kz).i := ⟨_, rfl⟩
          have r1 : Z.cell? ⟨b, o + (k - 1) * 4, none⟩ = some (.int .i64 z) := by rw [hzz]; exact P'.i
          have HZ : Hid _ := hzz
          clear hzz P' hcell
          by_cases hzk : z < ki
          · have hzn : ¬ ki ≤ z := by omega
            have HZK : Hid _ := hzk
            try simp only [Act.put]
            refine tameG [kc 18 (.pointer (some ⟨X, 0, none⟩)), kc 19 (.int .i64 ki), kc 20 (.bool false), kc 21 (.bool false), kc 22 (.pointer (some ⟨X, 0, none⟩)), kc 23 (.int .i64 ki), kc 24 (.bool false), kc 25 (.bool false), kc 26 (.bool false), kc 27 (.pointer (some ⟨X, 1, none⟩)), kc 28 (.int .i64 kr), kc 29 (.bool true), kc 30 (.bool true), kc 31 (.pointer (some ⟨X, 1, none⟩)), kc 32 (.int .i64 kr), kc 33 (.bool false), kc 34 (.bool false), kc 35 (.bool false), kc 36 (.bool false), kc 37 (.pointer (some ⟨X, 3, none⟩)), kc 38 (.slice ha kp.length hc), kc 39 (.int .i64 (kp.length : Int)), kc 40 (.bool false), kc 41 (.bool false), kc 42 (.bool false), kc 43 (.int .i64 (k : Int)), kc 44 (.bool true), kc 45 (.bool true), kc 46 (.slice (some ⟨b, o, none⟩) n c), kc 47 (.int .i64 (k : Int)), kc 48 (.int .i64 ((k : Int) - 1)), kc 49 (.pointer (some ⟨b, o + (k - 1) * 4, none⟩)), kc 50 (.pointer (some ⟨b, o + (k - 1) * 4, none⟩)), kc 51 (.int .i64 z), kc 52 (.pointer (some ⟨X, 0, none⟩)), kc 53 (.int .i64 ki), kc 54 (.bool false), kc 55 (.bool false), kc 56 (.bool false)] 39 (by kernel_rfl) (by kernel_rfl) (by kernel_rfl) (by repeat' first | exact trivial | apply kc_keeps | constructor) 0 (by kernel_rfl) (fun vv ll hh yW bW => ?_) (fun vv ll hh yW bW F ivh aph => ?_)
            · have x0 := (bW.cell (p := ⟨X, 0, none⟩) D.lt).trans d0
              have x1 := (bW.cell (p := ⟨X, 1, none⟩) D.lt).trans d1
              have x3 := (bW.cell (p := ⟨X, 3, none⟩) D.lt).trans d3
              have x4 := (bW.cell (p := ⟨b, _, none⟩) hbs).trans r1
              refine ⟨og (tp (by kernel_rfl)) (by kernel_rfl), og (tp ?_) (by kernel_rfl), og (tp ?_) (by kernel_rfl), og (tp (by kernel_rfl)) (by kernel_rfl), og (tp (by kernel_rfl)) (by kernel_rfl), og (tp ?_) (by kernel_rfl), og (tp ?_) (by kernel_rfl), og (tp (by kernel_rfl)) (by kernel_rfl), og (tp (by kernel_rfl)) (by kernel_rfl), og (tp (by kernel_rfl)) (by kernel_rfl), og (tp ?_) (by kernel_rfl), og (tp ?_) (by kernel_rfl), og (tp (by kernel_rfl)) (by kernel_rfl), og (tp (by kernel_rfl)) (by kernel_rfl), og (tp ?_) (by kernel_rfl), og (tp ?_) (by kernel_rfl), og (tp (by kernel_rfl)) (by kernel_rfl), og (tp (by kernel_rfl)) (by kernel_rfl), og (tp (by kernel_rfl)) (by kernel_rfl), og (tp (by kernel_rfl)) (by kernel_rfl), og (tp ?_) (by kernel_rfl), og (tp ?_) (by kernel_rfl), og (tp ?_) (by kernel_rfl), og (tp (by kernel_rfl)) (by kernel_rfl), og (tp (by kernel_rfl)) (by kernel_rfl), og (tp (by kernel_rfl)) (by kernel_rfl), og (tp ?_) (by kernel_rfl), og (tp (by kernel_rfl)) (by kernel_rfl), og (tp (by kernel_rfl)) (by kernel_rfl), og (tp (by kernel_rfl)) (by kernel_rfl), og (tp ?_) (by kernel_rfl), og (tp ?_) (by kernel_rfl), og (tp ?_) (by kernel_rfl), og (tp ?_) (by kernel_rfl), og (tp (by kernel_rfl)) (by kernel_rfl), og (tp ?_) (by kernel_rfl), og (tp ?_) (by kernel_rfl), og (tp (by kernel_rfl)) (by kernel_rfl), og (tp (by kernel_rfl)) (by kernel_rfl), trivial⟩
              all_goals
                simp only [fillK, putT, List.setIfInBounds_toArray, List.set_cons_zero, List.set_cons_succ]
                unfold execOp
                go_simp
            clear F ivh aph
            obtain ⟨y, hy⟩ : ∃ z, z = yW := ⟨_, rfl⟩
            rw [← hy] at bW ⊢
            clear hy
            refine wpAny_done (by kernel_rfl) ?_ _
            simp only [fillK, putT, List.setIfInBounds_toArray, List.set_cons_zero, List.set_cons_succ]
            replace Bl := Bl.trans (bW.mono Bl.size)
            have HN2 : Hid (∀ j, j < k + 1 → kOkAt ks j) := by
              unfold Hid; intro j hj
              by_cases hjk : j = k
              · subst hjk
                refine ⟨?_, fun _ => by rw [← HE.out, ← HZ.out]; exact HZK.out⟩
                rw [← HE.out]
                exact ⟨⟨(by show 0 ≤ ki; omega), (by show ki ≤ 255; omega)⟩, HRr.out, HKP.out⟩
              · exact HN.out j (by omega)
            go_wp2
            go_roundw
            case rel => exact ⟨k + 1, by omega, by go_num, HN2, Bl⟩
            case measure => simp [intOf]; omega
          · have hzn : ki ≤ z := by omega
            have HNo : Hid (R = false) := HF.out (fun h => by
              have h2 := (h.2 k (by omega)).2 hz
              rw [← HE.out, ← HZ.out] at h2
              exact hzk h2)
            try simp only [Act.put]
            refine tameG [kc 18 (.pointer (some ⟨X, 0, none⟩)), kc 19 (.int .i64 ki), kc 20 (.bool false), kc 21 (.bool false), kc 22 (.pointer (some ⟨X, 0, none⟩)), kc 23 (.int .i64 ki), kc 24 (.bool false), kc 25 (.bool false), kc 26 (.bool false), kc 27 (.pointer (some ⟨X, 1, none⟩)), kc 28 (.int .i64 kr), kc 29 (.bool true), kc 30 (.bool true), kc 31 (.pointer (some ⟨X, 1, none⟩)), kc 32 (.int .i64 kr), kc 33 (.bool false), kc 34 (.bool false), kc 35 (.bool false), kc 36 (.bool false), kc 37 (.pointer (some ⟨X, 3, none⟩)), kc 38 (.slice ha kp.length hc), kc 39 (.int .i64 (kp.length : Int)), kc 40 (.bool false), kc 41 (.bool false), kc 42 (.bool false), kc 43 (.int .i64 (k : Int)), kc 44 (.bool true), kc 45 (.bool true), kc 46 (.slice (some ⟨b, o, none⟩) n c), kc 47 (.int .i64 (k : Int)), kc 48 (.int .i64 ((k : Int) - 1)), kc 49 (.pointer (some ⟨b, o + (k - 1) * 4, none⟩)), kc 50 (.pointer (some ⟨b, o + (k - 1) * 4, none⟩)), kc 51 (.int .i64 z), kc 52 (.pointer (some ⟨X, 0, none⟩)), kc 53 (.int .i64 ki), kc 54 (.bool true), kc 55 (.bool true), kc 56 (.bool true)] 39 (by kernel_rfl) (by kernel_rfl) (by kernel_rfl) (by repeat' first | exact trivial | apply kc_keeps | constructor) 0 (by kernel_rfl) (fun vv ll hh yW bW => ?_) (fun vv ll hh yW bW F ivh aph => ?_)
            · have x0 := (bW.cell (p := ⟨X, 0, none⟩) D.lt).trans d0
              have x1 := (bW.cell (p := ⟨X, 1, none⟩) D.lt).trans d1
              have x3 := (bW.cell (p := ⟨X, 3, none⟩) D.lt).trans d3
              have x4 := (bW.cell (p := ⟨b, _, none⟩) hbs).trans r1
              refine ⟨og (tp (by kernel_rfl)) (by kernel_rfl), og (tp ?_) (by kernel_rfl), og (tp ?_) (by kernel_rfl), og (tp (by kernel_rfl)) (by kernel_rfl), og (tp (by kernel_rfl)) (by kernel_rfl), og (tp ?_) (by kernel_rfl), og (tp ?_) (by kernel_rfl), og (tp (by kernel_rfl)) (by kernel_rfl), og (tp (by kernel_rfl)) (by kernel_rfl), og (tp (by kernel_rfl)) (by kernel_rfl), og (tp ?_) (by kernel_rfl), og (tp ?_) (by kernel_rfl), og (tp (by kernel_rfl)) (by kernel_rfl), og (tp (by kernel_rfl)) (by kernel_rfl), og (tp ?_) (by kernel_rfl), og (tp ?_) (by kernel_rfl), og (tp (by kernel_rfl)) (by kernel_rfl), og (tp (by kernel_rfl)) (by kernel_rfl), og (tp (by kernel_rfl)) (by kernel_rfl), og (tp (by kernel_rfl)) (by kernel_rfl), og (tp ?_) (by kernel_rfl), og (tp ?_) (by kernel_rfl), og (tp ?_) (by kernel_rfl), og (tp (by kernel_rfl)) (by kernel_rfl), og (tp (by kernel_rfl)) (by kernel_rfl), og (tp (by kernel_rfl)) (by kernel_rfl), og (tp ?_) (by kernel_rfl), og (tp (by kernel_rfl)) (by kernel_rfl), og (tp (by kernel_rfl)) (by kernel_rfl), og (tp (by kernel_rfl)) (by kernel_rfl), og (tp ?_) (by kernel_rfl), og (tp ?_) (by kernel_rfl), og (tp ?_) (by kernel_rfl), og (tp ?_) (by kernel_rfl), og (tp (by kernel_rfl)) (by kernel_rfl), og (tp ?_) (by kernel_rfl), og (tp ?_) (by kernel_rfl), og (tp (by kernel_rfl)) (by kernel_rfl), og (tp (by kernel_rfl)) (by kernel_rfl), trivial⟩
              all_goals
                simp only [fillK, putT, List.setIfInBounds_toArray, List.set_cons_zero, List.set_cons_succ]
                unfold execOp
                go_simp
            clear F ivh aph
            obtain ⟨y, hy⟩ : ∃ z, z = yW := ⟨_, rfl⟩
            rw [← hy] at bW ⊢
            clear hy
            refine wpAny_done (by kernel_rfl) ?_ _
            simp only [fillK, putT, List.setIfInBounds_toArray, List.set_cons_zero, List.set_cons_succ]
            go_wp2
            go_ret
            exact ⟨by rw [HNo.out]; rfl, Bl.trans (bW.mono Bl.size)⟩
        · have HZ0 : Hid (k = 0) := by unfold Hid; omega
          have hkd : (0 < k) = False := by simp; omega
          clear hcell hz
          try simp only [Act.put]
          refine tameG [kc 18 (.pointer (some ⟨X, 0, none⟩)), kc 19 (.int .i64 ki), kc 20 (.bool false), kc 21 (.bool false), kc 22 (.pointer (some ⟨X, 0, none⟩)), kc 23 (.int .i64 ki), kc 24 (.bool false), kc 25 (.bool false), kc 26 (.bool false), kc 27 (.pointer (some ⟨X, 1, none⟩)), kc 28 (.int .i64 kr), kc 29 (.bool true), kc 30 (.bool true), kc 31 (.pointer (some ⟨X, 1, none⟩)), kc 32 (.int .i64 kr), kc 33 (.bool false), kc 34 (.bool false), kc 35 (.bool false), kc 36 (.bool false), kc 37 (.pointer (some ⟨X, 3, none⟩)), kc 38 (.slice ha kp.length hc), kc 39 (.int .i64 (kp.length : Int)), kc 40 (.bool false), kc 41 (.bool false), kc 42 (.bool false), kc 43 (.int .i64 (k : Int)), kc 44 (.bool false), kc 45 (.bool false), kc 46 (undef), kc 47 (undef), kc 48 (undef), kc 49 (undef), kc 50 (undef), kc 51 (undef), kc 52 (undef), kc 53 (undef), kc 54 (undef), kc 55 (.bool false), kc 56 (.bool false)] 39 (by kernel_rfl) (by kernel_rfl) (by kernel_rfl) (by repeat' first | exact trivial | apply kc_keeps | constructor) 0 (by kernel_rfl) (fun vv ll hh yW bW => ?_) (fun vv ll hh yW bW F ivh aph => ?_)
          · have x0 := (bW.cell (p := ⟨X, 0, none⟩) D.lt).trans d0
            have x1 := (bW.cell (p := ⟨X, 1, none⟩) D.lt).trans d1
            have x3 := (bW.cell (p := ⟨X, 3, none⟩) D.lt).trans d3
            refine ⟨og (tp (by kernel_rfl)) (by kernel_rfl), og (tp ?_) (by kernel_rfl), og (tp ?_) (by kernel_rfl), og (tp (by kernel_rfl)) (by kernel_rfl), og (tp (by kernel_rfl)) (by kernel_rfl), og (tp ?_) (by kernel_rfl), og (tp ?_) (by kernel_rfl), og (tp (by kernel_rfl)) (by kernel_rfl), og (tp (by kernel_rfl)) (by kernel_rfl), og (tp (by kernel_rfl)) (by kernel_rfl), og (tp ?_) (by kernel_rfl), og (tp ?_) (by kernel_rfl), og (tp (by kernel_rfl)) (by kernel_rfl), og (tp (by kernel_rfl)) (by kernel_rfl), og (tp ?_) (by kernel_rfl), og (tp ?_) (by kernel_rfl), og (tp (by kernel_rfl)) (by kernel_rfl), og (tp (by kernel_rfl)) (by kernel_rfl), og (tp (by kernel_rfl)) (by kernel_rfl), og (tp (by kernel_rfl)) (by kernel_rfl), og (tp ?_) (by kernel_rfl), og (tp ?_) (by kernel_rfl), og (tp ?_) (by kernel_rfl), og (tp (by kernel_rfl)) (by kernel_rfl), og (tp (by kernel_rfl)) (by kernel_rfl), og (tp (by kernel_rfl)) (by kernel_rfl), og (tp ?_) (by kernel_rfl), og (tp (by kernel_rfl)) (by kernel_rfl), ou (by kernel_rfl), ou (by kernel_rfl), ou (by kernel_rfl), ou (by kernel_rfl), ou (by kernel_rfl), ou (by kernel_rfl), ou (by kernel_rfl), ou (by kernel_rfl), ou (by kernel_rfl), og (tp (by kernel_rfl)) (by kernel_rfl), og (tp (by kernel_rfl)) (by kernel_rfl), trivial⟩
            all_goals
              simp only [fillK, putT, List.setIfInBounds_toArray, List.set_cons_zero, List.set_cons_succ]
              unfold execOp
              go_simp
          clear F ivh aph
          obtain ⟨y, hy⟩ : ∃ z, z = yW := ⟨_, rfl⟩
          rw [← hy] at bW ⊢
          clear hy
          refine wpAny_done (by kernel_rfl) ?_ _
          simp only [fillK, putT, List.setIfInBounds_toArray, List.set_cons_zero, List.set_cons_succ]
          replace Bl := Bl.trans (bW.mono Bl.size)
          have HN2 : Hid (∀ j, j < k + 1 → kOkAt ks j) := by
            unfold Hid; intro j hj
            by_cases hjk : j = k
            · subst hjk
              refine ⟨?_, fun h => by have := HZ0.out; omega⟩
              rw [← HE.out]
              exact ⟨⟨(by show 0 ≤ ki; omega), (by show ki ≤ 255; omega)⟩, HRr.out, HKP.out⟩
            · exact HN.out j (by omega)
          go_wp2
          go_roundw
          case rel => exact ⟨k + 1, by omega, by go_num, HN2, Bl⟩
          case measure => simp [intOf]; omega
    · have HRT : Hid (R = true) := HT.out ⟨by omega, fun i hi => HN.out i (by omega)⟩
      go_wp2
      go_ret
      exact ⟨by rw [HRT.out]; rfl, Bl⟩
end Go.Proofs.YtofflhhlacdgfaaDoor
