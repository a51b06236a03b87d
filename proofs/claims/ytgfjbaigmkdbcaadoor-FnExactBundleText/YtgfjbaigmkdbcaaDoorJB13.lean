/-
  What is proved here: how keys lie in memory; the contract of the specification's KeysOk; what keys are as a plain fact; contracts of the program's isIn, isVersion, isKind, keyOk, compareKey, and of cmp.Compare at int; what the program's partOk, comparePart, needOk answer, and the library's cmp.Or over ints; what the program's compareNeed answers; what stays where two blocks alone were written; no program is spoken of; how memory is kept while another part of it is written, and rows of their own; no program is spoken of.
-/
import Derived.Test.YtgfjbaigmkdbcaaDoorJB10
import Derived.Test.YtgfjbaigmkdbcaaDoorTm
import Derived.Test.YtgfjbaigmkdbcaaDoorJB6
import Derived.Test.YtgfjbaigmkdbcaaDoorBc
import Derived.Test.YtgfjbaigmkdbcaaDoorJB3
import Derived.Test.YtgfjbaigmkdbcaaDoorJB1
import Derived.Deep.RegionHeld3
import Derived.BigRegion
namespace Go.Proofs.YtgfjbaigmkdbcaaDoor
open Go.RowKit
set_option maxRecDepth 100000
set_option maxHeartbeats 8000000

structure KeyM where
  i : Int
  r : Int
  v : Bool
  p : List Int
def kz : KeyM := ⟨0, 0, false, []⟩
structure KeyAt (W : World) (b q : Nat) (x : KeyM) (ha : Option Addr) (hc : Nat) : Prop where
  i : W.cell? ⟨b, q, none⟩ = some (.int .i64 x.i)
  r : W.cell? ⟨b, q + 1, none⟩ = some (.int .i64 x.r)
  v : W.cell? ⟨b, q + 2, none⟩ = some (.bool x.v)
  p : W.cell? ⟨b, q + 3, none⟩ = some (.slice ha x.p.length hc)
  by_ : Bs W ha x.p.length hc x.p
theorem KeyAt.below {W W' : World} {b q : Nat} {x : KeyM} {ha : Option Addr} {hc : Nat} (h : KeyAt W b q x ha hc) (l : b < W.heap.size) (hb : Below W.heap.size W W') : KeyAt W' b q x ha hc :=
  ⟨(hb.cell (p := ⟨b, _, none⟩) l).trans h.i, (hb.cell (p := ⟨b, _, none⟩) l).trans h.r, (hb.cell (p := ⟨b, _, none⟩) l).trans h.v, (hb.cell (p := ⟨b, _, none⟩) l).trans h.p, h.by_.below hb⟩
/-- What a slice of keys reads as. -/
def Ks (W : World) (a : Option Addr) (n c : Nat) (ks : List KeyM) : Prop :=
  (a = none → c = 0) ∧ ks.length = n ∧ n ≤ c ∧ (n = 0 ∨ ∃ b o, a = some ⟨b, o, none⟩ ∧ b < W.heap.size ∧ ∀ i, i < n → ∃ ha hc, KeyAt W b (o + i * 4) (ks.getD i kz) ha hc)
theorem Ks.below {W W' : World} {a : Option Addr} {n c : Nat} {ks : List KeyM} (h : Ks W a n c ks) (hb : Below W.heap.size W W') : Ks W' a n c ks := by
  obtain ⟨h0, h1, h2, h⟩ := h
  refine ⟨h0, h1, h2, ?_⟩
  rcases h with h | ⟨b, o, e, l, h⟩
  · exact .inl h
  · refine .inr ⟨b, o, e, Nat.lt_of_lt_of_le l hb.size, fun i hi => ?_⟩
    obtain ⟨ha, hc, k⟩ := h i hi
    exact ⟨ha, hc, k.below l hb⟩
abbrev kOkAt (ks : List KeyM) (j : Nat) : Prop := ((0 ≤ (ks.getD j kz).i ∧ (ks.getD j kz).i ≤ 255) ∧ ((ks.getD j kz).r = 1 ∨ (ks.getD j kz).r = 2) ∧ (ks.getD j kz).p.length = 32) ∧ (0 < j → (ks.getD (j - 1) kz).i < (ks.getD j kz).i)
abbrev ksOk (ks : List KeyM) : Prop := ks.length ≤ 8 ∧ ∀ j, j < ks.length → kOkAt ks j
def kOk (ks : List KeyM) : Bool := decide (ks.length ≤ 8) && decide (∀ j, j < ks.length → kOkAt ks j)
theorem kOk_iff (ks : List KeyM) : kOk ks = true ↔ ksOk ks := by
  unfold kOk
  rw [Bool.and_eq_true, decide_eq_true_iff, decide_eq_true_iff]
theorem kOk_dec (ks : List KeyM) : ∃ R, kOk ks = R ∧ Hid (ksOk ks → R = true) ∧ Hid (¬ ksOk ks → R = false) := ⟨_, rfl, (kOk_iff ks).2, fun h => by
  cases e : kOk ks with
  | false => rfl
  | true => exact absurd ((kOk_iff ks).1 e) h⟩
end Go.Proofs.YtgfjbaigmkdbcaaDoor
namespace Go.Proofs.YtgfjbaigmkdbcaaDoor
open Go.RowKit
set_option maxRecDepth 100000
set_option maxHeartbeats 1000000

theorem implIsVersion (n : Int) (w : World) : Calls Tryd.prog 46 #[.int .i64 n] w fun e w' => e = .returned (.bool (decide (verOk n))) ∧ w' = w := by
  obtain ⟨R, hR⟩ : ∃ R, decide (verOk n) = R := ⟨_, rfl⟩
  rw [hR]
  have HR : Hid _ := hR
  clear hR
  go_enter Tryd.func46, Tryd.ntmps46
  go_wp2_with fail
  refine (implIsIn n 0 1000 _).mono ?_
  rintro e w1 ⟨rfl, hw⟩
  rw [hw]
  rw [show decide (0 ≤ n ∧ n ≤ 1000) = R from HR.out]
  go_wp2
  go_ret
  exact ⟨rfl, rfl⟩
theorem implIsKind (n : Int) (w : World) : Calls Tryd.prog 67 #[.int .i64 n] w fun e w' => e = .returned (.bool (decide (0 ≤ n ∧ n < 4))) ∧ w' = w := by
  obtain ⟨R, hR⟩ : ∃ R, decide (0 ≤ n ∧ n < 4) = R := ⟨_, rfl⟩
  rw [hR]
  have HR : Hid _ := hR
  clear hR
  go_enter Tryd.func67, Tryd.ntmps67
  go_wp2_with fail
  refine (implIsIn n 0 3 _).mono ?_
  rintro e w1 ⟨rfl, hw⟩
  rw [hw]
  rw [show decide (0 ≤ n ∧ n ≤ 3) = R from by rw [← HR.out]; apply decide_eq_decide.2; omega]
  go_wp2
  go_ret
  exact ⟨rfl, rfl⟩
def cmpI (a b : Int) : Int := if a < b then -1 else if b < a then 1 else 0
theorem cmpI_neg (a b : Int) : cmpI a b < 0 ↔ a < b := by unfold cmpI; split <;> (try split) <;> omega
theorem cmpI_zero (a b : Int) : cmpI a b = 0 ↔ a = b := by unfold cmpI; split <;> (try split) <;> omega
theorem cmpI_int (a b : Int) : -1 ≤ cmpI a b ∧ cmpI a b ≤ 1 := by unfold cmpI; split <;> (try split) <;> omega
theorem libCompare (a b : Int) (w : World) : Calls Tryd.prog 68 #[.int .i64 a, .int .i64 b] w fun e w' => e = .returned (.int .i64 (cmpI a b)) ∧ w' = w := by
  have ha : (a != a) = false := by simp
  have hb : (b != b) = false := by simp
  by_cases h1 : a < b
  · have e1 : cmpI a b = -1 := by unfold cmpI; simp [h1]
    rw [e1]
    clear e1
    go_enter Tryd.func68, Tryd.ntmps68
    go_wp2
    go_ret
    exact ⟨rfl, rfl⟩
  · by_cases h2 : b < a
    · have e1 : cmpI a b = 1 := by unfold cmpI; simp [h1, h2]
      rw [e1]
      clear e1
      go_enter Tryd.func68, Tryd.ntmps68
      go_wp2
      go_ret
      exact ⟨rfl, rfl⟩
    · have e1 : cmpI a b = 0 := by unfold cmpI; simp [h1, h2]
      rw [e1]
      clear e1
      go_enter Tryd.func68, Tryd.ntmps68
      go_wp2
      go_ret
      exact ⟨rfl, rfl⟩
abbrev keyOk1 (i r : Int) (n : Nat) : Prop := (0 ≤ i ∧ i ≤ 255) ∧ (r = 1 ∨ r = 2) ∧ n = 32
end Go.Proofs.YtgfjbaigmkdbcaaDoor
namespace Go.Proofs.YtgfjbaigmkdbcaaDoor
open Go.RowKit
set_option maxRecDepth 100000
set_option maxHeartbeats 4000000

theorem implPartOk (k v s : Int) (a : Option Addr) (n c : Nat) (w : World) : Calls Tryd.prog 56 #[.agg #[.int .i64 k, .int .i64 v, .int .i64 s, .slice a n c]] w fun e w' => e = .returned (.bool (decide (partOk k v s n))) ∧ Below w.heap.size w w' := by
  obtain ⟨R, hR, HT, HF⟩ := by_dec (partOk k v s n)
  rw [hR]
  clear hR
  have B : Below w.heap.size w (w.alloc (.cells #[.int .i64 k, .int .i64 v, .int .i64 s, .slice a n c] 63)) := (Below.refl _ _).alloc (Nat.le_refl _) _
  obtain ⟨W, hW⟩ : ∃ W, W = w.alloc (.cells #[.int .i64 k, .int .i64 v, .int .i64 s, .slice a n c] 63) := ⟨_, rfl⟩
  have A : Arr W w.heap.size 63 [.int .i64 k, .int .i64 v, .int .i64 s, .slice a n c] := by rw [hW]; exact Arr.new _ _ _
  rw [← hW] at B
  have c0 := A.cell 0
  have c1 := A.cell 1
  have c2 := A.cell 2
  have c3 := A.cell 3
  simp at c0 c1 c2 c3
  clear A
  go_enter Tryd.func56, Tryd.ntmps56
  go_upto_region 1 with fail
  rw [← hW]
  clear hW
  go_wp2_with fail
  refine (implIsKind k _).mono ?_
  rintro e w1 ⟨rfl, hw⟩
  rw [hw]
  clear hw
  by_cases h1 : 0 ≤ k ∧ k < 4
  case neg =>
    rw [decide_eq_false h1]
    go_wp2
    go_ret
    exact ⟨by rw [HF.out (by omega)]; rfl, B⟩
  rw [decide_eq_true h1]
  go_wp2_with fail
  refine (implIsVersion v _).mono ?_
  rintro e w1 ⟨rfl, hw⟩
  rw [hw]
  clear hw
  by_cases h2 : verOk v
  case neg =>
    rw [decide_eq_false h2]
    go_wp2
    go_ret
    exact ⟨by rw [HF.out (by omega)]; rfl, B⟩
  rw [decide_eq_true h2]
  go_wp2_with fail
  refine (implIsIn s 1 192 _).mono ?_
  rintro e w1 ⟨rfl, hw⟩
  rw [hw]
  clear hw
  by_cases h3 : 1 ≤ s ∧ s ≤ 192
  case neg =>
    rw [decide_eq_false h3]
    go_wp2
    go_ret
    exact ⟨by rw [HF.out (by omega)]; rfl, B⟩
  rw [decide_eq_true h3]
  by_cases h4 : (n : Int) = 32
  · have g4 : ((n : Int) == 32) = true := by simpa using h4
    have HRT : Hid (R = true) := HT.out ⟨h1, h2, h3, by omega⟩
    clear h4 h1 h2 h3
    go_wp2
    go_ret
    exact ⟨by rw [HRT.out]; rfl, B⟩
  · have g4 : ((n : Int) == 32) = false := by simpa using h4
    have HRT : Hid (R = false) := HF.out (by omega)
    clear h4 h1 h2 h3
    go_wp2
    go_ret
    exact ⟨by rw [HRT.out]; rfl, B⟩
theorem implComparePart (k v s : Int) (a : Option Addr) (n c : Nat) (k' v' s' : Int) (a' : Option Addr) (n' c' : Nat) (w : World) :
    Calls Tryd.prog 57 #[.agg #[.int .i64 k, .int .i64 v, .int .i64 s, .slice a n c], .agg #[.int .i64 k', .int .i64 v', .int .i64 s', .slice a' n' c']] w fun e w' => e = .returned (.int .i64 (cmpI k k')) ∧ Below w.heap.size w w' := by
  have B : Below w.heap.size w ((w.alloc (.cells #[.int .i64 k, .int .i64 v, .int .i64 s, .slice a n c] 63)).alloc (.cells #[.int .i64 k', .int .i64 v', .int .i64 s', .slice a' n' c'] 63)) := ((Below.refl _ _).alloc (Nat.le_refl _) _).alloc (by simp) _
  have HB : Hid _ := B
  clear B
  go_enter Tryd.func57, Tryd.ntmps57
  go_wp2_with fail
  refine (libCompare k k' _).mono ?_
  rintro e w1 ⟨rfl, hw⟩
  rw [hw]
  clear hw
  obtain ⟨z, hz⟩ : ∃ z, z = cmpI k k' := ⟨_, rfl⟩
  rw [← hz]
  have HZ : Hid _ := hz
  clear hz
  go_wp2
  go_ret
  exact ⟨by rw [← HZ.out]; rfl, HB.out⟩
theorem implNeedOk (o f t k : Int) (w : World) : Calls Tryd.prog 59 #[.agg #[.int .i64 o, .int .i64 f, .int .i64 t, .int .i64 k]] w fun e w' => e = .returned (.bool (decide (needOk o f t k))) ∧ Below w.heap.size w w' := by
  obtain ⟨R, hR, HT, HF⟩ := by_dec (needOk o f t k)
  rw [hR]
  clear hR
  have B : Below w.heap.size w (w.alloc (.cells #[.int .i64 o, .int .i64 f, .int .i64 t, .int .i64 k] 65)) := (Below.refl _ _).alloc (Nat.le_refl _) _
  obtain ⟨W, hW⟩ : ∃ W, W = w.alloc (.cells #[.int .i64 o, .int .i64 f, .int .i64 t, .int .i64 k] 65) := ⟨_, rfl⟩
  have A : Arr W w.heap.size 65 [.int .i64 o, .int .i64 f, .int .i64 t, .int .i64 k] := by rw [hW]; exact Arr.new _ _ _
  rw [← hW] at B
  have c0 := A.cell 0
  have c1 := A.cell 1
  have c2 := A.cell 2
  have c3 := A.cell 3
  simp at c0 c1 c2 c3
  clear A
  go_enter Tryd.func59, Tryd.ntmps59
  go_upto_region 1 with fail
  rw [← hW]
  clear hW
  go_wp2_with fail
  refine (implIsKind o _).mono ?_
  rintro e w1 ⟨rfl, hw⟩
  rw [hw]
  clear hw
  by_cases h1 : 0 ≤ o ∧ o < 4
  case neg =>
    rw [decide_eq_false h1]
    go_wp2
    go_ret
    exact ⟨by rw [HF.out (by omega)]; rfl, B⟩
  rw [decide_eq_true h1]
  go_wp2_with fail
  refine (implIsKind k _).mono ?_
  rintro e w1 ⟨rfl, hw⟩
  rw [hw]
  clear hw
  by_cases h2 : 0 ≤ k ∧ k < 4
  case neg =>
    rw [decide_eq_false h2]
    go_wp2
    go_ret
    exact ⟨by rw [HF.out (by omega)]; rfl, B⟩
  rw [decide_eq_true h2]
  by_cases h3 : o = k
  case pos =>
    have g3 : (o != k) = false := by simpa using h3
    have HRT : Hid (R = false) := HF.out (by omega)
    clear h1 h2 h3
    go_wp2
    go_ret
    exact ⟨by rw [HRT.out]; rfl, B⟩
  have g3 : (o != k) = true := by simpa using h3
  have H3 : Hid _ := h3
  clear h3
  go_wp2_with fail
  refine (implIsVersion f _).mono ?_
  rintro e w1 ⟨rfl, hw⟩
  rw [hw]
  clear hw
  by_cases h4 : verOk f
  case neg =>
    rw [decide_eq_false h4]
    go_wp2
    go_ret
    exact ⟨by rw [HF.out (by omega)]; rfl, B⟩
  rw [decide_eq_true h4]
  go_wp2_with fail
  refine (implIsVersion t _).mono ?_
  rintro e w1 ⟨rfl, hw⟩
  rw [hw]
  clear hw
  by_cases h5 : verOk t
  case neg =>
    rw [decide_eq_false h5]
    go_wp2
    go_ret
    exact ⟨by rw [HF.out (by omega)]; rfl, B⟩
  rw [decide_eq_true h5]
  by_cases h6 : f ≤ t
  · have HRT : Hid (R = true) := HT.out ⟨h2, h1, H3.out, h4, h5, h6⟩
    go_wp2
    go_ret
    exact ⟨by rw [HRT.out]; rfl, B⟩
  · have HRT : Hid (R = false) := HF.out (by omega)
    have g6 : decide (f ≤ t) = false := decide_eq_false h6
    go_wp2
    go_ret
    exact ⟨by rw [HRT.out]; rfl, B⟩
/-- The first that is not zero. -/
def orL (xs : List Int) : Int := (xs.find? (fun x => x != 0)).getD 0
theorem orL_at : ∀ (xs : List Int) (i : Nat), i < xs.length → xs.getD i 0 ≠ 0 → (∀ j, j < i → xs.getD j 0 = 0) → orL xs = xs.getD i 0
  | [], i, h, _, _ => by simp at h
  | x :: t, 0, _, h, _ => by
    have : (x != 0) = true := by simpa using h
    simp [orL, List.find?, this]
  | x :: t, i + 1, h, hx, hj => by
    have h0 : x = 0 := by simpa using hj 0 (by omega)
    have := orL_at t i (by simpa using h) (by simpa using hx) (fun j h => by simpa using hj (j + 1) (by omega))
    subst h0
    simpa [orL, List.find?] using this
theorem orL_no (xs : List Int) (h : ∀ j, j < xs.length → xs.getD j 0 = 0) : orL xs = 0 := by
  have : xs.find? (fun x => x != 0) = none := by
    rw [List.find?_eq_none]
    intro x hx
    obtain ⟨i, hi, rfl⟩ := List.getElem_of_mem hx
    have := h i hi
    simp [hi] at this
    simp [this]
  simp [orL, this]
theorem libOr (a : Option Addr) (n c : Nat) (xs : List Int) (w : World) (h : Is w a n c xs) (hn : n ≤ 1000) : Calls Tryd.prog 69 #[.slice a n c] w fun e w' => e = .returned (.int .i64 (orL xs)) ∧ w' = w := by
  have hl := h.2.1
  obtain ⟨R, hR⟩ : ∃ R, R = orL xs := ⟨_, rfl⟩
  rw [← hR]
  have HR : Hid _ := hR
  clear hR
  go_enter Tryd.func69, Tryd.ntmps69
  go_wp2
  go_loop [8] (fun i => ∃ k : Nat, k ≤ n ∧ i = .int .i64 k ∧ Hid (∀ j, j < k → xs.getD j 0 = 0)) (fun i => n - (intOf i).toNat)
  case atStart => exact ⟨0, by omega, rfl, fun j hj => by omega⟩
  case round =>
    obtain ⟨k, hk, rfl, HN⟩ := hrel
    by_cases hlt : k < n
    · obtain ⟨b, o, rfl, hb, hcell⟩ : ∃ b o, a = some ⟨b, o, none⟩ ∧ b < w.heap.size ∧ ∀ i, i < n → w.cell? ⟨b, o + i, none⟩ = some (.int .i64 (xs.getD i 0)) := by
        rcases h.2.2.2.2 with h | h
        · omega
        · exact h
      have hc := hcell k hlt
      obtain ⟨x, hx⟩ : ∃ x, x = xs.getD k 0 := ⟨_, rfl⟩
      rw [← hx] at hc
      have HX : Hid _ := hx
      clear hx hcell
      by_cases hz : x = 0
      · have g : (x != 0) = false := by simpa using hz
        have HZ : Hid _ := hz
        clear hz
        go_wp2
        go_round
        case rel =>
          refine ⟨k + 1, by omega, by go_num, fun j hj => ?_⟩
          by_cases e : j = k
          · subst e; rw [← HX.out]; exact HZ.out
          · exact HN.out j (by omega)
        case measure => simp [intOf]; omega
      · have g : (x != 0) = true := by simpa using hz
        have HRX : Hid (R = x) := by
          unfold Hid
          rw [HR.out, HX.out]
          exact orL_at xs k (by omega) (by rw [← HX.out]; exact hz) HN.out
        clear hz
        go_wp2
        go_ret
        exact ⟨by rw [HRX.out]; rfl, rfl⟩
    · have hkn : k = n := by omega
      subst hkn
      have HRX : Hid (R = 0) := by
        unfold Hid
        rw [HR.out]
        exact orL_no xs (fun j hj => HN.out j (by omega))
      go_wp2
      go_ret
      exact ⟨by rw [HRX.out]; rfl, rfl⟩
end Go.Proofs.YtgfjbaigmkdbcaaDoor
namespace Go.Proofs.YtgfjbaigmkdbcaaDoor
open Go.RowKit
set_option maxRecDepth 100000
set_option maxHeartbeats 4000000

/-- A slice literal. -/
abbrev ksl (d : Nat) (t : TypeId) (cs : List Value) (m : Nat) : Kd := (some d, (fun l _ => .slice (some ⟨l, 0, none⟩) m m), fun l h w _ => Arr w l t cs ∧ l < h)
theorem ksl_keeps (d : Nat) (t : TypeId) (cs : List Value) (m : Nat) : Kd.keeps (ksl d t cs m) := fun _ _ _ _ _ h _ b => ⟨h.1.kept b, h.2⟩
theorem tsl {P : Program} {ev : Operand → Value} {o : Oper} {d m : Nat} {w : World} {X : Prop} {t : TypeId} {cs : List Value} (h : (execOp ev o).run P w = .ok (.value (.slice (some ⟨w.heap.size, 0, none⟩) m m)) (w.alloc (.cells cs.toArray t))) : Dty X (TOb P ev o (ksl d t cs m) w) := ⟨fun _ => by
  refine ⟨?_⟩
  unfold TObR
  rw [h]
  exact ⟨undef, rfl, (Below.refl _ _).alloc (Nat.le_refl _) _, Arr.new w cs t, by simp⟩⟩
def ndC (o f t k o' f' t' k' : Int) : Int := orL [cmpI o o', cmpI k k', cmpI f f', cmpI t t']
theorem ndC_neg (o f t k o' f' t' k' : Int) : ndC o f t k o' f' t' k' < 0 ↔ needLt o f t k o' f' t' k' := by
  unfold ndC orL
  have h1 := cmpI_zero o o'
  have h2 := cmpI_zero k k'
  have h3 := cmpI_zero f f'
  have h4 := cmpI_zero t t'
  have g1 := cmpI_neg o o'
  have g2 := cmpI_neg k k'
  have g3 := cmpI_neg f f'
  have g4 := cmpI_neg t t'
  generalize cmpI o o' = a at *
  generalize cmpI k k' = b at *
  generalize cmpI f f' = c at *
  generalize cmpI t t' = d at *
  by_cases ha : a = 0
  · by_cases hb : b = 0
    · by_cases hc : c = 0
      · by_cases hd : d = 0
        · simp [List.find?, ha, hb, hc, hd]; first | omega | (unfold needLt; omega)
        · have e : (d != 0) = true := by simpa using hd
          simp [List.find?, ha, hb, hc, e]; first | omega | (unfold needLt; omega)
      · have e : (c != 0) = true := by simpa using hc
        simp [List.find?, ha, hb, e]; first | omega | (unfold needLt; omega)
    · have e : (b != 0) = true := by simpa using hb
      simp [List.find?, ha, e]; first | omega | (unfold needLt; omega)
  · have e : (a != 0) = true := by simpa using ha
    simp [List.find?, e]; first | omega | (unfold needLt; omega)
theorem implCompareNeed (o f t k o' f' t' k' : Int) (w : World) :
    Calls Tryd.prog 60 #[.agg #[.int .i64 o, .int .i64 f, .int .i64 t, .int .i64 k], .agg #[.int .i64 o', .int .i64 f', .int .i64 t', .int .i64 k']] w fun e w' => e = .returned (.int .i64 (ndC o f t k o' f' t' k')) ∧ Below w.heap.size w w' := by
  obtain ⟨V, hV⟩ : ∃ V, V = (w.alloc (.cells #[.int .i64 o, .int .i64 f, .int .i64 t, .int .i64 k] 65)).alloc (.cells #[.int .i64 o', .int .i64 f', .int .i64 t', .int .i64 k'] 65) := ⟨_, rfl⟩
  have B : Below w.heap.size w V := by rw [hV]; exact ((Below.refl _ _).alloc (Nat.le_refl _) _).alloc (by simp) _
  have A0 : Arr V w.heap.size 65 [.int .i64 o, .int .i64 f, .int .i64 t, .int .i64 k] := by rw [hV]; exact (Arr.new _ _ _).alloc _
  have A1 : Arr V (w.heap.size + 1) 65 [.int .i64 o', .int .i64 f', .int .i64 t', .int .i64 k'] := by
    rw [hV]
    have := Arr.new (w.alloc (.cells #[.int .i64 o, .int .i64 f, .int .i64 t, .int .i64 k] 65)) [.int .i64 o', .int .i64 f', .int .i64 t', .int .i64 k'] 65
    simpa using this
  have HB : Hid _ := B
  have I1 : ∀ a b, -9223372036854775808 ≤ cmpI a b ∧ cmpI a b ≤ 9223372036854775807 := fun a b => by have := cmpI_int a b; omega
  clear B
  go_enter Tryd.func60, Tryd.ntmps60
  go_wp2
  rw [← hV]
  clear hV
  obtain ⟨X, hX⟩ : ∃ X, X = w.heap.size := ⟨_, rfl⟩
  rw [← hX] at A0 A1 ⊢
  clear hX
  have c0 := A0.cell 0
  have c1 := A0.cell 1
  have c2 := A0.cell 2
  have c3 := A0.cell 3
  have d0 := A1.cell 0
  have d1 := A1.cell 1
  have d2 := A1.cell 2
  have d3 := A1.cell 3
  simp at c0 c1 c2 c3 d0 d1 d2 d3
  have l0 := A0.lt
  have l1 := A1.lt
  try simp only [Act.put]
  refine tame [kc 5 (.pointer (some ⟨X, 0, none⟩)), kc 6 (.int .i64 o), kc 7 (.pointer (some ⟨X + 1, 0, none⟩)), kc 8 (.int .i64 o'), kc 9 (.int .i64 (cmpI o o')), kc 10 (.pointer (some ⟨X, 3, none⟩)), kc 11 (.int .i64 k), kc 12 (.pointer (some ⟨X + 1, 3, none⟩)), kc 13 (.int .i64 k'), kc 14 (.int .i64 (cmpI k k')), kc 15 (.pointer (some ⟨X, 1, none⟩)), kc 16 (.int .i64 f), kc 17 (.pointer (some ⟨X + 1, 1, none⟩)), kc 18 (.int .i64 f'), kc 19 (.int .i64 (cmpI f f')), kc 20 (.pointer (some ⟨X, 2, none⟩)), kc 21 (.int .i64 t), kc 22 (.pointer (some ⟨X + 1, 2, none⟩)), kc 23 (.int .i64 t'), kc 24 (.int .i64 (cmpI t t')), ksl 25 3 [.int .i64 (cmpI o o'), .int .i64 (cmpI k k'), .int .i64 (cmpI f f'), .int .i64 (cmpI t t')] 4] 21 (by kernel_rfl) (by kernel_rfl) (by kernel_rfl) (by repeat' first | exact trivial | apply kc_keeps | apply ksl_keeps | constructor) 2 (by kernel_rfl) (fun vv ll hh yW bW => ?_) (fun vv ll hh yW bW F ivh aph => ?_)
  · have x0 := (bW.cell (p := ⟨X, _, none⟩) l0).trans c0
    have x1 := (bW.cell (p := ⟨X, _, none⟩) l0).trans c1
    have x2 := (bW.cell (p := ⟨X, _, none⟩) l0).trans c2
    have x3 := (bW.cell (p := ⟨X, _, none⟩) l0).trans c3
    have y0 := (bW.cell (p := ⟨X + 1, _, none⟩) l1).trans d0
    have y1 := (bW.cell (p := ⟨X + 1, _, none⟩) l1).trans d1
    have y2 := (bW.cell (p := ⟨X + 1, _, none⟩) l1).trans d2
    have y3 := (bW.cell (p := ⟨X + 1, _, none⟩) l1).trans d3
    refine ⟨tp (by kernel_rfl), tp ?_, tp (by kernel_rfl), tp ?_, tc ((libCompare o o' _).mono (by rintro e w' ⟨rfl, h⟩; rw [h]; exact ⟨rfl, Below.refl _ _⟩)) (by kernel_rfl), tp (by kernel_rfl), tp ?_, tp (by kernel_rfl), tp ?_, tc ((libCompare k k' _).mono (by rintro e w' ⟨rfl, h⟩; rw [h]; exact ⟨rfl, Below.refl _ _⟩)) (by kernel_rfl), tp (by kernel_rfl), tp ?_, tp (by kernel_rfl), tp ?_, tc ((libCompare f f' _).mono (by rintro e w' ⟨rfl, h⟩; rw [h]; exact ⟨rfl, Below.refl _ _⟩)) (by kernel_rfl), tp (by kernel_rfl), tp ?_, tp (by kernel_rfl), tp ?_, tc ((libCompare t t' _).mono (by rintro e w' ⟨rfl, h⟩; rw [h]; exact ⟨rfl, Below.refl _ _⟩)) (by kernel_rfl), tsl ?_, trivial⟩
    all_goals
      simp only [fillK, putT, List.setIfInBounds_toArray, List.set_cons_zero, List.set_cons_succ]
      unfold execOp
      go_simp
      try rfl
  have FS : Arr yW (ll 20) 3 [.int .i64 (cmpI o o'), .int .i64 (cmpI k k'), .int .i64 (cmpI f f'), .int .i64 (cmpI t t')] ∧ ll 20 < hh 20 := F.2.2.2.2.2.2.2.2.2.2.2.2.2.2.2.2.2.2.2.2.1
  clear F ivh aph c0 c1 c2 c3 d0 d1 d2 d3 A0 A1 l0 l1
  obtain ⟨y, hy⟩ : ∃ z, z = yW := ⟨_, rfl⟩
  rw [← hy] at bW FS ⊢
  clear hy
  obtain ⟨g, hg⟩ : ∃ g, g = ll 20 := ⟨_, rfl⟩
  rw [← hg] at FS
  have hI : Is y (some ⟨g, 0, none⟩) 4 4 [cmpI o o', cmpI k k', cmpI f f', cmpI t t'] := ⟨(fun h => by cases h), rfl, Nat.le_refl _, (by intro x hx; simp at hx; rcases hx with rfl | rfl | rfl | rfl <;> exact I1 _ _), .inr ⟨g, 0, rfl, FS.1.lt, fun j hj => by
    have : j = 0 ∨ j = 1 ∨ j = 2 ∨ j = 3 := by omega
    rcases this with rfl | rfl | rfl | rfl
    · exact FS.1.cell 0
    · exact FS.1.cell 1
    · exact FS.1.cell 2
    · exact FS.1.cell 3⟩⟩
  refine st_call (i := 21) (o := { dst := some 26, op := Op.call { callee := Callee.value (Operand.func 69), args := #[Operand.tmp 25], argTypes := #[61] }, type := 3, pos := "l08_bundle.go:316", after := #[{ on := 20, ground := Ground.data }, { on := 19, ground := Ground.chain }], guard := none }) (by kernel_rfl) rfl rfl (f := 69) (args := #[.slice (some ⟨g, 0, none⟩) 4 4]) ?_ ?_
  · rw [hg]
    kernel_rfl
  refine Calls.mono (libOr _ _ _ _ _ hI (by omega)) ?_
  rintro e w2 ⟨rfl, hw⟩
  refine ⟨_, rfl, ?_⟩
  rw [hw]
  clear hw hI FS hg
  have HZ : Hid (orL [cmpI o o', cmpI k k', cmpI f f', cmpI t t'] = ndC o f t k o' f' t' k') := rfl
  obtain ⟨z, hz⟩ : ∃ z, z = orL [cmpI o o', cmpI k k', cmpI f f', cmpI t t'] := ⟨_, rfl⟩
  rw [← hz] at HZ ⊢
  clear hz
  refine st_val (i := 22) (o := { dst := some 4, op := Op.assign (Operand.tmp 26), type := 3, pos := "l08_bundle.go:316", after := #[{ on := 21, ground := Ground.data }, { on := 21, ground := Ground.chain }, { on := 0, ground := Ground.phase }, { on := 1, ground := Ground.phase }, { on := 2, ground := Ground.phase }, { on := 3, ground := Ground.phase }, { on := 4, ground := Ground.phase }, { on := 5, ground := Ground.phase }, { on := 6, ground := Ground.phase }, { on := 7, ground := Ground.phase }, { on := 8, ground := Ground.phase }, { on := 9, ground := Ground.phase }, { on := 10, ground := Ground.phase }, { on := 11, ground := Ground.phase }, { on := 12, ground := Ground.phase }, { on := 13, ground := Ground.phase }, { on := 14, ground := Ground.phase }, { on := 15, ground := Ground.phase }, { on := 16, ground := Ground.phase }, { on := 17, ground := Ground.phase }, { on := 18, ground := Ground.phase }, { on := 19, ground := Ground.phase }, { on := 20, ground := Ground.phase }, { on := 21, ground := Ground.phase }], guard := none }) (by kernel_rfl) rfl rfl (v := .int .i64 z) (w' := y) (by kernel_rfl) ?_
  refine wpAny_done (by kernel_rfl) ?_ _
  try simp only [Act.put]
  simp only [fillK, putT, List.setIfInBounds_toArray, List.set_cons_zero, List.set_cons_succ]
  go_wp2
  go_ret
  exact ⟨by rw [← HZ.out]; rfl, HB.out.trans (bW.mono HB.out.size)⟩
end Go.Proofs.YtgfjbaigmkdbcaaDoor
namespace Go.Proofs.YtgfjbaigmkdbcaaDoor
open Go.RowKit

/-- Nothing old has turned but two blocks. -/
structure Gr2 (w w' : World) (r1 r2 : Option Nat) : Prop where
  os : w'.os = w.os
  tape : w'.tape = w.tape
  output : w'.output = w.output
  size : w.heap.size ≤ w'.heap.size
  block : ∀ i, i < w.heap.size → some i ≠ r1 → some i ≠ r2 → w'.heap[i]? = w.heap[i]?

theorem Gr2.below {w W W' : World} {r1 r2 : Option Nat} (h : Gr2 W W' r1 r2) (hb : Below w.heap.size w W) (h1 : ∀ k, r1 = some k → w.heap.size ≤ k) (h2 : ∀ k, r2 = some k → w.heap.size ≤ k) : Below w.heap.size w W' :=
  ⟨h.os.trans hb.os, h.tape.trans hb.tape, h.output.trans hb.output, Nat.le_trans hb.size h.size, fun i hi => (h.block i (Nat.lt_of_lt_of_le hi hb.size) (fun e => by have := h1 i e.symm; omega) (fun e => by have := h2 i e.symm; omega)).trans (hb.block i hi)⟩
theorem Gr2.own {W W' : World} {u1 u2 v : Value} {B e s n : Nat} {l : List Value} (h : Gr2 W W' u1.ownBlock u2.ownBlock) (ho : W.ownsRow B e s v n l) (a1 : Apart u1 v) (a2 : Apart u2 v) : W'.ownsRow B e s v n l := by
  refine ⟨ho.1, ?_⟩
  rcases ho.2 with hn | ⟨g, cap, cur, rfl, hg, hgg, rest⟩
  · exact .inl hn
  · refine .inr ⟨g, cap, cur, rfl, hg, ?_, rest⟩
    rw [h.block g (Array.getElem?_eq_some_iff.1 hgg).1 (fun e => a1 g e.symm rfl) (fun e => a2 g e.symm rfl)]
    exact hgg
theorem Gr2.arr {W W' : World} {r1 r2 : Option Nat} {g : Nat} {t : TypeId} {cs : List Value} (h : Gr2 W W' r1 r2) (ha : Arr W g t cs) (h1 : r1 ≠ some g) (h2 : r2 ≠ some g) : Arr W' g t cs := by
  unfold Arr
  rw [h.block g ha.lt (Ne.symm h1) (Ne.symm h2)]
  exact ha

theorem Gr2.cellsOf {W W' : World} {u1 u2 : Value} {a b g : Nat} {t : TypeId} {cs : List Value} (hg : Gr2 W W' u1.ownBlock u2.ownBlock) (h : Arr W g t cs) (i1 : In u1 a b) (i2 : In u2 a b) (hl : g < a ∨ b ≤ g) : Arr W' g t cs := hg.arr h (i1.ne hl) (i2.ne hl)
theorem grown_arr {W W' : World} {u : Value} {a b g : Nat} {t : TypeId} {cs : List Value} (hg : W.grownBy W' u.ownBlock) (h : Arr W g t cs) (i1 : In u a b) (hl : g < a ∨ b ≤ g) : Arr W' g t cs := by
  unfold Arr
  rw [hg.block g h.lt (fun e => i1.ne hl e.symm)]
  exact h
end Go.Proofs.YtgfjbaigmkdbcaaDoor
namespace Go.Proofs.YtgfjbaigmkdbcaaDoor
set_option maxRecDepth 100000
open Go.RowKit

/-- Nothing old has turned but what lies in an interval of blocks. -/
structure Chg (W W' : World) (a b : Nat) : Prop where
  os : W'.os = W.os
  tape : W'.tape = W.tape
  output : W'.output = W.output
  size : W.heap.size ≤ W'.heap.size
  block : ∀ i, i < W.heap.size → (i < a ∨ b ≤ i) → W'.heap[i]? = W.heap[i]?

theorem Chg.of_below {W W' : World} (h : Below W.heap.size W W') (a : Nat) : Chg W W' a a := ⟨h.os, h.tape, h.output, h.size, fun i hi _ => h.block i hi⟩
theorem Chg.of_gr2 {W W' : World} {u v : Value} {a b : Nat} (h : Gr2 W W' u.ownBlock v.ownBlock) (i1 : In u a b) (i2 : In v a b) : Chg W W' a b :=
  ⟨h.os, h.tape, h.output, h.size, fun i hi hj => h.block i hi (fun e => by have := i1 i e.symm; omega) (fun e => by have := i2 i e.symm; omega)⟩
theorem Chg.of_grown {W W' : World} {u : Value} {a b : Nat} (h : W.grownBy W' u.ownBlock) (i1 : In u a b) : Chg W W' a b :=
  ⟨h.os, h.tape, h.output, h.size, fun i hi hj => h.block i hi (fun e => by have := i1 i e.symm; omega)⟩
theorem Chg.alloc (W : World) (o : Obj) (a : Nat) : Chg W (W.alloc o) a a := .of_below ((Below.refl _ _).alloc (Nat.le_refl _) _) a
theorem Chg.bel {w W W' : World} {a b : Nat} (h : Chg W W' a b) (hb : Below w.heap.size w W) (hl : b ≤ a ∨ w.heap.size ≤ a) : Below w.heap.size w W' :=
  ⟨h.os.trans hb.os, h.tape.trans hb.tape, h.output.trans hb.output, Nat.le_trans hb.size h.size, fun i hi => (h.block i (Nat.lt_of_lt_of_le hi hb.size) (by omega)).trans (hb.block i hi)⟩
theorem Arr.chg {W W' : World} {a b g : Nat} {t : TypeId} {cs : List Value} (h : Arr W g t cs) (hc : Chg W W' a b) (hl : g < a ∨ b ≤ g) : Arr W' g t cs := by
  unfold Arr
  rw [hc.block g h.lt hl]
  exact h
theorem own_chg {W W' : World} {lo hi a b e s n : Nat} {v : Value} {l : List Value} (h : W.ownsRow lo e s v n l) (i : In v lo hi) (hc : Chg W W' a b) (hl : hi ≤ a ∨ b ≤ lo) : W'.ownsRow lo e s v n l := by
  refine ⟨h.1, ?_⟩
  rcases h.2 with hn | ⟨g, cap, cur, rfl, hg, hgg, rest⟩
  · exact .inl hn
  · refine .inr ⟨g, cap, cur, rfl, hg, ?_, rest⟩
    have := i g rfl
    rw [hc.block g (Array.getElem?_eq_some_iff.1 hgg).1 (by omega)]
    exact hgg

/-- A row within [lo, hi). -/
structure Ro (W : World) (lo hi e : Nat) (v : Value) (n : Nat) (l : List Value) : Prop where
  o : W.ownsRow lo e 1 v n l
  i : In v lo hi
  z : hi ≤ W.heap.size
section
variable {W W' : World} {lo hi e n : Nat} {v : Value} {l : List Value}
theorem Ro.new (o : W.ownsRow lo e 1 v n l) : Ro W lo W.heap.size e v n l := ⟨o, In.of o, Nat.le_refl _⟩
theorem Ro.chg (h : Ro W lo hi e v n l) {a b : Nat} (hc : Chg W W' a b) (hl : hi ≤ a ∨ b ≤ lo ∨ b ≤ a) : Ro W' lo hi e v n l := by
  by_cases hab : b ≤ a
  · have hc' : Chg W W' hi hi := ⟨hc.os, hc.tape, hc.output, hc.size, fun i hi _ => hc.block i hi (by omega)⟩
    exact ⟨own_chg h.o h.i hc' (by omega), h.i, Nat.le_trans h.z hc.size⟩
  · exact ⟨own_chg h.o h.i hc (by omega), h.i, Nat.le_trans h.z hc.size⟩
theorem Ro.marked (h : Ro W lo hi e v n l) {l' : List Value} (hg : W.grownBy W' v.ownBlock) (o : W'.ownsRow lo e 1 v n l') : Ro W' lo hi e v n l' := ⟨o, h.i, Nat.le_trans h.z hg.size⟩
theorem Ro.gr (h : Ro W lo hi e v n l) (hg : W.grownBy W' v.ownBlock) : Chg W W' lo hi := .of_grown hg h.i
end
end Go.Proofs.YtgfjbaigmkdbcaaDoor
