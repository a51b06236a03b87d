/-
  What is proved here: plain mathematics of the field's laws (inverses, roots, bytes and back), and the program's functions at numbers of the field.
-/
import Derived.Test.YtpchdfdeomhakaaDoorZJl
import Derived.Test.YtpchdfdeomhakaaDoorZJm
import Derived.Test.YtpchdfdeomhakaaDoorZXa
import Derived.Test.YtpchdfdeomhakaaDoorZXb
import Derived.Test.YtpchdfdeomhakaaDoorZMo
import Derived.Test.YtpchdfdeomhakaaDoorZQ
namespace Go.Proofs.YtpchdfdeomhakaaDoor
open Go.RowKit
set_option maxRecDepth 100000

theorem inv_one {a : List Int} (h : invOk a = true) : feOk a = true ∧ feOk (invF a) = true ∧ invL a = invF a ∧ red (val a * val (invF a)) = red 1 := by
  unfold invOk at h
  simp only [Bool.and_eq_true, Bool.not_eq_true', decide_eq_false_iff_not] at h
  obtain ⟨h1, h2⟩ := h
  obtain ⟨al, am, av⟩ := (feOk_iff a).1 h1
  have hn := val_nonneg (fun x hx => (am x hx).1)
  have hz : val a ≠ 0 := fun e => h2 ((val_zero al am).2 e)
  refine ⟨h1, red_ok _, by unfold invL invOk; simp [h1, h2], ?_⟩
  unfold red
  congr 1
  have hi := inv_int (show 0 < val a by omega) av
  unfold invF
  rw [val_red, Int.mul_emod, Int.emod_emod, ← Int.mul_emod, hi]
  rfl
theorem inv_no {a : List Int} (h : invOk a = false) : invL a = [] := by unfold invL; rw [h]; rfl
theorem one_len : (red 1).length = 16 := red_len 1
theorem ofN_one : ofN 1 = red 1 := by decide
theorem ofN_two : ofN 2 = lim 16 2 := by decide
theorem two_inv : invOk (lim 16 2) = true := by decide

theorem rt3_sq {a : List Int} (h : rootOk a = true) : rootL a = rt3 a ∧ feOk (rt3 a) = true ∧ red (val (rt3 a) * val (rt3 a)) = a ∧ (rt3 a).getD 0 0 % 2 = 0 := by
  have hr : rootL a = rt3 a := by unfold rootL; rw [h]; rfl
  unfold rootOk at h
  simp only [Bool.and_eq_true] at h
  have hsq : red (val (rt2 a) * val (rt2 a)) = a := by
    have := h.2
    unfold rtOk at this
    have h2 := of_decide_eq_true this
    exact h2
  obtain ⟨l2, m2, v2⟩ := (feOk_iff _).1 (rt2_ok a)
  have n2 := val_nonneg (fun x hx => (m2 x hx).1)
  have b2 := gD_lm m2 0
  refine ⟨hr, ?_⟩
  unfold rt3
  by_cases hodd : (rt2 a).getD 0 0 % 2 = 1
  · rw [if_pos hodd]
    have hg := lim_get 16 (val (rt2 a)) 0 (by omega)
    have hl := lim_val (rt2 a) m2
    rw [l2] at hl
    rw [hl, Int.pow_zero, Int.ediv_one] at hg
    rw [tk16_lim PL_len l2, PL_val]
    have hpos : 0 < val (rt2 a) := by omega
    have hx0 : 0 ≤ P25519 - val (rt2 a) := by omega
    have hx1 : P25519 - val (rt2 a) < P25519 := by omega
    have hv : val (lim 16 (P25519 - val (rt2 a))) = P25519 - val (rt2 a) := val_pl hx0 (by unfold P25519 at hx1 ⊢; omega)
    refine ⟨(feOk_iff _).2 ⟨lim_len _ _, lim_lm _ _, by rw [hv]; exact hx1⟩, ?_, ?_⟩
    · rw [hv]
      refine Eq.trans ?_ hsq
      unfold red
      congr 1
      generalize val (rt2 a) = v
      have e : (P25519 - v) * (P25519 - v) = v * v + P25519 * (P25519 - v - v) := by
        rw [Int.sub_mul, Int.mul_sub, Int.mul_sub, Int.mul_sub, Int.mul_sub, Int.mul_comm v P25519]
        omega
      have hh : (v * v % P25519) = (v * v + P25519 * (P25519 - v - v)) % P25519 := (Int.add_mul_emod_self_left _ _ _).symm
      rw [e, ← hh]
    · rw [lim_get 16 _ 0 (by omega), Int.pow_zero, Int.ediv_one]
      unfold P25519
      omega
  · rw [if_neg hodd]
    exact ⟨rt2_ok a, hsq, by omega⟩
theorem root_no {a : List Int} (h : rootOk a = false) : rootL a = [] := by unfold rootL; rw [h]; rfl
theorem pow_emod (x : Int) (n : Nat) : (x % P25519) ^ n % P25519 = x ^ n % P25519 := by
  induction n with
  | zero => simp
  | succ n ih => rw [Int.pow_succ, Int.pow_succ, Int.mul_emod, ih, Int.emod_emod, ← Int.mul_emod]
/-- A square has a root. -/
theorem root_sq {b : Int} (h0 : 0 ≤ b) : rootOk (red (b * b)) = true := by
  unfold rootOk
  rw [red_ok]
  simp only [Bool.true_and]
  have hr : rt1 (red (b * b)) = red ((b * b) ^ eRt) := by
    unfold rt1 red
    rw [show val (lim 16 (b * b % P25519)) = b * b % P25519 from val_red (b * b), pow_emod]
  have hsq : ∀ x : Int, sqF (red x) = red (x * x) := by
    intro x; unfold sqF; rw [val_red, red, red, ← Int.mul_emod]
  have hmq : red (val (red ((b * b) ^ eRt)) * val QL) = red ((b * b) ^ eRt * qN) := by
    rw [val_red, QL_val, red, red, Int.mul_emod, Int.emod_emod, ← Int.mul_emod]
  unfold rtOk rt2
  rw [hr, hsq]
  by_cases h : red ((b * b) ^ eRt * (b * b) ^ eRt) = red (b * b)
  · rw [if_pos h, hsq, h]; simp
  · rw [if_neg h, hmq, hsq]
    rcases root_int h0 with h1 | h1
    · exact absurd (by unfold red; rw [h1]) h
    · have : red ((b * b) ^ eRt * qN * ((b * b) ^ eRt * qN)) = red (b * b) := by unfold red; rw [h1]
      rw [this]; simp

theorem btL_get : ∀ (l : List Int) (i : Nat), i < l.length → (btL l).getD (2 * i) 0 = l.getD i 0 % 256 ∧ (btL l).getD (2 * i + 1) 0 = l.getD i 0 / 256
  | x :: l, 0, _ => by simp [btL]
  | x :: l, i + 1, h => by
    have := btL_get l i (by simpa using h)
    have e : btL (x :: l) = x % 256 :: x / 256 :: btL l := by simp [btL]
    rw [e]
    have e1 : 2 * (i + 1) = (2 * i + 1) + 1 := by omega
    have e2 : 2 * (i + 1) + 1 = (2 * i + 1 + 1) + 1 := by omega
    rw [e1, List.getD_cons_succ, List.getD_cons_succ, List.getD_cons_succ, List.getD_cons_succ]
    exact this
theorem ext16 {a b : List Int} (ha : a.length = 16) (hb : b.length = 16) (h : ∀ i, i < 16 → a.getD i 0 = b.getD i 0) : a = b := by
  apply List.ext_getElem (by omega)
  intro i h1 h2
  have := h i (by omega)
  simpa [List.getD, h1, h2] using this
theorem rd_bt {l : List Int} (hl : l.length = 16) : rdL (btL l) = l := by
  apply ext16 (rdL_len _) hl
  intro i hi
  have := btL_get l i (by omega)
  rw [rdL_get _ _ hi, this.1, this.2]
  omega
theorem ext32 {a b : List Int} {n : Nat} (ha : a.length = n) (hb : b.length = n) (h : ∀ i, i < n → a.getD i 0 = b.getD i 0) : a = b := by
  apply List.ext_getElem (by omega)
  intro i h1 h2
  have := h i (by omega)
  simpa [List.getD, h1, h2] using this
theorem bt_rd {bs : List Int} (hl : bs.length = 32) (hb : ∀ x ∈ bs, 0 ≤ x ∧ x < 256) : btL (rdL bs) = bs := by
  apply ext32 (n := 32) (by rw [btL_len, rdL_len]) hl
  intro i hi
  have h1 := btL_get (rdL bs) (i / 2) (by rw [rdL_len]; omega)
  rw [rdL_get _ _ (by omega)] at h1
  have g1 := gD_u8 hb (2 * (i / 2))
  have g2 := gD_u8 hb (2 * (i / 2) + 1)
  by_cases hp : i % 2 = 0
  · have e : 2 * (i / 2) = i := by omega
    rw [e] at h1 g1
    rw [h1.1]
    rw [e] at g2
    omega
  · have e : 2 * (i / 2) + 1 = i := by omega
    rw [e] at h1 g2
    rw [h1.2]
    omega
theorem bt_ok {l : List Int} (h : feOk l = true) : btF l = btL l ∧ (btL l).length = 32 ∧ rdOk (btL l) = true ∧ rdF (btL l) = l := by
  obtain ⟨hl, hm, hv⟩ := (feOk_iff l).1 h
  have e : (btL l).length = 32 := by rw [btL_len, hl]
  have ho : rdOk (btL l) = true := by unfold rdOk; rw [rd_bt hl, e]; simp [hv]
  exact ⟨by unfold btF; rw [h]; rfl, e, ho, by unfold rdF; rw [ho, rd_bt hl]; rfl⟩
theorem bt_no {l : List Int} (h : feOk l = false) : btF l = [] := by unfold btF; rw [h]; rfl
theorem rd_ok {bs : List Int} (h : rdOk bs = true) (hb : ∀ x ∈ bs, 0 ≤ x ∧ x < 256) : feOk (rdF bs) = true ∧ btF (rdF bs) = bs ∧ (rdF bs).length = 16 := by
  have hf : rdF bs = rdL bs := by unfold rdF; rw [h]; rfl
  unfold rdOk at h
  simp only [Bool.and_eq_true, decide_eq_true_eq] at h
  have ho : feOk (rdL bs) = true := (feOk_iff _).2 ⟨rdL_len _, rdL_lm hb, h.2⟩
  rw [hf]
  exact ⟨ho, by rw [(bt_ok ho).1, bt_rd h.1 hb], rdL_len _⟩
theorem rd_no {bs : List Int} (h : rdOk bs = false) : rdF bs = [] := by unfold rdF; rw [h]; rfl

/-- An answer that is read. -/
def FeR (w' : World) (v : Value) (l : List Int) : Prop := ∃ a c, v = .agg #[.slice a l.length c] ∧ Is w' a l.length c l
theorem feR_of {ty : TypeId} {w w' : World} {v : Value} {l : List Int} (h : FeT ty w w' v l) (hi : ∀ x ∈ l, -9223372036854775808 ≤ x ∧ x ≤ 9223372036854775807) : FeR w' v l := by
  obtain ⟨a, c, rfl, ho⟩ := h
  exact ⟨a, c, rfl, is_of_own ho hi⟩
theorem fe2_ok {f : Int → Int → Int} {xs ys : List Int} (h1 : feOk xs = true) (h2 : feOk ys = true) : fe2 f xs ys = red (f (val xs) (val ys)) := by unfold fe2; rw [h1, h2]; rfl
theorem fe2_no {f : Int → Int → Int} {xs ys : List Int} (h : (feOk xs && feOk ys) = false) : fe2 f xs ys = [] := by unfold fe2; rw [h]; rfl
theorem okAdd {R : List Int} (a : Option Addr) (n c : Nat) (xs : List Int) (b : Option Addr) (m d : Nat) (ys : List Int) (w : World) (hx : Is w a n c xs) (hy : Is w b m d ys) (hV : Vr w 0 (I64 PL)) (h1 : feOk xs = true) (h2 : feOk ys = true) (hR : red (val xs + val ys) = R) :
    Calls Tryd.prog 16 #[.agg #[.slice a n c], .agg #[.slice b m d]] w fun e w' => ∃ a' c', e = .returned (.tuple #[.agg #[.slice a' 16 c'], .bool true]) ∧ Is w' a' 16 c' R ∧ Below w.heap.size w w' := by
  refine (implFeAdd a n c xs b m d ys w hx hy hV).mono ?_
  rintro e w1 ⟨v, rfl, hv, hb⟩
  obtain ⟨a', c', rfl, hi⟩ := feR_of hv (fe2_int _ _ _)
  rw [fe2_ok h1 h2, hR] at hi
  have hl : R.length = 16 := by rw [← hR]; exact red_len _
  rw [fe2_ok h1 h2, hR, h1, h2]
  rw [hl] at hi ⊢
  exact ⟨a', c', rfl, hi, hb⟩
theorem okSub {R : List Int} (a : Option Addr) (n c : Nat) (xs : List Int) (b : Option Addr) (m d : Nat) (ys : List Int) (w : World) (hx : Is w a n c xs) (hy : Is w b m d ys) (hV : Vr w 0 (I64 PL)) (h1 : feOk xs = true) (h2 : feOk ys = true) (hR : red (val xs - val ys) = R) :
    Calls Tryd.prog 20 #[.agg #[.slice a n c], .agg #[.slice b m d]] w fun e w' => ∃ a' c', e = .returned (.tuple #[.agg #[.slice a' 16 c'], .bool true]) ∧ Is w' a' 16 c' R ∧ Below w.heap.size w w' := by
  refine (implFeSub a n c xs b m d ys w hx hy hV).mono ?_
  rintro e w1 ⟨v, rfl, hv, hb⟩
  obtain ⟨a', c', rfl, hi⟩ := feR_of hv (fe2_int _ _ _)
  rw [fe2_ok h1 h2, hR] at hi
  have hl : R.length = 16 := by rw [← hR]; exact red_len _
  rw [fe2_ok h1 h2, hR, h1, h2]
  rw [hl] at hi ⊢
  exact ⟨a', c', rfl, hi, hb⟩
theorem okMul {R : List Int} (a : Option Addr) (n c : Nat) (xs : List Int) (b : Option Addr) (m d : Nat) (ys : List Int) (w : World) (hx : Is w a n c xs) (hy : Is w b m d ys) (hV : Vr w 0 (I64 PL)) (h1 : feOk xs = true) (h2 : feOk ys = true) (hR : red (val xs * val ys) = R) :
    Calls Tryd.prog 19 #[.agg #[.slice a n c], .agg #[.slice b m d]] w fun e w' => ∃ a' c', e = .returned (.tuple #[.agg #[.slice a' 16 c'], .bool true]) ∧ Is w' a' 16 c' R ∧ Below w.heap.size w w' := by
  refine (implFeMul a n c xs b m d ys w hx hy hV).mono ?_
  rintro e w1 ⟨v, rfl, hv, hb⟩
  obtain ⟨a', c', rfl, hi⟩ := feR_of hv (fe2_int _ _ _)
  rw [fe2_ok h1 h2, hR] at hi
  have hl : R.length = 16 := by rw [← hR]; exact red_len _
  rw [fe2_ok h1 h2, hR, h1, h2]
  rw [hl] at hi ⊢
  exact ⟨a', c', rfl, hi, hb⟩
theorem okOf {R : List Int} (n : Int) (w : World) (h0 : 0 ≤ n) (h1 : n < 9223372036854775808) (hR : ofN n = R) (hl : R.length = 16) (hi : ∀ x ∈ R, -9223372036854775808 ≤ x ∧ x ≤ 9223372036854775807) :
    Calls Tryd.prog 25 #[.int .i64 n] w fun e w' => ∃ a' c', e = .returned (.tuple #[.agg #[.slice a' 16 c'], .bool true]) ∧ Is w' a' 16 c' R ∧ Below w.heap.size w w' := by
  refine (implFeOf n w h1).mono ?_
  rintro e w1 ⟨v, rfl, hv, hb⟩
  rw [hR] at hv
  obtain ⟨a', c', rfl, hi⟩ := feR_of hv hi
  rw [hl] at hi
  exact ⟨a', c', by rw [hl, decide_eq_true h0], hi, hb⟩
end Go.Proofs.YtpchdfdeomhakaaDoor
