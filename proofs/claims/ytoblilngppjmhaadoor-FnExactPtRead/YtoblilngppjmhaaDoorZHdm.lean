/-
  What is proved here: lengths and bounds of a root; plain mathematics; whether bytes are those of a point, and which, as plain functions of the bytes; no program is spoken of.
-/
import Derived.Test.YtoblilngppjmhaaDoorZHc
import Derived.Test.YtoblilngppjmhaaDoorZHrd
import Derived.Test.YtoblilngppjmhaaDoorZJhi
namespace Go.Proofs.YtoblilngppjmhaaDoor
open Go.RowKit
set_option maxRecDepth 100000

theorem rt3_ok (a : List Int) : (rt3 a).length = 16 ∧ Lm (rt3 a) := by
  unfold rt3
  split
  · rw [tk16_lim PL_len (rt2_len a)]; exact ⟨lim_len _ _, lim_lm _ _⟩
  · exact ⟨rt2_len a, rt2_lm a⟩
theorem rtR_len (a : List Int) : (rtR a).length = 16 := by
  unfold rtR
  split
  · exact (rt3_ok a).1
  · rfl
end Go.Proofs.YtoblilngppjmhaaDoor
namespace Go.Proofs.YtoblilngppjmhaaDoor
open Go.RowKit
set_option maxRecDepth 100000
set_option maxHeartbeats 4000000

/-- The bytes without their highest bit; the number that they make; the bit. -/
def lowB (bs : List Int) : List Int := bs.set 31 (bs.getD 31 0 % 128)
def yR (bs : List Int) : List Int := rdL (lowB bs)
def odd6 (bs : List Int) : Int := bs.getD 31 0 / 128
/-- What x times x is, beside y. -/
def ovr (y : List Int) : List Int := red (val (red (val y * val y)) - val (lim 16 1))
def und (y : List Int) : List Int := red (val (red (val DL * val (red (val y * val y)))) + val (lim 16 1))
def sqx (y : List Int) : List Int := red (val (ovr y) * val (invF (und y)))
/-- x, odd or even, and whether there is one. -/
def xR (y : List Int) (o : Int) : List Int := if o = 1 then tk16 PL (rt3 (sqx y)) else rt3 (sqx y)
def okR (y : List Int) (o : Int) : Bool := rtOk (sqx y) && !(decide (rt3 (sqx y) = Z16) && decide (o = 1))
def rdOk6 (bs : List Int) : Bool := decide (bs.length = 32) && decide (val (yR bs) < P25519) && okR (yR bs) (odd6 bs)
def rdX6 (bs : List Int) : List Int := if rdOk6 bs = true then xR (yR bs) (odd6 bs) else []
def rdY6 (bs : List Int) : List Int := if rdOk6 bs = true then yR bs else []
theorem lowB_byte {bs : List Int} (h : ∀ x ∈ bs, 0 ≤ x ∧ x < 256) : ∀ x ∈ lowB bs, 0 ≤ x ∧ x < 256 := by
  intro x hx
  rcases List.mem_or_eq_of_mem_set hx with h1 | rfl
  · exact h x h1
  · have := gD_u8 h 31
    omega
theorem yR_len (bs : List Int) : (yR bs).length = 16 := rdL_len _
theorem yR_lm {bs : List Int} (h : ∀ x ∈ bs, 0 ≤ x ∧ x < 256) : Lm (yR bs) := rdL_lm (lowB_byte h)
theorem yR_ok {bs : List Int} (h : ∀ x ∈ bs, 0 ≤ x ∧ x < 256) (hp : val (yR bs) < P25519) : feOk (yR bs) = true := (feOk_iff _).2 ⟨yR_len bs, yR_lm h, hp⟩
theorem odd6_two {bs : List Int} (h : ∀ x ∈ bs, 0 ≤ x ∧ x < 256) : odd6 bs = 0 ∨ odd6 bs = 1 := by
  have := gD_u8 h 31
  unfold odd6
  omega
theorem low_val {l : List Int} (h : l.length = 16) : val l % 2 = l.getD 0 0 % 2 := by
  match l, h with
  | x :: t, _ =>
    show (x + 65536 * val t) % 2 = x % 2
    omega
theorem PL_odd : P25519 % 2 = 1 := by decide
theorem rt2_ok6 (a : List Int) : feOk (rt2 a) = true := by
  rw [feOk_iff]
  refine ⟨rt2_len a, rt2_lm a, ?_⟩
  unfold rt2
  split
  · unfold rt1; rw [val_red]; exact (red_lt _).2
  · rw [val_red]; exact (red_lt _).2
/-- The root is a number of the field, and even. -/
theorem rt3_fe (a : List Int) : feOk (rt3 a) = true ∧ val (rt3 a) % 2 = 0 := by
  obtain ⟨h1, h2, h3⟩ := (feOk_iff _).1 (rt2_ok6 a)
  have h0 := val_nonneg (fun x hx => (h2 x hx).1)
  have hl := low_val h1
  have hp := PL_odd
  unfold rt3
  split
  · rename_i ho
    have hv : val (tk16 PL (rt2 a)) = P25519 - val (rt2 a) := by
      rw [tk16_lim PL_len h1, PL_val, val_lim, p256]
      exact Int.emod_eq_of_lt (by omega) (by unfold P25519; omega)
    refine ⟨(feOk_iff _).2 ⟨by rw [tk16_lim PL_len h1]; exact lim_len _ _, by rw [tk16_lim PL_len h1]; exact lim_lm _ _, by rw [hv]; omega⟩, by rw [hv]; omega⟩
  · rename_i ho
    exact ⟨rt2_ok6 a, by omega⟩
theorem z16_of {l : List Int} (h : feOk l = true) : l = Z16 ↔ val l = 0 := by
  constructor
  · rintro rfl; decide
  · intro hv
    obtain ⟨h1, h2, _⟩ := (feOk_iff l).1 h
    have e := lim_val l h2
    rw [h1, hv] at e
    rw [← e]; decide
theorem xR_ok {y : List Int} {o : Int} (h : okR y o = true) : feOk (xR y o) = true ∧ (xR y o = if o = 1 then red (val (lim 16 0) - val (rt3 (sqx y))) else rt3 (sqx y)) ∧ (o = 0 ∨ o = 1 → val (xR y o) % 2 = o) := by
  obtain ⟨h1, h2⟩ := rt3_fe (sqx y)
  obtain ⟨l1, l2, l3⟩ := (feOk_iff _).1 h1
  have h0 := val_nonneg (fun x hx => (l2 x hx).1)
  have hp := PL_odd
  unfold xR
  by_cases ho : o = 1
  · rw [if_pos ho, if_pos ho]
    have hz : val (rt3 (sqx y)) ≠ 0 := by
      intro e
      have := (z16_of h1).2 e
      unfold okR at h
      simp [this, ho] at h
    have hv : val (tk16 PL (rt3 (sqx y))) = P25519 - val (rt3 (sqx y)) := by
      rw [tk16_lim PL_len l1, PL_val, val_lim, p256]
      exact Int.emod_eq_of_lt (by omega) (by unfold P25519; omega)
    have hz0 : val (lim 16 0) = 0 := by decide
    refine ⟨(feOk_iff _).2 ⟨by rw [tk16_lim PL_len l1]; exact lim_len _ _, by rw [tk16_lim PL_len l1]; exact lim_lm _ _, by rw [hv]; omega⟩, ?_, fun _ => by rw [hv]; omega⟩
    rw [tk16_lim PL_len l1, PL_val]
    unfold red
    congr 1
    rw [hz0]
    have e : (0 - val (rt3 (sqx y))) % P25519 = (P25519 - val (rt3 (sqx y))) % P25519 := by
      have := Int.add_emod_right (0 - val (rt3 (sqx y))) P25519
      rw [← this]
      congr 1
      omega
    rw [e]
    exact (Int.emod_eq_of_lt (by omega) (by omega)).symm
  · rw [if_neg ho, if_neg ho]
    exact ⟨h1, rfl, fun h => by omega⟩
theorem fe_int {l : List Int} (h : feOk l = true) : ∀ x ∈ l, -9223372036854775808 ≤ x ∧ x ≤ 9223372036854775807 := fun x hx => by have := feOk_lm' h x hx; omega
theorem rdOk6_parts {bs : List Int} (h : rdOk6 bs = true) : bs.length = 32 ∧ val (yR bs) < P25519 ∧ okR (yR bs) (odd6 bs) = true := by
  unfold rdOk6 at h
  simp only [Bool.and_eq_true, decide_eq_true_eq] at h
  exact ⟨h.1.1, h.1.2, h.2⟩
theorem rdX6_le (bs : List Int) : (rdX6 bs).length ≤ 32 := by
  unfold rdX6
  split
  · rename_i h
    rw [feOk_len (xR_ok (rdOk6_parts h).2.2).1]; omega
  · simp
theorem rdX6_int (bs : List Int) : ∀ x ∈ rdX6 bs, -9223372036854775808 ≤ x ∧ x ≤ 9223372036854775807 := by
  unfold rdX6
  split
  · rename_i h
    exact fe_int (xR_ok (rdOk6_parts h).2.2).1
  · intro x hx; cases hx
theorem rdY6_int {bs : List Int} (hb : ∀ x ∈ bs, 0 ≤ x ∧ x < 256) : ∀ x ∈ rdY6 bs, -9223372036854775808 ≤ x ∧ x ≤ 9223372036854775807 := by
  unfold rdY6
  split
  · intro x hx
    have := yR_lm hb x hx
    omega
  · intro x hx; cases hx
theorem rdY6_le (bs : List Int) : (rdY6 bs).length ≤ 32 := by
  unfold rdY6
  split
  · rw [yR_len]; omega
  · simp
end Go.Proofs.YtoblilngppjmhaaDoor
