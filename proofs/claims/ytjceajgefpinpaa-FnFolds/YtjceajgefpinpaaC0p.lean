/-
  What is proved here: the bytes of a record, and the record of bytes, as plain data.
-/
import Derived.Test.YtjceajgefpinpaaC0a
import Derived.Test.YtjceajgefpinpaaC0o
namespace Go.Proofs.Ytjceajgefpinpaa
open Go.RowKit
set_option maxRecDepth 100000

/-- The four bytes of a record. -/
def rcH (k b n f : Int) : List Int := [(2 * k + b) % 256, n % 256, f % 256, (n / 256 + 16 * (f / 256)) % 256]
/-- The eight bytes of a record. -/
def rcB (k b n f : Int) : List Int := rcH k b n f ++ opp (rcH k b n f)
theorem rcH_len (k b n f : Int) : (rcH k b n f).length = 4 := rfl
theorem rcB_len (k b n f : Int) : (rcB k b n f).length = 8 := by simp [rcB, rcH, opp]
theorem rcH_byte (k b n f : Int) : ∀ x ∈ rcH k b n f, 0 ≤ x ∧ x < 256 := by
  intro x hx
  simp [rcH] at hx
  omega
theorem rcB_byte (k b n f : Int) : ∀ x ∈ rcB k b n f, 0 ≤ x ∧ x < 256 := by
  intro x hx
  rcases List.mem_append.1 hx with hx | hx
  · exact rcH_byte k b n f x hx
  · exact opp_byte _ x hx
/-- What four bytes tell. -/
def gK (xs : List Int) : Int := xs.getD 0 0 / 2
def gB (xs : List Int) : Int := xs.getD 0 0 % 2
def gN (xs : List Int) : Int := xs.getD 1 0 + 256 * (xs.getD 3 0 % 16)
def gF (xs : List Int) : Int := xs.getD 2 0 + 256 * (xs.getD 3 0 / 16)
/-- The last four bytes are the opposites of the first. -/
def gOpp (xs : List Int) : Prop := ∀ i, i < 4 → xs.getD (4 + i) 0 = bits .xor .u8 255 (xs.getD i 0)
/-- Eight bytes are a record. -/
def gOk (xs : List Int) : Prop := xs.length = 8 ∧ gOpp xs ∧ rcOk (gK xs) (gB xs) (gN xs) (gF xs)

theorem eight {xs : List Int} (h : xs.length = 8) : ∃ a b c d e f g i, xs = [a, b, c, d, e, f, g, i] := by
  match xs, h with
  | [a, b, c, d, e, f, g, i], _ => exact ⟨a, b, c, d, e, f, g, i, rfl⟩
theorem gOpp_iff {a b c d e f g i : Int} : gOpp [a, b, c, d, e, f, g, i] ↔ e = bits .xor .u8 255 a ∧ f = bits .xor .u8 255 b ∧ g = bits .xor .u8 255 c ∧ i = bits .xor .u8 255 d := by
  constructor
  · intro h
    exact ⟨h 0 (by omega), h 1 (by omega), h 2 (by omega), h 3 (by omega)⟩
  · rintro ⟨h0, h1, h2, h3⟩ j hj
    have : j = 0 ∨ j = 1 ∨ j = 2 ∨ j = 3 := by omega
    rcases this with rfl | rfl | rfl | rfl <;> assumption
/-- The record that bytes tell has just these bytes. -/
theorem gOk_iff {xs : List Int} (hb : ∀ x ∈ xs, 0 ≤ x ∧ x < 256) (hl : xs.length = 8) : gOk xs ↔ rcOk (gK xs) (gB xs) (gN xs) (gF xs) ∧ rcB (gK xs) (gB xs) (gN xs) (gF xs) = xs := by
  obtain ⟨a, b, c, d, e, f, g, i, rfl⟩ := eight hl
  have ha := hb a (by simp)
  have hbb := hb b (by simp)
  have hc := hb c (by simp)
  have hd := hb d (by simp)
  have h0 : (2 * (a / 2) + a % 2) % 256 = a := by omega
  have h1 : (b + 256 * (d % 16)) % 256 = b := by omega
  have h2 : (c + 256 * (d / 16)) % 256 = c := by omega
  have h3 : ((b + 256 * (d % 16)) / 256 + 16 * ((c + 256 * (d / 16)) / 256)) % 256 = d := by omega
  have e : rcB (gK [a, b, c, d, e, f, g, i]) (gB [a, b, c, d, e, f, g, i]) (gN [a, b, c, d, e, f, g, i]) (gF [a, b, c, d, e, f, g, i]) = [a, b, c, d, bits .xor .u8 255 a, bits .xor .u8 255 b, bits .xor .u8 255 c, bits .xor .u8 255 d] := by
    simp [rcB, rcH, opp, gK, gB, gN, gF, h0, h1, h2, h3]
  rw [e]
  unfold gOk
  rw [gOpp_iff]
  simp
  constructor
  · rintro ⟨⟨h0, h1, h2, h3⟩, h⟩
    exact ⟨h, h0.symm, h1.symm, h2.symm, h3.symm⟩
  · rintro ⟨h, h0, h1, h2, h3⟩
    exact ⟨⟨h0.symm, h1.symm, h2.symm, h3.symm⟩, h⟩
/-- A record comes back from its bytes. -/
theorem rc_back {k b n f : Int} (h : rcOk k b n f) : gK (rcB k b n f) = k ∧ gB (rcB k b n f) = b ∧ gN (rcB k b n f) = n ∧ gF (rcB k b n f) = f := by
  simp [rcB, rcH, gK, gB, gN, gF]
  omega
theorem rc_ok {k b n f : Int} (h : rcOk k b n f) : gOk (rcB k b n f) := by
  obtain ⟨h0, h1, h2, h3⟩ := rc_back h
  rw [gOk_iff (rcB_byte _ _ _ _) (rcB_len _ _ _ _), h0, h1, h2, h3]
  exact ⟨h, rfl⟩
end Go.Proofs.Ytjceajgefpinpaa
