/-
  What is proved here: plain facts on what a clamped number is: its parts and its bytes; no program is spoken of, no condition.
-/
import Derived.Test.YtihoaakbkffejaaHrd
import Derived.Test.YtihoaakbkffejaaHbt
import Derived.Test.YtihoaakbkffejaaRbg
namespace Go.Proofs.Ytihoaakbkffejaa
open Go.RowKit
set_option maxRecDepth 100000

/-- The parts of a clamped number. -/
def clL (l : List Int) : List Int := (l.set 0 (l.getD 0 0 / 8 * 8)).set 15 (l.getD 15 0 % 16384 + 16384)
theorem clL_len {l : List Int} (h : l.length = 16) : (clL l).length = 16 := by simp [clL, h]
theorem clL_lm {l : List Int} (h : Lm l) : Lm (clL l) := by
  have h0 := gD_lm h 0
  have h15 := gD_lm h 15
  intro x hx
  rcases List.mem_or_eq_of_mem_set hx with hx | rfl
  · rcases List.mem_or_eq_of_mem_set hx with hx | rfl
    · exact h x hx
    · omega
  · omega
/-- Its bytes. -/
def clB (bs : List Int) : List Int := (bs.set 0 (bs.getD 0 0 / 8 * 8)).set 31 (bs.getD 31 0 % 64 + 64)
theorem clB_len (bs : List Int) : (clB bs).length = bs.length := by simp [clB]
theorem clB_byte {bs : List Int} (h : ∀ x ∈ bs, 0 ≤ x ∧ x < 256) : ∀ x ∈ clB bs, 0 ≤ x ∧ x < 256 := by
  have h0 := gD_u8 h 0
  have h31 := gD_u8 h 31
  intro x hx
  rcases List.mem_or_eq_of_mem_set hx with hx | rfl
  · rcases List.mem_or_eq_of_mem_set hx with hx | rfl
    · exact h x hx
    · omega
  · omega
theorem getD_set (l : List Int) (i j : Nat) (v : Int) (hi : i < l.length) : (l.set i v).getD j 0 = if i = j then v else l.getD j 0 := by
  simp only [List.getD, List.getElem?_set, hi, if_true]
  split <;> rfl
theorem clB_get {bs : List Int} (hl : bs.length = 32) (j : Nat) : (clB bs).getD j 0 = if 31 = j then bs.getD 31 0 % 64 + 64 else if 0 = j then bs.getD 0 0 / 8 * 8 else bs.getD j 0 := by
  unfold clB
  rw [getD_set _ _ _ _ (by simp [hl]), getD_set _ _ _ _ (by omega)]
theorem clL_get {l : List Int} (hl : l.length = 16) (j : Nat) : (clL l).getD j 0 = if 15 = j then l.getD 15 0 % 16384 + 16384 else if 0 = j then l.getD 0 0 / 8 * 8 else l.getD j 0 := by
  unfold clL
  rw [getD_set _ _ _ _ (by simp [hl]), getD_set _ _ _ _ (by omega)]
/-- Clamped bytes are read as the clamped parts. -/
theorem rdL_clB {bs : List Int} (hl : bs.length = 32) (h : ∀ x ∈ bs, 0 ≤ x ∧ x < 256) : rdL (clB bs) = clL (rdL bs) := by
  apply List.ext_getElem?
  intro i
  by_cases hi : i < 16
  · have e : ∀ l : List Int, l.length = 16 → l[i]? = some (l.getD i 0) := fun l hl => by simp [List.getD, List.getElem?_eq_getElem (show i < l.length by omega)]
    have r0 : (rdL bs).getD 0 0 = bs.getD 0 0 + 256 * bs.getD 1 0 := rdL_get _ 0 (by omega)
    have r15 : (rdL bs).getD 15 0 = bs.getD 30 0 + 256 * bs.getD 31 0 := rdL_get _ 15 (by omega)
    rw [e _ (rdL_len _), e _ (clL_len (rdL_len _)), rdL_get _ i hi, clL_get (rdL_len _), clB_get hl, clB_get hl, r0, r15, rdL_get _ i hi]
    have h0 := gD_u8 h 0
    have h1 := gD_u8 h 1
    have h30 := gD_u8 h 30
    have h31 := gD_u8 h 31
    congr 1
    by_cases h15 : i = 15
    · subst h15
      rw [if_neg (by omega), if_neg (by omega), if_pos rfl, if_pos rfl, show (2 * 15 : Nat) = 30 from rfl]
      omega
    · by_cases hz : i = 0
      · subst hz
        rw [if_neg (by omega), if_pos rfl, if_neg (by omega), if_neg (by omega), if_neg (by omega), if_pos rfl, show (2 * 0 + 1 : Nat) = 1 from rfl]
        omega
      · rw [if_neg (by omega), if_neg (by omega), if_neg (by omega), if_neg (by omega), if_neg (by omega), if_neg (by omega)]
  · rw [List.getElem?_eq_none (by rw [rdL_len]; omega), List.getElem?_eq_none (by rw [clL_len (rdL_len _)]; omega)]
/-- Whatever bytes are read are the bytes of what was read. -/
theorem btL_rdL {bs : List Int} (hl : bs.length = 32) (h : ∀ x ∈ bs, 0 ≤ x ∧ x < 256) : btL (rdL bs) = bs := by
  apply List.ext_getElem?
  intro i
  by_cases hi : i < 32
  · have e : ∀ l : List Int, l.length = 32 → l[i]? = some (l.getD i 0) := fun l hl => by simp [List.getD, List.getElem?_eq_getElem (show i < l.length by omega)]
    rw [e _ (by rw [btL_len, rdL_len]), e _ hl]
    have h1 := gD_u8 h (2 * (i / 2))
    have h2 := gD_u8 h (2 * (i / 2) + 1)
    have g := btL_get (rdL bs) (i / 2) (by rw [rdL_len]; omega)
    rw [rdL_get _ _ (by omega)] at g
    congr 1
    by_cases hp : i % 2 = 0
    · have e2 : 2 * (i / 2) = i := by omega
      rw [← e2, g.1]
      omega
    · have e2 : 2 * (i / 2) + 1 = i := by omega
      rw [← e2, g.2]
      omega
  · rw [List.getElem?_eq_none (by rw [btL_len, rdL_len]; omega), List.getElem?_eq_none (by omega)]
theorem btL_clL {bs : List Int} (hl : bs.length = 32) (h : ∀ x ∈ bs, 0 ≤ x ∧ x < 256) : btL (clL (rdL bs)) = clB bs := by
  rw [← rdL_clB hl h]
  exact btL_rdL (by rw [clB_len, hl]) (clB_byte h)
/-- What Clamp answers. -/
def cpOk (bs : List Int) : Bool := decide (bs.length = 32)
def cpL (bs : List Int) : List Int := if cpOk bs = true then clB bs else []
theorem cpL_byte {bs : List Int} (h : ∀ x ∈ bs, 0 ≤ x ∧ x < 256) : ∀ x ∈ cpL bs, 0 ≤ x ∧ x < 256 := by
  unfold cpL; split
  · exact clB_byte h
  · intro x hx; cases hx
theorem cpL_len (bs : List Int) : (cpL bs).length ≤ 64 := by
  unfold cpL; split
  · rename_i h; unfold cpOk at h; have := of_decide_eq_true h; rw [clB_len]; omega
  · simp
/-! The bits. -/
theorem and_248 : ∀ t : Fin 256, bits .and .u8 ((t.val : Nat) : Int) 248 = ((t.val : Nat) : Int) / 8 * 8 := by decide
theorem and_248' {t : Int} (h0 : 0 ≤ t) (h1 : t < 256) : bits .and .u8 t 248 = t / 8 * 8 := by
  obtain ⟨n, rfl⟩ := Int.eq_ofNat_of_zero_le h0
  exact and_248 ⟨n, by omega⟩
theorem top_64 : ∀ t : Fin 256, bits .or .u8 (bits .and .u8 ((t.val : Nat) : Int) 127) 64 = ((t.val : Nat) : Int) % 64 + 64 := by decide
theorem top_64' {t : Int} (h0 : 0 ≤ t) (h1 : t < 256) : bits .or .u8 (bits .and .u8 t 127) 64 = t % 64 + 64 := by
  obtain ⟨n, rfl⟩ := Int.eq_ofNat_of_zero_le h0
  exact top_64 ⟨n, by omega⟩
theorem nat_and8 (a : Nat) (h : a < 65536) : a &&& 65528 = a / 8 * 8 := by
  have e : a &&& 65528 = (a >>> 3 &&& (2 ^ 13 - 1)) <<< 3 := by
    apply Nat.eq_of_testBit_eq
    intro i
    rw [show (65528 : Nat) = (2 ^ 13 - 1) <<< 3 by decide]
    by_cases hi : i < 3
    · simp only [Nat.testBit_and, Nat.testBit_shiftLeft, Nat.not_le.2 hi, decide_false, Bool.false_and, Bool.and_false]
    · have h3 : 3 ≤ i := by omega
      simp only [Nat.testBit_and, Nat.testBit_shiftLeft, Nat.testBit_shiftRight, h3, decide_true, Bool.true_and]
      rw [show 3 + (i - 3) = i by omega]
  rw [e, Nat.and_two_pow_sub_one_eq_mod, Nat.shiftLeft_eq, Nat.shiftRight_eq_div_pow]
  have : a / 2 ^ 3 % 2 ^ 13 = a / 2 ^ 3 := Nat.mod_eq_of_lt (by omega)
  rw [this]
theorem and_65528 {x : Int} (h0 : 0 ≤ x) (h1 : x < 65536) : bits .and .i64 x 65528 = x / 8 * 8 := by
  obtain ⟨n, rfl⟩ := Int.eq_ofNat_of_zero_le h0
  have := (bits_nat .i64 63 (by decide) (fun n a b => by rw [IntKind.wrap_i64]; omega) n 65528 (by omega) (by decide)).1
  rw [nat_and8 n (by omega)] at this
  simpa using this
theorem bits_comm_or (x y : Int) : bits .or .i64 x y = bits .or .i64 y x := by
  unfold bits
  simp only [BitVec.or_comm]
theorem top_16384 {x : Int} (h0 : 0 ≤ x) (h1 : x < 65536) : bits .or .i64 (bits .and .i64 x 16383) 16384 = x % 16384 + 16384 := by
  have e : bits .and .i64 x 16383 = x % 16384 := bits_mask .i64 63 (by decide) (fun n a b => by rw [IntKind.wrap_i64]; omega) 14 (by decide) x h0 (by omega)
  rw [e]
  rw [Int.add_comm, bits_comm_or]
  exact bits_join .i64 63 (by decide) (fun n a b => by rw [IntKind.wrap_i64]; omega) 14 16384 (x % 16384) (by omega) (by decide) (by decide) (by omega) (by omega) (by omega)
end Go.Proofs.Ytihoaakbkffejaa
