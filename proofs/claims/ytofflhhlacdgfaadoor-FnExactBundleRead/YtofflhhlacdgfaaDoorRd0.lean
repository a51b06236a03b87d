/-
  What is proved here: how a bundle is read from bytes, as plain data; what is read so has just these bytes.
-/
import Derived.Test.YtofflhhlacdgfaaDoorA1NumM
import Derived.Test.YtofflhhlacdgfaaDoorY0
namespace Go.Proofs.YtofflhhlacdgfaaDoor
open Go.RowKit Ma
set_option linter.unusedVariables false

/-- A number that stands at a place, and the place behind it. -/
def rnum (xs : List Int) (p : Nat) : Option (Int × Nat) := if 0 ≤ (getN xs p).2 then some ((getN xs p).1, (getN xs p).2.toNat) else none
def rcnt (most : Int) (xs : List Int) (p : Nat) : Option (Int × Nat) := (rnum xs p).bind fun a => if a.1 ≤ most then some a else none
def rhash (xs : List Int) (p : Nat) : Option (List Int × Nat) := if p + 32 ≤ xs.length then some ((xs.drop p).take 32, p + 32) else none
def rpart (xs : List Int) (p : Nat) : Option (PartM × Nat) := (rnum xs p).bind fun a => (rnum xs a.2).bind fun b => (rnum xs b.2).bind fun c => (rhash xs c.2).bind fun d => some (⟨a.1, b.1, c.1, d.1⟩, d.2)
def rneed (xs : List Int) (p : Nat) : Option (NeedM × Nat) := (rnum xs p).bind fun a => (rnum xs a.2).bind fun b => (rnum xs b.2).bind fun c => (rnum xs c.2).bind fun d => some (⟨a.1, c.1, d.1, b.1⟩, d.2)
def rparts (xs : List Int) (p : Nat) : Nat → Option (List PartM × Nat)
  | 0 => some ([], p)
  | j + 1 => (rparts xs p j).bind fun a => (rpart xs a.2).bind fun b => some (a.1 ++ [b.1], b.2)
def rneeds (xs : List Int) (p : Nat) : Nat → Option (List NeedM × Nat)
  | 0 => some ([], p)
  | j + 1 => (rneeds xs p j).bind fun a => (rneed xs a.2).bind fun b => some (a.1 ++ [b.1], b.2)
/-- A bundle, the place behind it. -/
def rbun (xs : List Int) : Option (BunM × Nat) :=
  (rnum xs 0).bind fun a => (rnum xs a.2).bind fun b => (rnum xs b.2).bind fun c => (rcnt 4 xs c.2).bind fun k => (rparts xs k.2 k.1.toNat).bind fun P =>
    (rcnt 8 xs P.2).bind fun m => (rneeds xs m.2 m.1.toNat).bind fun N => some (⟨a.1, b.1, c.1, P.1, N.1⟩, N.2)
/-- What BundleRead answers. -/
def rdB (xs : List Int) : BunM × Bool := match rbun xs with
  | some a => if a.2 = xs.length ∧ bOk a.1 = true then (a.1, true) else (⟨0, 0, 0, [], []⟩, false)
  | none => (⟨0, 0, 0, [], []⟩, false)
theorem rdB_none {xs : List Int} (h : rbun xs = none) : rdB xs = (⟨0, 0, 0, [], []⟩, false) := by unfold rdB; rw [h]
theorem rdB_yes {xs : List Int} {B : BunM} {q : Nat} (h : rbun xs = some (B, q)) (hq : q = xs.length) (hb : bOk B = true) : rdB xs = (B, true) := by
  unfold rdB
  rw [h]
  exact if_pos ⟨hq, hb⟩
theorem rdB_no {xs : List Int} {B : BunM} {q : Nat} (h : rbun xs = some (B, q)) (hq : ¬ (q = xs.length ∧ bOk B = true)) : rdB xs = (⟨0, 0, 0, [], []⟩, false) := by
  unfold rdB
  rw [h]
  exact if_neg hq
section
variable {xs : List Int} {p : Nat}
theorem rnum_at (hy : ByL xs) {v : Int} {q : Nat} (h : rnum xs p = some (v, q)) : p ≤ q ∧ q ≤ xs.length ∧ 0 ≤ v ∧ v ≤ 2147483647 ∧ xs.take p ++ numB v = xs.take q := by
  unfold rnum at h
  by_cases h0 : 0 ≤ (getN xs p).2
  · rw [if_pos h0] at h
    simp only [Option.some.injEq, Prod.mk.injEq] at h
    obtain ⟨h1, h2⟩ := h
    have hb := getN_bounds xs (p : Int) hy
    have hpos : 0 < (getN xs p).2 := by
      rcases hb with hb | hb
      · rw [hb] at h0; simp at h0
      · exact hb.2.2.1
    obtain ⟨b1, b2, b3, b4, b5, b6⟩ := getN_back xs (p : Int) (getN xs (p : Int)).1 (getN xs (p : Int)).2 hy (Prod.ext rfl rfl) hpos
    rw [h1] at b3 b4 b6
    rw [h2] at b6
    simp only [Int.toNat_natCast] at b6
    refine ⟨?_, by omega, b3, b4, b6⟩
    have hl := congrArg List.length b6
    simp only [List.length_append, List.length_take] at hl
    omega
  · rw [if_neg h0] at h
    cases h
theorem rnum_get (hy : ByL xs) : (∃ v q, rnum xs p = some (v, q) ∧ getN xs (p : Int) = (v, (q : Int)) ∧ q ≤ xs.length ∧ 0 ≤ v ∧ v ≤ 2147483647) ∨ (rnum xs p = none ∧ getN xs (p : Int) = (0, -1)) := by
  rcases getN_bounds xs (p : Int) hy with h | ⟨h1, h2, h3, h4⟩
  · right
    refine ⟨?_, h⟩
    unfold rnum
    rw [h]
    rfl
  · left
    refine ⟨(getN xs p).1, (getN xs p).2.toNat, if_pos (by omega), ?_, by omega, h1, h2⟩
    refine Prod.ext rfl ?_
    show (getN xs p).2 = (((getN xs p).2.toNat : Nat) : Int)
    omega
theorem rcnt_at {most v : Int} {q : Nat} (h : rcnt most xs p = some (v, q)) : rnum xs p = some (v, q) ∧ v ≤ most := by
  unfold rcnt at h
  cases hr : rnum xs p with
  | none => rw [hr] at h; cases h
  | some a =>
    rw [hr] at h
    simp only [Option.bind_some] at h
    split at h
    · next hle => cases h; exact ⟨rfl, hle⟩
    · cases h
theorem rhash_at {v : List Int} {q : Nat} (h : rhash xs p = some (v, q)) : q = p + 32 ∧ q ≤ xs.length ∧ v = (xs.drop p).take 32 ∧ v.length = 32 ∧ xs.take p ++ v = xs.take q := by
  unfold rhash at h
  by_cases h0 : p + 32 ≤ xs.length
  · rw [if_pos h0] at h
    cases h
    refine ⟨rfl, h0, rfl, by simp; omega, ?_⟩
    rw [← List.take_add]
  · rw [if_neg h0] at h
    cases h
theorem rpart_at (hy : ByL xs) {x : PartM} {q : Nat} (h : rpart xs p = some (x, q)) : p ≤ q ∧ q ≤ xs.length ∧ x.h.length = 32 ∧ (∀ y ∈ x.h, 0 ≤ y ∧ y < 256) ∧ xs.take p ++ ptB x = xs.take q := by
  unfold rpart at h
  simp only [Option.bind_eq_some_iff, Option.some.injEq, Prod.mk.injEq] at h
  obtain ⟨⟨a, p1⟩, ha, ⟨b, p2⟩, hb, ⟨c, p3⟩, hc, ⟨d, p4⟩, hd, rfl, rfl⟩ := h
  have A := rnum_at hy ha
  have B := rnum_at hy hb
  have C := rnum_at hy hc
  have D := rhash_at hd
  simp only at A B C D ⊢
  refine ⟨by omega, D.2.1, D.2.2.2.1, fun y hm => ?_, ?_⟩
  · rw [D.2.2.1] at hm
    exact hy y (List.mem_of_mem_drop (List.mem_of_mem_take hm))
  · unfold ptB
    simp only [nsB]
    rw [← D.2.2.2.2, ← C.2.2.2.2, ← B.2.2.2.2, ← A.2.2.2.2]
    simp
theorem rneed_at (hy : ByL xs) {x : NeedM} {q : Nat} (h : rneed xs p = some (x, q)) : p ≤ q ∧ q ≤ xs.length ∧ xs.take p ++ ndB x = xs.take q := by
  unfold rneed at h
  simp only [Option.bind_eq_some_iff, Option.some.injEq, Prod.mk.injEq] at h
  obtain ⟨⟨a, p1⟩, ha, ⟨b, p2⟩, hb, ⟨c, p3⟩, hc, ⟨d, p4⟩, hd, rfl, rfl⟩ := h
  have A := rnum_at hy ha
  have B := rnum_at hy hb
  have C := rnum_at hy hc
  have D := rnum_at hy hd
  simp only at A B C D ⊢
  refine ⟨by omega, D.2.1, ?_⟩
  unfold ndB
  simp only [nsB]
  rw [← D.2.2.2.2, ← C.2.2.2.2, ← B.2.2.2.2, ← A.2.2.2.2]
  simp
theorem rparts_at (hy : ByL xs) : ∀ (j : Nat) {l : List PartM} {q : Nat}, p ≤ xs.length → rparts xs p j = some (l, q) → p ≤ q ∧ q ≤ xs.length ∧ l.length = j ∧ (∀ x ∈ l, x.h.length = 32 ∧ ∀ y ∈ x.h, 0 ≤ y ∧ y < 256) ∧ xs.take p ++ psB l = xs.take q
  | 0, l, q, hp, h => by
    unfold rparts at h
    cases h
    exact ⟨Nat.le_refl _, hp, rfl, (fun x hx => by cases hx), by simp [psB]⟩
  | j + 1, l, q, hp, h => by
    unfold rparts at h
    simp only [Option.bind_eq_some_iff, Option.some.injEq, Prod.mk.injEq] at h
    obtain ⟨⟨l', p1⟩, ha, ⟨x, p2⟩, hb, rfl, rfl⟩ := h
    have A := rparts_at hy j hp ha
    have B := rpart_at hy hb
    simp only at A B ⊢
    refine ⟨by omega, B.2.1, by rw [List.length_append, A.2.2.1]; rfl, fun y hy' => ?_, ?_⟩
    · rcases List.mem_append.1 hy' with h | h
      · exact A.2.2.2.1 y h
      · simp at h; subst h; exact ⟨B.2.2.1, B.2.2.2.1⟩
    · rw [psB_snoc, ← List.append_assoc, A.2.2.2.2, B.2.2.2.2]
theorem rneeds_at (hy : ByL xs) : ∀ (j : Nat) {l : List NeedM} {q : Nat}, p ≤ xs.length → rneeds xs p j = some (l, q) → p ≤ q ∧ q ≤ xs.length ∧ l.length = j ∧ xs.take p ++ qsB l = xs.take q
  | 0, l, q, hp, h => by
    unfold rneeds at h
    cases h
    exact ⟨Nat.le_refl _, hp, rfl, by simp [qsB]⟩
  | j + 1, l, q, hp, h => by
    unfold rneeds at h
    simp only [Option.bind_eq_some_iff, Option.some.injEq, Prod.mk.injEq] at h
    obtain ⟨⟨l', p1⟩, ha, ⟨x, p2⟩, hb, rfl, rfl⟩ := h
    have A := rneeds_at hy j hp ha
    have B := rneed_at hy hb
    simp only at A B ⊢
    refine ⟨by omega, B.2.1, by rw [List.length_append, A.2.2.1]; rfl, ?_⟩
    rw [qsB_snoc, ← List.append_assoc, A.2.2.2, B.2.2]
theorem rparts_none {j : Nat} (h : rparts xs p j = none) : ∀ d, rparts xs p (j + d) = none
  | 0 => h
  | d + 1 => by
    show rparts xs p (j + d + 1) = none
    unfold rparts
    rw [rparts_none h d]
    rfl
theorem rneeds_none {j : Nat} (h : rneeds xs p j = none) : ∀ d, rneeds xs p (j + d) = none
  | 0 => h
  | d + 1 => by
    show rneeds xs p (j + d + 1) = none
    unfold rneeds
    rw [rneeds_none h d]
    rfl
theorem rparts_fail {j n q : Nat} {l : List PartM} (h : rparts xs p j = some (l, q)) (hx : rpart xs q = none) (hj : j < n) : rparts xs p n = none := by
  have h1 : rparts xs p (j + 1) = none := by
    unfold rparts
    rw [h]
    simp [hx]
  have := rparts_none h1 (n - (j + 1))
  rw [show j + 1 + (n - (j + 1)) = n by omega] at this
  exact this
theorem rneeds_fail {j n q : Nat} {l : List NeedM} (h : rneeds xs p j = some (l, q)) (hx : rneed xs q = none) (hj : j < n) : rneeds xs p n = none := by
  have h1 : rneeds xs p (j + 1) = none := by
    unfold rneeds
    rw [h]
    simp [hx]
  have := rneeds_none h1 (n - (j + 1))
  rw [show j + 1 + (n - (j + 1)) = n by omega] at this
  exact this
theorem rparts_succ {j q r : Nat} {l : List PartM} {x : PartM} (h : rparts xs p j = some (l, q)) (hx : rpart xs q = some (x, r)) : rparts xs p (j + 1) = some (l ++ [x], r) := by
  unfold rparts
  rw [h]
  simp [hx]
theorem rneeds_succ {j q r : Nat} {l : List NeedM} {x : NeedM} (h : rneeds xs p j = some (l, q)) (hx : rneed xs q = some (x, r)) : rneeds xs p (j + 1) = some (l ++ [x], r) := by
  unfold rneeds
  rw [h]
  simp [hx]
end
/-- What is read as a bundle has just the bytes that were read. -/
theorem rbun_at {xs : List Int} (hy : ByL xs) {B : BunM} {q : Nat} (h : rbun xs = some (B, q)) : q ≤ xs.length ∧ B.ps.length ≤ 4 ∧ B.ns.length ≤ 8 ∧ (∀ x ∈ B.ps, x.h.length = 32 ∧ ∀ y ∈ x.h, 0 ≤ y ∧ y < 256) ∧ buB B = xs.take q := by
  unfold rbun at h
  simp only [Option.bind_eq_some_iff, Option.some.injEq, Prod.mk.injEq] at h
  obtain ⟨⟨a, p1⟩, ha, ⟨b, p2⟩, hb, ⟨c, p3⟩, hc, ⟨k, p4⟩, hk, ⟨P, p5⟩, hP, ⟨m, p6⟩, hm, ⟨N, p7⟩, hN, rfl, rfl⟩ := h
  have A := rnum_at hy ha
  have B := rnum_at hy hb
  have C := rnum_at hy hc
  obtain ⟨hk, hk4⟩ := rcnt_at hk
  have K := rnum_at hy hk
  simp only at A B C K hP
  have PP := rparts_at hy k.toNat K.2.1 hP
  obtain ⟨hm, hm8⟩ := rcnt_at hm
  have M := rnum_at hy hm
  simp only at PP M hN
  have NN := rneeds_at hy m.toNat M.2.1 hN
  simp only at NN hk4 hm8 ⊢
  refine ⟨NN.2.1, by omega, by omega, PP.2.2.2.1, ?_⟩
  have e1 : ((P.length : Nat) : Int) = k := by rw [PP.2.2.1]; omega
  have e2 : ((N.length : Nat) : Int) = m := by rw [NN.2.2.1]; omega
  unfold buB hdB
  simp only [nsB]
  rw [e1, e2, ← NN.2.2.2, ← M.2.2.2.2, ← PP.2.2.2.2, ← K.2.2.2.2, ← C.2.2.2.2, ← B.2.2.2.2, ← A.2.2.2.2]
  simp
end Go.Proofs.YtofflhhlacdgfaaDoor
