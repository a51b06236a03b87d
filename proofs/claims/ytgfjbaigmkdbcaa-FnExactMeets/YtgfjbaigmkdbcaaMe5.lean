/-
  What is proved here: part by part, the needs of its kind that are not met are just the needs that a bundle lacks, in their order; plain data alone.
-/
import Derived.Test.YtgfjbaigmkdbcaaJM12
namespace Go.Proofs.Ytgfjbaigmkdbcaa
open Go.RowKit
set_option maxRecDepth 100000
set_option maxHeartbeats 1000000
set_option linter.unusedVariables false

def metA (ps : List PartM) (q : NeedM) : Bool := ps.any fun p => decide (metQ q p)
/-- What a part's needs lack. -/
def fsP (ps : List PartM) (ns : List NeedM) (p : PartM) : List NeedM := (grp ns p.k).filter fun q => !metA ps q
def lkI (ps : List PartM) (ns : List NeedM) (j : Nat) : List NeedM := ((ps.take j).map (fsP ps ns)).flatten
theorem metA_iff (ps : List PartM) (q : NeedM) : metA ps q = true ↔ ∃ i, i < ps.length ∧ metQ q (ps.getD i pz) := by
  unfold metA
  rw [List.any_eq_true]
  constructor
  · rintro ⟨p, hp, h⟩
    obtain ⟨i, hi, e⟩ := List.mem_iff_getElem.1 hp
    exact ⟨i, hi, by rw [List.getD_eq_getElem?_getD, List.getElem?_eq_getElem hi]; subst e; simpa using h⟩
  · rintro ⟨i, hi, h⟩
    rw [List.getD_eq_getElem?_getD, List.getElem?_eq_getElem hi] at h
    exact ⟨ps[i], List.getElem_mem hi, by simpa using h⟩
theorem lkI_snoc (ps : List PartM) (ns : List NeedM) (j : Nat) (h : j < ps.length) : lkI ps ns (j + 1) = lkI ps ns j ++ fsP ps ns (ps.getD j pz) := by
  unfold lkI
  rw [List.take_succ_eq_append_getElem h, List.map_append, List.flatten_append]
  simp [h]
theorem asc_lt {f : Nat → Int} {n : Nat} (h : ∀ i, 0 < i → i < n → f (i - 1) < f i) (i : Nat) : ∀ d, i + d + 1 < n → f i < f (i + d + 1)
  | 0, hd => by have := h (i + 1) (by omega) hd; simpa using this
  | d + 1, hd => by
    have h1 := asc_lt h i d (by omega)
    have h2 := h (i + (d + 1) + 1) (by omega) hd
    have e : i + (d + 1) + 1 - 1 = i + d + 1 := by omega
    rw [e] at h2
    omega
theorem asc_le {f : Nat → Int} {n : Nat} (h : ∀ i, 0 < i → i < n → f (i - 1) ≤ f i) (i : Nat) : ∀ d, i + d + 1 < n → f i ≤ f (i + d + 1)
  | 0, hd => by have := h (i + 1) (by omega) hd; simpa using this
  | d + 1, hd => by
    have h1 := asc_le h i d (by omega)
    have h2 := h (i + (d + 1) + 1) (by omega) hd
    have e : i + (d + 1) + 1 - 1 = i + d + 1 := by omega
    rw [e] at h2
    omega
theorem ps_pw {B : BunM} (h : bunOk B) : B.ps.Pairwise fun a b => a.k < b.k := by
  rw [List.pairwise_iff_getElem]
  intro i j hi hj hij
  have h1 := asc_lt (f := fun i => (B.ps.getD i pz).k) (n := B.ps.length) (fun i h0 h1 => (h.2.1 i h1).2 h0) i (j - i - 1) (by omega)
  rw [show i + (j - i - 1) + 1 = j by omega] at h1
  simpa [List.getD_eq_getElem?_getD, hi, hj] using h1
theorem ns_pw {B : BunM} (h : bunOk B) : B.ns.Pairwise fun a b => a.o ≤ b.o := by
  rw [List.pairwise_iff_getElem]
  intro i j hi hj hij
  have h1 := asc_le (f := fun i => (B.ns.getD i nz).o) (n := B.ns.length) (fun i h0 h1 => by
    have := (h.2.2 i h1).2 h0
    unfold needLt at this
    show (B.ns.getD (i - 1) nz).o ≤ (B.ns.getD i nz).o
    omega) i (j - i - 1) (by omega)
  rw [show i + (j - i - 1) + 1 = j by omega] at h1
  simpa [List.getD_eq_getElem?_getD, hi, hj] using h1
theorem flt_two (A C : NeedM → Bool) : ∀ (S : List NeedM), S.Pairwise (fun a b => a.o ≤ b.o) → (∀ x y, A x = true → C y = true → x.o < y.o) → S.filter A ++ S.filter C = S.filter fun x => A x || C x
  | [], _, _ => rfl
  | x :: S, hs, hac => by
    rw [List.pairwise_cons] at hs
    have ih := flt_two A C S hs.2 hac
    cases ha : A x with
    | true =>
      have hc : C x = false := by
        cases hc : C x with
        | true => exact absurd (hac x x ha hc) (by omega)
        | false => rfl
      simp only [List.filter_cons, ha, hc, Bool.true_or, if_true, List.cons_append, Bool.false_eq_true, if_false]
      rw [ih]
    | false =>
      cases hc : C x with
      | true =>
        have he : S.filter A = [] := by
          rw [List.filter_eq_nil_iff]
          intro y hy hay
          have := hac y x hay hc
          have := hs.1 y hy
          omega
        rw [he] at ih
        simp only [List.filter_cons, ha, hc, Bool.false_or, he, if_true, ← ih]
        rfl
      | false =>
        simp only [List.filter_cons, ha, hc, Bool.false_or]
        exact ih
theorem flt_all (S : List NeedM) (hs : S.Pairwise fun a b => a.o ≤ b.o) : ∀ (ps : List PartM), ps.Pairwise (fun a b => a.k < b.k) →
    (ps.map fun p => S.filter fun x => decide (x.o = p.k)).flatten = S.filter fun x => ps.any fun p => decide (x.o = p.k)
  | [], _ => by simp
  | p :: ps, hp => by
    rw [List.pairwise_cons] at hp
    rw [List.map_cons, List.flatten_cons, flt_all S hs ps hp.2, flt_two _ _ S hs]
    · rfl
    · intro x y hx hy
      simp only [List.any_eq_true, decide_eq_true_eq] at hx hy
      obtain ⟨r, hr, e⟩ := hy
      have := hp.1 r hr
      omega
theorem fnd_any (ps : List PartM) (k : Int) : decide (fnd ps k < 0) = !ps.any fun p => decide (k = p.k) := by
  unfold fnd
  split
  · next i hi =>
    have h := List.findIdx?_eq_some_iff_getElem.1 hi
    have : (ps.any fun p => decide (k = p.k)) = true := by
      rw [List.any_eq_true]
      exact ⟨ps[i]'h.1, List.getElem_mem h.1, by have := h.2.1; simp at this; simp [this]⟩
    rw [this]
    simp
  · next hi =>
    have h := List.findIdx?_eq_none_iff.1 hi
    have : (ps.any fun p => decide (k = p.k)) = false := by
      rw [List.any_eq_false]
      intro p hp e
      have := h p hp
      simp at this e
      exact this e.symm
    rw [this]
    rfl
theorem met_eq {ps : List PartM} (hp : ps.Pairwise fun a b => a.k < b.k) (q : NeedM) : decide (metN ps q) = (decide (fnd ps q.o < 0) || metA ps q) := by
  have key : (¬ fnd ps q.k < 0 ∧ q.f ≤ (ps.getD (fnd ps q.k).toNat pz).v ∧ (ps.getD (fnd ps q.k).toNat pz).v ≤ q.t) ↔ metA ps q = true := by
    rw [metA_iff]
    cases hf : ps.findIdx? (fun p => p.k == q.k) with
    | none =>
      have h := List.findIdx?_eq_none_iff.1 hf
      have e : fnd ps q.k = -1 := by unfold fnd; rw [hf]
      rw [e]
      constructor
      · intro h; omega
      · rintro ⟨i, hi, hm⟩
        have := h (ps.getD i pz) (by rw [List.getD_eq_getElem?_getD, List.getElem?_eq_getElem hi]; exact List.getElem_mem hi)
        simp at this
        exact absurd hm.1 (by simpa using this)
    | some i =>
      have h := List.findIdx?_eq_some_iff_getElem.1 hf
      have e : fnd ps q.k = (i : Int) := by unfold fnd; rw [hf]
      obtain ⟨hi, hk, _⟩ := h
      have hk' : (ps[i]'hi).k = q.k := by simpa using hk
      have hg : ps.getD i pz = ps[i]'hi := by rw [List.getD_eq_getElem?_getD, List.getElem?_eq_getElem hi]; rfl
      rw [e, Int.toNat_natCast]
      constructor
      · rintro ⟨_, h1, h2⟩
        exact ⟨i, hi, by rw [hg]; exact hk', h1, h2⟩
      · rintro ⟨j, hj, h0, h1, h2⟩
        have hgj : ps.getD j pz = ps[j]'hj := by rw [List.getD_eq_getElem?_getD, List.getElem?_eq_getElem hj]; rfl
        have hpw := List.pairwise_iff_getElem.1 hp
        have hij : i = j := by
          rw [hgj] at h0
          rcases Nat.lt_trichotomy i j with hlt | heq | hgt
          · have := hpw i j hi hj hlt
            omega
          · exact heq
          · have := hpw j i hj hi hgt
            omega
        subst hij
        exact ⟨by omega, h1, h2⟩
  by_cases h : metN ps q
  · rw [decide_eq_true h]
    rcases h with h | h
    · simp [h]
    · rw [key.1 h]; simp
  · rw [decide_eq_false h]
    have h1 : ¬ fnd ps q.o < 0 := fun e => h (.inl e)
    have h2 : metA ps q = false := by
      cases e : metA ps q with
      | true => exact absurd (.inr (key.2 e)) h
      | false => rfl
    rw [h2, decide_eq_false h1]
    rfl
theorem lk_eq {B : BunM} (h : bunOk B) : lkI B.ps B.ns B.ps.length = lkN B.ps B.ns := by
  have hp := ps_pw h
  have hn := ns_pw h
  unfold lkI lkN
  rw [List.take_length]
  have e1 : fsP B.ps B.ns = fun p => (B.ns.filter fun q => !metA B.ps q).filter fun x => decide (x.o = p.k) := by
    funext p
    unfold fsP grp
    rw [List.filter_filter, List.filter_filter]
    congr 1
    funext q
    exact Bool.and_comm _ _
  rw [e1, flt_all _ (hn.sublist (List.filter_sublist)) _ hp, List.filter_filter]
  congr 1
  funext q
  rw [met_eq hp, fnd_any]
  cases (B.ps.any fun p => decide (q.o = p.k)) <;> cases metA B.ps q <;> rfl
end Go.Proofs.Ytgfjbaigmkdbcaa
