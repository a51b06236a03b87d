/-
  What is proved here: plain facts on how far two texts begin alike and on when one begins with the other; and the program's Common and the laws' 'same' as contracts with one answer, for slices of at most 2^21 bytes.
-/
import Derived.Test.YtjgoliajgfeehaaCom
import Derived.Test.YtjgoliajgfeehaaPre
namespace Go.Proofs.Ytjgoliajgfeehaa
open Go.RowKit

def comF : List Int → List Int → Nat
  | x :: xs, y :: ys => if x = y then comF xs ys + 1 else 0
  | _, _ => 0

theorem comF_is : ∀ xs ys : List Int, IsCom xs ys (comF xs ys)
  | [], _ => ⟨by simp [comF], by simp [comF], fun j hj => by simp [comF] at hj, .inl (by simp [comF])⟩
  | _ :: _, [] => ⟨by simp [comF], by simp [comF], fun j hj => by simp [comF] at hj, .inr (.inl (by simp [comF]))⟩
  | x :: xs, y :: ys => by
    have ih := comF_is xs ys
    by_cases h : x = y
    · subst h
      have e : comF (x :: xs) (x :: ys) = comF xs ys + 1 := by simp [comF]
      rw [e]
      refine ⟨by simpa using ih.l1, by simpa using ih.l2, ?_, ?_⟩
      · intro j hj
        cases j with
        | zero => rfl
        | succ j => simpa using ih.same j (by omega)
      · rcases ih.stop with h1 | h1 | h1
        · exact .inl (by simp [h1])
        · exact .inr (.inl (by simp [h1]))
        · exact .inr (.inr (by simpa using h1))
    · have e : comF (x :: xs) (y :: ys) = 0 := by simp [comF, h]
      rw [e]
      exact ⟨by omega, by omega, fun j hj => absurd hj (Nat.not_lt_zero _), .inr (.inr (by simpa using h))⟩

theorem comF_symm (xs ys : List Int) : comF ys xs = comF xs ys := by
  have h := comF_is ys xs
  refine IsCom.uniq (xs := xs) (ys := ys) ⟨h.l2, h.l1, fun j hj => (h.same j hj).symm, ?_⟩ (comF_is xs ys)
  rcases h.stop with h1 | h1 | h1
  · exact .inr (.inl h1)
  · exact .inl h1
  · exact .inr (.inr (fun e => h1 e.symm))

theorem comF_take (xs ys : List Int) : xs.take (comF xs ys) = ys.take (comF xs ys) := by
  have h := comF_is xs ys
  refine List.ext_getElem (by simp; have := h.l1; have := h.l2; omega) ?_
  intro i h1 h2
  have hi : i < comF xs ys := by simp at h1; omega
  have hs := h.same i hi
  have l1 := h.l1
  have l2 := h.l2
  simp only [List.getElem_take]
  have e1 : xs.getD i 0 = xs[i]'(by omega) := by simp [show i < xs.length by omega]
  have e2 : ys.getD i 0 = ys[i]'(by omega) := by simp [show i < ys.length by omega]
  rw [← e1, ← e2]; exact hs

theorem str_inj {xs ys : List Int} (hx : ∀ x ∈ xs, 0 ≤ x ∧ x < 256) (hy : ∀ x ∈ ys, 0 ≤ x ∧ x < 256) (h : (strOfNums xs).toList = (strOfNums ys).toList) : xs = ys := by
  have e : ∀ l : List Int, (strOfNums l).toList = l.map fun n => UInt8.ofNat n.toNat := fun l => by
    simp [strOfNums, ByteArray.toList_eq]
  rw [e, e] at h
  have hl : xs.length = ys.length := by simpa using congrArg List.length h
  refine List.ext_getElem hl ?_
  intro i h1 h2
  have hi := congrArg (fun l => l[i]?) h
  simp [h1, h2] at hi
  have a1 := hx _ (List.getElem_mem h1)
  have a2 := hy _ (List.getElem_mem h2)
  have hn := congrArg UInt8.toNat hi
  simp [UInt8.toNat_ofNat'] at hn
  omega

def hpB (xs ys : List Int) : Bool := decide (ys.length ≤ xs.length) && ((strOfNums (xs.take ys.length)).toList == (strOfNums ys).toList)

theorem hp_com (xs ys : List Int) (hx : ∀ x ∈ xs, 0 ≤ x ∧ x < 256) (hy : ∀ x ∈ ys, 0 ≤ x ∧ x < 256) : hpB xs ys = decide (comF xs ys = ys.length) := by
  rw [Bool.eq_iff_iff]
  simp only [hpB, Bool.and_eq_true, decide_eq_true_eq, beq_iff_eq]
  constructor
  · rintro ⟨hl, he⟩
    have ht := str_inj (fun x h => hx x (List.mem_of_mem_take h)) hy he
    refine IsCom.uniq (comF_is xs ys) ⟨hl, Nat.le_refl _, ?_, .inr (.inl rfl)⟩
    intro j hj
    have e : (xs.take ys.length).getD j 0 = xs.getD j 0 := by simp [hj]
    rw [← e, ht]
  · intro h
    have l1 := (comF_is xs ys).l1
    rw [h] at l1
    refine ⟨l1, ?_⟩
    have ht := comF_take xs ys
    rw [h, List.take_length] at ht
    rw [ht]

theorem hp_self (xs ys : List Int) : hpB xs (ys.take (comF xs ys)) = true := by
  have h := comF_is xs ys
  have e : (ys.take (comF xs ys)).length = comF xs ys := by have := h.l2; simp; omega
  simp only [hpB, Bool.and_eq_true, decide_eq_true_eq, beq_iff_eq]
  rw [e]
  exact ⟨h.l1, by rw [comF_take]⟩

theorem implComF (a a' : Option Addr) (n n' cap cap' : Nat) (xs ys : List Int) (w : World) (h : Bs w a n cap xs) (h' : Bs w a' n' cap' ys) (hn : n ≤ 2097152) (hn' : n' ≤ 2097152) :
    Calls Try.prog 24 #[.slice a n cap, .slice a' n' cap'] w fun e w' => e = .returned (.int .i64 ((comF xs ys : Nat) : Int)) ∧ ∃ m, w' = w.drewN m := by
  refine (implCom a a' n n' cap cap' xs ys w h h' hn hn').mono ?_
  rintro e w' ⟨c, q, rfl, hc, rfl⟩
  exact ⟨by rw [hc.uniq (comF_is xs ys)], q, rfl⟩

set_option maxHeartbeats 400000 in
theorem sameB (a a' : Option Addr) (n c n' c' : Nat) (xs ys : List Int) (w : World) (h : Bs w a n c xs) (h' : Bs w a' n' c' ys) :
    Calls Try.prog 21 #[.slice a n c, .slice a' n' c'] w fun e w' => e = .returned (.bool ((strOfNums xs).toList == (strOfNums ys).toList)) ∧ w' = w := by
  have g1 := conv_bs h
  have g2 := conv_bs h'
  clear h h'
  go_enter Try.func21, Try.ntmps21
  go_wp2
  go_ret
  exact ⟨rfl, rfl⟩

theorem sameT (a a' : Option Addr) (n c n' c' : Nat) (xs ys : List Int) (w : World) (h : Bs w a n c xs) (h' : Bs w a' n' c' ys) (e : xs = ys) :
    Calls Try.prog 21 #[.slice a n c, .slice a' n' c'] w fun e w' => e = .returned (.bool true) ∧ w' = w := by
  refine (sameB a a' n c n' c' xs ys w h h').mono ?_
  rintro e' w' ⟨rfl, hw⟩
  subst e
  exact ⟨by simp, hw⟩

theorem implPreF (a a' : Option Addr) (n c n' c' : Nat) (xs ys : List Int) (w : World) (h : Bs w a n c xs) (h' : Bs w a' n' c' ys) (had : Ad a n c) (hn : n ≤ 2097152) (hn' : n' ≤ 2097152) :
    Calls Try.prog 27 #[.slice a n c, .slice a' n' c'] w fun e w' => e = .returned (.bool (hpB xs ys)) ∧ w' = w := by
  have h1 := h.2.1
  have h2 := h'.2.1
  refine (implPre a a' n c n' c' xs ys w h h' had hn hn').mono ?_
  rintro e w' ⟨rfl, hw⟩
  exact ⟨by rw [hpB, h1, h2], hw⟩
end Go.Proofs.Ytjgoliajgfeehaa
