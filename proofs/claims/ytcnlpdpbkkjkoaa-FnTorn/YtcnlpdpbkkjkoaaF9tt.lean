/-
  What is proved here: what was torn lies between what was and what was meant, and done again it is what was meant, as plain facts on bytes and lists.
-/
import Derived.Test.YtcnlpdpbkkjkoaaF9l
import Derived.Test.YtcnlpdpbkkjkoaaF9w
namespace Go.Proofs.Ytcnlpdpbkkjkoaa
set_option maxRecDepth 100000
set_option maxHeartbeats 1000000
open Go.RowKit

theorem byte_back {f : Int} (h0 : 0 ≤ f) (h1 : f < 256) : ((BitVec.ofInt 8 f).toNat : Int) = f := by
  rw [BitVec.toNat_ofInt]
  omega
theorem or_torn (f x m : Int) (h0 : 0 ≤ f) (h1 : f < 256) : bits .or .u8 (tpb f x m) f = f := by
  unfold tpb
  rw [b_or, b_and, u8_back]
  conv => rhs; rw [← byte_back h0 h1]
  congr 2
  ext i hi
  simp
  cases (BitVec.ofInt 8 f)[i] <;> simp
theorem and_torn (f x m : Int) : bits .and .u8 (tpb f x m) (tpb f x 255) = tpb f x 255 := by
  rw [tpb_full]
  unfold tpb
  rw [b_and, b_and, b_or, b_and, u8_back, u8_back, u8_back]
  congr 2
  ext i hi
  simp
  cases (BitVec.ofInt 8 f)[i] <;> cases (BitVec.ofInt 8 x)[i] <;> simp
theorem again_torn (f x m : Int) : tpb (tpb f x m) x 255 = tpb f x 255 := by
  rw [tpb_full, tpb_full]
  unfold tpb
  rw [b_and, b_and, b_or, b_and, u8_back, u8_back]
  congr 2
  ext i hi
  simp
  cases (BitVec.ofInt 8 f)[i] <;> cases (BitVec.ofInt 8 x)[i] <;> simp
theorem and_er (f m : Int) (h0 : 0 ≤ f) (h1 : f < 256) : bits .and .u8 (erb f m) f = f := by
  unfold erb
  rw [b_and, b_or, u8_back]
  conv => rhs; rw [← byte_back h0 h1]
  congr 2
  ext i hi
  simp
  cases (BitVec.ofInt 8 f)[i] <;> simp
theorem or_self (f : Int) (h0 : 0 ≤ f) (h1 : f < 256) : bits .or .u8 f f = f := by
  rw [b_or, BitVec.or_self, byte_back h0 h1]
theorem and_self (f : Int) (h0 : 0 ≤ f) (h1 : f < 256) : bits .and .u8 f f = f := by
  rw [b_and, BitVec.and_self, byte_back h0 h1]

theorem torn_or (bs l ms : List Int) (I k K : Nat) (hK : K < bs.length) (hb : ∀ x ∈ bs, 0 ≤ x ∧ x < 256) : bits .or .u8 ((tn (pf l ms) bs I k).getD K 0) (bs.getD K 0) = bs.getD K 0 := by
  have h := get_byte hb hK
  rw [tn_get _ _ _ _ _ hK]
  split
  · exact or_torn _ _ _ h.1 h.2
  · exact or_self _ h.1 h.2
theorem torn_and (bs l ms : List Int) (I k K : Nat) (hK : K < bs.length) (hb : ∀ x ∈ bs, 0 ≤ x ∧ x < 256) : bits .and .u8 ((tn (pf l ms) bs I k).getD K 0) ((tn (pf l [255]) bs I k).getD K 0) = (tn (pf l [255]) bs I k).getD K 0 := by
  have h := get_byte hb hK
  rw [tn_get _ _ _ _ _ hK, tn_get _ _ _ _ _ hK]
  split
  · unfold pf
    rw [mk_255]
    exact and_torn _ _ _
  · exact and_self _ h.1 h.2
theorem torn_er (bs ms : List Int) (I k K : Nat) (hK : K < bs.length) (hb : ∀ x ∈ bs, 0 ≤ x ∧ x < 256) : bits .and .u8 ((tn (ef ms) bs I k).getD K 0) (bs.getD K 0) = bs.getD K 0 := by
  have h := get_byte hb hK
  rw [tn_get _ _ _ _ _ hK]
  split
  · exact and_er _ _ h.1 h.2
  · exact and_self _ h.1 h.2
theorem torn_again (bs l ms : List Int) (I k : Nat) : tn (pf l [255]) (tn (pf l ms) bs I k) I k = tn (pf l [255]) bs I k := by
  refine List.ext_getElem (by rw [tn_len, tn_len, tn_len]) fun j h1 h2 => ?_
  have hj : j < bs.length := by rw [tn_len] at h2; exact h2
  have e1 := tn_get (pf l [255]) (tn (pf l ms) bs I k) I k j (by rw [tn_len]; exact hj)
  have e2 := tn_get (pf l [255]) bs I k j hj
  have e3 := tn_get (pf l ms) bs I k j hj
  simp only [List.getD_eq_getElem?_getD, List.getElem?_eq_getElem h1, Option.getD_some] at e1
  simp only [List.getD_eq_getElem?_getD, List.getElem?_eq_getElem h2, Option.getD_some] at e2
  rw [e1, e2]
  split
  · rename_i h
    have e4 : (tn (pf l ms) bs I k)[j]?.getD 0 = pf l ms (j - I) (bs[j]?.getD 0) := by
      have := e3
      rw [if_pos h] at this
      simpa [List.getD_eq_getElem?_getD] using this
    rw [e4]
    unfold pf
    rw [mk_255, again_torn]
  · rename_i h
    have := e3
    rw [if_neg h] at this
    simpa [List.getD_eq_getElem?_getD] using this
theorem most_ge (ws : List Int) (S : Nat) (hS : S < ws.length) : ws.getD S 0 ≤ ws.foldl max 0 := by
  have step : ∀ k, S < k → k ≤ ws.length → ws.getD S 0 ≤ (ws.take k).foldl max 0 := by
    intro k
    induction k with
    | zero => intro h; omega
    | succ k ih =>
      intro h1 h2
      rw [most_snoc ws k (by omega)]
      by_cases hk : S = k
      · subst hk; exact Int.le_max_right _ _
      · exact Int.le_trans (ih (by omega) (by omega)) (Int.le_max_left _ _)
  have := step ws.length hS (Nat.le_refl _)
  rwa [List.take_length] at this
end Go.Proofs.Ytcnlpdpbkkjkoaa
