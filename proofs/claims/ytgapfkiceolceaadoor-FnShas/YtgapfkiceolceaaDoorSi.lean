/-
  What is proved here: contracts of both Sha256s and of the specification's l2sum, for every slice of at most 2^20 bytes. Where the program's three tables hold what its text lays into them.
-/
import Derived.Test.YtgapfkiceolceaaDoorSf
import Derived.Test.YtgapfkiceolceaaDoorNw
namespace Go.Proofs.YtgapfkiceolceaaDoor
set_option maxRecDepth 100000
open Go.RowKit

theorem restB_len' (l : List Int) : (restB l).length = l.length % 64 := by unfold restB; simp; omega
/-- The sum of a message. -/
def sumOf (bs : List Int) : List Int := sumB (allB (allB H0 bs) (restB bs ++ padB bs.length))
theorem sumOf_len (bs : List Int) : (sumOf bs).length = 32 := by
  unfold sumOf
  rw [sumB_len, show (allB (allB H0 bs) (restB bs ++ padB bs.length)).length = 8 from fld_len (fld_len rfl _ _) _ _]
theorem sumOf_byte (bs : List Int) : ∀ y ∈ sumOf bs, 0 ≤ y ∧ y < 256 := sumB_byte _
/-- What Sha256 answers. -/
def s256 (bs : List Int) : List Int := if bs.length ≤ 20000 then sumOf bs else []
theorem s256_len (bs : List Int) : (s256 bs).length ≤ 32 := by unfold s256; split <;> simp [sumOf_len]
theorem s256_byte (bs : List Int) : ∀ y ∈ s256 bs, 0 ≤ y ∧ y < 256 := by
  unfold s256
  split
  · exact sumOf_byte bs
  · simp

theorem end_of_add {bs : List Int} (h : bs.length ≤ 20000) (hb : shaOk H0 0 [] = true) :
    addOk H0 0 [] bs = true ∧ shaOk (addH H0 0 [] bs) (addN H0 0 [] bs) (addT H0 0 [] bs) = true ∧ endOf (addH H0 0 [] bs) (addN H0 0 [] bs) (addT H0 0 [] bs) = sumOf bs := by
  have ho : addOk H0 0 [] bs = true := by unfold addOk; rw [hb]; simp; omega
  have eH : addH H0 0 [] bs = allB H0 bs := by unfold addH; rw [ho]; rfl
  have eN : addN H0 0 [] bs = (bs.length : Int) := by unfold addN; rw [ho]; simp
  have eT : addT H0 0 [] bs = restB bs := by unfold addT; rw [ho]; rfl
  rw [eH, eN, eT]
  have hk : shaOk (allB H0 bs) (bs.length : Int) (restB bs) = true := by
    unfold shaOk
    simp only [Bool.and_eq_true, decide_eq_true_eq]
    refine ⟨(isW_iff _).2 ⟨fld_len rfl _ _, fld_word H0_words _ _⟩, by omega, by omega, ?_⟩
    rw [restB_len']
    omega
  refine ⟨ho, hk, ?_⟩
  unfold endOf sumOf
  rw [hk]
  rfl

theorem bs_none (W : World) : Bs W none 0 0 [] := ⟨fun _ => rfl, rfl, Nat.le_refl _, by simp, .inl rfl⟩

theorem sum_of_parts {H bs : List Int} (hH : H = H0) : sumB (allB (allB H ([] ++ bs)) (restB ([] ++ bs) ++ padB bs.length)) = sumOf bs := by
  rw [hH, List.nil_append]
  unfold sumOf
  with_reducible rfl
theorem H0_len : H0.length = 8 := rfl

set_option maxHeartbeats 1000000 in
theorem specL2sum (a : Option Addr) (n c : Nat) (bs : List Int) (w : World) (hB : Bs w a n c bs) (hn : n ≤ 20000) :
    Calls Tryd.prog 83 #[.slice a n c] w fun e w' => ∃ v, e = .returned v ∧ w'.ownsRow w.heap.size 5 1 v 32 (U8 (sumOf bs)) ∧ Below w.heap.size w w' := by
  have hbl := hB.2.1
  have HN := specShaNew
  obtain ⟨H, hH⟩ : ∃ H, H = H0 := ⟨_, rfl⟩
  have h8 : H.length = 8 := by rw [hH]; exact H0_len
  have hwd : ∀ x ∈ H, 0 ≤ x ∧ x < 4294967296 := by rw [hH]; exact H0_words
  have hsum := sum_of_parts (bs := bs) hH
  rw [← hH] at HN
  obtain ⟨S, hS⟩ : ∃ S, S = sumOf bs := ⟨_, rfl⟩
  rw [← hS] at hsum ⊢
  have HN' : Hid _ := HN
  have HWD : Hid _ := hwd
  have HSUM : Hid _ := hsum
  have hbb := hB.2.2.2.1
  have HBB : Hid _ := hbb
  clear hH hS HN hwd hsum hbb
  go_enter Tryd.func83, Tryd.ntmps83
  go_wp2_with fail
  refine (HN'.out _).mono ?_
  rintro e w1 ⟨a1, c1, rfl, o1, b1⟩
  go_wp2_with fail
  refine (specAdd a1 c1 0 none 0 0 H [] a n c bs _ (is_of_own o1 (words_int HWD.out)) HWD.out (bs_none _) (hB.below b1) (by omega) (by omega) (by omega) (by omega)).mono ?_
  rintro e w2 ⟨v2, rfl, ⟨a2, c2, a3, c3, rfl, o2⟩, b2⟩
  have hAL : (allB H ([] ++ bs)).length = 8 := fld_len h8 _ _
  have HAW : Hid (∀ x ∈ allB H ([] ++ bs), 0 ≤ x ∧ x < 4294967296) := fld_word HWD.out _ _
  have hRL : (restB ([] ++ bs)).length ≤ 20000 := by have := restB_len ([] ++ bs); rw [List.nil_append] at this ⊢; omega
  have hbyR : ∀ x ∈ restB ([] ++ bs), 0 ≤ x ∧ x < 256 := drop_byte (by rw [List.nil_append]; exact HBB.out)
  have B2 := b1.trans (b2.mono b1.size)
  have s2 := B2.size
  have hNe : (0 : Int) + (bs.length : Int) = (bs.length : Int) := by omega
  rw [hAL] at o2 ⊢
  rw [hNe]
  have hfin : sumB (allB (allB H ([] ++ bs)) (restB ([] ++ bs) ++ padB bs.length)) = S := HSUM.out
  generalize allB H ([] ++ bs) = A at o2 hAL HAW hfin
  generalize restB ([] ++ bs) = R at o2 hRL hbyR hfin ⊢
  have IA := is_of_own o2.oh (words_int HAW.out)
  have BR := bs_of_own o2.ot hbyR
  obtain ⟨rl, hrl⟩ : ∃ rl, rl = R.length := ⟨_, rfl⟩
  rw [← hrl] at BR hRL ⊢
  obtain ⟨M, hM⟩ : ∃ M : Int, M = (bs.length : Int) := ⟨_, rfl⟩
  rw [← hM] at hfin ⊢
  have hM0 : 0 ≤ M := by omega
  have hM1 : M ≤ 20000 := by omega
  have HF : Hid _ := hfin
  clear o2 o1 b1 b2 hbyR hfin HSUM hM hrl hNe
  go_wp2_with fail
  refine (specEnd a2 c2 M a3 rl c3 A R _ IA HAW.out BR hM0 hM1 (by omega)).mono ?_
  rintro e w3 ⟨v3, rfl, o3, b3⟩
  have B3 := B2.trans (b3.mono B2.size)
  rw [HF.out] at o3
  have o3' := own_base o3 s2
  clear o3 b3 IA BR B2
  go_wp2
  go_ret
  exact ⟨_, rfl, o3', B3⟩

set_option maxHeartbeats 1000000 in
theorem specSha256 (a : Option Addr) (n c : Nat) (bs : List Int) (w : World) (hB : Bs w a n c bs) :
    Calls Tryd.prog 49 #[.slice a n c] w fun e w' => ∃ v, e = .returned v ∧ w'.ownsRow w.heap.size 5 1 v (s256 bs).length (U8 (s256 bs)) ∧ Below w.heap.size w w' := by
  have hbl := hB.2.1
  by_cases hn : 20000 < (n : Int)
  · have he : s256 bs = [] := by unfold s256; rw [if_neg (by omega)]
    have HE : Hid _ := he
    clear he
    go_enter Tryd.func49, Tryd.ntmps49
    go_wp2
    go_ret
    refine ⟨_, rfl, ?_, Below.refl _ _⟩
    rw [HE.out]
    exact World.ownsRow_nil _ _ _ _
  have he : s256 bs = sumOf bs := by unfold s256; rw [if_pos (by omega)]
  have HE : Hid _ := he
  clear he
  go_enter Tryd.func49, Tryd.ntmps49
  go_wp2_with fail
  refine (specL2sum a n c bs _ hB (by omega)).mono ?_
  rintro e w1 ⟨v1, rfl, o1, b1⟩
  have O1 : Hid (w1.ownsRow w.heap.size 5 1 v1 (s256 bs).length (U8 (s256 bs))) := by
    unfold Hid
    rw [HE.out, sumOf_len]
    exact o1
  clear o1
  go_wp2
  go_ret
  exact ⟨_, rfl, O1.out, b1⟩
end Go.Proofs.YtgapfkiceolceaaDoor
