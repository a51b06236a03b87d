/-
  What is proved here: the contract of the program's Sha256, for every slice. Where the program's three tables hold what its text lays into them.
-/
import Derived.Test.YtgapfkiceolceaaDoorSi
import Derived.Test.YtgapfkiceolceaaDoorSh
namespace Go.Proofs.YtgapfkiceolceaaDoor
set_option maxRecDepth 100000
open Go.RowKit

theorem H0_ok : shaOk H0 0 [] = true := by
  unfold shaOk
  simp only [Bool.and_eq_true, decide_eq_true_eq]
  exact ⟨(isW_iff H0).2 ⟨H0_len, H0_words⟩, by omega, by omega, by simp⟩
theorem addOk_H0 (bs : List Int) : addOk H0 0 [] bs = decide (bs.length ≤ 20000) := by
  unfold addOk
  rw [H0_ok, Bool.true_and]
  congr 1
  simp only [eq_iff_iff]
  omega
theorem addH_ints (hs : List Int) (N : Int) (ts bs : List Int) : ∀ x ∈ addH hs N ts bs, -9223372036854775808 ≤ x ∧ x ≤ 9223372036854775807 := by
  unfold addH
  split
  · rename_i h
    unfold addOk at h
    simp only [Bool.and_eq_true] at h
    exact words_int (fld_word (shaOk_parts h.1).2.1 _ _)
  · simp
theorem addT_bytes (hs : List Int) (N : Int) {ts bs : List Int} (h1 : ∀ x ∈ ts, 0 ≤ x ∧ x < 256) (h2 : ∀ x ∈ bs, 0 ≤ x ∧ x < 256) : ∀ x ∈ addT hs N ts bs, 0 ≤ x ∧ x < 256 := by
  unfold addT
  split
  · refine drop_byte (fun x hx => ?_)
    rcases List.mem_append.1 hx with h | h
    · exact h1 x h
    · exact h2 x h
  · simp

set_option maxHeartbeats 1000000 in
theorem implSha256 (a : Option Addr) (n c : Nat) (bs : List Int) (w : World) (hB : Bs w a n c bs) (ht : Tabs w) (hf : TabF w) :
    Calls Tryd.prog 21 #[.slice a n c] w fun e w' => ∃ v, e = .returned v ∧ w'.ownsRow w.heap.size 5 1 v (s256 bs).length (U8 (s256 bs)) ∧ Below w.heap.size w w' := by
  have hbl := hB.2.1
  have HN := implShaNew
  have hbb := hB.2.2.2.1
  have hend : bs.length ≤ 20000 → endOf (addH H0 0 [] bs) (addN H0 0 [] bs) (addT H0 0 [] bs) = sumOf bs := fun h => (end_of_add h H0_ok).2.2
  have hok := addOk_H0 bs
  have hin := addH_ints H0 0 [] bs
  have hby := addT_bytes H0 0 (ts := []) (bs := bs) (by simp) hbb
  obtain ⟨H, hH⟩ : ∃ H, H = H0 := ⟨_, rfl⟩
  have hwi : ∀ x ∈ H, -9223372036854775808 ≤ x ∧ x ≤ 9223372036854775807 := by rw [hH]; exact words_int H0_words
  rw [← hH] at HN hend hok hin hby
  have HI := fun a1 c1 w h1 h2 h3 ht => implShaAdd a1 8 c1 0 none 0 0 H [] a n c bs w h1 h2 h3 ht
  generalize addH H 0 [] bs = LH at HI hend hin
  generalize addN H 0 [] bs = M at HI hend
  generalize addT H 0 [] bs = LT at HI hend hby
  rw [hok] at HI
  have HN' : Hid _ := HN
  have HI' : Hid _ := HI
  have HWI : Hid _ := hwi
  have HIN : Hid _ := hin
  have HBY : Hid _ := hby
  have HEND : Hid _ := hend
  obtain ⟨S, hS⟩ : ∃ S, S = s256 bs := ⟨_, rfl⟩
  have hS1 : bs.length ≤ 20000 → S = sumOf bs := fun h => by rw [hS]; unfold s256; rw [if_pos h]
  have hS2 : ¬ bs.length ≤ 20000 → S = [] := fun h => by rw [hS]; unfold s256; rw [if_neg h]
  rw [← hS]
  have HS1 : Hid _ := hS1
  have HS2 : Hid _ := hS2
  obtain ⟨q, hq⟩ : ∃ q : Bool, q = decide (bs.length ≤ 20000) := ⟨_, rfl⟩
  rw [← hq] at HI'
  have hq' : (q = false ∧ ¬ bs.length ≤ 20000) ∨ (q = true ∧ bs.length ≤ 20000) := by
    by_cases h : bs.length ≤ 20000
    · exact .inr ⟨by rw [hq]; simp [h], h⟩
    · exact .inl ⟨by rw [hq]; simp [h], h⟩
  clear hH hS hS1 hS2 hq HN HI hwi hin hby hend hok hbb
  go_enter Tryd.func21, Tryd.ntmps21
  go_wp2_with fail
  refine (HN'.out _ hf).mono ?_
  rintro e w1 ⟨a1, c1, rfl, o1, b1⟩
  go_wp2_with fail
  refine (HI'.out a1 c1 _ (is_of_own o1 HWI.out) (bs_none _) (hB.below b1) (ht.below b1)).mono ?_
  rintro e w2 ⟨v2, rfl, ⟨a2, c2, a3, c3, rfl, o2⟩, b2⟩
  have B2 := b1.trans (b2.mono b1.size)
  have S2 := Sh.of_own o2 M
  obtain ⟨mH, emH⟩ : ∃ m, m = LH.length := ⟨_, rfl⟩
  obtain ⟨mT, emT⟩ : ∃ m, m = LT.length := ⟨_, rfl⟩
  rw [← emH, ← emT] at S2 ⊢
  have B3 : Below w.heap.size w (w2.alloc (.cells #[.slice a2 mH c2, .int .i64 M, .slice a3 mT c3] 27)) := B2.alloc B2.size _
  have HS3 : Hid _ := S2
  have HB3 : Hid _ := B3
  clear o1 o2 b1 b2 B2 emH emT S2 B3
  rcases hq' with ⟨rfl, hl⟩ | ⟨rfl, hl⟩
  · have e1 : S = [] := HS2.out hl
    have HE1 : Hid _ := e1
    clear e1
    go_wp2
    go_ret
    refine ⟨_, rfl, ?_, HB3.out⟩
    rw [HE1.out]
    exact World.ownsRow_nil _ _ _ _
  have e1 : endOf LH M LT = S := (HEND.out hl).trans (HS1.out hl).symm
  have HE1 : Hid _ := e1
  clear e1
  obtain ⟨W3, hW3⟩ : ∃ W3, W3 = w2.alloc (.cells #[.slice a2 mH c2, .int .i64 M, .slice a3 mT c3] 27) := ⟨_, rfl⟩
  rw [← hW3] at HS3 HB3
  go_wp2_with fail
  rw [← hW3]
  refine (implShaEnd a2 mH c2 M a3 mT c3 LH LT _ (is_of_own HS3.out.oh HIN.out) (bs_of_own HS3.out.ot HBY.out) (ht.below HB3.out)).mono ?_
  rintro e w4 ⟨v4, rfl, o4, b4⟩
  rw [HE1.out] at o4
  have B4 := HB3.out.trans (b4.mono HB3.out.size)
  have o4' := own_base o4 HB3.out.size
  clear o4 b4
  go_wp2
  go_ret
  exact ⟨_, rfl, o4', B4⟩
end Go.Proofs.YtgapfkiceolceaaDoor
