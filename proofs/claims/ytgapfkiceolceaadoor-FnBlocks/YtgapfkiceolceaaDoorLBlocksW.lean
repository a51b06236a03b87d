/-
  What is proved here: the law FnBlocks returns true at every code, and writes into nothing that was there; where the program's three tables hold what its text lays into them.
-/
import Derived.Test.YtgapfkiceolceaaDoorBd
import Derived.Test.YtgapfkiceolceaaDoorHh
namespace Go.Proofs.YtgapfkiceolceaaDoor
set_option maxRecDepth 100000
open Go.RowKit

theorem block_of {hs bl : List Int} (h : sbOk hs bl = true) :
    addOk hs 0 [] bl = true ∧ addH hs 0 [] bl = sbOf hs bl ∧ addN hs 0 [] bl = 64 ∧ addT hs 0 [] bl = [] ∧ (sbOf hs bl).length = 8 ∧ ∀ x ∈ sbOf hs bl, -9223372036854775808 ≤ x ∧ x ≤ 9223372036854775807 := by
  have hy := sbOf_yes h
  unfold sbOk at h
  simp only [Bool.and_eq_true, decide_eq_true_eq] at h
  obtain ⟨hw, hl⟩ := h
  have h8 := ((isW_iff hs).1 hw).1
  have hk : shaOk hs 0 [] = true := by
    unfold shaOk
    simp only [Bool.and_eq_true, decide_eq_true_eq]
    exact ⟨hw, by omega, by omega, by simp⟩
  have ho : addOk hs 0 [] bl = true := by unfold addOk; rw [hk]; simp; omega
  have eb : allB hs bl = blk hs bl := by
    unfold allB
    rw [hl]
    show blk (fld hs bl 0) ((bl.drop (64 * 0)).take 64) = blk hs bl
    rw [Nat.mul_zero, List.drop_zero, List.take_of_length_le (by omega)]
    rfl
  have er : restB bl = [] := by
    unfold restB
    rw [hl]
    exact List.drop_eq_nil_of_le (by omega)
  rw [hy]
  refine ⟨ho, ?_, ?_, ?_, blk_len h8 _, words_int (blk_word _ _)⟩
  · unfold addH; rw [ho, if_pos rfl, List.nil_append, eb]
  · unfold addN; rw [ho, if_pos rfl, hl]; rfl
  · unfold addT; rw [ho, if_pos rfl, List.nil_append, er]

set_option maxHeartbeats 4000000 in
theorem walk_fnBlocks (w : World) (ab : Option Addr) (nb cb : Nat) (bs : List Int) (hB : Bs w ab nb cb bs) (hnb : nb ≤ 140737488351232) (ht : Tabs w ∧ TabF w) :
    Calls Tryd.prog 4 #[.slice ab nb cb] w fun e w' => e = .returned (.bool true) ∧ Below w.heap.size w w' := by
  have HT : Hid _ := ht
  clear ht
  go_enter Tryd.func4, Tryd.ntmps4
  go_wp2_with fail
  refine (drawShaBlock ab nb cb bs _ hB (by omega)).mono ?_
  rintro e w1 ⟨aH, nH, cH, hs, v1, bl, rfl, hn8, I1, hbl, hblb, o1, b1⟩
  obtain ⟨aB, cB, rfl, _, B1⟩ := Bs.own o1 hblb
  have HBB : Hid _ := hblb
  clear hblb o1
  obtain ⟨m, hm⟩ : ∃ m, m = bl.length := ⟨_, rfl⟩
  rw [← hm] at hbl B1 ⊢
  have HI := fun w h1 h2 ht => implShaBlock aH nH cH hs aB m cB bl w h1 h2 ht
  have HA := fun w h1 h2 h3 ht => implShaAdd aH nH cH 0 none 0 0 hs [] aB m cB bl w h1 h2 h3 ht
  have HC : Hid (sbOk hs bl = false → sbOf hs bl = []) := sbOf_no
  have HD : Hid (sbOk hs bl = true → addOk hs 0 [] bl = true ∧ addH hs 0 [] bl = sbOf hs bl ∧ addN hs 0 [] bl = 64 ∧ addT hs 0 [] bl = [] ∧ (sbOf hs bl).length = 8 ∧ ∀ x ∈ sbOf hs bl, -9223372036854775808 ≤ x ∧ x ≤ 9223372036854775807) := block_of
  obtain ⟨S, hS⟩ : ∃ S, S = sbOf hs bl := ⟨_, rfl⟩
  obtain ⟨q, hq⟩ : ∃ q, q = sbOk hs bl := ⟨_, rfl⟩
  rw [← hS, ← hq] at HI HC HD
  have HI' : Hid _ := HI
  have HA' : Hid _ := HA
  clear HI HA hS hq hm
  go_wp2_with fail
  refine (HI'.out _ I1 B1 (HT.out.1.below b1)).mono ?_
  rintro e w2 ⟨v2, rfl, o2, b2⟩
  have B2 := b1.trans (b2.mono b1.size)
  cases q with
  | false =>
    have hS0 : S = [] := HC.out rfl
    subst hS0
    obtain ⟨a2, c2, rfl, _, _⟩ := Is.own o2 (by simp)
    clear o2 b2 b1 I1 B1
    go_wp2_with fail
    refine (hashesT _ (HT.out.1.below B2) (HT.out.2.below B2)).mono ?_
    rintro e w3 ⟨rfl, b3⟩
    have fr := B2.trans (b3.mono B2.size)
    clear b3 B2
    go_wp2
    go_ret
    exact ⟨rfl, fr⟩
  | true =>
    obtain ⟨k1, k2, k3, k4, k5, k6⟩ := HD.out rfl
    have HA := HA'.out
    rw [k1, k2, k3, k4] at HA
    have HA2 : Hid _ := HA
    have HK6 : Hid _ := k6
    obtain ⟨a2, c2, rfl, _, _⟩ := Is.own o2 k6
    rw [k5] at o2 ⊢
    have I2 := I1.below b2
    have Bb2 := B1.below b2
    clear HA HA' HD HC HI' k1 k2 k3 k4 k6 b1 b2 I1 B1
    go_wp2_with fail
    refine (HA2.out _ I2 (bs_none _) Bb2 (HT.out.1.below B2)).mono ?_
    rintro e w3 ⟨v3, rfl, ⟨a3, c3, a4, c4, rfl, o3⟩, b3⟩
    rw [k5, List.length_nil] at o3 ⊢
    have S3 := Sh.of_own o3 64
    have B3 := (B2.trans (b3.mono B2.size)).alloc (Nat.le_trans B2.size b3.size) (.cells #[.slice a3 8 c3, .int .i64 64, .slice a4 0 c4] 27)
    have o2' := (own_below o2 b3).alloc (.cells #[.slice a3 8 c3, .int .i64 64, .slice a4 0 c4] 27)
    have IG := is_of_own S3.oh HK6.out
    have IX := is_of_own o2' HK6.out
    obtain ⟨W3, hW3⟩ : ∃ W3, W3 = w3.alloc (.cells #[.slice a3 8 c3, .int .i64 64, .slice a4 0 c4] 27) := ⟨_, rfl⟩
    have q3 := S3.cells
    have c3' := (S3.p.drewN 0)
    rw [← hW3] at IG IX B3 S3
    have hsw := S3.p.lt
    clear o2 o2' b3 B2 I2 Bb2 o3 c3'
    go_wp2_with fail
    rw [← hW3]
    clear hW3 q3
    refine (sameIntsT a3 a2 8 c3 c2 S _ IG IX (by omega)).mono ?_
    rintro e w4 ⟨qq, rfl, rfl⟩
    have B4 := B3.trans ((bel_drewN W3 qq).mono B3.size)
    have q4 := (S3.below (bel_drewN W3 qq)).cells
    clear IG IX B3 S3
    go_wp2
    go_ret
    exact ⟨rfl, B4⟩
end Go.Proofs.YtgapfkiceolceaaDoor
