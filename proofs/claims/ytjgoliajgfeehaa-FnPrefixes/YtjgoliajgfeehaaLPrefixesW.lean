/-
  What is proved here: the law on prefixes returns true at every code, and writes into nothing that was there.
-/
import Derived.Test.YtjgoliajgfeehaaDraw3
import Derived.Test.YtjgoliajgfeehaaPrefM
import Derived.Test.YtjgoliajgfeehaaCat
namespace Go.Proofs.Ytjgoliajgfeehaa
open Go.RowKit
open Ma

set_option maxHeartbeats 4000000 in
theorem walk_fnPrefixes (w : World) (a : Option Addr) (n c : Nat) (xs : List Int) (h : Bs w a n c xs) (hm : n ≤ 9223372036854775807) :
    Calls Try.prog 4 #[.slice a n c] w fun e w' => e = .returned (.bool true) ∧ Below w.heap.size w w' := by
  go_enter Try.func4, Try.ntmps4
  go_wp2_with fail
  refine (drawCommon a n c xs _ h hm).mono ?_
  rintro e w1 ⟨vA, A, vB, B, rfl, hA6, hB9, RA, RB, hnB, b1⟩
  obtain ⟨aA, cA, rfl, adA, hA⟩ := RA.slice
  obtain ⟨aB, cB, rfl, adB, hB⟩ := RB.slice
  obtain ⟨bB, oB, rfl⟩ : ∃ b o, aB = some ⟨b, o, none⟩ := by
    rcases adB with ⟨rfl, h1, rfl⟩ | hh
    · exact absurd (by rw [h1]) hnB
    · exact hh
  clear RA RB hnB adB
  go_wp2_with fail
  refine (implComF aA (some ⟨bB, oB, none⟩) _ _ cA cB A B _ hA hB (by omega) (by omega)).mono ?_
  rintro e w2 ⟨rfl, q2, rfl⟩
  have b2 := b1.trans ((bel_drewN w1 q2).mono b1.size)
  have hA2 := hA.below (bel_drewN w1 q2)
  have hB2 := hB.below (bel_drewN w1 q2)
  clear hA hB b1
  go_wp2_with fail
  refine (drawHasPrefix a n c xs _ (h.below b2) hm).mono ?_
  rintro e w3 ⟨vC, C, vP, Pl, rfl, hC6, hP6, RC, RP, b3⟩
  obtain ⟨aC, cC, rfl, adC, hC⟩ := RC.slice
  obtain ⟨aP, cP, rfl, adP, hP⟩ := RP.slice
  have hCb := RC.2
  have hPb := RP.2
  have hA3 := hA2.below b3
  have hB3 := hB2.below b3
  have g3 := b2.trans (b3.mono b2.size)
  clear RC RP hA2 hB2 b2 b3
  go_wp2_with fail
  refine (drawNumLen a n c xs _ (h.below g3) hm).mono ?_
  rintro e w4 ⟨X, rfl, hX0, hX1, b4⟩
  have hA4 := hA3.below b4
  have hB4 := hB3.below b4
  have hC4 := hC.below b4
  have hP4 := hP.below b4
  have g4 := g3.trans (b4.mono g3.size)
  clear hA3 hB3 hC hP g3 b4 h hm
  -- the plain facts
  have hk1 := (comF_is A B).l1
  have hk2 := (comF_is A B).l2
  have hst := (comF_is A B).stop
  have htk := comF_take A B
  have hsy := comF_symm A B
  have hself := hp_self A B
  have hpc := hp_com C Pl hCb hPb
  clear hCb hPb
  generalize comF A B = k at hk1 hk2 hst htk hsy hself ⊢
  have S1 : Hid _ := fun q => sameT aA (some ⟨bB, oB, none⟩) k cA k cB (A.take k) (B.take k) (w4.drewN q) ((hA4.take k hk1).below (bel_drewN w4 q)) ((hB4.take k hk2).below (bel_drewN w4 q)) htk
  have S2 := fun q => implComF (some ⟨bB, oB, none⟩) aA _ _ cB cA B A (w4.drewN q) (hB4.below (bel_drewN w4 q)) (hA4.below (bel_drewN w4 q)) (by omega) (by omega)
  rw [hsy] at S2
  have S2' : Hid _ := S2
  have T1 := fun aA aB adA q h h' => implPreF aA aB A.length cA k cB A (B.take k) (w4.drewN q) h h' adA (by omega) (by omega)
  rw [hself] at T1
  have T1' : Hid _ := T1
  have T2 := fun q => implPreF aC aP _ cC _ cP C Pl (w4.drewN q) (hC4.below (bel_drewN w4 q)) (hP4.below (bel_drewN w4 q)) adC (by omega) (by omega)
  rw [hpc] at T2
  have T3 := fun q => implComF aC aP _ _ cC cP C Pl (w4.drewN q) (hC4.below (bel_drewN w4 q)) (hP4.below (bel_drewN w4 q)) (by omega) (by omega)
  generalize comF C Pl = d at T2 T3
  have T2' : Hid _ := T2
  have T3' : Hid _ := T3
  clear S2 htk hsy hpc hself T1 T2 T3
  have HL := implLen X
  have HL2 := implLen 200
  have HPu := fun w => implPut none 0 0 [] X w ⟨fun _ => rfl, rfl, Nat.le_refl _, by simp, .inl rfl⟩ (by omega)
  have e200 : (((numB 200).length : Nat) : Int) = 2 := by rw [show numB 200 = [200 % 128 + 128, 200 / 128] by unfold numB; simp]; rfl
  rw [e200] at HL2
  generalize numB X = D at HL HPu
  have HL' : Hid _ := HL
  have HL2' : Hid _ := HL2
  have HPu' : Hid _ := HPu
  clear HL HL2 HPu e200
  have hkk : ((k : Int) != (k : Int)) = false := by simp
  have d1 : decide (A.length < k) = false := by simp; omega
  have d2 : decide (B.length < k) = false := by simp; omega
  have hcA := hA4.2.2.1
  have hcB := hB4.2.2.1
  by_cases e1 : k < A.length
  · by_cases e2 : k < B.length
    · rcases adA with ⟨_, hh, _⟩ | ⟨bA, oA, rfl⟩
      · omega
      have adA' : Ad (some ⟨bA, oA, none⟩) A.length cA := .inr ⟨bA, oA, rfl⟩
      have hne : A.getD k 0 ≠ B.getD k 0 := by rcases hst with h1 | h1 | h1; omega; omega; exact h1
      obtain ⟨x, hx⟩ : ∃ x, x = A.getD k 0 := ⟨_, rfl⟩
      obtain ⟨y, hy⟩ : ∃ y, y = B.getD k 0 := ⟨_, rfl⟩
      rw [← hx, ← hy] at hne
      have hxy : (x == y) = false := by simpa using hne
      have ckA : w4.cell? ⟨bA, oA + k, none⟩ = some (.int .u8 x) := by
        obtain ⟨_, _, _, _, hh⟩ := hA4
        rcases hh with hh | ⟨b', o', he, _, hc'⟩
        · omega
        · simp only [Option.some.injEq, Addr.mk.injEq, and_true] at he; obtain ⟨rfl, rfl⟩ := he; rw [hx]; exact hc' k e1
      have ckB : w4.cell? ⟨bB, oB + k, none⟩ = some (.int .u8 y) := by
        obtain ⟨_, _, _, _, hh⟩ := hB4
        rcases hh with hh | ⟨b', o', he, _, hc'⟩
        · omega
        · simp only [Option.some.injEq, Addr.mk.injEq, and_true] at he; obtain ⟨rfl, rfl⟩ := he; rw [hy]; exact hc' k e2
      have i0 : (0 : Int) ≤ (k : Int) := by omega
      have i1 : (k : Int) < (A.length : Int) := by omega
      have i2 : (k : Int) < (B.length : Int) := by omega
      have i3 : (k : Int) ≤ (cA : Int) := by omega
      have i4 : (k : Int) ≤ (cB : Int) := by omega
      clear hne hx hy hst
      go_wp2
      go_quiet (first | (go_at_call 21; exact Calls.quiet_of_same (S1.out _)) | (go_at_call 24; exact Calls.quiet_of (S2'.out _)))
      go_wp2_with fail
      refine (T1'.out _ _ adA' _ (hA4.below (bel_drewN w4 _)) ((hB4.take k hk2).below (bel_drewN w4 _))).mono ?_
      rintro e w5 ⟨rfl, rfl⟩
      go_wp2_with fail
      refine (T2'.out _).mono ?_
      rintro e w6 ⟨rfl, rfl⟩
      go_wp2_with fail
      refine (T3'.out _).mono ?_
      rintro e w7 ⟨rfl, q7, rfl⟩
      clear S1 S2' T1' T2' T3'
      have fr7 := g4.trans ((bel_drewN w4 (nq + q7)).mono g4.size)
      by_cases hd : d = Pl.length
      · have z1 : ((d : Int) == (Pl.length : Int)) = true := by simp [hd]
        have z2 : decide (d = Pl.length) = true := by simp [hd]
        clear hd
        rw [z2]
        go_wp2_with fail
        refine (HL'.out _).mono ?_
        rintro e w8 ⟨rfl, b8⟩
        have fr8 := fr7.trans (b8.mono fr7.size)
        go_wp2_with fail
        refine (HPu'.out _).mono ?_
        rintro e w9 ⟨v9, rfl, o9, b9⟩
        have fr9 := fr8.trans (b9.mono fr8.size)
        obtain ⟨hl9, sh9⟩ := own_shape o9
        clear fr7 fr8 b8 b9 o9
        have zz : (((D.length : Nat) : Int) == ((D.length : Nat) : Int)) = true := by simp
        rcases sh9 with ⟨rfl, h9⟩ | ⟨g9, c9, rfl, _⟩
        · have hD0 : D.length = 0 := by omega
          go_wp2_with fail
          refine (HL2'.out _).mono ?_
          rintro e w10 ⟨rfl, b10⟩
          have fr10 := fr9.trans (b10.mono fr9.size)
          go_wp2
          go_ret
          exact ⟨rfl, fr10⟩
        · go_wp2_with fail
          refine (HL2'.out _).mono ?_
          rintro e w10 ⟨rfl, b10⟩
          have fr10 := fr9.trans (b10.mono fr9.size)
          go_wp2
          go_ret
          exact ⟨rfl, fr10⟩
      · have z1 : ((d : Int) == (Pl.length : Int)) = false := by simp; omega
        have z2 : decide (d = Pl.length) = false := by simp [hd]
        clear hd
        rw [z2]
        go_wp2_with fail
        refine (HL'.out _).mono ?_
        rintro e w8 ⟨rfl, b8⟩
        have fr8 := fr7.trans (b8.mono fr7.size)
        go_wp2_with fail
        refine (HPu'.out _).mono ?_
        rintro e w9 ⟨v9, rfl, o9, b9⟩
        have fr9 := fr8.trans (b9.mono fr8.size)
        obtain ⟨hl9, sh9⟩ := own_shape o9
        clear fr7 fr8 b8 b9 o9
        have zz : (((D.length : Nat) : Int) == ((D.length : Nat) : Int)) = true := by simp
        rcases sh9 with ⟨rfl, h9⟩ | ⟨g9, c9, rfl, _⟩
        · have hD0 : D.length = 0 := by omega
          go_wp2_with fail
          refine (HL2'.out _).mono ?_
          rintro e w10 ⟨rfl, b10⟩
          have fr10 := fr9.trans (b10.mono fr9.size)
          go_wp2
          go_ret
          exact ⟨rfl, fr10⟩
        · go_wp2_with fail
          refine (HL2'.out _).mono ?_
          rintro e w10 ⟨rfl, b10⟩
          have fr10 := fr9.trans (b10.mono fr9.size)
          go_wp2
          go_ret
          exact ⟨rfl, fr10⟩
    · have d4 : decide (k < B.length) = false := by simp; omega
      have i1 : (k : Int) < (A.length : Int) := by omega
      rcases adA with ⟨_, hh, _⟩ | ⟨bA, oA, rfl⟩
      · omega
      have adA' : Ad (some ⟨bA, oA, none⟩) A.length cA := .inr ⟨bA, oA, rfl⟩
      have i0 : (0 : Int) ≤ (k : Int) := by omega
      have i3 : ((k : Nat) : Int) ≤ ((cA : Nat) : Int) := by omega
      have i4 : ((k : Nat) : Int) ≤ (cB : Int) := by omega
      clear hst
      go_wp2
      go_quiet (first | (go_at_call 21; exact Calls.quiet_of_same (S1.out _)) | (go_at_call 24; exact Calls.quiet_of (S2'.out _)))
      go_wp2_with fail
      refine (T1'.out _ _ adA' _ (hA4.below (bel_drewN w4 _)) ((hB4.take k hk2).below (bel_drewN w4 _))).mono ?_
      rintro e w5 ⟨rfl, rfl⟩
      go_wp2_with fail
      refine (T2'.out _).mono ?_
      rintro e w6 ⟨rfl, rfl⟩
      go_wp2_with fail
      refine (T3'.out _).mono ?_
      rintro e w7 ⟨rfl, q7, rfl⟩
      clear S1 S2' T1' T2' T3'
      have fr7 := g4.trans ((bel_drewN w4 (nq + q7)).mono g4.size)
      by_cases hd : d = Pl.length
      · have z1 : ((d : Int) == (Pl.length : Int)) = true := by simp [hd]
        have z2 : decide (d = Pl.length) = true := by simp [hd]
        clear hd
        rw [z2]
        go_wp2_with fail
        refine (HL'.out _).mono ?_
        rintro e w8 ⟨rfl, b8⟩
        have fr8 := fr7.trans (b8.mono fr7.size)
        go_wp2_with fail
        refine (HPu'.out _).mono ?_
        rintro e w9 ⟨v9, rfl, o9, b9⟩
        have fr9 := fr8.trans (b9.mono fr8.size)
        obtain ⟨hl9, sh9⟩ := own_shape o9
        clear fr7 fr8 b8 b9 o9
        have zz : (((D.length : Nat) : Int) == ((D.length : Nat) : Int)) = true := by simp
        rcases sh9 with ⟨rfl, h9⟩ | ⟨g9, c9, rfl, _⟩
        · have hD0 : D.length = 0 := by omega
          go_wp2_with fail
          refine (HL2'.out _).mono ?_
          rintro e w10 ⟨rfl, b10⟩
          have fr10 := fr9.trans (b10.mono fr9.size)
          go_wp2
          go_ret
          exact ⟨rfl, fr10⟩
        · go_wp2_with fail
          refine (HL2'.out _).mono ?_
          rintro e w10 ⟨rfl, b10⟩
          have fr10 := fr9.trans (b10.mono fr9.size)
          go_wp2
          go_ret
          exact ⟨rfl, fr10⟩
      · have z1 : ((d : Int) == (Pl.length : Int)) = false := by simp; omega
        have z2 : decide (d = Pl.length) = false := by simp [hd]
        clear hd
        rw [z2]
        go_wp2_with fail
        refine (HL'.out _).mono ?_
        rintro e w8 ⟨rfl, b8⟩
        have fr8 := fr7.trans (b8.mono fr7.size)
        go_wp2_with fail
        refine (HPu'.out _).mono ?_
        rintro e w9 ⟨v9, rfl, o9, b9⟩
        have fr9 := fr8.trans (b9.mono fr8.size)
        obtain ⟨hl9, sh9⟩ := own_shape o9
        clear fr7 fr8 b8 b9 o9
        have zz : (((D.length : Nat) : Int) == ((D.length : Nat) : Int)) = true := by simp
        rcases sh9 with ⟨rfl, h9⟩ | ⟨g9, c9, rfl, _⟩
        · have hD0 : D.length = 0 := by omega
          go_wp2_with fail
          refine (HL2'.out _).mono ?_
          rintro e w10 ⟨rfl, b10⟩
          have fr10 := fr9.trans (b10.mono fr9.size)
          go_wp2
          go_ret
          exact ⟨rfl, fr10⟩
        · go_wp2_with fail
          refine (HL2'.out _).mono ?_
          rintro e w10 ⟨rfl, b10⟩
          have fr10 := fr9.trans (b10.mono fr9.size)
          go_wp2
          go_ret
          exact ⟨rfl, fr10⟩
  · have d3 : decide (k < A.length) = false := by simp; omega
    rcases adA with ⟨rfl, hA0, rfl⟩ | ⟨bA, oA, rfl⟩
    · have adA' : Ad none A.length 0 := .inl ⟨rfl, hA0, rfl⟩
      have i5 : (k : Int) ≤ 0 := by omega
      have HA0 : Hid (A.length = 0) := hA0
      clear hA0
      have i0 : (0 : Int) ≤ (k : Int) := by omega
      have i3 : ((k : Nat) : Int) ≤ ((0 : Nat) : Int) := by omega
      have i4 : ((k : Nat) : Int) ≤ (cB : Int) := by omega
      clear hst
      go_wp2
      go_quiet (first | (go_at_call 21; exact Calls.quiet_of_same (S1.out _)) | (go_at_call 24; exact Calls.quiet_of (S2'.out _)))
      go_wp2_with fail
      refine (T1'.out _ _ adA' _ (hA4.below (bel_drewN w4 _)) ((hB4.take k hk2).below (bel_drewN w4 _))).mono ?_
      rintro e w5 ⟨rfl, rfl⟩
      go_wp2_with fail
      refine (T2'.out _).mono ?_
      rintro e w6 ⟨rfl, rfl⟩
      go_wp2_with fail
      refine (T3'.out _).mono ?_
      rintro e w7 ⟨rfl, q7, rfl⟩
      clear S1 S2' T1' T2' T3'
      have fr7 := g4.trans ((bel_drewN w4 (nq + q7)).mono g4.size)
      by_cases hd : d = Pl.length
      · have z1 : ((d : Int) == (Pl.length : Int)) = true := by simp [hd]
        have z2 : decide (d = Pl.length) = true := by simp [hd]
        clear hd
        rw [z2]
        go_wp2_with fail
        refine (HL'.out _).mono ?_
        rintro e w8 ⟨rfl, b8⟩
        have fr8 := fr7.trans (b8.mono fr7.size)
        go_wp2_with fail
        refine (HPu'.out _).mono ?_
        rintro e w9 ⟨v9, rfl, o9, b9⟩
        have fr9 := fr8.trans (b9.mono fr8.size)
        obtain ⟨hl9, sh9⟩ := own_shape o9
        clear fr7 fr8 b8 b9 o9
        have zz : (((D.length : Nat) : Int) == ((D.length : Nat) : Int)) = true := by simp
        rcases sh9 with ⟨rfl, h9⟩ | ⟨g9, c9, rfl, _⟩
        · have hD0 : D.length = 0 := by omega
          go_wp2_with fail
          refine (HL2'.out _).mono ?_
          rintro e w10 ⟨rfl, b10⟩
          have fr10 := fr9.trans (b10.mono fr9.size)
          go_wp2
          go_ret
          exact ⟨rfl, fr10⟩
        · go_wp2_with fail
          refine (HL2'.out _).mono ?_
          rintro e w10 ⟨rfl, b10⟩
          have fr10 := fr9.trans (b10.mono fr9.size)
          go_wp2
          go_ret
          exact ⟨rfl, fr10⟩
      · have z1 : ((d : Int) == (Pl.length : Int)) = false := by simp; omega
        have z2 : decide (d = Pl.length) = false := by simp [hd]
        clear hd
        rw [z2]
        go_wp2_with fail
        refine (HL'.out _).mono ?_
        rintro e w8 ⟨rfl, b8⟩
        have fr8 := fr7.trans (b8.mono fr7.size)
        go_wp2_with fail
        refine (HPu'.out _).mono ?_
        rintro e w9 ⟨v9, rfl, o9, b9⟩
        have fr9 := fr8.trans (b9.mono fr8.size)
        obtain ⟨hl9, sh9⟩ := own_shape o9
        clear fr7 fr8 b8 b9 o9
        have zz : (((D.length : Nat) : Int) == ((D.length : Nat) : Int)) = true := by simp
        rcases sh9 with ⟨rfl, h9⟩ | ⟨g9, c9, rfl, _⟩
        · have hD0 : D.length = 0 := by omega
          go_wp2_with fail
          refine (HL2'.out _).mono ?_
          rintro e w10 ⟨rfl, b10⟩
          have fr10 := fr9.trans (b10.mono fr9.size)
          go_wp2
          go_ret
          exact ⟨rfl, fr10⟩
        · go_wp2_with fail
          refine (HL2'.out _).mono ?_
          rintro e w10 ⟨rfl, b10⟩
          have fr10 := fr9.trans (b10.mono fr9.size)
          go_wp2
          go_ret
          exact ⟨rfl, fr10⟩
    · have adA' : Ad (some ⟨bA, oA, none⟩) A.length cA := .inr ⟨bA, oA, rfl⟩
      have i0 : (0 : Int) ≤ (k : Int) := by omega
      have i3 : ((k : Nat) : Int) ≤ ((cA : Nat) : Int) := by omega
      have i4 : ((k : Nat) : Int) ≤ (cB : Int) := by omega
      clear hst
      go_wp2
      go_quiet (first | (go_at_call 21; exact Calls.quiet_of_same (S1.out _)) | (go_at_call 24; exact Calls.quiet_of (S2'.out _)))
      go_wp2_with fail
      refine (T1'.out _ _ adA' _ (hA4.below (bel_drewN w4 _)) ((hB4.take k hk2).below (bel_drewN w4 _))).mono ?_
      rintro e w5 ⟨rfl, rfl⟩
      go_wp2_with fail
      refine (T2'.out _).mono ?_
      rintro e w6 ⟨rfl, rfl⟩
      go_wp2_with fail
      refine (T3'.out _).mono ?_
      rintro e w7 ⟨rfl, q7, rfl⟩
      clear S1 S2' T1' T2' T3'
      have fr7 := g4.trans ((bel_drewN w4 (nq + q7)).mono g4.size)
      by_cases hd : d = Pl.length
      · have z1 : ((d : Int) == (Pl.length : Int)) = true := by simp [hd]
        have z2 : decide (d = Pl.length) = true := by simp [hd]
        clear hd
        rw [z2]
        go_wp2_with fail
        refine (HL'.out _).mono ?_
        rintro e w8 ⟨rfl, b8⟩
        have fr8 := fr7.trans (b8.mono fr7.size)
        go_wp2_with fail
        refine (HPu'.out _).mono ?_
        rintro e w9 ⟨v9, rfl, o9, b9⟩
        have fr9 := fr8.trans (b9.mono fr8.size)
        obtain ⟨hl9, sh9⟩ := own_shape o9
        clear fr7 fr8 b8 b9 o9
        have zz : (((D.length : Nat) : Int) == ((D.length : Nat) : Int)) = true := by simp
        rcases sh9 with ⟨rfl, h9⟩ | ⟨g9, c9, rfl, _⟩
        · have hD0 : D.length = 0 := by omega
          go_wp2_with fail
          refine (HL2'.out _).mono ?_
          rintro e w10 ⟨rfl, b10⟩
          have fr10 := fr9.trans (b10.mono fr9.size)
          go_wp2
          go_ret
          exact ⟨rfl, fr10⟩
        · go_wp2_with fail
          refine (HL2'.out _).mono ?_
          rintro e w10 ⟨rfl, b10⟩
          have fr10 := fr9.trans (b10.mono fr9.size)
          go_wp2
          go_ret
          exact ⟨rfl, fr10⟩
      · have z1 : ((d : Int) == (Pl.length : Int)) = false := by simp; omega
        have z2 : decide (d = Pl.length) = false := by simp [hd]
        clear hd
        rw [z2]
        go_wp2_with fail
        refine (HL'.out _).mono ?_
        rintro e w8 ⟨rfl, b8⟩
        have fr8 := fr7.trans (b8.mono fr7.size)
        go_wp2_with fail
        refine (HPu'.out _).mono ?_
        rintro e w9 ⟨v9, rfl, o9, b9⟩
        have fr9 := fr8.trans (b9.mono fr8.size)
        obtain ⟨hl9, sh9⟩ := own_shape o9
        clear fr7 fr8 b8 b9 o9
        have zz : (((D.length : Nat) : Int) == ((D.length : Nat) : Int)) = true := by simp
        rcases sh9 with ⟨rfl, h9⟩ | ⟨g9, c9, rfl, _⟩
        · have hD0 : D.length = 0 := by omega
          go_wp2_with fail
          refine (HL2'.out _).mono ?_
          rintro e w10 ⟨rfl, b10⟩
          have fr10 := fr9.trans (b10.mono fr9.size)
          go_wp2
          go_ret
          exact ⟨rfl, fr10⟩
        · go_wp2_with fail
          refine (HL2'.out _).mono ?_
          rintro e w10 ⟨rfl, b10⟩
          have fr10 := fr9.trans (b10.mono fr9.size)
          go_wp2
          go_ret
          exact ⟨rfl, fr10⟩
end Go.Proofs.Ytjgoliajgfeehaa
