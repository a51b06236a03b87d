/-
  What is proved here: the exact law of Sha256 returns true at every slice, and writes into nothing that was there; where the program's three tables hold what its text lays into them.
-/
import Derived.Test.YtgapfkiceolceaaDoorSj
namespace Go.Proofs.YtgapfkiceolceaaDoor
set_option maxRecDepth 100000
open Go.RowKit

set_option maxHeartbeats 4000000 in
theorem walk_fnExactSha256 (w : World) (ab : Option Addr) (nb cb : Nat) (bs : List Int) (hB : Bs w ab nb cb bs) (ht : Tabs w ∧ TabF w) :
    Calls Tryd.prog 10 #[.slice ab nb cb] w fun e w' => e = .returned (.bool true) ∧ Below w.heap.size w w' := by
  by_cases hb1 : 1048576 < (nb : Int)
  · go_enter Tryd.func10, Tryd.ntmps10
    go_wp2
    go_ret
    exact ⟨rfl, Below.refl _ _⟩
  have hbb := hB.2.2.2.1
  have hlE := s256_byte bs
  have hmE := s256_len bs
  have HS := fun a n c w h => specSha256 a n c bs w h
  have HI := fun a n c w h ht hf => implSha256 a n c bs w h ht hf
  generalize s256 bs = LE at HS HI hlE hmE
  obtain ⟨m, em⟩ : ∃ m, m = LE.length := ⟨_, rfl⟩
  rw [← em] at HS HI hmE
  have HS' : Hid _ := HS
  have HI' : Hid _ := HI
  have HBB : Hid _ := hbb
  have HLE : Hid _ := hlE
  have HT : Hid _ := ht
  clear HS HI hbb hlE em ht
  go_enter Tryd.func10, Tryd.ntmps10
  go_wp2_with fail
  refine (toS ab nb cb bs _ hB (by omega)).mono ?_
  rintro e w1 ⟨x1, k1, rfl, _, hx1, b1⟩
  go_wp2_with fail
  refine (HS'.out x1 nb k1 _ hx1).mono ?_
  rintro e w2 ⟨v2, rfl, o2, b2⟩
  obtain ⟨a2, d2, rfl, _, _⟩ := Bs.own o2 HLE.out
  have B2 := b1.trans (b2.mono b1.size)
  have i2 := In.of o2
  have z1 := b1.size
  have z2 := b2.size
  clear hx1 b1 b2 HS'
  go_wp2_with fail
  refine (toS ab nb cb bs _ (hB.below B2) (by omega)).mono ?_
  rintro e w3 ⟨ax, cx, rfl, o3, hx3, b3⟩
  have i3 := In.of o3
  have B3 := B2.trans (b3.mono B2.size)
  have p2 := own_below o2 b3
  have z3 := b3.size
  clear o2 b3 B2
  go_wp2_with fail
  refine (HI'.out ax nb cx _ hx3 (HT.out.1.below B3) (HT.out.2.below B3)).mono ?_
  rintro e w4 ⟨v4, rfl, o4, b4⟩
  obtain ⟨a4, d4, rfl, _, _⟩ := Bs.own o4 HLE.out
  have i4 := In.of o4
  have B4 := B3.trans (b4.mono B3.size)
  have q2 := own_below p2 b4
  have q3 := own_below o3 b4
  have z4 := b4.size
  clear p2 o3 b4 B3 hx3
  go_wp2_with fail
  refine (eqB a4 a2 m d4 d2 LE _ (bs_of_own o4 HLE.out) (bs_of_own q2 HLE.out) (by omega)).mono ?_
  rintro e w5 ⟨q5, rfl, rfl⟩
  have b5 := bel_drewN w4 q5
  have B5 := B4.trans (b5.mono B4.size)
  have r2 := own_below q2 b5
  have r3 := own_below q3 b5
  have r4 := own_below o4 b5
  clear q2 q3 o4 b5 B4
  go_wp2_with fail
  refine (toS ab nb cb bs _ (hB.below B5) (by omega)).mono ?_
  rintro e w6 ⟨x6, k6, rfl, _, hx6, b6⟩
  have B6 := B5.trans (b6.mono B5.size)
  have s2 := own_below r2 b6
  have s3 := own_below r3 b6
  have s4 := own_below r4 b6
  clear r2 r3 r4 b6 B5
  go_wp2_with fail
  refine (eqB ax x6 nb cx k6 bs _ (bs_of_own s3 HBB.out) hx6 (by omega)).mono ?_
  rintro e w7 ⟨q7, rfl, rfl⟩
  have b7 := bel_drewN w6 q7
  have B7 := B6.trans (b7.mono B6.size)
  have t2 := own_below s2 b7
  have t3 := own_below s3 b7
  have t4 := own_below s4 b7
  clear s2 s3 s4 b7 B6 hx6
  go_wp2_with fail
  refine (markB w2.heap.size nb _ 1 bs _ t3 (by omega) (by omega) (by omega)).mono ?_
  rintro e w8 ⟨rfl, _, g8⟩
  have B8 := B7.grown g8 B7.size (fun k hk => by have := (i3 k hk).1; omega)
  have u2 := own_kept t2 g8 (i3.apart i2 (by omega))
  have u4 := own_kept t4 g8 (i3.apart i4 (by omega))
  clear t2 t3 t4 g8 B7
  have hk0 : ¬ ((1 : Int) + (nb : Int) < 0) := by omega
  go_wp2_with fail
  refine (eqB a4 a2 m d4 d2 LE _ (bs_of_own u4 HLE.out) (bs_of_own u2 HLE.out) (by omega)).mono ?_
  rintro e w9 ⟨q9, rfl, rfl⟩
  have b9 := bel_drewN w8 q9
  have B9 := B8.trans (b9.mono B8.size)
  have x2 := own_below u2 b9
  have x4 := own_below u4 b9
  clear u2 u4 b9 B8
  go_wp2_with fail
  refine (markB w3.heap.size m _ 1 LE _ x4 (by omega) (by omega) (by omega)).mono ?_
  rintro e w10 ⟨rfl, o10, g10⟩
  have B10 := B9.grown g10 B9.size (fun k hk => by have := (i4 k hk).1; omega)
  have y2 := own_kept x2 g10 (i4.apart i2 (by omega))
  clear x2 x4 g10 B9
  have HM2 : Hid _ := marks_byte 1 m
  have hm0 : ¬ ((1 : Int) + (m : Int) < 0) := by omega
  have hmm : ((1 : Int) + (m : Int) != 1 + (m : Int)) = false := by simp
  go_wp2_with fail
  refine (heldB a4 m d4 1 _ (bs_of_own o10 HM2.out) (by omega) (by omega) (by omega)).mono ?_
  rintro e w11 ⟨rfl, rfl⟩
  go_wp2_with fail
  refine (toS ab nb cb bs _ (hB.below B10) (by omega)).mono ?_
  rintro e w12 ⟨x12, k12, rfl, _, hx12, b12⟩
  have B12 := B10.trans (b12.mono B10.size)
  have z2' := own_below y2 b12
  have z4' := own_below o10 b12
  clear y2 o10 b12 B10
  go_wp2_with fail
  refine (HI'.out x12 nb k12 _ hx12 (HT.out.1.below B12) (HT.out.2.below B12)).mono ?_
  rintro e w13 ⟨v13, rfl, o13, b13⟩
  obtain ⟨a13, d13, rfl, _, hx13⟩ := Bs.own o13 HLE.out
  have B13 := B12.trans (b13.mono B12.size)
  have j2 := own_below z2' b13
  have j4 := own_below z4' b13
  clear z2' z4' b13 B12 o13 hx12
  go_wp2_with fail
  refine (eqB a13 a2 m d13 d2 LE _ hx13 (bs_of_own j2 HLE.out) (by omega)).mono ?_
  rintro e w14 ⟨q14, rfl, rfl⟩
  have b14 := bel_drewN w13 q14
  have B14 := B13.trans (b14.mono B13.size)
  have l4 := own_below j4 b14
  clear j2 j4 b14 B13 hx13
  go_wp2_with fail
  refine (heldB a4 m d4 1 _ (bs_of_own l4 HM2.out) (by omega) (by omega) (by omega)).mono ?_
  rintro e w15 ⟨rfl, rfl⟩
  clear l4
  go_wp2
  go_ret
  exact ⟨rfl, B14⟩
end Go.Proofs.YtgapfkiceolceaaDoor
