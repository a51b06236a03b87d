/-
  What is proved here: the law FnShas returns true at every code, and writes into nothing that was there; where the program's three tables hold what its text lays into them.
-/
import Derived.Test.YtgapfkiceolceaaDoorQa
import Derived.Test.YtgapfkiceolceaaDoorHh
namespace Go.Proofs.YtgapfkiceolceaaDoor
set_option maxRecDepth 100000
open Go.RowKit

set_option maxHeartbeats 4000000 in
theorem walk_fnShas (w : World) (ab : Option Addr) (nb cb : Nat) (bs : List Int) (hB : Bs w ab nb cb bs) (hnb : nb ≤ 140737488351232) (ht : Tabs w ∧ TabF w) :
    Calls Tryd.prog 3 #[.slice ab nb cb] w fun e w' => e = .returned (.bool true) ∧ Below w.heap.size w w' := by
  have hbb := hB.2.2.2.1
  have HBB : Hid (∀ x ∈ (1 : Int) :: 7 :: bs, 0 ≤ x ∧ x < 256) := by
    intro x hx
    simp only [List.mem_cons] at hx
    rcases hx with rfl | rfl | hx
    · omega
    · omega
    · exact hbb x hx
  have HT : Hid _ := ht
  clear hbb ht
  go_enter Tryd.func3, Tryd.ntmps3
  go_wp2_with fail
  refine (drawSha256 ab nb cb bs _ hB (by omega)).mono ?_
  rintro e w1 ⟨v1, A, rfl, hA, hAb, o1, b1⟩
  obtain ⟨aA, cA, rfl, _, _⟩ := Bs.own o1 hAb
  have HAB : Hid _ := hAb
  clear hAb
  go_wp2_with fail
  refine (moreOne ab nb cb bs _ (hB.below b1) hnb).mono ?_
  rintro e w2 ⟨v2, rfl, o2, b2⟩
  obtain ⟨a2, c2, rfl, _, hx2⟩ := Bs.own o2 HBB.out
  have B2 := b1.trans (b2.mono b1.size)
  have p1 := own_below o1 b2
  clear o1 b2 b1 o2
  go_wp2_with fail
  refine (drawSha256 a2 (2 + nb) c2 _ _ hx2 (by omega)).mono ?_
  rintro e w3 ⟨v3, B, rfl, hBl, hBb, o3, b3⟩
  obtain ⟨aB, cB, rfl, _, _⟩ := Bs.own o3 hBb
  have HBBy : Hid _ := hBb
  have B3 := B2.trans (b3.mono B2.size)
  have q1 := own_below p1 b3
  have q3 := own_base o3 B2.size
  clear p1 b3 hx2 B2 hBb o3
  have hpe := parts_end hA hBl
  have hHB : ∀ x ∈ H0, -9223372036854775808 ≤ x ∧ x ≤ 9223372036854775807 := words_int H0_words
  have HN := fun w hf => implShaNew w hf
  have hl32 : (s256 (A ++ B)).length = 32 := by unfold s256; rw [if_pos (by simp; omega)]; exact sumOf_len _
  have hE := s256_byte (A ++ B)
  obtain ⟨nA, hnA⟩ : ∃ nA, nA = A.length := ⟨_, rfl⟩
  obtain ⟨nB, hnB⟩ : ∃ nB, nB = B.length := ⟨_, rfl⟩
  have I1 := fun a1 c1 w h1 h2 h3 ht => implShaAdd a1 8 c1 0 none 0 0 H0 [] aA nA cA A w h1 h2 h3 ht
  have i1 := addH_ints H0 0 [] A
  have t1 := addT_bytes H0 0 (ts := []) (bs := A) (by simp) HAB.out
  obtain ⟨k1, k2, k3, k4, k5⟩ := hpe
  rw [k1] at I1
  rw [← hnA, ← hnB, Int.natCast_add] at k5
  rw [← hnA] at q1 hA ⊢
  rw [← hnB] at q3 hBl ⊢
  obtain ⟨H, hH⟩ : ∃ H, H = H0 := ⟨_, rfl⟩
  rw [← hH] at HN hHB I1 i1 t1 k2 k3 k4 k5
  generalize addH H 0 [] A = LH at I1 i1 k2 k3 k4 k5
  generalize addN H 0 [] A = N1 at I1 k2 k3 k4 k5
  generalize addT H 0 [] A = LT at I1 t1 k2 k3 k4 k5
  have i2 := addH_ints LH N1 LT B
  have t2 := addT_bytes LH N1 (ts := LT) (bs := B) t1 HBBy.out
  have I2 := fun a1 n1 c1 a2 n2 c2 w h1 h2 h3 ht => implShaAdd a1 n1 c1 N1 a2 n2 c2 LH LT aB nB cB B w h1 h2 h3 ht
  rw [k2, k5] at I2
  rw [k5] at k3 k4
  generalize addH LH N1 LT B = LH2 at I2 i2 k3 k4
  generalize addT LH N1 LT B = LT2 at I2 t2 k3 k4
  have J := fun a1 n1 c1 a2 n2 c2 w h1 h2 ht => implShaEnd a1 n1 c1 ((nA : Int) + (nB : Int)) a2 n2 c2 LH2 LT2 w h1 h2 ht
  have K := fun a1 n1 c1 a2 n2 c2 w h1 h2 => implShaOk a1 n1 c1 ((nA : Int) + (nB : Int)) a2 n2 c2 LH2 LT2 w h1 h2
  rw [k3, k4] at J
  rw [k3] at K
  have L := fun a n c w h ht hf => implSha256 a n c (A ++ B) w h ht hf
  rw [hl32] at J L
  generalize s256 (A ++ B) = E at J L hE
  have HNN : Hid _ := HN
  have HI1 : Hid _ := I1
  have HI2 : Hid _ := I2
  have HJ : Hid _ := J
  have HK : Hid _ := K
  have HL : Hid _ := L
  have HHI : Hid _ := hHB
  have Hi1 : Hid _ := i1
  have Ht1 : Hid _ := t1
  have Hi2 : Hid _ := i2
  have Ht2 : Hid _ := t2
  have HE : Hid _ := hE
  have HnA : Hid _ := hnA
  have HnB : Hid _ := hnB
  clear HN I1 I2 J K L hHB i1 t1 i2 t2 hE k1 k2 k3 k4 k5 hl32 hH hnA hnB
  go_wp2_with fail
  refine (HNN.out _ (HT.out.2.below B3)).mono ?_
  rintro e w4 ⟨a4, c4, rfl, o4, b4⟩
  have B4 := B3.trans (b4.mono B3.size)
  have r1 := own_below q1 b4
  have r3 := own_below q3 b4
  clear q1 q3 b4 B3
  go_wp2_with fail
  refine (HI1.out a4 c4 _ (is_of_own o4 HHI.out) (bs_none _) (bs_of_own r1 HAB.out) (HT.out.1.below B4)).mono ?_
  rintro e w5 ⟨v5, rfl, s5, b5⟩
  obtain ⟨a5, c5, a6, c6, rfl, o5⟩ := s5
  obtain ⟨m5, em5⟩ : ∃ m, m = LH.length := ⟨_, rfl⟩
  obtain ⟨m6, em6⟩ : ∃ m, m = LT.length := ⟨_, rfl⟩
  rw [← em5, ← em6] at o5 ⊢
  have B5 := (B4.trans (b5.mono B4.size)).alloc (Nat.le_trans B4.size b5.size) (.cells #[.slice a5 m5 c5, .int .i64 N1, .slice a6 m6 c6] 27)
  have s1 := (own_below r1 b5).alloc (.cells #[.slice a5 m5 c5, .int .i64 N1, .slice a6 m6 c6] 27)
  have s3 := (own_below r3 b5).alloc (.cells #[.slice a5 m5 c5, .int .i64 N1, .slice a6 m6 c6] 27)
  have S5 := Sh.of_own o5 N1
  obtain ⟨W5, hW5⟩ : ∃ W5, W5 = w5.alloc (.cells #[.slice a5 m5 c5, .int .i64 N1, .slice a6 m6 c6] 27) := ⟨_, rfl⟩
  rw [← hW5] at B5 s1 s3 S5
  have q5 := S5.cells
  rw [hW5] at q5
  clear r1 r3 b5 B4 o4 o5 em5 em6
  go_wp2_with fail
  rw [← hW5]
  clear hW5 q5
  refine (HI2.out a5 m5 c5 a6 m6 c6 _ (is_of_own S5.oh Hi1.out) (bs_of_own S5.ot Ht1.out) (bs_of_own s3 HBBy.out) (HT.out.1.below B5)).mono ?_
  rintro e w7 ⟨v7, rfl, s7, b7⟩
  obtain ⟨a7, c7, a8, c8, rfl, o7⟩ := s7
  obtain ⟨m7, em7⟩ : ∃ m, m = LH2.length := ⟨_, rfl⟩
  obtain ⟨m8, em8⟩ : ∃ m, m = LT2.length := ⟨_, rfl⟩
  rw [← em7, ← em8] at o7 ⊢
  have B7 := (B5.trans (b7.mono B5.size)).alloc (Nat.le_trans B5.size b7.size) (.cells #[.slice a7 m7 c7, .int .i64 ((nA : Int) + (nB : Int)), .slice a8 m8 c8] 27)
  have t1 := (own_below s1 b7).alloc (.cells #[.slice a7 m7 c7, .int .i64 ((nA : Int) + (nB : Int)), .slice a8 m8 c8] 27)
  have t3 := (own_below s3 b7).alloc (.cells #[.slice a7 m7 c7, .int .i64 ((nA : Int) + (nB : Int)), .slice a8 m8 c8] 27)
  have S7 := Sh.of_own o7 ((nA : Int) + (nB : Int))
  have z7 := b7.size
  obtain ⟨W7, hW7⟩ : ∃ W7, W7 = w7.alloc (.cells #[.slice a7 m7 c7, .int .i64 ((nA : Int) + (nB : Int)), .slice a8 m8 c8] 27) := ⟨_, rfl⟩
  rw [← hW7] at B7 t1 t3 S7
  have q7 := S7.cells
  rw [hW7] at q7
  have p7 : W7.heap.size = w7.heap.size + 1 := by rw [hW7]; simp
  clear s1 s3 b7 B5 S5 o7 em7 em8
  go_wp2_with fail
  rw [← hW7]
  clear hW7 q7
  refine (HJ.out a7 m7 c7 a8 m8 c8 _ (is_of_own S7.oh Hi2.out) (bs_of_own S7.ot Ht2.out) (HT.out.1.below B7)).mono ?_
  rintro e w9 ⟨v9, rfl, o9, b9⟩
  obtain ⟨a9, c9, rfl, _, _⟩ := Bs.own o9 HE.out
  have B9 := B7.trans (b9.mono B7.size)
  have u1 := own_below t1 b9
  have u3 := own_below t3 b9
  have S9 := S7.below b9
  clear t1 t3 b9 S7 B7
  have hbe : Bs (w9.alloc (.cells #[] 5)) aA nA cA A := (bs_of_own u1 HAB.out).below ((Below.refl _ _).alloc (Nat.le_refl _) _)
  have hbf : Below w9.heap.size w9 (w9.alloc (.cells #[] 5)) := (Below.refl _ _).alloc (Nat.le_refl _) _
  go_wp2_with (at_builtin; refine wpl_append_bs rfl _ _ rfl w9.heap.size _ 0 [] rfl aA nA cA A rfl (World.ownsRow_made (base := w9.heap.size) (e := 5) (size := 1) w9 #[] 0 (Nat.le_refl _) (by unfold maxLen; omega) rfl) hbe ?_ ?_ ?_)
  · omega
  · simp
  intro v10 w10 o10 g10 _
  have b10 : Below w9.heap.size w9 w10 := below_made g10
  have x3 := own_below u3 b10
  have z10 := b10.size
  clear hbe hbf g10 u1 u3
  have hb3 := bs_of_own x3 HBBy.out
  go_wp2_with (at_builtin; refine wpl_append_bs rfl _ _ rfl w9.heap.size _ nA A rfl aB nB cB B rfl o10 hb3 ?_ ?_ ?_)
  · omega
  · omega
  intro v11 w11 o11 g11 _
  have b11 : Below w9.heap.size w9 w11 := b10.grown g11 (by omega) (fun k hk => (o10.lt k hk).1)
  have B11 := B9.trans (b11.mono B9.size)
  have y9 := own_below o9 b11
  have S11 := S9.below b11
  have HABB : Hid (∀ x ∈ A ++ B, 0 ≤ x ∧ x < 256) := fun x hx => by
    rcases List.mem_append.1 hx with h | h
    · exact HAB.out x h
    · exact HBBy.out x h
  have o11' : w11.ownsRow w9.heap.size 5 1 v11 (nA + nB) (U8 (A ++ B)) := by simpa using o11
  obtain ⟨a11, c11, rfl, _, hx11⟩ := Bs.own o11' HABB.out
  clear g11 o10 b10 x3 hb3 B9 S9 b11 o9 o11 o11' z10
  have q11 := S11.cells
  go_wp2_with fail
  refine (HK.out a7 m7 c7 a8 m8 c8 _ (is_of_own S11.oh Hi2.out) (bs_of_own S11.ot Ht2.out)).mono ?_
  rintro e w12 ⟨rfl, b12⟩
  have B12 := B11.trans (b12.mono B11.size)
  have y12 := own_below y9 b12
  have S12 := S11.below b12
  have hx12 := hx11.below b12
  clear b12 B11 y9 S11 hx11 q11
  go_wp2_with fail
  refine (HL.out a11 (nA + nB) c11 _ hx12 (HT.out.1.below B12) (HT.out.2.below B12)).mono ?_
  rintro e w13 ⟨v13, rfl, o13, b13⟩
  obtain ⟨a13, c13, rfl, _, hx13⟩ := Bs.own o13 HE.out
  have B13 := B12.trans (b13.mono B12.size)
  have y13 := own_below y12 b13
  have S13 := S12.below b13
  clear b13 B12 y12 S12 o13 hx12
  go_wp2_with fail
  refine (sameT a9 a13 32 c9 32 c13 E E _ (bs_of_own y13 HE.out) hx13 rfl).mono ?_
  rintro e w14 ⟨rfl, rfl⟩
  have q13 := S13.cells
  go_wp2_with fail
  refine (hashesT _ (HT.out.1.below B13) (HT.out.2.below B13)).mono ?_
  rintro e w15 ⟨rfl, b15⟩
  have fr := B13.trans (b15.mono B13.size)
  clear b15 B13 y13 S13 q13 hx13
  go_wp2
  go_ret
  exact ⟨rfl, fr⟩
end Go.Proofs.YtgapfkiceolceaaDoor
