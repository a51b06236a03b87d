/-
  What is proved here: the exact law of PutText returns true at every two slices, and writes into nothing that was there.
-/
import Derived.Test.YtjgoliajgfeehaaText
import Derived.Test.YtjgoliajgfeehaaTail
namespace Go.Proofs.Ytjgoliajgfeehaa
open Go.RowKit
open Ma

theorem putT_byte {l r : List Int} (h : ∀ x ∈ l, 0 ≤ x ∧ x < 256) (h' : ∀ x ∈ r, 0 ≤ x ∧ x < 256) : ∀ x ∈ putT l r, 0 ≤ x ∧ x < 256 := by
  unfold putT
  split
  · exact h
  · intro x hx
    rcases List.mem_append.1 hx with k | k
    · rcases List.mem_append.1 k with k | k
      · exact h x k
      · exact numB_byte _ x k
    · exact h' x k

theorem putT_len (l r : List Int) : (putT l r).length ≤ l.length + 69 := by
  unfold putT
  have := numB_len (r.length : Int)
  split
  · omega
  · simp; omega

set_option maxHeartbeats 1000000 in
theorem walk_fnExactPutText (w : World) (b0 : Option Addr) (n0 k0 : Nat) (xs : List Int) (h0 : Bs w b0 n0 k0 xs) (b1 : Option Addr) (n1 k1 : Nat) (ts : List Int) (h1 : Bs w b1 n1 k1 ts) :
    Calls Try.prog 8 #[.slice b0 n0 k0, .slice b1 n1 k1] w fun e w' => e = .returned (.bool true) ∧ Below w.heap.size w w' := by
  by_cases hb0 : 1048576 < (n0 : Int)
  · go_enter Try.func8, Try.ntmps8
    go_wp2
    go_ret
    exact ⟨rfl, Below.refl _ _⟩
  by_cases hb1 : 1048576 < (n1 : Int)
  · go_enter Try.func8, Try.ntmps8
    go_wp2
    go_ret
    exact ⟨rfl, Below.refl _ _⟩
  have hxb : ∀ x ∈ xs, 0 ≤ x ∧ x < 256 := h0.2.2.2.1
  have htb : ∀ x ∈ ts, 0 ≤ x ∧ x < 256 := h1.2.2.2.1
  have hlb : ∀ x ∈ putT xs ts, 0 ≤ x ∧ x < 256 := putT_byte hxb htb
  have hm2 : (putT xs ts).length ≤ 2097152 := by have := putT_len xs ts; have := h0.2.1; omega
  have HS := fun a c a' c' w h h' => specPutT a a' n0 c n1 c' xs ts w h h' (by omega) (by omega)
  have HI := fun a c a' c' w h h' => implPutT a a' n0 c n1 c' xs ts w h h' (by omega) (by omega)
  generalize putT xs ts = LW at HS HI hlb hm2
  obtain ⟨m, hm⟩ : ∃ m, m = LW.length := ⟨_, rfl⟩
  rw [← hm] at HS HI hm2
  clear hm
  have HS' : Hid _ := HS
  have HI' : Hid _ := HI
  clear HS HI
  have HXB : Hid _ := hxb
  have HTB : Hid _ := htb
  have HLB : Hid _ := hlb
  clear hxb htb hlb
  go_enter Try.func8, Try.ntmps8
  go_wp2_with fail
  refine (toS b0 n0 k0 xs _ h0 (by omega)).mono ?_
  rintro e w1 ⟨x1, c1, rfl, _, hx1, d1⟩
  go_wp2_with fail
  refine (toS b1 n1 k1 ts _ (h1.below d1) (by omega)).mono ?_
  rintro e w1' ⟨x2, c2, rfl, _, hx2, d2⟩
  have g1 := d1.trans (d2.mono d1.size)
  go_wp2_with fail
  refine (HS'.out x1 c1 x2 c2 _ (hx1.below d2) hx2).mono ?_
  rintro e w2 ⟨v2, rfl, ho2, d3⟩
  obtain ⟨a0, c0, rfl, _, _⟩ := Bs.own ho2 HLB.out
  have g2 := g1.trans (d3.mono g1.size)
  have o2 := own_base ho2 g1.size
  clear hx1 hx2 d1 d2 d3 ho2 HS' g1
  go_wp2_with fail
  refine (toS b0 n0 k0 xs _ (h0.below g2) (by omega)).mono ?_
  rintro e w3 ⟨ax, cx, rfl, ho3, hx3, d4⟩
  have dx := apart_of o2 ho3 (Nat.le_refl _)
  have o2' := own_below o2 d4
  have g3 := g2.trans (d4.mono g2.size)
  have o3 := own_base ho3 g2.size
  clear o2 d4 g2 ho3
  go_wp2_with fail
  refine (toS b1 n1 k1 ts _ (h1.below g3) (by omega)).mono ?_
  rintro e w3' ⟨ay, cy, rfl, hoy, hxy, d5⟩
  have d0y := apart_of o2' hoy (Nat.le_refl _)
  have dxy := apart_of o3 hoy (Nat.le_refl _)
  have o2'' := own_below o2' d5
  have o3' := own_below o3 d5
  have hx3' := hx3.below d5
  have g4 := g3.trans (d5.mono g3.size)
  have oy := own_base hoy g3.size
  clear o2' o3 hx3 g3 d5 hoy
  go_wp2_with fail
  refine (HI'.out ax cx ay cy _ hx3' hxy).mono ?_
  rintro e w4 ⟨v4, rfl, ho4, d6⟩
  obtain ⟨ag, cg, rfl, _, _⟩ := Bs.own ho4 HLB.out
  have S4 : St w w4 (.slice a0 m c0) (.slice ax n0 cx) (.slice ag m cg) m n0 m LW xs LW :=
    ⟨g4.trans (d6.mono g4.size), own_below o2'' d6, own_below o3' d6, own_base ho4 g4.size, dx, apart_of o2'' ho4 (Nat.le_refl _), apart_of o3' ho4 (Nat.le_refl _)⟩
  have dyg := apart_of oy ho4 (Nat.le_refl _)
  have Y4 := own_below oy d6
  clear g4 d6 o2'' o3' oy ho4 dx hx3' hxy
  have D0y : Hid _ := d0y
  have Dxy : Hid _ := dxy
  have Dyg : Hid _ := dyg
  clear d0y dxy dyg
  go_wp2_with fail
  refine (eqB ag a0 m cg c0 LW _ (bs_of_own S4.og HLB.out) (bs_of_own S4.o0 HLB.out) (by omega)).mono ?_
  rintro e w5 ⟨q5, rfl, rfl⟩
  have S5 := S4.below (bel_drewN w4 q5)
  have Y5 := own_below Y4 (bel_drewN w4 q5)
  clear S4 Y4
  go_wp2_with fail
  refine (toS b0 n0 k0 xs _ (h0.below S5.fr) (by omega)).mono ?_
  rintro e w6 ⟨x6, k6, rfl, _, hx6, b6⟩
  have S6 := S5.below b6
  have Y6 := own_below Y5 b6
  clear S5 Y5 b6
  go_wp2_with fail
  refine (eqB ax x6 n0 cx k6 xs _ (bs_of_own S6.ox HXB.out) hx6 (by omega)).mono ?_
  rintro e w7 ⟨q7, rfl, rfl⟩
  have S7 := S6.below (bel_drewN w6 q7)
  have Y7 := own_below Y6 (bel_drewN w6 q7)
  clear S6 Y6 hx6
  go_wp2_with fail
  refine (toS b1 n1 k1 ts _ (h1.below S7.fr) (by omega)).mono ?_
  rintro e u6 ⟨x7, k7, rfl, _, hx7, b7⟩
  have T6 := S7.below b7
  have Z6 := own_below Y7 b7
  clear S7 Y7 b7
  go_wp2_with fail
  refine (eqB ay x7 n1 cy k7 ts _ (bs_of_own Z6 HTB.out) hx7 (by omega)).mono ?_
  rintro e u7 ⟨r7, rfl, rfl⟩
  have T7 := T6.below (bel_drewN u6 r7)
  have Z7 := own_below Z6 (bel_drewN u6 r7)
  clear T6 Z6 hx7
  go_wp2_with fail
  refine (markB w.heap.size n0 _ 1 xs _ T7.ox (by omega) (by omega) (by omega)).mono ?_
  rintro e u8 ⟨rfl, ho8, hg8⟩
  have T8 := T7.markx ho8 hg8
  have Z8 := own_kept Z7 hg8 Dxy.out
  clear T7 Z7 ho8 hg8
  go_wp2_with fail
  refine (markB w.heap.size n1 _ (1 + n0) ts _ Z8 (by omega) (by omega) (by omega)).mono ?_
  rintro e w8 ⟨rfl, ho8, hg8⟩
  have S8 := T8.other Z8 hg8 (Apart.symm D0y.out) (Apart.symm Dxy.out) Dyg.out
  clear T8 Z8 ho8 hg8 D0y Dxy Dyg HTB
  have hk0 : ¬ ((1 : Int) + (n0 : Int) + (n1 : Int) < 0) := by omega
  go_wp2_with fail
  refine (eqB ag a0 m cg c0 LW _ (bs_of_own S8.og HLB.out) (bs_of_own S8.o0 HLB.out) (by omega)).mono ?_
  rintro e w9 ⟨q9, rfl, rfl⟩
  have S9 := S8.below (bel_drewN w8 q9)
  clear S8
  go_wp2_with fail
  refine (markB w.heap.size m _ 1 LW _ S9.og (by omega) (by omega) (by omega)).mono ?_
  rintro e w10 ⟨rfl, ho10, hg10⟩
  have S10 := S9.markg ho10 hg10
  clear S9 ho10 hg10
  have hm0 : ¬ ((1 : Int) + (m : Int) < 0) := by omega
  have hmm : ((1 : Int) + (m : Int) != 1 + (m : Int)) = false := by simp
  go_wp2_with fail
  refine (heldB ag m cg 1 _ (bs_of_own S10.og (marks_byte 1 m)) (by omega) (by omega) (by omega)).mono ?_
  rintro e w11 ⟨rfl, rfl⟩
  go_wp2_with fail
  refine (toS b0 n0 k0 xs _ (h0.below S10.fr) (by omega)).mono ?_
  rintro e w12 ⟨x12, k12, rfl, _, hx12, b12⟩
  have S12 := S10.below b12
  clear S10 b12
  go_wp2_with fail
  refine (toS b1 n1 k1 ts _ (h1.below S12.fr) (by omega)).mono ?_
  rintro e u12 ⟨y12, j12, rfl, _, hy12, b12⟩
  have T12 := S12.below b12
  have hx12' := hx12.below b12
  clear S12 b12 hx12
  go_wp2_with fail
  refine (HI'.out x12 k12 y12 j12 _ hx12' hy12).mono ?_
  rintro e w13 ⟨v13, rfl, ho13, b13⟩
  obtain ⟨ah, ch, rfl, _, hb13⟩ := Bs.own ho13 HLB.out
  have S13 := T12.below b13
  clear T12 b13 ho13 hx12' hy12
  go_wp2_with fail
  refine (eqB ah a0 m ch c0 LW _ hb13 (bs_of_own S13.o0 HLB.out) (by omega)).mono ?_
  rintro e w14 ⟨q14, rfl, rfl⟩
  have S14 := S13.below (bel_drewN w13 q14)
  clear S13 hb13
  go_wp2_with fail
  refine (heldB ag m cg 1 _ (bs_of_own S14.og (marks_byte 1 m)) (by omega) (by omega) (by omega)).mono ?_
  rintro e w15 ⟨rfl, rfl⟩
  have fr := S14.fr
  clear S14
  go_wp2
  go_ret
  exact ⟨rfl, fr⟩
end Go.Proofs.Ytjgoliajgfeehaa
