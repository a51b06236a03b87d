/-
  What is proved here: the exact law of GetText returns true at every slice and every number, and writes into nothing that was there.
-/
import Derived.Test.YtjgoliajgfeehaaText2
import Derived.Test.YtjgoliajgfeehaaTail
namespace Go.Proofs.Ytjgoliajgfeehaa
open Go.RowKit
open Ma

theorem getT_byte {l : List Int} (P : Int) (h : ∀ x ∈ l, 0 ≤ x ∧ x < 256) : ∀ x ∈ (getT l P).1, 0 ≤ x ∧ x < 256 := by
  unfold getT
  split
  · simp
  · intro x hx
    exact h x (List.mem_of_mem_drop (List.mem_of_mem_take hx))

theorem getT_len (l : List Int) (P : Int) : (getT l P).1.length ≤ 64 := by
  unfold getT
  split
  · simp
  · simp; omega

theorem i64_hi {n : Int} (h : (Lit.int .i64 n).wf = true) : n ≤ 9223372036854775807 := by
  have h1 : IntKind.i64.min ≤ n ∧ n ≤ IntKind.i64.max := by simpa [Lit.wf] using h
  simp [IntKind.min, IntKind.max, IntKind.signed, IntKind.bits] at h1
  omega

set_option maxHeartbeats 1000000 in
theorem walk_fnExactGetText (w : World) (b0 : Option Addr) (n0 k0 : Nat) (xs : List Int) (h0 : Bs w b0 n0 k0 xs) (P : Int) (hP : (Lit.int .i64 P).wf = true) :
    Calls Try.prog 9 #[.slice b0 n0 k0, .int .i64 P] w fun e w' => e = .returned (.bool true) ∧ Below w.heap.size w w' := by
  by_cases hb0 : 1048576 < (n0 : Int)
  · go_enter Try.func9, Try.ntmps9
    go_wp2
    go_ret
    exact ⟨rfl, Below.refl _ _⟩
  have hxb : ∀ x ∈ xs, 0 ≤ x ∧ x < 256 := h0.2.2.2.1
  have hPm := i64_hi hP
  have hlb := getT_byte P hxb
  have hm2 : (getT xs P).1.length ≤ 2097152 := by have := getT_len xs P; omega
  have HS := fun a n cap w h hn => specGetT a n cap xs P w h hn hPm
  have HI := fun a n cap w h hn => implGetT a n cap xs P w h hn hPm
  clear hP hPm
  generalize getT xs P = r at HS HI hlb hm2
  obtain ⟨LW, R⟩ := r
  simp only at HS HI hlb hm2
  obtain ⟨m, hm⟩ : ∃ m, m = LW.length := ⟨_, rfl⟩
  rw [← hm] at HS HI hm2
  clear hm
  have hRR : (R != R) = false := by simp
  have HS' : Hid _ := HS
  have HI' : Hid _ := HI
  clear HS HI
  have HXB : Hid _ := hxb
  have HLB : Hid _ := hlb
  clear hxb hlb
  go_enter Try.func9, Try.ntmps9
  go_wp2_with fail
  refine (toS b0 n0 k0 xs _ h0 (by omega)).mono ?_
  rintro e w1 ⟨x1, k1, rfl, _, hx1, b1⟩
  go_wp2_with fail
  refine (HS'.out x1 n0 k1 _ hx1 (by omega)).mono ?_
  rintro e w2 ⟨v2, rfl, ho2, b2⟩
  obtain ⟨a0, c0, rfl, _, _⟩ := Bs.own ho2 HLB.out
  have g2 := b1.trans (b2.mono b1.size)
  have o2 := own_base ho2 b1.size
  clear hx1 b1 b2 ho2 HS'
  go_wp2_with fail
  refine (toS b0 n0 k0 xs _ (h0.below g2) (by omega)).mono ?_
  rintro e w3 ⟨ax, cx, rfl, ho3, hx3, b3⟩
  have dx := apart_of o2 ho3 (Nat.le_refl _)
  have o2' := own_below o2 b3
  have g3 := g2.trans (b3.mono g2.size)
  have o3 := own_base ho3 g2.size
  clear o2 b3 g2 ho3
  go_wp2_with fail
  refine (HI'.out ax n0 cx _ hx3 (by omega)).mono ?_
  rintro e w4 ⟨v4, rfl, ho4, b4⟩
  obtain ⟨ag, cg, rfl, _, _⟩ := Bs.own ho4 HLB.out
  have S4 : St w w4 (.slice a0 m c0) (.slice ax n0 cx) (.slice ag m cg) m n0 m LW xs LW :=
    ⟨g3.trans (b4.mono g3.size), own_below o2' b4, own_below o3 b4, own_base ho4 g3.size, dx, apart_of o2' ho4 (Nat.le_refl _), apart_of o3 ho4 (Nat.le_refl _)⟩
  clear g3 b4 o2' o3 ho4 dx hx3
  go_wp2_with fail
  refine (eqB ag a0 m cg c0 LW _ (bs_of_own S4.og HLB.out) (bs_of_own S4.o0 HLB.out) (by omega)).mono ?_
  rintro e w5 ⟨q5, rfl, rfl⟩
  have S5 := S4.below (bel_drewN w4 q5)
  clear S4
  go_wp2_with fail
  refine (toS b0 n0 k0 xs _ (h0.below S5.fr) (by omega)).mono ?_
  rintro e w6 ⟨x6, k6, rfl, _, hx6, b6⟩
  have S6 := S5.below b6
  clear S5 b6
  go_wp2_with fail
  refine (eqB ax x6 n0 cx k6 xs _ (bs_of_own S6.ox HXB.out) hx6 (by omega)).mono ?_
  rintro e w7 ⟨q7, rfl, rfl⟩
  have S7 := S6.below (bel_drewN w6 q7)
  clear S6 hx6
  go_wp2_with fail
  refine (markB w.heap.size n0 _ 1 xs _ S7.ox (by omega) (by omega) (by omega)).mono ?_
  rintro e w8 ⟨rfl, ho8, hg8⟩
  have S8 := S7.markx ho8 hg8
  clear S7 ho8 hg8
  have hk0 : ¬ ((1 : Int) + (n0 : Int) < 0) := by omega
  go_wp2_with fail
  refine (eqB ag a0 m cg c0 LW _ (bs_of_own S8.og HLB.out) (bs_of_own S8.o0 HLB.out) (by omega)).mono ?_
  rintro e w9 ⟨q9, rfl, rfl⟩
  have S9 := S8.below (bel_drewN w8 q9)
  clear S8
  go_wp2_with fail
  refine (markB w.heap.size m _ 1 LW _ S9.og (by omega) (by omega) (by omega)).mono ?_
  rintro e w10 ⟨rfl, ho10, hg10⟩
  have S10 := S9.markg ho10 hg10
  clear S9 ho10 hg10
  have hm0 : ¬ ((1 : Int) + (m : Int) < 0) := by omega
  have hmm : ((1 : Int) + (m : Int) != 1 + (m : Int)) = false := by simp
  go_wp2_with fail
  refine (heldB ag m cg 1 _ (bs_of_own S10.og (marks_byte 1 m)) (by omega) (by omega) (by omega)).mono ?_
  rintro e w11 ⟨rfl, rfl⟩
  go_wp2_with fail
  refine (toS b0 n0 k0 xs _ (h0.below S10.fr) (by omega)).mono ?_
  rintro e w12 ⟨x12, k12, rfl, _, hx12, b12⟩
  have S12 := S10.below b12
  clear S10 b12
  go_wp2_with fail
  refine (HI'.out x12 n0 k12 _ hx12 (by omega)).mono ?_
  rintro e w13 ⟨v13, rfl, ho13, b13⟩
  obtain ⟨ah, ch, rfl, _, hb13⟩ := Bs.own ho13 HLB.out
  have S13 := S12.below b13
  clear S12 b13 ho13 hx12
  go_wp2_with fail
  refine (eqB ah a0 m ch c0 LW _ hb13 (bs_of_own S13.o0 HLB.out) (by omega)).mono ?_
  rintro e w14 ⟨q14, rfl, rfl⟩
  have S14 := S13.below (bel_drewN w13 q14)
  clear S13 hb13
  go_wp2_with fail
  refine (heldB ag m cg 1 _ (bs_of_own S14.og (marks_byte 1 m)) (by omega) (by omega) (by omega)).mono ?_
  rintro e w15 ⟨rfl, rfl⟩
  have fr := S14.fr
  clear S14
  go_wp2
  go_ret
  exact ⟨rfl, fr⟩
end Go.Proofs.Ytjgoliajgfeehaa
