/-
  What is proved here: what the laws' sameFlash and flashes answer; what Program and Erase come to when nothing is torn, as plain facts.
-/
import Derived.Test.YtcnlpdpbkkjkoaaF9k
import Derived.Test.YtcnlpdpbkkjkoaaSm
import Derived.Test.YtcnlpdpbkkjkoaaSit
namespace Go.Proofs.Ytcnlpdpbkkjkoaa
set_option maxRecDepth 100000
set_option maxHeartbeats 4000000
open Go.RowKit
set_option linter.unusedVariables false

theorem mk_255 (i : Nat) : mk [255] i = 255 := by
  unfold mk
  simp [Nat.mod_one]
theorem tpb_full (y x : Int) : tpb y x 255 = bits .and .u8 y x := by
  unfold tpb
  rw [b_and, b_or, b_xor, b_and, u8_back, u8_back]
  congr 2
  have e : (BitVec.ofInt 8 255 ^^^ BitVec.ofInt 8 255) = 0#8 := by decide
  rw [e, BitVec.or_zero]
theorem erb_full (b : Int) : erb b 255 = 255 := by
  unfold erb
  rw [b_or, v255, BitVec.or_allOnes]
  rfl
theorem flOk_new : flOk (List.replicate 3072 255) (List.replicate 48 0) = true := by
  rw [flOk_iff]
  refine ⟨List.length_replicate, List.length_replicate, ?_⟩
  unfold wrOk
  rw [decide_eq_true_eq]
  intro x hx
  rw [List.mem_replicate] at hx
  omega
theorem blank_new : blankF (List.replicate 3072 255) (List.replicate 48 0) 0 3072 = true := by
  unfold blankF
  rw [flOk_new, show inF 0 3072 = true by decide]
  simp only [Bool.true_and]
  unfold blk
  rw [decide_eq_true_eq]
  intro x hx
  have := List.mem_of_mem_drop (List.mem_of_mem_take hx)
  rw [List.mem_replicate] at this
  exact this.2
theorem flOk_tn {f : Nat → Int → Int} {bs ws : List Int} {I k : Nat} (h : flOk bs ws = true) : flOk (tn f bs I k) ws = true := by
  rw [flOk_iff] at h ⊢
  rw [tn_len]
  exact h
theorem wr_set {ws : List Int} (h : wrOk ws = true) (S : Nat) (hx : ws.getD S 0 ≠ 200) (hS : S < ws.length) : wrOk (ws.set S (ws.getD S 0 + 1)) = true := by
  have := wr_get h hS
  unfold wrOk at h ⊢
  rw [decide_eq_true_eq] at h ⊢
  intro x hx
  rcases List.mem_or_eq_of_mem_set hx with hx | hx
  · exact h x hx
  · omega
theorem flOk_er {bs ws : List Int} (h : flOk bs ws = true) (S : Nat) (hS : S < 48) (hx : ws.getD S 0 ≠ 200) (f : Nat → Int → Int) (I k : Nat) : flOk (tn f bs I k) (ws.set S (ws.getD S 0 + 1)) = true := by
  rw [flOk_iff] at h ⊢
  rw [tn_len, List.length_set]
  exact ⟨h.1, h.2.1, wr_set h.2.2 S hx (by omega)⟩
theorem tn_far (f : Nat → Int → Int) (bs : List Int) (I k s : Nat) (h : s + 64 ≤ I ∨ I + k ≤ s) : ((tn f bs I k).drop s).take 64 = (bs.drop s).take 64 := by
  refine List.ext_getElem? fun j => ?_
  by_cases hj : j < 64
  · rw [List.getElem?_take_of_lt hj, List.getElem?_take_of_lt hj, List.getElem?_drop, List.getElem?_drop]
    by_cases hl : s + j < bs.length
    · have e := tn_get f bs I k (s + j) hl
      rw [if_neg (by omega)] at e
      have hl2 : s + j < (tn f bs I k).length := by rw [tn_len]; exact hl
      simp only [List.getD_eq_getElem?_getD, List.getElem?_eq_getElem hl2, List.getElem?_eq_getElem hl, Option.getD_some] at e ⊢
      rw [e]
    · rw [List.getElem?_eq_none (by rw [tn_len]; omega), List.getElem?_eq_none (by omega)]
  · rw [List.getElem?_eq_none (by simp; omega), List.getElem?_eq_none (by simp; omega)]
theorem tn_in (f : Nat → Int → Int) (bs : List Int) (I k : Nat) (hk : I + k ≤ bs.length) (v : Int) (hf : ∀ i b, f i b = v) : ∀ x ∈ ((tn f bs I k).drop I).take k, x = v := by
  intro x hx
  obtain ⟨j, hj, rfl⟩ := List.getElem_of_mem hx
  have hj2 : j < k := by simp at hj; omega
  rw [List.getElem_take, List.getElem_drop]
  have hl : I + j < bs.length := by omega
  have e := tn_get f bs I k (I + j) hl
  rw [if_pos (by omega), hf] at e
  have hl2 : I + j < (tn f bs I k).length := by rw [tn_len]; exact hl
  simpa [hl2] using e
theorem blank_er {bs ws : List Int} (h : flOk bs ws = true) (S : Nat) (hS : S < 48) (hx : ws.getD S 0 ≠ 200) : blankF (tn (ef [255]) bs (S * 64) 64) (ws.set S (ws.getD S 0 + 1)) ((S * 64 : Nat) : Int) 64 = true := by
  have hl := (flOk_iff.1 h).1
  unfold blankF
  rw [flOk_er h S hS hx, inF_iff.2 ⟨by omega, by omega, by omega⟩]
  simp only [Bool.true_and]
  unfold blk
  rw [decide_eq_true_eq]
  unfold sub
  rw [Int.toNat_natCast]
  exact tn_in (ef [255]) bs (S * 64) 64 (by omega) 255 (fun i b => by unfold ef; rw [mk_255, erb_full])
theorem dfs_one (xs ys : List Int) (S : Nat) (h : ∀ s, s ≠ S → (xs.drop (s * 64)).take 64 = (ys.drop (s * 64)).take 64) : ∀ k, dfs xs ys k = [] ∨ (dfs xs ys k = [(S : Int)] ∧ S < k) := by
  intro k
  induction k with
  | zero => exact .inl rfl
  | succ k ih =>
    rw [dfs_succ]
    split
    · rcases ih with h1 | ⟨h1, h2⟩
      · exact .inl h1
      · exact .inr ⟨h1, by omega⟩
    · rename_i hne
      have hk : k = S := by
        by_cases hk : k = S
        · exact hk
        · exact absurd (h k hk) hne
      subst hk
      rcases ih with h1 | ⟨h1, h2⟩
      · rw [h1]; exact .inr ⟨rfl, by omega⟩
      · omega
theorem dif_er (bs ws : List Int) (S : Nat) (vs : List Int) (m : List Int) : difL bs ws (tn (ef m) bs (S * 64) 64) vs = [] ∨ difL bs ws (tn (ef m) bs (S * 64) 64) vs = [(S : Int)] := by
  unfold difL
  split
  · rcases dfs_one bs (tn (ef m) bs (S * 64) 64) S (fun s hs => (tn_far _ _ _ _ _ (by omega)).symm) 48 with h | ⟨h, _⟩
    · exact .inl h
    · exact .inr h
  · exact .inl rfl

theorem sameFlashT (a : Option Addr) (n c : Nat) (a' : Option Addr) (m c' : Nat) (b : Option Addr) (d : Nat) (b' : Option Addr) (d' : Nat) (xs ys : List Int) (w : World) (h1 : Bs w a n c xs) (h2 : Is w a' m c' ys) (h3 : Bs w b n d xs) (h4 : Is w b' m d' ys) (hm : m ≤ 2097152) :
    Calls Try.prog 19 #[flV a n c a' m c', flV b n d b' m d'] w fun e w' => e = .returned (.bool true) ∧ Below w.heap.size w w' := by
  have HB : Hid (Below w.heap.size w ((w.alloc (.cells #[.slice a n c, .slice a' m c'] 25)).alloc (.cells #[.slice b n d, .slice b' m d'] 25))) := ((Below.refl _ _).alloc (Nat.le_refl _) _).alloc (by simp) _
  go_enter Try.func19, Try.ntmps19
  go_wp2_with fail
  refine (sameT a b n c n d xs xs _ (h1.below HB.out) (h3.below HB.out) rfl).mono ?_
  rintro e w1 ⟨rfl, hw⟩
  rw [hw]
  clear hw
  go_wp2_with fail
  refine (sameIntsT a' b' m c' d' ys _ (h2.below HB.out) (h4.below HB.out) hm).mono ?_
  rintro e w2 ⟨q, rfl, hw⟩
  rw [hw]
  clear hw
  go_wp2
  go_ret
  exact ⟨rfl, bel_dN HB.out _⟩

theorem flashesC (w : World) : Calls Try.prog 18 #[] w fun e w' => e = .returned (.bool true) ∧ Below w.heap.size w w' := by
  have HB1 : Hid (∀ x ∈ List.replicate 3072 (255 : Int), 0 ≤ x ∧ x < 256) := by intro x hx; rw [List.mem_replicate] at hx; omega
  have HB2 : Hid (∀ x ∈ List.replicate 48 (0 : Int), -9223372036854775808 ≤ x ∧ x ≤ 9223372036854775807) := by intro x hx; rw [List.mem_replicate] at hx; omega
  have HI : Hid (∀ W, Calls Try.prog 36 #[] W fun e w' => ∃ g g' c', e = .returned (flV (some ⟨g, 0, none⟩) 3072 3072 (some ⟨g', 0, none⟩) 48 c') ∧ OwnP w' W.heap.size g 3072 (List.replicate 3072 255) ∧ w'.ownsRow W.heap.size 3 1 (.slice (some ⟨g', 0, none⟩) 48 c') 48 (I64 (List.replicate 48 0)) ∧ g ≠ g' ∧ Below W.heap.size W w') := fun W => flashNew_i W
  have E1 : Hid _ := flOk_new
  have E2 : Hid _ := blank_new
  generalize List.replicate 3072 (255 : Int) = LB at HB1 HI E1 E2
  generalize List.replicate 48 (0 : Int) = LW at HB2 HI E1 E2
  go_enter Try.func18, Try.ntmps18
  go_wp2_with fail
  refine Calls.mono (HI.out _) ?_
  rintro e w1 ⟨g, g', c', rfl, ob, ow, ne, b1⟩
  have T : Fp (w1.alloc (.cells #[.slice (some ⟨g, 0, none⟩) 3072 3072, .slice (some ⟨g', 0, none⟩) 48 c'] 25)) w.heap.size w1.heap.size g g' c' LB LW := Fp.new ob ow ne
  obtain ⟨X, hX⟩ : ∃ X, X = w1.alloc (.cells #[.slice (some ⟨g, 0, none⟩) 3072 3072, .slice (some ⟨g', 0, none⟩) 48 c'] 25) := ⟨_, rfl⟩
  rw [← hX] at T
  have B : Below w.heap.size w X := by rw [hX]; exact b1.alloc b1.size _
  clear ob ow b1
  go_wp2_with fail
  rw [← hX]
  clear hX
  refine (blank_i (some ⟨g, 0, none⟩) 3072 3072 (some ⟨g', 0, none⟩) 48 c' LB LW 0 3072 _ (T.ob.bs HB1.out) (is_of_own T.ow HB2.out) (by omega) (by omega) (by omega) (by omega) (by omega) (by omega)).mono ?_
  rintro e w2 ⟨rfl, b2⟩
  rw [E2.out]
  replace T := T.below b2
  replace B := B.trans (b2.mono B.size)
  clear b2
  have cT := arr2 T.p
  go_wp2_with fail
  clear cT
  refine (implFlashOk (some ⟨g, 0, none⟩) 3072 3072 (some ⟨g', 0, none⟩) 48 c' LB LW _ (T.ob.bs HB1.out) (is_of_own T.ow HB2.out) (by omega) (by omega)).mono ?_
  rintro e w3 ⟨rfl, b3⟩
  rw [E1.out]
  replace B := B.trans (b3.mono B.size)
  clear b3 T
  go_wp2
  go_ret
  exact ⟨rfl, B⟩
end Go.Proofs.Ytcnlpdpbkkjkoaa
