/-
  What is proved here: the laws' hashes returns true, and writes into nothing that was there; where the program's three tables hold what its text lays into them. And that bytes added in parts come to the sum of all.
-/
import Derived.Test.YtofflhhlacdgfaaDoorJP15
import Derived.Test.YtofflhhlacdgfaaDoorA1Hex
import Derived.Test.YtofflhhlacdgfaaDoorSm
import Derived.Lib.SmallJoins
namespace Go.Proofs.YtofflhhlacdgfaaDoor
set_option maxRecDepth 100000
open Go.RowKit

/-- New cells that a constant text lays, as a slice of bytes. -/
theorem Bs.lit (w : World) (L : List Int) (fr : Nat × Nat) (h : ∀ u ∈ L, 0 ≤ u ∧ u < 256) : Bs (w.alloc (.cells (U8 L).toArray 5 fr)) (some ⟨w.heap.size, 0, none⟩) L.length L.length L := by
  refine ⟨(fun h => by cases h), rfl, Nat.le_refl _, h, .inr ⟨w.heap.size, 0, rfl, by simp, ?_⟩⟩
  intro j hj
  rw [World.cell?_alloc_mark]
  simp [hj]

def someText : List Int := [115, 111, 109, 101, 32, 116, 101, 120, 116]

set_option maxHeartbeats 1000000 in
theorem hashesT (w : World) (ht : Tabs w) (hf : TabF w) :
    Calls Tryd.prog 22 #[] w fun e w' => e = .returned (.bool true) ∧ Below w.heap.size w w' := by
  have hby : ∀ u ∈ someText, 0 ≤ u ∧ u < 256 := by decide
  have hbs := fun w => Bs.lit w someText (9, 10) hby
  have hcv := fun w => Lib.run_convert_bytes_const (P := Tryd.prog) w 22 5 #[.int .u8 115, .int .u8 111, .int .u8 109, .int .u8 101, .int .u8 32, .int .u8 116, .int .u8 101, .int .u8 120, .int .u8 116] 9 9 Tryd.underlying22 Tryd.underlying5
  simp only [List.size_toArray, List.length_cons, List.length_nil] at hcv
  have hbt := s256_byte someText
  have hln : (s256 someText).length = 32 := by unfold s256; rw [if_pos (by decide)]; exact sumOf_len _
  have HI := fun a n c w h ht hf => implSha256 a n c someText w h ht hf
  have HS := fun a n c w h => specSha256 a n c someText w h
  generalize s256 someText = S at HI HS hbt hln
  rw [hln] at HI HS
  have hx64 : (hexOf S).length = 64 := by
    unfold hexOf
    rw [hln, if_neg (by omega), hexL_len, hln]
  have HI' : Hid _ := HI
  have HS' : Hid _ := HS
  have HBS : Hid _ := hbs
  have HBT : Hid _ := hbt
  have HX : Hid _ := hx64
  clear HI HS hbs hbt hby hx64
  go_enter Tryd.func22, Tryd.ntmps22
  go_wp2_with fail
  have b1 : Below w.heap.size w (w.alloc (.cells (U8 someText).toArray 5 (9, 10))) := (Below.refl _ _).alloc (Nat.le_refl _) _
  refine (HI'.out (some ⟨w.heap.size, 0, none⟩) 9 9 _ (HBS.out w) (ht.below b1) (hf.below b1)).mono ?_
  rintro e w1 ⟨v1, rfl, o1, bb1⟩
  obtain ⟨a1, c1, rfl, _, _⟩ := Bs.own o1 HBT.out
  have B1 := b1.trans (bb1.mono b1.size)
  clear b1 bb1
  go_wp2_with fail
  have b2 : Below w1.heap.size w1 (w1.alloc (.cells (U8 someText).toArray 5 (9, 10))) := (Below.refl _ _).alloc (Nat.le_refl _) _
  refine (HS'.out (some ⟨w1.heap.size, 0, none⟩) 9 9 _ (HBS.out w1)).mono ?_
  rintro e w2 ⟨v2, rfl, o2, bb2⟩
  obtain ⟨a2, c2, rfl, _, hx2⟩ := Bs.own o2 HBT.out
  have b3 := b2.trans (bb2.mono b2.size)
  have B2 := B1.trans (b3.mono B1.size)
  have o1' := own_below o1 b3
  clear b2 bb2 b3 o1 o2 B1
  go_wp2_with fail
  refine (sameT a1 a2 32 c1 32 c2 S S _ (bs_of_own o1' HBT.out) hx2 rfl).mono ?_
  rintro e w3 ⟨rfl, rfl⟩
  go_wp2_with fail
  refine (implHex a1 32 c1 S _ (bs_of_own o1' HBT.out) (by omega)).mono ?_
  rintro e w4 ⟨v4, rfl, o4, b4⟩
  rw [HX.out] at o4
  have B4 := B2.trans (b4.mono B2.size)
  obtain ⟨a4, c4, rfl⟩ : ∃ a c, v4 = .slice a 64 c := by
    rcases (own_shape o4).2 with ⟨h, h0⟩ | ⟨g, cap, h, _⟩
    · omega
    · exact ⟨_, _, h⟩
  clear o1' hx2 B2 o4 b4
  go_wp2
  go_ret
  exact ⟨rfl, B4⟩

theorem fld_app (hs l m : List Int) (k : Nat) (h : 64 * k ≤ l.length) : fld hs (l ++ m) k = fld hs l k := by
  induction k with
  | zero => rfl
  | succ k ih =>
    have e : ((l ++ m).drop (64 * k)).take 64 = (l.drop (64 * k)).take 64 := by
      rw [List.drop_append_of_le_length (by omega), List.take_append_of_le_length (by simp; omega)]
    show blk (fld hs (l ++ m) k) (((l ++ m).drop (64 * k)).take 64) = blk (fld hs l k) ((l.drop (64 * k)).take 64)
    rw [ih (by omega), e]
theorem fld_add (hs l : List Int) (j k : Nat) : fld hs l (j + k) = fld (fld hs l j) (l.drop (64 * j)) k := by
  induction k with
  | zero => rfl
  | succ k ih =>
    show blk (fld hs l (j + k)) ((l.drop (64 * (j + k))).take 64) = blk (fld (fld hs l j) (l.drop (64 * j)) k) (((l.drop (64 * j)).drop (64 * k)).take 64)
    rw [ih, List.drop_drop, show 64 * (j + k) = 64 * j + 64 * k by omega]
theorem rest_app (l m : List Int) : (l ++ m).drop (64 * (l.length / 64)) = restB l ++ m := by
  unfold restB
  rw [List.drop_append_of_le_length (by omega)]
theorem len_app (l m : List Int) : (l ++ m).length / 64 = l.length / 64 + (restB l ++ m).length / 64 := by
  rw [List.length_append, List.length_append, restB_len']
  omega
theorem allB_app (hs l m : List Int) : allB (allB hs l) (restB l ++ m) = allB hs (l ++ m) := by
  unfold allB
  rw [len_app l m, fld_add, fld_app hs l m (l.length / 64) (by omega), rest_app]
theorem restB_app (l m : List Int) : restB (restB l ++ m) = restB (l ++ m) := by
  have e := rest_app l m
  unfold restB at e ⊢
  rw [len_app l m, Nat.mul_add, ← List.drop_drop]
  unfold restB
  rw [e]

/-- Added in parts, the sum of all. -/
theorem parts_end {xs ys : List Int} (ha : xs.length ≤ 299) (hb : ys.length ≤ 299) :
    addOk H0 0 [] xs = true ∧ addOk (addH H0 0 [] xs) (addN H0 0 [] xs) (addT H0 0 [] xs) ys = true ∧
    shaOk (addH (addH H0 0 [] xs) (addN H0 0 [] xs) (addT H0 0 [] xs) ys) (addN (addH H0 0 [] xs) (addN H0 0 [] xs) (addT H0 0 [] xs) ys) (addT (addH H0 0 [] xs) (addN H0 0 [] xs) (addT H0 0 [] xs) ys) = true ∧
    endOf (addH (addH H0 0 [] xs) (addN H0 0 [] xs) (addT H0 0 [] xs) ys) (addN (addH H0 0 [] xs) (addN H0 0 [] xs) (addT H0 0 [] xs) ys) (addT (addH H0 0 [] xs) (addN H0 0 [] xs) (addT H0 0 [] xs) ys) = s256 (xs ++ ys) ∧
    addN (addH H0 0 [] xs) (addN H0 0 [] xs) (addT H0 0 [] xs) ys = ((xs.length + ys.length : Nat) : Int) := by
  obtain ⟨o1, k1, _⟩ := end_of_add (bs := xs) (by omega) H0_ok
  have o12 : addOk H0 0 [] (xs ++ ys) = true := (end_of_add (bs := xs ++ ys) (by simp; omega) H0_ok).1
  obtain ⟨_, k12, e12⟩ := end_of_add (bs := xs ++ ys) (by simp; omega) H0_ok
  have eH : addH H0 0 [] xs = allB H0 xs := by unfold addH; rw [o1]; rfl
  have eN : addN H0 0 [] xs = (xs.length : Int) := by unfold addN; rw [o1]; simp
  have eT : addT H0 0 [] xs = restB xs := by unfold addT; rw [o1]; rfl
  have fH : addH H0 0 [] (xs ++ ys) = allB H0 (xs ++ ys) := by unfold addH; rw [o12]; rfl
  have fN : addN H0 0 [] (xs ++ ys) = ((xs.length + ys.length : Nat) : Int) := by unfold addN; rw [o12]; simp
  have fT : addT H0 0 [] (xs ++ ys) = restB (xs ++ ys) := by unfold addT; rw [o12]; rfl
  rw [eH, eN, eT] at k1 ⊢
  have o2 : addOk (allB H0 xs) (xs.length : Int) (restB xs) ys = true := by unfold addOk; rw [k1]; simp; omega
  have gH : addH (allB H0 xs) (xs.length : Int) (restB xs) ys = addH H0 0 [] (xs ++ ys) := by unfold addH; rw [o2, o12, if_pos rfl, if_pos rfl, allB_app, List.nil_append]
  have gN : addN (allB H0 xs) (xs.length : Int) (restB xs) ys = addN H0 0 [] (xs ++ ys) := by rw [fN]; unfold addN; rw [o2]; simp
  have gT : addT (allB H0 xs) (xs.length : Int) (restB xs) ys = addT H0 0 [] (xs ++ ys) := by unfold addT; rw [o2, o12, if_pos rfl, if_pos rfl, restB_app, List.nil_append]
  rw [gH, gN, gT]
  refine ⟨o1, o2, k12, ?_, fN⟩
  rw [e12]
  unfold s256
  rw [if_pos (by simp; omega)]
end Go.Proofs.YtofflhhlacdgfaaDoor
