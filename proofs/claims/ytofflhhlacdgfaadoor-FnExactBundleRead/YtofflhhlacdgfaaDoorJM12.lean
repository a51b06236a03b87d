/-
  What is proved here: the contract of the program's ShaEnd, for every value. Where the program's two tables hold what its text lays into them; plain mathematics on the words of a block: how they fill up byte by byte, and then word by word; no condition; plain facts on eight words that are added up, and on an array of 64 words; no condition; contracts of the program's method numbers and of the specification's l2words, l2from and l2first: eight words as a slice of ints, and back; the contract of the specification's l2round: it tells the constant of a round.
-/
import Derived.Test.YtofflhhlacdgfaaDoorJM7
import Derived.Test.YtofflhhlacdgfaaDoorJM11
import Derived.Test.YtofflhhlacdgfaaDoorJM10
import Derived.Test.YtofflhhlacdgfaaDoorJM8
import Derived.Deep.RegionHeld3
import Derived.BigRegion
namespace Go.Proofs.YtofflhhlacdgfaaDoor
set_option maxRecDepth 100000
open Go.RowKit

/-- What ShaEnd answers. -/
def endOf (hs : List Int) (N : Int) (ts : List Int) : List Int := if shaOk hs N ts = true then sumB (allB hs (ts ++ padB N)) else []
theorem endOf_byte (hs : List Int) (N : Int) (ts : List Int) : ∀ y ∈ endOf hs N ts, 0 ≤ y ∧ y < 256 := by
  unfold endOf
  split
  · exact sumB_byte _
  · simp
theorem shaOk_parts {hs : List Int} {N : Int} {ts : List Int} (h : shaOk hs N ts = true) : hs.length = 8 ∧ (∀ x ∈ hs, 0 ≤ x ∧ x < 4294967296) ∧ 0 ≤ N ∧ N ≤ 20000 ∧ (ts.length : Int) = N % 64 := by
  unfold shaOk at h
  simp only [Bool.and_eq_true, decide_eq_true_eq] at h
  obtain ⟨h8, hwd⟩ := (isW_iff hs).1 h.1
  exact ⟨h8, hwd, h.2.1, h.2.2.1, h.2.2.2⟩
theorem endOf_len (hs : List Int) (N : Int) (ts : List Int) : (endOf hs N ts).length ≤ 32 := by
  unfold endOf
  split
  · rename_i h
    rw [sumB_len, show (allB hs (ts ++ padB N)).length = 8 from fld_len (shaOk_parts h).1 _ _]
    exact Nat.le_refl _
  · simp

theorem pdn_pad {n : Nat} {N : Int} (hn : (n : Int) = N % 64) : pdn n N = padB N ∧ zfn n = zn N := by
  have e : zfn n = zn N := by unfold zfn zn; rw [← hn]; simp; omega
  refine ⟨?_, e⟩
  unfold pdn padB
  rw [e]
  congr 2
theorem sum_narrow (hs : List Int) {ts : List Int} {n : Nat} {N : Int} (hl : ts.length = n) (hn : (ts.length : Int) = N % 64) : sumB (fld hs (ts ++ pdn n N) ((n + (zfn n + 9)) / 64)) = sumB (allB hs (ts ++ padB N)) := by
  obtain ⟨e1, e2⟩ := pdn_pad (n := n) (by rw [← hl]; exact hn)
  rw [e1, e2]
  unfold allB
  rw [List.length_append, padB_len, hl]

/-- Where the end stands. -/
structure Ei (w W : World) (G : Nat) (hs : List Int) (aH : Option Addr) (nH cH : Nat) (N : Int) (aT : Option Addr) (nT cT : Nat) (ts : List Int) : Prop where
  fr : Below w.heap.size w W
  p2 : Arr W w.heap.size 95 [.slice aH nH cH, .int .i64 N, .slice aT nT cT]
  ga : Arr W G 134 (U32 hs)
  bt : Bs W aT nT cT ts
  tb : Tabn W
theorem Ei.go {w A B : World} {G : Nat} {hs : List Int} {aH : Option Addr} {nH cH : Nat} {N : Int} {aT : Option Addr} {nT cT : Nat} {ts : List Int} (h : Ei w A G hs aH nH cH N aT nT cT ts) (hb : Below A.heap.size A B) : Ei w B G hs aH nH cH N aT nT cT ts :=
  ⟨h.fr.trans (hb.mono h.fr.size), h.p2.kept hb, h.ga.kept hb, h.bt.below hb, h.tb.kept hb⟩
theorem Ei.all {w W : World} {G : Nat} {hs : List Int} {aH : Option Addr} {nH cH : Nat} {N : Int} {aT : Option Addr} {nT cT : Nat} {ts : List Int} (h : Ei w W G hs aH nH cH N aT nT cT ts) {l0 l1 l2 l3 l4 l5 l6 l7 : Int} (e : [l0, l1, l2, l3, l4, l5, l6, l7] = hs) :
    W.cell? ⟨w.heap.size, 1, none⟩ = some (.int .i64 N) ∧ W.cell? ⟨w.heap.size, 2, none⟩ = some (.slice aT nT cT) ∧ W.cell? ⟨G, 0, none⟩ = some (.int .u32 l0) ∧ W.cell? ⟨G, 1, none⟩ = some (.int .u32 l1) ∧ W.cell? ⟨G, 2, none⟩ = some (.int .u32 l2) ∧ W.cell? ⟨G, 3, none⟩ = some (.int .u32 l3) ∧ W.cell? ⟨G, 4, none⟩ = some (.int .u32 l4) ∧ W.cell? ⟨G, 5, none⟩ = some (.int .u32 l5) ∧ W.cell? ⟨G, 6, none⟩ = some (.int .u32 l6) ∧ W.cell? ⟨G, 7, none⟩ = some (.int .u32 l7) := by
  have g := h.ga
  rw [← e] at g
  exact ⟨h.p2.cell 1, h.p2.cell 2, g.cell 0, g.cell 1, g.cell 2, g.cell 3, g.cell 4, g.cell 5, g.cell 6, g.cell 7⟩

set_option maxHeartbeats 1000000 in
theorem implShaEnd (aH : Option Addr) (nH cH : Nat) (N : Int) (aT : Option Addr) (nT cT : Nat) (hs ts : List Int) (w : World) (hH : Is w aH nH cH hs) (hT : Bs w aT nT cT ts) (ht : Tabs w) :
    Calls Tryd.prog 82 #[shaV aH nH cH N aT nT cT] w fun e w' => ∃ v, e = .returned (.tuple #[v, .bool (shaOk hs N ts)]) ∧ w'.ownsRow w.heap.size 5 1 v (endOf hs N ts).length (U8 (endOf hs N ts)) ∧ Below w.heap.size w w' := by
  have htl := hT.2.1
  obtain ⟨W, hW⟩ : ∃ W, W = w.alloc (.cells #[.slice aH nH cH, .int .i64 N, .slice aT nT cT] 95) := ⟨_, rfl⟩
  have B0 : Below w.heap.size w W := by rw [hW]; exact (Below.refl _ _).alloc (Nat.le_refl _) _
  have A2 : Arr W w.heap.size 95 [.slice aH nH cH, .int .i64 N, .slice aT nT cT] := by rw [hW]; exact Arr.new _ _ _
  go_enter Tryd.func82, Tryd.ntmps82
  go_wp2_with fail
  rw [show w.alloc (.cells #[.slice aH nH cH, .int .i64 N, .slice aT nT cT] 95) = W from hW.symm]
  refine (shaOpen aH nH cH N aT nT cT hs ts _ (hH.below B0) (hT.below B0)).mono ?_
  rintro e w1 ⟨l, rfl, hl8, hleq, hb1⟩
  have B1 := B0.trans (hb1.mono B0.size)
  have C2 := A2.kept hb1
  clear A2 B0 hW hb1
  obtain ⟨q, hq⟩ : ∃ q, q = shaOk hs N ts := ⟨_, rfl⟩
  have HE : Hid (endOf hs N ts = if q = true then sumB (allB hs (ts ++ padB N)) else []) := by unfold Hid endOf; rw [hq]
  have HP : Hid (q = true → hs.length = 8 ∧ (∀ x ∈ hs, 0 ≤ x ∧ x < 4294967296) ∧ 0 ≤ N ∧ N ≤ 20000 ∧ (ts.length : Int) = N % 64) := fun h => shaOk_parts (hq ▸ h)
  rw [← hq]
  rw [← hq] at hleq
  have hq' : q = false ∨ q = true := by cases q <;> simp
  have HQ : Hid _ := hq
  clear hq
  obtain ⟨l0, l1, l2, l3, l4, l5, l6, l7, hle⟩ := list8 hl8
  rw [hle]
  have HLE : Hid _ := hle
  have hsz1 := B1.size
  have hl2 := C2.lt
  have B2 : Below w.heap.size w (w1.alloc (.cells #[.int .u32 l0, .int .u32 l1, .int .u32 l2, .int .u32 l3, .int .u32 l4, .int .u32 l5, .int .u32 l6, .int .u32 l7] 134)) := B1.alloc hsz1 _
  have D2 := C2.alloc (.cells #[.int .u32 l0, .int .u32 l1, .int .u32 l2, .int .u32 l3, .int .u32 l4, .int .u32 l5, .int .u32 l6, .int .u32 l7] 134)
  have DG : Arr (w1.alloc (.cells #[.int .u32 l0, .int .u32 l1, .int .u32 l2, .int .u32 l3, .int .u32 l4, .int .u32 l5, .int .u32 l6, .int .u32 l7] 134)) w1.heap.size 134 (U32 [l0, l1, l2, l3, l4, l5, l6, l7]) := Arr.new _ _ _
  clear hle
  rcases hq' with rfl | rfl
  · clear C2 D2 DG B1
    have HB2 : Hid _ := B2
    clear B2
    go_wp2
    go_ret2
    refine ⟨_, by rw [← HQ.out]; rfl, ?_, HB2.out⟩
    rw [show endOf hs N ts = [] from HE.out]
    exact World.ownsRow_nil _ _ _ _
  obtain ⟨h8, hwd, hN1, hN2, hN3⟩ := HP.out rfl
  have hE : endOf hs N ts = sumB (allB hs (ts ++ padB N)) := HE.out
  have HE' : Hid _ := hE
  have hlh : [l0, l1, l2, l3, l4, l5, l6, l7] = hs := by rw [← HLE.out]; exact hleq rfl
  rw [hlh] at DG
  have HWD : Hid _ := hwd
  have HLH : Hid _ := hlh
  clear hleq HLE hwd hlh HE HP hE
  obtain ⟨W2, hW2⟩ : ∃ W2, W2 = w1.alloc (.cells #[.int .u32 l0, .int .u32 l1, .int .u32 l2, .int .u32 l3, .int .u32 l4, .int .u32 l5, .int .u32 l6, .int .u32 l7] 134) := ⟨_, rfl⟩
  rw [← hW2] at B2 D2 DG
  have hnT : nT ≤ 20000 := by omega
  have hsum : sumB (fld hs (ts ++ pdn nT N) ((nT + (zfn nT + 9)) / 64)) = endOf hs N ts := by rw [HE'.out]; exact sum_narrow hs htl hN3
  have hend : (endOf hs N ts).length = 32 := by rw [HE'.out, sumB_len, show (allB hs (ts ++ padB N)).length = 8 from fld_len h8 _ _]
  have HS : Hid (∀ rb Z, Bs Z aT nT cT ts → Arr Z rb 158 (U32 KS) → Calls Tryd.prog 118 #[.agg #[.int .u32 l0, .int .u32 l1, .int .u32 l2, .int .u32 l3, .int .u32 l4, .int .u32 l5, .int .u32 l6, .int .u32 l7], .slice aT nT cT, .int .i64 N, rulesVn rb] Z fun e w' => ∃ v, e = .returned v ∧ w'.ownsRow Z.heap.size 5 1 v 32 (U8 (endOf hs N ts)) ∧ Below Z.heap.size Z w') := by
    unfold Hid
    intro rb Z hz hr
    have := sumCn hs aT nT cT rb ts N Z h8 HWD.out hz hN1 hN2 hnT hr
    rw [hsum] at this
    rw [show (U32 hs).toArray = #[.int .u32 l0, .int .u32 l1, .int .u32 l2, .int .u32 l3, .int .u32 l4, .int .u32 l5, .int .u32 l6, .int .u32 l7] by rw [← HLH.out]; rfl] at this
    exact this
  have EI : Ei w W2.drew w1.heap.size hs aH nH cH N aT nT cT ts := ⟨B2.drew, D2.drew, DG.drew, (hT.below B2).below (Below.refl _ _).drew, (ht.below B2).below (Below.refl _ _).drew⟩
  have hEH : Hid _ := hend
  have hz2 := DG.lt
  have hs2 := B2.size
  clear hsum hend hz2 D2 DG B2 B1
  have f0 := C2.cell 0
  have f1 := C2.cell 1
  have f2 := C2.cell 2
  simp at f0 f1 f2
  go_wp2
  rw [← hW2]
  clear hW2 C2 f0 f1 f2
  go_region_held3 (fun W => W.cell? ⟨w.heap.size, 1, none⟩ = some (.int .i64 N) ∧ W.cell? ⟨w.heap.size, 2, none⟩ = some (.slice aT nT cT) ∧ W.cell? ⟨w1.heap.size, 0, none⟩ = some (.int .u32 l0) ∧ W.cell? ⟨w1.heap.size, 1, none⟩ = some (.int .u32 l1) ∧ W.cell? ⟨w1.heap.size, 2, none⟩ = some (.int .u32 l2) ∧ W.cell? ⟨w1.heap.size, 3, none⟩ = some (.int .u32 l3) ∧ W.cell? ⟨w1.heap.size, 4, none⟩ = some (.int .u32 l4) ∧ W.cell? ⟨w1.heap.size, 5, none⟩ = some (.int .u32 l5) ∧ W.cell? ⟨w1.heap.size, 6, none⟩ = some (.int .u32 l6) ∧ W.cell? ⟨w1.heap.size, 7, none⟩ = some (.int .u32 l7))
    (exact EI.all HLH.out)
    ((first
      | (go_at_call 118; refine (HS.out rb _ EI.bt hrb).mono ?_; rintro e w5 ⟨v5, rfl, ho5, hb5⟩; have hs5 := EI.fr.size; replace EI := EI.go hb5)
      | (go_at_call 116; refine (rulesCn _ EI.tb).mono ?_; rintro e wr ⟨rb, rfl, hrb, hge, hbr⟩; replace EI := EI.go hbr)))
  have O5 : Hid (w5.ownsRow w.heap.size 5 1 v5 (endOf hs N ts).length (U8 (endOf hs N ts))) := by
    unfold Hid
    rw [hEH.out]
    exact own_base ho5 hs5
  have B5 := EI.fr
  clear ho5 hb5 EI hrb hge HS
  go_wp2
  go_ret2
  exact ⟨_, by rw [← HQ.out]; rfl, O5.out, B5⟩
end Go.Proofs.YtofflhhlacdgfaaDoor
namespace Go.Proofs.YtofflhhlacdgfaaDoor
open Go.RowKit

/-- The words behind i bytes. -/
def pl (xs : List Int) (i : Nat) : List Int := (List.range 64).map (fun j => wv xs j (min 4 (i - 4 * j)))
theorem pl_len (xs : List Int) (i : Nat) : (pl xs i).length = 64 := by simp [pl]
theorem pl_get (xs : List Int) (i j : Nat) (h : j < 64) : (pl xs i).getD j 0 = wv xs j (min 4 (i - 4 * j)) := by simp [pl, h]
theorem pl_zero (xs : List Int) : pl xs 0 = List.replicate 64 0 := by
  have e : pl xs 0 = (List.range 64).map (fun _ => (0 : Int)) := by simp only [pl, Nat.zero_sub, Nat.min_zero, wv]
  rw [e]; rfl

theorem wv_byte (xs : List Int) (hb : ∀ x ∈ xs, 0 ≤ x ∧ x < 256) (j m : Nat) : 0 ≤ wv xs j m ∧ wv xs j m < 256 ^ m := by
  induction m with
  | zero => simp [wv]
  | succ m ih =>
    have hx : 0 ≤ xs.getD (4 * j + m) 0 ∧ xs.getD (4 * j + m) 0 < 256 := by
      by_cases h : 4 * j + m < xs.length
      · exact hb _ (getD_mem h)
      · have : xs.getD (4 * j + m) 0 = 0 := by simp [Nat.le_of_not_lt h]
        rw [this]; omega
    simp only [wv, Int.pow_succ]
    omega

theorem pl_set (xs : List Int) (i : Nat) (v : Int) (hv : v = wv xs (i / 4) (i % 4)) :
    (U32 (pl xs i)).set (i / 4) (.int .u32 (v * 256 + xs.getD i 0)) = U32 (pl xs (i + 1)) := by
  subst hv
  apply List.ext_getElem
  · simp [pl_len]
  · intro j h1 h2
    have hj : j < 64 := by simpa [pl_len] using h2
    rw [List.getElem_set]
    have e1 : ∀ (k : Nat) (hk : j < (U32 (pl xs k)).length), (U32 (pl xs k))[j] = .int .u32 (wv xs j (min 4 (k - 4 * j))) := by intro k hk; simp [pl]
    rw [e1 (i + 1)]
    split
    · rename_i e
      subst e
      have e2 : min 4 (i + 1 - 4 * (i / 4)) = i % 4 + 1 := by omega
      have e3 : 4 * (i / 4) + i % 4 = i := by omega
      rw [e2]
      simp only [wv, e3]
    · rename_i e
      rw [e1 i]
      have e2 : min 4 (i + 1 - 4 * j) = min 4 (i - 4 * j) := by omega
      rw [e2]

theorem schedL_snoc (xs : List Int) (k : Nat) : schedL xs (k + 1) = schedL xs k ++ [nextW xs (schedL xs k)] := rfl

theorem schedL_low (xs : List Int) (k j : Nat) (hj : j < k) (hk : k ≤ 16) : (schedL xs k).getD j 0 = wv xs j 4 := by
  induction k with
  | zero => omega
  | succ k ih =>
    rw [schedL_snoc]
    by_cases e : j = k
    · subst e
      have hl := schedL_len xs j
      have h2 : (schedL xs j ++ [nextW xs (schedL xs j)]).getD j 0 = nextW xs (schedL xs j) := by
        simp [List.getD, hl]
      rw [h2]
      unfold nextW
      rw [if_pos (by omega), hl]
    · have hl := schedL_len xs k
      have h2 : (schedL xs k ++ [nextW xs (schedL xs k)]).getD j 0 = (schedL xs k).getD j 0 := by
        simp [List.getD, List.getElem?_append_left, hl, show j < k by omega]
      rw [h2]
      exact ih (by omega) (by omega)

theorem pl_end (xs : List Int) : pl xs 64 = schedL xs 16 ++ List.replicate (64 - 16) 0 := by
  apply List.ext_getElem
  · simp [pl_len, schedL_len]
  · intro j h1 h2
    have hj : j < 64 := by simpa [pl_len] using h1
    have e1 : ∀ h : j < (pl xs 64).length, (pl xs 64)[j] = wv xs j (min 4 (64 - 4 * j)) := by intro h; simp [pl]
    rw [e1 h1, List.getElem_append]
    split
    · rename_i h
      have h' : j < 16 := by simpa [schedL_len] using h
      have := schedL_low xs 16 j h' (by omega)
      rw [show min 4 (64 - 4 * j) = 4 by omega, ← this]
      simp [schedL_len, h']
    · rename_i h
      have h' : ¬ j < 16 := by simpa [schedL_len] using h
      rw [show min 4 (64 - 4 * j) = 0 by omega, List.getElem_replicate]
      rfl

theorem set_sched (xs : List Int) (k : Nat) (h : k < 64) (v : Int) (hv : v = nextW xs (schedL xs k)) :
    (U32 (schedL xs k ++ List.replicate (64 - k) 0)).set k (.int .u32 v) = U32 (schedL xs (k + 1) ++ List.replicate (64 - (k + 1)) 0) := by
  subst hv
  have e : 64 - k = (64 - (k + 1)) + 1 := by omega
  rw [schedL_snoc, e, List.replicate_succ]
  simp only [U32, List.map_append, List.map_cons]
  rw [List.set_append_right _ _ (by simp [schedL_len])]
  simp [schedL_len]

theorem sched_get (xs : List Int) (k j m : Nat) (h : j < k) : (schedL xs k ++ List.replicate m 0).getD j 0 = (schedL xs k).getD j 0 := by
  simp [List.getD, List.getElem?_append_left, schedL_len, h]

theorem nextW_high (xs : List Int) (k : Nat) (hk : 16 ≤ k) : nextW xs (schedL xs k) = ((schedL xs k).getD (k - 16) 0 + sS0 ((schedL xs k).getD (k - 15) 0) + (schedL xs k).getD (k - 7) 0 + sS1 ((schedL xs k).getD (k - 2) 0)) % 4294967296 := by
  unfold nextW
  rw [schedL_len, if_neg (by omega)]
end Go.Proofs.YtofflhhlacdgfaaDoor
namespace Go.Proofs.YtofflhhlacdgfaaDoor
open Go.RowKit
set_option linter.unusedSimpArgs false
set_option maxRecDepth 100000

abbrev Z64 : List Int := [0, 0, 0, 0, 0, 0, 0, 0, 0, 0, 0, 0, 0, 0, 0, 0, 0, 0, 0, 0, 0, 0, 0, 0, 0, 0, 0, 0, 0, 0, 0, 0, 0, 0, 0, 0, 0, 0, 0, 0, 0, 0, 0, 0, 0, 0, 0, 0, 0, 0, 0, 0, 0, 0, 0, 0, 0, 0, 0, 0, 0, 0, 0, 0]
theorem Z64_len : Z64.length = 64 := rfl
theorem Tryd.infoW64 : (Tryd.prog.info? 158).map (·.size) = some 64 := by kernel_rfl

theorem stp8_mod (a b c d e f g h kw : Int) : stp8 a b c d e f g h (kw % 4294967296) = stp8 a b c d e f g h kw := by
  unfold stp8
  rw [show (h + bS1 e + cho e f g + kw % 4294967296 + (bS0 a + maj a b c)) % 4294967296 = (h + bS1 e + cho e f g + kw + (bS0 a + maj a b c)) % 4294967296 by omega,
    show (d + (h + bS1 e + cho e f g + kw % 4294967296)) % 4294967296 = (d + (h + bS1 e + cho e f g + kw)) % 4294967296 by omega]

/-- The first k words added up. -/
def zl (hs st : List Int) (k : Nat) : List Int := (List.zipWith (fun x y => (x + y) % 4294967296) hs st).take k ++ hs.drop k
theorem zl_len (hs st : List Int) (h : hs.length = 8) (h2 : st.length = 8) (k : Nat) (hk : k ≤ 8) : (zl hs st k).length = 8 := by simp [zl, h, h2]; omega
theorem zl_get (hs st : List Int) (h : hs.length = 8) (h2 : st.length = 8) (k : Nat) (hk : k < 8) : (zl hs st k).getD k 0 = hs.getD k 0 := by
  simp [zl, List.getD, List.getElem?_append_right, h, h2, show min k 8 = k by omega]
theorem zl_set (hs st : List Int) (h : hs.length = 8) (h2 : st.length = 8) (k : Nat) (hk : k < 8) (v : Int) (hv : v = (hs.getD k 0 + st.getD k 0) % 4294967296) : (U32 (zl hs st k)).set k (.int .u32 v) = U32 (zl hs st (k + 1)) := by
  subst hv
  have e : hs.drop k = hs.getD k 0 :: hs.drop (k + 1) := by
    rw [List.drop_eq_getElem_cons (by omega)]; simp [show k < hs.length by omega]
  have hz : (List.zipWith (fun x y => (x + y) % 4294967296) hs st).length = 8 := by simp [h, h2]
  have e2 : (List.zipWith (fun x y => (x + y) % 4294967296) hs st).take (k + 1) = (List.zipWith (fun x y => (x + y) % 4294967296) hs st).take k ++ [(hs.getD k 0 + st.getD k 0) % 4294967296] := by
    rw [take_snoc _ _ (by omega)]
    simp [List.getD, List.getElem?_zipWith, show k < hs.length by omega, show k < st.length by omega]
  unfold zl
  rw [e, e2]
  simp only [U32, List.map_append, List.map_cons]
  rw [List.set_append_right _ _ (by simp [hz]; omega)]
  simp [h, h2, show min k 8 = k by omega]

theorem Tryd.infoU32 : (Tryd.prog.info? 132).map (·.size) = some 1 := by kernel_rfl

end Go.Proofs.YtofflhhlacdgfaaDoor
namespace Go.Proofs.YtofflhhlacdgfaaDoor
set_option maxRecDepth 100000
open Go.RowKit

theorem words_int {l : List Int} (h : ∀ x ∈ l, 0 ≤ x ∧ x < 4294967296) : ∀ x ∈ l, -9223372036854775808 ≤ x ∧ x ≤ 9223372036854775807 := fun x hx => by have := h x hx; omega

set_option maxHeartbeats 1000000 in
theorem numbersC (hs : List Int) (w : World) (hl : hs.length = 8) (hw : ∀ x ∈ hs, 0 ≤ x ∧ x < 4294967296) :
    Calls Tryd.prog 117 #[.agg (U32 hs).toArray] w fun e w' => ∃ v, e = .returned v ∧ w'.ownsRow w.heap.size 3 1 v 8 (I64 hs) ∧ Below w.heap.size w w' := by
  obtain ⟨i0, hi, hz0, hz1, hz2⟩ := info_parts Tryd.info3
  obtain ⟨W, hW⟩ : ∃ W, W = w.alloc (.cells (U32 hs).toArray 134) := ⟨_, rfl⟩
  have hA : Arr W w.heap.size 134 (U32 hs) := by rw [hW]; exact Arr.new w _ _
  have hB : Below w.heap.size w W := by rw [hW]; exact (Below.refl _ _).alloc (Nat.le_refl _) _
  have hsz : (Tryd.prog.info? 134).map (·.size) = some 8 := by kernel_rfl
  have hinf : (Tryd.prog.info? 132).map (·.size) = some 1 := by kernel_rfl
  obtain ⟨l0, l1, l2, l3, l4, l5, l6, l7, hhs⟩ := list8 hl
  rw [hhs, show (U32 [l0, l1, l2, l3, l4, l5, l6, l7]).toArray = #[.int .u32 l0, .int .u32 l1, .int .u32 l2, .int .u32 l3, .int .u32 l4, .int .u32 l5, .int .u32 l6, .int .u32 l7] from rfl] at hW
  go_enter Tryd.func117, Tryd.ntmps117
  rw [show (Value.agg (U32 hs).toArray) = Value.agg #[.int .u32 l0, .int .u32 l1, .int .u32 l2, .int .u32 l3, .int .u32 l4, .int .u32 l5, .int .u32 l6, .int .u32 l7] by rw [hhs]; rfl]
  have HHS : Hid _ := hhs
  clear hhs
  go_wp2_with (first
    | (at_make; rw [← hW]; refine wpList_make_own _ rfl _ _ 91 rfl W.heap.size 3 i0 (.int .i64 0) 1 Tryd.underlying91 hi hz0 hz1 .i64 .i64 8 8 rfl rfl (by omega) (by rw [hz2]; omega) (by unfold maxLen; omega) (Nat.le_refl _) ?_; intro w1 hown1 hgrow1; have hbel1 : Below W.heap.size W w1 := (Below.refl _ _).grown hgrow1 (Nat.le_refl _) (by intro k hk; cases hk); have hA1 := hA.kept hbel1)
    | (refine wpList_load_row rfl 134 _ rfl w.heap.size rfl 134 (U32 hs).toArray (0, 0) _ hA1 Tryd.underlying134 rfl (by simpa [hl] using hsz) ?_))
  have hlt := hA.lt
  have hWs : W.heap.size = w.heap.size + 1 := by rw [hW]; simp
  clear hgrow1 hW hA
  go_loopw [3, 8] (fun v i wr => ∃ k : Nat, k ≤ 8 ∧ i = .int .i64 k ∧ wr.ownsRow W.heap.size 3 1 v k (I64 (hs.take k)) ∧ Below W.heap.size W wr) (fun _ i _ => 8 - (intOf i).toNat)
  case atStart => exact ⟨0, by omega, rfl, by simpa [hWs] using hown1, hbel1⟩
  case round =>
    clear hown1 hbel1 hA1 hWs
    obtain ⟨k, hk, rfl, hown, hb⟩ := hrel
    by_cases hlt8 : k < 8
    · have ix := fun w => index_arr Tryd.underlying134 Tryd.underlying132 hinf hs hl k hlt8 w
      obtain ⟨x, hx⟩ : ∃ x, x = hs.getD k 0 := ⟨_, rfl⟩
      rw [← hx] at ix
      obtain ⟨hx0, hx1⟩ : 0 ≤ x ∧ x < 4294967296 := by rw [hx]; exact hw _ (getD_mem (by omega))
      have hsn := take_snoc hs k (by omega)
      rw [← hx] at hsn
      have HN : Hid _ := hsn
      clear hx hsn
      have hcv : IntKind.i64.wrap x = x := by rw [IntKind.wrap_i64]; omega
      have hk8 : (k : Int) < 8 := by omega
      have hszw := hb.size
      go_wp2_with (at_builtin; refine wpl_append_is rfl _ _ rfl W.heap.size _ k (hs.take k) rfl (some ⟨wr.heap.size, 0, none⟩) 1 1 [x] rfl (hown.alloc _) ?_ ?_ ?_ ?_)
      · exact Is.one _ _ (by omega) (by omega)
      · omega
      · first | omega | (simp; omega)
      intro v' w' h1 h2 _
      have hb2 := below_appI hb (by omega) hown h2
      have HR : Hid (w'.ownsRow W.heap.size 3 1 v' (k + 1) (I64 (hs.take (k + 1)))) := by
        unfold Hid
        rw [HN.out]; simpa using h1
      clear h1 h2 hown hb HN
      go_wp2
      go_roundw
      case rel => exact ⟨k + 1, by omega, by go_num, HR.out, hb2⟩
      case measure => simp [intOf]; omega
    · have hkn : k = 8 := by omega
      subst hkn
      rw [List.take_of_length_le (show hs.length ≤ 8 by omega)] at hown
      go_wp2
      go_ret
      exact ⟨_, rfl, own_base hown hB.size, hB.trans (hb.mono hB.size)⟩
theorem numbersC8 (l0 l1 l2 l3 l4 l5 l6 l7 : Int) (w : World) (hw : ∀ x ∈ [l0, l1, l2, l3, l4, l5, l6, l7], 0 ≤ x ∧ x < 4294967296) :
    Calls Tryd.prog 117 #[.agg #[.int .u32 l0, .int .u32 l1, .int .u32 l2, .int .u32 l3, .int .u32 l4, .int .u32 l5, .int .u32 l6, .int .u32 l7]] w fun e w' => ∃ v, e = .returned v ∧ w'.ownsRow w.heap.size 3 1 v 8 (I64 [l0, l1, l2, l3, l4, l5, l6, l7]) ∧ Below w.heap.size w w' :=
  numbersC [l0, l1, l2, l3, l4, l5, l6, l7] w rfl hw

set_option maxHeartbeats 1000000 in
theorem specWords (hs : List Int) (w : World) (hl : hs.length = 8) (hw : ∀ x ∈ hs, 0 ≤ x ∧ x < 4294967296) :
    Calls Tryd.prog 138 #[.agg (U32 hs).toArray] w fun e w' => ∃ v, e = .returned v ∧ w'.ownsRow w.heap.size 3 1 v 8 (I64 hs) ∧ Below w.heap.size w w' := by
  obtain ⟨W, hW⟩ : ∃ W, W = w.alloc (.cells (U32 hs).toArray 133) := ⟨_, rfl⟩
  have hA : Arr W w.heap.size 133 (U32 hs) := by rw [hW]; exact Arr.new w _ _
  have hB : Below w.heap.size w W := by rw [hW]; exact (Below.refl _ _).alloc (Nat.le_refl _) _
  obtain ⟨l0, l1, l2, l3, l4, l5, l6, l7, hhs⟩ := list8 hl
  rw [hhs] at hW
  go_enter Tryd.func138, Tryd.ntmps138
  rw [show (Value.agg (U32 hs).toArray) = Value.agg #[.int .u32 l0, .int .u32 l1, .int .u32 l2, .int .u32 l3, .int .u32 l4, .int .u32 l5, .int .u32 l6, .int .u32 l7] by rw [hhs]; rfl]
  clear hhs
  go_wp2
  go_loopw [3, 4] (fun v i wr => ∃ k : Nat, k ≤ 8 ∧ i = .int .i64 k ∧ Arr wr w.heap.size 133 (U32 hs) ∧ wr.ownsRow (w.heap.size + 1) 3 1 v k (I64 (hs.take k)) ∧ Below w.heap.size w wr) (fun _ i _ => 8 - (intOf i).toNat)
  case atStart => exact ⟨0, by omega, rfl, hW ▸ hA, World.ownsRow_nil _ _ _ _, hW ▸ hB⟩
  case round =>
    clear hA hB hW
    obtain ⟨k, hk, rfl, hA, hown, hb⟩ := hrel
    by_cases hlt : k < 8
    · obtain ⟨x, hx⟩ : ∃ x, x = hs.getD k 0 := ⟨_, rfl⟩
      have hck := hA.u32 k (by omega)
      rw [← hx] at hck
      obtain ⟨hx0, hx1⟩ : 0 ≤ x ∧ x < 4294967296 := by rw [hx]; exact hw _ (getD_mem (by omega))
      have hsn := take_snoc hs k (by omega)
      rw [← hx] at hsn
      have HN : Hid _ := hsn
      clear hx hsn
      have hcv : IntKind.i64.wrap x = x := by rw [IntKind.wrap_i64]; omega
      have hk8 : (k : Int) < 8 := by omega
      have hsz := hA.lt
      go_wp2_with (at_builtin; refine wpl_append_is rfl _ _ rfl (w.heap.size + 1) _ k (hs.take k) rfl (some ⟨wr.heap.size, 0, none⟩) 1 1 [x] rfl (hown.alloc _) ?_ ?_ ?_ ?_)
      · exact Is.one _ _ (by omega) (by omega)
      · omega
      · first | omega | (simp; omega)
      intro v' w' h1 h2 _
      have hb2 := below_appI hb (by omega) (own_base hown (by omega)) h2
      have hbA : Below (w.heap.size + 1) wr w' := ((Below.refl _ _).alloc (by omega) _).grown h2 (by simp; omega) (fun j hj => (hown.lt j hj).1)
      have hA' := hA.below hbA (by omega)
      have HR : Hid (w'.ownsRow (w.heap.size + 1) 3 1 v' (k + 1) (I64 (hs.take (k + 1)))) := by
        unfold Hid
        rw [HN.out]; simpa using h1
      clear h1 h2 hown hb HN hA hbA
      go_wp2
      go_roundw
      case rel => exact ⟨k + 1, by omega, by go_num, hA', HR.out, hb2⟩
      case measure => simp [intOf]; omega
    · have hkn : k = 8 := by omega
      subst hkn
      go_wp2
      go_ret
      refine ⟨_, rfl, ?_, hb⟩
      have := own_base hown (show w.heap.size ≤ w.heap.size + 1 by omega)
      simpa [List.take_of_length_le (show hs.length ≤ 8 by omega)] using this
end Go.Proofs.YtofflhhlacdgfaaDoor
namespace Go.Proofs.YtofflhhlacdgfaaDoor
set_option maxRecDepth 100000
open Go.RowKit

set_option maxHeartbeats 1000000 in
theorem specRound (k : Nat) (hk : k < 64) (w : World) :
    Calls Tryd.prog 146 #[.int .i64 (k : Int)] w fun e w' => e = .returned (.int .u32 (KS.getD k 0)) ∧ Below w.heap.size w w' := by
  have hA := Arr.new w (U32 Z64) 158
  have hB : Below w.heap.size w (w.alloc (.cells (U32 Z64).toArray 158)) := (Below.refl _ _).alloc (Nat.le_refl _) _
  have hA2 := hA.row (U32 KS)
  have hB2 := setRow_below hB w.heap.size (U32 KS).toArray (Nat.le_refl _)
  have hck := hA2.u32 k (by rw [KS_len]; exact hk)
  obtain ⟨y, hy⟩ : ∃ y, y = KS.getD k 0 := ⟨_, rfl⟩
  rw [← hy] at hck
  have hck2 : ((w.alloc (.cells #[.int .u32 0, .int .u32 0, .int .u32 0, .int .u32 0, .int .u32 0, .int .u32 0, .int .u32 0, .int .u32 0, .int .u32 0, .int .u32 0, .int .u32 0, .int .u32 0, .int .u32 0, .int .u32 0, .int .u32 0, .int .u32 0, .int .u32 0, .int .u32 0, .int .u32 0, .int .u32 0, .int .u32 0, .int .u32 0, .int .u32 0, .int .u32 0, .int .u32 0, .int .u32 0, .int .u32 0, .int .u32 0, .int .u32 0, .int .u32 0, .int .u32 0, .int .u32 0, .int .u32 0, .int .u32 0, .int .u32 0, .int .u32 0, .int .u32 0, .int .u32 0, .int .u32 0, .int .u32 0, .int .u32 0, .int .u32 0, .int .u32 0, .int .u32 0, .int .u32 0, .int .u32 0, .int .u32 0, .int .u32 0, .int .u32 0, .int .u32 0, .int .u32 0, .int .u32 0, .int .u32 0, .int .u32 0, .int .u32 0, .int .u32 0, .int .u32 0, .int .u32 0, .int .u32 0, .int .u32 0, .int .u32 0, .int .u32 0, .int .u32 0, .int .u32 0] 158)).setRow w.heap.size (U32 KS).toArray).cell? ⟨w.heap.size, k, none⟩ = some (.int .u32 y) := hck
  have HY : Hid _ := hy
  have HB : Hid _ := hB2
  clear hy hA2 hB2 hB hck
  have hk64 : (k : Int) < 64 := by omega
  go_enter Tryd.func146, Tryd.ntmps146
  go_wp2_with (first
    | (refine wpList_buildTo rfl 158 _ rfl (U32 KS).toArray (by kernel_rfl) ?_)
    | (refine wpList_store_row rfl 158 _ _ rfl w.heap.size (U32 KS).toArray rfl rfl 158 (U32 Z64).toArray hA (by kernel_rfl) (by kernel_rfl) (by kernel_rfl) ?_))
  go_ret
  refine ⟨?_, HB.out⟩
  show Ending.returned (.int .u32 y) = _
  rw [HY.out]
  rfl
end Go.Proofs.YtofflhhlacdgfaaDoor
