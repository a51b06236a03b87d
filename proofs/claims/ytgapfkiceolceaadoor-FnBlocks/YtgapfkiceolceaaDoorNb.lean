/-
  What is proved here: contracts of the specification's l2from and l2first, and of both ShaBlocks, for every two slices of at most 2^21 elements. Where the program's two tables hold what its text lays into them.
-/
import Derived.Test.YtgapfkiceolceaaDoorNm
import Derived.Test.YtgapfkiceolceaaDoorSc
import Derived.Test.YtgapfkiceolceaaDoorGkn
namespace Go.Proofs.YtgapfkiceolceaaDoor
set_option maxRecDepth 100000
open Go.RowKit

set_option maxHeartbeats 1000000 in
theorem specFrom (a : Option Addr) (c : Nat) (xs : List Int) (w : World) (h : Is w a 8 c xs) (hw : ∀ x ∈ xs, 0 ≤ x ∧ x < 4294967296) :
    Calls Tryd.prog 77 #[.slice a 8 c] w fun e w' => e = .returned (.agg (U32 xs).toArray) ∧ Below w.heap.size w w' := by
  obtain ⟨_, hl, hc, _, h⟩ := h
  rcases h with h | ⟨b, o, rfl, hbs, hcell⟩
  · omega
  obtain ⟨W, hW⟩ : ∃ W, W = (w.alloc (.cells (U32 Z8).toArray 64)).alloc (.cells (U32 Z8).toArray 64) := ⟨_, rfl⟩
  have hA0 : Arr W w.heap.size 64 (U32 Z8) := by rw [hW]; exact (Arr.new w _ _).alloc _
  have hA1 : Arr W (w.heap.size + 1) 64 (U32 (xs.take 0 ++ List.replicate (8 - 0) 0)) := by
    rw [hW]
    have := Arr.new (w.alloc (.cells (U32 Z8).toArray 64)) (U32 Z8) 64
    rw [show (w.alloc (.cells (U32 Z8).toArray 64)).heap.size = w.heap.size + 1 by simp] at this
    exact this
  have hB : Below w.heap.size w W := by rw [hW]; exact ((Below.refl _ _).alloc (Nat.le_refl _) _).alloc (by simp) _
  go_enter Tryd.func77, Tryd.ntmps77
  go_wp2
  go_loopw [4] (fun i wr => ∃ k : Nat, k ≤ 8 ∧ i = .int .i64 k ∧ Arr wr w.heap.size 64 (U32 Z8) ∧ Arr wr (w.heap.size + 1) 64 (U32 (xs.take k ++ List.replicate (8 - k) 0)) ∧ Below w.heap.size w wr) (fun i _ => 8 - (intOf i).toNat)
  case atStart => exact ⟨0, by omega, rfl, hW ▸ hA0, hW ▸ hA1, hW ▸ hB⟩
  case round =>
    clear hA0 hA1 hB hW
    obtain ⟨k, hk, rfl, h0, h1, hb⟩ := hrel
    by_cases hlt : k < 8
    · obtain ⟨x, hx⟩ : ∃ x, x = xs.getD k 0 := ⟨_, rfl⟩
      have hck : wr.cell? ⟨b, o + k, none⟩ = some (.int .i64 x) := by rw [hx]; exact (hb.cell (p := ⟨b, o + k, none⟩) hbs).trans (hcell k hlt)
      obtain ⟨hx0, hx1⟩ : 0 ≤ x ∧ x < 4294967296 := by rw [hx]; exact hw _ (getD_mem (by omega))
      have hcv : IntKind.u32.wrap x = x := by rw [IntKind.wrap_u32]; omega
      have hfz := h1.frozen k
      obtain ⟨u, hu⟩ : ∃ u, wr.cell? ⟨w.heap.size + 1, k, none⟩ = some u := by
        rw [h1.cell k]
        exact ⟨_, List.getElem?_eq_getElem (by simp; omega)⟩
      have h1' := h1.set k (.int .u32 x)
      rw [set_fill xs 8 k x (by omega) hl hx] at h1'
      have h0' := h0.other ⟨w.heap.size + 1, k, none⟩ (.int .u32 x) (by simp)
      have hb' := hb.setCell (p := ⟨w.heap.size + 1, k, none⟩) (by simp) (.int .u32 x)
      have H1 : Hid _ := h1'
      have H0 : Hid _ := h0'
      have HB : Hid _ := hb'
      clear h1' h0' hb' h0 h1 hb hcell hx
      have hk8 : (k : Int) < 8 := by omega
      go_wp2
      go_roundw
      case rel => exact ⟨k + 1, by omega, by go_num, H0.out, H1.out, HB.out⟩
      case measure => simp [intOf]; omega
    · have hkn : k = 8 := by omega
      subst hkn
      have e : xs.take 8 ++ List.replicate (8 - 8) 0 = xs := by simp [List.take_of_length_le (show xs.length ≤ 8 by omega)]
      rw [e] at h1
      have h0' := h0.row (U32 xs)
      have hb' := setRow_below hb w.heap.size (U32 xs).toArray (Nat.le_refl _)
      have hsz : (Tryd.prog.info? 64).map (·.size) = some (U32 xs).toArray.size := by simpa [hl] using Tryd.infoW8
      clear e
      go_wp2_with (first
        | (refine wpList_load_row rfl 64 _ rfl (w.heap.size + 1) rfl 64 (U32 xs).toArray (0, 0) _ h1 Tryd.underlying64 rfl hsz ?_)
        | (refine wpList_store_row rfl 64 _ _ rfl w.heap.size (U32 xs).toArray rfl rfl 64 _ h0 hsz (by simp [hl]) (by simp [Value.oneCell']) ?_))
      exact bodyPost_ret (results_cell_row rfl _ _ w.heap.size 64 (U32 xs).toArray (0, 0) _ rfl h0' Tryd.underlying64 rfl hsz) rfl ⟨rfl, hb'⟩

theorem specFirst (w : World) : Calls Tryd.prog 74 #[] w fun e w' => e = .returned (.agg (U32 H0).toArray) ∧ Below w.heap.size w w' := by
  go_enter Tryd.func74, Tryd.ntmps74
  go_wp2
  refine bodyPost_ret (results_cell_row rfl _ _ w.heap.size 64 (U32 H0).toArray (0, 0) _ rfl (Arr.new w (U32 H0) 64) Tryd.underlying64 rfl Tryd.infoW8) rfl ⟨rfl, ?_⟩
  exact (Below.refl _ _).alloc (Nat.le_refl _) _

/-- What ShaBlock answers. -/
def sbOk (hs xs : List Int) : Bool := isW hs && decide (xs.length = 64)
def sbOf (hs xs : List Int) : List Int := if sbOk hs xs = true then blk hs xs else []
theorem sbOf_no {hs xs : List Int} (h : sbOk hs xs = false) : sbOf hs xs = [] := by unfold sbOf; rw [h]; rfl
theorem sbOf_yes {hs xs : List Int} (h : sbOk hs xs = true) : sbOf hs xs = blk hs xs := by unfold sbOf; rw [h]; rfl

set_option maxHeartbeats 1000000 in
theorem specShaBlock (aH : Option Addr) (nH cH : Nat) (hs : List Int) (aT : Option Addr) (nT cT : Nat) (xs : List Int) (w : World) (hH : Is w aH nH cH hs) (hT : Bs w aT nT cT xs) (hn : nH ≤ 2097152) :
    Calls Tryd.prog 36 #[.slice aH nH cH, .slice aT nT cT] w fun e w' => ∃ v, e = .returned (.tuple #[v, .bool (sbOk hs xs)]) ∧ w'.ownsRow w.heap.size 3 1 v (sbOf hs xs).length (I64 (sbOf hs xs)) ∧ Below w.heap.size w w' := by
  have hhl := hH.2.1
  have htl := hT.2.1
  obtain ⟨q, hq⟩ : ∃ q, q = isW hs := ⟨_, rfl⟩
  have hq' : q = false ∨ q = true := by cases q <;> simp
  have HQ : Hid _ := hq
  clear hq
  go_enter Tryd.func36, Tryd.ntmps36
  go_wp2_with fail
  refine (isWords aH nH cH hs _ hH hn).mono ?_
  rintro e w' ⟨rfl, hw'⟩
  have hw'' := hw'.symm
  subst hw''
  clear hw'
  rw [← HQ.out]
  rcases hq' with rfl | rfl
  · have ho : sbOk hs xs = false := by unfold sbOk; rw [← HQ.out]; rfl
    have hf := sbOf_no ho
    have HO : Hid _ := ho
    have HF : Hid _ := hf
    clear ho hf
    go_wp2
    go_ret2
    exact ⟨_, by rw [HO.out]; rfl, by rw [HF.out]; exact World.ownsRow_nil _ _ _ _, Below.refl _ _⟩
  by_cases h64 : nT = 64
  rotate_left
  · have ho : sbOk hs xs = false := by unfold sbOk; rw [← HQ.out]; simp; omega
    have hf := sbOf_no ho
    have HO : Hid _ := ho
    have HF : Hid _ := hf
    have hne : ((nT : Int) != 64) = true := by simp; omega
    clear ho hf
    go_wp2
    go_ret2
    exact ⟨_, by rw [HO.out]; rfl, by rw [HF.out]; exact World.ownsRow_nil _ _ _ _, Below.refl _ _⟩
  subst h64
  have ho : sbOk hs xs = true := by unfold sbOk; rw [← HQ.out]; simp; omega
  have hf := sbOf_yes ho
  have HO : Hid _ := ho
  have HF : Hid _ := hf
  have hW := (isW_iff hs).1 HQ.out.symm
  clear ho hf
  obtain ⟨h8, hwd⟩ := hW
  have hn8 : nH = 8 := by omega
  subst hn8
  go_wp2_with fail
  refine (specFrom aH cH hs _ hH hwd).mono ?_
  rintro e w1 ⟨rfl, hb1⟩
  go_wp2_with fail
  refine (specBlock hs aT cT xs _ h8 (hT.below hb1)).mono ?_
  rintro e w2 ⟨rfl, hb2⟩
  have B2 := hb1.trans (hb2.mono hb1.size)
  clear hb1 hb2
  go_wp2_with fail
  refine (specWords (blk hs xs) _ (blk_len h8 xs) (blk_word hs xs)).mono ?_
  rintro e w3 ⟨v3, rfl, ho3, hb3⟩
  have B3 := B2.trans (hb3.mono B2.size)
  have o3 := own_base ho3 B2.size
  clear hb3 ho3
  go_wp2
  go_ret2
  exact ⟨v3, by rw [HO.out]; rfl, by rw [HF.out, blk_len h8 xs]; exact o3, B3⟩

set_option maxHeartbeats 1000000 in
theorem implShaBlock (aH : Option Addr) (nH cH : Nat) (hs : List Int) (aT : Option Addr) (nT cT : Nat) (xs : List Int) (w : World) (hH : Is w aH nH cH hs) (hT : Bs w aT nT cT xs) (ht : Tabs w) :
    Calls Tryd.prog 24 #[.slice aH nH cH, .slice aT nT cT] w fun e w' => ∃ v, e = .returned (.tuple #[v, .bool (sbOk hs xs)]) ∧ w'.ownsRow w.heap.size 3 1 v (sbOf hs xs).length (I64 (sbOf hs xs)) ∧ Below w.heap.size w w' := by
  have htl := hT.2.1
  obtain ⟨q, hq⟩ : ∃ q, q = isW hs := ⟨_, rfl⟩
  have hq' : q = false ∨ q = true := by cases q <;> simp
  have HQ : Hid _ := hq
  clear hq
  go_enter Tryd.func24, Tryd.ntmps24
  go_wp2_with fail
  refine (wordsOf aH nH cH hs _ hH).mono ?_
  rintro e w1 ⟨l, rfl, hl8, hleq, hb1⟩
  rw [← HQ.out]
  rw [← HQ.out] at hleq
  obtain ⟨l0, l1, l2, l3, l4, l5, l6, l7, hle⟩ := list8 hl8
  have HB : Hid (Below w.heap.size w (w1.alloc (.cells (U32 [l0, l1, l2, l3, l4, l5, l6, l7]).toArray 65))) := hb1.alloc hb1.size _
  have HA : Hid (Arr (w1.alloc (.cells (U32 [l0, l1, l2, l3, l4, l5, l6, l7]).toArray 65)) w1.heap.size 65 (U32 [l0, l1, l2, l3, l4, l5, l6, l7])) := Arr.new _ _ _
  have hs1 := hb1.size
  rw [hle]
  have HLE : Hid _ := hle
  clear hle hb1
  rcases hq' with rfl | rfl
  · have ho : sbOk hs xs = false := by unfold sbOk; rw [← HQ.out]; rfl
    have hf := sbOf_no ho
    have HO : Hid _ := ho
    have HF : Hid _ := hf
    clear ho hf
    go_wp2
    go_ret2
    exact ⟨_, by rw [HO.out]; rfl, by rw [HF.out]; exact World.ownsRow_nil _ _ _ _, HB.out⟩
  by_cases h64 : nT = 64
  rotate_left
  · have ho : sbOk hs xs = false := by unfold sbOk; rw [← HQ.out]; simp; omega
    have hf := sbOf_no ho
    have HO : Hid _ := ho
    have HF : Hid _ := hf
    have hne : ((nT : Int) != 64) = true := by simp; omega
    clear ho hf
    go_wp2
    go_ret2
    exact ⟨_, by rw [HO.out]; rfl, by rw [HF.out]; exact World.ownsRow_nil _ _ _ _, HB.out⟩
  subst h64
  have ho : sbOk hs xs = true := by unfold sbOk; rw [← HQ.out]; simp; omega
  have hf := sbOf_yes ho
  have HO : Hid _ := ho
  have HF : Hid _ := hf
  obtain ⟨h8, hwd⟩ := (isW_iff hs).1 HQ.out.symm
  have hlh : [l0, l1, l2, l3, l4, l5, l6, l7] = hs := by rw [← HLE.out]; exact hleq rfl
  rw [hlh] at HA HB
  have HLH : Hid _ := hlh
  clear ho hf hleq hlh HLE
  have hsz8 : (Tryd.prog.info? 65).map (·.size) = some 8 := by kernel_rfl
  have hbl8 := blk_len h8 xs
  go_wp2_with fail
  rw [show w1.alloc (.cells #[.int .u32 l0, .int .u32 l1, .int .u32 l2, .int .u32 l3, .int .u32 l4, .int .u32 l5, .int .u32 l6, .int .u32 l7] 65) = w1.alloc (.cells (U32 hs).toArray 65) by rw [← HLH.out]; rfl]
  refine (rulesCn _ (ht.below HB.out)).mono ?_
  rintro e wr ⟨rb, rfl, hrb, hge, hbr⟩
  have BR := (HB.out : Below _ _ _).trans (hbr.mono (by simp; omega))
  have AR := (HA.out : Arr _ _ _ _).kept hbr
  have hge' : rb ≠ w1.heap.size := by simp at hge; omega
  clear HA HB hbr hge
  go_wp2_with fail
  refine (takeBlockCn w1.heap.size hs aT cT rb xs _ AR h8 (hT.below BR) hrb).mono ?_
  rintro e w2 ⟨rfl, hA2, hg2⟩
  have B2 : Below w.heap.size w w2 := BR.grown hg2 BR.size (fun j hj => by cases hj; exact hs1)
  clear hg2 AR BR hrb
  go_wp2_with (first
    | (refine wpList_load_row rfl 65 _ rfl w1.heap.size rfl 65 (U32 (blk hs xs)).toArray (0, 0) _ hA2 Tryd.underlying65 rfl (by simpa [hbl8] using hsz8) ?_)
    | (go_at_call 58; refine (numbersC (blk hs xs) _ hbl8 (blk_word hs xs)).mono ?_; rintro e w3 ⟨v3, rfl, ho3, hb3⟩))
  have B3 := B2.trans (hb3.mono B2.size)
  have o3 := own_base ho3 B2.size
  clear hb3 ho3 hA2
  go_ret2
  exact ⟨v3, by rw [HO.out]; rfl, by rw [HF.out, blk_len h8 xs]; exact o3, B3⟩
end Go.Proofs.YtgapfkiceolceaaDoor
