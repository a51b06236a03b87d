/-
  What is proved here: the contract of the program's method takeBlock: eight words behind a pointer become what SHA-256 makes of them and of a block of 64 bytes; nothing else that was there turns. Where the program's two tables hold what its text lays into them.
-/
import Derived.Test.YtlglkbimnnmhdaaDoorSch
import Derived.Test.YtlglkbimnnmhdaaDoorRd
namespace Go.Proofs.YtlglkbimnnmhdaaDoor
open Go.RowKit
set_option linter.unusedSimpArgs false

theorem index_arr {P : Program} {t e : TypeId} {n : Nat} {K : IntKind} (hu : P.underlying t = some (.array n e)) (he : P.underlying e = some (.int K)) (hs : (P.info? e).map (·.size) = some 1) (xs : List Int) (hl : xs.length = n) (k : Nat) (hk : k < n) (w : World) :
    (Instr.index t (.agg (xs.map (Value.int K)).toArray) (.int .i64 (k : Int))).run P w = .ok (.int K (xs.getD k 0)) w := by
  cases hq : P.info? e with
  | none => simp [hq] at hs
  | some i =>
    have hz : i.size = 1 := by simpa [hq] using hs
    have hk' : (k : Int) < (n : Int) := by omega
    have hkx : k < xs.length := by omega
    simp [Instr.index, run_underlying hu, run_underlying he, asIntOf, part, isAgg, sizeOf, typeInfo, hq, hz, hk', hkx, go_sem]
    intro h
    omega

theorem stp8_mod (a b c d e f g h kw : Int) : stp8 a b c d e f g h (kw % 4294967296) = stp8 a b c d e f g h kw := by
  unfold stp8
  rw [show (h + bS1 e + cho e f g + kw % 4294967296 + (bS0 a + maj a b c)) % 4294967296 = (h + bS1 e + cho e f g + kw + (bS0 a + maj a b c)) % 4294967296 by omega,
    show (d + (h + bS1 e + cho e f g + kw % 4294967296)) % 4294967296 = (d + (h + bS1 e + cho e f g + kw)) % 4294967296 by omega]

/-- The first k words added up. -/
def zl (hs st : List Int) (k : Nat) : List Int := (List.zipWith (fun x y => (x + y) % 4294967296) hs st).take k ++ hs.drop k
theorem zl_len (hs st : List Int) (h : hs.length = 8) (h2 : st.length = 8) (k : Nat) (hk : k ≤ 8) : (zl hs st k).length = 8 := by simp [zl, h, h2]; omega
theorem zl_get (hs st : List Int) (h : hs.length = 8) (h2 : st.length = 8) (k : Nat) (hk : k < 8) : (zl hs st k).getD k 0 = hs.getD k 0 := by
  simp [zl, List.getD, List.getElem?_append_right, h, h2, show min k 8 = k by omega]
theorem zl_set (hs st : List Int) (h : hs.length = 8) (h2 : st.length = 8) (k : Nat) (hk : k < 8) (v : Int) (hv : v = (hs.getD k 0 + st.getD k 0) % 4294967296) : (U32 (zl hs st k)).set k (.int .u32 v) = U32 (zl hs st (k + 1)) := by
  subst hv
  have e : hs.drop k = hs.getD k 0 :: hs.drop (k + 1) := by
    rw [List.drop_eq_getElem_cons (by omega)]; simp [show k < hs.length by omega]
  have hz : (List.zipWith (fun x y => (x + y) % 4294967296) hs st).length = 8 := by simp [h, h2]
  have e2 : (List.zipWith (fun x y => (x + y) % 4294967296) hs st).take (k + 1) = (List.zipWith (fun x y => (x + y) % 4294967296) hs st).take k ++ [(hs.getD k 0 + st.getD k 0) % 4294967296] := by
    rw [take_snoc _ _ (by omega)]
    simp [List.getD, List.getElem?_zipWith, show k < hs.length by omega, show k < st.length by omega]
  unfold zl
  rw [e, e2]
  simp only [U32, List.map_append, List.map_cons]
  rw [List.set_append_right _ _ (by simp [hz]; omega)]
  simp [h, h2, show min k 8 = k by omega]

theorem grown_drew {w w' : World} {r : Option Nat} (h : w.grownBy w' r) : w.grownBy w'.drew r := ⟨h.os, h.tape, h.output, h.size, h.block⟩

theorem Tryd.infoU32 : (Tryd.prog.info? 56).map (·.size) = some 1 := by kernel_rfl

set_option maxHeartbeats 1000000 in
theorem takeBlockC (g : Nat) (hs : List Int) (a : Option Addr) (c : Nat) (xs : List Int) (w : World) (ht : Tabs w) (hA : Arr w g 58 (U32 hs)) (hl : hs.length = 8) (hx : Bs w a 64 c xs) :
    Calls Tryd.prog 55 #[.pointer (some ⟨g, 0, none⟩), .slice a 64 c] w fun e w' => e = .returned (.tuple #[]) ∧ Arr w' g 58 (U32 (blk hs xs)) ∧ w.grownBy w' (some g) := by
  have hgs := hA.lt
  obtain ⟨W, hW⟩ : ∃ W, W = w.alloc (.cells (U32 hs).toArray 58) := ⟨_, rfl⟩
  have hB : Below w.heap.size w W := by rw [hW]; exact (Below.refl _ _).alloc (Nat.le_refl _) _
  have hA4 : Arr W w.heap.size 58 (U32 hs) := by rw [hW]; exact Arr.new w _ _
  obtain ⟨l0, l1, l2, l3, l4, l5, l6, l7, rfl⟩ := list8 hl
  have c0 := hA.u32 0 (by simp)
  have c1 := hA.u32 1 (by simp)
  have c2 := hA.u32 2 (by simp)
  have c3 := hA.u32 3 (by simp)
  have c4 := hA.u32 4 (by simp)
  have c5 := hA.u32 5 (by simp)
  have c6 := hA.u32 6 (by simp)
  have c7 := hA.u32 7 (by simp)
  simp at c0 c1 c2 c3 c4 c5 c6 c7
  go_enter Tryd.func55, Tryd.ntmps55
  go_wp2_with fail
  rw [show w.alloc (.cells #[.int .u32 l0, .int .u32 l1, .int .u32 l2, .int .u32 l3, .int .u32 l4, .int .u32 l5, .int .u32 l6, .int .u32 l7] 58) = W from hW.symm]
  refine (schedC a c xs _ (hx.below hB) (ht.below hB)).mono ?_
  rintro e w1 ⟨rfl, hb1⟩
  have B1 := hB.trans (hb1.mono hB.size)
  have A1 := hA4.kept hb1
  clear hB hA4 hW hb1 c0 c1 c2 c3 c4 c5 c6 c7 hx
  obtain ⟨hs, hhs⟩ : ∃ hs, hs = [l0, l1, l2, l3, l4, l5, l6, l7] := ⟨_, rfl⟩
  obtain ⟨ws, hws⟩ : ∃ ws, ws = schedL xs 64 := ⟨_, rfl⟩
  have hwl : ws.length = 64 := by rw [hws]; exact schedL_len xs 64
  have HK : Hid (blk hs xs = zl hs (rnds ws KS hs 64) 8) := by
    unfold Hid zl blk
    rw [hws, hhs]
    have : (List.zipWith (fun x y => (x + y) % 4294967296) [l0, l1, l2, l3, l4, l5, l6, l7] (rnds (schedL xs 64) KS [l0, l1, l2, l3, l4, l5, l6, l7] 64)).length = 8 := by simp [rnds_len _ _ hl]
    rw [List.take_of_length_le (by omega)]
    simp
  rw [← hhs] at hA A1 hl
  rw [← hws]
  have HHS : Hid _ := hhs
  clear hhs hws
  go_wp2
  go_loopw [14] (fun i wr => ∃ k : Nat, k ≤ 64 ∧ i = .int .i64 k ∧ Arr wr w.heap.size 58 (U32 (rnds ws KS hs k)) ∧ Below w.heap.size w wr) (fun i _ => 64 - (intOf i).toNat)
  case atStart => exact ⟨0, by omega, rfl, A1, B1⟩
  case round =>
    clear A1 B1
    obtain ⟨k, hk, rfl, h4, hb⟩ := hrel
    by_cases hlt : k < 64
    · have ix := fun w => index_arr Tryd.underlying83 Tryd.underlying56 Tryd.infoU32 ws hwl k hlt w
      obtain ⟨x, hxx⟩ : ∃ x, x = ws.getD k 0 := ⟨_, rfl⟩
      obtain ⟨y, hyy⟩ : ∃ y, y = KS.getD k 0 := ⟨_, rfl⟩
      rw [← hxx] at ix
      have hck := (ht.below hb).tk k hlt
      rw [← hyy] at hck
      have hr : rnds ws KS hs (k + 1) = stp (rnds ws KS hs k) (x + y) := by rw [hxx, hyy]; rfl
      have h8 := rnds_len ws KS hl k
      obtain ⟨a0, a1, a2, a3, a4, a5, a6, a7, h8e⟩ := list8 h8
      have hr' : rnds ws KS hs (k + 1) = stp8 a0 a1 a2 a3 a4 a5 a6 a7 ((x + y) % 4294967296) := by rw [hr, h8e, stp8_mod]; rfl
      rw [h8e] at h4
      have HR : Hid _ := hr'
      clear hr hr' h8 h8e hxx hyy
      have hk64 : (k : Int) < 64 := by omega
      go_wp2_with fail
      refine (roundC w.heap.size a0 a1 a2 a3 a4 a5 a6 a7 _ _ (ht.below hb) h4).mono ?_
      rintro e w2 ⟨rfl, h5, hg⟩
      rw [← HR.out] at h5
      have hb2 : Below w.heap.size w w2 := hb.grown hg hb.size (fun j hj => by cases hj; exact Nat.le_refl _)
      clear hg h4 hb HR ix hck
      go_wp2
      go_roundw
      case rel => exact ⟨k + 1, by omega, by go_num, h5, hb2⟩
      case measure => simp [intOf]; omega
    · have hkn : k = 64 := by omega
      subst hkn
      have hst := rnds_len ws KS hl 64
      obtain ⟨st, hste⟩ : ∃ st, st = rnds ws KS hs 64 := ⟨_, rfl⟩
      rw [← hste] at hst h4
      have HK2 : Hid (blk hs xs = zl hs st 8) := by unfold Hid; rw [HK.out, hste]
      clear hste HK
      have hA2 : Arr wr g 58 (U32 (zl hs st 0)) := by
        have : zl hs st 0 = hs := by simp [zl]
        rw [this]; exact hA.below hb hgs
      have hG := grown_of_below hb (some g)
      have hsz := Tryd.infoSw
      clear hA hb hwl
      go_wp2_with (refine wpList_load_row rfl 58 _ rfl w.heap.size rfl 58 (U32 st).toArray (0, 0) _ h4 Tryd.underlying58 rfl (by simpa [hst] using hsz) ?_)
      clear h4
      go_loopw [26] (fun i wr => ∃ k : Nat, k ≤ 8 ∧ i = .int .i64 k ∧ Arr wr g 58 (U32 (zl hs st k)) ∧ w.grownBy wr (some g)) (fun i _ => 8 - (intOf i).toNat)
      case atStart => exact ⟨0, by omega, rfl, hA2, hG⟩
      case round =>
        clear hA2 hG
        obtain ⟨k, hk, rfl, h4, hG⟩ := hrel
        by_cases hlt : k < 8
        · have ix := fun w => index_arr Tryd.underlying58 Tryd.underlying56 Tryd.infoU32 st hst k hlt w
          obtain ⟨x, hxx⟩ : ∃ x, x = st.getD k 0 := ⟨_, rfl⟩
          obtain ⟨y, hyy⟩ : ∃ y, y = hs.getD k 0 := ⟨_, rfl⟩
          rw [← hxx] at ix
          have hck := h4.u32 k (by rw [zl_len hs st hl hst k hk]; omega)
          rw [zl_get hs st hl hst k hlt, ← hyy] at hck
          have hfz := h4.frozen k
          have h5 := h4.set k (.int .u32 ((y + x) % 4294967296))
          rw [zl_set hs st hl hst k hlt _ (by rw [hxx, hyy])] at h5
          have hG5 := grown_set hG k (.int .u32 ((y + x) % 4294967296))
          have H5 : Hid _ := h5
          have HG5 : Hid _ := hG5
          have hwr : IntKind.u32.wrap (y + x) = (y + x) % 4294967296 := IntKind.wrap_u32 _
          clear h5 hG5 h4 hG hxx hyy
          have hk8 : (k : Int) < 8 := by omega
          have hk0 : (0 : Int) ≤ (k : Int) := by omega
          go_wp2
          go_region
          have A6 : Hid (Arr (wr.setCell ⟨g, k, none⟩ (.int .u32 ((y + x) % 4294967296))).drew g 58 (U32 (zl hs st (k + 1)))) := H5.out
          have G6 := grown_drew HG5.out
          clear H5 HG5 hck hfz ix
          go_wp2
          go_roundw
          case rel => exact ⟨k + 1, by omega, by go_num, A6.out, G6⟩
          case measure => simp [intOf]; omega
        · have hkn : k = 8 := by omega
          subst hkn
          clear hst
          go_wp2
          go_end0
          exact ⟨rfl, by rw [← HHS.out, HK2.out]; exact h4, hG⟩
end Go.Proofs.YtlglkbimnnmhdaaDoor
