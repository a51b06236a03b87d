/-
  What is proved here: contracts of the program's and of the specification's ShaOk, for every value whose two slices hold at most 2^21 elements each.
-/
import Derived.Test.YtgapfkiceolceaaW1
import Derived.Deep.RegionHeld3
import Derived.BigRegion
namespace Go.Proofs.Ytgapfkiceolceaa
open Go.RowKit

/-- The document's ShaOk. -/
def shaOk (hs : List Int) (N : Int) (ts : List Int) : Bool := isW hs && (decide (0 ≤ N) && (decide (N ≤ 20000) && decide ((ts.length : Int) = N % 64)))

/-- A Sha as a value. -/
abbrev shaV (aH : Option Addr) (nH cH : Nat) (N : Int) (aT : Option Addr) (nT cT : Nat) : Value := .agg #[.slice aH nH cH, .int .i64 N, .slice aT nT cT]

set_option maxHeartbeats 1000000 in
theorem specShaOk (aH : Option Addr) (nH cH : Nat) (N : Int) (aT : Option Addr) (nT cT : Nat) (hs ts : List Int) (w : World) (hH : Is w aH nH cH hs) (hT : Bs w aT nT cT ts) (hn : nH ≤ 2097152) :
    Calls Try.prog 5 #[shaV aH nH cH N aT nT cT] w fun e w' => e = .returned (.bool (shaOk hs N ts)) ∧ Below w.heap.size w w' := by
  have htl := hT.2.1
  have HB : Hid (Below w.heap.size w (w.alloc (.cells #[.slice aH nH cH, .int .i64 N, .slice aT nT cT] 28))) := (Below.refl _ _).alloc (Nat.le_refl _) _
  clear hT
  have hq' : isW hs = false ∨ isW hs = true := by cases isW hs <;> simp
  obtain ⟨q, hq⟩ : ∃ q, q = isW hs := ⟨_, rfl⟩
  rw [← hq] at hq'
  have HQ : Hid _ := hq
  have HE : Hid (shaOk hs N ts = (q && (decide (0 ≤ N) && (decide (N ≤ 20000) && decide ((ts.length : Int) = N % 64))))) := by unfold Hid; rw [hq]; rfl
  clear hq
  go_enter Try.func5, Try.ntmps5
  go_wp2_with fail
  refine (isWords aH nH cH hs _ (hH.below HB.out) hn).mono ?_
  rintro e w' ⟨rfl, rfl⟩
  rw [← HQ.out]
  rcases hq' with rfl | rfl
  · go_wp2
    go_ret
    exact ⟨by rw [HE.out]; rfl, HB.out⟩
  · by_cases h0 : 0 ≤ N
    · by_cases h1 : N ≤ 20000
      · have e64 : N.tmod 64 = N % 64 := Int.tmod_eq_emod_of_nonneg h0
        go_wp2
        go_ret
        refine ⟨?_, HB.out⟩
        rw [HE.out, htl]
        simp only [h0, h1, decide_true, Bool.true_and]
        rfl
      · go_wp2
        go_ret
        exact ⟨by rw [HE.out]; simp; intros; omega, HB.out⟩
    · go_wp2
      go_ret
      exact ⟨by rw [HE.out]; simp; intros; omega, HB.out⟩

set_option maxHeartbeats 1000000 in
theorem shaOpen (aH : Option Addr) (nH cH : Nat) (N : Int) (aT : Option Addr) (nT cT : Nat) (hs ts : List Int) (w : World) (hH : Is w aH nH cH hs) (hT : Bs w aT nT cT ts) :
    Calls Try.prog 14 #[shaV aH nH cH N aT nT cT] w fun e w' => ∃ l : List Int, e = .returned (.tuple #[.agg (U32 l).toArray, .bool (shaOk hs N ts)]) ∧ l.length = 8 ∧ (shaOk hs N ts = true → l = hs) ∧ Below w.heap.size w w' := by
  have htl := hT.2.1
  clear hT
  obtain ⟨W, hW⟩ : ∃ W, W = (w.alloc (.cells #[.slice aH nH cH, .int .i64 N, .slice aT nT cT] 28)).alloc (.cells (U32 [0, 0, 0, 0, 0, 0, 0, 0]).toArray 39) := ⟨_, rfl⟩
  have hB : Below w.heap.size w W := by rw [hW]; exact ((Below.refl _ _).alloc (Nat.le_refl _) _).alloc (by simp) _
  have hA0 : Arr W w.heap.size 28 [.slice aH nH cH, .int .i64 N, .slice aT nT cT] := by rw [hW]; exact (Arr.new w _ _).alloc _
  have hA1 : Arr W (w.heap.size + 1) 39 (U32 [0, 0, 0, 0, 0, 0, 0, 0]) := by
    rw [hW]
    have := Arr.new (w.alloc (.cells #[.slice aH nH cH, .int .i64 N, .slice aT nT cT] 28)) (U32 [0, 0, 0, 0, 0, 0, 0, 0]) 39
    simpa using this
  go_enter Try.func14, Try.ntmps14
  go_wp2_with fail
  rw [show (w.alloc (.cells #[.slice aH nH cH, .int .i64 N, .slice aT nT cT] 28)).alloc (.cells #[.int .u32 0, .int .u32 0, .int .u32 0, .int .u32 0, .int .u32 0, .int .u32 0, .int .u32 0, .int .u32 0] 39) = W from hW.symm]
  refine (wordsOf aH nH cH hs _ (hH.below hB)).mono ?_
  rintro e w' ⟨l, rfl, hl8, hleq, hb⟩
  have hb2 := hB.trans (hb.mono hB.size)
  have h0 := hA0.kept hb
  have h1 := hA1.kept hb
  have HL : Hid _ := hleq
  clear hA0 hA1 hB hW hleq hb
  obtain ⟨l0, l1, l2, l3, l4, l5, l6, l7, rfl⟩ := list8 hl8
  obtain ⟨q, hq⟩ : ∃ q, q = isW hs := ⟨_, rfl⟩
  have HE : Hid (shaOk hs N ts = (q && (decide (0 ≤ N) && (decide (N ≤ 20000) && decide ((ts.length : Int) = N % 64))))) := by unfold Hid; rw [hq]; rfl
  have hq' : q = false ∨ q = true := by cases q <;> simp
  rw [← hq]
  rw [← hq] at HL
  have hN := h0.cell 1
  have hT := h0.cell 2
  simp at hN hT
  have r0 := h1.u32 0 (by simp)
  have r1 := h1.u32 1 (by simp)
  have r2 := h1.u32 2 (by simp)
  have r3 := h1.u32 3 (by simp)
  have r4 := h1.u32 4 (by simp)
  have r5 := h1.u32 5 (by simp)
  have r6 := h1.u32 6 (by simp)
  have r7 := h1.u32 7 (by simp)
  have f0 := h1.frozen
  simp at r0 r1 r2 r3 r4 r5 r6 r7
  have hlt := h1.lt
  have hlt0 := h0.lt
  clear hq
  rcases hq' with rfl | rfl
  · go_wp2
    go_region
    go_wp2
    refine bodyPost_ret (results_row_tmp (v := .bool false) (t := 39) (cs := U32 [l0, l1, l2, l3, l4, l5, l6, l7]) rfl rfl rfl ?_ Try.underlying39 rfl Try.infoSw) rfl ⟨[l0, l1, l2, l3, l4, l5, l6, l7], ?_, rfl, ?_, ?_⟩
    · refine Arr.drew (Arr.alloc ?_ _); exact h1.set8 l0 l1 l2 l3 l4 l5 l6 l7
    · rw [HE.out]; rfl
    · intro h; rw [HE.out] at h; cases h
    · refine Below.drew (Below.alloc ?_ (by simp; omega) _); exact set8_below hb2 (by omega) _ _ _ _ _ _ _ _
  · by_cases g0 : 0 ≤ N
    · by_cases g1 : N ≤ 20000
      · have e64 : N.tmod 64 = N % 64 := Int.tmod_eq_emod_of_nonneg g0
        obtain ⟨r, hr⟩ : ∃ r, r = ((nT : Int) == N % 64) := ⟨_, rfl⟩
        have HR : Hid (shaOk hs N ts = r) := by
          unfold Hid
          rw [HE.out, htl, hr]
          simp only [g0, g1, decide_true, Bool.true_and]
          rfl
        have hr' := hr.symm
        clear hr
        go_wp2
        go_region
        go_wp2
        refine bodyPost_ret (results_row_tmp (v := .bool r) (t := 39) (cs := U32 [l0, l1, l2, l3, l4, l5, l6, l7]) rfl rfl rfl ?_ Try.underlying39 rfl Try.infoSw) rfl ⟨[l0, l1, l2, l3, l4, l5, l6, l7], ?_, rfl, ?_, ?_⟩
        · refine Arr.drew (Arr.alloc ?_ _); exact h1.set8 l0 l1 l2 l3 l4 l5 l6 l7
        · rw [HR.out]
        · intro h; exact HL.out (by simp)
        · refine Below.drew (Below.alloc ?_ (by simp; omega) _); exact set8_below hb2 (by omega) _ _ _ _ _ _ _ _
      · have hd : decide (N ≤ 20000) = false := by simp; omega
        go_wp2
        go_region
        go_wp2
        refine bodyPost_ret (results_row_tmp (v := .bool false) (t := 39) (cs := U32 [l0, l1, l2, l3, l4, l5, l6, l7]) rfl rfl rfl ?_ Try.underlying39 rfl Try.infoSw) rfl ⟨[l0, l1, l2, l3, l4, l5, l6, l7], ?_, rfl, ?_, ?_⟩
        · refine Arr.drew (Arr.alloc ?_ _); exact h1.set8 l0 l1 l2 l3 l4 l5 l6 l7
        · rw [HE.out]; simp; intros; omega
        · intro h; rw [HE.out] at h; simp at h; omega
        · refine Below.drew (Below.alloc ?_ (by simp; omega) _); exact set8_below hb2 (by omega) _ _ _ _ _ _ _ _
    · have hd : decide (0 ≤ N) = false := by simp; omega
      go_wp2
      go_region
      go_wp2
      refine bodyPost_ret (results_row_tmp (v := .bool false) (t := 39) (cs := U32 [l0, l1, l2, l3, l4, l5, l6, l7]) rfl rfl rfl ?_ Try.underlying39 rfl Try.infoSw) rfl ⟨[l0, l1, l2, l3, l4, l5, l6, l7], ?_, rfl, ?_, ?_⟩
      · refine Arr.drew (Arr.alloc ?_ _); exact h1.set8 l0 l1 l2 l3 l4 l5 l6 l7
      · rw [HE.out]; simp; intros; omega
      · intro h; rw [HE.out] at h; simp at h; omega
      · refine Below.drew (Below.alloc ?_ (by simp; omega) _); exact set8_below hb2 (by omega) _ _ _ _ _ _ _ _
end Go.Proofs.Ytgapfkiceolceaa
