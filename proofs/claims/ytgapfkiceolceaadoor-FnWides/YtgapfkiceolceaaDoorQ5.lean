/-
  What is proved here: contracts of the program's shaWordsOf and of the specification's l2isWords: both look whether there are eight numbers in 0 .. 2^32 - 1; for every slice of ints; contracts of the program's and of the specification's ShaOk, for every value whose two slices hold at most 2^21 elements each; contracts of the laws' helpers on a Sha (copy, hold two against each other, count), and of the program's ShaOk, for every value whose slices hold at most 2^21 elements each.
-/
import Derived.Test.YtgapfkiceolceaaDoorQ4
import Derived.Test.YtgapfkiceolceaaDoorQ2
import Derived.Deep.Light
import Derived.Deep.RegionHeld3
import Derived.BigRegion
import Derived.Test.YtgapfkiceolceaaDoorQ1
namespace Go.Proofs.YtgapfkiceolceaaDoor
open Go.RowKit

/-- Eight numbers in 0 .. 2^32 - 1? -/
def isW (xs : List Int) : Bool := decide (xs.length = 8) && xs.all (fun x => decide (0 ≤ x) && decide (x < 4294967296))

theorem isW_iff (xs : List Int) : isW xs = true ↔ xs.length = 8 ∧ ∀ x ∈ xs, 0 ≤ x ∧ x < 4294967296 := by
  simp [isW]

theorem getD_mem {xs : List Int} {k : Nat} (hk : k < xs.length) : xs.getD k 0 ∈ xs := by
  have e : xs.getD k 0 = xs[k] := by simp [hk]
  rw [e]; exact List.getElem_mem hk

theorem isW_no {xs : List Int} {k : Nat} (hk : k < xs.length) (h : xs.getD k 0 < 0 ∨ 4294967296 ≤ xs.getD k 0) : isW xs = false := by
  cases hq : isW xs with
  | false => rfl
  | true =>
    have := ((isW_iff xs).1 hq).2 (xs.getD k 0) (getD_mem hk)
    omega

theorem all_upto {xs : List Int} (h : ∀ j, j < xs.length → 0 ≤ xs.getD j 0 ∧ xs.getD j 0 < 4294967296) : ∀ x ∈ xs, 0 ≤ x ∧ x < 4294967296 := by
  intro x hx
  obtain ⟨j, hj, rfl⟩ := List.getElem_of_mem hx
  have := h j hj
  have e : xs.getD j 0 = xs[j] := by simp [hj]
  rwa [e] at this

theorem Tryd.infoSw : (Tryd.prog.info? 65).map (·.size) = some 8 := by kernel_rfl

set_option maxRecDepth 100000 in
set_option maxHeartbeats 1000000 in
theorem wordsOf (a : Option Addr) (n cap : Nat) (xs : List Int) (w : World) (h : Is w a n cap xs) :
    Calls Tryd.prog 66 #[.slice a n cap] w fun e w' => ∃ l : List Int, e = .returned (.tuple #[.agg (U32 l).toArray, .bool (isW xs)]) ∧ l.length = 8 ∧ (isW xs = true → l = xs) ∧ Below w.heap.size w w' := by
  obtain ⟨_, hl, hc, _, h⟩ := h
  by_cases h8 : n = 8
  rotate_left
  · have hne : ((n : Int) != 8) = true := by simp; omega
    have hno : isW xs = false := by simp [isW]; intro e; omega
    go_enter Tryd.func66, Tryd.ntmps66
    go_wp2
    refine bodyPost_ret (v := .tuple #[.agg (U32 [0, 0, 0, 0, 0, 0, 0, 0]).toArray, .bool false]) (by rw [results_cell_tmp rfl]; go_simp) rfl ⟨[0, 0, 0, 0, 0, 0, 0, 0], by rw [hno], rfl, (fun h => by rw [hno] at h; cases h), ?_⟩
    exact ((Below.refl _ _).alloc (Nat.le_refl _) _).alloc (by simp) _
  subst h8
  have hne : ((8 : Int) != 8) = false := by simp
  rcases h with h | ⟨b, o, rfl, hbs, hcell⟩
  · omega
  go_enter Tryd.func66, Tryd.ntmps66
  go_wp2
  obtain ⟨W, hW⟩ : ∃ W, W = (w.alloc (.cells (U32 [0, 0, 0, 0, 0, 0, 0, 0]).toArray 65)).alloc (.cells (U32 [0, 0, 0, 0, 0, 0, 0, 0]).toArray 65) := ⟨_, rfl⟩
  have hA0 : Arr W w.heap.size 65 (U32 [0, 0, 0, 0, 0, 0, 0, 0]) := by rw [hW]; exact (Arr.new w _ _).alloc _
  have hA1 : Arr W (w.heap.size + 1) 65 (U32 (xs.take 0 ++ List.replicate (8 - 0) 0)) := by
    rw [hW]
    have := Arr.new (w.alloc (.cells (U32 [0, 0, 0, 0, 0, 0, 0, 0]).toArray 65)) (U32 [0, 0, 0, 0, 0, 0, 0, 0]) 65
    simpa using this
  have hB : Below w.heap.size w W := by rw [hW]; exact ((Below.refl _ _).alloc (Nat.le_refl _) _).alloc (by simp) _
  go_loopw [13] (fun i wr => ∃ k : Nat, k ≤ 8 ∧ i = .int .i64 k ∧ Arr wr w.heap.size 65 (U32 [0, 0, 0, 0, 0, 0, 0, 0]) ∧ Arr wr (w.heap.size + 1) 65 (U32 (xs.take k ++ List.replicate (8 - k) 0)) ∧ Below w.heap.size w wr ∧ ∀ j, j < k → 0 ≤ xs.getD j 0 ∧ xs.getD j 0 < 4294967296) (fun i _ => 8 - (intOf i).toNat)
  case atStart => exact ⟨0, by omega, rfl, hW ▸ hA0, hW ▸ hA1, hW ▸ hB, fun j hj => by omega⟩
  case round =>
    obtain ⟨k, hk, rfl, h0, h1, hb, hin⟩ := hrel
    clear hA0 hA1 hB hW
    have hlen : (xs.take k ++ List.replicate (8 - k) 0).length = 8 := by simp; omega
    by_cases hlt : k < 8
    · obtain ⟨x, hx⟩ : ∃ x, x = xs.getD k 0 := ⟨_, rfl⟩
      have hck : wr.cell? ⟨b, o + k, none⟩ = some (.int .i64 x) := by rw [hx]; exact (hb.cell (p := ⟨b, o + k, none⟩) hbs).trans (hcell k hlt)
      have HX : Hid _ := hx
      by_cases hin1 : 0 ≤ x ∧ x < 4294967296
      · obtain ⟨hx0, hx1⟩ := hin1
        have hn0 : ¬ (x < 0) := by omega
        have hn1 : ¬ (4294967295 < x) := by omega
        have hcv : IntKind.u32.wrap x = x := by simp [IntKind.wrap, IntKind.signed, IntKind.bits]; omega
        have hfz := h1.frozen k
        obtain ⟨u, hu⟩ : ∃ u, wr.cell? ⟨w.heap.size + 1, k, none⟩ = some u := by
          rw [h1.cell k]
          exact ⟨_, List.getElem?_eq_getElem (by simp only [List.length_map]; omega)⟩
        have h1' := h1.set k (.int .u32 x)
        rw [set_fill xs 8 k x (by omega) hl hx] at h1'
        have h0' := h0.other ⟨w.heap.size + 1, k, none⟩ (.int .u32 x) (by simp)
        have hb' := hb.setCell (p := ⟨w.heap.size + 1, k, none⟩) (by simp) (.int .u32 x)
        have hin' : ∀ j, j < k + 1 → 0 ≤ xs.getD j 0 ∧ xs.getD j 0 < 4294967296 := by
          intro j hj
          by_cases e : j = k
          · subst e; rw [← hx]; exact ⟨hx0, hx1⟩
          · exact hin j (by omega)
        have H1 : Hid _ := h1'
        have H0 : Hid _ := h0'
        have HB : Hid _ := hb'
        have HI : Hid _ := hin'
        clear h1' h0' hb' hin' h0 h1 hb hin hcell hx
        go_wp2
        go_roundw
        case rel => exact ⟨k + 1, by omega, by go_num, H0.out, H1.out, HB.out, HI.out⟩
        case measure => simp [intOf]; omega
      · have hno := isW_no (xs := xs) (k := k) (by omega) (by rw [← hx]; omega)
        have HN : Hid _ := hno
        obtain ⟨y, hy⟩ : ∃ y, y = xs.take k ++ List.replicate (8 - k) 0 := ⟨_, rfl⟩
        rw [← hy] at h1 hlen
        have h0' := h0.row (U32 y)
        have hb' := setRow_below hb w.heap.size (U32 y).toArray (Nat.le_refl _)
        have hsz := Tryd.infoSw
        clear hy hno hx hin
        by_cases hx0 : x < 0
        · go_wp2_with (first
            | (refine wpList_load_row rfl 65 _ rfl (w.heap.size + 1) rfl 65 (U32 y).toArray (0, 0) _ h1 Tryd.underlying65 rfl (by simpa [hlen] using hsz) ?_)
            | (refine wpList_store_row rfl 65 _ _ rfl w.heap.size (U32 y).toArray rfl rfl 65 _ h0 (by simpa [hlen] using hsz) (by simp [hlen]) (by simp [Value.oneCell']) ?_))
          exact bodyPost_ret (results_row_tmp (v := .bool false) rfl rfl rfl h0' Tryd.underlying65 rfl (by simpa [hlen] using hsz)) rfl ⟨y, by rw [HN.out], hlen, (fun h => by rw [HN.out] at h; cases h), hb'⟩
        · have hx1 : 4294967295 < x := by omega
          go_wp2_with (first
            | (refine wpList_load_row rfl 65 _ rfl (w.heap.size + 1) rfl 65 (U32 y).toArray (0, 0) _ h1 Tryd.underlying65 rfl (by simpa [hlen] using hsz) ?_)
            | (refine wpList_store_row rfl 65 _ _ rfl w.heap.size (U32 y).toArray rfl rfl 65 _ h0 (by simpa [hlen] using hsz) (by simp [hlen]) (by simp [Value.oneCell']) ?_))
          exact bodyPost_ret (results_row_tmp (v := .bool false) rfl rfl rfl h0' Tryd.underlying65 rfl (by simpa [hlen] using hsz)) rfl ⟨y, by rw [HN.out], hlen, (fun h => by rw [HN.out] at h; cases h), hb'⟩
    · have hkn : k = 8 := by omega
      subst hkn
      have hyes : isW xs = true := (isW_iff xs).2 ⟨hl, all_upto (fun j hj => hin j (by omega))⟩
      have e : xs.take 8 ++ List.replicate (8 - 8) 0 = xs := by simp [List.take_of_length_le (show xs.length ≤ 8 by omega)]
      rw [e] at h1
      have h0' := h0.row (U32 xs)
      have hb' := setRow_below hb w.heap.size (U32 xs).toArray (Nat.le_refl _)
      have hsz := Tryd.infoSw
      have HY : Hid _ := hyes
      clear e hlen hin hyes
      go_wp2_with (first
        | (refine wpList_load_row rfl 65 _ rfl (w.heap.size + 1) rfl 65 (U32 xs).toArray (0, 0) _ h1 Tryd.underlying65 rfl (by simpa [hl] using hsz) ?_)
        | (refine wpList_store_row rfl 65 _ _ rfl w.heap.size (U32 xs).toArray rfl rfl 65 _ h0 (by simpa [hl] using hsz) (by simp [hl]) (by simp [Value.oneCell']) ?_))
      exact bodyPost_ret (results_row_tmp (v := .bool true) rfl rfl rfl h0' Tryd.underlying65 rfl (by simpa [hl] using hsz)) rfl ⟨xs, by rw [HY.out], hl, (fun _ => rfl), hb'⟩

set_option maxRecDepth 100000 in
set_option maxHeartbeats 1000000 in
theorem isWords (a : Option Addr) (n cap : Nat) (xs : List Int) (w : World) (h : Is w a n cap xs) (hn : n ≤ 2097152) :
    Calls Tryd.prog 75 #[.slice a n cap] w fun e w' => e = .returned (.bool (isW xs)) ∧ w' = w := by
  obtain ⟨_, hl, hc, hint, h⟩ := h
  go_enter Tryd.func75, Tryd.ntmps75
  go_wp2
  go_loop [3] (fun i => ∃ k : Nat, k ≤ n ∧ i = .int .i64 k ∧ ∀ j, j < k → 0 ≤ xs.getD j 0 ∧ xs.getD j 0 < 4294967296) (fun i => n - (intOf i).toNat)
  case atStart => exact ⟨0, by omega, rfl, fun j hj => by omega⟩
  case round =>
    obtain ⟨k, hk, rfl, hin⟩ := hrel
    by_cases hlt : k < n
    · rcases h with h | ⟨b, o, rfl, hbs, hcell⟩
      · omega
      obtain ⟨x, hx⟩ : ∃ x, x = xs.getD k 0 := ⟨_, rfl⟩
      have hck : w.cell? ⟨b, o + k, none⟩ = some (.int .i64 x) := by rw [hx]; exact hcell k hlt
      have hlt' : (k : Int) < (n : Int) := by omega
      by_cases hx0 : x < 0
      · have hno := isW_no (xs := xs) (k := k) (by omega) (by rw [← hx]; omega)
        clear hcell hin hx
        go_wp2
        go_ret
        exact ⟨rfl, rfl⟩
      by_cases hx1 : 4294967296 ≤ x
      · have hno := isW_no (xs := xs) (k := k) (by omega) (by rw [← hx]; omega)
        clear hcell hin hx
        go_wp2
        go_ret
        exact ⟨rfl, rfl⟩
      have hin' : ∀ j, j < k + 1 → 0 ≤ xs.getD j 0 ∧ xs.getD j 0 < 4294967296 := by
        intro j hj
        by_cases e : j = k
        · subst e; rw [← hx]; omega
        · exact hin j (by omega)
      have HI : Hid _ := hin'
      clear hcell hin hx hin'
      go_wp2
      go_round
      case rel => exact ⟨k + 1, by omega, by go_num, HI.out⟩
      case measure => simp [intOf]; omega
    · have hkn : k = n := by omega
      subst hkn
      have hyes : isW xs = decide ((k : Int) = 8) := by
        have ha := all_upto (xs := xs) (fun j hj => hin j (by omega))
        by_cases e : k = 8
        · rw [(isW_iff xs).2 ⟨by omega, ha⟩]; simp; omega
        · have : isW xs = false := by simp [isW]; intro e'; omega
          rw [this]; simp; omega
      have HY : Hid _ := hyes
      clear hin hyes
      go_wp2
      go_ret
      refine ⟨?_, rfl⟩
      rw [HY.out]
      rfl
end Go.Proofs.YtgapfkiceolceaaDoor
namespace Go.Proofs.YtgapfkiceolceaaDoor
open Go.RowKit

/-- The document's ShaOk. -/
def shaOk (hs : List Int) (N : Int) (ts : List Int) : Bool := isW hs && (decide (0 ≤ N) && (decide (N ≤ 20000) && decide ((ts.length : Int) = N % 64)))

/-- A Sha as a value. -/
abbrev shaV (aH : Option Addr) (nH cH : Nat) (N : Int) (aT : Option Addr) (nT cT : Nat) : Value := .agg #[.slice aH nH cH, .int .i64 N, .slice aT nT cT]

set_option maxHeartbeats 1000000 in
theorem specShaOk (aH : Option Addr) (nH cH : Nat) (N : Int) (aT : Option Addr) (nT cT : Nat) (hs ts : List Int) (w : World) (hH : Is w aH nH cH hs) (hT : Bs w aT nT cT ts) (hn : nH ≤ 2097152) :
    Calls Tryd.prog 80 #[shaV aH nH cH N aT nT cT] w fun e w' => e = .returned (.bool (shaOk hs N ts)) ∧ Below w.heap.size w w' := by
  have htl := hT.2.1
  have HB : Hid (Below w.heap.size w (w.alloc (.cells #[.slice aH nH cH, .int .i64 N, .slice aT nT cT] 27))) := (Below.refl _ _).alloc (Nat.le_refl _) _
  clear hT
  have hq' : isW hs = false ∨ isW hs = true := by cases isW hs <;> simp
  obtain ⟨q, hq⟩ : ∃ q, q = isW hs := ⟨_, rfl⟩
  rw [← hq] at hq'
  have HQ : Hid _ := hq
  have HE : Hid (shaOk hs N ts = (q && (decide (0 ≤ N) && (decide (N ≤ 20000) && decide ((ts.length : Int) = N % 64))))) := by unfold Hid; rw [hq]; rfl
  clear hq
  go_enter Tryd.func80, Tryd.ntmps80
  go_wp2_with fail
  refine (isWords aH nH cH hs _ (hH.below HB.out) hn).mono ?_
  rintro e w' ⟨rfl, rfl⟩
  rw [← HQ.out]
  rcases hq' with rfl | rfl
  · go_wp2
    go_ret
    exact ⟨by rw [HE.out]; rfl, HB.out⟩
  · by_cases h0 : 0 ≤ N
    · by_cases h1 : N ≤ 20000
      · have e64 : N.tmod 64 = N % 64 := Int.tmod_eq_emod_of_nonneg h0
        go_wp2
        go_ret
        refine ⟨?_, HB.out⟩
        rw [HE.out, htl]
        simp only [h0, h1, decide_true, Bool.true_and]
        rfl
      · go_wp2
        go_ret
        exact ⟨by rw [HE.out]; simp; intros; omega, HB.out⟩
    · go_wp2
      go_ret
      exact ⟨by rw [HE.out]; simp; intros; omega, HB.out⟩

set_option maxHeartbeats 1000000 in
theorem shaOpen (aH : Option Addr) (nH cH : Nat) (N : Int) (aT : Option Addr) (nT cT : Nat) (hs ts : List Int) (w : World) (hH : Is w aH nH cH hs) (hT : Bs w aT nT cT ts) :
    Calls Tryd.prog 54 #[shaV aH nH cH N aT nT cT] w fun e w' => ∃ l : List Int, e = .returned (.tuple #[.agg (U32 l).toArray, .bool (shaOk hs N ts)]) ∧ l.length = 8 ∧ (shaOk hs N ts = true → l = hs) ∧ Below w.heap.size w w' := by
  have htl := hT.2.1
  clear hT
  obtain ⟨W, hW⟩ : ∃ W, W = (w.alloc (.cells #[.slice aH nH cH, .int .i64 N, .slice aT nT cT] 27)).alloc (.cells (U32 [0, 0, 0, 0, 0, 0, 0, 0]).toArray 65) := ⟨_, rfl⟩
  have hB : Below w.heap.size w W := by rw [hW]; exact ((Below.refl _ _).alloc (Nat.le_refl _) _).alloc (by simp) _
  have hA0 : Arr W w.heap.size 27 [.slice aH nH cH, .int .i64 N, .slice aT nT cT] := by rw [hW]; exact (Arr.new w _ _).alloc _
  have hA1 : Arr W (w.heap.size + 1) 65 (U32 [0, 0, 0, 0, 0, 0, 0, 0]) := by
    rw [hW]
    have := Arr.new (w.alloc (.cells #[.slice aH nH cH, .int .i64 N, .slice aT nT cT] 27)) (U32 [0, 0, 0, 0, 0, 0, 0, 0]) 65
    simpa using this
  go_enter Tryd.func54, Tryd.ntmps54
  go_wp2_with fail
  rw [show (w.alloc (.cells #[.slice aH nH cH, .int .i64 N, .slice aT nT cT] 27)).alloc (.cells #[.int .u32 0, .int .u32 0, .int .u32 0, .int .u32 0, .int .u32 0, .int .u32 0, .int .u32 0, .int .u32 0] 65) = W from hW.symm]
  refine (wordsOf aH nH cH hs _ (hH.below hB)).mono ?_
  rintro e w' ⟨l, rfl, hl8, hleq, hb⟩
  have hb2 := hB.trans (hb.mono hB.size)
  have h0 := hA0.kept hb
  have h1 := hA1.kept hb
  have HL : Hid _ := hleq
  clear hA0 hA1 hB hW hleq hb
  obtain ⟨l0, l1, l2, l3, l4, l5, l6, l7, rfl⟩ := list8 hl8
  obtain ⟨q, hq⟩ : ∃ q, q = isW hs := ⟨_, rfl⟩
  have HE : Hid (shaOk hs N ts = (q && (decide (0 ≤ N) && (decide (N ≤ 20000) && decide ((ts.length : Int) = N % 64))))) := by unfold Hid; rw [hq]; rfl
  have hq' : q = false ∨ q = true := by cases q <;> simp
  rw [← hq]
  rw [← hq] at HL
  have hN := h0.cell 1
  have hT := h0.cell 2
  simp at hN hT
  have r0 := h1.u32 0 (by simp)
  have r1 := h1.u32 1 (by simp)
  have r2 := h1.u32 2 (by simp)
  have r3 := h1.u32 3 (by simp)
  have r4 := h1.u32 4 (by simp)
  have r5 := h1.u32 5 (by simp)
  have r6 := h1.u32 6 (by simp)
  have r7 := h1.u32 7 (by simp)
  have f0 := h1.frozen
  simp at r0 r1 r2 r3 r4 r5 r6 r7
  have hlt := h1.lt
  have hlt0 := h0.lt
  clear hq
  rcases hq' with rfl | rfl
  · go_wp2
    go_region
    go_wp2
    refine bodyPost_ret (results_row_tmp (v := .bool false) (t := 65) (cs := U32 [l0, l1, l2, l3, l4, l5, l6, l7]) rfl rfl rfl ?_ Tryd.underlying65 rfl Tryd.infoSw) rfl ⟨[l0, l1, l2, l3, l4, l5, l6, l7], ?_, rfl, ?_, ?_⟩
    · refine Arr.drew (Arr.alloc ?_ _); exact h1.set8 l0 l1 l2 l3 l4 l5 l6 l7
    · rw [HE.out]; rfl
    · intro h; rw [HE.out] at h; cases h
    · refine Below.drew (Below.alloc ?_ (by simp; omega) _); exact set8_below hb2 (by omega) _ _ _ _ _ _ _ _
  · by_cases g0 : 0 ≤ N
    · by_cases g1 : N ≤ 20000
      · have e64 : N.tmod 64 = N % 64 := Int.tmod_eq_emod_of_nonneg g0
        obtain ⟨r, hr⟩ : ∃ r, r = ((nT : Int) == N % 64) := ⟨_, rfl⟩
        have HR : Hid (shaOk hs N ts = r) := by
          unfold Hid
          rw [HE.out, htl, hr]
          simp only [g0, g1, decide_true, Bool.true_and]
          rfl
        have hr' := hr.symm
        clear hr
        go_wp2
        go_region
        go_wp2
        refine bodyPost_ret (results_row_tmp (v := .bool r) (t := 65) (cs := U32 [l0, l1, l2, l3, l4, l5, l6, l7]) rfl rfl rfl ?_ Tryd.underlying65 rfl Tryd.infoSw) rfl ⟨[l0, l1, l2, l3, l4, l5, l6, l7], ?_, rfl, ?_, ?_⟩
        · refine Arr.drew (Arr.alloc ?_ _); exact h1.set8 l0 l1 l2 l3 l4 l5 l6 l7
        · rw [HR.out]
        · intro h; exact HL.out (by simp)
        · refine Below.drew (Below.alloc ?_ (by simp; omega) _); exact set8_below hb2 (by omega) _ _ _ _ _ _ _ _
      · have hd : decide (N ≤ 20000) = false := by simp; omega
        go_wp2
        go_region
        go_wp2
        refine bodyPost_ret (results_row_tmp (v := .bool false) (t := 65) (cs := U32 [l0, l1, l2, l3, l4, l5, l6, l7]) rfl rfl rfl ?_ Tryd.underlying65 rfl Tryd.infoSw) rfl ⟨[l0, l1, l2, l3, l4, l5, l6, l7], ?_, rfl, ?_, ?_⟩
        · refine Arr.drew (Arr.alloc ?_ _); exact h1.set8 l0 l1 l2 l3 l4 l5 l6 l7
        · rw [HE.out]; simp; intros; omega
        · intro h; rw [HE.out] at h; simp at h; omega
        · refine Below.drew (Below.alloc ?_ (by simp; omega) _); exact set8_below hb2 (by omega) _ _ _ _ _ _ _ _
    · have hd : decide (0 ≤ N) = false := by simp; omega
      go_wp2
      go_region
      go_wp2
      refine bodyPost_ret (results_row_tmp (v := .bool false) (t := 65) (cs := U32 [l0, l1, l2, l3, l4, l5, l6, l7]) rfl rfl rfl ?_ Tryd.underlying65 rfl Tryd.infoSw) rfl ⟨[l0, l1, l2, l3, l4, l5, l6, l7], ?_, rfl, ?_, ?_⟩
      · refine Arr.drew (Arr.alloc ?_ _); exact h1.set8 l0 l1 l2 l3 l4 l5 l6 l7
      · rw [HE.out]; simp; intros; omega
      · intro h; rw [HE.out] at h; simp at h; omega
      · refine Below.drew (Below.alloc ?_ (by simp; omega) _); exact set8_below hb2 (by omega) _ _ _ _ _ _ _ _
end Go.Proofs.YtgapfkiceolceaaDoor
namespace Go.Proofs.YtgapfkiceolceaaDoor
open Go.RowKit

theorem c33_of {W : World} {g g' : Nat} {t t' : TypeId} {a b c a' b' c' : Value} (h : Arr W g t [a, b, c]) (h' : Arr W g' t' [a', b', c']) :
    W.cell? ⟨g, 0, none⟩ = some a ∧ W.cell? ⟨g, 1, none⟩ = some b ∧ W.cell? ⟨g, 2, none⟩ = some c ∧ W.cell? ⟨g', 0, none⟩ = some a' ∧ W.cell? ⟨g', 1, none⟩ = some b' ∧ W.cell? ⟨g', 2, none⟩ = some c' :=
  ⟨h.cell 0, h.cell 1, h.cell 2, h'.cell 0, h'.cell 1, h'.cell 2⟩

set_option maxHeartbeats 1000000 in
theorem implShaOk (aH : Option Addr) (nH cH : Nat) (N : Int) (aT : Option Addr) (nT cT : Nat) (hs ts : List Int) (w : World) (hH : Is w aH nH cH hs) (hT : Bs w aT nT cT ts) :
    Calls Tryd.prog 19 #[shaV aH nH cH N aT nT cT] w fun e w' => e = .returned (.bool (shaOk hs N ts)) ∧ Below w.heap.size w w' := by
  have hB : Below w.heap.size w (w.alloc (.cells #[.slice aH nH cH, .int .i64 N, .slice aT nT cT] 27)) := (Below.refl _ _).alloc (Nat.le_refl _) _
  have HB : Hid _ := hB
  clear hB
  go_enter Tryd.func19, Tryd.ntmps19
  go_wp2_with fail
  refine (shaOpen aH nH cH N aT nT cT hs ts _ (hH.below HB.out) (hT.below HB.out)).mono ?_
  rintro e w' ⟨l, rfl, hl8, _, hb⟩
  have hb2 := HB.out.trans (hb.mono HB.out.size)
  obtain ⟨l0, l1, l2, l3, l4, l5, l6, l7, rfl⟩ := list8 hl8
  have hsz := hb2.size
  clear HB hb hH hT
  go_wp2
  go_ret
  exact ⟨rfl, hb2.alloc hsz _⟩

set_option maxHeartbeats 1000000 in
theorem szI (a : Option Addr) (n c : Nat) (l : Int) (w : World) (h0 : 0 ≤ l) (h1 : l ≤ 1048576) (hn : n ≤ 9223372036854775807) :
    Calls Tryd.prog 78 #[.slice a n c, .int .i64 l] w fun e w' => e = .returned (.int .i64 (if l - (n : Int) < 0 then -1 else l - (n : Int))) ∧ w' = w := by
  have hw : wrap64 (l - (n : Int)) = l - (n : Int) := by unfold wrap64; omega
  by_cases hlt : l - (n : Int) < 0
  · rw [if_pos hlt]
    go_enter Tryd.func78, Tryd.ntmps78
    go_wp2
    go_ret
    exact ⟨rfl, rfl⟩
  · rw [if_neg hlt]
    go_enter Tryd.func78, Tryd.ntmps78
    go_wp2
    go_ret
    exact ⟨rfl, rfl⟩

set_option maxHeartbeats 1000000 in
theorem szB (a : Option Addr) (n c : Nat) (l : Int) (w : World) (h0 : 0 ≤ l) (h1 : l ≤ 1048576) (hn : n ≤ 9223372036854775807) :
    Calls Tryd.prog 79 #[.slice a n c, .int .i64 l] w fun e w' => e = .returned (.int .i64 (if l - (n : Int) < 0 then -1 else l - (n : Int))) ∧ w' = w := by
  have hw : wrap64 (l - (n : Int)) = l - (n : Int) := by unfold wrap64; omega
  by_cases hlt : l - (n : Int) < 0
  · rw [if_pos hlt]
    go_enter Tryd.func79, Tryd.ntmps79
    go_wp2
    go_ret
    exact ⟨rfl, rfl⟩
  · rw [if_neg hlt]
    go_enter Tryd.func79, Tryd.ntmps79
    go_wp2
    go_ret
    exact ⟨rfl, rfl⟩

set_option maxHeartbeats 1000000 in
theorem szShaC (aH : Option Addr) (nH cH : Nat) (N : Int) (aT : Option Addr) (nT cT : Nat) (l : Int) (w : World) (h0 : 0 ≤ l) (hl : l ≤ 1048576) (hH : nH ≤ 9223372036854775807) (hT : nT ≤ 9223372036854775807) :
    Calls Tryd.prog 44 #[shaV aH nH cH N aT nT cT, .int .i64 l] w fun e w' => ∃ r : Int, e = .returned (.int .i64 r) ∧ (r = -1 ∨ 0 ≤ r ∧ nH ≤ 1048576 ∧ nT ≤ 1048576) ∧ Below w.heap.size w w' := by
  have HB : Hid (Below w.heap.size w (w.alloc (.cells #[.slice aH nH cH, .int .i64 N, .slice aT nT cT] 54))) := (Below.refl _ _).alloc (Nat.le_refl _) _
  go_enter Tryd.func44, Tryd.ntmps44
  go_wp2_with fail
  refine (szI aH nH cH l _ (by omega) (by omega) hH).mono ?_
  rintro e w' ⟨rfl, rfl⟩
  by_cases h1 : l - (nH : Int) < 0
  · rw [if_pos h1]
    go_wp2
    go_ret
    exact ⟨-1, rfl, .inl rfl, HB.out⟩
  rw [if_neg h1]
  obtain ⟨l1, hl1⟩ : ∃ l1 : Int, l1 = l - (nH : Int) := ⟨_, rfl⟩
  rw [← hl1]
  rw [← hl1] at h1
  have HL1 : Hid _ := hl1
  have hl1' : l1 ≤ 1048576 := by omega
  clear hl1
  go_wp2_with fail
  refine (szB aT nT cT l1 _ (by omega) (by omega) hT).mono ?_
  rintro e w' ⟨rfl, rfl⟩
  by_cases h2 : l1 - (nT : Int) < 0
  · rw [if_pos h2]
    go_wp2
    go_ret
    exact ⟨-1, rfl, .inl rfl, HB.out⟩
  rw [if_neg h2]
  obtain ⟨l2, hl2⟩ : ∃ l2 : Int, l2 = l1 - (nT : Int) := ⟨_, rfl⟩
  rw [← hl2]
  rw [← hl2] at h2
  have HL2 : Hid _ := hl2
  clear hl2
  go_wp2
  go_ret
  have hl1 := HL1.out
  have hl2 := HL2.out
  exact ⟨l2, rfl, .inr ⟨by omega, by omega, by omega⟩, HB.out⟩


/-- What a copy of a Sha is: memory of its own, the two slices apart. -/
structure OwnSha (w W : World) (aH : Option Addr) (nH cH : Nat) (aT : Option Addr) (nT cT : Nat) (hs ts : List Int) : Prop where
  oh : W.ownsRow w.heap.size 3 1 (.slice aH nH cH) nH (I64 hs)
  ot : W.ownsRow w.heap.size 5 1 (.slice aT nT cT) nT (U8 ts)
  ap : Apart (.slice aH nH cH) (.slice aT nT cT)

set_option maxHeartbeats 1000000 in
theorem toShaC (aH : Option Addr) (nH cH : Nat) (N : Int) (aT : Option Addr) (nT cT : Nat) (hs ts : List Int) (w : World) (hH : Is w aH nH cH hs) (hT : Bs w aT nT cT ts) (hn : nH ≤ 2097152) (hm : nT ≤ 2097152) :
    Calls Tryd.prog 46 #[shaV aH nH cH N aT nT cT] w fun e w' => ∃ aH' cH' aT' cT', e = .returned (shaV aH' nH cH' N aT' nT cT') ∧ OwnSha w w' aH' nH cH' aT' nT cT' hs ts ∧ Below w.heap.size w w' := by
  have htb := hT.2.2.2.1
  have hhb := hH.2.2.2.1
  obtain ⟨W, hW⟩ : ∃ W, W = ((w.alloc (.cells #[.slice aH nH cH, .int .i64 N, .slice aT nT cT] 54)).alloc (.cells #[.slice none 0 0, .int .i64 0, .slice none 0 0] 27)).alloc (.cells #[.slice none 0 0, .int .i64 0, .slice none 0 0] 27) := ⟨_, rfl⟩
  have hB : Below w.heap.size w W := by rw [hW]; exact (((Below.refl _ _).alloc (Nat.le_refl _) _).alloc (by simp) _).alloc (by simp; omega) _
  have hA0 : Arr W w.heap.size 54 [.slice aH nH cH, .int .i64 N, .slice aT nT cT] := by rw [hW]; exact ((Arr.new w _ _).alloc _).alloc _
  have hA1 : Arr W (w.heap.size + 1) 27 [.slice none 0 0, .int .i64 0, .slice none 0 0] := by
    rw [hW]
    have := (Arr.new (w.alloc (.cells #[.slice aH nH cH, .int .i64 N, .slice aT nT cT] 54)) [.slice none 0 0, .int .i64 0, .slice none 0 0] 27).alloc (.cells #[.slice none 0 0, .int .i64 0, .slice none 0 0] 27)
    simpa using this
  have hA2 : Arr W (w.heap.size + 1 + 1) 27 [.slice none 0 0, .int .i64 0, .slice none 0 0] := by
    rw [hW]
    have := Arr.new ((w.alloc (.cells #[.slice aH nH cH, .int .i64 N, .slice aT nT cT] 54)).alloc (.cells #[.slice none 0 0, .int .i64 0, .slice none 0 0] 27)) [.slice none 0 0, .int .i64 0, .slice none 0 0] 27
    simpa using this
  go_enter Tryd.func46, Tryd.ntmps46
  go_wp2_with fail
  rw [show ((w.alloc (.cells #[.slice aH nH cH, .int .i64 N, .slice aT nT cT] 54)).alloc (.cells #[.slice none 0 0, .int .i64 0, .slice none 0 0] 27)).alloc (.cells #[.slice none 0 0, .int .i64 0, .slice none 0 0] 27) = W from hW.symm]
  refine (toSI aH nH cH hs _ (hH.below hB) hn).mono ?_
  rintro e w1 ⟨aH', cH', rfl, ho1, _, hb1⟩
  have hb1' := hB.trans (hb1.mono hB.size)
  have k0 := hA0.kept hb1
  have k1 := hA1.kept hb1
  have k2 := hA2.kept hb1
  have ho1' := own_base ho1 hB.size
  have hfar : ∀ k, Value.ownBlock (.slice aH' nH cH') = some k → W.heap.size ≤ k := fun k hk => (ho1.lt k hk).1
  clear hA0 hA1 hA2
  have c1 := k0.cell 1
  have c2 := k0.cell 2
  have d0 := k2.cell 0
  have d1 := k2.cell 1
  have f := k2.frozen
  simp at c1 c2 d0 d1
  have hlt := k2.lt
  go_wp2_with fail
  have hb2 : Below w.heap.size w ((w1.setCell ⟨w.heap.size + 1 + 1, 0, none⟩ (.slice aH' nH cH')).setCell ⟨w.heap.size + 1 + 1, 1, none⟩ (.int .i64 N)) := (hb1'.setCell (by simp; omega) _).setCell (by simp; omega) _
  have hWs : w.heap.size + 1 + 1 < W.heap.size := by rw [hW]; simp
  have hWW2 : W.heap.size ≤ ((w1.setCell ⟨w.heap.size + 1 + 1, 0, none⟩ (.slice aH' nH cH')).setCell ⟨w.heap.size + 1 + 1, 1, none⟩ (.int .i64 N)).heap.size := by simpa using hb1.size
  have ho2 := own_other (own_other ho1 ⟨w.heap.size + 1 + 1, 0, none⟩ (.slice aH' nH cH') hWs) ⟨w.heap.size + 1 + 1, 1, none⟩ (.int .i64 N) hWs
  have m1 := (k1.other ⟨w.heap.size + 1 + 1, 0, none⟩ (.slice aH' nH cH') (by simp)).other ⟨w.heap.size + 1 + 1, 1, none⟩ (.int .i64 N) (by simp)
  have m2 : Arr _ _ _ [.slice aH' nH cH', .int .i64 N, .slice none 0 0] := (k2.set 0 (.slice aH' nH cH')).set 1 (.int .i64 N)
  generalize ((w1.setCell ⟨w.heap.size + 1 + 1, 0, none⟩ (.slice aH' nH cH')).setCell ⟨w.heap.size + 1 + 1, 1, none⟩ (.int .i64 N)) = W2 at hb2 ho2 m1 m2 hWW2 ⊢
  clear c1 c2 d0 d1 f hlt k0 k1 k2 ho1 ho1' hb1 hb1'
  refine (toS aT nT cT ts _ (hT.below hb2) hm).mono ?_
  rintro e w3 ⟨aT', cT', rfl, ho3, _, hb3⟩
  have n1 := m1.kept hb3
  have n2 := m2.kept hb3
  have e0 := n1.cell 0
  have e1 := n1.cell 1
  have e2 := n1.cell 2
  have d0 := n2.cell 0
  have d1 := n2.cell 1
  have d2 := n2.cell 2
  have f1 := n1.frozen
  have f2 := n2.frozen
  simp at e0 e1 e2 d0 d1 d2
  have hb4 := hb2.trans (hb3.mono hb2.size)
  have ap := apart_of ho2 ho3 (Nat.le_refl _)
  have hWW := hb2.size
  have HO : Hid (∀ p u, p.block < W.heap.size → ∀ p' u', p'.block < W.heap.size → ∀ p'' u'', p''.block < W.heap.size → ∀ p3 u3, p3.block < W.heap.size → OwnSha w ((((w3.setCell p u).setCell p' u').setCell p'' u'').setCell p3 u3) aH' nH cH' aT' nT cT' hs ts) := by
    intro p u h1 p' u' h2 p'' u'' h3 p3 u3 h4
    exact ⟨own_base (own_other (own_other (own_other (own_other (own_below ho2 hb3) p u h1) p' u' h2) p'' u'' h3) p3 u3 h4) hB.size, own_base (own_other (own_other (own_other (own_other (own_base ho3 hWW2) p u h1) p' u' h2) p'' u'' h3) p3 u3 h4) hB.size, ap⟩
  have HF : Hid (∀ u0 u1 u2 u3, Below w.heap.size w ((((w3.setCell ⟨w.heap.size + 1 + 1, 2, none⟩ u0).setCell ⟨w.heap.size + 1, 0, none⟩ u1).setCell ⟨w.heap.size + 1, 1, none⟩ u2).setCell ⟨w.heap.size + 1, 2, none⟩ u3)) := fun u0 u1 u2 u3 =>
    (((hb4.setCell (by simp; omega) _).setCell (by simp) _).setCell (by simp) _).setCell (by simp) _
  clear hb4 ap ho2 ho3 hb3 hb2 m1 m2 hB hfar htb hhb hH hT
  go_wp2
  have n3 := (((n1.other ⟨w.heap.size + 1 + 1, 2, none⟩ (.slice aT' nT cT') (by simp)).set 0 (.slice aH' nH cH')).set 1 (.int .i64 N)).set 2 (.slice aT' nT cT')
  exact bodyPost_ret (results_cell_row rfl _ _ (w.heap.size + 1) 27 _ (0, 0) _ rfl n3 Tryd.underlying27 rfl (by kernel_rfl)) rfl ⟨aH', cH', aT', cT', rfl, HO.out _ _ (by simp; omega) _ _ (by simp; omega) _ _ (by simp; omega) _ _ (by simp; omega), HF.out _ _ _ _⟩

set_option maxHeartbeats 1000000 in
theorem eqShaC (aH : Option Addr) (nH cH : Nat) (N : Int) (aT : Option Addr) (nT cT : Nat) (bH : Option Addr) (dH : Nat) (bT : Option Addr) (dT : Nat) (hs ts : List Int) (w : World)
    (hH : Is w aH nH cH hs) (hT : Bs w aT nT cT ts) (hH' : Is w bH nH dH hs) (hT' : Bs w bT nT dT ts) (hn : nH ≤ 2097152) (hm : nT ≤ 2097152) :
    Calls Tryd.prog 33 #[shaV aH nH cH N aT nT cT, shaV bH nH dH N bT nT dT] w fun e w' => e = .returned (.bool true) ∧ Below w.heap.size w w' := by
  have hB : Below w.heap.size w ((w.alloc (.cells #[.slice aH nH cH, .int .i64 N, .slice aT nT cT] 27)).alloc (.cells #[.slice bH nH dH, .int .i64 N, .slice bT nT dT] 27)) := ((Below.refl _ _).alloc (Nat.le_refl _) _).alloc (by simp) _
  have HB : Hid _ := hB
  have hN : (N != N) = false := by simp
  clear hB
  go_enter Tryd.func33, Tryd.ntmps33
  go_wp2_with fail
  refine (eqI aH bH nH cH dH hs _ (hH.below HB.out) (hH'.below HB.out) hn).mono ?_
  rintro e w1 ⟨q1, rfl, rfl⟩
  go_wp2_with fail
  refine (eqB aT bT nT cT dT ts _ (hT.below (bel_dN HB.out q1)) (hT'.below (bel_dN HB.out q1)) hm).mono ?_
  rintro e w2 ⟨q2, rfl, rfl⟩
  go_wp2
  go_ret
  exact ⟨rfl, bel_dN HB.out _⟩
end Go.Proofs.YtgapfkiceolceaaDoor
