/-
  What is proved here: contracts of the program's shaWordsOf and of the specification's l2isWords: both look whether there are eight numbers in 0 .. 2^32 - 1; for every slice of ints.
-/
import Derived.Test.YtgapfkiceolceaaDoorSmAI
import Derived.Test.YtgapfkiceolceaaDoorArr
import Derived.Deep.Light
namespace Go.Proofs.YtgapfkiceolceaaDoor
open Go.RowKit

/-- Eight numbers in 0 .. 2^32 - 1? -/
def isW (xs : List Int) : Bool := decide (xs.length = 8) && xs.all (fun x => decide (0 ≤ x) && decide (x < 4294967296))

theorem isW_iff (xs : List Int) : isW xs = true ↔ xs.length = 8 ∧ ∀ x ∈ xs, 0 ≤ x ∧ x < 4294967296 := by
  simp [isW]

theorem getD_mem {xs : List Int} {k : Nat} (hk : k < xs.length) : xs.getD k 0 ∈ xs := by
  have e : xs.getD k 0 = xs[k] := by simp [hk]
  rw [e]; exact List.getElem_mem hk

theorem isW_no {xs : List Int} {k : Nat} (hk : k < xs.length) (h : xs.getD k 0 < 0 ∨ 4294967296 ≤ xs.getD k 0) : isW xs = false := by
  cases hq : isW xs with
  | false => rfl
  | true =>
    have := ((isW_iff xs).1 hq).2 (xs.getD k 0) (getD_mem hk)
    omega

theorem all_upto {xs : List Int} (h : ∀ j, j < xs.length → 0 ≤ xs.getD j 0 ∧ xs.getD j 0 < 4294967296) : ∀ x ∈ xs, 0 ≤ x ∧ x < 4294967296 := by
  intro x hx
  obtain ⟨j, hj, rfl⟩ := List.getElem_of_mem hx
  have := h j hj
  have e : xs.getD j 0 = xs[j] := by simp [hj]
  rwa [e] at this

theorem Tryd.infoSw : (Tryd.prog.info? 65).map (·.size) = some 8 := by kernel_rfl

set_option maxRecDepth 100000 in
set_option maxHeartbeats 1000000 in
theorem wordsOf (a : Option Addr) (n cap : Nat) (xs : List Int) (w : World) (h : Is w a n cap xs) :
    Calls Tryd.prog 66 #[.slice a n cap] w fun e w' => ∃ l : List Int, e = .returned (.tuple #[.agg (U32 l).toArray, .bool (isW xs)]) ∧ l.length = 8 ∧ (isW xs = true → l = xs) ∧ Below w.heap.size w w' := by
  obtain ⟨_, hl, hc, _, h⟩ := h
  by_cases h8 : n = 8
  rotate_left
  · have hne : ((n : Int) != 8) = true := by simp; omega
    have hno : isW xs = false := by simp [isW]; intro e; omega
    go_enter Tryd.func66, Tryd.ntmps66
    go_wp2
    refine bodyPost_ret (v := .tuple #[.agg (U32 [0, 0, 0, 0, 0, 0, 0, 0]).toArray, .bool false]) (by rw [results_cell_tmp rfl]; go_simp) rfl ⟨[0, 0, 0, 0, 0, 0, 0, 0], by rw [hno], rfl, (fun h => by rw [hno] at h; cases h), ?_⟩
    exact ((Below.refl _ _).alloc (Nat.le_refl _) _).alloc (by simp) _
  subst h8
  have hne : ((8 : Int) != 8) = false := by simp
  rcases h with h | ⟨b, o, rfl, hbs, hcell⟩
  · omega
  go_enter Tryd.func66, Tryd.ntmps66
  go_wp2
  obtain ⟨W, hW⟩ : ∃ W, W = (w.alloc (.cells (U32 [0, 0, 0, 0, 0, 0, 0, 0]).toArray 65)).alloc (.cells (U32 [0, 0, 0, 0, 0, 0, 0, 0]).toArray 65) := ⟨_, rfl⟩
  have hA0 : Arr W w.heap.size 65 (U32 [0, 0, 0, 0, 0, 0, 0, 0]) := by rw [hW]; exact (Arr.new w _ _).alloc _
  have hA1 : Arr W (w.heap.size + 1) 65 (U32 (xs.take 0 ++ List.replicate (8 - 0) 0)) := by
    rw [hW]
    have := Arr.new (w.alloc (.cells (U32 [0, 0, 0, 0, 0, 0, 0, 0]).toArray 65)) (U32 [0, 0, 0, 0, 0, 0, 0, 0]) 65
    simpa using this
  have hB : Below w.heap.size w W := by rw [hW]; exact ((Below.refl _ _).alloc (Nat.le_refl _) _).alloc (by simp) _
  go_loopw [13] (fun i wr => ∃ k : Nat, k ≤ 8 ∧ i = .int .i64 k ∧ Arr wr w.heap.size 65 (U32 [0, 0, 0, 0, 0, 0, 0, 0]) ∧ Arr wr (w.heap.size + 1) 65 (U32 (xs.take k ++ List.replicate (8 - k) 0)) ∧ Below w.heap.size w wr ∧ ∀ j, j < k → 0 ≤ xs.getD j 0 ∧ xs.getD j 0 < 4294967296) (fun i _ => 8 - (intOf i).toNat)
  case atStart => exact ⟨0, by omega, rfl, hW ▸ hA0, hW ▸ hA1, hW ▸ hB, fun j hj => by omega⟩
  case round =>
    obtain ⟨k, hk, rfl, h0, h1, hb, hin⟩ := hrel
    clear hA0 hA1 hB hW
    have hlen : (xs.take k ++ List.replicate (8 - k) 0).length = 8 := by simp; omega
    by_cases hlt : k < 8
    · obtain ⟨x, hx⟩ : ∃ x, x = xs.getD k 0 := ⟨_, rfl⟩
      have hck : wr.cell? ⟨b, o + k, none⟩ = some (.int .i64 x) := by rw [hx]; exact (hb.cell (p := ⟨b, o + k, none⟩) hbs).trans (hcell k hlt)
      have HX : Hid _ := hx
      by_cases hin1 : 0 ≤ x ∧ x < 4294967296
      · obtain ⟨hx0, hx1⟩ := hin1
        have hn0 : ¬ (x < 0) := by omega
        have hn1 : ¬ (4294967295 < x) := by omega
        have hcv : IntKind.u32.wrap x = x := by simp [IntKind.wrap, IntKind.signed, IntKind.bits]; omega
        have hfz := h1.frozen k
        obtain ⟨u, hu⟩ : ∃ u, wr.cell? ⟨w.heap.size + 1, k, none⟩ = some u := by
          rw [h1.cell k]
          exact ⟨_, List.getElem?_eq_getElem (by simp only [List.length_map]; omega)⟩
        have h1' := h1.set k (.int .u32 x)
        rw [set_fill xs 8 k x (by omega) hl hx] at h1'
        have h0' := h0.other ⟨w.heap.size + 1, k, none⟩ (.int .u32 x) (by simp)
        have hb' := hb.setCell (p := ⟨w.heap.size + 1, k, none⟩) (by simp) (.int .u32 x)
        have hin' : ∀ j, j < k + 1 → 0 ≤ xs.getD j 0 ∧ xs.getD j 0 < 4294967296 := by
          intro j hj
          by_cases e : j = k
          · subst e; rw [← hx]; exact ⟨hx0, hx1⟩
          · exact hin j (by omega)
        have H1 : Hid _ := h1'
        have H0 : Hid _ := h0'
        have HB : Hid _ := hb'
        have HI : Hid _ := hin'
        clear h1' h0' hb' hin' h0 h1 hb hin hcell hx
        go_wp2
        go_roundw
        case rel => exact ⟨k + 1, by omega, by go_num, H0.out, H1.out, HB.out, HI.out⟩
        case measure => simp [intOf]; omega
      · have hno := isW_no (xs := xs) (k := k) (by omega) (by rw [← hx]; omega)
        have HN : Hid _ := hno
        obtain ⟨y, hy⟩ : ∃ y, y = xs.take k ++ List.replicate (8 - k) 0 := ⟨_, rfl⟩
        rw [← hy] at h1 hlen
        have h0' := h0.row (U32 y)
        have hb' := setRow_below hb w.heap.size (U32 y).toArray (Nat.le_refl _)
        have hsz := Tryd.infoSw
        clear hy hno hx hin
        by_cases hx0 : x < 0
        · go_wp2_with (first
            | (refine wpList_load_row rfl 65 _ rfl (w.heap.size + 1) rfl 65 (U32 y).toArray (0, 0) _ h1 Tryd.underlying65 rfl (by simpa [hlen] using hsz) ?_)
            | (refine wpList_store_row rfl 65 _ _ rfl w.heap.size (U32 y).toArray rfl rfl 65 _ h0 (by simpa [hlen] using hsz) (by simp [hlen]) (by simp [Value.oneCell']) ?_))
          exact bodyPost_ret (results_row_tmp (v := .bool false) rfl rfl rfl h0' Tryd.underlying65 rfl (by simpa [hlen] using hsz)) rfl ⟨y, by rw [HN.out], hlen, (fun h => by rw [HN.out] at h; cases h), hb'⟩
        · have hx1 : 4294967295 < x := by omega
          go_wp2_with (first
            | (refine wpList_load_row rfl 65 _ rfl (w.heap.size + 1) rfl 65 (U32 y).toArray (0, 0) _ h1 Tryd.underlying65 rfl (by simpa [hlen] using hsz) ?_)
            | (refine wpList_store_row rfl 65 _ _ rfl w.heap.size (U32 y).toArray rfl rfl 65 _ h0 (by simpa [hlen] using hsz) (by simp [hlen]) (by simp [Value.oneCell']) ?_))
          exact bodyPost_ret (results_row_tmp (v := .bool false) rfl rfl rfl h0' Tryd.underlying65 rfl (by simpa [hlen] using hsz)) rfl ⟨y, by rw [HN.out], hlen, (fun h => by rw [HN.out] at h; cases h), hb'⟩
    · have hkn : k = 8 := by omega
      subst hkn
      have hyes : isW xs = true := (isW_iff xs).2 ⟨hl, all_upto (fun j hj => hin j (by omega))⟩
      have e : xs.take 8 ++ List.replicate (8 - 8) 0 = xs := by simp [List.take_of_length_le (show xs.length ≤ 8 by omega)]
      rw [e] at h1
      have h0' := h0.row (U32 xs)
      have hb' := setRow_below hb w.heap.size (U32 xs).toArray (Nat.le_refl _)
      have hsz := Tryd.infoSw
      have HY : Hid _ := hyes
      clear e hlen hin hyes
      go_wp2_with (first
        | (refine wpList_load_row rfl 65 _ rfl (w.heap.size + 1) rfl 65 (U32 xs).toArray (0, 0) _ h1 Tryd.underlying65 rfl (by simpa [hl] using hsz) ?_)
        | (refine wpList_store_row rfl 65 _ _ rfl w.heap.size (U32 xs).toArray rfl rfl 65 _ h0 (by simpa [hl] using hsz) (by simp [hl]) (by simp [Value.oneCell']) ?_))
      exact bodyPost_ret (results_row_tmp (v := .bool true) rfl rfl rfl h0' Tryd.underlying65 rfl (by simpa [hl] using hsz)) rfl ⟨xs, by rw [HY.out], hl, (fun _ => rfl), hb'⟩

set_option maxRecDepth 100000 in
set_option maxHeartbeats 1000000 in
theorem isWords (a : Option Addr) (n cap : Nat) (xs : List Int) (w : World) (h : Is w a n cap xs) (hn : n ≤ 2097152) :
    Calls Tryd.prog 75 #[.slice a n cap] w fun e w' => e = .returned (.bool (isW xs)) ∧ w' = w := by
  obtain ⟨_, hl, hc, hint, h⟩ := h
  go_enter Tryd.func75, Tryd.ntmps75
  go_wp2
  go_loop [3] (fun i => ∃ k : Nat, k ≤ n ∧ i = .int .i64 k ∧ ∀ j, j < k → 0 ≤ xs.getD j 0 ∧ xs.getD j 0 < 4294967296) (fun i => n - (intOf i).toNat)
  case atStart => exact ⟨0, by omega, rfl, fun j hj => by omega⟩
  case round =>
    obtain ⟨k, hk, rfl, hin⟩ := hrel
    by_cases hlt : k < n
    · rcases h with h | ⟨b, o, rfl, hbs, hcell⟩
      · omega
      obtain ⟨x, hx⟩ : ∃ x, x = xs.getD k 0 := ⟨_, rfl⟩
      have hck : w.cell? ⟨b, o + k, none⟩ = some (.int .i64 x) := by rw [hx]; exact hcell k hlt
      have hlt' : (k : Int) < (n : Int) := by omega
      by_cases hx0 : x < 0
      · have hno := isW_no (xs := xs) (k := k) (by omega) (by rw [← hx]; omega)
        clear hcell hin hx
        go_wp2
        go_ret
        exact ⟨rfl, rfl⟩
      by_cases hx1 : 4294967296 ≤ x
      · have hno := isW_no (xs := xs) (k := k) (by omega) (by rw [← hx]; omega)
        clear hcell hin hx
        go_wp2
        go_ret
        exact ⟨rfl, rfl⟩
      have hin' : ∀ j, j < k + 1 → 0 ≤ xs.getD j 0 ∧ xs.getD j 0 < 4294967296 := by
        intro j hj
        by_cases e : j = k
        · subst e; rw [← hx]; omega
        · exact hin j (by omega)
      have HI : Hid _ := hin'
      clear hcell hin hx hin'
      go_wp2
      go_round
      case rel => exact ⟨k + 1, by omega, by go_num, HI.out⟩
      case measure => simp [intOf]; omega
    · have hkn : k = n := by omega
      subst hkn
      have hyes : isW xs = decide ((k : Int) = 8) := by
        have ha := all_upto (xs := xs) (fun j hj => hin j (by omega))
        by_cases e : k = 8
        · rw [(isW_iff xs).2 ⟨by omega, ha⟩]; simp; omega
        · have : isW xs = false := by simp [isW]; intro e'; omega
          rw [this]; simp; omega
      have HY : Hid _ := hyes
      clear hin hyes
      go_wp2
      go_ret
      refine ⟨?_, rfl⟩
      rw [HY.out]
      rfl
end Go.Proofs.YtgapfkiceolceaaDoor
