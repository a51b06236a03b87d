/-
  What is proved here: the contract of the program's shaBlockWordsOf at words of 32 bits: the sixteen words of a block of 64 bytes, in a new row; the contract of the program's shaBlockWordsOf at words of 64 bits: the sixteen words of a block of 128 bytes, in a new row.
-/
import Derived.Test.YtgapfkiceolceaaDoorQb
import Derived.Test.YtgapfkiceolceaaDoorQ2
import Derived.Laws.MakeOwn
namespace Go.Proofs.YtgapfkiceolceaaDoor
open Go.RowKit
set_option maxRecDepth 100000

/-- The sixteen words when the first i bytes are in. -/
def pbn (xs : List Int) (i : Nat) : List Int := (List.range 16).map (fun j => wv xs j (min 4 (i - 4 * j)))
theorem pbn_len (xs : List Int) (i : Nat) : (pbn xs i).length = 16 := by simp [pbn]
theorem pbn_get (xs : List Int) (i j : Nat) (h : j < 16) : (pbn xs i).getD j 0 = wv xs j (min 4 (i - 4 * j)) := by simp [pbn, h]
theorem pbn_zero (xs : List Int) : pbn xs 0 = List.replicate 16 0 := by
  have e : pbn xs 0 = (List.range 16).map (fun _ => (0 : Int)) := by simp only [pbn, Nat.zero_sub, Nat.min_zero, wv]
  rw [e]; rfl
theorem wvBn (xs : List Int) (hb : ∀ x ∈ xs, 0 ≤ x ∧ x < 256) (j m : Nat) : 0 ≤ wv xs j m ∧ wv xs j m < 256 ^ m := by
  induction m with
  | zero => simp [wv]
  | succ m ih =>
    have hx : 0 ≤ xs.getD (4 * j + m) 0 ∧ xs.getD (4 * j + m) 0 < 256 := by
      by_cases h : 4 * j + m < xs.length
      · exact get_byte hb h
      · have : xs.getD (4 * j + m) 0 = 0 := by simp [Nat.le_of_not_lt h]
        rw [this]; omega
    simp only [wv, Int.pow_succ]
    omega
theorem pbn_set (xs : List Int) (i : Nat) (v : Int) (hv : v = wv xs (i / 4) (i % 4)) :
    (U32 (pbn xs i)).set (i / 4) (.int .u32 (v * 256 + xs.getD i 0)) = U32 (pbn xs (i + 1)) := by
  subst hv
  apply List.ext_getElem
  · simp [pbn_len]
  · intro j h1 h2
    rw [List.getElem_set]
    have e1 : ∀ (k : Nat) (hk : j < (U32 (pbn xs k)).length), (U32 (pbn xs k))[j] = .int .u32 (wv xs j (min 4 (k - 4 * j))) := by intro k hk; simp [pbn]
    rw [e1 (i + 1)]
    split
    · rename_i e
      subst e
      have e2 : min 4 (i + 1 - 4 * (i / 4)) = i % 4 + 1 := by omega
      have e3 : 4 * (i / 4) + i % 4 = i := by omega
      rw [e2]
      simp only [wv, e3]
    · rename_i e
      rw [e1 i]
      have e2 : min 4 (i + 1 - 4 * j) = min 4 (i - 4 * j) := by omega
      rw [e2]
theorem schSnocn (xs : List Int) (k : Nat) : schedL xs (k + 1) = schedL xs k ++ [nextW xs (schedL xs k)] := rfl
theorem schLown (xs : List Int) (k j : Nat) (hj : j < k) (hk : k ≤ 16) : (schedL xs k).getD j 0 = wv xs j 4 := by
  induction k with
  | zero => omega
  | succ k ih =>
    rw [schSnocn]
    by_cases e : j = k
    · subst e
      have hl := schedL_len xs j
      have h2 : (schedL xs j ++ [nextW xs (schedL xs j)]).getD j 0 = nextW xs (schedL xs j) := by
        simp [List.getD, hl]
      rw [h2]
      unfold nextW
      rw [if_pos (by omega), hl]
    · have hl := schedL_len xs k
      have h2 : (schedL xs k ++ [nextW xs (schedL xs k)]).getD j 0 = (schedL xs k).getD j 0 := by
        simp [List.getD, List.getElem?_append_left, hl, show j < k by omega]
      rw [h2]
      exact ih (by omega) (by omega)
theorem pbn_end (xs : List Int) : pbn xs 64 = schedL xs 16 := by
  apply List.ext_getElem
  · simp [pbn_len, schedL_len]
  · intro j h1 h2
    have hj : j < 16 := by simpa [pbn_len] using h1
    have e1 : ∀ h : j < (pbn xs 64).length, (pbn xs 64)[j] = wv xs j (min 4 (64 - 4 * j)) := by intro h; simp [pbn]
    rw [e1 h1]
    have := schLown xs 16 j hj (by omega)
    rw [show min 4 (64 - 4 * j) = 4 by omega, ← this]
    simp [schedL_len, hj]

def zbn : Array Value := (U32 (List.replicate 16 0)).toArray
theorem infoUn : (Tryd.prog.info? 63).map (fun i => (i.zero, i.size, i.bytes)) = some (some (.int .u32 0), 1, 4) := by kernel_rfl
theorem makeBn (w : World) : (Instr.makeSlice 72 (.int .i64 16) (.int .i64 16)).run Tryd.prog w = .ok (.slice (some ⟨w.heap.size, 0, none⟩) 16 16) (w.alloc (.cells zbn 63)) := by
  obtain ⟨i0, hi, hz0, hz1, hz2⟩ := info_parts infoUn
  have := run_make (P := Tryd.prog) w 72 63 i0 (.int .u32 0) Tryd.underlying72 hi hz0 .i64 .i64 16 16 (by omega) (by omega) (by rw [hz2]; omega) (by omega)
  rw [this, hz1, show madeCells (Value.int .u32 0).cells (Int.toNat 16 * 1) = zbn by kernel_rfl]
  rfl

set_option maxHeartbeats 1000000 in
theorem blockWordsn (a : Option Addr) (c : Nat) (xs : List Int) (w : World) (h : Bs w a 64 c xs) :
    Calls Tryd.prog 106 #[.slice a 64 c] w fun e w' => ∃ g, e = .returned (.slice (some ⟨g, 0, none⟩) 16 16) ∧ Arr w' g 63 (U32 (schedL xs 16)) ∧ w.heap.size ≤ g ∧ Below w.heap.size w w' := by
  obtain ⟨_, hl, hc, hby, h⟩ := h
  rcases h with h | ⟨b, o, rfl, hbs, hcell⟩
  · omega
  obtain ⟨W, hW⟩ : ∃ W, W = w.alloc (.cells zbn 63) := ⟨_, rfl⟩
  have hA1 : Arr W w.heap.size 63 (U32 (pbn xs 0)) := by rw [hW, pbn_zero]; exact Arr.new w _ _
  have hB : Below w.heap.size w W := by rw [hW]; exact (Below.refl _ _).alloc (Nat.le_refl _) _
  have hmk := makeBn
  go_enter Tryd.func106, Tryd.ntmps106
  go_wp2
  go_loopw [10] (fun i wr => ∃ k : Nat, k ≤ 64 ∧ i = .int .i64 k ∧ Arr wr w.heap.size 63 (U32 (pbn xs k)) ∧ Below w.heap.size w wr) (fun i _ => 64 - (intOf i).toNat)
  case atStart => exact ⟨0, by omega, rfl, hW ▸ hA1, hW ▸ hB⟩
  case round =>
    clear hA1 hB hW hmk
    obtain ⟨k, hk, rfl, h1, hb⟩ := hrel
    by_cases hlt : k < 64
    · obtain ⟨x, hx⟩ : ∃ x, x = xs.getD k 0 := ⟨_, rfl⟩
      have hck : wr.cell? ⟨b, o + k, none⟩ = some (.int .u8 x) := by rw [hx]; exact (hb.cell (p := ⟨b, o + k, none⟩) hbs).trans (hcell k hlt)
      obtain ⟨hx0, hx1⟩ : 0 ≤ x ∧ x < 256 := by rw [hx]; exact get_byte hby (by omega)
      obtain ⟨v, hv⟩ : ∃ v, v = wv xs (k / 4) (k % 4) := ⟨_, rfl⟩
      have hvb := wvBn xs hby (k / 4) (k % 4)
      rw [← hv] at hvb
      have hv3 : v < 16777216 := by
        have : (256 : Int) ^ (k % 4) ≤ 16777216 := by
          rcases (show k % 4 = 0 ∨ k % 4 = 1 ∨ k % 4 = 2 ∨ k % 4 = 3 by omega) with e | e | e | e <;> rw [e] <;> decide
        omega
      have hv0 := hvb.1
      have hor : bits .or .u32 (v * 256) x = v * 256 + x := u32_or8 (by omega) (by omega) (by omega) hx0 hx1
      have hget : wr.cell? ⟨w.heap.size, k / 4, none⟩ = some (.int .u32 v) := by
        rw [h1.u32 (k / 4) (by rw [pbn_len]; omega), pbn_get xs k (k / 4) (by omega), hv, show min 4 (k - 4 * (k / 4)) = k % 4 by omega]
      have hcv : IntKind.u32.wrap x = x := by rw [IntKind.wrap_u32]; omega
      have hsh : IntKind.u32.wrap (v * 256) = v * 256 := by rw [IntKind.wrap_u32]; omega
      have hsh2 : v * 256 % 4294967296 = v * 256 := by omega
      have hq : ((k : Int) / 4).toNat = k / 4 := by omega
      have hq0 : (0 : Int) ≤ (k : Int) / 4 := by omega
      have hq1 : (k : Int) / 4 < 16 := by omega
      have htd : (k : Int).tdiv 4 = (k : Int) / 4 := Int.tdiv_eq_ediv_of_nonneg (by omega)
      have hfz := h1.frozen (k / 4)
      have h1' := h1.set (k / 4) (.int .u32 (v * 256 + x))
      rw [hx, pbn_set xs k v hv, ← hx] at h1'
      have hb' := hb.setCell (p := ⟨w.heap.size, k / 4, none⟩) (Nat.le_refl _) (.int .u32 (v * 256 + x))
      have H1 : Hid _ := h1'
      have HB : Hid _ := hb'
      clear h1' hb' h1 hb hcell hx hvb hby hv
      have hkB : (k : Int) < 64 := by omega
      go_wp2_with (go_at_call 87; refine (wordBytesn _).mono ?_; rintro e w' ⟨rfl, rfl⟩)
      go_roundw
      case rel => exact ⟨k + 1, by omega, by go_num, H1.out, HB.out⟩
      case measure => simp [intOf]; omega
    · have hkn : k = 64 := by omega
      subst hkn
      rw [pbn_end] at h1
      clear hcell hby hbs
      go_wp2
      go_ret
      exact ⟨w.heap.size, rfl, h1, Nat.le_refl _, hb⟩
end Go.Proofs.YtgapfkiceolceaaDoor
namespace Go.Proofs.YtgapfkiceolceaaDoor
open Go.RowKit
set_option maxRecDepth 100000

/-- The sixteen words when the first i bytes are in. -/
def pbw (xs : List Int) (i : Nat) : List Int := (List.range 16).map (fun j => wvw xs j (min 8 (i - 8 * j)))
theorem pbw_len (xs : List Int) (i : Nat) : (pbw xs i).length = 16 := by simp [pbw]
theorem pbw_get (xs : List Int) (i j : Nat) (h : j < 16) : (pbw xs i).getD j 0 = wvw xs j (min 8 (i - 8 * j)) := by simp [pbw, h]
theorem pbw_zero (xs : List Int) : pbw xs 0 = List.replicate 16 0 := by
  have e : pbw xs 0 = (List.range 16).map (fun _ => (0 : Int)) := by simp only [pbw, Nat.zero_sub, Nat.min_zero, wvw]
  rw [e]; rfl
theorem wvBw (xs : List Int) (hb : ∀ x ∈ xs, 0 ≤ x ∧ x < 256) (j m : Nat) : 0 ≤ wvw xs j m ∧ wvw xs j m < 256 ^ m := by
  induction m with
  | zero => simp [wvw]
  | succ m ih =>
    have hx : 0 ≤ xs.getD (8 * j + m) 0 ∧ xs.getD (8 * j + m) 0 < 256 := by
      by_cases h : 8 * j + m < xs.length
      · exact get_byte hb h
      · have : xs.getD (8 * j + m) 0 = 0 := by simp [Nat.le_of_not_lt h]
        rw [this]; omega
    simp only [wvw, Int.pow_succ]
    omega
theorem pbw_set (xs : List Int) (i : Nat) (v : Int) (hv : v = wvw xs (i / 8) (i % 8)) :
    (U64 (pbw xs i)).set (i / 8) (.int .u64 (v * 256 + xs.getD i 0)) = U64 (pbw xs (i + 1)) := by
  subst hv
  apply List.ext_getElem
  · simp [pbw_len]
  · intro j h1 h2
    rw [List.getElem_set]
    have e1 : ∀ (k : Nat) (hk : j < (U64 (pbw xs k)).length), (U64 (pbw xs k))[j] = .int .u64 (wvw xs j (min 8 (k - 8 * j))) := by intro k hk; simp [pbw]
    rw [e1 (i + 1)]
    split
    · rename_i e
      subst e
      have e2 : min 8 (i + 1 - 8 * (i / 8)) = i % 8 + 1 := by omega
      have e3 : 8 * (i / 8) + i % 8 = i := by omega
      rw [e2]
      simp only [wvw, e3]
    · rename_i e
      rw [e1 i]
      have e2 : min 8 (i + 1 - 8 * j) = min 8 (i - 8 * j) := by omega
      rw [e2]
theorem schSnocw (xs : List Int) (k : Nat) : schedW xs (k + 1) = schedW xs k ++ [nextWw xs (schedW xs k)] := rfl
theorem schLoww (xs : List Int) (k j : Nat) (hj : j < k) (hk : k ≤ 16) : (schedW xs k).getD j 0 = wvw xs j 8 := by
  induction k with
  | zero => omega
  | succ k ih =>
    rw [schSnocw]
    by_cases e : j = k
    · subst e
      have hl := schedW_len xs j
      have h2 : (schedW xs j ++ [nextWw xs (schedW xs j)]).getD j 0 = nextWw xs (schedW xs j) := by
        simp [List.getD, hl]
      rw [h2]
      unfold nextWw
      rw [if_pos (by omega), hl]
    · have hl := schedW_len xs k
      have h2 : (schedW xs k ++ [nextWw xs (schedW xs k)]).getD j 0 = (schedW xs k).getD j 0 := by
        simp [List.getD, List.getElem?_append_left, hl, show j < k by omega]
      rw [h2]
      exact ih (by omega) (by omega)
theorem pbw_end (xs : List Int) : pbw xs 128 = schedW xs 16 := by
  apply List.ext_getElem
  · simp [pbw_len, schedW_len]
  · intro j h1 h2
    have hj : j < 16 := by simpa [pbw_len] using h1
    have e1 : ∀ h : j < (pbw xs 128).length, (pbw xs 128)[j] = wvw xs j (min 8 (128 - 8 * j)) := by intro h; simp [pbw]
    rw [e1 h1]
    have := schLoww xs 16 j hj (by omega)
    rw [show min 8 (128 - 8 * j) = 8 by omega, ← this]
    simp [schedW_len, hj]

def zbw : Array Value := (U64 (List.replicate 16 0)).toArray
theorem infoUw : (Tryd.prog.info? 43).map (fun i => (i.zero, i.size, i.bytes)) = some (some (.int .u64 0), 1, 8) := by kernel_rfl
theorem makeBw (w : World) : (Instr.makeSlice 87 (.int .i64 16) (.int .i64 16)).run Tryd.prog w = .ok (.slice (some ⟨w.heap.size, 0, none⟩) 16 16) (w.alloc (.cells zbw 43)) := by
  obtain ⟨i0, hi, hz0, hz1, hz2⟩ := info_parts infoUw
  have := run_make (P := Tryd.prog) w 87 43 i0 (.int .u64 0) Tryd.underlying87 hi hz0 .i64 .i64 16 16 (by omega) (by omega) (by rw [hz2]; omega) (by omega)
  rw [this, hz1, show madeCells (Value.int .u64 0).cells (Int.toNat 16 * 1) = zbw by kernel_rfl]
  rfl

set_option maxHeartbeats 1000000 in
theorem blockWordsw (a : Option Addr) (c : Nat) (xs : List Int) (w : World) (h : Bs w a 128 c xs) :
    Calls Tryd.prog 94 #[.slice a 128 c] w fun e w' => ∃ g, e = .returned (.slice (some ⟨g, 0, none⟩) 16 16) ∧ Arr w' g 43 (U64 (schedW xs 16)) ∧ w.heap.size ≤ g ∧ Below w.heap.size w w' := by
  obtain ⟨_, hl, hc, hby, h⟩ := h
  rcases h with h | ⟨b, o, rfl, hbs, hcell⟩
  · omega
  obtain ⟨W, hW⟩ : ∃ W, W = w.alloc (.cells zbw 43) := ⟨_, rfl⟩
  have hA1 : Arr W w.heap.size 43 (U64 (pbw xs 0)) := by rw [hW, pbw_zero]; exact Arr.new w _ _
  have hB : Below w.heap.size w W := by rw [hW]; exact (Below.refl _ _).alloc (Nat.le_refl _) _
  have hmk := makeBw
  go_enter Tryd.func94, Tryd.ntmps94
  go_wp2
  go_loopw [10] (fun i wr => ∃ k : Nat, k ≤ 128 ∧ i = .int .i64 k ∧ Arr wr w.heap.size 43 (U64 (pbw xs k)) ∧ Below w.heap.size w wr) (fun i _ => 128 - (intOf i).toNat)
  case atStart => exact ⟨0, by omega, rfl, hW ▸ hA1, hW ▸ hB⟩
  case round =>
    clear hA1 hB hW hmk
    obtain ⟨k, hk, rfl, h1, hb⟩ := hrel
    by_cases hlt : k < 128
    · obtain ⟨x, hx⟩ : ∃ x, x = xs.getD k 0 := ⟨_, rfl⟩
      have hck : wr.cell? ⟨b, o + k, none⟩ = some (.int .u8 x) := by rw [hx]; exact (hb.cell (p := ⟨b, o + k, none⟩) hbs).trans (hcell k hlt)
      obtain ⟨hx0, hx1⟩ : 0 ≤ x ∧ x < 256 := by rw [hx]; exact get_byte hby (by omega)
      obtain ⟨v, hv⟩ : ∃ v, v = wvw xs (k / 8) (k % 8) := ⟨_, rfl⟩
      have hvb := wvBw xs hby (k / 8) (k % 8)
      rw [← hv] at hvb
      have hv3 : v < 72057594037927936 := by
        have : (256 : Int) ^ (k % 8) ≤ 72057594037927936 := by
          rcases (show k % 8 = 0 ∨ k % 8 = 1 ∨ k % 8 = 2 ∨ k % 8 = 3 ∨ k % 8 = 4 ∨ k % 8 = 5 ∨ k % 8 = 6 ∨ k % 8 = 7 by omega) with e | e | e | e | e | e | e | e <;> rw [e] <;> decide
        omega
      have hv0 := hvb.1
      have hor : bits .or .u64 (v * 256) x = v * 256 + x := u64_or8 (by omega) (by omega) (by omega) hx0 hx1
      have hget : wr.cell? ⟨w.heap.size, k / 8, none⟩ = some (.int .u64 v) := by
        rw [h1.u64 (k / 8) (by rw [pbw_len]; omega), pbw_get xs k (k / 8) (by omega), hv, show min 8 (k - 8 * (k / 8)) = k % 8 by omega]
      have hcv : IntKind.u64.wrap x = x := by rw [wrap_u64]; omega
      have hsh : IntKind.u64.wrap (v * 256) = v * 256 := by rw [wrap_u64]; omega
      have hsh2 : v * 256 % 18446744073709551616 = v * 256 := by omega
      have hq : ((k : Int) / 8).toNat = k / 8 := by omega
      have hq0 : (0 : Int) ≤ (k : Int) / 8 := by omega
      have hq1 : (k : Int) / 8 < 16 := by omega
      have htd : (k : Int).tdiv 8 = (k : Int) / 8 := Int.tdiv_eq_ediv_of_nonneg (by omega)
      have hfz := h1.frozen (k / 8)
      have h1' := h1.set (k / 8) (.int .u64 (v * 256 + x))
      rw [hx, pbw_set xs k v hv, ← hx] at h1'
      have hb' := hb.setCell (p := ⟨w.heap.size, k / 8, none⟩) (Nat.le_refl _) (.int .u64 (v * 256 + x))
      have H1 : Hid _ := h1'
      have HB : Hid _ := hb'
      clear h1' hb' h1 hb hcell hx hvb hby hv
      have hkB : (k : Int) < 128 := by omega
      go_wp2_with (go_at_call 98; refine (wordBytesw _).mono ?_; rintro e w' ⟨rfl, rfl⟩)
      go_roundw
      case rel => exact ⟨k + 1, by omega, by go_num, H1.out, HB.out⟩
      case measure => simp [intOf]; omega
    · have hkn : k = 128 := by omega
      subst hkn
      rw [pbw_end] at h1
      clear hcell hby hbs
      go_wp2
      go_ret
      exact ⟨w.heap.size, rfl, h1, Nat.le_refl _, hb⟩
end Go.Proofs.YtgapfkiceolceaaDoor
