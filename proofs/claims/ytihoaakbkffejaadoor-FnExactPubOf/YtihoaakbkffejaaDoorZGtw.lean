/-
  What is proved here: contracts of the program's generic functions that turn a word of 64 bits (bits.Len64 at the greatest word, shaWordBytes, turnRight, shaTurn, shaShift), at every word and at the amounts that the tables of turns hold; the contract of the program's shaBlockWordsOf at words of 64 bits: the sixteen words of a block of 128 bytes, in a new row; contracts of the program's generic functions shaTurn, shaShift and shaNextWord at words of 64 bits: the turns and shifts of the standard, and the word that follows from sixteen; the table of turns comes as an argument; the contract of the program's wideRules: the table of turns, and a new copy of the table of round words; where the program's variables hold what its text lays into them.
-/
import Derived.Test.YtihoaakbkffejaaDoorZOhb
import Derived.Deep.QuietTactic
import Derived.BigQuiet
import Derived.Deep.Light
import Derived.Deep.RegionWith
import Derived.Test.YtihoaakbkffejaaDoorProg
import Derived.Test.YtihoaakbkffejaaDoorZFw
import Derived.Laws.MakeOwn
import Derived.Deep.RegionHeld3
import Derived.BigRegion
namespace Go.Proofs.YtihoaakbkffejaaDoor
open Go.RowKit

set_option maxRecDepth 100000 in
set_option maxHeartbeats 1000000 in
theorem len64Cw (w : World) :
    Calls Tryd.prog 76 #[.int .u64 18446744073709551615] w fun e w' => e = .returned (.int .i64 64) ∧ w' = w := by
  go_enter Tryd.func76, Tryd.ntmps76
  go_wp2
  go_ret
  exact ⟨by kernel_rfl, rfl⟩

set_option maxHeartbeats 400000 in
theorem wordBytesw (w : World) :
    Calls Tryd.prog 65 #[] w fun e w' => e = .returned (.int .i64 8) ∧ w' = w := by
  go_enter Tryd.func65, Tryd.ntmps65
  go_wp2_with fail
  refine (len64Cw _).mono ?_
  rintro e w' ⟨rfl, rfl⟩
  go_wp2
  go_ret
  exact ⟨rfl, rfl⟩

set_option maxHeartbeats 1000000 in
theorem turnRw (x : Int) (n : Nat) (hn : 0 < n) (hn2 : n < 64) (m : Int) (hm : m = (n : Int)) (w : World) :
    Calls Tryd.prog 97 #[.int .u64 x, .int .i64 m] w fun e w' => e = .returned (.int .u64 (rotw x n)) ∧ ∃ q, w' = w.drewN q := by
  subst hm
  have e1 : IntKind.i64.wrap (64 - (n : Int)) = ((64 - n : Nat) : Int) := by rw [IntKind.wrap_i64]; omega
  have hq : ¬ ((64 - n : Nat) : Int) < 0 := by omega
  go_enter Tryd.func97, Tryd.ntmps97
  go_wp2
  go_quiet ((go_at_call 65; refine Calls.quiet_of_same (wordBytesw _)))
  go_wp2
  go_ret
  exact ⟨rfl, _, rfl⟩
end Go.Proofs.YtihoaakbkffejaaDoor
namespace Go.Proofs.YtihoaakbkffejaaDoor
open Go.RowKit
set_option maxRecDepth 100000

/-- The sixteen words when the first i bytes are in. -/
def pbw (xs : List Int) (i : Nat) : List Int := (List.range 16).map (fun j => wvw xs j (min 8 (i - 8 * j)))
theorem pbw_len (xs : List Int) (i : Nat) : (pbw xs i).length = 16 := by simp [pbw]
theorem pbw_get (xs : List Int) (i j : Nat) (h : j < 16) : (pbw xs i).getD j 0 = wvw xs j (min 8 (i - 8 * j)) := by simp [pbw, h]
theorem pbw_zero (xs : List Int) : pbw xs 0 = List.replicate 16 0 := by
  have e : pbw xs 0 = (List.range 16).map (fun _ => (0 : Int)) := by simp only [pbw, Nat.zero_sub, Nat.min_zero, wvw]
  rw [e]; rfl
theorem wvBw (xs : List Int) (hb : ∀ x ∈ xs, 0 ≤ x ∧ x < 256) (j m : Nat) : 0 ≤ wvw xs j m ∧ wvw xs j m < 256 ^ m := by
  induction m with
  | zero => simp [wvw]
  | succ m ih =>
    have hx : 0 ≤ xs.getD (8 * j + m) 0 ∧ xs.getD (8 * j + m) 0 < 256 := by
      by_cases h : 8 * j + m < xs.length
      · exact get_byte hb h
      · have : xs.getD (8 * j + m) 0 = 0 := by simp [Nat.le_of_not_lt h]
        rw [this]; omega
    simp only [wvw, Int.pow_succ]
    omega
theorem pbw_set (xs : List Int) (i : Nat) (v : Int) (hv : v = wvw xs (i / 8) (i % 8)) :
    (U64 (pbw xs i)).set (i / 8) (.int .u64 (v * 256 + xs.getD i 0)) = U64 (pbw xs (i + 1)) := by
  subst hv
  apply List.ext_getElem
  · simp [pbw_len]
  · intro j h1 h2
    rw [List.getElem_set]
    have e1 : ∀ (k : Nat) (hk : j < (U64 (pbw xs k)).length), (U64 (pbw xs k))[j] = .int .u64 (wvw xs j (min 8 (k - 8 * j))) := by intro k hk; simp [pbw]
    rw [e1 (i + 1)]
    split
    · rename_i e
      subst e
      have e2 : min 8 (i + 1 - 8 * (i / 8)) = i % 8 + 1 := by omega
      have e3 : 8 * (i / 8) + i % 8 = i := by omega
      rw [e2]
      simp only [wvw, e3]
    · rename_i e
      rw [e1 i]
      have e2 : min 8 (i + 1 - 8 * j) = min 8 (i - 8 * j) := by omega
      rw [e2]
theorem schSnocw (xs : List Int) (k : Nat) : schedW xs (k + 1) = schedW xs k ++ [nextWw xs (schedW xs k)] := rfl
theorem schLoww (xs : List Int) (k j : Nat) (hj : j < k) (hk : k ≤ 16) : (schedW xs k).getD j 0 = wvw xs j 8 := by
  induction k with
  | zero => omega
  | succ k ih =>
    rw [schSnocw]
    by_cases e : j = k
    · subst e
      have hl := schedW_len xs j
      have h2 : (schedW xs j ++ [nextWw xs (schedW xs j)]).getD j 0 = nextWw xs (schedW xs j) := by
        simp [List.getD, hl]
      rw [h2]
      unfold nextWw
      rw [if_pos (by omega), hl]
    · have hl := schedW_len xs k
      have h2 : (schedW xs k ++ [nextWw xs (schedW xs k)]).getD j 0 = (schedW xs k).getD j 0 := by
        simp [List.getD, List.getElem?_append_left, hl, show j < k by omega]
      rw [h2]
      exact ih (by omega) (by omega)
theorem pbw_end (xs : List Int) : pbw xs 128 = schedW xs 16 := by
  apply List.ext_getElem
  · simp [pbw_len, schedW_len]
  · intro j h1 h2
    have hj : j < 16 := by simpa [pbw_len] using h1
    have e1 : ∀ h : j < (pbw xs 128).length, (pbw xs 128)[j] = wvw xs j (min 8 (128 - 8 * j)) := by intro h; simp [pbw]
    rw [e1 h1]
    have := schLoww xs 16 j hj (by omega)
    rw [show min 8 (128 - 8 * j) = 8 by omega, ← this]
    simp [schedW_len, hj]

def zbw : Array Value := (U64 (List.replicate 16 0)).toArray
theorem infoUw : (Tryd.prog.info? 51).map (fun i => (i.zero, i.size, i.bytes)) = some (some (.int .u64 0), 1, 8) := by kernel_rfl
theorem makeBw (w : World) : (Instr.makeSlice 77 (.int .i64 16) (.int .i64 16)).run Tryd.prog w = .ok (.slice (some ⟨w.heap.size, 0, none⟩) 16 16) (w.alloc (.cells zbw 51)) := by
  obtain ⟨i0, hi, hz0, hz1, hz2⟩ := info_parts infoUw
  have := run_make (P := Tryd.prog) w 77 51 i0 (.int .u64 0) Tryd.underlying77 hi hz0 .i64 .i64 16 16 (by omega) (by omega) (by rw [hz2]; omega) (by omega)
  rw [this, hz1, show madeCells (Value.int .u64 0).cells (Int.toNat 16 * 1) = zbw by kernel_rfl]
  rfl

set_option maxHeartbeats 1000000 in
theorem blockWordsw (a : Option Addr) (c : Nat) (xs : List Int) (w : World) (h : Bs w a 128 c xs) :
    Calls Tryd.prog 92 #[.slice a 128 c] w fun e w' => ∃ g, e = .returned (.slice (some ⟨g, 0, none⟩) 16 16) ∧ Arr w' g 51 (U64 (schedW xs 16)) ∧ w.heap.size ≤ g ∧ Below w.heap.size w w' := by
  obtain ⟨_, hl, hc, hby, h⟩ := h
  rcases h with h | ⟨b, o, rfl, hbs, hcell⟩
  · omega
  obtain ⟨W, hW⟩ : ∃ W, W = w.alloc (.cells zbw 51) := ⟨_, rfl⟩
  have hA1 : Arr W w.heap.size 51 (U64 (pbw xs 0)) := by rw [hW, pbw_zero]; exact Arr.new w _ _
  have hB : Below w.heap.size w W := by rw [hW]; exact (Below.refl _ _).alloc (Nat.le_refl _) _
  have hmk := makeBw
  go_enter Tryd.func92, Tryd.ntmps92
  go_wp2
  go_loopw [10] (fun i wr => ∃ k : Nat, k ≤ 128 ∧ i = .int .i64 k ∧ Arr wr w.heap.size 51 (U64 (pbw xs k)) ∧ Below w.heap.size w wr) (fun i _ => 128 - (intOf i).toNat)
  case atStart => exact ⟨0, by omega, rfl, hW ▸ hA1, hW ▸ hB⟩
  case round =>
    clear hA1 hB hW hmk
    obtain ⟨k, hk, rfl, h1, hb⟩ := hrel
    by_cases hlt : k < 128
    · obtain ⟨x, hx⟩ : ∃ x, x = xs.getD k 0 := ⟨_, rfl⟩
      have hck : wr.cell? ⟨b, o + k, none⟩ = some (.int .u8 x) := by rw [hx]; exact (hb.cell (p := ⟨b, o + k, none⟩) hbs).trans (hcell k hlt)
      obtain ⟨hx0, hx1⟩ : 0 ≤ x ∧ x < 256 := by rw [hx]; exact get_byte hby (by omega)
      obtain ⟨v, hv⟩ : ∃ v, v = wvw xs (k / 8) (k % 8) := ⟨_, rfl⟩
      have hvb := wvBw xs hby (k / 8) (k % 8)
      rw [← hv] at hvb
      have hv3 : v < 72057594037927936 := by
        have : (256 : Int) ^ (k % 8) ≤ 72057594037927936 := by
          rcases (show k % 8 = 0 ∨ k % 8 = 1 ∨ k % 8 = 2 ∨ k % 8 = 3 ∨ k % 8 = 4 ∨ k % 8 = 5 ∨ k % 8 = 6 ∨ k % 8 = 7 by omega) with e | e | e | e | e | e | e | e <;> rw [e] <;> decide
        omega
      have hv0 := hvb.1
      have hor : bits .or .u64 (v * 256) x = v * 256 + x := u64_or8 (by omega) (by omega) (by omega) hx0 hx1
      have hget : wr.cell? ⟨w.heap.size, k / 8, none⟩ = some (.int .u64 v) := by
        rw [h1.u64 (k / 8) (by rw [pbw_len]; omega), pbw_get xs k (k / 8) (by omega), hv, show min 8 (k - 8 * (k / 8)) = k % 8 by omega]
      have hcv : IntKind.u64.wrap x = x := by rw [wrap_u64]; omega
      have hsh : IntKind.u64.wrap (v * 256) = v * 256 := by rw [wrap_u64]; omega
      have hsh2 : v * 256 % 18446744073709551616 = v * 256 := by omega
      have hq : ((k : Int) / 8).toNat = k / 8 := by omega
      have hq0 : (0 : Int) ≤ (k : Int) / 8 := by omega
      have hq1 : (k : Int) / 8 < 16 := by omega
      have htd : (k : Int).tdiv 8 = (k : Int) / 8 := Int.tdiv_eq_ediv_of_nonneg (by omega)
      have hfz := h1.frozen (k / 8)
      have h1' := h1.set (k / 8) (.int .u64 (v * 256 + x))
      rw [hx, pbw_set xs k v hv, ← hx] at h1'
      have hb' := hb.setCell (p := ⟨w.heap.size, k / 8, none⟩) (Nat.le_refl _) (.int .u64 (v * 256 + x))
      have H1 : Hid _ := h1'
      have HB : Hid _ := hb'
      clear h1' hb' h1 hb hcell hx hvb hby hv
      have hkB : (k : Int) < 128 := by omega
      go_wp2_with (go_at_call 65; refine (wordBytesw _).mono ?_; rintro e w' ⟨rfl, rfl⟩)
      go_roundw
      case rel => exact ⟨k + 1, by omega, by go_num, H1.out, HB.out⟩
      case measure => simp [intOf]; omega
    · have hkn : k = 128 := by omega
      subst hkn
      rw [pbw_end] at h1
      clear hcell hby hbs
      go_wp2
      go_ret
      exact ⟨w.heap.size, rfl, h1, Nat.le_refl _, hb⟩
end Go.Proofs.YtihoaakbkffejaaDoor
namespace Go.Proofs.YtihoaakbkffejaaDoor
open Go.RowKit
set_option maxRecDepth 100000

set_option maxHeartbeats 1000000 in
theorem turnCw (x : Int) (a b c : Nat) (ha : 0 < a) (ha2 : a < 64) (hb : 0 < b) (hb2 : b < 64) (hc : 0 < c) (hc2 : c < 64) (w : World) :
    Calls Tryd.prog 94 #[.int .u64 x, .agg #[.int .i64 a, .int .i64 b, .int .i64 c]] w fun e w' => e = .returned (.int .u64 (xrw (xrw (rotw x a) (rotw x b)) (rotw x c))) ∧ Below w.heap.size w w' := by
  go_enter Tryd.func94, Tryd.ntmps94
  go_wp2
  go_quiet (first | (go_at_call_of 97 (Value.int IntKind.i64 (a : Int)); refine Calls.quiet_of (turnRw x a ha ha2 _ rfl _)) | (go_at_call_of 97 (Value.int IntKind.i64 (b : Int)); refine Calls.quiet_of (turnRw x b hb hb2 _ rfl _)) | (go_at_call_of 97 (Value.int IntKind.i64 (c : Int)); refine Calls.quiet_of (turnRw x c hc hc2 _ rfl _)))
  go_wp2
  go_ret
  exact ⟨rfl, bel_dN ((Below.refl _ _).alloc (Nat.le_refl _) _) _⟩

set_option maxHeartbeats 1000000 in
theorem shiftCw (x : Int) (a b c : Nat) (ha : 0 < a) (ha2 : a < 64) (hb : 0 < b) (hb2 : b < 64) (hc : 0 < c) (hc2 : c < 64) (w : World) :
    Calls Tryd.prog 96 #[.int .u64 x, .agg #[.int .i64 a, .int .i64 b, .int .i64 c]] w fun e w' => e = .returned (.int .u64 (xrw (xrw (rotw x a) (rotw x b)) (x / 2 ^ c))) ∧ Below w.heap.size w w' := by
  have hc3 : ¬ ((c : Int) < 0) := by omega
  go_enter Tryd.func96, Tryd.ntmps96
  go_wp2
  go_quiet (first | (go_at_call_of 97 (Value.int IntKind.i64 (a : Int)); refine Calls.quiet_of (turnRw x a ha ha2 _ rfl _)) | (go_at_call_of 97 (Value.int IntKind.i64 (b : Int)); refine Calls.quiet_of (turnRw x b hb hb2 _ rfl _)))
  go_wp2
  go_ret
  exact ⟨rfl, bel_dN ((Below.refl _ _).alloc (Nat.le_refl _) _) _⟩

theorem turnG0w (x : Int) (w : World) : Calls Tryd.prog 94 #[.int .u64 x, .agg #[.int .i64 28, .int .i64 34, .int .i64 39]] w fun e w' => e = .returned (.int .u64 (cS0 x)) ∧ Below w.heap.size w w' :=
  turnCw x 28 34 39 (by omega) (by omega) (by omega) (by omega) (by omega) (by omega) w
theorem turnG1w (x : Int) (w : World) : Calls Tryd.prog 94 #[.int .u64 x, .agg #[.int .i64 14, .int .i64 18, .int .i64 41]] w fun e w' => e = .returned (.int .u64 (cS1 x)) ∧ Below w.heap.size w w' :=
  turnCw x 14 18 41 (by omega) (by omega) (by omega) (by omega) (by omega) (by omega) w
theorem shiftS0w (x : Int) (w : World) : Calls Tryd.prog 96 #[.int .u64 x, .agg #[.int .i64 1, .int .i64 8, .int .i64 7]] w fun e w' => e = .returned (.int .u64 (tS0 x)) ∧ Below w.heap.size w w' :=
  shiftCw x 1 8 7 (by omega) (by omega) (by omega) (by omega) (by omega) (by omega) w
theorem shiftS1w (x : Int) (w : World) : Calls Tryd.prog 96 #[.int .u64 x, .agg #[.int .i64 19, .int .i64 61, .int .i64 6]] w fun e w' => e = .returned (.int .u64 (tS1 x)) ∧ Below w.heap.size w w' :=
  shiftCw x 19 61 6 (by omega) (by omega) (by omega) (by omega) (by omega) (by omega) w

/-- Four cells and the box of turns, through whatever keeps what is there. -/
structure Nxw (w W : World) (g o T : Nat) (y0 y1 y9 y14 : Int) : Prop where
  fr : Below w.heap.size w W
  ar : Arr W T 76 (I64 [28, 34, 39, 14, 18, 41, 1, 8, 7, 19, 61, 6])
  c0 : W.cell? ⟨g, o, none⟩ = some (.int .u64 y0)
  c1 : W.cell? ⟨g, o + 1, none⟩ = some (.int .u64 y1)
  c9 : W.cell? ⟨g, o + 9, none⟩ = some (.int .u64 y9)
  c14 : W.cell? ⟨g, o + 14, none⟩ = some (.int .u64 y14)
theorem Nxw.go {w W W' : World} {g o T : Nat} {y0 y1 y9 y14 : Int} (h : Nxw w W g o T y0 y1 y9 y14) (hb : Below W.heap.size W W') : Nxw w W' g o T y0 y1 y9 y14 := by
  have hg : g < W.heap.size := World.block_lt_of_cell? W _ h.c0
  exact ⟨h.fr.trans (hb.mono h.fr.size), h.ar.kept hb, (hb.cell (p := ⟨g, o, none⟩) hg).trans h.c0, (hb.cell (p := ⟨g, o + 1, none⟩) hg).trans h.c1, (hb.cell (p := ⟨g, o + 9, none⟩) hg).trans h.c9, (hb.cell (p := ⟨g, o + 14, none⟩) hg).trans h.c14⟩
/-- What the walk reads. -/
def Nvw (g o T : Nat) (y0 y1 y9 y14 : Int) (W : World) : Prop :=
  W.cell? ⟨g, o, none⟩ = some (.int .u64 y0) ∧ W.cell? ⟨g, o + 1, none⟩ = some (.int .u64 y1) ∧ W.cell? ⟨g, o + 9, none⟩ = some (.int .u64 y9) ∧ W.cell? ⟨g, o + 14, none⟩ = some (.int .u64 y14) ∧
  W.cell? ⟨T, 6, none⟩ = some (.int .i64 1) ∧ W.cell? ⟨T, 7, none⟩ = some (.int .i64 8) ∧ W.cell? ⟨T, 8, none⟩ = some (.int .i64 7) ∧
  W.cell? ⟨T, 9, none⟩ = some (.int .i64 19) ∧ W.cell? ⟨T, 10, none⟩ = some (.int .i64 61) ∧ W.cell? ⟨T, 11, none⟩ = some (.int .i64 6)
theorem Nxw.all {w W : World} {g o T : Nat} {y0 y1 y9 y14 : Int} (h : Nxw w W g o T y0 y1 y9 y14) : Nvw g o T y0 y1 y9 y14 W :=
  ⟨h.c0, h.c1, h.c9, h.c14, h.ar.i64 6 (by simp), h.ar.i64 7 (by simp), h.ar.i64 8 (by simp), h.ar.i64 9 (by simp), h.ar.i64 10 (by simp), h.ar.i64 11 (by simp)⟩

set_option maxHeartbeats 2000000 in
theorem nextCw (g o n c : Nat) (y0 y1 y9 y14 : Int) (w : World) (hn : 14 < n) (hc0 : w.cell? ⟨g, o, none⟩ = some (.int .u64 y0)) (hc1 : w.cell? ⟨g, o + 1, none⟩ = some (.int .u64 y1)) (hc9 : w.cell? ⟨g, o + 9, none⟩ = some (.int .u64 y9)) (hc14 : w.cell? ⟨g, o + 14, none⟩ = some (.int .u64 y14)) :
    Calls Tryd.prog 93 #[.slice (some ⟨g, o, none⟩) n c, .agg #[.int .i64 28, .int .i64 34, .int .i64 39, .int .i64 14, .int .i64 18, .int .i64 41, .int .i64 1, .int .i64 8, .int .i64 7, .int .i64 19, .int .i64 61, .int .i64 6]] w fun e w' => e = .returned (.int .u64 ((tS1 y14 + y9 + tS0 y1 + y0) % 18446744073709551616)) ∧ Below w.heap.size w w' := by
  have hg : g < w.heap.size := World.block_lt_of_cell? w _ hc0
  obtain ⟨W, hW⟩ : ∃ W, W = w.alloc (.cells #[.int .i64 28, .int .i64 34, .int .i64 39, .int .i64 14, .int .i64 18, .int .i64 41, .int .i64 1, .int .i64 8, .int .i64 7, .int .i64 19, .int .i64 61, .int .i64 6] 76) := ⟨_, rfl⟩
  have hB : Below w.heap.size w W := by rw [hW]; exact (Below.refl _ _).alloc (Nat.le_refl _) _
  have hA : Arr W w.heap.size 76 (I64 [28, 34, 39, 14, 18, 41, 1, 8, 7, 19, 61, 6]) := by rw [hW]; exact Arr.new w (I64 [28, 34, 39, 14, 18, 41, 1, 8, 7, 19, 61, 6]) _
  have NX : Nxw w W.drew g o w.heap.size y0 y1 y9 y14 := ⟨hB.drew, hA.drew, (hB.cell (p := ⟨g, o, none⟩) hg).trans hc0, (hB.cell (p := ⟨g, o + 1, none⟩) hg).trans hc1, (hB.cell (p := ⟨g, o + 9, none⟩) hg).trans hc9, (hB.cell (p := ⟨g, o + 14, none⟩) hg).trans hc14⟩
  have p14 : (14 : Int) < (n : Int) := by omega
  have p9 : (9 : Int) < (n : Int) := by omega
  have p1 : (1 : Int) < (n : Int) := by omega
  have p0 : 0 < n := by omega
  clear hB hA hc0 hc1 hc9 hc14 hg
  go_enter Tryd.func93, Tryd.ntmps93
  go_wp2
  rw [← hW]
  clear hW
  go_region_held3 (fun W => W.cell? ⟨g, o, none⟩ = some (.int .u64 y0) ∧ W.cell? ⟨g, o + 1, none⟩ = some (.int .u64 y1) ∧ W.cell? ⟨g, o + 9, none⟩ = some (.int .u64 y9) ∧ W.cell? ⟨g, o + 14, none⟩ = some (.int .u64 y14) ∧ W.cell? ⟨w.heap.size, 6, none⟩ = some (.int .i64 1) ∧ W.cell? ⟨w.heap.size, 7, none⟩ = some (.int .i64 8) ∧ W.cell? ⟨w.heap.size, 8, none⟩ = some (.int .i64 7) ∧ W.cell? ⟨w.heap.size, 9, none⟩ = some (.int .i64 19) ∧ W.cell? ⟨w.heap.size, 10, none⟩ = some (.int .i64 61) ∧ W.cell? ⟨w.heap.size, 11, none⟩ = some (.int .i64 6))
    (exact NX.all)
    ((first
      | (go_at_call_of 96 (Value.int IntKind.u64 y14); refine (shiftS1w y14 _).mono ?_; rintro e w' ⟨rfl, hbd⟩; replace NX := NX.go hbd)
      | (go_at_call_of 96 (Value.int IntKind.u64 y1); refine (shiftS0w y1 _).mono ?_; rintro e w' ⟨rfl, hbd⟩; replace NX := NX.go hbd)))
  all_goals
    have hb := NX.fr
    have hz : IntKind.u64.wrap (IntKind.u64.wrap (IntKind.u64.wrap (tS1 y14 + y9) + tS0 y1) + y0) = (tS1 y14 + y9 + tS0 y1 + y0) % 18446744073709551616 := by
      simp only [wrap_u64]; omega
    generalize IntKind.u64.wrap (IntKind.u64.wrap (IntKind.u64.wrap (tS1 y14 + y9) + tS0 y1) + y0) = z at hz ⊢
    have HZ : Hid _ := hz
    clear hz NX
    go_wp2
    go_ret
    exact ⟨by rw [← HZ.out]; rfl, hb⟩
end Go.Proofs.YtihoaakbkffejaaDoor
namespace Go.Proofs.YtihoaakbkffejaaDoor
open Go.RowKit
set_option maxRecDepth 100000

/-- The program's two tables for words of 64 bits hold what its text lays into them. -/
structure Tabw (w : World) : Prop where
  tt : Vr w 4 (I64 [28, 34, 39, 14, 18, 41, 1, 8, 7, 19, 61, 6])
  tk : Vr w 3 (U64 KW)
theorem Tabw.kept {w w' : World} (h : Tabw w) (hb : Below w.heap.size w w') : Tabw w' := ⟨h.tt.kept hb, h.tk.kept hb⟩

/-- The rules that the program hands on: the turns, and the round words in block rb. -/
abbrev rulesVw (rb : Nat) : Value := .agg #[.int .i64 28, .int .i64 34, .int .i64 39, .int .i64 14, .int .i64 18, .int .i64 41, .int .i64 1, .int .i64 8, .int .i64 7, .int .i64 19, .int .i64 61, .int .i64 6, .slice (some ⟨rb, 0, none⟩) 80 80]

def zkw : Array Value := (U64 (List.replicate 80 0)).toArray
theorem zeroKw (w : World) : (zeroValue 69).run Tryd.prog w = .ok (.agg zkw) w := zeroRun (by kernel_rfl) w

set_option maxHeartbeats 2000000 in
theorem rulesCw (w : World) (ht : Tabw w) :
    Calls Tryd.prog 42 #[] w fun e w' => ∃ rb, e = .returned (rulesVw rb) ∧ Arr w' rb 69 (U64 KW) ∧ w.heap.size ≤ rb ∧ Below w.heap.size w w' := by
  obtain ⟨t0, z0, hk⟩ := ht.tk
  obtain ⟨W, hW⟩ : ∃ W, W = (w.alloc (.cells #[.int .i64 0, .int .i64 0, .int .i64 0, .int .i64 0, .int .i64 0, .int .i64 0, .int .i64 0, .int .i64 0, .int .i64 0, .int .i64 0, .int .i64 0, .int .i64 0, .slice none 0 0] 79)).alloc (.cells zkw 69) := ⟨_, rfl⟩
  have hA : Arr W (w.heap.size + 1) 69 (U64 (List.replicate 80 0)) := by
    rw [hW]; have := Arr.new (w.alloc (.cells #[.int .i64 0, .int .i64 0, .int .i64 0, .int .i64 0, .int .i64 0, .int .i64 0, .int .i64 0, .int .i64 0, .int .i64 0, .int .i64 0, .int .i64 0, .int .i64 0, .slice none 0 0] 79)) (U64 (List.replicate 80 0)) 69
    rw [World.size_alloc] at this
    exact this
  have hS : Arr W w.heap.size 79 [.int .i64 0, .int .i64 0, .int .i64 0, .int .i64 0, .int .i64 0, .int .i64 0, .int .i64 0, .int .i64 0, .int .i64 0, .int .i64 0, .int .i64 0, .int .i64 0, .slice none 0 0] := by
    rw [hW]; exact (Arr.new w [.int .i64 0, .int .i64 0, .int .i64 0, .int .i64 0, .int .i64 0, .int .i64 0, .int .i64 0, .int .i64 0, .int .i64 0, .int .i64 0, .int .i64 0, .int .i64 0, .slice none 0 0] _).alloc _
  have hB : Below w.heap.size w W := by rw [hW]; exact ((Below.refl _ _).alloc (Nat.le_refl _) _).alloc (by simp) _
  obtain ⟨W2, hW2⟩ : ∃ W2, W2 = W.setRow (w.heap.size + 1) (U64 KW).toArray := ⟨_, rfl⟩
  have hB2 : Below w.heap.size w W2 := by rw [hW2]; exact setRow_below hB _ _ (by omega)
  have hA2 : Arr W2 (w.heap.size + 1) 69 (U64 KW) := by rw [hW2]; exact hA.row _
  have hS2 : Arr W2 w.heap.size 79 [.int .i64 0, .int .i64 0, .int .i64 0, .int .i64 0, .int .i64 0, .int .i64 0, .int .i64 0, .int .i64 0, .int .i64 0, .int .i64 0, .int .i64 0, .int .i64 0, .slice none 0 0] := by rw [hW2]; exact hS.rowOther _ _ (by omega)
  have hT2 := ht.tt.kept hB2
  have hzk := zeroKw
  have hk1 : (w.alloc (.cells #[.int .i64 0, .int .i64 0, .int .i64 0, .int .i64 0, .int .i64 0, .int .i64 0, .int .i64 0, .int .i64 0, .int .i64 0, .int .i64 0, .int .i64 0, .int .i64 0, .slice none 0 0] 79)).heap[(3 : Nat)]? = some (.cells (U64 KW).toArray t0 z0) := (heap_alloc_old w _ ht.tk.lt).trans hk
  go_enter Tryd.func42, Tryd.ntmps42
  go_wp2_with (first
    | (refine wpList_load_row rfl 69 _ rfl 3 rfl t0 (U64 KW).toArray z0 _ hk1 Tryd.underlying69 rfl (by kernel_rfl) ?_)
    | (refine wpList_store_row rfl 69 _ _ rfl (w.heap.size + 1) (U64 KW).toArray rfl rfl 69 _ (by first | exact hA | exact hW ▸ hA) (by kernel_rfl) (by kernel_rfl) (by kernel_rfl) ?_))
  rw [← hW, ← hW2]
  clear hW hW2 hk1 hk hA hS hB
  have u0 := hT2.int 0 (by simp)
  have u1 := hT2.int 1 (by simp)
  have u2 := hT2.int 2 (by simp)
  have u3 := hT2.int 3 (by simp)
  have u4 := hT2.int 4 (by simp)
  have u5 := hT2.int 5 (by simp)
  have u6 := hT2.int 6 (by simp)
  have u7 := hT2.int 7 (by simp)
  have u8 := hT2.int 8 (by simp)
  have u9 := hT2.int 9 (by simp)
  have u10 := hT2.int 10 (by simp)
  have u11 := hT2.int 11 (by simp)
  have c0 := hS2.cell 0
  have c1 := hS2.cell 1
  have c2 := hS2.cell 2
  have c3 := hS2.cell 3
  have c4 := hS2.cell 4
  have c5 := hS2.cell 5
  have c6 := hS2.cell 6
  have c7 := hS2.cell 7
  have c8 := hS2.cell 8
  have c9 := hS2.cell 9
  have c10 := hS2.cell 10
  have c11 := hS2.cell 11
  have c12 := hS2.cell 12
  simp at u0 u1 u2 u3 u4 u5 u6 u7 u8 u9 u10 u11 c0 c1 c2 c3 c4 c5 c6 c7 c8 c9 c10 c11 c12
  have hf := hS2.frozen
  clear hzk
  have hS3 := Arr.setAll [.int .i64 28, .int .i64 34, .int .i64 39, .int .i64 14, .int .i64 18, .int .i64 41, .int .i64 1, .int .i64 8, .int .i64 7, .int .i64 19, .int .i64 61, .int .i64 6, .slice (some ⟨w.heap.size + 1, 0, none⟩) 80 80] 0 hS2
  have hA3 := Arr.setAllOther (g := w.heap.size) (by omega) [.int .i64 28, .int .i64 34, .int .i64 39, .int .i64 14, .int .i64 18, .int .i64 41, .int .i64 1, .int .i64 8, .int .i64 7, .int .i64 19, .int .i64 61, .int .i64 6, .slice (some ⟨w.heap.size + 1, 0, none⟩) 80 80] 0 hA2
  have hB3 := setAll_below (B := w.heap.size) (g := w.heap.size) (Nat.le_refl _) [.int .i64 28, .int .i64 34, .int .i64 39, .int .i64 14, .int .i64 18, .int .i64 41, .int .i64 1, .int .i64 8, .int .i64 7, .int .i64 19, .int .i64 61, .int .i64 6, .slice (some ⟨w.heap.size + 1, 0, none⟩) 80 80] 0 hB2
  rw [show setL [.int .i64 0, .int .i64 0, .int .i64 0, .int .i64 0, .int .i64 0, .int .i64 0, .int .i64 0, .int .i64 0, .int .i64 0, .int .i64 0, .int .i64 0, .int .i64 0, .slice none 0 0] 0 [.int .i64 28, .int .i64 34, .int .i64 39, .int .i64 14, .int .i64 18, .int .i64 41, .int .i64 1, .int .i64 8, .int .i64 7, .int .i64 19, .int .i64 61, .int .i64 6, .slice (some ⟨w.heap.size + 1, 0, none⟩) 80 80] = [.int .i64 28, .int .i64 34, .int .i64 39, .int .i64 14, .int .i64 18, .int .i64 41, .int .i64 1, .int .i64 8, .int .i64 7, .int .i64 19, .int .i64 61, .int .i64 6, .slice (some ⟨w.heap.size + 1, 0, none⟩) 80 80] from rfl] at hS3
  obtain ⟨W3, hW3⟩ : ∃ W3, W3 = setAll W2 w.heap.size 0 [.int .i64 28, .int .i64 34, .int .i64 39, .int .i64 14, .int .i64 18, .int .i64 41, .int .i64 1, .int .i64 8, .int .i64 7, .int .i64 19, .int .i64 61, .int .i64 6, .slice (some ⟨w.heap.size + 1, 0, none⟩) 80 80] := ⟨_, rfl⟩
  rw [← hW3] at hS3 hA3 hB3
  simp only [setAll, Nat.zero_add, Nat.reduceAdd] at hW3
  have HS3 : Hid _ := hS3.drew
  have HA3 : Hid _ := hA3.drew
  have HB3 : Hid _ := hB3.drew
  have HW3 : Hid _ := hW3
  clear hW3 hS3 hA3 hB3 hS2 hA2 hB2 hT2 ht
  go_region
  go_wp2
  rw [← HW3.out]
  clear HW3
  have hq := fun tmps h => results_cell_row (P := Tryd.prog) (fn := Tryd.f42) (p := 0) (ty := 79) rfl tmps _ w.heap.size 79 _ (0, 0) _ h HS3.out Tryd.underlying79 rfl (by kernel_rfl)
  exact bodyPost_ret (hq _ rfl) rfl ⟨w.heap.size + 1, rfl, HA3.out, by omega, HB3.out⟩
end Go.Proofs.YtihoaakbkffejaaDoor
