/-
  What is proved here: contracts of the program's shaWordsOf and of the specification's l2isWords: both look whether there are eight numbers in 0 .. 2^32 - 1; for every slice of ints; plain mathematics on lists of numbers: what SHA-256 makes of eight words and a block of 64 bytes; no program is spoken of, no condition; contracts of the program's generic functions that turn a word of 32 bits (bits.Len64 at the greatest word, shaWordBytes, turnRight, shaTurn, shaShift), at every word and at the amounts that the tables of turns hold; plain facts on worlds of which one block may have turned, and on reading a part of an array value; no program is spoken of, no condition; plain facts on a variable's block; no condition; the contract of the program's shaBlockWordsOf at words of 32 bits: the sixteen words of a block of 64 bytes, in a new row.
-/
import Derived.Test.YtofflhhlacdgfaaDoorJP1
import Derived.Deep.Light
import Derived.Laws.BitsLemmas
import Derived.Deep.QuietTactic
import Derived.BigQuiet
import Derived.Deep.RegionWith
import Derived.Test.YtofflhhlacdgfaaDoorProg
import Derived.Deep.RegionHeld3
import Derived.BigRegion
import Derived.Laws.MakeOwn
namespace Go.Proofs.YtofflhhlacdgfaaDoor
open Go.RowKit

/-- Eight numbers in 0 .. 2^32 - 1? -/
def isW (xs : List Int) : Bool := decide (xs.length = 8) && xs.all (fun x => decide (0 ≤ x) && decide (x < 4294967296))

theorem isW_iff (xs : List Int) : isW xs = true ↔ xs.length = 8 ∧ ∀ x ∈ xs, 0 ≤ x ∧ x < 4294967296 := by
  simp [isW]

theorem getD_mem {xs : List Int} {k : Nat} (hk : k < xs.length) : xs.getD k 0 ∈ xs := by
  have e : xs.getD k 0 = xs[k] := by simp [hk]
  rw [e]; exact List.getElem_mem hk

theorem isW_no {xs : List Int} {k : Nat} (hk : k < xs.length) (h : xs.getD k 0 < 0 ∨ 4294967296 ≤ xs.getD k 0) : isW xs = false := by
  cases hq : isW xs with
  | false => rfl
  | true =>
    have := ((isW_iff xs).1 hq).2 (xs.getD k 0) (getD_mem hk)
    omega

theorem all_upto {xs : List Int} (h : ∀ j, j < xs.length → 0 ≤ xs.getD j 0 ∧ xs.getD j 0 < 4294967296) : ∀ x ∈ xs, 0 ≤ x ∧ x < 4294967296 := by
  intro x hx
  obtain ⟨j, hj, rfl⟩ := List.getElem_of_mem hx
  have := h j hj
  have e : xs.getD j 0 = xs[j] := by simp [hj]
  rwa [e] at this

theorem Tryd.infoSw : (Tryd.prog.info? 134).map (·.size) = some 8 := by kernel_rfl

set_option maxRecDepth 100000 in
set_option maxHeartbeats 1000000 in
theorem wordsOf (a : Option Addr) (n cap : Nat) (xs : List Int) (w : World) (h : Is w a n cap xs) :
    Calls Tryd.prog 130 #[.slice a n cap] w fun e w' => ∃ l : List Int, e = .returned (.tuple #[.agg (U32 l).toArray, .bool (isW xs)]) ∧ l.length = 8 ∧ (isW xs = true → l = xs) ∧ Below w.heap.size w w' := by
  obtain ⟨_, hl, hc, _, h⟩ := h
  by_cases h8 : n = 8
  rotate_left
  · have hne : ((n : Int) != 8) = true := by simp; omega
    have hno : isW xs = false := by simp [isW]; intro e; omega
    go_enter Tryd.func130, Tryd.ntmps130
    go_wp2
    refine bodyPost_ret (v := .tuple #[.agg (U32 [0, 0, 0, 0, 0, 0, 0, 0]).toArray, .bool false]) (by rw [results_cell_tmp rfl]; go_simp) rfl ⟨[0, 0, 0, 0, 0, 0, 0, 0], by rw [hno], rfl, (fun h => by rw [hno] at h; cases h), ?_⟩
    exact ((Below.refl _ _).alloc (Nat.le_refl _) _).alloc (by simp) _
  subst h8
  have hne : ((8 : Int) != 8) = false := by simp
  rcases h with h | ⟨b, o, rfl, hbs, hcell⟩
  · omega
  go_enter Tryd.func130, Tryd.ntmps130
  go_wp2
  obtain ⟨W, hW⟩ : ∃ W, W = (w.alloc (.cells (U32 [0, 0, 0, 0, 0, 0, 0, 0]).toArray 134)).alloc (.cells (U32 [0, 0, 0, 0, 0, 0, 0, 0]).toArray 134) := ⟨_, rfl⟩
  have hA0 : Arr W w.heap.size 134 (U32 [0, 0, 0, 0, 0, 0, 0, 0]) := by rw [hW]; exact (Arr.new w _ _).alloc _
  have hA1 : Arr W (w.heap.size + 1) 134 (U32 (xs.take 0 ++ List.replicate (8 - 0) 0)) := by
    rw [hW]
    have := Arr.new (w.alloc (.cells (U32 [0, 0, 0, 0, 0, 0, 0, 0]).toArray 134)) (U32 [0, 0, 0, 0, 0, 0, 0, 0]) 134
    simpa using this
  have hB : Below w.heap.size w W := by rw [hW]; exact ((Below.refl _ _).alloc (Nat.le_refl _) _).alloc (by simp) _
  go_loopw [13] (fun i wr => ∃ k : Nat, k ≤ 8 ∧ i = .int .i64 k ∧ Arr wr w.heap.size 134 (U32 [0, 0, 0, 0, 0, 0, 0, 0]) ∧ Arr wr (w.heap.size + 1) 134 (U32 (xs.take k ++ List.replicate (8 - k) 0)) ∧ Below w.heap.size w wr ∧ ∀ j, j < k → 0 ≤ xs.getD j 0 ∧ xs.getD j 0 < 4294967296) (fun i _ => 8 - (intOf i).toNat)
  case atStart => exact ⟨0, by omega, rfl, hW ▸ hA0, hW ▸ hA1, hW ▸ hB, fun j hj => by omega⟩
  case round =>
    obtain ⟨k, hk, rfl, h0, h1, hb, hin⟩ := hrel
    clear hA0 hA1 hB hW
    have hlen : (xs.take k ++ List.replicate (8 - k) 0).length = 8 := by simp; omega
    by_cases hlt : k < 8
    · obtain ⟨x, hx⟩ : ∃ x, x = xs.getD k 0 := ⟨_, rfl⟩
      have hck : wr.cell? ⟨b, o + k, none⟩ = some (.int .i64 x) := by rw [hx]; exact (hb.cell (p := ⟨b, o + k, none⟩) hbs).trans (hcell k hlt)
      have HX : Hid _ := hx
      by_cases hin1 : 0 ≤ x ∧ x < 4294967296
      · obtain ⟨hx0, hx1⟩ := hin1
        have hn0 : ¬ (x < 0) := by omega
        have hn1 : ¬ (4294967295 < x) := by omega
        have hcv : IntKind.u32.wrap x = x := by simp [IntKind.wrap, IntKind.signed, IntKind.bits]; omega
        have hfz := h1.frozen k
        obtain ⟨u, hu⟩ : ∃ u, wr.cell? ⟨w.heap.size + 1, k, none⟩ = some u := by
          rw [h1.cell k]
          exact ⟨_, List.getElem?_eq_getElem (by simp only [List.length_map]; omega)⟩
        have h1' := h1.set k (.int .u32 x)
        rw [set_fill xs 8 k x (by omega) hl hx] at h1'
        have h0' := h0.other ⟨w.heap.size + 1, k, none⟩ (.int .u32 x) (by simp)
        have hb' := hb.setCell (p := ⟨w.heap.size + 1, k, none⟩) (by simp) (.int .u32 x)
        have hin' : ∀ j, j < k + 1 → 0 ≤ xs.getD j 0 ∧ xs.getD j 0 < 4294967296 := by
          intro j hj
          by_cases e : j = k
          · subst e; rw [← hx]; exact ⟨hx0, hx1⟩
          · exact hin j (by omega)
        have H1 : Hid _ := h1'
        have H0 : Hid _ := h0'
        have HB : Hid _ := hb'
        have HI : Hid _ := hin'
        clear h1' h0' hb' hin' h0 h1 hb hin hcell hx
        go_wp2
        go_roundw
        case rel => exact ⟨k + 1, by omega, by go_num, H0.out, H1.out, HB.out, HI.out⟩
        case measure => simp [intOf]; omega
      · have hno := isW_no (xs := xs) (k := k) (by omega) (by rw [← hx]; omega)
        have HN : Hid _ := hno
        obtain ⟨y, hy⟩ : ∃ y, y = xs.take k ++ List.replicate (8 - k) 0 := ⟨_, rfl⟩
        rw [← hy] at h1 hlen
        have h0' := h0.row (U32 y)
        have hb' := setRow_below hb w.heap.size (U32 y).toArray (Nat.le_refl _)
        have hsz := Tryd.infoSw
        clear hy hno hx hin
        by_cases hx0 : x < 0
        · go_wp2_with (first
            | (refine wpList_load_row rfl 134 _ rfl (w.heap.size + 1) rfl 134 (U32 y).toArray (0, 0) _ h1 Tryd.underlying134 rfl (by simpa [hlen] using hsz) ?_)
            | (refine wpList_store_row rfl 134 _ _ rfl w.heap.size (U32 y).toArray rfl rfl 134 _ h0 (by simpa [hlen] using hsz) (by simp [hlen]) (by simp [Value.oneCell']) ?_))
          exact bodyPost_ret (results_row_tmp (v := .bool false) rfl rfl rfl h0' Tryd.underlying134 rfl (by simpa [hlen] using hsz)) rfl ⟨y, by rw [HN.out], hlen, (fun h => by rw [HN.out] at h; cases h), hb'⟩
        · have hx1 : 4294967295 < x := by omega
          go_wp2_with (first
            | (refine wpList_load_row rfl 134 _ rfl (w.heap.size + 1) rfl 134 (U32 y).toArray (0, 0) _ h1 Tryd.underlying134 rfl (by simpa [hlen] using hsz) ?_)
            | (refine wpList_store_row rfl 134 _ _ rfl w.heap.size (U32 y).toArray rfl rfl 134 _ h0 (by simpa [hlen] using hsz) (by simp [hlen]) (by simp [Value.oneCell']) ?_))
          exact bodyPost_ret (results_row_tmp (v := .bool false) rfl rfl rfl h0' Tryd.underlying134 rfl (by simpa [hlen] using hsz)) rfl ⟨y, by rw [HN.out], hlen, (fun h => by rw [HN.out] at h; cases h), hb'⟩
    · have hkn : k = 8 := by omega
      subst hkn
      have hyes : isW xs = true := (isW_iff xs).2 ⟨hl, all_upto (fun j hj => hin j (by omega))⟩
      have e : xs.take 8 ++ List.replicate (8 - 8) 0 = xs := by simp [List.take_of_length_le (show xs.length ≤ 8 by omega)]
      rw [e] at h1
      have h0' := h0.row (U32 xs)
      have hb' := setRow_below hb w.heap.size (U32 xs).toArray (Nat.le_refl _)
      have hsz := Tryd.infoSw
      have HY : Hid _ := hyes
      clear e hlen hin hyes
      go_wp2_with (first
        | (refine wpList_load_row rfl 134 _ rfl (w.heap.size + 1) rfl 134 (U32 xs).toArray (0, 0) _ h1 Tryd.underlying134 rfl (by simpa [hl] using hsz) ?_)
        | (refine wpList_store_row rfl 134 _ _ rfl w.heap.size (U32 xs).toArray rfl rfl 134 _ h0 (by simpa [hl] using hsz) (by simp [hl]) (by simp [Value.oneCell']) ?_))
      exact bodyPost_ret (results_row_tmp (v := .bool true) rfl rfl rfl h0' Tryd.underlying134 rfl (by simpa [hl] using hsz)) rfl ⟨xs, by rw [HY.out], hl, (fun _ => rfl), hb'⟩

end Go.Proofs.YtofflhhlacdgfaaDoor
namespace Go.Proofs.YtofflhhlacdgfaaDoor
open Go.RowKit

/-- A word turned right by n. -/
def rot (x : Int) (n : Nat) : Int := bits .or .u32 (x / 2 ^ n) (x * 2 ^ (32 - n) % 4294967296)
def xr (x y : Int) : Int := bits .xor .u32 x y
def nd (x y : Int) : Int := bits .and .u32 x y
def sS0 (x : Int) : Int := xr (xr (rot x 7) (rot x 18)) (x / 2 ^ 3)
def sS1 (x : Int) : Int := xr (xr (rot x 17) (rot x 19)) (x / 2 ^ 10)
def bS0 (x : Int) : Int := xr (xr (rot x 2) (rot x 13)) (rot x 22)
def bS1 (x : Int) : Int := xr (xr (rot x 6) (rot x 11)) (rot x 25)
def cho (e f g : Int) : Int := xr (nd e f) (nd (xr IntKind.u32.max e) g)
def maj (a b c : Int) : Int := xr (xr (nd a b) (nd a c)) (nd b c)

/-- The first m bytes of word j of a block. -/
def wv (xs : List Int) (j : Nat) : Nat → Int
  | 0 => 0
  | m + 1 => wv xs j m * 256 + xs.getD (4 * j + m) 0
/-- The word behind these. -/
def nextW (xs l : List Int) : Int :=
  if l.length < 16 then wv xs l.length 4
  else (l.getD (l.length - 16) 0 + sS0 (l.getD (l.length - 15) 0) + l.getD (l.length - 7) 0 + sS1 (l.getD (l.length - 2) 0)) % 4294967296
def schedL (xs : List Int) : Nat → List Int
  | 0 => []
  | k + 1 => schedL xs k ++ [nextW xs (schedL xs k)]
theorem schedL_len (xs : List Int) (k : Nat) : (schedL xs k).length = k := by
  induction k with
  | zero => rfl
  | succ k ih => simp [schedL, ih]

def KS : List Int := [1116352408, 1899447441, 3049323471, 3921009573, 961987163, 1508970993, 2453635748, 2870763221, 3624381080, 310598401, 607225278, 1426881987, 1925078388, 2162078206, 2614888103, 3248222580, 3835390401, 4022224774, 264347078, 604807628, 770255983, 1249150122, 1555081692, 1996064986, 2554220882, 2821834349, 2952996808, 3210313671, 3336571891, 3584528711, 113926993, 338241895, 666307205, 773529912, 1294757372, 1396182291, 1695183700, 1986661051, 2177026350, 2456956037, 2730485921, 2820302411, 3259730800, 3345764771, 3516065817, 3600352804, 4094571909, 275423344, 430227734, 506948616, 659060556, 883997877, 958139571, 1322822218, 1537002063, 1747873779, 1955562222, 2024104815, 2227730452, 2361852424, 2428436474, 2756734187, 3204031479, 3329325298]
theorem KS_len : KS.length = 64 := rfl
def H0 : List Int := [1779033703, 3144134277, 1013904242, 2773480762, 1359893119, 2600822924, 528734635, 1541459225]

/-- One round, on the words and the round's word. -/
def stp8 (a b c d e f g h kw : Int) : List Int :=
  [(h + bS1 e + cho e f g + kw + (bS0 a + maj a b c)) % 4294967296, a, b, c, (d + (h + bS1 e + cho e f g + kw)) % 4294967296, e, f, g]
def stp (st : List Int) (kw : Int) : List Int :=
  match st with
  | [a, b, c, d, e, f, g, h] => stp8 a b c d e f g h kw
  | _ => st
def rnds (ws ks st : List Int) : Nat → List Int
  | 0 => st
  | k + 1 => stp (rnds ws ks st k) (ws.getD k 0 + ks.getD k 0)
theorem stp_len {st : List Int} (h : st.length = 8) (kw : Int) : (stp st kw).length = 8 := by
  obtain ⟨a, b, c, d, e, f, g, i, rfl⟩ := list8 h
  rfl
theorem rnds_len (ws ks : List Int) {st : List Int} (h : st.length = 8) (k : Nat) : (rnds ws ks st k).length = 8 := by
  induction k with
  | zero => exact h
  | succ k ih => exact stp_len ih _
/-- What a block makes of eight words. -/
def blk (h bs : List Int) : List Int := List.zipWith (fun x y => (x + y) % 4294967296) h (rnds (schedL bs 64) KS h 64)
theorem blk_len {h : List Int} (hh : h.length = 8) (bs : List Int) : (blk h bs).length = 8 := by
  simp [blk, rnds_len _ _ hh, hh]
theorem blk_word (h bs : List Int) : ∀ x ∈ blk h bs, 0 ≤ x ∧ x < 4294967296 := by
  intro x hx
  simp only [blk, List.mem_iff_getElem?] at hx
  obtain ⟨i, hi⟩ := hx
  rw [List.getElem?_zipWith] at hi
  split at hi
  · simp only [Option.some.injEq] at hi
    omega
  · cases hi

theorem bits_or_comm (x y : Int) : bits .or .u32 x y = bits .or .u32 y x := by
  simp [bits, Nat.or_comm]

theorem u32_or8 {x y : Int} (h0 : 0 ≤ x) (h1 : x < 4294967296) (h2 : x % 256 = 0) (h3 : 0 ≤ y) (h4 : y < 256) : bits .or .u32 x y = x + y :=
  bits_join .u32 32 (by decide) (fun n a b => by rw [IntKind.wrap_u32]; omega) 8 x y h0 (by simpa using h2) (by simpa using h1) h3 (by simpa using h4) (by omega)
theorem u32_or16 {x y : Int} (h0 : 0 ≤ x) (h1 : x < 4294967296) (h2 : x % 65536 = 0) (h3 : 0 ≤ y) (h4 : y < 65536) : bits .or .u32 x y = x + y :=
  bits_join .u32 32 (by decide) (fun n a b => by rw [IntKind.wrap_u32]; omega) 16 x y h0 (by simpa using h2) (by simpa using h1) h3 (by simpa using h4) (by omega)
theorem u32_or24 {x y : Int} (h0 : 0 ≤ x) (h1 : x < 4294967296) (h2 : x % 16777216 = 0) (h3 : 0 ≤ y) (h4 : y < 16777216) : bits .or .u32 x y = x + y :=
  bits_join .u32 32 (by decide) (fun n a b => by rw [IntKind.wrap_u32]; omega) 24 x y h0 (by simpa using h2) (by simpa using h1) h3 (by simpa using h4) (by omega)

theorem neg_mask (n : Nat) (h0 : 0 < n) (h1 : n < 32) : bits .and .u64 (IntKind.u64.wrap (-(n : Int))) 31 = ((32 - n : Nat) : Int) := by
  have : ∀ k : Fin 32, 0 < k.val → bits .and .u64 (IntKind.u64.wrap (-(k.val : Int))) 31 = ((32 - k.val : Nat) : Int) := by decide
  exact this ⟨n, h1⟩ h0

end Go.Proofs.YtofflhhlacdgfaaDoor
namespace Go.Proofs.YtofflhhlacdgfaaDoor
open Go.RowKit

set_option maxRecDepth 100000 in
set_option maxHeartbeats 1000000 in
theorem len64Cn (w : World) :
    Calls Tryd.prog 141 #[.int .u64 4294967295] w fun e w' => e = .returned (.int .i64 32) ∧ w' = w := by
  go_enter Tryd.func141, Tryd.ntmps141
  go_wp2
  go_ret
  exact ⟨by kernel_rfl, rfl⟩

set_option maxHeartbeats 400000 in
theorem wordBytesn (w : World) :
    Calls Tryd.prog 131 #[] w fun e w' => e = .returned (.int .i64 4) ∧ w' = w := by
  go_enter Tryd.func131, Tryd.ntmps131
  go_wp2_with fail
  refine (len64Cn _).mono ?_
  rintro e w' ⟨rfl, rfl⟩
  go_wp2
  go_ret
  exact ⟨rfl, rfl⟩

set_option maxHeartbeats 1000000 in
theorem turnRn (x : Int) (n : Nat) (hn : 0 < n) (hn2 : n < 32) (m : Int) (hm : m = (n : Int)) (w : World) :
    Calls Tryd.prog 161 #[.int .u32 x, .int .i64 m] w fun e w' => e = .returned (.int .u32 (rot x n)) ∧ ∃ q, w' = w.drewN q := by
  subst hm
  have e1 : IntKind.i64.wrap (32 - (n : Int)) = ((32 - n : Nat) : Int) := by rw [IntKind.wrap_i64]; omega
  have hq : ¬ ((32 - n : Nat) : Int) < 0 := by omega
  go_enter Tryd.func161, Tryd.ntmps161
  go_wp2
  go_quiet ((go_at_call 131; refine Calls.quiet_of_same (wordBytesn _)))
  go_wp2
  go_ret
  exact ⟨rfl, _, rfl⟩
end Go.Proofs.YtofflhhlacdgfaaDoor
namespace Go.Proofs.YtofflhhlacdgfaaDoor
open Go.RowKit
set_option linter.unusedSimpArgs false

theorem grown_set {w0 w : World} {g : Nat} (h : w0.grownBy w (some g)) (j : Nat) (v : Value) : w0.grownBy (w.setCell ⟨g, j, none⟩ v) (some g) :=
  ⟨h.os, h.tape, h.output, by simpa using h.size, fun i hi hne => (heap_setCell_other _ _ _ _ (fun e => hne (by rw [e]))).trans (h.block i hi hne)⟩

theorem grown_set8 {w0 w : World} {g : Nat} (h : w0.grownBy w (some g)) (l0 l1 l2 l3 l4 l5 l6 l7 : Value) :
    w0.grownBy ((((((((w.setCell ⟨g, 0, none⟩ l0).setCell ⟨g, 1, none⟩ l1).setCell ⟨g, 2, none⟩ l2).setCell ⟨g, 3, none⟩ l3).setCell ⟨g, 4, none⟩ l4).setCell ⟨g, 5, none⟩ l5).setCell ⟨g, 6, none⟩ l6).setCell ⟨g, 7, none⟩ l7) (some g) :=
  grown_set (grown_set (grown_set (grown_set (grown_set (grown_set (grown_set (grown_set h 0 l0) 1 l1) 2 l2) 3 l3) 4 l4) 5 l5) 6 l6) 7 l7

theorem grown_of_below {w w' : World} (h : Below w.heap.size w w') (r : Option Nat) : w.grownBy w' r := ⟨h.os, h.tape, h.output, h.size, fun i hi _ => h.block i hi⟩

theorem index_arr {P : Program} {t e : TypeId} {n : Nat} {K : IntKind} (hu : P.underlying t = some (.array n e)) (he : P.underlying e = some (.int K)) (hs : (P.info? e).map (·.size) = some 1) (xs : List Int) (hl : xs.length = n) (k : Nat) (hk : k < n) (w : World) :
    (Instr.index t (.agg (xs.map (Value.int K)).toArray) (.int .i64 (k : Int))).run P w = .ok (.int K (xs.getD k 0)) w := by
  cases hq : P.info? e with
  | none => simp [hq] at hs
  | some i =>
    have hz : i.size = 1 := by simpa [hq] using hs
    have hk' : (k : Int) < (n : Int) := by omega
    have hkx : k < xs.length := by omega
    simp [Instr.index, run_underlying hu, run_underlying he, asIntOf, part, isAgg, sizeOf, typeInfo, hq, hz, hk', hkx, go_sem]
    intro h
    omega

theorem grown_drew {w w' : World} {r : Option Nat} (h : w.grownBy w' r) : w.grownBy w'.drew r := ⟨h.os, h.tape, h.output, h.size, h.block⟩

end Go.Proofs.YtofflhhlacdgfaaDoor
namespace Go.Proofs.YtofflhhlacdgfaaDoor
open Go.RowKit

/-- A variable's block holds these cells. -/
def Vr (w : World) (g : Nat) (cs : List Value) : Prop := ∃ t z, w.heap[g]? = some (.cells cs.toArray t z)
theorem Vr.lt {w : World} {g : Nat} {cs : List Value} (h : Vr w g cs) : g < w.heap.size := by
  obtain ⟨t, z, h⟩ := h
  exact (Array.getElem?_eq_some_iff.1 h).1
theorem Vr.below {w w' : World} {B g : Nat} {cs : List Value} (h : Vr w g cs) (hb : Below B w w') (hg : g < B) : Vr w' g cs := by
  obtain ⟨t, z, h⟩ := h
  exact ⟨t, z, (hb.block g hg).trans h⟩
theorem Vr.kept {w w' : World} {g : Nat} {cs : List Value} (h : Vr w g cs) (hb : Below w.heap.size w w') : Vr w' g cs := h.below hb h.lt
theorem Vr.cell {w : World} {g : Nat} {cs : List Value} (h : Vr w g cs) (j : Nat) : w.cell? ⟨g, j, none⟩ = cs[j]? := by
  obtain ⟨t, z, h⟩ := h
  rw [cell_of_row w g j _ t _ h]; simp
theorem Vr.int {w : World} {g : Nat} {K : IntKind} {xs : List Int} (h : Vr w g (xs.map (Value.int K))) (j : Nat) (hj : j < xs.length) : w.cell? ⟨g, j, none⟩ = some (.int K (xs.getD j 0)) := by
  rw [h.cell j]; simp [hj]

/-- The cells of block g from j on, set one by one. -/
def setAll (w : World) (g : Nat) : Nat → List Value → World
  | _, [] => w
  | j, v :: vs => setAll (w.setCell ⟨g, j, none⟩ v) g (j + 1) vs
def setL (cs : List Value) : Nat → List Value → List Value
  | _, [] => cs
  | j, v :: vs => setL (cs.set j v) (j + 1) vs
theorem Arr.setAll {g : Nat} {t : TypeId} (vs : List Value) : ∀ {w : World} {cs : List Value} (j : Nat), Arr w g t cs → Arr (setAll w g j vs) g t (setL cs j vs) := by
  induction vs with
  | nil => intro w cs j h; exact h
  | cons v vs ih => intro w cs j h; exact ih (j + 1) (h.set j v)
theorem Arr.setAllOther {g k : Nat} {t : TypeId} (hne : k ≠ g) (vs : List Value) : ∀ {w : World} {cs : List Value} (j : Nat), Arr w k t cs → Arr (Go.Proofs.YtofflhhlacdgfaaDoor.setAll w g j vs) k t cs := by
  induction vs with
  | nil => intro w cs j h; exact h
  | cons v vs ih => intro w cs j h; exact ih (j + 1) (h.other ⟨g, j, none⟩ v hne)
theorem setAll_below {B g : Nat} {w0 : World} (hg : B ≤ g) (vs : List Value) : ∀ {w : World} (j : Nat), Below B w0 w → Below B w0 (setAll w g j vs) := by
  induction vs with
  | nil => intro w j h; exact h
  | cons v vs ih => intro w j h; exact ih (j + 1) (h.setCell (p := ⟨g, j, none⟩) hg v)
theorem setAll_grown {g : Nat} {w0 : World} (vs : List Value) : ∀ {w : World} (j : Nat), w0.grownBy w (some g) → w0.grownBy (setAll w g j vs) (some g) := by
  induction vs with
  | nil => intro w j h; exact h
  | cons v vs ih => intro w j h; exact ih (j + 1) (grown_set h j v)
end Go.Proofs.YtofflhhlacdgfaaDoor
namespace Go.Proofs.YtofflhhlacdgfaaDoor
open Go.RowKit
set_option maxRecDepth 100000

/-- The sixteen words when the first i bytes are in. -/
def pbn (xs : List Int) (i : Nat) : List Int := (List.range 16).map (fun j => wv xs j (min 4 (i - 4 * j)))
theorem pbn_len (xs : List Int) (i : Nat) : (pbn xs i).length = 16 := by simp [pbn]
theorem pbn_get (xs : List Int) (i j : Nat) (h : j < 16) : (pbn xs i).getD j 0 = wv xs j (min 4 (i - 4 * j)) := by simp [pbn, h]
theorem pbn_zero (xs : List Int) : pbn xs 0 = List.replicate 16 0 := by
  have e : pbn xs 0 = (List.range 16).map (fun _ => (0 : Int)) := by simp only [pbn, Nat.zero_sub, Nat.min_zero, wv]
  rw [e]; rfl
theorem wvBn (xs : List Int) (hb : ∀ x ∈ xs, 0 ≤ x ∧ x < 256) (j m : Nat) : 0 ≤ wv xs j m ∧ wv xs j m < 256 ^ m := by
  induction m with
  | zero => simp [wv]
  | succ m ih =>
    have hx : 0 ≤ xs.getD (4 * j + m) 0 ∧ xs.getD (4 * j + m) 0 < 256 := by
      by_cases h : 4 * j + m < xs.length
      · exact get_byte hb h
      · have : xs.getD (4 * j + m) 0 = 0 := by simp [Nat.le_of_not_lt h]
        rw [this]; omega
    simp only [wv, Int.pow_succ]
    omega
theorem pbn_set (xs : List Int) (i : Nat) (v : Int) (hv : v = wv xs (i / 4) (i % 4)) :
    (U32 (pbn xs i)).set (i / 4) (.int .u32 (v * 256 + xs.getD i 0)) = U32 (pbn xs (i + 1)) := by
  subst hv
  apply List.ext_getElem
  · simp [pbn_len]
  · intro j h1 h2
    rw [List.getElem_set]
    have e1 : ∀ (k : Nat) (hk : j < (U32 (pbn xs k)).length), (U32 (pbn xs k))[j] = .int .u32 (wv xs j (min 4 (k - 4 * j))) := by intro k hk; simp [pbn]
    rw [e1 (i + 1)]
    split
    · rename_i e
      subst e
      have e2 : min 4 (i + 1 - 4 * (i / 4)) = i % 4 + 1 := by omega
      have e3 : 4 * (i / 4) + i % 4 = i := by omega
      rw [e2]
      simp only [wv, e3]
    · rename_i e
      rw [e1 i]
      have e2 : min 4 (i + 1 - 4 * j) = min 4 (i - 4 * j) := by omega
      rw [e2]
theorem schSnocn (xs : List Int) (k : Nat) : schedL xs (k + 1) = schedL xs k ++ [nextW xs (schedL xs k)] := rfl
theorem schLown (xs : List Int) (k j : Nat) (hj : j < k) (hk : k ≤ 16) : (schedL xs k).getD j 0 = wv xs j 4 := by
  induction k with
  | zero => omega
  | succ k ih =>
    rw [schSnocn]
    by_cases e : j = k
    · subst e
      have hl := schedL_len xs j
      have h2 : (schedL xs j ++ [nextW xs (schedL xs j)]).getD j 0 = nextW xs (schedL xs j) := by
        simp [List.getD, hl]
      rw [h2]
      unfold nextW
      rw [if_pos (by omega), hl]
    · have hl := schedL_len xs k
      have h2 : (schedL xs k ++ [nextW xs (schedL xs k)]).getD j 0 = (schedL xs k).getD j 0 := by
        simp [List.getD, List.getElem?_append_left, hl, show j < k by omega]
      rw [h2]
      exact ih (by omega) (by omega)
theorem pbn_end (xs : List Int) : pbn xs 64 = schedL xs 16 := by
  apply List.ext_getElem
  · simp [pbn_len, schedL_len]
  · intro j h1 h2
    have hj : j < 16 := by simpa [pbn_len] using h1
    have e1 : ∀ h : j < (pbn xs 64).length, (pbn xs 64)[j] = wv xs j (min 4 (64 - 4 * j)) := by intro h; simp [pbn]
    rw [e1 h1]
    have := schLown xs 16 j hj (by omega)
    rw [show min 4 (64 - 4 * j) = 4 by omega, ← this]
    simp [schedL_len, hj]

def zbn : Array Value := (U32 (List.replicate 16 0)).toArray
theorem infoUn : (Tryd.prog.info? 132).map (fun i => (i.zero, i.size, i.bytes)) = some (some (.int .u32 0), 1, 4) := by kernel_rfl
theorem makeBn (w : World) : (Instr.makeSlice 140 (.int .i64 16) (.int .i64 16)).run Tryd.prog w = .ok (.slice (some ⟨w.heap.size, 0, none⟩) 16 16) (w.alloc (.cells zbn 132)) := by
  obtain ⟨i0, hi, hz0, hz1, hz2⟩ := info_parts infoUn
  have := run_make (P := Tryd.prog) w 140 132 i0 (.int .u32 0) Tryd.underlying140 hi hz0 .i64 .i64 16 16 (by omega) (by omega) (by rw [hz2]; omega) (by omega)
  rw [this, hz1, show madeCells (Value.int .u32 0).cells (Int.toNat 16 * 1) = zbn by kernel_rfl]
  rfl

set_option maxHeartbeats 1000000 in
theorem blockWordsn (a : Option Addr) (c : Nat) (xs : List Int) (w : World) (h : Bs w a 64 c xs) :
    Calls Tryd.prog 152 #[.slice a 64 c] w fun e w' => ∃ g, e = .returned (.slice (some ⟨g, 0, none⟩) 16 16) ∧ Arr w' g 132 (U32 (schedL xs 16)) ∧ w.heap.size ≤ g ∧ Below w.heap.size w w' := by
  obtain ⟨_, hl, hc, hby, h⟩ := h
  rcases h with h | ⟨b, o, rfl, hbs, hcell⟩
  · omega
  obtain ⟨W, hW⟩ : ∃ W, W = w.alloc (.cells zbn 132) := ⟨_, rfl⟩
  have hA1 : Arr W w.heap.size 132 (U32 (pbn xs 0)) := by rw [hW, pbn_zero]; exact Arr.new w _ _
  have hB : Below w.heap.size w W := by rw [hW]; exact (Below.refl _ _).alloc (Nat.le_refl _) _
  have hmk := makeBn
  go_enter Tryd.func152, Tryd.ntmps152
  go_wp2
  go_loopw [10] (fun i wr => ∃ k : Nat, k ≤ 64 ∧ i = .int .i64 k ∧ Arr wr w.heap.size 132 (U32 (pbn xs k)) ∧ Below w.heap.size w wr) (fun i _ => 64 - (intOf i).toNat)
  case atStart => exact ⟨0, by omega, rfl, hW ▸ hA1, hW ▸ hB⟩
  case round =>
    clear hA1 hB hW hmk
    obtain ⟨k, hk, rfl, h1, hb⟩ := hrel
    by_cases hlt : k < 64
    · obtain ⟨x, hx⟩ : ∃ x, x = xs.getD k 0 := ⟨_, rfl⟩
      have hck : wr.cell? ⟨b, o + k, none⟩ = some (.int .u8 x) := by rw [hx]; exact (hb.cell (p := ⟨b, o + k, none⟩) hbs).trans (hcell k hlt)
      obtain ⟨hx0, hx1⟩ : 0 ≤ x ∧ x < 256 := by rw [hx]; exact get_byte hby (by omega)
      obtain ⟨v, hv⟩ : ∃ v, v = wv xs (k / 4) (k % 4) := ⟨_, rfl⟩
      have hvb := wvBn xs hby (k / 4) (k % 4)
      rw [← hv] at hvb
      have hv3 : v < 16777216 := by
        have : (256 : Int) ^ (k % 4) ≤ 16777216 := by
          rcases (show k % 4 = 0 ∨ k % 4 = 1 ∨ k % 4 = 2 ∨ k % 4 = 3 by omega) with e | e | e | e <;> rw [e] <;> decide
        omega
      have hv0 := hvb.1
      have hor : bits .or .u32 (v * 256) x = v * 256 + x := u32_or8 (by omega) (by omega) (by omega) hx0 hx1
      have hget : wr.cell? ⟨w.heap.size, k / 4, none⟩ = some (.int .u32 v) := by
        rw [h1.u32 (k / 4) (by rw [pbn_len]; omega), pbn_get xs k (k / 4) (by omega), hv, show min 4 (k - 4 * (k / 4)) = k % 4 by omega]
      have hcv : IntKind.u32.wrap x = x := by rw [IntKind.wrap_u32]; omega
      have hsh : IntKind.u32.wrap (v * 256) = v * 256 := by rw [IntKind.wrap_u32]; omega
      have hsh2 : v * 256 % 4294967296 = v * 256 := by omega
      have hq : ((k : Int) / 4).toNat = k / 4 := by omega
      have hq0 : (0 : Int) ≤ (k : Int) / 4 := by omega
      have hq1 : (k : Int) / 4 < 16 := by omega
      have htd : (k : Int).tdiv 4 = (k : Int) / 4 := Int.tdiv_eq_ediv_of_nonneg (by omega)
      have hfz := h1.frozen (k / 4)
      have h1' := h1.set (k / 4) (.int .u32 (v * 256 + x))
      rw [hx, pbn_set xs k v hv, ← hx] at h1'
      have hb' := hb.setCell (p := ⟨w.heap.size, k / 4, none⟩) (Nat.le_refl _) (.int .u32 (v * 256 + x))
      have H1 : Hid _ := h1'
      have HB : Hid _ := hb'
      clear h1' hb' h1 hb hcell hx hvb hby hv
      have hkB : (k : Int) < 64 := by omega
      go_wp2_with (go_at_call 131; refine (wordBytesn _).mono ?_; rintro e w' ⟨rfl, rfl⟩)
      go_roundw
      case rel => exact ⟨k + 1, by omega, by go_num, H1.out, HB.out⟩
      case measure => simp [intOf]; omega
    · have hkn : k = 64 := by omega
      subst hkn
      rw [pbn_end] at h1
      clear hcell hby hbs
      go_wp2
      go_ret
      exact ⟨w.heap.size, rfl, h1, Nat.le_refl _, hb⟩
end Go.Proofs.YtofflhhlacdgfaaDoor
