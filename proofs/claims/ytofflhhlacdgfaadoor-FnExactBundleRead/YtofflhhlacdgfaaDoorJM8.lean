/-
  What is proved here: plain mathematics on lists of numbers: what SHA-256 makes of eight words and a block of 64 bytes; no program is spoken of, no condition; contracts of the program's generic functions that turn a word of 32 bits (bits.Len64 at the greatest word, shaWordBytes, turnRight, shaTurn, shaShift), at every word and at the amounts that the tables of turns hold; plain facts on worlds of which one block may have turned, and on reading a part of an array value; no program is spoken of, no condition; plain facts on a variable's block; no condition; the contract of the program's shaBlockWordsOf at words of 32 bits: the sixteen words of a block of 64 bytes, in a new row; contracts of the program's generic functions shaTurn, shaShift and shaNextWord at words of 32 bits: the turns and shifts of the standard, and the word that follows from sixteen; the table of turns comes as an argument; plain mathematics on lists of numbers: what SHA-512 makes of eight words and a block of 128 bytes; no program is spoken of, no condition.
-/
import Derived.Test.YtofflhhlacdgfaaDoorJM7
import Derived.Laws.BitsLemmas
import Derived.Deep.QuietTactic
import Derived.BigQuiet
import Derived.Deep.Light
import Derived.Deep.RegionWith
import Derived.Test.YtofflhhlacdgfaaDoorProg
import Derived.Test.YtofflhhlacdgfaaDoorJM2
import Derived.Deep.RegionHeld3
import Derived.BigRegion
import Derived.Laws.MakeOwn
namespace Go.Proofs.YtofflhhlacdgfaaDoor
open Go.RowKit

/-- A word turned right by n. -/
def rot (x : Int) (n : Nat) : Int := bits .or .u32 (x / 2 ^ n) (x * 2 ^ (32 - n) % 4294967296)
def xr (x y : Int) : Int := bits .xor .u32 x y
def nd (x y : Int) : Int := bits .and .u32 x y
def sS0 (x : Int) : Int := xr (xr (rot x 7) (rot x 18)) (x / 2 ^ 3)
def sS1 (x : Int) : Int := xr (xr (rot x 17) (rot x 19)) (x / 2 ^ 10)
def bS0 (x : Int) : Int := xr (xr (rot x 2) (rot x 13)) (rot x 22)
def bS1 (x : Int) : Int := xr (xr (rot x 6) (rot x 11)) (rot x 25)
def cho (e f g : Int) : Int := xr (nd e f) (nd (xr IntKind.u32.max e) g)
def maj (a b c : Int) : Int := xr (xr (nd a b) (nd a c)) (nd b c)

/-- The first m bytes of word j of a block. -/
def wv (xs : List Int) (j : Nat) : Nat → Int
  | 0 => 0
  | m + 1 => wv xs j m * 256 + xs.getD (4 * j + m) 0
/-- The word behind these. -/
def nextW (xs l : List Int) : Int :=
  if l.length < 16 then wv xs l.length 4
  else (l.getD (l.length - 16) 0 + sS0 (l.getD (l.length - 15) 0) + l.getD (l.length - 7) 0 + sS1 (l.getD (l.length - 2) 0)) % 4294967296
def schedL (xs : List Int) : Nat → List Int
  | 0 => []
  | k + 1 => schedL xs k ++ [nextW xs (schedL xs k)]
theorem schedL_len (xs : List Int) (k : Nat) : (schedL xs k).length = k := by
  induction k with
  | zero => rfl
  | succ k ih => simp [schedL, ih]

def KS : List Int := [1116352408, 1899447441, 3049323471, 3921009573, 961987163, 1508970993, 2453635748, 2870763221, 3624381080, 310598401, 607225278, 1426881987, 1925078388, 2162078206, 2614888103, 3248222580, 3835390401, 4022224774, 264347078, 604807628, 770255983, 1249150122, 1555081692, 1996064986, 2554220882, 2821834349, 2952996808, 3210313671, 3336571891, 3584528711, 113926993, 338241895, 666307205, 773529912, 1294757372, 1396182291, 1695183700, 1986661051, 2177026350, 2456956037, 2730485921, 2820302411, 3259730800, 3345764771, 3516065817, 3600352804, 4094571909, 275423344, 430227734, 506948616, 659060556, 883997877, 958139571, 1322822218, 1537002063, 1747873779, 1955562222, 2024104815, 2227730452, 2361852424, 2428436474, 2756734187, 3204031479, 3329325298]
theorem KS_len : KS.length = 64 := rfl
def H0 : List Int := [1779033703, 3144134277, 1013904242, 2773480762, 1359893119, 2600822924, 528734635, 1541459225]

/-- One round, on the words and the round's word. -/
def stp8 (a b c d e f g h kw : Int) : List Int :=
  [(h + bS1 e + cho e f g + kw + (bS0 a + maj a b c)) % 4294967296, a, b, c, (d + (h + bS1 e + cho e f g + kw)) % 4294967296, e, f, g]
def stp (st : List Int) (kw : Int) : List Int :=
  match st with
  | [a, b, c, d, e, f, g, h] => stp8 a b c d e f g h kw
  | _ => st
def rnds (ws ks st : List Int) : Nat → List Int
  | 0 => st
  | k + 1 => stp (rnds ws ks st k) (ws.getD k 0 + ks.getD k 0)
theorem stp_len {st : List Int} (h : st.length = 8) (kw : Int) : (stp st kw).length = 8 := by
  obtain ⟨a, b, c, d, e, f, g, i, rfl⟩ := list8 h
  rfl
theorem rnds_len (ws ks : List Int) {st : List Int} (h : st.length = 8) (k : Nat) : (rnds ws ks st k).length = 8 := by
  induction k with
  | zero => exact h
  | succ k ih => exact stp_len ih _
/-- What a block makes of eight words. -/
def blk (h bs : List Int) : List Int := List.zipWith (fun x y => (x + y) % 4294967296) h (rnds (schedL bs 64) KS h 64)
theorem blk_len {h : List Int} (hh : h.length = 8) (bs : List Int) : (blk h bs).length = 8 := by
  simp [blk, rnds_len _ _ hh, hh]
theorem blk_word (h bs : List Int) : ∀ x ∈ blk h bs, 0 ≤ x ∧ x < 4294967296 := by
  intro x hx
  simp only [blk, List.mem_iff_getElem?] at hx
  obtain ⟨i, hi⟩ := hx
  rw [List.getElem?_zipWith] at hi
  split at hi
  · simp only [Option.some.injEq] at hi
    omega
  · cases hi

theorem bits_or_comm (x y : Int) : bits .or .u32 x y = bits .or .u32 y x := by
  simp [bits, Nat.or_comm]

theorem u32_or8 {x y : Int} (h0 : 0 ≤ x) (h1 : x < 4294967296) (h2 : x % 256 = 0) (h3 : 0 ≤ y) (h4 : y < 256) : bits .or .u32 x y = x + y :=
  bits_join .u32 32 (by decide) (fun n a b => by rw [IntKind.wrap_u32]; omega) 8 x y h0 (by simpa using h2) (by simpa using h1) h3 (by simpa using h4) (by omega)
theorem u32_or16 {x y : Int} (h0 : 0 ≤ x) (h1 : x < 4294967296) (h2 : x % 65536 = 0) (h3 : 0 ≤ y) (h4 : y < 65536) : bits .or .u32 x y = x + y :=
  bits_join .u32 32 (by decide) (fun n a b => by rw [IntKind.wrap_u32]; omega) 16 x y h0 (by simpa using h2) (by simpa using h1) h3 (by simpa using h4) (by omega)
theorem u32_or24 {x y : Int} (h0 : 0 ≤ x) (h1 : x < 4294967296) (h2 : x % 16777216 = 0) (h3 : 0 ≤ y) (h4 : y < 16777216) : bits .or .u32 x y = x + y :=
  bits_join .u32 32 (by decide) (fun n a b => by rw [IntKind.wrap_u32]; omega) 24 x y h0 (by simpa using h2) (by simpa using h1) h3 (by simpa using h4) (by omega)

theorem neg_mask (n : Nat) (h0 : 0 < n) (h1 : n < 32) : bits .and .u64 (IntKind.u64.wrap (-(n : Int))) 31 = ((32 - n : Nat) : Int) := by
  have : ∀ k : Fin 32, 0 < k.val → bits .and .u64 (IntKind.u64.wrap (-(k.val : Int))) 31 = ((32 - k.val : Nat) : Int) := by decide
  exact this ⟨n, h1⟩ h0

end Go.Proofs.YtofflhhlacdgfaaDoor
namespace Go.Proofs.YtofflhhlacdgfaaDoor
open Go.RowKit

set_option maxRecDepth 100000 in
set_option maxHeartbeats 1000000 in
theorem len64Cn (w : World) :
    Calls Tryd.prog 141 #[.int .u64 4294967295] w fun e w' => e = .returned (.int .i64 32) ∧ w' = w := by
  go_enter Tryd.func141, Tryd.ntmps141
  go_wp2
  go_ret
  exact ⟨by kernel_rfl, rfl⟩

set_option maxHeartbeats 400000 in
theorem wordBytesn (w : World) :
    Calls Tryd.prog 131 #[] w fun e w' => e = .returned (.int .i64 4) ∧ w' = w := by
  go_enter Tryd.func131, Tryd.ntmps131
  go_wp2_with fail
  refine (len64Cn _).mono ?_
  rintro e w' ⟨rfl, rfl⟩
  go_wp2
  go_ret
  exact ⟨rfl, rfl⟩

set_option maxHeartbeats 1000000 in
theorem turnRn (x : Int) (n : Nat) (hn : 0 < n) (hn2 : n < 32) (m : Int) (hm : m = (n : Int)) (w : World) :
    Calls Tryd.prog 161 #[.int .u32 x, .int .i64 m] w fun e w' => e = .returned (.int .u32 (rot x n)) ∧ ∃ q, w' = w.drewN q := by
  subst hm
  have e1 : IntKind.i64.wrap (32 - (n : Int)) = ((32 - n : Nat) : Int) := by rw [IntKind.wrap_i64]; omega
  have hq : ¬ ((32 - n : Nat) : Int) < 0 := by omega
  go_enter Tryd.func161, Tryd.ntmps161
  go_wp2
  go_quiet ((go_at_call 131; refine Calls.quiet_of_same (wordBytesn _)))
  go_wp2
  go_ret
  exact ⟨rfl, _, rfl⟩
end Go.Proofs.YtofflhhlacdgfaaDoor
namespace Go.Proofs.YtofflhhlacdgfaaDoor
open Go.RowKit
set_option linter.unusedSimpArgs false

theorem grown_set {w0 w : World} {g : Nat} (h : w0.grownBy w (some g)) (j : Nat) (v : Value) : w0.grownBy (w.setCell ⟨g, j, none⟩ v) (some g) :=
  ⟨h.os, h.tape, h.output, by simpa using h.size, fun i hi hne => (heap_setCell_other _ _ _ _ (fun e => hne (by rw [e]))).trans (h.block i hi hne)⟩

theorem grown_set8 {w0 w : World} {g : Nat} (h : w0.grownBy w (some g)) (l0 l1 l2 l3 l4 l5 l6 l7 : Value) :
    w0.grownBy ((((((((w.setCell ⟨g, 0, none⟩ l0).setCell ⟨g, 1, none⟩ l1).setCell ⟨g, 2, none⟩ l2).setCell ⟨g, 3, none⟩ l3).setCell ⟨g, 4, none⟩ l4).setCell ⟨g, 5, none⟩ l5).setCell ⟨g, 6, none⟩ l6).setCell ⟨g, 7, none⟩ l7) (some g) :=
  grown_set (grown_set (grown_set (grown_set (grown_set (grown_set (grown_set (grown_set h 0 l0) 1 l1) 2 l2) 3 l3) 4 l4) 5 l5) 6 l6) 7 l7

theorem grown_of_below {w w' : World} (h : Below w.heap.size w w') (r : Option Nat) : w.grownBy w' r := ⟨h.os, h.tape, h.output, h.size, fun i hi _ => h.block i hi⟩

theorem index_arr {P : Program} {t e : TypeId} {n : Nat} {K : IntKind} (hu : P.underlying t = some (.array n e)) (he : P.underlying e = some (.int K)) (hs : (P.info? e).map (·.size) = some 1) (xs : List Int) (hl : xs.length = n) (k : Nat) (hk : k < n) (w : World) :
    (Instr.index t (.agg (xs.map (Value.int K)).toArray) (.int .i64 (k : Int))).run P w = .ok (.int K (xs.getD k 0)) w := by
  cases hq : P.info? e with
  | none => simp [hq] at hs
  | some i =>
    have hz : i.size = 1 := by simpa [hq] using hs
    have hk' : (k : Int) < (n : Int) := by omega
    have hkx : k < xs.length := by omega
    simp [Instr.index, run_underlying hu, run_underlying he, asIntOf, part, isAgg, sizeOf, typeInfo, hq, hz, hk', hkx, go_sem]
    intro h
    omega

theorem grown_drew {w w' : World} {r : Option Nat} (h : w.grownBy w' r) : w.grownBy w'.drew r := ⟨h.os, h.tape, h.output, h.size, h.block⟩

end Go.Proofs.YtofflhhlacdgfaaDoor
namespace Go.Proofs.YtofflhhlacdgfaaDoor
open Go.RowKit

/-- A variable's block holds these cells. -/
def Vr (w : World) (g : Nat) (cs : List Value) : Prop := ∃ t z, w.heap[g]? = some (.cells cs.toArray t z)
theorem Vr.lt {w : World} {g : Nat} {cs : List Value} (h : Vr w g cs) : g < w.heap.size := by
  obtain ⟨t, z, h⟩ := h
  exact (Array.getElem?_eq_some_iff.1 h).1
theorem Vr.below {w w' : World} {B g : Nat} {cs : List Value} (h : Vr w g cs) (hb : Below B w w') (hg : g < B) : Vr w' g cs := by
  obtain ⟨t, z, h⟩ := h
  exact ⟨t, z, (hb.block g hg).trans h⟩
theorem Vr.kept {w w' : World} {g : Nat} {cs : List Value} (h : Vr w g cs) (hb : Below w.heap.size w w') : Vr w' g cs := h.below hb h.lt
theorem Vr.cell {w : World} {g : Nat} {cs : List Value} (h : Vr w g cs) (j : Nat) : w.cell? ⟨g, j, none⟩ = cs[j]? := by
  obtain ⟨t, z, h⟩ := h
  rw [cell_of_row w g j _ t _ h]; simp
theorem Vr.int {w : World} {g : Nat} {K : IntKind} {xs : List Int} (h : Vr w g (xs.map (Value.int K))) (j : Nat) (hj : j < xs.length) : w.cell? ⟨g, j, none⟩ = some (.int K (xs.getD j 0)) := by
  rw [h.cell j]; simp [hj]

/-- The cells of block g from j on, set one by one. -/
def setAll (w : World) (g : Nat) : Nat → List Value → World
  | _, [] => w
  | j, v :: vs => setAll (w.setCell ⟨g, j, none⟩ v) g (j + 1) vs
def setL (cs : List Value) : Nat → List Value → List Value
  | _, [] => cs
  | j, v :: vs => setL (cs.set j v) (j + 1) vs
theorem Arr.setAll {g : Nat} {t : TypeId} (vs : List Value) : ∀ {w : World} {cs : List Value} (j : Nat), Arr w g t cs → Arr (setAll w g j vs) g t (setL cs j vs) := by
  induction vs with
  | nil => intro w cs j h; exact h
  | cons v vs ih => intro w cs j h; exact ih (j + 1) (h.set j v)
theorem Arr.setAllOther {g k : Nat} {t : TypeId} (hne : k ≠ g) (vs : List Value) : ∀ {w : World} {cs : List Value} (j : Nat), Arr w k t cs → Arr (Go.Proofs.YtofflhhlacdgfaaDoor.setAll w g j vs) k t cs := by
  induction vs with
  | nil => intro w cs j h; exact h
  | cons v vs ih => intro w cs j h; exact ih (j + 1) (h.other ⟨g, j, none⟩ v hne)
theorem setAll_below {B g : Nat} {w0 : World} (hg : B ≤ g) (vs : List Value) : ∀ {w : World} (j : Nat), Below B w0 w → Below B w0 (setAll w g j vs) := by
  induction vs with
  | nil => intro w j h; exact h
  | cons v vs ih => intro w j h; exact ih (j + 1) (h.setCell (p := ⟨g, j, none⟩) hg v)
theorem setAll_grown {g : Nat} {w0 : World} (vs : List Value) : ∀ {w : World} (j : Nat), w0.grownBy w (some g) → w0.grownBy (setAll w g j vs) (some g) := by
  induction vs with
  | nil => intro w j h; exact h
  | cons v vs ih => intro w j h; exact ih (j + 1) (grown_set h j v)
end Go.Proofs.YtofflhhlacdgfaaDoor
namespace Go.Proofs.YtofflhhlacdgfaaDoor
open Go.RowKit
set_option maxRecDepth 100000

/-- The sixteen words when the first i bytes are in. -/
def pbn (xs : List Int) (i : Nat) : List Int := (List.range 16).map (fun j => wv xs j (min 4 (i - 4 * j)))
theorem pbn_len (xs : List Int) (i : Nat) : (pbn xs i).length = 16 := by simp [pbn]
theorem pbn_get (xs : List Int) (i j : Nat) (h : j < 16) : (pbn xs i).getD j 0 = wv xs j (min 4 (i - 4 * j)) := by simp [pbn, h]
theorem pbn_zero (xs : List Int) : pbn xs 0 = List.replicate 16 0 := by
  have e : pbn xs 0 = (List.range 16).map (fun _ => (0 : Int)) := by simp only [pbn, Nat.zero_sub, Nat.min_zero, wv]
  rw [e]; rfl
theorem wvBn (xs : List Int) (hb : ∀ x ∈ xs, 0 ≤ x ∧ x < 256) (j m : Nat) : 0 ≤ wv xs j m ∧ wv xs j m < 256 ^ m := by
  induction m with
  | zero => simp [wv]
  | succ m ih =>
    have hx : 0 ≤ xs.getD (4 * j + m) 0 ∧ xs.getD (4 * j + m) 0 < 256 := by
      by_cases h : 4 * j + m < xs.length
      · exact get_byte hb h
      · have : xs.getD (4 * j + m) 0 = 0 := by simp [Nat.le_of_not_lt h]
        rw [this]; omega
    simp only [wv, Int.pow_succ]
    omega
theorem pbn_set (xs : List Int) (i : Nat) (v : Int) (hv : v = wv xs (i / 4) (i % 4)) :
    (U32 (pbn xs i)).set (i / 4) (.int .u32 (v * 256 + xs.getD i 0)) = U32 (pbn xs (i + 1)) := by
  subst hv
  apply List.ext_getElem
  · simp [pbn_len]
  · intro j h1 h2
    rw [List.getElem_set]
    have e1 : ∀ (k : Nat) (hk : j < (U32 (pbn xs k)).length), (U32 (pbn xs k))[j] = .int .u32 (wv xs j (min 4 (k - 4 * j))) := by intro k hk; simp [pbn]
    rw [e1 (i + 1)]
    split
    · rename_i e
      subst e
      have e2 : min 4 (i + 1 - 4 * (i / 4)) = i % 4 + 1 := by omega
      have e3 : 4 * (i / 4) + i % 4 = i := by omega
      rw [e2]
      simp only [wv, e3]
    · rename_i e
      rw [e1 i]
      have e2 : min 4 (i + 1 - 4 * j) = min 4 (i - 4 * j) := by omega
      rw [e2]
theorem schSnocn (xs : List Int) (k : Nat) : schedL xs (k + 1) = schedL xs k ++ [nextW xs (schedL xs k)] := rfl
theorem schLown (xs : List Int) (k j : Nat) (hj : j < k) (hk : k ≤ 16) : (schedL xs k).getD j 0 = wv xs j 4 := by
  induction k with
  | zero => omega
  | succ k ih =>
    rw [schSnocn]
    by_cases e : j = k
    · subst e
      have hl := schedL_len xs j
      have h2 : (schedL xs j ++ [nextW xs (schedL xs j)]).getD j 0 = nextW xs (schedL xs j) := by
        simp [List.getD, hl]
      rw [h2]
      unfold nextW
      rw [if_pos (by omega), hl]
    · have hl := schedL_len xs k
      have h2 : (schedL xs k ++ [nextW xs (schedL xs k)]).getD j 0 = (schedL xs k).getD j 0 := by
        simp [List.getD, List.getElem?_append_left, hl, show j < k by omega]
      rw [h2]
      exact ih (by omega) (by omega)
theorem pbn_end (xs : List Int) : pbn xs 64 = schedL xs 16 := by
  apply List.ext_getElem
  · simp [pbn_len, schedL_len]
  · intro j h1 h2
    have hj : j < 16 := by simpa [pbn_len] using h1
    have e1 : ∀ h : j < (pbn xs 64).length, (pbn xs 64)[j] = wv xs j (min 4 (64 - 4 * j)) := by intro h; simp [pbn]
    rw [e1 h1]
    have := schLown xs 16 j hj (by omega)
    rw [show min 4 (64 - 4 * j) = 4 by omega, ← this]
    simp [schedL_len, hj]

def zbn : Array Value := (U32 (List.replicate 16 0)).toArray
theorem infoUn : (Tryd.prog.info? 132).map (fun i => (i.zero, i.size, i.bytes)) = some (some (.int .u32 0), 1, 4) := by kernel_rfl
theorem makeBn (w : World) : (Instr.makeSlice 140 (.int .i64 16) (.int .i64 16)).run Tryd.prog w = .ok (.slice (some ⟨w.heap.size, 0, none⟩) 16 16) (w.alloc (.cells zbn 132)) := by
  obtain ⟨i0, hi, hz0, hz1, hz2⟩ := info_parts infoUn
  have := run_make (P := Tryd.prog) w 140 132 i0 (.int .u32 0) Tryd.underlying140 hi hz0 .i64 .i64 16 16 (by omega) (by omega) (by rw [hz2]; omega) (by omega)
  rw [this, hz1, show madeCells (Value.int .u32 0).cells (Int.toNat 16 * 1) = zbn by kernel_rfl]
  rfl

set_option maxHeartbeats 1000000 in
theorem blockWordsn (a : Option Addr) (c : Nat) (xs : List Int) (w : World) (h : Bs w a 64 c xs) :
    Calls Tryd.prog 152 #[.slice a 64 c] w fun e w' => ∃ g, e = .returned (.slice (some ⟨g, 0, none⟩) 16 16) ∧ Arr w' g 132 (U32 (schedL xs 16)) ∧ w.heap.size ≤ g ∧ Below w.heap.size w w' := by
  obtain ⟨_, hl, hc, hby, h⟩ := h
  rcases h with h | ⟨b, o, rfl, hbs, hcell⟩
  · omega
  obtain ⟨W, hW⟩ : ∃ W, W = w.alloc (.cells zbn 132) := ⟨_, rfl⟩
  have hA1 : Arr W w.heap.size 132 (U32 (pbn xs 0)) := by rw [hW, pbn_zero]; exact Arr.new w _ _
  have hB : Below w.heap.size w W := by rw [hW]; exact (Below.refl _ _).alloc (Nat.le_refl _) _
  have hmk := makeBn
  go_enter Tryd.func152, Tryd.ntmps152
  go_wp2
  go_loopw [10] (fun i wr => ∃ k : Nat, k ≤ 64 ∧ i = .int .i64 k ∧ Arr wr w.heap.size 132 (U32 (pbn xs k)) ∧ Below w.heap.size w wr) (fun i _ => 64 - (intOf i).toNat)
  case atStart => exact ⟨0, by omega, rfl, hW ▸ hA1, hW ▸ hB⟩
  case round =>
    clear hA1 hB hW hmk
    obtain ⟨k, hk, rfl, h1, hb⟩ := hrel
    by_cases hlt : k < 64
    · obtain ⟨x, hx⟩ : ∃ x, x = xs.getD k 0 := ⟨_, rfl⟩
      have hck : wr.cell? ⟨b, o + k, none⟩ = some (.int .u8 x) := by rw [hx]; exact (hb.cell (p := ⟨b, o + k, none⟩) hbs).trans (hcell k hlt)
      obtain ⟨hx0, hx1⟩ : 0 ≤ x ∧ x < 256 := by rw [hx]; exact get_byte hby (by omega)
      obtain ⟨v, hv⟩ : ∃ v, v = wv xs (k / 4) (k % 4) := ⟨_, rfl⟩
      have hvb := wvBn xs hby (k / 4) (k % 4)
      rw [← hv] at hvb
      have hv3 : v < 16777216 := by
        have : (256 : Int) ^ (k % 4) ≤ 16777216 := by
          rcases (show k % 4 = 0 ∨ k % 4 = 1 ∨ k % 4 = 2 ∨ k % 4 = 3 by omega) with e | e | e | e <;> rw [e] <;> decide
        omega
      have hv0 := hvb.1
      have hor : bits .or .u32 (v * 256) x = v * 256 + x := u32_or8 (by omega) (by omega) (by omega) hx0 hx1
      have hget : wr.cell? ⟨w.heap.size, k / 4, none⟩ = some (.int .u32 v) := by
        rw [h1.u32 (k / 4) (by rw [pbn_len]; omega), pbn_get xs k (k / 4) (by omega), hv, show min 4 (k - 4 * (k / 4)) = k % 4 by omega]
      have hcv : IntKind.u32.wrap x = x := by rw [IntKind.wrap_u32]; omega
      have hsh : IntKind.u32.wrap (v * 256) = v * 256 := by rw [IntKind.wrap_u32]; omega
      have hsh2 : v * 256 % 4294967296 = v * 256 := by omega
      have hq : ((k : Int) / 4).toNat = k / 4 := by omega
      have hq0 : (0 : Int) ≤ (k : Int) / 4 := by omega
      have hq1 : (k : Int) / 4 < 16 := by omega
      have htd : (k : Int).tdiv 4 = (k : Int) / 4 := Int.tdiv_eq_ediv_of_nonneg (by omega)
      have hfz := h1.frozen (k / 4)
      have h1' := h1.set (k / 4) (.int .u32 (v * 256 + x))
      rw [hx, pbn_set xs k v hv, ← hx] at h1'
      have hb' := hb.setCell (p := ⟨w.heap.size, k / 4, none⟩) (Nat.le_refl _) (.int .u32 (v * 256 + x))
      have H1 : Hid _ := h1'
      have HB : Hid _ := hb'
      clear h1' hb' h1 hb hcell hx hvb hby hv
      have hkB : (k : Int) < 64 := by omega
      go_wp2_with (go_at_call 131; refine (wordBytesn _).mono ?_; rintro e w' ⟨rfl, rfl⟩)
      go_roundw
      case rel => exact ⟨k + 1, by omega, by go_num, H1.out, HB.out⟩
      case measure => simp [intOf]; omega
    · have hkn : k = 64 := by omega
      subst hkn
      rw [pbn_end] at h1
      clear hcell hby hbs
      go_wp2
      go_ret
      exact ⟨w.heap.size, rfl, h1, Nat.le_refl _, hb⟩
end Go.Proofs.YtofflhhlacdgfaaDoor
namespace Go.Proofs.YtofflhhlacdgfaaDoor
open Go.RowKit
set_option maxRecDepth 100000

set_option maxHeartbeats 1000000 in
theorem turnCn (x : Int) (a b c : Nat) (ha : 0 < a) (ha2 : a < 32) (hb : 0 < b) (hb2 : b < 32) (hc : 0 < c) (hc2 : c < 32) (w : World) :
    Calls Tryd.prog 154 #[.int .u32 x, .agg #[.int .i64 a, .int .i64 b, .int .i64 c]] w fun e w' => e = .returned (.int .u32 (xr (xr (rot x a) (rot x b)) (rot x c))) ∧ Below w.heap.size w w' := by
  go_enter Tryd.func154, Tryd.ntmps154
  go_wp2
  go_quiet (first | (go_at_call_of 161 (Value.int IntKind.i64 (a : Int)); refine Calls.quiet_of (turnRn x a ha ha2 _ rfl _)) | (go_at_call_of 161 (Value.int IntKind.i64 (b : Int)); refine Calls.quiet_of (turnRn x b hb hb2 _ rfl _)) | (go_at_call_of 161 (Value.int IntKind.i64 (c : Int)); refine Calls.quiet_of (turnRn x c hc hc2 _ rfl _)))
  go_wp2
  go_ret
  exact ⟨rfl, bel_dN ((Below.refl _ _).alloc (Nat.le_refl _) _) _⟩

set_option maxHeartbeats 1000000 in
theorem shiftCn (x : Int) (a b c : Nat) (ha : 0 < a) (ha2 : a < 32) (hb : 0 < b) (hb2 : b < 32) (hc : 0 < c) (hc2 : c < 32) (w : World) :
    Calls Tryd.prog 160 #[.int .u32 x, .agg #[.int .i64 a, .int .i64 b, .int .i64 c]] w fun e w' => e = .returned (.int .u32 (xr (xr (rot x a) (rot x b)) (x / 2 ^ c))) ∧ Below w.heap.size w w' := by
  have hc3 : ¬ ((c : Int) < 0) := by omega
  go_enter Tryd.func160, Tryd.ntmps160
  go_wp2
  go_quiet (first | (go_at_call_of 161 (Value.int IntKind.i64 (a : Int)); refine Calls.quiet_of (turnRn x a ha ha2 _ rfl _)) | (go_at_call_of 161 (Value.int IntKind.i64 (b : Int)); refine Calls.quiet_of (turnRn x b hb hb2 _ rfl _)))
  go_wp2
  go_ret
  exact ⟨rfl, bel_dN ((Below.refl _ _).alloc (Nat.le_refl _) _) _⟩

theorem turnG0n (x : Int) (w : World) : Calls Tryd.prog 154 #[.int .u32 x, .agg #[.int .i64 2, .int .i64 13, .int .i64 22]] w fun e w' => e = .returned (.int .u32 (bS0 x)) ∧ Below w.heap.size w w' :=
  turnCn x 2 13 22 (by omega) (by omega) (by omega) (by omega) (by omega) (by omega) w
theorem turnG1n (x : Int) (w : World) : Calls Tryd.prog 154 #[.int .u32 x, .agg #[.int .i64 6, .int .i64 11, .int .i64 25]] w fun e w' => e = .returned (.int .u32 (bS1 x)) ∧ Below w.heap.size w w' :=
  turnCn x 6 11 25 (by omega) (by omega) (by omega) (by omega) (by omega) (by omega) w
theorem shiftS0n (x : Int) (w : World) : Calls Tryd.prog 160 #[.int .u32 x, .agg #[.int .i64 7, .int .i64 18, .int .i64 3]] w fun e w' => e = .returned (.int .u32 (sS0 x)) ∧ Below w.heap.size w w' :=
  shiftCn x 7 18 3 (by omega) (by omega) (by omega) (by omega) (by omega) (by omega) w
theorem shiftS1n (x : Int) (w : World) : Calls Tryd.prog 160 #[.int .u32 x, .agg #[.int .i64 17, .int .i64 19, .int .i64 10]] w fun e w' => e = .returned (.int .u32 (sS1 x)) ∧ Below w.heap.size w w' :=
  shiftCn x 17 19 10 (by omega) (by omega) (by omega) (by omega) (by omega) (by omega) w

/-- Four cells and the box of turns, through whatever keeps what is there. -/
structure Nxn (w W : World) (g o T : Nat) (y0 y1 y9 y14 : Int) : Prop where
  fr : Below w.heap.size w W
  ar : Arr W T 139 (I64 [2, 13, 22, 6, 11, 25, 7, 18, 3, 17, 19, 10])
  c0 : W.cell? ⟨g, o, none⟩ = some (.int .u32 y0)
  c1 : W.cell? ⟨g, o + 1, none⟩ = some (.int .u32 y1)
  c9 : W.cell? ⟨g, o + 9, none⟩ = some (.int .u32 y9)
  c14 : W.cell? ⟨g, o + 14, none⟩ = some (.int .u32 y14)
theorem Nxn.go {w W W' : World} {g o T : Nat} {y0 y1 y9 y14 : Int} (h : Nxn w W g o T y0 y1 y9 y14) (hb : Below W.heap.size W W') : Nxn w W' g o T y0 y1 y9 y14 := by
  have hg : g < W.heap.size := World.block_lt_of_cell? W _ h.c0
  exact ⟨h.fr.trans (hb.mono h.fr.size), h.ar.kept hb, (hb.cell (p := ⟨g, o, none⟩) hg).trans h.c0, (hb.cell (p := ⟨g, o + 1, none⟩) hg).trans h.c1, (hb.cell (p := ⟨g, o + 9, none⟩) hg).trans h.c9, (hb.cell (p := ⟨g, o + 14, none⟩) hg).trans h.c14⟩
/-- What the walk reads. -/
def Nvn (g o T : Nat) (y0 y1 y9 y14 : Int) (W : World) : Prop :=
  W.cell? ⟨g, o, none⟩ = some (.int .u32 y0) ∧ W.cell? ⟨g, o + 1, none⟩ = some (.int .u32 y1) ∧ W.cell? ⟨g, o + 9, none⟩ = some (.int .u32 y9) ∧ W.cell? ⟨g, o + 14, none⟩ = some (.int .u32 y14) ∧
  W.cell? ⟨T, 6, none⟩ = some (.int .i64 7) ∧ W.cell? ⟨T, 7, none⟩ = some (.int .i64 18) ∧ W.cell? ⟨T, 8, none⟩ = some (.int .i64 3) ∧
  W.cell? ⟨T, 9, none⟩ = some (.int .i64 17) ∧ W.cell? ⟨T, 10, none⟩ = some (.int .i64 19) ∧ W.cell? ⟨T, 11, none⟩ = some (.int .i64 10)
theorem Nxn.all {w W : World} {g o T : Nat} {y0 y1 y9 y14 : Int} (h : Nxn w W g o T y0 y1 y9 y14) : Nvn g o T y0 y1 y9 y14 W :=
  ⟨h.c0, h.c1, h.c9, h.c14, h.ar.i64 6 (by simp), h.ar.i64 7 (by simp), h.ar.i64 8 (by simp), h.ar.i64 9 (by simp), h.ar.i64 10 (by simp), h.ar.i64 11 (by simp)⟩

set_option maxHeartbeats 2000000 in
theorem nextCn (g o n c : Nat) (y0 y1 y9 y14 : Int) (w : World) (hn : 14 < n) (hc0 : w.cell? ⟨g, o, none⟩ = some (.int .u32 y0)) (hc1 : w.cell? ⟨g, o + 1, none⟩ = some (.int .u32 y1)) (hc9 : w.cell? ⟨g, o + 9, none⟩ = some (.int .u32 y9)) (hc14 : w.cell? ⟨g, o + 14, none⟩ = some (.int .u32 y14)) :
    Calls Tryd.prog 153 #[.slice (some ⟨g, o, none⟩) n c, .agg #[.int .i64 2, .int .i64 13, .int .i64 22, .int .i64 6, .int .i64 11, .int .i64 25, .int .i64 7, .int .i64 18, .int .i64 3, .int .i64 17, .int .i64 19, .int .i64 10]] w fun e w' => e = .returned (.int .u32 ((sS1 y14 + y9 + sS0 y1 + y0) % 4294967296)) ∧ Below w.heap.size w w' := by
  have hg : g < w.heap.size := World.block_lt_of_cell? w _ hc0
  obtain ⟨W, hW⟩ : ∃ W, W = w.alloc (.cells #[.int .i64 2, .int .i64 13, .int .i64 22, .int .i64 6, .int .i64 11, .int .i64 25, .int .i64 7, .int .i64 18, .int .i64 3, .int .i64 17, .int .i64 19, .int .i64 10] 139) := ⟨_, rfl⟩
  have hB : Below w.heap.size w W := by rw [hW]; exact (Below.refl _ _).alloc (Nat.le_refl _) _
  have hA : Arr W w.heap.size 139 (I64 [2, 13, 22, 6, 11, 25, 7, 18, 3, 17, 19, 10]) := by rw [hW]; exact Arr.new w (I64 [2, 13, 22, 6, 11, 25, 7, 18, 3, 17, 19, 10]) _
  have NX : Nxn w W.drew g o w.heap.size y0 y1 y9 y14 := ⟨hB.drew, hA.drew, (hB.cell (p := ⟨g, o, none⟩) hg).trans hc0, (hB.cell (p := ⟨g, o + 1, none⟩) hg).trans hc1, (hB.cell (p := ⟨g, o + 9, none⟩) hg).trans hc9, (hB.cell (p := ⟨g, o + 14, none⟩) hg).trans hc14⟩
  have p14 : (14 : Int) < (n : Int) := by omega
  have p9 : (9 : Int) < (n : Int) := by omega
  have p1 : (1 : Int) < (n : Int) := by omega
  have p0 : 0 < n := by omega
  clear hB hA hc0 hc1 hc9 hc14 hg
  go_enter Tryd.func153, Tryd.ntmps153
  go_wp2
  rw [← hW]
  clear hW
  go_region_held3 (fun W => W.cell? ⟨g, o, none⟩ = some (.int .u32 y0) ∧ W.cell? ⟨g, o + 1, none⟩ = some (.int .u32 y1) ∧ W.cell? ⟨g, o + 9, none⟩ = some (.int .u32 y9) ∧ W.cell? ⟨g, o + 14, none⟩ = some (.int .u32 y14) ∧ W.cell? ⟨w.heap.size, 6, none⟩ = some (.int .i64 7) ∧ W.cell? ⟨w.heap.size, 7, none⟩ = some (.int .i64 18) ∧ W.cell? ⟨w.heap.size, 8, none⟩ = some (.int .i64 3) ∧ W.cell? ⟨w.heap.size, 9, none⟩ = some (.int .i64 17) ∧ W.cell? ⟨w.heap.size, 10, none⟩ = some (.int .i64 19) ∧ W.cell? ⟨w.heap.size, 11, none⟩ = some (.int .i64 10))
    (exact NX.all)
    ((first
      | (go_at_call_of 160 (Value.int IntKind.u32 y14); refine (shiftS1n y14 _).mono ?_; rintro e w' ⟨rfl, hbd⟩; replace NX := NX.go hbd)
      | (go_at_call_of 160 (Value.int IntKind.u32 y1); refine (shiftS0n y1 _).mono ?_; rintro e w' ⟨rfl, hbd⟩; replace NX := NX.go hbd)))
  all_goals
    have hb := NX.fr
    have hz : IntKind.u32.wrap (IntKind.u32.wrap (IntKind.u32.wrap (sS1 y14 + y9) + sS0 y1) + y0) = (sS1 y14 + y9 + sS0 y1 + y0) % 4294967296 := by
      simp only [IntKind.wrap_u32]; omega
    generalize IntKind.u32.wrap (IntKind.u32.wrap (IntKind.u32.wrap (sS1 y14 + y9) + sS0 y1) + y0) = z at hz ⊢
    have HZ : Hid _ := hz
    clear hz NX
    go_wp2
    go_ret
    exact ⟨by rw [← HZ.out]; rfl, hb⟩
end Go.Proofs.YtofflhhlacdgfaaDoor
namespace Go.Proofs.YtofflhhlacdgfaaDoor
open Go.RowKit

abbrev U64 (xs : List Int) : List Value := xs.map (Value.int .u64)
theorem Arr.u64 {w : World} {g : Nat} {t : TypeId} {xs : List Int} (h : Arr w g t (U64 xs)) (j : Nat) (hj : j < xs.length) : w.cell? ⟨g, j, none⟩ = some (.int .u64 (xs.getD j 0)) := by
  rw [h.cell j]; simp [hj]
theorem Arr.setW {w : World} {g : Nat} {t : TypeId} {a0 a1 a2 a3 a4 a5 a6 a7 : Int} (h : Arr w g t (U64 [a0, a1, a2, a3, a4, a5, a6, a7])) (l0 l1 l2 l3 l4 l5 l6 l7 : Int) :
    Arr ((((((((w.setCell ⟨g, 0, none⟩ (.int .u64 l0)).setCell ⟨g, 1, none⟩ (.int .u64 l1)).setCell ⟨g, 2, none⟩ (.int .u64 l2)).setCell ⟨g, 3, none⟩ (.int .u64 l3)).setCell ⟨g, 4, none⟩ (.int .u64 l4)).setCell ⟨g, 5, none⟩ (.int .u64 l5)).setCell ⟨g, 6, none⟩ (.int .u64 l6)).setCell ⟨g, 7, none⟩ (.int .u64 l7))
      g t (U64 [l0, l1, l2, l3, l4, l5, l6, l7]) :=
  (((((((h.set 0 (.int .u64 l0)).set 1 (.int .u64 l1)).set 2 (.int .u64 l2)).set 3 (.int .u64 l3)).set 4 (.int .u64 l4)).set 5 (.int .u64 l5)).set 6 (.int .u64 l6)).set 7 (.int .u64 l7)

theorem wrap_u64 (n : Int) : IntKind.u64.wrap n = n % 18446744073709551616 := by simp [IntKind.wrap, IntKind.bits, IntKind.signed]
theorem wraps_u64 (n : Int) (h0 : 0 ≤ n) (h1 : n < 2 ^ 64) : IntKind.u64.wrap n = n := by rw [wrap_u64]; omega
theorem u64_low {x : Int} (h0 : 0 ≤ x) (h1 : x < 18446744073709551616) : bits .and .u64 x 4294967295 = x % 4294967296 := bits_mask .u64 64 (by decide) wraps_u64 32 (by decide) x h0 h1
theorem u64_or8 {x y : Int} (h0 : 0 ≤ x) (h1 : x < 18446744073709551616) (h2 : x % 256 = 0) (h3 : 0 ≤ y) (h4 : y < 256) : bits .or .u64 x y = x + y :=
  bits_join .u64 64 (by decide) wraps_u64 8 x y h0 (by simpa using h2) (by simpa using h1) h3 (by simpa using h4) (by omega)

/-- A word turned right by n. -/
def rotw (x : Int) (n : Nat) : Int := bits .or .u64 (x / 2 ^ n) (x * 2 ^ (64 - n) % 18446744073709551616)
def xrw (x y : Int) : Int := bits .xor .u64 x y
def ndw (x y : Int) : Int := bits .and .u64 x y
def tS0 (x : Int) : Int := xrw (xrw (rotw x 1) (rotw x 8)) (x / 2 ^ 7)
def tS1 (x : Int) : Int := xrw (xrw (rotw x 19) (rotw x 61)) (x / 2 ^ 6)
def cS0 (x : Int) : Int := xrw (xrw (rotw x 28) (rotw x 34)) (rotw x 39)
def cS1 (x : Int) : Int := xrw (xrw (rotw x 14) (rotw x 18)) (rotw x 41)
def chow (e f g : Int) : Int := xrw (ndw e f) (ndw (xrw IntKind.u64.max e) g)
def majw (a b c : Int) : Int := xrw (xrw (ndw a b) (ndw a c)) (ndw b c)

/-- The first m bytes of word j of a block. -/
def wvw (xs : List Int) (j : Nat) : Nat → Int
  | 0 => 0
  | m + 1 => wvw xs j m * 256 + xs.getD (8 * j + m) 0
/-- The word behind these. -/
def nextWw (xs l : List Int) : Int :=
  if l.length < 16 then wvw xs l.length 8
  else (l.getD (l.length - 16) 0 + tS0 (l.getD (l.length - 15) 0) + l.getD (l.length - 7) 0 + tS1 (l.getD (l.length - 2) 0)) % 18446744073709551616
def schedW (xs : List Int) : Nat → List Int
  | 0 => []
  | k + 1 => schedW xs k ++ [nextWw xs (schedW xs k)]
theorem schedW_len (xs : List Int) (k : Nat) : (schedW xs k).length = k := by
  induction k with
  | zero => rfl
  | succ k ih => simp [schedW, ih]

def KW : List Int := [4794697086780616226, 8158064640168781261, 13096744586834688815, 16840607885511220156, 4131703408338449720, 6480981068601479193, 10538285296894168987, 12329834152419229976, 15566598209576043074, 1334009975649890238, 2608012711638119052, 6128411473006802146, 8268148722764581231, 9286055187155687089, 11230858885718282805, 13951009754708518548, 16472876342353939154, 17275323862435702243, 1135362057144423861, 2597628984639134821, 3308224258029322869, 5365058923640841347, 6679025012923562964, 8573033837759648693, 10970295158949994411, 12119686244451234320, 12683024718118986047, 13788192230050041572, 14330467153632333762, 15395433587784984357, 489312712824947311, 1452737877330783856, 2861767655752347644, 3322285676063803686, 5560940570517711597, 5996557281743188959, 7280758554555802590, 8532644243296465576, 9350256976987008742, 10552545826968843579, 11727347734174303076, 12113106623233404929, 14000437183269869457, 14369950271660146224, 15101387698204529176, 15463397548674623760, 17586052441742319658, 1182934255886127544, 1847814050463011016, 2177327727835720531, 2830643537854262169, 3796741975233480872, 4115178125766777443, 5681478168544905931, 6601373596472566643, 7507060721942968483, 8399075790359081724, 8693463985226723168, 9568029438360202098, 10144078919501101548, 10430055236837252648, 11840083180663258601, 13761210420658862357, 14299343276471374635, 14566680578165727644, 15097957966210449927, 16922976911328602910, 17689382322260857208, 500013540394364858, 748580250866718886, 1242879168328830382, 1977374033974150939, 2944078676154940804, 3659926193048069267, 4368137639120453308, 4836135668995329356, 5532061633213252278, 6448918945643986474, 6902733635092675308, 7801388544844847127]
theorem getD_memW {xs : List Int} {k : Nat} (hk : k < xs.length) : xs.getD k 0 ∈ xs := by
  rw [List.getD_eq_getElem?_getD, List.getElem?_eq_getElem hk]; exact List.getElem_mem _
theorem KW_word : ∀ x ∈ KW, 0 ≤ x ∧ x < 18446744073709551616 := by decide
theorem KW_len : KW.length = 80 := rfl
def H0W : List Int := [7640891576956012808, 13503953896175478587, 4354685564936845355, 11912009170470909681, 5840696475078001361, 11170449401992604703, 2270897969802886507, 6620516959819538809]
theorem H0W_word : ∀ x ∈ H0W, 0 ≤ x ∧ x < 18446744073709551616 := by decide
theorem H0W_len : H0W.length = 8 := rfl

/-- One round, on the words and the round's word. -/
def stpw8 (a b c d e f g h kw : Int) : List Int :=
  [(h + cS1 e + chow e f g + kw + (cS0 a + majw a b c)) % 18446744073709551616, a, b, c, (d + (h + cS1 e + chow e f g + kw)) % 18446744073709551616, e, f, g]
def stpw (st : List Int) (kw : Int) : List Int :=
  match st with
  | [a, b, c, d, e, f, g, h] => stpw8 a b c d e f g h kw
  | _ => st
def rndw (ws ks st : List Int) : Nat → List Int
  | 0 => st
  | k + 1 => stpw (rndw ws ks st k) (ws.getD k 0 + ks.getD k 0)
theorem stpw_len {st : List Int} (h : st.length = 8) (kw : Int) : (stpw st kw).length = 8 := by
  obtain ⟨a, b, c, d, e, f, g, i, rfl⟩ := list8 h
  rfl
theorem rndw_len (ws ks : List Int) {st : List Int} (h : st.length = 8) (k : Nat) : (rndw ws ks st k).length = 8 := by
  induction k with
  | zero => exact h
  | succ k ih => exact stpw_len ih _
/-- What a block makes of eight words. -/
def blkw (h bs : List Int) : List Int := List.zipWith (fun x y => (x + y) % 18446744073709551616) h (rndw (schedW bs 80) KW h 80)
theorem blkw_len {h : List Int} (hh : h.length = 8) (bs : List Int) : (blkw h bs).length = 8 := by
  simp [blkw, rndw_len _ _ hh, hh]
theorem blkw_word (h bs : List Int) : ∀ x ∈ blkw h bs, 0 ≤ x ∧ x < 18446744073709551616 := by
  intro x hx
  simp only [blkw, List.mem_iff_getElem?] at hx
  obtain ⟨i, hi⟩ := hx
  rw [List.getElem?_zipWith] at hi
  split at hi
  · simp only [Option.some.injEq] at hi
    omega
  · cases hi
theorem wvw_range {xs : List Int} (h : ∀ x ∈ xs, 0 ≤ x ∧ x < 256) (j m : Nat) : 0 ≤ wvw xs j m ∧ wvw xs j m < 256 ^ m := by
  induction m with
  | zero => simp [wvw]
  | succ m ih =>
    have hx : 0 ≤ xs.getD (8 * j + m) 0 ∧ xs.getD (8 * j + m) 0 < 256 := by
      by_cases hl : 8 * j + m < xs.length
      · exact get_byte h hl
      · rw [List.getD_eq_getElem?_getD, List.getElem?_eq_none (by omega)]
        simp
    obtain ⟨p, hp⟩ : ∃ p : Int, p = 256 ^ m := ⟨_, rfl⟩
    rw [Int.pow_succ, ← hp]
    rw [← hp] at ih
    simp only [wvw]
    omega
theorem schedW_snoc (xs : List Int) (k : Nat) : schedW xs (k + 1) = schedW xs k ++ [nextWw xs (schedW xs k)] := rfl

/-- The two halves of a word. -/
def hv2 (x : Int) : List Int := [x / 4294967296, x % 4294967296]
def halves (l : List Int) : List Int := l.flatMap hv2
theorem halves_len (l : List Int) : (halves l).length = 2 * l.length := by
  induction l with
  | nil => rfl
  | cons x l ih => simp only [halves, List.flatMap_cons, List.length_append, List.length_cons] at ih ⊢; rw [ih]; simp [hv2]; omega
theorem halves_snoc {l : List Int} {k : Nat} {x : Int} (h : l.take (k + 1) = l.take k ++ [x]) : halves (l.take (k + 1)) = halves (l.take k) ++ hv2 x := by
  rw [h]; simp [halves]
theorem nextWw_word {xs : List Int} (hb : ∀ x ∈ xs, 0 ≤ x ∧ x < 256) (l : List Int) : 0 ≤ nextWw xs l ∧ nextWw xs l < 18446744073709551616 := by
  unfold nextWw
  split
  · have := wvw_range hb l.length 8
    omega
  · omega
theorem schedW_word {xs : List Int} (hb : ∀ x ∈ xs, 0 ≤ x ∧ x < 256) (k : Nat) : ∀ x ∈ schedW xs k, 0 ≤ x ∧ x < 18446744073709551616 := by
  induction k with
  | zero => intro x hx; cases hx
  | succ k ih =>
    intro x hx
    rw [schedW_snoc] at hx
    rcases List.mem_append.1 hx with h | h
    · exact ih x h
    · simp only [List.mem_cons, List.not_mem_nil, or_false] at h
      rw [h]; exact nextWw_word hb _
/-- What Wide tells. -/
def wideOf (xs : List Int) : List Int := if xs.length = 128 then halves (schedW xs 80) else []
theorem wideOf_len (xs : List Int) : (wideOf xs).length ≤ 160 := by
  unfold wideOf
  split
  · rw [halves_len, schedW_len]; omega
  · simp
theorem wideOf_int {xs : List Int} (hb : ∀ x ∈ xs, 0 ≤ x ∧ x < 256) : ∀ y ∈ wideOf xs, -9223372036854775808 ≤ y ∧ y ≤ 9223372036854775807 := by
  unfold wideOf
  split
  · intro y hy
    obtain ⟨x, hx, h⟩ := List.mem_flatMap.1 hy
    have hr := schedW_word hb 80 x hx
    simp only [hv2, List.mem_cons, List.not_mem_nil, or_false] at h
    omega
  · simp

/-- What Round512 tells. -/
def r5o (i : Int) : Bool := decide (0 ≤ i ∧ i < 80)
def r5h (i : Int) : Int := if r5o i = true then KW.getD i.toNat 0 / 4294967296 else 0
def r5l (i : Int) : Int := if r5o i = true then KW.getD i.toNat 0 % 4294967296 else 0
theorem r5_no {i : Int} (h : ¬ (0 ≤ i ∧ i < 80)) : r5h i = 0 ∧ r5l i = 0 ∧ r5o i = false := by
  have e : r5o i = false := by unfold r5o; simp only [h, decide_false]
  unfold r5h r5l
  rw [e]
  exact ⟨rfl, rfl, rfl⟩
end Go.Proofs.YtofflhhlacdgfaaDoor
