/-
  What is proved here: plain mathematics on lists of numbers: what SHA-256 makes of eight words and a block of 64 bytes; no program is spoken of, no condition.
-/
import Derived.Test.YtgapfkiceolceaaDoorW1
import Derived.Laws.BitsLemmas
namespace Go.Proofs.YtgapfkiceolceaaDoor
open Go.RowKit

/-- A word turned right by n. -/
def rot (x : Int) (n : Nat) : Int := bits .or .u32 (x / 2 ^ n) (x * 2 ^ (32 - n) % 4294967296)
def xr (x y : Int) : Int := bits .xor .u32 x y
def nd (x y : Int) : Int := bits .and .u32 x y
def sS0 (x : Int) : Int := xr (xr (rot x 7) (rot x 18)) (x / 2 ^ 3)
def sS1 (x : Int) : Int := xr (xr (rot x 17) (rot x 19)) (x / 2 ^ 10)
def bS0 (x : Int) : Int := xr (xr (rot x 2) (rot x 13)) (rot x 22)
def bS1 (x : Int) : Int := xr (xr (rot x 6) (rot x 11)) (rot x 25)
def cho (e f g : Int) : Int := xr (nd e f) (nd (xr IntKind.u32.max e) g)
def maj (a b c : Int) : Int := xr (xr (nd a b) (nd a c)) (nd b c)

/-- The first m bytes of word j of a block. -/
def wv (xs : List Int) (j : Nat) : Nat → Int
  | 0 => 0
  | m + 1 => wv xs j m * 256 + xs.getD (4 * j + m) 0
/-- The word behind these. -/
def nextW (xs l : List Int) : Int :=
  if l.length < 16 then wv xs l.length 4
  else (l.getD (l.length - 16) 0 + sS0 (l.getD (l.length - 15) 0) + l.getD (l.length - 7) 0 + sS1 (l.getD (l.length - 2) 0)) % 4294967296
def schedL (xs : List Int) : Nat → List Int
  | 0 => []
  | k + 1 => schedL xs k ++ [nextW xs (schedL xs k)]
theorem schedL_len (xs : List Int) (k : Nat) : (schedL xs k).length = k := by
  induction k with
  | zero => rfl
  | succ k ih => simp [schedL, ih]

def KS : List Int := [1116352408, 1899447441, 3049323471, 3921009573, 961987163, 1508970993, 2453635748, 2870763221, 3624381080, 310598401, 607225278, 1426881987, 1925078388, 2162078206, 2614888103, 3248222580, 3835390401, 4022224774, 264347078, 604807628, 770255983, 1249150122, 1555081692, 1996064986, 2554220882, 2821834349, 2952996808, 3210313671, 3336571891, 3584528711, 113926993, 338241895, 666307205, 773529912, 1294757372, 1396182291, 1695183700, 1986661051, 2177026350, 2456956037, 2730485921, 2820302411, 3259730800, 3345764771, 3516065817, 3600352804, 4094571909, 275423344, 430227734, 506948616, 659060556, 883997877, 958139571, 1322822218, 1537002063, 1747873779, 1955562222, 2024104815, 2227730452, 2361852424, 2428436474, 2756734187, 3204031479, 3329325298]
theorem KS_len : KS.length = 64 := rfl
def H0 : List Int := [1779033703, 3144134277, 1013904242, 2773480762, 1359893119, 2600822924, 528734635, 1541459225]

/-- One round, on the words and the round's word. -/
def stp8 (a b c d e f g h kw : Int) : List Int :=
  [(h + bS1 e + cho e f g + kw + (bS0 a + maj a b c)) % 4294967296, a, b, c, (d + (h + bS1 e + cho e f g + kw)) % 4294967296, e, f, g]
def stp (st : List Int) (kw : Int) : List Int :=
  match st with
  | [a, b, c, d, e, f, g, h] => stp8 a b c d e f g h kw
  | _ => st
def rnds (ws ks st : List Int) : Nat → List Int
  | 0 => st
  | k + 1 => stp (rnds ws ks st k) (ws.getD k 0 + ks.getD k 0)
theorem stp_len {st : List Int} (h : st.length = 8) (kw : Int) : (stp st kw).length = 8 := by
  obtain ⟨a, b, c, d, e, f, g, i, rfl⟩ := list8 h
  rfl
theorem rnds_len (ws ks : List Int) {st : List Int} (h : st.length = 8) (k : Nat) : (rnds ws ks st k).length = 8 := by
  induction k with
  | zero => exact h
  | succ k ih => exact stp_len ih _
/-- What a block makes of eight words. -/
def blk (h bs : List Int) : List Int := List.zipWith (fun x y => (x + y) % 4294967296) h (rnds (schedL bs 64) KS h 64)
theorem blk_len {h : List Int} (hh : h.length = 8) (bs : List Int) : (blk h bs).length = 8 := by
  simp [blk, rnds_len _ _ hh, hh]
theorem blk_word (h bs : List Int) : ∀ x ∈ blk h bs, 0 ≤ x ∧ x < 4294967296 := by
  intro x hx
  simp only [blk, List.mem_iff_getElem?] at hx
  obtain ⟨i, hi⟩ := hx
  rw [List.getElem?_zipWith] at hi
  split at hi
  · simp only [Option.some.injEq] at hi
    omega
  · cases hi

theorem bits_or_comm (x y : Int) : bits .or .u32 x y = bits .or .u32 y x := by
  simp [bits, Nat.or_comm]

theorem u32_or8 {x y : Int} (h0 : 0 ≤ x) (h1 : x < 4294967296) (h2 : x % 256 = 0) (h3 : 0 ≤ y) (h4 : y < 256) : bits .or .u32 x y = x + y :=
  bits_join .u32 32 (by decide) (fun n a b => by rw [IntKind.wrap_u32]; omega) 8 x y h0 (by simpa using h2) (by simpa using h1) h3 (by simpa using h4) (by omega)
theorem u32_or16 {x y : Int} (h0 : 0 ≤ x) (h1 : x < 4294967296) (h2 : x % 65536 = 0) (h3 : 0 ≤ y) (h4 : y < 65536) : bits .or .u32 x y = x + y :=
  bits_join .u32 32 (by decide) (fun n a b => by rw [IntKind.wrap_u32]; omega) 16 x y h0 (by simpa using h2) (by simpa using h1) h3 (by simpa using h4) (by omega)
theorem u32_or24 {x y : Int} (h0 : 0 ≤ x) (h1 : x < 4294967296) (h2 : x % 16777216 = 0) (h3 : 0 ≤ y) (h4 : y < 16777216) : bits .or .u32 x y = x + y :=
  bits_join .u32 32 (by decide) (fun n a b => by rw [IntKind.wrap_u32]; omega) 24 x y h0 (by simpa using h2) (by simpa using h1) h3 (by simpa using h4) (by omega)

theorem neg_mask (n : Nat) (h0 : 0 < n) (h1 : n < 32) : bits .and .u64 (IntKind.u64.wrap (-(n : Int))) 31 = ((32 - n : Nat) : Int) := by
  have : ∀ k : Fin 32, 0 < k.val → bits .and .u64 (IntKind.u64.wrap (-(k.val : Int))) 31 = ((32 - k.val : Nat) : Int) := by decide
  exact this ⟨n, h1⟩ h0

end Go.Proofs.YtgapfkiceolceaaDoor
