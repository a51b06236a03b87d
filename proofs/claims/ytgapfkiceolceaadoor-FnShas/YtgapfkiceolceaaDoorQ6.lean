/-
  What is proved here: plain mathematics on lists of numbers: what SHA-256 makes of eight words and a block of 64 bytes; no program is spoken of, no condition; plain mathematics on the words of a block: how they fill up byte by byte, and then word by word; no condition; plain mathematics: eight words that go through blocks of 64 bytes; no condition; plain mathematics on lists of numbers: what SHA-512 makes of eight words and a block of 128 bytes; no program is spoken of, no condition.
-/
import Derived.Test.YtgapfkiceolceaaDoorQ5
import Derived.Laws.BitsLemmas
import Derived.Test.YtgapfkiceolceaaDoorQ2
namespace Go.Proofs.YtgapfkiceolceaaDoor
open Go.RowKit

/-- A word turned right by n. -/
def rot (x : Int) (n : Nat) : Int := bits .or .u32 (x / 2 ^ n) (x * 2 ^ (32 - n) % 4294967296)
def xr (x y : Int) : Int := bits .xor .u32 x y
def nd (x y : Int) : Int := bits .and .u32 x y
def sS0 (x : Int) : Int := xr (xr (rot x 7) (rot x 18)) (x / 2 ^ 3)
def sS1 (x : Int) : Int := xr (xr (rot x 17) (rot x 19)) (x / 2 ^ 10)
def bS0 (x : Int) : Int := xr (xr (rot x 2) (rot x 13)) (rot x 22)
def bS1 (x : Int) : Int := xr (xr (rot x 6) (rot x 11)) (rot x 25)
def cho (e f g : Int) : Int := xr (nd e f) (nd (xr IntKind.u32.max e) g)
def maj (a b c : Int) : Int := xr (xr (nd a b) (nd a c)) (nd b c)

/-- The first m bytes of word j of a block. -/
def wv (xs : List Int) (j : Nat) : Nat → Int
  | 0 => 0
  | m + 1 => wv xs j m * 256 + xs.getD (4 * j + m) 0
/-- The word behind these. -/
def nextW (xs l : List Int) : Int :=
  if l.length < 16 then wv xs l.length 4
  else (l.getD (l.length - 16) 0 + sS0 (l.getD (l.length - 15) 0) + l.getD (l.length - 7) 0 + sS1 (l.getD (l.length - 2) 0)) % 4294967296
def schedL (xs : List Int) : Nat → List Int
  | 0 => []
  | k + 1 => schedL xs k ++ [nextW xs (schedL xs k)]
theorem schedL_len (xs : List Int) (k : Nat) : (schedL xs k).length = k := by
  induction k with
  | zero => rfl
  | succ k ih => simp [schedL, ih]

def KS : List Int := [1116352408, 1899447441, 3049323471, 3921009573, 961987163, 1508970993, 2453635748, 2870763221, 3624381080, 310598401, 607225278, 1426881987, 1925078388, 2162078206, 2614888103, 3248222580, 3835390401, 4022224774, 264347078, 604807628, 770255983, 1249150122, 1555081692, 1996064986, 2554220882, 2821834349, 2952996808, 3210313671, 3336571891, 3584528711, 113926993, 338241895, 666307205, 773529912, 1294757372, 1396182291, 1695183700, 1986661051, 2177026350, 2456956037, 2730485921, 2820302411, 3259730800, 3345764771, 3516065817, 3600352804, 4094571909, 275423344, 430227734, 506948616, 659060556, 883997877, 958139571, 1322822218, 1537002063, 1747873779, 1955562222, 2024104815, 2227730452, 2361852424, 2428436474, 2756734187, 3204031479, 3329325298]
theorem KS_len : KS.length = 64 := rfl
def H0 : List Int := [1779033703, 3144134277, 1013904242, 2773480762, 1359893119, 2600822924, 528734635, 1541459225]

/-- One round, on the words and the round's word. -/
def stp8 (a b c d e f g h kw : Int) : List Int :=
  [(h + bS1 e + cho e f g + kw + (bS0 a + maj a b c)) % 4294967296, a, b, c, (d + (h + bS1 e + cho e f g + kw)) % 4294967296, e, f, g]
def stp (st : List Int) (kw : Int) : List Int :=
  match st with
  | [a, b, c, d, e, f, g, h] => stp8 a b c d e f g h kw
  | _ => st
def rnds (ws ks st : List Int) : Nat → List Int
  | 0 => st
  | k + 1 => stp (rnds ws ks st k) (ws.getD k 0 + ks.getD k 0)
theorem stp_len {st : List Int} (h : st.length = 8) (kw : Int) : (stp st kw).length = 8 := by
  obtain ⟨a, b, c, d, e, f, g, i, rfl⟩ := list8 h
  rfl
theorem rnds_len (ws ks : List Int) {st : List Int} (h : st.length = 8) (k : Nat) : (rnds ws ks st k).length = 8 := by
  induction k with
  | zero => exact h
  | succ k ih => exact stp_len ih _
/-- What a block makes of eight words. -/
def blk (h bs : List Int) : List Int := List.zipWith (fun x y => (x + y) % 4294967296) h (rnds (schedL bs 64) KS h 64)
theorem blk_len {h : List Int} (hh : h.length = 8) (bs : List Int) : (blk h bs).length = 8 := by
  simp [blk, rnds_len _ _ hh, hh]
theorem blk_word (h bs : List Int) : ∀ x ∈ blk h bs, 0 ≤ x ∧ x < 4294967296 := by
  intro x hx
  simp only [blk, List.mem_iff_getElem?] at hx
  obtain ⟨i, hi⟩ := hx
  rw [List.getElem?_zipWith] at hi
  split at hi
  · simp only [Option.some.injEq] at hi
    omega
  · cases hi

theorem bits_or_comm (x y : Int) : bits .or .u32 x y = bits .or .u32 y x := by
  simp [bits, Nat.or_comm]

theorem u32_or8 {x y : Int} (h0 : 0 ≤ x) (h1 : x < 4294967296) (h2 : x % 256 = 0) (h3 : 0 ≤ y) (h4 : y < 256) : bits .or .u32 x y = x + y :=
  bits_join .u32 32 (by decide) (fun n a b => by rw [IntKind.wrap_u32]; omega) 8 x y h0 (by simpa using h2) (by simpa using h1) h3 (by simpa using h4) (by omega)
theorem u32_or16 {x y : Int} (h0 : 0 ≤ x) (h1 : x < 4294967296) (h2 : x % 65536 = 0) (h3 : 0 ≤ y) (h4 : y < 65536) : bits .or .u32 x y = x + y :=
  bits_join .u32 32 (by decide) (fun n a b => by rw [IntKind.wrap_u32]; omega) 16 x y h0 (by simpa using h2) (by simpa using h1) h3 (by simpa using h4) (by omega)
theorem u32_or24 {x y : Int} (h0 : 0 ≤ x) (h1 : x < 4294967296) (h2 : x % 16777216 = 0) (h3 : 0 ≤ y) (h4 : y < 16777216) : bits .or .u32 x y = x + y :=
  bits_join .u32 32 (by decide) (fun n a b => by rw [IntKind.wrap_u32]; omega) 24 x y h0 (by simpa using h2) (by simpa using h1) h3 (by simpa using h4) (by omega)

theorem neg_mask (n : Nat) (h0 : 0 < n) (h1 : n < 32) : bits .and .u64 (IntKind.u64.wrap (-(n : Int))) 31 = ((32 - n : Nat) : Int) := by
  have : ∀ k : Fin 32, 0 < k.val → bits .and .u64 (IntKind.u64.wrap (-(k.val : Int))) 31 = ((32 - k.val : Nat) : Int) := by decide
  exact this ⟨n, h1⟩ h0

end Go.Proofs.YtgapfkiceolceaaDoor
namespace Go.Proofs.YtgapfkiceolceaaDoor
open Go.RowKit

/-- The words behind i bytes. -/
def pl (xs : List Int) (i : Nat) : List Int := (List.range 64).map (fun j => wv xs j (min 4 (i - 4 * j)))
theorem pl_len (xs : List Int) (i : Nat) : (pl xs i).length = 64 := by simp [pl]
theorem pl_get (xs : List Int) (i j : Nat) (h : j < 64) : (pl xs i).getD j 0 = wv xs j (min 4 (i - 4 * j)) := by simp [pl, h]
theorem pl_zero (xs : List Int) : pl xs 0 = List.replicate 64 0 := by
  have e : pl xs 0 = (List.range 64).map (fun _ => (0 : Int)) := by simp only [pl, Nat.zero_sub, Nat.min_zero, wv]
  rw [e]; rfl

theorem wv_byte (xs : List Int) (hb : ∀ x ∈ xs, 0 ≤ x ∧ x < 256) (j m : Nat) : 0 ≤ wv xs j m ∧ wv xs j m < 256 ^ m := by
  induction m with
  | zero => simp [wv]
  | succ m ih =>
    have hx : 0 ≤ xs.getD (4 * j + m) 0 ∧ xs.getD (4 * j + m) 0 < 256 := by
      by_cases h : 4 * j + m < xs.length
      · exact hb _ (getD_mem h)
      · have : xs.getD (4 * j + m) 0 = 0 := by simp [Nat.le_of_not_lt h]
        rw [this]; omega
    simp only [wv, Int.pow_succ]
    omega

theorem pl_set (xs : List Int) (i : Nat) (v : Int) (hv : v = wv xs (i / 4) (i % 4)) :
    (U32 (pl xs i)).set (i / 4) (.int .u32 (v * 256 + xs.getD i 0)) = U32 (pl xs (i + 1)) := by
  subst hv
  apply List.ext_getElem
  · simp [pl_len]
  · intro j h1 h2
    have hj : j < 64 := by simpa [pl_len] using h2
    rw [List.getElem_set]
    have e1 : ∀ (k : Nat) (hk : j < (U32 (pl xs k)).length), (U32 (pl xs k))[j] = .int .u32 (wv xs j (min 4 (k - 4 * j))) := by intro k hk; simp [pl]
    rw [e1 (i + 1)]
    split
    · rename_i e
      subst e
      have e2 : min 4 (i + 1 - 4 * (i / 4)) = i % 4 + 1 := by omega
      have e3 : 4 * (i / 4) + i % 4 = i := by omega
      rw [e2]
      simp only [wv, e3]
    · rename_i e
      rw [e1 i]
      have e2 : min 4 (i + 1 - 4 * j) = min 4 (i - 4 * j) := by omega
      rw [e2]

theorem schedL_snoc (xs : List Int) (k : Nat) : schedL xs (k + 1) = schedL xs k ++ [nextW xs (schedL xs k)] := rfl

theorem schedL_low (xs : List Int) (k j : Nat) (hj : j < k) (hk : k ≤ 16) : (schedL xs k).getD j 0 = wv xs j 4 := by
  induction k with
  | zero => omega
  | succ k ih =>
    rw [schedL_snoc]
    by_cases e : j = k
    · subst e
      have hl := schedL_len xs j
      have h2 : (schedL xs j ++ [nextW xs (schedL xs j)]).getD j 0 = nextW xs (schedL xs j) := by
        simp [List.getD, hl]
      rw [h2]
      unfold nextW
      rw [if_pos (by omega), hl]
    · have hl := schedL_len xs k
      have h2 : (schedL xs k ++ [nextW xs (schedL xs k)]).getD j 0 = (schedL xs k).getD j 0 := by
        simp [List.getD, List.getElem?_append_left, hl, show j < k by omega]
      rw [h2]
      exact ih (by omega) (by omega)

theorem pl_end (xs : List Int) : pl xs 64 = schedL xs 16 ++ List.replicate (64 - 16) 0 := by
  apply List.ext_getElem
  · simp [pl_len, schedL_len]
  · intro j h1 h2
    have hj : j < 64 := by simpa [pl_len] using h1
    have e1 : ∀ h : j < (pl xs 64).length, (pl xs 64)[j] = wv xs j (min 4 (64 - 4 * j)) := by intro h; simp [pl]
    rw [e1 h1, List.getElem_append]
    split
    · rename_i h
      have h' : j < 16 := by simpa [schedL_len] using h
      have := schedL_low xs 16 j h' (by omega)
      rw [show min 4 (64 - 4 * j) = 4 by omega, ← this]
      simp [schedL_len, h']
    · rename_i h
      have h' : ¬ j < 16 := by simpa [schedL_len] using h
      rw [show min 4 (64 - 4 * j) = 0 by omega, List.getElem_replicate]
      rfl

theorem set_sched (xs : List Int) (k : Nat) (h : k < 64) (v : Int) (hv : v = nextW xs (schedL xs k)) :
    (U32 (schedL xs k ++ List.replicate (64 - k) 0)).set k (.int .u32 v) = U32 (schedL xs (k + 1) ++ List.replicate (64 - (k + 1)) 0) := by
  subst hv
  have e : 64 - k = (64 - (k + 1)) + 1 := by omega
  rw [schedL_snoc, e, List.replicate_succ]
  simp only [U32, List.map_append, List.map_cons]
  rw [List.set_append_right _ _ (by simp [schedL_len])]
  simp [schedL_len]

theorem sched_get (xs : List Int) (k j m : Nat) (h : j < k) : (schedL xs k ++ List.replicate m 0).getD j 0 = (schedL xs k).getD j 0 := by
  simp [List.getD, List.getElem?_append_left, schedL_len, h]

theorem nextW_high (xs : List Int) (k : Nat) (hk : 16 ≤ k) : nextW xs (schedL xs k) = ((schedL xs k).getD (k - 16) 0 + sS0 ((schedL xs k).getD (k - 15) 0) + (schedL xs k).getD (k - 7) 0 + sS1 ((schedL xs k).getD (k - 2) 0)) % 4294967296 := by
  unfold nextW
  rw [schedL_len, if_neg (by omega)]
end Go.Proofs.YtgapfkiceolceaaDoor
namespace Go.Proofs.YtgapfkiceolceaaDoor
open Go.RowKit

/-- The words behind k blocks. -/
def fld (hs l : List Int) : Nat → List Int
  | 0 => hs
  | k + 1 => blk (fld hs l k) ((l.drop (64 * k)).take 64)
theorem fld_len {hs : List Int} (h : hs.length = 8) (l : List Int) (k : Nat) : (fld hs l k).length = 8 := by
  induction k with
  | zero => exact h
  | succ k ih => exact blk_len ih _
theorem fld_word {hs : List Int} (h : ∀ x ∈ hs, 0 ≤ x ∧ x < 4294967296) (l : List Int) (k : Nat) : ∀ x ∈ fld hs l k, 0 ≤ x ∧ x < 4294967296 := by
  cases k with
  | zero => exact h
  | succ k => exact blk_word _ _
/-- The words behind all whole blocks, and what is left. -/
def allB (hs l : List Int) : List Int := fld hs l (l.length / 64)
def restB (l : List Int) : List Int := l.drop (64 * (l.length / 64))

end Go.Proofs.YtgapfkiceolceaaDoor
namespace Go.Proofs.YtgapfkiceolceaaDoor
open Go.RowKit

abbrev U64 (xs : List Int) : List Value := xs.map (Value.int .u64)
theorem Arr.u64 {w : World} {g : Nat} {t : TypeId} {xs : List Int} (h : Arr w g t (U64 xs)) (j : Nat) (hj : j < xs.length) : w.cell? ⟨g, j, none⟩ = some (.int .u64 (xs.getD j 0)) := by
  rw [h.cell j]; simp [hj]
theorem Arr.setW {w : World} {g : Nat} {t : TypeId} {a0 a1 a2 a3 a4 a5 a6 a7 : Int} (h : Arr w g t (U64 [a0, a1, a2, a3, a4, a5, a6, a7])) (l0 l1 l2 l3 l4 l5 l6 l7 : Int) :
    Arr ((((((((w.setCell ⟨g, 0, none⟩ (.int .u64 l0)).setCell ⟨g, 1, none⟩ (.int .u64 l1)).setCell ⟨g, 2, none⟩ (.int .u64 l2)).setCell ⟨g, 3, none⟩ (.int .u64 l3)).setCell ⟨g, 4, none⟩ (.int .u64 l4)).setCell ⟨g, 5, none⟩ (.int .u64 l5)).setCell ⟨g, 6, none⟩ (.int .u64 l6)).setCell ⟨g, 7, none⟩ (.int .u64 l7))
      g t (U64 [l0, l1, l2, l3, l4, l5, l6, l7]) :=
  (((((((h.set 0 (.int .u64 l0)).set 1 (.int .u64 l1)).set 2 (.int .u64 l2)).set 3 (.int .u64 l3)).set 4 (.int .u64 l4)).set 5 (.int .u64 l5)).set 6 (.int .u64 l6)).set 7 (.int .u64 l7)

theorem wrap_u64 (n : Int) : IntKind.u64.wrap n = n % 18446744073709551616 := by simp [IntKind.wrap, IntKind.bits, IntKind.signed]
theorem wraps_u64 (n : Int) (h0 : 0 ≤ n) (h1 : n < 2 ^ 64) : IntKind.u64.wrap n = n := by rw [wrap_u64]; omega
theorem u64_low {x : Int} (h0 : 0 ≤ x) (h1 : x < 18446744073709551616) : bits .and .u64 x 4294967295 = x % 4294967296 := bits_mask .u64 64 (by decide) wraps_u64 32 (by decide) x h0 h1
theorem u64_or8 {x y : Int} (h0 : 0 ≤ x) (h1 : x < 18446744073709551616) (h2 : x % 256 = 0) (h3 : 0 ≤ y) (h4 : y < 256) : bits .or .u64 x y = x + y :=
  bits_join .u64 64 (by decide) wraps_u64 8 x y h0 (by simpa using h2) (by simpa using h1) h3 (by simpa using h4) (by omega)

/-- A word turned right by n. -/
def rotw (x : Int) (n : Nat) : Int := bits .or .u64 (x / 2 ^ n) (x * 2 ^ (64 - n) % 18446744073709551616)
def xrw (x y : Int) : Int := bits .xor .u64 x y
def ndw (x y : Int) : Int := bits .and .u64 x y
def tS0 (x : Int) : Int := xrw (xrw (rotw x 1) (rotw x 8)) (x / 2 ^ 7)
def tS1 (x : Int) : Int := xrw (xrw (rotw x 19) (rotw x 61)) (x / 2 ^ 6)
def cS0 (x : Int) : Int := xrw (xrw (rotw x 28) (rotw x 34)) (rotw x 39)
def cS1 (x : Int) : Int := xrw (xrw (rotw x 14) (rotw x 18)) (rotw x 41)
def chow (e f g : Int) : Int := xrw (ndw e f) (ndw (xrw IntKind.u64.max e) g)
def majw (a b c : Int) : Int := xrw (xrw (ndw a b) (ndw a c)) (ndw b c)

/-- The first m bytes of word j of a block. -/
def wvw (xs : List Int) (j : Nat) : Nat → Int
  | 0 => 0
  | m + 1 => wvw xs j m * 256 + xs.getD (8 * j + m) 0
/-- The word behind these. -/
def nextWw (xs l : List Int) : Int :=
  if l.length < 16 then wvw xs l.length 8
  else (l.getD (l.length - 16) 0 + tS0 (l.getD (l.length - 15) 0) + l.getD (l.length - 7) 0 + tS1 (l.getD (l.length - 2) 0)) % 18446744073709551616
def schedW (xs : List Int) : Nat → List Int
  | 0 => []
  | k + 1 => schedW xs k ++ [nextWw xs (schedW xs k)]
theorem schedW_len (xs : List Int) (k : Nat) : (schedW xs k).length = k := by
  induction k with
  | zero => rfl
  | succ k ih => simp [schedW, ih]

def KW : List Int := [4794697086780616226, 8158064640168781261, 13096744586834688815, 16840607885511220156, 4131703408338449720, 6480981068601479193, 10538285296894168987, 12329834152419229976, 15566598209576043074, 1334009975649890238, 2608012711638119052, 6128411473006802146, 8268148722764581231, 9286055187155687089, 11230858885718282805, 13951009754708518548, 16472876342353939154, 17275323862435702243, 1135362057144423861, 2597628984639134821, 3308224258029322869, 5365058923640841347, 6679025012923562964, 8573033837759648693, 10970295158949994411, 12119686244451234320, 12683024718118986047, 13788192230050041572, 14330467153632333762, 15395433587784984357, 489312712824947311, 1452737877330783856, 2861767655752347644, 3322285676063803686, 5560940570517711597, 5996557281743188959, 7280758554555802590, 8532644243296465576, 9350256976987008742, 10552545826968843579, 11727347734174303076, 12113106623233404929, 14000437183269869457, 14369950271660146224, 15101387698204529176, 15463397548674623760, 17586052441742319658, 1182934255886127544, 1847814050463011016, 2177327727835720531, 2830643537854262169, 3796741975233480872, 4115178125766777443, 5681478168544905931, 6601373596472566643, 7507060721942968483, 8399075790359081724, 8693463985226723168, 9568029438360202098, 10144078919501101548, 10430055236837252648, 11840083180663258601, 13761210420658862357, 14299343276471374635, 14566680578165727644, 15097957966210449927, 16922976911328602910, 17689382322260857208, 500013540394364858, 748580250866718886, 1242879168328830382, 1977374033974150939, 2944078676154940804, 3659926193048069267, 4368137639120453308, 4836135668995329356, 5532061633213252278, 6448918945643986474, 6902733635092675308, 7801388544844847127]
theorem getD_memW {xs : List Int} {k : Nat} (hk : k < xs.length) : xs.getD k 0 ∈ xs := by
  rw [List.getD_eq_getElem?_getD, List.getElem?_eq_getElem hk]; exact List.getElem_mem _
theorem KW_word : ∀ x ∈ KW, 0 ≤ x ∧ x < 18446744073709551616 := by decide
theorem KW_len : KW.length = 80 := rfl
def H0W : List Int := [7640891576956012808, 13503953896175478587, 4354685564936845355, 11912009170470909681, 5840696475078001361, 11170449401992604703, 2270897969802886507, 6620516959819538809]
theorem H0W_word : ∀ x ∈ H0W, 0 ≤ x ∧ x < 18446744073709551616 := by decide
theorem H0W_len : H0W.length = 8 := rfl

/-- One round, on the words and the round's word. -/
def stpw8 (a b c d e f g h kw : Int) : List Int :=
  [(h + cS1 e + chow e f g + kw + (cS0 a + majw a b c)) % 18446744073709551616, a, b, c, (d + (h + cS1 e + chow e f g + kw)) % 18446744073709551616, e, f, g]
def stpw (st : List Int) (kw : Int) : List Int :=
  match st with
  | [a, b, c, d, e, f, g, h] => stpw8 a b c d e f g h kw
  | _ => st
def rndw (ws ks st : List Int) : Nat → List Int
  | 0 => st
  | k + 1 => stpw (rndw ws ks st k) (ws.getD k 0 + ks.getD k 0)
theorem stpw_len {st : List Int} (h : st.length = 8) (kw : Int) : (stpw st kw).length = 8 := by
  obtain ⟨a, b, c, d, e, f, g, i, rfl⟩ := list8 h
  rfl
theorem rndw_len (ws ks : List Int) {st : List Int} (h : st.length = 8) (k : Nat) : (rndw ws ks st k).length = 8 := by
  induction k with
  | zero => exact h
  | succ k ih => exact stpw_len ih _
/-- What a block makes of eight words. -/
def blkw (h bs : List Int) : List Int := List.zipWith (fun x y => (x + y) % 18446744073709551616) h (rndw (schedW bs 80) KW h 80)
theorem blkw_len {h : List Int} (hh : h.length = 8) (bs : List Int) : (blkw h bs).length = 8 := by
  simp [blkw, rndw_len _ _ hh, hh]
theorem blkw_word (h bs : List Int) : ∀ x ∈ blkw h bs, 0 ≤ x ∧ x < 18446744073709551616 := by
  intro x hx
  simp only [blkw, List.mem_iff_getElem?] at hx
  obtain ⟨i, hi⟩ := hx
  rw [List.getElem?_zipWith] at hi
  split at hi
  · simp only [Option.some.injEq] at hi
    omega
  · cases hi
theorem wvw_range {xs : List Int} (h : ∀ x ∈ xs, 0 ≤ x ∧ x < 256) (j m : Nat) : 0 ≤ wvw xs j m ∧ wvw xs j m < 256 ^ m := by
  induction m with
  | zero => simp [wvw]
  | succ m ih =>
    have hx : 0 ≤ xs.getD (8 * j + m) 0 ∧ xs.getD (8 * j + m) 0 < 256 := by
      by_cases hl : 8 * j + m < xs.length
      · exact get_byte h hl
      · rw [List.getD_eq_getElem?_getD, List.getElem?_eq_none (by omega)]
        simp
    obtain ⟨p, hp⟩ : ∃ p : Int, p = 256 ^ m := ⟨_, rfl⟩
    rw [Int.pow_succ, ← hp]
    rw [← hp] at ih
    simp only [wvw]
    omega
theorem schedW_snoc (xs : List Int) (k : Nat) : schedW xs (k + 1) = schedW xs k ++ [nextWw xs (schedW xs k)] := rfl

/-- The two halves of a word. -/
def hv2 (x : Int) : List Int := [x / 4294967296, x % 4294967296]
def halves (l : List Int) : List Int := l.flatMap hv2
theorem halves_len (l : List Int) : (halves l).length = 2 * l.length := by
  induction l with
  | nil => rfl
  | cons x l ih => simp only [halves, List.flatMap_cons, List.length_append, List.length_cons] at ih ⊢; rw [ih]; simp [hv2]; omega
theorem halves_snoc {l : List Int} {k : Nat} {x : Int} (h : l.take (k + 1) = l.take k ++ [x]) : halves (l.take (k + 1)) = halves (l.take k) ++ hv2 x := by
  rw [h]; simp [halves]
theorem nextWw_word {xs : List Int} (hb : ∀ x ∈ xs, 0 ≤ x ∧ x < 256) (l : List Int) : 0 ≤ nextWw xs l ∧ nextWw xs l < 18446744073709551616 := by
  unfold nextWw
  split
  · have := wvw_range hb l.length 8
    omega
  · omega
theorem schedW_word {xs : List Int} (hb : ∀ x ∈ xs, 0 ≤ x ∧ x < 256) (k : Nat) : ∀ x ∈ schedW xs k, 0 ≤ x ∧ x < 18446744073709551616 := by
  induction k with
  | zero => intro x hx; cases hx
  | succ k ih =>
    intro x hx
    rw [schedW_snoc] at hx
    rcases List.mem_append.1 hx with h | h
    · exact ih x h
    · simp only [List.mem_cons, List.not_mem_nil, or_false] at h
      rw [h]; exact nextWw_word hb _
/-- What Wide tells. -/
def wideOf (xs : List Int) : List Int := if xs.length = 128 then halves (schedW xs 80) else []
theorem wideOf_len (xs : List Int) : (wideOf xs).length ≤ 160 := by
  unfold wideOf
  split
  · rw [halves_len, schedW_len]; omega
  · simp
theorem wideOf_int {xs : List Int} (hb : ∀ x ∈ xs, 0 ≤ x ∧ x < 256) : ∀ y ∈ wideOf xs, -9223372036854775808 ≤ y ∧ y ≤ 9223372036854775807 := by
  unfold wideOf
  split
  · intro y hy
    obtain ⟨x, hx, h⟩ := List.mem_flatMap.1 hy
    have hr := schedW_word hb 80 x hx
    simp only [hv2, List.mem_cons, List.not_mem_nil, or_false] at h
    omega
  · simp

/-- What Round512 tells. -/
def r5o (i : Int) : Bool := decide (0 ≤ i ∧ i < 80)
def r5h (i : Int) : Int := if r5o i = true then KW.getD i.toNat 0 / 4294967296 else 0
def r5l (i : Int) : Int := if r5o i = true then KW.getD i.toNat 0 % 4294967296 else 0
theorem r5_no {i : Int} (h : ¬ (0 ≤ i ∧ i < 80)) : r5h i = 0 ∧ r5l i = 0 ∧ r5o i = false := by
  have e : r5o i = false := by unfold r5o; simp only [h, decide_false]
  unfold r5h r5l
  rw [e]
  exact ⟨rfl, rfl, rfl⟩
end Go.Proofs.YtgapfkiceolceaaDoor
