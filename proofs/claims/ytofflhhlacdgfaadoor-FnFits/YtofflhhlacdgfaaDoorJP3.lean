/-
  What is proved here: contracts of the program's generic functions shaTurn, shaShift and shaNextWord at words of 32 bits: the turns and shifts of the standard, and the word that follows from sixteen; the table of turns comes as an argument; plain mathematics on lists of numbers: what SHA-512 makes of eight words and a block of 128 bytes; no program is spoken of, no condition; contracts of the specification's l3turn, l3round and l3first; the contract of the program's narrowRules: the table of turns, and a new copy of the table of round words; where the program's variables hold what its text lays into them.
-/
import Derived.Test.YtofflhhlacdgfaaDoorJP2
import Derived.Deep.RegionHeld3
import Derived.BigRegion
import Derived.Test.YtofflhhlacdgfaaDoorJP1
import Derived.Laws.BitsLemmas
import Derived.Test.YtofflhhlacdgfaaDoorProg
import Derived.Deep.QuietTactic
import Derived.BigQuiet
import Derived.Deep.Light
import Derived.Deep.RegionWith
namespace Go.Proofs.YtofflhhlacdgfaaDoor
open Go.RowKit
set_option maxRecDepth 100000

set_option maxHeartbeats 1000000 in
theorem turnCn (x : Int) (a b c : Nat) (ha : 0 < a) (ha2 : a < 32) (hb : 0 < b) (hb2 : b < 32) (hc : 0 < c) (hc2 : c < 32) (w : World) :
    Calls Tryd.prog 154 #[.int .u32 x, .agg #[.int .i64 a, .int .i64 b, .int .i64 c]] w fun e w' => e = .returned (.int .u32 (xr (xr (rot x a) (rot x b)) (rot x c))) ∧ Below w.heap.size w w' := by
  go_enter Tryd.func154, Tryd.ntmps154
  go_wp2
  go_quiet (first | (go_at_call_of 161 (Value.int IntKind.i64 (a : Int)); refine Calls.quiet_of (turnRn x a ha ha2 _ rfl _)) | (go_at_call_of 161 (Value.int IntKind.i64 (b : Int)); refine Calls.quiet_of (turnRn x b hb hb2 _ rfl _)) | (go_at_call_of 161 (Value.int IntKind.i64 (c : Int)); refine Calls.quiet_of (turnRn x c hc hc2 _ rfl _)))
  go_wp2
  go_ret
  exact ⟨rfl, bel_dN ((Below.refl _ _).alloc (Nat.le_refl _) _) _⟩

set_option maxHeartbeats 1000000 in
theorem shiftCn (x : Int) (a b c : Nat) (ha : 0 < a) (ha2 : a < 32) (hb : 0 < b) (hb2 : b < 32) (hc : 0 < c) (hc2 : c < 32) (w : World) :
    Calls Tryd.prog 160 #[.int .u32 x, .agg #[.int .i64 a, .int .i64 b, .int .i64 c]] w fun e w' => e = .returned (.int .u32 (xr (xr (rot x a) (rot x b)) (x / 2 ^ c))) ∧ Below w.heap.size w w' := by
  have hc3 : ¬ ((c : Int) < 0) := by omega
  go_enter Tryd.func160, Tryd.ntmps160
  go_wp2
  go_quiet (first | (go_at_call_of 161 (Value.int IntKind.i64 (a : Int)); refine Calls.quiet_of (turnRn x a ha ha2 _ rfl _)) | (go_at_call_of 161 (Value.int IntKind.i64 (b : Int)); refine Calls.quiet_of (turnRn x b hb hb2 _ rfl _)))
  go_wp2
  go_ret
  exact ⟨rfl, bel_dN ((Below.refl _ _).alloc (Nat.le_refl _) _) _⟩

theorem turnG0n (x : Int) (w : World) : Calls Tryd.prog 154 #[.int .u32 x, .agg #[.int .i64 2, .int .i64 13, .int .i64 22]] w fun e w' => e = .returned (.int .u32 (bS0 x)) ∧ Below w.heap.size w w' :=
  turnCn x 2 13 22 (by omega) (by omega) (by omega) (by omega) (by omega) (by omega) w
theorem turnG1n (x : Int) (w : World) : Calls Tryd.prog 154 #[.int .u32 x, .agg #[.int .i64 6, .int .i64 11, .int .i64 25]] w fun e w' => e = .returned (.int .u32 (bS1 x)) ∧ Below w.heap.size w w' :=
  turnCn x 6 11 25 (by omega) (by omega) (by omega) (by omega) (by omega) (by omega) w
theorem shiftS0n (x : Int) (w : World) : Calls Tryd.prog 160 #[.int .u32 x, .agg #[.int .i64 7, .int .i64 18, .int .i64 3]] w fun e w' => e = .returned (.int .u32 (sS0 x)) ∧ Below w.heap.size w w' :=
  shiftCn x 7 18 3 (by omega) (by omega) (by omega) (by omega) (by omega) (by omega) w
theorem shiftS1n (x : Int) (w : World) : Calls Tryd.prog 160 #[.int .u32 x, .agg #[.int .i64 17, .int .i64 19, .int .i64 10]] w fun e w' => e = .returned (.int .u32 (sS1 x)) ∧ Below w.heap.size w w' :=
  shiftCn x 17 19 10 (by omega) (by omega) (by omega) (by omega) (by omega) (by omega) w

/-- Four cells and the box of turns, through whatever keeps what is there. -/
structure Nxn (w W : World) (g o T : Nat) (y0 y1 y9 y14 : Int) : Prop where
  fr : Below w.heap.size w W
  ar : Arr W T 139 (I64 [2, 13, 22, 6, 11, 25, 7, 18, 3, 17, 19, 10])
  c0 : W.cell? ⟨g, o, none⟩ = some (.int .u32 y0)
  c1 : W.cell? ⟨g, o + 1, none⟩ = some (.int .u32 y1)
  c9 : W.cell? ⟨g, o + 9, none⟩ = some (.int .u32 y9)
  c14 : W.cell? ⟨g, o + 14, none⟩ = some (.int .u32 y14)
theorem Nxn.go {w W W' : World} {g o T : Nat} {y0 y1 y9 y14 : Int} (h : Nxn w W g o T y0 y1 y9 y14) (hb : Below W.heap.size W W') : Nxn w W' g o T y0 y1 y9 y14 := by
  have hg : g < W.heap.size := World.block_lt_of_cell? W _ h.c0
  exact ⟨h.fr.trans (hb.mono h.fr.size), h.ar.kept hb, (hb.cell (p := ⟨g, o, none⟩) hg).trans h.c0, (hb.cell (p := ⟨g, o + 1, none⟩) hg).trans h.c1, (hb.cell (p := ⟨g, o + 9, none⟩) hg).trans h.c9, (hb.cell (p := ⟨g, o + 14, none⟩) hg).trans h.c14⟩
/-- What the walk reads. -/
def Nvn (g o T : Nat) (y0 y1 y9 y14 : Int) (W : World) : Prop :=
  W.cell? ⟨g, o, none⟩ = some (.int .u32 y0) ∧ W.cell? ⟨g, o + 1, none⟩ = some (.int .u32 y1) ∧ W.cell? ⟨g, o + 9, none⟩ = some (.int .u32 y9) ∧ W.cell? ⟨g, o + 14, none⟩ = some (.int .u32 y14) ∧
  W.cell? ⟨T, 6, none⟩ = some (.int .i64 7) ∧ W.cell? ⟨T, 7, none⟩ = some (.int .i64 18) ∧ W.cell? ⟨T, 8, none⟩ = some (.int .i64 3) ∧
  W.cell? ⟨T, 9, none⟩ = some (.int .i64 17) ∧ W.cell? ⟨T, 10, none⟩ = some (.int .i64 19) ∧ W.cell? ⟨T, 11, none⟩ = some (.int .i64 10)
theorem Nxn.all {w W : World} {g o T : Nat} {y0 y1 y9 y14 : Int} (h : Nxn w W g o T y0 y1 y9 y14) : Nvn g o T y0 y1 y9 y14 W :=
  ⟨h.c0, h.c1, h.c9, h.c14, h.ar.i64 6 (by simp), h.ar.i64 7 (by simp), h.ar.i64 8 (by simp), h.ar.i64 9 (by simp), h.ar.i64 10 (by simp), h.ar.i64 11 (by simp)⟩

set_option maxHeartbeats 2000000 in
theorem nextCn (g o n c : Nat) (y0 y1 y9 y14 : Int) (w : World) (hn : 14 < n) (hc0 : w.cell? ⟨g, o, none⟩ = some (.int .u32 y0)) (hc1 : w.cell? ⟨g, o + 1, none⟩ = some (.int .u32 y1)) (hc9 : w.cell? ⟨g, o + 9, none⟩ = some (.int .u32 y9)) (hc14 : w.cell? ⟨g, o + 14, none⟩ = some (.int .u32 y14)) :
    Calls Tryd.prog 153 #[.slice (some ⟨g, o, none⟩) n c, .agg #[.int .i64 2, .int .i64 13, .int .i64 22, .int .i64 6, .int .i64 11, .int .i64 25, .int .i64 7, .int .i64 18, .int .i64 3, .int .i64 17, .int .i64 19, .int .i64 10]] w fun e w' => e = .returned (.int .u32 ((sS1 y14 + y9 + sS0 y1 + y0) % 4294967296)) ∧ Below w.heap.size w w' := by
  have hg : g < w.heap.size := World.block_lt_of_cell? w _ hc0
  obtain ⟨W, hW⟩ : ∃ W, W = w.alloc (.cells #[.int .i64 2, .int .i64 13, .int .i64 22, .int .i64 6, .int .i64 11, .int .i64 25, .int .i64 7, .int .i64 18, .int .i64 3, .int .i64 17, .int .i64 19, .int .i64 10] 139) := ⟨_, rfl⟩
  have hB : Below w.heap.size w W := by rw [hW]; exact (Below.refl _ _).alloc (Nat.le_refl _) _
  have hA : Arr W w.heap.size 139 (I64 [2, 13, 22, 6, 11, 25, 7, 18, 3, 17, 19, 10]) := by rw [hW]; exact Arr.new w (I64 [2, 13, 22, 6, 11, 25, 7, 18, 3, 17, 19, 10]) _
  have NX : Nxn w W.drew g o w.heap.size y0 y1 y9 y14 := ⟨hB.drew, hA.drew, (hB.cell (p := ⟨g, o, none⟩) hg).trans hc0, (hB.cell (p := ⟨g, o + 1, none⟩) hg).trans hc1, (hB.cell (p := ⟨g, o + 9, none⟩) hg).trans hc9, (hB.cell (p := ⟨g, o + 14, none⟩) hg).trans hc14⟩
  have p14 : (14 : Int) < (n : Int) := by omega
  have p9 : (9 : Int) < (n : Int) := by omega
  have p1 : (1 : Int) < (n : Int) := by omega
  have p0 : 0 < n := by omega
  clear hB hA hc0 hc1 hc9 hc14 hg
  go_enter Tryd.func153, Tryd.ntmps153
  go_wp2
  rw [← hW]
  clear hW
  go_region_held3 (fun W => W.cell? ⟨g, o, none⟩ = some (.int .u32 y0) ∧ W.cell? ⟨g, o + 1, none⟩ = some (.int .u32 y1) ∧ W.cell? ⟨g, o + 9, none⟩ = some (.int .u32 y9) ∧ W.cell? ⟨g, o + 14, none⟩ = some (.int .u32 y14) ∧ W.cell? ⟨w.heap.size, 6, none⟩ = some (.int .i64 7) ∧ W.cell? ⟨w.heap.size, 7, none⟩ = some (.int .i64 18) ∧ W.cell? ⟨w.heap.size, 8, none⟩ = some (.int .i64 3) ∧ W.cell? ⟨w.heap.size, 9, none⟩ = some (.int .i64 17) ∧ W.cell? ⟨w.heap.size, 10, none⟩ = some (.int .i64 19) ∧ W.cell? ⟨w.heap.size, 11, none⟩ = some (.int .i64 10))
    (exact NX.all)
    ((first
      | (go_at_call_of 160 (Value.int IntKind.u32 y14); refine (shiftS1n y14 _).mono ?_; rintro e w' ⟨rfl, hbd⟩; replace NX := NX.go hbd)
      | (go_at_call_of 160 (Value.int IntKind.u32 y1); refine (shiftS0n y1 _).mono ?_; rintro e w' ⟨rfl, hbd⟩; replace NX := NX.go hbd)))
  all_goals
    have hb := NX.fr
    have hz : IntKind.u32.wrap (IntKind.u32.wrap (IntKind.u32.wrap (sS1 y14 + y9) + sS0 y1) + y0) = (sS1 y14 + y9 + sS0 y1 + y0) % 4294967296 := by
      simp only [IntKind.wrap_u32]; omega
    generalize IntKind.u32.wrap (IntKind.u32.wrap (IntKind.u32.wrap (sS1 y14 + y9) + sS0 y1) + y0) = z at hz ⊢
    have HZ : Hid _ := hz
    clear hz NX
    go_wp2
    go_ret
    exact ⟨by rw [← HZ.out]; rfl, hb⟩
end Go.Proofs.YtofflhhlacdgfaaDoor
namespace Go.Proofs.YtofflhhlacdgfaaDoor
open Go.RowKit

abbrev U64 (xs : List Int) : List Value := xs.map (Value.int .u64)
theorem Arr.u64 {w : World} {g : Nat} {t : TypeId} {xs : List Int} (h : Arr w g t (U64 xs)) (j : Nat) (hj : j < xs.length) : w.cell? ⟨g, j, none⟩ = some (.int .u64 (xs.getD j 0)) := by
  rw [h.cell j]; simp [hj]
theorem Arr.setW {w : World} {g : Nat} {t : TypeId} {a0 a1 a2 a3 a4 a5 a6 a7 : Int} (h : Arr w g t (U64 [a0, a1, a2, a3, a4, a5, a6, a7])) (l0 l1 l2 l3 l4 l5 l6 l7 : Int) :
    Arr ((((((((w.setCell ⟨g, 0, none⟩ (.int .u64 l0)).setCell ⟨g, 1, none⟩ (.int .u64 l1)).setCell ⟨g, 2, none⟩ (.int .u64 l2)).setCell ⟨g, 3, none⟩ (.int .u64 l3)).setCell ⟨g, 4, none⟩ (.int .u64 l4)).setCell ⟨g, 5, none⟩ (.int .u64 l5)).setCell ⟨g, 6, none⟩ (.int .u64 l6)).setCell ⟨g, 7, none⟩ (.int .u64 l7))
      g t (U64 [l0, l1, l2, l3, l4, l5, l6, l7]) :=
  (((((((h.set 0 (.int .u64 l0)).set 1 (.int .u64 l1)).set 2 (.int .u64 l2)).set 3 (.int .u64 l3)).set 4 (.int .u64 l4)).set 5 (.int .u64 l5)).set 6 (.int .u64 l6)).set 7 (.int .u64 l7)

theorem wrap_u64 (n : Int) : IntKind.u64.wrap n = n % 18446744073709551616 := by simp [IntKind.wrap, IntKind.bits, IntKind.signed]
theorem wraps_u64 (n : Int) (h0 : 0 ≤ n) (h1 : n < 2 ^ 64) : IntKind.u64.wrap n = n := by rw [wrap_u64]; omega
theorem u64_low {x : Int} (h0 : 0 ≤ x) (h1 : x < 18446744073709551616) : bits .and .u64 x 4294967295 = x % 4294967296 := bits_mask .u64 64 (by decide) wraps_u64 32 (by decide) x h0 h1
theorem u64_or8 {x y : Int} (h0 : 0 ≤ x) (h1 : x < 18446744073709551616) (h2 : x % 256 = 0) (h3 : 0 ≤ y) (h4 : y < 256) : bits .or .u64 x y = x + y :=
  bits_join .u64 64 (by decide) wraps_u64 8 x y h0 (by simpa using h2) (by simpa using h1) h3 (by simpa using h4) (by omega)

/-- A word turned right by n. -/
def rotw (x : Int) (n : Nat) : Int := bits .or .u64 (x / 2 ^ n) (x * 2 ^ (64 - n) % 18446744073709551616)
def xrw (x y : Int) : Int := bits .xor .u64 x y
def ndw (x y : Int) : Int := bits .and .u64 x y
def tS0 (x : Int) : Int := xrw (xrw (rotw x 1) (rotw x 8)) (x / 2 ^ 7)
def tS1 (x : Int) : Int := xrw (xrw (rotw x 19) (rotw x 61)) (x / 2 ^ 6)
def cS0 (x : Int) : Int := xrw (xrw (rotw x 28) (rotw x 34)) (rotw x 39)
def cS1 (x : Int) : Int := xrw (xrw (rotw x 14) (rotw x 18)) (rotw x 41)
def chow (e f g : Int) : Int := xrw (ndw e f) (ndw (xrw IntKind.u64.max e) g)
def majw (a b c : Int) : Int := xrw (xrw (ndw a b) (ndw a c)) (ndw b c)

/-- The first m bytes of word j of a block. -/
def wvw (xs : List Int) (j : Nat) : Nat → Int
  | 0 => 0
  | m + 1 => wvw xs j m * 256 + xs.getD (8 * j + m) 0
/-- The word behind these. -/
def nextWw (xs l : List Int) : Int :=
  if l.length < 16 then wvw xs l.length 8
  else (l.getD (l.length - 16) 0 + tS0 (l.getD (l.length - 15) 0) + l.getD (l.length - 7) 0 + tS1 (l.getD (l.length - 2) 0)) % 18446744073709551616
def schedW (xs : List Int) : Nat → List Int
  | 0 => []
  | k + 1 => schedW xs k ++ [nextWw xs (schedW xs k)]
theorem schedW_len (xs : List Int) (k : Nat) : (schedW xs k).length = k := by
  induction k with
  | zero => rfl
  | succ k ih => simp [schedW, ih]

def KW : List Int := [4794697086780616226, 8158064640168781261, 13096744586834688815, 16840607885511220156, 4131703408338449720, 6480981068601479193, 10538285296894168987, 12329834152419229976, 15566598209576043074, 1334009975649890238, 2608012711638119052, 6128411473006802146, 8268148722764581231, 9286055187155687089, 11230858885718282805, 13951009754708518548, 16472876342353939154, 17275323862435702243, 1135362057144423861, 2597628984639134821, 3308224258029322869, 5365058923640841347, 6679025012923562964, 8573033837759648693, 10970295158949994411, 12119686244451234320, 12683024718118986047, 13788192230050041572, 14330467153632333762, 15395433587784984357, 489312712824947311, 1452737877330783856, 2861767655752347644, 3322285676063803686, 5560940570517711597, 5996557281743188959, 7280758554555802590, 8532644243296465576, 9350256976987008742, 10552545826968843579, 11727347734174303076, 12113106623233404929, 14000437183269869457, 14369950271660146224, 15101387698204529176, 15463397548674623760, 17586052441742319658, 1182934255886127544, 1847814050463011016, 2177327727835720531, 2830643537854262169, 3796741975233480872, 4115178125766777443, 5681478168544905931, 6601373596472566643, 7507060721942968483, 8399075790359081724, 8693463985226723168, 9568029438360202098, 10144078919501101548, 10430055236837252648, 11840083180663258601, 13761210420658862357, 14299343276471374635, 14566680578165727644, 15097957966210449927, 16922976911328602910, 17689382322260857208, 500013540394364858, 748580250866718886, 1242879168328830382, 1977374033974150939, 2944078676154940804, 3659926193048069267, 4368137639120453308, 4836135668995329356, 5532061633213252278, 6448918945643986474, 6902733635092675308, 7801388544844847127]
theorem getD_memW {xs : List Int} {k : Nat} (hk : k < xs.length) : xs.getD k 0 ∈ xs := by
  rw [List.getD_eq_getElem?_getD, List.getElem?_eq_getElem hk]; exact List.getElem_mem _
theorem KW_word : ∀ x ∈ KW, 0 ≤ x ∧ x < 18446744073709551616 := by decide
theorem KW_len : KW.length = 80 := rfl
def H0W : List Int := [7640891576956012808, 13503953896175478587, 4354685564936845355, 11912009170470909681, 5840696475078001361, 11170449401992604703, 2270897969802886507, 6620516959819538809]
theorem H0W_word : ∀ x ∈ H0W, 0 ≤ x ∧ x < 18446744073709551616 := by decide
theorem H0W_len : H0W.length = 8 := rfl

/-- One round, on the words and the round's word. -/
def stpw8 (a b c d e f g h kw : Int) : List Int :=
  [(h + cS1 e + chow e f g + kw + (cS0 a + majw a b c)) % 18446744073709551616, a, b, c, (d + (h + cS1 e + chow e f g + kw)) % 18446744073709551616, e, f, g]
def stpw (st : List Int) (kw : Int) : List Int :=
  match st with
  | [a, b, c, d, e, f, g, h] => stpw8 a b c d e f g h kw
  | _ => st
def rndw (ws ks st : List Int) : Nat → List Int
  | 0 => st
  | k + 1 => stpw (rndw ws ks st k) (ws.getD k 0 + ks.getD k 0)
theorem stpw_len {st : List Int} (h : st.length = 8) (kw : Int) : (stpw st kw).length = 8 := by
  obtain ⟨a, b, c, d, e, f, g, i, rfl⟩ := list8 h
  rfl
theorem rndw_len (ws ks : List Int) {st : List Int} (h : st.length = 8) (k : Nat) : (rndw ws ks st k).length = 8 := by
  induction k with
  | zero => exact h
  | succ k ih => exact stpw_len ih _
/-- What a block makes of eight words. -/
def blkw (h bs : List Int) : List Int := List.zipWith (fun x y => (x + y) % 18446744073709551616) h (rndw (schedW bs 80) KW h 80)
theorem blkw_len {h : List Int} (hh : h.length = 8) (bs : List Int) : (blkw h bs).length = 8 := by
  simp [blkw, rndw_len _ _ hh, hh]
theorem blkw_word (h bs : List Int) : ∀ x ∈ blkw h bs, 0 ≤ x ∧ x < 18446744073709551616 := by
  intro x hx
  simp only [blkw, List.mem_iff_getElem?] at hx
  obtain ⟨i, hi⟩ := hx
  rw [List.getElem?_zipWith] at hi
  split at hi
  · simp only [Option.some.injEq] at hi
    omega
  · cases hi
theorem wvw_range {xs : List Int} (h : ∀ x ∈ xs, 0 ≤ x ∧ x < 256) (j m : Nat) : 0 ≤ wvw xs j m ∧ wvw xs j m < 256 ^ m := by
  induction m with
  | zero => simp [wvw]
  | succ m ih =>
    have hx : 0 ≤ xs.getD (8 * j + m) 0 ∧ xs.getD (8 * j + m) 0 < 256 := by
      by_cases hl : 8 * j + m < xs.length
      · exact get_byte h hl
      · rw [List.getD_eq_getElem?_getD, List.getElem?_eq_none (by omega)]
        simp
    obtain ⟨p, hp⟩ : ∃ p : Int, p = 256 ^ m := ⟨_, rfl⟩
    rw [Int.pow_succ, ← hp]
    rw [← hp] at ih
    simp only [wvw]
    omega
theorem schedW_snoc (xs : List Int) (k : Nat) : schedW xs (k + 1) = schedW xs k ++ [nextWw xs (schedW xs k)] := rfl

/-- The two halves of a word. -/
def hv2 (x : Int) : List Int := [x / 4294967296, x % 4294967296]
def halves (l : List Int) : List Int := l.flatMap hv2
theorem halves_len (l : List Int) : (halves l).length = 2 * l.length := by
  induction l with
  | nil => rfl
  | cons x l ih => simp only [halves, List.flatMap_cons, List.length_append, List.length_cons] at ih ⊢; rw [ih]; simp [hv2]; omega
theorem halves_snoc {l : List Int} {k : Nat} {x : Int} (h : l.take (k + 1) = l.take k ++ [x]) : halves (l.take (k + 1)) = halves (l.take k) ++ hv2 x := by
  rw [h]; simp [halves]
theorem nextWw_word {xs : List Int} (hb : ∀ x ∈ xs, 0 ≤ x ∧ x < 256) (l : List Int) : 0 ≤ nextWw xs l ∧ nextWw xs l < 18446744073709551616 := by
  unfold nextWw
  split
  · have := wvw_range hb l.length 8
    omega
  · omega
theorem schedW_word {xs : List Int} (hb : ∀ x ∈ xs, 0 ≤ x ∧ x < 256) (k : Nat) : ∀ x ∈ schedW xs k, 0 ≤ x ∧ x < 18446744073709551616 := by
  induction k with
  | zero => intro x hx; cases hx
  | succ k ih =>
    intro x hx
    rw [schedW_snoc] at hx
    rcases List.mem_append.1 hx with h | h
    · exact ih x h
    · simp only [List.mem_cons, List.not_mem_nil, or_false] at h
      rw [h]; exact nextWw_word hb _
/-- What Wide tells. -/
def wideOf (xs : List Int) : List Int := if xs.length = 128 then halves (schedW xs 80) else []
theorem wideOf_len (xs : List Int) : (wideOf xs).length ≤ 160 := by
  unfold wideOf
  split
  · rw [halves_len, schedW_len]; omega
  · simp
theorem wideOf_int {xs : List Int} (hb : ∀ x ∈ xs, 0 ≤ x ∧ x < 256) : ∀ y ∈ wideOf xs, -9223372036854775808 ≤ y ∧ y ≤ 9223372036854775807 := by
  unfold wideOf
  split
  · intro y hy
    obtain ⟨x, hx, h⟩ := List.mem_flatMap.1 hy
    have hr := schedW_word hb 80 x hx
    simp only [hv2, List.mem_cons, List.not_mem_nil, or_false] at h
    omega
  · simp

/-- What Round512 tells. -/
def r5o (i : Int) : Bool := decide (0 ≤ i ∧ i < 80)
def r5h (i : Int) : Int := if r5o i = true then KW.getD i.toNat 0 / 4294967296 else 0
def r5l (i : Int) : Int := if r5o i = true then KW.getD i.toNat 0 % 4294967296 else 0
theorem r5_no {i : Int} (h : ¬ (0 ≤ i ∧ i < 80)) : r5h i = 0 ∧ r5l i = 0 ∧ r5o i = false := by
  have e : r5o i = false := by unfold r5o; simp only [h, decide_false]
  unfold r5h r5l
  rw [e]
  exact ⟨rfl, rfl, rfl⟩
end Go.Proofs.YtofflhhlacdgfaaDoor
namespace Go.Proofs.YtofflhhlacdgfaaDoor
open Go.RowKit

abbrev Z80 : List Int := [0, 0, 0, 0, 0, 0, 0, 0, 0, 0, 0, 0, 0, 0, 0, 0, 0, 0, 0, 0, 0, 0, 0, 0, 0, 0, 0, 0, 0, 0, 0, 0, 0, 0, 0, 0, 0, 0, 0, 0, 0, 0, 0, 0, 0, 0, 0, 0, 0, 0, 0, 0, 0, 0, 0, 0, 0, 0, 0, 0, 0, 0, 0, 0, 0, 0, 0, 0, 0, 0, 0, 0, 0, 0, 0, 0, 0, 0, 0, 0]

theorem zeroRun {P : Program} {t : TypeId} {z : Value} (h : (P.info? t).map (·.zero) = some (some z)) (w : World) : (zeroValue t).run P w = .ok z w := by
  cases hi : P.info? t with
  | none => rw [hi] at h; cases h
  | some i =>
    rw [hi] at h
    simp only [Option.map_some, Option.some.injEq] at h
    simp [zeroValue, typeInfo, hi, h]
theorem wpList_buildTo {P : Program} {ops : Array Oper} {rest : List Oper} {o : Oper} {a : Act} {w : World} {Q : Exit → Act → World → Prop} (hg : o.guard = none) (t : TypeId) (parts : Array (Nat × Operand)) (ho : o.op = .build t parts) (cells : Array Value)
    (hc : P.built t (parts.map fun (i, x) => (i, a.eval x)).toList = some cells) (h : wpList P ops Q rest (a.put o.dst (.agg cells)) w) : wpList P ops Q (o :: rest) a w :=
  wpList_build hg t parts ho (by rw [hc]; rfl) (by rw [hc]; exact h)

end Go.Proofs.YtofflhhlacdgfaaDoor
namespace Go.Proofs.YtofflhhlacdgfaaDoor
open Go.RowKit
set_option maxRecDepth 100000

/-- The program's two tables for words of 32 bits hold what its text lays into them. -/
structure Tabn (w : World) : Prop where
  tt : Vr w 3 (I64 [2, 13, 22, 6, 11, 25, 7, 18, 3, 17, 19, 10])
  tk : Vr w 2 (U32 KS)
theorem Tabn.kept {w w' : World} (h : Tabn w) (hb : Below w.heap.size w w') : Tabn w' := ⟨h.tt.kept hb, h.tk.kept hb⟩

/-- The rules that the program hands on: the turns, and the round words in block rb. -/
abbrev rulesVn (rb : Nat) : Value := .agg #[.int .i64 2, .int .i64 13, .int .i64 22, .int .i64 6, .int .i64 11, .int .i64 25, .int .i64 7, .int .i64 18, .int .i64 3, .int .i64 17, .int .i64 19, .int .i64 10, .slice (some ⟨rb, 0, none⟩) 64 64]

theorem infoKn : (Tryd.prog.info? 158).map (·.size) = some 64 := by kernel_rfl
def zkn : Array Value := (U32 (List.replicate 64 0)).toArray
theorem zeroKn (w : World) : (zeroValue 158).run Tryd.prog w = .ok (.agg zkn) w := zeroRun (by kernel_rfl) w

set_option maxHeartbeats 2000000 in
theorem rulesCn (w : World) (ht : Tabn w) :
    Calls Tryd.prog 116 #[] w fun e w' => ∃ rb, e = .returned (rulesVn rb) ∧ Arr w' rb 158 (U32 KS) ∧ w.heap.size ≤ rb ∧ Below w.heap.size w w' := by
  obtain ⟨t0, z0, hk⟩ := ht.tk
  obtain ⟨W, hW⟩ : ∃ W, W = (w.alloc (.cells #[.int .i64 0, .int .i64 0, .int .i64 0, .int .i64 0, .int .i64 0, .int .i64 0, .int .i64 0, .int .i64 0, .int .i64 0, .int .i64 0, .int .i64 0, .int .i64 0, .slice none 0 0] 142)).alloc (.cells zkn 158) := ⟨_, rfl⟩
  have hA : Arr W (w.heap.size + 1) 158 (U32 (List.replicate 64 0)) := by
    rw [hW]; have := Arr.new (w.alloc (.cells #[.int .i64 0, .int .i64 0, .int .i64 0, .int .i64 0, .int .i64 0, .int .i64 0, .int .i64 0, .int .i64 0, .int .i64 0, .int .i64 0, .int .i64 0, .int .i64 0, .slice none 0 0] 142)) (U32 (List.replicate 64 0)) 158
    rw [World.size_alloc] at this
    exact this
  have hS : Arr W w.heap.size 142 [.int .i64 0, .int .i64 0, .int .i64 0, .int .i64 0, .int .i64 0, .int .i64 0, .int .i64 0, .int .i64 0, .int .i64 0, .int .i64 0, .int .i64 0, .int .i64 0, .slice none 0 0] := by
    rw [hW]; exact (Arr.new w [.int .i64 0, .int .i64 0, .int .i64 0, .int .i64 0, .int .i64 0, .int .i64 0, .int .i64 0, .int .i64 0, .int .i64 0, .int .i64 0, .int .i64 0, .int .i64 0, .slice none 0 0] _).alloc _
  have hB : Below w.heap.size w W := by rw [hW]; exact ((Below.refl _ _).alloc (Nat.le_refl _) _).alloc (by simp) _
  obtain ⟨W2, hW2⟩ : ∃ W2, W2 = W.setRow (w.heap.size + 1) (U32 KS).toArray := ⟨_, rfl⟩
  have hB2 : Below w.heap.size w W2 := by rw [hW2]; exact setRow_below hB _ _ (by omega)
  have hA2 : Arr W2 (w.heap.size + 1) 158 (U32 KS) := by rw [hW2]; exact hA.row _
  have hS2 : Arr W2 w.heap.size 142 [.int .i64 0, .int .i64 0, .int .i64 0, .int .i64 0, .int .i64 0, .int .i64 0, .int .i64 0, .int .i64 0, .int .i64 0, .int .i64 0, .int .i64 0, .int .i64 0, .slice none 0 0] := by rw [hW2]; exact hS.rowOther _ _ (by omega)
  have hT2 := ht.tt.kept hB2
  have hzk := zeroKn
  have hk1 : (w.alloc (.cells #[.int .i64 0, .int .i64 0, .int .i64 0, .int .i64 0, .int .i64 0, .int .i64 0, .int .i64 0, .int .i64 0, .int .i64 0, .int .i64 0, .int .i64 0, .int .i64 0, .slice none 0 0] 142)).heap[(2 : Nat)]? = some (.cells (U32 KS).toArray t0 z0) := (heap_alloc_old w _ ht.tk.lt).trans hk
  go_enter Tryd.func116, Tryd.ntmps116
  go_wp2_with (first
    | (refine wpList_load_row rfl 158 _ rfl 2 rfl t0 (U32 KS).toArray z0 _ hk1 Tryd.underlying158 rfl (by kernel_rfl) ?_)
    | (refine wpList_store_row rfl 158 _ _ rfl (w.heap.size + 1) (U32 KS).toArray rfl rfl 158 _ (by first | exact hA | exact hW ▸ hA) (by kernel_rfl) (by kernel_rfl) (by kernel_rfl) ?_))
  rw [← hW, ← hW2]
  clear hW hW2 hk1 hk hA hS hB
  have u0 := hT2.int 0 (by simp)
  have u1 := hT2.int 1 (by simp)
  have u2 := hT2.int 2 (by simp)
  have u3 := hT2.int 3 (by simp)
  have u4 := hT2.int 4 (by simp)
  have u5 := hT2.int 5 (by simp)
  have u6 := hT2.int 6 (by simp)
  have u7 := hT2.int 7 (by simp)
  have u8 := hT2.int 8 (by simp)
  have u9 := hT2.int 9 (by simp)
  have u10 := hT2.int 10 (by simp)
  have u11 := hT2.int 11 (by simp)
  have c0 := hS2.cell 0
  have c1 := hS2.cell 1
  have c2 := hS2.cell 2
  have c3 := hS2.cell 3
  have c4 := hS2.cell 4
  have c5 := hS2.cell 5
  have c6 := hS2.cell 6
  have c7 := hS2.cell 7
  have c8 := hS2.cell 8
  have c9 := hS2.cell 9
  have c10 := hS2.cell 10
  have c11 := hS2.cell 11
  have c12 := hS2.cell 12
  simp at u0 u1 u2 u3 u4 u5 u6 u7 u8 u9 u10 u11 c0 c1 c2 c3 c4 c5 c6 c7 c8 c9 c10 c11 c12
  have hf := hS2.frozen
  clear hzk
  have hS3 := Arr.setAll [.int .i64 2, .int .i64 13, .int .i64 22, .int .i64 6, .int .i64 11, .int .i64 25, .int .i64 7, .int .i64 18, .int .i64 3, .int .i64 17, .int .i64 19, .int .i64 10, .slice (some ⟨w.heap.size + 1, 0, none⟩) 64 64] 0 hS2
  have hA3 := Arr.setAllOther (g := w.heap.size) (by omega) [.int .i64 2, .int .i64 13, .int .i64 22, .int .i64 6, .int .i64 11, .int .i64 25, .int .i64 7, .int .i64 18, .int .i64 3, .int .i64 17, .int .i64 19, .int .i64 10, .slice (some ⟨w.heap.size + 1, 0, none⟩) 64 64] 0 hA2
  have hB3 := setAll_below (B := w.heap.size) (g := w.heap.size) (Nat.le_refl _) [.int .i64 2, .int .i64 13, .int .i64 22, .int .i64 6, .int .i64 11, .int .i64 25, .int .i64 7, .int .i64 18, .int .i64 3, .int .i64 17, .int .i64 19, .int .i64 10, .slice (some ⟨w.heap.size + 1, 0, none⟩) 64 64] 0 hB2
  rw [show setL [.int .i64 0, .int .i64 0, .int .i64 0, .int .i64 0, .int .i64 0, .int .i64 0, .int .i64 0, .int .i64 0, .int .i64 0, .int .i64 0, .int .i64 0, .int .i64 0, .slice none 0 0] 0 [.int .i64 2, .int .i64 13, .int .i64 22, .int .i64 6, .int .i64 11, .int .i64 25, .int .i64 7, .int .i64 18, .int .i64 3, .int .i64 17, .int .i64 19, .int .i64 10, .slice (some ⟨w.heap.size + 1, 0, none⟩) 64 64] = [.int .i64 2, .int .i64 13, .int .i64 22, .int .i64 6, .int .i64 11, .int .i64 25, .int .i64 7, .int .i64 18, .int .i64 3, .int .i64 17, .int .i64 19, .int .i64 10, .slice (some ⟨w.heap.size + 1, 0, none⟩) 64 64] from rfl] at hS3
  obtain ⟨W3, hW3⟩ : ∃ W3, W3 = setAll W2 w.heap.size 0 [.int .i64 2, .int .i64 13, .int .i64 22, .int .i64 6, .int .i64 11, .int .i64 25, .int .i64 7, .int .i64 18, .int .i64 3, .int .i64 17, .int .i64 19, .int .i64 10, .slice (some ⟨w.heap.size + 1, 0, none⟩) 64 64] := ⟨_, rfl⟩
  rw [← hW3] at hS3 hA3 hB3
  simp only [setAll, Nat.zero_add, Nat.reduceAdd] at hW3
  have HS3 : Hid _ := hS3.drew
  have HA3 : Hid _ := hA3.drew
  have HB3 : Hid _ := hB3.drew
  have HW3 : Hid _ := hW3
  clear hW3 hS3 hA3 hB3 hS2 hA2 hB2 hT2 ht
  go_region
  go_wp2
  rw [← HW3.out]
  clear HW3
  have hq := fun tmps h => results_cell_row (P := Tryd.prog) (fn := Tryd.f116) (p := 0) (ty := 142) rfl tmps _ w.heap.size 142 _ (0, 0) _ h HS3.out Tryd.underlying142 rfl (by kernel_rfl)
  exact bodyPost_ret (hq _ rfl) rfl ⟨w.heap.size + 1, rfl, HA3.out, by omega, HB3.out⟩
end Go.Proofs.YtofflhhlacdgfaaDoor
