/-
  What is proved here: the contract of the program's PtBase; where its variables hold the base; the program's PtBase answers the base; where its variables hold it; contracts of the specification's l5in and l5out: a multiplier out of a slice of ints and back into a new one; what an answer is; contracts of the specification's l5order, l5isOk and ScOk: whether a slice of ints is a multiplier; the contract of the specification's l5twice: twice a multiplier and a bit, modulo the order; the contract of the specification's l5mod: a number in at most 33 parts modulo the order; whether bytes are those of a multiplier, and which, as plain functions; the contract of the specification's ScRead: a multiplier out of its bytes; the contracts of the specification's l5wide and ScWide: 64 bytes modulo the order; plain mathematics on lists of numbers: what SHA-512 makes of eight words and a block of 128 bytes; no program is spoken of, no condition; contracts of the specification's l3turn, l3round and l3first.
-/
import Derived.Test.YtihoaakbkffejaaDoorZXp0
import Derived.Test.YtihoaakbkffejaaDoorZXa
import Derived.Test.YtihoaakbkffejaaDoorZYh
import Derived.Test.YtihoaakbkffejaaDoorZJa
import Derived.Test.YtihoaakbkffejaaDoorZArr
import Derived.Test.YtihoaakbkffejaaDoorZFq
import Derived.Test.YtihoaakbkffejaaDoorZFyq
import Derived.Deep.RegionHeld3
import Derived.Test.YtihoaakbkffejaaDoorZFp
import Derived.Deep.AppendLies
import Derived.Laws.BitsLemmas
import Derived.Test.YtihoaakbkffejaaDoorProg
import Derived.Deep.QuietTactic
import Derived.BigQuiet
import Derived.Deep.Light
import Derived.Deep.RegionWith
namespace Go.Proofs.YtihoaakbkffejaaDoor
open Go.RowKit
set_option maxRecDepth 100000

set_option maxHeartbeats 4000000 in
theorem implPtBase (w : World) (hX : Vr w 1 (I64 BX)) (hY : Vr w 2 (I64 BY)) :
    Calls Tryd.prog 30 #[] w fun e w' => ∃ v, e = .returned v ∧ PtT 81 w w' v (BX) (BY) ∧ Below w.heap.size w w' := by
  have HC : Hid (∀ Z, Calls Tryd.prog 55 #[.agg (I64 BX).toArray, .agg (I64 BY).toArray] Z fun e w' => ∃ v, e = .returned v ∧ PtT 81 Z w' v BX BY ∧ Below Z.heap.size Z w') := by
    unfold Hid; intro Z; exact implPtOf BX BY Z rfl rfl
  have jX := infoL' BX_ok
  have jY := infoL' BY_ok
  obtain ⟨x, ex⟩ : ∃ x, x = BX := ⟨_, rfl⟩
  obtain ⟨y, ey⟩ : ∃ y, y = BY := ⟨_, rfl⟩
  have nx : x.length = 16 := by rw [ex]; rfl
  have ny : y.length = 16 := by rw [ey]; rfl
  rw [← ex, ← ey] at HC ⊢
  rw [← ex] at jX hX
  rw [← ey] at jY hY
  clear ex ey
  obtain ⟨W, hW⟩ : ∃ W, W = w.alloc (.cells #[.slice none 0 0, .slice none 0 0] 60) := ⟨_, rfl⟩
  have fr : Below w.heap.size w W := by rw [hW]; exact ((Below.refl _ _).alloc (Nat.le_refl _) _)
  have pr : Arr W w.heap.size 60 ([.slice none 0 0, .slice none 0 0]) := by
    rw [hW]
    have := Arr.new (w) ([.slice none 0 0, .slice none 0 0]) 60
    exact this
  have h0X := hX.lt
  have vX := hX.kept fr
  have h0Y := hY.lt
  have vY := hY.kept fr
  clear hX hY
  go_enter Tryd.func30, Tryd.ntmps30
  go_upto_region 1 with fail
  rw [← hW]
  clear hW
  obtain ⟨gt, gz, hg⟩ := vX
  obtain ⟨kt, kz, hk⟩ := vY
  go_wp2_with (first
      | (refine wpList_load_row rfl 81 _ rfl 1 rfl gt (I64 x).toArray gz _ hg Tryd.underlying81 rfl jX ?_)
      | (refine wpList_load_row rfl 81 _ rfl 2 rfl kt (I64 y).toArray kz _ hk Tryd.underlying81 rfl jY ?_))
  have hl : w.heap.size < W.heap.size := pr.lt
  refine (HC.out _).mono ?_
  rintro e y1 ⟨v, rfl, hpt, hb1⟩
  replace fr := fr.trans (hb1.mono fr.size)
  replace pr := pr.kept hb1
  clear hb1
  obtain ⟨aa, ca, ab, cb, rfl, oa, ob, hap⟩ := hpt
  rw [nx, ny] at hap ⊢
  rw [nx] at oa
  rw [ny] at ob
  have ia := In.of oa
  have ib := In.of ob
  have HB : Hid _ := setRow_below fr w.heap.size ([.slice aa 16 ca, .slice ab 16 cb]).toArray (by omega)
  have h2 := pr.row ([.slice aa 16 ca, .slice ab 16 cb])
  have oa2 := own_rowM oa ia (.inl hl) ([.slice aa 16 ca, .slice ab 16 cb]).toArray
  have ob2 := own_rowM ob ib (.inl hl) ([.slice aa 16 ca, .slice ab 16 cb]).toArray
  go_wp2_with (refine wpList_store_row rfl 60 _ _ rfl w.heap.size ([Value.slice aa 16 ca,  Value.slice ab 16 cb]).toArray rfl rfl 60 _ pr infoPt rfl (by simp [Value.oneCell']) ?_)
  exact bodyPost_ret (results_cell_row rfl _ _ w.heap.size 60 #[.slice aa 16 ca, .slice ab 16 cb] (0, 0) _ rfl h2 Tryd.underlying60 rfl infoPt) rfl ⟨_, rfl, ptT_16 nx ny (own_base oa2 (by omega)) (own_base ob2 (by omega)) hap, HB.out⟩

end Go.Proofs.YtihoaakbkffejaaDoor
namespace Go.Proofs.YtihoaakbkffejaaDoor
open Go.RowKit
set_option maxRecDepth 100000
set_option maxHeartbeats 4000000
set_option linter.unusedSectionVars false

theorem BX_val : val BX = (bxN : Int) := by decide
theorem BY_val : val BY = (byN : Int) := by decide
section
variable [NeZero pN]
theorem base_lists : BX = cx baseK.1 ∧ BY = cx baseK.2 := by
  have h1 : fl BX = baseK.1 := by unfold fl; rw [BX_val]; rfl
  have h2 : fl BY = baseK.2 := by unfold fl; rw [BY_val]; rfl
  exact ⟨by rw [← h1, cx_fl BX_ok], by rw [← h2, cx_fl BY_ok]⟩
end
end Go.Proofs.YtihoaakbkffejaaDoor
namespace Go.Proofs.YtihoaakbkffejaaDoor
open Go.RowKit
set_option maxRecDepth 100000

theorem own_otherS {w : World} {b e s n : Nat} {v : Value} {xs : List Value} (h : w.ownsRow b e s v n xs) (p : Addr) (u : Value) (hp : p.block < b) : (w.setCell p u).ownsRow b e s v n xs := by
  refine ⟨h.1, ?_⟩
  rcases h.2 with hn | ⟨g, cap, cur, rfl, hg, hgg, rest⟩
  · exact .inl hn
  · refine .inr ⟨g, cap, cur, rfl, hg, ?_, rest⟩
    rw [heap_setCell_other w p g u (by omega)]
    exact hgg


theorem infoSc : (Tryd.prog.info? 39).map (·.size) = some 1 := by kernel_rfl
end Go.Proofs.YtihoaakbkffejaaDoor
namespace Go.Proofs.YtihoaakbkffejaaDoor
open Go.RowKit
set_option maxRecDepth 100000

/-- An array of sixteen, through whatever keeps what is there. -/
structure Ek5 (w W : World) (g : Nat) (l : List Int) : Prop where
  fr : Below w.heap.size w W
  ar : Arr W g 31 (I64 l)
theorem Ek5.go {w A B : World} {g : Nat} {l : List Int} (h : Ek5 w A g l) (hb : Below A.heap.size A B) : Ek5 w B g l := ⟨h.fr.trans (hb.mono h.fr.size), h.ar.kept hb⟩
theorem Ek5.all {w W : World} {g : Nat} {l : List Int} (h : Ek5 w W g l) : W.rangeAt g 0 (I64 l) := arr_range h.ar

end Go.Proofs.YtihoaakbkffejaaDoor
namespace Go.Proofs.YtihoaakbkffejaaDoor
open Go.RowKit
set_option maxRecDepth 100000

end Go.Proofs.YtihoaakbkffejaaDoor
namespace Go.Proofs.YtihoaakbkffejaaDoor
open Go.RowKit
set_option maxRecDepth 100000

/-- The cells of l5mod: the result's, and the number so far; the slice is older. -/
structure MP (w W : World) (r : List Int) : Prop where
  fr : Below w.heap.size w W
  pz : Arr W w.heap.size 31 (I64 Z16)
  pr : Arr W (w.heap.size + 1) 31 (I64 r)
theorem MP.go {w A B : World} {r : List Int} (h : MP w A r) (hb : Below A.heap.size A B) : MP w B r := ⟨h.fr.trans (hb.mono h.fr.size), h.pz.kept hb, h.pr.kept hb⟩
theorem MP.put {w W : World} {r : List Int} (h : MP w W r) (s : List Int) (hl : (I64 r).length = (I64 s).length) : MP w (W.setCells (w.heap.size + 1) 0 (I64 s)) s :=
  ⟨setCells_below (by omega) _ _ h.fr, Arr.setCellsO (by omega) _ _ h.pz, Arr.setCells0 h.pr hl⟩
end Go.Proofs.YtihoaakbkffejaaDoor
namespace Go.Proofs.YtihoaakbkffejaaDoor
open Go.RowKit
set_option maxRecDepth 100000

end Go.Proofs.YtihoaakbkffejaaDoor
namespace Go.Proofs.YtihoaakbkffejaaDoor
open Go.RowKit
set_option maxRecDepth 100000

/-- The result's cell alone. -/
structure S1 (w W : World) : Prop where
  fr : Below w.heap.size w W
  pr : Arr W w.heap.size 39 [.slice none 0 0]
theorem S1.go {w A B : World} (h : S1 w A) (hb : Below A.heap.size A B) : S1 w B := ⟨h.fr.trans (hb.mono h.fr.size), h.pr.kept hb⟩

end Go.Proofs.YtihoaakbkffejaaDoor
namespace Go.Proofs.YtihoaakbkffejaaDoor
open Go.RowKit
set_option maxRecDepth 100000

/-- The parts that 64 bytes make. -/
def wdL (bs : List Int) : List Int := (List.range 32).map fun i => bs.getD (2 * i) 0 + 256 * bs.getD (2 * i + 1) 0
theorem wdL_len (bs : List Int) : (wdL bs).length = 32 := by simp [wdL]
theorem wdL_get (bs : List Int) (k : Nat) (h : k < 32) : (wdL bs).getD k 0 = bs.getD (2 * k) 0 + 256 * bs.getD (2 * k + 1) 0 := by
  unfold wdL
  rw [List.getD, List.getElem?_map, List.getElem?_range h]
  rfl
/-- What 64 bytes come to; nothing of another number of bytes. -/
def wdOk (bs : List Int) : Bool := decide (bs.length = 64)
def wdF (bs : List Int) : List Int := if wdOk bs = true then redO (val (wdL bs)) else []

end Go.Proofs.YtihoaakbkffejaaDoor
namespace Go.Proofs.YtihoaakbkffejaaDoor
open Go.RowKit

abbrev U64 (xs : List Int) : List Value := xs.map (Value.int .u64)
theorem Arr.u64 {w : World} {g : Nat} {t : TypeId} {xs : List Int} (h : Arr w g t (U64 xs)) (j : Nat) (hj : j < xs.length) : w.cell? ⟨g, j, none⟩ = some (.int .u64 (xs.getD j 0)) := by
  rw [h.cell j]; simp [hj]
theorem Arr.setW {w : World} {g : Nat} {t : TypeId} {a0 a1 a2 a3 a4 a5 a6 a7 : Int} (h : Arr w g t (U64 [a0, a1, a2, a3, a4, a5, a6, a7])) (l0 l1 l2 l3 l4 l5 l6 l7 : Int) :
    Arr ((((((((w.setCell ⟨g, 0, none⟩ (.int .u64 l0)).setCell ⟨g, 1, none⟩ (.int .u64 l1)).setCell ⟨g, 2, none⟩ (.int .u64 l2)).setCell ⟨g, 3, none⟩ (.int .u64 l3)).setCell ⟨g, 4, none⟩ (.int .u64 l4)).setCell ⟨g, 5, none⟩ (.int .u64 l5)).setCell ⟨g, 6, none⟩ (.int .u64 l6)).setCell ⟨g, 7, none⟩ (.int .u64 l7))
      g t (U64 [l0, l1, l2, l3, l4, l5, l6, l7]) :=
  (((((((h.set 0 (.int .u64 l0)).set 1 (.int .u64 l1)).set 2 (.int .u64 l2)).set 3 (.int .u64 l3)).set 4 (.int .u64 l4)).set 5 (.int .u64 l5)).set 6 (.int .u64 l6)).set 7 (.int .u64 l7)

theorem wrap_u64 (n : Int) : IntKind.u64.wrap n = n % 18446744073709551616 := by simp [IntKind.wrap, IntKind.bits, IntKind.signed]
theorem wraps_u64 (n : Int) (h0 : 0 ≤ n) (h1 : n < 2 ^ 64) : IntKind.u64.wrap n = n := by rw [wrap_u64]; omega
theorem u64_or8 {x y : Int} (h0 : 0 ≤ x) (h1 : x < 18446744073709551616) (h2 : x % 256 = 0) (h3 : 0 ≤ y) (h4 : y < 256) : bits .or .u64 x y = x + y :=
  bits_join .u64 64 (by decide) wraps_u64 8 x y h0 (by simpa using h2) (by simpa using h1) h3 (by simpa using h4) (by omega)

/-- A word turned right by n. -/
def rotw (x : Int) (n : Nat) : Int := bits .or .u64 (x / 2 ^ n) (x * 2 ^ (64 - n) % 18446744073709551616)
def xrw (x y : Int) : Int := bits .xor .u64 x y
def ndw (x y : Int) : Int := bits .and .u64 x y
def tS0 (x : Int) : Int := xrw (xrw (rotw x 1) (rotw x 8)) (x / 2 ^ 7)
def tS1 (x : Int) : Int := xrw (xrw (rotw x 19) (rotw x 61)) (x / 2 ^ 6)
def cS0 (x : Int) : Int := xrw (xrw (rotw x 28) (rotw x 34)) (rotw x 39)
def cS1 (x : Int) : Int := xrw (xrw (rotw x 14) (rotw x 18)) (rotw x 41)
def chow (e f g : Int) : Int := xrw (ndw e f) (ndw (xrw IntKind.u64.max e) g)
def majw (a b c : Int) : Int := xrw (xrw (ndw a b) (ndw a c)) (ndw b c)

/-- The first m bytes of word j of a block. -/
def wvw (xs : List Int) (j : Nat) : Nat → Int
  | 0 => 0
  | m + 1 => wvw xs j m * 256 + xs.getD (8 * j + m) 0
/-- The word behind these. -/
def nextWw (xs l : List Int) : Int :=
  if l.length < 16 then wvw xs l.length 8
  else (l.getD (l.length - 16) 0 + tS0 (l.getD (l.length - 15) 0) + l.getD (l.length - 7) 0 + tS1 (l.getD (l.length - 2) 0)) % 18446744073709551616
def schedW (xs : List Int) : Nat → List Int
  | 0 => []
  | k + 1 => schedW xs k ++ [nextWw xs (schedW xs k)]
theorem schedW_len (xs : List Int) (k : Nat) : (schedW xs k).length = k := by
  induction k with
  | zero => rfl
  | succ k ih => simp [schedW, ih]

def KW : List Int := [4794697086780616226, 8158064640168781261, 13096744586834688815, 16840607885511220156, 4131703408338449720, 6480981068601479193, 10538285296894168987, 12329834152419229976, 15566598209576043074, 1334009975649890238, 2608012711638119052, 6128411473006802146, 8268148722764581231, 9286055187155687089, 11230858885718282805, 13951009754708518548, 16472876342353939154, 17275323862435702243, 1135362057144423861, 2597628984639134821, 3308224258029322869, 5365058923640841347, 6679025012923562964, 8573033837759648693, 10970295158949994411, 12119686244451234320, 12683024718118986047, 13788192230050041572, 14330467153632333762, 15395433587784984357, 489312712824947311, 1452737877330783856, 2861767655752347644, 3322285676063803686, 5560940570517711597, 5996557281743188959, 7280758554555802590, 8532644243296465576, 9350256976987008742, 10552545826968843579, 11727347734174303076, 12113106623233404929, 14000437183269869457, 14369950271660146224, 15101387698204529176, 15463397548674623760, 17586052441742319658, 1182934255886127544, 1847814050463011016, 2177327727835720531, 2830643537854262169, 3796741975233480872, 4115178125766777443, 5681478168544905931, 6601373596472566643, 7507060721942968483, 8399075790359081724, 8693463985226723168, 9568029438360202098, 10144078919501101548, 10430055236837252648, 11840083180663258601, 13761210420658862357, 14299343276471374635, 14566680578165727644, 15097957966210449927, 16922976911328602910, 17689382322260857208, 500013540394364858, 748580250866718886, 1242879168328830382, 1977374033974150939, 2944078676154940804, 3659926193048069267, 4368137639120453308, 4836135668995329356, 5532061633213252278, 6448918945643986474, 6902733635092675308, 7801388544844847127]
theorem getD_memW {xs : List Int} {k : Nat} (hk : k < xs.length) : xs.getD k 0 ∈ xs := by
  rw [List.getD_eq_getElem?_getD, List.getElem?_eq_getElem hk]; exact List.getElem_mem _
theorem KW_len : KW.length = 80 := rfl
def H0W : List Int := [7640891576956012808, 13503953896175478587, 4354685564936845355, 11912009170470909681, 5840696475078001361, 11170449401992604703, 2270897969802886507, 6620516959819538809]
theorem H0W_word : ∀ x ∈ H0W, 0 ≤ x ∧ x < 18446744073709551616 := by decide
theorem H0W_len : H0W.length = 8 := rfl

/-- One round, on the words and the round's word. -/
def stpw8 (a b c d e f g h kw : Int) : List Int :=
  [(h + cS1 e + chow e f g + kw + (cS0 a + majw a b c)) % 18446744073709551616, a, b, c, (d + (h + cS1 e + chow e f g + kw)) % 18446744073709551616, e, f, g]
def stpw (st : List Int) (kw : Int) : List Int :=
  match st with
  | [a, b, c, d, e, f, g, h] => stpw8 a b c d e f g h kw
  | _ => st
def rndw (ws ks st : List Int) : Nat → List Int
  | 0 => st
  | k + 1 => stpw (rndw ws ks st k) (ws.getD k 0 + ks.getD k 0)
theorem stpw_len {st : List Int} (h : st.length = 8) (kw : Int) : (stpw st kw).length = 8 := by
  obtain ⟨a, b, c, d, e, f, g, i, rfl⟩ := list8 h
  rfl
theorem rndw_len (ws ks : List Int) {st : List Int} (h : st.length = 8) (k : Nat) : (rndw ws ks st k).length = 8 := by
  induction k with
  | zero => exact h
  | succ k ih => exact stpw_len ih _
/-- What a block makes of eight words. -/
def blkw (h bs : List Int) : List Int := List.zipWith (fun x y => (x + y) % 18446744073709551616) h (rndw (schedW bs 80) KW h 80)
theorem blkw_len {h : List Int} (hh : h.length = 8) (bs : List Int) : (blkw h bs).length = 8 := by
  simp [blkw, rndw_len _ _ hh, hh]
theorem blkw_word (h bs : List Int) : ∀ x ∈ blkw h bs, 0 ≤ x ∧ x < 18446744073709551616 := by
  intro x hx
  simp only [blkw, List.mem_iff_getElem?] at hx
  obtain ⟨i, hi⟩ := hx
  rw [List.getElem?_zipWith] at hi
  split at hi
  · simp only [Option.some.injEq] at hi
    omega
  · cases hi
theorem wvw_range {xs : List Int} (h : ∀ x ∈ xs, 0 ≤ x ∧ x < 256) (j m : Nat) : 0 ≤ wvw xs j m ∧ wvw xs j m < 256 ^ m := by
  induction m with
  | zero => simp [wvw]
  | succ m ih =>
    have hx : 0 ≤ xs.getD (8 * j + m) 0 ∧ xs.getD (8 * j + m) 0 < 256 := by
      by_cases hl : 8 * j + m < xs.length
      · exact get_byte h hl
      · rw [List.getD_eq_getElem?_getD, List.getElem?_eq_none (by omega)]
        simp
    obtain ⟨p, hp⟩ : ∃ p : Int, p = 256 ^ m := ⟨_, rfl⟩
    rw [Int.pow_succ, ← hp]
    rw [← hp] at ih
    simp only [wvw]
    omega
theorem schedW_snoc (xs : List Int) (k : Nat) : schedW xs (k + 1) = schedW xs k ++ [nextWw xs (schedW xs k)] := rfl

/-- The two halves of a word. -/
def hv2 (x : Int) : List Int := [x / 4294967296, x % 4294967296]
def halves (l : List Int) : List Int := l.flatMap hv2
end Go.Proofs.YtihoaakbkffejaaDoor
namespace Go.Proofs.YtihoaakbkffejaaDoor
open Go.RowKit

set_option maxHeartbeats 400000 in
theorem specTurnW (x : Int) (n : Nat) (hn : 0 < n) (hn2 : n < 64) (m : Int) (hm : m = (n : Int)) (w : World) :
    Calls Tryd.prog 39 #[.int .u64 x, .int .i64 m] w fun e w' => e = .returned (.int .u64 (rotw x n)) ∧ ∃ q, w' = w.drewN q := by
  subst hm
  go_enter Tryd.func39, Tryd.ntmps39
  go_wp2
  go_quiet (fail)
  go_wp2
  go_ret
  exact ⟨rfl, _, rfl⟩
abbrev Z80 : List Int := [0, 0, 0, 0, 0, 0, 0, 0, 0, 0, 0, 0, 0, 0, 0, 0, 0, 0, 0, 0, 0, 0, 0, 0, 0, 0, 0, 0, 0, 0, 0, 0, 0, 0, 0, 0, 0, 0, 0, 0, 0, 0, 0, 0, 0, 0, 0, 0, 0, 0, 0, 0, 0, 0, 0, 0, 0, 0, 0, 0, 0, 0, 0, 0, 0, 0, 0, 0, 0, 0, 0, 0, 0, 0, 0, 0, 0, 0, 0, 0]

theorem zeroRun {P : Program} {t : TypeId} {z : Value} (h : (P.info? t).map (·.zero) = some (some z)) (w : World) : (zeroValue t).run P w = .ok z w := by
  cases hi : P.info? t with
  | none => rw [hi] at h; cases h
  | some i =>
    rw [hi] at h
    simp only [Option.map_some, Option.some.injEq] at h
    simp [zeroValue, typeInfo, hi, h]
theorem zero80 (w : World) : (zeroValue 69).run Tryd.prog w = .ok (.agg #[.int .u64 0, .int .u64 0, .int .u64 0, .int .u64 0, .int .u64 0, .int .u64 0, .int .u64 0, .int .u64 0, .int .u64 0, .int .u64 0, .int .u64 0, .int .u64 0, .int .u64 0, .int .u64 0, .int .u64 0, .int .u64 0, .int .u64 0, .int .u64 0, .int .u64 0, .int .u64 0, .int .u64 0, .int .u64 0, .int .u64 0, .int .u64 0, .int .u64 0, .int .u64 0, .int .u64 0, .int .u64 0, .int .u64 0, .int .u64 0, .int .u64 0, .int .u64 0, .int .u64 0, .int .u64 0, .int .u64 0, .int .u64 0, .int .u64 0, .int .u64 0, .int .u64 0, .int .u64 0, .int .u64 0, .int .u64 0, .int .u64 0, .int .u64 0, .int .u64 0, .int .u64 0, .int .u64 0, .int .u64 0, .int .u64 0, .int .u64 0, .int .u64 0, .int .u64 0, .int .u64 0, .int .u64 0, .int .u64 0, .int .u64 0, .int .u64 0, .int .u64 0, .int .u64 0, .int .u64 0, .int .u64 0, .int .u64 0, .int .u64 0, .int .u64 0, .int .u64 0, .int .u64 0, .int .u64 0, .int .u64 0, .int .u64 0, .int .u64 0, .int .u64 0, .int .u64 0, .int .u64 0, .int .u64 0, .int .u64 0, .int .u64 0, .int .u64 0, .int .u64 0, .int .u64 0, .int .u64 0]) w := zeroRun (by kernel_rfl) w

theorem wpList_buildTo {P : Program} {ops : Array Oper} {rest : List Oper} {o : Oper} {a : Act} {w : World} {Q : Exit → Act → World → Prop} (hg : o.guard = none) (t : TypeId) (parts : Array (Nat × Operand)) (ho : o.op = .build t parts) (cells : Array Value)
    (hc : P.built t (parts.map fun (i, x) => (i, a.eval x)).toList = some cells) (h : wpList P ops Q rest (a.put o.dst (.agg cells)) w) : wpList P ops Q (o :: rest) a w :=
  wpList_build hg t parts ho (by rw [hc]; rfl) (by rw [hc]; exact h)

set_option maxHeartbeats 1000000 in
theorem specRoundW (k : Nat) (hk : k < 80) (w : World) :
    Calls Tryd.prog 40 #[.int .i64 (k : Int)] w fun e w' => e = .returned (.int .u64 (KW.getD k 0)) ∧ Below w.heap.size w w' := by
  have hA := Arr.new w (U64 Z80) 69
  have hB : Below w.heap.size w (w.alloc (.cells (U64 Z80).toArray 69)) := (Below.refl _ _).alloc (Nat.le_refl _) _
  have hA2 := hA.row (U64 KW)
  have hB2 := setRow_below hB w.heap.size (U64 KW).toArray (Nat.le_refl _)
  have hck := hA2.u64 k (by rw [KW_len]; exact hk)
  obtain ⟨y, hy⟩ : ∃ y, y = KW.getD k 0 := ⟨_, rfl⟩
  rw [← hy] at hck
  have hck2 : ((w.alloc (.cells #[.int .u64 0, .int .u64 0, .int .u64 0, .int .u64 0, .int .u64 0, .int .u64 0, .int .u64 0, .int .u64 0, .int .u64 0, .int .u64 0, .int .u64 0, .int .u64 0, .int .u64 0, .int .u64 0, .int .u64 0, .int .u64 0, .int .u64 0, .int .u64 0, .int .u64 0, .int .u64 0, .int .u64 0, .int .u64 0, .int .u64 0, .int .u64 0, .int .u64 0, .int .u64 0, .int .u64 0, .int .u64 0, .int .u64 0, .int .u64 0, .int .u64 0, .int .u64 0, .int .u64 0, .int .u64 0, .int .u64 0, .int .u64 0, .int .u64 0, .int .u64 0, .int .u64 0, .int .u64 0, .int .u64 0, .int .u64 0, .int .u64 0, .int .u64 0, .int .u64 0, .int .u64 0, .int .u64 0, .int .u64 0, .int .u64 0, .int .u64 0, .int .u64 0, .int .u64 0, .int .u64 0, .int .u64 0, .int .u64 0, .int .u64 0, .int .u64 0, .int .u64 0, .int .u64 0, .int .u64 0, .int .u64 0, .int .u64 0, .int .u64 0, .int .u64 0, .int .u64 0, .int .u64 0, .int .u64 0, .int .u64 0, .int .u64 0, .int .u64 0, .int .u64 0, .int .u64 0, .int .u64 0, .int .u64 0, .int .u64 0, .int .u64 0, .int .u64 0, .int .u64 0, .int .u64 0, .int .u64 0] 69)).setRow w.heap.size (U64 KW).toArray).cell? ⟨w.heap.size, k, none⟩ = some (.int .u64 y) := hck
  have HY : Hid _ := hy
  have HB : Hid _ := hB2
  clear hy hA2 hB2 hB hck
  have hk80 : (k : Int) < 80 := by omega
  have hz80 := zero80
  go_enter Tryd.func40, Tryd.ntmps40
  go_wp2_with (first
    | (refine wpList_buildTo rfl 69 _ rfl (U64 KW).toArray (by kernel_rfl) ?_)
    | (refine wpList_store_row rfl 69 _ _ rfl w.heap.size (U64 KW).toArray rfl rfl 69 (U64 Z80).toArray hA (by kernel_rfl) (by kernel_rfl) (by kernel_rfl) ?_))
  go_ret
  refine ⟨?_, HB.out⟩
  show Ending.returned (.int .u64 y) = _
  rw [HY.out]
  rfl

set_option maxHeartbeats 1000000 in
theorem specFirstW (w : World) :
    Calls Tryd.prog 23 #[] w fun e w' => e = .returned (.agg (U64 H0W).toArray) ∧ Below w.heap.size w w' := by
  go_enter Tryd.func23, Tryd.ntmps23
  go_wp2
  exact bodyPost_ret (results_cell_row rfl _ _ w.heap.size 52 _ (0, 0) _ rfl (heap_alloc_new w _) Tryd.underlying52 rfl (by kernel_rfl)) rfl ⟨rfl, (Below.refl _ _).alloc (Nat.le_refl _) _⟩

end Go.Proofs.YtihoaakbkffejaaDoor
