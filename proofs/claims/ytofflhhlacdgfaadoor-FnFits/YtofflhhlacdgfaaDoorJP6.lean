/-
  What is proved here: plain mathematics: eight words that go through blocks of 64 bytes; no condition; the contract of the program's method takeBlocks at words of 32 bits: the eight words behind a pointer go through all whole blocks of a slice of bytes that lies elsewhere, and the rest is told; the contract of the program's appendHighFirst: the bytes of a number of 64 bits, the greatest first, behind a row that the call owns; the row holds at most 100000 bytes; the contract of the library's bytes.Clone, for slices of at most 2^21 bytes; contracts of the library's slices.Grow (at the nil slice), slices.Concat (at two slices), for slices of at most 2^22 bytes; the contract of the program's shaPadded at words of 32 bits: the tail, the mark, as many zeros as are wanted, and the length in bits in 8 bytes.
-/
import Derived.Test.YtofflhhlacdgfaaDoorJP2
import Derived.Test.YtofflhhlacdgfaaDoorJP5
import Derived.Deep.RegionHeld3
import Derived.Test.YtofflhhlacdgfaaDoorJP1
import Derived.Lib.AppendZerosOnto
import Derived.WalkSpells
namespace Go.Proofs.YtofflhhlacdgfaaDoor
open Go.RowKit

/-- The words behind k blocks. -/
def fld (hs l : List Int) : Nat → List Int
  | 0 => hs
  | k + 1 => blk (fld hs l k) ((l.drop (64 * k)).take 64)
theorem fld_len {hs : List Int} (h : hs.length = 8) (l : List Int) (k : Nat) : (fld hs l k).length = 8 := by
  induction k with
  | zero => exact h
  | succ k ih => exact blk_len ih _
theorem fld_word {hs : List Int} (h : ∀ x ∈ hs, 0 ≤ x ∧ x < 4294967296) (l : List Int) (k : Nat) : ∀ x ∈ fld hs l k, 0 ≤ x ∧ x < 4294967296 := by
  cases k with
  | zero => exact h
  | succ k => exact blk_word _ _
/-- The words behind all whole blocks, and what is left. -/
def allB (hs l : List Int) : List Int := fld hs l (l.length / 64)
def restB (l : List Int) : List Int := l.drop (64 * (l.length / 64))

end Go.Proofs.YtofflhhlacdgfaaDoor
namespace Go.Proofs.YtofflhhlacdgfaaDoor
open Go.RowKit
set_option maxRecDepth 100000

/-- What the loop over the blocks holds. -/
structure Tbn (w W : World) (g rb : Nat) (st : List Int) : Prop where
  gr : w.grownBy W (some g)
  ar : Arr W g 134 (U32 st)
  ru : Arr W w.heap.size 142 [.int .i64 2, .int .i64 13, .int .i64 22, .int .i64 6, .int .i64 11, .int .i64 25, .int .i64 7, .int .i64 18, .int .i64 3, .int .i64 17, .int .i64 19, .int .i64 10, .slice (some ⟨rb, 0, none⟩) 64 64]
  rb : Arr W rb 158 (U32 KS)
theorem Tbn.all {w W : World} {g rb : Nat} {st : List Int} (h : Tbn w W g rb st) : W.cell? ⟨w.heap.size, 0, none⟩ = some (.int .i64 2) ∧ W.cell? ⟨w.heap.size, 1, none⟩ = some (.int .i64 13) ∧ W.cell? ⟨w.heap.size, 2, none⟩ = some (.int .i64 22) ∧ W.cell? ⟨w.heap.size, 3, none⟩ = some (.int .i64 6) ∧ W.cell? ⟨w.heap.size, 4, none⟩ = some (.int .i64 11) ∧ W.cell? ⟨w.heap.size, 5, none⟩ = some (.int .i64 25) ∧ W.cell? ⟨w.heap.size, 6, none⟩ = some (.int .i64 7) ∧ W.cell? ⟨w.heap.size, 7, none⟩ = some (.int .i64 18) ∧ W.cell? ⟨w.heap.size, 8, none⟩ = some (.int .i64 3) ∧ W.cell? ⟨w.heap.size, 9, none⟩ = some (.int .i64 17) ∧ W.cell? ⟨w.heap.size, 10, none⟩ = some (.int .i64 19) ∧ W.cell? ⟨w.heap.size, 11, none⟩ = some (.int .i64 10) ∧ W.cell? ⟨w.heap.size, 12, none⟩ = some (.slice (some ⟨rb, 0, none⟩) 64 64) :=
  ⟨h.ru.cell 0, h.ru.cell 1, h.ru.cell 2, h.ru.cell 3, h.ru.cell 4, h.ru.cell 5, h.ru.cell 6, h.ru.cell 7, h.ru.cell 8, h.ru.cell 9, h.ru.cell 10, h.ru.cell 11, h.ru.cell 12⟩
theorem Tbn.go {w A B : World} {g rb : Nat} {st st' : List Int} (h : Tbn w A g rb st) (hg : A.grownBy B (some g)) (ha : Arr B g 134 (U32 st')) (h1 : g < w.heap.size) (h2 : rb ≠ g) : Tbn w B g rb st' :=
  ⟨grown_trans h.gr hg, ha, (hg.block _ h.ru.lt (fun e => by injection e with e; omega)).trans h.ru, (hg.block _ h.rb.lt (fun e => by injection e with e; omega)).trans h.rb⟩

set_option maxHeartbeats 2000000 in
theorem takeBlocksCn (g : Nat) (hs : List Int) (a : Option Addr) (n c rb : Nat) (l : List Int) (w : World) (hA : Arr w g 134 (U32 hs)) (hl : hs.length = 8) (hx : Bs w a n c l) (ho : Off a g) (hrb : Arr w rb 158 (U32 KS)) (hgr : rb ≠ g) :
    Calls Tryd.prog 115 #[.pointer (some ⟨g, 0, none⟩), .slice a n c, rulesVn rb] w fun e w' => ∃ a' c', e = .returned (.slice a' (n % 64) c') ∧ Bs w' a' (n % 64) c' (l.drop (64 * (n / 64))) ∧ Off a' g ∧ Arr w' g 134 (U32 (fld hs l (n / 64))) ∧ w.grownBy w' (some g) := by
  have hll := hx.2.1
  have hgs := hA.lt
  obtain ⟨W, hW⟩ : ∃ W, W = w.alloc (.cells #[.int .i64 2, .int .i64 13, .int .i64 22, .int .i64 6, .int .i64 11, .int .i64 25, .int .i64 7, .int .i64 18, .int .i64 3, .int .i64 17, .int .i64 19, .int .i64 10, .slice (some ⟨rb, 0, none⟩) 64 64] 142) := ⟨_, rfl⟩
  have hB : Below w.heap.size w W := by rw [hW]; exact (Below.refl _ _).alloc (Nat.le_refl _) _
  have TB0 : Tbn w W g rb hs := ⟨grown_of_below hB _, hA.kept hB, by rw [hW]; exact Arr.new w [.int .i64 2, .int .i64 13, .int .i64 22, .int .i64 6, .int .i64 11, .int .i64 25, .int .i64 7, .int .i64 18, .int .i64 3, .int .i64 17, .int .i64 19, .int .i64 10, .slice (some ⟨rb, 0, none⟩) 64 64] _, hrb.kept hB⟩
  have hx0 := hx.below hB
  clear hA hrb hx hB
  go_enter Tryd.func115, Tryd.ntmps115
  go_wp2_with (go_at_call 131; refine (wordBytesn _).mono ?_; rintro e w' ⟨rfl, rfl⟩)
  rw [← hW]
  clear hW
  go_loopw [1] (fun v wr => ∃ (k : Nat) (a' : Option Addr) (m c' : Nat), v = .slice a' m c' ∧ m + 64 * k = n ∧ Bs wr a' m c' (l.drop (64 * k)) ∧ Off a' g ∧ Tbn w wr g rb (fld hs l k)) (fun v _ => match v with | .slice _ m _ => m | _ => 0)
  case atStart => exact ⟨0, a, n, c, rfl, rfl, by simpa using hx0, ho, TB0⟩
  case round =>
    clear hx0 ho TB0
    obtain ⟨k, a', m, c', rfl, hm, hx, ho, TB⟩ := hrel
    by_cases hBm : 64 ≤ m
    · have hBm' : (64 : Int) ≤ (m : Int) := by omega
      have hc' := hx.2.2.1
      obtain ⟨b, o, rfl⟩ : ∃ b o, a' = some ⟨b, o, none⟩ := by
        rcases hx.2.2.2.2 with h | ⟨b, o, h, _⟩
        · omega
        · exact ⟨b, o, h⟩
      have hcB : (64 : Int) ≤ (c' : Int) := by omega
      have TBd : Tbn w wr.drew g rb (fld hs l k) := ⟨grown_drew TB.gr, TB.ar.drew, TB.ru.drew, TB.rb.drew⟩
      have hxd : Bs wr.drew (some ⟨b, o, none⟩) m c' (l.drop (64 * k)) := hx.below (Below.refl _ _).drew
      clear TB hx
      go_wp2
      go_region_held3 (fun W => W.cell? ⟨w.heap.size, 0, none⟩ = some (.int .i64 2) ∧ W.cell? ⟨w.heap.size, 1, none⟩ = some (.int .i64 13) ∧ W.cell? ⟨w.heap.size, 2, none⟩ = some (.int .i64 22) ∧ W.cell? ⟨w.heap.size, 3, none⟩ = some (.int .i64 6) ∧ W.cell? ⟨w.heap.size, 4, none⟩ = some (.int .i64 11) ∧ W.cell? ⟨w.heap.size, 5, none⟩ = some (.int .i64 25) ∧ W.cell? ⟨w.heap.size, 6, none⟩ = some (.int .i64 7) ∧ W.cell? ⟨w.heap.size, 7, none⟩ = some (.int .i64 18) ∧ W.cell? ⟨w.heap.size, 8, none⟩ = some (.int .i64 3) ∧ W.cell? ⟨w.heap.size, 9, none⟩ = some (.int .i64 17) ∧ W.cell? ⟨w.heap.size, 10, none⟩ = some (.int .i64 19) ∧ W.cell? ⟨w.heap.size, 11, none⟩ = some (.int .i64 10) ∧ W.cell? ⟨w.heap.size, 12, none⟩ = some (.slice (some ⟨rb, 0, none⟩) 64 64))
        (exact TBd.all)
        ((go_at_call 132; refine (takeBlockCn g (fld hs l k) (some ⟨b, o, none⟩) c' rb ((l.drop (64 * k)).take 64) _ TBd.ar (fld_len hl l k) (hxd.take hBm) TBd.rb).mono ?_; rintro e w2 ⟨rfl, hA2, hg2⟩; replace TBd := TBd.go hg2 hA2 hgs hgr; replace hxd := hxd.grown hg2 ho; clear hA2 hg2))
      have hd : (l.drop (64 * k)).drop 64 = l.drop (64 * (k + 1)) := by rw [List.drop_drop]; congr 1
      have HD : Hid _ := hd
      have TB2 : Tbn w w2 g rb (fld hs l (k + 1)) := TBd
      clear hd TBd
      have hmB : ((m : Int) - 64).toNat = m - 64 := by omega
      have hcBn : ((c' : Int) - 64).toNat = c' - 64 := by omega
      by_cases hce : c' = 64
      · subst hce
        have hm0 : m = 64 := by omega
        subst hm0
        have hnil : l.drop (64 * (k + 1)) = [] := List.drop_eq_nil_of_le (by omega)
        have HX : Hid (Bs w2 (some ⟨b, o, none⟩) 0 0 (l.drop (64 * (k + 1)))) := Bs.none0 hnil
        clear hnil hxd
        go_wp2
        go_roundw
        case rel => exact ⟨k + 1, some ⟨b, o, none⟩, 0, 0, by first | rfl | simp, by omega, HX.out, ho, TB2⟩
        case measure => simp
      · have HX : Hid (Bs w2 (some ⟨b, o + 64, none⟩) (m - 64) (c' - 64) (l.drop (64 * (k + 1)))) := by
          unfold Hid
          rw [← HD.out]
          exact hxd.drop hBm
        have ho' : Off (some ⟨b, o + 64, none⟩) g := fun b' o' s he => by cases he; exact ho b o none rfl
        clear hxd
        go_wp2
        go_roundw
        case rel => exact ⟨k + 1, some ⟨b, o + 64, none⟩, m - 64, c' - 64, by first | rfl | simp, by omega, HX.out, ho', TB2⟩
        case measure => simp; omega
    · have hk : n / 64 = k := by omega
      have hrl : n % 64 = m := by omega
      have HRL : Hid _ := hrl
      have HKK : Hid _ := hk
      clear hrl hk
      have hBm' : ¬ ((64 : Int) ≤ (m : Int)) := by omega
      go_wp2
      go_ret
      refine ⟨a', c', ?_, ?_, ho, ?_, TB.gr⟩
      · rw [HRL.out]; rfl
      · rw [HRL.out, HKK.out]; exact hx
      · rw [HKK.out]; exact TB.ar
end Go.Proofs.YtofflhhlacdgfaaDoor
namespace Go.Proofs.YtofflhhlacdgfaaDoor
open Go.RowKit
set_option maxRecDepth 100000

/-- The first k of c bytes of a number, the greatest first. -/
def hbk (x : Int) (c k : Nat) : List Int := (List.range k).map (fun j => x / 2 ^ (8 * (c - 1 - j)) % 256)
theorem hbk_succ (x : Int) (c k : Nat) : hbk x c (k + 1) = hbk x c k ++ [x / 2 ^ (8 * (c - 1 - k)) % 256] := by simp [hbk, List.range_succ]
theorem hbk_len (x : Int) (c k : Nat) : (hbk x c k).length = k := by simp [hbk]
theorem hbk_byte (x : Int) (c k : Nat) : ∀ y ∈ hbk x c k, 0 ≤ y ∧ y < 256 := by
  intro y hy
  simp only [hbk, List.mem_map] at hy
  obtain ⟨j, _, rfl⟩ := hy
  omega

theorem shr_min {x : Int} (h0 : 0 ≤ x) (h1 : x < 18446744073709551616) (n : Nat) : x / 2 ^ min n 64 = x / 2 ^ n := by
  by_cases h : n ≤ 64
  · rw [show min n 64 = n by omega]
  · have e1 : x / 2 ^ min n 64 = 0 := by
      rw [show min n 64 = 64 by omega]
      exact Int.ediv_eq_zero_of_lt h0 (by simpa using h1)
    have e2 : x / 2 ^ n = 0 := by
      refine Int.ediv_eq_zero_of_lt h0 ?_
      obtain ⟨d, rfl⟩ : ∃ d, n = 64 + d := ⟨n - 64, by omega⟩
      rw [Int.pow_add]
      have : (1 : Int) ≤ 2 ^ d := Int.pow_pos (by omega)
      have h64 : (2 : Int) ^ 64 = 18446744073709551616 := by decide
      rw [h64]
      omega
    rw [e1, e2]

set_option maxHeartbeats 1000000 in
theorem highFirst (base m : Nat) (v : Value) (xs : List Int) (x : Int) (c : Nat) (w : World) (hown : w.ownsRow base 5 1 v m (U8 xs)) (hbase : base ≤ w.heap.size) (hm : m ≤ 100000) (hc : c ≤ 16) (hx0 : 0 ≤ x) (hx1 : x < 18446744073709551616) :
    Calls Tryd.prog 134 #[v, .int .u64 x, .int .i64 (c : Int)] w fun e w' => ∃ v', e = .returned v' ∧ w'.ownsRow base 5 1 v' (m + c) (U8 (xs ++ hbk x c c)) ∧ Below base w w' := by
  have hc1 : IntKind.i64.wrap ((c : Int) - 1) = (c : Int) - 1 := by rw [IntKind.wrap_i64]; omega
  go_enter Tryd.func134, Tryd.ntmps134
  go_wp2
  go_loopw [0, 7] (fun v i wr => ∃ (k : Nat) (j : Int), k ≤ c ∧ j = (c : Int) - 1 - k ∧ i = .int .i64 j ∧ wr.ownsRow base 5 1 v (m + k) (U8 (xs ++ hbk x c k)) ∧ Below base w wr) (fun _ i _ => (intOf i + 1).toNat)
  case atStart => exact ⟨0, (c : Int) - 1, by omega, by omega, rfl, by simpa [hbk] using hown, Below.refl _ _⟩
  case round =>
    clear hown
    obtain ⟨k, j, hk, hj, rfl, hown, hb⟩ := hrel
    by_cases hlt : k < c
    · obtain ⟨i, rfl⟩ : ∃ i : Nat, j = (i : Int) := ⟨c - 1 - k, by omega⟩
      have hi : c - 1 - k = i := by omega
      have hi15 : i ≤ 15 := by omega
      have hn := hbk_succ x c k
      rw [hi] at hn
      have HN : Hid _ := hn
      have HJ : Hid _ := hj
      have s1 : IntKind.i64.wrap (8 * (i : Int)) = 8 * (i : Int) := by rw [IntKind.wrap_i64]; omega
      have s2 : (8 * (i : Int)).toNat = 8 * i := by omega
      have s3 : ¬ 8 * (i : Int) < 0 := by omega
      have s4 : (0 : Int) ≤ (i : Int) := by omega
      have hsz := hb.size
      clear hn hj hi
      obtain ⟨y, hy⟩ : ∃ y, y = x / 2 ^ (8 * i) % 256 := ⟨_, rfl⟩
      have hyb : 0 ≤ y ∧ y < 256 := by omega
      have hyw : x / 2 ^ min (8 * i) 64 % 256 = y := by rw [hy, shr_min hx0 hx1]
      have s5 : wrap64 ((i : Int) - 1) = (i : Int) - 1 := by unfold wrap64; omega
      have HY : Hid _ := hy
      clear hy
      go_wp2_with (at_builtin; refine wpl_append_bs rfl _ _ rfl base _ (m + k) (xs ++ hbk x c k) rfl (some ⟨wr.heap.size, 0, none⟩) 1 1 [y] rfl (hown.alloc _) ?_ ?_ ?_ ?_)
      · exact Bs.one _ _ hyb.1 hyb.2
      · omega
      · first | omega | (simp; omega)
      intro v' w' h1 h2 _
      have hb2 := below_app hb (by omega) hown h2
      have HR : Hid (w'.ownsRow base 5 1 v' (m + (k + 1)) (U8 (xs ++ hbk x c (k + 1)))) := by
        unfold Hid
        rw [HN.out, ← HY.out]; simpa [Nat.add_assoc] using h1
      clear h1 h2 hown hb
      go_wp2
      go_roundw
      case rel => exact ⟨k + 1, (i : Int) - 1, by omega, by have := HJ.out; omega, by go_num, HR.out, hb2⟩
      case measure => simp [intOf]
    · obtain rfl : k = c := by omega
      have hj0 : ¬ ((0 : Int) ≤ j) := by omega
      clear hj
      go_wp2
      go_ret
      exact ⟨_, rfl, by simpa using hown, hb⟩
end Go.Proofs.YtofflhhlacdgfaaDoor
namespace Go.Proofs.YtofflhhlacdgfaaDoor
open Go.RowKit

set_option maxHeartbeats 400000 in
theorem cloneB (a : Option Addr) (n c : Nat) (xs : List Int) (w : World) (h : Bs w a n c xs) (hn : n ≤ 2098176) :
    Calls Tryd.prog 84 #[.slice a n c] w fun e w' => ∃ v, e = .returned v ∧ w'.ownsRow w.heap.size 5 1 v n (U8 xs) ∧ Below w.heap.size w w' := by
  have q22 : ∀ (w : World) (a : Option Addr) (n c n' c' : Nat), (binOp .eql 22 (.slice a n c) (.slice none n' c')).run Tryd.prog w = .ok (.bool a.isNone) w := fun w a n c n' c' => Lib.run_eql_slice_nil w _ _ a n c n' c' Tryd.underlying22
  cases a with
  | none =>
    obtain ⟨h0, hl, hc, _, _⟩ := h
    have hc0 := h0 rfl
    have hn0 : n = 0 := by omega
    subst hn0
    have hx : xs = [] := List.eq_nil_of_length_eq_zero hl
    subst hx
    go_enter Tryd.func84, Tryd.ntmps84
    go_wp2
    go_ret
    exact ⟨_, rfl, World.ownsRow_nil _ _ _ _, Below.refl _ _⟩
  | some ad =>
    have hB : Bs (w.alloc (Obj.cells #[] 5)) (some ad) n c xs := h.below ((Below.refl _ _).alloc (Nat.le_refl _) _)
    clear h
    go_enter Tryd.func84, Tryd.ntmps84
    go_wp2_with (at_builtin; refine wpl_append_bs rfl _ _ rfl w.heap.size _ 0 [] rfl (some ad) n c xs rfl ?_ hB ?_ ?_ ?_)
    · exact World.ownsRow_made w #[] 0 (Nat.le_refl _) (by unfold maxLen; omega) rfl
    · omega
    · simp
    intro v1 w1 hown1 hgrow1 _
    have hbel1 : Below w.heap.size w w1 := ((Below.refl _ _).alloc (Nat.le_refl _) _).grown hgrow1 (by simp) (by intro k hk; simp [Value.ownBlock] at hk; omega)
    clear hgrow1 hB
    go_wp2
    go_ret
    exact ⟨_, rfl, hown1, hbel1⟩

end Go.Proofs.YtofflhhlacdgfaaDoor
namespace Go.Proofs.YtofflhhlacdgfaaDoor
open Go.RowKit

set_option maxHeartbeats 400000 in
theorem growNil (n : Nat) (w : World) (hn : n ≤ 8388608) :
    Calls Tryd.prog 100 #[.slice none 0 0, .int .i64 n] w fun e w' => ∃ v, e = .returned v ∧ w'.ownsRow w.heap.size 5 1 v 0 (U8 []) ∧ Below w.heap.size w w' := by
  obtain ⟨i0, hi, hz0, hz1, hz2⟩ := info_parts Tryd.info5
  by_cases h0 : n = 0
  · subst h0
    go_enter Tryd.func100, Tryd.ntmps100
    go_wp2
    go_ret
    exact ⟨_, rfl, World.ownsRow_nil _ _ _ _, Below.refl _ _⟩
  · have hpos : (0 : Int) < (n : Int) := by omega
    have hrun : ∀ ty, (Builtin.append_ #[22, 3] ty #[.slice none 0 0, .int .i64 (n : Int)]).run Tryd.prog w =
        .ok (.slice (some ⟨w.heap.size, 0, none⟩) n (grownCap w n 0 5)) (w.drew.alloc (.cells (#[] ++ Builtin.zeroCells (Value.int .u8 0).cells n ++ Builtin.zeroCells (Value.int .u8 0).cells (grownCap w n 0 5 - n)) 5)) := fun ty => by
      have h := Lib.run_append_grow_zeros w 22 3 ty 5 i0 (.int .u8 0) .i64 .i64 Tryd.underlying22 Tryd.underlying3 hi hz0 none 0 0 [] (run_firstCells_none w.drew i0.size 0 0 0) n (by omega) (by omega) (by omega) (by omega) (by rw [hz2]; omega)
        (by rw [hz2]; exact growslice_fits (by omega) (by omega))
      simpa using h
    have hGn : n ≤ grownCap w n 0 5 := grownCap_ge w _ _ _
    have hGm : grownCap w n 0 5 ≤ maxLen := grownCap_le_maxLen w n 0 5 (by unfold maxLen; omega)
    obtain ⟨G, hG⟩ : ∃ G, G = grownCap w n 0 5 := ⟨_, rfl⟩
    rw [← hG] at hrun hGn hGm
    clear hG hi hz0 hz1 hz2
    obtain ⟨C, hC⟩ : ∃ C, C = (#[] ++ Builtin.zeroCells (Value.int .u8 0).cells n ++ Builtin.zeroCells (Value.int .u8 0).cells (G - n)) := ⟨_, rfl⟩
    rw [← hC] at hrun
    have hCs : C.size = G * 1 := by rw [hC]; simp [size_zeroCells, Value.cells]; omega
    have HC : Hid (C.size = G * 1) := hCs
    clear hC hCs
    have hGm' := hGm
    unfold maxLen at hGm
    go_enter Tryd.func100, Tryd.ntmps100
    go_wp2_with (at_builtin; refine Lib.wpList_append_run _ rfl _ _ _ _ rfl _ _ rfl rfl _ _ (hrun _) ?_)
    go_ret
    exact ⟨.slice (some ⟨w.heap.size, 0, none⟩) 0 G, rfl, (World.ownsRow_made (base := w.heap.size) (e := 5) (size := 1) w C G (Nat.le_refl _) hGm' HC.out).drew, ((Below.refl _ _).alloc (Nat.le_refl _) _).drew⟩

set_option maxHeartbeats 1000000 in
theorem concat2 (g : Nat) (a a' : Option Addr) (n c n' c' : Nat) (xs ys : List Int) (w : World) (hg : g < w.heap.size)
    (h0 : w.cell? ⟨g, 0, none⟩ = some (.slice a n c)) (h1 : w.cell? ⟨g, 1, none⟩ = some (.slice a' n' c')) (h : Bs w a n c xs) (h' : Bs w a' n' c' ys) (hn : n ≤ 2098176) (hn' : n' ≤ 2098176) :
    Calls Tryd.prog 49 #[.slice (some ⟨g, 0, none⟩) 2 2] w fun e w' => ∃ v, e = .returned v ∧ w'.ownsRow w.heap.size 5 1 v (n + n') (U8 (xs ++ ys)) ∧ Below w.heap.size w w' := by
  go_enter Tryd.func49, Tryd.ntmps49
  go_wp2
  refine wp_loop_rounds 3 ?_
  rw [rounds_succ]
  go_wp2
  rw [rounds_succ]
  go_wp2
  rw [rounds_succ]
  go_wp2_with fail
  have eN : ((n : Int) + (n' : Int)) = ((n + n' : Nat) : Int) := by omega
  rw [eN]
  refine (growNil (n + n') w (by omega)).mono ?_
  rintro e w1 ⟨v1, rfl, hown1, b1⟩
  have q0 : w1.cell? ⟨g, 0, none⟩ = some (.slice a n c) := (b1.cell (p := ⟨g, 0, none⟩) hg).trans h0
  have q1 : w1.cell? ⟨g, 1, none⟩ = some (.slice a' n' c') := (b1.cell (p := ⟨g, 1, none⟩) hg).trans h1
  have s1 := b1.size
  have hx1 := h.below b1
  clear h0 h1 eN
  go_wp2
  refine wp_loop_rounds 3 ?_
  rw [rounds_succ]
  go_wp2_with (at_builtin; refine wpl_append_bs rfl _ _ rfl w.heap.size _ 0 [] rfl a n c xs rfl hown1 hx1 ?_ ?_ ?_)
  · omega
  · omega
  intro v2 w2 hown2 hgr2 _
  have b2 : Below w.heap.size w w2 := below_app0 b1 s1 hown1 hgr2
  have q1' : w2.cell? ⟨g, 1, none⟩ = some (.slice a' n' c') := (b2.cell (p := ⟨g, 1, none⟩) hg).trans ((b1.cell (p := ⟨g, 1, none⟩) hg).symm.trans q1)
  have s2 := b2.size
  have hy2 := h'.below b2
  clear hgr2 hown1 b1 q0 q1 s1 hx1 h h'
  go_wp2
  rw [rounds_succ]
  go_wp2_with (at_builtin; refine wpl_append_bs rfl _ _ rfl w.heap.size _ n xs rfl a' n' c' ys rfl hown2 hy2 ?_ ?_ ?_)
  · omega
  · omega
  intro v3 w3 hown3 hgr3 _
  have b3 : Below w.heap.size w w3 := below_app0 b2 s2 hown2 hgr3
  clear hgr3 hown2 b2 q1' s2 hy2
  go_wp2
  rw [rounds_succ]
  go_wp2
  go_ret
  exact ⟨v3, rfl, by simpa using hown3, b3⟩

end Go.Proofs.YtofflhhlacdgfaaDoor
namespace Go.Proofs.YtofflhhlacdgfaaDoor
open Go.RowKit
set_option maxRecDepth 100000

/-- How many zeros are wanted behind n bytes and the mark. -/
def zfn (n : Nat) : Nat := (119 - n % 64) % 64
theorem zfn_lt (n : Nat) : zfn n < 64 := Nat.mod_lt _ (by omega)
theorem zfn_is (n : Nat) : (n + 1 + zfn n) % 64 = 56 := by unfold zfn; omega
theorem zfn_no (n k : Nat) (h : k < zfn n) : (n + 1 + k) % 64 ≠ 56 := by unfold zfn at h; omega
/-- What is put behind n bytes of a sum over N bytes. -/
def pdn (n : Nat) (N : Int) : List Int := 128 :: (List.replicate (zfn n) 0 ++ hbk (8 * N) 8 8)
theorem pdn_len (n : Nat) (N : Int) : (pdn n N).length = zfn n + 9 := by simp [pdn, hbk_len]
theorem pdn_byte (n : Nat) (N : Int) : ∀ x ∈ pdn n N, 0 ≤ x ∧ x < 256 := by
  intro x hx
  simp only [pdn, List.mem_cons, List.mem_append, List.mem_replicate] at hx
  rcases hx with rfl | ⟨_, rfl⟩ | h
  · omega
  · omega
  · exact hbk_byte _ _ _ x h

set_option maxHeartbeats 1000000 in
theorem paddedCn (a : Option Addr) (n c : Nat) (ts : List Int) (N : Int) (w : World) (hT : Bs w a n c ts) (h0 : 0 ≤ N) (h1 : N ≤ 20000) (hn : n ≤ 20000) :
    Calls Tryd.prog 133 #[.slice a n c, .int .i64 N] w fun e w' => ∃ v, e = .returned v ∧ w'.ownsRow w.heap.size 5 1 v (n + (zfn n + 9)) (U8 (ts ++ pdn n N)) ∧ Below w.heap.size w w' := by
  have hzl := zfn_lt n
  have hzn := zfn_is n
  have HZ : Hid _ := zfn_no n
  obtain ⟨z, hz⟩ : ∃ z, z = zfn n := ⟨_, rfl⟩
  rw [← hz] at hzl hzn HZ
  have HZN : Hid _ := hz
  clear hz
  go_enter Tryd.func133, Tryd.ntmps133
  go_wp2_with (go_at_call 131; refine (wordBytesn _).mono ?_; rintro e w' ⟨rfl, hw'⟩; rw [hw']; clear hw' w')
  refine (cloneB a n c ts _ hT (by omega)).mono ?_
  rintro e w1 ⟨v1, rfl, ho1, hb1⟩
  go_wp2_with (at_builtin; refine wpl_append_bs rfl _ _ rfl w.heap.size _ n ts rfl (some ⟨w1.heap.size, 0, none⟩) 1 1 [128] rfl (ho1.alloc _) ?_ ?_ ?_ ?_)
  · exact Bs.one _ _ (by omega) (by omega)
  · omega
  · have := hb1.size; first | omega | (simp; omega)
  intro v2 w2 ho2 hg2 _
  have hb2 := below_app hb1 hb1.size ho1 hg2
  clear ho1 hg2 hb1
  go_wp2
  have hby : ∀ k, ∀ x ∈ ts ++ 128 :: List.replicate k (0 : Int), 0 ≤ x ∧ x < 256 := by
    intro k x hx
    simp only [List.mem_append, List.mem_cons, List.mem_replicate] at hx
    rcases hx with h | rfl | ⟨_, rfl⟩
    · exact hT.2.2.2.1 x h
    · omega
    · omega
  have HBY : Hid _ := hby
  clear hby
  go_loopw [7] (fun v wr => ∃ k m : Nat, m = n + 1 + k ∧ k ≤ z ∧ wr.ownsRow w.heap.size 5 1 v m (U8 (ts ++ 128 :: List.replicate k 0)) ∧ Below w.heap.size w wr) (fun v _ => match v with | .slice _ m _ => n + 1 + z - m | _ => 0)
  case atStart => exact ⟨0, n + 1, rfl, by omega, by simpa using ho2, hb2⟩
  case round =>
    clear ho2 hb2
    obtain ⟨k, m, hm, hk, ho, hb⟩ := hrel
    obtain ⟨a3, c3, rfl, _, _⟩ := Bs.own ho (HBY.out k)
    have hsz := hb.size
    have HM : Hid _ := hm
    by_cases hkz : k < z
    · have hne := HZ.out k hkz
      have hr : ¬ ((m : Int) % 64 = 56) := by rw [hm]; omega
      clear hne
      have hm128 : m ≤ 30000 := by omega
      clear hm
      go_wp2_with (at_builtin; refine wpl_append_bs rfl _ _ rfl w.heap.size _ m (ts ++ 128 :: List.replicate k 0) rfl (some ⟨wr.heap.size, 0, none⟩) 1 1 [0] rfl (ho.alloc _) ?_ ?_ ?_ ?_)
      · exact Bs.one _ _ (by omega) (by omega)
      · omega
      · first | omega | (simp; omega)
      intro v' w' h1 h2 _
      have hb2 := below_app hb (by omega) ho h2
      have HR : Hid (w'.ownsRow w.heap.size 5 1 v' (m + 1) (U8 (ts ++ 128 :: List.replicate (k + 1) 0))) := by
        unfold Hid
        rw [List.replicate_succ']; simpa using h1
      clear h1 h2 ho hb
      go_wp2
      go_roundw
      case rel => exact ⟨k + 1, m + 1, by have := HM.out; omega, by omega, HR.out, hb2⟩
      case measure =>
        obtain ⟨a4, c4, rfl, _, _⟩ := Bs.own HR.out (HBY.out (k + 1))
        have := HM.out
        simp
        omega
    · obtain rfl : k = z := by omega
      have hr : (m : Int) % 64 = 56 := by rw [hm]; omega
      have hm128 : m ≤ 30000 := by omega
      clear hm
      have hN8 : IntKind.i64.wrap (8 * N) = 8 * N := by rw [IntKind.wrap_i64]; omega
      have hN9 : IntKind.u64.wrap (8 * N) = 8 * N := by simp [IntKind.wrap, IntKind.signed, IntKind.bits]; omega
      have hH := highFirst w.heap.size m _ (ts ++ 128 :: List.replicate k 0) (8 * N) 8 wr ho hsz (by omega) (by omega) (by omega) (by omega)
      have hlen : n + (zfn n + 9) = m + 8 := by rw [← HZN.out]; have := HM.out; omega
      have HL : Hid _ := hlen
      have hpad : (ts ++ 128 :: List.replicate k 0) ++ hbk (8 * N) 8 8 = ts ++ pdn n N := by unfold pdn; rw [← HZN.out]; simp
      have HP : Hid _ := hpad
      clear hlen hpad
      go_wp2_with fail
      refine hH.mono ?_
      rintro e w3 ⟨v3, rfl, ho3, hb3⟩
      go_wp2
      go_ret
      refine ⟨_, rfl, ?_, hb.trans hb3⟩
      rw [HL.out, ← HP.out]
      exact ho3
end Go.Proofs.YtofflhhlacdgfaaDoor
