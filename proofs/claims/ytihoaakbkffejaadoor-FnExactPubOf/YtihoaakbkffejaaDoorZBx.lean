/-
  What is proved here: plain facts on parts of a slice of bytes, and on a slice that lies apart from a block that may turn; no program is spoken of, no condition; the contract of the program's method takeBlocks at words of 64 bits: the eight words behind a pointer go through all whole blocks of a slice of bytes that lies elsewhere, and the rest is told; the contract of the program's appendHighFirst: the bytes of a number of 64 bits, the greatest first, behind a row that the call owns; the row holds at most 100000 bytes; the contract of the library's bytes.Clone, for slices of at most 2^21 bytes; contracts of the library's slices.Grow (at the nil slice), slices.Concat (at two slices), for slices of at most 2^22 bytes.
-/
import Derived.Test.YtihoaakbkffejaaDoorZFm
import Derived.Laws.Rows
import Derived.Test.YtihoaakbkffejaaDoorZGkw
import Derived.Test.YtihoaakbkffejaaDoorZLn
import Derived.Deep.RegionHeld3
import Derived.Test.YtihoaakbkffejaaDoorZArr
import Derived.Lib.AppendZerosOnto
import Derived.WalkSpells
namespace Go.Proofs.YtihoaakbkffejaaDoor
open Go.RowKit

/-- The slice's bytes lie in another block. -/
def Off (a : Option Addr) (g : Nat) : Prop := ∀ b o s, a = some ⟨b, o, s⟩ → b ≠ g
theorem Bs.grown {w w' : World} {a : Option Addr} {n c g : Nat} {xs : List Int} (h : Bs w a n c xs) (hg : w.grownBy w' (some g)) (ho : Off a g) : Bs w' a n c xs := by
  obtain ⟨h0, h1, h2, h3, h4⟩ := h
  refine ⟨h0, h1, h2, h3, ?_⟩
  rcases h4 with h4 | ⟨b, o, ha, hlt, hc⟩
  · exact .inl h4
  · exact .inr ⟨b, o, ha, Nat.lt_of_lt_of_le hlt hg.size, fun j hj => (World.cell?_of_block (hg.block b hlt (fun e => ho b o none ha (by cases e; rfl)))).trans (hc j hj)⟩
theorem Bs.take {w : World} {a : Option Addr} {n c m : Nat} {xs : List Int} (h : Bs w a n c xs) (hm : m ≤ n) : Bs w a m c (xs.take m) := by
  obtain ⟨h0, h1, h2, h3, h4⟩ := h
  refine ⟨h0, by simp; omega, by omega, fun x hx => h3 x (List.mem_of_mem_take hx), ?_⟩
  rcases h4 with h4 | ⟨b, o, ha, hlt, hc⟩
  · exact .inl (by omega)
  · refine .inr ⟨b, o, ha, hlt, fun j hj => ?_⟩
    rw [hc j (by omega)]
    simp [List.getD, hj]
theorem Bs.drop {w : World} {b o : Nat} {n c m : Nat} {xs : List Int} (h : Bs w (some ⟨b, o, none⟩) n c xs) (hm : m ≤ n) : Bs w (some ⟨b, o + m, none⟩) (n - m) (c - m) (xs.drop m) := by
  obtain ⟨h0, h1, h2, h3, h4⟩ := h
  refine ⟨(fun h => by cases h), by simp; omega, by omega, fun x hx => h3 x (List.mem_of_mem_drop hx), ?_⟩
  by_cases hz : n - m = 0
  · exact .inl hz
  rcases h4 with h4 | ⟨b', o', ha, hlt, hc⟩
  · exact .inl (by omega)
  · cases ha
    refine .inr ⟨b, o + m, rfl, hlt, fun j hj => ?_⟩
    have := hc (m + j) (by omega)
    rw [show o + m + j = o + (m + j) by omega, this]
    simp [List.getD, List.getElem?_drop]
theorem Bs.none0 {w : World} {b o : Nat} {c : Nat} {xs : List Int} (hx : xs = []) : Bs w (some ⟨b, o, none⟩) 0 c xs := by
  subst hx
  exact ⟨(fun h => by cases h), rfl, Nat.zero_le _, by simp, .inl rfl⟩

theorem off_of_own {W : World} {B e s n c g : Nat} {a : Option Addr} {l : List Value} (h : W.ownsRow B e s (.slice a n c) n l) (hg : g < B) : Off a g := by
  intro b o s' he
  have := h.lt b (by rw [he]; rfl)
  omega
end Go.Proofs.YtihoaakbkffejaaDoor
namespace Go.Proofs.YtihoaakbkffejaaDoor
open Go.RowKit
set_option maxRecDepth 100000

/-- What the loop over the blocks holds. -/
structure Tbw (w W : World) (g rb : Nat) (st : List Int) : Prop where
  gr : w.grownBy W (some g)
  ar : Arr W g 74 (U64 st)
  ru : Arr W w.heap.size 79 [.int .i64 28, .int .i64 34, .int .i64 39, .int .i64 14, .int .i64 18, .int .i64 41, .int .i64 1, .int .i64 8, .int .i64 7, .int .i64 19, .int .i64 61, .int .i64 6, .slice (some ⟨rb, 0, none⟩) 80 80]
  rb : Arr W rb 69 (U64 KW)
theorem Tbw.all {w W : World} {g rb : Nat} {st : List Int} (h : Tbw w W g rb st) : W.cell? ⟨w.heap.size, 0, none⟩ = some (.int .i64 28) ∧ W.cell? ⟨w.heap.size, 1, none⟩ = some (.int .i64 34) ∧ W.cell? ⟨w.heap.size, 2, none⟩ = some (.int .i64 39) ∧ W.cell? ⟨w.heap.size, 3, none⟩ = some (.int .i64 14) ∧ W.cell? ⟨w.heap.size, 4, none⟩ = some (.int .i64 18) ∧ W.cell? ⟨w.heap.size, 5, none⟩ = some (.int .i64 41) ∧ W.cell? ⟨w.heap.size, 6, none⟩ = some (.int .i64 1) ∧ W.cell? ⟨w.heap.size, 7, none⟩ = some (.int .i64 8) ∧ W.cell? ⟨w.heap.size, 8, none⟩ = some (.int .i64 7) ∧ W.cell? ⟨w.heap.size, 9, none⟩ = some (.int .i64 19) ∧ W.cell? ⟨w.heap.size, 10, none⟩ = some (.int .i64 61) ∧ W.cell? ⟨w.heap.size, 11, none⟩ = some (.int .i64 6) ∧ W.cell? ⟨w.heap.size, 12, none⟩ = some (.slice (some ⟨rb, 0, none⟩) 80 80) :=
  ⟨h.ru.cell 0, h.ru.cell 1, h.ru.cell 2, h.ru.cell 3, h.ru.cell 4, h.ru.cell 5, h.ru.cell 6, h.ru.cell 7, h.ru.cell 8, h.ru.cell 9, h.ru.cell 10, h.ru.cell 11, h.ru.cell 12⟩
theorem Tbw.go {w A B : World} {g rb : Nat} {st st' : List Int} (h : Tbw w A g rb st) (hg : A.grownBy B (some g)) (ha : Arr B g 74 (U64 st')) (h1 : g < w.heap.size) (h2 : rb ≠ g) : Tbw w B g rb st' :=
  ⟨grown_trans h.gr hg, ha, (hg.block _ h.ru.lt (fun e => by injection e with e; omega)).trans h.ru, (hg.block _ h.rb.lt (fun e => by injection e with e; omega)).trans h.rb⟩

set_option maxHeartbeats 2000000 in
theorem takeBlocksCw (g : Nat) (hs : List Int) (a : Option Addr) (n c rb : Nat) (l : List Int) (w : World) (hA : Arr w g 74 (U64 hs)) (hl : hs.length = 8) (hx : Bs w a n c l) (ho : Off a g) (hrb : Arr w rb 69 (U64 KW)) (hgr : rb ≠ g) :
    Calls Tryd.prog 62 #[.pointer (some ⟨g, 0, none⟩), .slice a n c, rulesVw rb] w fun e w' => ∃ a' c', e = .returned (.slice a' (n % 128) c') ∧ Bs w' a' (n % 128) c' (l.drop (128 * (n / 128))) ∧ Off a' g ∧ Arr w' g 74 (U64 (fldw hs l (n / 128))) ∧ w.grownBy w' (some g) := by
  have hll := hx.2.1
  have hgs := hA.lt
  obtain ⟨W, hW⟩ : ∃ W, W = w.alloc (.cells #[.int .i64 28, .int .i64 34, .int .i64 39, .int .i64 14, .int .i64 18, .int .i64 41, .int .i64 1, .int .i64 8, .int .i64 7, .int .i64 19, .int .i64 61, .int .i64 6, .slice (some ⟨rb, 0, none⟩) 80 80] 79) := ⟨_, rfl⟩
  have hB : Below w.heap.size w W := by rw [hW]; exact (Below.refl _ _).alloc (Nat.le_refl _) _
  have TB0 : Tbw w W g rb hs := ⟨grown_of_below hB _, hA.kept hB, by rw [hW]; exact Arr.new w [.int .i64 28, .int .i64 34, .int .i64 39, .int .i64 14, .int .i64 18, .int .i64 41, .int .i64 1, .int .i64 8, .int .i64 7, .int .i64 19, .int .i64 61, .int .i64 6, .slice (some ⟨rb, 0, none⟩) 80 80] _, hrb.kept hB⟩
  have hx0 := hx.below hB
  clear hA hrb hx hB
  go_enter Tryd.func62, Tryd.ntmps62
  go_wp2_with (go_at_call 65; refine (wordBytesw _).mono ?_; rintro e w' ⟨rfl, rfl⟩)
  rw [← hW]
  clear hW
  go_loopw [1] (fun v wr => ∃ (k : Nat) (a' : Option Addr) (m c' : Nat), v = .slice a' m c' ∧ m + 128 * k = n ∧ Bs wr a' m c' (l.drop (128 * k)) ∧ Off a' g ∧ Tbw w wr g rb (fldw hs l k)) (fun v _ => match v with | .slice _ m _ => m | _ => 0)
  case atStart => exact ⟨0, a, n, c, rfl, rfl, by simpa using hx0, ho, TB0⟩
  case round =>
    clear hx0 ho TB0
    obtain ⟨k, a', m, c', rfl, hm, hx, ho, TB⟩ := hrel
    by_cases hBm : 128 ≤ m
    · have hBm' : (128 : Int) ≤ (m : Int) := by omega
      have hc' := hx.2.2.1
      obtain ⟨b, o, rfl⟩ : ∃ b o, a' = some ⟨b, o, none⟩ := by
        rcases hx.2.2.2.2 with h | ⟨b, o, h, _⟩
        · omega
        · exact ⟨b, o, h⟩
      have hcB : (128 : Int) ≤ (c' : Int) := by omega
      have TBd : Tbw w wr.drew g rb (fldw hs l k) := ⟨grown_drew TB.gr, TB.ar.drew, TB.ru.drew, TB.rb.drew⟩
      have hxd : Bs wr.drew (some ⟨b, o, none⟩) m c' (l.drop (128 * k)) := hx.below (Below.refl _ _).drew
      clear TB hx
      go_wp2
      go_region_held3 (fun W => W.cell? ⟨w.heap.size, 0, none⟩ = some (.int .i64 28) ∧ W.cell? ⟨w.heap.size, 1, none⟩ = some (.int .i64 34) ∧ W.cell? ⟨w.heap.size, 2, none⟩ = some (.int .i64 39) ∧ W.cell? ⟨w.heap.size, 3, none⟩ = some (.int .i64 14) ∧ W.cell? ⟨w.heap.size, 4, none⟩ = some (.int .i64 18) ∧ W.cell? ⟨w.heap.size, 5, none⟩ = some (.int .i64 41) ∧ W.cell? ⟨w.heap.size, 6, none⟩ = some (.int .i64 1) ∧ W.cell? ⟨w.heap.size, 7, none⟩ = some (.int .i64 8) ∧ W.cell? ⟨w.heap.size, 8, none⟩ = some (.int .i64 7) ∧ W.cell? ⟨w.heap.size, 9, none⟩ = some (.int .i64 19) ∧ W.cell? ⟨w.heap.size, 10, none⟩ = some (.int .i64 61) ∧ W.cell? ⟨w.heap.size, 11, none⟩ = some (.int .i64 6) ∧ W.cell? ⟨w.heap.size, 12, none⟩ = some (.slice (some ⟨rb, 0, none⟩) 80 80))
        (exact TBd.all)
        ((go_at_call 75; refine (takeBlockCw g (fldw hs l k) (some ⟨b, o, none⟩) c' rb ((l.drop (128 * k)).take 128) _ TBd.ar (fldw_len hl l k) (hxd.take hBm) TBd.rb).mono ?_; rintro e w2 ⟨rfl, hA2, hg2⟩; replace TBd := TBd.go hg2 hA2 hgs hgr; replace hxd := hxd.grown hg2 ho; clear hA2 hg2))
      have hd : (l.drop (128 * k)).drop 128 = l.drop (128 * (k + 1)) := by rw [List.drop_drop]; congr 1
      have HD : Hid _ := hd
      have TB2 : Tbw w w2 g rb (fldw hs l (k + 1)) := TBd
      clear hd TBd
      have hmB : ((m : Int) - 128).toNat = m - 128 := by omega
      have hcBn : ((c' : Int) - 128).toNat = c' - 128 := by omega
      by_cases hce : c' = 128
      · subst hce
        have hm0 : m = 128 := by omega
        subst hm0
        have hnil : l.drop (128 * (k + 1)) = [] := List.drop_eq_nil_of_le (by omega)
        have HX : Hid (Bs w2 (some ⟨b, o, none⟩) 0 0 (l.drop (128 * (k + 1)))) := Bs.none0 hnil
        clear hnil hxd
        go_wp2
        go_roundw
        case rel => exact ⟨k + 1, some ⟨b, o, none⟩, 0, 0, by first | rfl | simp, by omega, HX.out, ho, TB2⟩
        case measure => simp
      · have HX : Hid (Bs w2 (some ⟨b, o + 128, none⟩) (m - 128) (c' - 128) (l.drop (128 * (k + 1)))) := by
          unfold Hid
          rw [← HD.out]
          exact hxd.drop hBm
        have ho' : Off (some ⟨b, o + 128, none⟩) g := fun b' o' s he => by cases he; exact ho b o none rfl
        clear hxd
        go_wp2
        go_roundw
        case rel => exact ⟨k + 1, some ⟨b, o + 128, none⟩, m - 128, c' - 128, by first | rfl | simp, by omega, HX.out, ho', TB2⟩
        case measure => simp; omega
    · have hk : n / 128 = k := by omega
      have hrl : n % 128 = m := by omega
      have HRL : Hid _ := hrl
      have HKK : Hid _ := hk
      clear hrl hk
      have hBm' : ¬ ((128 : Int) ≤ (m : Int)) := by omega
      go_wp2
      go_ret
      refine ⟨a', c', ?_, ?_, ho, ?_, TB.gr⟩
      · rw [HRL.out]; rfl
      · rw [HRL.out, HKK.out]; exact hx
      · rw [HKK.out]; exact TB.ar
end Go.Proofs.YtihoaakbkffejaaDoor
namespace Go.Proofs.YtihoaakbkffejaaDoor
open Go.RowKit
set_option maxRecDepth 100000

/-- The first k of c bytes of a number, the greatest first. -/
def hbk (x : Int) (c k : Nat) : List Int := (List.range k).map (fun j => x / 2 ^ (8 * (c - 1 - j)) % 256)
theorem hbk_succ (x : Int) (c k : Nat) : hbk x c (k + 1) = hbk x c k ++ [x / 2 ^ (8 * (c - 1 - k)) % 256] := by simp [hbk, List.range_succ]
theorem hbk_len (x : Int) (c k : Nat) : (hbk x c k).length = k := by simp [hbk]
theorem hbk_byte (x : Int) (c k : Nat) : ∀ y ∈ hbk x c k, 0 ≤ y ∧ y < 256 := by
  intro y hy
  simp only [hbk, List.mem_map] at hy
  obtain ⟨j, _, rfl⟩ := hy
  omega

theorem shr_min {x : Int} (h0 : 0 ≤ x) (h1 : x < 18446744073709551616) (n : Nat) : x / 2 ^ min n 64 = x / 2 ^ n := by
  by_cases h : n ≤ 64
  · rw [show min n 64 = n by omega]
  · have e1 : x / 2 ^ min n 64 = 0 := by
      rw [show min n 64 = 64 by omega]
      exact Int.ediv_eq_zero_of_lt h0 (by simpa using h1)
    have e2 : x / 2 ^ n = 0 := by
      refine Int.ediv_eq_zero_of_lt h0 ?_
      obtain ⟨d, rfl⟩ : ∃ d, n = 64 + d := ⟨n - 64, by omega⟩
      rw [Int.pow_add]
      have : (1 : Int) ≤ 2 ^ d := Int.pow_pos (by omega)
      have h64 : (2 : Int) ^ 64 = 18446744073709551616 := by decide
      rw [h64]
      omega
    rw [e1, e2]

set_option maxHeartbeats 1000000 in
theorem highFirst (base m : Nat) (v : Value) (xs : List Int) (x : Int) (c : Nat) (w : World) (hown : w.ownsRow base 5 1 v m (U8 xs)) (hbase : base ≤ w.heap.size) (hm : m ≤ 100000) (hc : c ≤ 16) (hx0 : 0 ≤ x) (hx1 : x < 18446744073709551616) :
    Calls Tryd.prog 64 #[v, .int .u64 x, .int .i64 (c : Int)] w fun e w' => ∃ v', e = .returned v' ∧ w'.ownsRow base 5 1 v' (m + c) (U8 (xs ++ hbk x c c)) ∧ Below base w w' := by
  have hc1 : IntKind.i64.wrap ((c : Int) - 1) = (c : Int) - 1 := by rw [IntKind.wrap_i64]; omega
  go_enter Tryd.func64, Tryd.ntmps64
  go_wp2
  go_loopw [0, 7] (fun v i wr => ∃ (k : Nat) (j : Int), k ≤ c ∧ j = (c : Int) - 1 - k ∧ i = .int .i64 j ∧ wr.ownsRow base 5 1 v (m + k) (U8 (xs ++ hbk x c k)) ∧ Below base w wr) (fun _ i _ => (intOf i + 1).toNat)
  case atStart => exact ⟨0, (c : Int) - 1, by omega, by omega, rfl, by simpa [hbk] using hown, Below.refl _ _⟩
  case round =>
    clear hown
    obtain ⟨k, j, hk, hj, rfl, hown, hb⟩ := hrel
    by_cases hlt : k < c
    · obtain ⟨i, rfl⟩ : ∃ i : Nat, j = (i : Int) := ⟨c - 1 - k, by omega⟩
      have hi : c - 1 - k = i := by omega
      have hi15 : i ≤ 15 := by omega
      have hn := hbk_succ x c k
      rw [hi] at hn
      have HN : Hid _ := hn
      have HJ : Hid _ := hj
      have s1 : IntKind.i64.wrap (8 * (i : Int)) = 8 * (i : Int) := by rw [IntKind.wrap_i64]; omega
      have s2 : (8 * (i : Int)).toNat = 8 * i := by omega
      have s3 : ¬ 8 * (i : Int) < 0 := by omega
      have s4 : (0 : Int) ≤ (i : Int) := by omega
      have hsz := hb.size
      clear hn hj hi
      obtain ⟨y, hy⟩ : ∃ y, y = x / 2 ^ (8 * i) % 256 := ⟨_, rfl⟩
      have hyb : 0 ≤ y ∧ y < 256 := by omega
      have hyw : x / 2 ^ min (8 * i) 64 % 256 = y := by rw [hy, shr_min hx0 hx1]
      have s5 : wrap64 ((i : Int) - 1) = (i : Int) - 1 := by unfold wrap64; omega
      have HY : Hid _ := hy
      clear hy
      go_wp2_with (at_builtin; refine wpl_append_bs rfl _ _ rfl base _ (m + k) (xs ++ hbk x c k) rfl (some ⟨wr.heap.size, 0, none⟩) 1 1 [y] rfl (hown.alloc _) ?_ ?_ ?_ ?_)
      · exact Bs.one _ _ hyb.1 hyb.2
      · omega
      · first | omega | (simp; omega)
      intro v' w' h1 h2 _
      have hb2 := below_app hb (by omega) hown h2
      have HR : Hid (w'.ownsRow base 5 1 v' (m + (k + 1)) (U8 (xs ++ hbk x c (k + 1)))) := by
        unfold Hid
        rw [HN.out, ← HY.out]; simpa [Nat.add_assoc] using h1
      clear h1 h2 hown hb
      go_wp2
      go_roundw
      case rel => exact ⟨k + 1, (i : Int) - 1, by omega, by have := HJ.out; omega, by go_num, HR.out, hb2⟩
      case measure => simp [intOf]
    · obtain rfl : k = c := by omega
      have hj0 : ¬ ((0 : Int) ≤ j) := by omega
      clear hj
      go_wp2
      go_ret
      exact ⟨_, rfl, by simpa using hown, hb⟩
end Go.Proofs.YtihoaakbkffejaaDoor
namespace Go.Proofs.YtihoaakbkffejaaDoor
open Go.RowKit

set_option maxHeartbeats 400000 in
theorem cloneB (a : Option Addr) (n c : Nat) (xs : List Int) (w : World) (h : Bs w a n c xs) (hn : n ≤ 2098176) :
    Calls Tryd.prog 43 #[.slice a n c] w fun e w' => ∃ v, e = .returned v ∧ w'.ownsRow w.heap.size 5 1 v n (U8 xs) ∧ Below w.heap.size w w' := by
  have q22 : ∀ (w : World) (a : Option Addr) (n c n' c' : Nat), (binOp .eql 22 (.slice a n c) (.slice none n' c')).run Tryd.prog w = .ok (.bool a.isNone) w := fun w a n c n' c' => Lib.run_eql_slice_nil w _ _ a n c n' c' Tryd.underlying22
  cases a with
  | none =>
    obtain ⟨h0, hl, hc, _, _⟩ := h
    have hc0 := h0 rfl
    have hn0 : n = 0 := by omega
    subst hn0
    have hx : xs = [] := List.eq_nil_of_length_eq_zero hl
    subst hx
    go_enter Tryd.func43, Tryd.ntmps43
    go_wp2
    go_ret
    exact ⟨_, rfl, World.ownsRow_nil _ _ _ _, Below.refl _ _⟩
  | some ad =>
    have hB : Bs (w.alloc (Obj.cells #[] 5)) (some ad) n c xs := h.below ((Below.refl _ _).alloc (Nat.le_refl _) _)
    clear h
    go_enter Tryd.func43, Tryd.ntmps43
    go_wp2_with (at_builtin; refine wpl_append_bs rfl _ _ rfl w.heap.size _ 0 [] rfl (some ad) n c xs rfl ?_ hB ?_ ?_ ?_)
    · exact World.ownsRow_made w #[] 0 (Nat.le_refl _) (by unfold maxLen; omega) rfl
    · omega
    · simp
    intro v1 w1 hown1 hgrow1 _
    have hbel1 : Below w.heap.size w w1 := ((Below.refl _ _).alloc (Nat.le_refl _) _).grown hgrow1 (by simp) (by intro k hk; simp [Value.ownBlock] at hk; omega)
    clear hgrow1 hB
    go_wp2
    go_ret
    exact ⟨_, rfl, hown1, hbel1⟩

end Go.Proofs.YtihoaakbkffejaaDoor
namespace Go.Proofs.YtihoaakbkffejaaDoor
open Go.RowKit

set_option maxHeartbeats 400000 in
theorem growNil (n : Nat) (w : World) (hn : n ≤ 8388608) :
    Calls Tryd.prog 48 #[.slice none 0 0, .int .i64 n] w fun e w' => ∃ v, e = .returned v ∧ w'.ownsRow w.heap.size 5 1 v 0 (U8 []) ∧ Below w.heap.size w w' := by
  obtain ⟨i0, hi, hz0, hz1, hz2⟩ := info_parts Tryd.info5
  by_cases h0 : n = 0
  · subst h0
    go_enter Tryd.func48, Tryd.ntmps48
    go_wp2
    go_ret
    exact ⟨_, rfl, World.ownsRow_nil _ _ _ _, Below.refl _ _⟩
  · have hpos : (0 : Int) < (n : Int) := by omega
    have hrun : ∀ ty, (Builtin.append_ #[22, 3] ty #[.slice none 0 0, .int .i64 (n : Int)]).run Tryd.prog w =
        .ok (.slice (some ⟨w.heap.size, 0, none⟩) n (grownCap w n 0 5)) (w.drew.alloc (.cells (#[] ++ Builtin.zeroCells (Value.int .u8 0).cells n ++ Builtin.zeroCells (Value.int .u8 0).cells (grownCap w n 0 5 - n)) 5)) := fun ty => by
      have h := Lib.run_append_grow_zeros w 22 3 ty 5 i0 (.int .u8 0) .i64 .i64 Tryd.underlying22 Tryd.underlying3 hi hz0 none 0 0 [] (run_firstCells_none w.drew i0.size 0 0 0) n (by omega) (by omega) (by omega) (by omega) (by rw [hz2]; omega)
        (by rw [hz2]; exact growslice_fits (by omega) (by omega))
      simpa using h
    have hGn : n ≤ grownCap w n 0 5 := grownCap_ge w _ _ _
    have hGm : grownCap w n 0 5 ≤ maxLen := grownCap_le_maxLen w n 0 5 (by unfold maxLen; omega)
    obtain ⟨G, hG⟩ : ∃ G, G = grownCap w n 0 5 := ⟨_, rfl⟩
    rw [← hG] at hrun hGn hGm
    clear hG hi hz0 hz1 hz2
    obtain ⟨C, hC⟩ : ∃ C, C = (#[] ++ Builtin.zeroCells (Value.int .u8 0).cells n ++ Builtin.zeroCells (Value.int .u8 0).cells (G - n)) := ⟨_, rfl⟩
    rw [← hC] at hrun
    have hCs : C.size = G * 1 := by rw [hC]; simp [size_zeroCells, Value.cells]; omega
    have HC : Hid (C.size = G * 1) := hCs
    clear hC hCs
    have hGm' := hGm
    unfold maxLen at hGm
    go_enter Tryd.func48, Tryd.ntmps48
    go_wp2_with (at_builtin; refine Lib.wpList_append_run _ rfl _ _ _ _ rfl _ _ rfl rfl _ _ (hrun _) ?_)
    go_ret
    exact ⟨.slice (some ⟨w.heap.size, 0, none⟩) 0 G, rfl, (World.ownsRow_made (base := w.heap.size) (e := 5) (size := 1) w C G (Nat.le_refl _) hGm' HC.out).drew, ((Below.refl _ _).alloc (Nat.le_refl _) _).drew⟩

set_option maxHeartbeats 1000000 in
theorem concat2 (g : Nat) (a a' : Option Addr) (n c n' c' : Nat) (xs ys : List Int) (w : World) (hg : g < w.heap.size)
    (h0 : w.cell? ⟨g, 0, none⟩ = some (.slice a n c)) (h1 : w.cell? ⟨g, 1, none⟩ = some (.slice a' n' c')) (h : Bs w a n c xs) (h' : Bs w a' n' c' ys) (hn : n ≤ 2098176) (hn' : n' ≤ 2098176) :
    Calls Tryd.prog 28 #[.slice (some ⟨g, 0, none⟩) 2 2] w fun e w' => ∃ v, e = .returned v ∧ w'.ownsRow w.heap.size 5 1 v (n + n') (U8 (xs ++ ys)) ∧ Below w.heap.size w w' := by
  go_enter Tryd.func28, Tryd.ntmps28
  go_wp2
  refine wp_loop_rounds 3 ?_
  rw [rounds_succ]
  go_wp2
  rw [rounds_succ]
  go_wp2
  rw [rounds_succ]
  go_wp2_with fail
  have eN : ((n : Int) + (n' : Int)) = ((n + n' : Nat) : Int) := by omega
  rw [eN]
  refine (growNil (n + n') w (by omega)).mono ?_
  rintro e w1 ⟨v1, rfl, hown1, b1⟩
  have q0 : w1.cell? ⟨g, 0, none⟩ = some (.slice a n c) := (b1.cell (p := ⟨g, 0, none⟩) hg).trans h0
  have q1 : w1.cell? ⟨g, 1, none⟩ = some (.slice a' n' c') := (b1.cell (p := ⟨g, 1, none⟩) hg).trans h1
  have s1 := b1.size
  have hx1 := h.below b1
  clear h0 h1 eN
  go_wp2
  refine wp_loop_rounds 3 ?_
  rw [rounds_succ]
  go_wp2_with (at_builtin; refine wpl_append_bs rfl _ _ rfl w.heap.size _ 0 [] rfl a n c xs rfl hown1 hx1 ?_ ?_ ?_)
  · omega
  · omega
  intro v2 w2 hown2 hgr2 _
  have b2 : Below w.heap.size w w2 := below_app0 b1 s1 hown1 hgr2
  have q1' : w2.cell? ⟨g, 1, none⟩ = some (.slice a' n' c') := (b2.cell (p := ⟨g, 1, none⟩) hg).trans ((b1.cell (p := ⟨g, 1, none⟩) hg).symm.trans q1)
  have s2 := b2.size
  have hy2 := h'.below b2
  clear hgr2 hown1 b1 q0 q1 s1 hx1 h h'
  go_wp2
  rw [rounds_succ]
  go_wp2_with (at_builtin; refine wpl_append_bs rfl _ _ rfl w.heap.size _ n xs rfl a' n' c' ys rfl hown2 hy2 ?_ ?_ ?_)
  · omega
  · omega
  intro v3 w3 hown3 hgr3 _
  have b3 : Below w.heap.size w w3 := below_app0 b2 s2 hown2 hgr3
  clear hgr3 hown2 b2 q1' s2 hy2
  go_wp2
  rw [rounds_succ]
  go_wp2
  go_ret
  exact ⟨v3, rfl, by simpa using hown3, b3⟩

end Go.Proofs.YtihoaakbkffejaaDoor
