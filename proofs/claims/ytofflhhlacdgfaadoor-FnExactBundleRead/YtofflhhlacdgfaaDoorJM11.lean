/-
  What is proved here: the contract of the program's appendHighFirst: the bytes of a number of 64 bits, the greatest first, behind a row that the call owns; the row holds at most 100000 bytes; the contract of the library's bytes.Clone, for slices of at most 2^21 bytes; contracts of the library's slices.Grow (at the nil slice), slices.Concat (at two slices), for slices of at most 2^22 bytes; the contract of the program's shaPadded at words of 32 bits: the tail, the mark, as many zeros as are wanted, and the length in bits in 8 bytes; the contract of the program's shaSum at words of 32 bits: the words go through the tail, the mark, the zeros and the length, and their bytes are told; contracts of the program's and of the specification's ShaOk, for every value whose two slices hold at most 2^21 elements each; the contract of the laws' count of a slice of ints; contracts of the laws' helpers on a Sha (copy, hold two against each other, count), and of the program's ShaOk, for every value whose slices hold at most 2^21 elements each; the contract of the specification's l2turn; and a name for what the program's tables hold; a law for the walk on 'append' where the first slice is a row of ints that the call itself owns and the second is any slice of ints; the two together hold at most 2^40 ints.
-/
import Derived.Test.YtofflhhlacdgfaaDoorJM1
import Derived.Lib.AppendZerosOnto
import Derived.WalkSpells
import Derived.Test.YtofflhhlacdgfaaDoorJM8
import Derived.Test.YtofflhhlacdgfaaDoorJM7
import Derived.Test.YtofflhhlacdgfaaDoorJM10
import Derived.Deep.RegionHeld3
import Derived.BigRegion
import Derived.Test.YtofflhhlacdgfaaDoorJM5
import Derived.Test.YtofflhhlacdgfaaDoorJM2
import Derived.Test.YtofflhhlacdgfaaDoorJM9
import Derived.Deep.QuietTactic
import Derived.BigQuiet
import Derived.Deep.Light
import Derived.Deep.RegionWith
import Derived.Laws.AppendOwnNone
namespace Go.Proofs.YtofflhhlacdgfaaDoor
open Go.RowKit
set_option maxRecDepth 100000

/-- The first k of c bytes of a number, the greatest first. -/
def hbk (x : Int) (c k : Nat) : List Int := (List.range k).map (fun j => x / 2 ^ (8 * (c - 1 - j)) % 256)
theorem hbk_succ (x : Int) (c k : Nat) : hbk x c (k + 1) = hbk x c k ++ [x / 2 ^ (8 * (c - 1 - k)) % 256] := by simp [hbk, List.range_succ]
theorem hbk_len (x : Int) (c k : Nat) : (hbk x c k).length = k := by simp [hbk]
theorem hbk_byte (x : Int) (c k : Nat) : ∀ y ∈ hbk x c k, 0 ≤ y ∧ y < 256 := by
  intro y hy
  simp only [hbk, List.mem_map] at hy
  obtain ⟨j, _, rfl⟩ := hy
  omega

theorem shr_min {x : Int} (h0 : 0 ≤ x) (h1 : x < 18446744073709551616) (n : Nat) : x / 2 ^ min n 64 = x / 2 ^ n := by
  by_cases h : n ≤ 64
  · rw [show min n 64 = n by omega]
  · have e1 : x / 2 ^ min n 64 = 0 := by
      rw [show min n 64 = 64 by omega]
      exact Int.ediv_eq_zero_of_lt h0 (by simpa using h1)
    have e2 : x / 2 ^ n = 0 := by
      refine Int.ediv_eq_zero_of_lt h0 ?_
      obtain ⟨d, rfl⟩ : ∃ d, n = 64 + d := ⟨n - 64, by omega⟩
      rw [Int.pow_add]
      have : (1 : Int) ≤ 2 ^ d := Int.pow_pos (by omega)
      have h64 : (2 : Int) ^ 64 = 18446744073709551616 := by decide
      rw [h64]
      omega
    rw [e1, e2]

set_option maxHeartbeats 1000000 in
theorem highFirst (base m : Nat) (v : Value) (xs : List Int) (x : Int) (c : Nat) (w : World) (hown : w.ownsRow base 5 1 v m (U8 xs)) (hbase : base ≤ w.heap.size) (hm : m ≤ 100000) (hc : c ≤ 16) (hx0 : 0 ≤ x) (hx1 : x < 18446744073709551616) :
    Calls Tryd.prog 134 #[v, .int .u64 x, .int .i64 (c : Int)] w fun e w' => ∃ v', e = .returned v' ∧ w'.ownsRow base 5 1 v' (m + c) (U8 (xs ++ hbk x c c)) ∧ Below base w w' := by
  have hc1 : IntKind.i64.wrap ((c : Int) - 1) = (c : Int) - 1 := by rw [IntKind.wrap_i64]; omega
  go_enter Tryd.func134, Tryd.ntmps134
  go_wp2
  go_loopw [0, 7] (fun v i wr => ∃ (k : Nat) (j : Int), k ≤ c ∧ j = (c : Int) - 1 - k ∧ i = .int .i64 j ∧ wr.ownsRow base 5 1 v (m + k) (U8 (xs ++ hbk x c k)) ∧ Below base w wr) (fun _ i _ => (intOf i + 1).toNat)
  case atStart => exact ⟨0, (c : Int) - 1, by omega, by omega, rfl, by simpa [hbk] using hown, Below.refl _ _⟩
  case round =>
    clear hown
    obtain ⟨k, j, hk, hj, rfl, hown, hb⟩ := hrel
    by_cases hlt : k < c
    · obtain ⟨i, rfl⟩ : ∃ i : Nat, j = (i : Int) := ⟨c - 1 - k, by omega⟩
      have hi : c - 1 - k = i := by omega
      have hi15 : i ≤ 15 := by omega
      have hn := hbk_succ x c k
      rw [hi] at hn
      have HN : Hid _ := hn
      have HJ : Hid _ := hj
      have s1 : IntKind.i64.wrap (8 * (i : Int)) = 8 * (i : Int) := by rw [IntKind.wrap_i64]; omega
      have s2 : (8 * (i : Int)).toNat = 8 * i := by omega
      have s3 : ¬ 8 * (i : Int) < 0 := by omega
      have s4 : (0 : Int) ≤ (i : Int) := by omega
      have hsz := hb.size
      clear hn hj hi
      obtain ⟨y, hy⟩ : ∃ y, y = x / 2 ^ (8 * i) % 256 := ⟨_, rfl⟩
      have hyb : 0 ≤ y ∧ y < 256 := by omega
      have hyw : x / 2 ^ min (8 * i) 64 % 256 = y := by rw [hy, shr_min hx0 hx1]
      have s5 : wrap64 ((i : Int) - 1) = (i : Int) - 1 := by unfold wrap64; omega
      have HY : Hid _ := hy
      clear hy
      go_wp2_with (at_builtin; refine wpl_append_bs rfl _ _ rfl base _ (m + k) (xs ++ hbk x c k) rfl (some ⟨wr.heap.size, 0, none⟩) 1 1 [y] rfl (hown.alloc _) ?_ ?_ ?_ ?_)
      · exact Bs.one _ _ hyb.1 hyb.2
      · omega
      · first | omega | (simp; omega)
      intro v' w' h1 h2 _
      have hb2 := below_app hb (by omega) hown h2
      have HR : Hid (w'.ownsRow base 5 1 v' (m + (k + 1)) (U8 (xs ++ hbk x c (k + 1)))) := by
        unfold Hid
        rw [HN.out, ← HY.out]; simpa [Nat.add_assoc] using h1
      clear h1 h2 hown hb
      go_wp2
      go_roundw
      case rel => exact ⟨k + 1, (i : Int) - 1, by omega, by have := HJ.out; omega, by go_num, HR.out, hb2⟩
      case measure => simp [intOf]
    · obtain rfl : k = c := by omega
      have hj0 : ¬ ((0 : Int) ≤ j) := by omega
      clear hj
      go_wp2
      go_ret
      exact ⟨_, rfl, by simpa using hown, hb⟩
end Go.Proofs.YtofflhhlacdgfaaDoor
namespace Go.Proofs.YtofflhhlacdgfaaDoor
open Go.RowKit

set_option maxHeartbeats 400000 in
theorem cloneB (a : Option Addr) (n c : Nat) (xs : List Int) (w : World) (h : Bs w a n c xs) (hn : n ≤ 2098176) :
    Calls Tryd.prog 84 #[.slice a n c] w fun e w' => ∃ v, e = .returned v ∧ w'.ownsRow w.heap.size 5 1 v n (U8 xs) ∧ Below w.heap.size w w' := by
  have q22 : ∀ (w : World) (a : Option Addr) (n c n' c' : Nat), (binOp .eql 22 (.slice a n c) (.slice none n' c')).run Tryd.prog w = .ok (.bool a.isNone) w := fun w a n c n' c' => Lib.run_eql_slice_nil w _ _ a n c n' c' Tryd.underlying22
  cases a with
  | none =>
    obtain ⟨h0, hl, hc, _, _⟩ := h
    have hc0 := h0 rfl
    have hn0 : n = 0 := by omega
    subst hn0
    have hx : xs = [] := List.eq_nil_of_length_eq_zero hl
    subst hx
    go_enter Tryd.func84, Tryd.ntmps84
    go_wp2
    go_ret
    exact ⟨_, rfl, World.ownsRow_nil _ _ _ _, Below.refl _ _⟩
  | some ad =>
    have hB : Bs (w.alloc (Obj.cells #[] 5)) (some ad) n c xs := h.below ((Below.refl _ _).alloc (Nat.le_refl _) _)
    clear h
    go_enter Tryd.func84, Tryd.ntmps84
    go_wp2_with (at_builtin; refine wpl_append_bs rfl _ _ rfl w.heap.size _ 0 [] rfl (some ad) n c xs rfl ?_ hB ?_ ?_ ?_)
    · exact World.ownsRow_made w #[] 0 (Nat.le_refl _) (by unfold maxLen; omega) rfl
    · omega
    · simp
    intro v1 w1 hown1 hgrow1 _
    have hbel1 : Below w.heap.size w w1 := ((Below.refl _ _).alloc (Nat.le_refl _) _).grown hgrow1 (by simp) (by intro k hk; simp [Value.ownBlock] at hk; omega)
    clear hgrow1 hB
    go_wp2
    go_ret
    exact ⟨_, rfl, hown1, hbel1⟩

end Go.Proofs.YtofflhhlacdgfaaDoor
namespace Go.Proofs.YtofflhhlacdgfaaDoor
open Go.RowKit

set_option maxHeartbeats 400000 in
theorem growNil (n : Nat) (w : World) (hn : n ≤ 8388608) :
    Calls Tryd.prog 100 #[.slice none 0 0, .int .i64 n] w fun e w' => ∃ v, e = .returned v ∧ w'.ownsRow w.heap.size 5 1 v 0 (U8 []) ∧ Below w.heap.size w w' := by
  obtain ⟨i0, hi, hz0, hz1, hz2⟩ := info_parts Tryd.info5
  by_cases h0 : n = 0
  · subst h0
    go_enter Tryd.func100, Tryd.ntmps100
    go_wp2
    go_ret
    exact ⟨_, rfl, World.ownsRow_nil _ _ _ _, Below.refl _ _⟩
  · have hpos : (0 : Int) < (n : Int) := by omega
    have hrun : ∀ ty, (Builtin.append_ #[22, 3] ty #[.slice none 0 0, .int .i64 (n : Int)]).run Tryd.prog w =
        .ok (.slice (some ⟨w.heap.size, 0, none⟩) n (grownCap w n 0 5)) (w.drew.alloc (.cells (#[] ++ Builtin.zeroCells (Value.int .u8 0).cells n ++ Builtin.zeroCells (Value.int .u8 0).cells (grownCap w n 0 5 - n)) 5)) := fun ty => by
      have h := Lib.run_append_grow_zeros w 22 3 ty 5 i0 (.int .u8 0) .i64 .i64 Tryd.underlying22 Tryd.underlying3 hi hz0 none 0 0 [] (run_firstCells_none w.drew i0.size 0 0 0) n (by omega) (by omega) (by omega) (by omega) (by rw [hz2]; omega)
        (by rw [hz2]; exact growslice_fits (by omega) (by omega))
      simpa using h
    have hGn : n ≤ grownCap w n 0 5 := grownCap_ge w _ _ _
    have hGm : grownCap w n 0 5 ≤ maxLen := grownCap_le_maxLen w n 0 5 (by unfold maxLen; omega)
    obtain ⟨G, hG⟩ : ∃ G, G = grownCap w n 0 5 := ⟨_, rfl⟩
    rw [← hG] at hrun hGn hGm
    clear hG hi hz0 hz1 hz2
    obtain ⟨C, hC⟩ : ∃ C, C = (#[] ++ Builtin.zeroCells (Value.int .u8 0).cells n ++ Builtin.zeroCells (Value.int .u8 0).cells (G - n)) := ⟨_, rfl⟩
    rw [← hC] at hrun
    have hCs : C.size = G * 1 := by rw [hC]; simp [size_zeroCells, Value.cells]; omega
    have HC : Hid (C.size = G * 1) := hCs
    clear hC hCs
    have hGm' := hGm
    unfold maxLen at hGm
    go_enter Tryd.func100, Tryd.ntmps100
    go_wp2_with (at_builtin; refine Lib.wpList_append_run _ rfl _ _ _ _ rfl _ _ rfl rfl _ _ (hrun _) ?_)
    go_ret
    exact ⟨.slice (some ⟨w.heap.size, 0, none⟩) 0 G, rfl, (World.ownsRow_made (base := w.heap.size) (e := 5) (size := 1) w C G (Nat.le_refl _) hGm' HC.out).drew, ((Below.refl _ _).alloc (Nat.le_refl _) _).drew⟩

set_option maxHeartbeats 1000000 in
theorem concat2 (g : Nat) (a a' : Option Addr) (n c n' c' : Nat) (xs ys : List Int) (w : World) (hg : g < w.heap.size)
    (h0 : w.cell? ⟨g, 0, none⟩ = some (.slice a n c)) (h1 : w.cell? ⟨g, 1, none⟩ = some (.slice a' n' c')) (h : Bs w a n c xs) (h' : Bs w a' n' c' ys) (hn : n ≤ 2098176) (hn' : n' ≤ 2098176) :
    Calls Tryd.prog 49 #[.slice (some ⟨g, 0, none⟩) 2 2] w fun e w' => ∃ v, e = .returned v ∧ w'.ownsRow w.heap.size 5 1 v (n + n') (U8 (xs ++ ys)) ∧ Below w.heap.size w w' := by
  go_enter Tryd.func49, Tryd.ntmps49
  go_wp2
  refine wp_loop_rounds 3 ?_
  rw [rounds_succ]
  go_wp2
  rw [rounds_succ]
  go_wp2
  rw [rounds_succ]
  go_wp2_with fail
  have eN : ((n : Int) + (n' : Int)) = ((n + n' : Nat) : Int) := by omega
  rw [eN]
  refine (growNil (n + n') w (by omega)).mono ?_
  rintro e w1 ⟨v1, rfl, hown1, b1⟩
  have q0 : w1.cell? ⟨g, 0, none⟩ = some (.slice a n c) := (b1.cell (p := ⟨g, 0, none⟩) hg).trans h0
  have q1 : w1.cell? ⟨g, 1, none⟩ = some (.slice a' n' c') := (b1.cell (p := ⟨g, 1, none⟩) hg).trans h1
  have s1 := b1.size
  have hx1 := h.below b1
  clear h0 h1 eN
  go_wp2
  refine wp_loop_rounds 3 ?_
  rw [rounds_succ]
  go_wp2_with (at_builtin; refine wpl_append_bs rfl _ _ rfl w.heap.size _ 0 [] rfl a n c xs rfl hown1 hx1 ?_ ?_ ?_)
  · omega
  · omega
  intro v2 w2 hown2 hgr2 _
  have b2 : Below w.heap.size w w2 := below_app0 b1 s1 hown1 hgr2
  have q1' : w2.cell? ⟨g, 1, none⟩ = some (.slice a' n' c') := (b2.cell (p := ⟨g, 1, none⟩) hg).trans ((b1.cell (p := ⟨g, 1, none⟩) hg).symm.trans q1)
  have s2 := b2.size
  have hy2 := h'.below b2
  clear hgr2 hown1 b1 q0 q1 s1 hx1 h h'
  go_wp2
  rw [rounds_succ]
  go_wp2_with (at_builtin; refine wpl_append_bs rfl _ _ rfl w.heap.size _ n xs rfl a' n' c' ys rfl hown2 hy2 ?_ ?_ ?_)
  · omega
  · omega
  intro v3 w3 hown3 hgr3 _
  have b3 : Below w.heap.size w w3 := below_app0 b2 s2 hown2 hgr3
  clear hgr3 hown2 b2 q1' s2 hy2
  go_wp2
  rw [rounds_succ]
  go_wp2
  go_ret
  exact ⟨v3, rfl, by simpa using hown3, b3⟩

end Go.Proofs.YtofflhhlacdgfaaDoor
namespace Go.Proofs.YtofflhhlacdgfaaDoor
open Go.RowKit
set_option maxRecDepth 100000

/-- How many zeros are wanted behind n bytes and the mark. -/
def zfn (n : Nat) : Nat := (119 - n % 64) % 64
theorem zfn_lt (n : Nat) : zfn n < 64 := Nat.mod_lt _ (by omega)
theorem zfn_is (n : Nat) : (n + 1 + zfn n) % 64 = 56 := by unfold zfn; omega
theorem zfn_no (n k : Nat) (h : k < zfn n) : (n + 1 + k) % 64 ≠ 56 := by unfold zfn at h; omega
/-- What is put behind n bytes of a sum over N bytes. -/
def pdn (n : Nat) (N : Int) : List Int := 128 :: (List.replicate (zfn n) 0 ++ hbk (8 * N) 8 8)
theorem pdn_len (n : Nat) (N : Int) : (pdn n N).length = zfn n + 9 := by simp [pdn, hbk_len]
theorem pdn_byte (n : Nat) (N : Int) : ∀ x ∈ pdn n N, 0 ≤ x ∧ x < 256 := by
  intro x hx
  simp only [pdn, List.mem_cons, List.mem_append, List.mem_replicate] at hx
  rcases hx with rfl | ⟨_, rfl⟩ | h
  · omega
  · omega
  · exact hbk_byte _ _ _ x h

set_option maxHeartbeats 1000000 in
theorem paddedCn (a : Option Addr) (n c : Nat) (ts : List Int) (N : Int) (w : World) (hT : Bs w a n c ts) (h0 : 0 ≤ N) (h1 : N ≤ 20000) (hn : n ≤ 20000) :
    Calls Tryd.prog 133 #[.slice a n c, .int .i64 N] w fun e w' => ∃ v, e = .returned v ∧ w'.ownsRow w.heap.size 5 1 v (n + (zfn n + 9)) (U8 (ts ++ pdn n N)) ∧ Below w.heap.size w w' := by
  have hzl := zfn_lt n
  have hzn := zfn_is n
  have HZ : Hid _ := zfn_no n
  obtain ⟨z, hz⟩ : ∃ z, z = zfn n := ⟨_, rfl⟩
  rw [← hz] at hzl hzn HZ
  have HZN : Hid _ := hz
  clear hz
  go_enter Tryd.func133, Tryd.ntmps133
  go_wp2_with (go_at_call 131; refine (wordBytesn _).mono ?_; rintro e w' ⟨rfl, hw'⟩; rw [hw']; clear hw' w')
  refine (cloneB a n c ts _ hT (by omega)).mono ?_
  rintro e w1 ⟨v1, rfl, ho1, hb1⟩
  go_wp2_with (at_builtin; refine wpl_append_bs rfl _ _ rfl w.heap.size _ n ts rfl (some ⟨w1.heap.size, 0, none⟩) 1 1 [128] rfl (ho1.alloc _) ?_ ?_ ?_ ?_)
  · exact Bs.one _ _ (by omega) (by omega)
  · omega
  · have := hb1.size; first | omega | (simp; omega)
  intro v2 w2 ho2 hg2 _
  have hb2 := below_app hb1 hb1.size ho1 hg2
  clear ho1 hg2 hb1
  go_wp2
  have hby : ∀ k, ∀ x ∈ ts ++ 128 :: List.replicate k (0 : Int), 0 ≤ x ∧ x < 256 := by
    intro k x hx
    simp only [List.mem_append, List.mem_cons, List.mem_replicate] at hx
    rcases hx with h | rfl | ⟨_, rfl⟩
    · exact hT.2.2.2.1 x h
    · omega
    · omega
  have HBY : Hid _ := hby
  clear hby
  go_loopw [7] (fun v wr => ∃ k m : Nat, m = n + 1 + k ∧ k ≤ z ∧ wr.ownsRow w.heap.size 5 1 v m (U8 (ts ++ 128 :: List.replicate k 0)) ∧ Below w.heap.size w wr) (fun v _ => match v with | .slice _ m _ => n + 1 + z - m | _ => 0)
  case atStart => exact ⟨0, n + 1, rfl, by omega, by simpa using ho2, hb2⟩
  case round =>
    clear ho2 hb2
    obtain ⟨k, m, hm, hk, ho, hb⟩ := hrel
    obtain ⟨a3, c3, rfl, _, _⟩ := Bs.own ho (HBY.out k)
    have hsz := hb.size
    have HM : Hid _ := hm
    by_cases hkz : k < z
    · have hne := HZ.out k hkz
      have hr : ¬ ((m : Int) % 64 = 56) := by rw [hm]; omega
      clear hne
      have hm128 : m ≤ 30000 := by omega
      clear hm
      go_wp2_with (at_builtin; refine wpl_append_bs rfl _ _ rfl w.heap.size _ m (ts ++ 128 :: List.replicate k 0) rfl (some ⟨wr.heap.size, 0, none⟩) 1 1 [0] rfl (ho.alloc _) ?_ ?_ ?_ ?_)
      · exact Bs.one _ _ (by omega) (by omega)
      · omega
      · first | omega | (simp; omega)
      intro v' w' h1 h2 _
      have hb2 := below_app hb (by omega) ho h2
      have HR : Hid (w'.ownsRow w.heap.size 5 1 v' (m + 1) (U8 (ts ++ 128 :: List.replicate (k + 1) 0))) := by
        unfold Hid
        rw [List.replicate_succ']; simpa using h1
      clear h1 h2 ho hb
      go_wp2
      go_roundw
      case rel => exact ⟨k + 1, m + 1, by have := HM.out; omega, by omega, HR.out, hb2⟩
      case measure =>
        obtain ⟨a4, c4, rfl, _, _⟩ := Bs.own HR.out (HBY.out (k + 1))
        have := HM.out
        simp
        omega
    · obtain rfl : k = z := by omega
      have hr : (m : Int) % 64 = 56 := by rw [hm]; omega
      have hm128 : m ≤ 30000 := by omega
      clear hm
      have hN8 : IntKind.i64.wrap (8 * N) = 8 * N := by rw [IntKind.wrap_i64]; omega
      have hN9 : IntKind.u64.wrap (8 * N) = 8 * N := by simp [IntKind.wrap, IntKind.signed, IntKind.bits]; omega
      have hH := highFirst w.heap.size m _ (ts ++ 128 :: List.replicate k 0) (8 * N) 8 wr ho hsz (by omega) (by omega) (by omega) (by omega)
      have hlen : n + (zfn n + 9) = m + 8 := by rw [← HZN.out]; have := HM.out; omega
      have HL : Hid _ := hlen
      have hpad : (ts ++ 128 :: List.replicate k 0) ++ hbk (8 * N) 8 8 = ts ++ pdn n N := by unfold pdn; rw [← HZN.out]; simp
      have HP : Hid _ := hpad
      clear hlen hpad
      go_wp2_with fail
      refine hH.mono ?_
      rintro e w3 ⟨v3, rfl, ho3, hb3⟩
      go_wp2
      go_ret
      refine ⟨_, rfl, ?_, hb.trans hb3⟩
      rw [HL.out, ← HP.out]
      exact ho3
end Go.Proofs.YtofflhhlacdgfaaDoor
namespace Go.Proofs.YtofflhhlacdgfaaDoor
open Go.RowKit
set_option maxRecDepth 100000

theorem gD_mem {xs : List Int} {k : Nat} (hk : k < xs.length) : xs.getD k 0 ∈ xs := by
  rw [List.getD_eq_getElem?_getD, List.getElem?_eq_getElem hk]; exact List.getElem_mem _
theorem hbn (x : Int) : hbk x 4 4 = b4 x := by
  simp [hbk, b4, List.range_succ]

/-- What the way to the sum holds: the box of the words and the box of the rules. -/
structure Sgn (w W : World) (rb : Nat) (st : List Int) : Prop where
  fr : Below w.heap.size w W
  ar : Arr W w.heap.size 134 (U32 st)
  ru : Arr W (w.heap.size + 1) 142 [.int .i64 2, .int .i64 13, .int .i64 22, .int .i64 6, .int .i64 11, .int .i64 25, .int .i64 7, .int .i64 18, .int .i64 3, .int .i64 17, .int .i64 19, .int .i64 10, .slice (some ⟨rb, 0, none⟩) 64 64]
  rb : Arr W rb 158 (U32 KS)
theorem Sgn.all {w W : World} {rb : Nat} {st : List Int} (h : Sgn w W rb st) : W.cell? ⟨w.heap.size + 1, 0, none⟩ = some (.int .i64 2) ∧ W.cell? ⟨w.heap.size + 1, 1, none⟩ = some (.int .i64 13) ∧ W.cell? ⟨w.heap.size + 1, 2, none⟩ = some (.int .i64 22) ∧ W.cell? ⟨w.heap.size + 1, 3, none⟩ = some (.int .i64 6) ∧ W.cell? ⟨w.heap.size + 1, 4, none⟩ = some (.int .i64 11) ∧ W.cell? ⟨w.heap.size + 1, 5, none⟩ = some (.int .i64 25) ∧ W.cell? ⟨w.heap.size + 1, 6, none⟩ = some (.int .i64 7) ∧ W.cell? ⟨w.heap.size + 1, 7, none⟩ = some (.int .i64 18) ∧ W.cell? ⟨w.heap.size + 1, 8, none⟩ = some (.int .i64 3) ∧ W.cell? ⟨w.heap.size + 1, 9, none⟩ = some (.int .i64 17) ∧ W.cell? ⟨w.heap.size + 1, 10, none⟩ = some (.int .i64 19) ∧ W.cell? ⟨w.heap.size + 1, 11, none⟩ = some (.int .i64 10) ∧ W.cell? ⟨w.heap.size + 1, 12, none⟩ = some (.slice (some ⟨rb, 0, none⟩) 64 64) :=
  ⟨h.ru.cell 0, h.ru.cell 1, h.ru.cell 2, h.ru.cell 3, h.ru.cell 4, h.ru.cell 5, h.ru.cell 6, h.ru.cell 7, h.ru.cell 8, h.ru.cell 9, h.ru.cell 10, h.ru.cell 11, h.ru.cell 12⟩
theorem Sgn.go {w A B : World} {rb : Nat} {st : List Int} (h : Sgn w A rb st) (hb : Below A.heap.size A B) : Sgn w B rb st :=
  ⟨h.fr.trans (hb.mono h.fr.size), h.ar.kept hb, h.ru.kept hb, h.rb.kept hb⟩
theorem Sgn.turn {w A B : World} {rb : Nat} {st st' : List Int} (h : Sgn w A rb st) (hg : A.grownBy B (some w.heap.size)) (ha : Arr B w.heap.size 134 (U32 st')) (hr : rb < w.heap.size) : Sgn w B rb st' :=
  ⟨h.fr.grown hg h.fr.size (fun j e => by cases e; exact Nat.le_refl _), ha, (hg.block _ h.ru.lt (fun e => by injection e with e; omega)).trans h.ru, (hg.block _ h.rb.lt (fun e => by injection e with e; omega)).trans h.rb⟩

set_option maxHeartbeats 2000000 in
theorem sumCn (hs : List Int) (a : Option Addr) (n c rb : Nat) (ts : List Int) (N : Int) (w : World) (hl : hs.length = 8) (hw : ∀ x ∈ hs, 0 ≤ x ∧ x < 4294967296) (hT : Bs w a n c ts) (h0 : 0 ≤ N) (h1 : N ≤ 20000) (hn : n ≤ 20000) (hrb : Arr w rb 158 (U32 KS)) :
    Calls Tryd.prog 118 #[.agg (U32 hs).toArray, .slice a n c, .int .i64 N, rulesVn rb] w fun e w' => ∃ v, e = .returned v ∧ w'.ownsRow w.heap.size 5 1 v 32 (U8 (sumB (fld hs (ts ++ pdn n N) ((n + (zfn n + 9)) / 64)))) ∧ Below w.heap.size w w' := by
  have hrl := hrb.lt
  obtain ⟨W, hW⟩ : ∃ W, W = (w.alloc (.cells (U32 hs).toArray 134)).alloc (.cells #[.int .i64 2, .int .i64 13, .int .i64 22, .int .i64 6, .int .i64 11, .int .i64 25, .int .i64 7, .int .i64 18, .int .i64 3, .int .i64 17, .int .i64 19, .int .i64 10, .slice (some ⟨rb, 0, none⟩) 64 64] 142) := ⟨_, rfl⟩
  have hB : Below w.heap.size w W := by rw [hW]; exact ((Below.refl _ _).alloc (Nat.le_refl _) _).alloc (by simp) _
  have SG : Sgn w W rb hs := by
    refine ⟨hB, ?_, ?_, hrb.kept hB⟩
    · rw [hW]; exact (Arr.new w (U32 hs) _).alloc _
    · rw [hW]
      have := Arr.new (w.alloc (.cells (U32 hs).toArray 134)) [.int .i64 2, .int .i64 13, .int .i64 22, .int .i64 6, .int .i64 11, .int .i64 25, .int .i64 7, .int .i64 18, .int .i64 3, .int .i64 17, .int .i64 19, .int .i64 10, .slice (some ⟨rb, 0, none⟩) 64 64] 142
      rw [World.size_alloc] at this
      exact this
  have hT1 := hT.below hB
  obtain ⟨l0, l1, l2, l3, l4, l5, l6, l7, hhs⟩ := list8 hl
  rw [hhs, show (U32 [l0, l1, l2, l3, l4, l5, l6, l7]).toArray = #[.int .u32 l0, .int .u32 l1, .int .u32 l2, .int .u32 l3, .int .u32 l4, .int .u32 l5, .int .u32 l6, .int .u32 l7] from rfl] at hW
  have SGd : Sgn w W.drew rb hs := SG.go (Below.refl _ _).drew
  have hWs : w.heap.size < W.drew.heap.size := SGd.ar.lt
  have hTd : Bs W.drew a n c ts := hT1.below (Below.refl _ _).drew
  obtain ⟨L, hL⟩ : ∃ L, L = ts ++ pdn n N := ⟨_, rfl⟩
  have hLl : L.length = n + (zfn n + 9) := by rw [hL]; simp [pdn_len, hT.2.1]
  have hLb : ∀ x ∈ L, 0 ≤ x ∧ x < 256 := by
    rw [hL]
    intro x hx
    rcases List.mem_append.1 hx with h | h
    · exact hT.2.2.2.1 x h
    · exact pdn_byte n N x h
  obtain ⟨q, hq⟩ : ∃ q, q = n + (zfn n + 9) := ⟨_, rfl⟩
  have HP : Hid (∀ Z, Bs Z a n c ts → Calls Tryd.prog 133 #[.slice a n c, .int .i64 N] Z fun e w' => ∃ v, e = .returned v ∧ w'.ownsRow Z.heap.size 5 1 v q (U8 L) ∧ Below Z.heap.size Z w') := by
    unfold Hid
    intro Z hz
    rw [hL, hq]
    exact paddedCn a n c ts N Z hz h0 h1 hn
  rw [← hq] at hLl
  have HQ : Hid _ := hq
  have HL : Hid _ := hL
  have HHS : Hid _ := hhs
  have HLB : Hid _ := hLb
  clear hq hL hLb SG hT1 hT hB
  rw [← HL.out, ← HQ.out]
  go_enter Tryd.func118, Tryd.ntmps118
  rw [show (Value.agg (U32 hs).toArray) = Value.agg #[.int .u32 l0, .int .u32 l1, .int .u32 l2, .int .u32 l3, .int .u32 l4, .int .u32 l5, .int .u32 l6, .int .u32 l7] by rw [HHS.out]; rfl]
  clear hhs
  go_wp2
  rw [← hW]
  clear hW
  go_region_held3 (fun W => W.cell? ⟨w.heap.size + 1, 0, none⟩ = some (.int .i64 2) ∧ W.cell? ⟨w.heap.size + 1, 1, none⟩ = some (.int .i64 13) ∧ W.cell? ⟨w.heap.size + 1, 2, none⟩ = some (.int .i64 22) ∧ W.cell? ⟨w.heap.size + 1, 3, none⟩ = some (.int .i64 6) ∧ W.cell? ⟨w.heap.size + 1, 4, none⟩ = some (.int .i64 11) ∧ W.cell? ⟨w.heap.size + 1, 5, none⟩ = some (.int .i64 25) ∧ W.cell? ⟨w.heap.size + 1, 6, none⟩ = some (.int .i64 7) ∧ W.cell? ⟨w.heap.size + 1, 7, none⟩ = some (.int .i64 18) ∧ W.cell? ⟨w.heap.size + 1, 8, none⟩ = some (.int .i64 3) ∧ W.cell? ⟨w.heap.size + 1, 9, none⟩ = some (.int .i64 17) ∧ W.cell? ⟨w.heap.size + 1, 10, none⟩ = some (.int .i64 19) ∧ W.cell? ⟨w.heap.size + 1, 11, none⟩ = some (.int .i64 10) ∧ W.cell? ⟨w.heap.size + 1, 12, none⟩ = some (.slice (some ⟨rb, 0, none⟩) 64 64))
    (exact SGd.all)
    ((first
      | (go_at_call 133; refine (HP.out _ hTd).mono ?_; rintro e w2 ⟨v2, rfl, ho2, hb2⟩; replace SGd := SGd.go hb2; obtain ⟨a2, c2, rfl, _, hx2⟩ := Bs.own ho2 HLB.out; have hoff := off_of_own ho2 hWs)
      | (go_at_call 115; refine (takeBlocksCn w.heap.size hs a2 q c2 rb L _ SGd.ar hl hx2 hoff SGd.rb (by omega)).mono ?_; rintro e w3 ⟨a3, c3, rfl, _, _, hA3, hg3⟩; replace SGd := SGd.turn hg3 hA3 hrl)))
  obtain ⟨st, hst⟩ : ∃ st, st = fld hs L (q / 64) := ⟨_, rfl⟩
  have hstl : st.length = 8 := by rw [hst]; exact fld_len hl _ _
  have hstw : ∀ x ∈ st, 0 ≤ x ∧ x < 4294967296 := by rw [hst]; exact fld_word hw _ _
  have SG3 : Sgn w w3 rb st := by rw [hst]; exact SGd
  have HST : Hid _ := hst
  have hsz3 := SG3.ru.lt
  have hsz : (Tryd.prog.info? 134).map (·.size) = some 8 := by kernel_rfl
  have hSA := SG3.ar
  have hb3 := SG3.fr
  clear hst SGd hw hl hx2 ho2 hb2 hA3 hg3 hTd SG3 HP HLB
  go_wp2_with (refine wpList_load_row rfl 134 _ rfl w.heap.size rfl 134 (U32 st).toArray (0, 0) _ hSA Tryd.underlying134 rfl (by simpa [hstl] using hsz) ?_)
  go_loopw [9, 18] (fun v i wr => ∃ k m : Nat, m = 4 * k ∧ k ≤ 8 ∧ i = .int .i64 k ∧ wr.ownsRow w3.heap.size 5 1 v m (U8 (sumB (st.take k))) ∧ Below w3.heap.size w3 wr) (fun _ i _ => 8 - (intOf i).toNat)
  case atStart => exact ⟨0, 0, rfl, by omega, rfl, by simpa [sumB] using World.ownsRow_nil _ _ _ _, Below.refl _ _⟩
  case round =>
    obtain ⟨k, m, hm, hk, rfl, hown, hb⟩ := hrel
    by_cases hlt : k < 8
    · have ix := fun w => index_arr Tryd.underlying134 Tryd.underlying132 infoCn st hstl k hlt w
      obtain ⟨x, hx⟩ : ∃ x, x = st.getD k 0 := ⟨_, rfl⟩
      rw [← hx] at ix
      obtain ⟨hx0, hx1⟩ : 0 ≤ x ∧ x < 4294967296 := by rw [hx]; exact hstw _ (gD_mem (by omega))
      have hsn := tksnn st k (by omega)
      rw [← hx] at hsn
      have HN : Hid (sumB (st.take (k + 1)) = sumB (st.take k) ++ hbk x 4 4) := by unfold Hid; rw [hbn]; exact sumB_snoc hsn
      have HM : Hid _ := hm
      have hm60 : m ≤ 100 := by omega
      clear hx hsn hm
      have hk8 : (k : Int) < 8 := by omega
      have hcv : IntKind.u64.wrap x = x := by simp [IntKind.wrap, IntKind.signed, IntKind.bits]; omega
      have hws := hb.size
      have hH := highFirst w3.heap.size m _ (sumB (st.take k)) x 4 wr hown hws (by omega) (by omega) hx0 (by omega)
      go_wp2_with (go_at_call 131; refine (wordBytesn _).mono ?_; rintro e w' ⟨rfl, hw'⟩; rw [hw']; clear hw' w')
      refine hH.mono ?_
      rintro e w4 ⟨v4, rfl, ho4, hb4⟩
      have hb5 := hb.trans hb4
      have HR : Hid (w4.ownsRow w3.heap.size 5 1 v4 (m + 4) (U8 (sumB (st.take (k + 1))))) := by unfold Hid; rw [HN.out]; exact ho4
      clear hH ho4 hb4 hown hb HN
      go_wp2
      go_roundw
      case rel => exact ⟨k + 1, m + 4, by have := HM.out; omega, by omega, by go_num, HR.out, hb5⟩
      case measure => simp [intOf]; omega
    · obtain rfl : k = 8 := by omega
      obtain rfl : m = 32 := hm
      rw [List.take_of_length_le (show st.length ≤ 8 by omega), HST.out] at hown
      go_wp2
      go_ret
      exact ⟨_, rfl, own_base hown (by omega), hb3.trans (hb.mono (by omega))⟩
end Go.Proofs.YtofflhhlacdgfaaDoor
namespace Go.Proofs.YtofflhhlacdgfaaDoor
open Go.RowKit

/-- The document's ShaOk. -/
def shaOk (hs : List Int) (N : Int) (ts : List Int) : Bool := isW hs && (decide (0 ≤ N) && (decide (N ≤ 20000) && decide ((ts.length : Int) = N % 64)))

/-- A Sha as a value. -/
abbrev shaV (aH : Option Addr) (nH cH : Nat) (N : Int) (aT : Option Addr) (nT cT : Nat) : Value := .agg #[.slice aH nH cH, .int .i64 N, .slice aT nT cT]

set_option maxHeartbeats 1000000 in
theorem shaOpen (aH : Option Addr) (nH cH : Nat) (N : Int) (aT : Option Addr) (nT cT : Nat) (hs ts : List Int) (w : World) (hH : Is w aH nH cH hs) (hT : Bs w aT nT cT ts) :
    Calls Tryd.prog 114 #[shaV aH nH cH N aT nT cT] w fun e w' => ∃ l : List Int, e = .returned (.tuple #[.agg (U32 l).toArray, .bool (shaOk hs N ts)]) ∧ l.length = 8 ∧ (shaOk hs N ts = true → l = hs) ∧ Below w.heap.size w w' := by
  have htl := hT.2.1
  clear hT
  obtain ⟨W, hW⟩ : ∃ W, W = (w.alloc (.cells #[.slice aH nH cH, .int .i64 N, .slice aT nT cT] 95)).alloc (.cells (U32 [0, 0, 0, 0, 0, 0, 0, 0]).toArray 134) := ⟨_, rfl⟩
  have hB : Below w.heap.size w W := by rw [hW]; exact ((Below.refl _ _).alloc (Nat.le_refl _) _).alloc (by simp) _
  have hA0 : Arr W w.heap.size 95 [.slice aH nH cH, .int .i64 N, .slice aT nT cT] := by rw [hW]; exact (Arr.new w _ _).alloc _
  have hA1 : Arr W (w.heap.size + 1) 134 (U32 [0, 0, 0, 0, 0, 0, 0, 0]) := by
    rw [hW]
    have := Arr.new (w.alloc (.cells #[.slice aH nH cH, .int .i64 N, .slice aT nT cT] 95)) (U32 [0, 0, 0, 0, 0, 0, 0, 0]) 134
    simpa using this
  go_enter Tryd.func114, Tryd.ntmps114
  go_wp2_with fail
  rw [show (w.alloc (.cells #[.slice aH nH cH, .int .i64 N, .slice aT nT cT] 95)).alloc (.cells #[.int .u32 0, .int .u32 0, .int .u32 0, .int .u32 0, .int .u32 0, .int .u32 0, .int .u32 0, .int .u32 0] 134) = W from hW.symm]
  refine (wordsOf aH nH cH hs _ (hH.below hB)).mono ?_
  rintro e w' ⟨l, rfl, hl8, hleq, hb⟩
  have hb2 := hB.trans (hb.mono hB.size)
  have h0 := hA0.kept hb
  have h1 := hA1.kept hb
  have HL : Hid _ := hleq
  clear hA0 hA1 hB hW hleq hb
  obtain ⟨l0, l1, l2, l3, l4, l5, l6, l7, rfl⟩ := list8 hl8
  obtain ⟨q, hq⟩ : ∃ q, q = isW hs := ⟨_, rfl⟩
  have HE : Hid (shaOk hs N ts = (q && (decide (0 ≤ N) && (decide (N ≤ 20000) && decide ((ts.length : Int) = N % 64))))) := by unfold Hid; rw [hq]; rfl
  have hq' : q = false ∨ q = true := by cases q <;> simp
  rw [← hq]
  rw [← hq] at HL
  have hN := h0.cell 1
  have hT := h0.cell 2
  simp at hN hT
  have r0 := h1.u32 0 (by simp)
  have r1 := h1.u32 1 (by simp)
  have r2 := h1.u32 2 (by simp)
  have r3 := h1.u32 3 (by simp)
  have r4 := h1.u32 4 (by simp)
  have r5 := h1.u32 5 (by simp)
  have r6 := h1.u32 6 (by simp)
  have r7 := h1.u32 7 (by simp)
  have f0 := h1.frozen
  simp at r0 r1 r2 r3 r4 r5 r6 r7
  have hlt := h1.lt
  have hlt0 := h0.lt
  clear hq
  rcases hq' with rfl | rfl
  · go_wp2
    go_region
    go_wp2
    refine bodyPost_ret (results_row_tmp (v := .bool false) (t := 134) (cs := U32 [l0, l1, l2, l3, l4, l5, l6, l7]) rfl rfl rfl ?_ Tryd.underlying134 rfl Tryd.infoSw) rfl ⟨[l0, l1, l2, l3, l4, l5, l6, l7], ?_, rfl, ?_, ?_⟩
    · refine Arr.drew (Arr.alloc ?_ _); exact h1.set8 l0 l1 l2 l3 l4 l5 l6 l7
    · rw [HE.out]; rfl
    · intro h; rw [HE.out] at h; cases h
    · refine Below.drew (Below.alloc ?_ (by simp; omega) _); exact set8_below hb2 (by omega) _ _ _ _ _ _ _ _
  · by_cases g0 : 0 ≤ N
    · by_cases g1 : N ≤ 20000
      · have e64 : N.tmod 64 = N % 64 := Int.tmod_eq_emod_of_nonneg g0
        obtain ⟨r, hr⟩ : ∃ r, r = ((nT : Int) == N % 64) := ⟨_, rfl⟩
        have HR : Hid (shaOk hs N ts = r) := by
          unfold Hid
          rw [HE.out, htl, hr]
          simp only [g0, g1, decide_true, Bool.true_and]
          rfl
        have hr' := hr.symm
        clear hr
        go_wp2
        go_region
        go_wp2
        refine bodyPost_ret (results_row_tmp (v := .bool r) (t := 134) (cs := U32 [l0, l1, l2, l3, l4, l5, l6, l7]) rfl rfl rfl ?_ Tryd.underlying134 rfl Tryd.infoSw) rfl ⟨[l0, l1, l2, l3, l4, l5, l6, l7], ?_, rfl, ?_, ?_⟩
        · refine Arr.drew (Arr.alloc ?_ _); exact h1.set8 l0 l1 l2 l3 l4 l5 l6 l7
        · rw [HR.out]
        · intro h; exact HL.out (by simp)
        · refine Below.drew (Below.alloc ?_ (by simp; omega) _); exact set8_below hb2 (by omega) _ _ _ _ _ _ _ _
      · have hd : decide (N ≤ 20000) = false := by simp; omega
        go_wp2
        go_region
        go_wp2
        refine bodyPost_ret (results_row_tmp (v := .bool false) (t := 134) (cs := U32 [l0, l1, l2, l3, l4, l5, l6, l7]) rfl rfl rfl ?_ Tryd.underlying134 rfl Tryd.infoSw) rfl ⟨[l0, l1, l2, l3, l4, l5, l6, l7], ?_, rfl, ?_, ?_⟩
        · refine Arr.drew (Arr.alloc ?_ _); exact h1.set8 l0 l1 l2 l3 l4 l5 l6 l7
        · rw [HE.out]; simp; intros; omega
        · intro h; rw [HE.out] at h; simp at h; omega
        · refine Below.drew (Below.alloc ?_ (by simp; omega) _); exact set8_below hb2 (by omega) _ _ _ _ _ _ _ _
    · have hd : decide (0 ≤ N) = false := by simp; omega
      go_wp2
      go_region
      go_wp2
      refine bodyPost_ret (results_row_tmp (v := .bool false) (t := 134) (cs := U32 [l0, l1, l2, l3, l4, l5, l6, l7]) rfl rfl rfl ?_ Tryd.underlying134 rfl Tryd.infoSw) rfl ⟨[l0, l1, l2, l3, l4, l5, l6, l7], ?_, rfl, ?_, ?_⟩
      · refine Arr.drew (Arr.alloc ?_ _); exact h1.set8 l0 l1 l2 l3 l4 l5 l6 l7
      · rw [HE.out]; simp; intros; omega
      · intro h; rw [HE.out] at h; simp at h; omega
      · refine Below.drew (Below.alloc ?_ (by simp; omega) _); exact set8_below hb2 (by omega) _ _ _ _ _ _ _ _
end Go.Proofs.YtofflhhlacdgfaaDoor
namespace Go.Proofs.YtofflhhlacdgfaaDoor
open Go.RowKit

end Go.Proofs.YtofflhhlacdgfaaDoor
namespace Go.Proofs.YtofflhhlacdgfaaDoor
open Go.RowKit

theorem c33_of {W : World} {g g' : Nat} {t t' : TypeId} {a b c a' b' c' : Value} (h : Arr W g t [a, b, c]) (h' : Arr W g' t' [a', b', c']) :
    W.cell? ⟨g, 0, none⟩ = some a ∧ W.cell? ⟨g, 1, none⟩ = some b ∧ W.cell? ⟨g, 2, none⟩ = some c ∧ W.cell? ⟨g', 0, none⟩ = some a' ∧ W.cell? ⟨g', 1, none⟩ = some b' ∧ W.cell? ⟨g', 2, none⟩ = some c' :=
  ⟨h.cell 0, h.cell 1, h.cell 2, h'.cell 0, h'.cell 1, h'.cell 2⟩

/-- What a copy of a Sha is: memory of its own, the two slices apart. -/
structure OwnSha (w W : World) (aH : Option Addr) (nH cH : Nat) (aT : Option Addr) (nT cT : Nat) (hs ts : List Int) : Prop where
  oh : W.ownsRow w.heap.size 3 1 (.slice aH nH cH) nH (I64 hs)
  ot : W.ownsRow w.heap.size 5 1 (.slice aT nT cT) nT (U8 ts)
  ap : Apart (.slice aH nH cH) (.slice aT nT cT)

end Go.Proofs.YtofflhhlacdgfaaDoor
namespace Go.Proofs.YtofflhhlacdgfaaDoor
open Go.RowKit
set_option maxRecDepth 100000

/-- The program's two tables for words of 32 bits hold what its text lays into them. -/
abbrev Tabs (w : World) : Prop := Tabn w
theorem Tabs.below {w w' : World} (h : Tabs w) (hb : Below w.heap.size w w') : Tabs w' := Tabn.kept h hb
/-- The table of first words holds what the text lays into it. -/
abbrev TabF (w : World) : Prop := Vr w 1 (U32 H0)
theorem TabF.below {w w' : World} (h : TabF w) (hb : Below w.heap.size w w') : TabF w' := Vr.kept h hb

set_option maxHeartbeats 400000 in
theorem specTurn (x : Int) (n : Nat) (hn : 0 < n) (hn2 : n < 32) (m : Int) (hm : m = (n : Int)) (w : World) :
    Calls Tryd.prog 145 #[.int .u32 x, .int .i64 m] w fun e w' => e = .returned (.int .u32 (rot x n)) ∧ ∃ q, w' = w.drewN q := by
  subst hm
  go_enter Tryd.func145, Tryd.ntmps145
  go_wp2
  go_quiet (fail)
  go_wp2
  go_ret
  exact ⟨rfl, _, rfl⟩

end Go.Proofs.YtofflhhlacdgfaaDoor
namespace Go.Proofs.YtofflhhlacdgfaaDoor
open Go.RowKit

theorem wpl_append_is {w : World} {ops : Array Oper} {rest : List Oper} {o : Oper} {a : Act} {Q : Exit → Act → World → Prop} (hgd : o.guard = none) (s x : Operand)
    (ho : o.op = .call { callee := .builtin .append, args := #[s, x], argTypes := #[91, 91] })
    (base : Nat) (v : Value) (n : Nat) (xs : List Int) (hs : a.eval s = v) (ao : Option Addr) (m c : Nat) (ys : List Int) (hx : a.eval x = .slice ao m c)
    (hown : w.ownsRow base 3 1 v n (I64 xs)) (hb : Is w ao m c ys) (hlen : n + m ≤ 1099511627776) (hbase : base ≤ w.heap.size)
    (h : ∀ v' w', w'.ownsRow base 3 1 v' (n + m) (I64 (xs ++ ys)) → w.grownBy w' v.ownBlock → (v' = .slice none 0 0 ↔ v = .slice none 0 0 ∧ m = 0) → wpList Tryd.prog ops Q rest (a.put o.dst v') w') :
    wpList Tryd.prog ops Q (o :: rest) a w := by
  obtain ⟨i0, hi, hz0, hz1, hz2⟩ := info_parts Tryd.info3
  obtain ⟨hcap, hl, hc, _, hb⟩ := hb
  cases ao with
  | none =>
    have hc0 := hcap rfl
    subst hc0
    have hm : m = 0 := by omega
    subst hm
    have hy : ys = [] := List.eq_nil_of_length_eq_zero hl
    subst hy
    exact wpList_append_own_none hgd s x 91 ho base 3 i0 1 Tryd.underlying91 hi v n (I64 xs) hs hown hx
      (h v w (by simpa using hown) (World.grownBy.refl _ _) (by simp))
  | some ad =>
    refine wpList_append_own w hgd s x 91 ho base 3 i0 (.int .i64 0) 1 8 Tryd.underlying91 hi hz0 hz1 hz2 rfl (by decide) v n (I64 xs) hs hown ad m c (I64 ys) hx (by simp [hl]) ?_ (ints_oneCell _ _)
      (by unfold maxLen; omega) (by omega) hbase ?_
    · rcases hb with hb | ⟨b, off, ha, _, hcell⟩
      · intro j u hj
        have hy : ys = [] := List.eq_nil_of_length_eq_zero (by omega)
        subst hy
        simp at hj
      · obtain rfl := Option.some.inj ha
        intro j u hj
        have hjl : j < m := by
          have := (List.getElem?_eq_some_iff.1 hj).1
          simpa [hl] using this
        rw [Addr.add_lit, hcell j hjl]
        have e : (I64 ys)[j]? = some (.int .i64 (ys.getD j 0)) := by simp [show j < ys.length by omega]
        rw [e] at hj
        exact hj
    · intro v' w' h1 h2 h3
      exact h v' w' (by simpa using h1) h2 h3

theorem below_appI {B n : Nat} {w wr w' : World} {v : Value} {xs : List Value} {o : Obj} (hb : Below B w wr) (hB : B ≤ wr.heap.size) (hown : wr.ownsRow B 3 1 v n xs) (hg : (wr.alloc o).grownBy w' v.ownBlock) : Below B w w' :=
  (hb.alloc hB o).grown hg (by simp; omega) (fun k hk => (hown.lt k hk).1)

theorem below_appI0 {B n : Nat} {w wr w' : World} {v : Value} {xs : List Value} (hb : Below B w wr) (hB : B ≤ wr.heap.size) (hown : wr.ownsRow B 3 1 v n xs) (hg : wr.grownBy w' v.ownBlock) : Below B w w' :=
  hb.grown hg hB (fun k hk => (hown.lt k hk).1)

/-- One new cell, as a slice of one int. -/
theorem Is.one (w : World) (x : Int) (h0 : -9223372036854775808 ≤ x) (h1 : x ≤ 9223372036854775807) : Is (w.alloc (.cells #[.int .i64 x] 3)) (some ⟨w.heap.size, 0, none⟩) 1 1 [x] := by
  refine ⟨(fun h => by cases h), rfl, Nat.le_refl _, ?_, .inr ⟨w.heap.size, 0, rfl, by simp, ?_⟩⟩
  · intro y hy; simp at hy; omega
  · intro j hj
    have : j = 0 := by omega
    subst this
    rw [World.cell?_alloc_at _ _ _ _ rfl]; rfl

end Go.Proofs.YtofflhhlacdgfaaDoor
