/-
  What is proved here: what stays where two blocks alone were written; no program is spoken of; how memory is kept while another part of it is written, and rows of their own; no program is spoken of; bytes as a string, and the contract of the library's bytes.Equal at slices that are not nil; an int that fits is not wrapped; no program is spoken of; what both sides' RecGet answer; what a record does to a state, as plain data; no program is spoken of.
-/
import Derived.Test.YtgfjbaigmkdbcaaJS1
import Derived.Test.YtgfjbaigmkdbcaaJS4
import Derived.Deep.RegionHeld3
import Derived.BigRegion
import Derived.Laws.BytesArg
import Derived.Laws.Strings
import Derived.BigQuiet
namespace Go.Proofs.Ytgfjbaigmkdbcaa
open Go.RowKit

/-- Nothing old has turned but two blocks. -/
structure Gr2 (w w' : World) (r1 r2 : Option Nat) : Prop where
  os : w'.os = w.os
  tape : w'.tape = w.tape
  output : w'.output = w.output
  size : w.heap.size ≤ w'.heap.size
  block : ∀ i, i < w.heap.size → some i ≠ r1 → some i ≠ r2 → w'.heap[i]? = w.heap[i]?

theorem Gr2.below {w W W' : World} {r1 r2 : Option Nat} (h : Gr2 W W' r1 r2) (hb : Below w.heap.size w W) (h1 : ∀ k, r1 = some k → w.heap.size ≤ k) (h2 : ∀ k, r2 = some k → w.heap.size ≤ k) : Below w.heap.size w W' :=
  ⟨h.os.trans hb.os, h.tape.trans hb.tape, h.output.trans hb.output, Nat.le_trans hb.size h.size, fun i hi => (h.block i (Nat.lt_of_lt_of_le hi hb.size) (fun e => by have := h1 i e.symm; omega) (fun e => by have := h2 i e.symm; omega)).trans (hb.block i hi)⟩
theorem Gr2.own {W W' : World} {u1 u2 v : Value} {B e s n : Nat} {l : List Value} (h : Gr2 W W' u1.ownBlock u2.ownBlock) (ho : W.ownsRow B e s v n l) (a1 : Apart u1 v) (a2 : Apart u2 v) : W'.ownsRow B e s v n l := by
  refine ⟨ho.1, ?_⟩
  rcases ho.2 with hn | ⟨g, cap, cur, rfl, hg, hgg, rest⟩
  · exact .inl hn
  · refine .inr ⟨g, cap, cur, rfl, hg, ?_, rest⟩
    rw [h.block g (Array.getElem?_eq_some_iff.1 hgg).1 (fun e => a1 g e.symm rfl) (fun e => a2 g e.symm rfl)]
    exact hgg
theorem Gr2.arr {W W' : World} {r1 r2 : Option Nat} {g : Nat} {t : TypeId} {cs : List Value} (h : Gr2 W W' r1 r2) (ha : Arr W g t cs) (h1 : r1 ≠ some g) (h2 : r2 ≠ some g) : Arr W' g t cs := by
  unfold Arr
  rw [h.block g ha.lt (Ne.symm h1) (Ne.symm h2)]
  exact ha

theorem Gr2.cellsOf {W W' : World} {u1 u2 : Value} {a b g : Nat} {t : TypeId} {cs : List Value} (hg : Gr2 W W' u1.ownBlock u2.ownBlock) (h : Arr W g t cs) (i1 : In u1 a b) (i2 : In u2 a b) (hl : g < a ∨ b ≤ g) : Arr W' g t cs := hg.arr h (i1.ne hl) (i2.ne hl)
theorem grown_arr {W W' : World} {u : Value} {a b g : Nat} {t : TypeId} {cs : List Value} (hg : W.grownBy W' u.ownBlock) (h : Arr W g t cs) (i1 : In u a b) (hl : g < a ∨ b ≤ g) : Arr W' g t cs := by
  unfold Arr
  rw [hg.block g h.lt (fun e => i1.ne hl e.symm)]
  exact h
end Go.Proofs.Ytgfjbaigmkdbcaa
namespace Go.Proofs.Ytgfjbaigmkdbcaa
set_option maxRecDepth 100000
open Go.RowKit

/-- Nothing old has turned but what lies in an interval of blocks. -/
structure Chg (W W' : World) (a b : Nat) : Prop where
  os : W'.os = W.os
  tape : W'.tape = W.tape
  output : W'.output = W.output
  size : W.heap.size ≤ W'.heap.size
  block : ∀ i, i < W.heap.size → (i < a ∨ b ≤ i) → W'.heap[i]? = W.heap[i]?

theorem Chg.of_below {W W' : World} (h : Below W.heap.size W W') (a : Nat) : Chg W W' a a := ⟨h.os, h.tape, h.output, h.size, fun i hi _ => h.block i hi⟩
theorem Chg.of_gr2 {W W' : World} {u v : Value} {a b : Nat} (h : Gr2 W W' u.ownBlock v.ownBlock) (i1 : In u a b) (i2 : In v a b) : Chg W W' a b :=
  ⟨h.os, h.tape, h.output, h.size, fun i hi hj => h.block i hi (fun e => by have := i1 i e.symm; omega) (fun e => by have := i2 i e.symm; omega)⟩
theorem Chg.of_grown {W W' : World} {u : Value} {a b : Nat} (h : W.grownBy W' u.ownBlock) (i1 : In u a b) : Chg W W' a b :=
  ⟨h.os, h.tape, h.output, h.size, fun i hi hj => h.block i hi (fun e => by have := i1 i e.symm; omega)⟩
theorem Chg.alloc (W : World) (o : Obj) (a : Nat) : Chg W (W.alloc o) a a := .of_below ((Below.refl _ _).alloc (Nat.le_refl _) _) a
theorem Chg.bel {w W W' : World} {a b : Nat} (h : Chg W W' a b) (hb : Below w.heap.size w W) (hl : b ≤ a ∨ w.heap.size ≤ a) : Below w.heap.size w W' :=
  ⟨h.os.trans hb.os, h.tape.trans hb.tape, h.output.trans hb.output, Nat.le_trans hb.size h.size, fun i hi => (h.block i (Nat.lt_of_lt_of_le hi hb.size) (by omega)).trans (hb.block i hi)⟩
theorem Arr.chg {W W' : World} {a b g : Nat} {t : TypeId} {cs : List Value} (h : Arr W g t cs) (hc : Chg W W' a b) (hl : g < a ∨ b ≤ g) : Arr W' g t cs := by
  unfold Arr
  rw [hc.block g h.lt hl]
  exact h
theorem own_chg {W W' : World} {lo hi a b e s n : Nat} {v : Value} {l : List Value} (h : W.ownsRow lo e s v n l) (i : In v lo hi) (hc : Chg W W' a b) (hl : hi ≤ a ∨ b ≤ lo) : W'.ownsRow lo e s v n l := by
  refine ⟨h.1, ?_⟩
  rcases h.2 with hn | ⟨g, cap, cur, rfl, hg, hgg, rest⟩
  · exact .inl hn
  · refine .inr ⟨g, cap, cur, rfl, hg, ?_, rest⟩
    have := i g rfl
    rw [hc.block g (Array.getElem?_eq_some_iff.1 hgg).1 (by omega)]
    exact hgg

/-- A row within [lo, hi). -/
structure Ro (W : World) (lo hi e : Nat) (v : Value) (n : Nat) (l : List Value) : Prop where
  o : W.ownsRow lo e 1 v n l
  i : In v lo hi
  z : hi ≤ W.heap.size
section
variable {W W' : World} {lo hi e n : Nat} {v : Value} {l : List Value}
theorem Ro.new (o : W.ownsRow lo e 1 v n l) : Ro W lo W.heap.size e v n l := ⟨o, In.of o, Nat.le_refl _⟩
theorem Ro.chg (h : Ro W lo hi e v n l) {a b : Nat} (hc : Chg W W' a b) (hl : hi ≤ a ∨ b ≤ lo ∨ b ≤ a) : Ro W' lo hi e v n l := by
  by_cases hab : b ≤ a
  · have hc' : Chg W W' hi hi := ⟨hc.os, hc.tape, hc.output, hc.size, fun i hi _ => hc.block i hi (by omega)⟩
    exact ⟨own_chg h.o h.i hc' (by omega), h.i, Nat.le_trans h.z hc.size⟩
  · exact ⟨own_chg h.o h.i hc (by omega), h.i, Nat.le_trans h.z hc.size⟩
theorem Ro.marked (h : Ro W lo hi e v n l) {l' : List Value} (hg : W.grownBy W' v.ownBlock) (o : W'.ownsRow lo e 1 v n l') : Ro W' lo hi e v n l' := ⟨o, h.i, Nat.le_trans h.z hg.size⟩
theorem Ro.gr (h : Ro W lo hi e v n l) (hg : W.grownBy W' v.ownBlock) : Chg W W' lo hi := .of_grown hg h.i
end
end Go.Proofs.Ytgfjbaigmkdbcaa
namespace Go.Proofs.Ytgfjbaigmkdbcaa
open Go.RowKit
set_option maxRecDepth 100000

theorem str_eq {xs ys : List Int} (hx : ∀ x ∈ xs, 0 ≤ x ∧ x < 256) (hy : ∀ x ∈ ys, 0 ≤ x ∧ x < 256) : ((strOfNums xs).toList == (strOfNums ys).toList) = decide (xs = ys) := by
  have e : ∀ l : List Int, (strOfNums l).toList = l.map (fun n => UInt8.ofNat n.toNat) := fun l => by
    unfold strOfNums
    exact ByteArray.toList_mk _
  have back : ∀ l : List Int, (∀ x ∈ l, 0 ≤ x ∧ x < 256) → (l.map (fun n => UInt8.ofNat n.toNat)).map (fun u => (u.toNat : Int)) = l := by
    intro l hl
    rw [List.map_map]
    have : l.map ((fun u : UInt8 => (u.toNat : Int)) ∘ fun n : Int => UInt8.ofNat n.toNat) = l.map id := List.map_congr_left fun n hn => by
      have := hl n hn
      simp only [Function.comp, id]
      rw [UInt8.toNat_ofNat']
      omega
    rw [this, List.map_id]
  rw [e, e]
  by_cases h : xs = ys
  · subst h; simp
  · have h9 : xs.map (fun n => UInt8.ofNat n.toNat) ≠ ys.map (fun n => UInt8.ofNat n.toNat) := fun q => h (by rw [← back xs hx, ← back ys hy, q])
    rw [decide_eq_false h]
    exact beq_eq_false_iff_ne.2 h9
theorem bs_conv {w : World} {b o n c : Nat} {xs : List Int} (h : Bs w (some ⟨b, o, none⟩) n c xs) : (convert 35 9 (.slice (some ⟨b, o, none⟩) n c)).run Try.prog w = .ok (.string (strOfNums xs)) w := by
  obtain ⟨_, hl, _, _, hx⟩ := h
  refine run_convert_bytes_arg w 35 5 Try.underlying35 Try.underlying5 b o n c xs hl (fun i hi => ?_) 9 Try.underlying9
  rcases hx with hx | ⟨b', o', he, _, hcell⟩
  · omega
  · cases he
    exact hcell i hi

set_option maxHeartbeats 1000000 in
theorem equalB (b o n c b' o' m d : Nat) (xs ys : List Int) (w : World) (h : Bs w (some ⟨b, o, none⟩) n c xs) (k : Bs w (some ⟨b', o', none⟩) m d ys) :
    Calls Try.prog 156 #[.slice (some ⟨b, o, none⟩) n c, .slice (some ⟨b', o', none⟩) m d] w fun e w' => e = .returned (.bool (decide (xs = ys))) ∧ w' = w := by
  have h1 := bs_conv h
  have h2 := bs_conv k
  have e1 := str_eq h.2.2.2.1 k.2.2.2.1
  obtain ⟨s, hs⟩ : ∃ s, s = strOfNums xs := ⟨_, rfl⟩
  obtain ⟨t, ht⟩ : ∃ t, t = strOfNums ys := ⟨_, rfl⟩
  rw [← hs] at h1 e1
  rw [← ht] at h2 e1
  rw [← e1]
  clear e1 hs ht h k
  go_enter Try.func156, Try.ntmps156
  go_wp2
  go_ret
  exact ⟨rfl, rfl⟩
end Go.Proofs.Ytgfjbaigmkdbcaa
namespace Go.Proofs.Ytgfjbaigmkdbcaa
open Go.RowKit

theorem wr64 {x : Int} (h : -9223372036854775808 ≤ x) (h1 : x ≤ 9223372036854775807) : IntKind.i64.wrap x = x := by simp [IntKind.wrap, IntKind.signed, IntKind.bits]; omega
end Go.Proofs.Ytgfjbaigmkdbcaa
namespace Go.Proofs.Ytgfjbaigmkdbcaa
open Go.RowKit
set_option maxRecDepth 100000
set_option maxHeartbeats 4000000
set_option linter.unusedVariables false

/-- Eight bytes are a record. -/
def gOkB (xs : List Int) : Bool := decide (xs.length = 8) && (decide (xs.getD 4 0 = bits .xor .u8 255 (xs.getD 0 0)) && (decide (xs.getD 5 0 = bits .xor .u8 255 (xs.getD 1 0)) && (decide (xs.getD 6 0 = bits .xor .u8 255 (xs.getD 2 0)) &&
  (decide (xs.getD 7 0 = bits .xor .u8 255 (xs.getD 3 0)) && decide (rcOk (gK xs) (gB xs) (gN xs) (gF xs))))))
theorem gOkB_iff (xs : List Int) : gOkB xs = true ↔ gOk xs := by
  unfold gOkB gOk
  simp only [Bool.and_eq_true, decide_eq_true_eq]
  constructor
  · rintro ⟨h, h0, h1, h2, h3, h4⟩
    refine ⟨h, fun j hj => ?_, h4⟩
    have : j = 0 ∨ j = 1 ∨ j = 2 ∨ j = 3 := by omega
    rcases this with rfl | rfl | rfl | rfl <;> assumption
  · rintro ⟨h, h0, h4⟩
    exact ⟨h, h0 0 (by omega), h0 1 (by omega), h0 2 (by omega), h0 3 (by omega), h4⟩
theorem gOkB_not {xs : List Int} (h : ¬ gOk xs) : gOkB xs = false := by
  cases e : gOkB xs
  · rfl
  · exact absurd ((gOkB_iff xs).1 e) h
def goK (xs : List Int) : Int := if gOkB xs then gK xs else 0
def goB (xs : List Int) : Int := if gOkB xs then gB xs else 0
def goN (xs : List Int) : Int := if gOkB xs then gN xs else 0
def goF (xs : List Int) : Int := if gOkB xs then gF xs else 0
abbrev goV (xs : List Int) : Value := .tuple #[rcV (goK xs) (goB xs) (goN xs) (goF xs), .bool (gOkB xs)]
theorem goV_no {xs : List Int} (h : ¬ gOk xs) : goV xs = .tuple #[rcV 0 0 0 0, .bool false] := by simp [goV, goK, goB, goN, goF, gOkB_not h]
theorem goV_yes {xs : List Int} (h : gOk xs) : goV xs = .tuple #[rcV (gK xs) (gB xs) (gN xs) (gF xs), .bool true] := by simp [goV, goK, goB, goN, goF, (gOkB_iff xs).2 h]

theorem set4 {W : World} {g : Nat} {t : TypeId} {a b c d : Value} (h : Arr W g t [a, b, c, d]) (a' b' c' d' : Value) :
    Arr ((((W.setCell ⟨g, 0, none⟩ a').setCell ⟨g, 1, none⟩ b').setCell ⟨g, 2, none⟩ c').setCell ⟨g, 3, none⟩ d') g t [a', b', c', d'] := (((h.set 0 a').set 1 b').set 2 c').set 3 d'
theorem bel_set4 {w W : World} {B g : Nat} (h : Below B w W) (hg : B ≤ g) (a b c d : Value) : Below B w ((((W.setCell ⟨g, 0, none⟩ a).setCell ⟨g, 1, none⟩ b).setCell ⟨g, 2, none⟩ c).setCell ⟨g, 3, none⟩ d) :=
  (((h.setCell hg _).setCell hg _).setCell hg _).setCell hg _
theorem wr8 {x : Int} (h : 0 ≤ x) (h1 : x < 256) : IntKind.u8.wrap x = x := by simp [IntKind.wrap, IntKind.signed, IntKind.bits]; omega
theorem byte_at {xs : List Int} (h : ∀ x ∈ xs, 0 ≤ x ∧ x < 256) {j : Nat} (hj : j < xs.length) : 0 ≤ xs.getD j 0 ∧ xs.getD j 0 < 256 := by
  have e : xs.getD j 0 = xs[j] := by simp [hj]
  rw [e]
  exact h _ (List.getElem_mem hj)

theorem specL10get (a : Option Addr) (n cap : Nat) (xs : List Int) (w : World) (h : Bs w a n cap xs) (hn : n = 8) :
    Calls Try.prog 138 #[.slice a n cap] w fun e w' => e = .returned (goV xs) ∧ Below w.heap.size w w' := by
  subst hn
  obtain ⟨_, hl, hc, hby, h⟩ := h
  rcases h with h | ⟨b, o, rfl, hbs, hcell⟩
  · omega
  obtain ⟨V, hV⟩ : ∃ V, goV xs = V := ⟨_, rfl⟩
  rw [hV]
  have HV : Hid _ := hV
  clear hV
  obtain ⟨W, hW⟩ : ∃ W, W = w.alloc (.cells #[.int .i64 0, .int .i64 0, .int .i64 0, .int .i64 0] 144) := ⟨_, rfl⟩
  have B0 : Below w.heap.size w W := by rw [hW]; exact (Below.refl _ _).alloc (Nat.le_refl _) _
  have A0 : Arr W w.heap.size 144 [.int .i64 0, .int .i64 0, .int .i64 0, .int .i64 0] := by rw [hW]; exact Arr.new _ _ _
  have HC : Hid (∀ j, j < 8 → W.cell? ⟨b, o + j, none⟩ = some (.int .u8 (xs.getD j 0))) := fun j hj => (B0.cell (p := ⟨b, o + j, none⟩) hbs).trans (hcell j hj)
  clear hcell
  go_enter Try.func138, Try.ntmps138
  go_wp2
  rw [← hW]
  clear hW
  go_loopw [4] (fun i wr => ∃ j : Nat, j ≤ 4 ∧ i = .int .i64 j ∧ (∀ q, q < j → xs.getD (4 + q) 0 = bits .xor .u8 255 (xs.getD q 0)) ∧ Below W.heap.size W wr) (fun i _ => 4 - (intOf i).toNat)
  case atStart => exact ⟨0, by omega, rfl, by omega, Below.refl _ _⟩
  case round =>
    obtain ⟨j, hj, rfl, hall, hb⟩ := hrel
    have HL : Hid _ := hall
    clear hall
    have hbW : b < W.heap.size := Nat.lt_of_lt_of_le hbs B0.size
    by_cases hlt : j < 4
    · obtain ⟨x, hx⟩ : ∃ x, x = xs.getD j 0 := ⟨_, rfl⟩
      obtain ⟨y, hy⟩ : ∃ y, y = xs.getD (4 + j) 0 := ⟨_, rfl⟩
      have hc1 : wr.cell? ⟨b, o + j, none⟩ = some (.int .u8 x) := by rw [hx]; exact (hb.cell (p := ⟨b, o + j, none⟩) hbW).trans (HC.out j (by omega))
      have hc2 : wr.cell? ⟨b, o + (4 + j), none⟩ = some (.int .u8 y) := by rw [hy]; exact (hb.cell (p := ⟨b, o + (4 + j), none⟩) hbW).trans (HC.out (4 + j) (by omega))
      have HX : Hid _ := hx
      have HY : Hid _ := hy
      clear hx hy
      have w1 : IntKind.i64.wrap (4 + (j : Int)) = 4 + (j : Int) := by unfold IntKind.wrap; simp [IntKind.signed, IntKind.bits]; omega
      have w2 : ((4 : Int) + (j : Int)).toNat = 4 + j := by omega
      obtain ⟨z, hz⟩ : ∃ z, z = (y != bits .xor .u8 255 x) := ⟨_, rfl⟩
      go_wp2
      go_quiet (fail)
      rw [show (if IntKind.u8.signed = true then -1 else IntKind.u8.max) = (255 : Int) from rfl, ← hz]
      have hb2 : Below W.heap.size W (wr.drewN nq) := bel_dN hb nq
      generalize wr.drewN nq = W2 at hb2 ⊢
      clear hc1 hc2 hb
      cases z
      · go_wp2
        go_roundw
        case rel =>
          refine ⟨j + 1, by omega, by go_num, fun q hq => ?_, hb2⟩
          by_cases hqj : q = j
          · subst hqj
            rw [← HX.out, ← HY.out]
            simpa using hz
          · exact HL.out q (by omega)
        case measure => simp [intOf]; omega
      · have A2 := A0.kept hb2
        have c0 := A2.cell 0
        have c1 := A2.cell 1
        have c2 := A2.cell 2
        have c3 := A2.cell 3
        simp at c0 c1 c2 c3
        have fR := A2.frozen
        have lR := A2.lt
        have HK : Hid _ := set4 A2 (.int .i64 0) (.int .i64 0) (.int .i64 0) (.int .i64 0)
        have HB : Hid _ := bel_set4 (B0.trans (hb2.mono B0.size)) (Nat.le_refl w.heap.size) (.int .i64 0) (.int .i64 0) (.int .i64 0) (.int .i64 0)
        have HN : Hid (V = .tuple #[rcV 0 0 0 0, .bool false]) := by
          unfold Hid
          rw [← HV.out]
          refine goV_no fun h => ?_
          have := h.2.1 j (by omega)
          rw [← HX.out, ← HY.out] at this
          rw [this] at hz
          simp at hz
        clear A2 hz
        go_wp2
        exact bodyPost_ret (results_row_tmp (v := .bool false) (t := 144) (cs := [.int .i64 0, .int .i64 0, .int .i64 0, .int .i64 0]) rfl rfl rfl HK.out Try.underlying144 rfl (by kernel_rfl)) rfl ⟨by rw [HN.out], HB.out⟩
    · have hj4 : j = 4 := by omega
      subst hj4
      obtain ⟨x0, e0⟩ : ∃ x, x = xs.getD 0 0 := ⟨_, rfl⟩
      obtain ⟨x1, e1⟩ : ∃ x, x = xs.getD 1 0 := ⟨_, rfl⟩
      obtain ⟨x2, e2⟩ : ∃ x, x = xs.getD 2 0 := ⟨_, rfl⟩
      obtain ⟨x3, e3⟩ : ∃ x, x = xs.getD 3 0 := ⟨_, rfl⟩
      have hr0 : 0 ≤ x0 ∧ x0 < 256 := by rw [e0]; exact byte_at hby (by omega)
      have hr1 : 0 ≤ x1 ∧ x1 < 256 := by rw [e1]; exact byte_at hby (by omega)
      have hr2 : 0 ≤ x2 ∧ x2 < 256 := by rw [e2]; exact byte_at hby (by omega)
      have hr3 : 0 ≤ x3 ∧ x3 < 256 := by rw [e3]; exact byte_at hby (by omega)
      have d0 : wr.cell? ⟨b, o, none⟩ = some (.int .u8 x0) := by rw [e0]; exact (hb.cell (p := ⟨b, o, none⟩) hbW).trans (HC.out 0 (by omega))
      have d1 : wr.cell? ⟨b, o + 1, none⟩ = some (.int .u8 x1) := by rw [e1]; exact (hb.cell (p := ⟨b, o + 1, none⟩) hbW).trans (HC.out 1 (by omega))
      have d2 : wr.cell? ⟨b, o + 2, none⟩ = some (.int .u8 x2) := by rw [e2]; exact (hb.cell (p := ⟨b, o + 2, none⟩) hbW).trans (HC.out 2 (by omega))
      have d3 : wr.cell? ⟨b, o + 3, none⟩ = some (.int .u8 x3) := by rw [e3]; exact (hb.cell (p := ⟨b, o + 3, none⟩) hbW).trans (HC.out 3 (by omega))
      have hbs2 : b < wr.heap.size := Nat.lt_of_lt_of_le hbW hb.size
      have E : Hid (gK xs = x0 / 2 ∧ gB xs = x0 % 2 ∧ gN xs = x1 + 256 * (x3 % 16) ∧ gF xs = x2 + 256 * (x3 / 16)) := by unfold Hid gK gB gN gF; rw [← e0, ← e1, ← e2, ← e3]; exact ⟨rfl, rfl, rfl, rfl⟩
      have q1 : x0.tdiv 2 = x0 / 2 := Int.tdiv_eq_ediv_of_nonneg (by omega)
      have q2 : x0.tmod 2 = x0 % 2 := Int.tmod_eq_emod_of_nonneg (by omega)
      have q3 : x3.tdiv 16 = x3 / 16 := Int.tdiv_eq_ediv_of_nonneg (by omega)
      have q4 : x3.tmod 16 = x3 % 16 := Int.tmod_eq_emod_of_nonneg (by omega)
      clear e0 e1 e2 e3
      go_wp2
      try simp only [Act.put]
      refine tame [kc 22 (.slice (some ⟨b, o, none⟩) 8 cap), kc 23 (.pointer (some ⟨b, o, none⟩)), kc 24 (.int .u8 x0), kc 25 (.int .u8 (x0 / 2)), kc 26 (.int .i64 (x0 / 2)), kc 27 (.slice (some ⟨b, o, none⟩) 8 cap), kc 28 (.pointer (some ⟨b, o, none⟩)), kc 29 (.int .u8 x0), kc 30 (.int .u8 (x0 % 2)), kc 31 (.int .i64 (x0 % 2)), kc 32 (.slice (some ⟨b, o, none⟩) 8 cap), kc 33 (.pointer (some ⟨b, o + 1, none⟩)), kc 34 (.int .u8 x1), kc 35 (.int .i64 x1), kc 36 (.slice (some ⟨b, o, none⟩) 8 cap), kc 37 (.pointer (some ⟨b, o + 3, none⟩)), kc 38 (.int .u8 x3), kc 39 (.int .u8 (x3 % 16)), kc 40 (.int .i64 (x3 % 16)), kc 41 (.int .i64 (256 * (x3 % 16))), kc 42 (.int .i64 (x1 + 256 * (x3 % 16))), kc 43 (.slice (some ⟨b, o, none⟩) 8 cap), kc 44 (.pointer (some ⟨b, o + 2, none⟩)), kc 45 (.int .u8 x2), kc 46 (.int .i64 x2), kc 47 (.slice (some ⟨b, o, none⟩) 8 cap), kc 48 (.pointer (some ⟨b, o + 3, none⟩)), kc 49 (.int .u8 x3), kc 50 (.int .u8 (x3 / 16)), kc 51 (.int .i64 (x3 / 16)), kc 52 (.int .i64 (256 * (x3 / 16))), kc 53 (.int .i64 (x2 + 256 * (x3 / 16))), kc 54 (.agg #[.int .i64 (x0 / 2), .int .i64 (x0 % 2), .int .i64 (x1 + 256 * (x3 % 16)), .int .i64 (x2 + 256 * (x3 / 16))]), ka 5 144 [.int .i64 0, .int .i64 0, .int .i64 0, .int .i64 0]] 34 (by kernel_rfl) (by kernel_rfl) (by kernel_rfl) (by repeat' first | exact trivial | apply kc_keeps | apply ka_keeps | constructor) 1 (by kernel_rfl) (fun vv ll hh yW bW => ?_) (fun vv ll hh yW bW F ivh aph => ?_)
      · have k0 := (bW.cell (p := ⟨b, o, none⟩) hbs2).trans d0
        have k1 := (bW.cell (p := ⟨b, o + 1, none⟩) hbs2).trans d1
        have k2 := (bW.cell (p := ⟨b, o + 2, none⟩) hbs2).trans d2
        have k3 := (bW.cell (p := ⟨b, o + 3, none⟩) hbs2).trans d3
        refine ⟨tp (by kernel_rfl), tp ?_, tp ?_, tp ?_, tp ?_, tp (by kernel_rfl), tp ?_, tp ?_, tp ?_, tp ?_, tp (by kernel_rfl), tp ?_, tp ?_, tp ?_, tp (by kernel_rfl), tp ?_, tp ?_, tp ?_, tp ?_, tp ?_, tp ?_, tp (by kernel_rfl), tp ?_, tp ?_, tp ?_, tp (by kernel_rfl), tp ?_, tp ?_, tp ?_, tp ?_, tp ?_, tp ?_, tp (by kernel_rfl), ta (by kernel_rfl), trivial⟩
        all_goals
          simp only [fillK, putT, List.setIfInBounds_toArray, List.set_cons_zero, List.set_cons_succ]
          unfold execOp
          try go_simp
        all_goals first
          | (refine wr8 ?_ ?_ <;> omega)
          | (refine wr64 ?_ ?_ <;> omega)
      have f1 : Arr yW (ll 33) 144 [.int .i64 0, .int .i64 0, .int .i64 0, .int .i64 0] ∧ ll 33 < hh 33 := F.2.2.2.2.2.2.2.2.2.2.2.2.2.2.2.2.2.2.2.2.2.2.2.2.2.2.2.2.2.2.2.2.2.1
      have s1 := ivh 33 (by omega)
      clear F ivh aph
      obtain ⟨y, hy⟩ : ∃ z, z = yW := ⟨_, rfl⟩
      rw [← hy] at bW f1 s1 ⊢
      clear hy
      obtain ⟨K1, _⟩ := f1
      refine st_row (i := 34) (by kernel_rfl) rfl rfl rfl rfl (cells := [.int .i64 (x0 / 2), .int .i64 (x0 % 2), .int .i64 (x1 + 256 * (x3 % 16)), .int .i64 (x2 + 256 * (x3 / 16))]) K1 (by kernel_rfl) (by kernel_rfl) rfl (by kernel_rfl) (by intro v hv; simp at hv; rcases hv with rfl | rfl | rfl | rfl <;> rfl) ?_
      refine wpAny_done (by kernel_rfl) ?_ _
      have K2 : Arr (y.setCells (ll 33) 0 [.int .i64 (x0 / 2), .int .i64 (x0 % 2), .int .i64 (x1 + 256 * (x3 % 16)), .int .i64 (x2 + 256 * (x3 / 16))]) (ll 33) 144 [.int .i64 (x0 / 2), .int .i64 (x0 % 2), .int .i64 (x1 + 256 * (x3 % 16)), .int .i64 (x2 + 256 * (x3 / 16))] := (((K1.set 0 _).set 1 _).set 2 _).set 3 _
      generalize hg : ll 33 = g at K1 K2 s1 ⊢
      simp only [fillK, putT, List.setIfInBounds_toArray, List.set_cons_zero, List.set_cons_succ]
      clear d0 d1 d2 d3 q1 q2 q3 q4
      have A2 := A0.kept (hb.trans (bW.mono hb.size))
      have hPg : w.heap.size ≠ g := by have := A0.lt; have := hb.size; omega
      have A3 : Arr (y.setCells g 0 [.int .i64 (x0 / 2), .int .i64 (x0 % 2), .int .i64 (x1 + 256 * (x3 % 16)), .int .i64 (x2 + 256 * (x3 / 16))]) w.heap.size 144 [.int .i64 0, .int .i64 0, .int .i64 0, .int .i64 0] := by
        have := ((((A2.other ⟨g, 0, none⟩ (.int .i64 (x0 / 2)) hPg).other ⟨g, 1, none⟩ (.int .i64 (x0 % 2)) hPg).other ⟨g, 2, none⟩ (.int .i64 (x1 + 256 * (x3 % 16))) hPg).other ⟨g, 3, none⟩ (.int .i64 (x2 + 256 * (x3 / 16))) hPg)
        exact this
      have B2 : Below w.heap.size w (y.setCells g 0 [.int .i64 (x0 / 2), .int .i64 (x0 % 2), .int .i64 (x1 + 256 * (x3 % 16)), .int .i64 (x2 + 256 * (x3 / 16))]) := bel_set4 ((B0.trans (hb.mono B0.size)).trans (bW.mono (Nat.le_trans B0.size hb.size))) (show w.heap.size ≤ g by have := B0.size; have := hb.size; omega) _ _ _ _
      generalize y.setCells g 0 [.int .i64 (x0 / 2), .int .i64 (x0 % 2), .int .i64 (x1 + 256 * (x3 % 16)), .int .i64 (x2 + 256 * (x3 / 16))] = Y at K2 A3 B2 ⊢
      have HLL : Hid (∀ q, q < 4 → xs.getD (4 + q) 0 = bits .xor .u8 255 (xs.getD q 0)) := HL.out
      clear s1 bW hb K1 A2 B0 HL
      obtain ⟨k, hk⟩ : ∃ k, k = x0 / 2 := ⟨_, rfl⟩
      obtain ⟨bb, hbb⟩ : ∃ k, k = x0 % 2 := ⟨_, rfl⟩
      obtain ⟨nn, hnn⟩ : ∃ k, k = x1 + 256 * (x3 % 16) := ⟨_, rfl⟩
      obtain ⟨ff, hff⟩ : ∃ k, k = x2 + 256 * (x3 / 16) := ⟨_, rfl⟩
      rw [← hk, ← hbb, ← hnn, ← hff] at K2 E
      rw [← hk, ← hbb, ← hnn, ← hff]
      clear hk hbb hnn hff hr0 hr1 hr2 hr3
      have c0 := K2.cell 0
      have c1 := K2.cell 1
      have c2 := K2.cell 2
      have c3 := K2.cell 3
      simp at c0 c1 c2 c3
      go_wp2_with fail
      refine (specRecOk k bb nn ff _).mono ?_
      rintro e w5 ⟨rfl, hb5⟩
      replace K2 := K2.kept hb5
      replace A3 := A3.kept hb5
      replace B2 := B2.trans (hb5.mono B2.size)
      clear hb5 c0 c1 c2 c3
      by_cases hok : rcOk k bb nn ff
      · rw [decide_eq_true hok]
        have c0 := K2.cell 0
        have c1 := K2.cell 1
        have c2 := K2.cell 2
        have c3 := K2.cell 3
        simp at c0 c1 c2 c3
        have d0 := A3.cell 0
        have d1 := A3.cell 1
        have d2 := A3.cell 2
        have d3 := A3.cell 3
        simp at d0 d1 d2 d3
        have fR := A3.frozen
        have lR := A3.lt
        have HK : Hid _ := set4 A3 (.int .i64 k) (.int .i64 bb) (.int .i64 nn) (.int .i64 ff)
        have HB : Hid _ := bel_set4 B2 (Nat.le_refl w.heap.size) (.int .i64 k) (.int .i64 bb) (.int .i64 nn) (.int .i64 ff)
        have HN : Hid (V = .tuple #[rcV k bb nn ff, .bool true]) := by
          unfold Hid
          obtain ⟨E1, E2, E3, E4⟩ := E.out
          rw [← HV.out, goV_yes ⟨hl, HLL.out, by rw [E1, E2, E3, E4]; exact hok⟩, E1, E2, E3, E4]
        clear K2 A3 hok
        go_wp2
        exact bodyPost_ret (results_row_tmp (v := .bool true) (t := 144) (cs := [.int .i64 k, .int .i64 bb, .int .i64 nn, .int .i64 ff]) rfl rfl rfl HK.out Try.underlying144 rfl (by kernel_rfl)) rfl ⟨by rw [HN.out], HB.out⟩
      · rw [decide_eq_false hok]
        have d0 := A3.cell 0
        have d1 := A3.cell 1
        have d2 := A3.cell 2
        have d3 := A3.cell 3
        simp at d0 d1 d2 d3
        have fR := A3.frozen
        have lR := A3.lt
        have HK : Hid _ := set4 A3 (.int .i64 0) (.int .i64 0) (.int .i64 0) (.int .i64 0)
        have HB : Hid _ := bel_set4 B2 (Nat.le_refl w.heap.size) (.int .i64 0) (.int .i64 0) (.int .i64 0) (.int .i64 0)
        have HN : Hid (V = .tuple #[rcV 0 0 0 0, .bool false]) := by
          unfold Hid
          obtain ⟨E1, E2, E3, E4⟩ := E.out
          rw [← HV.out, goV_no (fun h => hok (by have := h.2.2; rw [E1, E2, E3, E4] at this; exact this))]
        clear K2 A3 hok
        go_wp2
        exact bodyPost_ret (results_row_tmp (v := .bool false) (t := 144) (cs := [.int .i64 0, .int .i64 0, .int .i64 0, .int .i64 0]) rfl rfl rfl HK.out Try.underlying144 rfl (by kernel_rfl)) rfl ⟨by rw [HN.out], HB.out⟩
end Go.Proofs.Ytgfjbaigmkdbcaa
namespace Go.Proofs.Ytgfjbaigmkdbcaa
open Go.RowKit
/-- A record. -/
structure Rc where
  k : Int
  b : Int
  n : Int
  f : Int
/-- A state. -/
structure Bt where
  b : Int
  n : Int
  f : Int
  t : Bool
  i : Int
  o : Int
abbrev btC (s : Bt) : List Value := [.int .i64 s.b, .int .i64 s.n, .int .i64 s.f, .bool s.t, .int .i64 s.i, .int .i64 s.o]
abbrev rcC (r : Rc) : List Value := [.int .i64 r.k, .int .i64 r.b, .int .i64 r.n, .int .i64 r.f]
abbrev btW (s : Bt) : Value := btV s.b s.n s.f s.t s.i s.o
abbrev stV (s : Bt × Bool) : Value := .tuple #[btW s.1, .bool s.2]
abbrev Rc.Ok (r : Rc) : Prop := rcOk r.k r.b r.n r.f
abbrev Bt.Ok (s : Bt) : Prop := btOk s.b s.n s.f s.t s.i s.o
/-- What a record leaves of a state, and whether it fits. -/
def stT (s : Bt) (r : Rc) : Bt × Bool :=
  if r.k = 3 then (if s.t = true ∨ r.b = s.b then (s, false) else (⟨r.b, r.n, s.f, true, 0, s.n⟩, true))
  else if r.k = 4 then (if s.t = false ∨ 3 ≤ s.i then (s, false) else (⟨s.b, s.n, s.f, s.t, s.i + 1, s.o⟩, true))
  else if r.k = 5 then (if s.t = false then (s, false) else (⟨s.b, s.n, max s.f r.f, false, 0, 0⟩, true))
  else if r.k = 6 then (if s.t = false then (s, false) else (⟨1 - s.b, s.o, s.f, false, 0, 0⟩, true))
  else (s, false)
/-- What Step answers. -/
def stepT (s : Bt) (r : Rc) : Bt × Bool := if s.Ok ∧ r.Ok then stT s r else (⟨0, 0, 0, false, 0, 0⟩, false)
theorem stT_ok {s : Bt} {r : Rc} (hs : s.Ok) (hr : r.Ok) : (stT s r).1.Ok := by
  obtain ⟨b, n, f, t, i, o⟩ := s
  obtain ⟨k, rb, rn, rf⟩ := r
  unfold stT
  dsimp only [Bt.Ok, Rc.Ok] at hs hr ⊢
  obtain ⟨h1, h2, h3, h4⟩ := hs
  split
  · split
    · exact ⟨h1, h2, h3, h4⟩
    · next h5 h6 =>
      cases t
      · exact ⟨by dsimp only; omega, by dsimp only; omega, by dsimp only; omega, by rw [if_pos rfl]; dsimp only; omega⟩
      · exact absurd (.inl rfl) h6
  split
  · split
    · exact ⟨h1, h2, h3, h4⟩
    · next h5 h6 =>
      cases t
      · exact absurd (.inl rfl) h6
      · rw [if_pos rfl] at h4
        exact ⟨h1, h2, h3, by rw [if_pos rfl]; dsimp only; omega⟩
  split
  · split
    · exact ⟨h1, h2, h3, h4⟩
    · exact ⟨h1, h2, by dsimp only; omega, by rw [if_neg (by simp)]; exact ⟨rfl, rfl⟩⟩
  split
  · split
    · exact ⟨h1, h2, h3, h4⟩
    · next h5 h6 =>
      cases t
      · exact absurd rfl h6
      · rw [if_pos rfl] at h4
        exact ⟨by dsimp only; omega, by dsimp only; omega, h3, by rw [if_neg (by simp)]; exact ⟨rfl, rfl⟩⟩
  exact ⟨h1, h2, h3, h4⟩
theorem stT_floor {s : Bt} {r : Rc} : s.f ≤ (stT s r).1.f := by
  unfold stT
  repeat' split
  all_goals first | exact Int.le_refl _ | (dsimp only; omega)
end Go.Proofs.Ytgfjbaigmkdbcaa
