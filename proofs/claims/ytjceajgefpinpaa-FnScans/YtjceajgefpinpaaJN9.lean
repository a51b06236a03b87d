/-
  What is proved here: bits of bytes; a store, a call or a value that comes up alone in a region that draws its order; no program is spoken of; what the program's opposites and the specification's l9blank answer; the bytes of a record, and the record of bytes, as plain data; the contract of the library's bytes.Clone, for slices of at most 2^21 bytes; contracts of the library's slices.Grow (at the nil slice), slices.Concat (at two slices), for slices of at most 2^22 bytes.
-/
import Derived.Test.YtjceajgefpinpaaTm
import Derived.Test.YtjceajgefpinpaaJN7
import Derived.Test.YtjceajgefpinpaaJN6
import Derived.Test.YtjceajgefpinpaaJN1
import Derived.Lib.AppendZerosOnto
import Derived.WalkSpells
namespace Go.Proofs.Ytjceajgefpinpaa
set_option maxRecDepth 100000
open Go.RowKit

theorem u8_wrap (v : BitVec 8) : IntKind.u8.wrap (v.toNat : Int) = (v.toNat : Int) := by
  have := v.isLt
  simp [IntKind.wrap, IntKind.signed, IntKind.bits]
  omega
theorem u8_back (v : BitVec 8) : BitVec.ofInt 8 (v.toNat : Int) = v := by
  apply BitVec.eq_of_toNat_eq
  simp
theorem bits_byte (op : BinOp) (x y : Int) : 0 ≤ bits op .u8 x y ∧ bits op .u8 x y < 256 := ⟨bits_lo_u8 op x y, by have := bits_hi_u8 op x y; omega⟩
theorem b_and (x y : Int) : bits .and .u8 x y = ((BitVec.ofInt 8 x &&& BitVec.ofInt 8 y).toNat : Int) := u8_wrap _
theorem b_or (x y : Int) : bits .or .u8 x y = ((BitVec.ofInt 8 x ||| BitVec.ofInt 8 y).toNat : Int) := u8_wrap _
theorem b_xor (x y : Int) : bits .xor .u8 x y = ((BitVec.ofInt 8 x ^^^ BitVec.ofInt 8 y).toNat : Int) := u8_wrap _
theorem b_nand (x y : Int) : bits .andNot .u8 x y = ((BitVec.ofInt 8 x &&& ~~~BitVec.ofInt 8 y).toNat : Int) := u8_wrap _
theorem v255 : BitVec.ofInt 8 255 = BitVec.allOnes 8 := rfl
theorem ones8 : ∀ j : Fin 8, (255#8 : BitVec 8)[j.1] = true := by decide
section
variable {P : Program} {ops : Array Oper} {Q : Exit → Act → World → Prop}
/-- A store that comes up alone. -/
theorem st_do {listed : Array Bool} {fuel i : Nat} {o : Oper} {a : Act} {w w' : World} (hr : Region.ready .any ops listed = [i]) (ho : ops[i]? = some o) (hg : o.guard = none) (hd : o.dst = none) (hx : (execOp a.eval o).run P w = .ok .skip w')
    (h : wpAny P .any ops Q fuel (listed.setIfInBounds i true) a w') : wpAny P .any ops Q (fuel + 1) listed a w := by
  refine ⟨fun h0 => absurd (hr.symm.trans h0) (by simp), fun j hj => ?_⟩
  rw [hr] at hj
  rcases List.mem_singleton.1 hj with rfl
  unfold wpOp
  simp only [ho]
  rw [if_pos (by simp [Region.wanted, hg])]
  refine .inl ?_
  unfold Oper.wp
  rw [hx]
  show wpAny P .any ops Q fuel (listed.setIfInBounds j true) _ w'
  first | exact h | simpa [hd, Act.put] using h
theorem st_call {listed : Array Bool} {fuel i : Nat} {o : Oper} {a : Act} {w : World} {f : FuncId} {args : Array Value} (hr : Region.ready .any ops listed = [i]) (ho : ops[i]? = some o) (hg : o.guard = none) (hx : (execOp a.eval o).run P w = .ok (.enter f args) w)
    (h : Calls P f args w fun e w' => ∃ v, e = .returned v ∧ wpAny P .any ops Q fuel (listed.setIfInBounds i true) (a.put o.dst v) w') : wpAny P .any ops Q (fuel + 1) listed a w := by
  refine ⟨fun h0 => absurd (hr.symm.trans h0) (by simp), fun j hj => ?_⟩
  rw [hr] at hj
  rcases List.mem_singleton.1 hj with rfl
  unfold wpOp
  simp only [ho]
  rw [if_pos (by simp [Region.wanted, hg])]
  refine .inl ?_
  unfold Oper.wp
  rw [hx]
  show Calls P f args w _
  refine h.mono ?_
  rintro e w' ⟨v, rfl, h⟩
  exact h
theorem st_val {listed : Array Bool} {fuel i : Nat} {o : Oper} {a : Act} {w w' : World} {v : Value} (hr : Region.ready .any ops listed = [i]) (ho : ops[i]? = some o) (hg : o.guard = none) (hx : (execOp a.eval o).run P w = .ok (.value v) w')
    (h : wpAny P .any ops Q fuel (listed.setIfInBounds i true) (a.put o.dst v) w') : wpAny P .any ops Q (fuel + 1) listed a w := by
  refine ⟨fun h0 => absurd (hr.symm.trans h0) (by simp), fun j hj => ?_⟩
  rw [hr] at hj
  rcases List.mem_singleton.1 hj with rfl
  unfold wpOp
  simp only [ho]
  rw [if_pos (by simp [Region.wanted, hg])]
  refine .inl ?_
  unfold Oper.wp
  rw [hx]
  exact h
end
end Go.Proofs.Ytjceajgefpinpaa
namespace Go.Proofs.Ytjceajgefpinpaa
set_option maxRecDepth 100000
open Go.RowKit

def blk (xs : List Int) : Bool := decide (∀ x ∈ xs, x = 255)
theorem all_take {P : Int → Prop} {xs : List Int} {k : Nat} (h : ∀ x ∈ xs.take k, P x) (hk : k < xs.length) (hp : P (xs.getD k 0)) : ∀ x ∈ xs.take (k + 1), P x := by
  rw [take_snoc xs k hk]
  intro x hx
  rcases List.mem_append.1 hx with hx | hx
  · exact h x hx
  · simp only [List.mem_singleton] at hx; subst hx; exact hp
theorem not_all {P : Int → Prop} {xs : List Int} {k : Nat} (hk : k < xs.length) (hp : ¬ P (xs.getD k 0)) : ¬ ∀ x ∈ xs, P x := fun h => hp (by
  have e : xs.getD k 0 = xs[k] := by simp [hk]
  rw [e]; exact h _ (List.getElem_mem hk))

set_option maxHeartbeats 1000000 in
theorem specBlankB (a : Option Addr) (n cap : Nat) (xs : List Int) (w : World) (h : Bs w a n cap xs) (hn : n ≤ 2097152) :
    Calls Try.prog 80 #[.slice a n cap] w fun e w' => e = .returned (.bool (blk xs)) ∧ w' = w := by
  obtain ⟨_, hl, hc, _, h⟩ := h
  go_enter Try.func80, Try.ntmps80
  go_wp2
  go_loop [3] (fun i => ∃ k : Nat, k ≤ n ∧ i = .int .i64 k ∧ ∀ x ∈ xs.take k, x = 255) (fun i => n - (intOf i).toNat)
  case atStart => exact ⟨0, Nat.zero_le _, rfl, by simp⟩
  case round =>
    obtain ⟨k, hk, rfl, hall⟩ := hrel
    have HL : Hid _ := hall
    clear hall
    by_cases hlt : k < n
    · rcases h with h | ⟨b, o, rfl, hbs, hcell⟩
      · omega
      obtain ⟨x, hx⟩ : ∃ x, x = xs.getD k 0 := ⟨_, rfl⟩
      have hck : w.cell? ⟨b, o + k, none⟩ = some (.int .u8 x) := by rw [hx]; exact hcell k hlt
      have HX : Hid _ := hx
      clear hx hcell
      by_cases g1 : x = 255
      · have g1' : (x != 255) = false := by rw [g1]; rfl
        have G1 : Hid _ := g1
        clear g1
        go_wp2
        go_round
        case rel => exact ⟨k + 1, by omega, by go_num, all_take HL.out (by omega) (by rw [← HX.out]; exact G1.out)⟩
        case measure => simp [intOf]; omega
      · have g1' : (x != 255) = true := by simpa using g1
        go_wp2
        go_ret
        have : blk xs = false := by
          unfold blk; rw [decide_eq_false_iff_not]
          exact not_all (k := k) (by omega) (by rw [← HX.out]; exact g1)
        exact ⟨by rw [this]; rfl, rfl⟩
    · have hkn : k = n := by omega
      subst hkn
      go_wp2
      go_ret
      have : blk xs = true := by
        unfold blk; rw [decide_eq_true_eq]
        have := HL.out
        rwa [List.take_of_length_le (by omega)] at this
      exact ⟨by rw [this]; rfl, rfl⟩

set_option maxHeartbeats 4000000
def opp (xs : List Int) : List Int := xs.map fun x => bits .xor .u8 255 x
theorem opp_len (xs : List Int) : (opp xs).length = xs.length := by simp [opp]
theorem opp_get (xs : List Int) (k : Nat) (h : k < xs.length) : (opp xs).getD k 0 = bits .xor .u8 255 (xs.getD k 0) := by simp [opp, h]
theorem opp_byte (xs : List Int) : ∀ x ∈ opp xs, 0 ≤ x ∧ x < 256 := by
  intro x hx
  simp only [opp, List.mem_map] at hx
  obtain ⟨y, _, rfl⟩ := hx
  exact bits_byte _ _ _

theorem implOpposites (a : Option Addr) (n cap : Nat) (xs : List Int) (w : World) (h : Bs w a n cap xs) (hn : n ≤ 2097152) :
    Calls Try.prog 65 #[.slice a n cap] w fun e w' => ∃ v, e = .returned v ∧ w'.ownsRow w.heap.size 5 1 v n (U8 (opp xs)) ∧ Below w.heap.size w w' := by
  obtain ⟨i0, hi, hz0, hz1, hz2⟩ := info_parts Try.info5
  obtain ⟨_, hl, hc, _, h⟩ := h
  go_enter Try.func65, Try.ntmps65
  go_wp2_with (at_make; refine wpList_make_full _ rfl _ _ 22 rfl w.heap.size 5 i0 (.int .u8 0) 1 Try.underlying22 hi hz0 hz1 .i64 .i64 n n n rfl rfl rfl rfl (by rw [hz2]; omega) (by unfold maxLen; omega) (Nat.le_refl _) ?_; intro w1 hown hgrow)
  have hbel : Below w.heap.size w w1 := (Below.refl _ _).grown hgrow (Nat.le_refl _) (by intro k hk; cases hk)
  have hown0 : w1.ownsRow w.heap.size 5 1 (.slice (some ⟨w.heap.size, 0, none⟩) n n) n (U8 ((opp xs).take 0 ++ List.replicate (n - 0) 0)) := by
    have e : (madeCells (Value.int IntKind.u8 0).cells (n * 1)).toList = U8 ((opp xs).take 0 ++ List.replicate (n - 0) 0) := by
      rw [Nat.mul_one]; simpa [U8, Value.cells] using toList_madeCells_one (.int .u8 0) n
    rw [← e]; exact hown
  clear hown hgrow
  go_loopw [11] (fun i wr => ∃ k : Nat, k ≤ n ∧ i = .int .i64 k ∧ wr.ownsRow w.heap.size 5 1 (.slice (some ⟨w.heap.size, 0, none⟩) n n) n (U8 ((opp xs).take k ++ List.replicate (n - k) 0)) ∧ Below w.heap.size w wr) (fun i _ => n - (intOf i).toNat)
  case atStart => exact ⟨0, Nat.zero_le _, rfl, hown0, hbel⟩
  case round =>
    obtain ⟨k, hk, rfl, hown, hb⟩ := hrel
    clear hown0 hbel
    by_cases hlt : k < n
    · rcases h with h | ⟨b, o, rfl, hbs, hcell⟩
      · omega
      · obtain ⟨x, hx⟩ : ∃ x, x = xs.getD k 0 := ⟨_, rfl⟩
        have hck : wr.cell? ⟨b, o + k, none⟩ = some (.int .u8 x) := by rw [hx]; exact (hb.cell (p := ⟨b, o + k, none⟩) hbs).trans (hcell k hlt)
        have hfz := hown.frozenAt k
        obtain ⟨u, hu⟩ : ∃ u, wr.cell? ⟨w.heap.size, k, none⟩ = some u := by
          rw [hown.cellAt k (by omega)]
          have : k < (U8 ((opp xs).take k ++ List.replicate (n - k) 0)).length := by simp [opp_len]; omega
          exact ⟨_, List.getElem?_eq_getElem this⟩
        obtain ⟨y, hy⟩ : ∃ y, y = bits .xor .u8 255 x := ⟨_, rfl⟩
        have hst := hown.stored k (.int .u8 y)
        rw [show y = (opp xs).getD k 0 by rw [opp_get xs k (by omega), hy, hx], set_take (opp xs) n k (by rw [opp_len]; omega) (by rw [opp_len]; exact hl)] at hst
        have hb2 := hb.setCell (p := ⟨w.heap.size, k, none⟩) (Nat.le_refl _) (.int .u8 y)
        rw [show (opp xs).getD k 0 = bits .xor .u8 255 x by rw [opp_get xs k (by omega), hx]] at hst
        rw [hy] at hb2
        have HS : Hid _ := hst
        have HB : Hid _ := hb2
        clear hst hb2 hown hcell hx hy
        go_wp2
        go_roundw
        case rel => exact ⟨k + 1, by omega, by go_num, HS.out.1, HB.out⟩
        case measure => simp [intOf]; omega
    · have hkn : k = n := by omega
      subst hkn
      go_wp2
      go_ret
      refine ⟨_, rfl, ?_, hb⟩
      simpa [List.take_of_length_le (show (opp xs).length ≤ k by rw [opp_len]; omega)] using hown

end Go.Proofs.Ytjceajgefpinpaa
namespace Go.Proofs.Ytjceajgefpinpaa
open Go.RowKit
set_option maxRecDepth 100000

/-- The four bytes of a record. -/
def rcH (k b n f : Int) : List Int := [(2 * k + b) % 256, n % 256, f % 256, (n / 256 + 16 * (f / 256)) % 256]
/-- The eight bytes of a record. -/
def rcB (k b n f : Int) : List Int := rcH k b n f ++ opp (rcH k b n f)
theorem rcH_len (k b n f : Int) : (rcH k b n f).length = 4 := rfl
theorem rcB_len (k b n f : Int) : (rcB k b n f).length = 8 := by simp [rcB, rcH, opp]
theorem rcH_byte (k b n f : Int) : ∀ x ∈ rcH k b n f, 0 ≤ x ∧ x < 256 := by
  intro x hx
  simp [rcH] at hx
  omega
theorem rcB_byte (k b n f : Int) : ∀ x ∈ rcB k b n f, 0 ≤ x ∧ x < 256 := by
  intro x hx
  rcases List.mem_append.1 hx with hx | hx
  · exact rcH_byte k b n f x hx
  · exact opp_byte _ x hx
/-- What four bytes tell. -/
def gK (xs : List Int) : Int := xs.getD 0 0 / 2
def gB (xs : List Int) : Int := xs.getD 0 0 % 2
def gN (xs : List Int) : Int := xs.getD 1 0 + 256 * (xs.getD 3 0 % 16)
def gF (xs : List Int) : Int := xs.getD 2 0 + 256 * (xs.getD 3 0 / 16)
/-- The last four bytes are the opposites of the first. -/
def gOpp (xs : List Int) : Prop := ∀ i, i < 4 → xs.getD (4 + i) 0 = bits .xor .u8 255 (xs.getD i 0)
/-- Eight bytes are a record. -/
def gOk (xs : List Int) : Prop := xs.length = 8 ∧ gOpp xs ∧ rcOk (gK xs) (gB xs) (gN xs) (gF xs)

theorem eight {xs : List Int} (h : xs.length = 8) : ∃ a b c d e f g i, xs = [a, b, c, d, e, f, g, i] := by
  match xs, h with
  | [a, b, c, d, e, f, g, i], _ => exact ⟨a, b, c, d, e, f, g, i, rfl⟩
theorem gOpp_iff {a b c d e f g i : Int} : gOpp [a, b, c, d, e, f, g, i] ↔ e = bits .xor .u8 255 a ∧ f = bits .xor .u8 255 b ∧ g = bits .xor .u8 255 c ∧ i = bits .xor .u8 255 d := by
  constructor
  · intro h
    exact ⟨h 0 (by omega), h 1 (by omega), h 2 (by omega), h 3 (by omega)⟩
  · rintro ⟨h0, h1, h2, h3⟩ j hj
    have : j = 0 ∨ j = 1 ∨ j = 2 ∨ j = 3 := by omega
    rcases this with rfl | rfl | rfl | rfl <;> assumption
/-- The record that bytes tell has just these bytes. -/
theorem gOk_iff {xs : List Int} (hb : ∀ x ∈ xs, 0 ≤ x ∧ x < 256) (hl : xs.length = 8) : gOk xs ↔ rcOk (gK xs) (gB xs) (gN xs) (gF xs) ∧ rcB (gK xs) (gB xs) (gN xs) (gF xs) = xs := by
  obtain ⟨a, b, c, d, e, f, g, i, rfl⟩ := eight hl
  have ha := hb a (by simp)
  have hbb := hb b (by simp)
  have hc := hb c (by simp)
  have hd := hb d (by simp)
  have h0 : (2 * (a / 2) + a % 2) % 256 = a := by omega
  have h1 : (b + 256 * (d % 16)) % 256 = b := by omega
  have h2 : (c + 256 * (d / 16)) % 256 = c := by omega
  have h3 : ((b + 256 * (d % 16)) / 256 + 16 * ((c + 256 * (d / 16)) / 256)) % 256 = d := by omega
  have e : rcB (gK [a, b, c, d, e, f, g, i]) (gB [a, b, c, d, e, f, g, i]) (gN [a, b, c, d, e, f, g, i]) (gF [a, b, c, d, e, f, g, i]) = [a, b, c, d, bits .xor .u8 255 a, bits .xor .u8 255 b, bits .xor .u8 255 c, bits .xor .u8 255 d] := by
    simp [rcB, rcH, opp, gK, gB, gN, gF, h0, h1, h2, h3]
  rw [e]
  unfold gOk
  rw [gOpp_iff]
  simp
  constructor
  · rintro ⟨⟨h0, h1, h2, h3⟩, h⟩
    exact ⟨h, h0.symm, h1.symm, h2.symm, h3.symm⟩
  · rintro ⟨h, h0, h1, h2, h3⟩
    exact ⟨⟨h0.symm, h1.symm, h2.symm, h3.symm⟩, h⟩
/-- A record comes back from its bytes. -/
theorem rc_back {k b n f : Int} (h : rcOk k b n f) : gK (rcB k b n f) = k ∧ gB (rcB k b n f) = b ∧ gN (rcB k b n f) = n ∧ gF (rcB k b n f) = f := by
  simp [rcB, rcH, gK, gB, gN, gF]
  omega
theorem rc_ok {k b n f : Int} (h : rcOk k b n f) : gOk (rcB k b n f) := by
  obtain ⟨h0, h1, h2, h3⟩ := rc_back h
  rw [gOk_iff (rcB_byte _ _ _ _) (rcB_len _ _ _ _), h0, h1, h2, h3]
  exact ⟨h, rfl⟩
end Go.Proofs.Ytjceajgefpinpaa
namespace Go.Proofs.Ytjceajgefpinpaa
open Go.RowKit

end Go.Proofs.Ytjceajgefpinpaa
namespace Go.Proofs.Ytjceajgefpinpaa
open Go.RowKit

set_option maxHeartbeats 400000 in
theorem growNil (n : Nat) (w : World) (hn : n ≤ 8388608) :
    Calls Try.prog 79 #[.slice none 0 0, .int .i64 n] w fun e w' => ∃ v, e = .returned v ∧ w'.ownsRow w.heap.size 5 1 v 0 (U8 []) ∧ Below w.heap.size w w' := by
  obtain ⟨i0, hi, hz0, hz1, hz2⟩ := info_parts Try.info5
  by_cases h0 : n = 0
  · subst h0
    go_enter Try.func79, Try.ntmps79
    go_wp2
    go_ret
    exact ⟨_, rfl, World.ownsRow_nil _ _ _ _, Below.refl _ _⟩
  · have hpos : (0 : Int) < (n : Int) := by omega
    have hrun : ∀ ty, (Builtin.append_ #[22, 3] ty #[.slice none 0 0, .int .i64 (n : Int)]).run Try.prog w =
        .ok (.slice (some ⟨w.heap.size, 0, none⟩) n (grownCap w n 0 5)) (w.drew.alloc (.cells (#[] ++ Builtin.zeroCells (Value.int .u8 0).cells n ++ Builtin.zeroCells (Value.int .u8 0).cells (grownCap w n 0 5 - n)) 5)) := fun ty => by
      have h := Lib.run_append_grow_zeros w 22 3 ty 5 i0 (.int .u8 0) .i64 .i64 Try.underlying22 Try.underlying3 hi hz0 none 0 0 [] (run_firstCells_none w.drew i0.size 0 0 0) n (by omega) (by omega) (by omega) (by omega) (by rw [hz2]; omega)
        (by rw [hz2]; exact growslice_fits (by omega) (by omega))
      simpa using h
    have hGn : n ≤ grownCap w n 0 5 := grownCap_ge w _ _ _
    have hGm : grownCap w n 0 5 ≤ maxLen := grownCap_le_maxLen w n 0 5 (by unfold maxLen; omega)
    obtain ⟨G, hG⟩ : ∃ G, G = grownCap w n 0 5 := ⟨_, rfl⟩
    rw [← hG] at hrun hGn hGm
    clear hG hi hz0 hz1 hz2
    obtain ⟨C, hC⟩ : ∃ C, C = (#[] ++ Builtin.zeroCells (Value.int .u8 0).cells n ++ Builtin.zeroCells (Value.int .u8 0).cells (G - n)) := ⟨_, rfl⟩
    rw [← hC] at hrun
    have hCs : C.size = G * 1 := by rw [hC]; simp [size_zeroCells, Value.cells]; omega
    have HC : Hid (C.size = G * 1) := hCs
    clear hC hCs
    have hGm' := hGm
    unfold maxLen at hGm
    go_enter Try.func79, Try.ntmps79
    go_wp2_with (at_builtin; refine Lib.wpList_append_run _ rfl _ _ _ _ rfl _ _ rfl rfl _ _ (hrun _) ?_)
    go_ret
    exact ⟨.slice (some ⟨w.heap.size, 0, none⟩) 0 G, rfl, (World.ownsRow_made (base := w.heap.size) (e := 5) (size := 1) w C G (Nat.le_refl _) hGm' HC.out).drew, ((Below.refl _ _).alloc (Nat.le_refl _) _).drew⟩

set_option maxHeartbeats 1000000 in
theorem concat2 (g : Nat) (a a' : Option Addr) (n c n' c' : Nat) (xs ys : List Int) (w : World) (hg : g < w.heap.size)
    (h0 : w.cell? ⟨g, 0, none⟩ = some (.slice a n c)) (h1 : w.cell? ⟨g, 1, none⟩ = some (.slice a' n' c')) (h : Bs w a n c xs) (h' : Bs w a' n' c' ys) (hn : n ≤ 2098176) (hn' : n' ≤ 2098176) :
    Calls Try.prog 64 #[.slice (some ⟨g, 0, none⟩) 2 2] w fun e w' => ∃ v, e = .returned v ∧ w'.ownsRow w.heap.size 5 1 v (n + n') (U8 (xs ++ ys)) ∧ Below w.heap.size w w' := by
  go_enter Try.func64, Try.ntmps64
  go_wp2
  refine wp_loop_rounds 3 ?_
  rw [rounds_succ]
  go_wp2
  rw [rounds_succ]
  go_wp2
  rw [rounds_succ]
  go_wp2_with fail
  have eN : ((n : Int) + (n' : Int)) = ((n + n' : Nat) : Int) := by omega
  rw [eN]
  refine (growNil (n + n') w (by omega)).mono ?_
  rintro e w1 ⟨v1, rfl, hown1, b1⟩
  have q0 : w1.cell? ⟨g, 0, none⟩ = some (.slice a n c) := (b1.cell (p := ⟨g, 0, none⟩) hg).trans h0
  have q1 : w1.cell? ⟨g, 1, none⟩ = some (.slice a' n' c') := (b1.cell (p := ⟨g, 1, none⟩) hg).trans h1
  have s1 := b1.size
  have hx1 := h.below b1
  clear h0 h1 eN
  go_wp2
  refine wp_loop_rounds 3 ?_
  rw [rounds_succ]
  go_wp2_with (at_builtin; refine wpl_append_bs rfl _ _ rfl w.heap.size _ 0 [] rfl a n c xs rfl hown1 hx1 ?_ ?_ ?_)
  · omega
  · omega
  intro v2 w2 hown2 hgr2 _
  have b2 : Below w.heap.size w w2 := below_app0 b1 s1 hown1 hgr2
  have q1' : w2.cell? ⟨g, 1, none⟩ = some (.slice a' n' c') := (b2.cell (p := ⟨g, 1, none⟩) hg).trans ((b1.cell (p := ⟨g, 1, none⟩) hg).symm.trans q1)
  have s2 := b2.size
  have hy2 := h'.below b2
  clear hgr2 hown1 b1 q0 q1 s1 hx1 h h'
  go_wp2
  rw [rounds_succ]
  go_wp2_with (at_builtin; refine wpl_append_bs rfl _ _ rfl w.heap.size _ n xs rfl a' n' c' ys rfl hown2 hy2 ?_ ?_ ?_)
  · omega
  · omega
  intro v3 w3 hown3 hgr3 _
  have b3 : Below w.heap.size w w3 := below_app0 b2 s2 hown2 hgr3
  clear hgr3 hown2 b2 q1' s2 hy2
  go_wp2
  rw [rounds_succ]
  go_wp2
  go_ret
  exact ⟨v3, rfl, by simpa using hown3, b3⟩

end Go.Proofs.Ytjceajgefpinpaa
