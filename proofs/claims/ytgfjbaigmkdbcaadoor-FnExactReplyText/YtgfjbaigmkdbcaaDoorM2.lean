/-
  What is proved here: what strconv.AppendInt does behind a converted row, at base 10 and a number from 0 to a million.
-/
import Derived.Test.YtgfjbaigmkdbcaaDoorM1
namespace Go.Proofs.YtgfjbaigmkdbcaaDoor
open Go.RowKit Go.Sort
set_option maxRecDepth 100000
set_option maxHeartbeats 4000000
set_option linter.unusedVariables false

abbrev Pow (w : World) : Prop := Lib.TabIs Tryd.prog w "internal/strconv.uint64pow10" .u64 Lib.pow10Tab
theorem dec_len {u : Nat} (h : u ≤ 1000000) : Lib.nDigits u ≤ 7 := by
  have := dgs_le h
  rw [← Lib.decDigits_length]
  simpa [dgs] using this
theorem grown_below {w w' : World} {base : Nat} {v : Value} {n : Nat} {xs : List Int} (h : ownM w base v n xs) (hb : base ≤ w.heap.size) (g : w.grownBy w' v.ownBlock) : Below base w w' :=
  ⟨g.os, g.tape, g.output, g.size, fun k hk => g.block k (by omega) (fun e => by have := (h.lt k e.symm).1; omega)⟩
theorem appUintS (base : Nat) (v : Value) (n : Nat) (xs : List Int) (u : Nat) (w : World) (h : ownM w base v n xs) (hn : n ≤ 1000000) (hb : base ≤ w.heap.size) (hu : u < 100) :
    Calls Tryd.prog 72 #[v, .int .u64 (u : Int), .int .i64 10] w fun e w' => ∃ v', e = .returned v' ∧ ownM w' base v' (n + (dgs u).length) (xs ++ dgs u) ∧ Below base w w' := by
  have hcv : IntKind.i64.wrap (u : Int) = (u : Int) := wr64 (by omega) (by omega)
  have hs : (⟨(Lib.decDigits u).toArray⟩ : ByteArray).size = (dgs u).length := by simp [ByteArray.size, dgs]
  have hl := dgs_le (n := u) (by omega)
  have hlt : (u : Int) < 100 := by omega
  go_enter Tryd.func72, Tryd.ntmps72
  go_wp2_with fail
  refine (small_at u hu _).mono ?_
  rintro e w1 ⟨rfl, rfl⟩
  go_wp2_with (at_builtin; refine wplM_str rfl _ _ rfl base v n xs rfl h ⟨(Lib.decDigits u).toArray⟩ rfl (by rw [hs]; omega) hb ?_)
  intro v' w' o g
  rw [stB_dec] at o
  have hB := grown_below h hb g
  clear g
  go_wp2
  go_ret
  exact ⟨_, rfl, o, hB⟩
theorem numDig_at (u : Nat) (h1 : 1 ≤ u) (h2 : u < 18446744073709551616) (w : World) (ht : Pow w) : Calls Tryd.prog 74 #[.int .u64 (u : Int)] w fun e w' => e = .returned (.int .i64 (Lib.nDigits u : Int)) ∧ w' = w :=
  Any.internal_strconv_numDigits { lays288 with } u h1 h2 w ht
theorem cut24 (w : World) (b k : Nat) (hk : k ≤ 24) : (Instr.sliceAt 101 (.pointer (some ⟨b, 0, none⟩)) none (some (.int .i64 (k : Int))) none).run Tryd.prog w = .ok (.slice (some ⟨b, 0, none⟩) k 24) w := by
  have ha : Tryd.prog.arrayLen 101 = 24 := by kernel_rfl
  have he : Tryd.prog.elem 101 = 5 := by kernel_rfl
  rw [run_sliceAt_array_h (P := Tryd.prog) w 101 ⟨b, 0, none⟩ (by rw [ha, he]; exact Tryd.underlying101) .i64 (k : Int) (by omega) (by rw [ha]; omega), he, ha]
  rfl
/-- The digits in an array of its own. -/
theorem fmt_at (u : Nat) (w : World) (hu : u < 18446744073709551616) (h20 : Lib.nDigits u ≤ 20) :
    Calls Tryd.prog 75 #[.slice (some ⟨w.heap.size, 0, none⟩) (Lib.nDigits u) 24, .int .u64 (u : Int)] (w.alloc (.cells Lib.zeros24 101)) fun e w' => e = .returned (.tuple #[]) ∧ Below w.heap.size w w' ∧ Bs w' (some ⟨w.heap.size, 0, none⟩) (Lib.nDigits u) 24 (dgs u) := by
  have hH := Lib.holds_zero0 w 101 (Lib.nDigits u) (by omega)
  have hc := Any.internal_strconv_formatBase10 { lays288 with } w.heap.size 0 24 u (Array.replicate (Lib.nDigits u) 0) (w.alloc (.cells Lib.zeros24 101)) hH (by rw [Array.size_replicate]; exact Lib.lt_pow_nDigits u) hu (by rw [Array.size_replicate]; omega)
  rw [Array.size_replicate] at hc
  refine Calls.mono (show Calls Tryd.prog 75 _ _ _ from hc) ?_
  rintro e w' ⟨rfl, k, v', dk, rfl, hF⟩
  obtain ⟨os, eo⟩ := Lib.fin_at w (.cells Lib.zeros24 101) dk k 0
  have hb : Below w.heap.size w ((putRow (fun (b : UInt8) => Value.int .u8 (b.toNat : Int)) (w.alloc (.cells Lib.zeros24 101)) w.heap.size 0 dk).drewN k) := by rw [eo]; exact Lib.below_grow w.heap.size w (Nat.le_refl _) k os
  have hdl : (dgs u).length = Lib.nDigits u := by rw [← Lib.decDigits_length]; simp [dgs]
  have hcell : ∀ j, j < Lib.nDigits u → ((putRow (fun (b : UInt8) => Value.int .u8 (b.toNat : Int)) (w.alloc (.cells Lib.zeros24 101)) w.heap.size 0 dk).drewN k).cell? ⟨w.heap.size, 0 + j, none⟩ = some (.int .u8 ((dgs u).getD j 0)) := by
    intro j hj
    have hjl : j < (Lib.decDigits u).length := by rw [Lib.decDigits_length]; exact hj
    have e : (dgs u).getD j 0 = (((Lib.decDigits u)[j]).toNat : Int) := by simp [dgs, hjl]
    rw [e, Lib.row_is_numeral hF j hjl, World.cell?_drewN]
    exact cell?_putRow (fun (b : UInt8) => Value.int .u8 (b.toNat : Int)) _ w.heap.size 0 _ dk hH (by rw [hF.size, Array.size_replicate]) j (by rw [hF.size]; exact hj)
  refine ⟨rfl, hb, (fun h => by cases h), hdl, by omega, dgs_byte u, .inr ⟨w.heap.size, 0, rfl, ?_, hcell⟩⟩
  rcases Nat.lt_or_ge w.heap.size ((putRow (fun (b : UInt8) => Value.int .u8 (b.toNat : Int)) (w.alloc (.cells Lib.zeros24 101)) w.heap.size 0 dk).drewN k).heap.size with h | h
  · exact h
  · exfalso
    have hp : 0 < Lib.nDigits u := by
      rw [Lib.nDigits]
      split <;> omega
    have := World.block_lt_of_cell? _ _ (hcell 0 hp)
    simp only [] at this
    omega
theorem appUintB (base : Nat) (v : Value) (n : Nat) (xs : List Int) (u : Nat) (w : World) (h : ownM w base v n xs) (hn : n ≤ 1000000) (hb : base ≤ w.heap.size) (hu : 100 ≤ u) (hu2 : u ≤ 1000000) (ht : Pow w) :
    Calls Tryd.prog 72 #[v, .int .u64 (u : Int), .int .i64 10] w fun e w' => ∃ v', e = .returned v' ∧ ownM w' base v' (n + (dgs u).length) (xs ++ dgs u) ∧ Below base w w' := by
  have hl := dgs_le (n := u) (by omega)
  have hdl : (dgs u).length = Lib.nDigits u := by rw [← Lib.decDigits_length]; simp [dgs]
  have hnd : Lib.nDigits u ≤ 7 := by omega
  have hp : 0 < Lib.nDigits u := by
    rw [Lib.nDigits]
    split <;> omega
  have hlt : ¬ (u : Int) < 100 := by omega
  have hcut := fun W => cut24 W w.heap.size (Lib.nDigits u) (by omega)
  have hfm := fmt_at u w (by omega) (by omega)
  have hta : Pow (w.alloc (.cells Lib.zeros24 101)) := Lib.tabIs_alloc ht _
  rw [hdl]
  generalize hN : Lib.nDigits u = N at hcut hfm hnd hdl hp ⊢
  have HN : Hid (Lib.nDigits u = N) := hN
  have HF : Hid _ := hfm
  have HT : Hid (Pow (w.alloc (.cells Lib.zeros24 101))) := hta
  clear hN hfm hta ht
  go_enter Tryd.func72, Tryd.ntmps72
  go_wp2_with fail
  refine (numDig_at u (by omega) (by omega) _ HT.out).mono ?_
  rintro e w1 ⟨rfl, rfl⟩
  rw [HN.out]
  go_wp2_with fail
  refine Calls.mono HF.out ?_
  rintro e w2 ⟨rfl, hb2, hB⟩
  have h2 := h.below hb2
  have hz := hb2.size
  clear HF
  go_wp2_with (at_builtin; refine wplM_bs rfl _ _ rfl base v n xs rfl h2 ⟨w.heap.size, 0, none⟩ N 24 (dgs u) rfl hB (by omega) (by omega) ?_)
  intro v' w' o g
  have hB2 : Below base w w' := (hb2.mono hb).trans (grown_below h2 (by omega) g)
  clear g
  go_wp2
  go_ret
  exact ⟨_, rfl, o, hB2⟩
end Go.Proofs.YtgfjbaigmkdbcaaDoor
