/-
  What is proved here: the library's internal/strconv.AppendUint, as this program has it, is what the shelf's contracts speak of; append behind a converted row, for the walk; what strconv.AppendInt does behind a converted row, at base 10 and a number from 0 to a million; what the program's lineOf answers; what both sides' lines come to where the numbers stand in a literal.
-/
import Derived.Test.YtjceajgefpinpaaDoorJQ17
import Derived.Shelf.Strconv.AppendUint10
import Derived.Lib.AppendIntMem
import Derived.Lib.AtoiErrMem
namespace Go.Proofs.YtjceajgefpinpaaDoor
open Go.RowKit
set_option maxRecDepth 100000
set_option maxHeartbeats 4000000
set_option linter.unusedVariables false

def lays288_ren : Go.Shelf.Ren := ⟨fun | 288 => 52 | 283 => 54 | 284 => 55 | 285 => 56 | 286 => 57 | 129 => 59 | 317 => 58 | 318 => 60 | 319 => 61 | 320 => 62 | 337 => 63 | 338 => 64 | n => n, fun | 37 => 22 | 53 => 74 | 3 => 3 | 4 => 4 | 9 => 9 | 171 => 79 | 0 => 0 | 173 => 82 | 212 => 85 | 51 => 86 | 5 => 5 | 20 => 20 | 213 => 87 | 46 => 73 | 232 => 90 | 233 => 91 | n => n, fun | 17 => 0 | 18 => 1 | 19 => 2 | n => n⟩
theorem lays288 : Go.Proofs.LaysM.n288 Tryd.prog lays288_ren where
  mixed := by kernel_rfl
  f129 := Tryd.func59.trans (congrArg some (by kernel_rfl))
  f283 := Tryd.func54.trans (congrArg some (by kernel_rfl))
  f284 := Tryd.func55.trans (congrArg some (by kernel_rfl))
  f285 := Tryd.func56.trans (congrArg some (by kernel_rfl))
  f286 := Tryd.func57.trans (congrArg some (by kernel_rfl))
  f288 := Tryd.func52.trans (congrArg some (by kernel_rfl))
  f317 := Tryd.func58.trans (congrArg some (by kernel_rfl))
  f318 := Tryd.func60.trans (congrArg some (by kernel_rfl))
  f319 := Tryd.func61.trans (congrArg some (by kernel_rfl))
  f320 := Tryd.func62.trans (congrArg some (by kernel_rfl))
  f337 := Tryd.func63.trans (congrArg some (by kernel_rfl))
  f338 := Tryd.func64.trans (congrArg some (by kernel_rfl))
  t0 := Tryd.underlying0
  a0 := Tryd.isAgg0
  z0 := Tryd.sizeOf0
  v0 := Tryd.zeroValue0
  t3 := Tryd.underlying3
  a3 := Tryd.isAgg3
  z3 := Tryd.sizeOf3
  v3 := Tryd.zeroValue3
  t4 := Tryd.underlying4
  a4 := Tryd.isAgg4
  z4 := Tryd.sizeOf4
  v4 := Tryd.zeroValue4
  t5 := Tryd.underlying5
  a5 := Tryd.isAgg5
  z5 := Tryd.sizeOf5
  v5 := Tryd.zeroValue5
  t9 := Tryd.underlying9
  a9 := Tryd.isAgg9
  z9 := Tryd.sizeOf9
  v9 := Tryd.zeroValue9
  t20 := Tryd.underlying20
  a20 := Tryd.isAgg20
  z20 := Tryd.sizeOf20
  v20 := Tryd.zeroValue20
  t37 := Tryd.underlying22
  a37 := Tryd.isAgg22
  z37 := Tryd.sizeOf22
  v37 := Tryd.zeroValue22
  t46 := Tryd.underlying73
  a46 := Tryd.isAgg73
  z46 := Tryd.sizeOf73
  v46 := Tryd.zeroValue73
  t51 := Tryd.underlying86
  a51 := Tryd.isAgg86
  z51 := Tryd.sizeOf86
  v51 := Tryd.zeroValue86
  t53 := Tryd.underlying74
  a53 := Tryd.isAgg74
  z53 := Tryd.sizeOf74
  v53 := Tryd.zeroValue74
  t171 := Tryd.underlying79
  a171 := Tryd.isAgg79
  z171 := Tryd.sizeOf79
  v171 := Tryd.zeroValue79
  t173 := Tryd.underlying82
  a173 := Tryd.isAgg82
  z173 := Tryd.sizeOf82
  v173 := Tryd.zeroValue82
  t212 := Tryd.underlying85
  a212 := Tryd.isAgg85
  z212 := Tryd.sizeOf85
  v212 := Tryd.zeroValue85
  t213 := Tryd.underlying87
  a213 := Tryd.isAgg87
  z213 := Tryd.sizeOf87
  t232 := Tryd.underlying90
  a232 := Tryd.isAgg90
  z232 := Tryd.sizeOf90
  v232 := Tryd.zeroValue90
  t233 := Tryd.underlying91
  a233 := Tryd.isAgg91
  z233 := Tryd.sizeOf91
  v233 := Tryd.zeroValue91
  g17 := by kernel_rfl
  g18 := by kernel_rfl
  g19 := by kernel_rfl
  i0 := by kernel_rfl
  i3 := by kernel_rfl
  i4 := by kernel_rfl
  i5 := by kernel_rfl
  i9 := by kernel_rfl
  i20 := by kernel_rfl
  i37 := by kernel_rfl
  i46 := by kernel_rfl
  i51 := by kernel_rfl
  i53 := by kernel_rfl
  i171 := by kernel_rfl
  i173 := by kernel_rfl
  i212 := by kernel_rfl
  i232 := by kernel_rfl
  i233 := by kernel_rfl
  m17 := by kernel_rfl
  m18 := by kernel_rfl
  m19 := by kernel_rfl
theorem wplM_str {w : World} {ops : Array Oper} {rest : List Oper} {o : Oper} {a : Act} {Q : Exit → Act → World → Prop} (hgd : o.guard = none) (sl x : Operand)
    (ho : o.op = .call { callee := .builtin .append, args := #[sl, x], argTypes := #[22, 9] })
    (base : Nat) (v : Value) (n : Nat) (xs : List Int) (hs : a.eval sl = v) (hown : ownM w base v n xs) (s : ByteArray) (hx : a.eval x = .string s) (hn : n + s.size ≤ 1048576) (hbase : base ≤ w.heap.size)
    (h : ∀ v' w', ownM w' base v' (n + s.size) (xs ++ stB s) → w.grownBy w' v.ownBlock → wpList Tryd.prog ops Q rest (a.put o.dst v') w') :
    wpList Tryd.prog ops Q (o :: rest) a w := by
  refine wpList_plain hgd fun K hK => ?_
  obtain ⟨v', w', hr, h2, h3⟩ := app_str_M w base o.type v n xs hown s hn hbase
  unfold Oper.wp execOp
  simp only [ho, resolve, invoke, builtin, Sem.run_bind, Sem.run_pure, Result.andThen_ok, List.map_toArray, List.map_cons, List.map_nil, hs, hx, hr]
  exact hK _ _ (h v' w' h2 h3)
theorem wplM_bs {w : World} {ops : Array Oper} {rest : List Oper} {o : Oper} {a : Act} {Q : Exit → Act → World → Prop} (hgd : o.guard = none) (sl x : Operand)
    (ho : o.op = .call { callee := .builtin .append, args := #[sl, x], argTypes := #[22, 22] })
    (base : Nat) (v : Value) (n : Nat) (xs : List Int) (hs : a.eval sl = v) (hown : ownM w base v n xs) (ad : Addr) (m c : Nat) (ys : List Int) (hx : a.eval x = .slice (some ad) m c) (hb : Bs w (some ad) m c ys) (hn : n + m ≤ 1048576) (hbase : base ≤ w.heap.size)
    (h : ∀ v' w', ownM w' base v' (n + m) (xs ++ ys) → w.grownBy w' v.ownBlock → wpList Tryd.prog ops Q rest (a.put o.dst v') w') :
    wpList Tryd.prog ops Q (o :: rest) a w := by
  refine wpList_plain hgd fun K hK => ?_
  obtain ⟨v', w', hr, h2, h3⟩ := app_bs_M w base o.type v n xs hown ad m c ys hb hn hbase
  unfold Oper.wp execOp
  simp only [ho, resolve, invoke, builtin, Sem.run_bind, Sem.run_pure, Result.andThen_ok, List.map_toArray, List.map_cons, List.map_nil, hs, hx, hr]
  exact hK _ _ (h v' w' h2 h3)
theorem small_at (u : Nat) (h : u < 100) (w : World) : Calls Tryd.prog 54 #[.int .i64 (u : Int)] w fun e w' => e = .returned (.string ⟨(Lib.decDigits u).toArray⟩) ∧ w' = w :=
  Any.internal_strconv_small { lays288 with } u h w
theorem stB_dec (u : Nat) : stB ⟨(Lib.decDigits u).toArray⟩ = dgs u := by
  simp [stB, dgs]
end Go.Proofs.YtjceajgefpinpaaDoor
namespace Go.Proofs.YtjceajgefpinpaaDoor
open Go.RowKit Go.Sort
set_option maxRecDepth 100000
set_option maxHeartbeats 4000000
set_option linter.unusedVariables false

abbrev Pow (w : World) : Prop := Lib.TabIs Tryd.prog w "internal/strconv.uint64pow10" .u64 Lib.pow10Tab
theorem dec_len {u : Nat} (h : u ≤ 1000000) : Lib.nDigits u ≤ 7 := by
  have := dgs_le h
  rw [← Lib.decDigits_length]
  simpa [dgs] using this
theorem grown_below {w w' : World} {base : Nat} {v : Value} {n : Nat} {xs : List Int} (h : ownM w base v n xs) (hb : base ≤ w.heap.size) (g : w.grownBy w' v.ownBlock) : Below base w w' :=
  ⟨g.os, g.tape, g.output, g.size, fun k hk => g.block k (by omega) (fun e => by have := (h.lt k e.symm).1; omega)⟩
theorem appUintS (base : Nat) (v : Value) (n : Nat) (xs : List Int) (u : Nat) (w : World) (h : ownM w base v n xs) (hn : n ≤ 1000000) (hb : base ≤ w.heap.size) (hu : u < 100) :
    Calls Tryd.prog 52 #[v, .int .u64 (u : Int), .int .i64 10] w fun e w' => ∃ v', e = .returned v' ∧ ownM w' base v' (n + (dgs u).length) (xs ++ dgs u) ∧ Below base w w' := by
  have hcv : IntKind.i64.wrap (u : Int) = (u : Int) := wr64 (by omega) (by omega)
  have hs : (⟨(Lib.decDigits u).toArray⟩ : ByteArray).size = (dgs u).length := by simp [ByteArray.size, dgs]
  have hl := dgs_le (n := u) (by omega)
  have hlt : (u : Int) < 100 := by omega
  go_enter Tryd.func52, Tryd.ntmps52
  go_wp2_with fail
  refine (small_at u hu _).mono ?_
  rintro e w1 ⟨rfl, rfl⟩
  go_wp2_with (at_builtin; refine wplM_str rfl _ _ rfl base v n xs rfl h ⟨(Lib.decDigits u).toArray⟩ rfl (by rw [hs]; omega) hb ?_)
  intro v' w' o g
  rw [stB_dec] at o
  have hB := grown_below h hb g
  clear g
  go_wp2
  go_ret
  exact ⟨_, rfl, o, hB⟩
theorem numDig_at (u : Nat) (h1 : 1 ≤ u) (h2 : u < 18446744073709551616) (w : World) (ht : Pow w) : Calls Tryd.prog 55 #[.int .u64 (u : Int)] w fun e w' => e = .returned (.int .i64 (Lib.nDigits u : Int)) ∧ w' = w :=
  Any.internal_strconv_numDigits { lays288 with } u h1 h2 w ht
theorem cut24 (w : World) (b k : Nat) (hk : k ≤ 24) : (Instr.sliceAt 79 (.pointer (some ⟨b, 0, none⟩)) none (some (.int .i64 (k : Int))) none).run Tryd.prog w = .ok (.slice (some ⟨b, 0, none⟩) k 24) w := by
  have ha : Tryd.prog.arrayLen 79 = 24 := by kernel_rfl
  have he : Tryd.prog.elem 79 = 5 := by kernel_rfl
  rw [run_sliceAt_array_h (P := Tryd.prog) w 79 ⟨b, 0, none⟩ (by rw [ha, he]; exact Tryd.underlying79) .i64 (k : Int) (by omega) (by rw [ha]; omega), he, ha]
  rfl
/-- The digits in an array of its own. -/
theorem fmt_at (u : Nat) (w : World) (hu : u < 18446744073709551616) (h20 : Lib.nDigits u ≤ 20) :
    Calls Tryd.prog 56 #[.slice (some ⟨w.heap.size, 0, none⟩) (Lib.nDigits u) 24, .int .u64 (u : Int)] (w.alloc (.cells Lib.zeros24 79)) fun e w' => e = .returned (.tuple #[]) ∧ Below w.heap.size w w' ∧ Bs w' (some ⟨w.heap.size, 0, none⟩) (Lib.nDigits u) 24 (dgs u) := by
  have hH := Lib.holds_zero0 w 79 (Lib.nDigits u) (by omega)
  have hc := Any.internal_strconv_formatBase10 { lays288 with } w.heap.size 0 24 u (Array.replicate (Lib.nDigits u) 0) (w.alloc (.cells Lib.zeros24 79)) hH (by rw [Array.size_replicate]; exact Lib.lt_pow_nDigits u) hu (by rw [Array.size_replicate]; omega)
  rw [Array.size_replicate] at hc
  refine Calls.mono (show Calls Tryd.prog 56 _ _ _ from hc) ?_
  rintro e w' ⟨rfl, k, v', dk, rfl, hF⟩
  obtain ⟨os, eo⟩ := Lib.fin_at w (.cells Lib.zeros24 79) dk k 0
  have hb : Below w.heap.size w ((putRow (fun (b : UInt8) => Value.int .u8 (b.toNat : Int)) (w.alloc (.cells Lib.zeros24 79)) w.heap.size 0 dk).drewN k) := by rw [eo]; exact Lib.below_grow w.heap.size w (Nat.le_refl _) k os
  have hdl : (dgs u).length = Lib.nDigits u := by rw [← Lib.decDigits_length]; simp [dgs]
  have hcell : ∀ j, j < Lib.nDigits u → ((putRow (fun (b : UInt8) => Value.int .u8 (b.toNat : Int)) (w.alloc (.cells Lib.zeros24 79)) w.heap.size 0 dk).drewN k).cell? ⟨w.heap.size, 0 + j, none⟩ = some (.int .u8 ((dgs u).getD j 0)) := by
    intro j hj
    have hjl : j < (Lib.decDigits u).length := by rw [Lib.decDigits_length]; exact hj
    have e : (dgs u).getD j 0 = (((Lib.decDigits u)[j]).toNat : Int) := by simp [dgs, hjl]
    rw [e, Lib.row_is_numeral hF j hjl, World.cell?_drewN]
    exact cell?_putRow (fun (b : UInt8) => Value.int .u8 (b.toNat : Int)) _ w.heap.size 0 _ dk hH (by rw [hF.size, Array.size_replicate]) j (by rw [hF.size]; exact hj)
  refine ⟨rfl, hb, (fun h => by cases h), hdl, by omega, dgs_byte u, .inr ⟨w.heap.size, 0, rfl, ?_, hcell⟩⟩
  rcases Nat.lt_or_ge w.heap.size ((putRow (fun (b : UInt8) => Value.int .u8 (b.toNat : Int)) (w.alloc (.cells Lib.zeros24 79)) w.heap.size 0 dk).drewN k).heap.size with h | h
  · exact h
  · exfalso
    have hp : 0 < Lib.nDigits u := by
      rw [Lib.nDigits]
      split <;> omega
    have := World.block_lt_of_cell? _ _ (hcell 0 hp)
    simp only [] at this
    omega
theorem appUintB (base : Nat) (v : Value) (n : Nat) (xs : List Int) (u : Nat) (w : World) (h : ownM w base v n xs) (hn : n ≤ 1000000) (hb : base ≤ w.heap.size) (hu : 100 ≤ u) (hu2 : u ≤ 1000000) (ht : Pow w) :
    Calls Tryd.prog 52 #[v, .int .u64 (u : Int), .int .i64 10] w fun e w' => ∃ v', e = .returned v' ∧ ownM w' base v' (n + (dgs u).length) (xs ++ dgs u) ∧ Below base w w' := by
  have hl := dgs_le (n := u) (by omega)
  have hdl : (dgs u).length = Lib.nDigits u := by rw [← Lib.decDigits_length]; simp [dgs]
  have hnd : Lib.nDigits u ≤ 7 := by omega
  have hp : 0 < Lib.nDigits u := by
    rw [Lib.nDigits]
    split <;> omega
  have hlt : ¬ (u : Int) < 100 := by omega
  have hcut := fun W => cut24 W w.heap.size (Lib.nDigits u) (by omega)
  have hfm := fmt_at u w (by omega) (by omega)
  have hta : Pow (w.alloc (.cells Lib.zeros24 79)) := Lib.tabIs_alloc ht _
  rw [hdl]
  generalize hN : Lib.nDigits u = N at hcut hfm hnd hdl hp ⊢
  have HN : Hid (Lib.nDigits u = N) := hN
  have HF : Hid _ := hfm
  have HT : Hid (Pow (w.alloc (.cells Lib.zeros24 79))) := hta
  clear hN hfm hta ht
  go_enter Tryd.func52, Tryd.ntmps52
  go_wp2_with fail
  refine (numDig_at u (by omega) (by omega) _ HT.out).mono ?_
  rintro e w1 ⟨rfl, rfl⟩
  rw [HN.out]
  go_wp2_with fail
  refine Calls.mono HF.out ?_
  rintro e w2 ⟨rfl, hb2, hB⟩
  have h2 := h.below hb2
  have hz := hb2.size
  clear HF
  go_wp2_with (at_builtin; refine wplM_bs rfl _ _ rfl base v n xs rfl h2 ⟨w.heap.size, 0, none⟩ N 24 (dgs u) rfl hB (by omega) (by omega) ?_)
  intro v' w' o g
  have hB2 : Below base w w' := (hb2.mono hb).trans (grown_below h2 (by omega) g)
  clear g
  go_wp2
  go_ret
  exact ⟨_, rfl, o, hB2⟩
end Go.Proofs.YtjceajgefpinpaaDoor
namespace Go.Proofs.YtjceajgefpinpaaDoor
open Go.RowKit
set_option maxRecDepth 100000
set_option maxHeartbeats 4000000
set_option linter.unusedVariables false

theorem appUint (base : Nat) (v : Value) (n : Nat) (xs : List Int) (u : Nat) (w : World) (h : ownM w base v n xs) (hn : n ≤ 1000000) (hb : base ≤ w.heap.size) (hu : u ≤ 1000000) (ht : Pow w) :
    Calls Tryd.prog 52 #[v, .int .u64 (u : Int), .int .i64 10] w fun e w' => ∃ v', e = .returned v' ∧ ownM w' base v' (n + (dgs u).length) (xs ++ dgs u) ∧ Below base w w' := by
  by_cases h0 : u < 100
  · exact appUintS base v n xs u w h hn hb h0
  · exact appUintB base v n xs u w h hn hb (by omega) hu ht
theorem appIntI (base : Nat) (v : Value) (n : Nat) (xs : List Int) (u : Nat) (w : World) (h : ownM w base v n xs) (hn : n ≤ 1000000) (hb : base ≤ w.heap.size) (hu : u ≤ 1000000) (ht : Pow w) :
    Calls Tryd.prog 48 #[v, .int .i64 (u : Int), .int .i64 10] w fun e w' => ∃ v', e = .returned v' ∧ ownM w' base v' (n + (dgs u).length) (xs ++ dgs u) ∧ Below base w w' := by
  have hw : IntKind.u64.wrap (u : Int) = (u : Int) := by rw [IntKind.wrap_u64]; omega
  have hneg : ¬ (u : Int) < 0 := by omega
  have HC : Hid _ := appUint base v n xs u w h hn hb hu ht
  clear h ht
  go_enter Tryd.func48, Tryd.ntmps48
  go_wp2_with fail
  refine Calls.mono HC.out ?_
  rintro e w1 ⟨v1, rfl, o, hB⟩
  go_wp2
  go_ret
  exact ⟨_, rfl, o, hB⟩
theorem appInt (base : Nat) (v : Value) (n : Nat) (xs : List Int) (u : Nat) (w : World) (h : ownM w base v n xs) (hn : n ≤ 1000000) (hb : base ≤ w.heap.size) (hu : u ≤ 1000000) (ht : Pow w) :
    Calls Tryd.prog 39 #[v, .int .i64 (u : Int), .int .i64 10] w fun e w' => ∃ v', e = .returned v' ∧ ownM w' base v' (n + (dgs u).length) (xs ++ dgs u) ∧ Below base w w' := by
  have HC : Hid _ := appIntI base v n xs u w h hn hb hu ht
  clear h ht
  go_enter Tryd.func39, Tryd.ntmps39
  go_wp2_with fail
  refine Calls.mono HC.out ?_
  rintro e w1 ⟨v1, rfl, o, hB⟩
  go_wp2
  go_ret
  exact ⟨_, rfl, o, hB⟩
theorem implLineOf (s : ByteArray) (a : Option Addr) (m c : Nat) (ns : List Int) (w : World) (hs : s.size ≤ 1000) (hI : Is w a m c ns) (hm : m ≤ 100) (hns : nsOk ns) (ht : Pow w) :
    Calls Tryd.prog 29 #[.string s, .slice a m c] w fun e w' => ∃ v, e = .returned v ∧ ownM w' w.heap.size v (lnL (stB s) ns).length (lnL (stB s) ns) ∧ Below w.heap.size w w' := by
  have hsl := stB_len s
  have HI : Hid (Is w a m c ns) := hI
  have HNS : Hid (nsOk ns) := hns
  have HT : Hid (Lib.TabBelow Tryd.prog w.heap.size w "internal/strconv.uint64pow10" .u64 Lib.pow10Tab) := Lib.tabBelow_of_tabIs ht
  have HLn : Hid (ns.length = m) := hI.2.1
  obtain ⟨cap, hcap⟩ : ∃ q, q = grownCap w s.size 0 5 := ⟨_, rfl⟩
  have hcv := Lib.run_convert_string_bytes (P := Tryd.prog) w 9 22 5 s Tryd.underlying9 Tryd.underlying22 Tryd.underlying5
  have ho := conv_M w s (by omega)
  have hB := Lib.bytesWorld_below w 5 s
  rw [← hcap] at hcv ho
  obtain ⟨V, hV⟩ : ∃ V, V = Lib.bytesWorld w 5 s := ⟨_, rfl⟩
  rw [← hV] at hcv ho hB
  have HO0 : Hid (ownM V w.heap.size (.slice (some ⟨w.heap.size, 0, none⟩) s.size cap) (stB s).length (stB s)) := by unfold Hid; rw [hsl]; exact ho
  have HB0 : Hid (Below w.heap.size w V) := hB
  obtain ⟨Y, hY⟩ : ∃ Y, Y = stB s := ⟨_, rfl⟩
  have hYl : Y.length ≤ 1000 := by rw [hY]; omega
  have HE : Hid (∀ l, lnL (stB s) l = Y ++ nmL l ++ [10]) := fun l => by rw [hY]; simp [lnL]
  rw [← hY] at HO0
  clear hI hns ht ho hB hsl hcap hV hY
  go_enter Tryd.func29, Tryd.ntmps29
  go_wp2
  clear hcv
  go_loopw [5, 12] (fun v i wr => ∃ k : Nat, k ≤ m ∧ i = .int .i64 k ∧ Hid (ownM wr w.heap.size v (Y ++ nmL (ns.take k)).length (Y ++ nmL (ns.take k))) ∧ Hid (Below w.heap.size w wr)) (fun _ i _ => m - (intOf i).toNat)
  case atStart => exact ⟨0, by omega, rfl, by rw [show Y ++ nmL (ns.take 0) = Y by simp [nmL]]; exact HO0, HB0⟩
  case round =>
    clear HO0 HB0
    obtain ⟨k, hk, rfl, HO, HB⟩ := hrel
    by_cases hlt : k < m
    · obtain ⟨b, o, rfl, hbs, hcell⟩ : ∃ b o, a = some ⟨b, o, none⟩ ∧ b < w.heap.size ∧ ∀ i, i < m → w.cell? ⟨b, o + i, none⟩ = some (.int .i64 (ns.getD i 0)) := by
        rcases HI.out.2.2.2.2 with h | h
        · omega
        · exact h
      have hx0 := HNS.out (ns.getD k 0) (by
        have hl := HLn.out
        rw [List.getD_eq_getElem?_getD, List.getElem?_eq_getElem (by omega)]
        exact List.getElem_mem _)
      have hck := (HB.out.cell (p := ⟨b, _, none⟩) hbs).trans (hcell k hlt)
      have hsnoc : ns.take (k + 1) = ns.take k ++ [ns.getD k 0] := by
        have hl := HLn.out
        rw [List.take_succ_eq_append_getElem (by omega)]
        simp [show k < ns.length by omega]
      obtain ⟨x, hx⟩ : ∃ x, x = ns.getD k 0 := ⟨_, rfl⟩
      rw [← hx] at hx0 hck hsnoc
      obtain ⟨N, hN⟩ : ∃ N : Nat, x = (N : Int) := ⟨x.toNat, by omega⟩
      subst hN
      have hN1 : N ≤ 1000000 := by omega
      have HSn : Hid (nmL (ns.take (k + 1)) = nmL (ns.take k) ++ (32 :: dgs N)) := by unfold Hid; rw [hsnoc, nmL_snoc]; simp
      have hnl := nmL_len (ns.take k) (fun y hy => HNS.out y (List.mem_of_mem_take hy))
      have htk : (ns.take k).length ≤ k := by simp; omega
      obtain ⟨X, hX⟩ : ∃ X, X = Y ++ nmL (ns.take k) := ⟨_, rfl⟩
      have hXl : X.length ≤ 1800 := by rw [hX, List.length_append]; omega
      have HSX : Hid (Y ++ nmL (ns.take (k + 1)) = X ++ [32] ++ dgs N) := by unfold Hid; rw [HSn.out, hX]; simp
      rw [← hX] at HO
      have zr := HB.out.size
      have ba : Below wr.heap.size wr (wr.alloc (.cells #[.int .u8 32] 5)) := (Below.refl _ _).alloc (Nat.le_refl _) _
      have hoa := HO.out.below ba
      have hB1 := Bs.one wr 32 (by omega) (by omega)
      clear hx hcell hsnoc hX htk hnl HSn
      go_wp2_with (at_builtin; refine wplM_bs rfl _ _ rfl w.heap.size _ X.length X rfl hoa ⟨wr.heap.size, 0, none⟩ 1 1 [32] rfl hB1 (by omega) (by simp; omega) ?_)
      intro v2 y2 o2 g2
      have hb2 : Below w.heap.size w y2 := HB.out.trans ((ba.mono zr).trans (grown_below hoa (by simp; omega) g2))
      have o2' : ownM y2 w.heap.size v2 (X ++ [32]).length (X ++ [32]) := by rw [List.length_append]; exact o2
      have HB2 : Hid (Below w.heap.size w y2) := hb2
      have HO2 : Hid (ownM y2 w.heap.size v2 (X ++ [32]).length (X ++ [32])) := o2'
      have z2 := hb2.size
      have hl2 : (X ++ [32]).length ≤ 1801 := by rw [List.length_append]; simp; omega
      clear o2 o2' g2 hb2 hoa hB1 ba hck HO HB
      go_wp2_with fail
      refine (appInt w.heap.size v2 (X ++ [32]).length (X ++ [32]) N _ HO2.out (by omega) z2 hN1 (HT.out _ HB2.out)).mono ?_
      rintro e y3 ⟨v3, rfl, o3, hb3⟩
      have HO3 : Hid (ownM y3 w.heap.size v3 (Y ++ nmL (ns.take (k + 1))).length (Y ++ nmL (ns.take (k + 1)))) := by
        unfold Hid
        rw [HSX.out, List.length_append]
        exact o3
      have HB3 : Hid (Below w.heap.size w y3) := HB2.out.trans hb3
      clear o3 hb3 HO2 HB2
      go_wp2
      go_roundw
      case rel => exact ⟨k + 1, by omega, by go_num, HO3, HB3⟩
      case measure => simp [intOf]; omega
    · have hkn : k = m := by omega
      subst hkn
      have hXl : (Y ++ nmL (ns.take k)).length ≤ 1800 := by
        have := nmL_len (ns.take k) (fun y hy => HNS.out y (List.mem_of_mem_take hy))
        have htk : (ns.take k).length ≤ k := by simp; omega
        rw [List.length_append]; omega
      have htk : ns.take k = ns := List.take_of_length_le (by have := HLn.out; omega)
      rw [htk] at HO hXl
      obtain ⟨X, hX⟩ : ∃ X, X = Y ++ nmL ns := ⟨_, rfl⟩
      have HR : Hid (lnL (stB s) ns = X ++ [10]) := by unfold Hid; rw [HE.out, hX]
      rw [← hX] at HO hXl
      have zr := HB.out.size
      have ba : Below wr.heap.size wr (wr.alloc (.cells #[.int .u8 10] 5)) := (Below.refl _ _).alloc (Nat.le_refl _) _
      have hoa := HO.out.below ba
      have hB1 := Bs.one wr 10 (by omega) (by omega)
      clear htk hX
      go_wp2_with (at_builtin; refine wplM_bs rfl _ _ rfl w.heap.size _ X.length X rfl hoa ⟨wr.heap.size, 0, none⟩ 1 1 [10] rfl hB1 (by omega) (by simp; omega) ?_)
      intro v2 y2 o2 g2
      have hb2 : Below w.heap.size w y2 := HB.out.trans ((ba.mono zr).trans (grown_below hoa (by simp; omega) g2))
      have HO2 : Hid (ownM y2 w.heap.size v2 (X.length + 1) (X ++ [10])) := o2
      clear o2 g2 hoa hB1 ba
      go_wp2
      go_ret
      rw [HR.out, List.length_append]
      exact ⟨_, rfl, HO2.out, hb2⟩
end Go.Proofs.YtjceajgefpinpaaDoor
namespace Go.Proofs.YtjceajgefpinpaaDoor
open Go.RowKit
set_option maxRecDepth 100000
set_option maxHeartbeats 4000000
set_option linter.unusedVariables false

abbrev I6 (cs : List Int) : List Value := cs.map fun x => Value.int .i64 x
theorem isLit {W : World} {g m : Nat} {cs : List Int} (A : Arr W g 3 (I6 cs)) (hm : cs.length = m) (hb : nsOk cs) : Is W (some ⟨g, 0, none⟩) m m cs := by
  subst hm
  exact ⟨(fun h => by cases h), rfl, Nat.le_refl _, (fun x hx => by have := hb x hx; omega), .inr ⟨g, 0, rfl, A.lt, fun j hj => by
    have := A.cell j
    rw [List.getElem?_map, List.getElem?_eq_getElem hj] at this
    simpa [List.getD_eq_getElem?_getD, hj] using this⟩⟩
theorem isNil (W : World) : Is W none 0 0 [] := ⟨(fun _ => rfl), rfl, Nat.le_refl _, (by intro x hx; cases hx), .inl rfl⟩
theorem grow_below {w w' : World} (g : w.grownBy w' none) : Below w.heap.size w w' := ⟨g.os, g.tape, g.output, g.size, fun k hk => g.block k hk (by simp)⟩
theorem litBelow (w : World) (o : Obj) : Below w.heap.size w (w.alloc o) := (Below.refl _ _).alloc (Nat.le_refl _) _
theorem pow_below {w w' : World} (h : Pow w) (b : Below w.heap.size w w') : Pow w' := Lib.tabBelow_of_tabIs h _ b
theorem implLit (s : ByteArray) (cs : List Int) (m : Nat) (w : World) (ht : Pow w) (hs : s.size ≤ 1000) (hm : cs.length = m) (h100 : m ≤ 100) (hc : nsOk cs) :
    Calls Tryd.prog 29 #[.string s, .slice (some ⟨w.heap.size, 0, none⟩) m m] (w.alloc (.cells (I6 cs).toArray 3)) fun e w' => ∃ v, e = .returned v ∧ ownM w' w.heap.size v (lnL (stB s) cs).length (lnL (stB s) cs) ∧ Below w.heap.size w w' := by
  have b := litBelow w (.cells (I6 cs).toArray 3)
  refine Calls.mono (implLineOf s _ m m cs _ hs (isLit (Arr.new w (I6 cs) 3) hm hc) h100 hc (pow_below ht b)) ?_
  rintro e w' ⟨v, rfl, o, hb⟩
  exact ⟨v, rfl, o.lower b.size, b.trans (hb.mono b.size)⟩
theorem implNil (s : ByteArray) (w : World) (ht : Pow w) (hs : s.size ≤ 1000) :
    Calls Tryd.prog 29 #[.string s, .slice none 0 0] w fun e w' => ∃ v, e = .returned v ∧ ownM w' w.heap.size v (lnL (stB s) []).length (lnL (stB s) []) ∧ Below w.heap.size w w' :=
  implLineOf s none 0 0 [] w hs (isNil w) (by omega) (by intro x hx; cases hx) ht
end Go.Proofs.YtjceajgefpinpaaDoor
