/-
  What is proved here: contracts of the specification's l3turn, l3round and l3first; the contract of the program's narrowRules: the table of turns, and a new copy of the table of round words; where the program's variables hold what its text lays into them; the contract of the program's wideRules: the table of turns, and a new copy of the table of round words; where the program's variables hold what its text lays into them.
-/
import Derived.Test.YtgapfkiceolceaaDoorQ6
import Derived.Test.YtgapfkiceolceaaDoorProg
import Derived.Deep.QuietTactic
import Derived.BigQuiet
import Derived.Deep.Light
import Derived.Deep.RegionWith
import Derived.Test.YtgapfkiceolceaaDoorQ2
namespace Go.Proofs.YtgapfkiceolceaaDoor
open Go.RowKit

set_option maxHeartbeats 400000 in
theorem specTurnW (x : Int) (n : Nat) (hn : 0 < n) (hn2 : n < 64) (m : Int) (hm : m = (n : Int)) (w : World) :
    Calls Tryd.prog 103 #[.int .u64 x, .int .i64 m] w fun e w' => e = .returned (.int .u64 (rotw x n)) ∧ ∃ q, w' = w.drewN q := by
  subst hm
  go_enter Tryd.func103, Tryd.ntmps103
  go_wp2
  go_quiet (fail)
  go_wp2
  go_ret
  exact ⟨rfl, _, rfl⟩
abbrev Z80 : List Int := [0, 0, 0, 0, 0, 0, 0, 0, 0, 0, 0, 0, 0, 0, 0, 0, 0, 0, 0, 0, 0, 0, 0, 0, 0, 0, 0, 0, 0, 0, 0, 0, 0, 0, 0, 0, 0, 0, 0, 0, 0, 0, 0, 0, 0, 0, 0, 0, 0, 0, 0, 0, 0, 0, 0, 0, 0, 0, 0, 0, 0, 0, 0, 0, 0, 0, 0, 0, 0, 0, 0, 0, 0, 0, 0, 0, 0, 0, 0, 0]

theorem zeroRun {P : Program} {t : TypeId} {z : Value} (h : (P.info? t).map (·.zero) = some (some z)) (w : World) : (zeroValue t).run P w = .ok z w := by
  cases hi : P.info? t with
  | none => rw [hi] at h; cases h
  | some i =>
    rw [hi] at h
    simp only [Option.map_some, Option.some.injEq] at h
    simp [zeroValue, typeInfo, hi, h]
theorem zero80 (w : World) : (zeroValue 44).run Tryd.prog w = .ok (.agg #[.int .u64 0, .int .u64 0, .int .u64 0, .int .u64 0, .int .u64 0, .int .u64 0, .int .u64 0, .int .u64 0, .int .u64 0, .int .u64 0, .int .u64 0, .int .u64 0, .int .u64 0, .int .u64 0, .int .u64 0, .int .u64 0, .int .u64 0, .int .u64 0, .int .u64 0, .int .u64 0, .int .u64 0, .int .u64 0, .int .u64 0, .int .u64 0, .int .u64 0, .int .u64 0, .int .u64 0, .int .u64 0, .int .u64 0, .int .u64 0, .int .u64 0, .int .u64 0, .int .u64 0, .int .u64 0, .int .u64 0, .int .u64 0, .int .u64 0, .int .u64 0, .int .u64 0, .int .u64 0, .int .u64 0, .int .u64 0, .int .u64 0, .int .u64 0, .int .u64 0, .int .u64 0, .int .u64 0, .int .u64 0, .int .u64 0, .int .u64 0, .int .u64 0, .int .u64 0, .int .u64 0, .int .u64 0, .int .u64 0, .int .u64 0, .int .u64 0, .int .u64 0, .int .u64 0, .int .u64 0, .int .u64 0, .int .u64 0, .int .u64 0, .int .u64 0, .int .u64 0, .int .u64 0, .int .u64 0, .int .u64 0, .int .u64 0, .int .u64 0, .int .u64 0, .int .u64 0, .int .u64 0, .int .u64 0, .int .u64 0, .int .u64 0, .int .u64 0, .int .u64 0, .int .u64 0, .int .u64 0]) w := zeroRun (by kernel_rfl) w

theorem wpList_buildTo {P : Program} {ops : Array Oper} {rest : List Oper} {o : Oper} {a : Act} {w : World} {Q : Exit → Act → World → Prop} (hg : o.guard = none) (t : TypeId) (parts : Array (Nat × Operand)) (ho : o.op = .build t parts) (cells : Array Value)
    (hc : P.built t (parts.map fun (i, x) => (i, a.eval x)).toList = some cells) (h : wpList P ops Q rest (a.put o.dst (.agg cells)) w) : wpList P ops Q (o :: rest) a w :=
  wpList_build hg t parts ho (by rw [hc]; rfl) (by rw [hc]; exact h)

set_option maxHeartbeats 1000000 in
theorem specRoundW (k : Nat) (hk : k < 80) (w : World) :
    Calls Tryd.prog 85 #[.int .i64 (k : Int)] w fun e w' => e = .returned (.int .u64 (KW.getD k 0)) ∧ Below w.heap.size w w' := by
  have hA := Arr.new w (U64 Z80) 44
  have hB : Below w.heap.size w (w.alloc (.cells (U64 Z80).toArray 44)) := (Below.refl _ _).alloc (Nat.le_refl _) _
  have hA2 := hA.row (U64 KW)
  have hB2 := setRow_below hB w.heap.size (U64 KW).toArray (Nat.le_refl _)
  have hck := hA2.u64 k (by rw [KW_len]; exact hk)
  obtain ⟨y, hy⟩ : ∃ y, y = KW.getD k 0 := ⟨_, rfl⟩
  rw [← hy] at hck
  have hck2 : ((w.alloc (.cells #[.int .u64 0, .int .u64 0, .int .u64 0, .int .u64 0, .int .u64 0, .int .u64 0, .int .u64 0, .int .u64 0, .int .u64 0, .int .u64 0, .int .u64 0, .int .u64 0, .int .u64 0, .int .u64 0, .int .u64 0, .int .u64 0, .int .u64 0, .int .u64 0, .int .u64 0, .int .u64 0, .int .u64 0, .int .u64 0, .int .u64 0, .int .u64 0, .int .u64 0, .int .u64 0, .int .u64 0, .int .u64 0, .int .u64 0, .int .u64 0, .int .u64 0, .int .u64 0, .int .u64 0, .int .u64 0, .int .u64 0, .int .u64 0, .int .u64 0, .int .u64 0, .int .u64 0, .int .u64 0, .int .u64 0, .int .u64 0, .int .u64 0, .int .u64 0, .int .u64 0, .int .u64 0, .int .u64 0, .int .u64 0, .int .u64 0, .int .u64 0, .int .u64 0, .int .u64 0, .int .u64 0, .int .u64 0, .int .u64 0, .int .u64 0, .int .u64 0, .int .u64 0, .int .u64 0, .int .u64 0, .int .u64 0, .int .u64 0, .int .u64 0, .int .u64 0, .int .u64 0, .int .u64 0, .int .u64 0, .int .u64 0, .int .u64 0, .int .u64 0, .int .u64 0, .int .u64 0, .int .u64 0, .int .u64 0, .int .u64 0, .int .u64 0, .int .u64 0, .int .u64 0, .int .u64 0, .int .u64 0] 44)).setRow w.heap.size (U64 KW).toArray).cell? ⟨w.heap.size, k, none⟩ = some (.int .u64 y) := hck
  have HY : Hid _ := hy
  have HB : Hid _ := hB2
  clear hy hA2 hB2 hB hck
  have hk80 : (k : Int) < 80 := by omega
  have hz80 := zero80
  go_enter Tryd.func85, Tryd.ntmps85
  go_wp2_with (first
    | (refine wpList_buildTo rfl 44 _ rfl (U64 KW).toArray (by kernel_rfl) ?_)
    | (refine wpList_store_row rfl 44 _ _ rfl w.heap.size (U64 KW).toArray rfl rfl 44 (U64 Z80).toArray hA (by kernel_rfl) (by kernel_rfl) (by kernel_rfl) ?_))
  go_ret
  refine ⟨?_, HB.out⟩
  show Ending.returned (.int .u64 y) = _
  rw [HY.out]
  rfl

set_option maxHeartbeats 1000000 in
theorem specFirstW (w : World) :
    Calls Tryd.prog 99 #[] w fun e w' => e = .returned (.agg (U64 H0W).toArray) ∧ Below w.heap.size w w' := by
  go_enter Tryd.func99, Tryd.ntmps99
  go_wp2
  exact bodyPost_ret (results_cell_row rfl _ _ w.heap.size 94 _ (0, 0) _ rfl (heap_alloc_new w _) Tryd.underlying94 rfl (by kernel_rfl)) rfl ⟨rfl, (Below.refl _ _).alloc (Nat.le_refl _) _⟩

end Go.Proofs.YtgapfkiceolceaaDoor
namespace Go.Proofs.YtgapfkiceolceaaDoor
open Go.RowKit
set_option maxRecDepth 100000

/-- The program's two tables for words of 32 bits hold what its text lays into them. -/
structure Tabn (w : World) : Prop where
  tt : Vr w 4 (I64 [2, 13, 22, 6, 11, 25, 7, 18, 3, 17, 19, 10])
  tk : Vr w 3 (U32 KS)
theorem Tabn.kept {w w' : World} (h : Tabn w) (hb : Below w.heap.size w w') : Tabn w' := ⟨h.tt.kept hb, h.tk.kept hb⟩

/-- The rules that the program hands on: the turns, and the round words in block rb. -/
abbrev rulesVn (rb : Nat) : Value := .agg #[.int .i64 2, .int .i64 13, .int .i64 22, .int .i64 6, .int .i64 11, .int .i64 25, .int .i64 7, .int .i64 18, .int .i64 3, .int .i64 17, .int .i64 19, .int .i64 10, .slice (some ⟨rb, 0, none⟩) 64 64]

theorem infoKn : (Tryd.prog.info? 111).map (·.size) = some 64 := by kernel_rfl
def zkn : Array Value := (U32 (List.replicate 64 0)).toArray
theorem zeroKn (w : World) : (zeroValue 111).run Tryd.prog w = .ok (.agg zkn) w := zeroRun (by kernel_rfl) w

set_option maxHeartbeats 2000000 in
theorem rulesCn (w : World) (ht : Tabn w) :
    Calls Tryd.prog 57 #[] w fun e w' => ∃ rb, e = .returned (rulesVn rb) ∧ Arr w' rb 111 (U32 KS) ∧ w.heap.size ≤ rb ∧ Below w.heap.size w w' := by
  obtain ⟨t0, z0, hk⟩ := ht.tk
  obtain ⟨W, hW⟩ : ∃ W, W = (w.alloc (.cells #[.int .i64 0, .int .i64 0, .int .i64 0, .int .i64 0, .int .i64 0, .int .i64 0, .int .i64 0, .int .i64 0, .int .i64 0, .int .i64 0, .int .i64 0, .int .i64 0, .slice none 0 0] 74)).alloc (.cells zkn 111) := ⟨_, rfl⟩
  have hA : Arr W (w.heap.size + 1) 111 (U32 (List.replicate 64 0)) := by
    rw [hW]; have := Arr.new (w.alloc (.cells #[.int .i64 0, .int .i64 0, .int .i64 0, .int .i64 0, .int .i64 0, .int .i64 0, .int .i64 0, .int .i64 0, .int .i64 0, .int .i64 0, .int .i64 0, .int .i64 0, .slice none 0 0] 74)) (U32 (List.replicate 64 0)) 111
    rw [World.size_alloc] at this
    exact this
  have hS : Arr W w.heap.size 74 [.int .i64 0, .int .i64 0, .int .i64 0, .int .i64 0, .int .i64 0, .int .i64 0, .int .i64 0, .int .i64 0, .int .i64 0, .int .i64 0, .int .i64 0, .int .i64 0, .slice none 0 0] := by
    rw [hW]; exact (Arr.new w [.int .i64 0, .int .i64 0, .int .i64 0, .int .i64 0, .int .i64 0, .int .i64 0, .int .i64 0, .int .i64 0, .int .i64 0, .int .i64 0, .int .i64 0, .int .i64 0, .slice none 0 0] _).alloc _
  have hB : Below w.heap.size w W := by rw [hW]; exact ((Below.refl _ _).alloc (Nat.le_refl _) _).alloc (by simp) _
  obtain ⟨W2, hW2⟩ : ∃ W2, W2 = W.setRow (w.heap.size + 1) (U32 KS).toArray := ⟨_, rfl⟩
  have hB2 : Below w.heap.size w W2 := by rw [hW2]; exact setRow_below hB _ _ (by omega)
  have hA2 : Arr W2 (w.heap.size + 1) 111 (U32 KS) := by rw [hW2]; exact hA.row _
  have hS2 : Arr W2 w.heap.size 74 [.int .i64 0, .int .i64 0, .int .i64 0, .int .i64 0, .int .i64 0, .int .i64 0, .int .i64 0, .int .i64 0, .int .i64 0, .int .i64 0, .int .i64 0, .int .i64 0, .slice none 0 0] := by rw [hW2]; exact hS.rowOther _ _ (by omega)
  have hT2 := ht.tt.kept hB2
  have hzk := zeroKn
  have hk1 : (w.alloc (.cells #[.int .i64 0, .int .i64 0, .int .i64 0, .int .i64 0, .int .i64 0, .int .i64 0, .int .i64 0, .int .i64 0, .int .i64 0, .int .i64 0, .int .i64 0, .int .i64 0, .slice none 0 0] 74)).heap[(3 : Nat)]? = some (.cells (U32 KS).toArray t0 z0) := (heap_alloc_old w _ ht.tk.lt).trans hk
  go_enter Tryd.func57, Tryd.ntmps57
  go_wp2_with (first
    | (refine wpList_load_row rfl 111 _ rfl 3 rfl t0 (U32 KS).toArray z0 _ hk1 Tryd.underlying111 rfl (by kernel_rfl) ?_)
    | (refine wpList_store_row rfl 111 _ _ rfl (w.heap.size + 1) (U32 KS).toArray rfl rfl 111 _ (by first | exact hA | exact hW ▸ hA) (by kernel_rfl) (by kernel_rfl) (by kernel_rfl) ?_))
  rw [← hW, ← hW2]
  clear hW hW2 hk1 hk hA hS hB
  have u0 := hT2.int 0 (by simp)
  have u1 := hT2.int 1 (by simp)
  have u2 := hT2.int 2 (by simp)
  have u3 := hT2.int 3 (by simp)
  have u4 := hT2.int 4 (by simp)
  have u5 := hT2.int 5 (by simp)
  have u6 := hT2.int 6 (by simp)
  have u7 := hT2.int 7 (by simp)
  have u8 := hT2.int 8 (by simp)
  have u9 := hT2.int 9 (by simp)
  have u10 := hT2.int 10 (by simp)
  have u11 := hT2.int 11 (by simp)
  have c0 := hS2.cell 0
  have c1 := hS2.cell 1
  have c2 := hS2.cell 2
  have c3 := hS2.cell 3
  have c4 := hS2.cell 4
  have c5 := hS2.cell 5
  have c6 := hS2.cell 6
  have c7 := hS2.cell 7
  have c8 := hS2.cell 8
  have c9 := hS2.cell 9
  have c10 := hS2.cell 10
  have c11 := hS2.cell 11
  have c12 := hS2.cell 12
  simp at u0 u1 u2 u3 u4 u5 u6 u7 u8 u9 u10 u11 c0 c1 c2 c3 c4 c5 c6 c7 c8 c9 c10 c11 c12
  have hf := hS2.frozen
  clear hzk
  have hS3 := Arr.setAll [.int .i64 2, .int .i64 13, .int .i64 22, .int .i64 6, .int .i64 11, .int .i64 25, .int .i64 7, .int .i64 18, .int .i64 3, .int .i64 17, .int .i64 19, .int .i64 10, .slice (some ⟨w.heap.size + 1, 0, none⟩) 64 64] 0 hS2
  have hA3 := Arr.setAllOther (g := w.heap.size) (by omega) [.int .i64 2, .int .i64 13, .int .i64 22, .int .i64 6, .int .i64 11, .int .i64 25, .int .i64 7, .int .i64 18, .int .i64 3, .int .i64 17, .int .i64 19, .int .i64 10, .slice (some ⟨w.heap.size + 1, 0, none⟩) 64 64] 0 hA2
  have hB3 := setAll_below (B := w.heap.size) (g := w.heap.size) (Nat.le_refl _) [.int .i64 2, .int .i64 13, .int .i64 22, .int .i64 6, .int .i64 11, .int .i64 25, .int .i64 7, .int .i64 18, .int .i64 3, .int .i64 17, .int .i64 19, .int .i64 10, .slice (some ⟨w.heap.size + 1, 0, none⟩) 64 64] 0 hB2
  rw [show setL [.int .i64 0, .int .i64 0, .int .i64 0, .int .i64 0, .int .i64 0, .int .i64 0, .int .i64 0, .int .i64 0, .int .i64 0, .int .i64 0, .int .i64 0, .int .i64 0, .slice none 0 0] 0 [.int .i64 2, .int .i64 13, .int .i64 22, .int .i64 6, .int .i64 11, .int .i64 25, .int .i64 7, .int .i64 18, .int .i64 3, .int .i64 17, .int .i64 19, .int .i64 10, .slice (some ⟨w.heap.size + 1, 0, none⟩) 64 64] = [.int .i64 2, .int .i64 13, .int .i64 22, .int .i64 6, .int .i64 11, .int .i64 25, .int .i64 7, .int .i64 18, .int .i64 3, .int .i64 17, .int .i64 19, .int .i64 10, .slice (some ⟨w.heap.size + 1, 0, none⟩) 64 64] from rfl] at hS3
  obtain ⟨W3, hW3⟩ : ∃ W3, W3 = setAll W2 w.heap.size 0 [.int .i64 2, .int .i64 13, .int .i64 22, .int .i64 6, .int .i64 11, .int .i64 25, .int .i64 7, .int .i64 18, .int .i64 3, .int .i64 17, .int .i64 19, .int .i64 10, .slice (some ⟨w.heap.size + 1, 0, none⟩) 64 64] := ⟨_, rfl⟩
  rw [← hW3] at hS3 hA3 hB3
  simp only [setAll, Nat.zero_add, Nat.reduceAdd] at hW3
  have HS3 : Hid _ := hS3.drew
  have HA3 : Hid _ := hA3.drew
  have HB3 : Hid _ := hB3.drew
  have HW3 : Hid _ := hW3
  clear hW3 hS3 hA3 hB3 hS2 hA2 hB2 hT2 ht
  go_region
  go_wp2
  rw [← HW3.out]
  clear HW3
  have hq := fun tmps h => results_cell_row (P := Tryd.prog) (fn := Tryd.f57) (p := 0) (ty := 74) rfl tmps _ w.heap.size 74 _ (0, 0) _ h HS3.out Tryd.underlying74 rfl (by kernel_rfl)
  exact bodyPost_ret (hq _ rfl) rfl ⟨w.heap.size + 1, rfl, HA3.out, by omega, HB3.out⟩
end Go.Proofs.YtgapfkiceolceaaDoor
namespace Go.Proofs.YtgapfkiceolceaaDoor
open Go.RowKit
set_option maxRecDepth 100000

/-- The program's two tables for words of 64 bits hold what its text lays into them. -/
structure Tabw (w : World) : Prop where
  tt : Vr w 5 (I64 [28, 34, 39, 14, 18, 41, 1, 8, 7, 19, 61, 6])
  tk : Vr w 2 (U64 KW)
theorem Tabw.kept {w w' : World} (h : Tabw w) (hb : Below w.heap.size w w') : Tabw w' := ⟨h.tt.kept hb, h.tk.kept hb⟩

/-- The rules that the program hands on: the turns, and the round words in block rb. -/
abbrev rulesVw (rb : Nat) : Value := .agg #[.int .i64 28, .int .i64 34, .int .i64 39, .int .i64 14, .int .i64 18, .int .i64 41, .int .i64 1, .int .i64 8, .int .i64 7, .int .i64 19, .int .i64 61, .int .i64 6, .slice (some ⟨rb, 0, none⟩) 80 80]

theorem infoKw : (Tryd.prog.info? 44).map (·.size) = some 80 := by kernel_rfl
def zkw : Array Value := (U64 (List.replicate 80 0)).toArray
theorem zeroKw (w : World) : (zeroValue 44).run Tryd.prog w = .ok (.agg zkw) w := zeroRun (by kernel_rfl) w

set_option maxHeartbeats 2000000 in
theorem rulesCw (w : World) (ht : Tabw w) :
    Calls Tryd.prog 69 #[] w fun e w' => ∃ rb, e = .returned (rulesVw rb) ∧ Arr w' rb 44 (U64 KW) ∧ w.heap.size ≤ rb ∧ Below w.heap.size w w' := by
  obtain ⟨t0, z0, hk⟩ := ht.tk
  obtain ⟨W, hW⟩ : ∃ W, W = (w.alloc (.cells #[.int .i64 0, .int .i64 0, .int .i64 0, .int .i64 0, .int .i64 0, .int .i64 0, .int .i64 0, .int .i64 0, .int .i64 0, .int .i64 0, .int .i64 0, .int .i64 0, .slice none 0 0] 89)).alloc (.cells zkw 44) := ⟨_, rfl⟩
  have hA : Arr W (w.heap.size + 1) 44 (U64 (List.replicate 80 0)) := by
    rw [hW]; have := Arr.new (w.alloc (.cells #[.int .i64 0, .int .i64 0, .int .i64 0, .int .i64 0, .int .i64 0, .int .i64 0, .int .i64 0, .int .i64 0, .int .i64 0, .int .i64 0, .int .i64 0, .int .i64 0, .slice none 0 0] 89)) (U64 (List.replicate 80 0)) 44
    rw [World.size_alloc] at this
    exact this
  have hS : Arr W w.heap.size 89 [.int .i64 0, .int .i64 0, .int .i64 0, .int .i64 0, .int .i64 0, .int .i64 0, .int .i64 0, .int .i64 0, .int .i64 0, .int .i64 0, .int .i64 0, .int .i64 0, .slice none 0 0] := by
    rw [hW]; exact (Arr.new w [.int .i64 0, .int .i64 0, .int .i64 0, .int .i64 0, .int .i64 0, .int .i64 0, .int .i64 0, .int .i64 0, .int .i64 0, .int .i64 0, .int .i64 0, .int .i64 0, .slice none 0 0] _).alloc _
  have hB : Below w.heap.size w W := by rw [hW]; exact ((Below.refl _ _).alloc (Nat.le_refl _) _).alloc (by simp) _
  obtain ⟨W2, hW2⟩ : ∃ W2, W2 = W.setRow (w.heap.size + 1) (U64 KW).toArray := ⟨_, rfl⟩
  have hB2 : Below w.heap.size w W2 := by rw [hW2]; exact setRow_below hB _ _ (by omega)
  have hA2 : Arr W2 (w.heap.size + 1) 44 (U64 KW) := by rw [hW2]; exact hA.row _
  have hS2 : Arr W2 w.heap.size 89 [.int .i64 0, .int .i64 0, .int .i64 0, .int .i64 0, .int .i64 0, .int .i64 0, .int .i64 0, .int .i64 0, .int .i64 0, .int .i64 0, .int .i64 0, .int .i64 0, .slice none 0 0] := by rw [hW2]; exact hS.rowOther _ _ (by omega)
  have hT2 := ht.tt.kept hB2
  have hzk := zeroKw
  have hk1 : (w.alloc (.cells #[.int .i64 0, .int .i64 0, .int .i64 0, .int .i64 0, .int .i64 0, .int .i64 0, .int .i64 0, .int .i64 0, .int .i64 0, .int .i64 0, .int .i64 0, .int .i64 0, .slice none 0 0] 89)).heap[(2 : Nat)]? = some (.cells (U64 KW).toArray t0 z0) := (heap_alloc_old w _ ht.tk.lt).trans hk
  go_enter Tryd.func69, Tryd.ntmps69
  go_wp2_with (first
    | (refine wpList_load_row rfl 44 _ rfl 2 rfl t0 (U64 KW).toArray z0 _ hk1 Tryd.underlying44 rfl (by kernel_rfl) ?_)
    | (refine wpList_store_row rfl 44 _ _ rfl (w.heap.size + 1) (U64 KW).toArray rfl rfl 44 _ (by first | exact hA | exact hW ▸ hA) (by kernel_rfl) (by kernel_rfl) (by kernel_rfl) ?_))
  rw [← hW, ← hW2]
  clear hW hW2 hk1 hk hA hS hB
  have u0 := hT2.int 0 (by simp)
  have u1 := hT2.int 1 (by simp)
  have u2 := hT2.int 2 (by simp)
  have u3 := hT2.int 3 (by simp)
  have u4 := hT2.int 4 (by simp)
  have u5 := hT2.int 5 (by simp)
  have u6 := hT2.int 6 (by simp)
  have u7 := hT2.int 7 (by simp)
  have u8 := hT2.int 8 (by simp)
  have u9 := hT2.int 9 (by simp)
  have u10 := hT2.int 10 (by simp)
  have u11 := hT2.int 11 (by simp)
  have c0 := hS2.cell 0
  have c1 := hS2.cell 1
  have c2 := hS2.cell 2
  have c3 := hS2.cell 3
  have c4 := hS2.cell 4
  have c5 := hS2.cell 5
  have c6 := hS2.cell 6
  have c7 := hS2.cell 7
  have c8 := hS2.cell 8
  have c9 := hS2.cell 9
  have c10 := hS2.cell 10
  have c11 := hS2.cell 11
  have c12 := hS2.cell 12
  simp at u0 u1 u2 u3 u4 u5 u6 u7 u8 u9 u10 u11 c0 c1 c2 c3 c4 c5 c6 c7 c8 c9 c10 c11 c12
  have hf := hS2.frozen
  clear hzk
  have hS3 := Arr.setAll [.int .i64 28, .int .i64 34, .int .i64 39, .int .i64 14, .int .i64 18, .int .i64 41, .int .i64 1, .int .i64 8, .int .i64 7, .int .i64 19, .int .i64 61, .int .i64 6, .slice (some ⟨w.heap.size + 1, 0, none⟩) 80 80] 0 hS2
  have hA3 := Arr.setAllOther (g := w.heap.size) (by omega) [.int .i64 28, .int .i64 34, .int .i64 39, .int .i64 14, .int .i64 18, .int .i64 41, .int .i64 1, .int .i64 8, .int .i64 7, .int .i64 19, .int .i64 61, .int .i64 6, .slice (some ⟨w.heap.size + 1, 0, none⟩) 80 80] 0 hA2
  have hB3 := setAll_below (B := w.heap.size) (g := w.heap.size) (Nat.le_refl _) [.int .i64 28, .int .i64 34, .int .i64 39, .int .i64 14, .int .i64 18, .int .i64 41, .int .i64 1, .int .i64 8, .int .i64 7, .int .i64 19, .int .i64 61, .int .i64 6, .slice (some ⟨w.heap.size + 1, 0, none⟩) 80 80] 0 hB2
  rw [show setL [.int .i64 0, .int .i64 0, .int .i64 0, .int .i64 0, .int .i64 0, .int .i64 0, .int .i64 0, .int .i64 0, .int .i64 0, .int .i64 0, .int .i64 0, .int .i64 0, .slice none 0 0] 0 [.int .i64 28, .int .i64 34, .int .i64 39, .int .i64 14, .int .i64 18, .int .i64 41, .int .i64 1, .int .i64 8, .int .i64 7, .int .i64 19, .int .i64 61, .int .i64 6, .slice (some ⟨w.heap.size + 1, 0, none⟩) 80 80] = [.int .i64 28, .int .i64 34, .int .i64 39, .int .i64 14, .int .i64 18, .int .i64 41, .int .i64 1, .int .i64 8, .int .i64 7, .int .i64 19, .int .i64 61, .int .i64 6, .slice (some ⟨w.heap.size + 1, 0, none⟩) 80 80] from rfl] at hS3
  obtain ⟨W3, hW3⟩ : ∃ W3, W3 = setAll W2 w.heap.size 0 [.int .i64 28, .int .i64 34, .int .i64 39, .int .i64 14, .int .i64 18, .int .i64 41, .int .i64 1, .int .i64 8, .int .i64 7, .int .i64 19, .int .i64 61, .int .i64 6, .slice (some ⟨w.heap.size + 1, 0, none⟩) 80 80] := ⟨_, rfl⟩
  rw [← hW3] at hS3 hA3 hB3
  simp only [setAll, Nat.zero_add, Nat.reduceAdd] at hW3
  have HS3 : Hid _ := hS3.drew
  have HA3 : Hid _ := hA3.drew
  have HB3 : Hid _ := hB3.drew
  have HW3 : Hid _ := hW3
  clear hW3 hS3 hA3 hB3 hS2 hA2 hB2 hT2 ht
  go_region
  go_wp2
  rw [← HW3.out]
  clear HW3
  have hq := fun tmps h => results_cell_row (P := Tryd.prog) (fn := Tryd.f69) (p := 0) (ty := 89) rfl tmps _ w.heap.size 89 _ (0, 0) _ h HS3.out Tryd.underlying89 rfl (by kernel_rfl)
  exact bodyPost_ret (hq _ rfl) rfl ⟨w.heap.size + 1, rfl, HA3.out, by omega, HB3.out⟩
end Go.Proofs.YtgapfkiceolceaaDoor
