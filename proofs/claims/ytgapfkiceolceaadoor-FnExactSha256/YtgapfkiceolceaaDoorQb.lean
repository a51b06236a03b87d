/-
  What is proved here: contracts of the program's generic functions that turn a word of 32 bits (bits.Len64 at the greatest word, shaWordBytes, turnRight, shaTurn, shaShift), at every word and at the amounts that the tables of turns hold; contracts of the program's generic functions that turn a word of 64 bits (bits.Len64 at the greatest word, shaWordBytes, turnRight, shaTurn, shaShift), at every word and at the amounts that the tables of turns hold; contracts of the program's generic functions shaTurn, shaShift and shaNextWord at words of 32 bits: the turns and shifts of the standard, and the word that follows from sixteen; the table of turns comes as an argument; contracts of the program's generic functions shaTurn, shaShift and shaNextWord at words of 64 bits: the turns and shifts of the standard, and the word that follows from sixteen; the table of turns comes as an argument.
-/
import Derived.Test.YtgapfkiceolceaaDoorQ6
import Derived.Deep.QuietTactic
import Derived.BigQuiet
import Derived.Deep.Light
import Derived.Deep.RegionWith
import Derived.Test.YtgapfkiceolceaaDoorProg
import Derived.Deep.RegionHeld3
import Derived.BigRegion
namespace Go.Proofs.YtgapfkiceolceaaDoor
open Go.RowKit

set_option maxRecDepth 100000 in
set_option maxHeartbeats 1000000 in
theorem len64Cn (w : World) :
    Calls Tryd.prog 104 #[.int .u64 4294967295] w fun e w' => e = .returned (.int .i64 32) ∧ w' = w := by
  go_enter Tryd.func104, Tryd.ntmps104
  go_wp2
  go_ret
  exact ⟨by kernel_rfl, rfl⟩

set_option maxHeartbeats 400000 in
theorem wordBytesn (w : World) :
    Calls Tryd.prog 87 #[] w fun e w' => e = .returned (.int .i64 4) ∧ w' = w := by
  go_enter Tryd.func87, Tryd.ntmps87
  go_wp2_with fail
  refine (len64Cn _).mono ?_
  rintro e w' ⟨rfl, rfl⟩
  go_wp2
  go_ret
  exact ⟨rfl, rfl⟩

set_option maxHeartbeats 1000000 in
theorem turnRn (x : Int) (n : Nat) (hn : 0 < n) (hn2 : n < 32) (m : Int) (hm : m = (n : Int)) (w : World) :
    Calls Tryd.prog 112 #[.int .u32 x, .int .i64 m] w fun e w' => e = .returned (.int .u32 (rot x n)) ∧ ∃ q, w' = w.drewN q := by
  subst hm
  have e1 : IntKind.i64.wrap (32 - (n : Int)) = ((32 - n : Nat) : Int) := by rw [IntKind.wrap_i64]; omega
  have hq : ¬ ((32 - n : Nat) : Int) < 0 := by omega
  go_enter Tryd.func112, Tryd.ntmps112
  go_wp2
  go_quiet ((go_at_call 87; refine Calls.quiet_of_same (wordBytesn _)))
  go_wp2
  go_ret
  exact ⟨rfl, _, rfl⟩
end Go.Proofs.YtgapfkiceolceaaDoor
namespace Go.Proofs.YtgapfkiceolceaaDoor
open Go.RowKit

set_option maxRecDepth 100000 in
set_option maxHeartbeats 1000000 in
theorem len64Cw (w : World) :
    Calls Tryd.prog 104 #[.int .u64 18446744073709551615] w fun e w' => e = .returned (.int .i64 64) ∧ w' = w := by
  go_enter Tryd.func104, Tryd.ntmps104
  go_wp2
  go_ret
  exact ⟨by kernel_rfl, rfl⟩

set_option maxHeartbeats 400000 in
theorem wordBytesw (w : World) :
    Calls Tryd.prog 98 #[] w fun e w' => e = .returned (.int .i64 8) ∧ w' = w := by
  go_enter Tryd.func98, Tryd.ntmps98
  go_wp2_with fail
  refine (len64Cw _).mono ?_
  rintro e w' ⟨rfl, rfl⟩
  go_wp2
  go_ret
  exact ⟨rfl, rfl⟩

set_option maxHeartbeats 1000000 in
theorem turnRw (x : Int) (n : Nat) (hn : 0 < n) (hn2 : n < 64) (m : Int) (hm : m = (n : Int)) (w : World) :
    Calls Tryd.prog 113 #[.int .u64 x, .int .i64 m] w fun e w' => e = .returned (.int .u64 (rotw x n)) ∧ ∃ q, w' = w.drewN q := by
  subst hm
  have e1 : IntKind.i64.wrap (64 - (n : Int)) = ((64 - n : Nat) : Int) := by rw [IntKind.wrap_i64]; omega
  have hq : ¬ ((64 - n : Nat) : Int) < 0 := by omega
  go_enter Tryd.func113, Tryd.ntmps113
  go_wp2
  go_quiet ((go_at_call 98; refine Calls.quiet_of_same (wordBytesw _)))
  go_wp2
  go_ret
  exact ⟨rfl, _, rfl⟩
end Go.Proofs.YtgapfkiceolceaaDoor
namespace Go.Proofs.YtgapfkiceolceaaDoor
open Go.RowKit
set_option maxRecDepth 100000

set_option maxHeartbeats 1000000 in
theorem turnCn (x : Int) (a b c : Nat) (ha : 0 < a) (ha2 : a < 32) (hb : 0 < b) (hb2 : b < 32) (hc : 0 < c) (hc2 : c < 32) (w : World) :
    Calls Tryd.prog 108 #[.int .u32 x, .agg #[.int .i64 a, .int .i64 b, .int .i64 c]] w fun e w' => e = .returned (.int .u32 (xr (xr (rot x a) (rot x b)) (rot x c))) ∧ Below w.heap.size w w' := by
  go_enter Tryd.func108, Tryd.ntmps108
  go_wp2
  go_quiet (first | (go_at_call_of 112 (Value.int IntKind.i64 (a : Int)); refine Calls.quiet_of (turnRn x a ha ha2 _ rfl _)) | (go_at_call_of 112 (Value.int IntKind.i64 (b : Int)); refine Calls.quiet_of (turnRn x b hb hb2 _ rfl _)) | (go_at_call_of 112 (Value.int IntKind.i64 (c : Int)); refine Calls.quiet_of (turnRn x c hc hc2 _ rfl _)))
  go_wp2
  go_ret
  exact ⟨rfl, bel_dN ((Below.refl _ _).alloc (Nat.le_refl _) _) _⟩

set_option maxHeartbeats 1000000 in
theorem shiftCn (x : Int) (a b c : Nat) (ha : 0 < a) (ha2 : a < 32) (hb : 0 < b) (hb2 : b < 32) (hc : 0 < c) (hc2 : c < 32) (w : World) :
    Calls Tryd.prog 111 #[.int .u32 x, .agg #[.int .i64 a, .int .i64 b, .int .i64 c]] w fun e w' => e = .returned (.int .u32 (xr (xr (rot x a) (rot x b)) (x / 2 ^ c))) ∧ Below w.heap.size w w' := by
  have hc3 : ¬ ((c : Int) < 0) := by omega
  go_enter Tryd.func111, Tryd.ntmps111
  go_wp2
  go_quiet (first | (go_at_call_of 112 (Value.int IntKind.i64 (a : Int)); refine Calls.quiet_of (turnRn x a ha ha2 _ rfl _)) | (go_at_call_of 112 (Value.int IntKind.i64 (b : Int)); refine Calls.quiet_of (turnRn x b hb hb2 _ rfl _)))
  go_wp2
  go_ret
  exact ⟨rfl, bel_dN ((Below.refl _ _).alloc (Nat.le_refl _) _) _⟩

theorem turnG0n (x : Int) (w : World) : Calls Tryd.prog 108 #[.int .u32 x, .agg #[.int .i64 2, .int .i64 13, .int .i64 22]] w fun e w' => e = .returned (.int .u32 (bS0 x)) ∧ Below w.heap.size w w' :=
  turnCn x 2 13 22 (by omega) (by omega) (by omega) (by omega) (by omega) (by omega) w
theorem turnG1n (x : Int) (w : World) : Calls Tryd.prog 108 #[.int .u32 x, .agg #[.int .i64 6, .int .i64 11, .int .i64 25]] w fun e w' => e = .returned (.int .u32 (bS1 x)) ∧ Below w.heap.size w w' :=
  turnCn x 6 11 25 (by omega) (by omega) (by omega) (by omega) (by omega) (by omega) w
theorem shiftS0n (x : Int) (w : World) : Calls Tryd.prog 111 #[.int .u32 x, .agg #[.int .i64 7, .int .i64 18, .int .i64 3]] w fun e w' => e = .returned (.int .u32 (sS0 x)) ∧ Below w.heap.size w w' :=
  shiftCn x 7 18 3 (by omega) (by omega) (by omega) (by omega) (by omega) (by omega) w
theorem shiftS1n (x : Int) (w : World) : Calls Tryd.prog 111 #[.int .u32 x, .agg #[.int .i64 17, .int .i64 19, .int .i64 10]] w fun e w' => e = .returned (.int .u32 (sS1 x)) ∧ Below w.heap.size w w' :=
  shiftCn x 17 19 10 (by omega) (by omega) (by omega) (by omega) (by omega) (by omega) w

/-- Four cells and the box of turns, through whatever keeps what is there. -/
structure Nxn (w W : World) (g o T : Nat) (y0 y1 y9 y14 : Int) : Prop where
  fr : Below w.heap.size w W
  ar : Arr W T 71 (I64 [2, 13, 22, 6, 11, 25, 7, 18, 3, 17, 19, 10])
  c0 : W.cell? ⟨g, o, none⟩ = some (.int .u32 y0)
  c1 : W.cell? ⟨g, o + 1, none⟩ = some (.int .u32 y1)
  c9 : W.cell? ⟨g, o + 9, none⟩ = some (.int .u32 y9)
  c14 : W.cell? ⟨g, o + 14, none⟩ = some (.int .u32 y14)
theorem Nxn.go {w W W' : World} {g o T : Nat} {y0 y1 y9 y14 : Int} (h : Nxn w W g o T y0 y1 y9 y14) (hb : Below W.heap.size W W') : Nxn w W' g o T y0 y1 y9 y14 := by
  have hg : g < W.heap.size := World.block_lt_of_cell? W _ h.c0
  exact ⟨h.fr.trans (hb.mono h.fr.size), h.ar.kept hb, (hb.cell (p := ⟨g, o, none⟩) hg).trans h.c0, (hb.cell (p := ⟨g, o + 1, none⟩) hg).trans h.c1, (hb.cell (p := ⟨g, o + 9, none⟩) hg).trans h.c9, (hb.cell (p := ⟨g, o + 14, none⟩) hg).trans h.c14⟩
/-- What the walk reads. -/
def Nvn (g o T : Nat) (y0 y1 y9 y14 : Int) (W : World) : Prop :=
  W.cell? ⟨g, o, none⟩ = some (.int .u32 y0) ∧ W.cell? ⟨g, o + 1, none⟩ = some (.int .u32 y1) ∧ W.cell? ⟨g, o + 9, none⟩ = some (.int .u32 y9) ∧ W.cell? ⟨g, o + 14, none⟩ = some (.int .u32 y14) ∧
  W.cell? ⟨T, 6, none⟩ = some (.int .i64 7) ∧ W.cell? ⟨T, 7, none⟩ = some (.int .i64 18) ∧ W.cell? ⟨T, 8, none⟩ = some (.int .i64 3) ∧
  W.cell? ⟨T, 9, none⟩ = some (.int .i64 17) ∧ W.cell? ⟨T, 10, none⟩ = some (.int .i64 19) ∧ W.cell? ⟨T, 11, none⟩ = some (.int .i64 10)
theorem Nxn.all {w W : World} {g o T : Nat} {y0 y1 y9 y14 : Int} (h : Nxn w W g o T y0 y1 y9 y14) : Nvn g o T y0 y1 y9 y14 W :=
  ⟨h.c0, h.c1, h.c9, h.c14, h.ar.i64 6 (by simp), h.ar.i64 7 (by simp), h.ar.i64 8 (by simp), h.ar.i64 9 (by simp), h.ar.i64 10 (by simp), h.ar.i64 11 (by simp)⟩

set_option maxHeartbeats 2000000 in
theorem nextCn (g o n c : Nat) (y0 y1 y9 y14 : Int) (w : World) (hn : 14 < n) (hc0 : w.cell? ⟨g, o, none⟩ = some (.int .u32 y0)) (hc1 : w.cell? ⟨g, o + 1, none⟩ = some (.int .u32 y1)) (hc9 : w.cell? ⟨g, o + 9, none⟩ = some (.int .u32 y9)) (hc14 : w.cell? ⟨g, o + 14, none⟩ = some (.int .u32 y14)) :
    Calls Tryd.prog 107 #[.slice (some ⟨g, o, none⟩) n c, .agg #[.int .i64 2, .int .i64 13, .int .i64 22, .int .i64 6, .int .i64 11, .int .i64 25, .int .i64 7, .int .i64 18, .int .i64 3, .int .i64 17, .int .i64 19, .int .i64 10]] w fun e w' => e = .returned (.int .u32 ((sS1 y14 + y9 + sS0 y1 + y0) % 4294967296)) ∧ Below w.heap.size w w' := by
  have hg : g < w.heap.size := World.block_lt_of_cell? w _ hc0
  obtain ⟨W, hW⟩ : ∃ W, W = w.alloc (.cells #[.int .i64 2, .int .i64 13, .int .i64 22, .int .i64 6, .int .i64 11, .int .i64 25, .int .i64 7, .int .i64 18, .int .i64 3, .int .i64 17, .int .i64 19, .int .i64 10] 71) := ⟨_, rfl⟩
  have hB : Below w.heap.size w W := by rw [hW]; exact (Below.refl _ _).alloc (Nat.le_refl _) _
  have hA : Arr W w.heap.size 71 (I64 [2, 13, 22, 6, 11, 25, 7, 18, 3, 17, 19, 10]) := by rw [hW]; exact Arr.new w (I64 [2, 13, 22, 6, 11, 25, 7, 18, 3, 17, 19, 10]) _
  have NX : Nxn w W.drew g o w.heap.size y0 y1 y9 y14 := ⟨hB.drew, hA.drew, (hB.cell (p := ⟨g, o, none⟩) hg).trans hc0, (hB.cell (p := ⟨g, o + 1, none⟩) hg).trans hc1, (hB.cell (p := ⟨g, o + 9, none⟩) hg).trans hc9, (hB.cell (p := ⟨g, o + 14, none⟩) hg).trans hc14⟩
  have p14 : (14 : Int) < (n : Int) := by omega
  have p9 : (9 : Int) < (n : Int) := by omega
  have p1 : (1 : Int) < (n : Int) := by omega
  have p0 : 0 < n := by omega
  clear hB hA hc0 hc1 hc9 hc14 hg
  go_enter Tryd.func107, Tryd.ntmps107
  go_wp2
  rw [← hW]
  clear hW
  go_region_held3 (fun W => W.cell? ⟨g, o, none⟩ = some (.int .u32 y0) ∧ W.cell? ⟨g, o + 1, none⟩ = some (.int .u32 y1) ∧ W.cell? ⟨g, o + 9, none⟩ = some (.int .u32 y9) ∧ W.cell? ⟨g, o + 14, none⟩ = some (.int .u32 y14) ∧ W.cell? ⟨w.heap.size, 6, none⟩ = some (.int .i64 7) ∧ W.cell? ⟨w.heap.size, 7, none⟩ = some (.int .i64 18) ∧ W.cell? ⟨w.heap.size, 8, none⟩ = some (.int .i64 3) ∧ W.cell? ⟨w.heap.size, 9, none⟩ = some (.int .i64 17) ∧ W.cell? ⟨w.heap.size, 10, none⟩ = some (.int .i64 19) ∧ W.cell? ⟨w.heap.size, 11, none⟩ = some (.int .i64 10))
    (exact NX.all)
    ((first
      | (go_at_call_of 111 (Value.int IntKind.u32 y14); refine (shiftS1n y14 _).mono ?_; rintro e w' ⟨rfl, hbd⟩; replace NX := NX.go hbd)
      | (go_at_call_of 111 (Value.int IntKind.u32 y1); refine (shiftS0n y1 _).mono ?_; rintro e w' ⟨rfl, hbd⟩; replace NX := NX.go hbd)))
  all_goals
    have hb := NX.fr
    have hz : IntKind.u32.wrap (IntKind.u32.wrap (IntKind.u32.wrap (sS1 y14 + y9) + sS0 y1) + y0) = (sS1 y14 + y9 + sS0 y1 + y0) % 4294967296 := by
      simp only [IntKind.wrap_u32]; omega
    generalize IntKind.u32.wrap (IntKind.u32.wrap (IntKind.u32.wrap (sS1 y14 + y9) + sS0 y1) + y0) = z at hz ⊢
    have HZ : Hid _ := hz
    clear hz NX
    go_wp2
    go_ret
    exact ⟨by rw [← HZ.out]; rfl, hb⟩
end Go.Proofs.YtgapfkiceolceaaDoor
namespace Go.Proofs.YtgapfkiceolceaaDoor
open Go.RowKit
set_option maxRecDepth 100000

set_option maxHeartbeats 1000000 in
theorem turnCw (x : Int) (a b c : Nat) (ha : 0 < a) (ha2 : a < 64) (hb : 0 < b) (hb2 : b < 64) (hc : 0 < c) (hc2 : c < 64) (w : World) :
    Calls Tryd.prog 115 #[.int .u64 x, .agg #[.int .i64 a, .int .i64 b, .int .i64 c]] w fun e w' => e = .returned (.int .u64 (xrw (xrw (rotw x a) (rotw x b)) (rotw x c))) ∧ Below w.heap.size w w' := by
  go_enter Tryd.func115, Tryd.ntmps115
  go_wp2
  go_quiet (first | (go_at_call_of 113 (Value.int IntKind.i64 (a : Int)); refine Calls.quiet_of (turnRw x a ha ha2 _ rfl _)) | (go_at_call_of 113 (Value.int IntKind.i64 (b : Int)); refine Calls.quiet_of (turnRw x b hb hb2 _ rfl _)) | (go_at_call_of 113 (Value.int IntKind.i64 (c : Int)); refine Calls.quiet_of (turnRw x c hc hc2 _ rfl _)))
  go_wp2
  go_ret
  exact ⟨rfl, bel_dN ((Below.refl _ _).alloc (Nat.le_refl _) _) _⟩

set_option maxHeartbeats 1000000 in
theorem shiftCw (x : Int) (a b c : Nat) (ha : 0 < a) (ha2 : a < 64) (hb : 0 < b) (hb2 : b < 64) (hc : 0 < c) (hc2 : c < 64) (w : World) :
    Calls Tryd.prog 109 #[.int .u64 x, .agg #[.int .i64 a, .int .i64 b, .int .i64 c]] w fun e w' => e = .returned (.int .u64 (xrw (xrw (rotw x a) (rotw x b)) (x / 2 ^ c))) ∧ Below w.heap.size w w' := by
  have hc3 : ¬ ((c : Int) < 0) := by omega
  go_enter Tryd.func109, Tryd.ntmps109
  go_wp2
  go_quiet (first | (go_at_call_of 113 (Value.int IntKind.i64 (a : Int)); refine Calls.quiet_of (turnRw x a ha ha2 _ rfl _)) | (go_at_call_of 113 (Value.int IntKind.i64 (b : Int)); refine Calls.quiet_of (turnRw x b hb hb2 _ rfl _)))
  go_wp2
  go_ret
  exact ⟨rfl, bel_dN ((Below.refl _ _).alloc (Nat.le_refl _) _) _⟩

theorem turnG0w (x : Int) (w : World) : Calls Tryd.prog 115 #[.int .u64 x, .agg #[.int .i64 28, .int .i64 34, .int .i64 39]] w fun e w' => e = .returned (.int .u64 (cS0 x)) ∧ Below w.heap.size w w' :=
  turnCw x 28 34 39 (by omega) (by omega) (by omega) (by omega) (by omega) (by omega) w
theorem turnG1w (x : Int) (w : World) : Calls Tryd.prog 115 #[.int .u64 x, .agg #[.int .i64 14, .int .i64 18, .int .i64 41]] w fun e w' => e = .returned (.int .u64 (cS1 x)) ∧ Below w.heap.size w w' :=
  turnCw x 14 18 41 (by omega) (by omega) (by omega) (by omega) (by omega) (by omega) w
theorem shiftS0w (x : Int) (w : World) : Calls Tryd.prog 109 #[.int .u64 x, .agg #[.int .i64 1, .int .i64 8, .int .i64 7]] w fun e w' => e = .returned (.int .u64 (tS0 x)) ∧ Below w.heap.size w w' :=
  shiftCw x 1 8 7 (by omega) (by omega) (by omega) (by omega) (by omega) (by omega) w
theorem shiftS1w (x : Int) (w : World) : Calls Tryd.prog 109 #[.int .u64 x, .agg #[.int .i64 19, .int .i64 61, .int .i64 6]] w fun e w' => e = .returned (.int .u64 (tS1 x)) ∧ Below w.heap.size w w' :=
  shiftCw x 19 61 6 (by omega) (by omega) (by omega) (by omega) (by omega) (by omega) w

/-- Four cells and the box of turns, through whatever keeps what is there. -/
structure Nxw (w W : World) (g o T : Nat) (y0 y1 y9 y14 : Int) : Prop where
  fr : Below w.heap.size w W
  ar : Arr W T 71 (I64 [28, 34, 39, 14, 18, 41, 1, 8, 7, 19, 61, 6])
  c0 : W.cell? ⟨g, o, none⟩ = some (.int .u64 y0)
  c1 : W.cell? ⟨g, o + 1, none⟩ = some (.int .u64 y1)
  c9 : W.cell? ⟨g, o + 9, none⟩ = some (.int .u64 y9)
  c14 : W.cell? ⟨g, o + 14, none⟩ = some (.int .u64 y14)
theorem Nxw.go {w W W' : World} {g o T : Nat} {y0 y1 y9 y14 : Int} (h : Nxw w W g o T y0 y1 y9 y14) (hb : Below W.heap.size W W') : Nxw w W' g o T y0 y1 y9 y14 := by
  have hg : g < W.heap.size := World.block_lt_of_cell? W _ h.c0
  exact ⟨h.fr.trans (hb.mono h.fr.size), h.ar.kept hb, (hb.cell (p := ⟨g, o, none⟩) hg).trans h.c0, (hb.cell (p := ⟨g, o + 1, none⟩) hg).trans h.c1, (hb.cell (p := ⟨g, o + 9, none⟩) hg).trans h.c9, (hb.cell (p := ⟨g, o + 14, none⟩) hg).trans h.c14⟩
/-- What the walk reads. -/
def Nvw (g o T : Nat) (y0 y1 y9 y14 : Int) (W : World) : Prop :=
  W.cell? ⟨g, o, none⟩ = some (.int .u64 y0) ∧ W.cell? ⟨g, o + 1, none⟩ = some (.int .u64 y1) ∧ W.cell? ⟨g, o + 9, none⟩ = some (.int .u64 y9) ∧ W.cell? ⟨g, o + 14, none⟩ = some (.int .u64 y14) ∧
  W.cell? ⟨T, 6, none⟩ = some (.int .i64 1) ∧ W.cell? ⟨T, 7, none⟩ = some (.int .i64 8) ∧ W.cell? ⟨T, 8, none⟩ = some (.int .i64 7) ∧
  W.cell? ⟨T, 9, none⟩ = some (.int .i64 19) ∧ W.cell? ⟨T, 10, none⟩ = some (.int .i64 61) ∧ W.cell? ⟨T, 11, none⟩ = some (.int .i64 6)
theorem Nxw.all {w W : World} {g o T : Nat} {y0 y1 y9 y14 : Int} (h : Nxw w W g o T y0 y1 y9 y14) : Nvw g o T y0 y1 y9 y14 W :=
  ⟨h.c0, h.c1, h.c9, h.c14, h.ar.i64 6 (by simp), h.ar.i64 7 (by simp), h.ar.i64 8 (by simp), h.ar.i64 9 (by simp), h.ar.i64 10 (by simp), h.ar.i64 11 (by simp)⟩

set_option maxHeartbeats 2000000 in
theorem nextCw (g o n c : Nat) (y0 y1 y9 y14 : Int) (w : World) (hn : 14 < n) (hc0 : w.cell? ⟨g, o, none⟩ = some (.int .u64 y0)) (hc1 : w.cell? ⟨g, o + 1, none⟩ = some (.int .u64 y1)) (hc9 : w.cell? ⟨g, o + 9, none⟩ = some (.int .u64 y9)) (hc14 : w.cell? ⟨g, o + 14, none⟩ = some (.int .u64 y14)) :
    Calls Tryd.prog 95 #[.slice (some ⟨g, o, none⟩) n c, .agg #[.int .i64 28, .int .i64 34, .int .i64 39, .int .i64 14, .int .i64 18, .int .i64 41, .int .i64 1, .int .i64 8, .int .i64 7, .int .i64 19, .int .i64 61, .int .i64 6]] w fun e w' => e = .returned (.int .u64 ((tS1 y14 + y9 + tS0 y1 + y0) % 18446744073709551616)) ∧ Below w.heap.size w w' := by
  have hg : g < w.heap.size := World.block_lt_of_cell? w _ hc0
  obtain ⟨W, hW⟩ : ∃ W, W = w.alloc (.cells #[.int .i64 28, .int .i64 34, .int .i64 39, .int .i64 14, .int .i64 18, .int .i64 41, .int .i64 1, .int .i64 8, .int .i64 7, .int .i64 19, .int .i64 61, .int .i64 6] 71) := ⟨_, rfl⟩
  have hB : Below w.heap.size w W := by rw [hW]; exact (Below.refl _ _).alloc (Nat.le_refl _) _
  have hA : Arr W w.heap.size 71 (I64 [28, 34, 39, 14, 18, 41, 1, 8, 7, 19, 61, 6]) := by rw [hW]; exact Arr.new w (I64 [28, 34, 39, 14, 18, 41, 1, 8, 7, 19, 61, 6]) _
  have NX : Nxw w W.drew g o w.heap.size y0 y1 y9 y14 := ⟨hB.drew, hA.drew, (hB.cell (p := ⟨g, o, none⟩) hg).trans hc0, (hB.cell (p := ⟨g, o + 1, none⟩) hg).trans hc1, (hB.cell (p := ⟨g, o + 9, none⟩) hg).trans hc9, (hB.cell (p := ⟨g, o + 14, none⟩) hg).trans hc14⟩
  have p14 : (14 : Int) < (n : Int) := by omega
  have p9 : (9 : Int) < (n : Int) := by omega
  have p1 : (1 : Int) < (n : Int) := by omega
  have p0 : 0 < n := by omega
  clear hB hA hc0 hc1 hc9 hc14 hg
  go_enter Tryd.func95, Tryd.ntmps95
  go_wp2
  rw [← hW]
  clear hW
  go_region_held3 (fun W => W.cell? ⟨g, o, none⟩ = some (.int .u64 y0) ∧ W.cell? ⟨g, o + 1, none⟩ = some (.int .u64 y1) ∧ W.cell? ⟨g, o + 9, none⟩ = some (.int .u64 y9) ∧ W.cell? ⟨g, o + 14, none⟩ = some (.int .u64 y14) ∧ W.cell? ⟨w.heap.size, 6, none⟩ = some (.int .i64 1) ∧ W.cell? ⟨w.heap.size, 7, none⟩ = some (.int .i64 8) ∧ W.cell? ⟨w.heap.size, 8, none⟩ = some (.int .i64 7) ∧ W.cell? ⟨w.heap.size, 9, none⟩ = some (.int .i64 19) ∧ W.cell? ⟨w.heap.size, 10, none⟩ = some (.int .i64 61) ∧ W.cell? ⟨w.heap.size, 11, none⟩ = some (.int .i64 6))
    (exact NX.all)
    ((first
      | (go_at_call_of 109 (Value.int IntKind.u64 y14); refine (shiftS1w y14 _).mono ?_; rintro e w' ⟨rfl, hbd⟩; replace NX := NX.go hbd)
      | (go_at_call_of 109 (Value.int IntKind.u64 y1); refine (shiftS0w y1 _).mono ?_; rintro e w' ⟨rfl, hbd⟩; replace NX := NX.go hbd)))
  all_goals
    have hb := NX.fr
    have hz : IntKind.u64.wrap (IntKind.u64.wrap (IntKind.u64.wrap (tS1 y14 + y9) + tS0 y1) + y0) = (tS1 y14 + y9 + tS0 y1 + y0) % 18446744073709551616 := by
      simp only [wrap_u64]; omega
    generalize IntKind.u64.wrap (IntKind.u64.wrap (IntKind.u64.wrap (tS1 y14 + y9) + tS0 y1) + y0) = z at hz ⊢
    have HZ : Hid _ := hz
    clear hz NX
    go_wp2
    go_ret
    exact ⟨by rw [← HZ.out]; rfl, hb⟩
end Go.Proofs.YtgapfkiceolceaaDoor
