/-
  What is proved here: the contract of the program's method longer: a column put below a; a law on a range over a function whose body never leaves the loop and; the contract of the library's slices.Backward over ints as a range over a; the contract of the program's multiplierOfColumns: columns from the lowest; the contracts of the program's method product and of multipliersOf; the contract of the specification's ScBytes: the bytes of a multiplier; the contracts of the program's ScOk, ScBytes and ScRead; contracts of the library's slices.Grow (at the nil slice), slices.Concat; bytes of parts and back.
-/
import Derived.Test.YtihoaakbkffejaaGreatDoorFVr
import Derived.Laws.CopyRow
import Derived.Shelf.Spec.SlicesInsert
import Derived.Test.YtihoaakbkffejaaGreatDoorFGdw
import Derived.Test.YtihoaakbkffejaaGreatDoorFFm
import Derived.Test.YtihoaakbkffejaaGreatDoorFQb
import Derived.Test.YtihoaakbkffejaaGreatDoorFJd
import Derived.Test.YtihoaakbkffejaaGreatDoorFJg
import Derived.Test.YtihoaakbkffejaaGreatDoorFKe
import Derived.Deep.AppendLies
import Derived.Test.YtihoaakbkffejaaGreatDoorFHbt
import Derived.Test.YtihoaakbkffejaaGreatDoorFJrd
import Derived.Test.YtihoaakbkffejaaGreatDoorFYe
import Derived.Lib.AppendZerosOnto
import Derived.WalkSpells
import Derived.Test.YtihoaakbkffejaaGreatDoorFUff
namespace Go.Proofs.YtihoaakbkffejaaGreatDoor
open Go.RowKit
set_option maxRecDepth 100000

structure M5 (w W : World) (n : List Int) (l : List Int) : Prop where
 fr : Below w.heap.size w W
 pa : Arr W w.heap.size 92 (I64 n)
 pr : Arr W (w.heap.size + 1) 92 (I64 Z16)
 pm : Arr W (w.heap.size + 2) 65 (I64 l)
 vr : Vr W 6 (I64 OL)
 g0 : 6 < w.heap.size
theorem M5.go {w A B : World} {n l : List Int} (h : M5 w A n l) (hb : Below A.heap.size A B) : M5 w B n l := ⟨h.fr.trans (hb.mono h.fr.size), h.pa.kept hb, h.pr.kept hb, h.pm.kept hb, h.vr.kept hb, h.g0⟩
theorem M5.new {w : World} (n : List Int) (h : Vr w 6 (I64 OL)) : M5 w (((w.alloc (.cells (I64 n).toArray 92)).alloc (.cells (I64 Z16).toArray 92)).alloc (.cells (I64 Z16).toArray 65)) n Z16 := by
 have hb : Below w.heap.size w (((w.alloc (.cells (I64 n).toArray 92)).alloc (.cells (I64 Z16).toArray 92)).alloc (.cells (I64 Z16).toArray 65)) := (((Below.refl _ _).alloc (Nat.le_refl _) _).alloc (by simp) _).alloc (by simp; omega) _
 refine ⟨hb, ((Arr.new w (I64 n) _).alloc _).alloc _, ?_, ?_, h.kept hb, h.lt⟩
 ·have := (Arr.new (w.alloc (.cells (I64 n).toArray 92)) (I64 Z16) 92).alloc (.cells (I64 Z16).toArray 65)
  rw [World.size_alloc] at this
  exact this
 ·have := Arr.new ((w.alloc (.cells (I64 n).toArray 92)).alloc (.cells (I64 Z16).toArray 92)) (I64 Z16) 65
  rw [World.size_alloc, World.size_alloc] at this
  exact this
theorem M5.row {w W : World} {n l : List Int} (h : M5 w W n l) (m : List Int) : M5 w (W.setRow (w.heap.size + 2) (I64 m).toArray) n m := by
 have hg := h.pa.lt
 have h0 := h.g0
 exact ⟨setRow_below h.fr _ _ (by omega), h.pa.rowOther _ _ (by omega), h.pr.rowOther _ _ (by omega), h.pm.row _, h.vr.rowOther _ (by omega), h0⟩
def cpd (c : Int) (n : List Int) : List Int := c :: n.take 15
theorem cpd_len {c : Int} {n : List Int} (h : n.length = 16) : (cpd c n).length = 16 := by simp [cpd, h]
theorem cpd_mvd {c : Int} {n : List Int} (h : n.length = 16) : (I64 (cpd c n)).set 15 (.int .i64 (n.getD 14 0 + n.getD 15 0 * 65536)) = I64 (mvd c n) := by
 obtain ⟨a0, a1, a2, a3, a4, a5, a6, a7, a8, a9, a10, a11, a12, a13, a14, a15, rfl⟩ := list16 h
 rfl
theorem cpd_15 {c : Int} {n : List Int} (h : n.length = 16) : (cpd c n).getD 15 0 = n.getD 14 0 := by
 obtain ⟨a0, a1, a2, a3, a4, a5, a6, a7, a8, a9, a10, a11, a12, a13, a14, a15, rfl⟩ := list16 h
 rfl
theorem run_cpd {w W : World} {n : List Int} {c : Int} (E : M5 w W n (c :: List.replicate 15 0)) (hl : n.length = 16) (ty : TypeId) :
  (Builtin.copy_ #[29, 29] ty #[.slice (some ⟨w.heap.size + 2, 1, none⟩) 15 15, .slice (some ⟨w.heap.size, 0, none⟩) 15 16]).run Tryz.prog W = .ok (goInt 15) (W.setRow (w.heap.size + 2) (I64 (cpd c n)).toArray) := by
 have h := run_copy_row (P := Tryz.prog) W 29 29 ty 3 (w.heap.size + 2) 1 15 15 ⟨w.heap.size, 0, none⟩ 15 16 (I64 (c :: List.replicate 15 0)).toArray 65 (I64 (n.take 15)) Tryz.underlying29 (by kernel_rfl) E.pm (by simp [hl])
  (fun j v hv => by
   have hadd : (⟨w.heap.size, 0, none⟩ : Addr).add j = ⟨w.heap.size, j, none⟩ := by unfold Addr.add; split <;> simp_all
   rw [hadd, E.pa.cell j, ← hv]
   have hj : j < 15 := by have := (List.getElem?_eq_some_iff.1 hv).1; simp [hl] at this; omega
   simp [hj]) (by simp [hl]) (fun v hv => by obtain ⟨x, _, rfl⟩ := List.mem_map.1 hv; rfl)
 have e : ((I64 (c :: List.replicate 15 0)).toArray.toList.take 1 ++ I64 (n.take 15) ++ (I64 (c :: List.replicate 15 0)).toArray.toList.drop (1 + (I64 (n.take 15)).length)) = I64 (cpd c n) := by
  rw [List.drop_eq_nil_of_le (by simp [hl]), List.append_nil]
  simp [cpd, I64]
 rw [e] at h
 have e2 : (I64 (n.take 15)).length = 15 := by simp [hl]
 rw [e2] at h
 exact h

set_option maxHeartbeats 2000000 in
theorem implLonger (n : List Int) (c : Int) (w : World) (hn : scOk n = true) (hc : Cq c) (hV : Vr w 6 (I64 OL)) :
  Calls Tryz.prog 105 #[.agg (I64 n).toArray, .int .i64 c] w fun e w' => e = .returned (.agg (I64 (redO (c + 65536 * val n))).toArray) ∧ Below w.heap.size w w' := by
 have hl := ((scOk_iff n).1 hn).1
 have hlm := ((scOk_iff n).1 hn).2.1
 obtain ⟨m, hm⟩ : ∃ m, m = mvd c n := ⟨_, rfl⟩
 have hml : m.length = 16 := by rw [hm]; exact mvd_len hl
 have hmv : val m = c + 65536 * val n := by rw [hm]; exact mvd_val hl
 have hmq : Sq (val m) := by rw [hmv]; exact longer_sq hc hn
 have hmc : Cb m := by rw [hm]; exact cb_of (mvd_bd hc hn)
 obtain ⟨R, hR⟩ : ∃ R, R = redO (c + 65536 * val n) := ⟨_, rfl⟩
 have hRl : R.length = 16 := by rw [hR]; exact redO_len _
 obtain ⟨T, hT⟩ : ∃ T, T = crd m := ⟨_, rfl⟩
 have HCR : Hid (∀ Z, Calls Tryz.prog 133 #[.agg (I64 m).toArray] Z fun e w' => e = .returned (.agg (I64 T).toArray) ∧ Below Z.heap.size Z w') := by
  unfold Hid; intro Z; rw [hT]; exact implCarried m Z hml hmc
 have HOS : Hid (∀ Z, Vr Z 6 (I64 OL) → Calls Tryz.prog 134 #[.agg (I64 T).toArray] Z fun e w' => e = .returned (.agg (I64 R).toArray) ∧ Below Z.heap.size Z w') := by
  unfold Hid; intro Z hZ; rw [hT, hR, ← hmv]; exact implOrderSettled m Z hml hmq hZ
 rw [← hR]
 have h15 := sc_last hn
 have h14 := gD_lm hlm 14
 have hset := cpd_mvd (c := c) hl
 have h15c := cpd_15 (c := c) hl
 have hcl := cpd_len (c := c) hl
 rw [← hm] at hset
 obtain ⟨x, hx⟩ : ∃ x, x = n.getD 14 0 := ⟨_, rfl⟩
 obtain ⟨y, hy⟩ : ∃ y, y = n.getD 15 0 := ⟨_, rfl⟩
 rw [← hx] at h14 hset h15c
 rw [← hy] at h15 hset
 obtain ⟨W, hW⟩ : ∃ W, W = ((w.alloc (.cells (I64 n).toArray 92)).alloc (.cells zV 92)).alloc (.cells zV 65) := ⟨_, rfl⟩
 have E0 : M5 w W n Z16 := by rw [hW]; exact M5.new n hV
 have E1 : M5 w (W.setRow (w.heap.size + 2) (I64 (c :: List.replicate 15 0)).toArray) n (c :: List.replicate 15 0) := E0.row _
 have hz0 := E0.pm
 have hcpy : ∀ ty, _ := fun ty => run_cpd (E1.go (Below.refl _ _).drew) hl ty
 have E2 := (E1.go (Below.refl _ _).drew).row (cpd c n)
 obtain ⟨V, hVV⟩ : ∃ V, V = W.setRow (w.heap.size + 2) (I64 (c :: List.replicate 15 0)).toArray := ⟨_, rfl⟩
 rw [← hVV] at E2 hcpy
 obtain ⟨U, hU⟩ : ∃ U, U = V.drew.setRow (w.heap.size + 2) (I64 (cpd c n)).toArray := ⟨_, rfl⟩
 rw [← hU] at E2 hcpy
 have HVV : Hid _ := hVV
 have HW : Hid _ := hW
 rw [hW] at hz0
 have hw0 := hV.lt
 have cx : U.cell? ⟨w.heap.size + 2, 15, none⟩ = some (.int .i64 x) := by rw [E2.pm.i64 15 (by omega), h15c]
 have cy : U.cell? ⟨w.heap.size, 15, none⟩ = some (.int .i64 y) := by rw [E2.pa.i64 15 (by omega), hy]
 have hfz := E2.pm.frozen 15
 have sy : IntKind.i64.wrap (y * 65536) = y * 65536 := by rw [IntKind.wrap_i64]; omega
 have sxy : IntKind.i64.wrap (x + y * 65536) = x + y * 65536 := by rw [IntKind.wrap_i64]; omega
 have E3 : M5 w (U.setCell ⟨w.heap.size + 2, 15, none⟩ (.int .i64 (x + y * 65536))) n m := by
  have hs := E2.pm.set 15 (.int .i64 (x + y * 65536))
  rw [hset] at hs
  exact ⟨E2.fr.setCell (p := ⟨w.heap.size + 2, 15, none⟩) (by simp only; omega) _, E2.pa.other _ _ (by simp), E2.pr.other _ _ (by simp), hs, E2.vr.other _ _ (by have := E2.g0; simp only; omega), E2.g0⟩
 have hil : (Tryz.prog.info? 65).map (·.size) = some (I64 m).toArray.size := by simpa [hml] using infoL
 have hir : (Tryz.prog.info? 92).map (·.size) = some (I64 R).toArray.size := by simpa [hRl] using infoM
 obtain ⟨A, hA⟩ : ∃ A, A = (I64 n).toArray := ⟨_, rfl⟩
 rw [← hA] at hz0 ⊢
 replace HW : Hid (W = ((w.alloc (.cells A 92)).alloc (.cells zV 92)).alloc (.cells zV 65)) := by unfold Hid; rw [hA]; exact hW
 have hic : (Tryz.prog.info? 65).map (·.size) = some (I64 (c :: List.replicate 15 0)).toArray.size := by simpa using infoL
 clear hm hmv hmq hmc hR hT hn hlm hx hy hset h15c E0 E1 E2 hV hA hW hVV hU
 go_enter Tryz.func105, Tryz.ntmps105
 go_wp2_with (refine wpList_store_row rfl 65 _ _ rfl (w.heap.size + 2) (I64 (c :: List.replicate 15 0)).toArray rfl rfl 65 _ hz0 hic rfl (by simp [Value.oneCell']) ?_)
 rw [← HW.out, ← HVV.out]
 refine wp_region_held_drew (S := fun W => True) (by kernel_rfl) trivial (fun hHeld => ?_)
 refine wpAnyH_take (i := 0) (oi := { dst := some 8, op := Op.slice 65 (Operand.tmp 5) (some (Operand.const (Value.int IntKind.i64 1))) none none, type := 29, pos := "l05_scalar.go:110", after := #[], guard := none }) (v := .slice (some ⟨w.heap.size + 2, 1, none⟩) 15 15) rfl (by kernel_rfl) (by kernel_rfl) (by kernel_rfl) (fun _ _ _ h => h) (.inl ⟨by rfl, fun _ _ => by rfl⟩) (by assumption) ?_
 simp only [aP]
 refine wpAnyH_take (i := 1) (oi := { dst := some 9, op := Op.fieldAddr 92 (Operand.tmp 2) 0, type := 0, pos := "l05_scalar.go:110", after := #[], guard := none }) (v := .pointer (some ⟨w.heap.size, 0, none⟩)) rfl (by kernel_rfl) (by kernel_rfl) (by kernel_rfl) (fun _ _ _ h => h) (.inl ⟨by rfl, fun _ _ => by rfl⟩) (by assumption) ?_
 simp only [aP]
 refine wpAnyH_take (i := 2) (oi := { dst := some 10, op := Op.slice 65 (Operand.tmp 9) none (some (Operand.const (Value.int IntKind.i64 15))) none, type := 29, pos := "l05_scalar.go:110", after := #[{ on := 1, ground := Ground.data }], guard := none }) (v := .slice (some ⟨w.heap.size, 0, none⟩) 15 16) rfl (by kernel_rfl) (by kernel_rfl) (by kernel_rfl) (fun _ _ _ h => h) (.inl ⟨by rfl, fun _ _ => by rfl⟩) (by assumption) ?_
 simp only [aP]
 refine wpAnyH_ready (rs := [3]) (by kernel_rfl) (by simp) (AllReadyH.cons (o := { dst := some 11, op := Op.call { callee := Callee.builtin Builtin.copy, args := #[Operand.tmp 8, Operand.tmp 10], argTypes := #[29, 29] }, type := 3, pos := "l05_scalar.go:110", after := #[{ on := 0, ground := Ground.data }, { on := 2, ground := Ground.data }], guard := none }) rfl (fun K hK => ?_) AllReadyH.nil)
 rw [if_pos (by rfl)]
 refine Go.Proofs.wp_copy_runI _ _ _ _ _ rfl _ _ rfl rfl (hcpy _) ?_
 simp only [Act.put]
 refine hK.out _ _ trivial (fun hHeld => ?_)
 clear hK K hHeld
 refine wpAnyH_done (by kernel_rfl) ?_ _
 clear hcpy hz0 HW HVV
 obtain ⟨X, hX⟩ : ∃ X, X = U.setCell ⟨w.heap.size + 2, 15, none⟩ (.int .i64 (x + y * 65536)) := ⟨_, rfl⟩
 have HX : Hid _ := hX
 have hp3 := E3.pm
 rw [← hX] at E3
 clear hX
 go_wp2_with (refine wpList_load_row rfl 65 _ rfl (w.heap.size + 2) rfl 65 (I64 m).toArray (0, 0) _ hp3 Tryz.underlying65 rfl hil ?_)
 rw [← HX.out]
 clear HX hp3 cx cy hfz sy sxy
 refine (HCR.out _).mono ?_
 rintro e w1 ⟨rfl, hb1⟩
 replace E3 := E3.go hb1
 clear hb1
 go_wp2_with fail
 refine (HOS.out _ E3.vr).mono ?_
 rintro e w2 ⟨rfl, hb2⟩
 replace E3 := E3.go hb2
 clear hb2
 have h1 := E3.pr
 have h2 := E3.pr.row (I64 R)
 have HB : Hid _ := setRow_below E3.fr (w.heap.size + 1) (I64 R).toArray (by omega)
 clear E3
 go_wp2_with (refine wpList_store_row rfl 92 _ _ rfl (w.heap.size + 1) (I64 R).toArray rfl rfl 92 _ h1 hir (by simp [hRl]) (by simp [Value.oneCell']) ?_)
 exact bodyPost_ret (results_cell_row rfl _ _ (w.heap.size + 1) 92 (I64 R).toArray (0, 0) _ rfl h2 Tryz.underlying92 rfl hir) rfl ⟨rfl, HB.out⟩
end Go.Proofs.YtihoaakbkffejaaGreatDoor
namespace Go.Proofs.YtihoaakbkffejaaGreatDoor
open Go.RowKit Go.Shelf

def TellsR (n : Nat) (P : Program) (gf : Nat) (lb : Array Value) (encs : Nat → Array Value) (N : Nat) (K : Nat → Prop) (W : World) : Prop :=
 ∀ (l : Nat) (J : Nat → World → Prop),
  (∀ k A, k < N → J k A → YieldAt Fence.wide (n - 1) P l (encs k) A fun e B => e = .returned (.bool true) ∧ J (k + 1) B ∧ Same K A B) →
  J 0 W →
  CallsIn Fence.wide n P gf (#[.func (.yield l) #[] #[]] ++ lb) W fun e B => (∃ v, e = .returned v) ∧ J N B

theorem range_tellsR {n : Nat} {P : Program} {g : Operand} {ps : Array Tmp} {assign body : Code} {Q : Exit → Act → World → Prop} {a : Act} {w : World}
  {gf : Nat} {lb : Array Value} (hg : a.eval g = .func (.func gf) #[] lb) (eg : ∀ args w, (callFunc gf args).run P w = .ok (.enter gf args) w)
  {encs : Nat → Array Value} {N : Nat} {K : Nat → Prop} (hK : ∀ b, K b → b < w.heap.size)
  (hseq : ∀ W, Below w.heap.size w W → TellsR (n - 1) P gf lb encs N K W) (hps : ∀ k, (encs k).size = ps.size)
  (I : Nat → World → Prop)
  (hIl : ∀ k A o, I k A → I k (A.putObj (w.heap.size + 1) o))
  (h0 : ∀ W, Below w.heap.size w W → W.heap.size = w.heap.size + 2 → I 0 W)
  (a₁ : Nat → Act)
  (hassign : ∀ (l k : Nat) (W : World) (R : Act → World → Prop), k < N → R (a₁ k) W →
   assign.wpIn (Fence.wide.inRound l) (n - 1 - 1) P (Exit.then R (fun _ _ _ => False)) { tmps := (ps.zip (encs k)).foldl (fun t (p, v) => t.setIfInBounds p v) a.tmps, defers := [] } W)
  (hbody : ∀ (l k : Nat) (W : World), k < N → w.heap.size + 2 ≤ W.heap.size → I k W →
   body.wpIn (Fence.wide.inRound l) (n - 1 - 1) P (goesOn fun B => I (k + 1) B ∧ Same (fun b => K b ∨ b = w.heap.size ∨ b = w.heap.size + 1) W B) (a₁ k) W)
  (hdone : ∀ (W : World), I N W → W.heap[w.heap.size]? = some (.deferred (some [])) → Q .normal { a with defers := { target := .collected w.heap.size, args := #[] } :: a.defers } W) :
  (Code.rangeFunc g ps assign body).wpIn Fence.wide n P Q a w := by
 refine wpIn_rangeFunc ?_
 intro fn hfn
 let rec0 : LoopState → Loop := fun st => { state := st, pending := none, fn := fn, tmps := a.tmps, params := ps, assign := assign, body := body, defers := w.heap.size }
 let D := w.heap.size
 let L := w.heap.size + 1
 obtain ⟨W1, hW1⟩ : ∃ W1, W1 = (w.alloc (.deferred (some []))).alloc (.loop (rec0 .ready)) := ⟨_, rfl⟩
 have hs1 : W1.heap.size = w.heap.size + 2 := by rw [hW1]; simp
 have hL1 : W1.heap[L]? = some (.loop (rec0 .ready)) := by
  rw [hW1]; have := World.alloc_heap_new (w.alloc (.deferred (some []))) (.loop (rec0 .ready)); rwa [World.size_alloc] at this
 have hD1 : W1.heap[D]? = some (.deferred (some [])) := by
  rw [hW1]; exact (Below.heap_alloc _ _ _ (by simp [D])).trans (World.alloc_heap_new w _)
 have hB1 : Below w.heap.size w W1 := by rw [hW1]; exact ((Below.refl _ w).alloc (Nat.le_refl _) _).alloc (by simp) _
 refine ⟨L, [{ target := .collected D, args := #[] }], W1, { target := .fn (.func gf) lb, args := #[.func (.yield L) #[] #[]] }, W1, gf, #[.func (.yield L) #[] #[]] ++ lb, W1, ?_, ?_, ?_, ?_, ?_, ?_⟩
 ·rw [hW1]; exact run_enterLoop_outer _ _ _ _ _
 ·simp only [resolve, hg]; simp [go_sem]
 ·intro f' _; trivial
 ·simp [invoke, go_sem, eg]
 ·intro h; simp [Fence.wide] at h
 ·refine (hseq W1 hB1 L (fun k W => I k W ∧ W.heap[L]? = some (.loop (rec0 .ready)) ∧ W.heap[D]? = some (.deferred (some []))) ?_ ?_).mono ?_
  ·rintro k W hk ⟨hi, hl, hd⟩
   have hlt : L < W.heap.size := (Array.getElem?_eq_some_iff.1 hl).1
   have hy := run_yield (P := P) (args := encs k) hl (hps k)
   refine ⟨fn, _, assign, body, hy, roundIn_of_wpIn hfn (hassign _ k W _ hk ⟨_, run_beginRound hl rfl, ?_⟩)⟩
   obtain ⟨W2, hW2⟩ : ∃ W2, W2 = W.putObj L (.loop { rec0 .ready with state := .busy }) := ⟨_, rfl⟩
   have hl2 : W2.heap[L]? = some (.loop { rec0 .ready with state := .busy }) := by rw [hW2]; exact World.putObj_heap_same hlt
   have ho2 : ∀ b, b ≠ L → W2.heap[b]? = W.heap[b]? := fun b hb => by rw [hW2]; exact World.putObj_heap_other hb
   have hz2 : W2.heap.size = W.heap.size := by rw [hW2]; simp
   have hi2 : I k W2 := by rw [hW2]; exact hIl _ _ _ hi
   have hsz : w.heap.size + 2 ≤ W2.heap.size := by rw [hz2]; exact hlt
   rw [← hW2]
   refine wpIn_mono (hbody L k W2 hk hsz hi2) ?_
   rintro e a3 W3 hp
   cases e with
   | normal =>
    obtain ⟨hi3, hs3⟩ := hp
    have hl3 : W3.heap[L]? = some (.loop { rec0 .ready with state := .busy }) := (hs3.2 L (.inr (.inr rfl)) (by omega)).trans hl2
    have hd3 : W3.heap[D]? = some (.deferred (some [])) := ((hs3.2 D (.inr (.inl rfl)) (by show w.heap.size < _; omega)).trans (ho2 D (by show w.heap.size ≠ w.heap.size + 1; omega))).trans hd
    refine ⟨_, _, run_endRound (P := P) none hl3, rfl, ⟨hIl _ _ _ hi3, World.putObj_heap_same (by have := hs3.1; omega), (World.putObj_heap_other (by show w.heap.size ≠ w.heap.size + 1; omega)).trans hd3⟩, ?_⟩
    refine ⟨by simp; have := hs3.1; omega, fun b hb hbl => ?_⟩
    have hne : b ≠ L := by have := hK b hb; show b ≠ w.heap.size + 1; omega
    exact (World.putObj_heap_other hne).trans ((hs3.2 b (.inl hb) (by omega)).trans (ho2 b hne))
   | ret => exact hp.elim
   | exit id => exact hp.elim
   | goto t => exact hp.elim
   | panic ch => exact hp.elim
   | outgrown => exact hp.elim
  ·exact ⟨h0 W1 hB1 hs1, hL1, hD1⟩
  ·rintro e W2 ⟨⟨v, rfl⟩, hi, hl, hd⟩
   exact ⟨none, _, run_endLoop (P := P) hl (by simp [rec0]), hdone _ (hIl _ _ _ hi) ((World.putObj_heap_other (by show w.heap.size ≠ w.heap.size + 1; omega)).trans hd)⟩
end Go.Proofs.YtihoaakbkffejaaGreatDoor
namespace Go.Proofs.YtihoaakbkffejaaGreatDoor
open Go.RowKit Go.Shelf
set_option maxRecDepth 100000
attribute [local go_sem] Oper.semAt_some

theorem wpListIn_load_row {F : Fence} {n : Nat} {P : Program} {ops : Array Oper} {rest : List Oper} {o : Oper} {a : Act} {w : World} {Q : Exit → Act → World → Prop} (hgd : o.guard = none) (ty : TypeId) (x : Operand) (ho : o.op = .load ty x)
  (g : Nat) (hx : a.eval x = .pointer (some ⟨g, 0, none⟩)) (t : TypeId) (cs : Array Value) (fr : Nat × Nat) (d : TypeDesc) (hg : w.heap[g]? = some (.cells cs t fr))
  (hu : P.underlying ty = some d) (hd : (match d with | .struct _ | .array _ _ => true | _ => false) = true) (hi : (P.info? ty).map (·.size) = some cs.size)
  (h : wpListIn F n P ops Q rest (a.put o.dst (.agg cs)) w) : wpListIn F n P ops Q (o :: rest) a w :=
 wpListIn_plain hgd fun _ hK => by
  unfold Oper.wpIn
  refine ⟨?_, ?_⟩
  ·simp [Oper.about, ho]
  ·rw [Oper.semAt_plain F _ _ (by rw [ho]; intro c hc; cases hc)]
   unfold execOp
   simp only [ho, hx, Instr.loadAt, Instr.sureAddr, Sem.run_bind, Sem.run_pure, Result.andThen_ok, run_loadVar_row w g t ty cs fr d hg hu hd hi]
   exact hK _ _ h
theorem wpListIn_store_row {F : Fence} {n : Nat} {P : Program} {ops : Array Oper} {rest : List Oper} {o : Oper} {a : Act} {w : World} {Q : Exit → Act → World → Prop} (hgd : o.guard = none) (ty : TypeId) (x y : Operand) (ho : o.op = .store ty x y)
  (g : Nat) (cells : Array Value) (hx : a.eval x = .pointer (some ⟨g, 0, none⟩)) (hy : a.eval y = .agg cells)
  (t : TypeId) (old : Array Value) (hg : w.heap[g]? = some (.cells old t (0, 0))) (hi : (P.info? ty).map (·.size) = some cells.size)
  (hold : old.size = cells.size) (h1 : cells.all (·.oneCell') = true)
  (h : wpListIn F n P ops Q rest (a.put o.dst undef) (w.setRow g cells)) : wpListIn F n P ops Q (o :: rest) a w :=
 wpListIn_plain hgd fun _ hK => by
  unfold Oper.wpIn
  refine ⟨?_, ?_⟩
  ·simp [Oper.about, ho]
  ·rw [Oper.semAt_plain F _ _ (by rw [ho]; intro c hc; cases hc)]
   unfold execOp
   simp only [ho, hx, hy, Instr.storeAt, Instr.sureAddr, Sem.run_bind, Sem.run_pure, Result.andThen_ok, run_storeVar_row w g t ty old cells hg hi hold h1]
   exact hK _ _ h

theorem Is.same {A B : World} {a : Option Addr} {n c : Nat} {xs : List Int} {K : Nat → Prop} (h : Is A a n c xs) (hs : Same K A B) (hK : ∀ b o, a = some ⟨b, o, none⟩ → K b) : Is B a n c xs := by
 obtain ⟨h0, h1, h2, h3, h4⟩ := h
 refine ⟨h0, h1, h2, h3, ?_⟩
 rcases h4 with h4 | ⟨b, o, ha, hlt, hc⟩
 ·exact .inl h4
 ·refine .inr ⟨b, o, ha, Nat.lt_of_lt_of_le hlt hs.1, fun j hj => ?_⟩
  rw [← hc j hj]
  have := hs.2 b (hK b o ha) hlt
  simp [World.cell?, this]
theorem Arr.same {A B : World} {g : Nat} {t : TypeId} {cs : List Value} {K : Nat → Prop} (h : Arr A g t cs) (hs : Same K A B) (hK : K g) : Arr B g t cs := (hs.2 g hK h.lt).trans h

theorem backF (a : Option Addr) (n c : Nat) (w : World) :
  Calls Tryz.prog 104 #[.slice a n c] w fun e w' => e = .returned (.func (.func 132) #[] #[.pointer (some ⟨w.heap.size, 0, none⟩)]) ∧
   Arr w' w.heap.size 29 [.slice a n c] ∧ w'.heap.size = w.heap.size + 1 ∧ Below w.heap.size w w' := by
 obtain ⟨W, hW⟩ : ∃ W, W = w.alloc (.cells #[.slice a n c] 29) := ⟨_, rfl⟩
 have h1 : Arr W w.heap.size 29 [.slice a n c] := by rw [hW]; exact Arr.new w [.slice a n c] _
 have h3 : W.heap.size = w.heap.size + 1 := by rw [hW]; simp
 have hB : Below w.heap.size w W := by rw [hW]; exact (Below.refl _ _).alloc (Nat.le_refl _) _
 go_enter Tryz.func104, Tryz.ntmps104
 go_wp2
 rw [← hW]
 go_ret
 exact ⟨rfl, h1, h3, hB⟩

def bkE (N : Nat) (cs : List Int) (k : Nat) : Array Value := #[.int .i64 ((N - 1 - k : Nat) : Int), .int .i64 (cs.getD (N - 1 - k) 0)]

set_option maxHeartbeats 1000000 in
theorem backTells (n p : Nat) (a : Option Addr) (N c : Nat) (cs : List Int) (W : World) (hp : Arr W p 29 [.slice a N c]) (hx : Is W a N c cs) (hN : N ≤ 9223372036854775807) :
  TellsR n Tryz.prog 132 #[.pointer (some ⟨p, 0, none⟩)] (bkE N cs) N (fun b => b = p ∨ ∃ o, a = some ⟨b, o, none⟩) W := by
 intro l J hY h0
 have hpc : W.cell? ⟨p, 0, none⟩ = some (.slice a N c) := hp.cell 0
 have s0 : IntKind.i64.wrap ((N : Int) - 1) = (N : Int) - 1 := by rw [IntKind.wrap_i64]; omega
 refine callsIn_of_wp Tryz.func132 rfl trivial ?_ rfl
 simp only [Tryz.ntmps132, List.size_toArray, List.length_cons, List.length_nil, Nat.reduceAdd, Nat.reduceSub, Array.replicate_succ, Array.replicate_zero, List.push_toArray, List.append_toArray, List.nil_append, List.cons_append]
 have hwide : Fence.wide.depth.isSome = true → 1 ≤ n := fun h => by cases h
 gi_wp2
 gi_loopw [3] (fun i wr => ∃ (k : Nat) (j : Int), k ≤ N ∧ j = (N : Int) - 1 - (k : Int) ∧ i = .int .i64 j ∧ J k wr ∧ Is wr a N c cs ∧ Arr wr p 29 [.slice a N c]) (fun i _ => (intOf i + 1).toNat)
 case atStart => exact ⟨0, (N : Int) - 1, by omega, by omega, rfl, h0, hx, hp⟩
 case round =>
  clear h0 hx hp hpc s0
  obtain ⟨k, j, hk, hj, rfl, hJk, hx, hp⟩ := hrel
  by_cases hlt : k < N
  ·obtain ⟨i, rfl⟩ : ∃ i : Nat, j = (i : Int) := ⟨N - 1 - k, by omega⟩
   have hik : N - 1 - k = i := by omega
   have hpc : wr.cell? ⟨p, 0, none⟩ = some (.slice a N c) := hp.cell 0
   rcases hx.2.2.2.2 with h0 | ⟨b, o, ha, hbl, hc⟩
   ·omega
   obtain ⟨x, hxx⟩ : ∃ x, x = cs.getD i 0 := ⟨_, rfl⟩
   have hxc := hc i (by omega)
   rw [← hxx] at hxc
   obtain ⟨fn, tmps, assign, body, hy, hR⟩ := hY k wr hlt hJk
   unfold bkE at hy
   rw [hik, ← hxx] at hy
   have HJ : Hid _ := hj
   have HK : Hid _ := hik
   have hiN : (i : Int) < (N : Int) := by omega
   have hi0 : (0 : Int) ≤ (i : Int) := by omega
   subst ha
   clear hxx hY hc hj hik
   gi_wp2
   refine ⟨hwide, hR.mono ?_⟩
   rintro e w4 ⟨rfl, hJ4, hs4⟩
   have hx4 := hx.same hs4 (fun b' o' e => .inr ⟨o', e⟩)
   have hp4 := hp.same hs4 (.inl rfl)
   have s5 : IntKind.i64.wrap ((i : Int) - 1) = (i : Int) - 1 := by rw [IntKind.wrap_i64]; omega
   clear hx hp hs4 hxc hy hR hpc
   gi_wp2
   go_roundw
   case rel => exact ⟨k + 1, (i : Int) - 1, by omega, by have := HJ.out; omega, by go_num, hJ4, hx4, hp4⟩
   case measure => simp [intOf]
  ·have hkn : k = N := by omega
   subst hkn
   have hj0 : ¬ (0 : Int) ≤ j := by omega
   clear hj
   gi_wp2
   go_end0
   exact ⟨⟨_, rfl⟩, hJk⟩
attribute [local go_sem] Oper.semAt_some

structure Ck (w : World) (S N : Nat) (cs : List Int) (k : Nat) (W : World) : Prop where
 sz : S ≤ W.heap.size
 fr : Below w.heap.size w W
 pr : Arr W w.heap.size 92 (I64 Z16)
 pn : Arr W (w.heap.size + 1) 92 (I64 (clm cs (N - k)))
theorem Ck.put {w : World} {S N : Nat} {cs : List Int} (hS : w.heap.size + 2 ≤ S) (k : Nat) (A : World) (o : Obj) (h : Ck w S N cs k A) : Ck w S N cs k (A.putObj (S + 1) o) := by
 have h2 := h.sz
 exact ⟨by simpa using h2, h.fr.grown (grownBy_putObj' _ _ _) h.fr.size (fun j e => by cases e; omega), (World.putObj_heap_other (by omega)).trans h.pr, (World.putObj_heap_other (by omega)).trans h.pn⟩

set_option maxHeartbeats 2000000 in
theorem implColumns (a : Option Addr) (N c : Nat) (cs : List Int) (w : World) (hx : Is w a N c cs) (hN0 : N ≠ 0) (hN : N ≤ 9223372036854775807) (hq : ∀ x ∈ cs, Cq x) (hV : Vr w 6 (I64 OL)) :
  Calls Tryz.prog 60 #[.slice a N c] w fun e w' => e = .returned (.agg (I64 (redO (val cs))).toArray) ∧ Below w.heap.size w w' := by
 have hNl := hx.2.1
 refine (callsIn_wide (n := 3)).1 ?_
 refine callsIn_of_wp_marks Tryz.func60 rfl trivial ?_ rfl
 simp only [Tryz.ntmps60, List.size_toArray, List.length_cons, List.length_nil, Nat.reduceAdd, Nat.reduceSub, Array.replicate_succ, Array.replicate_zero, List.push_toArray, List.append_toArray, List.nil_append, List.cons_append]
 obtain ⟨W0, hW0⟩ : ∃ W0, W0 = (w.alloc (.cells zV 92)).alloc (.cells zV 92) := ⟨_, rfl⟩
 have hS0 : W0.heap.size = w.heap.size + 2 := by rw [hW0]; simp
 have hB0 : Below w.heap.size w W0 := by rw [hW0]; exact ((Below.refl _ _).alloc (Nat.le_refl _) _).alloc (by simp) _
 have hR0 : Arr W0 w.heap.size 92 (I64 Z16) := by rw [hW0]; exact (Arr.new w (I64 Z16) _).alloc _
 have hA0 : Arr W0 (w.heap.size + 1) 92 (I64 Z16) := by
  rw [hW0]
  have := Arr.new (w.alloc (.cells (I64 Z16).toArray 92)) (I64 Z16) 92
  rw [World.size_alloc] at this
  exact this
 gi_wp2
 rw [← hW0]
 refine ⟨trivial, (callsIn_wide.2 (backF a N c W0)).mono ?_⟩
 rintro e w1 ⟨rfl, hp1, hs1, hb1⟩
 rw [hS0] at hp1 hs1
 have hB1 := hB0.trans (hb1.mono hB0.size)
 have hR1 := hR0.kept hb1
 have hA1 := hA0.kept hb1
 have hx1 := hx.below hB1
 have HT : ∀ W, Below w1.heap.size w1 W → TellsR (3 - 1) Tryz.prog 132 #[.pointer (some ⟨w.heap.size + 2, 0, none⟩)] (bkE N cs) N (fun b => b = w.heap.size + 2 ∨ ∃ o, a = some ⟨b, o, none⟩) W := by
  intro W hb
  exact backTells (3 - 1) (w.heap.size + 2) a N c cs W (hp1.kept hb) (hx1.below hb) hN
 have T0 : ∀ W, Below w1.heap.size w1 W → W.heap.size = w1.heap.size + 2 → Ck w w1.heap.size N cs 0 W := fun W hb hz => by
  refine ⟨by omega, hB1.trans (hb.mono hB1.size), hR1.kept hb, ?_⟩
  rw [Nat.sub_zero, ← hNl, clm_end]
  exact hA1.kept hb
 have HKb : ∀ b o, a = some ⟨b, o, none⟩ → b < w.heap.size := fun b o e => by
  rcases hx.2.2.2.2 with h | ⟨b', o', ha, hlt, _⟩
  ·exact (hN0 h).elim
  ·rw [ha] at e; cases e; exact hlt
 clear hB0 hR0 hA0 hb1 hW0 hp1 hR1 hA1 hx1
 gi_wp2
 refine range_tellsR (n := 3) (gf := 132) (lb := #[.pointer (some ⟨w.heap.size + 2, 0, none⟩)]) rfl (enters_of Tryz.func132 (by kernel_rfl) rfl)
  (fun b hb => by rw [hs1]; rcases hb with h | ⟨o, h⟩; omega; have := HKb b o h; omega) HT (fun _ => rfl) (Ck w w1.heap.size N cs) (Ck.put (by omega)) T0
  (fun k => { tmps := #[.slice a N c, undef, .pointer (some ⟨w.heap.size, 0, none⟩), .pointer (some ⟨w.heap.size + 1, 0, none⟩), undef, .int .i64 (cs.getD (N - 1 - k) 0), .slice a N c, .func (.func 132) #[] #[.pointer (some ⟨w.heap.size + 2, 0, none⟩)], .int .i64 ((N - 1 - k : Nat) : Int), .int .i64 (cs.getD (N - 1 - k) 0), undef, undef, undef, undef], defers := [] }) ?assign ?body ?done
 case assign =>
  intro l k W R _ hR
  unfold bkE
  generalize cs.getD (N - 1 - k) 0 = x at hR ⊢
  generalize ((N - 1 - k : Nat) : Int) = y at hR ⊢
  gi_wp2
  exact hR
 case body =>
  clear HT T0
  intro l k W hk hz CK
  obtain ⟨x, hxx⟩ : ∃ x, x = cs.getD (N - 1 - k) 0 := ⟨_, rfl⟩
  obtain ⟨L, hL⟩ : ∃ L, L = clm cs (N - k) := ⟨_, rfl⟩
  have hLo : scOk L = true := by rw [hL]; exact clm_ok _ _
  have hLl := ((scOk_iff L).1 hLo).1
  have hxq : Cq x := by rw [hxx]; exact getD_of hq (by unfold Cq; omega) _
  obtain ⟨R, hR⟩ : ∃ R, R = redO (x + 65536 * val L) := ⟨_, rfl⟩
  have hRl : R.length = 16 := by rw [hR]; exact redO_len _
  have hRe : R = clm cs (N - (k + 1)) := by
   rw [hR, hL, hxx, ← clm_step cs (N - (k + 1)) (by omega), show N - (k + 1) + 1 = N - k by omega, show N - 1 - k = N - (k + 1) by omega]
  have hfr := CK.fr
  have hsz := CK.sz
  have hpn := CK.pn
  have hpr := CK.pr
  rw [← hL] at hpn
  have HC := implLonger L x W hLo hxq (hV.kept hfr)
  rw [← hR] at HC
  have HC' : Hid (Calls Tryz.prog 105 #[.agg (I64 L).toArray, .int .i64 x] W fun e w' => e = .returned (.agg (I64 R).toArray) ∧ Below W.heap.size W w') := HC
  have HRe : Hid _ := hRe
  have hil : (Tryz.prog.info? 92).map (·.size) = some (I64 L).toArray.size := by simpa [hLl] using infoM
  have hir : (Tryz.prog.info? 92).map (·.size) = some (I64 R).toArray.size := by simpa [hRl] using infoM
  generalize ((N - 1 - k : Nat) : Int) = y
  rw [← hxx]
  clear hxx hL hR hRe CK HC hxq hLo
  gi_wp2_with (refine wpListIn_load_row rfl 92 _ rfl (w.heap.size + 1) rfl 92 (I64 L).toArray (0, 0) _ hpn Tryz.underlying92 rfl hil ?_)
  refine ⟨trivial, (CallsIn.inRound l (callsIn_wide.2 HC'.out)).mono ?_⟩
  rintro e w3 ⟨rfl, hb3⟩
  have hpn3 := hpn.kept hb3
  have hpr3 := hpr.kept hb3
  have hfr3 := hfr.trans (hb3.mono hfr.size)
  have hsz3 := hb3.size
  have hwz := hfr.size
  have hW3 : Same (fun b => (b = w.heap.size + 2 ∨ ∃ o, a = some ⟨b, o, none⟩) ∨ b = w1.heap.size ∨ b = w1.heap.size + 1) W (w3.setRow (w.heap.size + 1) (I64 R).toArray) := by
   refine ⟨by simpa using hsz3, fun b hb hbl => ?_⟩
   have hne : b ≠ w.heap.size + 1 := by
    rcases hb with (h | ⟨o, h⟩) | h | h
    ·omega
    ·have := HKb b o h; omega
    ·omega
    ·omega
   rw [setRow_other w3 (w.heap.size + 1) b _ hne]
   exact hb3.block b hbl
  have hfin : Ck w w1.heap.size N cs (k + 1) (w3.setRow (w.heap.size + 1) (I64 R).toArray) :=
   ⟨by simp; omega, setRow_below hfr3 _ _ (by omega), hpr3.rowOther _ _ (by omega), by rw [← HRe.out]; exact hpn3.row _⟩
  have HF : Hid _ := hfin
  have HS : Hid _ := hW3
  clear hfin hW3 hb3 hpn hpr hfr hfr3 hpr3 HC' HRe
  gi_wp2_with (refine wpListIn_store_row rfl 92 _ _ rfl (w.heap.size + 1) (I64 R).toArray rfl rfl 92 _ hpn3 hir (by simp [hLl, hRl]) (by simp [Value.oneCell']) ?_)
  exact ⟨HF.out, HS.out⟩
 case done =>
  clear HT T0
  intro W CK hD
  obtain ⟨R, hR⟩ : ∃ R, R = redO (val cs) := ⟨_, rfl⟩
  have hRl : R.length = 16 := by rw [hR]; exact redO_len _
  have hpn := CK.pn
  rw [Nat.sub_self, clm_zero, ← hR] at hpn
  have hpr := CK.pr
  have hfr := CK.fr
  have hsz := CK.sz
  have hwz := hfr.size
  have hir : (Tryz.prog.info? 92).map (·.size) = some (I64 R).toArray.size := by simpa [hRl] using infoM
  have h2 := hpr.row (I64 R)
  have hD2 : (W.setRow w.heap.size (I64 R).toArray).heap[w1.heap.size]? = some (.deferred (some [])) := (setRow_other W w.heap.size _ _ (by omega)).trans hD
  have HB : Hid (Below w.heap.size w (W.setRow w.heap.size (I64 R).toArray)) := setRow_below hfr w.heap.size (I64 R).toArray (Nat.le_refl _)
  have HR : Hid (R = redO (val cs)) := hR
  clear CK hR hD
  gi_wp2_with (first
   | (refine wpListIn_load_row rfl 92 _ rfl (w.heap.size + 1) rfl 92 (I64 R).toArray (0, 0) _ hpn Tryz.underlying92 rfl hir ?_)
   | (refine wpListIn_store_row rfl 92 _ _ rfl w.heap.size (I64 R).toArray rfl rfl 92 _ hpr hir (by simp [hRl]) (by simp [Value.oneCell']) ?_))
  refine ⟨by simp, .inl ⟨_, _, rfl, run_takeDeferred hD2, ?_⟩⟩
  refine ⟨_, results_cell_row rfl _ _ w.heap.size 92 (I64 R).toArray (0, 0) _ rfl ((World.putObj_heap_other (by omega)).trans h2) Tryz.underlying92 rfl hir, by rw [HR.out], ?_⟩
  exact HB.out.grown (grownBy_putObj' _ _ _) HB.out.size (fun j e => by cases e; omega)
end Go.Proofs.YtihoaakbkffejaaGreatDoor
namespace Go.Proofs.YtihoaakbkffejaaGreatDoor
open Go.RowKit
set_option maxRecDepth 100000
end Go.Proofs.YtihoaakbkffejaaGreatDoor
namespace Go.Proofs.YtihoaakbkffejaaGreatDoor
open Go.RowKit

set_option maxRecDepth 100000
set_option maxHeartbeats 400000 in
theorem growNilI (n : Nat) (w : World) (hn : n ≤ 8388608) :
  Calls Tryz.prog 106 #[.slice none 0 0, .int .i64 n] w fun e w' => ∃ v, e = .returned v ∧ w'.ownsRow w.heap.size 3 1 v 0 (I64 []) ∧ Below w.heap.size w w' := by
 obtain ⟨i0, hi, hz0, hz1, hz2⟩ := info_parts Tryz.info3
 by_cases h0 : n = 0
 ·subst h0
  go_enter Tryz.func106, Tryz.ntmps106
  go_wp2
  go_ret
  exact ⟨_, rfl, World.ownsRow_nil _ _ _ _, Below.refl _ _⟩
 ·have hpos : (0 : Int) < (n : Int) := by omega
  have hrun : ∀ ty, (Builtin.append_ #[29, 3] ty #[.slice none 0 0, .int .i64 (n : Int)]).run Tryz.prog w =
    .ok (.slice (some ⟨w.heap.size, 0, none⟩) n (grownCap w n 0 3)) (w.drew.alloc (.cells (#[] ++ Builtin.zeroCells (Value.int .i64 0).cells n ++ Builtin.zeroCells (Value.int .i64 0).cells (grownCap w n 0 3 - n)) 3)) := fun ty => by
   have h := Lib.run_append_grow_zeros w 29 3 ty 3 i0 (.int .i64 0) .i64 .i64 Tryz.underlying29 Tryz.underlying3 hi hz0 none 0 0 [] (run_firstCells_none w.drew i0.size 0 0 0) n (by omega) (by omega) (by omega) (by omega) (by rw [hz2]; omega)
    (by rw [hz2]; exact growslice_fits (by omega) (by omega))
   simpa using h
  have hGn : n ≤ grownCap w n 0 3 := grownCap_ge w _ _ _
  have hGm : grownCap w n 0 3 ≤ maxLen := grownCap_le_maxLen w n 0 3 (by unfold maxLen; omega)
  obtain ⟨G, hG⟩ : ∃ G, G = grownCap w n 0 3 := ⟨_, rfl⟩
  rw [← hG] at hrun hGn hGm
  clear hG hi hz0 hz1 hz2
  obtain ⟨C, hC⟩ : ∃ C, C = (#[] ++ Builtin.zeroCells (Value.int .i64 0).cells n ++ Builtin.zeroCells (Value.int .i64 0).cells (G - n)) := ⟨_, rfl⟩
  rw [← hC] at hrun
  have hCs : C.size = G * 1 := by rw [hC]; simp [size_zeroCells, Value.cells]; omega
  have HC : Hid (C.size = G * 1) := hCs
  clear hC hCs
  have hGm' := hGm
  unfold maxLen at hGm
  go_enter Tryz.func106, Tryz.ntmps106
  go_wp2_with (at_builtin; refine Lib.wpList_append_run _ rfl _ _ _ _ rfl _ _ rfl rfl _ _ (hrun _) ?_)
  go_ret
  exact ⟨.slice (some ⟨w.heap.size, 0, none⟩) 0 G, rfl, (World.ownsRow_made (base := w.heap.size) (e := 3) (size := 1) w C G (Nat.le_refl _) hGm' HC.out).drew, ((Below.refl _ _).alloc (Nat.le_refl _) _).drew⟩

set_option maxHeartbeats 1000000 in
theorem concat2I (g : Nat) (a a' : Option Addr) (n c n' c' : Nat) (xs ys : List Int) (w : World) (hg : g < w.heap.size)
  (h0 : w.cell? ⟨g, 0, none⟩ = some (.slice a n c)) (h1 : w.cell? ⟨g, 1, none⟩ = some (.slice a' n' c')) (h : Is w a n c xs) (h' : Is w a' n' c' ys) (hn : n ≤ 2098176) (hn' : n' ≤ 2098176) :
  Calls Tryz.prog 61 #[.slice (some ⟨g, 0, none⟩) 2 2] w fun e w' => ∃ v, e = .returned v ∧ w'.ownsRow w.heap.size 3 1 v (n + n') (I64 (xs ++ ys)) ∧ Below w.heap.size w w' := by
 go_enter Tryz.func61, Tryz.ntmps61
 go_wp2
 refine wp_loop_rounds 3 ?_
 rw [rounds_succ]
 go_wp2
 rw [rounds_succ]
 go_wp2
 rw [rounds_succ]
 go_wp2_with fail
 have eN : ((n : Int) + (n' : Int)) = ((n + n' : Nat) : Int) := by omega
 rw [eN]
 refine (growNilI (n + n') w (by omega)).mono ?_
 rintro e w1 ⟨v1, rfl, hown1, b1⟩
 have q0 : w1.cell? ⟨g, 0, none⟩ = some (.slice a n c) := (b1.cell (p := ⟨g, 0, none⟩) hg).trans h0
 have q1 : w1.cell? ⟨g, 1, none⟩ = some (.slice a' n' c') := (b1.cell (p := ⟨g, 1, none⟩) hg).trans h1
 have s1 := b1.size
 have hx1 := h.below b1
 clear h0 h1 eN
 go_wp2
 refine wp_loop_rounds 3 ?_
 rw [rounds_succ]
 go_wp2_with (at_builtin; refine wpl_append_is rfl _ _ rfl w.heap.size _ 0 [] rfl a n c xs rfl hown1 hx1 ?_ ?_ ?_)
 ·omega
 ·omega
 intro v2 w2 hown2 hgr2 _
 have b2 : Below w.heap.size w w2 := below_appI0 b1 s1 hown1 hgr2
 have q1' : w2.cell? ⟨g, 1, none⟩ = some (.slice a' n' c') := (b2.cell (p := ⟨g, 1, none⟩) hg).trans ((b1.cell (p := ⟨g, 1, none⟩) hg).symm.trans q1)
 have s2 := b2.size
 have hy2 := h'.below b2
 clear hgr2 hown1 b1 q0 q1 s1 hx1 h h'
 go_wp2
 rw [rounds_succ]
 go_wp2_with (at_builtin; refine wpl_append_is rfl _ _ rfl w.heap.size _ n xs rfl a' n' c' ys rfl hown2 hy2 ?_ ?_ ?_)
 ·omega
 ·omega
 intro v3 w3 hown3 hgr3 _
 have b3 : Below w.heap.size w w3 := below_appI0 b2 s2 hown2 hgr3
 clear hgr3 hown2 b2 q1' s2 hy2
 go_wp2
 rw [rounds_succ]
 go_wp2
 go_ret
 exact ⟨v3, rfl, by simpa using hown3, b3⟩

end Go.Proofs.YtihoaakbkffejaaGreatDoor
namespace Go.Proofs.YtihoaakbkffejaaGreatDoor
open Go.RowKit
set_option maxRecDepth 100000

theorem ext16 {a b : List Int} (ha : a.length = 16) (hb : b.length = 16) (h : ∀ i, i < 16 → a.getD i 0 = b.getD i 0) : a = b := by
 apply List.ext_getElem (by omega)
 intro i h1 h2
 have := h i (by omega)
 simpa [List.getD, h1, h2] using this
theorem rd_bt {l : List Int} (hl : l.length = 16) : rdL (btL l) = l := by
 apply ext16 (rdL_len _) hl
 intro i hi
 have := btL_get l i (by omega)
 rw [rdL_get _ _ hi, this.1, this.2]
 omega
theorem ext32 {a b : List Int} {n : Nat} (ha : a.length = n) (hb : b.length = n) (h : ∀ i, i < n → a.getD i 0 = b.getD i 0) : a = b := by
 apply List.ext_getElem (by omega)
 intro i h1 h2
 have := h i (by omega)
 simpa [List.getD, h1, h2] using this
theorem bt_rd {bs : List Int} (hl : bs.length = 32) (hb : ∀ x ∈ bs, 0 ≤ x ∧ x < 256) : btL (rdL bs) = bs := by
 apply ext32 (n := 32) (by rw [btL_len, rdL_len]) hl
 intro i hi
 have h1 := btL_get (rdL bs) (i / 2) (by rw [rdL_len]; omega)
 rw [rdL_get _ _ (by omega)] at h1
 have g1 := gD_u8 hb (2 * (i / 2))
 have g2 := gD_u8 hb (2 * (i / 2) + 1)
 by_cases hp : i % 2 = 0
 ·have e : 2 * (i / 2) = i := by omega
  rw [e] at h1 g1
  rw [h1.1]
  rw [e] at g2
  omega
 ·have e : 2 * (i / 2) + 1 = i := by omega
  rw [e] at h1 g2
  rw [h1.2]
  omega
end Go.Proofs.YtihoaakbkffejaaGreatDoor
