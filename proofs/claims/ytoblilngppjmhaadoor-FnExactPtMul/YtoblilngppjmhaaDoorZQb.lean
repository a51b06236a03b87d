/-
  What is proved here: a multiplier of the program is sixteen cells, as limbs are: how it is built and how its part is taken; the contract of the program's multiplierOf; where the program's variable holds the order; a multiplier out of the parts of a list: limbsOf and multiplierOf together; where the program's variable holds the order.
-/
import Derived.Test.YtoblilngppjmhaaDoorZYe
import Derived.Test.YtoblilngppjmhaaDoorZJa
import Derived.Test.YtoblilngppjmhaaDoorZUa
import Derived.Test.YtoblilngppjmhaaDoorZKlB
import Derived.Test.YtoblilngppjmhaaDoorZFn
import Derived.Test.YtoblilngppjmhaaDoorZJlo
namespace Go.Proofs.YtoblilngppjmhaaDoor
open Go.RowKit
set_option maxRecDepth 100000

theorem infoM : (Tryd.prog.info? 89).map (·.size) = some 16 := by kernel_rfl
theorem built_mu {l : List Int} (h : l.length = 16) : Tryd.prog.built 89 [(0, .agg (I64 l).toArray)] = some (I64 l).toArray := by
  obtain ⟨a0, a1, a2, a3, a4, a5, a6, a7, a8, a9, a10, a11, a12, a13, a14, a15, rfl⟩ := list16 h
  kernel_rfl
theorem field_mu {l : List Int} (h : l.length = 16) (w : World) : (Instr.field 89 (.agg (I64 l).toArray) 0).run Tryd.prog w = .ok (.agg (I64 l).toArray) w := by
  obtain ⟨a0, a1, a2, a3, a4, a5, a6, a7, a8, a9, a10, a11, a12, a13, a14, a15, rfl⟩ := list16 h
  kernel_rfl
theorem build_mu {l : List Int} (h : l.length = 16) (w : World) : (Instr.build 89 #[(0, .agg (I64 l).toArray)]).run Tryd.prog w = .ok (.agg (I64 l).toArray) w := by
  obtain ⟨a0, a1, a2, a3, a4, a5, a6, a7, a8, a9, a10, a11, a12, a13, a14, a15, rfl⟩ := list16 h
  kernel_rfl
theorem wpList_mu {ops : Array Oper} {rest : List Oper} {o : Oper} {a : Act} {w : World} {Q : Exit → Act → World → Prop} (hg : o.guard = none) (x : Operand) (ho : o.op = .build 89 #[(0, x)]) (l : List Int) (hl : l.length = 16) (hx : a.eval x = .agg (I64 l).toArray)
    (h : wpList Tryd.prog ops Q rest (a.put o.dst (.agg (I64 l).toArray)) w) : wpList Tryd.prog ops Q (o :: rest) a w := by
  have hb : Tryd.prog.built 89 ((#[(0, x)] : Array (Nat × Operand)).map fun (i, x) => (i, a.eval x)).toList = some (I64 l).toArray := by
    simp only [List.map_toArray, List.map_cons, List.map_nil, hx]
    exact built_mu hl
  exact wpList_build hg 89 #[(0, x)] ho (by rw [hb]; rfl) (by rw [hb]; exact h)
theorem wpList_part {ops : Array Oper} {rest : List Oper} {o : Oper} {a : Act} {w : World} {Q : Exit → Act → World → Prop} (hg : o.guard = none) (x : Operand) (ho : o.op = .field 89 x 0) (l : List Int) (hl : l.length = 16) (hx : a.eval x = .agg (I64 l).toArray)
    (h : wpList Tryd.prog ops Q rest (a.put o.dst (.agg (I64 l).toArray)) w) : wpList Tryd.prog ops Q (o :: rest) a w :=
  wpList_plain hg fun _ hK => by
    unfold Oper.wp execOp
    simp only [ho, hx, Sem.run_bind, field_mu hl w, Sem.run_pure, Result.andThen_ok]
    exact hK _ _ h
theorem yieldsIf_mu {ops : Array Oper} {S : World → Prop} {op : Oper} {a : Act} (hw : Region.wanted op (yielded ops a.tmps) = true) (x : Operand) (ho : op.op = .build 89 #[(0, x)]) (l : List Int) (hl : l.length = 16) (hx : a.eval x = .agg (I64 l).toArray) : YieldsIf Tryd.prog ops S op (.agg (I64 l).toArray) a :=
  .inl ⟨hw, fun w _ => by
    unfold execOp
    simp only [ho, hx, Sem.run_bind, List.map_toArray, List.map_cons, List.map_nil, build_mu hl w, Sem.run_pure, Result.andThen_ok]⟩

/-- Whether limbs are a multiplier; it, or none. -/
def muB (n : List Int) (ok : Bool) : Bool := ok && decide (val n < qO)
def muL (n : List Int) (ok : Bool) : List Int := if muB n ok = true then n else Z16
theorem muL_len {n : List Int} {ok : Bool} (h : n.length = 16) : (muL n ok).length = 16 := by unfold muL; split <;> simp [h]

/-- The limbs, the result's cell, and the program's order. -/
structure M2 (w W : World) (a : List Int) : Prop where
  fr : Below w.heap.size w W
  pa : Arr W w.heap.size 70 (I64 a)
  pr : Arr W (w.heap.size + 1) 89 (I64 Z16)
  vr : Vr W 3 (I64 OL)
  g0 : 3 < w.heap.size
theorem M2.go {w A B : World} {a : List Int} (h : M2 w A a) (hb : Below A.heap.size A B) : M2 w B a := ⟨h.fr.trans (hb.mono h.fr.size), h.pa.kept hb, h.pr.kept hb, h.vr.kept hb, h.g0⟩
theorem M2.all {w W : World} {a : List Int} (h : M2 w W a) : W.rangeAt w.heap.size 0 (I64 a) ∧ W.rangeAt 3 0 (I64 OL) := ⟨arr_range h.pa, vr_range h.vr⟩
theorem M2.new {w : World} (a : List Int) (h : Vr w 3 (I64 OL)) : M2 w ((w.alloc (.cells (I64 a).toArray 70)).alloc (.cells (I64 Z16).toArray 89)) a := by
  have hb : Below w.heap.size w ((w.alloc (.cells (I64 a).toArray 70)).alloc (.cells (I64 Z16).toArray 89)) := ((Below.refl _ _).alloc (Nat.le_refl _) _).alloc (by simp) _
  refine ⟨hb, (Arr.new w (I64 a) _).alloc _, ?_, h.kept hb, h.lt⟩
  have := Arr.new (w.alloc (.cells (I64 a).toArray 70)) (I64 Z16) 89
  rw [World.size_alloc] at this
  exact this
/-- The result is stored. -/
theorem M2.put {w W : World} {a R : List Int} (h : M2 w W a) (hR : R.length = 16) : Arr (W.setCells (w.heap.size + 1) 0 (I64 R)) (w.heap.size + 1) 89 (I64 R) ∧ Below w.heap.size w (W.setCells (w.heap.size + 1) 0 (I64 R)) ∧
    ((W.setCells (w.heap.size + 1) 0 (I64 R)).rangeAt w.heap.size 0 (I64 a) ∧ (W.setCells (w.heap.size + 1) 0 (I64 R)).rangeAt 3 0 (I64 OL)) ∧ W.there (w.heap.size + 1) 0 (I64 R).toArray.size := by
  have h0 : 3 ≠ w.heap.size + 1 := by have := h.g0; omega
  exact ⟨Arr.setCells0 h.pr (by simp [hR]), setCells_below (by omega) _ _ h.fr, ⟨arr_range (Arr.setCellsO (by omega) _ _ h.pa), vr_range (Vr.setCellsO h0 h.vr)⟩, by have := arr_there h.pr; simpa [hR] using this⟩

set_option maxHeartbeats 2000000 in
theorem implMuOf (n : List Int) (ok : Bool) (w : World) (hl : n.length = 16) (hm : Lm n) (hV : Vr w 3 (I64 OL)) :
    Calls Tryd.prog 66 #[.agg (I64 n).toArray, .bool ok] w fun e w' => e = .returned (.tuple #[.agg (I64 (muL n ok)).toArray, .bool (muB n ok)]) ∧ Below w.heap.size w w' := by
  obtain ⟨d, hd⟩ : ∃ d, d = decide (val n < qO) := ⟨_, rfl⟩
  have HBL : Hid (∀ Z, Calls Tryd.prog 118 #[.agg (I64 n).toArray, .agg (I64 OL).toArray] Z fun e w' => e = .returned (.bool d) ∧ Below Z.heap.size Z w') := by
    unfold Hid; intro Z
    have := implBelow n OL Z hl OL_len hm OL_lm
    rw [OL_val, ← hd] at this
    exact this
  obtain ⟨B, hB⟩ : ∃ B, B = muB n ok := ⟨_, rfl⟩
  obtain ⟨L, hL⟩ : ∃ L, L = muL n ok := ⟨_, rfl⟩
  have HB0 : Hid (ok = false → B = false) := by unfold Hid; intro h; rw [hB, h]; rfl
  have HB1 : Hid (ok = true → B = d) := by unfold Hid; intro h; rw [hB, h, hd]; rfl
  have HL0 : Hid (B = false → L = Z16) := by unfold Hid; intro h; rw [hL]; unfold muL; rw [← hB, h]; rfl
  have HL1 : Hid (B = true → L = n) := by unfold Hid; intro h; rw [hL]; unfold muL; rw [← hB, h]; rfl
  rw [← hB, ← hL]
  obtain ⟨W, hW⟩ : ∃ W, W = (w.alloc (.cells (I64 n).toArray 70)).alloc (.cells #[.int .i64 0, .int .i64 0, .int .i64 0, .int .i64 0, .int .i64 0, .int .i64 0, .int .i64 0, .int .i64 0, .int .i64 0, .int .i64 0, .int .i64 0, .int .i64 0, .int .i64 0, .int .i64 0, .int .i64 0, .int .i64 0] 89) := ⟨_, rfl⟩
  have EE : M2 w W n := by rw [hW]; exact M2.new n hV
  obtain ⟨A, hA⟩ : ∃ A, A = (I64 n).toArray := ⟨_, rfl⟩
  rw [← hA] at hW ⊢
  have hin : (Tryd.prog.info? 70).map (·.size) = some (I64 n).toArray.size := by simpa [hl] using infoL
  have hinm : (Tryd.prog.info? 89).map (·.size) = some (I64 n).toArray.size := by simpa [hl] using infoM
  have hip : (Tryd.prog.info? 70).map (·.size) = some (I64 OL).toArray.size := infoL
  clear hd hB hL hA hV hm
  cases ok with
  | false =>
    obtain rfl : B = false := HB0.out rfl
    have HE : Hid (L = Z16) := HL0.out rfl
    have h2 := EE.pr.row (I64 Z16)
    have HB : Hid _ := setRow_below EE.fr (w.heap.size + 1) (I64 Z16).toArray (by omega)
    have h1 := hW ▸ EE.pr
    rw [hW] at h2 HB
    clear HBL HB0 HB1 HL0 HL1 EE hW
    go_enter Tryd.func66, Tryd.ntmps66
    go_wp2_with (refine wpList_store_row rfl 89 _ _ rfl (w.heap.size + 1) (I64 Z16).toArray rfl rfl 89 _ h1 infoM rfl (by simp [Value.oneCell']) ?_)
    exact bodyPost_ret (results_row_tmp (v := .bool false) (cs := I64 Z16) rfl rfl rfl h2 Tryd.underlying89 rfl infoM) rfl ⟨by rw [HE.out], HB.out⟩
  | true =>
    obtain rfl : B = d := HB1.out rfl
    have E0 := hW ▸ EE
    obtain ⟨gt, gz, hg⟩ := E0.vr
    clear HB0 HB1
    go_enter Tryd.func66, Tryd.ntmps66
    go_wp2_with (first
      | (refine wpList_load_rowW rfl 70 _ rfl w.heap.size rfl 70 (I64 n).toArray (0, 0) _ E0.pa Tryd.underlying70 rfl hin ?_)
      | (refine wpList_load_rowW rfl 70 _ rfl 3 rfl gt (I64 OL).toArray gz _ hg Tryd.underlying70 rfl hip ?_))
    rw [← hW]
    clear hW E0 hg
    refine (HBL.out _).mono ?_
    rintro e w1 ⟨rfl, hb1⟩
    replace EE := EE.go hb1
    clear hb1 HBL
    cases B with
    | false =>
      have HE : Hid (L = Z16) := HL0.out rfl
      have h1 := EE.pr
      have h2 := EE.pr.row (I64 Z16)
      have HB : Hid _ := setRow_below EE.fr (w.heap.size + 1) (I64 Z16).toArray (by omega)
      clear HL0 HL1 EE
      go_wp2_with (refine wpList_store_row rfl 89 _ _ rfl (w.heap.size + 1) (I64 Z16).toArray rfl rfl 89 _ h1 infoM rfl (by simp [Value.oneCell']) ?_)
      exact bodyPost_ret (results_row_tmp (v := .bool false) (cs := I64 Z16) rfl rfl rfl h2 Tryd.underlying89 rfl infoM) rfl ⟨by rw [HE.out], HB.out⟩
    | true =>
      have HE : Hid (L = n) := HL1.out rfl
      have h0 := EE.pa
      have h1 := EE.pr
      have h2 := EE.pr.row (I64 n)
      have HB : Hid _ := setRow_below EE.fr (w.heap.size + 1) (I64 n).toArray (by omega)
      clear HL0 HL1 EE
      go_wp2_with (first
        | (refine wpList_load_row rfl 70 _ rfl w.heap.size rfl 70 (I64 n).toArray (0, 0) _ h0 Tryd.underlying70 rfl hin ?_)
        | (refine wpList_mu rfl _ rfl n hl rfl ?_)
        | (refine wpList_store_row rfl 89 _ _ rfl (w.heap.size + 1) (I64 n).toArray rfl rfl 89 _ h1 hinm (by simp [hl]) (by simp [Value.oneCell']) ?_))
      exact bodyPost_ret (results_row_tmp (v := .bool true) (cs := I64 n) rfl rfl rfl h2 Tryd.underlying89 rfl (by simpa [hl] using infoM)) rfl ⟨by rw [HE.out], HB.out⟩
end Go.Proofs.YtoblilngppjmhaaDoor
namespace Go.Proofs.YtoblilngppjmhaaDoor
open Go.RowKit
set_option maxRecDepth 100000

/-- A slice as a multiplier; it, or none. -/
def scL (xs : List Int) : List Int := if scOk xs = true then xs else Z16
theorem scL_len (xs : List Int) : (scL xs).length = 16 := by
  unfold scL
  split
  · rename_i h; exact ((scOk_iff xs).1 h).1
  · rfl
theorem lmL_lm (xs : List Int) : Lm (lmL xs) := by
  unfold lmL
  split
  · rename_i h; exact ((lmOk_iff xs).1 h).2
  · intro x hx
    have : x = 0 := by simpa using hx
    omega
theorem scOk_lm (l : List Int) : scOk l = (lmOk l && decide (val l < qO)) := rfl
theorem muB_sc (xs : List Int) : muB (lmL xs) (lmOk xs) = scOk xs := by
  unfold muB
  rw [scOk_lm]
  cases h : lmOk xs with
  | false => rfl
  | true =>
    have e : lmL xs = xs := by unfold lmL; rw [if_pos h]
    rw [e]
theorem muL_sc (xs : List Int) : muL (lmL xs) (lmOk xs) = scL xs := by
  unfold muL scL
  rw [muB_sc]
  cases h : scOk xs with
  | false => rfl
  | true =>
    have h2 : lmOk xs = true := by rw [scOk_lm] at h; simp at h; exact h.1
    unfold lmL
    rw [if_pos h2]
/-- multiplierOf of what limbsOf answers. -/
theorem implMuSc (xs : List Int) (w : World) (hV : Vr w 3 (I64 OL)) :
    Calls Tryd.prog 66 #[.agg (I64 (lmL xs)).toArray, .bool (lmOk xs)] w fun e w' => e = .returned (.tuple #[.agg (I64 (scL xs)).toArray, .bool (scOk xs)]) ∧ Below w.heap.size w w' := by
  have := implMuOf (lmL xs) (lmOk xs) w (lmL_len xs) (lmL_lm xs) hV
  rw [muB_sc, muL_sc] at this
  exact this
end Go.Proofs.YtoblilngppjmhaaDoor
