/-
  What is proved here: a multiplier of the program is sixteen cells, as limbs are: how it is built and how its part is taken; the contract of the program's multiplierOf; where the program's variable holds the order; contracts of the program's methods sum and orderSettled: the sum of two multipliers; what is below 2^270 brought below the order; where the program's variable holds the order.
-/
import Derived.Test.YtlafcjoccbinaaaDoorZL
import Derived.Test.YtlafcjoccbinaaaDoorZM
import Derived.Test.YtlafcjoccbinaaaDoorZQa
import Derived.Test.YtlafcjoccbinaaaDoorZFq
namespace Go.Proofs.YtlafcjoccbinaaaDoor
open Go.RowKit
set_option maxRecDepth 100000

theorem infoM : (Tryd.prog.info? 51).map (·.size) = some 16 := by kernel_rfl
theorem built_mu {l : List Int} (h : l.length = 16) : Tryd.prog.built 51 [(0, .agg (I64 l).toArray)] = some (I64 l).toArray := by
  obtain ⟨a0, a1, a2, a3, a4, a5, a6, a7, a8, a9, a10, a11, a12, a13, a14, a15, rfl⟩ := list16 h
  kernel_rfl
theorem field_mu {l : List Int} (h : l.length = 16) (w : World) : (Instr.field 51 (.agg (I64 l).toArray) 0).run Tryd.prog w = .ok (.agg (I64 l).toArray) w := by
  obtain ⟨a0, a1, a2, a3, a4, a5, a6, a7, a8, a9, a10, a11, a12, a13, a14, a15, rfl⟩ := list16 h
  kernel_rfl
theorem build_mu {l : List Int} (h : l.length = 16) (w : World) : (Instr.build 51 #[(0, .agg (I64 l).toArray)]).run Tryd.prog w = .ok (.agg (I64 l).toArray) w := by
  obtain ⟨a0, a1, a2, a3, a4, a5, a6, a7, a8, a9, a10, a11, a12, a13, a14, a15, rfl⟩ := list16 h
  kernel_rfl
theorem wpList_mu {ops : Array Oper} {rest : List Oper} {o : Oper} {a : Act} {w : World} {Q : Exit → Act → World → Prop} (hg : o.guard = none) (x : Operand) (ho : o.op = .build 51 #[(0, x)]) (l : List Int) (hl : l.length = 16) (hx : a.eval x = .agg (I64 l).toArray)
    (h : wpList Tryd.prog ops Q rest (a.put o.dst (.agg (I64 l).toArray)) w) : wpList Tryd.prog ops Q (o :: rest) a w := by
  have hb : Tryd.prog.built 51 ((#[(0, x)] : Array (Nat × Operand)).map fun (i, x) => (i, a.eval x)).toList = some (I64 l).toArray := by
    simp only [List.map_toArray, List.map_cons, List.map_nil, hx]
    exact built_mu hl
  exact wpList_build hg 51 #[(0, x)] ho (by rw [hb]; rfl) (by rw [hb]; exact h)
theorem wpList_part {ops : Array Oper} {rest : List Oper} {o : Oper} {a : Act} {w : World} {Q : Exit → Act → World → Prop} (hg : o.guard = none) (x : Operand) (ho : o.op = .field 51 x 0) (l : List Int) (hl : l.length = 16) (hx : a.eval x = .agg (I64 l).toArray)
    (h : wpList Tryd.prog ops Q rest (a.put o.dst (.agg (I64 l).toArray)) w) : wpList Tryd.prog ops Q (o :: rest) a w :=
  wpList_plain hg fun _ hK => by
    unfold Oper.wp execOp
    simp only [ho, hx, Sem.run_bind, field_mu hl w, Sem.run_pure, Result.andThen_ok]
    exact hK _ _ h
theorem yieldsIf_mu {ops : Array Oper} {S : World → Prop} {op : Oper} {a : Act} (hw : Region.wanted op (yielded ops a.tmps) = true) (x : Operand) (ho : op.op = .build 51 #[(0, x)]) (l : List Int) (hl : l.length = 16) (hx : a.eval x = .agg (I64 l).toArray) : YieldsIf Tryd.prog ops S op (.agg (I64 l).toArray) a :=
  .inl ⟨hw, fun w _ => by
    unfold execOp
    simp only [ho, hx, Sem.run_bind, List.map_toArray, List.map_cons, List.map_nil, build_mu hl w, Sem.run_pure, Result.andThen_ok]⟩

/-- Whether limbs are a multiplier; it, or none. -/
def muB (n : List Int) (ok : Bool) : Bool := ok && decide (val n < qO)
def muL (n : List Int) (ok : Bool) : List Int := if muB n ok = true then n else Z16
theorem muL_len {n : List Int} {ok : Bool} (h : n.length = 16) : (muL n ok).length = 16 := by unfold muL; split <;> simp [h]

/-- The limbs, the result's cell, and the program's order. -/
structure M2 (w W : World) (a : List Int) : Prop where
  fr : Below w.heap.size w W
  pa : Arr W w.heap.size 49 (I64 a)
  pr : Arr W (w.heap.size + 1) 51 (I64 Z16)
  vr : Vr W 0 (I64 OL)
theorem M2.go {w A B : World} {a : List Int} (h : M2 w A a) (hb : Below A.heap.size A B) : M2 w B a := ⟨h.fr.trans (hb.mono h.fr.size), h.pa.kept hb, h.pr.kept hb, h.vr.kept hb⟩
theorem M2.all {w W : World} {a : List Int} (h : M2 w W a) : W.rangeAt w.heap.size 0 (I64 a) ∧ W.rangeAt 0 0 (I64 OL) := ⟨arr_range h.pa, vr_range h.vr⟩
theorem M2.new {w : World} (a : List Int) (h : Vr w 0 (I64 OL)) : M2 w ((w.alloc (.cells (I64 a).toArray 49)).alloc (.cells (I64 Z16).toArray 51)) a := by
  have hb : Below w.heap.size w ((w.alloc (.cells (I64 a).toArray 49)).alloc (.cells (I64 Z16).toArray 51)) := ((Below.refl _ _).alloc (Nat.le_refl _) _).alloc (by simp) _
  refine ⟨hb, (Arr.new w (I64 a) _).alloc _, ?_, h.kept hb⟩
  have := Arr.new (w.alloc (.cells (I64 a).toArray 49)) (I64 Z16) 51
  rw [World.size_alloc] at this
  exact this
/-- The result is stored. -/
theorem M2.put {w W : World} {a R : List Int} (h : M2 w W a) (hR : R.length = 16) : Arr (W.setCells (w.heap.size + 1) 0 (I64 R)) (w.heap.size + 1) 51 (I64 R) ∧ Below w.heap.size w (W.setCells (w.heap.size + 1) 0 (I64 R)) ∧
    ((W.setCells (w.heap.size + 1) 0 (I64 R)).rangeAt w.heap.size 0 (I64 a) ∧ (W.setCells (w.heap.size + 1) 0 (I64 R)).rangeAt 0 0 (I64 OL)) ∧ W.there (w.heap.size + 1) 0 (I64 R).toArray.size := by
  have h0 : 0 ≠ w.heap.size + 1 := by omega
  exact ⟨Arr.setCells0 h.pr (by simp [hR]), setCells_below (by omega) _ _ h.fr, ⟨arr_range (Arr.setCellsO (by omega) _ _ h.pa), vr_range (Vr.setCellsO h0 h.vr)⟩, by have := arr_there h.pr; simpa [hR] using this⟩

set_option maxHeartbeats 2000000 in
theorem implMuOf (n : List Int) (ok : Bool) (w : World) (hl : n.length = 16) (hm : Lm n) (hV : Vr w 0 (I64 OL)) :
    Calls Tryd.prog 42 #[.agg (I64 n).toArray, .bool ok] w fun e w' => e = .returned (.tuple #[.agg (I64 (muL n ok)).toArray, .bool (muB n ok)]) ∧ Below w.heap.size w w' := by
  obtain ⟨d, hd⟩ : ∃ d, d = decide (val n < qO) := ⟨_, rfl⟩
  have HBL : Hid (∀ Z, Calls Tryd.prog 71 #[.agg (I64 n).toArray, .agg (I64 OL).toArray] Z fun e w' => e = .returned (.bool d) ∧ Below Z.heap.size Z w') := by
    unfold Hid; intro Z
    have := implBelow n OL Z hl OL_len hm OL_lm
    rw [OL_val, ← hd] at this
    exact this
  obtain ⟨B, hB⟩ : ∃ B, B = muB n ok := ⟨_, rfl⟩
  obtain ⟨L, hL⟩ : ∃ L, L = muL n ok := ⟨_, rfl⟩
  have HB0 : Hid (ok = false → B = false) := by unfold Hid; intro h; rw [hB, h]; rfl
  have HB1 : Hid (ok = true → B = d) := by unfold Hid; intro h; rw [hB, h, hd]; rfl
  have HL0 : Hid (B = false → L = Z16) := by unfold Hid; intro h; rw [hL]; unfold muL; rw [← hB, h]; rfl
  have HL1 : Hid (B = true → L = n) := by unfold Hid; intro h; rw [hL]; unfold muL; rw [← hB, h]; rfl
  rw [← hB, ← hL]
  obtain ⟨W, hW⟩ : ∃ W, W = (w.alloc (.cells (I64 n).toArray 49)).alloc (.cells #[.int .i64 0, .int .i64 0, .int .i64 0, .int .i64 0, .int .i64 0, .int .i64 0, .int .i64 0, .int .i64 0, .int .i64 0, .int .i64 0, .int .i64 0, .int .i64 0, .int .i64 0, .int .i64 0, .int .i64 0, .int .i64 0] 51) := ⟨_, rfl⟩
  have EE : M2 w W n := by rw [hW]; exact M2.new n hV
  obtain ⟨A, hA⟩ : ∃ A, A = (I64 n).toArray := ⟨_, rfl⟩
  rw [← hA] at hW ⊢
  have hin : (Tryd.prog.info? 49).map (·.size) = some (I64 n).toArray.size := by simpa [hl] using infoL
  have hinm : (Tryd.prog.info? 51).map (·.size) = some (I64 n).toArray.size := by simpa [hl] using infoM
  have hip : (Tryd.prog.info? 49).map (·.size) = some (I64 OL).toArray.size := infoL
  clear hd hB hL hA hV hm
  cases ok with
  | false =>
    obtain rfl : B = false := HB0.out rfl
    have HE : Hid (L = Z16) := HL0.out rfl
    have h2 := EE.pr.row (I64 Z16)
    have HB : Hid _ := setRow_below EE.fr (w.heap.size + 1) (I64 Z16).toArray (by omega)
    have h1 := hW ▸ EE.pr
    rw [hW] at h2 HB
    clear HBL HB0 HB1 HL0 HL1 EE hW
    go_enter Tryd.func42, Tryd.ntmps42
    go_wp2_with (refine wpList_store_row rfl 51 _ _ rfl (w.heap.size + 1) (I64 Z16).toArray rfl rfl 51 _ h1 infoM rfl (by simp [Value.oneCell']) ?_)
    exact bodyPost_ret (results_row_tmp (v := .bool false) (cs := I64 Z16) rfl rfl rfl h2 Tryd.underlying51 rfl infoM) rfl ⟨by rw [HE.out], HB.out⟩
  | true =>
    obtain rfl : B = d := HB1.out rfl
    have E0 := hW ▸ EE
    obtain ⟨gt, gz, hg⟩ := E0.vr
    clear HB0 HB1
    go_enter Tryd.func42, Tryd.ntmps42
    go_wp2_with (first
      | (refine wpList_load_rowW rfl 49 _ rfl w.heap.size rfl 49 (I64 n).toArray (0, 0) _ E0.pa Tryd.underlying49 rfl hin ?_)
      | (refine wpList_load_rowW rfl 49 _ rfl 0 rfl gt (I64 OL).toArray gz _ hg Tryd.underlying49 rfl hip ?_))
    rw [← hW]
    clear hW E0 hg
    refine (HBL.out _).mono ?_
    rintro e w1 ⟨rfl, hb1⟩
    replace EE := EE.go hb1
    clear hb1 HBL
    cases B with
    | false =>
      have HE : Hid (L = Z16) := HL0.out rfl
      have h1 := EE.pr
      have h2 := EE.pr.row (I64 Z16)
      have HB : Hid _ := setRow_below EE.fr (w.heap.size + 1) (I64 Z16).toArray (by omega)
      clear HL0 HL1 EE
      go_wp2_with (refine wpList_store_row rfl 51 _ _ rfl (w.heap.size + 1) (I64 Z16).toArray rfl rfl 51 _ h1 infoM rfl (by simp [Value.oneCell']) ?_)
      exact bodyPost_ret (results_row_tmp (v := .bool false) (cs := I64 Z16) rfl rfl rfl h2 Tryd.underlying51 rfl infoM) rfl ⟨by rw [HE.out], HB.out⟩
    | true =>
      have HE : Hid (L = n) := HL1.out rfl
      have h0 := EE.pa
      have h1 := EE.pr
      have h2 := EE.pr.row (I64 n)
      have HB : Hid _ := setRow_below EE.fr (w.heap.size + 1) (I64 n).toArray (by omega)
      clear HL0 HL1 EE
      go_wp2_with (first
        | (refine wpList_load_row rfl 49 _ rfl w.heap.size rfl 49 (I64 n).toArray (0, 0) _ h0 Tryd.underlying49 rfl hin ?_)
        | (refine wpList_mu rfl _ rfl n hl rfl ?_)
        | (refine wpList_store_row rfl 51 _ _ rfl (w.heap.size + 1) (I64 n).toArray rfl rfl 51 _ h1 hinm (by simp [hl]) (by simp [Value.oneCell']) ?_))
      exact bodyPost_ret (results_row_tmp (v := .bool true) (cs := I64 n) rfl rfl rfl h2 Tryd.underlying51 rfl (by simpa [hl] using infoM)) rfl ⟨by rw [HE.out], HB.out⟩
end Go.Proofs.YtlafcjoccbinaaaDoor
namespace Go.Proofs.YtlafcjoccbinaaaDoor
open Go.RowKit
set_option maxRecDepth 100000

/-- Two multipliers that are read, the result's cell, and the program's order. -/
structure M4 (w W : World) (a b : List Int) : Prop where
  fr : Below w.heap.size w W
  pa : Arr W w.heap.size 51 (I64 a)
  pb : Arr W (w.heap.size + 1) 51 (I64 b)
  pr : Arr W (w.heap.size + 2) 51 (I64 Z16)
  vr : Vr W 0 (I64 OL)
theorem M4.go {w A B : World} {a b : List Int} (h : M4 w A a b) (hb : Below A.heap.size A B) : M4 w B a b := ⟨h.fr.trans (hb.mono h.fr.size), h.pa.kept hb, h.pb.kept hb, h.pr.kept hb, h.vr.kept hb⟩
theorem M4.all {w W : World} {a b : List Int} (h : M4 w W a b) : W.rangeAt w.heap.size 0 (I64 a) ∧ W.rangeAt (w.heap.size + 1) 0 (I64 b) ∧ W.rangeAt 0 0 (I64 OL) := ⟨arr_range h.pa, arr_range h.pb, vr_range h.vr⟩
theorem M4.new {w : World} (a b : List Int) (h : Vr w 0 (I64 OL)) : M4 w (((w.alloc (.cells (I64 a).toArray 51)).alloc (.cells (I64 b).toArray 51)).alloc (.cells (I64 Z16).toArray 51)) a b := by
  have hb : Below w.heap.size w (((w.alloc (.cells (I64 a).toArray 51)).alloc (.cells (I64 b).toArray 51)).alloc (.cells (I64 Z16).toArray 51)) := (((Below.refl _ _).alloc (Nat.le_refl _) _).alloc (by simp) _).alloc (by simp; omega) _
  refine ⟨hb, ((Arr.new w (I64 a) _).alloc _).alloc _, ?_, ?_, h.kept hb⟩
  · have := (Arr.new (w.alloc (.cells (I64 a).toArray 51)) (I64 b) 51).alloc (.cells (I64 Z16).toArray 51)
    rw [World.size_alloc] at this
    exact this
  · have := Arr.new ((w.alloc (.cells (I64 a).toArray 51)).alloc (.cells (I64 b).toArray 51)) (I64 Z16) 51
    rw [World.size_alloc, World.size_alloc] at this
    exact this
theorem M4.put {w W : World} {a b R : List Int} (h : M4 w W a b) (hR : R.length = 16) : Arr (W.setCells (w.heap.size + 1 + 1) 0 (I64 R)) (w.heap.size + 1 + 1) 51 (I64 R) ∧ Below w.heap.size w (W.setCells (w.heap.size + 1 + 1) 0 (I64 R)) ∧
    ((W.setCells (w.heap.size + 1 + 1) 0 (I64 R)).rangeAt w.heap.size 0 (I64 a) ∧ (W.setCells (w.heap.size + 1 + 1) 0 (I64 R)).rangeAt (w.heap.size + 1) 0 (I64 b) ∧ (W.setCells (w.heap.size + 1 + 1) 0 (I64 R)).rangeAt 0 0 (I64 OL)) ∧ W.there (w.heap.size + 1 + 1) 0 (I64 R).toArray.size := by
  have hg := h.pa.lt
  have h0 : 0 ≠ w.heap.size + 1 + 1 := by omega
  exact ⟨Arr.setCells0 h.pr (by simp [hR]), setCells_below (by omega) _ _ h.fr, ⟨arr_range (Arr.setCellsO (by omega) _ _ h.pa), arr_range (Arr.setCellsO (by omega) _ _ h.pb), vr_range (Vr.setCellsO h0 h.vr)⟩, by have := arr_there h.pr; simpa [hR] using this⟩
/-- What is below twice the order is brought below it. -/
theorem implLessO (x : Int) (w : World) (h0 : 0 ≤ x) (h1 : x < 2 * qO) :
    Calls Tryd.prog 70 #[.agg (I64 (lim 16 x)).toArray, .agg (I64 OL).toArray] w fun e w' => e = .returned (.agg (I64 (redO x)).toArray) ∧ Below w.heap.size w w' := by
  have := implLess (lim 16 x) OL w (lim_len _ _) OL_len (lim_lm _ _) OL_lm
  rw [val_lim16 h0 h1, OL_val] at this
  have hls := lessO h0 h1
  have e : lim 16 (if x < qO then x else x - qO) = redO x := by
    split
    · rename_i h; exact hls.1 h
    · rename_i h; exact hls.2 h
  rw [e] at this
  exact this

set_option maxHeartbeats 2000000 in
theorem implMuSum (a b : List Int) (w : World) (ha : scOk a = true) (hb : scOk b = true) (hV : Vr w 0 (I64 OL)) :
    Calls Tryd.prog 40 #[.agg (I64 a).toArray, .agg (I64 b).toArray] w fun e w' => e = .returned (.agg (I64 (redO (val a + val b))).toArray) ∧ Below w.heap.size w w' := by
  obtain ⟨la16, la, va⟩ := (scOk_iff a).1 ha
  obtain ⟨lb16, lb, vb⟩ := (scOk_iff b).1 hb
  have na := val_nonneg (fun x hx => (la x hx).1)
  have nb := val_nonneg (fun x hx => (lb x hx).1)
  obtain ⟨R, hR⟩ : ∃ R, R = redO (val a + val b) := ⟨_, rfl⟩
  have hRl : R.length = 16 := by rw [hR]; exact redO_len _
  obtain ⟨S, hS⟩ : ∃ S, S = lim 16 (val a + val b) := ⟨_, rfl⟩
  have HPL : Hid (∀ Z, Calls Tryd.prog 69 #[.agg (I64 a).toArray, .agg (I64 b).toArray] Z fun e w' => e = .returned (.agg (I64 S).toArray) ∧ Below Z.heap.size Z w') := by
    unfold Hid; intro Z
    have := implPlus a b Z la16 lb16 la lb
    rw [plus_lim la16 lb16 (by omega) (by unfold qO at va vb; omega), ← hS] at this
    exact this
  have HLS : Hid (∀ Z, Calls Tryd.prog 70 #[.agg (I64 S).toArray, .agg (I64 OL).toArray] Z fun e w' => e = .returned (.agg (I64 R).toArray) ∧ Below Z.heap.size Z w') := by
    unfold Hid; intro Z; rw [hS, hR]; exact implLessO _ Z (by omega) (by omega)
  rw [← hR]
  obtain ⟨W, hW⟩ : ∃ W, W = ((w.alloc (.cells (I64 a).toArray 51)).alloc (.cells (I64 b).toArray 51)).alloc (.cells #[.int .i64 0, .int .i64 0, .int .i64 0, .int .i64 0, .int .i64 0, .int .i64 0, .int .i64 0, .int .i64 0, .int .i64 0, .int .i64 0, .int .i64 0, .int .i64 0, .int .i64 0, .int .i64 0, .int .i64 0, .int .i64 0] 51) := ⟨_, rfl⟩
  have EE : M4 w W.drew a b := by
    have : M4 w W a b := by rw [hW]; exact M4.new a b hV
    exact this.go (Below.refl _ _).drew
  obtain ⟨A, hA⟩ : ∃ A, A = (I64 a).toArray := ⟨_, rfl⟩
  obtain ⟨B, hB⟩ : ∃ B, B = (I64 b).toArray := ⟨_, rfl⟩
  rw [← hA, ← hB] at hW ⊢
  have hone := one_lm R
  have hu : Tryd.prog.underlying 49 = some (.array 16 3) := Tryd.underlying49
  have hia : (Tryd.prog.info? 49).map (·.size) = some (I64 a).length := by simpa [la16] using infoL
  have hib : (Tryd.prog.info? 49).map (·.size) = some (I64 b).length := by simpa [lb16] using infoL
  have hip : (Tryd.prog.info? 49).map (·.size) = some (I64 OL).length := infoL
  have hir : (Tryd.prog.info? 51).map (·.size) = some (I64 R).toArray.size := by simpa [hRl] using infoM
  clear ha hb la lb va vb na nb hR hS hA hB hV
  go_enter Tryd.func40, Tryd.ntmps40
  go_wp2
  rw [← hW]
  clear hW
  refine wp_region_held_drew (S := fun W => W.rangeAt w.heap.size 0 (I64 a) ∧ W.rangeAt (w.heap.size + 1) 0 (I64 b) ∧ W.rangeAt 0 0 (I64 OL)) (by kernel_rfl) EE.all (fun hHeld => ?_)
  refine wpAnyH_take (i := 0) (oi := { dst := some 5, op := Op.fieldAddr 51 (Operand.tmp 2) 0, type := 0, pos := "l05_scalar.go:99", after := #[], guard := none }) (v := .pointer (some ⟨w.heap.size, 0, none⟩)) rfl (by kernel_rfl) (by kernel_rfl) (by kernel_rfl) (fun _ _ _ h => h) (.inl ⟨by rfl, fun _ _ => by rfl⟩) (by assumption) ?_
  simp only [Act.put, List.setIfInBounds_toArray, List.set_cons_zero, List.set_cons_succ]
  refine wpAnyH_take (i := 1) (oi := { dst := some 6, op := Op.load 49 (Operand.tmp 5), type := 49, pos := "l05_scalar.go:99", after := #[{ on := 0, ground := Ground.data }], guard := none }) (v := _) rfl (by kernel_rfl) (by kernel_rfl) (by kernel_rfl) (fun _ _ _ h => h) (yieldsIf_load_mid (by rfl) _ _ rfl _ _ rfl (I64 a) _ (fun _ h => h.1) hu rfl hia) (by assumption) ?_
  simp only [Act.put, List.setIfInBounds_toArray, List.set_cons_zero, List.set_cons_succ]
  refine wpAnyH_take (i := 2) (oi := { dst := some 7, op := Op.fieldAddr 51 (Operand.tmp 3) 0, type := 0, pos := "l05_scalar.go:99", after := #[], guard := none }) (v := .pointer (some ⟨w.heap.size + 1, 0, none⟩)) rfl (by kernel_rfl) (by kernel_rfl) (by kernel_rfl) (fun _ _ _ h => h) (.inl ⟨by rfl, fun _ _ => by rfl⟩) (by assumption) ?_
  simp only [Act.put, List.setIfInBounds_toArray, List.set_cons_zero, List.set_cons_succ]
  refine wpAnyH_take (i := 3) (oi := { dst := some 8, op := Op.load 49 (Operand.tmp 7), type := 49, pos := "l05_scalar.go:99", after := #[{ on := 2, ground := Ground.data }], guard := none }) (v := _) rfl (by kernel_rfl) (by kernel_rfl) (by kernel_rfl) (fun _ _ _ h => h) (yieldsIf_load_mid (by rfl) _ _ rfl _ _ rfl (I64 b) _ (fun _ h => h.2.1) hu rfl hib) (by assumption) ?_
  simp only [Act.put, List.setIfInBounds_toArray, List.set_cons_zero, List.set_cons_succ]
  refine wpAnyH_take (i := 5) (oi := { dst := some 10, op := Op.load 49 (Operand.global 0), type := 49, pos := "l05_scalar.go:99", after := #[], guard := none }) (v := _) rfl (by kernel_rfl) (by kernel_rfl) (by kernel_rfl) (fun _ _ _ h => h) (yieldsIf_load_mid (by rfl) _ _ rfl _ _ rfl (I64 OL) _ (fun _ h => h.2.2) hu rfl hip) (by assumption) ?_
  simp only [Act.put, List.setIfInBounds_toArray, List.set_cons_zero, List.set_cons_succ]
  refine wpAnyH_ready (rs := [4]) (by kernel_rfl) (by simp) (AllReadyH.cons (o := { dst := some 9, op := Op.call { callee := Callee.value (Operand.func 69), args := #[Operand.tmp 6, Operand.tmp 8], argTypes := #[49, 49] }, type := 49, pos := "l05_scalar.go:99", after := #[{ on := 1, ground := Ground.data }, { on := 3, ground := Ground.data }], guard := none }) rfl (fun K hK => ?_) AllReadyH.nil)
  go_simp
  refine (HPL.out _).mono ?_
  rintro e w1 ⟨rfl, hb1⟩
  replace EE := EE.go hb1
  go_wp2_with fail
  refine hK.out _ _ EE.all (fun hHeld => ?_)
  clear hK K hb1
  refine wpAnyH_ready (rs := [6]) (by kernel_rfl) (by simp) (AllReadyH.cons (o := { dst := some 11, op := Op.call { callee := Callee.value (Operand.func 70), args := #[Operand.tmp 9, Operand.tmp 10], argTypes := #[49, 49] }, type := 49, pos := "l05_scalar.go:99", after := #[{ on := 4, ground := Ground.data }, { on := 5, ground := Ground.data }, { on := 4, ground := Ground.chain }], guard := none }) rfl (fun K hK => ?_) AllReadyH.nil)
  go_simp
  refine (HLS.out _).mono ?_
  rintro e w2 ⟨rfl, hb2⟩
  replace EE := EE.go hb2
  go_wp2_with fail
  refine hK.out _ _ EE.all (fun hHeld => ?_)
  clear hK K hb2
  refine wpAnyH_take (i := 7) (oi := { dst := some 12, op := Op.build 51 #[(0, Operand.tmp 11)], type := 51, pos := "l05_scalar.go:99", after := #[{ on := 6, ground := Ground.data }], guard := none }) (v := _) rfl (by kernel_rfl) (by kernel_rfl) (by kernel_rfl) (fun _ _ _ h => h) (yieldsIf_mu (by rfl) _ rfl R hRl rfl) (by assumption) ?_
  simp only [Act.put, List.setIfInBounds_toArray, List.set_cons_zero, List.set_cons_succ]
  obtain ⟨hA5, hB5, hS5, hth⟩ := EE.put hRl
  refine wpAnyH_ready (rs := [8]) (by kernel_rfl) (by simp) (AllReadyH.cons (o := { dst := none, op := Op.store 51 (Operand.tmp 4) (Operand.tmp 12), type := 0, pos := "l05_scalar.go:99", after := #[{ on := 7, ground := Ground.data }, { on := 6, ground := Ground.chain }, { on := 0, ground := Ground.phase }, { on := 1, ground := Ground.phase }, { on := 2, ground := Ground.phase }, { on := 3, ground := Ground.phase }, { on := 4, ground := Ground.phase }, { on := 5, ground := Ground.phase }, { on := 6, ground := Ground.phase }, { on := 7, ground := Ground.phase }], guard := none }) rfl (fun K hK => ?_) AllReadyH.nil)
  rw [if_pos (by rfl)]
  refine wp_store_mid _ _ _ rfl _ _ (I64 R).toArray rfl rfl hth hir (all_oneCell_toArray hone) ?_
  simp only [Act.put]
  refine hK.out _ _ hS5 (fun hHeld => ?_)
  clear hK K
  refine wpAnyH_done (by kernel_rfl) ?_ _
  go_wp2
  exact bodyPost_ret (results_cell_row rfl _ _ (w.heap.size + 1 + 1) 51 (I64 R).toArray (0, 0) _ rfl hA5 Tryd.underlying51 rfl hir) rfl ⟨rfl, hB5⟩

set_option maxHeartbeats 2000000 in
theorem implOrderSettled (m : List Int) (w : World) (hm : m.length = 16) (hq : Sq (val m)) (hV : Vr w 0 (I64 OL)) :
    Calls Tryd.prog 82 #[.agg (I64 (crd m)).toArray] w fun e w' => e = .returned (.agg (I64 (redO (val m))).toArray) ∧ Below w.heap.size w w' := by
  obtain ⟨n, hn⟩ : ∃ n, n = crd m := ⟨_, rfl⟩
  have hl : n.length = 16 := by rw [hn]; exact crd_len hm
  obtain ⟨t, ht⟩ : ∃ t, t = tms (val m) := ⟨_, rfl⟩
  have hlast : n.getD 15 0 / 4096 - 1 = t := by rw [hn, crd_last hm, ht]; rfl
  have htb := tms_bd hq
  have hcb := crd_bdS hm hq
  rw [← hn] at hcb
  rw [← ht] at htb
  have hx15 := getD_of (p := fun x => 0 ≤ x ∧ x < 1073741824) hcb (by omega) 15
  obtain ⟨x15, hx15e⟩ : ∃ x, x = n.getD 15 0 := ⟨_, rfl⟩
  rw [← hx15e] at hx15 hlast
  obtain ⟨zs, hzs⟩ : ∃ zs, zs = ost t n := ⟨_, rfl⟩
  have hzl : zs.length = 16 := by rw [hzs]; exact ost_len hl
  have hzc : Cb zs := by rw [hzs]; exact cb_of (ost_bd htb.1 htb.2 hcb)
  have hzx : ∀ k, k < 16 → zs.getD k 0 = n.getD k 0 - t * OL.getD k 0 := by
    intro k hk
    rw [hzs]
    exact zip_at _ hl OL_len k hk
  have hst := settled hm hq
  rw [← ht, ← hn, ← hzs] at hst
  obtain ⟨X, hX⟩ : ∃ X, X = val m - t * qO := ⟨_, rfl⟩
  have hXb := tms_val hq
  rw [← ht, ← hX] at hXb
  rw [← hX] at hst
  obtain ⟨R, hR⟩ : ∃ R, R = redO (val m) := ⟨_, rfl⟩
  have hRl : R.length = 16 := by rw [hR]; exact redO_len _
  have hXR : redO X = R := by
    have hls := lessO hXb.1 hXb.2
    rw [hR, ← hst.2]
    split
    · rename_i h; exact (hls.1 h).symm
    · rename_i h; exact (hls.2 h).symm
  have HCR : Hid (∀ Z, Calls Tryd.prog 79 #[.agg (I64 zs).toArray] Z fun e w' => e = .returned (.agg (I64 (lim 16 X)).toArray) ∧ Below Z.heap.size Z w') := by
    unfold Hid; intro Z
    have := implCarried zs Z hzl hzc
    rw [hst.1] at this
    exact this
  have HLS : Hid (∀ Z, Calls Tryd.prog 70 #[.agg (I64 (lim 16 X)).toArray, .agg (I64 OL).toArray] Z fun e w' => e = .returned (.agg (I64 R).toArray) ∧ Below Z.heap.size Z w') := by
    unfold Hid; intro Z; rw [← hXR]; exact implLessO _ Z hXb.1 hXb.2
  have HZX : Hid _ := hzx
  have HCB : Hid _ := hcb
  rw [← hn, ← hR]
  obtain ⟨T, hT⟩ : ∃ T, T = lim 16 X := ⟨_, rfl⟩
  rw [← hT] at HCR HLS
  obtain ⟨W, hW⟩ : ∃ W, W = (w.alloc (.cells (I64 n).toArray 49)).alloc (.cells #[.int .i64 0, .int .i64 0, .int .i64 0, .int .i64 0, .int .i64 0, .int .i64 0, .int .i64 0, .int .i64 0, .int .i64 0, .int .i64 0, .int .i64 0, .int .i64 0, .int .i64 0, .int .i64 0, .int .i64 0, .int .i64 0] 51) := ⟨_, rfl⟩
  have EE : M2 w W n := by rw [hW]; exact M2.new n hV
  have c15 : W.cell? ⟨w.heap.size, 15, none⟩ = some (.int .i64 x15) := by rw [EE.pa.i64 15 (by omega), hx15e]
  obtain ⟨A, hA⟩ : ∃ A, A = (I64 n).toArray := ⟨_, rfl⟩
  rw [← hA] at hW ⊢
  rw [hW] at c15
  have s0 : IntKind.i64.wrap (x15 / 4096 - 1) = t := by rw [hlast, IntKind.wrap_i64]; omega
  obtain ⟨gt, gz, hg⟩ := EE.vr
  have hg0 := hW ▸ hg
  have hip : (Tryd.prog.info? 49).map (·.size) = some (I64 OL).toArray.size := infoL
  have hw0 := hV.lt
  clear hn ht hlast hcb hzs hzc hzx hst hX hXb hR hXR hT hA hV hq hm hx15e
  go_enter Tryd.func82, Tryd.ntmps82
  go_wp2_with (refine wpList_load_row rfl 49 _ rfl 0 rfl gt (I64 OL).toArray gz _ hg0 Tryd.underlying49 rfl hip ?_)
  rw [← hW]
  clear hW c15 hg0 hg
  have h0 : Arr W w.heap.size 49 (I64 (zs.take 0 ++ n.drop 0)) := EE.pa
  have h1 := EE.pr
  have h2 := EE.vr
  have hBl := EE.fr
  clear EE
  go_loopw [11] (fun i wr => ∃ k : Nat, k ≤ 16 ∧ i = .int .i64 k ∧ Arr wr w.heap.size 49 (I64 (zs.take k ++ n.drop k)) ∧ Arr wr (w.heap.size + 1) 51 (I64 Z16) ∧ Vr wr 0 (I64 OL) ∧ Below w.heap.size w wr) (fun i _ => 16 - (intOf i).toNat)
  case atStart => exact ⟨0, by omega, rfl, h0, h1, h2, hBl⟩
  case round =>
    clear h0 h1 h2 hBl
    obtain ⟨k, hk, rfl, h0, h1, h2, hBl⟩ := hrel
    have hfl : (zs.take k).length = k := by simp; omega
    by_cases hlt : k < 16
    · obtain ⟨x, hx⟩ : ∃ x, x = n.getD k 0 := ⟨_, rfl⟩
      obtain ⟨y, hy⟩ : ∃ y, y = OL.getD k 0 := ⟨_, rfl⟩
      have ix := fun w => index_arr Tryd.underlying49 Tryd.underlying3 infoL1 OL OL_len k hlt w
      rw [← hy] at ix
      have cx : wr.cell? ⟨w.heap.size, k, none⟩ = some (.int .i64 x) := by
        rw [h0.i64 k (by rw [len_app hfl (by omega)]; omega), get_app hfl, hx]
      have bx := getD_of (p := fun x => 0 ≤ x ∧ x < 1073741824) HCB.out (by omega) k
      have by' := gD_lm OL_lm k
      rw [← hx] at bx
      rw [← hy] at by'
      have hz := HZX.out k hlt
      rw [← hx, ← hy] at hz
      obtain ⟨p, hp⟩ : ∃ p, p = t * y := ⟨_, rfl⟩
      have hp0 : -65536 ≤ p ∧ p ≤ 17179869184 := by
        have a1 : t * y ≤ 262144 * y := Int.mul_le_mul_of_nonneg_right (by omega) by'.1
        have a2 : -1 * y ≤ t * y := Int.mul_le_mul_of_nonneg_right htb.1 by'.1
        omega
      rw [← hp] at hz
      have hts := take_app zs k (by omega)
      rw [hz] at hts
      have hfz := h0.frozen k
      have h0' := h0.set k (.int .i64 (x - p))
      rw [set_app hfl (show k < n.length by omega), ← hts] at h0'
      have h1' := h1.other ⟨w.heap.size, k, none⟩ (.int .i64 (x - p)) (by simp)
      have h2' := h2.other ⟨w.heap.size, k, none⟩ (.int .i64 (x - p)) (by simp only; omega)
      have hb' := hBl.setCell (p := ⟨w.heap.size, k, none⟩) (Nat.le_refl _) (.int .i64 (x - p))
      have s1 : IntKind.i64.wrap (t * y) = p := by rw [← hp, IntKind.wrap_i64]; omega
      have s2 : IntKind.i64.wrap (x - p) = x - p := by rw [IntKind.wrap_i64]; omega
      have hk16 : (k : Int) < 16 := by omega
      have hk0 : (0 : Int) ≤ (k : Int) := by omega
      have H0 : Hid _ := h0'
      have H1 : Hid _ := h1'
      have H2 : Hid _ := h2'
      have HB : Hid _ := hb'
      clear h0' h1' h2' hb' h0 h1 h2 hBl hx hy hz hts hp
      go_wp2
      go_roundw
      case rel => exact ⟨k + 1, by omega, by go_num, H0.out, H1.out, H2.out, HB.out⟩
      case measure => simp [intOf]; omega
    · obtain rfl : k = 16 := by omega
      rw [List.take_of_length_le (by omega), List.drop_eq_nil_of_le (by omega), List.append_nil] at h0
      have EE : M2 w wr.drew zs := (⟨hBl, h0, h1, h2⟩ : M2 w wr zs).go (Below.refl _ _).drew
      have hone := one_lm R
      have hu : Tryd.prog.underlying 49 = some (.array 16 3) := Tryd.underlying49
      have hiz : (Tryd.prog.info? 49).map (·.size) = some (I64 zs).length := by simpa [hzl] using infoL
      have hio : (Tryd.prog.info? 49).map (·.size) = some (I64 OL).length := infoL
      have hir : (Tryd.prog.info? 51).map (·.size) = some (I64 R).toArray.size := by simpa [hRl] using infoM
      clear hfl h0 h1 h2 hBl HZX HCB
      go_wp2
      refine wp_region_held_drew (S := fun W => W.rangeAt w.heap.size 0 (I64 zs) ∧ W.rangeAt 0 0 (I64 OL)) (by kernel_rfl) EE.all (fun hHeld => ?_)
      refine wpAnyH_take (i := 0) (oi := { dst := some 24, op := Op.load 49 (Operand.tmp 1), type := 49, pos := "l05_scalar.go:122", after := #[], guard := none }) (v := _) rfl (by kernel_rfl) (by kernel_rfl) (by kernel_rfl) (fun _ _ _ h => h) (yieldsIf_load_mid (by rfl) _ _ rfl _ _ rfl (I64 zs) _ (fun _ h => h.1) hu rfl hiz) (by assumption) ?_
      simp only [Act.put, List.setIfInBounds_toArray, List.set_cons_zero, List.set_cons_succ]
      refine wpAnyH_take (i := 2) (oi := { dst := some 26, op := Op.load 49 (Operand.global 0), type := 49, pos := "l05_scalar.go:122", after := #[], guard := none }) (v := _) rfl (by kernel_rfl) (by kernel_rfl) (by kernel_rfl) (fun _ _ _ h => h) (yieldsIf_load_mid (by rfl) _ _ rfl _ _ rfl (I64 OL) _ (fun _ h => h.2) hu rfl hio) (by assumption) ?_
      simp only [Act.put, List.setIfInBounds_toArray, List.set_cons_zero, List.set_cons_succ]
      refine wpAnyH_ready (rs := [1]) (by kernel_rfl) (by simp) (AllReadyH.cons (o := { dst := some 25, op := Op.call { callee := Callee.value (Operand.func 79), args := #[Operand.tmp 24], argTypes := #[49] }, type := 49, pos := "l05_scalar.go:122", after := #[{ on := 0, ground := Ground.data }], guard := none }) rfl (fun K hK => ?_) AllReadyH.nil)
      go_simp
      refine (HCR.out _).mono ?_
      rintro e w1 ⟨rfl, hb1⟩
      replace EE := EE.go hb1
      go_wp2_with fail
      refine hK.out _ _ EE.all (fun hHeld => ?_)
      clear hK K hb1
      refine wpAnyH_ready (rs := [3]) (by kernel_rfl) (by simp) (AllReadyH.cons (o := { dst := some 27, op := Op.call { callee := Callee.value (Operand.func 70), args := #[Operand.tmp 25, Operand.tmp 26], argTypes := #[49, 49] }, type := 49, pos := "l05_scalar.go:122", after := #[{ on := 1, ground := Ground.data }, { on := 2, ground := Ground.data }, { on := 1, ground := Ground.chain }], guard := none }) rfl (fun K hK => ?_) AllReadyH.nil)
      go_simp
      refine (HLS.out _).mono ?_
      rintro e w2 ⟨rfl, hb2⟩
      replace EE := EE.go hb2
      go_wp2_with fail
      refine hK.out _ _ EE.all (fun hHeld => ?_)
      clear hK K hb2
      refine wpAnyH_take (i := 4) (oi := { dst := some 28, op := Op.build 51 #[(0, Operand.tmp 27)], type := 51, pos := "l05_scalar.go:122", after := #[{ on := 3, ground := Ground.data }], guard := none }) (v := _) rfl (by kernel_rfl) (by kernel_rfl) (by kernel_rfl) (fun _ _ _ h => h) (yieldsIf_mu (by rfl) _ rfl R hRl rfl) (by assumption) ?_
      simp only [Act.put, List.setIfInBounds_toArray, List.set_cons_zero, List.set_cons_succ]
      obtain ⟨hA5, hB5, hS5, hth⟩ := EE.put hRl
      refine wpAnyH_ready (rs := [5]) (by kernel_rfl) (by simp) (AllReadyH.cons (o := { dst := none, op := Op.store 51 (Operand.tmp 2) (Operand.tmp 28), type := 0, pos := "l05_scalar.go:122", after := #[{ on := 4, ground := Ground.data }, { on := 3, ground := Ground.chain }, { on := 0, ground := Ground.phase }, { on := 1, ground := Ground.phase }, { on := 2, ground := Ground.phase }, { on := 3, ground := Ground.phase }, { on := 4, ground := Ground.phase }], guard := none }) rfl (fun K hK => ?_) AllReadyH.nil)
      rw [if_pos (by rfl)]
      refine wp_store_mid _ _ _ rfl _ _ (I64 R).toArray rfl rfl hth hir (all_oneCell_toArray hone) ?_
      simp only [Act.put]
      refine hK.out _ _ hS5 (fun hHeld => ?_)
      clear hK K
      refine wpAnyH_done (by kernel_rfl) ?_ _
      go_wp2
      exact bodyPost_ret (results_cell_row rfl _ _ (w.heap.size + 1) 51 (I64 R).toArray (0, 0) _ rfl hA5 Tryd.underlying51 rfl hir) rfl ⟨rfl, hB5⟩
end Go.Proofs.YtlafcjoccbinaaaDoor
