/-
  What is proved here: the contract of the specification's l6out: a point in the long form as two lists of its own; plain mathematics: whole numbers modulo 2^255 - 19 as residues, their inverses, and that the number d of the curve is no square; no program is spoken of; how two arrays of sixteen are compared; no condition.
-/
import Derived.Test.YtoblilngppjmhaaDoorW9Uff
import Derived.Test.YtoblilngppjmhaaDoorW9Pn
import Derived.Test.YtoblilngppjmhaaDoorW9Fm
import Derived.Test.YtoblilngppjmhaaDoorW9Fu
import Derived.ChangeKeysEq
import Derived.Test.YtoblilngppjmhaaDoorW9Fs
namespace Go.Proofs.YtoblilngppjmhaaDoor
open Go.RowKit
set_option maxRecDepth 100000

/-- A point that a call answers: two lists, each in new memory, apart. -/
def PtT (ty : TypeId) (w w' : World) (v : Value) (xs ys : List Int) : Prop := ∃ a c b d, v = .agg #[.slice a xs.length c, .slice b ys.length d] ∧ w'.ownsRow w.heap.size ty 1 (.slice a xs.length c) xs.length (I64 xs) ∧ w'.ownsRow w.heap.size ty 1 (.slice b ys.length d) ys.length (I64 ys) ∧ Apart (.slice a xs.length c) (.slice b ys.length d)
theorem ptT_nil (ty : TypeId) (w w' : World) : PtT ty w w' (.agg #[.slice none 0 0, .slice none 0 0]) [] [] := ⟨none, 0, none, 0, rfl, World.ownsRow_nil _ _ _ _, World.ownsRow_nil _ _ _ _, fun k hk => by cases hk⟩
theorem ptT_16 {ty : TypeId} {w w' : World} {a b : Option Addr} {c d : Nat} {xs ys : List Int} (hx : xs.length = 16) (hy : ys.length = 16) (h : w'.ownsRow w.heap.size ty 1 (.slice a 16 c) 16 (I64 xs)) (h' : w'.ownsRow w.heap.size ty 1 (.slice b 16 d) 16 (I64 ys)) (hA : Apart (.slice a 16 c) (.slice b 16 d)) : PtT ty w w' (.agg #[.slice a 16 c, .slice b 16 d]) xs ys := ⟨a, c, b, d, by rw [hx, hy], by rw [hx]; exact h, by rw [hy]; exact h', by rw [hx, hy]; exact hA⟩
theorem build_pt (u v : Value) (w : World) : (Instr.build 27 #[(0, .agg #[u]), (1, .agg #[v])]).run Tryd.prog w = .ok (.agg #[u, v]) w := by kernel_rfl
theorem yieldsIf_pt {ops : Array Oper} {S : World → Prop} {op : Oper} {act : Act} (hw : Region.wanted op (yielded ops act.tmps) = true) (x y : Operand) (ho : op.op = .build 27 #[(0, x), (1, y)]) (u v : Value) (hx : act.eval x = .agg #[u]) (hy : act.eval y = .agg #[v]) : YieldsIf Tryd.prog ops S op (.agg #[u, v]) act :=
  .inl ⟨hw, fun w _ => by
    unfold execOp
    simp only [ho, hx, hy, Sem.run_bind, List.map_toArray, List.map_cons, List.map_nil, build_pt u v w, Sem.run_pure, Result.andThen_ok]⟩
/-- Two numbers are laid into new cells. -/
theorem laid_e2 (w1 : World) (L M : List Int) :
    Below w1.heap.size w1 ((((w1.alloc (.cells #[.int .i64 0, .int .i64 0, .int .i64 0, .int .i64 0, .int .i64 0, .int .i64 0, .int .i64 0, .int .i64 0, .int .i64 0, .int .i64 0, .int .i64 0, .int .i64 0, .int .i64 0, .int .i64 0, .int .i64 0, .int .i64 0] 82)).alloc (.cells #[.int .i64 0, .int .i64 0, .int .i64 0, .int .i64 0, .int .i64 0, .int .i64 0, .int .i64 0, .int .i64 0, .int .i64 0, .int .i64 0, .int .i64 0, .int .i64 0, .int .i64 0, .int .i64 0, .int .i64 0, .int .i64 0] 82)).setRow w1.heap.size (I64 L).toArray).setRow (w1.heap.size + 1) (I64 M).toArray) ∧
    Arr ((((w1.alloc (.cells #[.int .i64 0, .int .i64 0, .int .i64 0, .int .i64 0, .int .i64 0, .int .i64 0, .int .i64 0, .int .i64 0, .int .i64 0, .int .i64 0, .int .i64 0, .int .i64 0, .int .i64 0, .int .i64 0, .int .i64 0, .int .i64 0] 82)).alloc (.cells #[.int .i64 0, .int .i64 0, .int .i64 0, .int .i64 0, .int .i64 0, .int .i64 0, .int .i64 0, .int .i64 0, .int .i64 0, .int .i64 0, .int .i64 0, .int .i64 0, .int .i64 0, .int .i64 0, .int .i64 0, .int .i64 0] 82)).setRow w1.heap.size (I64 L).toArray).setRow (w1.heap.size + 1) (I64 M).toArray) w1.heap.size 82 (I64 L) ∧
    Arr ((((w1.alloc (.cells #[.int .i64 0, .int .i64 0, .int .i64 0, .int .i64 0, .int .i64 0, .int .i64 0, .int .i64 0, .int .i64 0, .int .i64 0, .int .i64 0, .int .i64 0, .int .i64 0, .int .i64 0, .int .i64 0, .int .i64 0, .int .i64 0] 82)).alloc (.cells #[.int .i64 0, .int .i64 0, .int .i64 0, .int .i64 0, .int .i64 0, .int .i64 0, .int .i64 0, .int .i64 0, .int .i64 0, .int .i64 0, .int .i64 0, .int .i64 0, .int .i64 0, .int .i64 0, .int .i64 0, .int .i64 0] 82)).setRow w1.heap.size (I64 L).toArray).setRow (w1.heap.size + 1) (I64 M).toArray) (w1.heap.size + 1) 82 (I64 M) ∧
    Arr ((w1.alloc (.cells #[.int .i64 0, .int .i64 0, .int .i64 0, .int .i64 0, .int .i64 0, .int .i64 0, .int .i64 0, .int .i64 0, .int .i64 0, .int .i64 0, .int .i64 0, .int .i64 0, .int .i64 0, .int .i64 0, .int .i64 0, .int .i64 0] 82)).alloc (.cells #[.int .i64 0, .int .i64 0, .int .i64 0, .int .i64 0, .int .i64 0, .int .i64 0, .int .i64 0, .int .i64 0, .int .i64 0, .int .i64 0, .int .i64 0, .int .i64 0, .int .i64 0, .int .i64 0, .int .i64 0, .int .i64 0] 82)) w1.heap.size 82 (I64 Z16) ∧
    Arr (((w1.alloc (.cells #[.int .i64 0, .int .i64 0, .int .i64 0, .int .i64 0, .int .i64 0, .int .i64 0, .int .i64 0, .int .i64 0, .int .i64 0, .int .i64 0, .int .i64 0, .int .i64 0, .int .i64 0, .int .i64 0, .int .i64 0, .int .i64 0] 82)).alloc (.cells #[.int .i64 0, .int .i64 0, .int .i64 0, .int .i64 0, .int .i64 0, .int .i64 0, .int .i64 0, .int .i64 0, .int .i64 0, .int .i64 0, .int .i64 0, .int .i64 0, .int .i64 0, .int .i64 0, .int .i64 0, .int .i64 0] 82)).setRow w1.heap.size (I64 L).toArray) (w1.heap.size + 1) 82 (I64 Z16) := by
  have q1 : Arr ((w1.alloc (.cells #[.int .i64 0, .int .i64 0, .int .i64 0, .int .i64 0, .int .i64 0, .int .i64 0, .int .i64 0, .int .i64 0, .int .i64 0, .int .i64 0, .int .i64 0, .int .i64 0, .int .i64 0, .int .i64 0, .int .i64 0, .int .i64 0] 82)).alloc (.cells #[.int .i64 0, .int .i64 0, .int .i64 0, .int .i64 0, .int .i64 0, .int .i64 0, .int .i64 0, .int .i64 0, .int .i64 0, .int .i64 0, .int .i64 0, .int .i64 0, .int .i64 0, .int .i64 0, .int .i64 0, .int .i64 0] 82)) w1.heap.size 82 (I64 Z16) := (Arr.new w1 (I64 Z16) _).alloc _
  have q2 : Arr ((w1.alloc (.cells #[.int .i64 0, .int .i64 0, .int .i64 0, .int .i64 0, .int .i64 0, .int .i64 0, .int .i64 0, .int .i64 0, .int .i64 0, .int .i64 0, .int .i64 0, .int .i64 0, .int .i64 0, .int .i64 0, .int .i64 0, .int .i64 0] 82)).alloc (.cells #[.int .i64 0, .int .i64 0, .int .i64 0, .int .i64 0, .int .i64 0, .int .i64 0, .int .i64 0, .int .i64 0, .int .i64 0, .int .i64 0, .int .i64 0, .int .i64 0, .int .i64 0, .int .i64 0, .int .i64 0, .int .i64 0] 82)) (w1.heap.size + 1) 82 (I64 Z16) := by
    have := Arr.new (w1.alloc (.cells (I64 Z16).toArray 82)) (I64 Z16) 82
    rw [World.size_alloc] at this
    exact this
  have hb : Below w1.heap.size w1 ((w1.alloc (.cells #[.int .i64 0, .int .i64 0, .int .i64 0, .int .i64 0, .int .i64 0, .int .i64 0, .int .i64 0, .int .i64 0, .int .i64 0, .int .i64 0, .int .i64 0, .int .i64 0, .int .i64 0, .int .i64 0, .int .i64 0, .int .i64 0] 82)).alloc (.cells #[.int .i64 0, .int .i64 0, .int .i64 0, .int .i64 0, .int .i64 0, .int .i64 0, .int .i64 0, .int .i64 0, .int .i64 0, .int .i64 0, .int .i64 0, .int .i64 0, .int .i64 0, .int .i64 0, .int .i64 0, .int .i64 0] 82)) := ((Below.refl _ _).alloc (Nat.le_refl _) _).alloc (by simp) _
  exact ⟨setRow_below (setRow_below hb _ _ (Nat.le_refl _)) _ _ (by omega), (q1.row _).rowOther _ _ (by omega), (q2.rowOther _ _ (by omega)).row _, q1, q2.rowOther _ _ (by omega)⟩

set_option maxHeartbeats 4000000 in
theorem spec6out (P : E4) (w : World) (hP : P.Ok) :
    Calls Tryd.prog 86 #[.agg (I64 P.cells).toArray] w fun e w' => ∃ v, e = .returned v ∧ PtT 3 w w' v (flx P) (fly P) ∧ Below w.heap.size w w' := by
  have hPl := E4.len hP
  have HF : Hid (∀ Z, Calls Tryd.prog 123 #[.agg (I64 P.cells).toArray] Z fun e w' => e = .returned (.tuple #[.agg (I64 (flx P)).toArray, .agg (I64 (fly P)).toArray]) ∧ Below Z.heap.size Z w') := by
    unfold Hid; intro Z; exact spec6flat P Z hP
  obtain ⟨x, ex⟩ : ∃ x, x = flx P := ⟨_, rfl⟩
  have kx : feOk x = true := by rw [ex]; exact ok_red _
  obtain ⟨y, ey⟩ : ∃ y, y = fly P := ⟨_, rfl⟩
  have ky : feOk y = true := by rw [ey]; exact ok_red _
  rw [← ex, ← ey] at HF ⊢
  have mx := feOk_lm' kx
  have my := feOk_lm' ky
  have jx := infoE' kx
  have jy := infoE' ky
  have iix := infoEl kx
  have iiy := infoEl ky
  have nx := feOk_len kx
  have ny := feOk_len ky
  have hip := infoP' hP
  have hu : Tryd.prog.underlying 82 = some (.array 16 3) := Tryd.underlying82
  obtain ⟨A, hA⟩ : ∃ A, A = (I64 P.cells).toArray := ⟨_, rfl⟩
  obtain ⟨W, hW⟩ : ∃ W, W = (w.alloc (.cells A 108)).alloc (.cells #[.slice none 0 0, .slice none 0 0] 27) := ⟨_, rfl⟩
  have fr : Below w.heap.size w W := by rw [hW]; exact ((Below.refl _ _).alloc (Nat.le_refl _) _).alloc (by simp) _
  have pa : Arr W w.heap.size 108 (I64 P.cells) := by rw [hW, hA]; exact (Arr.new w (I64 P.cells) _).alloc _
  have pr : Arr W (w.heap.size + 1) 27 ([.slice none 0 0, .slice none 0 0]) := by
    rw [hW]
    have := Arr.new (w.alloc (.cells A 108)) [.slice none 0 0, .slice none 0 0] 27
    rw [World.size_alloc] at this
    exact this
  rw [← hA]
  clear ex ey kx ky hA
  go_enter Tryd.func86, Tryd.ntmps86
  go_upto_region 1 with fail
  rw [← hW]
  clear hW
  go_wp2_with (refine wpList_load_row rfl 108 _ rfl w.heap.size rfl 108 (I64 P.cells).toArray (0, 0) _ pa Tryd.underlying108 rfl hip ?_)
  refine (HF.out _).mono ?_
  rintro e y1 ⟨rfl, hb1⟩
  replace fr := fr.trans (hb1.mono fr.size)
  replace pa := pa.kept hb1
  replace pr := pr.kept hb1
  clear hb1
  have hz0 : w.heap.size + 1 < y1.heap.size := pr.lt
  obtain ⟨bV, Ax, Ay, q1, q2⟩ := laid_e2 y1 x y
  replace fr := fr.trans (bV.mono fr.size)
  replace pa := pa.kept bV
  replace pr := pr.kept bV
  go_upto_region 2 with (first | (refine wpList_store_row rfl 82 _ _ rfl y1.heap.size (I64 x).toArray rfl rfl 82 _ q1 jx (by simp [nx]) (by simp [Value.oneCell']) ?_) | (refine wpList_store_row rfl 82 _ _ rfl (y1.heap.size + 1) (I64 y).toArray rfl rfl 82 _ q2 jy (by simp [ny]) (by simp [Value.oneCell']) ?_))
  obtain ⟨Vq, hVV⟩ : ∃ V, V = (((y1.alloc (.cells #[.int .i64 0, .int .i64 0, .int .i64 0, .int .i64 0, .int .i64 0, .int .i64 0, .int .i64 0, .int .i64 0, .int .i64 0, .int .i64 0, .int .i64 0, .int .i64 0, .int .i64 0, .int .i64 0, .int .i64 0, .int .i64 0] 82)).alloc (.cells #[.int .i64 0, .int .i64 0, .int .i64 0, .int .i64 0, .int .i64 0, .int .i64 0, .int .i64 0, .int .i64 0, .int .i64 0, .int .i64 0, .int .i64 0, .int .i64 0, .int .i64 0, .int .i64 0, .int .i64 0, .int .i64 0] 82)).setRow y1.heap.size (I64 x).toArray).setRow (y1.heap.size + 1) (I64 y).toArray := ⟨_, rfl⟩
  obtain ⟨X, hE⟩ : ∃ E, E = y1.heap.size := ⟨_, rfl⟩
  rw [← hVV] at fr pa pr Ax Ay ⊢
  rw [← hE] at Ax Ay hz0 ⊢
  clear hVV hE q1 q2 bV
  try simp only [Act.put]
  have bD : Below Vq.heap.size Vq Vq.drew := (Below.refl _ _).drew
  replace fr := fr.trans (bD.mono fr.size)
  replace pa := pa.kept bD
  replace pr := pr.kept bD
  replace Ax := Ax.kept bD
  replace Ay := Ay.kept bD
  clear bD
  refine wp_region_held_drew (S := fun W => W.rangeAt X 0 (I64 x) ∧ W.rangeAt (X + 1) 0 (I64 y)) (by kernel_rfl) ⟨arr_range Ax, arr_range Ay⟩ (fun hHeld => ?_)
  obtain ⟨D2, hD⟩ : ∃ V, V = Vq.drew := ⟨_, rfl⟩
  rw [← hD] at hHeld fr pa pr Ax Ay ⊢
  clear hD
  refine wpAnyH_take (i := 0) (oi := { dst := some 10, op := Op.load 82 (Operand.tmp 3), type := 82, pos := "l06_point.go:74", after := #[], guard := none }) (v := _) rfl (by kernel_rfl) (by kernel_rfl) (by kernel_rfl) (fun _ _ _ h => h) (yieldsIf_load_mid (by rfl) _ _ rfl _ _ rfl (I64 x) _ (fun _ h => h.1) hu rfl iix) (by assumption) ?_
  simp only [Act.put, List.setIfInBounds_toArray, List.set_cons_zero, List.set_cons_succ]
  refine wpAnyH_take (i := 2) (oi := { dst := some 12, op := Op.load 82 (Operand.tmp 4), type := 82, pos := "l06_point.go:74", after := #[], guard := none }) (v := _) rfl (by kernel_rfl) (by kernel_rfl) (by kernel_rfl) (fun _ _ _ h => h) (yieldsIf_load_mid (by rfl) _ _ rfl _ _ rfl (I64 y) _ (fun _ h => h.2) hu rfl iiy) (by assumption) ?_
  simp only [Act.put, List.setIfInBounds_toArray, List.set_cons_zero, List.set_cons_succ]
  refine wpAnyH_ready (rs := [1]) (by kernel_rfl) (by simp) (AllReadyH.cons (o := { dst := some 11, op := Op.call { callee := Callee.value (Operand.func 129), args := #[Operand.tmp 10], argTypes := #[82] }, type := 25, pos := "l06_point.go:74", after := #[{ on := 0, ground := Ground.data }], guard := none }) rfl (fun K hK => ?_) AllReadyH.nil)
  go_simp
  have hl1 : w.heap.size + 1 < D2.heap.size := pr.lt
  refine (specOut x _ nx mx).mono ?_
  rintro e y3 ⟨a1, c1, rfl, o1, hb3⟩
  replace fr := fr.trans (hb3.mono fr.size)
  replace pa := pa.kept hb3
  replace pr := pr.kept hb3
  replace Ax := Ax.kept hb3
  replace Ay := Ay.kept hb3
  clear hb3
  have i1 := In.of o1
  go_wp2_with fail
  refine hK.out _ _ ⟨arr_range Ax, arr_range Ay⟩ (fun hHeld => ?_)
  clear hK K
  refine wpAnyH_ready (rs := [3]) (by kernel_rfl) (by simp) (AllReadyH.cons (o := { dst := some 13, op := Op.call { callee := Callee.value (Operand.func 129), args := #[Operand.tmp 12], argTypes := #[82] }, type := 25, pos := "l06_point.go:74", after := #[{ on := 2, ground := Ground.data }, { on := 1, ground := Ground.chain }], guard := none }) rfl (fun K hK => ?_) AllReadyH.nil)
  go_simp
  have hl2 : w.heap.size + 1 < y3.heap.size := pr.lt
  refine (specOut y _ ny my).mono ?_
  rintro e y4 ⟨a2, c2, rfl, o2, hb4⟩
  replace fr := fr.trans (hb4.mono fr.size)
  replace pa := pa.kept hb4
  replace pr := pr.kept hb4
  replace Ax := Ax.kept hb4
  replace Ay := Ay.kept hb4
  replace o1 := own_below o1 hb4
  clear hb4
  have i2 := In.of o2
  go_wp2_with fail
  refine hK.out _ _ ⟨arr_range Ax, arr_range Ay⟩ (fun hHeld => ?_)
  clear hK K
  refine wpAnyH_take (i := 4) (oi := { dst := some 14, op := Op.build 27 #[(0, Operand.tmp 11), (1, Operand.tmp 13)], type := 27, pos := "l06_point.go:74", after := #[{ on := 1, ground := Ground.data }, { on := 3, ground := Ground.data }], guard := none }) (v := _) rfl (by kernel_rfl) (by kernel_rfl) (by kernel_rfl) (fun _ _ _ h => h) (yieldsIf_pt (by rfl) _ _ rfl _ _ rfl rfl) (by assumption) ?_
  simp only [Act.put, List.setIfInBounds_toArray, List.set_cons_zero, List.set_cons_succ]
  refine wpAnyH_ready (rs := [5]) (by kernel_rfl) (by simp) (AllReadyH.cons (o := { dst := none, op := Op.store 27 (Operand.tmp 2) (Operand.tmp 14), type := 0, pos := "l06_point.go:74", after := #[{ on := 4, ground := Ground.data }, { on := 3, ground := Ground.chain }, { on := 0, ground := Ground.phase }, { on := 1, ground := Ground.phase }, { on := 2, ground := Ground.phase }, { on := 3, ground := Ground.phase }, { on := 4, ground := Ground.phase }], guard := none }) rfl (fun K hK => ?_) AllReadyH.nil)
  rw [if_pos (by rfl)]
  refine wp_store_mid _ _ _ rfl _ _ ([.slice a1 16 c1, .slice a2 16 c2]).toArray rfl rfl (by have := arr_there pr; simpa using this) infoPt (all_oneCell_toArray (by simp [Value.oneCell'])) ?_
  simp only [Act.put]
  obtain ⟨V5, hVe⟩ : ∃ V, V = y4.setCells (w.heap.size + 1) 0 ([.slice a1 16 c1, .slice a2 16 c2]) := ⟨_, rfl⟩
  rw [← hVe]
  replace fr : Below w.heap.size w V5 := by rw [hVe]; exact setCells_below (by omega) _ _ fr
  replace pa : Arr V5 w.heap.size 108 (I64 P.cells) := by rw [hVe]; exact Arr.setCellsO (by omega) _ _ pa
  replace pr : Arr V5 (w.heap.size + 1) 27 ([.slice a1 16 c1, .slice a2 16 c2]) := by rw [hVe]; exact Arr.setCells0 pr (by simp)
  replace Ax : Arr V5 X 82 (I64 x) := by rw [hVe]; exact Arr.setCellsO (by omega) _ _ Ax
  replace Ay : Arr V5 (X + 1) 82 (I64 y) := by rw [hVe]; exact Arr.setCellsO (by omega) _ _ Ay
  replace o1 : V5.ownsRow D2.heap.size 3 1 (.slice a1 16 c1) 16 (I64 x) := by rw [hVe]; exact own_setCells o1 i1 (.inl hl1) _
  replace o2 : V5.ownsRow y3.heap.size 3 1 (.slice a2 16 c2) 16 (I64 y) := by rw [hVe]; exact own_setCells o2 i2 (.inl hl2) _
  clear hVe
  refine hK.out _ _ ⟨arr_range Ax, arr_range Ay⟩ (fun hHeld => ?_)
  clear hK K
  refine wpAnyH_done (by kernel_rfl) ?_ _
  go_wp2
  have hap : Apart (.slice a1 16 c1) (.slice a2 16 c2) := i1.apart i2 (.inl (by omega))
  exact bodyPost_ret (results_cell_row rfl _ _ (w.heap.size + 1) 27 #[.slice a1 16 c1, .slice a2 16 c2] (0, 0) _ rfl pr Tryd.underlying27 rfl infoPt) rfl ⟨_, rfl, ptT_16 nx ny (own_base o1 (by omega)) (own_base o2 (by omega)) hap, fr⟩
end Go.Proofs.YtoblilngppjmhaaDoor
namespace Go.Proofs.YtoblilngppjmhaaDoor
set_option maxRecDepth 100000
set_option maxHeartbeats 4000000

/-- The field's numbers, as residues. -/
abbrev KF := Fin pN
theorem pN_ne : pN ≠ 0 := by unfold pN; decide
theorem nzP : NeZero pN := ⟨pN_ne⟩
/-- A whole number as one of the field. -/
def fe (x : Int) : KF := ⟨(x % P25519).toNat, by
  have h0 := Int.emod_nonneg x (show P25519 ≠ 0 by unfold P25519; decide)
  have h1 := Int.emod_lt_of_pos x (show 0 < P25519 by unfold P25519; decide)
  have h2 : ((x % P25519).toNat : Int) < (pN : Int) := by rw [pN_int]; omega
  exact Int.ofNat_lt.1 h2⟩
theorem fe_val (x : Int) : ((fe x).val : Int) = x % P25519 := by
  have h0 := Int.emod_nonneg x (show P25519 ≠ 0 by unfold P25519; decide)
  show ((x % P25519).toNat : Int) = _
  omega
theorem kf_ext {a b : KF} (h : ((a.val : Nat) : Int) = ((b.val : Nat) : Int)) : a = b := Fin.ext (Int.ofNat.inj h)
theorem fe_eq {x y : Int} : fe x = fe y ↔ x % P25519 = y % P25519 := by
  constructor
  · intro h; rw [← fe_val, ← fe_val, h]
  · intro h; apply kf_ext; rw [fe_val, fe_val, h]
theorem fe_add (x y : Int) : fe (x + y) = fe x + fe y := by
  apply kf_ext
  rw [fe_val, Fin.val_add]
  rw [Int.natCast_emod, Int.natCast_add, fe_val, fe_val, pN_int, ← Int.add_emod]
theorem fe_mul (x y : Int) : fe (x * y) = fe x * fe y := by
  apply kf_ext
  rw [fe_val, Fin.val_mul]
  rw [Int.natCast_emod, Int.natCast_mul, fe_val, fe_val, pN_int, ← Int.mul_emod]
theorem fe_mod (x : Int) : fe (x % P25519) = fe x := fe_eq.2 (Int.emod_emod _ _)
theorem fe_back (a : KF) : fe (a.val : Int) = a := by
  apply kf_ext
  rw [fe_val, ← pN_int]
  exact Int.emod_eq_of_lt (Int.natCast_nonneg _) (Int.ofNat_lt.2 a.isLt)
theorem fe_pow (x : Int) : ∀ n : Nat, fe (x ^ n) = fe ((x % P25519) ^ n)
  | 0 => by rw [Int.pow_zero, Int.pow_zero]
  | n + 1 => by rw [Int.pow_succ, Int.pow_succ, fe_mul, fe_mul, fe_pow x n, fe_mod]
/-- The inverse, as a power. -/
def ivK (a : KF) : KF := fe ((a.val : Int) ^ eInv)
theorem ivK_fe (x : Int) : ivK (fe x) = fe (x ^ eInv) := by
  unfold ivK
  rw [fe_val, ← fe_pow]
/-- The number d of the curve, and a root of the opposite of one. -/
def dN : Nat := 37095705934669439343138083508754565189542113879843219016388785533085940283555
def dK : KF := fe (dN : Int)
def iK : KF := fe (qN : Int)
theorem two_gen {x : Int} (h0 : 0 ≤ x) (h1 : x < P25519) (h : (x + x) % P25519 = 0) : x = 0 := by
  have hp : 0 < P25519 := by unfold P25519; decide
  have e := Int.emod_add_mul_ediv (x + x) P25519
  have k0 : 0 ≤ (x + x) / P25519 := Int.ediv_nonneg (by omega) (by omega)
  have k1 : (x + x) / P25519 < 2 := Int.ediv_lt_of_lt_mul hp (by omega)
  rw [h, Int.zero_add] at e
  have hk : (x + x) / P25519 = 0 ∨ (x + x) / P25519 = 1 := by omega
  rcases hk with hk | hk
  · rw [hk] at e; omega
  · rw [hk, Int.mul_one] at e
    have hodd : P25519 % 2 = 1 := by decide
    omega
theorem nsq_gen {p D H s t : Nat} (hp : Pri p) (hH : p - 1 = 2 * H) (hD : D ^ H % p = p - 1) (h2p : 2 < p) (ht : ¬ p ∣ t) (h : s * s % p = D * (t * t) % p) : False := by
  have pw2 : ∀ s : Nat, (s * s) ^ H = s ^ (p - 1) := fun s => by rw [hH, Nat.pow_mul, Nat.pow_two]
  have h2 : (s * s) ^ H % p = (D * (t * t)) ^ H % p := by rw [Nat.pow_mod, h, ← Nat.pow_mod]
  rw [pw2 s, Nat.mul_pow D, pw2 t, Nat.mul_mod, hp.one ht, hD, Nat.mul_one, Nat.mod_eq_of_lt (show p - 1 < p by omega)] at h2
  by_cases hs : p ∣ s
  · have h3 : s ^ (p - 1) % p = 0 := by
      obtain ⟨k, hk⟩ := hs
      rw [hk, show p - 1 = (p - 2) + 1 by omega, Nat.pow_succ, Nat.mul_comm, Nat.mul_assoc, Nat.mul_mod_right]
    omega
  · have := hp.one hs
    omega
/-- d to the power (p - 1) / 2 is the opposite of one. -/
def hP : Nat := 28948022309329048855892746252171976963317496166410141009864396001978282409974
theorem pw_gen {n a f e r : Nat} (h1 : 1 < n) (h2 : e < 2 ^ f) (h : pw n a f e = r) : a ^ e % n = r := (pw_eq h1 f e h2).symm.trans h
theorem one_lt_pN : 1 < pN := by unfold pN; decide
theorem two_lt_pN : 2 < pN := by unfold pN; decide
theorem hP_lt : hP < 2 ^ 255 := by unfold hP; decide
theorem hP_two : pN - 1 = 2 * hP := by unfold pN hP; decide
theorem dN_pw : pw pN dN 255 hP = pN - 1 := by decide +kernel
theorem dN_half : dN ^ hP % pN = pN - 1 := pw_gen one_lt_pN hP_lt dN_pw
theorem dK_val : dK.val = dN := by
  apply Int.ofNat.inj
  show ((fe (dN : Int)).val : Int) = (dN : Int)
  rw [fe_val]
  decide
section
variable [NeZero pN]
theorem fe_zero : fe 0 = 0 := by
  apply kf_ext
  rw [fe_val]
  rfl
theorem fe_one : fe 1 = 1 := by
  apply kf_ext
  rw [fe_val]
  rfl
theorem fe_sub (x y : Int) : fe (x - y) = fe x - fe y := by
  have h : fe (x - y) + fe y = fe x := by rw [← fe_add]; congr 1; omega
  rw [← h]
  grind
theorem fe_nz {x : Int} : fe x = 0 ↔ x % P25519 = 0 := by
  rw [← fe_zero, fe_eq]
  rfl
theorem ivK_inv (a : KF) (h : a ≠ 0) : a * ivK a = 1 := by
  have h0 : 0 < (a.val : Int) := by
    have : a.val ≠ 0 := fun e => h (Fin.ext (by rw [e]; rfl))
    omega
  have h1 : (a.val : Int) < P25519 := by rw [← pN_int]; exact Int.ofNat_lt.2 a.isLt
  have h2 := inv_int h0 h1
  have h3 : fe ((a.val : Int) * (a.val : Int) ^ eInv) = fe 1 := fe_eq.2 (by rw [h2]; rfl)
  rw [fe_mul, fe_back, fe_one] at h3
  exact h3
theorem im_K : iK * iK + 1 = 0 := by
  unfold iK
  rw [← fe_mul, ← fe_one, ← fe_add, fe_nz]
  decide +kernel
theorem one_K : (1 : KF) ≠ 0 := by
  rw [← fe_one, Ne, fe_nz]
  decide
theorem two_K (a : KF) (h : a + a = 0) : a = 0 := by
  have h1 : (a.val : Int) < P25519 := by rw [← pN_int]; exact Int.ofNat_lt.2 a.isLt
  have h2 := Int.natCast_nonneg a.val
  have h3 : ((a.val : Int) + (a.val : Int)) % P25519 = 0 := by
    rw [← fe_nz, fe_add, fe_back]
    exact h
  have h4 := two_gen h2 h1 h3
  rw [← fe_back a, h4, fe_zero]
theorem nsq_K (s t : KF) (h : s * s = dK * (t * t)) : t = 0 := by
  apply Classical.byContradiction
  intro ht
  have htv : ¬ pN ∣ t.val := fun e => ht (Fin.ext (by
    have := Nat.eq_zero_of_dvd_of_lt e t.isLt
    rw [this]; rfl))
  have h1 : s.val * s.val % pN = dN * (t.val * t.val) % pN := by
    have := congrArg Fin.val h
    rw [Fin.val_mul, Fin.val_mul, Fin.val_mul, dK_val, Nat.mul_mod_mod] at this
    exact this
  exact nsq_gen pri_pN hP_two dN_half two_lt_pN htv h1
theorem crvK : Crv dK iK ivK := ⟨im_K, one_K, two_K, nsq_K, ivK_inv⟩
end
end Go.Proofs.YtoblilngppjmhaaDoor
namespace Go.Proofs.YtoblilngppjmhaaDoor
open Go.RowKit
set_option maxRecDepth 100000

theorem i64_at (a : List Int) (i : Nat) (h : i < a.length) : (I64 a).toArray[i]? = some (.int .i64 (a.getD i 0)) := by
  rw [List.getElem?_toArray, List.getElem?_map, List.getElem?_eq_getElem h, List.getD, List.getElem?_eq_getElem h]
  rfl
theorem run_eqItems_i64 (a b : List Int) (d : Nat) (w : World) : ∀ is : List Nat, (∀ i ∈ is, i < a.length ∧ i < b.length) →
    (Op.eqItems (d + 1) 3 1 (I64 a).toArray (I64 b).toArray is).run Tryd.prog w = .ok (is.all fun i => a.getD i 0 == b.getD i 0) w
  | [], _ => by simp [Op.eqItems]
  | i :: is, h => by
    obtain ⟨h1, h2⟩ := h i (List.mem_cons_self)
    have ih := run_eqItems_i64 a b d w is (fun j hj => h j (List.mem_cons_of_mem _ hj))
    have hk : Tryd.prog.plainKey 3 = true := by kernel_rfl
    have p1 := run_part_plain (P := Tryd.prog) w hk (xs := (I64 a).toArray) (off := i * 1) (by rw [Nat.mul_one]; exact i64_at a i h1)
    have p2 := run_part_plain (P := Tryd.prog) w hk (xs := (I64 b).toArray) (off := i * 1) (by rw [Nat.mul_one]; exact i64_at b i h2)
    have p3 := run_equalIn_int (P := Tryd.prog) w d 3 .i64 .i64 (a.getD i 0) (b.getD i 0) Tryd.underlying3
    simp only [Op.eqItems, Sem.run_bind, p1, p2, p3, Result.andThen_ok, List.all_cons]
    cases hc : (a.getD i 0 == b.getD i 0) with
    | true =>
      simp only [Bool.not_true, Bool.false_eq_true, if_false, Bool.true_and]
      exact ih
    | false => rfl
theorem all_range {a b : List Int} (ha : a.length = 16) (hb : b.length = 16) : ((List.range 16).all fun i => a.getD i 0 == b.getD i 0) = decide (a = b) := by
  by_cases h : a = b
  · subst h; simp
  · rw [decide_eq_false h, ← Bool.not_eq_true]
    intro hc
    refine h (List.ext_getElem (by omega) fun i h1 h2 => ?_)
    have := List.all_eq_true.1 hc i (List.mem_range.2 (by omega))
    simpa [List.getD, h1, h2] using this
/-- Two arrays of sixteen ints are compared. -/
theorem run_eq16 (a b : List Int) (w : World) (ha : a.length = 16) (hb : b.length = 16) :
    (Op.equalIn 10000 82 (.agg (I64 a).toArray) (.agg (I64 b).toArray)).run Tryd.prog w = .ok (decide (a = b)) w := by
  obtain ⟨i, hi⟩ : ∃ i, Tryd.prog.info? 3 = some i := by
    cases h : Tryd.prog.info? 3 with
    | some i => exact ⟨i, rfl⟩
    | none => have := infoI; rw [h] at this; simp at this
  have hc : Tryd.prog.cellsOf 3 = 1 := by unfold Program.cellsOf; rw [infoI]; rfl
  rw [run_equalIn_array w 9999 _ _ Tryd.underlying82 hi, hc, run_eqItems_i64 a b 9998 w _ (fun i h => by have := List.mem_range.1 h; omega), all_range ha hb]

end Go.Proofs.YtoblilngppjmhaaDoor
