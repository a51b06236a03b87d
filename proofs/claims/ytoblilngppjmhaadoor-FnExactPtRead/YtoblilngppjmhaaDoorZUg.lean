/-
  What is proved here: the contract of the specification's l6out: a point in the long form as two lists of its own; the lists of an answer that is a point; plain facts on memory; bounds of the lists of an answer that is a point; plain facts on memory; how two arrays of sixteen are compared; no condition.
-/
import Derived.Test.YtoblilngppjmhaaDoorZUff
import Derived.Test.YtoblilngppjmhaaDoorZSmBI
import Derived.Test.YtoblilngppjmhaaDoorZFu
import Derived.ChangeKeysEq
import Derived.Test.YtoblilngppjmhaaDoorZFs
namespace Go.Proofs.YtoblilngppjmhaaDoor
open Go.RowKit
set_option maxRecDepth 100000

/-- A point that a call answers: two lists, each in new memory, apart. -/
def PtT (ty : TypeId) (w w' : World) (v : Value) (xs ys : List Int) : Prop := ∃ a c b d, v = .agg #[.slice a xs.length c, .slice b ys.length d] ∧ w'.ownsRow w.heap.size ty 1 (.slice a xs.length c) xs.length (I64 xs) ∧ w'.ownsRow w.heap.size ty 1 (.slice b ys.length d) ys.length (I64 ys) ∧ Apart (.slice a xs.length c) (.slice b ys.length d)
theorem ptT_nil (ty : TypeId) (w w' : World) : PtT ty w w' (.agg #[.slice none 0 0, .slice none 0 0]) [] [] := ⟨none, 0, none, 0, rfl, World.ownsRow_nil _ _ _ _, World.ownsRow_nil _ _ _ _, fun k hk => by cases hk⟩
theorem ptT_16 {ty : TypeId} {w w' : World} {a b : Option Addr} {c d : Nat} {xs ys : List Int} (hx : xs.length = 16) (hy : ys.length = 16) (h : w'.ownsRow w.heap.size ty 1 (.slice a 16 c) 16 (I64 xs)) (h' : w'.ownsRow w.heap.size ty 1 (.slice b 16 d) 16 (I64 ys)) (hA : Apart (.slice a 16 c) (.slice b 16 d)) : PtT ty w w' (.agg #[.slice a 16 c, .slice b 16 d]) xs ys := ⟨a, c, b, d, by rw [hx, hy], by rw [hx]; exact h, by rw [hy]; exact h', by rw [hx, hy]; exact hA⟩
theorem build_pt (u v : Value) (w : World) : (Instr.build 27 #[(0, .agg #[u]), (1, .agg #[v])]).run Tryd.prog w = .ok (.agg #[u, v]) w := by kernel_rfl
theorem yieldsIf_pt {ops : Array Oper} {S : World → Prop} {op : Oper} {act : Act} (hw : Region.wanted op (yielded ops act.tmps) = true) (x y : Operand) (ho : op.op = .build 27 #[(0, x), (1, y)]) (u v : Value) (hx : act.eval x = .agg #[u]) (hy : act.eval y = .agg #[v]) : YieldsIf Tryd.prog ops S op (.agg #[u, v]) act :=
  .inl ⟨hw, fun w _ => by
    unfold execOp
    simp only [ho, hx, hy, Sem.run_bind, List.map_toArray, List.map_cons, List.map_nil, build_pt u v w, Sem.run_pure, Result.andThen_ok]⟩
/-- Two numbers are laid into new cells. -/
theorem laid_e2 (w1 : World) (L M : List Int) :
    Below w1.heap.size w1 ((((w1.alloc (.cells #[.int .i64 0, .int .i64 0, .int .i64 0, .int .i64 0, .int .i64 0, .int .i64 0, .int .i64 0, .int .i64 0, .int .i64 0, .int .i64 0, .int .i64 0, .int .i64 0, .int .i64 0, .int .i64 0, .int .i64 0, .int .i64 0] 82)).alloc (.cells #[.int .i64 0, .int .i64 0, .int .i64 0, .int .i64 0, .int .i64 0, .int .i64 0, .int .i64 0, .int .i64 0, .int .i64 0, .int .i64 0, .int .i64 0, .int .i64 0, .int .i64 0, .int .i64 0, .int .i64 0, .int .i64 0] 82)).setRow w1.heap.size (I64 L).toArray).setRow (w1.heap.size + 1) (I64 M).toArray) ∧
    Arr ((((w1.alloc (.cells #[.int .i64 0, .int .i64 0, .int .i64 0, .int .i64 0, .int .i64 0, .int .i64 0, .int .i64 0, .int .i64 0, .int .i64 0, .int .i64 0, .int .i64 0, .int .i64 0, .int .i64 0, .int .i64 0, .int .i64 0, .int .i64 0] 82)).alloc (.cells #[.int .i64 0, .int .i64 0, .int .i64 0, .int .i64 0, .int .i64 0, .int .i64 0, .int .i64 0, .int .i64 0, .int .i64 0, .int .i64 0, .int .i64 0, .int .i64 0, .int .i64 0, .int .i64 0, .int .i64 0, .int .i64 0] 82)).setRow w1.heap.size (I64 L).toArray).setRow (w1.heap.size + 1) (I64 M).toArray) w1.heap.size 82 (I64 L) ∧
    Arr ((((w1.alloc (.cells #[.int .i64 0, .int .i64 0, .int .i64 0, .int .i64 0, .int .i64 0, .int .i64 0, .int .i64 0, .int .i64 0, .int .i64 0, .int .i64 0, .int .i64 0, .int .i64 0, .int .i64 0, .int .i64 0, .int .i64 0, .int .i64 0] 82)).alloc (.cells #[.int .i64 0, .int .i64 0, .int .i64 0, .int .i64 0, .int .i64 0, .int .i64 0, .int .i64 0, .int .i64 0, .int .i64 0, .int .i64 0, .int .i64 0, .int .i64 0, .int .i64 0, .int .i64 0, .int .i64 0, .int .i64 0] 82)).setRow w1.heap.size (I64 L).toArray).setRow (w1.heap.size + 1) (I64 M).toArray) (w1.heap.size + 1) 82 (I64 M) ∧
    Arr ((w1.alloc (.cells #[.int .i64 0, .int .i64 0, .int .i64 0, .int .i64 0, .int .i64 0, .int .i64 0, .int .i64 0, .int .i64 0, .int .i64 0, .int .i64 0, .int .i64 0, .int .i64 0, .int .i64 0, .int .i64 0, .int .i64 0, .int .i64 0] 82)).alloc (.cells #[.int .i64 0, .int .i64 0, .int .i64 0, .int .i64 0, .int .i64 0, .int .i64 0, .int .i64 0, .int .i64 0, .int .i64 0, .int .i64 0, .int .i64 0, .int .i64 0, .int .i64 0, .int .i64 0, .int .i64 0, .int .i64 0] 82)) w1.heap.size 82 (I64 Z16) ∧
    Arr (((w1.alloc (.cells #[.int .i64 0, .int .i64 0, .int .i64 0, .int .i64 0, .int .i64 0, .int .i64 0, .int .i64 0, .int .i64 0, .int .i64 0, .int .i64 0, .int .i64 0, .int .i64 0, .int .i64 0, .int .i64 0, .int .i64 0, .int .i64 0] 82)).alloc (.cells #[.int .i64 0, .int .i64 0, .int .i64 0, .int .i64 0, .int .i64 0, .int .i64 0, .int .i64 0, .int .i64 0, .int .i64 0, .int .i64 0, .int .i64 0, .int .i64 0, .int .i64 0, .int .i64 0, .int .i64 0, .int .i64 0] 82)).setRow w1.heap.size (I64 L).toArray) (w1.heap.size + 1) 82 (I64 Z16) := by
  have q1 : Arr ((w1.alloc (.cells #[.int .i64 0, .int .i64 0, .int .i64 0, .int .i64 0, .int .i64 0, .int .i64 0, .int .i64 0, .int .i64 0, .int .i64 0, .int .i64 0, .int .i64 0, .int .i64 0, .int .i64 0, .int .i64 0, .int .i64 0, .int .i64 0] 82)).alloc (.cells #[.int .i64 0, .int .i64 0, .int .i64 0, .int .i64 0, .int .i64 0, .int .i64 0, .int .i64 0, .int .i64 0, .int .i64 0, .int .i64 0, .int .i64 0, .int .i64 0, .int .i64 0, .int .i64 0, .int .i64 0, .int .i64 0] 82)) w1.heap.size 82 (I64 Z16) := (Arr.new w1 (I64 Z16) _).alloc _
  have q2 : Arr ((w1.alloc (.cells #[.int .i64 0, .int .i64 0, .int .i64 0, .int .i64 0, .int .i64 0, .int .i64 0, .int .i64 0, .int .i64 0, .int .i64 0, .int .i64 0, .int .i64 0, .int .i64 0, .int .i64 0, .int .i64 0, .int .i64 0, .int .i64 0] 82)).alloc (.cells #[.int .i64 0, .int .i64 0, .int .i64 0, .int .i64 0, .int .i64 0, .int .i64 0, .int .i64 0, .int .i64 0, .int .i64 0, .int .i64 0, .int .i64 0, .int .i64 0, .int .i64 0, .int .i64 0, .int .i64 0, .int .i64 0] 82)) (w1.heap.size + 1) 82 (I64 Z16) := by
    have := Arr.new (w1.alloc (.cells (I64 Z16).toArray 82)) (I64 Z16) 82
    rw [World.size_alloc] at this
    exact this
  have hb : Below w1.heap.size w1 ((w1.alloc (.cells #[.int .i64 0, .int .i64 0, .int .i64 0, .int .i64 0, .int .i64 0, .int .i64 0, .int .i64 0, .int .i64 0, .int .i64 0, .int .i64 0, .int .i64 0, .int .i64 0, .int .i64 0, .int .i64 0, .int .i64 0, .int .i64 0] 82)).alloc (.cells #[.int .i64 0, .int .i64 0, .int .i64 0, .int .i64 0, .int .i64 0, .int .i64 0, .int .i64 0, .int .i64 0, .int .i64 0, .int .i64 0, .int .i64 0, .int .i64 0, .int .i64 0, .int .i64 0, .int .i64 0, .int .i64 0] 82)) := ((Below.refl _ _).alloc (Nat.le_refl _) _).alloc (by simp) _
  exact ⟨setRow_below (setRow_below hb _ _ (Nat.le_refl _)) _ _ (by omega), (q1.row _).rowOther _ _ (by omega), (q2.rowOther _ _ (by omega)).row _, q1, q2.rowOther _ _ (by omega)⟩

set_option maxHeartbeats 4000000 in
theorem spec6out (P : E4) (w : World) (hP : P.Ok) :
    Calls Tryd.prog 86 #[.agg (I64 P.cells).toArray] w fun e w' => ∃ v, e = .returned v ∧ PtT 3 w w' v (flx P) (fly P) ∧ Below w.heap.size w w' := by
  have hPl := E4.len hP
  have HF : Hid (∀ Z, Calls Tryd.prog 123 #[.agg (I64 P.cells).toArray] Z fun e w' => e = .returned (.tuple #[.agg (I64 (flx P)).toArray, .agg (I64 (fly P)).toArray]) ∧ Below Z.heap.size Z w') := by
    unfold Hid; intro Z; exact spec6flat P Z hP
  obtain ⟨x, ex⟩ : ∃ x, x = flx P := ⟨_, rfl⟩
  have kx : feOk x = true := by rw [ex]; exact ok_red _
  obtain ⟨y, ey⟩ : ∃ y, y = fly P := ⟨_, rfl⟩
  have ky : feOk y = true := by rw [ey]; exact ok_red _
  rw [← ex, ← ey] at HF ⊢
  have mx := feOk_lm' kx
  have my := feOk_lm' ky
  have jx := infoE' kx
  have jy := infoE' ky
  have iix := infoEl kx
  have iiy := infoEl ky
  have nx := feOk_len kx
  have ny := feOk_len ky
  have hip := infoP' hP
  have hu : Tryd.prog.underlying 82 = some (.array 16 3) := Tryd.underlying82
  obtain ⟨A, hA⟩ : ∃ A, A = (I64 P.cells).toArray := ⟨_, rfl⟩
  obtain ⟨W, hW⟩ : ∃ W, W = (w.alloc (.cells A 108)).alloc (.cells #[.slice none 0 0, .slice none 0 0] 27) := ⟨_, rfl⟩
  have fr : Below w.heap.size w W := by rw [hW]; exact ((Below.refl _ _).alloc (Nat.le_refl _) _).alloc (by simp) _
  have pa : Arr W w.heap.size 108 (I64 P.cells) := by rw [hW, hA]; exact (Arr.new w (I64 P.cells) _).alloc _
  have pr : Arr W (w.heap.size + 1) 27 ([.slice none 0 0, .slice none 0 0]) := by
    rw [hW]
    have := Arr.new (w.alloc (.cells A 108)) [.slice none 0 0, .slice none 0 0] 27
    rw [World.size_alloc] at this
    exact this
  rw [← hA]
  clear ex ey kx ky hA
  go_enter Tryd.func86, Tryd.ntmps86
  go_upto_region 1 with fail
  rw [← hW]
  clear hW
  go_wp2_with (refine wpList_load_row rfl 108 _ rfl w.heap.size rfl 108 (I64 P.cells).toArray (0, 0) _ pa Tryd.underlying108 rfl hip ?_)
  refine (HF.out _).mono ?_
  rintro e y1 ⟨rfl, hb1⟩
  replace fr := fr.trans (hb1.mono fr.size)
  replace pa := pa.kept hb1
  replace pr := pr.kept hb1
  clear hb1
  have hz0 : w.heap.size + 1 < y1.heap.size := pr.lt
  obtain ⟨bV, Ax, Ay, q1, q2⟩ := laid_e2 y1 x y
  replace fr := fr.trans (bV.mono fr.size)
  replace pa := pa.kept bV
  replace pr := pr.kept bV
  go_upto_region 2 with (first | (refine wpList_store_row rfl 82 _ _ rfl y1.heap.size (I64 x).toArray rfl rfl 82 _ q1 jx (by simp [nx]) (by simp [Value.oneCell']) ?_) | (refine wpList_store_row rfl 82 _ _ rfl (y1.heap.size + 1) (I64 y).toArray rfl rfl 82 _ q2 jy (by simp [ny]) (by simp [Value.oneCell']) ?_))
  obtain ⟨Vq, hVV⟩ : ∃ V, V = (((y1.alloc (.cells #[.int .i64 0, .int .i64 0, .int .i64 0, .int .i64 0, .int .i64 0, .int .i64 0, .int .i64 0, .int .i64 0, .int .i64 0, .int .i64 0, .int .i64 0, .int .i64 0, .int .i64 0, .int .i64 0, .int .i64 0, .int .i64 0] 82)).alloc (.cells #[.int .i64 0, .int .i64 0, .int .i64 0, .int .i64 0, .int .i64 0, .int .i64 0, .int .i64 0, .int .i64 0, .int .i64 0, .int .i64 0, .int .i64 0, .int .i64 0, .int .i64 0, .int .i64 0, .int .i64 0, .int .i64 0] 82)).setRow y1.heap.size (I64 x).toArray).setRow (y1.heap.size + 1) (I64 y).toArray := ⟨_, rfl⟩
  obtain ⟨X, hE⟩ : ∃ E, E = y1.heap.size := ⟨_, rfl⟩
  rw [← hVV] at fr pa pr Ax Ay ⊢
  rw [← hE] at Ax Ay hz0 ⊢
  clear hVV hE q1 q2 bV
  try simp only [Act.put]
  have bD : Below Vq.heap.size Vq Vq.drew := (Below.refl _ _).drew
  replace fr := fr.trans (bD.mono fr.size)
  replace pa := pa.kept bD
  replace pr := pr.kept bD
  replace Ax := Ax.kept bD
  replace Ay := Ay.kept bD
  clear bD
  refine wp_region_held_drew (S := fun W => W.rangeAt X 0 (I64 x) ∧ W.rangeAt (X + 1) 0 (I64 y)) (by kernel_rfl) ⟨arr_range Ax, arr_range Ay⟩ (fun hHeld => ?_)
  obtain ⟨D2, hD⟩ : ∃ V, V = Vq.drew := ⟨_, rfl⟩
  rw [← hD] at hHeld fr pa pr Ax Ay ⊢
  clear hD
  refine wpAnyH_take (i := 0) (oi := { dst := some 10, op := Op.load 82 (Operand.tmp 3), type := 82, pos := "l06_point.go:74", after := #[], guard := none }) (v := _) rfl (by kernel_rfl) (by kernel_rfl) (by kernel_rfl) (fun _ _ _ h => h) (yieldsIf_load_mid (by rfl) _ _ rfl _ _ rfl (I64 x) _ (fun _ h => h.1) hu rfl iix) (by assumption) ?_
  simp only [Act.put, List.setIfInBounds_toArray, List.set_cons_zero, List.set_cons_succ]
  refine wpAnyH_take (i := 2) (oi := { dst := some 12, op := Op.load 82 (Operand.tmp 4), type := 82, pos := "l06_point.go:74", after := #[], guard := none }) (v := _) rfl (by kernel_rfl) (by kernel_rfl) (by kernel_rfl) (fun _ _ _ h => h) (yieldsIf_load_mid (by rfl) _ _ rfl _ _ rfl (I64 y) _ (fun _ h => h.2) hu rfl iiy) (by assumption) ?_
  simp only [Act.put, List.setIfInBounds_toArray, List.set_cons_zero, List.set_cons_succ]
  refine wpAnyH_ready (rs := [1]) (by kernel_rfl) (by simp) (AllReadyH.cons (o := { dst := some 11, op := Op.call { callee := Callee.value (Operand.func 129), args := #[Operand.tmp 10], argTypes := #[82] }, type := 25, pos := "l06_point.go:74", after := #[{ on := 0, ground := Ground.data }], guard := none }) rfl (fun K hK => ?_) AllReadyH.nil)
  go_simp
  have hl1 : w.heap.size + 1 < D2.heap.size := pr.lt
  refine (specOut x _ nx mx).mono ?_
  rintro e y3 ⟨a1, c1, rfl, o1, hb3⟩
  replace fr := fr.trans (hb3.mono fr.size)
  replace pa := pa.kept hb3
  replace pr := pr.kept hb3
  replace Ax := Ax.kept hb3
  replace Ay := Ay.kept hb3
  clear hb3
  have i1 := In.of o1
  go_wp2_with fail
  refine hK.out _ _ ⟨arr_range Ax, arr_range Ay⟩ (fun hHeld => ?_)
  clear hK K
  refine wpAnyH_ready (rs := [3]) (by kernel_rfl) (by simp) (AllReadyH.cons (o := { dst := some 13, op := Op.call { callee := Callee.value (Operand.func 129), args := #[Operand.tmp 12], argTypes := #[82] }, type := 25, pos := "l06_point.go:74", after := #[{ on := 2, ground := Ground.data }, { on := 1, ground := Ground.chain }], guard := none }) rfl (fun K hK => ?_) AllReadyH.nil)
  go_simp
  have hl2 : w.heap.size + 1 < y3.heap.size := pr.lt
  refine (specOut y _ ny my).mono ?_
  rintro e y4 ⟨a2, c2, rfl, o2, hb4⟩
  replace fr := fr.trans (hb4.mono fr.size)
  replace pa := pa.kept hb4
  replace pr := pr.kept hb4
  replace Ax := Ax.kept hb4
  replace Ay := Ay.kept hb4
  replace o1 := own_below o1 hb4
  clear hb4
  have i2 := In.of o2
  go_wp2_with fail
  refine hK.out _ _ ⟨arr_range Ax, arr_range Ay⟩ (fun hHeld => ?_)
  clear hK K
  refine wpAnyH_take (i := 4) (oi := { dst := some 14, op := Op.build 27 #[(0, Operand.tmp 11), (1, Operand.tmp 13)], type := 27, pos := "l06_point.go:74", after := #[{ on := 1, ground := Ground.data }, { on := 3, ground := Ground.data }], guard := none }) (v := _) rfl (by kernel_rfl) (by kernel_rfl) (by kernel_rfl) (fun _ _ _ h => h) (yieldsIf_pt (by rfl) _ _ rfl _ _ rfl rfl) (by assumption) ?_
  simp only [Act.put, List.setIfInBounds_toArray, List.set_cons_zero, List.set_cons_succ]
  refine wpAnyH_ready (rs := [5]) (by kernel_rfl) (by simp) (AllReadyH.cons (o := { dst := none, op := Op.store 27 (Operand.tmp 2) (Operand.tmp 14), type := 0, pos := "l06_point.go:74", after := #[{ on := 4, ground := Ground.data }, { on := 3, ground := Ground.chain }, { on := 0, ground := Ground.phase }, { on := 1, ground := Ground.phase }, { on := 2, ground := Ground.phase }, { on := 3, ground := Ground.phase }, { on := 4, ground := Ground.phase }], guard := none }) rfl (fun K hK => ?_) AllReadyH.nil)
  rw [if_pos (by rfl)]
  refine wp_store_mid _ _ _ rfl _ _ ([.slice a1 16 c1, .slice a2 16 c2]).toArray rfl rfl (by have := arr_there pr; simpa using this) infoPt (all_oneCell_toArray (by simp [Value.oneCell'])) ?_
  simp only [Act.put]
  obtain ⟨V5, hVe⟩ : ∃ V, V = y4.setCells (w.heap.size + 1) 0 ([.slice a1 16 c1, .slice a2 16 c2]) := ⟨_, rfl⟩
  rw [← hVe]
  replace fr : Below w.heap.size w V5 := by rw [hVe]; exact setCells_below (by omega) _ _ fr
  replace pa : Arr V5 w.heap.size 108 (I64 P.cells) := by rw [hVe]; exact Arr.setCellsO (by omega) _ _ pa
  replace pr : Arr V5 (w.heap.size + 1) 27 ([.slice a1 16 c1, .slice a2 16 c2]) := by rw [hVe]; exact Arr.setCells0 pr (by simp)
  replace Ax : Arr V5 X 82 (I64 x) := by rw [hVe]; exact Arr.setCellsO (by omega) _ _ Ax
  replace Ay : Arr V5 (X + 1) 82 (I64 y) := by rw [hVe]; exact Arr.setCellsO (by omega) _ _ Ay
  replace o1 : V5.ownsRow D2.heap.size 3 1 (.slice a1 16 c1) 16 (I64 x) := by rw [hVe]; exact own_setCells o1 i1 (.inl hl1) _
  replace o2 : V5.ownsRow y3.heap.size 3 1 (.slice a2 16 c2) 16 (I64 y) := by rw [hVe]; exact own_setCells o2 i2 (.inl hl2) _
  clear hVe
  refine hK.out _ _ ⟨arr_range Ax, arr_range Ay⟩ (fun hHeld => ?_)
  clear hK K
  refine wpAnyH_done (by kernel_rfl) ?_ _
  go_wp2
  have hap : Apart (.slice a1 16 c1) (.slice a2 16 c2) := i1.apart i2 (.inl (by omega))
  exact bodyPost_ret (results_cell_row rfl _ _ (w.heap.size + 1) 27 #[.slice a1 16 c1, .slice a2 16 c2] (0, 0) _ rfl pr Tryd.underlying27 rfl infoPt) rfl ⟨_, rfl, ptT_16 nx ny (own_base o1 (by omega)) (own_base o2 (by omega)) hap, fr⟩
end Go.Proofs.YtoblilngppjmhaaDoor
namespace Go.Proofs.YtoblilngppjmhaaDoor
open Go.RowKit
set_option maxRecDepth 100000

/-- The lists of an answer, where there is one. -/
def ptx (ok : Bool) (R : E4) : List Int := if ok = true then flx R else []
def pty (ok : Bool) (R : E4) : List Int := if ok = true then fly R else []
theorem flx_len (R : E4) : (flx R).length = 16 := red_len _
theorem fly_len (R : E4) : (fly R).length = 16 := red_len _

theorem own_rowM {W : World} {lo e s n hi E : Nat} {v : Value} {xs : List Value} (h : W.ownsRow lo e s v n xs) (i : In v lo hi) (hE : E < lo ∨ hi ≤ E) (cs : Array Value) : (W.setRow E cs).ownsRow lo e s v n xs := by
  refine ⟨h.1, ?_⟩
  rcases h.2 with hn | ⟨g, cap, cur, rfl, hg, hgg, rest⟩
  · exact .inl hn
  · have := i g rfl
    exact .inr ⟨g, cap, cur, rfl, hg, (setRow_other W E g cs (by omega)).trans hgg, rest⟩
end Go.Proofs.YtoblilngppjmhaaDoor
namespace Go.Proofs.YtoblilngppjmhaaDoor
open Go.RowKit
set_option maxRecDepth 100000

theorem red_int (v : Int) : ∀ x ∈ red v, -9223372036854775808 ≤ x ∧ x ≤ 9223372036854775807 := by
  intro x hx
  have := feOk_lm' (ok_red v) x hx
  omega
theorem ptx_le (ok : Bool) (R : E4) : (ptx ok R).length ≤ 32 := by unfold ptx; split <;> simp [flx_len]
theorem pty_le (ok : Bool) (R : E4) : (pty ok R).length ≤ 32 := by unfold pty; split <;> simp [fly_len]
theorem ptx_int (ok : Bool) (R : E4) : ∀ x ∈ ptx ok R, -9223372036854775808 ≤ x ∧ x ≤ 9223372036854775807 := by
  unfold ptx; split
  · exact red_int _
  · intro x hx; cases hx
theorem pty_int (ok : Bool) (R : E4) : ∀ x ∈ pty ok R, -9223372036854775808 ≤ x ∧ x ≤ 9223372036854775807 := by
  unfold pty; split
  · exact red_int _
  · intro x hx; cases hx
/-- A new block of two cells, laid at once. -/
theorem laid_two (w1 : World) (t : TypeId) (z0 z1 x y : Value) : Below w1.heap.size w1 ((w1.alloc (.cells #[z0, z1] t)).setRow w1.heap.size ([x, y] : List Value).toArray) ∧ Arr ((w1.alloc (.cells #[z0, z1] t)).setRow w1.heap.size ([x, y] : List Value).toArray) w1.heap.size t [x, y] ∧ Arr (w1.alloc (.cells #[z0, z1] t)) w1.heap.size t [z0, z1] ∧ ((w1.alloc (.cells #[z0, z1] t)).setRow w1.heap.size ([x, y] : List Value).toArray).heap.size = w1.heap.size + 1 := by
  have h : Arr (w1.alloc (.cells #[z0, z1] t)) w1.heap.size t [z0, z1] := Arr.new w1 [z0, z1] t
  have hb := setRow_below ((Below.refl w1.heap.size w1).alloc (Nat.le_refl _) (.cells #[z0, z1] t)) w1.heap.size ([x, y] : List Value).toArray (Nat.le_refl _)
  refine ⟨hb, h.row [x, y], h, ?_⟩
  simp [World.setRow]
end Go.Proofs.YtoblilngppjmhaaDoor
namespace Go.Proofs.YtoblilngppjmhaaDoor
open Go.RowKit
set_option maxRecDepth 100000

theorem i64_at (a : List Int) (i : Nat) (h : i < a.length) : (I64 a).toArray[i]? = some (.int .i64 (a.getD i 0)) := by
  rw [List.getElem?_toArray, List.getElem?_map, List.getElem?_eq_getElem h, List.getD, List.getElem?_eq_getElem h]
  rfl
theorem run_eqItems_i64 (a b : List Int) (d : Nat) (w : World) : ∀ is : List Nat, (∀ i ∈ is, i < a.length ∧ i < b.length) →
    (Op.eqItems (d + 1) 3 1 (I64 a).toArray (I64 b).toArray is).run Tryd.prog w = .ok (is.all fun i => a.getD i 0 == b.getD i 0) w
  | [], _ => by simp [Op.eqItems]
  | i :: is, h => by
    obtain ⟨h1, h2⟩ := h i (List.mem_cons_self)
    have ih := run_eqItems_i64 a b d w is (fun j hj => h j (List.mem_cons_of_mem _ hj))
    have hk : Tryd.prog.plainKey 3 = true := by kernel_rfl
    have p1 := run_part_plain (P := Tryd.prog) w hk (xs := (I64 a).toArray) (off := i * 1) (by rw [Nat.mul_one]; exact i64_at a i h1)
    have p2 := run_part_plain (P := Tryd.prog) w hk (xs := (I64 b).toArray) (off := i * 1) (by rw [Nat.mul_one]; exact i64_at b i h2)
    have p3 := run_equalIn_int (P := Tryd.prog) w d 3 .i64 .i64 (a.getD i 0) (b.getD i 0) Tryd.underlying3
    simp only [Op.eqItems, Sem.run_bind, p1, p2, p3, Result.andThen_ok, List.all_cons]
    cases hc : (a.getD i 0 == b.getD i 0) with
    | true =>
      simp only [Bool.not_true, Bool.false_eq_true, if_false, Bool.true_and]
      exact ih
    | false => rfl
theorem all_range {a b : List Int} (ha : a.length = 16) (hb : b.length = 16) : ((List.range 16).all fun i => a.getD i 0 == b.getD i 0) = decide (a = b) := by
  by_cases h : a = b
  · subst h; simp
  · rw [decide_eq_false h, ← Bool.not_eq_true]
    intro hc
    refine h (List.ext_getElem (by omega) fun i h1 h2 => ?_)
    have := List.all_eq_true.1 hc i (List.mem_range.2 (by omega))
    simpa [List.getD, h1, h2] using this
/-- Two arrays of sixteen ints are compared. -/
theorem run_eq16 (a b : List Int) (w : World) (ha : a.length = 16) (hb : b.length = 16) :
    (Op.equalIn 10000 82 (.agg (I64 a).toArray) (.agg (I64 b).toArray)).run Tryd.prog w = .ok (decide (a = b)) w := by
  obtain ⟨i, hi⟩ : ∃ i, Tryd.prog.info? 3 = some i := by
    cases h : Tryd.prog.info? 3 with
    | some i => exact ⟨i, rfl⟩
    | none => have := infoI; rw [h] at this; simp at this
  have hc : Tryd.prog.cellsOf 3 = 1 := by unfold Program.cellsOf; rw [infoI]; rfl
  rw [run_equalIn_array w 9999 _ _ Tryd.underlying82 hi, hc, run_eqItems_i64 a b 9998 w _ (fun i h => by have := List.mem_range.1 h; omega), all_range ha hb]

end Go.Proofs.YtoblilngppjmhaaDoor
