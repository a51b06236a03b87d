/-
  What is proved here: the contract of the specification's l6out: a point in the long form as two lists of its own; the lists of an answer that is a point; plain facts on memory; bounds of the lists of an answer that is a point; plain facts on memory; how two arrays of sixteen are compared; no condition; the contract of the specification's l6on: whether two numbers of the field are a point; the contract of the specification's PtOk: whether two lists are a point; plain mathematics on the program's limbs: carried with what is too much left in the last, columns of a product, what folding comes to, powers by squares; no program is spoken of, no condition; the contract of the program's method carried on limbs: what is too much is left in the last; a load of a long array under a guard; limbs laid into a new cell; contracts of the specification's l5in and l5out: a multiplier out of a slice of ints and back into a new one; what an answer is; the contract of the laws' count of a slice of ints; the contract of a helper of the exact laws (copy a slice of ints), for every slice of at most 2^21 ints; contracts of the laws' helpers on a number of the field: hold two against each other, mark, held; contracts of the laws' helpers on a number of the field: count, copy; the contract of the laws' sameInts at two equal slices; the contract of the laws' samePt on two points that are equal; contracts of the laws' szPt, toPt, eqPt, markPt, heldPt and samePt; bounds of the lists of a point, for the exact laws of chapter 6; plain mathematics: whole numbers modulo 2^255 - 19 as residues, their inverses, and that the number d of the curve is no square; no program is spoken of.
-/
import Derived.Test.YtoblilngppjmhaaZYc
import Derived.Test.YtoblilngppjmhaaZKit
import Derived.Test.YtoblilngppjmhaaZFsc
import Derived.ChangeKeysEq
import Derived.Test.YtoblilngppjmhaaZFc
import Derived.Laws.BitsLemmas
import Derived.Test.YtoblilngppjmhaaZFnb
import Derived.BigFrame
namespace Go.Proofs.Ytoblilngppjmhaa
open Go.RowKit
set_option maxRecDepth 100000

/-- A point that a call answers: two lists, each in new memory, apart. -/
def PtT (ty : TypeId) (w w' : World) (v : Value) (xs ys : List Int) : Prop := ∃ a c b d, v = .agg #[.slice a xs.length c, .slice b ys.length d] ∧ w'.ownsRow w.heap.size ty 1 (.slice a xs.length c) xs.length (I64 xs) ∧ w'.ownsRow w.heap.size ty 1 (.slice b ys.length d) ys.length (I64 ys) ∧ Apart (.slice a xs.length c) (.slice b ys.length d)
theorem ptT_16 {ty : TypeId} {w w' : World} {a b : Option Addr} {c d : Nat} {xs ys : List Int} (hx : xs.length = 16) (hy : ys.length = 16) (h : w'.ownsRow w.heap.size ty 1 (.slice a 16 c) 16 (I64 xs)) (h' : w'.ownsRow w.heap.size ty 1 (.slice b 16 d) 16 (I64 ys)) (hA : Apart (.slice a 16 c) (.slice b 16 d)) : PtT ty w w' (.agg #[.slice a 16 c, .slice b 16 d]) xs ys := ⟨a, c, b, d, by rw [hx, hy], by rw [hx]; exact h, by rw [hy]; exact h', by rw [hx, hy]; exact hA⟩
theorem build_pt (u v : Value) (w : World) : (Instr.build 26 #[(0, .agg #[u]), (1, .agg #[v])]).run Try.prog w = .ok (.agg #[u, v]) w := by kernel_rfl
theorem yieldsIf_pt {ops : Array Oper} {S : World → Prop} {op : Oper} {act : Act} (hw : Region.wanted op (yielded ops act.tmps) = true) (x y : Operand) (ho : op.op = .build 26 #[(0, x), (1, y)]) (u v : Value) (hx : act.eval x = .agg #[u]) (hy : act.eval y = .agg #[v]) : YieldsIf Try.prog ops S op (.agg #[u, v]) act :=
  .inl ⟨hw, fun w _ => by
    unfold execOp
    simp only [ho, hx, hy, Sem.run_bind, List.map_toArray, List.map_cons, List.map_nil, build_pt u v w, Sem.run_pure, Result.andThen_ok]⟩
/-- Two numbers are laid into new cells. -/
theorem laid_e2 (w1 : World) (L M : List Int) :
    Below w1.heap.size w1 ((((w1.alloc (.cells #[.int .i64 0, .int .i64 0, .int .i64 0, .int .i64 0, .int .i64 0, .int .i64 0, .int .i64 0, .int .i64 0, .int .i64 0, .int .i64 0, .int .i64 0, .int .i64 0, .int .i64 0, .int .i64 0, .int .i64 0, .int .i64 0] 33)).alloc (.cells #[.int .i64 0, .int .i64 0, .int .i64 0, .int .i64 0, .int .i64 0, .int .i64 0, .int .i64 0, .int .i64 0, .int .i64 0, .int .i64 0, .int .i64 0, .int .i64 0, .int .i64 0, .int .i64 0, .int .i64 0, .int .i64 0] 33)).setRow w1.heap.size (I64 L).toArray).setRow (w1.heap.size + 1) (I64 M).toArray) ∧
    Arr ((((w1.alloc (.cells #[.int .i64 0, .int .i64 0, .int .i64 0, .int .i64 0, .int .i64 0, .int .i64 0, .int .i64 0, .int .i64 0, .int .i64 0, .int .i64 0, .int .i64 0, .int .i64 0, .int .i64 0, .int .i64 0, .int .i64 0, .int .i64 0] 33)).alloc (.cells #[.int .i64 0, .int .i64 0, .int .i64 0, .int .i64 0, .int .i64 0, .int .i64 0, .int .i64 0, .int .i64 0, .int .i64 0, .int .i64 0, .int .i64 0, .int .i64 0, .int .i64 0, .int .i64 0, .int .i64 0, .int .i64 0] 33)).setRow w1.heap.size (I64 L).toArray).setRow (w1.heap.size + 1) (I64 M).toArray) w1.heap.size 33 (I64 L) ∧
    Arr ((((w1.alloc (.cells #[.int .i64 0, .int .i64 0, .int .i64 0, .int .i64 0, .int .i64 0, .int .i64 0, .int .i64 0, .int .i64 0, .int .i64 0, .int .i64 0, .int .i64 0, .int .i64 0, .int .i64 0, .int .i64 0, .int .i64 0, .int .i64 0] 33)).alloc (.cells #[.int .i64 0, .int .i64 0, .int .i64 0, .int .i64 0, .int .i64 0, .int .i64 0, .int .i64 0, .int .i64 0, .int .i64 0, .int .i64 0, .int .i64 0, .int .i64 0, .int .i64 0, .int .i64 0, .int .i64 0, .int .i64 0] 33)).setRow w1.heap.size (I64 L).toArray).setRow (w1.heap.size + 1) (I64 M).toArray) (w1.heap.size + 1) 33 (I64 M) ∧
    Arr ((w1.alloc (.cells #[.int .i64 0, .int .i64 0, .int .i64 0, .int .i64 0, .int .i64 0, .int .i64 0, .int .i64 0, .int .i64 0, .int .i64 0, .int .i64 0, .int .i64 0, .int .i64 0, .int .i64 0, .int .i64 0, .int .i64 0, .int .i64 0] 33)).alloc (.cells #[.int .i64 0, .int .i64 0, .int .i64 0, .int .i64 0, .int .i64 0, .int .i64 0, .int .i64 0, .int .i64 0, .int .i64 0, .int .i64 0, .int .i64 0, .int .i64 0, .int .i64 0, .int .i64 0, .int .i64 0, .int .i64 0] 33)) w1.heap.size 33 (I64 Z16) ∧
    Arr (((w1.alloc (.cells #[.int .i64 0, .int .i64 0, .int .i64 0, .int .i64 0, .int .i64 0, .int .i64 0, .int .i64 0, .int .i64 0, .int .i64 0, .int .i64 0, .int .i64 0, .int .i64 0, .int .i64 0, .int .i64 0, .int .i64 0, .int .i64 0] 33)).alloc (.cells #[.int .i64 0, .int .i64 0, .int .i64 0, .int .i64 0, .int .i64 0, .int .i64 0, .int .i64 0, .int .i64 0, .int .i64 0, .int .i64 0, .int .i64 0, .int .i64 0, .int .i64 0, .int .i64 0, .int .i64 0, .int .i64 0] 33)).setRow w1.heap.size (I64 L).toArray) (w1.heap.size + 1) 33 (I64 Z16) := by
  have q1 : Arr ((w1.alloc (.cells #[.int .i64 0, .int .i64 0, .int .i64 0, .int .i64 0, .int .i64 0, .int .i64 0, .int .i64 0, .int .i64 0, .int .i64 0, .int .i64 0, .int .i64 0, .int .i64 0, .int .i64 0, .int .i64 0, .int .i64 0, .int .i64 0] 33)).alloc (.cells #[.int .i64 0, .int .i64 0, .int .i64 0, .int .i64 0, .int .i64 0, .int .i64 0, .int .i64 0, .int .i64 0, .int .i64 0, .int .i64 0, .int .i64 0, .int .i64 0, .int .i64 0, .int .i64 0, .int .i64 0, .int .i64 0] 33)) w1.heap.size 33 (I64 Z16) := (Arr.new w1 (I64 Z16) _).alloc _
  have q2 : Arr ((w1.alloc (.cells #[.int .i64 0, .int .i64 0, .int .i64 0, .int .i64 0, .int .i64 0, .int .i64 0, .int .i64 0, .int .i64 0, .int .i64 0, .int .i64 0, .int .i64 0, .int .i64 0, .int .i64 0, .int .i64 0, .int .i64 0, .int .i64 0] 33)).alloc (.cells #[.int .i64 0, .int .i64 0, .int .i64 0, .int .i64 0, .int .i64 0, .int .i64 0, .int .i64 0, .int .i64 0, .int .i64 0, .int .i64 0, .int .i64 0, .int .i64 0, .int .i64 0, .int .i64 0, .int .i64 0, .int .i64 0] 33)) (w1.heap.size + 1) 33 (I64 Z16) := by
    have := Arr.new (w1.alloc (.cells (I64 Z16).toArray 33)) (I64 Z16) 33
    rw [World.size_alloc] at this
    exact this
  have hb : Below w1.heap.size w1 ((w1.alloc (.cells #[.int .i64 0, .int .i64 0, .int .i64 0, .int .i64 0, .int .i64 0, .int .i64 0, .int .i64 0, .int .i64 0, .int .i64 0, .int .i64 0, .int .i64 0, .int .i64 0, .int .i64 0, .int .i64 0, .int .i64 0, .int .i64 0] 33)).alloc (.cells #[.int .i64 0, .int .i64 0, .int .i64 0, .int .i64 0, .int .i64 0, .int .i64 0, .int .i64 0, .int .i64 0, .int .i64 0, .int .i64 0, .int .i64 0, .int .i64 0, .int .i64 0, .int .i64 0, .int .i64 0, .int .i64 0] 33)) := ((Below.refl _ _).alloc (Nat.le_refl _) _).alloc (by simp) _
  exact ⟨setRow_below (setRow_below hb _ _ (Nat.le_refl _)) _ _ (by omega), (q1.row _).rowOther _ _ (by omega), (q2.rowOther _ _ (by omega)).row _, q1, q2.rowOther _ _ (by omega)⟩

set_option maxHeartbeats 4000000 in
theorem spec6out (P : E4) (w : World) (hP : P.Ok) :
    Calls Try.prog 9 #[.agg (I64 P.cells).toArray] w fun e w' => ∃ v, e = .returned v ∧ PtT 3 w w' v (flx P) (fly P) ∧ Below w.heap.size w w' := by
  have hPl := E4.len hP
  have HF : Hid (∀ Z, Calls Try.prog 15 #[.agg (I64 P.cells).toArray] Z fun e w' => e = .returned (.tuple #[.agg (I64 (flx P)).toArray, .agg (I64 (fly P)).toArray]) ∧ Below Z.heap.size Z w') := by
    unfold Hid; intro Z; exact spec6flat P Z hP
  obtain ⟨x, ex⟩ : ∃ x, x = flx P := ⟨_, rfl⟩
  have kx : feOk x = true := by rw [ex]; exact ok_red _
  obtain ⟨y, ey⟩ : ∃ y, y = fly P := ⟨_, rfl⟩
  have ky : feOk y = true := by rw [ey]; exact ok_red _
  rw [← ex, ← ey] at HF ⊢
  have mx := feOk_lm' kx
  have my := feOk_lm' ky
  have jx := infoE' kx
  have jy := infoE' ky
  have iix := infoEl kx
  have iiy := infoEl ky
  have nx := feOk_len kx
  have ny := feOk_len ky
  have hip := infoP' hP
  have hu : Try.prog.underlying 33 = some (.array 16 3) := Try.underlying33
  obtain ⟨A, hA⟩ : ∃ A, A = (I64 P.cells).toArray := ⟨_, rfl⟩
  obtain ⟨W, hW⟩ : ∃ W, W = (w.alloc (.cells A 35)).alloc (.cells #[.slice none 0 0, .slice none 0 0] 26) := ⟨_, rfl⟩
  have fr : Below w.heap.size w W := by rw [hW]; exact ((Below.refl _ _).alloc (Nat.le_refl _) _).alloc (by simp) _
  have pa : Arr W w.heap.size 35 (I64 P.cells) := by rw [hW, hA]; exact (Arr.new w (I64 P.cells) _).alloc _
  have pr : Arr W (w.heap.size + 1) 26 ([.slice none 0 0, .slice none 0 0]) := by
    rw [hW]
    have := Arr.new (w.alloc (.cells A 35)) [.slice none 0 0, .slice none 0 0] 26
    rw [World.size_alloc] at this
    exact this
  rw [← hA]
  clear ex ey kx ky hA
  go_enter Try.func9, Try.ntmps9
  go_upto_region 1 with fail
  rw [← hW]
  clear hW
  go_wp2_with (refine wpList_load_row rfl 35 _ rfl w.heap.size rfl 35 (I64 P.cells).toArray (0, 0) _ pa Try.underlying35 rfl hip ?_)
  refine (HF.out _).mono ?_
  rintro e y1 ⟨rfl, hb1⟩
  replace fr := fr.trans (hb1.mono fr.size)
  replace pa := pa.kept hb1
  replace pr := pr.kept hb1
  clear hb1
  have hz0 : w.heap.size + 1 < y1.heap.size := pr.lt
  obtain ⟨bV, Ax, Ay, q1, q2⟩ := laid_e2 y1 x y
  replace fr := fr.trans (bV.mono fr.size)
  replace pa := pa.kept bV
  replace pr := pr.kept bV
  go_upto_region 2 with (first | (refine wpList_store_row rfl 33 _ _ rfl y1.heap.size (I64 x).toArray rfl rfl 33 _ q1 jx (by simp [nx]) (by simp [Value.oneCell']) ?_) | (refine wpList_store_row rfl 33 _ _ rfl (y1.heap.size + 1) (I64 y).toArray rfl rfl 33 _ q2 jy (by simp [ny]) (by simp [Value.oneCell']) ?_))
  obtain ⟨Vq, hVV⟩ : ∃ V, V = (((y1.alloc (.cells #[.int .i64 0, .int .i64 0, .int .i64 0, .int .i64 0, .int .i64 0, .int .i64 0, .int .i64 0, .int .i64 0, .int .i64 0, .int .i64 0, .int .i64 0, .int .i64 0, .int .i64 0, .int .i64 0, .int .i64 0, .int .i64 0] 33)).alloc (.cells #[.int .i64 0, .int .i64 0, .int .i64 0, .int .i64 0, .int .i64 0, .int .i64 0, .int .i64 0, .int .i64 0, .int .i64 0, .int .i64 0, .int .i64 0, .int .i64 0, .int .i64 0, .int .i64 0, .int .i64 0, .int .i64 0] 33)).setRow y1.heap.size (I64 x).toArray).setRow (y1.heap.size + 1) (I64 y).toArray := ⟨_, rfl⟩
  obtain ⟨X, hE⟩ : ∃ E, E = y1.heap.size := ⟨_, rfl⟩
  rw [← hVV] at fr pa pr Ax Ay ⊢
  rw [← hE] at Ax Ay hz0 ⊢
  clear hVV hE q1 q2 bV
  try simp only [Act.put]
  have bD : Below Vq.heap.size Vq Vq.drew := (Below.refl _ _).drew
  replace fr := fr.trans (bD.mono fr.size)
  replace pa := pa.kept bD
  replace pr := pr.kept bD
  replace Ax := Ax.kept bD
  replace Ay := Ay.kept bD
  clear bD
  refine wp_region_held_drew (S := fun W => W.rangeAt X 0 (I64 x) ∧ W.rangeAt (X + 1) 0 (I64 y)) (by kernel_rfl) ⟨arr_range Ax, arr_range Ay⟩ (fun hHeld => ?_)
  obtain ⟨D2, hD⟩ : ∃ V, V = Vq.drew := ⟨_, rfl⟩
  rw [← hD] at hHeld fr pa pr Ax Ay ⊢
  clear hD
  refine wpAnyH_take (i := 0) (oi := { dst := some 10, op := Op.load 33 (Operand.tmp 3), type := 33, pos := "l06_point.go:74", after := #[], guard := none }) (v := _) rfl (by kernel_rfl) (by kernel_rfl) (by kernel_rfl) (fun _ _ _ h => h) (yieldsIf_load_mid (by rfl) _ _ rfl _ _ rfl (I64 x) _ (fun _ h => h.1) hu rfl iix) (by assumption) ?_
  simp only [Act.put, List.setIfInBounds_toArray, List.set_cons_zero, List.set_cons_succ]
  refine wpAnyH_take (i := 2) (oi := { dst := some 12, op := Op.load 33 (Operand.tmp 4), type := 33, pos := "l06_point.go:74", after := #[], guard := none }) (v := _) rfl (by kernel_rfl) (by kernel_rfl) (by kernel_rfl) (fun _ _ _ h => h) (yieldsIf_load_mid (by rfl) _ _ rfl _ _ rfl (I64 y) _ (fun _ h => h.2) hu rfl iiy) (by assumption) ?_
  simp only [Act.put, List.setIfInBounds_toArray, List.set_cons_zero, List.set_cons_succ]
  refine wpAnyH_ready (rs := [1]) (by kernel_rfl) (by simp) (AllReadyH.cons (o := { dst := some 11, op := Op.call { callee := Callee.value (Operand.func 16), args := #[Operand.tmp 10], argTypes := #[33] }, type := 24, pos := "l06_point.go:74", after := #[{ on := 0, ground := Ground.data }], guard := none }) rfl (fun K hK => ?_) AllReadyH.nil)
  go_simp
  have hl1 : w.heap.size + 1 < D2.heap.size := pr.lt
  refine (specOut x _ nx mx).mono ?_
  rintro e y3 ⟨a1, c1, rfl, o1, hb3⟩
  replace fr := fr.trans (hb3.mono fr.size)
  replace pa := pa.kept hb3
  replace pr := pr.kept hb3
  replace Ax := Ax.kept hb3
  replace Ay := Ay.kept hb3
  clear hb3
  have i1 := In.of o1
  go_wp2_with fail
  refine hK.out _ _ ⟨arr_range Ax, arr_range Ay⟩ (fun hHeld => ?_)
  clear hK K
  refine wpAnyH_ready (rs := [3]) (by kernel_rfl) (by simp) (AllReadyH.cons (o := { dst := some 13, op := Op.call { callee := Callee.value (Operand.func 16), args := #[Operand.tmp 12], argTypes := #[33] }, type := 24, pos := "l06_point.go:74", after := #[{ on := 2, ground := Ground.data }, { on := 1, ground := Ground.chain }], guard := none }) rfl (fun K hK => ?_) AllReadyH.nil)
  go_simp
  have hl2 : w.heap.size + 1 < y3.heap.size := pr.lt
  refine (specOut y _ ny my).mono ?_
  rintro e y4 ⟨a2, c2, rfl, o2, hb4⟩
  replace fr := fr.trans (hb4.mono fr.size)
  replace pa := pa.kept hb4
  replace pr := pr.kept hb4
  replace Ax := Ax.kept hb4
  replace Ay := Ay.kept hb4
  replace o1 := own_below o1 hb4
  clear hb4
  have i2 := In.of o2
  go_wp2_with fail
  refine hK.out _ _ ⟨arr_range Ax, arr_range Ay⟩ (fun hHeld => ?_)
  clear hK K
  refine wpAnyH_take (i := 4) (oi := { dst := some 14, op := Op.build 26 #[(0, Operand.tmp 11), (1, Operand.tmp 13)], type := 26, pos := "l06_point.go:74", after := #[{ on := 1, ground := Ground.data }, { on := 3, ground := Ground.data }], guard := none }) (v := _) rfl (by kernel_rfl) (by kernel_rfl) (by kernel_rfl) (fun _ _ _ h => h) (yieldsIf_pt (by rfl) _ _ rfl _ _ rfl rfl) (by assumption) ?_
  simp only [Act.put, List.setIfInBounds_toArray, List.set_cons_zero, List.set_cons_succ]
  refine wpAnyH_ready (rs := [5]) (by kernel_rfl) (by simp) (AllReadyH.cons (o := { dst := none, op := Op.store 26 (Operand.tmp 2) (Operand.tmp 14), type := 0, pos := "l06_point.go:74", after := #[{ on := 4, ground := Ground.data }, { on := 3, ground := Ground.chain }, { on := 0, ground := Ground.phase }, { on := 1, ground := Ground.phase }, { on := 2, ground := Ground.phase }, { on := 3, ground := Ground.phase }, { on := 4, ground := Ground.phase }], guard := none }) rfl (fun K hK => ?_) AllReadyH.nil)
  rw [if_pos (by rfl)]
  refine wp_store_mid _ _ _ rfl _ _ ([.slice a1 16 c1, .slice a2 16 c2]).toArray rfl rfl (by have := arr_there pr; simpa using this) infoPt (all_oneCell_toArray (by simp [Value.oneCell'])) ?_
  simp only [Act.put]
  obtain ⟨V5, hVe⟩ : ∃ V, V = y4.setCells (w.heap.size + 1) 0 ([.slice a1 16 c1, .slice a2 16 c2]) := ⟨_, rfl⟩
  rw [← hVe]
  replace fr : Below w.heap.size w V5 := by rw [hVe]; exact setCells_below (by omega) _ _ fr
  replace pa : Arr V5 w.heap.size 35 (I64 P.cells) := by rw [hVe]; exact Arr.setCellsO (by omega) _ _ pa
  replace pr : Arr V5 (w.heap.size + 1) 26 ([.slice a1 16 c1, .slice a2 16 c2]) := by rw [hVe]; exact Arr.setCells0 pr (by simp)
  replace Ax : Arr V5 X 33 (I64 x) := by rw [hVe]; exact Arr.setCellsO (by omega) _ _ Ax
  replace Ay : Arr V5 (X + 1) 33 (I64 y) := by rw [hVe]; exact Arr.setCellsO (by omega) _ _ Ay
  replace o1 : V5.ownsRow D2.heap.size 3 1 (.slice a1 16 c1) 16 (I64 x) := by rw [hVe]; exact own_setCells o1 i1 (.inl hl1) _
  replace o2 : V5.ownsRow y3.heap.size 3 1 (.slice a2 16 c2) 16 (I64 y) := by rw [hVe]; exact own_setCells o2 i2 (.inl hl2) _
  clear hVe
  refine hK.out _ _ ⟨arr_range Ax, arr_range Ay⟩ (fun hHeld => ?_)
  clear hK K
  refine wpAnyH_done (by kernel_rfl) ?_ _
  go_wp2
  have hap : Apart (.slice a1 16 c1) (.slice a2 16 c2) := i1.apart i2 (.inl (by omega))
  exact bodyPost_ret (results_cell_row rfl _ _ (w.heap.size + 1) 26 #[.slice a1 16 c1, .slice a2 16 c2] (0, 0) _ rfl pr Try.underlying26 rfl infoPt) rfl ⟨_, rfl, ptT_16 nx ny (own_base o1 (by omega)) (own_base o2 (by omega)) hap, fr⟩
end Go.Proofs.Ytoblilngppjmhaa
namespace Go.Proofs.Ytoblilngppjmhaa
open Go.RowKit
set_option maxRecDepth 100000

theorem own_rowM {W : World} {lo e s n hi E : Nat} {v : Value} {xs : List Value} (h : W.ownsRow lo e s v n xs) (i : In v lo hi) (hE : E < lo ∨ hi ≤ E) (cs : Array Value) : (W.setRow E cs).ownsRow lo e s v n xs := by
  refine ⟨h.1, ?_⟩
  rcases h.2 with hn | ⟨g, cap, cur, rfl, hg, hgg, rest⟩
  · exact .inl hn
  · have := i g rfl
    exact .inr ⟨g, cap, cur, rfl, hg, (setRow_other W E g cs (by omega)).trans hgg, rest⟩
end Go.Proofs.Ytoblilngppjmhaa
namespace Go.Proofs.Ytoblilngppjmhaa
open Go.RowKit
set_option maxRecDepth 100000

/-- A new block of two cells, laid at once. -/
theorem laid_two (w1 : World) (t : TypeId) (z0 z1 x y : Value) : Below w1.heap.size w1 ((w1.alloc (.cells #[z0, z1] t)).setRow w1.heap.size ([x, y] : List Value).toArray) ∧ Arr ((w1.alloc (.cells #[z0, z1] t)).setRow w1.heap.size ([x, y] : List Value).toArray) w1.heap.size t [x, y] ∧ Arr (w1.alloc (.cells #[z0, z1] t)) w1.heap.size t [z0, z1] ∧ ((w1.alloc (.cells #[z0, z1] t)).setRow w1.heap.size ([x, y] : List Value).toArray).heap.size = w1.heap.size + 1 := by
  have h : Arr (w1.alloc (.cells #[z0, z1] t)) w1.heap.size t [z0, z1] := Arr.new w1 [z0, z1] t
  have hb := setRow_below ((Below.refl w1.heap.size w1).alloc (Nat.le_refl _) (.cells #[z0, z1] t)) w1.heap.size ([x, y] : List Value).toArray (Nat.le_refl _)
  refine ⟨hb, h.row [x, y], h, ?_⟩
  simp [World.setRow]
end Go.Proofs.Ytoblilngppjmhaa
namespace Go.Proofs.Ytoblilngppjmhaa
open Go.RowKit
set_option maxRecDepth 100000

end Go.Proofs.Ytoblilngppjmhaa
namespace Go.Proofs.Ytoblilngppjmhaa
open Go.RowKit
set_option maxRecDepth 100000

end Go.Proofs.Ytoblilngppjmhaa
namespace Go.Proofs.Ytoblilngppjmhaa
open Go.RowKit
set_option maxRecDepth 100000

end Go.Proofs.Ytoblilngppjmhaa
namespace Go.Proofs.Ytoblilngppjmhaa
open Go.RowKit
set_option maxRecDepth 100000

theorem getD_of {l : List Int} {p : Int → Prop} (h : ∀ x ∈ l, p x) (h0 : p 0) (k : Nat) : p (l.getD k 0) := by
  by_cases hk : k < l.length
  · have : l.getD k 0 ∈ l := by rw [List.getD_eq_getElem?_getD, List.getElem?_eq_getElem hk]; exact List.getElem_mem _
    exact h _ this
  · rw [List.getD_eq_getElem?_getD, List.getElem?_eq_none (by omega)]; exact h0
/-- The columns of a product: their worth, and how great they may be. -/
structure Tq (a b t : List Int) (i k : Nat) : Prop where
  len : t.length = 32
  vl : val t = prodAt a b i k
  le : ∀ x ∈ t, 0 ≤ x ∧ x ≤ (16 * (i : Int) + (k : Int)) * 4294836225
theorem Tq.get {a b t : List Int} {i k : Nat} (h : Tq a b t i k) (j : Nat) : 0 ≤ t.getD j 0 ∧ t.getD j 0 ≤ (16 * (i : Int) + (k : Int)) * 4294836225 :=
  getD_of (p := fun x => 0 ≤ x ∧ x ≤ (16 * (i : Int) + (k : Int)) * 4294836225) h.le (by omega) j
theorem Tq.step {a b t : List Int} {i k : Nat} (h : Tq a b t i k) (hi : i < 16) (hk : k < b.length) (hk16 : k < 16) {p : Int} (hp : p = a.getD i 0 * b.getD k 0) (hp0 : 0 ≤ p) (hp1 : p ≤ 4294836225) : Tq a b (t.set (i + k) (t.getD (i + k) 0 + p)) i (k + 1) := by
  have hl := h.len
  have hg := h.get (i + k)
  refine ⟨by simp [hl], ?_, ?_⟩
  · rw [val_set t (i + k) (by omega), h.vl, prodAt_step a b i k hk, hp]
    congr 2
    omega
  · intro x hx
    rcases List.mem_or_eq_of_mem_set hx with h1 | h1
    · have := h.le x h1
      simp only [Int.natCast_add, Int.natCast_one]
      omega
    · subst h1
      simp only [Int.natCast_add, Int.natCast_one]
      omega
theorem Tq.row {a b t : List Int} {i : Nat} (h : Tq a b t i 16) (hb : b.length = 16) (hi : i < a.length) : Tq a b t (i + 1) 0 := by
  refine ⟨h.len, ?_, fun x hx => ?_⟩
  · rw [h.vl, ← prodAt_row a b i hi, hb]
  · have := h.le x hx
    simp only [Int.natCast_add, Int.natCast_one] at this ⊢
    omega
abbrev Z32 : List Int := [0, 0, 0, 0, 0, 0, 0, 0, 0, 0, 0, 0, 0, 0, 0, 0, 0, 0, 0, 0, 0, 0, 0, 0, 0, 0, 0, 0, 0, 0, 0, 0]
theorem Tq.zero (a b : List Int) : Tq a b Z32 0 0 := by
  refine ⟨rfl, ?_, ?_⟩
  · simp [prodAt, val]
  · intro x hx
    have : x = 0 := by simpa using hx
    omega
end Go.Proofs.Ytoblilngppjmhaa
namespace Go.Proofs.Ytoblilngppjmhaa
open Go.RowKit
set_option maxRecDepth 100000

theorem infoL : (Try.prog.info? 38).map (·.size) = some 16 := by kernel_rfl

end Go.Proofs.Ytoblilngppjmhaa
namespace Go.Proofs.Ytoblilngppjmhaa
open Go.RowKit
set_option maxRecDepth 100000

end Go.Proofs.Ytoblilngppjmhaa
namespace Go.Proofs.Ytoblilngppjmhaa
open Go.RowKit
set_option maxRecDepth 100000

end Go.Proofs.Ytoblilngppjmhaa
namespace Go.Proofs.Ytoblilngppjmhaa
open Go.RowKit

end Go.Proofs.Ytoblilngppjmhaa
namespace Go.Proofs.Ytoblilngppjmhaa
open Go.RowKit

end Go.Proofs.Ytoblilngppjmhaa
namespace Go.Proofs.Ytoblilngppjmhaa
open Go.RowKit

set_option maxHeartbeats 1000000 in
theorem eqFeC (a a' : Option Addr) (n c c' : Nat) (xs : List Int) (w : World) (h : Is w a n c xs) (h' : Is w a' n c' xs) (hn : n ≤ 2097152) :
    Calls Try.prog 12 #[.agg #[.slice a n c], .agg #[.slice a' n c']] w fun e w' => e = .returned (.bool true) ∧ Below w.heap.size w w' := by
  have HB : Hid (Below w.heap.size w ((w.alloc (.cells #[.slice a n c] 24)).alloc (.cells #[.slice a' n c'] 24))) := ((Below.refl _ _).alloc (Nat.le_refl _) _).alloc (by simp) _
  go_enter Try.func12, Try.ntmps12
  go_wp2_with fail
  refine (eqI a a' n c c' xs _ (h.below HB.out) (h'.below HB.out) hn).mono ?_
  rintro e w1 ⟨q, rfl, rfl⟩
  go_wp2
  go_ret
  exact ⟨rfl, bel_dN HB.out q⟩

set_option maxHeartbeats 1000000 in
theorem markFeC {ty : Nat} (B n : Nat) (v : Value) (k0 : Int) (xs : List Int) (w : World) (ho : w.ownsRow B ty 1 v n (I64 xs)) (hn : n ≤ 2097152) (h0 : 0 ≤ k0) (h1 : k0 ≤ 10000000) :
    Calls Try.prog 13 #[.agg #[v], .int .i64 k0] w fun e w' => e = .returned (.int .i64 (k0 + n)) ∧ w'.ownsRow B ty 1 v n (I64 (marksI k0 n)) ∧ w.grownBy w' v.ownBlock := by
  go_enter Try.func13, Try.ntmps13
  go_wp2_with fail
  refine (markI B n v k0 xs _ (ho.alloc _) hn h0 h1).mono ?_
  rintro e w1 ⟨rfl, o1, g1⟩
  have GG : Hid (w.grownBy w1 v.ownBlock) := by
    unfold Hid
    exact ⟨g1.os, g1.tape, g1.output, Nat.le_trans (by simp) g1.size, fun i hi n1 => by
      have hi1 : i < (w.alloc (.cells #[v] 24)).heap.size := by simp; omega
      rw [g1.block i hi1 n1, heap_alloc_old _ _ hi]⟩
  have HO : Hid _ := o1
  clear g1 o1
  go_wp2
  go_ret
  exact ⟨rfl, HO.out, GG.out⟩

set_option maxHeartbeats 1000000 in
theorem heldFeC (a : Option Addr) (n c : Nat) (k0 : Int) (w : World) (h : Is w a n c (marksI k0 n)) (hn : n ≤ 2097152) (h0 : 0 ≤ k0) (h1 : k0 ≤ 10000000) :
    Calls Try.prog 14 #[.agg #[.slice a n c], .int .i64 k0] w fun e w' => e = .returned (.int .i64 (k0 + n)) ∧ Below w.heap.size w w' := by
  have HB : Hid (Below w.heap.size w (w.alloc (.cells #[.slice a n c] 24))) := (Below.refl _ _).alloc (Nat.le_refl _) _
  have l1 : ¬ (k0 + (n : Int) < 0) := by omega
  go_enter Try.func14, Try.ntmps14
  go_wp2_with fail
  refine (heldI a n c k0 _ (h.below HB.out) hn h0 h1).mono ?_
  rintro e w1 ⟨rfl, rfl⟩
  go_wp2
  go_ret
  exact ⟨rfl, HB.out⟩

end Go.Proofs.Ytoblilngppjmhaa
namespace Go.Proofs.Ytoblilngppjmhaa
open Go.RowKit

end Go.Proofs.Ytoblilngppjmhaa
namespace Go.Proofs.Ytoblilngppjmhaa
open Go.RowKit
set_option maxRecDepth 100000

end Go.Proofs.Ytoblilngppjmhaa
namespace Go.Proofs.Ytoblilngppjmhaa
open Go.RowKit
set_option maxRecDepth 100000

end Go.Proofs.Ytoblilngppjmhaa
namespace Go.Proofs.Ytoblilngppjmhaa
open Go.RowKit
set_option maxRecDepth 100000

set_option maxHeartbeats 1000000 in
theorem eqPtC (a a' : Option Addr) (n c c' : Nat) (xs : List Int) (b b' : Option Addr) (m d d' : Nat) (ys : List Int) (w : World) (h : Is w a n c xs) (h' : Is w a' n c' xs) (g : Is w b m d ys) (g' : Is w b' m d' ys) (hn : n ≤ 2097152) (hm : m ≤ 2097152) :
    Calls Try.prog 6 #[.agg #[.slice a n c, .slice b m d], .agg #[.slice a' n c', .slice b' m d']] w fun e w' => e = .returned (.bool true) ∧ Below w.heap.size w w' := by
  obtain ⟨W, hW⟩ : ∃ W, W = (w.alloc (.cells #[.slice a n c, .slice b m d] 26)).alloc (.cells #[.slice a' n c', .slice b' m d'] 26) := ⟨_, rfl⟩
  have fr : Below w.heap.size w W := by rw [hW]; exact ((Below.refl _ _).alloc (Nat.le_refl _) _).alloc (by simp) _
  have pa : Arr W w.heap.size 26 [.slice a n c, .slice b m d] := by rw [hW]; exact (Arr.new w [.slice a n c, .slice b m d] _).alloc _
  have pb : Arr W (w.heap.size + 1) 26 [.slice a' n c', .slice b' m d'] := by
    rw [hW]
    have := Arr.new (w.alloc (.cells #[.slice a n c, .slice b m d] 26)) [.slice a' n c', .slice b' m d'] 26
    rw [World.size_alloc] at this
    exact this
  go_enter Try.func6, Try.ntmps6
  go_upto_region 1 with fail
  rw [← hW]
  clear hW
  have c0 : W.cell? ⟨w.heap.size, 0, none⟩ = some (.slice a n c) := pa.cell 0
  have d0 : W.cell? ⟨w.heap.size + 1, 0, none⟩ = some (.slice a' n c') := pb.cell 0
  go_wp2_with fail
  refine (eqFeC a a' n c c' xs _ (h.below fr) (h'.below fr) hn).mono ?_
  rintro e w1 ⟨rfl, hb1⟩
  replace fr := fr.trans (hb1.mono fr.size)
  replace pa := pa.kept hb1
  replace pb := pb.kept hb1
  clear c0 d0 hb1
  have c1 : w1.cell? ⟨w.heap.size, 1, none⟩ = some (.slice b m d) := pa.cell 1
  have d1 : w1.cell? ⟨w.heap.size + 1, 1, none⟩ = some (.slice b' m d') := pb.cell 1
  go_wp2_with fail
  refine (eqFeC b b' m d d' ys _ (g.below fr) (g'.below fr) hm).mono ?_
  rintro e w2 ⟨rfl, hb2⟩
  replace fr := fr.trans (hb2.mono fr.size)
  clear c1 d1 hb2 pa pb
  go_wp2
  go_ret
  exact ⟨rfl, fr⟩

set_option maxHeartbeats 1000000 in
theorem heldPtC (a : Option Addr) (n c : Nat) (b : Option Addr) (m d : Nat) (k0 : Int) (w : World) (h : Is w a n c (marksI k0 n)) (g : Is w b m d (marksI (k0 + n) m)) (hn : n ≤ 2097152) (hm : m ≤ 2097152) (h0 : 0 ≤ k0) (h1 : k0 ≤ 7000000) :
    Calls Try.prog 8 #[.agg #[.slice a n c, .slice b m d], .int .i64 k0] w fun e w' => e = .returned (.int .i64 (k0 + n + m)) ∧ Below w.heap.size w w' := by
  obtain ⟨W, hW⟩ : ∃ W, W = w.alloc (.cells #[.slice a n c, .slice b m d] 26) := ⟨_, rfl⟩
  have fr : Below w.heap.size w W := by rw [hW]; exact (Below.refl _ _).alloc (Nat.le_refl _) _
  have pa : Arr W w.heap.size 26 [.slice a n c, .slice b m d] := by rw [hW]; exact Arr.new w [.slice a n c, .slice b m d] _
  have l1 : ¬ (k0 + (n : Int) < 0) := by omega
  have l2 : ¬ (k0 + (n : Int) + (m : Int) < 0) := by omega
  go_enter Try.func8, Try.ntmps8
  go_upto_region 1 with fail
  rw [← hW]
  clear hW
  have c0 : W.cell? ⟨w.heap.size, 0, none⟩ = some (.slice a n c) := pa.cell 0
  go_wp2_with fail
  refine (heldFeC a n c k0 _ (h.below fr) hn h0 (by omega)).mono ?_
  rintro e w1 ⟨rfl, hb1⟩
  replace fr := fr.trans (hb1.mono fr.size)
  replace pa := pa.kept hb1
  clear c0 hb1
  have c1 : w1.cell? ⟨w.heap.size, 1, none⟩ = some (.slice b m d) := pa.cell 1
  go_wp2_with fail
  refine (heldFeC b m d (k0 + n) _ (g.below fr) hm (by omega) (by omega)).mono ?_
  rintro e w2 ⟨rfl, hb2⟩
  replace fr := fr.trans (hb2.mono fr.size)
  clear c1 hb2 pa
  go_wp2
  go_ret
  exact ⟨rfl, fr⟩

set_option maxHeartbeats 1000000 in
theorem markPtC {ty tz : Nat} (B n : Nat) (u : Value) (xs : List Int) (B' m : Nat) (v : Value) (ys : List Int) (k0 : Int) (w : World) (ho : w.ownsRow B ty 1 u n (I64 xs)) (ho' : w.ownsRow B' tz 1 v m (I64 ys)) (hap : Apart u v) (hn : n ≤ 2097152) (hm : m ≤ 2097152) (h0 : 0 ≤ k0) (h1 : k0 ≤ 7000000) :
    Calls Try.prog 7 #[.agg #[u, v], .int .i64 k0] w fun e w' => e = .returned (.int .i64 (k0 + n + m)) ∧ ∃ M, w.grownBy M u.ownBlock ∧ M.grownBy w' v.ownBlock ∧ w'.ownsRow B ty 1 u n (I64 (marksI k0 n)) ∧ w'.ownsRow B' tz 1 v m (I64 (marksI (k0 + n) m)) := by
  obtain ⟨W, hW⟩ : ∃ W, W = w.alloc (.cells #[u, v] 26) := ⟨_, rfl⟩
  have fr : Below w.heap.size w W := by rw [hW]; exact (Below.refl _ _).alloc (Nat.le_refl _) _
  have pa : Arr W w.heap.size 26 [u, v] := by rw [hW]; exact Arr.new w [u, v] _
  have iu := In.of ho
  have iv := In.of ho'
  replace ho := own_below ho fr
  replace ho' := own_below ho' fr
  go_enter Try.func7, Try.ntmps7
  go_upto_region 1 with fail
  rw [← hW]
  clear hW
  have c0 : W.cell? ⟨w.heap.size, 0, none⟩ = some u := pa.cell 0
  go_wp2_with fail
  refine (markFeC B n u k0 xs _ ho hn h0 (by omega)).mono ?_
  rintro e w1 ⟨rfl, o1, g1⟩
  have q1 : Arr w1 w.heap.size 26 [u, v] := (g1.block _ pa.lt (fun e => by have := iu _ e.symm; omega)).trans pa
  have o2 := own_kept ho' g1 hap
  clear c0 ho ho' pa
  have c1 : w1.cell? ⟨w.heap.size, 1, none⟩ = some v := q1.cell 1
  go_wp2_with fail
  refine (markFeC B' m v (k0 + n) ys _ o2 hm (by omega) (by omega)).mono ?_
  rintro e w2 ⟨rfl, o3, g2⟩
  have o4 := own_kept o1 g2 hap.symm
  have hg : w.grownBy w1 u.ownBlock := ⟨g1.os.trans fr.os, g1.tape.trans fr.tape, g1.output.trans fr.output, Nat.le_trans fr.size g1.size, fun i hi hne => (g1.block i (Nat.lt_of_lt_of_le hi fr.size) hne).trans (fr.block i hi)⟩
  clear c1 o1 o2 q1
  go_wp2
  go_ret
  exact ⟨rfl, w1, hg, g2, o4, o3⟩

end Go.Proofs.Ytoblilngppjmhaa
namespace Go.Proofs.Ytoblilngppjmhaa
open Go.RowKit
end Go.Proofs.Ytoblilngppjmhaa
namespace Go.Proofs.Ytoblilngppjmhaa
set_option maxRecDepth 100000
set_option maxHeartbeats 4000000

/-- The field's numbers, as residues. -/
abbrev KF := Fin pN
theorem pN_ne : pN ≠ 0 := by unfold pN; decide
theorem nzP : NeZero pN := ⟨pN_ne⟩
/-- A whole number as one of the field. -/
def fe (x : Int) : KF := ⟨(x % P25519).toNat, by
  have h0 := Int.emod_nonneg x (show P25519 ≠ 0 by unfold P25519; decide)
  have h1 := Int.emod_lt_of_pos x (show 0 < P25519 by unfold P25519; decide)
  have h2 : ((x % P25519).toNat : Int) < (pN : Int) := by rw [pN_int]; omega
  exact Int.ofNat_lt.1 h2⟩
theorem fe_val (x : Int) : ((fe x).val : Int) = x % P25519 := by
  have h0 := Int.emod_nonneg x (show P25519 ≠ 0 by unfold P25519; decide)
  show ((x % P25519).toNat : Int) = _
  omega
theorem kf_ext {a b : KF} (h : ((a.val : Nat) : Int) = ((b.val : Nat) : Int)) : a = b := Fin.ext (Int.ofNat.inj h)
theorem fe_eq {x y : Int} : fe x = fe y ↔ x % P25519 = y % P25519 := by
  constructor
  · intro h; rw [← fe_val, ← fe_val, h]
  · intro h; apply kf_ext; rw [fe_val, fe_val, h]
theorem fe_add (x y : Int) : fe (x + y) = fe x + fe y := by
  apply kf_ext
  rw [fe_val, Fin.val_add]
  rw [Int.natCast_emod, Int.natCast_add, fe_val, fe_val, pN_int, ← Int.add_emod]
theorem fe_mul (x y : Int) : fe (x * y) = fe x * fe y := by
  apply kf_ext
  rw [fe_val, Fin.val_mul]
  rw [Int.natCast_emod, Int.natCast_mul, fe_val, fe_val, pN_int, ← Int.mul_emod]
theorem fe_mod (x : Int) : fe (x % P25519) = fe x := fe_eq.2 (Int.emod_emod _ _)
theorem fe_back (a : KF) : fe (a.val : Int) = a := by
  apply kf_ext
  rw [fe_val, ← pN_int]
  exact Int.emod_eq_of_lt (Int.natCast_nonneg _) (Int.ofNat_lt.2 a.isLt)
theorem fe_pow (x : Int) : ∀ n : Nat, fe (x ^ n) = fe ((x % P25519) ^ n)
  | 0 => by rw [Int.pow_zero, Int.pow_zero]
  | n + 1 => by rw [Int.pow_succ, Int.pow_succ, fe_mul, fe_mul, fe_pow x n, fe_mod]
/-- The inverse, as a power. -/
def ivK (a : KF) : KF := fe ((a.val : Int) ^ eInv)
theorem ivK_fe (x : Int) : ivK (fe x) = fe (x ^ eInv) := by
  unfold ivK
  rw [fe_val, ← fe_pow]
/-- The number d of the curve, and a root of the opposite of one. -/
def dN : Nat := 37095705934669439343138083508754565189542113879843219016388785533085940283555
def dK : KF := fe (dN : Int)
def iK : KF := fe (qN : Int)
theorem two_gen {x : Int} (h0 : 0 ≤ x) (h1 : x < P25519) (h : (x + x) % P25519 = 0) : x = 0 := by
  have hp : 0 < P25519 := by unfold P25519; decide
  have e := Int.emod_add_mul_ediv (x + x) P25519
  have k0 : 0 ≤ (x + x) / P25519 := Int.ediv_nonneg (by omega) (by omega)
  have k1 : (x + x) / P25519 < 2 := Int.ediv_lt_of_lt_mul hp (by omega)
  rw [h, Int.zero_add] at e
  have hk : (x + x) / P25519 = 0 ∨ (x + x) / P25519 = 1 := by omega
  rcases hk with hk | hk
  · rw [hk] at e; omega
  · rw [hk, Int.mul_one] at e
    have hodd : P25519 % 2 = 1 := by decide
    omega
theorem nsq_gen {p D H s t : Nat} (hp : Pri p) (hH : p - 1 = 2 * H) (hD : D ^ H % p = p - 1) (h2p : 2 < p) (ht : ¬ p ∣ t) (h : s * s % p = D * (t * t) % p) : False := by
  have pw2 : ∀ s : Nat, (s * s) ^ H = s ^ (p - 1) := fun s => by rw [hH, Nat.pow_mul, Nat.pow_two]
  have h2 : (s * s) ^ H % p = (D * (t * t)) ^ H % p := by rw [Nat.pow_mod, h, ← Nat.pow_mod]
  rw [pw2 s, Nat.mul_pow D, pw2 t, Nat.mul_mod, hp.one ht, hD, Nat.mul_one, Nat.mod_eq_of_lt (show p - 1 < p by omega)] at h2
  by_cases hs : p ∣ s
  · have h3 : s ^ (p - 1) % p = 0 := by
      obtain ⟨k, hk⟩ := hs
      rw [hk, show p - 1 = (p - 2) + 1 by omega, Nat.pow_succ, Nat.mul_comm, Nat.mul_assoc, Nat.mul_mod_right]
    omega
  · have := hp.one hs
    omega
/-- d to the power (p - 1) / 2 is the opposite of one. -/
def hP : Nat := 28948022309329048855892746252171976963317496166410141009864396001978282409974
theorem pw_gen {n a f e r : Nat} (h1 : 1 < n) (h2 : e < 2 ^ f) (h : pw n a f e = r) : a ^ e % n = r := (pw_eq h1 f e h2).symm.trans h
theorem one_lt_pN : 1 < pN := by unfold pN; decide
theorem two_lt_pN : 2 < pN := by unfold pN; decide
theorem hP_lt : hP < 2 ^ 255 := by unfold hP; decide
theorem hP_two : pN - 1 = 2 * hP := by unfold pN hP; decide
theorem dN_pw : pw pN dN 255 hP = pN - 1 := by decide +kernel
theorem dN_half : dN ^ hP % pN = pN - 1 := pw_gen one_lt_pN hP_lt dN_pw
theorem dK_val : dK.val = dN := by
  apply Int.ofNat.inj
  show ((fe (dN : Int)).val : Int) = (dN : Int)
  rw [fe_val]
  decide
section
variable [NeZero pN]
theorem fe_zero : fe 0 = 0 := by
  apply kf_ext
  rw [fe_val]
  rfl
theorem fe_one : fe 1 = 1 := by
  apply kf_ext
  rw [fe_val]
  rfl
theorem fe_nz {x : Int} : fe x = 0 ↔ x % P25519 = 0 := by
  rw [← fe_zero, fe_eq]
  rfl
theorem ivK_inv (a : KF) (h : a ≠ 0) : a * ivK a = 1 := by
  have h0 : 0 < (a.val : Int) := by
    have : a.val ≠ 0 := fun e => h (Fin.ext (by rw [e]; rfl))
    omega
  have h1 : (a.val : Int) < P25519 := by rw [← pN_int]; exact Int.ofNat_lt.2 a.isLt
  have h2 := inv_int h0 h1
  have h3 : fe ((a.val : Int) * (a.val : Int) ^ eInv) = fe 1 := fe_eq.2 (by rw [h2]; rfl)
  rw [fe_mul, fe_back, fe_one] at h3
  exact h3
theorem im_K : iK * iK + 1 = 0 := by
  unfold iK
  rw [← fe_mul, ← fe_one, ← fe_add, fe_nz]
  decide +kernel
theorem one_K : (1 : KF) ≠ 0 := by
  rw [← fe_one, Ne, fe_nz]
  decide
theorem two_K (a : KF) (h : a + a = 0) : a = 0 := by
  have h1 : (a.val : Int) < P25519 := by rw [← pN_int]; exact Int.ofNat_lt.2 a.isLt
  have h2 := Int.natCast_nonneg a.val
  have h3 : ((a.val : Int) + (a.val : Int)) % P25519 = 0 := by
    rw [← fe_nz, fe_add, fe_back]
    exact h
  have h4 := two_gen h2 h1 h3
  rw [← fe_back a, h4, fe_zero]
theorem nsq_K (s t : KF) (h : s * s = dK * (t * t)) : t = 0 := by
  apply Classical.byContradiction
  intro ht
  have htv : ¬ pN ∣ t.val := fun e => ht (Fin.ext (by
    have := Nat.eq_zero_of_dvd_of_lt e t.isLt
    rw [this]; rfl))
  have h1 : s.val * s.val % pN = dN * (t.val * t.val) % pN := by
    have := congrArg Fin.val h
    rw [Fin.val_mul, Fin.val_mul, Fin.val_mul, dK_val, Nat.mul_mod_mod] at this
    exact this
  exact nsq_gen pri_pN hP_two dN_half two_lt_pN htv h1
theorem crvK : Crv dK iK ivK := ⟨im_K, one_K, two_K, nsq_K, ivK_inv⟩
end
end Go.Proofs.Ytoblilngppjmhaa
