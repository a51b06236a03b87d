/-
  What is proved here: how two arrays of sixteen are compared; no condition; the contract of the specification's l6on: whether two numbers of the field are a point; what the lists of the specification stand for: numbers of the field, points in the long form, the curve; no program is spoken of; contracts of the specification's l6zero and l6base; plain mathematics on numbers modulo the order of the base: its parts, what is brought below it, bits of a number in parts; no program is spoken of, no condition.
-/
import Derived.Test.YtihoaakbkffejaaDoorZFt
import Derived.ChangeKeysEq
import Derived.Test.YtihoaakbkffejaaDoorZFp
import Derived.Test.YtihoaakbkffejaaDoorZUd
import Derived.Test.YtihoaakbkffejaaDoorZPm
import Derived.Test.YtihoaakbkffejaaDoorZUb
import Derived.Test.YtihoaakbkffejaaDoorZFm
namespace Go.Proofs.YtihoaakbkffejaaDoor
open Go.RowKit
set_option maxRecDepth 100000

theorem i64_at (a : List Int) (i : Nat) (h : i < a.length) : (I64 a).toArray[i]? = some (.int .i64 (a.getD i 0)) := by
  rw [List.getElem?_toArray, List.getElem?_map, List.getElem?_eq_getElem h, List.getD, List.getElem?_eq_getElem h]
  rfl
theorem run_eqItems_i64 (a b : List Int) (d : Nat) (w : World) : ∀ is : List Nat, (∀ i ∈ is, i < a.length ∧ i < b.length) →
    (Op.eqItems (d + 1) 3 1 (I64 a).toArray (I64 b).toArray is).run Tryd.prog w = .ok (is.all fun i => a.getD i 0 == b.getD i 0) w
  | [], _ => by simp [Op.eqItems]
  | i :: is, h => by
    obtain ⟨h1, h2⟩ := h i (List.mem_cons_self)
    have ih := run_eqItems_i64 a b d w is (fun j hj => h j (List.mem_cons_of_mem _ hj))
    have hk : Tryd.prog.plainKey 3 = true := by kernel_rfl
    have p1 := run_part_plain (P := Tryd.prog) w hk (xs := (I64 a).toArray) (off := i * 1) (by rw [Nat.mul_one]; exact i64_at a i h1)
    have p2 := run_part_plain (P := Tryd.prog) w hk (xs := (I64 b).toArray) (off := i * 1) (by rw [Nat.mul_one]; exact i64_at b i h2)
    have p3 := run_equalIn_int (P := Tryd.prog) w d 3 .i64 .i64 (a.getD i 0) (b.getD i 0) Tryd.underlying3
    simp only [Op.eqItems, Sem.run_bind, p1, p2, p3, Result.andThen_ok, List.all_cons]
    cases hc : (a.getD i 0 == b.getD i 0) with
    | true =>
      simp only [Bool.not_true, Bool.false_eq_true, if_false, Bool.true_and]
      exact ih
    | false => rfl
theorem all_range {a b : List Int} (ha : a.length = 16) (hb : b.length = 16) : ((List.range 16).all fun i => a.getD i 0 == b.getD i 0) = decide (a = b) := by
  by_cases h : a = b
  · subst h; simp
  · rw [decide_eq_false h, ← Bool.not_eq_true]
    intro hc
    refine h (List.ext_getElem (by omega) fun i h1 h2 => ?_)
    have := List.all_eq_true.1 hc i (List.mem_range.2 (by omega))
    simpa [List.getD, h1, h2] using this
end Go.Proofs.YtihoaakbkffejaaDoor
namespace Go.Proofs.YtihoaakbkffejaaDoor
open Go.RowKit
set_option maxRecDepth 100000

def onL (x y : List Int) : List Int := red (val (red (val y * val y)) - val (red (val x * val x)))
def onR (x y : List Int) : List Int := red (val (lim 16 1) + val (red (val DL * val (red (val (red (val x * val x)) * val (red (val y * val y)))))))
/-- Whether two numbers are a point. -/
def onB (x y : List Int) : Bool := decide (onL x y = onR x y)

end Go.Proofs.YtihoaakbkffejaaDoor
namespace Go.Proofs.YtihoaakbkffejaaDoor
open Go.RowKit
set_option maxRecDepth 100000
set_option maxHeartbeats 4000000
set_option linter.unusedSectionVars false

/-- A list as a number of the field. -/
def fl (l : List Int) : KF := fe (val l)
theorem fl_red (x : Int) : fl (red x) = fe x := by unfold fl; rw [val_red, fe_mod]
theorem fl_inj {a b : List Int} (ha : feOk a = true) (hb : feOk b = true) (h : fl a = fl b) : a = b := by
  obtain ⟨a1, a2, a3⟩ := (feOk_iff a).1 ha
  obtain ⟨b1, b2, b3⟩ := (feOk_iff b).1 hb
  have na := val_nonneg (fun x hx => (a2 x hx).1)
  have nb := val_nonneg (fun x hx => (b2 x hx).1)
  have e := fe_eq.1 h
  rw [Int.emod_eq_of_lt na a3, Int.emod_eq_of_lt nb b3] at e
  have la := lim_val a a2
  have lb := lim_val b b2
  rw [a1] at la
  rw [b1] at lb
  rw [← la, ← lb, e]
/-- The list of a number of the field. -/
def cx (k : KF) : List Int := lim 16 (k.val : Int)
theorem cx_lt (k : KF) : 0 ≤ (k.val : Int) ∧ (k.val : Int) < P25519 := ⟨Int.natCast_nonneg _, by rw [← pN_int]; exact Int.ofNat_lt.2 k.isLt⟩
theorem cx_val (k : KF) : val (cx k) = (k.val : Int) := by
  have h := cx_lt k
  unfold cx
  rw [val_lim, p256]
  have h2 := h.2
  unfold P25519 at h2
  exact Int.emod_eq_of_lt h.1 (Int.lt_trans h2 (by decide))
theorem cx_ok (k : KF) : feOk (cx k) = true := (feOk_iff _).2 ⟨lim_len _ _, lim_lm _ _, by rw [cx_val]; exact (cx_lt k).2⟩
theorem fl_cx (k : KF) : fl (cx k) = k := by unfold fl; rw [cx_val, fe_back]
theorem cx_fl {l : List Int} (h : feOk l = true) : cx (fl l) = l := fl_inj (cx_ok _) h (fl_cx _)
theorem DL_val : val DL = (dN : Int) := by decide
section
variable [NeZero pN]
theorem fl_DL : fl DL = dK := by unfold fl dK; rw [DL_val]
theorem fl_one : fl (lim 16 1) = 1 := by
  have h : val (lim 16 1) = 1 := by decide
  unfold fl; rw [h, fe_one]
theorem fl_zero : fl (lim 16 0) = 0 := by
  have h : val (lim 16 0) = 0 := by decide
  unfold fl; rw [h, fe_zero]
theorem fl_mul (x y : List Int) : fl (red (val x * val y)) = fl x * fl y := by rw [fl_red, fe_mul]; rfl
theorem fl_add (x y : List Int) : fl (red (val x + val y)) = fl x + fl y := by rw [fl_red, fe_add]; rfl
theorem fl_sub (x y : List Int) : fl (red (val x - val y)) = fl x - fl y := by rw [fl_red, fe_sub]; rfl
theorem fl_inv (c : List Int) : fl (invF c) = ivK (fl c) := by
  unfold invF
  rw [fl_red]
  exact (ivK_fe (val c)).symm
/-- What a point in the long form stands for. -/
def Ext6 (P : E4) (p : KF × KF) : Prop := Ext (fl P.a) (fl P.b) (fl P.c) (fl P.t) p
theorem ext6_make (x y : List Int) : Ext6 (mk6 x y) (fl x, fl y) := by
  have h := Ext.make crvK (fl x) (fl y)
  unfold Ext6
  show Ext (fl x) (fl y) (fl (lim 16 1)) (fl (red (val x * val y))) _
  rw [fl_one, fl_mul]
  exact h
theorem ext6_add {P Q : E4} {p q : KF × KF} (h1 : Ext6 P p) (h2 : Ext6 Q q) (o1 : On dK p) (o2 : On dK q) : Ext6 (add6 P Q) (pAdd dK ivK p q) := by
  unfold Ext6 add6
  simp only [fl_mul, fl_add, fl_sub, fl_DL]
  exact Ext.add crvK h1 h2 o1 o2 rfl rfl rfl rfl rfl rfl rfl rfl
theorem ext6_flat {P : E4} {p : KF × KF} (h : Ext6 P p) : flx P = cx p.1 ∧ fly P = cx p.2 := by
  have hf := Ext.flat crvK h
  constructor
  · refine fl_inj (ok_red _) (cx_ok _) ?_
    unfold flx
    rw [fl_mul, fl_inv, fl_cx]; exact hf.1
  · refine fl_inj (ok_red _) (cx_ok _) ?_
    unfold fly
    rw [fl_mul, fl_inv, fl_cx]; exact hf.2
theorem onB_iff (x y : List Int) : onB x y = true ↔ On dK (fl x, fl y) := by
  unfold onB On
  rw [decide_eq_true_eq]
  have e1 : fl (onL x y) = fl y * fl y - fl x * fl x := by unfold onL; rw [fl_sub, fl_mul, fl_mul]
  have e2 : fl (onR x y) = 1 + dK * (fl x * fl x * (fl y * fl y)) := by unfold onR; rw [fl_add, fl_mul, fl_mul, fl_mul, fl_mul, fl_one, fl_DL]
  constructor
  · intro h
    have := congrArg fl h
    rw [e1, e2] at this
    show fl y * fl y - fl x * fl x = 1 + dK * (fl x * fl x) * (fl y * fl y)
    rw [this]
    grind
  · intro h
    refine fl_inj (ok_red _) (ok_red _) ?_
    show fl (onL x y) = fl (onR x y)
    rw [e1, e2]
    have h' : fl y * fl y - fl x * fl x = 1 + dK * (fl x * fl x) * (fl y * fl y) := h
    rw [h']
    grind
end
end Go.Proofs.YtihoaakbkffejaaDoor
namespace Go.Proofs.YtihoaakbkffejaaDoor
open Go.RowKit
set_option maxRecDepth 100000

def zero6 : E4 := mk6 (lim 16 0) (lim 16 1)
def base6 : E4 := mk6 BX BY
theorem base6_eq : base6 = mk6 BX BY := rfl
theorem zero6_ok : zero6.Ok := mk6_ok zero_ok one_ok
theorem base6_ok : base6.Ok := mk6_ok BX_ok BY_ok
set_option maxHeartbeats 1000000 in
theorem spec6zero (w : World) : Calls Tryd.prog 19 #[] w fun e w' => e = .returned (.agg (I64 zero6.cells).toArray) ∧ Below w.heap.size w w' := by
  have H0 : Hid (∀ Z, Calls Tryd.prog 34 #[.int .i64 0] Z fun e w' => e = .returned (.agg (I64 (lim 16 0)).toArray) ∧ Below Z.heap.size Z w') := by
    unfold Hid; intro Z; exact specSmall 0 Z (by omega) (by omega)
  have H1 : Hid (∀ Z, Calls Tryd.prog 34 #[.int .i64 1] Z fun e w' => e = .returned (.agg (I64 (lim 16 1)).toArray) ∧ Below Z.heap.size Z w') := by
    unfold Hid; intro Z; exact specSmall 1 Z (by omega) (by omega)
  have HM : Hid (∀ Z, Calls Tryd.prog 21 #[.agg (I64 (lim 16 0)).toArray, .agg (I64 (lim 16 1)).toArray] Z fun e w' => e = .returned (.agg (I64 zero6.cells).toArray) ∧ Below Z.heap.size Z w') := by
    unfold Hid; intro Z; exact spec6make (lim 16 0) (lim 16 1) Z zero_ok one_ok
  have hP := zero6_ok
  have hPl := E4.len hP
  obtain ⟨P, hPe⟩ : ∃ P, P = zero6 := ⟨_, rfl⟩
  obtain ⟨x, hx⟩ : ∃ x, x = lim 16 0 := ⟨_, rfl⟩
  obtain ⟨y, hy⟩ : ∃ y, y = lim 16 1 := ⟨_, rfl⟩
  rw [← hPe] at HM hP hPl ⊢
  rw [← hx] at H0 HM
  rw [← hy] at H1 HM
  have hip := infoP' hP
  obtain ⟨W, hW⟩ : ∃ W, W = w.alloc (.cells #[.int .i64 0, .int .i64 0, .int .i64 0, .int .i64 0, .int .i64 0, .int .i64 0, .int .i64 0, .int .i64 0, .int .i64 0, .int .i64 0, .int .i64 0, .int .i64 0, .int .i64 0, .int .i64 0, .int .i64 0, .int .i64 0, .int .i64 0, .int .i64 0, .int .i64 0, .int .i64 0, .int .i64 0, .int .i64 0, .int .i64 0, .int .i64 0, .int .i64 0, .int .i64 0, .int .i64 0, .int .i64 0, .int .i64 0, .int .i64 0, .int .i64 0, .int .i64 0, .int .i64 0, .int .i64 0, .int .i64 0, .int .i64 0, .int .i64 0, .int .i64 0, .int .i64 0, .int .i64 0, .int .i64 0, .int .i64 0, .int .i64 0, .int .i64 0, .int .i64 0, .int .i64 0, .int .i64 0, .int .i64 0, .int .i64 0, .int .i64 0, .int .i64 0, .int .i64 0, .int .i64 0, .int .i64 0, .int .i64 0, .int .i64 0, .int .i64 0, .int .i64 0, .int .i64 0, .int .i64 0, .int .i64 0, .int .i64 0, .int .i64 0, .int .i64 0] 33) := ⟨_, rfl⟩
  have fr : Below w.heap.size w W := by rw [hW]; exact (Below.refl _ _).alloc (Nat.le_refl _) _
  have pr : Arr W w.heap.size 33 (I64 Z64) := by rw [hW]; exact Arr.new w (I64 Z64) _
  clear hPe hx hy
  go_enter Tryd.func19, Tryd.ntmps19
  go_wp2_with fail
  rw [← hW]
  clear hW
  refine (H0.out _).mono ?_
  rintro e y1 ⟨rfl, hb1⟩
  replace fr := fr.trans (hb1.mono fr.size)
  replace pr := pr.kept hb1
  clear hb1
  go_wp2_with fail
  refine (H1.out _).mono ?_
  rintro e y2 ⟨rfl, hb2⟩
  replace fr := fr.trans (hb2.mono fr.size)
  replace pr := pr.kept hb2
  clear hb2
  go_wp2_with fail
  refine (HM.out _).mono ?_
  rintro e y3 ⟨rfl, hb3⟩
  replace fr := fr.trans (hb3.mono fr.size)
  replace pr := pr.kept hb3
  clear hb3
  have h2 := pr.row (I64 P.cells)
  have HB : Hid _ := setRow_below fr w.heap.size (I64 P.cells).toArray (Nat.le_refl _)
  go_wp2_with (refine wpList_store_row rfl 33 _ _ rfl w.heap.size (I64 P.cells).toArray rfl rfl 33 _ pr hip (by simp [hPl]) (by simp [Value.oneCell']) ?_)
  exact bodyPost_ret (results_cell_row rfl _ _ w.heap.size 33 (I64 P.cells).toArray (0, 0) _ rfl h2 Tryd.underlying33 rfl hip) rfl ⟨rfl, HB.out⟩

set_option maxHeartbeats 2000000 in
theorem spec6base (w : World) : Calls Tryd.prog 12 #[] w fun e w' => e = .returned (.agg (I64 base6.cells).toArray) ∧ Below w.heap.size w w' := by
  have HM : Hid (∀ Z, Calls Tryd.prog 21 #[.agg (I64 BX).toArray, .agg (I64 BY).toArray] Z fun e w' => e = .returned (.agg (I64 base6.cells).toArray) ∧ Below Z.heap.size Z w') := by
    unfold Hid; intro Z; rw [base6_eq]; exact spec6make BX BY Z BX_ok BY_ok
  have hP := base6_ok
  have hPl := E4.len hP
  obtain ⟨P, hPe⟩ : ∃ P, P = base6 := ⟨_, rfl⟩
  rw [← hPe] at HM hP hPl ⊢
  have hip := infoP' hP
  have ix := infoE' BX_ok
  have iy := infoE' BY_ok
  obtain ⟨W, hW⟩ : ∃ W, W = w.alloc (.cells #[.int .i64 0, .int .i64 0, .int .i64 0, .int .i64 0, .int .i64 0, .int .i64 0, .int .i64 0, .int .i64 0, .int .i64 0, .int .i64 0, .int .i64 0, .int .i64 0, .int .i64 0, .int .i64 0, .int .i64 0, .int .i64 0, .int .i64 0, .int .i64 0, .int .i64 0, .int .i64 0, .int .i64 0, .int .i64 0, .int .i64 0, .int .i64 0, .int .i64 0, .int .i64 0, .int .i64 0, .int .i64 0, .int .i64 0, .int .i64 0, .int .i64 0, .int .i64 0, .int .i64 0, .int .i64 0, .int .i64 0, .int .i64 0, .int .i64 0, .int .i64 0, .int .i64 0, .int .i64 0, .int .i64 0, .int .i64 0, .int .i64 0, .int .i64 0, .int .i64 0, .int .i64 0, .int .i64 0, .int .i64 0, .int .i64 0, .int .i64 0, .int .i64 0, .int .i64 0, .int .i64 0, .int .i64 0, .int .i64 0, .int .i64 0, .int .i64 0, .int .i64 0, .int .i64 0, .int .i64 0, .int .i64 0, .int .i64 0, .int .i64 0, .int .i64 0] 33) := ⟨_, rfl⟩
  have fr : Below w.heap.size w W := by rw [hW]; exact (Below.refl _ _).alloc (Nat.le_refl _) _
  have pr : Arr W w.heap.size 33 (I64 Z64) := by rw [hW]; exact Arr.new w (I64 Z64) _
  clear hPe
  go_enter Tryd.func12, Tryd.ntmps12
  go_upto_region 1 with fail
  rw [← hW]
  clear hW
  obtain ⟨b1, a1, q1⟩ := laid_e W BX
  replace fr := (fr.trans (b1.mono fr.size))
  replace pr := pr.kept b1
  go_upto_region 2 with (refine wpList_store_row rfl 31 _ _ rfl W.heap.size (I64 BX).toArray rfl rfl 31 _ q1 infoE rfl (by simp [Value.oneCell']) ?_)
  obtain ⟨V, hV⟩ : ∃ V, V = (W.alloc (.cells #[.int .i64 0, .int .i64 0, .int .i64 0, .int .i64 0, .int .i64 0, .int .i64 0, .int .i64 0, .int .i64 0, .int .i64 0, .int .i64 0, .int .i64 0, .int .i64 0, .int .i64 0, .int .i64 0, .int .i64 0, .int .i64 0] 31)).setRow W.heap.size (I64 BX).toArray := ⟨_, rfl⟩
  obtain ⟨E, hE⟩ : ∃ E, E = W.heap.size := ⟨_, rfl⟩
  rw [← hV] at fr pr a1 ⊢
  rw [← hE] at a1 ⊢
  clear hV hE q1 b1
  obtain ⟨b2, a2, q2⟩ := laid_e V BY
  replace fr := (fr.trans (b2.mono fr.size))
  replace pr := pr.kept b2
  replace a1 := a1.kept b2
  go_upto_region 3 with (refine wpList_store_row rfl 31 _ _ rfl V.heap.size (I64 BY).toArray rfl rfl 31 _ q2 infoE rfl (by simp [Value.oneCell']) ?_)
  obtain ⟨U, hU⟩ : ∃ U, U = (V.alloc (.cells #[.int .i64 0, .int .i64 0, .int .i64 0, .int .i64 0, .int .i64 0, .int .i64 0, .int .i64 0, .int .i64 0, .int .i64 0, .int .i64 0, .int .i64 0, .int .i64 0, .int .i64 0, .int .i64 0, .int .i64 0, .int .i64 0] 31)).setRow V.heap.size (I64 BY).toArray := ⟨_, rfl⟩
  obtain ⟨F, hF⟩ : ∃ F, F = V.heap.size := ⟨_, rfl⟩
  rw [← hU] at fr pr a1 a2 ⊢
  rw [← hF] at a2 ⊢
  clear hU hF q2 b2
  obtain ⟨x, hx⟩ : ∃ x, x = BX := ⟨_, rfl⟩
  obtain ⟨y, hy⟩ : ∃ y, y = BY := ⟨_, rfl⟩
  rw [← hx] at a1 HM ix
  rw [← hy] at a2 HM iy
  clear hx hy
  go_wp2_with (first
    | (refine wpList_load_row rfl 31 _ rfl E rfl 31 (I64 x).toArray (0, 0) _ a1 Tryd.underlying31 rfl ix ?_)
    | (refine wpList_load_row rfl 31 _ rfl F rfl 31 (I64 y).toArray (0, 0) _ a2 Tryd.underlying31 rfl iy ?_))
  clear a1 a2
  refine (HM.out _).mono ?_
  rintro e y1 ⟨rfl, hb1⟩
  replace fr := fr.trans (hb1.mono fr.size)
  replace pr := pr.kept hb1
  clear hb1
  have h2 := pr.row (I64 P.cells)
  have HB : Hid _ := setRow_below fr w.heap.size (I64 P.cells).toArray (Nat.le_refl _)
  go_wp2_with (refine wpList_store_row rfl 33 _ _ rfl w.heap.size (I64 P.cells).toArray rfl rfl 33 _ pr hip (by simp [hPl]) (by simp [Value.oneCell']) ?_)
  exact bodyPost_ret (results_cell_row rfl _ _ w.heap.size 33 (I64 P.cells).toArray (0, 0) _ rfl h2 Tryd.underlying33 rfl hip) rfl ⟨rfl, HB.out⟩
end Go.Proofs.YtihoaakbkffejaaDoor
namespace Go.Proofs.YtihoaakbkffejaaDoor
open Go.RowKit
set_option maxRecDepth 100000

/-- The order. -/
def qO : Int := 7237005577332262213973186563042994240857116359379907606001950938285454250989
/-- Its parts. -/
def OL : List Int := [54253, 23797, 25370, 22546, 40150, 41719, 63966, 5342, 0, 0, 0, 0, 0, 0, 0, 4096]
theorem OL_len : OL.length = 16 := rfl
theorem OL_val : val OL = qO := by decide
theorem OL_lm : Lm OL := by unfold Lm OL; decide
/-- What a number comes to, below the order. -/
def redO (v : Int) : List Int := lim 16 (v % qO)
theorem redO_lt (v : Int) : 0 ≤ v % qO ∧ v % qO < qO := by unfold qO; omega
theorem val_redO (v : Int) : val (redO v) = v % qO := by
  unfold redO
  have := redO_lt v
  rw [val_lim, p256]
  unfold qO at *
  omega
theorem redO_len (v : Int) : (redO v).length = 16 := lim_len _ _
theorem redO_lm (v : Int) : Lm (redO v) := lim_lm _ _
/-- A list of sixteen parts that is a multiplier. -/
def scOk (l : List Int) : Bool := decide (l.length = 16) && l.all (fun x => decide (0 ≤ x ∧ x < 65536)) && decide (val l < qO)
theorem scOk_iff (l : List Int) : scOk l = true ↔ l.length = 16 ∧ Lm l ∧ val l < qO := by
  unfold scOk Lm
  simp only [Bool.and_eq_true, decide_eq_true_eq, List.all_eq_true, and_assoc]
theorem redO_ok (v : Int) : scOk (redO v) = true := (scOk_iff _).2 ⟨redO_len v, redO_lm v, by rw [val_redO]; exact (redO_lt v).2⟩
theorem lessO {x : Int} (h0 : 0 ≤ x) (h1 : x < 2 * qO) : (x < qO → lim 16 x = redO x) ∧ (¬ x < qO → lim 16 (x - qO) = redO x) := by
  unfold redO
  constructor
  · intro h; rw [Int.emod_eq_of_lt h0 h]
  · intro h
    rw [show x % qO = x - qO by unfold qO at *; omega]
theorem val_lim16 {x : Int} (h0 : 0 ≤ x) (h1 : x < 2 * qO) : val (lim 16 x) = x := by
  rw [val_lim, p256]
  unfold qO at h1
  omega
theorem bitO_low (x r : Nat) (h : r < 16) : x % 65536 / 2 ^ r % 2 = x / 2 ^ r % 2 := by
  have : r = 0 ∨ r = 1 ∨ r = 2 ∨ r = 3 ∨ r = 4 ∨ r = 5 ∨ r = 6 ∨ r = 7 ∨ r = 8 ∨ r = 9 ∨ r = 10 ∨ r = 11 ∨ r = 12 ∨ r = 13 ∨ r = 14 ∨ r = 15 := by omega
  rcases this with rfl | rfl | rfl | rfl | rfl | rfl | rfl | rfl | rfl | rfl | rfl | rfl | rfl | rfl | rfl | rfl <;> omega
/-- A bit of a number in parts. -/
theorem bitO {n : List Int} {m : Nat} (hl : n.length = m) (hm : Lm n) (j : Nat) (hj : j < 16 * m) : n.getD (j / 16) 0 / 2 ^ (j % 16) % 2 = (((val n).toNat / 2 ^ j % 2 : Nat) : Int) := by
  have h0 := val_nonneg (fun x hx => (hm x hx).1)
  have h1 := lim_val n hm
  rw [hl] at h1
  obtain ⟨N, hN⟩ := Int.eq_ofNat_of_zero_le h0
  have h2 := lim_get m (val n) (j / 16) (by omega)
  rw [h1, hN] at h2
  rw [h2, hN, Int.toNat_natCast]
  have h3 : N / 65536 ^ (j / 16) % 65536 / 2 ^ (j % 16) % 2 = N / 2 ^ j % 2 := by
    rw [bitO_low _ _ (by omega), show 65536 = 2 ^ 16 from rfl, ← Nat.pow_mul, Nat.div_div_eq_div_mul, ← Nat.pow_add, Nat.div_add_mod]
  rw [← h3]
  simp only [Int.natCast_ediv, Int.natCast_emod, Int.natCast_pow]
  rfl
end Go.Proofs.YtihoaakbkffejaaDoor
