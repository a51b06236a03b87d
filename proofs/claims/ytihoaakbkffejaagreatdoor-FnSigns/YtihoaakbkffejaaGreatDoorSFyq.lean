/-
  What is proved here: how two arrays of sixteen are compared; no condition; the contract of the specification's l6on: whether two numbers of the field are a point; what the lists of the specification stand for: numbers of the field, points in the long form, the curve; no program is spoken of; contracts of the specification's l6zero and l6base; plain mathematics on numbers modulo the order of the base: its parts, what is brought below it, bits of a number in parts; no program is spoken of, no condition; the contract of the specification's l6mul: so many times a point, by doubling and adding; what the specification makes of a multiplier and a point is so many times the point; no program is spoken of; the base is a point, and so many times the base as the order tells is the zero, reckoned by the kernel; no program is spoken of; contracts of the specification's l6flat; plain facts on memory; the contract of the specification's PtOk: whether two lists are a point; the laws of the points in lists: what is a point, sums, opposites, multiples, a multiplier and one more; squares have two roots, and the last bit tells them apart; no program is spoken of; plain facts on rows that a call owns: how they lie apart, and how they stay while another is written; no program is spoken of, no condition; what an answer in parts in a row of a given type is; the contract of a helper of the exact laws (hold two slices of ints against each other), for every slice of at most 2^21 ints; contracts of two helpers of the exact laws (mark a slice of ints, look whether the marks are held), for every slice of at most 2^21 ints; plain facts on rows and cells beside a row that is marked, for the walks of the exact laws; no condition; the contract of the specification's l6out: a point in the long form as two lists of its own; the lists of an answer that is a point; plain facts on memory; plain facts on a row that a call owns, as one block of memory; no program is spoken of, no condition; an owned row into which one cell is stored; no program is spoken of, no condition.
-/
import Derived.Test.YtihoaakbkffejaaGreatDoorSFr
import Derived.ChangeKeysEq
import Derived.Test.YtihoaakbkffejaaGreatDoorSTm
import Derived.Test.YtihoaakbkffejaaGreatDoorSYc
import Derived.Test.YtihoaakbkffejaaGreatDoorSFm
import Derived.Laws.BitsLemmas
import Derived.Laws.Rows
import Derived.Test.YtihoaakbkffejaaGreatDoorProg
import Derived.Deep.QuietTactic
import Derived.BigQuiet
import Derived.Deep.MidRow
import Derived.Deep.RegionHeld3
import Derived.Deep.CutRange
namespace Go.Proofs.YtihoaakbkffejaaGreatDoor
open Go.RowKit
set_option maxRecDepth 100000

theorem i64_at (a : List Int) (i : Nat) (h : i < a.length) : (I64 a).toArray[i]? = some (.int .i64 (a.getD i 0)) := by
  rw [List.getElem?_toArray, List.getElem?_map, List.getElem?_eq_getElem h, List.getD, List.getElem?_eq_getElem h]
  rfl
theorem run_eqItems_i64 (a b : List Int) (d : Nat) (w : World) : ∀ is : List Nat, (∀ i ∈ is, i < a.length ∧ i < b.length) →
    (Op.eqItems (d + 1) 3 1 (I64 a).toArray (I64 b).toArray is).run Tryz.prog w = .ok (is.all fun i => a.getD i 0 == b.getD i 0) w
  | [], _ => by simp [Op.eqItems]
  | i :: is, h => by
    obtain ⟨h1, h2⟩ := h i (List.mem_cons_self)
    have ih := run_eqItems_i64 a b d w is (fun j hj => h j (List.mem_cons_of_mem _ hj))
    have hk : Tryz.prog.plainKey 3 = true := by kernel_rfl
    have p1 := run_part_plain (P := Tryz.prog) w hk (xs := (I64 a).toArray) (off := i * 1) (by rw [Nat.mul_one]; exact i64_at a i h1)
    have p2 := run_part_plain (P := Tryz.prog) w hk (xs := (I64 b).toArray) (off := i * 1) (by rw [Nat.mul_one]; exact i64_at b i h2)
    have p3 := run_equalIn_int (P := Tryz.prog) w d 3 .i64 .i64 (a.getD i 0) (b.getD i 0) Tryz.underlying3
    simp only [Op.eqItems, Sem.run_bind, p1, p2, p3, Result.andThen_ok, List.all_cons]
    cases hc : (a.getD i 0 == b.getD i 0) with
    | true =>
      simp only [Bool.not_true, Bool.false_eq_true, if_false, Bool.true_and]
      exact ih
    | false => rfl
theorem all_range {a b : List Int} (ha : a.length = 16) (hb : b.length = 16) : ((List.range 16).all fun i => a.getD i 0 == b.getD i 0) = decide (a = b) := by
  by_cases h : a = b
  · subst h; simp
  · rw [decide_eq_false h, ← Bool.not_eq_true]
    intro hc
    refine h (List.ext_getElem (by omega) fun i h1 h2 => ?_)
    have := List.all_eq_true.1 hc i (List.mem_range.2 (by omega))
    simpa [List.getD, h1, h2] using this
end Go.Proofs.YtihoaakbkffejaaGreatDoor
namespace Go.Proofs.YtihoaakbkffejaaGreatDoor
open Go.RowKit
set_option maxRecDepth 100000

def onL (x y : List Int) : List Int := red (val (red (val y * val y)) - val (red (val x * val x)))
def onR (x y : List Int) : List Int := red (val (lim 16 1) + val (red (val DL * val (red (val (red (val x * val x)) * val (red (val y * val y)))))))
/-- Whether two numbers are a point. -/
def onB (x y : List Int) : Bool := decide (onL x y = onR x y)

end Go.Proofs.YtihoaakbkffejaaGreatDoor
namespace Go.Proofs.YtihoaakbkffejaaGreatDoor
open Go.RowKit
set_option maxRecDepth 100000
set_option maxHeartbeats 4000000
set_option linter.unusedSectionVars false

/-- A list as a number of the field. -/
def fl (l : List Int) : KF := fe (val l)
theorem fl_red (x : Int) : fl (red x) = fe x := by unfold fl; rw [val_red, fe_mod]
theorem fl_inj {a b : List Int} (ha : feOk a = true) (hb : feOk b = true) (h : fl a = fl b) : a = b := by
  obtain ⟨a1, a2, a3⟩ := (feOk_iff a).1 ha
  obtain ⟨b1, b2, b3⟩ := (feOk_iff b).1 hb
  have na := val_nonneg (fun x hx => (a2 x hx).1)
  have nb := val_nonneg (fun x hx => (b2 x hx).1)
  have e := fe_eq.1 h
  rw [Int.emod_eq_of_lt na a3, Int.emod_eq_of_lt nb b3] at e
  have la := lim_val a a2
  have lb := lim_val b b2
  rw [a1] at la
  rw [b1] at lb
  rw [← la, ← lb, e]
/-- The list of a number of the field. -/
def cx (k : KF) : List Int := lim 16 (k.val : Int)
theorem cx_lt (k : KF) : 0 ≤ (k.val : Int) ∧ (k.val : Int) < P25519 := ⟨Int.natCast_nonneg _, by rw [← pN_int]; exact Int.ofNat_lt.2 k.isLt⟩
theorem cx_val (k : KF) : val (cx k) = (k.val : Int) := by
  have h := cx_lt k
  unfold cx
  rw [val_lim, p256]
  have h2 := h.2
  unfold P25519 at h2
  exact Int.emod_eq_of_lt h.1 (Int.lt_trans h2 (by decide))
theorem cx_ok (k : KF) : feOk (cx k) = true := (feOk_iff _).2 ⟨lim_len _ _, lim_lm _ _, by rw [cx_val]; exact (cx_lt k).2⟩
theorem fl_cx (k : KF) : fl (cx k) = k := by unfold fl; rw [cx_val, fe_back]
theorem cx_fl {l : List Int} (h : feOk l = true) : cx (fl l) = l := fl_inj (cx_ok _) h (fl_cx _)
theorem DL_val : val DL = (dN : Int) := by decide
section
variable [NeZero pN]
theorem fl_DL : fl DL = dK := by unfold fl dK; rw [DL_val]
theorem fl_one : fl (lim 16 1) = 1 := by
  have h : val (lim 16 1) = 1 := by decide
  unfold fl; rw [h, fe_one]
theorem fl_zero : fl (lim 16 0) = 0 := by
  have h : val (lim 16 0) = 0 := by decide
  unfold fl; rw [h, fe_zero]
theorem fl_mul (x y : List Int) : fl (red (val x * val y)) = fl x * fl y := by rw [fl_red, fe_mul]; rfl
theorem fl_add (x y : List Int) : fl (red (val x + val y)) = fl x + fl y := by rw [fl_red, fe_add]; rfl
theorem fl_sub (x y : List Int) : fl (red (val x - val y)) = fl x - fl y := by rw [fl_red, fe_sub]; rfl
theorem fl_inv (c : List Int) : fl (invF c) = ivK (fl c) := by
  unfold invF
  rw [fl_red]
  exact (ivK_fe (val c)).symm
/-- What a point in the long form stands for. -/
def Ext6 (P : E4) (p : KF × KF) : Prop := Ext (fl P.a) (fl P.b) (fl P.c) (fl P.t) p
theorem ext6_make (x y : List Int) : Ext6 (mk6 x y) (fl x, fl y) := by
  have h := Ext.make crvK (fl x) (fl y)
  unfold Ext6
  show Ext (fl x) (fl y) (fl (lim 16 1)) (fl (red (val x * val y))) _
  rw [fl_one, fl_mul]
  exact h
theorem ext6_add {P Q : E4} {p q : KF × KF} (h1 : Ext6 P p) (h2 : Ext6 Q q) (o1 : On dK p) (o2 : On dK q) : Ext6 (add6 P Q) (pAdd dK ivK p q) := by
  unfold Ext6 add6
  simp only [fl_mul, fl_add, fl_sub, fl_DL]
  exact Ext.add crvK h1 h2 o1 o2 rfl rfl rfl rfl rfl rfl rfl rfl
theorem ext6_neg {P : E4} {p : KF × KF} (h : Ext6 P p) : Ext6 (neg6 P) (pNeg p) := by
  unfold Ext6 neg6
  simp only [fl_sub, fl_zero]
  exact Ext.neg h
theorem ext6_flat {P : E4} {p : KF × KF} (h : Ext6 P p) : flx P = cx p.1 ∧ fly P = cx p.2 := by
  have hf := Ext.flat crvK h
  constructor
  · refine fl_inj (ok_red _) (cx_ok _) ?_
    unfold flx
    rw [fl_mul, fl_inv, fl_cx]; exact hf.1
  · refine fl_inj (ok_red _) (cx_ok _) ?_
    unfold fly
    rw [fl_mul, fl_inv, fl_cx]; exact hf.2
theorem onB_iff (x y : List Int) : onB x y = true ↔ On dK (fl x, fl y) := by
  unfold onB On
  rw [decide_eq_true_eq]
  have e1 : fl (onL x y) = fl y * fl y - fl x * fl x := by unfold onL; rw [fl_sub, fl_mul, fl_mul]
  have e2 : fl (onR x y) = 1 + dK * (fl x * fl x * (fl y * fl y)) := by unfold onR; rw [fl_add, fl_mul, fl_mul, fl_mul, fl_mul, fl_one, fl_DL]
  constructor
  · intro h
    have := congrArg fl h
    rw [e1, e2] at this
    show fl y * fl y - fl x * fl x = 1 + dK * (fl x * fl x) * (fl y * fl y)
    rw [this]
    grind
  · intro h
    refine fl_inj (ok_red _) (ok_red _) ?_
    show fl (onL x y) = fl (onR x y)
    rw [e1, e2]
    have h' : fl y * fl y - fl x * fl x = 1 + dK * (fl x * fl x) * (fl y * fl y) := h
    rw [h']
    grind
end
end Go.Proofs.YtihoaakbkffejaaGreatDoor
namespace Go.Proofs.YtihoaakbkffejaaGreatDoor
open Go.RowKit
set_option maxRecDepth 100000

def zero6 : E4 := mk6 (lim 16 0) (lim 16 1)
end Go.Proofs.YtihoaakbkffejaaGreatDoor
namespace Go.Proofs.YtihoaakbkffejaaGreatDoor
open Go.RowKit
set_option maxRecDepth 100000

/-- The order. -/
def qO : Int := 7237005577332262213973186563042994240857116359379907606001950938285454250989
/-- Its parts. -/
def OL : List Int := [54253, 23797, 25370, 22546, 40150, 41719, 63966, 5342, 0, 0, 0, 0, 0, 0, 0, 4096]
theorem OL_len : OL.length = 16 := rfl
theorem OL_val : val OL = qO := by decide
theorem OL_lm : Lm OL := by unfold Lm OL; decide
/-- What a number comes to, below the order. -/
def redO (v : Int) : List Int := lim 16 (v % qO)
theorem redO_lt (v : Int) : 0 ≤ v % qO ∧ v % qO < qO := by unfold qO; omega
theorem val_redO (v : Int) : val (redO v) = v % qO := by
  unfold redO
  have := redO_lt v
  rw [val_lim, p256]
  unfold qO at *
  omega
theorem redO_len (v : Int) : (redO v).length = 16 := lim_len _ _
theorem redO_lm (v : Int) : Lm (redO v) := lim_lm _ _
/-- A list of sixteen parts that is a multiplier. -/
def scOk (l : List Int) : Bool := decide (l.length = 16) && l.all (fun x => decide (0 ≤ x ∧ x < 65536)) && decide (val l < qO)
theorem scOk_iff (l : List Int) : scOk l = true ↔ l.length = 16 ∧ Lm l ∧ val l < qO := by
  unfold scOk Lm
  simp only [Bool.and_eq_true, decide_eq_true_eq, List.all_eq_true, and_assoc]
theorem redO_ok (v : Int) : scOk (redO v) = true := (scOk_iff _).2 ⟨redO_len v, redO_lm v, by rw [val_redO]; exact (redO_lt v).2⟩
theorem lessO {x : Int} (h0 : 0 ≤ x) (h1 : x < 2 * qO) : (x < qO → lim 16 x = redO x) ∧ (¬ x < qO → lim 16 (x - qO) = redO x) := by
  unfold redO
  constructor
  · intro h; rw [Int.emod_eq_of_lt h0 h]
  · intro h
    rw [show x % qO = x - qO by unfold qO at *; omega]
theorem val_lim16 {x : Int} (h0 : 0 ≤ x) (h1 : x < 2 * qO) : val (lim 16 x) = x := by
  rw [val_lim, p256]
  unfold qO at h1
  omega
theorem bitO_low (x r : Nat) (h : r < 16) : x % 65536 / 2 ^ r % 2 = x / 2 ^ r % 2 := by
  have : r = 0 ∨ r = 1 ∨ r = 2 ∨ r = 3 ∨ r = 4 ∨ r = 5 ∨ r = 6 ∨ r = 7 ∨ r = 8 ∨ r = 9 ∨ r = 10 ∨ r = 11 ∨ r = 12 ∨ r = 13 ∨ r = 14 ∨ r = 15 := by omega
  rcases this with rfl | rfl | rfl | rfl | rfl | rfl | rfl | rfl | rfl | rfl | rfl | rfl | rfl | rfl | rfl | rfl <;> omega
/-- A bit of a number in parts. -/
theorem bitO {n : List Int} {m : Nat} (hl : n.length = m) (hm : Lm n) (j : Nat) (hj : j < 16 * m) : n.getD (j / 16) 0 / 2 ^ (j % 16) % 2 = (((val n).toNat / 2 ^ j % 2 : Nat) : Int) := by
  have h0 := val_nonneg (fun x hx => (hm x hx).1)
  have h1 := lim_val n hm
  rw [hl] at h1
  obtain ⟨N, hN⟩ := Int.eq_ofNat_of_zero_le h0
  have h2 := lim_get m (val n) (j / 16) (by omega)
  rw [h1, hN] at h2
  rw [h2, hN, Int.toNat_natCast]
  have h3 : N / 65536 ^ (j / 16) % 65536 / 2 ^ (j % 16) % 2 = N / 2 ^ j % 2 := by
    rw [bitO_low _ _ (by omega), show 65536 = 2 ^ 16 from rfl, ← Nat.pow_mul, Nat.div_div_eq_div_mul, ← Nat.pow_add, Nat.div_add_mod]
  rw [← h3]
  simp only [Int.natCast_ediv, Int.natCast_emod, Int.natCast_pow]
  rfl
end Go.Proofs.YtihoaakbkffejaaGreatDoor
namespace Go.Proofs.YtihoaakbkffejaaGreatDoor
open Go.RowKit
set_option maxRecDepth 100000

/-- How far the specification has come with the bits of a number, from the highest on. -/
def mst (P : E4) (N : Nat) : Nat → E4 × Bool
  | 0 => (zero6, false)
  | n + 1 =>
    if N / 2 ^ (255 - n) % 2 = 1 then (add6 (if (mst P N n).2 = true then add6 (mst P N n).1 (mst P N n).1 else (mst P N n).1) P, true)
    else ((if (mst P N n).2 = true then add6 (mst P N n).1 (mst P N n).1 else (mst P N n).1), (mst P N n).2)
theorem mst_one {P : E4} {N n : Nat} (h : N / 2 ^ (255 - n) % 2 = 1) : mst P N (n + 1) = (add6 (if (mst P N n).2 = true then add6 (mst P N n).1 (mst P N n).1 else (mst P N n).1) P, true) := by rw [mst, if_pos h]
theorem mst_nil {P : E4} {N n : Nat} (h : ¬ N / 2 ^ (255 - n) % 2 = 1) : mst P N (n + 1) = ((if (mst P N n).2 = true then add6 (mst P N n).1 (mst P N n).1 else (mst P N n).1), (mst P N n).2) := by rw [mst, if_neg h]
def mul6 (P : E4) (N : Nat) : E4 := (mst P N 256).1
/-- What lies there while the bits are gone through. -/
structure ML (w W : World) (X : Nat) (P : E4) (k : List Int) (R : E4) : Prop where
  fr : Below w.heap.size w W
  pa : Arr W w.heap.size 86 (I64 P.cells)
  pk : Arr W (w.heap.size + 1) 80 (I64 k)
  pr : Arr W (w.heap.size + 2) 86 (I64 Z64)
  px : Arr W X 86 (I64 R.cells)
theorem ML.go {w A B : World} {X : Nat} {P R : E4} {k : List Int} (h : ML w A X P k R) (hb : Below A.heap.size A B) : ML w B X P k R := ⟨h.fr.trans (hb.mono h.fr.size), h.pa.kept hb, h.pk.kept hb, h.pr.kept hb, h.px.kept hb⟩
theorem ML.put {w A : World} {X : Nat} {P R : E4} {k : List Int} (h : ML w A X P k R) (hX : w.heap.size + 2 < X) (S : E4) : ML w (A.setRow X (I64 S.cells).toArray) X P k S :=
  ⟨setRow_below h.fr _ _ (by omega), h.pa.rowOther _ _ (by omega), h.pk.rowOther _ _ (by omega), h.pr.rowOther _ _ (by omega), h.px.row _⟩

end Go.Proofs.YtihoaakbkffejaaGreatDoor
namespace Go.Proofs.YtihoaakbkffejaaGreatDoor
open Go.RowKit
set_option maxRecDepth 100000
set_option maxHeartbeats 4000000
set_option linter.unusedSectionVars false

section
variable [NeZero pN]
theorem ext6_zero : Ext6 zero6 pZero := by
  have h := ext6_make (lim 16 0) (lim 16 1)
  rw [fl_zero, fl_one] at h
  exact h
/-- The bits from the highest on: what has been made of them so far. -/
theorem ext6_mst {P : E4} {p : KF × KF} (h : Ext6 P p) (o : On dK p) (N : Nat) (hN : N < 2 ^ 256) : ∀ n, n ≤ 256 → Ext6 (mst P N n).1 (pMul dK ivK (N / 2 ^ (256 - n)) p) ∧ ((mst P N n).2 = false → N / 2 ^ (256 - n) = 0)
  | 0, _ => by
    have e : N / 2 ^ (256 - 0) = 0 := Nat.div_eq_of_lt hN
    rw [e]
    exact ⟨ext6_zero, fun _ => rfl⟩
  | n + 1, hn => by
    obtain ⟨ih1, ih2⟩ := ext6_mst h o N hN n (by omega)
    have hb := crvK.mul_bit o N (255 - n)
    have e1 : 256 - (n + 1) = 255 - n := by omega
    have e2 : 256 - n = 255 - n + 1 := by omega
    rw [e2] at ih1 ih2
    rw [e1, hb]
    obtain ⟨M, hM⟩ : ∃ M, M = N / 2 ^ (255 - n + 1) := ⟨_, rfl⟩
    rw [← hM] at ih1 ih2 ⊢
    have om := crvK.on_mul o M
    have hr : Ext6 (if (mst P N n).2 = true then add6 (mst P N n).1 (mst P N n).1 else (mst P N n).1) (pAdd dK ivK (pMul dK ivK M p) (pMul dK ivK M p)) := by
      split
      · exact ext6_add ih1 ih1 om om
      · rename_i hf
        have h0 := ih2 (by simpa using hf)
        rw [h0] at ih1 ⊢
        show Ext6 _ (pAdd dK ivK pZero pZero)
        rw [crvK.add_zero]
        exact ih1
    have e3 : N / 2 ^ (255 - n) / 2 = M := by rw [hM, Nat.pow_succ, Nat.div_div_eq_div_mul]
    by_cases hbit : N / 2 ^ (255 - n) % 2 = 1
    · rw [mst_one hbit, if_pos hbit]
      exact ⟨ext6_add hr h (crvK.on_add om om) o, fun hf => by cases hf⟩
    · rw [mst_nil hbit, if_neg hbit]
      refine ⟨hr, fun hf => ?_⟩
      have := ih2 hf
      omega
theorem ext6_mul {P : E4} {p : KF × KF} (h : Ext6 P p) (o : On dK p) (N : Nat) (hN : N < 2 ^ 256) : Ext6 (mul6 P N) (pMul dK ivK N p) := by
  have := (ext6_mst h o N hN 256 (by omega)).1
  rw [Nat.sub_self, Nat.pow_zero, Nat.div_one] at this
  exact this
end
end Go.Proofs.YtihoaakbkffejaaGreatDoor
namespace Go.Proofs.YtihoaakbkffejaaGreatDoor
set_option maxRecDepth 100000
set_option maxHeartbeats 400000
set_option linter.unusedSectionVars false

/-- Sums of points in the long form, on plain numbers: for the kernel to reckon with. -/
def nm (x y : Nat) : Nat := x * y % pN
def na (x y : Nat) : Nat := (x + y) % pN
def ns (x y : Nat) : Nat := (x + (pN - y % pN)) % pN
structure T4 where
  a : Nat
  b : Nat
  c : Nat
  t : Nat
def nAdd (P Q : T4) : T4 :=
  let A := nm (ns P.b P.a) (ns Q.b Q.a)
  let B := nm (na P.b P.a) (na Q.b Q.a)
  let C := nm (nm P.t Q.t) (na dN dN)
  let D := nm P.c (na Q.c Q.c)
  let E := ns B A
  let F := ns D C
  let G := na D C
  let H := na B A
  ⟨nm E F, nm G H, nm F G, nm E H⟩
def nst (P : T4) (N : Nat) : Nat → T4
  | 0 => ⟨0, 1, 1, 0⟩
  | n + 1 => if N / 2 ^ (255 - n) % 2 = 1 then nAdd (nAdd (nst P N n) (nst P N n)) P else nAdd (nst P N n) (nst P N n)
theorem nst_one {P : T4} {N n : Nat} (h : N / 2 ^ (255 - n) % 2 = 1) : nst P N (n + 1) = nAdd (nAdd (nst P N n) (nst P N n)) P := by rw [nst, if_pos h]
theorem nst_nil {P : T4} {N n : Nat} (h : ¬ N / 2 ^ (255 - n) % 2 = 1) : nst P N (n + 1) = nAdd (nst P N n) (nst P N n) := by rw [nst, if_neg h]
def bxN : Nat := 15112221349535400772501151409588531511454012693041857206046113283949847762202
def byN : Nat := 46316835694926478169428394003475163141307993866256225615783033603165251855960
def nB : T4 := ⟨bxN, byN, 1, nm bxN byN⟩
def oN : Nat := 7237005577332262213973186563042994240857116359379907606001950938285454250989
theorem nst_order : (nst nB oN 256).a = 0 ∧ (nst nB oN 256).b = (nst nB oN 256).c := by decide +kernel
theorem oN_lt : oN < 2 ^ 256 := by unfold oN; decide
/-- A plain number as one of the field. -/
def fn (x : Nat) : KF := fe (x : Int)
theorem fn_mod (x : Nat) : fn (x % pN) = fn x := by unfold fn; rw [Int.natCast_emod, pN_int, fe_mod]
section
variable [NeZero pN]
theorem fn_mul (x y : Nat) : fn (nm x y) = fn x * fn y := by unfold nm; rw [fn_mod]; unfold fn; rw [Int.natCast_mul, fe_mul]
theorem fn_add (x y : Nat) : fn (na x y) = fn x + fn y := by unfold na; rw [fn_mod]; unfold fn; rw [Int.natCast_add, fe_add]
theorem fn_pN : fn pN = 0 := by unfold fn; rw [pN_int, fe_nz, Int.emod_self]
theorem fn_sub (x y : Nat) : fn (ns x y) = fn x - fn y := by
  have hlt : y % pN < pN := Nat.mod_lt _ (Nat.pos_of_ne_zero pN_ne)
  have e : fn (pN - y % pN) + fn y = 0 := by
    rw [← fn_mod y, ← fn_pN]
    unfold fn
    rw [← fe_add, ← Int.natCast_add, Nat.sub_add_cancel (Nat.le_of_lt hlt)]
  unfold ns
  rw [fn_mod]
  have e2 : fn (x + (pN - y % pN)) = fn x + fn (pN - y % pN) := by unfold fn; rw [Int.natCast_add, fe_add]
  rw [e2]
  grind
def Ext4 (T : T4) (p : KF × KF) : Prop := Ext (fn T.a) (fn T.b) (fn T.c) (fn T.t) p
theorem ext4_add {P Q : T4} {p q : KF × KF} (h1 : Ext4 P p) (h2 : Ext4 Q q) (o1 : On dK p) (o2 : On dK q) : Ext4 (nAdd P Q) (pAdd dK ivK p q) := by
  unfold Ext4 nAdd
  simp only [fn_mul, fn_add, fn_sub]
  exact Ext.add crvK h1 h2 o1 o2 rfl rfl rfl rfl rfl rfl rfl rfl
theorem fn_one : fn 1 = 1 := by unfold fn; exact fe_one
theorem fn_zero : fn 0 = 0 := by unfold fn; exact fe_zero
theorem ext4_zero : Ext4 ⟨0, 1, 1, 0⟩ pZero := by
  unfold Ext4
  rw [fn_zero, fn_one]
  have h := Ext.make crvK (0 : KF) 1
  have e : (0 : KF) * 1 = 0 := by grind
  rw [e] at h
  exact h
theorem ext4_nst {P : T4} {p : KF × KF} (h : Ext4 P p) (o : On dK p) (N : Nat) (hN : N < 2 ^ 256) : ∀ n, n ≤ 256 → Ext4 (nst P N n) (pMul dK ivK (N / 2 ^ (256 - n)) p)
  | 0, _ => by
    have e : N / 2 ^ (256 - 0) = 0 := Nat.div_eq_of_lt hN
    rw [e]
    exact ext4_zero
  | n + 1, hn => by
    have ih1 := ext4_nst h o N hN n (by omega)
    have hb := crvK.mul_bit o N (255 - n)
    have e1 : 256 - (n + 1) = 255 - n := by omega
    have e2 : 256 - n = 255 - n + 1 := by omega
    rw [e2] at ih1
    rw [e1, hb]
    have om := crvK.on_mul o (N / 2 ^ (255 - n + 1))
    by_cases hbit : N / 2 ^ (255 - n) % 2 = 1
    · rw [nst_one hbit, if_pos hbit]
      exact ext4_add (ext4_add ih1 ih1 om om) h (crvK.on_add om om) o
    · rw [nst_nil hbit, if_neg hbit]
      exact ext4_add ih1 ih1 om om
/-- The base, and that it is a point. -/
def baseK : KF × KF := (fn bxN, fn byN)
theorem on_base : On dK baseK := by
  show fn byN * fn byN - fn bxN * fn bxN = 1 + dK * (fn bxN * fn bxN) * (fn byN * fn byN)
  have hd : dK = fn dN := rfl
  rw [hd, ← fn_one, ← fn_mul, ← fn_mul, ← fn_sub, ← fn_mul, ← fn_mul, ← fn_add]
  congr 1
theorem ext4_base : Ext4 nB baseK := by
  have h := Ext.make crvK (fn bxN) (fn byN)
  rw [← fn_mul, ← fn_one] at h
  exact h
/-- So many times the base as the order tells is the zero. -/
theorem order_base : pMul dK ivK oN baseK = pZero := by
  have h := ext4_nst ext4_base on_base oN oN_lt 256 (by omega)
  rw [Nat.sub_self, Nat.pow_zero, Nat.div_one] at h
  obtain ⟨hx, hy⟩ := Ext.flat crvK h
  rw [nst_order.1, fn_zero] at hx
  rw [nst_order.2] at hy
  have hc := crvK.inv _ h.hc
  rw [hc] at hy
  apply Prod.ext
  · rw [← hx]
    show 0 * ivK (fn (nst nB oN 256).c) = (0 : KF)
    generalize ivK (fn (nst nB oN 256).c) = z
    grind
  · rw [← hy]; rfl
end
end Go.Proofs.YtihoaakbkffejaaGreatDoor
namespace Go.Proofs.YtihoaakbkffejaaGreatDoor
open Go.RowKit
set_option maxRecDepth 100000

theorem inv_ok (l : List Int) : feOk (invF l) = true := ok_red _

theorem infoPt : (Tryz.prog.info? 33).map (·.size) = some 2 := by kernel_rfl
end Go.Proofs.YtihoaakbkffejaaGreatDoor
namespace Go.Proofs.YtihoaakbkffejaaGreatDoor
open Go.RowKit
set_option maxRecDepth 100000

/-- Whether two lists are a point. -/
def ptOk (xs ys : List Int) : Bool := feOk xs && feOk ys && onB xs ys
theorem ptOk_iff (xs ys : List Int) : ptOk xs ys = true ↔ feOk xs = true ∧ feOk ys = true ∧ onB xs ys = true := by
 unfold ptOk
 simp only [Bool.and_eq_true, and_assoc]

end Go.Proofs.YtihoaakbkffejaaGreatDoor
namespace Go.Proofs.YtihoaakbkffejaaGreatDoor
open Go.RowKit
set_option maxRecDepth 100000
set_option maxHeartbeats 4000000
set_option linter.unusedSectionVars false

/-- Two lists as a pair of numbers of the field. -/
def pt (xs ys : List Int) : KF × KF := (fl xs, fl ys)
theorem pt_back (p : KF × KF) : pt (cx p.1) (cx p.2) = p := by unfold pt; rw [fl_cx, fl_cx]
theorem pt_cx {xs ys : List Int} (h : ptOk xs ys = true) : cx (pt xs ys).1 = xs ∧ cx (pt xs ys).2 = ys := by
  obtain ⟨h1, h2, _⟩ := (ptOk_iff xs ys).1 h
  exact ⟨cx_fl h1, cx_fl h2⟩
section
variable [NeZero pN]
theorem pt_on {xs ys : List Int} (h : ptOk xs ys = true) : On dK (pt xs ys) := (onB_iff xs ys).1 ((ptOk_iff xs ys).1 h).2.2
theorem pt_ok {p : KF × KF} (h : On dK p) : ptOk (cx p.1) (cx p.2) = true := by
  refine (ptOk_iff _ _).2 ⟨cx_ok _, cx_ok _, (onB_iff _ _).2 ?_⟩
  have := pt_back p
  unfold pt at this
  rw [this]
  exact h
theorem pt_add {xs ys us vs : List Int} (h : ptOk xs ys = true) (k : ptOk us vs = true) :
    flx (add6 (mk6 xs ys) (mk6 us vs)) = cx (pAdd dK ivK (pt xs ys) (pt us vs)).1 ∧ fly (add6 (mk6 xs ys) (mk6 us vs)) = cx (pAdd dK ivK (pt xs ys) (pt us vs)).2 :=
  ext6_flat (ext6_add (ext6_make xs ys) (ext6_make us vs) (pt_on h) (pt_on k))
theorem pt_neg (xs ys : List Int) : flx (neg6 (mk6 xs ys)) = cx (pNeg (pt xs ys)).1 ∧ fly (neg6 (mk6 xs ys)) = cx (pNeg (pt xs ys)).2 :=
  ext6_flat (ext6_neg (ext6_make xs ys))
theorem pt_mul {xs ys : List Int} (h : ptOk xs ys = true) (N : Nat) (hN : N < 2 ^ 256) :
    flx (mul6 (mk6 xs ys) N) = cx (pMul dK ivK N (pt xs ys)).1 ∧ fly (mul6 (mk6 xs ys) N) = cx (pMul dK ivK N (pt xs ys)).2 :=
  ext6_flat (ext6_mul (ext6_make xs ys) (pt_on h) N hN)
/-- A sum of multipliers, modulo the order, makes the sum of the base's multiples. -/
theorem mul_sum (j k : Nat) : pMul dK ivK ((j + k) % oN) baseK = pAdd dK ivK (pMul dK ivK j baseK) (pMul dK ivK k baseK) := by
  have C := crvK
  rw [← C.mul_add on_base j k]
  have hq : ∀ q, pMul dK ivK (oN * q) baseK = pZero := by
    intro q
    induction q with
    | zero => rfl
    | succ q ih => rw [Nat.mul_succ, C.mul_add on_base, ih, order_base, C.zero_add]
  have e : j + k = oN * ((j + k) / oN) + (j + k) % oN := (Nat.div_add_mod _ _).symm
  calc pMul dK ivK ((j + k) % oN) baseK = pAdd dK ivK (pMul dK ivK (oN * ((j + k) / oN)) baseK) (pMul dK ivK ((j + k) % oN) baseK) := by rw [hq, C.zero_add]
    _ = pMul dK ivK (oN * ((j + k) / oN) + (j + k) % oN) baseK := (C.mul_add on_base _ _).symm
    _ = _ := by rw [← e]
theorem one_nought (d y : KF) (h : 1 + d * (y * y) = 0) (hy : y = 0) : (1 : KF) = 0 := by
  have e : (1 : KF) = 0 - d * y * y := by grind
  have e2 : ∀ a b : KF, b = 0 → a - d * y * b = a := by intro a b hb; grind
  rw [e, e2 _ _ hy]
theorem sub_nought (a : KF) : a - a = 0 := by grind
/-- No two numbers but nought make nought. -/
theorem nz_K {a b : KF} (h : a * b = 0) : a = 0 ∨ b = 0 := by
  by_cases ha : a = 0
  · exact .inl ha
  · by_cases hb : b = 0
    · exact .inr hb
    · exact absurd h (crvK.nz_mul ha hb)
/-- A square has two roots. -/
theorem roots_K {a b : KF} (h : a * a = b * b) : a = b ∨ a = 0 - b := by
  have : (a - b) * (a + b) = 0 := by grind
  rcases nz_K this with h | h
  · exact .inl (by grind)
  · exact .inr (by grind)
/-- The opposite as a whole number. -/
theorem neg_val {b : KF} (h : b ≠ 0) : ((0 - b : KF).val : Int) = P25519 - (b.val : Int) := by
  have hb := cx_lt b
  have e : (0 - b : KF) = fe (P25519 - (b.val : Int)) := by
    rw [fe_sub, fe_back]
    have : fe P25519 = 0 := fe_nz.2 (Int.emod_self)
    rw [this]
  have hz : (b.val : Int) ≠ 0 := fun e => h (by rw [← fe_back b, e, fe_zero])
  rw [e, fe_val]
  exact Int.emod_eq_of_lt (by omega) (by omega)
/-- Of the two roots the last bit tells which. -/
theorem root_one {a b : KF} (h : a * a = b * b) (hp : (a.val : Int) % 2 = (b.val : Int) % 2) : a = b := by
  rcases roots_K h with h | h
  · exact h
  · by_cases hb : b = 0
    · rw [h, hb]; exact sub_nought 0
    · have := neg_val hb
      rw [← h] at this
      have : P25519 % 2 = 1 := by unfold P25519; decide
      omega
end
end Go.Proofs.YtihoaakbkffejaaGreatDoor
namespace Go.Proofs.YtihoaakbkffejaaGreatDoor
open Go.RowKit

def Apart (u v : Value) : Prop := ∀ k, u.ownBlock = some k → v.ownBlock ≠ some k
theorem Apart.symm {u v : Value} (h : Apart u v) : Apart v u := fun k hk he => h k he hk
theorem is_of_own {W : World} {B n c e : Nat} {a : Option Addr} {l : List Int} (h : W.ownsRow B e 1 (.slice a n c) n (I64 l)) (hby : ∀ x ∈ l, -9223372036854775808 ≤ x ∧ x ≤ 9223372036854775807) : Is W a n c l := by
  obtain ⟨a', c', e, _, hb⟩ := Is.own h hby
  simp only [Value.slice.injEq, true_and] at e
  obtain ⟨rfl, rfl⟩ := e
  exact hb
theorem bs_of_own {W : World} {B n c : Nat} {a : Option Addr} {l : List Int} (h : W.ownsRow B 5 1 (.slice a n c) n (U8 l)) (hby : ∀ x ∈ l, 0 ≤ x ∧ x < 256) : Bs W a n c l := by
  obtain ⟨a', c', e, _, hb⟩ := Bs.own h hby
  simp only [Value.slice.injEq, true_and] at e
  obtain ⟨rfl, rfl⟩ := e
  exact hb

theorem own_kept {W W' : World} {B n e s : Nat} {u v : Value} {l : List Value} (h : W.ownsRow B e s v n l) (hg : W.grownBy W' u.ownBlock) (ha : Apart u v) : W'.ownsRow B e s v n l := by
  refine h.kept hg ?_
  cases hv : v.ownBlock with
  | none => exact .inl rfl
  | some k => exact .inr (fun e => ha k e.symm hv)

/-- Where a row's block lies. -/
def In (v : Value) (lo hi : Nat) : Prop := ∀ k, v.ownBlock = some k → lo ≤ k ∧ k < hi
theorem In.of {W : World} {B e s n : Nat} {v : Value} {l : List Value} (h : W.ownsRow B e s v n l) : In v B W.heap.size := fun k hk => h.lt k hk
theorem In.apart {u v : Value} {a b c d : Nat} (h : In u a b) (h' : In v c d) (hl : b ≤ c ∨ d ≤ a) : Apart u v := fun k hk he => by
  have := h k hk
  have := h' k he
  omega
theorem In.ne {u : Value} {a b g : Nat} (h : In u a b) (hg : g < a ∨ b ≤ g) : u.ownBlock ≠ some g := fun he => by
  have := h g he
  omega
end Go.Proofs.YtihoaakbkffejaaGreatDoor
namespace Go.Proofs.YtihoaakbkffejaaGreatDoor
open Go.RowKit

/-- An answer that is a number of the field, in memory of its own, in a row of type ty. -/
def FeT (ty : TypeId) (w w' : World) (v : Value) (l : List Int) : Prop := ∃ a c, v = .agg #[.slice a l.length c] ∧ w'.ownsRow w.heap.size ty 1 (.slice a l.length c) l.length (I64 l)
theorem feT_nil (ty : TypeId) (w w' : World) : FeT ty w w' (.agg #[.slice none 0 0]) [] := ⟨none, 0, rfl, World.ownsRow_nil _ _ _ _⟩
theorem feT_16 {ty : TypeId} {w w' : World} {a : Option Addr} {c : Nat} {l : List Int} (hl : l.length = 16) (h : w'.ownsRow w.heap.size ty 1 (.slice a 16 c) 16 (I64 l)) : FeT ty w w' (.agg #[.slice a 16 c]) l := ⟨a, c, by rw [hl], by rw [hl]; exact h⟩
end Go.Proofs.YtihoaakbkffejaaGreatDoor
namespace Go.Proofs.YtihoaakbkffejaaGreatDoor
open Go.RowKit

end Go.Proofs.YtihoaakbkffejaaGreatDoor
namespace Go.Proofs.YtihoaakbkffejaaGreatDoor
open Go.RowKit



end Go.Proofs.YtihoaakbkffejaaGreatDoor
namespace Go.Proofs.YtihoaakbkffejaaGreatDoor
open Go.RowKit
set_option maxRecDepth 100000

theorem heap_setCells_other {g k : Nat} (hne : k ≠ g) : ∀ (vs : List Value) {w : World} (j : Nat), (w.setCells g j vs).heap[k]? = w.heap[k]?
  | [], _, _ => rfl
  | v :: vs, w, j => (heap_setCells_other hne vs (j + 1)).trans (heap_setCell_other w ⟨g, j, none⟩ k v hne)
theorem own_setCells {W : World} {lo e s n hi E : Nat} {v : Value} {xs : List Value} (h : W.ownsRow lo e s v n xs) (i : In v lo hi) (hE : E < lo ∨ hi ≤ E) (cs : List Value) : (W.setCells E 0 cs).ownsRow lo e s v n xs := by
  refine ⟨h.1, ?_⟩
  rcases h.2 with hn | ⟨g, cap, cur, rfl, hg, hgg, rest⟩
  · exact .inl hn
  · have h1 := i g rfl
    exact .inr ⟨g, cap, cur, rfl, hg, (heap_setCells_other (by omega) cs 0).trans hgg, rest⟩
end Go.Proofs.YtihoaakbkffejaaGreatDoor
namespace Go.Proofs.YtihoaakbkffejaaGreatDoor
open Go.RowKit
set_option maxRecDepth 100000

/-- A point that a call answers: two lists, each in new memory, apart. -/
def PtT (ty : TypeId) (w w' : World) (v : Value) (xs ys : List Int) : Prop := ∃ a c b d, v = .agg #[.slice a xs.length c, .slice b ys.length d] ∧ w'.ownsRow w.heap.size ty 1 (.slice a xs.length c) xs.length (I64 xs) ∧ w'.ownsRow w.heap.size ty 1 (.slice b ys.length d) ys.length (I64 ys) ∧ Apart (.slice a xs.length c) (.slice b ys.length d)
theorem ptT_nil (ty : TypeId) (w w' : World) : PtT ty w w' (.agg #[.slice none 0 0, .slice none 0 0]) [] [] := ⟨none, 0, none, 0, rfl, World.ownsRow_nil _ _ _ _, World.ownsRow_nil _ _ _ _, fun k hk => by cases hk⟩
theorem ptT_16 {ty : TypeId} {w w' : World} {a b : Option Addr} {c d : Nat} {xs ys : List Int} (hx : xs.length = 16) (hy : ys.length = 16) (h : w'.ownsRow w.heap.size ty 1 (.slice a 16 c) 16 (I64 xs)) (h' : w'.ownsRow w.heap.size ty 1 (.slice b 16 d) 16 (I64 ys)) (hA : Apart (.slice a 16 c) (.slice b 16 d)) : PtT ty w w' (.agg #[.slice a 16 c, .slice b 16 d]) xs ys := ⟨a, c, b, d, by rw [hx, hy], by rw [hx]; exact h, by rw [hy]; exact h', by rw [hx, hy]; exact hA⟩
theorem build_pt (u v : Value) (w : World) : (Instr.build 33 #[(0, .agg #[u]), (1, .agg #[v])]).run Tryz.prog w = .ok (.agg #[u, v]) w := by kernel_rfl
theorem yieldsIf_pt {ops : Array Oper} {S : World → Prop} {op : Oper} {act : Act} (hw : Region.wanted op (yielded ops act.tmps) = true) (x y : Operand) (ho : op.op = .build 33 #[(0, x), (1, y)]) (u v : Value) (hx : act.eval x = .agg #[u]) (hy : act.eval y = .agg #[v]) : YieldsIf Tryz.prog ops S op (.agg #[u, v]) act :=
  .inl ⟨hw, fun w _ => by
    unfold execOp
    simp only [ho, hx, hy, Sem.run_bind, List.map_toArray, List.map_cons, List.map_nil, build_pt u v w, Sem.run_pure, Result.andThen_ok]⟩
end Go.Proofs.YtihoaakbkffejaaGreatDoor
namespace Go.Proofs.YtihoaakbkffejaaGreatDoor
open Go.RowKit
set_option maxRecDepth 100000

/-- The lists of an answer, where there is one. -/
def ptx (ok : Bool) (R : E4) : List Int := if ok = true then flx R else []
def pty (ok : Bool) (R : E4) : List Int := if ok = true then fly R else []
theorem own_rowM {W : World} {lo e s n hi E : Nat} {v : Value} {xs : List Value} (h : W.ownsRow lo e s v n xs) (i : In v lo hi) (hE : E < lo ∨ hi ≤ E) (cs : Array Value) : (W.setRow E cs).ownsRow lo e s v n xs := by
  refine ⟨h.1, ?_⟩
  rcases h.2 with hn | ⟨g, cap, cur, rfl, hg, hgg, rest⟩
  · exact .inl hn
  · have := i g rfl
    exact .inr ⟨g, cap, cur, rfl, hg, (setRow_other W E g cs (by omega)).trans hgg, rest⟩
end Go.Proofs.YtihoaakbkffejaaGreatDoor
namespace Go.Proofs.YtihoaakbkffejaaGreatDoor
open Go.RowKit

theorem own_same {A B : World} {b e s m : Nat} {g cap : Nat} {xs : List Value} (h : A.ownsRow b e s (.slice (some ⟨g, 0, none⟩) m cap) m xs) (hs : B.heap[g]? = A.heap[g]?) : B.ownsRow b e s (.slice (some ⟨g, 0, none⟩) m cap) m xs := by
  refine ⟨h.1, ?_⟩
  rcases h.2 with ⟨hn, _⟩ | ⟨g', cap', cur, he, hb, hg, rest⟩
  · cases hn
  · cases he
    exact .inr ⟨g, cap, cur, rfl, hb, hs.trans hg, rest⟩
theorem own_cell {A : World} {b e m : Nat} {g cap : Nat} {K : IntKind} {l : List Int} (h : A.ownsRow b e 1 (.slice (some ⟨g, 0, none⟩) m cap) m (l.map (Value.int K))) (j : Nat) (hj : j < l.length) : A.cell? ⟨g, j, none⟩ = some (.int K (l.getD j 0)) := by
  have hl : l.length = m := by simpa using h.1
  rcases h.2 with ⟨hn, _⟩ | ⟨g', cap', cur, he, hb, hg, h1, h2, h3, h4⟩
  · cases hn
  · cases he
    rw [cell_of_row A g j _ e _ hg]
    have e1 : cur.toList[j]? = (l.map (Value.int K))[j]? := by
      rw [← h4, List.getElem?_take]
      simp [show j < m by omega]
    rw [← Array.getElem?_toList, e1]
    simp [hj]
theorem own_cap {A : World} {b e s m : Nat} {g cap : Nat} {xs : List Value} (h : A.ownsRow b e s (.slice (some ⟨g, 0, none⟩) m cap) m xs) : m ≤ cap ∧ cap ≤ maxLen ∧ b ≤ g ∧ g < A.heap.size := by
  have hlt := h.lt g rfl
  rcases h.2 with ⟨hn, _⟩ | ⟨g', cap', cur, he, hb, hg, h1, h2, _⟩
  · cases hn
  · cases he
    exact ⟨h1, h2, hlt⟩
theorem own_of_arr {A : World} {b e g m : Nat} {xs : List Value} (h : Arr A g e xs) (hl : xs.length = m) (hb : b ≤ g) (hm : m ≤ maxLen) : A.ownsRow b e 1 (.slice (some ⟨g, 0, none⟩) m m) m xs := by
  subst hl
  exact ⟨by simp, .inr ⟨g, _, _, rfl, hb, h, Nat.le_refl _, hm, by simp, by simp⟩⟩
theorem grown_below {A B : World} (hb : Below A.heap.size A B) (r : Option Nat) : A.grownBy B r := ⟨hb.os, hb.tape, hb.output, hb.size, fun i hi _ => hb.block i hi⟩
theorem app_J {J : Nat → Nat → World → Prop} (hJ : ∀ k g g' A B, J k g A → A.grownBy B (some g) → (g' = g ∨ A.heap.size ≤ g') → J k g' B) {k g gg : Nat} {A B : World} {o : Obj} (h : J k g A) (hg : (A.alloc o).grownBy B (some g)) (hat : some g = some gg ∨ gg = A.heap.size + 1) : J k gg B := by
  refine hJ k g gg (A.alloc o) B (hJ k g g A _ h (grown_below ((Below.refl _ _).alloc (Nat.le_refl _) _) _) (.inl rfl)) hg ?_
  rcases hat with e | e
  · left; cases e; rfl
  · right; simp [e]
end Go.Proofs.YtihoaakbkffejaaGreatDoor
namespace Go.Proofs.YtihoaakbkffejaaGreatDoor
open Go.RowKit

theorem own_at {W : World} {b e g n cap : Nat} {xs : List Value} (h : W.ownsRow b e 1 (.slice (some ⟨g, 0, none⟩) n cap) n xs) (j : Nat) (u : Value) : (W.setCell ⟨g, j, none⟩ u).ownsRow b e 1 (.slice (some ⟨g, 0, none⟩) n cap) n (xs.set j u) := by
  refine ⟨by simpa using h.1, ?_⟩
  rcases h.2 with ⟨hn, _⟩ | ⟨g', cap', cur, he, hg, hgg, h1, h2, h3, h4⟩
  · cases hn
  · cases he
    exact .inr ⟨g, cap, cur.setIfInBounds j u, rfl, hg, heap_setCell_same W g j cur e u hgg, h1, h2, by simpa using h3, by rw [Array.toList_setIfInBounds, List.take_set, h4]⟩
end Go.Proofs.YtihoaakbkffejaaGreatDoor
