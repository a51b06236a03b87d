/-
  What is proved here: what the lists of the specification stand for: numbers of the field, points in the long form, the curve; no program is spoken of; contracts of the specification's l6zero and l6base; plain mathematics on numbers modulo the order of the base: its parts, what is brought below it, bits of a number in parts; no program is spoken of, no condition; the contract of the specification's l6mul: so many times a point, by doubling and adding; what the specification makes of a multiplier and a point is so many times the point; no program is spoken of; the base is a point, and so many times the base as the order tells is the zero, reckoned by the kernel; no program is spoken of; the laws of the points in lists: what is a point, sums, opposites, multiples, a multiplier and one more; squares have two roots, and the last bit tells them apart; no program is spoken of; sums and doubles of points as the program makes them in the long form stand for the sum of the points; no program is spoken of; what the program makes of points in its own long form are the specification's lists; no program is spoken of; the contract of the specification's PtZero; contracts of the program's method below on limbs: which of two numbers is less; contracts of the program's methods plus, minus and lessOnce on limbs; contracts of the program's methods fieldSum and fieldDifference: the sum and the difference of two numbers of the field; where the program's variable holds the prime; the contract of the program's method times on limbs: the columns of a product; contracts of the program's methods fieldSettled and fieldProduct: limbs that may be great come to the number modulo 2^255 - 19; the product of two numbers of the field; where the program's variable holds the prime; a point in the program's long form as it lies in memory: how it is built, read, laid and handed through an interface; plain facts on the program's tables; contracts of the program's fieldOpposite, longPointAt and longPointOf; where its variable holds the prime; the contract of the program's method list on limbs; contracts of the program's methods bit, fieldSquares (and of the function that it makes) and fieldPower: a power of a number of the field; where the program's variable holds the prime; the contract of the program's fieldInverse; when two arrays of limbs are equal; where the program's variable holds the prime; contracts of the program's pointOf and pointClosed: a point as two lists of its own; where its variable holds the prime; the contract of the program's PtZero.
-/
import Derived.Test.YtoblilngppjmhaaZUg
import Derived.Test.YtoblilngppjmhaaZYc
import Derived.Test.YtoblilngppjmhaaZKit
import Derived.Laws.BitsLemmas
import Derived.Test.YtoblilngppjmhaaZFnb
import Derived.Test.YtoblilngppjmhaaZFsc
import Derived.Deep.CutRange
namespace Go.Proofs.Ytoblilngppjmhaa
open Go.RowKit
set_option maxRecDepth 100000
set_option maxHeartbeats 4000000
set_option linter.unusedSectionVars false

/-- A list as a number of the field. -/
def fl (l : List Int) : KF := fe (val l)
theorem fl_red (x : Int) : fl (red x) = fe x := by unfold fl; rw [val_red, fe_mod]
theorem fl_inj {a b : List Int} (ha : feOk a = true) (hb : feOk b = true) (h : fl a = fl b) : a = b := by
  obtain ⟨a1, a2, a3⟩ := (feOk_iff a).1 ha
  obtain ⟨b1, b2, b3⟩ := (feOk_iff b).1 hb
  have na := val_nonneg (fun x hx => (a2 x hx).1)
  have nb := val_nonneg (fun x hx => (b2 x hx).1)
  have e := fe_eq.1 h
  rw [Int.emod_eq_of_lt na a3, Int.emod_eq_of_lt nb b3] at e
  have la := lim_val a a2
  have lb := lim_val b b2
  rw [a1] at la
  rw [b1] at lb
  rw [← la, ← lb, e]
/-- The list of a number of the field. -/
def cx (k : KF) : List Int := lim 16 (k.val : Int)
theorem cx_lt (k : KF) : 0 ≤ (k.val : Int) ∧ (k.val : Int) < P25519 := ⟨Int.natCast_nonneg _, by rw [← pN_int]; exact Int.ofNat_lt.2 k.isLt⟩
theorem cx_val (k : KF) : val (cx k) = (k.val : Int) := by
  have h := cx_lt k
  unfold cx
  rw [val_lim, p256]
  have h2 := h.2
  unfold P25519 at h2
  exact Int.emod_eq_of_lt h.1 (Int.lt_trans h2 (by decide))
theorem cx_ok (k : KF) : feOk (cx k) = true := (feOk_iff _).2 ⟨lim_len _ _, lim_lm _ _, by rw [cx_val]; exact (cx_lt k).2⟩
theorem fl_cx (k : KF) : fl (cx k) = k := by unfold fl; rw [cx_val, fe_back]
theorem cx_fl {l : List Int} (h : feOk l = true) : cx (fl l) = l := fl_inj (cx_ok _) h (fl_cx _)
section
variable [NeZero pN]
theorem fl_one : fl (lim 16 1) = 1 := by
  have h : val (lim 16 1) = 1 := by decide
  unfold fl; rw [h, fe_one]
theorem fl_mul (x y : List Int) : fl (red (val x * val y)) = fl x * fl y := by rw [fl_red, fe_mul]; rfl
theorem fl_inv (c : List Int) : fl (invF c) = ivK (fl c) := by
  unfold invF
  rw [fl_red]
  exact (ivK_fe (val c)).symm
/-- What a point in the long form stands for. -/
def Ext6 (P : E4) (p : KF × KF) : Prop := Ext (fl P.a) (fl P.b) (fl P.c) (fl P.t) p
theorem ext6_make (x y : List Int) : Ext6 (mk6 x y) (fl x, fl y) := by
  have h := Ext.make crvK (fl x) (fl y)
  unfold Ext6
  show Ext (fl x) (fl y) (fl (lim 16 1)) (fl (red (val x * val y))) _
  rw [fl_one, fl_mul]
  exact h
theorem ext6_flat {P : E4} {p : KF × KF} (h : Ext6 P p) : flx P = cx p.1 ∧ fly P = cx p.2 := by
  have hf := Ext.flat crvK h
  constructor
  · refine fl_inj (ok_red _) (cx_ok _) ?_
    unfold flx
    rw [fl_mul, fl_inv, fl_cx]; exact hf.1
  · refine fl_inj (ok_red _) (cx_ok _) ?_
    unfold fly
    rw [fl_mul, fl_inv, fl_cx]; exact hf.2
end
end Go.Proofs.Ytoblilngppjmhaa
namespace Go.Proofs.Ytoblilngppjmhaa
open Go.RowKit
set_option maxRecDepth 100000

def zero6 : E4 := mk6 (lim 16 0) (lim 16 1)
theorem zero6_ok : zero6.Ok := mk6_ok zero_ok one_ok
set_option maxHeartbeats 1000000 in
theorem spec6zero (w : World) : Calls Try.prog 10 #[] w fun e w' => e = .returned (.agg (I64 zero6.cells).toArray) ∧ Below w.heap.size w w' := by
  have H0 : Hid (∀ Z, Calls Try.prog 18 #[.int .i64 0] Z fun e w' => e = .returned (.agg (I64 (lim 16 0)).toArray) ∧ Below Z.heap.size Z w') := by
    unfold Hid; intro Z; exact specSmall 0 Z (by omega) (by omega)
  have H1 : Hid (∀ Z, Calls Try.prog 18 #[.int .i64 1] Z fun e w' => e = .returned (.agg (I64 (lim 16 1)).toArray) ∧ Below Z.heap.size Z w') := by
    unfold Hid; intro Z; exact specSmall 1 Z (by omega) (by omega)
  have HM : Hid (∀ Z, Calls Try.prog 17 #[.agg (I64 (lim 16 0)).toArray, .agg (I64 (lim 16 1)).toArray] Z fun e w' => e = .returned (.agg (I64 zero6.cells).toArray) ∧ Below Z.heap.size Z w') := by
    unfold Hid; intro Z; exact spec6make (lim 16 0) (lim 16 1) Z zero_ok one_ok
  have hP := zero6_ok
  have hPl := E4.len hP
  obtain ⟨P, hPe⟩ : ∃ P, P = zero6 := ⟨_, rfl⟩
  obtain ⟨x, hx⟩ : ∃ x, x = lim 16 0 := ⟨_, rfl⟩
  obtain ⟨y, hy⟩ : ∃ y, y = lim 16 1 := ⟨_, rfl⟩
  rw [← hPe] at HM hP hPl ⊢
  rw [← hx] at H0 HM
  rw [← hy] at H1 HM
  have hip := infoP' hP
  obtain ⟨W, hW⟩ : ∃ W, W = w.alloc (.cells #[.int .i64 0, .int .i64 0, .int .i64 0, .int .i64 0, .int .i64 0, .int .i64 0, .int .i64 0, .int .i64 0, .int .i64 0, .int .i64 0, .int .i64 0, .int .i64 0, .int .i64 0, .int .i64 0, .int .i64 0, .int .i64 0, .int .i64 0, .int .i64 0, .int .i64 0, .int .i64 0, .int .i64 0, .int .i64 0, .int .i64 0, .int .i64 0, .int .i64 0, .int .i64 0, .int .i64 0, .int .i64 0, .int .i64 0, .int .i64 0, .int .i64 0, .int .i64 0, .int .i64 0, .int .i64 0, .int .i64 0, .int .i64 0, .int .i64 0, .int .i64 0, .int .i64 0, .int .i64 0, .int .i64 0, .int .i64 0, .int .i64 0, .int .i64 0, .int .i64 0, .int .i64 0, .int .i64 0, .int .i64 0, .int .i64 0, .int .i64 0, .int .i64 0, .int .i64 0, .int .i64 0, .int .i64 0, .int .i64 0, .int .i64 0, .int .i64 0, .int .i64 0, .int .i64 0, .int .i64 0, .int .i64 0, .int .i64 0, .int .i64 0, .int .i64 0] 35) := ⟨_, rfl⟩
  have fr : Below w.heap.size w W := by rw [hW]; exact (Below.refl _ _).alloc (Nat.le_refl _) _
  have pr : Arr W w.heap.size 35 (I64 Z64) := by rw [hW]; exact Arr.new w (I64 Z64) _
  clear hPe hx hy
  go_enter Try.func10, Try.ntmps10
  go_wp2_with fail
  rw [← hW]
  clear hW
  refine (H0.out _).mono ?_
  rintro e y1 ⟨rfl, hb1⟩
  replace fr := fr.trans (hb1.mono fr.size)
  replace pr := pr.kept hb1
  clear hb1
  go_wp2_with fail
  refine (H1.out _).mono ?_
  rintro e y2 ⟨rfl, hb2⟩
  replace fr := fr.trans (hb2.mono fr.size)
  replace pr := pr.kept hb2
  clear hb2
  go_wp2_with fail
  refine (HM.out _).mono ?_
  rintro e y3 ⟨rfl, hb3⟩
  replace fr := fr.trans (hb3.mono fr.size)
  replace pr := pr.kept hb3
  clear hb3
  have h2 := pr.row (I64 P.cells)
  have HB : Hid _ := setRow_below fr w.heap.size (I64 P.cells).toArray (Nat.le_refl _)
  go_wp2_with (refine wpList_store_row rfl 35 _ _ rfl w.heap.size (I64 P.cells).toArray rfl rfl 35 _ pr hip (by simp [hPl]) (by simp [Value.oneCell']) ?_)
  exact bodyPost_ret (results_cell_row rfl _ _ w.heap.size 35 (I64 P.cells).toArray (0, 0) _ rfl h2 Try.underlying35 rfl hip) rfl ⟨rfl, HB.out⟩

end Go.Proofs.Ytoblilngppjmhaa
namespace Go.Proofs.Ytoblilngppjmhaa
open Go.RowKit
set_option maxRecDepth 100000

end Go.Proofs.Ytoblilngppjmhaa
namespace Go.Proofs.Ytoblilngppjmhaa
open Go.RowKit
set_option maxRecDepth 100000

/-- What lies there while the bits are gone through. -/
structure ML (w W : World) (X : Nat) (P : E4) (k : List Int) (R : E4) : Prop where
  fr : Below w.heap.size w W
  pa : Arr W w.heap.size 35 (I64 P.cells)
  pk : Arr W (w.heap.size + 1) 33 (I64 k)
  pr : Arr W (w.heap.size + 2) 35 (I64 Z64)
  px : Arr W X 35 (I64 R.cells)
theorem ML.go {w A B : World} {X : Nat} {P R : E4} {k : List Int} (h : ML w A X P k R) (hb : Below A.heap.size A B) : ML w B X P k R := ⟨h.fr.trans (hb.mono h.fr.size), h.pa.kept hb, h.pk.kept hb, h.pr.kept hb, h.px.kept hb⟩
theorem ML.put {w A : World} {X : Nat} {P R : E4} {k : List Int} (h : ML w A X P k R) (hX : w.heap.size + 2 < X) (S : E4) : ML w (A.setRow X (I64 S.cells).toArray) X P k S :=
  ⟨setRow_below h.fr _ _ (by omega), h.pa.rowOther _ _ (by omega), h.pk.rowOther _ _ (by omega), h.pr.rowOther _ _ (by omega), h.px.row _⟩

end Go.Proofs.Ytoblilngppjmhaa
namespace Go.Proofs.Ytoblilngppjmhaa
open Go.RowKit
set_option maxRecDepth 100000
set_option maxHeartbeats 4000000
set_option linter.unusedSectionVars false

section
variable [NeZero pN]
end
end Go.Proofs.Ytoblilngppjmhaa
namespace Go.Proofs.Ytoblilngppjmhaa
set_option maxRecDepth 100000
set_option maxHeartbeats 400000
set_option linter.unusedSectionVars false

def na (x y : Nat) : Nat := (x + y) % pN
/-- A plain number as one of the field. -/
def fn (x : Nat) : KF := fe (x : Int)
section
variable [NeZero pN]
end
end Go.Proofs.Ytoblilngppjmhaa
namespace Go.Proofs.Ytoblilngppjmhaa
open Go.RowKit
set_option maxRecDepth 100000
set_option maxHeartbeats 4000000
set_option linter.unusedSectionVars false

section
variable [NeZero pN]
end
end Go.Proofs.Ytoblilngppjmhaa
namespace Go.Proofs.Ytoblilngppjmhaa
open Go.RowKit
set_option maxRecDepth 100000
set_option maxHeartbeats 4000000
set_option linter.unusedSectionVars false

section
variable {p : Nat} [NeZero p] {d i : Fin p} {iv : Fin p → Fin p}
theorem jn2 {f v : Fin p} (hv : f * v = 1) (k b g : Fin p) : k * b * (k * g) = b * v * (k * f * (k * g)) := by grind
/-- Four numbers that are so many times the two sums and the two divisors of a sum stand for it. -/
theorem Ext.long (C : Crv d i iv) {P Q : Fin p × Fin p} (o1 : On d P) (o2 : On d Q) {k F K H G : Fin p} (hk : k ≠ 0) (hF : F = k * (P.1 * Q.2 + P.2 * Q.1)) (hK : K = k * (P.2 * Q.2 + P.1 * Q.1))
    (hH : H = k * (1 + d * (P.1 * Q.1 * P.2 * Q.2))) (hG : G = k * (1 - d * (P.1 * Q.1 * P.2 * Q.2))) : Ext (F * G) (K * H) (G * H) (F * K) (pAdd d iv P Q) := by
  obtain ⟨x1, y1⟩ := P
  obtain ⟨x2, y2⟩ := Q
  have hn := C.ne o1 o2
  have hu := C.inv _ hn.1
  have hv := C.inv _ hn.2
  simp only at hF hK hH hG
  have hz : G * H ≠ 0 := by
    rw [hG, hH]
    exact C.nz_mul (C.nz_mul hk hn.2) (C.nz_mul hk hn.1)
  clear hn o1 o2
  simp only [pAdd]
  generalize iv (1 + d * (x1 * x2 * y1 * y2)) = u at *
  generalize iv (1 - d * (x1 * x2 * y1 * y2)) = v at *
  refine ⟨?_, ?_, ?_, hz⟩
  · rw [hF, hG, hH]; exact ext1 hu _ _ _
  · rw [hK, hG, hH]; exact jn2 hv _ _ _
  · rw [hF, hK, hG, hH]; exact ext3 hu hv _ _ _
end
section
variable [NeZero pN]
end
section
variable [NeZero pN]
end
end Go.Proofs.Ytoblilngppjmhaa
namespace Go.Proofs.Ytoblilngppjmhaa
open Go.RowKit
set_option maxRecDepth 100000
set_option maxHeartbeats 4000000

theorem flat_mk {x y : List Int} (hx : feOk x = true) (hy : feOk y = true) : flx (mk6 x y) = x ∧ fly (mk6 x y) = y := by
  haveI := nzP
  obtain ⟨h1, h2⟩ := ext6_flat (ext6_make x y)
  exact ⟨h1.trans (cx_fl hx), h2.trans (cx_fl hy)⟩
end Go.Proofs.Ytoblilngppjmhaa
namespace Go.Proofs.Ytoblilngppjmhaa
open Go.RowKit
set_option maxRecDepth 100000

set_option maxHeartbeats 4000000 in
theorem specPtZero (w : World) :
    Calls Try.prog 4 #[] w fun e w' => ∃ v, e = .returned v ∧ PtT 3 w w' v (lim 16 0) (lim 16 1) ∧ Below w.heap.size w w' := by
  have HM : Hid (∀ Z, Calls Try.prog 10 #[] Z fun e w' => e = .returned (.agg (I64 zero6.cells).toArray) ∧ Below Z.heap.size Z w') := by
    unfold Hid; intro Z; exact spec6zero Z
  have HC : Hid (∀ Z, Calls Try.prog 9 #[.agg (I64 zero6.cells).toArray] Z fun e w' => ∃ v, e = .returned v ∧ PtT 3 Z w' v (lim 16 0) (lim 16 1) ∧ Below Z.heap.size Z w') := by
    unfold Hid; intro Z; have h := spec6out zero6 Z zero6_ok; have k := flat_mk zero_ok one_ok; rw [show flx zero6 = lim 16 0 from k.1, show fly zero6 = lim 16 1 from k.2] at h; exact h
  obtain ⟨x, ex⟩ : ∃ x, x = lim 16 0 := ⟨_, rfl⟩
  obtain ⟨y, ey⟩ : ∃ y, y = lim 16 1 := ⟨_, rfl⟩
  have nx : x.length = 16 := by rw [ex]; rfl
  have ny : y.length = 16 := by rw [ey]; rfl
  rw [← ex, ← ey] at HC ⊢
  obtain ⟨P, hPe⟩ : ∃ P, P = zero6 := ⟨_, rfl⟩
  rw [← hPe] at HM HC
  clear ex ey hPe
  obtain ⟨W, hW⟩ : ∃ W, W = w.alloc (.cells #[.slice none 0 0, .slice none 0 0] 26) := ⟨_, rfl⟩
  have fr : Below w.heap.size w W := by rw [hW]; exact ((Below.refl _ _).alloc (Nat.le_refl _) _)
  have pr : Arr W w.heap.size 26 ([.slice none 0 0, .slice none 0 0]) := by
    rw [hW]
    have := Arr.new (w) ([.slice none 0 0, .slice none 0 0]) 26
    exact this
  go_enter Try.func4, Try.ntmps4
  go_upto_region 1 with fail
  rw [← hW]
  clear hW
  go_wp2_with fail
  refine (HM.out _).mono ?_
  rintro e y1 ⟨rfl, hb1⟩
  replace fr := fr.trans (hb1.mono fr.size)
  replace pr := pr.kept hb1
  clear hb1
  go_wp2_with fail
  have hl : w.heap.size < y1.heap.size := pr.lt
  refine (HC.out _).mono ?_
  rintro e y2 ⟨v, rfl, hpt, hb2⟩
  replace fr := fr.trans (hb2.mono fr.size)
  replace pr := pr.kept hb2
  clear hb2
  obtain ⟨aa, ca, ab, cb, rfl, oa, ob, hap⟩ := hpt
  rw [nx, ny] at hap ⊢
  rw [nx] at oa
  rw [ny] at ob
  have ia := In.of oa
  have ib := In.of ob
  have HB : Hid _ := setRow_below fr w.heap.size ([.slice aa 16 ca, .slice ab 16 cb]).toArray (by omega)
  have h2 := pr.row ([.slice aa 16 ca, .slice ab 16 cb])
  have oa2 := own_rowM oa ia (.inl hl) ([.slice aa 16 ca, .slice ab 16 cb]).toArray
  have ob2 := own_rowM ob ib (.inl hl) ([.slice aa 16 ca, .slice ab 16 cb]).toArray
  go_wp2_with (refine wpList_store_row rfl 26 _ _ rfl w.heap.size ([Value.slice aa 16 ca,  Value.slice ab 16 cb]).toArray rfl rfl 26 _ pr infoPt rfl (by simp [Value.oneCell']) ?_)
  exact bodyPost_ret (results_cell_row rfl _ _ w.heap.size 26 #[.slice aa 16 ca, .slice ab 16 cb] (0, 0) _ rfl h2 Try.underlying26 rfl infoPt) rfl ⟨_, rfl, ptT_16 nx ny (own_base oa2 (by omega)) (own_base ob2 (by omega)) hap, HB.out⟩

end Go.Proofs.Ytoblilngppjmhaa
namespace Go.Proofs.Ytoblilngppjmhaa
open Go.RowKit
set_option maxRecDepth 100000

end Go.Proofs.Ytoblilngppjmhaa
namespace Go.Proofs.Ytoblilngppjmhaa
open Go.RowKit
set_option maxRecDepth 100000

/-- Limbs that are read and the result's cell, through whatever keeps what is there. -/
structure L3 (w W : World) (a b : List Int) : Prop where
  fr : Below w.heap.size w W
  pa : Arr W w.heap.size 38 (I64 a)
  pb : Arr W (w.heap.size + 1) 38 (I64 b)
  pr : Arr W (w.heap.size + 2) 38 (I64 Z16)
theorem L3.go {w A B : World} {a b : List Int} (h : L3 w A a b) (hb : Below A.heap.size A B) : L3 w B a b := ⟨h.fr.trans (hb.mono h.fr.size), h.pa.kept hb, h.pb.kept hb, h.pr.kept hb⟩
theorem L3.new (w : World) (a b : List Int) : L3 w (((w.alloc (.cells (I64 a).toArray 38)).alloc (.cells (I64 b).toArray 38)).alloc (.cells (I64 Z16).toArray 38)) a b := by
  refine ⟨(((Below.refl _ _).alloc (Nat.le_refl _) _).alloc (by simp) _).alloc (by simp; omega) _, ((Arr.new w (I64 a) _).alloc _).alloc _, ?_, ?_⟩
  · have := (Arr.new (w.alloc (.cells (I64 a).toArray 38)) (I64 b) 38).alloc (.cells (I64 Z16).toArray 38)
    rw [World.size_alloc] at this
    exact this
  · have := Arr.new ((w.alloc (.cells (I64 a).toArray 38)).alloc (.cells (I64 b).toArray 38)) (I64 Z16) 38
    rw [World.size_alloc, World.size_alloc] at this
    exact this

end Go.Proofs.Ytoblilngppjmhaa
namespace Go.Proofs.Ytoblilngppjmhaa
open Go.RowKit
set_option maxRecDepth 100000

/-- Limbs that are read, the result's cell, and the program's prime. -/
structure L4 (w W : World) (a b : List Int) : Prop where
  l3 : L3 w W a b
  vr : Vr W 0 (I64 PL)
  g0 : 0 < w.heap.size
theorem L4.go {w A B : World} {a b : List Int} (h : L4 w A a b) (hb : Below A.heap.size A B) : L4 w B a b := ⟨h.l3.go hb, h.vr.kept hb, h.g0⟩
theorem L4.all {w W : World} {a b : List Int} (h : L4 w W a b) : W.rangeAt w.heap.size 0 (I64 a) ∧ W.rangeAt (w.heap.size + 1) 0 (I64 b) ∧ W.rangeAt 0 0 (I64 PL) := ⟨arr_range h.l3.pa, arr_range h.l3.pb, vr_range h.vr⟩
theorem L4.new {w : World} (a b : List Int) (h : Vr w 0 (I64 PL)) : L4 w (((w.alloc (.cells (I64 a).toArray 38)).alloc (.cells (I64 b).toArray 38)).alloc (.cells (I64 Z16).toArray 38)) a b :=
  ⟨L3.new w a b, h.kept (L3.new w a b).fr, h.lt⟩
/-- The result is stored. -/
theorem L4.put {w W : World} {a b R : List Int} (h : L4 w W a b) (hR : R.length = 16) : Arr (W.setCells (w.heap.size + 1 + 1) 0 (I64 R)) (w.heap.size + 1 + 1) 38 (I64 R) ∧ Below w.heap.size w (W.setCells (w.heap.size + 1 + 1) 0 (I64 R)) ∧
    ((W.setCells (w.heap.size + 1 + 1) 0 (I64 R)).rangeAt w.heap.size 0 (I64 a) ∧ (W.setCells (w.heap.size + 1 + 1) 0 (I64 R)).rangeAt (w.heap.size + 1) 0 (I64 b) ∧ (W.setCells (w.heap.size + 1 + 1) 0 (I64 R)).rangeAt 0 0 (I64 PL)) ∧ W.there (w.heap.size + 1 + 1) 0 (I64 R).toArray.size := by
  have hg := h.l3.pa.lt
  have h0 : 0 ≠ w.heap.size + 1 + 1 := by have := h.g0; omega
  exact ⟨Arr.setCells0 h.l3.pr (by simp [hR]), setCells_below (by omega) _ _ h.l3.fr, ⟨arr_range (Arr.setCellsO (by omega) _ _ h.l3.pa), arr_range (Arr.setCellsO (by omega) _ _ h.l3.pb), vr_range (Vr.setCellsO h0 h.vr)⟩, by have := arr_there h.l3.pr; simpa [hR] using this⟩
end Go.Proofs.Ytoblilngppjmhaa
namespace Go.Proofs.Ytoblilngppjmhaa
open Go.RowKit
set_option maxRecDepth 100000

end Go.Proofs.Ytoblilngppjmhaa
namespace Go.Proofs.Ytoblilngppjmhaa
open Go.RowKit
set_option maxRecDepth 100000

/-- Limbs that are turned, the result's cell, and the program's prime. -/
structure L2 (w W : World) (a : List Int) : Prop where
  fr : Below w.heap.size w W
  pa : Arr W w.heap.size 38 (I64 a)
  pr : Arr W (w.heap.size + 1) 38 (I64 Z16)
  vr : Vr W 0 (I64 PL)
  g0 : 0 < w.heap.size
theorem L2.go {w A B : World} {a : List Int} (h : L2 w A a) (hb : Below A.heap.size A B) : L2 w B a := ⟨h.fr.trans (hb.mono h.fr.size), h.pa.kept hb, h.pr.kept hb, h.vr.kept hb, h.g0⟩
theorem L2.all {w W : World} {a : List Int} (h : L2 w W a) : W.rangeAt w.heap.size 0 (I64 a) ∧ W.rangeAt 0 0 (I64 PL) := ⟨arr_range h.pa, vr_range h.vr⟩
theorem L2.new {w : World} (a : List Int) (h : Vr w 0 (I64 PL)) : L2 w ((w.alloc (.cells (I64 a).toArray 38)).alloc (.cells (I64 Z16).toArray 38)) a := by
  have hb : Below w.heap.size w ((w.alloc (.cells (I64 a).toArray 38)).alloc (.cells (I64 Z16).toArray 38)) := ((Below.refl _ _).alloc (Nat.le_refl _) _).alloc (by simp) _
  refine ⟨hb, (Arr.new w (I64 a) _).alloc _, ?_, h.kept hb, h.lt⟩
  have := Arr.new (w.alloc (.cells (I64 a).toArray 38)) (I64 Z16) 38
  rw [World.size_alloc] at this
  exact this
/-- The result is stored. -/
theorem L2.put {w W : World} {a R : List Int} (h : L2 w W a) (hR : R.length = 16) : Arr (W.setCells (w.heap.size + 1) 0 (I64 R)) (w.heap.size + 1) 38 (I64 R) ∧ Below w.heap.size w (W.setCells (w.heap.size + 1) 0 (I64 R)) ∧
    ((W.setCells (w.heap.size + 1) 0 (I64 R)).rangeAt w.heap.size 0 (I64 a) ∧ (W.setCells (w.heap.size + 1) 0 (I64 R)).rangeAt 0 0 (I64 PL)) ∧ W.there (w.heap.size + 1) 0 (I64 R).toArray.size := by
  have h0 : 0 ≠ w.heap.size + 1 := by have := h.g0; omega
  exact ⟨Arr.setCells0 h.pr (by simp [hR]), setCells_below (by omega) _ _ h.fr, ⟨arr_range (Arr.setCellsO (by omega) _ _ h.pa), vr_range (Vr.setCellsO h0 h.vr)⟩, by have := arr_there h.pr; simpa [hR] using this⟩
end Go.Proofs.Ytoblilngppjmhaa
namespace Go.Proofs.Ytoblilngppjmhaa
open Go.RowKit
set_option maxRecDepth 100000
set_option maxHeartbeats 4000000

theorem one_lim : lim 16 1 = [1, 0, 0, 0, 0, 0, 0, 0, 0, 0, 0, 0, 0, 0, 0, 0] := by decide
theorem zero_lim : lim 16 0 = Z16 := by decide
end Go.Proofs.Ytoblilngppjmhaa
namespace Go.Proofs.Ytoblilngppjmhaa
open Go.RowKit
set_option maxRecDepth 100000

end Go.Proofs.Ytoblilngppjmhaa
namespace Go.Proofs.Ytoblilngppjmhaa
open Go.RowKit
set_option maxRecDepth 100000

set_option maxHeartbeats 1000000 in
theorem implList (l : List Int) (w : World) (hl : l.length = 16) :
    Calls Try.prog 19 #[.agg (I64 l).toArray] w fun e w' => ∃ a c, e = .returned (.slice a 16 c) ∧ w'.ownsRow w.heap.size 38 1 (.slice a 16 c) 16 (I64 l) ∧ Below w.heap.size w w' := by
  obtain ⟨W, hW⟩ : ∃ W, W = w.alloc (.cells (I64 l).toArray 38) := ⟨_, rfl⟩
  have g0 : Arr W w.heap.size 38 (I64 l) := by rw [hW]; exact Arr.new _ _ _
  have gB : Below w.heap.size w W := by rw [hW]; exact (Below.refl _ _).alloc (Nat.le_refl _) _
  obtain ⟨A, hA⟩ : ∃ A, A = (I64 l).toArray := ⟨_, rfl⟩
  rw [← hA] at hW ⊢
  have HA : Hid _ := hW ▸ g0
  have HB : Hid _ := hW ▸ gB
  clear hW g0 gB hA
  go_enter Try.func19, Try.ntmps19
  go_wp2
  go_ret
  refine ⟨some ⟨w.heap.size, 0, none⟩, 16, rfl, ⟨by simp [hl], .inr ⟨w.heap.size, 16, _, rfl, Nat.le_refl _, HA.out, Nat.le_refl _, by unfold maxLen; omega, by simp [hl], by rw [List.take_of_length_le (by simp [hl])]⟩⟩, HB.out⟩

end Go.Proofs.Ytoblilngppjmhaa
namespace Go.Proofs.Ytoblilngppjmhaa
open Go.RowKit
set_option maxRecDepth 100000

/-- The arrays of fieldPower: the exponent, the result's cell, the power so far, and the square that is told next. -/
structure PW (w W : World) (P : Nat) (n r s : List Int) : Prop where
  fr : Below w.heap.size w W
  pn : Arr W (w.heap.size + 1) 38 (I64 n)
  pz : Arr W (w.heap.size + 2) 38 (I64 Z16)
  pr : Arr W (w.heap.size + 3) 38 (I64 r)
  ps : Arr W P 38 (I64 s)
  vr : Vr W 0 (I64 PL)
  lt : w.heap.size + 3 < P
  wz : 0 < w.heap.size
theorem PW.go {w A B : World} {P : Nat} {n r s : List Int} (h : PW w A P n r s) (hb : Below A.heap.size A B) : PW w B P n r s := ⟨h.fr.trans (hb.mono h.fr.size), h.pn.kept hb, h.pz.kept hb, h.pr.kept hb, h.ps.kept hb, h.vr.kept hb, h.lt, h.wz⟩
theorem PW.put {w W : World} {P : Nat} {n r s : List Int} (h : PW w W P n r s) (q : List Int) : PW w (W.setRow (w.heap.size + 3) (I64 q).toArray) P n q s := by
  have h1 := h.lt
  have h2 := h.wz
  exact ⟨setRow_below h.fr _ _ (by omega), h.pn.rowOther _ _ (by omega), h.pz.rowOther _ _ (by omega), h.pr.row _, h.ps.rowOther _ _ (by omega), h.vr.rowOther _ (by omega), h1, h2⟩

theorem PW.above {w W : World} {P k : Nat} {n r s : List Int} (h : PW w W P n r s) (cs : Array Value) (hk : P < k) : PW w (W.setRow k cs) P n r s := by
  have h1 := h.lt
  have h2 := h.wz
  exact ⟨setRow_below h.fr _ _ (by omega), h.pn.rowOther _ _ (by omega), h.pz.rowOther _ _ (by omega), h.pr.rowOther _ _ (by omega), h.ps.rowOther _ _ (by omega), h.vr.rowOther _ (by omega), h1, h2⟩

end Go.Proofs.Ytoblilngppjmhaa
namespace Go.Proofs.Ytoblilngppjmhaa
open Go.RowKit
set_option maxRecDepth 100000

end Go.Proofs.Ytoblilngppjmhaa
namespace Go.Proofs.Ytoblilngppjmhaa
open Go.RowKit
set_option maxRecDepth 100000

set_option maxHeartbeats 4000000 in
theorem implPtOf (x y : List Int) (w : World) (nx : x.length = 16) (ny : y.length = 16) :
  Calls Try.prog 11 #[.agg (I64 x).toArray, .agg (I64 y).toArray] w fun e w' => ∃ v, e = .returned v ∧ PtT 38 w w' v x y ∧ Below w.heap.size w w' := by
 have iix : (Try.prog.info? 38).map (·.size) = some (I64 x).length := by simpa [nx] using infoL
 have iiy : (Try.prog.info? 38).map (·.size) = some (I64 y).length := by simpa [ny] using infoL
 have hu : Try.prog.underlying 38 = some (.array 16 3) := Try.underlying38
 obtain ⟨A0, hA0⟩ : ∃ A, A = (I64 x).toArray := ⟨_, rfl⟩
 obtain ⟨A1, hA1⟩ : ∃ A, A = (I64 y).toArray := ⟨_, rfl⟩
 obtain ⟨W, hW⟩ : ∃ W, W = ((w.alloc (.cells A0 38)).alloc (.cells A1 38)).alloc (.cells #[.slice none 0 0, .slice none 0 0] 26) := ⟨_, rfl⟩
 have fr : Below w.heap.size w W := by rw [hW]; exact ((((Below.refl _ _).alloc (Nat.le_refl _) _).alloc (by simp) _).alloc (by simp; omega) _)
 have pa : Arr W w.heap.size 38 (I64 x) := by
  rw [hW, hA0, hA1]
  have := ((Arr.new (w) (I64 x) 38).alloc (.cells (I64 y).toArray 38)).alloc (.cells #[.slice none 0 0, .slice none 0 0] 26)
  exact this
 have pb : Arr W (w.heap.size + 1) 38 (I64 y) := by
  rw [hW, hA0, hA1]
  have := (Arr.new (w.alloc (.cells (I64 x).toArray 38)) (I64 y) 38).alloc (.cells #[.slice none 0 0, .slice none 0 0] 26)
  rw [World.size_alloc] at this
  exact this
 have pr : Arr W (w.heap.size + 2) 26 ([.slice none 0 0, .slice none 0 0]) := by
  rw [hW, hA0, hA1]
  have := Arr.new ((w.alloc (.cells (I64 x).toArray 38)).alloc (.cells (I64 y).toArray 38)) ([.slice none 0 0, .slice none 0 0]) 26
  rw [World.size_alloc, World.size_alloc] at this
  exact this
 rw [← hA0, ← hA1]
 clear hA0 hA1
 go_enter Try.func11, Try.ntmps11
 go_upto_region 1 with fail
 rw [← hW]
 clear hW
 try simp only [Act.put]
 have bD : Below W.heap.size W W.drew := (Below.refl _ _).drew
 replace fr := fr.trans (bD.mono fr.size)
 replace pa := pa.kept bD
 replace pb := pb.kept bD
 replace pr := pr.kept bD
 clear bD
 refine wp_region_held_drew (S := fun W => W.rangeAt w.heap.size 0 (I64 x) ∧ W.rangeAt (w.heap.size + 1) 0 (I64 y)) (by kernel_rfl) ⟨arr_range pa, arr_range pb⟩ (fun hHeld => ?_)
 obtain ⟨D1, hD⟩ : ∃ V, V = W.drew := ⟨_, rfl⟩
 rw [← hD] at hHeld fr pa pb pr ⊢
 clear hD
 refine wpAnyH_take (i := 0) (oi := { dst := some 5, op := Op.load 38 (Operand.tmp 2), type := 38, pos := "l06_point.go:109", after := #[], guard := none }) (v := _) rfl (by kernel_rfl) (by kernel_rfl) (by kernel_rfl) (fun _ _ _ h => h) (yieldsIf_load_mid (by rfl) _ _ rfl _ _ rfl (I64 x) _ (fun _ h => h.1) hu rfl iix) (by assumption) ?_
 simp only [Act.put, List.setIfInBounds_toArray, List.set_cons_zero, List.set_cons_succ]
 refine wpAnyH_take (i := 3) (oi := { dst := some 8, op := Op.load 38 (Operand.tmp 3), type := 38, pos := "l06_point.go:109", after := #[], guard := none }) (v := _) rfl (by kernel_rfl) (by kernel_rfl) (by kernel_rfl) (fun _ _ _ h => h) (yieldsIf_load_mid (by rfl) _ _ rfl _ _ rfl (I64 y) _ (fun _ h => h.2) hu rfl iiy) (by assumption) ?_
 simp only [Act.put, List.setIfInBounds_toArray, List.set_cons_zero, List.set_cons_succ]
 refine wpAnyH_ready (rs := [1]) (by kernel_rfl) (by simp) (AllReadyH.cons (o := { dst := some 6, op := Op.call { callee := Callee.value (Operand.func 19), args := #[Operand.tmp 5], argTypes := #[38] }, type := 22, pos := "l06_point.go:109", after := #[{ on := 0, ground := Ground.data }], guard := none }) rfl (fun K hK => ?_) AllReadyH.nil)
 go_simp
 have hl1 : w.heap.size + 2 < D1.heap.size := pr.lt
 refine (implList x _ nx).mono ?_
 rintro e y2 ⟨a1, c1, rfl, o1, hb2⟩
 replace fr := fr.trans (hb2.mono fr.size)
 replace pa := pa.kept hb2
 replace pb := pb.kept hb2
 replace pr := pr.kept hb2
 clear hb2
 have i1 := In.of o1
 go_wp2_with fail
 refine hK.out _ _ ⟨arr_range pa, arr_range pb⟩ (fun hHeld => ?_)
 clear hK K
 refine wpAnyH_take (i := 2) (oi := { dst := some 7, op := Op.build 24 #[(0, Operand.tmp 6)], type := 24, pos := "l06_point.go:109", after := #[{ on := 1, ground := Ground.data }], guard := none }) (v := .agg #[.slice a1 16 c1]) rfl (by kernel_rfl) (by kernel_rfl) (by kernel_rfl) (fun _ _ _ h => h) (.inl ⟨by rfl, fun _ _ => by kernel_rfl⟩) (by assumption) ?_
 simp only [Act.put, List.setIfInBounds_toArray, List.set_cons_zero, List.set_cons_succ]
 refine wpAnyH_ready (rs := [4]) (by kernel_rfl) (by simp) (AllReadyH.cons (o := { dst := some 9, op := Op.call { callee := Callee.value (Operand.func 19), args := #[Operand.tmp 8], argTypes := #[38] }, type := 22, pos := "l06_point.go:109", after := #[{ on := 3, ground := Ground.data }, { on := 1, ground := Ground.chain }], guard := none }) rfl (fun K hK => ?_) AllReadyH.nil)
 go_simp
 have hl2 : w.heap.size + 2 < y2.heap.size := pr.lt
 refine (implList y _ ny).mono ?_
 rintro e y3 ⟨a2, c2, rfl, o2, hb3⟩
 replace fr := fr.trans (hb3.mono fr.size)
 replace pa := pa.kept hb3
 replace pb := pb.kept hb3
 replace pr := pr.kept hb3
 replace o1 := own_below o1 hb3
 clear hb3
 have i2 := In.of o2
 go_wp2_with fail
 refine hK.out _ _ ⟨arr_range pa, arr_range pb⟩ (fun hHeld => ?_)
 clear hK K
 refine wpAnyH_take (i := 5) (oi := { dst := some 10, op := Op.build 24 #[(0, Operand.tmp 9)], type := 24, pos := "l06_point.go:109", after := #[{ on := 4, ground := Ground.data }], guard := none }) (v := .agg #[.slice a2 16 c2]) rfl (by kernel_rfl) (by kernel_rfl) (by kernel_rfl) (fun _ _ _ h => h) (.inl ⟨by rfl, fun _ _ => by kernel_rfl⟩) (by assumption) ?_
 simp only [Act.put, List.setIfInBounds_toArray, List.set_cons_zero, List.set_cons_succ]
 refine wpAnyH_take (i := 6) (oi := { dst := some 11, op := Op.build 26 #[(0, Operand.tmp 7), (1, Operand.tmp 10)], type := 26, pos := "l06_point.go:109", after := #[{ on := 2, ground := Ground.data }, { on := 5, ground := Ground.data }], guard := none }) (v := _) rfl (by kernel_rfl) (by kernel_rfl) (by kernel_rfl) (fun _ _ _ h => h) (yieldsIf_pt (by rfl) _ _ rfl _ _ rfl rfl) (by assumption) ?_
 simp only [Act.put, List.setIfInBounds_toArray, List.set_cons_zero, List.set_cons_succ]
 refine wpAnyH_ready (rs := [7]) (by kernel_rfl) (by simp) (AllReadyH.cons (o := { dst := none, op := Op.store 26 (Operand.tmp 4) (Operand.tmp 11), type := 0, pos := "l06_point.go:109", after := #[{ on := 6, ground := Ground.data }, { on := 4, ground := Ground.chain }, { on := 0, ground := Ground.phase }, { on := 1, ground := Ground.phase }, { on := 2, ground := Ground.phase }, { on := 3, ground := Ground.phase }, { on := 4, ground := Ground.phase }, { on := 5, ground := Ground.phase }, { on := 6, ground := Ground.phase }], guard := none }) rfl (fun K hK => ?_) AllReadyH.nil)
 rw [if_pos (by rfl)]
 refine wp_store_mid _ _ _ rfl _ _ ([.slice a1 16 c1, .slice a2 16 c2]).toArray rfl rfl (by have := arr_there pr; simpa using this) infoPt (all_oneCell_toArray (by simp [Value.oneCell'])) ?_
 simp only [Act.put]
 replace fr := bel_sc fr (w.heap.size + 2) ([.slice a1 16 c1, .slice a2 16 c2]) (by omega)
 replace pa := pa.sc (w.heap.size + 2) ([.slice a1 16 c1, .slice a2 16 c2]) (by omega)
 replace pb := pb.sc (w.heap.size + 2) ([.slice a1 16 c1, .slice a2 16 c2]) (by omega)
 replace pr := pr.sc0 ([.slice a1 16 c1, .slice a2 16 c2]) (by simp)
 replace o1 : (y3.setCells (w.heap.size + 2) 0 ([.slice a1 16 c1, .slice a2 16 c2])).ownsRow D1.heap.size 38 1 (.slice a1 16 c1) 16 (I64 x) := own_setCells o1 i1 (.inl hl1) _
 replace o2 : (y3.setCells (w.heap.size + 2) 0 ([.slice a1 16 c1, .slice a2 16 c2])).ownsRow y2.heap.size 38 1 (.slice a2 16 c2) 16 (I64 y) := own_setCells o2 i2 (.inl hl2) _
 obtain ⟨V4, hVe⟩ : ∃ V, V = y3.setCells (w.heap.size + 2) 0 ([.slice a1 16 c1, .slice a2 16 c2]) := ⟨_, rfl⟩
 rw [← hVe] at fr pa pb pr o1 o2 ⊢
 clear hVe
 refine hK.out _ _ ⟨arr_range pa, arr_range pb⟩ (fun hHeld => ?_)
 clear hK K
 refine wpAnyH_done (by kernel_rfl) ?_ _
 go_wp2
 have hap : Apart (.slice a1 16 c1) (.slice a2 16 c2) := i1.apart i2 (.inl (by omega))
 exact bodyPost_ret (results_cell_row rfl _ _ (w.heap.size + 2) 26 #[.slice a1 16 c1, .slice a2 16 c2] (0, 0) _ rfl pr Try.underlying26 rfl infoPt) rfl ⟨_, rfl, ptT_16 nx ny (own_base o1 (by omega)) (own_base o2 (by omega)) hap, fr⟩

end Go.Proofs.Ytoblilngppjmhaa
namespace Go.Proofs.Ytoblilngppjmhaa
open Go.RowKit
set_option maxRecDepth 100000

set_option maxHeartbeats 4000000 in
theorem implPtZero (w : World)  :
    Calls Try.prog 5 #[] w fun e w' => ∃ v, e = .returned v ∧ PtT 38 w w' v (lim 16 0) (lim 16 1) ∧ Below w.heap.size w w' := by
  have HC : Hid (∀ Z, Calls Try.prog 11 #[.agg #[.int .i64 0, .int .i64 0, .int .i64 0, .int .i64 0, .int .i64 0, .int .i64 0, .int .i64 0, .int .i64 0, .int .i64 0, .int .i64 0, .int .i64 0, .int .i64 0, .int .i64 0, .int .i64 0, .int .i64 0, .int .i64 0], .agg #[.int .i64 1, .int .i64 0, .int .i64 0, .int .i64 0, .int .i64 0, .int .i64 0, .int .i64 0, .int .i64 0, .int .i64 0, .int .i64 0, .int .i64 0, .int .i64 0, .int .i64 0, .int .i64 0, .int .i64 0, .int .i64 0]] Z fun e w' => ∃ v, e = .returned v ∧ PtT 38 Z w' v (lim 16 0) (lim 16 1) ∧ Below Z.heap.size Z w') := by
    unfold Hid; intro Z; have := implPtOf (lim 16 0) (lim 16 1) Z (lim_len _ _) (lim_len _ _); rw [zero_lim, one_lim] at this ⊢; exact this
  obtain ⟨x, ex⟩ : ∃ x, x = lim 16 0 := ⟨_, rfl⟩
  obtain ⟨y, ey⟩ : ∃ y, y = lim 16 1 := ⟨_, rfl⟩
  have nx : x.length = 16 := by rw [ex]; rfl
  have ny : y.length = 16 := by rw [ey]; rfl
  rw [← ex, ← ey] at HC ⊢
  clear ex ey
  obtain ⟨W, hW⟩ : ∃ W, W = w.alloc (.cells #[.slice none 0 0, .slice none 0 0] 26) := ⟨_, rfl⟩
  have fr : Below w.heap.size w W := by rw [hW]; exact ((Below.refl _ _).alloc (Nat.le_refl _) _)
  have pr : Arr W w.heap.size 26 ([.slice none 0 0, .slice none 0 0]) := by
    rw [hW]
    have := Arr.new (w) ([.slice none 0 0, .slice none 0 0]) 26
    exact this
  go_enter Try.func5, Try.ntmps5
  go_upto_region 1 with fail
  rw [← hW]
  clear hW
  go_wp2_with fail
  have hl : w.heap.size < W.heap.size := pr.lt
  refine (HC.out _).mono ?_
  rintro e y1 ⟨v, rfl, hpt, hb1⟩
  replace fr := fr.trans (hb1.mono fr.size)
  replace pr := pr.kept hb1
  clear hb1
  obtain ⟨aa, ca, ab, cb, rfl, oa, ob, hap⟩ := hpt
  rw [nx, ny] at hap ⊢
  rw [nx] at oa
  rw [ny] at ob
  have ia := In.of oa
  have ib := In.of ob
  have HB : Hid _ := setRow_below fr w.heap.size ([.slice aa 16 ca, .slice ab 16 cb]).toArray (by omega)
  have h2 := pr.row ([.slice aa 16 ca, .slice ab 16 cb])
  have oa2 := own_rowM oa ia (.inl hl) ([.slice aa 16 ca, .slice ab 16 cb]).toArray
  have ob2 := own_rowM ob ib (.inl hl) ([.slice aa 16 ca, .slice ab 16 cb]).toArray
  go_wp2_with (refine wpList_store_row rfl 26 _ _ rfl w.heap.size ([Value.slice aa 16 ca,  Value.slice ab 16 cb]).toArray rfl rfl 26 _ pr infoPt rfl (by simp [Value.oneCell']) ?_)
  exact bodyPost_ret (results_cell_row rfl _ _ w.heap.size 26 #[.slice aa 16 ca, .slice ab 16 cb] (0, 0) _ rfl h2 Try.underlying26 rfl infoPt) rfl ⟨_, rfl, ptT_16 nx ny (own_base oa2 (by omega)) (own_base ob2 (by omega)) hap, HB.out⟩

end Go.Proofs.Ytoblilngppjmhaa
