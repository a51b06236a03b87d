/-
  What is proved here: the base is a point, and so many times the base as the order tells is the zero, reckoned by the kernel; no program is spoken of; the laws of the points in lists: what is a point, sums, opposites, multiples, a multiplier and one more; squares have two roots, and the last bit tells them apart; no program is spoken of; what the program makes of points in its own long form are the specification's lists; no program is spoken of; the lists of an answer that is a point; plain facts on memory; bounds of the lists of an answer that is a point; plain facts on memory; the contract of the program's PtOk; where its variables hold the prime and d; the contract of the laws' sameInts at two equal slices; the contract of the laws' samePt on two points that are equal; points of the curve as lists in memory; what the program's PtOk answers there; where its variables hold the prime and d.
-/
import Derived.Test.YtoblilngppjmhaaDoorW9Ug
import Derived.Test.YtoblilngppjmhaaDoorW9Uh
import Derived.Test.YtoblilngppjmhaaDoorW9Ui
import Derived.Test.YtoblilngppjmhaaDoorW9Yj
import Derived.Test.YtoblilngppjmhaaDoorW9Uc
import Derived.Test.YtoblilngppjmhaaDoorW9Uff
import Derived.Test.YtoblilngppjmhaaDoorW9Og
import Derived.Test.YtoblilngppjmhaaDoorW9Jlw
import Derived.Test.YtoblilngppjmhaaDoorW9Arr
namespace Go.Proofs.YtoblilngppjmhaaDoor
set_option maxRecDepth 100000
set_option maxHeartbeats 400000
set_option linter.unusedSectionVars false

/-- Sums of points in the long form, on plain numbers: for the kernel to reckon with. -/
def nm (x y : Nat) : Nat := x * y % pN
def na (x y : Nat) : Nat := (x + y) % pN
def ns (x y : Nat) : Nat := (x + (pN - y % pN)) % pN
structure T4 where
  a : Nat
  b : Nat
  c : Nat
  t : Nat
def nAdd (P Q : T4) : T4 :=
  let A := nm (ns P.b P.a) (ns Q.b Q.a)
  let B := nm (na P.b P.a) (na Q.b Q.a)
  let C := nm (nm P.t Q.t) (na dN dN)
  let D := nm P.c (na Q.c Q.c)
  let E := ns B A
  let F := ns D C
  let G := na D C
  let H := na B A
  ⟨nm E F, nm G H, nm F G, nm E H⟩
def nst (P : T4) (N : Nat) : Nat → T4
  | 0 => ⟨0, 1, 1, 0⟩
  | n + 1 => if N / 2 ^ (255 - n) % 2 = 1 then nAdd (nAdd (nst P N n) (nst P N n)) P else nAdd (nst P N n) (nst P N n)
theorem nst_one {P : T4} {N n : Nat} (h : N / 2 ^ (255 - n) % 2 = 1) : nst P N (n + 1) = nAdd (nAdd (nst P N n) (nst P N n)) P := by rw [nst, if_pos h]
theorem nst_nil {P : T4} {N n : Nat} (h : ¬ N / 2 ^ (255 - n) % 2 = 1) : nst P N (n + 1) = nAdd (nst P N n) (nst P N n) := by rw [nst, if_neg h]
def bxN : Nat := 15112221349535400772501151409588531511454012693041857206046113283949847762202
def byN : Nat := 46316835694926478169428394003475163141307993866256225615783033603165251855960
def nB : T4 := ⟨bxN, byN, 1, nm bxN byN⟩
def oN : Nat := 7237005577332262213973186563042994240857116359379907606001950938285454250989
theorem nst_order : (nst nB oN 256).a = 0 ∧ (nst nB oN 256).b = (nst nB oN 256).c := by decide +kernel
theorem oN_lt : oN < 2 ^ 256 := by unfold oN; decide
/-- A plain number as one of the field. -/
def fn (x : Nat) : KF := fe (x : Int)
theorem fn_mod (x : Nat) : fn (x % pN) = fn x := by unfold fn; rw [Int.natCast_emod, pN_int, fe_mod]
section
variable [NeZero pN]
theorem fn_mul (x y : Nat) : fn (nm x y) = fn x * fn y := by unfold nm; rw [fn_mod]; unfold fn; rw [Int.natCast_mul, fe_mul]
theorem fn_add (x y : Nat) : fn (na x y) = fn x + fn y := by unfold na; rw [fn_mod]; unfold fn; rw [Int.natCast_add, fe_add]
theorem fn_pN : fn pN = 0 := by unfold fn; rw [pN_int, fe_nz, Int.emod_self]
theorem fn_sub (x y : Nat) : fn (ns x y) = fn x - fn y := by
  have hlt : y % pN < pN := Nat.mod_lt _ (Nat.pos_of_ne_zero pN_ne)
  have e : fn (pN - y % pN) + fn y = 0 := by
    rw [← fn_mod y, ← fn_pN]
    unfold fn
    rw [← fe_add, ← Int.natCast_add, Nat.sub_add_cancel (Nat.le_of_lt hlt)]
  unfold ns
  rw [fn_mod]
  have e2 : fn (x + (pN - y % pN)) = fn x + fn (pN - y % pN) := by unfold fn; rw [Int.natCast_add, fe_add]
  rw [e2]
  grind
def Ext4 (T : T4) (p : KF × KF) : Prop := Ext (fn T.a) (fn T.b) (fn T.c) (fn T.t) p
theorem ext4_add {P Q : T4} {p q : KF × KF} (h1 : Ext4 P p) (h2 : Ext4 Q q) (o1 : On dK p) (o2 : On dK q) : Ext4 (nAdd P Q) (pAdd dK ivK p q) := by
  unfold Ext4 nAdd
  simp only [fn_mul, fn_add, fn_sub]
  exact Ext.add crvK h1 h2 o1 o2 rfl rfl rfl rfl rfl rfl rfl rfl
theorem fn_one : fn 1 = 1 := by unfold fn; exact fe_one
theorem fn_zero : fn 0 = 0 := by unfold fn; exact fe_zero
theorem ext4_zero : Ext4 ⟨0, 1, 1, 0⟩ pZero := by
  unfold Ext4
  rw [fn_zero, fn_one]
  have h := Ext.make crvK (0 : KF) 1
  have e : (0 : KF) * 1 = 0 := by grind
  rw [e] at h
  exact h
theorem ext4_nst {P : T4} {p : KF × KF} (h : Ext4 P p) (o : On dK p) (N : Nat) (hN : N < 2 ^ 256) : ∀ n, n ≤ 256 → Ext4 (nst P N n) (pMul dK ivK (N / 2 ^ (256 - n)) p)
  | 0, _ => by
    have e : N / 2 ^ (256 - 0) = 0 := Nat.div_eq_of_lt hN
    rw [e]
    exact ext4_zero
  | n + 1, hn => by
    have ih1 := ext4_nst h o N hN n (by omega)
    have hb := crvK.mul_bit o N (255 - n)
    have e1 : 256 - (n + 1) = 255 - n := by omega
    have e2 : 256 - n = 255 - n + 1 := by omega
    rw [e2] at ih1
    rw [e1, hb]
    have om := crvK.on_mul o (N / 2 ^ (255 - n + 1))
    by_cases hbit : N / 2 ^ (255 - n) % 2 = 1
    · rw [nst_one hbit, if_pos hbit]
      exact ext4_add (ext4_add ih1 ih1 om om) h (crvK.on_add om om) o
    · rw [nst_nil hbit, if_neg hbit]
      exact ext4_add ih1 ih1 om om
/-- The base, and that it is a point. -/
def baseK : KF × KF := (fn bxN, fn byN)
theorem on_base : On dK baseK := by
  show fn byN * fn byN - fn bxN * fn bxN = 1 + dK * (fn bxN * fn bxN) * (fn byN * fn byN)
  have hd : dK = fn dN := rfl
  rw [hd, ← fn_one, ← fn_mul, ← fn_mul, ← fn_sub, ← fn_mul, ← fn_mul, ← fn_add]
  congr 1
theorem ext4_base : Ext4 nB baseK := by
  have h := Ext.make crvK (fn bxN) (fn byN)
  rw [← fn_mul, ← fn_one] at h
  exact h
/-- So many times the base as the order tells is the zero. -/
theorem order_base : pMul dK ivK oN baseK = pZero := by
  have h := ext4_nst ext4_base on_base oN oN_lt 256 (by omega)
  rw [Nat.sub_self, Nat.pow_zero, Nat.div_one] at h
  obtain ⟨hx, hy⟩ := Ext.flat crvK h
  rw [nst_order.1, fn_zero] at hx
  rw [nst_order.2] at hy
  have hc := crvK.inv _ h.hc
  rw [hc] at hy
  apply Prod.ext
  · rw [← hx]
    show 0 * ivK (fn (nst nB oN 256).c) = (0 : KF)
    generalize ivK (fn (nst nB oN 256).c) = z
    grind
  · rw [← hy]; rfl
end
end Go.Proofs.YtoblilngppjmhaaDoor
namespace Go.Proofs.YtoblilngppjmhaaDoor
open Go.RowKit
set_option maxRecDepth 100000
set_option maxHeartbeats 4000000
set_option linter.unusedSectionVars false

/-- Two lists as a pair of numbers of the field. -/
def pt (xs ys : List Int) : KF × KF := (fl xs, fl ys)
theorem pt_back (p : KF × KF) : pt (cx p.1) (cx p.2) = p := by unfold pt; rw [fl_cx, fl_cx]
section
variable [NeZero pN]
theorem pt_on {xs ys : List Int} (h : ptOk xs ys = true) : On dK (pt xs ys) := (onB_iff xs ys).1 ((ptOk_iff xs ys).1 h).2.2
theorem pt_ok {p : KF × KF} (h : On dK p) : ptOk (cx p.1) (cx p.2) = true := by
  refine (ptOk_iff _ _).2 ⟨cx_ok _, cx_ok _, (onB_iff _ _).2 ?_⟩
  have := pt_back p
  unfold pt at this
  rw [this]
  exact h
theorem pt_add {xs ys us vs : List Int} (h : ptOk xs ys = true) (k : ptOk us vs = true) :
    flx (add6 (mk6 xs ys) (mk6 us vs)) = cx (pAdd dK ivK (pt xs ys) (pt us vs)).1 ∧ fly (add6 (mk6 xs ys) (mk6 us vs)) = cx (pAdd dK ivK (pt xs ys) (pt us vs)).2 :=
  ext6_flat (ext6_add (ext6_make xs ys) (ext6_make us vs) (pt_on h) (pt_on k))
theorem pt_mul {xs ys : List Int} (h : ptOk xs ys = true) (N : Nat) (hN : N < 2 ^ 256) :
    flx (mul6 (mk6 xs ys) N) = cx (pMul dK ivK N (pt xs ys)).1 ∧ fly (mul6 (mk6 xs ys) N) = cx (pMul dK ivK N (pt xs ys)).2 :=
  ext6_flat (ext6_mul (ext6_make xs ys) (pt_on h) N hN)
/-- A multiplier and one more, modulo the order. -/
theorem mul_next (k : Nat) (hk : k < oN) : pMul dK ivK ((k + 1) % oN) baseK = pAdd dK ivK (pMul dK ivK k baseK) baseK := by
  show _ = pMul dK ivK (k + 1) baseK
  by_cases h : k + 1 = oN
  · rw [h, Nat.mod_self, order_base]; rfl
  · rw [Nat.mod_eq_of_lt (by omega)]
end
end Go.Proofs.YtoblilngppjmhaaDoor
namespace Go.Proofs.YtoblilngppjmhaaDoor
open Go.RowKit
set_option maxRecDepth 100000
set_option maxHeartbeats 4000000

theorem add_lists {xs ys us vs : List Int} (h : ptOk xs ys = true) (k : ptOk us vs = true) : flx (join6 (mk6 xs ys) (mk6 us vs)) = flx (add6 (mk6 xs ys) (mk6 us vs)) ∧ fly (join6 (mk6 xs ys) (mk6 us vs)) = fly (add6 (mk6 xs ys) (mk6 us vs)) := by
  haveI := nzP
  obtain ⟨h1, h2⟩ := pt_add h k
  obtain ⟨h3, h4⟩ := ext6_flat (ext6_join (ext6_make xs ys) (ext6_make us vs) (pt_on h) (pt_on k))
  exact ⟨h3.trans h1.symm, h4.trans h2.symm⟩
theorem mul_lists {xs ys : List Int} (h : ptOk xs ys = true) (N : Nat) (hN : N < 2 ^ 253) : flx (jul6 (mk6 xs ys) N) = flx (mul6 (mk6 xs ys) N) ∧ fly (jul6 (mk6 xs ys) N) = fly (mul6 (mk6 xs ys) N) := by
  haveI := nzP
  obtain ⟨h1, h2⟩ := pt_mul h N (Nat.lt_trans hN (by decide))
  obtain ⟨h3, h4⟩ := ext6_flat (ext6_jul (ext6_make xs ys) (pt_on h) N hN)
  exact ⟨h3.trans h1.symm, h4.trans h2.symm⟩
end Go.Proofs.YtoblilngppjmhaaDoor
namespace Go.Proofs.YtoblilngppjmhaaDoor
open Go.RowKit
set_option maxRecDepth 100000

/-- The lists of an answer, where there is one. -/
def ptx (ok : Bool) (R : E4) : List Int := if ok = true then flx R else []
def pty (ok : Bool) (R : E4) : List Int := if ok = true then fly R else []
theorem flx_len (R : E4) : (flx R).length = 16 := red_len _
theorem fly_len (R : E4) : (fly R).length = 16 := red_len _

theorem own_rowM {W : World} {lo e s n hi E : Nat} {v : Value} {xs : List Value} (h : W.ownsRow lo e s v n xs) (i : In v lo hi) (hE : E < lo ∨ hi ≤ E) (cs : Array Value) : (W.setRow E cs).ownsRow lo e s v n xs := by
  refine ⟨h.1, ?_⟩
  rcases h.2 with hn | ⟨g, cap, cur, rfl, hg, hgg, rest⟩
  · exact .inl hn
  · have := i g rfl
    exact .inr ⟨g, cap, cur, rfl, hg, (setRow_other W E g cs (by omega)).trans hgg, rest⟩
end Go.Proofs.YtoblilngppjmhaaDoor
namespace Go.Proofs.YtoblilngppjmhaaDoor
open Go.RowKit
set_option maxRecDepth 100000

theorem red_int (v : Int) : ∀ x ∈ red v, -9223372036854775808 ≤ x ∧ x ≤ 9223372036854775807 := by
  intro x hx
  have := feOk_lm' (ok_red v) x hx
  omega
theorem ptx_int (ok : Bool) (R : E4) : ∀ x ∈ ptx ok R, -9223372036854775808 ≤ x ∧ x ≤ 9223372036854775807 := by
  unfold ptx; split
  · exact red_int _
  · intro x hx; cases hx
theorem pty_int (ok : Bool) (R : E4) : ∀ x ∈ pty ok R, -9223372036854775808 ≤ x ∧ x ≤ 9223372036854775807 := by
  unfold pty; split
  · exact red_int _
  · intro x hx; cases hx
/-- A new block of two cells, laid at once. -/
theorem laid_two (w1 : World) (t : TypeId) (z0 z1 x y : Value) : Below w1.heap.size w1 ((w1.alloc (.cells #[z0, z1] t)).setRow w1.heap.size ([x, y] : List Value).toArray) ∧ Arr ((w1.alloc (.cells #[z0, z1] t)).setRow w1.heap.size ([x, y] : List Value).toArray) w1.heap.size t [x, y] ∧ Arr (w1.alloc (.cells #[z0, z1] t)) w1.heap.size t [z0, z1] ∧ ((w1.alloc (.cells #[z0, z1] t)).setRow w1.heap.size ([x, y] : List Value).toArray).heap.size = w1.heap.size + 1 := by
  have h : Arr (w1.alloc (.cells #[z0, z1] t)) w1.heap.size t [z0, z1] := Arr.new w1 [z0, z1] t
  have hb := setRow_below ((Below.refl w1.heap.size w1).alloc (Nat.le_refl _) (.cells #[z0, z1] t)) w1.heap.size ([x, y] : List Value).toArray (Nat.le_refl _)
  refine ⟨hb, h.row [x, y], h, ?_⟩
  simp [World.setRow]
end Go.Proofs.YtoblilngppjmhaaDoor
namespace Go.Proofs.YtoblilngppjmhaaDoor
open Go.RowKit
set_option maxRecDepth 100000

set_option maxHeartbeats 4000000 in
theorem implPtOk (a1 : Option Addr) (n1 c1 : Nat) (xs1 : List Int) (b1 : Option Addr) (m1 d1 : Nat) (ys1 : List Int) (w : World) (hx1 : Is w a1 n1 c1 xs1) (hy1 : Is w b1 m1 d1 ys1) (hV : Vr w 4 (I64 PL)) (hD : Vr w 2 (I64 DL)) :
    Calls Tryd.prog 18 #[.agg #[.slice a1 n1 c1, .slice b1 m1 d1]] w fun e w' => e = .returned (.bool (ptOk xs1 ys1)) ∧ Below w.heap.size w w' := by
  obtain ⟨p, hp⟩ : ∃ p, p = ptOk xs1 ys1 := ⟨_, rfl⟩
  obtain ⟨L, hL⟩ : ∃ l, l = opL xs1 ys1 := ⟨_, rfl⟩
  obtain ⟨P, hP⟩ : ∃ P, P = mk6 xs1 ys1 := ⟨_, rfl⟩
  have HO1 : Hid (∀ Z, Below w.heap.size w Z → Vr Z 4 (I64 PL) → Vr Z 2 (I64 DL) → Calls Tryd.prog 55 #[.agg #[.slice a1 n1 c1, .slice b1 m1 d1]] Z fun e w' => e = .returned (.tuple #[.agg (I64 L).toArray, .bool p]) ∧ Below Z.heap.size Z w') := by
    unfold Hid; intro Z hZ h1 h2; rw [hL, hp]; exact implPtOpen a1 n1 c1 xs1 b1 m1 d1 ys1 Z (hx1.below hZ) (hy1.below hZ) h1 h2
  have nL : L.length = 64 := by rw [hL]; exact opL_len _ _
  have iL : (Tryd.prog.info? 72).map (·.size) = some (I64 L).toArray.size := by simpa [nL] using infoLp
  have HLL : Hid (p = true → L = P.cells ∧ P.Ok) := by
    unfold Hid; intro h; rw [hp] at h; obtain ⟨k1, k2, _⟩ := (ptOk_iff _ _).1 h; rw [hL, hP]; unfold opL; rw [if_pos h]; exact ⟨rfl, mk6_ok k1 k2⟩
  rw [← hp]
  obtain ⟨W, hW⟩ : ∃ W, W = w.alloc (.cells #[.slice a1 n1 c1, .slice b1 m1 d1] 27) := ⟨_, rfl⟩
  have fr : Below w.heap.size w W := by rw [hW]; exact ((Below.refl _ _).alloc (Nat.le_refl _) _)
  have pa : Arr W w.heap.size 27 ([.slice a1 n1 c1, .slice b1 m1 d1]) := by
    rw [hW]
    have := Arr.new (w) ([.slice a1 n1 c1, .slice b1 m1 d1]) 27
    exact this
  have h0P := hV.lt
  have vP := hV.kept fr
  have h0D := hD.lt
  have vD := hD.kept fr
  clear hV hD
  clear hp hL hP hx1 hy1 HLL
  go_enter Tryd.func18, Tryd.ntmps18
  go_upto_region 1 with fail
  rw [← hW]
  clear hW
  go_wp2_with (refine wpList_load_row rfl 27 _ rfl w.heap.size rfl 27 ([Value.slice a1 n1 c1,  Value.slice b1 m1 d1]).toArray (0, 0) _ pa Tryd.underlying27 rfl infoPt ?_)
  refine (HO1.out _ fr vP vD).mono ?_
  rintro e y1 ⟨rfl, hb1⟩
  replace fr := fr.trans (hb1.mono fr.size)
  replace pa := pa.kept hb1
  replace vP := vP.kept hb1
  replace vD := vD.kept hb1
  clear hb1
  have hXL : w.heap.size < y1.heap.size ∧ w.heap.size ≤ y1.heap.size := ⟨pa.lt, fr.size⟩
  obtain ⟨bV, AL, q1⟩ := laid_lp y1 L
  replace fr := fr.trans (bV.mono fr.size)
  replace pa := pa.kept bV
  replace vP := vP.kept bV
  replace vD := vD.kept bV
  go_upto_region 2 with (refine wpList_store_row rfl 72 _ _ rfl y1.heap.size (I64 L).toArray rfl rfl 72 _ q1 iL (by simp [nL]) (by simp [Value.oneCell']) ?_)
  obtain ⟨V2, hVV⟩ : ∃ V, V = (y1.alloc (.cells #[.int .i64 0, .int .i64 0, .int .i64 0, .int .i64 0, .int .i64 0, .int .i64 0, .int .i64 0, .int .i64 0, .int .i64 0, .int .i64 0, .int .i64 0, .int .i64 0, .int .i64 0, .int .i64 0, .int .i64 0, .int .i64 0, .int .i64 0, .int .i64 0, .int .i64 0, .int .i64 0, .int .i64 0, .int .i64 0, .int .i64 0, .int .i64 0, .int .i64 0, .int .i64 0, .int .i64 0, .int .i64 0, .int .i64 0, .int .i64 0, .int .i64 0, .int .i64 0, .int .i64 0, .int .i64 0, .int .i64 0, .int .i64 0, .int .i64 0, .int .i64 0, .int .i64 0, .int .i64 0, .int .i64 0, .int .i64 0, .int .i64 0, .int .i64 0, .int .i64 0, .int .i64 0, .int .i64 0, .int .i64 0, .int .i64 0, .int .i64 0, .int .i64 0, .int .i64 0, .int .i64 0, .int .i64 0, .int .i64 0, .int .i64 0, .int .i64 0, .int .i64 0, .int .i64 0, .int .i64 0, .int .i64 0, .int .i64 0, .int .i64 0, .int .i64 0] 72)).setRow y1.heap.size (I64 L).toArray := ⟨_, rfl⟩
  obtain ⟨XL, hE⟩ : ∃ E, E = y1.heap.size := ⟨_, rfl⟩
  rw [← hVV] at fr pa vP vD AL ⊢
  rw [← hE] at AL hXL ⊢
  clear hVV hE q1 bV
  go_wp2
  go_ret
  exact ⟨rfl, fr⟩


end Go.Proofs.YtoblilngppjmhaaDoor
namespace Go.Proofs.YtoblilngppjmhaaDoor
open Go.RowKit
set_option maxRecDepth 100000

set_option maxHeartbeats 400000 in
theorem sameIntsT (a a' : Option Addr) (n cap cap' : Nat) (xs : List Int) (w : World) (h : Is w a n cap xs) (h' : Is w a' n cap' xs) (hn : n ≤ 2097152) :
    Calls Tryd.prog 64 #[.slice a n cap, .slice a' n cap'] w fun e w' => ∃ q, e = .returned (.bool true) ∧ w' = w.drewN q := by
  obtain ⟨_, hl, hc, hby, h⟩ := h
  obtain ⟨_, _, hc', _, h'⟩ := h'
  have hne : ((n : Int) != (n : Int)) = false := by simp
  go_enter Tryd.func64, Tryd.ntmps64
  go_wp2
  go_loopw [5] (fun i wr => ∃ k q : Nat, k ≤ n ∧ i = .int .i64 k ∧ wr = w.drewN q) (fun i _ => n - (intOf i).toNat)
  case atStart => exact ⟨0, 0, Nat.zero_le _, rfl, rfl⟩
  case round =>
    obtain ⟨k, q, hk, rfl, rfl⟩ := hrel
    by_cases hlt : k < n
    · rcases h with h | ⟨b, o, rfl, hbs, hcell⟩
      · omega
      · rcases h' with h' | ⟨b', o', rfl, hbs', hcell'⟩
        · omega
        · obtain ⟨x, hx⟩ : ∃ x, x = xs.getD k 0 := ⟨_, rfl⟩
          have hck : w.cell? ⟨b, o + k, none⟩ = some (.int .i64 x) := by rw [hx]; exact hcell k hlt
          have hck' : w.cell? ⟨b', o' + k, none⟩ = some (.int .i64 x) := by rw [hx]; exact hcell' k hlt
          have hxx : (x != x) = false := by simp
          have hlt' : (k : Int) < (n : Int) := by omega
          clear hcell hcell' hx
          go_wp2
          go_quiet (fail)
          go_wp2
          go_roundw
          case rel => exact ⟨k + 1, _, by omega, by go_num, rfl⟩
          case measure => simp [intOf]; omega
    · go_wp2
      go_ret
      exact ⟨q, rfl, rfl⟩

end Go.Proofs.YtoblilngppjmhaaDoor
namespace Go.Proofs.YtoblilngppjmhaaDoor
open Go.RowKit
set_option maxRecDepth 100000

set_option maxHeartbeats 1000000 in
theorem samePtC (a a' : Option Addr) (n c c' : Nat) (xs : List Int) (b b' : Option Addr) (m d d' : Nat) (ys : List Int) (w : World) (h : Is w a n c xs) (h' : Is w a' n c' xs) (g : Is w b m d ys) (g' : Is w b' m d' ys) (hn : n ≤ 2097152) (hm : m ≤ 2097152) :
    Calls Tryd.prog 21 #[.agg #[.slice a n c, .slice b m d], .agg #[.slice a' n c', .slice b' m d']] w fun e w' => e = .returned (.bool true) ∧ Below w.heap.size w w' := by
  obtain ⟨W, hW⟩ : ∃ W, W = (w.alloc (.cells #[.slice a n c, .slice b m d] 27)).alloc (.cells #[.slice a' n c', .slice b' m d'] 27) := ⟨_, rfl⟩
  have fr : Below w.heap.size w W := by rw [hW]; exact ((Below.refl _ _).alloc (Nat.le_refl _) _).alloc (by simp) _
  have pa : Arr W w.heap.size 27 [.slice a n c, .slice b m d] := by rw [hW]; exact (Arr.new w [.slice a n c, .slice b m d] _).alloc _
  have pb : Arr W (w.heap.size + 1) 27 [.slice a' n c', .slice b' m d'] := by
    rw [hW]
    have := Arr.new (w.alloc (.cells #[.slice a n c, .slice b m d] 27)) [.slice a' n c', .slice b' m d'] 27
    rw [World.size_alloc] at this
    exact this
  go_enter Tryd.func21, Tryd.ntmps21
  go_upto_region 1 with fail
  rw [← hW]
  clear hW
  have c0 : W.cell? ⟨w.heap.size, 0, none⟩ = some (.slice a n c) := pa.cell 0
  have d0 : W.cell? ⟨w.heap.size + 1, 0, none⟩ = some (.slice a' n c') := pb.cell 0
  go_wp2_with fail
  refine (sameIntsT a a' n c c' xs _ (h.below fr) (h'.below fr) hn).mono ?_
  rintro e w1 ⟨q1, rfl, hw1⟩
  have hb1 : Below W.heap.size W w1 := by rw [hw1]; exact bel_drewN _ _
  replace fr := fr.trans (hb1.mono fr.size)
  replace pa := pa.kept hb1
  replace pb := pb.kept hb1
  clear c0 d0 hb1 hw1
  have c1 : w1.cell? ⟨w.heap.size, 1, none⟩ = some (.slice b m d) := pa.cell 1
  have d1 : w1.cell? ⟨w.heap.size + 1, 1, none⟩ = some (.slice b' m d') := pb.cell 1
  go_wp2_with fail
  refine (sameIntsT b b' m d d' ys _ (g.below fr) (g'.below fr) hm).mono ?_
  rintro e w2 ⟨q2, rfl, hw2⟩
  have hb2 : Below w1.heap.size w1 w2 := by rw [hw2]; exact bel_drewN _ _
  replace fr := fr.trans (hb2.mono fr.size)
  clear c1 d1 hb2 pa pb hw2
  go_wp2
  go_ret
  exact ⟨rfl, fr⟩


end Go.Proofs.YtoblilngppjmhaaDoor
namespace Go.Proofs.YtoblilngppjmhaaDoor
open Go.RowKit
set_option maxRecDepth 100000
set_option maxHeartbeats 4000000
set_option linter.unusedSectionVars false

theorem cx_len (k : KF) : (cx k).length = 16 := lim_len _ _
theorem cx_int (k : KF) : ∀ x ∈ cx k, -9223372036854775808 ≤ x ∧ x ≤ 9223372036854775807 := fun x hx => by have := lim_lm _ _ x hx; omega
/-- Two lists of sixteen parts that are a point. -/
structure PI (W : World) (a : Option Addr) (c : Nat) (b : Option Addr) (d : Nat) (P : KF × KF) : Prop where
  x : Is W a 16 c (cx P.1)
  y : Is W b 16 d (cx P.2)
theorem PI.below {A B : World} {a b : Option Addr} {c d : Nat} {P : KF × KF} (h : PI A a c b d P) (hb : Below A.heap.size A B) : PI B a c b d P := ⟨h.x.below hb, h.y.below hb⟩
/-- A point that a call has answered. -/
theorem PI.of {w W : World} {v : Value} {xs ys : List Int} {P : KF × KF} (h : PtT 70 w W v xs ys) (hx : xs = cx P.1) (hy : ys = cx P.2) : ∃ a c b d, v = .agg #[.slice a 16 c, .slice b 16 d] ∧ PI W a c b d P := by
  subst hx hy
  obtain ⟨a, c, b, d, rfl, o1, o2, _⟩ := h
  have i1 := is_of_own o1 (cx_int _)
  have i2 := is_of_own o2 (cx_int _)
  rw [cx_len] at i1 i2
  exact ⟨a, c, b, d, by rw [cx_len, cx_len], i1, i2⟩
section
variable [NeZero pN]
theorem okpt {P : KF × KF} (h : On dK P) : ptOk (cx P.1) (cx P.2) = true := pt_ok h
theorem okPOk (a : Option Addr) (c : Nat) (b : Option Addr) (d : Nat) (P : KF × KF) (w : World) (h : PI w a c b d P) (hP : On dK P) (hV : Vr w 4 (I64 PL)) (hD : Vr w 2 (I64 DL)) :
    Calls Tryd.prog 18 #[.agg #[.slice a 16 c, .slice b 16 d]] w fun e w' => e = .returned (.bool true) ∧ Below w.heap.size w w' := by
  have := implPtOk a 16 c (cx P.1) b 16 d (cx P.2) w h.x h.y hV hD
  rw [okpt hP] at this
  exact this
theorem okSame (a : Option Addr) (c : Nat) (b : Option Addr) (d : Nat) (a' : Option Addr) (c' : Nat) (b' : Option Addr) (d' : Nat) (P Q : KF × KF) (w : World) (h : PI w a c b d P) (k : PI w a' c' b' d' Q) (e : P = Q) :
    Calls Tryd.prog 21 #[.agg #[.slice a 16 c, .slice b 16 d], .agg #[.slice a' 16 c', .slice b' 16 d']] w fun e w' => e = .returned (.bool true) ∧ Below w.heap.size w w' := by
  subst e
  exact samePtC a a' 16 c c' (cx P.1) b b' 16 d d' (cx P.2) w h.x k.x h.y k.y (by omega) (by omega)
end
end Go.Proofs.YtoblilngppjmhaaDoor
