/-
  What is proved here: plain mathematics: whole numbers modulo 2^255 - 19 as residues, their inverses, and that the number d of the curve is no square; no program is spoken of; what the lists of the specification stand for: numbers of the field, points in the long form, the curve; no program is spoken of; what the specification makes of a multiplier and a point is so many times the point; no program is spoken of; sums and doubles of points as the program makes them in the long form stand for the sum of the points; no program is spoken of; contracts of the program's method below on limbs: which of two numbers is less.
-/
import Derived.Test.YtoblilngppjmhaaDoorZPn
import Derived.Test.YtoblilngppjmhaaDoorZSmBI
import Derived.Test.YtoblilngppjmhaaDoorZUe
import Derived.Test.YtoblilngppjmhaaDoorZUh
import Derived.Test.YtoblilngppjmhaaDoorZJa
import Derived.Test.YtoblilngppjmhaaDoorZFn
namespace Go.Proofs.YtoblilngppjmhaaDoor
set_option maxRecDepth 100000
set_option maxHeartbeats 4000000

/-- The field's numbers, as residues. -/
abbrev KF := Fin pN
theorem pN_ne : pN ≠ 0 := by unfold pN; decide
theorem nzP : NeZero pN := ⟨pN_ne⟩
/-- A whole number as one of the field. -/
def fe (x : Int) : KF := ⟨(x % P25519).toNat, by
  have h0 := Int.emod_nonneg x (show P25519 ≠ 0 by unfold P25519; decide)
  have h1 := Int.emod_lt_of_pos x (show 0 < P25519 by unfold P25519; decide)
  have h2 : ((x % P25519).toNat : Int) < (pN : Int) := by rw [pN_int]; omega
  exact Int.ofNat_lt.1 h2⟩
theorem fe_val (x : Int) : ((fe x).val : Int) = x % P25519 := by
  have h0 := Int.emod_nonneg x (show P25519 ≠ 0 by unfold P25519; decide)
  show ((x % P25519).toNat : Int) = _
  omega
theorem kf_ext {a b : KF} (h : ((a.val : Nat) : Int) = ((b.val : Nat) : Int)) : a = b := Fin.ext (Int.ofNat.inj h)
theorem fe_eq {x y : Int} : fe x = fe y ↔ x % P25519 = y % P25519 := by
  constructor
  · intro h; rw [← fe_val, ← fe_val, h]
  · intro h; apply kf_ext; rw [fe_val, fe_val, h]
theorem fe_add (x y : Int) : fe (x + y) = fe x + fe y := by
  apply kf_ext
  rw [fe_val, Fin.val_add]
  rw [Int.natCast_emod, Int.natCast_add, fe_val, fe_val, pN_int, ← Int.add_emod]
theorem fe_mul (x y : Int) : fe (x * y) = fe x * fe y := by
  apply kf_ext
  rw [fe_val, Fin.val_mul]
  rw [Int.natCast_emod, Int.natCast_mul, fe_val, fe_val, pN_int, ← Int.mul_emod]
theorem fe_mod (x : Int) : fe (x % P25519) = fe x := fe_eq.2 (Int.emod_emod _ _)
theorem fe_back (a : KF) : fe (a.val : Int) = a := by
  apply kf_ext
  rw [fe_val, ← pN_int]
  exact Int.emod_eq_of_lt (Int.natCast_nonneg _) (Int.ofNat_lt.2 a.isLt)
theorem fe_pow (x : Int) : ∀ n : Nat, fe (x ^ n) = fe ((x % P25519) ^ n)
  | 0 => by rw [Int.pow_zero, Int.pow_zero]
  | n + 1 => by rw [Int.pow_succ, Int.pow_succ, fe_mul, fe_mul, fe_pow x n, fe_mod]
/-- The inverse, as a power. -/
def ivK (a : KF) : KF := fe ((a.val : Int) ^ eInv)
theorem ivK_fe (x : Int) : ivK (fe x) = fe (x ^ eInv) := by
  unfold ivK
  rw [fe_val, ← fe_pow]
/-- The number d of the curve, and a root of the opposite of one. -/
def dN : Nat := 37095705934669439343138083508754565189542113879843219016388785533085940283555
def dK : KF := fe (dN : Int)
def iK : KF := fe (qN : Int)
theorem two_gen {x : Int} (h0 : 0 ≤ x) (h1 : x < P25519) (h : (x + x) % P25519 = 0) : x = 0 := by
  have hp : 0 < P25519 := by unfold P25519; decide
  have e := Int.emod_add_mul_ediv (x + x) P25519
  have k0 : 0 ≤ (x + x) / P25519 := Int.ediv_nonneg (by omega) (by omega)
  have k1 : (x + x) / P25519 < 2 := Int.ediv_lt_of_lt_mul hp (by omega)
  rw [h, Int.zero_add] at e
  have hk : (x + x) / P25519 = 0 ∨ (x + x) / P25519 = 1 := by omega
  rcases hk with hk | hk
  · rw [hk] at e; omega
  · rw [hk, Int.mul_one] at e
    have hodd : P25519 % 2 = 1 := by decide
    omega
theorem nsq_gen {p D H s t : Nat} (hp : Pri p) (hH : p - 1 = 2 * H) (hD : D ^ H % p = p - 1) (h2p : 2 < p) (ht : ¬ p ∣ t) (h : s * s % p = D * (t * t) % p) : False := by
  have pw2 : ∀ s : Nat, (s * s) ^ H = s ^ (p - 1) := fun s => by rw [hH, Nat.pow_mul, Nat.pow_two]
  have h2 : (s * s) ^ H % p = (D * (t * t)) ^ H % p := by rw [Nat.pow_mod, h, ← Nat.pow_mod]
  rw [pw2 s, Nat.mul_pow D, pw2 t, Nat.mul_mod, hp.one ht, hD, Nat.mul_one, Nat.mod_eq_of_lt (show p - 1 < p by omega)] at h2
  by_cases hs : p ∣ s
  · have h3 : s ^ (p - 1) % p = 0 := by
      obtain ⟨k, hk⟩ := hs
      rw [hk, show p - 1 = (p - 2) + 1 by omega, Nat.pow_succ, Nat.mul_comm, Nat.mul_assoc, Nat.mul_mod_right]
    omega
  · have := hp.one hs
    omega
/-- d to the power (p - 1) / 2 is the opposite of one. -/
def hP : Nat := 28948022309329048855892746252171976963317496166410141009864396001978282409974
theorem pw_gen {n a f e r : Nat} (h1 : 1 < n) (h2 : e < 2 ^ f) (h : pw n a f e = r) : a ^ e % n = r := (pw_eq h1 f e h2).symm.trans h
theorem one_lt_pN : 1 < pN := by unfold pN; decide
theorem two_lt_pN : 2 < pN := by unfold pN; decide
theorem hP_lt : hP < 2 ^ 255 := by unfold hP; decide
theorem hP_two : pN - 1 = 2 * hP := by unfold pN hP; decide
theorem dN_pw : pw pN dN 255 hP = pN - 1 := by decide +kernel
theorem dN_half : dN ^ hP % pN = pN - 1 := pw_gen one_lt_pN hP_lt dN_pw
theorem dK_val : dK.val = dN := by
  apply Int.ofNat.inj
  show ((fe (dN : Int)).val : Int) = (dN : Int)
  rw [fe_val]
  decide
section
variable [NeZero pN]
theorem fe_zero : fe 0 = 0 := by
  apply kf_ext
  rw [fe_val]
  rfl
theorem fe_one : fe 1 = 1 := by
  apply kf_ext
  rw [fe_val]
  rfl
theorem fe_sub (x y : Int) : fe (x - y) = fe x - fe y := by
  have h : fe (x - y) + fe y = fe x := by rw [← fe_add]; congr 1; omega
  rw [← h]
  grind
theorem fe_nz {x : Int} : fe x = 0 ↔ x % P25519 = 0 := by
  rw [← fe_zero, fe_eq]
  rfl
theorem ivK_inv (a : KF) (h : a ≠ 0) : a * ivK a = 1 := by
  have h0 : 0 < (a.val : Int) := by
    have : a.val ≠ 0 := fun e => h (Fin.ext (by rw [e]; rfl))
    omega
  have h1 : (a.val : Int) < P25519 := by rw [← pN_int]; exact Int.ofNat_lt.2 a.isLt
  have h2 := inv_int h0 h1
  have h3 : fe ((a.val : Int) * (a.val : Int) ^ eInv) = fe 1 := fe_eq.2 (by rw [h2]; rfl)
  rw [fe_mul, fe_back, fe_one] at h3
  exact h3
theorem im_K : iK * iK + 1 = 0 := by
  unfold iK
  rw [← fe_mul, ← fe_one, ← fe_add, fe_nz]
  decide +kernel
theorem one_K : (1 : KF) ≠ 0 := by
  rw [← fe_one, Ne, fe_nz]
  decide
theorem two_K (a : KF) (h : a + a = 0) : a = 0 := by
  have h1 : (a.val : Int) < P25519 := by rw [← pN_int]; exact Int.ofNat_lt.2 a.isLt
  have h2 := Int.natCast_nonneg a.val
  have h3 : ((a.val : Int) + (a.val : Int)) % P25519 = 0 := by
    rw [← fe_nz, fe_add, fe_back]
    exact h
  have h4 := two_gen h2 h1 h3
  rw [← fe_back a, h4, fe_zero]
theorem nsq_K (s t : KF) (h : s * s = dK * (t * t)) : t = 0 := by
  apply Classical.byContradiction
  intro ht
  have htv : ¬ pN ∣ t.val := fun e => ht (Fin.ext (by
    have := Nat.eq_zero_of_dvd_of_lt e t.isLt
    rw [this]; rfl))
  have h1 : s.val * s.val % pN = dN * (t.val * t.val) % pN := by
    have := congrArg Fin.val h
    rw [Fin.val_mul, Fin.val_mul, Fin.val_mul, dK_val, Nat.mul_mod_mod] at this
    exact this
  exact nsq_gen pri_pN hP_two dN_half two_lt_pN htv h1
theorem crvK : Crv dK iK ivK := ⟨im_K, one_K, two_K, nsq_K, ivK_inv⟩
end
end Go.Proofs.YtoblilngppjmhaaDoor
namespace Go.Proofs.YtoblilngppjmhaaDoor
open Go.RowKit
set_option maxRecDepth 100000
set_option maxHeartbeats 4000000
set_option linter.unusedSectionVars false

/-- A list as a number of the field. -/
def fl (l : List Int) : KF := fe (val l)
theorem fl_red (x : Int) : fl (red x) = fe x := by unfold fl; rw [val_red, fe_mod]
theorem fl_inj {a b : List Int} (ha : feOk a = true) (hb : feOk b = true) (h : fl a = fl b) : a = b := by
  obtain ⟨a1, a2, a3⟩ := (feOk_iff a).1 ha
  obtain ⟨b1, b2, b3⟩ := (feOk_iff b).1 hb
  have na := val_nonneg (fun x hx => (a2 x hx).1)
  have nb := val_nonneg (fun x hx => (b2 x hx).1)
  have e := fe_eq.1 h
  rw [Int.emod_eq_of_lt na a3, Int.emod_eq_of_lt nb b3] at e
  have la := lim_val a a2
  have lb := lim_val b b2
  rw [a1] at la
  rw [b1] at lb
  rw [← la, ← lb, e]
/-- The list of a number of the field. -/
def cx (k : KF) : List Int := lim 16 (k.val : Int)
theorem cx_lt (k : KF) : 0 ≤ (k.val : Int) ∧ (k.val : Int) < P25519 := ⟨Int.natCast_nonneg _, by rw [← pN_int]; exact Int.ofNat_lt.2 k.isLt⟩
theorem cx_val (k : KF) : val (cx k) = (k.val : Int) := by
  have h := cx_lt k
  unfold cx
  rw [val_lim, p256]
  have h2 := h.2
  unfold P25519 at h2
  exact Int.emod_eq_of_lt h.1 (Int.lt_trans h2 (by decide))
theorem cx_ok (k : KF) : feOk (cx k) = true := (feOk_iff _).2 ⟨lim_len _ _, lim_lm _ _, by rw [cx_val]; exact (cx_lt k).2⟩
theorem fl_cx (k : KF) : fl (cx k) = k := by unfold fl; rw [cx_val, fe_back]
theorem cx_fl {l : List Int} (h : feOk l = true) : cx (fl l) = l := fl_inj (cx_ok _) h (fl_cx _)
theorem DL_val : val DL = (dN : Int) := by decide
section
variable [NeZero pN]
theorem fl_DL : fl DL = dK := by unfold fl dK; rw [DL_val]
theorem fl_one : fl (lim 16 1) = 1 := by
  have h : val (lim 16 1) = 1 := by decide
  unfold fl; rw [h, fe_one]
theorem fl_zero : fl (lim 16 0) = 0 := by
  have h : val (lim 16 0) = 0 := by decide
  unfold fl; rw [h, fe_zero]
theorem fl_mul (x y : List Int) : fl (red (val x * val y)) = fl x * fl y := by rw [fl_red, fe_mul]; rfl
theorem fl_add (x y : List Int) : fl (red (val x + val y)) = fl x + fl y := by rw [fl_red, fe_add]; rfl
theorem fl_sub (x y : List Int) : fl (red (val x - val y)) = fl x - fl y := by rw [fl_red, fe_sub]; rfl
theorem fl_inv (c : List Int) : fl (invF c) = ivK (fl c) := by
  unfold invF
  rw [fl_red]
  exact (ivK_fe (val c)).symm
/-- What a point in the long form stands for. -/
def Ext6 (P : E4) (p : KF × KF) : Prop := Ext (fl P.a) (fl P.b) (fl P.c) (fl P.t) p
theorem ext6_make (x y : List Int) : Ext6 (mk6 x y) (fl x, fl y) := by
  have h := Ext.make crvK (fl x) (fl y)
  unfold Ext6
  show Ext (fl x) (fl y) (fl (lim 16 1)) (fl (red (val x * val y))) _
  rw [fl_one, fl_mul]
  exact h
theorem ext6_add {P Q : E4} {p q : KF × KF} (h1 : Ext6 P p) (h2 : Ext6 Q q) (o1 : On dK p) (o2 : On dK q) : Ext6 (add6 P Q) (pAdd dK ivK p q) := by
  unfold Ext6 add6
  simp only [fl_mul, fl_add, fl_sub, fl_DL]
  exact Ext.add crvK h1 h2 o1 o2 rfl rfl rfl rfl rfl rfl rfl rfl
theorem ext6_neg {P : E4} {p : KF × KF} (h : Ext6 P p) : Ext6 (neg6 P) (pNeg p) := by
  unfold Ext6 neg6
  simp only [fl_sub, fl_zero]
  exact Ext.neg h
theorem ext6_flat {P : E4} {p : KF × KF} (h : Ext6 P p) : flx P = cx p.1 ∧ fly P = cx p.2 := by
  have hf := Ext.flat crvK h
  constructor
  · refine fl_inj (ok_red _) (cx_ok _) ?_
    unfold flx
    rw [fl_mul, fl_inv, fl_cx]; exact hf.1
  · refine fl_inj (ok_red _) (cx_ok _) ?_
    unfold fly
    rw [fl_mul, fl_inv, fl_cx]; exact hf.2
theorem onB_iff (x y : List Int) : onB x y = true ↔ On dK (fl x, fl y) := by
  unfold onB On
  rw [decide_eq_true_eq]
  have e1 : fl (onL x y) = fl y * fl y - fl x * fl x := by unfold onL; rw [fl_sub, fl_mul, fl_mul]
  have e2 : fl (onR x y) = 1 + dK * (fl x * fl x * (fl y * fl y)) := by unfold onR; rw [fl_add, fl_mul, fl_mul, fl_mul, fl_mul, fl_one, fl_DL]
  constructor
  · intro h
    have := congrArg fl h
    rw [e1, e2] at this
    show fl y * fl y - fl x * fl x = 1 + dK * (fl x * fl x) * (fl y * fl y)
    rw [this]
    grind
  · intro h
    refine fl_inj (ok_red _) (ok_red _) ?_
    show fl (onL x y) = fl (onR x y)
    rw [e1, e2]
    have h' : fl y * fl y - fl x * fl x = 1 + dK * (fl x * fl x) * (fl y * fl y) := h
    rw [h']
    grind
end
end Go.Proofs.YtoblilngppjmhaaDoor
namespace Go.Proofs.YtoblilngppjmhaaDoor
open Go.RowKit
set_option maxRecDepth 100000
set_option maxHeartbeats 4000000
set_option linter.unusedSectionVars false

section
variable [NeZero pN]
theorem ext6_zero : Ext6 zero6 pZero := by
  have h := ext6_make (lim 16 0) (lim 16 1)
  rw [fl_zero, fl_one] at h
  exact h
/-- The bits from the highest on: what has been made of them so far. -/
theorem ext6_mst {P : E4} {p : KF × KF} (h : Ext6 P p) (o : On dK p) (N : Nat) (hN : N < 2 ^ 256) : ∀ n, n ≤ 256 → Ext6 (mst P N n).1 (pMul dK ivK (N / 2 ^ (256 - n)) p) ∧ ((mst P N n).2 = false → N / 2 ^ (256 - n) = 0)
  | 0, _ => by
    have e : N / 2 ^ (256 - 0) = 0 := Nat.div_eq_of_lt hN
    rw [e]
    exact ⟨ext6_zero, fun _ => rfl⟩
  | n + 1, hn => by
    obtain ⟨ih1, ih2⟩ := ext6_mst h o N hN n (by omega)
    have hb := crvK.mul_bit o N (255 - n)
    have e1 : 256 - (n + 1) = 255 - n := by omega
    have e2 : 256 - n = 255 - n + 1 := by omega
    rw [e2] at ih1 ih2
    rw [e1, hb]
    obtain ⟨M, hM⟩ : ∃ M, M = N / 2 ^ (255 - n + 1) := ⟨_, rfl⟩
    rw [← hM] at ih1 ih2 ⊢
    have om := crvK.on_mul o M
    have hr : Ext6 (if (mst P N n).2 = true then add6 (mst P N n).1 (mst P N n).1 else (mst P N n).1) (pAdd dK ivK (pMul dK ivK M p) (pMul dK ivK M p)) := by
      split
      · exact ext6_add ih1 ih1 om om
      · rename_i hf
        have h0 := ih2 (by simpa using hf)
        rw [h0] at ih1 ⊢
        show Ext6 _ (pAdd dK ivK pZero pZero)
        rw [crvK.add_zero]
        exact ih1
    have e3 : N / 2 ^ (255 - n) / 2 = M := by rw [hM, Nat.pow_succ, Nat.div_div_eq_div_mul]
    by_cases hbit : N / 2 ^ (255 - n) % 2 = 1
    · rw [mst_one hbit, if_pos hbit]
      exact ⟨ext6_add hr h (crvK.on_add om om) o, fun hf => by cases hf⟩
    · rw [mst_nil hbit, if_neg hbit]
      refine ⟨hr, fun hf => ?_⟩
      have := ih2 hf
      omega
theorem ext6_mul {P : E4} {p : KF × KF} (h : Ext6 P p) (o : On dK p) (N : Nat) (hN : N < 2 ^ 256) : Ext6 (mul6 P N) (pMul dK ivK N p) := by
  have := (ext6_mst h o N hN 256 (by omega)).1
  rw [Nat.sub_self, Nat.pow_zero, Nat.div_one] at this
  exact this
end
end Go.Proofs.YtoblilngppjmhaaDoor
namespace Go.Proofs.YtoblilngppjmhaaDoor
open Go.RowKit
set_option maxRecDepth 100000
set_option maxHeartbeats 4000000
set_option linter.unusedSectionVars false

section
variable {p : Nat} [NeZero p] {d i : Fin p} {iv : Fin p → Fin p}
theorem jnF (x1 y1 c1 x2 y2 c2 : Fin p) : x1 * c1 * (y2 * c2) + y1 * c1 * (x2 * c2) = c1 * c2 * (x1 * y2 + y1 * x2) := by grind
theorem jnK (x1 y1 c1 x2 y2 c2 : Fin p) : y1 * c1 * (y2 * c2) + x1 * c1 * (x2 * c2) = c1 * c2 * (y1 * y2 + x1 * x2) := by grind
theorem jnH (x1 y1 c1 x2 y2 c2 d : Fin p) : c1 * c2 + d * (x1 * y1 * c1 * (x2 * y2 * c2)) = c1 * c2 * (1 + d * (x1 * x2 * y1 * y2)) := by grind
theorem jnG (x1 y1 c1 x2 y2 c2 d : Fin p) : c1 * c2 - d * (x1 * y1 * c1 * (x2 * y2 * c2)) = c1 * c2 * (1 - d * (x1 * x2 * y1 * y2)) := by grind
theorem jn2 {f v : Fin p} (hv : f * v = 1) (k b g : Fin p) : k * b * (k * g) = b * v * (k * f * (k * g)) := by grind
/-- Four numbers that are so many times the two sums and the two divisors of a sum stand for it. -/
theorem Ext.long (C : Crv d i iv) {P Q : Fin p × Fin p} (o1 : On d P) (o2 : On d Q) {k F K H G : Fin p} (hk : k ≠ 0) (hF : F = k * (P.1 * Q.2 + P.2 * Q.1)) (hK : K = k * (P.2 * Q.2 + P.1 * Q.1))
    (hH : H = k * (1 + d * (P.1 * Q.1 * P.2 * Q.2))) (hG : G = k * (1 - d * (P.1 * Q.1 * P.2 * Q.2))) : Ext (F * G) (K * H) (G * H) (F * K) (pAdd d iv P Q) := by
  obtain ⟨x1, y1⟩ := P
  obtain ⟨x2, y2⟩ := Q
  have hn := C.ne o1 o2
  have hu := C.inv _ hn.1
  have hv := C.inv _ hn.2
  simp only at hF hK hH hG
  have hz : G * H ≠ 0 := by
    rw [hG, hH]
    exact C.nz_mul (C.nz_mul hk hn.2) (C.nz_mul hk hn.1)
  clear hn o1 o2
  simp only [pAdd]
  generalize iv (1 + d * (x1 * x2 * y1 * y2)) = u at *
  generalize iv (1 - d * (x1 * x2 * y1 * y2)) = v at *
  refine ⟨?_, ?_, ?_, hz⟩
  · rw [hF, hG, hH]; exact ext1 hu _ _ _
  · rw [hK, hG, hH]; exact jn2 hv _ _ _
  · rw [hF, hK, hG, hH]; exact ext3 hu hv _ _ _
theorem Ext.join (C : Crv d i iv) {a1 b1 c1 t1 a2 b2 c2 t2 : Fin p} {P Q : Fin p × Fin p} (h1 : Ext a1 b1 c1 t1 P) (h2 : Ext a2 b2 c2 t2 Q) (o1 : On d P) (o2 : On d Q) :
    Ext ((a1 * b2 + b1 * a2) * (c1 * c2 - d * (t1 * t2))) ((b1 * b2 + a1 * a2) * (c1 * c2 + d * (t1 * t2))) ((c1 * c2 - d * (t1 * t2)) * (c1 * c2 + d * (t1 * t2))) ((a1 * b2 + b1 * a2) * (b1 * b2 + a1 * a2)) (pAdd d iv P Q) := by
  refine Ext.long C o1 o2 (C.nz_mul h1.hc h2.hc) ?_ ?_ ?_ ?_
  · rw [h1.ha, h1.hb, h2.ha, h2.hb]; exact jnF ..
  · rw [h1.ha, h1.hb, h2.ha, h2.hb]; exact jnK ..
  · rw [h1.ht, h2.ht]; exact jnH ..
  · rw [h1.ht, h2.ht]; exact jnG ..
theorem dbF (x y c : Fin p) : x * c * (y * c) + x * c * (y * c) = c * c * (x * y + y * x) := by grind
theorem dbK (x y c : Fin p) : x * c * (x * c) + y * c * (y * c) = c * c * (y * y + x * x) := by grind
theorem dbH (x y c d : Fin p) (h : y * y - x * x = 1 + d * (x * x) * (y * y)) : y * c * (y * c) - x * c * (x * c) = c * c * (1 + d * (x * x * y * y)) := by
  have e : y * c * (y * c) - x * c * (x * c) = c * c * (y * y - x * x) := by grind
  rw [e, h]
  grind
theorem dbG (x y c d : Fin p) : c * c + c * c - c * c * (1 + d * (x * x * y * y)) = c * c * (1 - d * (x * x * y * y)) := by grind
theorem Ext.twice (C : Crv d i iv) {a b c t : Fin p} {P : Fin p × Fin p} (h : Ext a b c t P) (o : On d P) :
    Ext ((a * b + a * b) * (c * c + c * c - (b * b - a * a))) ((a * a + b * b) * (b * b - a * a)) ((c * c + c * c - (b * b - a * a)) * (b * b - a * a)) ((a * b + a * b) * (a * a + b * b)) (pAdd d iv P P) := by
  have e : b * b - a * a = c * c * (1 + d * (P.1 * P.1 * P.2 * P.2)) := by rw [h.ha, h.hb]; exact dbH _ _ _ _ o
  refine Ext.long C o o (C.nz_mul h.hc h.hc) ?_ ?_ ?_ ?_
  · rw [h.ha, h.hb]; exact dbF ..
  · rw [h.ha, h.hb]; exact dbK ..
  · exact e
  · rw [e]; exact dbG ..
end
/-- What the program makes of two points. -/
def long6 (f k h g : List Int) : E4 := ⟨red (val f * val g), red (val k * val h), red (val g * val h), red (val f * val k)⟩
theorem long6_ok (f k h g : List Int) : (long6 f k h g).Ok := ⟨ok_red _, ok_red _, ok_red _, ok_red _⟩
def join6 (P Q : E4) : E4 :=
  let one := red (val P.c * val Q.c)
  let prod := red (val DL * val (red (val P.t * val Q.t)))
  long6 (red (val (red (val P.a * val Q.b)) + val (red (val P.b * val Q.a)))) (red (val (red (val P.b * val Q.b)) + val (red (val P.a * val Q.a)))) (red (val one + val prod)) (red (val one - val prod))
def dbl6 (P : E4) : E4 :=
  let xx := red (val P.a * val P.a)
  let yy := red (val P.b * val P.b)
  let one := red (val P.c * val P.c)
  let xy := red (val P.a * val P.b)
  let plus := red (val yy - val xx)
  long6 (red (val xy + val xy)) (red (val xx + val yy)) plus (red (val (red (val one + val one)) - val plus))
section
variable [NeZero pN]
theorem ext6_join {P Q : E4} {p q : KF × KF} (h1 : Ext6 P p) (h2 : Ext6 Q q) (o1 : On dK p) (o2 : On dK q) : Ext6 (join6 P Q) (pAdd dK ivK p q) := by
  unfold Ext6 join6 long6
  simp only [fl_mul, fl_add, fl_sub, fl_DL]
  exact Ext.join crvK h1 h2 o1 o2
theorem ext6_dbl {P : E4} {p : KF × KF} (h : Ext6 P p) (o : On dK p) : Ext6 (dbl6 P) (pAdd dK ivK p p) := by
  unfold Ext6 dbl6 long6
  simp only [fl_mul, fl_add, fl_sub]
  exact Ext.twice crvK h o
end
/-- How far the program has come with the bits of a number, from the bit 252 on. -/
def jst (P : E4) (N : Nat) : Nat → E4
  | 0 => mk6 (lim 16 0) (lim 16 1)
  | n + 1 => if N / 2 ^ (252 - n) % 2 = 1 then join6 (dbl6 (jst P N n)) P else dbl6 (jst P N n)
theorem jst_ok (P : E4) (N : Nat) : ∀ n, (jst P N n).Ok
  | 0 => mk6_ok zero_ok one_ok
  | n + 1 => by
    rw [jst]
    split
    · exact long6_ok _ _ _ _
    · exact long6_ok _ _ _ _
def jul6 (P : E4) (N : Nat) : E4 := jst P N 253
section
variable [NeZero pN]
theorem ext6_jst {P : E4} {p : KF × KF} (h : Ext6 P p) (o : On dK p) (N : Nat) (hN : N < 2 ^ 253) : ∀ n, n ≤ 253 → Ext6 (jst P N n) (pMul dK ivK (N / 2 ^ (253 - n)) p)
  | 0, _ => by
    have e : N / 2 ^ (253 - 0) = 0 := Nat.div_eq_of_lt hN
    rw [e]
    exact ext6_zero
  | n + 1, hn => by
    have ih := ext6_jst h o N hN n (by omega)
    have hb := crvK.mul_bit o N (252 - n)
    have e1 : 253 - (n + 1) = 252 - n := by omega
    have e2 : 253 - n = 252 - n + 1 := by omega
    rw [e2] at ih
    rw [e1, hb, jst]
    have om := crvK.on_mul o (N / 2 ^ (252 - n + 1))
    split
    · exact ext6_join (ext6_dbl ih om) h (crvK.on_add om om) o
    · exact ext6_dbl ih om
theorem ext6_jul {P : E4} {p : KF × KF} (h : Ext6 P p) (o : On dK p) (N : Nat) (hN : N < 2 ^ 253) : Ext6 (jul6 P N) (pMul dK ivK N p) := by
  have := ext6_jst h o N hN 253 (by omega)
  rw [Nat.sub_self, Nat.pow_zero, Nat.div_one] at this
  exact this
end
end Go.Proofs.YtoblilngppjmhaaDoor
namespace Go.Proofs.YtoblilngppjmhaaDoor
open Go.RowKit
set_option maxRecDepth 100000

set_option maxHeartbeats 1000000 in
theorem implBelow (a b : List Int) (w : World) (ha : a.length = 16) (hb : b.length = 16) (la : Lm a) (lb : Lm b) :
    Calls Tryd.prog 118 #[.agg (I64 a).toArray, .agg (I64 b).toArray] w fun e w' => e = .returned (.bool (decide (val a < val b))) ∧ Below w.heap.size w w' := by
  obtain ⟨A, hA⟩ : ∃ A, A = (I64 a).toArray := ⟨_, rfl⟩
  obtain ⟨B, hB⟩ : ∃ B, B = (I64 b).toArray := ⟨_, rfl⟩
  rw [← hA, ← hB]
  obtain ⟨W, hW⟩ : ∃ W, W = (w.alloc (.cells A 70)).alloc (.cells B 70) := ⟨_, rfl⟩
  have h0 : Arr W w.heap.size 70 (I64 a) := by rw [hW, hA]; exact (Arr.new w (I64 a) _).alloc _
  have h1 : Arr W (w.heap.size + 1) 70 (I64 b) := by
    rw [hW, hB]
    have := Arr.new (w.alloc (.cells A 70)) (I64 b) 70
    rw [World.size_alloc] at this
    exact this
  have hBl : Below w.heap.size w W := by rw [hW]; exact ((Below.refl _ _).alloc (Nat.le_refl _) _).alloc (by simp) _
  obtain ⟨r, hr⟩ : ∃ r, r = decide (val a < val b) := ⟨_, rfl⟩
  rw [← hr]
  have HR : Hid _ := hr
  have HA : Hid _ := hA
  have HB' : Hid _ := hB
  clear hr hA hB
  go_enter Tryd.func118, Tryd.ntmps118
  go_wp2
  rw [← hW]
  clear hW
  go_loopw [5] (fun i wr => ∃ (k : Nat) (j : Int), k ≤ 16 ∧ j = 15 - (k : Int) ∧ i = .int .i64 j ∧ a.drop (16 - k) = b.drop (16 - k) ∧ Arr wr w.heap.size 70 (I64 a) ∧ Arr wr (w.heap.size + 1) 70 (I64 b) ∧ Below w.heap.size w wr) (fun i _ => (intOf i + 1).toNat)
  case atStart => exact ⟨0, 15, by omega, by omega, rfl, by rw [List.drop_eq_nil_of_le (by omega), List.drop_eq_nil_of_le (by omega)], h0, h1, hBl⟩
  case round =>
    clear h0 h1 hBl
    obtain ⟨k, j, hk, hj, rfl, hd, h0, h1, hBl⟩ := hrel
    by_cases hlt : k < 16
    · obtain ⟨i, rfl⟩ : ∃ i : Nat, j = (i : Int) := ⟨15 - k, by omega⟩
      have hi : 16 - k = i + 1 := by omega
      rw [hi] at hd
      obtain ⟨x, hx⟩ : ∃ x, x = a.getD i 0 := ⟨_, rfl⟩
      obtain ⟨y, hy⟩ : ∃ y, y = b.getD i 0 := ⟨_, rfl⟩
      have cx : wr.cell? ⟨w.heap.size, i, none⟩ = some (.int .i64 x) := by rw [hx]; exact h0.i64 i (by omega)
      have cy : wr.cell? ⟨w.heap.size + 1, i, none⟩ = some (.int .i64 y) := by rw [hy]; exact h1.i64 i (by omega)
      have hi16 : (i : Int) < 16 := by omega
      have hi0 : (0 : Int) ≤ (i : Int) := by omega
      have s5 : wrap64 ((i : Int) - 1) = (i : Int) - 1 := by unfold wrap64; omega
      have HJ : Hid _ := hj
      by_cases hne : x = y
      · have hd' : a.drop i = b.drop i := by
          rw [List.drop_eq_getElem_cons (by omega), List.drop_eq_getElem_cons (l := b) (by omega), hd]
          have e1 : a[i] = x := by rw [hx]; simp [show i < a.length by omega]
          have e2 : b[i] = y := by rw [hy]; simp [show i < b.length by omega]
          rw [e1, e2, hne]
        have HD : Hid (a.drop (16 - (k + 1)) = b.drop (16 - (k + 1))) := by unfold Hid; rw [show 16 - (k + 1) = i by omega]; exact hd'
        subst hne
        clear hd hd' hx hy hj hi
        go_wp2
        go_quiet (fail)
        go_wp2
        go_roundw
        case rel => exact ⟨k + 1, (i : Int) - 1, by omega, by have := HJ.out; omega, by go_num, HD.out, h0.drewN _, h1.drewN _, bel_dN hBl _⟩
        case measure => simp [intOf]
      · have hv := lt_at ha hb la lb (i := i) (by omega) hd (by rw [← hx, ← hy]; exact hne)
        rw [← hx, ← hy] at hv
        have hrr : decide (x < y) = r := by rw [HR.out]; simp only [hv]
        have HRR : Hid _ := hrr
        have hne' : (x != y) = true := by simp [hne]
        clear hd hx hy hj hi hv hrr
        go_wp2
        go_quiet (fail)
        go_wp2
        go_quiet (fail)
        go_wp2
        go_ret
        refine ⟨?_, bel_dN (bel_dN hBl _) _⟩
        rw [← HRR.out]
        rfl
    · obtain rfl : k = 16 := by omega
      have hj0 : ¬ (0 : Int) ≤ j := by omega
      have hab : a = b := by simpa using hd
      have hrf : r = false := by rw [HR.out, hab]; simp
      clear hd hj
      go_wp2
      go_ret
      exact ⟨rfl, hBl⟩

end Go.Proofs.YtoblilngppjmhaaDoor
