/-
  What is proved here: contracts of the specification's l6bytes and PtBytes: the bytes of a point; the bytes of a point are bytes, at most 32; sums and doubles of points as the program makes them in the long form stand for the sum of the points; no program is spoken of; contracts of the program's method below on limbs: which of two numbers is less.
-/
import Derived.Test.YtihoaakbkffejaaDoorZXa
import Derived.Test.YtihoaakbkffejaaDoorZUh
import Derived.Test.YtihoaakbkffejaaDoorZYh
import Derived.Test.YtihoaakbkffejaaDoorZJa
import Derived.Test.YtihoaakbkffejaaDoorZArr
import Derived.Test.YtihoaakbkffejaaDoorZRbg
import Derived.Laws.BitsLemmas
namespace Go.Proofs.YtihoaakbkffejaaDoor
open Go.RowKit
set_option maxRecDepth 100000

/-- The bytes of a point: those of y, the highest bit telling whether x is odd. -/
def ptBt (x y : List Int) : List Int := (btL y).set 31 ((btL y).getD 31 0 + x.getD 0 0 % 2 * 128)
theorem ptBt_len {x y : List Int} (h : y.length = 16) : (ptBt x y).length = 32 := by simp [ptBt, btL_len, h]
theorem or_top : ∀ t : Fin 128, bits .or .u8 ((t.val : Nat) : Int) 128 = ((t.val : Nat) : Int) + 128 := by decide
theorem or_none : ∀ t : Fin 128, bits .or .u8 ((t.val : Nat) : Int) 0 = ((t.val : Nat) : Int) := by decide
theorem or_bit {t p : Int} (h0 : 0 ≤ t) (h1 : t < 128) (p0 : 0 ≤ p) (p1 : p ≤ 1) : bits .or .u8 t (p * 128) = t + p * 128 := by
  obtain ⟨n, rfl⟩ := Int.eq_ofNat_of_zero_le h0
  have hn : n < 128 := by omega
  have a := or_top ⟨n, hn⟩
  have b := or_none ⟨n, hn⟩
  have hp : p = 0 ∨ p = 1 := by omega
  rcases hp with rfl | rfl
  · rw [Int.zero_mul, Int.add_zero]; exact b
  · rw [Int.one_mul]; exact a
/-- The highest byte of a number of the field. -/
theorem bt_top {y : List Int} (h : feOk y = true) : 0 ≤ (btL y).getD 31 0 ∧ (btL y).getD 31 0 < 128 := by
  obtain ⟨h1, h2, h3⟩ := (feOk_iff y).1 h
  have h15 := gD_lm h2 15
  have e : (btL y).getD 31 0 = y.getD 15 0 / 256 := (btL_get y 15 (by omega)).2
  have h0 := val_nonneg (l := y.take 15) (fun x hx => (h2 x (List.mem_of_mem_take hx)).1)
  rw [val_last h1, p240] at h3
  unfold P25519 at h3
  rw [e]
  omega

set_option maxHeartbeats 4000000 in
theorem spec6bytes (P : E4) (w : World) (hP : P.Ok) :
    Calls Tryd.prog 10 #[.agg (I64 P.cells).toArray] w fun e w' => ∃ v, e = .returned v ∧ w'.ownsRow w.heap.size 5 1 v 32 (U8 (ptBt (flx P) (fly P))) ∧ Below w.heap.size w w' := by
  have HF : Hid (∀ Z, Calls Tryd.prog 17 #[.agg (I64 P.cells).toArray] Z fun e w' => e = .returned (.tuple #[.agg (I64 (flx P)).toArray, .agg (I64 (fly P)).toArray]) ∧ Below Z.heap.size Z w') := by
    unfold Hid; intro Z; exact spec6flat P Z hP
  obtain ⟨x, ex⟩ : ∃ x, x = flx P := ⟨_, rfl⟩
  have kx : feOk x = true := by rw [ex]; exact ok_red _
  obtain ⟨y, ey⟩ : ∃ y, y = fly P := ⟨_, rfl⟩
  have ky : feOk y = true := by rw [ey]; exact ok_red _
  rw [← ex, ← ey] at HF ⊢
  have jx := infoE' kx
  have jy := infoE' ky
  have nx := feOk_len kx
  have ny := feOk_len ky
  have my := feOk_lm' ky
  have hip := infoP' hP
  have hx0 := gD_lm (feOk_lm' kx) 0
  have hty := bt_top ky
  obtain ⟨A, hA⟩ : ∃ A, A = (I64 P.cells).toArray := ⟨_, rfl⟩
  obtain ⟨W, hW⟩ : ∃ W, W = w.alloc (.cells A 33) := ⟨_, rfl⟩
  have fr : Below w.heap.size w W := by rw [hW]; exact (Below.refl _ _).alloc (Nat.le_refl _) _
  have pa : Arr W w.heap.size 33 (I64 P.cells) := by rw [hW, hA]; exact Arr.new w (I64 P.cells) _
  rw [← hA]
  clear ex ey hA
  go_enter Tryd.func10, Tryd.ntmps10
  go_upto_region 1 with fail
  rw [← hW]
  clear hW
  go_wp2_with (refine wpList_load_row rfl 33 _ rfl w.heap.size rfl 33 (I64 P.cells).toArray (0, 0) _ pa Tryd.underlying33 rfl hip ?_)
  refine (HF.out _).mono ?_
  rintro e y1 ⟨rfl, hb1⟩
  replace fr := fr.trans (hb1.mono fr.size)
  replace pa := pa.kept hb1
  clear hb1
  have hz0 : w.heap.size < y1.heap.size := pa.lt
  clear pa
  obtain ⟨bV, Ax, Ay, q1, q2⟩ := laid_e2 y1 x y
  replace fr := fr.trans (bV.mono fr.size)
  go_upto_region 2 with (first | (refine wpList_store_row rfl 31 _ _ rfl y1.heap.size (I64 x).toArray rfl rfl 31 _ q1 jx (by simp [nx]) (by simp [Value.oneCell']) ?_) | (refine wpList_store_row rfl 31 _ _ rfl (y1.heap.size + 1) (I64 y).toArray rfl rfl 31 _ q2 jy (by simp [ny]) (by simp [Value.oneCell']) ?_))
  obtain ⟨Vq, hVV⟩ : ∃ V, V = (((y1.alloc (.cells #[.int .i64 0, .int .i64 0, .int .i64 0, .int .i64 0, .int .i64 0, .int .i64 0, .int .i64 0, .int .i64 0, .int .i64 0, .int .i64 0, .int .i64 0, .int .i64 0, .int .i64 0, .int .i64 0, .int .i64 0, .int .i64 0] 31)).alloc (.cells #[.int .i64 0, .int .i64 0, .int .i64 0, .int .i64 0, .int .i64 0, .int .i64 0, .int .i64 0, .int .i64 0, .int .i64 0, .int .i64 0, .int .i64 0, .int .i64 0, .int .i64 0, .int .i64 0, .int .i64 0, .int .i64 0] 31)).setRow y1.heap.size (I64 x).toArray).setRow (y1.heap.size + 1) (I64 y).toArray := ⟨_, rfl⟩
  obtain ⟨X, hE⟩ : ∃ E, E = y1.heap.size := ⟨_, rfl⟩
  rw [← hVV] at fr Ax Ay ⊢
  rw [← hE] at Ax Ay hz0 ⊢
  clear hVV hE q1 q2 bV
  go_wp2_with (refine wpList_load_row rfl 31 _ rfl (X + 1) rfl 31 (I64 y).toArray (0, 0) _ Ay Tryd.underlying31 rfl jy ?_)
  have hl : w.heap.size ≤ Vq.heap.size := fr.size
  refine (specBytes16 y _ ny my).mono ?_
  rintro e y2 ⟨v, rfl, ob, hb2⟩
  replace fr := fr.trans (hb2.mono fr.size)
  replace Ax := Ax.kept hb2
  replace Ay := Ay.kept hb2
  clear hb2
  rcases (own_shape ob).2 with ⟨_, h0⟩ | ⟨g, cap, rfl, hbg, hgl, hcap, _, hcell, hfz⟩
  · omega
  obtain ⟨t, ht⟩ : ∃ t, t = (btL y).getD 31 0 := ⟨_, rfl⟩
  obtain ⟨x0, hx0e⟩ : ∃ x0, x0 = x.getD 0 0 := ⟨_, rfl⟩
  obtain ⟨p, hp⟩ : ∃ p, p = x0 % 2 := ⟨_, rfl⟩
  rw [← ht] at hty
  rw [← hx0e] at hx0
  have cb : y2.cell? ⟨g, 31, none⟩ = some (.int .u8 t) := by rw [ht]; exact hcell 31 (by omega)
  have cx0 : y2.cell? ⟨X, 0, none⟩ = some (.int .i64 x0) := by rw [hx0e]; exact Ax.i64 0 (by omega)
  have hf := hfz 31
  have s1 : bits .and .i64 x0 1 = p := by rw [hp]; exact i64_lowb hx0.1 (by omega)
  have pb : 0 ≤ p ∧ p ≤ 1 := by rw [hp]; omega
  have s2 : IntKind.u8.wrap p = p := by rw [IntKind.wrap_u8]; omega
  have s3 : IntKind.u8.wrap (p * 128) = p * 128 := by rw [IntKind.wrap_u8]; omega
  have s4 : bits .or .u8 t (p * 128) = t + p * 128 := or_bit hty.1 hty.2 pb.1 pb.2
  have hw : (U8 (btL y)).set 31 (.int .u8 (t + p * 128)) = U8 (ptBt x y) := by
    unfold ptBt
    rw [← ht, ← hx0e, ← hp]
    simp [U8]
  have HO : Hid _ := own_base (own_at ob 31 (.int .u8 (t + p * 128))) hl
  have HB : Hid _ := fr.setCell (p := ⟨g, 31, none⟩) (by simp only; omega) (.int .u8 (t + p * 128))
  rw [hw] at HO
  clear hcell hfz ob hw ht hx0e hp
  go_wp2
  go_region
  go_wp2
  go_ret
  exact ⟨_, rfl, HO.out, HB.out.drew⟩

def ptBF (xs ys : List Int) : List Int := if ptOk xs ys = true then ptBt (flx (mk6 xs ys)) (fly (mk6 xs ys)) else []
end Go.Proofs.YtihoaakbkffejaaDoor
namespace Go.Proofs.YtihoaakbkffejaaDoor
open Go.RowKit
theorem ptBt_byte {x y : List Int} (h : feOk y = true) : ∀ b ∈ ptBt x y, 0 ≤ b ∧ b < 256 := by
  intro b hb
  have ht := bt_top h
  unfold ptBt at hb
  rcases List.mem_or_eq_of_mem_set hb with h1 | rfl
  · exact btL_byte (feOk_lm' h) b h1
  · omega
end Go.Proofs.YtihoaakbkffejaaDoor
namespace Go.Proofs.YtihoaakbkffejaaDoor
open Go.RowKit
set_option maxRecDepth 100000
set_option maxHeartbeats 4000000
set_option linter.unusedSectionVars false

section
variable {p : Nat} [NeZero p] {d i : Fin p} {iv : Fin p → Fin p}
theorem jnF (x1 y1 c1 x2 y2 c2 : Fin p) : x1 * c1 * (y2 * c2) + y1 * c1 * (x2 * c2) = c1 * c2 * (x1 * y2 + y1 * x2) := by grind
theorem jnK (x1 y1 c1 x2 y2 c2 : Fin p) : y1 * c1 * (y2 * c2) + x1 * c1 * (x2 * c2) = c1 * c2 * (y1 * y2 + x1 * x2) := by grind
theorem jnH (x1 y1 c1 x2 y2 c2 d : Fin p) : c1 * c2 + d * (x1 * y1 * c1 * (x2 * y2 * c2)) = c1 * c2 * (1 + d * (x1 * x2 * y1 * y2)) := by grind
theorem jnG (x1 y1 c1 x2 y2 c2 d : Fin p) : c1 * c2 - d * (x1 * y1 * c1 * (x2 * y2 * c2)) = c1 * c2 * (1 - d * (x1 * x2 * y1 * y2)) := by grind
theorem jn2 {f v : Fin p} (hv : f * v = 1) (k b g : Fin p) : k * b * (k * g) = b * v * (k * f * (k * g)) := by grind
/-- Four numbers that are so many times the two sums and the two divisors of a sum stand for it. -/
theorem Ext.long (C : Crv d i iv) {P Q : Fin p × Fin p} (o1 : On d P) (o2 : On d Q) {k F K H G : Fin p} (hk : k ≠ 0) (hF : F = k * (P.1 * Q.2 + P.2 * Q.1)) (hK : K = k * (P.2 * Q.2 + P.1 * Q.1))
    (hH : H = k * (1 + d * (P.1 * Q.1 * P.2 * Q.2))) (hG : G = k * (1 - d * (P.1 * Q.1 * P.2 * Q.2))) : Ext (F * G) (K * H) (G * H) (F * K) (pAdd d iv P Q) := by
  obtain ⟨x1, y1⟩ := P
  obtain ⟨x2, y2⟩ := Q
  have hn := C.ne o1 o2
  have hu := C.inv _ hn.1
  have hv := C.inv _ hn.2
  simp only at hF hK hH hG
  have hz : G * H ≠ 0 := by
    rw [hG, hH]
    exact C.nz_mul (C.nz_mul hk hn.2) (C.nz_mul hk hn.1)
  clear hn o1 o2
  simp only [pAdd]
  generalize iv (1 + d * (x1 * x2 * y1 * y2)) = u at *
  generalize iv (1 - d * (x1 * x2 * y1 * y2)) = v at *
  refine ⟨?_, ?_, ?_, hz⟩
  · rw [hF, hG, hH]; exact ext1 hu _ _ _
  · rw [hK, hG, hH]; exact jn2 hv _ _ _
  · rw [hF, hK, hG, hH]; exact ext3 hu hv _ _ _
theorem Ext.join (C : Crv d i iv) {a1 b1 c1 t1 a2 b2 c2 t2 : Fin p} {P Q : Fin p × Fin p} (h1 : Ext a1 b1 c1 t1 P) (h2 : Ext a2 b2 c2 t2 Q) (o1 : On d P) (o2 : On d Q) :
    Ext ((a1 * b2 + b1 * a2) * (c1 * c2 - d * (t1 * t2))) ((b1 * b2 + a1 * a2) * (c1 * c2 + d * (t1 * t2))) ((c1 * c2 - d * (t1 * t2)) * (c1 * c2 + d * (t1 * t2))) ((a1 * b2 + b1 * a2) * (b1 * b2 + a1 * a2)) (pAdd d iv P Q) := by
  refine Ext.long C o1 o2 (C.nz_mul h1.hc h2.hc) ?_ ?_ ?_ ?_
  · rw [h1.ha, h1.hb, h2.ha, h2.hb]; exact jnF ..
  · rw [h1.ha, h1.hb, h2.ha, h2.hb]; exact jnK ..
  · rw [h1.ht, h2.ht]; exact jnH ..
  · rw [h1.ht, h2.ht]; exact jnG ..
theorem dbF (x y c : Fin p) : x * c * (y * c) + x * c * (y * c) = c * c * (x * y + y * x) := by grind
theorem dbK (x y c : Fin p) : x * c * (x * c) + y * c * (y * c) = c * c * (y * y + x * x) := by grind
theorem dbH (x y c d : Fin p) (h : y * y - x * x = 1 + d * (x * x) * (y * y)) : y * c * (y * c) - x * c * (x * c) = c * c * (1 + d * (x * x * y * y)) := by
  have e : y * c * (y * c) - x * c * (x * c) = c * c * (y * y - x * x) := by grind
  rw [e, h]
  grind
theorem dbG (x y c d : Fin p) : c * c + c * c - c * c * (1 + d * (x * x * y * y)) = c * c * (1 - d * (x * x * y * y)) := by grind
theorem Ext.twice (C : Crv d i iv) {a b c t : Fin p} {P : Fin p × Fin p} (h : Ext a b c t P) (o : On d P) :
    Ext ((a * b + a * b) * (c * c + c * c - (b * b - a * a))) ((a * a + b * b) * (b * b - a * a)) ((c * c + c * c - (b * b - a * a)) * (b * b - a * a)) ((a * b + a * b) * (a * a + b * b)) (pAdd d iv P P) := by
  have e : b * b - a * a = c * c * (1 + d * (P.1 * P.1 * P.2 * P.2)) := by rw [h.ha, h.hb]; exact dbH _ _ _ _ o
  refine Ext.long C o o (C.nz_mul h.hc h.hc) ?_ ?_ ?_ ?_
  · rw [h.ha, h.hb]; exact dbF ..
  · rw [h.ha, h.hb]; exact dbK ..
  · exact e
  · rw [e]; exact dbG ..
end
/-- What the program makes of two points. -/
def long6 (f k h g : List Int) : E4 := ⟨red (val f * val g), red (val k * val h), red (val g * val h), red (val f * val k)⟩
theorem long6_ok (f k h g : List Int) : (long6 f k h g).Ok := ⟨ok_red _, ok_red _, ok_red _, ok_red _⟩
def join6 (P Q : E4) : E4 :=
  let one := red (val P.c * val Q.c)
  let prod := red (val DL * val (red (val P.t * val Q.t)))
  long6 (red (val (red (val P.a * val Q.b)) + val (red (val P.b * val Q.a)))) (red (val (red (val P.b * val Q.b)) + val (red (val P.a * val Q.a)))) (red (val one + val prod)) (red (val one - val prod))
def dbl6 (P : E4) : E4 :=
  let xx := red (val P.a * val P.a)
  let yy := red (val P.b * val P.b)
  let one := red (val P.c * val P.c)
  let xy := red (val P.a * val P.b)
  let plus := red (val yy - val xx)
  long6 (red (val xy + val xy)) (red (val xx + val yy)) plus (red (val (red (val one + val one)) - val plus))
section
variable [NeZero pN]
theorem ext6_join {P Q : E4} {p q : KF × KF} (h1 : Ext6 P p) (h2 : Ext6 Q q) (o1 : On dK p) (o2 : On dK q) : Ext6 (join6 P Q) (pAdd dK ivK p q) := by
  unfold Ext6 join6 long6
  simp only [fl_mul, fl_add, fl_sub, fl_DL]
  exact Ext.join crvK h1 h2 o1 o2
theorem ext6_dbl {P : E4} {p : KF × KF} (h : Ext6 P p) (o : On dK p) : Ext6 (dbl6 P) (pAdd dK ivK p p) := by
  unfold Ext6 dbl6 long6
  simp only [fl_mul, fl_add, fl_sub]
  exact Ext.twice crvK h o
end
/-- How far the program has come with the bits of a number, from the bit 252 on. -/
def jst (P : E4) (N : Nat) : Nat → E4
  | 0 => mk6 (lim 16 0) (lim 16 1)
  | n + 1 => if N / 2 ^ (252 - n) % 2 = 1 then join6 (dbl6 (jst P N n)) P else dbl6 (jst P N n)
theorem jst_ok (P : E4) (N : Nat) : ∀ n, (jst P N n).Ok
  | 0 => mk6_ok zero_ok one_ok
  | n + 1 => by
    rw [jst]
    split
    · exact long6_ok _ _ _ _
    · exact long6_ok _ _ _ _
def jul6 (P : E4) (N : Nat) : E4 := jst P N 253
section
variable [NeZero pN]
theorem ext6_jst {P : E4} {p : KF × KF} (h : Ext6 P p) (o : On dK p) (N : Nat) (hN : N < 2 ^ 253) : ∀ n, n ≤ 253 → Ext6 (jst P N n) (pMul dK ivK (N / 2 ^ (253 - n)) p)
  | 0, _ => by
    have e : N / 2 ^ (253 - 0) = 0 := Nat.div_eq_of_lt hN
    rw [e]
    exact ext6_zero
  | n + 1, hn => by
    have ih := ext6_jst h o N hN n (by omega)
    have hb := crvK.mul_bit o N (252 - n)
    have e1 : 253 - (n + 1) = 252 - n := by omega
    have e2 : 253 - n = 252 - n + 1 := by omega
    rw [e2] at ih
    rw [e1, hb, jst]
    have om := crvK.on_mul o (N / 2 ^ (252 - n + 1))
    split
    · exact ext6_join (ext6_dbl ih om) h (crvK.on_add om om) o
    · exact ext6_dbl ih om
theorem ext6_jul {P : E4} {p : KF × KF} (h : Ext6 P p) (o : On dK p) (N : Nat) (hN : N < 2 ^ 253) : Ext6 (jul6 P N) (pMul dK ivK N p) := by
  have := ext6_jst h o N hN 253 (by omega)
  rw [Nat.sub_self, Nat.pow_zero, Nat.div_one] at this
  exact this
end
end Go.Proofs.YtihoaakbkffejaaDoor
namespace Go.Proofs.YtihoaakbkffejaaDoor
open Go.RowKit
set_option maxRecDepth 100000

set_option maxHeartbeats 1000000 in
theorem implBelow (a b : List Int) (w : World) (ha : a.length = 16) (hb : b.length = 16) (la : Lm a) (lb : Lm b) :
    Calls Tryd.prog 71 #[.agg (I64 a).toArray, .agg (I64 b).toArray] w fun e w' => e = .returned (.bool (decide (val a < val b))) ∧ Below w.heap.size w w' := by
  obtain ⟨A, hA⟩ : ∃ A, A = (I64 a).toArray := ⟨_, rfl⟩
  obtain ⟨B, hB⟩ : ∃ B, B = (I64 b).toArray := ⟨_, rfl⟩
  rw [← hA, ← hB]
  obtain ⟨W, hW⟩ : ∃ W, W = (w.alloc (.cells A 81)).alloc (.cells B 81) := ⟨_, rfl⟩
  have h0 : Arr W w.heap.size 81 (I64 a) := by rw [hW, hA]; exact (Arr.new w (I64 a) _).alloc _
  have h1 : Arr W (w.heap.size + 1) 81 (I64 b) := by
    rw [hW, hB]
    have := Arr.new (w.alloc (.cells A 81)) (I64 b) 81
    rw [World.size_alloc] at this
    exact this
  have hBl : Below w.heap.size w W := by rw [hW]; exact ((Below.refl _ _).alloc (Nat.le_refl _) _).alloc (by simp) _
  obtain ⟨r, hr⟩ : ∃ r, r = decide (val a < val b) := ⟨_, rfl⟩
  rw [← hr]
  have HR : Hid _ := hr
  have HA : Hid _ := hA
  have HB' : Hid _ := hB
  clear hr hA hB
  go_enter Tryd.func71, Tryd.ntmps71
  go_wp2
  rw [← hW]
  clear hW
  go_loopw [5] (fun i wr => ∃ (k : Nat) (j : Int), k ≤ 16 ∧ j = 15 - (k : Int) ∧ i = .int .i64 j ∧ a.drop (16 - k) = b.drop (16 - k) ∧ Arr wr w.heap.size 81 (I64 a) ∧ Arr wr (w.heap.size + 1) 81 (I64 b) ∧ Below w.heap.size w wr) (fun i _ => (intOf i + 1).toNat)
  case atStart => exact ⟨0, 15, by omega, by omega, rfl, by rw [List.drop_eq_nil_of_le (by omega), List.drop_eq_nil_of_le (by omega)], h0, h1, hBl⟩
  case round =>
    clear h0 h1 hBl
    obtain ⟨k, j, hk, hj, rfl, hd, h0, h1, hBl⟩ := hrel
    by_cases hlt : k < 16
    · obtain ⟨i, rfl⟩ : ∃ i : Nat, j = (i : Int) := ⟨15 - k, by omega⟩
      have hi : 16 - k = i + 1 := by omega
      rw [hi] at hd
      obtain ⟨x, hx⟩ : ∃ x, x = a.getD i 0 := ⟨_, rfl⟩
      obtain ⟨y, hy⟩ : ∃ y, y = b.getD i 0 := ⟨_, rfl⟩
      have cx : wr.cell? ⟨w.heap.size, i, none⟩ = some (.int .i64 x) := by rw [hx]; exact h0.i64 i (by omega)
      have cy : wr.cell? ⟨w.heap.size + 1, i, none⟩ = some (.int .i64 y) := by rw [hy]; exact h1.i64 i (by omega)
      have hi16 : (i : Int) < 16 := by omega
      have hi0 : (0 : Int) ≤ (i : Int) := by omega
      have s5 : wrap64 ((i : Int) - 1) = (i : Int) - 1 := by unfold wrap64; omega
      have HJ : Hid _ := hj
      by_cases hne : x = y
      · have hd' : a.drop i = b.drop i := by
          rw [List.drop_eq_getElem_cons (by omega), List.drop_eq_getElem_cons (l := b) (by omega), hd]
          have e1 : a[i] = x := by rw [hx]; simp [show i < a.length by omega]
          have e2 : b[i] = y := by rw [hy]; simp [show i < b.length by omega]
          rw [e1, e2, hne]
        have HD : Hid (a.drop (16 - (k + 1)) = b.drop (16 - (k + 1))) := by unfold Hid; rw [show 16 - (k + 1) = i by omega]; exact hd'
        subst hne
        clear hd hd' hx hy hj hi
        go_wp2
        go_quiet (fail)
        go_wp2
        go_roundw
        case rel => exact ⟨k + 1, (i : Int) - 1, by omega, by have := HJ.out; omega, by go_num, HD.out, h0.drewN _, h1.drewN _, bel_dN hBl _⟩
        case measure => simp [intOf]
      · have hv := lt_at ha hb la lb (i := i) (by omega) hd (by rw [← hx, ← hy]; exact hne)
        rw [← hx, ← hy] at hv
        have hrr : decide (x < y) = r := by rw [HR.out]; simp only [hv]
        have HRR : Hid _ := hrr
        have hne' : (x != y) = true := by simp [hne]
        clear hd hx hy hj hi hv hrr
        go_wp2
        go_quiet (fail)
        go_wp2
        go_quiet (fail)
        go_wp2
        go_ret
        refine ⟨?_, bel_dN (bel_dN hBl _) _⟩
        rw [← HRR.out]
        rfl
    · obtain rfl : k = 16 := by omega
      have hj0 : ¬ (0 : Int) ≤ j := by omega
      have hab : a = b := by simpa using hd
      have hrf : r = false := by rw [HR.out, hab]; simp
      clear hd hj
      go_wp2
      go_ret
      exact ⟨rfl, hBl⟩

end Go.Proofs.YtihoaakbkffejaaDoor
