/-
  What is proved here: contracts of the specification's l3sum and Sha512, for every slice of bytes; the contract of the program's method joined on points in the long form; where its variables hold the prime and d; the contract of the program's PtAdd; where its variables hold the prime and d; what the program's PtAdd answers where its arguments are points; where its variables hold the prime and d.
-/
import Derived.Test.YtihoaakbkffejaaGreatDoorSOm0
import Derived.Test.YtihoaakbkffejaaGreatDoorSFm
import Derived.Deep.AppendLies
import Derived.Test.YtihoaakbkffejaaGreatDoorSOb
import Derived.Test.YtihoaakbkffejaaGreatDoorSTm
import Derived.Test.YtihoaakbkffejaaGreatDoorSJio
namespace Go.Proofs.YtihoaakbkffejaaGreatDoor
open Go.RowKit

def zw (n : Nat) : Nat := (239 - n % 128) % 128
/-- What is padded behind a message of n bytes. -/
def padW (n : Nat) : List Int := 128 :: (List.replicate (zw n) 0 ++ (List.replicate 8 0 ++ lenB n 8))
theorem padW_len (n : Nat) : (padW n).length = zw n + 17 := by simp [padW, lenB]
/-- The words behind k blocks. -/
def fldw (hs l : List Int) : Nat → List Int
  | 0 => hs
  | k + 1 => blkw (fldw hs l k) ((l.drop (128 * k)).take 128)
theorem fldw_len {hs : List Int} (h : hs.length = 8) (l : List Int) (k : Nat) : (fldw hs l k).length = 8 := by
  induction k with
  | zero => exact h
  | succ k ih => exact blkw_len ih _
theorem fldw_word {hs : List Int} (h : ∀ x ∈ hs, 0 ≤ x ∧ x < 18446744073709551616) (l : List Int) (k : Nat) : ∀ x ∈ fldw hs l k, 0 ≤ x ∧ x < 18446744073709551616 := by
  cases k with
  | zero => exact h
  | succ k => exact blkw_word _ _
/-- The first j bytes of a word. -/
def b8 (x : Int) (j : Nat) : List Int := (List.range j).map (fun i => x / 2 ^ (56 - 8 * i) % 256)
def sumW (l : List Int) : List Int := l.flatMap (fun x => b8 x 8)
theorem sumW_len (l : List Int) : (sumW l).length = 8 * l.length := by
  induction l with
  | nil => rfl
  | cons x l ih => simp only [sumW, List.flatMap_cons, List.length_append, List.length_cons] at ih ⊢; rw [ih]; simp [b8]; omega
theorem sumW_byte (l : List Int) : ∀ y ∈ sumW l, 0 ≤ y ∧ y < 256 := by
  intro y hy
  obtain ⟨x, _, h⟩ := List.mem_flatMap.1 hy
  simp only [b8, List.mem_map] at h
  obtain ⟨i, _, rfl⟩ := h
  omega
theorem sumW_snoc {l : List Int} {k : Nat} {x : Int} (h : l.take (k + 1) = l.take k ++ [x]) : sumW (l.take (k + 1)) = sumW (l.take k) ++ b8 x 8 := by
  rw [h]; simp [sumW]
/-- The sum of a message. -/
def sumOfW (xs : List Int) : List Int := sumW (fldw H0W (xs ++ padW xs.length) ((xs ++ padW xs.length).length / 128))
def s512 (xs : List Int) : List Int := if xs.length ≤ 20000 then sumOfW xs else []
theorem sumOfW_len (xs : List Int) : (sumOfW xs).length = 64 := by
  unfold sumOfW
  rw [sumW_len, fldw_len H0W_len]
/-- Where the blocks' loop stands. -/
structure Lw (w W : World) (G : Nat) (st : List Int) (v : Value) (q : Nat) (l : List Int) : Prop where
  fr : Below w.heap.size w W
  g5 : Arr W G 100 (U64 st)
  ow : W.ownsRow w.heap.size 5 1 v q (U8 l)
  ge : w.heap.size ≤ G
  ne : v.ownBlock ≠ some G
theorem Lw.go {w W W' : World} {G : Nat} {st : List Int} {v : Value} {q : Nat} {l : List Int} (h : Lw w W G st v q l) (hb : Below W.heap.size W W') : Lw w W' G st v q l :=
  ⟨h.fr.trans (hb.mono h.fr.size), h.g5.kept hb, own_below h.ow hb, h.ge, h.ne⟩
theorem Bs.takeW {w : World} {a : Option Addr} {n c m : Nat} {xs : List Int} (h : Bs w a n c xs) (hm : m ≤ n) : Bs w a m c (xs.take m) := by
  obtain ⟨h0, h1, h2, h3, h4⟩ := h
  refine ⟨h0, by simp; omega, by omega, fun x hx => h3 x (List.mem_of_mem_take hx), ?_⟩
  rcases h4 with h4 | ⟨b, o, ha, hlt, hc⟩
  · exact .inl (by omega)
  · refine .inr ⟨b, o, ha, hlt, fun j hj => ?_⟩
    rw [hc j (by omega)]
    simp [List.getD, hj]
theorem Bs.dropW {w : World} {b o : Nat} {n c m : Nat} {xs : List Int} (h : Bs w (some ⟨b, o, none⟩) n c xs) (hm : m ≤ n) : Bs w (some ⟨b, o + m, none⟩) (n - m) (c - m) (xs.drop m) := by
  obtain ⟨h0, h1, h2, h3, h4⟩ := h
  refine ⟨(fun h => by cases h), by simp; omega, by omega, fun x hx => h3 x (List.mem_of_mem_drop hx), ?_⟩
  by_cases hz : n - m = 0
  · exact .inl hz
  rcases h4 with h4 | ⟨b', o', ha, hlt, hc⟩
  · exact .inl (by omega)
  · cases ha
    refine .inr ⟨b, o + m, rfl, hlt, fun j hj => ?_⟩
    have := hc (m + j) (by omega)
    rw [show o + m + j = o + (m + j) by omega, this]
    simp [List.getD, List.getElem?_drop]

end Go.Proofs.YtihoaakbkffejaaGreatDoor
namespace Go.Proofs.YtihoaakbkffejaaGreatDoor
open Go.RowKit
set_option maxRecDepth 100000

set_option maxHeartbeats 8000000 in
theorem implJoined (P Q : E4) (w : World) (hP : P.Ok) (hQ : Q.Ok) (hV : Vr w 4 (I64 PL)) (hD : Vr w 5 (I64 DL)) :
  Calls Tryz.prog 68 #[.agg (I64 P.cells).toArray, .iface 67 (.agg (I64 Q.cells).toArray)] w fun e w' => e = .returned (.iface 67 (.agg (I64 (join6 P Q).cells).toArray)) ∧ Below w.heap.size w w' := by
 obtain ⟨f1, ef1⟩ : ∃ x_, x_ = red (val P.a * val Q.b) := ⟨_, rfl⟩
 have kf1 : feOk f1 = true := by rw [ef1]; exact ok_red _
 obtain ⟨f2, ef2⟩ : ∃ x_, x_ = red (val P.b * val Q.a) := ⟨_, rfl⟩
 have kf2 : feOk f2 = true := by rw [ef2]; exact ok_red _
 obtain ⟨f, ef⟩ : ∃ x_, x_ = red (val f1 + val f2) := ⟨_, rfl⟩
 have kf : feOk f = true := by rw [ef]; exact ok_red _
 obtain ⟨k1, ek1⟩ : ∃ x_, x_ = red (val P.b * val Q.b) := ⟨_, rfl⟩
 have kk1 : feOk k1 = true := by rw [ek1]; exact ok_red _
 obtain ⟨k2, ek2⟩ : ∃ x_, x_ = red (val P.a * val Q.a) := ⟨_, rfl⟩
 have kk2 : feOk k2 = true := by rw [ek2]; exact ok_red _
 obtain ⟨k, ek⟩ : ∃ x_, x_ = red (val k1 + val k2) := ⟨_, rfl⟩
 have kk : feOk k = true := by rw [ek]; exact ok_red _
 obtain ⟨o, eo⟩ : ∃ x_, x_ = red (val P.c * val Q.c) := ⟨_, rfl⟩
 have ko : feOk o = true := by rw [eo]; exact ok_red _
 obtain ⟨t1, et1⟩ : ∃ x_, x_ = red (val P.t * val Q.t) := ⟨_, rfl⟩
 have kt1 : feOk t1 = true := by rw [et1]; exact ok_red _
 obtain ⟨p, ep⟩ : ∃ x_, x_ = red (val DL * val t1) := ⟨_, rfl⟩
 have kp : feOk p = true := by rw [ep]; exact ok_red _
 obtain ⟨h, eh⟩ : ∃ x_, x_ = red (val o + val p) := ⟨_, rfl⟩
 have kh : feOk h = true := by rw [eh]; exact ok_red _
 obtain ⟨g, eg⟩ : ∃ x_, x_ = red (val o - val p) := ⟨_, rfl⟩
 have kg : feOk g = true := by rw [eg]; exact ok_red _
 have Hf1 : Hid (∀ Z, Vr Z 4 (I64 PL) → Calls Tryz.prog 98 #[.agg (I64 P.a).toArray, .agg (I64 Q.b).toArray] Z fun e w' => e = .returned (.agg (I64 f1).toArray) ∧ Below Z.heap.size Z w') := by
  unfold Hid; intro Z hZ; rw [ef1]; exact mulI hP.a hQ.b Z hZ
 have Hf2 : Hid (∀ Z, Vr Z 4 (I64 PL) → Calls Tryz.prog 98 #[.agg (I64 P.b).toArray, .agg (I64 Q.a).toArray] Z fun e w' => e = .returned (.agg (I64 f2).toArray) ∧ Below Z.heap.size Z w') := by
  unfold Hid; intro Z hZ; rw [ef2]; exact mulI hP.b hQ.a Z hZ
 have Hf : Hid (∀ Z, Vr Z 4 (I64 PL) → Calls Tryz.prog 100 #[.agg (I64 f1).toArray, .agg (I64 f2).toArray] Z fun e w' => e = .returned (.agg (I64 f).toArray) ∧ Below Z.heap.size Z w') := by
  unfold Hid; intro Z hZ; rw [ef]; exact sumI kf1 kf2 Z hZ
 have Hk1 : Hid (∀ Z, Vr Z 4 (I64 PL) → Calls Tryz.prog 98 #[.agg (I64 P.b).toArray, .agg (I64 Q.b).toArray] Z fun e w' => e = .returned (.agg (I64 k1).toArray) ∧ Below Z.heap.size Z w') := by
  unfold Hid; intro Z hZ; rw [ek1]; exact mulI hP.b hQ.b Z hZ
 have Hk2 : Hid (∀ Z, Vr Z 4 (I64 PL) → Calls Tryz.prog 98 #[.agg (I64 P.a).toArray, .agg (I64 Q.a).toArray] Z fun e w' => e = .returned (.agg (I64 k2).toArray) ∧ Below Z.heap.size Z w') := by
  unfold Hid; intro Z hZ; rw [ek2]; exact mulI hP.a hQ.a Z hZ
 have Hk : Hid (∀ Z, Vr Z 4 (I64 PL) → Calls Tryz.prog 100 #[.agg (I64 k1).toArray, .agg (I64 k2).toArray] Z fun e w' => e = .returned (.agg (I64 k).toArray) ∧ Below Z.heap.size Z w') := by
  unfold Hid; intro Z hZ; rw [ek]; exact sumI kk1 kk2 Z hZ
 have Ho : Hid (∀ Z, Vr Z 4 (I64 PL) → Calls Tryz.prog 98 #[.agg (I64 P.c).toArray, .agg (I64 Q.c).toArray] Z fun e w' => e = .returned (.agg (I64 o).toArray) ∧ Below Z.heap.size Z w') := by
  unfold Hid; intro Z hZ; rw [eo]; exact mulI hP.c hQ.c Z hZ
 have Ht1 : Hid (∀ Z, Vr Z 4 (I64 PL) → Calls Tryz.prog 98 #[.agg (I64 P.t).toArray, .agg (I64 Q.t).toArray] Z fun e w' => e = .returned (.agg (I64 t1).toArray) ∧ Below Z.heap.size Z w') := by
  unfold Hid; intro Z hZ; rw [et1]; exact mulI hP.t hQ.t Z hZ
 have Hp : Hid (∀ Z, Vr Z 4 (I64 PL) → Calls Tryz.prog 98 #[.agg (I64 DL).toArray, .agg (I64 t1).toArray] Z fun e w' => e = .returned (.agg (I64 p).toArray) ∧ Below Z.heap.size Z w') := by
  unfold Hid; intro Z hZ; rw [ep]; exact mulI DL_ok kt1 Z hZ
 have Hh : Hid (∀ Z, Vr Z 4 (I64 PL) → Calls Tryz.prog 100 #[.agg (I64 o).toArray, .agg (I64 p).toArray] Z fun e w' => e = .returned (.agg (I64 h).toArray) ∧ Below Z.heap.size Z w') := by
  unfold Hid; intro Z hZ; rw [eh]; exact sumI ko kp Z hZ
 have Hg : Hid (∀ Z, Vr Z 4 (I64 PL) → Calls Tryz.prog 99 #[.agg (I64 o).toArray, .agg (I64 p).toArray] Z fun e w' => e = .returned (.agg (I64 g).toArray) ∧ Below Z.heap.size Z w') := by
  unfold Hid; intro Z hZ; rw [eg]; exact subI ko kp Z hZ
 obtain ⟨R, hR⟩ : ∃ R, R = join6 P Q := ⟨_, rfl⟩
 have hRo : R.Ok := by rw [hR]; exact long6_ok _ _ _ _
 have hRe : long6 f k h g = R := by rw [hR]; simp only [join6, ef1, ef2, ef, ek1, ek2, ek, eo, et1, ep, eh, eg]
 have HR : Hid (∀ Z, Vr Z 4 (I64 PL) → Calls Tryz.prog 111 #[.agg (I64 f).toArray, .agg (I64 k).toArray, .agg (I64 h).toArray, .agg (I64 g).toArray] Z fun e w' => e = .returned (.agg (I64 R.cells).toArray) ∧ Below Z.heap.size Z w') := by
  unfold Hid; intro Z hZ; rw [← hRe]; exact implLongOf f k h g Z kf kk kh kg hZ
 rw [← hR]
 have jf := infoL' kf
 have iif := infoLl kf
 have nf := feOk_len kf
 have uf := one_lm f
 have jk := infoL' kk
 have iik := infoLl kk
 have nk := feOk_len kk
 have uk := one_lm k
 have jo := infoL' ko
 have iio := infoLl ko
 have no := feOk_len ko
 have uo := one_lm o
 have jp := infoL' kp
 have iip := infoLl kp
 have np := feOk_len kp
 have up := one_lm p
 have iPa := infoLl hP.a
 have iPb := infoLl hP.b
 have iPc := infoLl hP.c
 have iPt := infoLl hP.t
 have iQa := infoLl hQ.a
 have iQb := infoLl hQ.b
 have iQc := infoLl hQ.c
 have iQt := infoLl hQ.t
 have iDL := infoLl DL_ok
 have hiQ := infoLp' hQ
 have hQl := E4.len hQ
 have hu : Tryz.prog.underlying 65 = some (.array 16 3) := Tryz.underlying65
 have has : ∀ (v : Value) (w : World), (Instr.typeAssert (.iface 67 v) 111 67 false).run Tryz.prog w = .ok v w := assert_lp
 obtain ⟨A0, hA0⟩ : ∃ A, A = (I64 P.cells).toArray := ⟨_, rfl⟩
 obtain ⟨W, hW⟩ : ∃ W, W = w.alloc (.cells A0 67) := ⟨_, rfl⟩
 have fr : Below w.heap.size w W := by rw [hW]; exact ((Below.refl _ _).alloc (Nat.le_refl _) _)
 have pa : Arr W w.heap.size 67 (I64 P.cells) := by
  rw [hW, hA0]
  have := Arr.new (w) (I64 P.cells) 67
  exact this
 have h0P := hV.lt
 have vP := hV.kept fr
 have h0D := hD.lt
 have vD := hD.kept fr
 rw [← hA0]
 clear hA0
 clear hV hD
 clear hR hRe ef1 kf1 ef2 kf2 ef kf ek1 kk1 ek2 kk2 ek kk eo ko et1 kt1 ep kp eh kh eg kg
 go_enter Tryz.func68, Tryz.ntmps68
 go_upto_region 1 with fail
 rw [← hW]
 clear hW
 have hXq : w.heap.size < W.heap.size ∧ w.heap.size ≤ W.heap.size := ⟨pa.lt, fr.size⟩
 obtain ⟨bV, Aq, q1⟩ := laid_lp W Q.cells
 replace fr := fr.trans (bV.mono fr.size)
 replace pa := pa.kept bV
 replace vP := vP.kept bV
 replace vD := vD.kept bV
 go_upto_region 2 with (refine wpList_store_row rfl 67 _ _ rfl W.heap.size (I64 Q.cells).toArray rfl rfl 67 _ q1 hiQ (by simp [hQl]) (by simp [Value.oneCell']) ?_)
 obtain ⟨V1, hVV⟩ : ∃ V, V = (W.alloc (.cells #[.int .i64 0, .int .i64 0, .int .i64 0, .int .i64 0, .int .i64 0, .int .i64 0, .int .i64 0, .int .i64 0, .int .i64 0, .int .i64 0, .int .i64 0, .int .i64 0, .int .i64 0, .int .i64 0, .int .i64 0, .int .i64 0, .int .i64 0, .int .i64 0, .int .i64 0, .int .i64 0, .int .i64 0, .int .i64 0, .int .i64 0, .int .i64 0, .int .i64 0, .int .i64 0, .int .i64 0, .int .i64 0, .int .i64 0, .int .i64 0, .int .i64 0, .int .i64 0, .int .i64 0, .int .i64 0, .int .i64 0, .int .i64 0, .int .i64 0, .int .i64 0, .int .i64 0, .int .i64 0, .int .i64 0, .int .i64 0, .int .i64 0, .int .i64 0, .int .i64 0, .int .i64 0, .int .i64 0, .int .i64 0, .int .i64 0, .int .i64 0, .int .i64 0, .int .i64 0, .int .i64 0, .int .i64 0, .int .i64 0, .int .i64 0, .int .i64 0, .int .i64 0, .int .i64 0, .int .i64 0, .int .i64 0, .int .i64 0, .int .i64 0, .int .i64 0] 67)).setRow W.heap.size (I64 Q.cells).toArray := ⟨_, rfl⟩
 obtain ⟨Xq, hE⟩ : ∃ E, E = W.heap.size := ⟨_, rfl⟩
 rw [← hVV] at fr pa vP vD Aq ⊢
 rw [← hE] at Aq hXq ⊢
 clear hVV hE q1 bV
 try simp only [Act.put]
 refine tame [kc 12 (.pointer (some ⟨w.heap.size, 0, none⟩)), kc 13 (.agg (I64 P.a).toArray), kc 14 (.pointer (some ⟨Xq, 16, none⟩)), kc 15 (.agg (I64 Q.b).toArray), kc 16 (.agg (I64 f1).toArray), kc 17 (.pointer (some ⟨w.heap.size, 16, none⟩)), kc 18 (.agg (I64 P.b).toArray), kc 19 (.pointer (some ⟨Xq, 0, none⟩)), kc 20 (.agg (I64 Q.a).toArray), kc 21 (.agg (I64 f2).toArray), kc 22 (.agg (I64 f).toArray), ka 6 65 (I64 Z16)] 12 (by kernel_rfl) (by kernel_rfl) (by kernel_rfl) (by repeat' first | exact trivial | apply kc_keeps | apply ka_keeps | constructor) 1 (by kernel_rfl) (fun vv1 ll1 hh1 y b => ?_) (fun vv1 ll1 hh1 y b F iv ap => ?_)
 ·skip
  replace fr := fr.trans (b.mono fr.size)
  replace pa := pa.kept b
  replace vP := vP.kept b
  replace vD := vD.kept b
  replace Aq := Aq.kept b
  exact ⟨tp (by kernel_rfl),
   tl (E4.ra pa) iPa hu (by kernel_rfl),
   tp (by kernel_rfl),
   tl (E4.rb hQ Aq) iQb hu (by kernel_rfl),
   tc (Hf1.out _ vP) (by kernel_rfl),
   tp (by kernel_rfl),
   tl (E4.rb hP pa) iPb hu (by kernel_rfl),
   tp (by kernel_rfl),
   tl (E4.ra Aq) iQa hu (by kernel_rfl),
   tc (Hf2.out _ vP) (by kernel_rfl),
   tc (Hf.out _ vP) (by kernel_rfl),
   ta (by kernel_rfl), trivial⟩
 obtain ⟨y2, hy⟩ : ∃ z, z = y := ⟨_, rfl⟩
 rw [← hy] at b F iv ⊢
 clear hy
 have oq : w.heap.size < V1.heap.size ∧ Xq < V1.heap.size ∧ w.heap.size ≤ V1.heap.size := ⟨pa.lt, Aq.lt, fr.size⟩
 replace fr := fr.trans (b.mono fr.size)
 replace pa := pa.kept b
 replace vP := vP.kept b
 replace vD := vD.kept b
 replace Aq := Aq.kept b
 obtain ⟨-, -, -, -, -, -, -, -, -, -, -, ⟨Af, gXf⟩, -⟩ := F
 have iXf := iv 11 (by decide)
 replace Af : Arr y2 (ll1 11) 65 (I64 Z16) := Af
 replace gXf : ll1 11 < hh1 11 := gXf
 have lXf := Af.lt
 refine st_row (i := 12) (by kernel_rfl) rfl rfl rfl rfl Af (by kernel_rfl) (by kernel_rfl) (by simp [nf]) jf uf ?_
 replace fr := bel_sc fr (ll1 11) (I64 f) (by omega)
 replace pa := pa.sc (ll1 11) (I64 f) (by omega)
 replace vP := vP.sc (ll1 11) (I64 f) (by omega)
 replace vD := vD.sc (ll1 11) (I64 f) (by omega)
 replace Aq := Aq.sc (ll1 11) (I64 f) (by omega)
 replace Af := Af.sc0 (I64 f) (by simp [nf])
 obtain ⟨V3, hVe⟩ : ∃ V, V = y2.setCells (ll1 11) 0 (I64 f) := ⟨_, rfl⟩
 rw [← hVe] at fr pa vP vD Aq Af ⊢
 clear hVe
 refine wpAny_done (by kernel_rfl) ?_ _
 simp only [fillK, putT, List.setIfInBounds_toArray, List.set_cons_zero, List.set_cons_succ]
 generalize ll1 11 = Xf at *
 clear iv ap b oq
 go_wp2
 try simp only [Act.put]
 refine tame [kc 23 (.pointer (some ⟨w.heap.size, 16, none⟩)), kc 24 (.agg (I64 P.b).toArray), kc 25 (.pointer (some ⟨Xq, 16, none⟩)), kc 26 (.agg (I64 Q.b).toArray), kc 27 (.agg (I64 k1).toArray), kc 28 (.pointer (some ⟨w.heap.size, 0, none⟩)), kc 29 (.agg (I64 P.a).toArray), kc 30 (.pointer (some ⟨Xq, 0, none⟩)), kc 31 (.agg (I64 Q.a).toArray), kc 32 (.agg (I64 k2).toArray), kc 33 (.agg (I64 k).toArray), ka 7 65 (I64 Z16)] 12 (by kernel_rfl) (by kernel_rfl) (by kernel_rfl) (by repeat' first | exact trivial | apply kc_keeps | apply ka_keeps | constructor) 1 (by kernel_rfl) (fun vv2 ll2 hh2 y b => ?_) (fun vv2 ll2 hh2 y b F iv ap => ?_)
 ·skip
  replace fr := fr.trans (b.mono fr.size)
  replace pa := pa.kept b
  replace vP := vP.kept b
  replace vD := vD.kept b
  replace Aq := Aq.kept b
  replace Af := Af.kept b
  exact ⟨tp (by kernel_rfl),
   tl (E4.rb hP pa) iPb hu (by kernel_rfl),
   tp (by kernel_rfl),
   tl (E4.rb hQ Aq) iQb hu (by kernel_rfl),
   tc (Hk1.out _ vP) (by kernel_rfl),
   tp (by kernel_rfl),
   tl (E4.ra pa) iPa hu (by kernel_rfl),
   tp (by kernel_rfl),
   tl (E4.ra Aq) iQa hu (by kernel_rfl),
   tc (Hk2.out _ vP) (by kernel_rfl),
   tc (Hk.out _ vP) (by kernel_rfl),
   ta (by kernel_rfl), trivial⟩
 obtain ⟨y4, hy⟩ : ∃ z, z = y := ⟨_, rfl⟩
 rw [← hy] at b F iv ⊢
 clear hy
 have oq : w.heap.size < V3.heap.size ∧ Xq < V3.heap.size ∧ Xf < V3.heap.size ∧ w.heap.size ≤ V3.heap.size := ⟨pa.lt, Aq.lt, Af.lt, fr.size⟩
 replace fr := fr.trans (b.mono fr.size)
 replace pa := pa.kept b
 replace vP := vP.kept b
 replace vD := vD.kept b
 replace Aq := Aq.kept b
 replace Af := Af.kept b
 obtain ⟨-, -, -, -, -, -, -, -, -, -, -, ⟨Ak, gXk⟩, -⟩ := F
 have iXk := iv 11 (by decide)
 replace Ak : Arr y4 (ll2 11) 65 (I64 Z16) := Ak
 replace gXk : ll2 11 < hh2 11 := gXk
 have lXk := Ak.lt
 refine st_row (i := 12) (by kernel_rfl) rfl rfl rfl rfl Ak (by kernel_rfl) (by kernel_rfl) (by simp [nk]) jk uk ?_
 replace fr := bel_sc fr (ll2 11) (I64 k) (by omega)
 replace pa := pa.sc (ll2 11) (I64 k) (by omega)
 replace vP := vP.sc (ll2 11) (I64 k) (by omega)
 replace vD := vD.sc (ll2 11) (I64 k) (by omega)
 replace Aq := Aq.sc (ll2 11) (I64 k) (by omega)
 replace Af := Af.sc (ll2 11) (I64 k) (by omega)
 replace Ak := Ak.sc0 (I64 k) (by simp [nk])
 obtain ⟨V5, hVe⟩ : ∃ V, V = y4.setCells (ll2 11) 0 (I64 k) := ⟨_, rfl⟩
 rw [← hVe] at fr pa vP vD Aq Af Ak ⊢
 clear hVe
 refine wpAny_done (by kernel_rfl) ?_ _
 simp only [fillK, putT, List.setIfInBounds_toArray, List.set_cons_zero, List.set_cons_succ]
 generalize ll2 11 = Xk at *
 clear iv ap b oq
 go_wp2
 try simp only [Act.put]
 refine tame [kc 34 (.pointer (some ⟨w.heap.size, 32, none⟩)), kc 35 (.agg (I64 P.c).toArray), kc 36 (.pointer (some ⟨Xq, 32, none⟩)), kc 37 (.agg (I64 Q.c).toArray), kc 38 (.agg (I64 o).toArray), kc 39 (.agg (I64 DL).toArray), kc 40 (.pointer (some ⟨w.heap.size, 48, none⟩)), kc 41 (.agg (I64 P.t).toArray), kc 42 (.pointer (some ⟨Xq, 48, none⟩)), kc 43 (.agg (I64 Q.t).toArray), kc 44 (.agg (I64 t1).toArray), kc 45 (.agg (I64 p).toArray), ka 8 65 (I64 Z16), ka 9 65 (I64 Z16)] 14 (by kernel_rfl) (by kernel_rfl) (by kernel_rfl) (by repeat' first | exact trivial | apply kc_keeps | apply ka_keeps | constructor) 2 (by kernel_rfl) (fun vv3 ll3 hh3 y b => ?_) (fun vv3 ll3 hh3 y b F iv ap => ?_)
 ·skip
  replace fr := fr.trans (b.mono fr.size)
  replace pa := pa.kept b
  replace vP := vP.kept b
  replace vD := vD.kept b
  replace Aq := Aq.kept b
  replace Af := Af.kept b
  replace Ak := Ak.kept b
  exact ⟨tp (by kernel_rfl),
   tl (E4.rc hP pa) iPc hu (by kernel_rfl),
   tp (by kernel_rfl),
   tl (E4.rc hQ Aq) iQc hu (by kernel_rfl),
   tc (Ho.out _ vP) (by kernel_rfl),
   tl (vr_range vD) iDL hu (by kernel_rfl),
   tp (by kernel_rfl),
   tl (E4.rt hP pa) iPt hu (by kernel_rfl),
   tp (by kernel_rfl),
   tl (E4.rt hQ Aq) iQt hu (by kernel_rfl),
   tc (Ht1.out _ vP) (by kernel_rfl),
   tc (Hp.out _ vP) (by kernel_rfl),
   ta (by kernel_rfl),
   ta (by kernel_rfl), trivial⟩
 obtain ⟨y6, hy⟩ : ∃ z, z = y := ⟨_, rfl⟩
 rw [← hy] at b F iv ⊢
 clear hy
 have oq : w.heap.size < V5.heap.size ∧ Xq < V5.heap.size ∧ Xf < V5.heap.size ∧ Xk < V5.heap.size ∧ w.heap.size ≤ V5.heap.size := ⟨pa.lt, Aq.lt, Af.lt, Ak.lt, fr.size⟩
 replace fr := fr.trans (b.mono fr.size)
 replace pa := pa.kept b
 replace vP := vP.kept b
 replace vD := vD.kept b
 replace Aq := Aq.kept b
 replace Af := Af.kept b
 replace Ak := Ak.kept b
 obtain ⟨-, -, -, -, -, -, -, -, -, -, -, -, ⟨Ao, gXo⟩, ⟨Ap, gXp⟩, -⟩ := F
 have iXo := iv 12 (by decide)
 have iXp := iv 13 (by decide)
 have pXoXp := ap 12 13 (by decide) (by decide) (by decide)
 replace Ao : Arr y6 (ll3 12) 65 (I64 Z16) := Ao
 replace gXo : ll3 12 < hh3 12 := gXo
 have lXo := Ao.lt
 replace Ap : Arr y6 (ll3 13) 65 (I64 Z16) := Ap
 replace gXp : ll3 13 < hh3 13 := gXp
 have lXp := Ap.lt
 refine st_row (i := 14) (by kernel_rfl) rfl rfl rfl rfl Ao (by kernel_rfl) (by kernel_rfl) (by simp [no]) jo uo ?_
 replace fr := bel_sc fr (ll3 12) (I64 o) (by omega)
 replace pa := pa.sc (ll3 12) (I64 o) (by omega)
 replace vP := vP.sc (ll3 12) (I64 o) (by omega)
 replace vD := vD.sc (ll3 12) (I64 o) (by omega)
 replace Aq := Aq.sc (ll3 12) (I64 o) (by omega)
 replace Af := Af.sc (ll3 12) (I64 o) (by omega)
 replace Ak := Ak.sc (ll3 12) (I64 o) (by omega)
 replace Ao := Ao.sc0 (I64 o) (by simp [no])
 replace Ap := Ap.sc (ll3 12) (I64 o) (by omega)
 obtain ⟨V7, hVe⟩ : ∃ V, V = y6.setCells (ll3 12) 0 (I64 o) := ⟨_, rfl⟩
 rw [← hVe] at fr pa vP vD Aq Af Ak Ao Ap ⊢
 clear hVe
 refine st_row (i := 15) (by kernel_rfl) rfl rfl rfl rfl Ap (by kernel_rfl) (by kernel_rfl) (by simp [np]) jp up ?_
 replace fr := bel_sc fr (ll3 13) (I64 p) (by omega)
 replace pa := pa.sc (ll3 13) (I64 p) (by omega)
 replace vP := vP.sc (ll3 13) (I64 p) (by omega)
 replace vD := vD.sc (ll3 13) (I64 p) (by omega)
 replace Aq := Aq.sc (ll3 13) (I64 p) (by omega)
 replace Af := Af.sc (ll3 13) (I64 p) (by omega)
 replace Ak := Ak.sc (ll3 13) (I64 p) (by omega)
 replace Ao := Ao.sc (ll3 13) (I64 p) (by omega)
 replace Ap := Ap.sc0 (I64 p) (by simp [np])
 obtain ⟨V8, hVe⟩ : ∃ V, V = V7.setCells (ll3 13) 0 (I64 p) := ⟨_, rfl⟩
 rw [← hVe] at fr pa vP vD Aq Af Ak Ao Ap ⊢
 clear hVe
 refine wpAny_done (by kernel_rfl) ?_ _
 simp only [fillK, putT, List.setIfInBounds_toArray, List.set_cons_zero, List.set_cons_succ]
 generalize ll3 12 = Xo at *
 generalize ll3 13 = Xp at *
 clear iv ap b oq
 go_wp2
 clear pa
 clear Aq
 try simp only [Act.put]
 refine tame [kc 46 (.agg (I64 f).toArray), kc 47 (.agg (I64 k).toArray), kc 48 (.agg (I64 o).toArray), kc 49 (.agg (I64 p).toArray), kc 50 (.agg (I64 h).toArray), kc 51 (.agg (I64 o).toArray), kc 52 (.agg (I64 p).toArray), kc 53 (.agg (I64 g).toArray), kc 54 (.agg (I64 R.cells).toArray), kc 55 (.iface 67 (.agg (I64 R.cells).toArray)), kc 4 (.iface 67 (.agg (I64 R.cells).toArray))] 11 (by kernel_rfl) (by kernel_rfl) (by kernel_rfl) (by repeat' first | exact trivial | apply kc_keeps | apply ka_keeps | constructor) 0 (by kernel_rfl) (fun vv4 ll4 hh4 y b => ?_) (fun vv4 ll4 hh4 y b F iv ap => ?_)
 ·skip
  replace fr := fr.trans (b.mono fr.size)
  replace vP := vP.kept b
  replace vD := vD.kept b
  replace Af := Af.kept b
  replace Ak := Ak.kept b
  replace Ao := Ao.kept b
  replace Ap := Ap.kept b
  exact ⟨tl (arr_range Af) iif hu (by kernel_rfl),
   tl (arr_range Ak) iik hu (by kernel_rfl),
   tl (arr_range Ao) iio hu (by kernel_rfl),
   tl (arr_range Ap) iip hu (by kernel_rfl),
   tc (Hh.out _ vP) (by kernel_rfl),
   tl (arr_range Ao) iio hu (by kernel_rfl),
   tl (arr_range Ap) iip hu (by kernel_rfl),
   tc (Hg.out _ vP) (by kernel_rfl),
   tc (HR.out _ vP) (by kernel_rfl),
   tp (by kernel_rfl),
   tp (by kernel_rfl), trivial⟩
 obtain ⟨y9, hy⟩ : ∃ z, z = y := ⟨_, rfl⟩
 rw [← hy] at b F iv ⊢
 clear hy
 replace fr := fr.trans (b.mono fr.size)
 replace vP := vP.kept b
 replace vD := vD.kept b
 replace Af := Af.kept b
 replace Ak := Ak.kept b
 replace Ao := Ao.kept b
 replace Ap := Ap.kept b
 clear F
 refine wpAny_done (by kernel_rfl) ?_ _
 simp only [fillK, putT, List.setIfInBounds_toArray, List.set_cons_zero, List.set_cons_succ]
 clear iv ap b
 go_wp2
 go_ret
 exact ⟨rfl, fr⟩

end Go.Proofs.YtihoaakbkffejaaGreatDoor
namespace Go.Proofs.YtihoaakbkffejaaGreatDoor
open Go.RowKit
set_option maxRecDepth 100000

set_option maxHeartbeats 8000000 in
theorem implPtAdd (a1 : Option Addr) (n1 c1 : Nat) (xs1 : List Int) (b1 : Option Addr) (m1 d1 : Nat) (ys1 : List Int) (a2 : Option Addr) (n2 c2 : Nat) (xs2 : List Int) (b2 : Option Addr) (m2 d2 : Nat) (ys2 : List Int) (w : World) (hx1 : Is w a1 n1 c1 xs1) (hy1 : Is w b1 m1 d1 ys1) (hx2 : Is w a2 n2 c2 xs2) (hy2 : Is w b2 m2 d2 ys2) (hV : Vr w 4 (I64 PL)) (hD : Vr w 5 (I64 DL)) :
    Calls Tryz.prog 20 #[.agg #[.slice a1 n1 c1, .slice b1 m1 d1], .agg #[.slice a2 n2 c2, .slice b2 m2 d2]] w fun e w' => ∃ v, e = .returned (.tuple #[v, .bool (ptOk xs1 ys1 && ptOk xs2 ys2)]) ∧ PtT 65 w w' v (ptx (ptOk xs1 ys1 && ptOk xs2 ys2) (add6 (mk6 xs1 ys1) (mk6 xs2 ys2))) (pty (ptOk xs1 ys1 && ptOk xs2 ys2) (add6 (mk6 xs1 ys1) (mk6 xs2 ys2))) ∧ Below w.heap.size w w' := by
  obtain ⟨p, hp⟩ : ∃ p, p = ptOk xs1 ys1 := ⟨_, rfl⟩
  obtain ⟨L, hL⟩ : ∃ l, l = opL xs1 ys1 := ⟨_, rfl⟩
  obtain ⟨P, hP⟩ : ∃ P, P = mk6 xs1 ys1 := ⟨_, rfl⟩
  have HO1 : Hid (∀ Z, Below w.heap.size w Z → Vr Z 4 (I64 PL) → Vr Z 5 (I64 DL) → Calls Tryz.prog 41 #[.agg #[.slice a1 n1 c1, .slice b1 m1 d1]] Z fun e w' => e = .returned (.tuple #[.agg (I64 L).toArray, .bool p]) ∧ Below Z.heap.size Z w') := by
    unfold Hid; intro Z hZ h1 h2; rw [hL, hp]; exact implPtOpen a1 n1 c1 xs1 b1 m1 d1 ys1 Z (hx1.below hZ) (hy1.below hZ) h1 h2
  have nL : L.length = 64 := by rw [hL]; exact opL_len _ _
  have iL : (Tryz.prog.info? 67).map (·.size) = some (I64 L).toArray.size := by simpa [nL] using infoLp
  have HLL : Hid (p = true → L = P.cells ∧ P.Ok) := by
    unfold Hid; intro h; rw [hp] at h; obtain ⟨k1, k2, _⟩ := (ptOk_iff _ _).1 h; rw [hL, hP]; unfold opL; rw [if_pos h]; exact ⟨rfl, mk6_ok k1 k2⟩
  obtain ⟨q, hq⟩ : ∃ p, p = ptOk xs2 ys2 := ⟨_, rfl⟩
  obtain ⟨M, hM⟩ : ∃ l, l = opL xs2 ys2 := ⟨_, rfl⟩
  obtain ⟨Q, hQ⟩ : ∃ P, P = mk6 xs2 ys2 := ⟨_, rfl⟩
  have HO2 : Hid (∀ Z, Below w.heap.size w Z → Vr Z 4 (I64 PL) → Vr Z 5 (I64 DL) → Calls Tryz.prog 41 #[.agg #[.slice a2 n2 c2, .slice b2 m2 d2]] Z fun e w' => e = .returned (.tuple #[.agg (I64 M).toArray, .bool q]) ∧ Below Z.heap.size Z w') := by
    unfold Hid; intro Z hZ h1 h2; rw [hM, hq]; exact implPtOpen a2 n2 c2 xs2 b2 m2 d2 ys2 Z (hx2.below hZ) (hy2.below hZ) h1 h2
  have nM : M.length = 64 := by rw [hM]; exact opL_len _ _
  have iM : (Tryz.prog.info? 67).map (·.size) = some (I64 M).toArray.size := by simpa [nM] using infoLp
  have HLM : Hid (q = true → M = Q.cells ∧ Q.Ok) := by
    unfold Hid; intro h; rw [hq] at h; obtain ⟨k1, k2, _⟩ := (ptOk_iff _ _).1 h; rw [hM, hQ]; unfold opL; rw [if_pos h]; exact ⟨rfl, mk6_ok k1 k2⟩
  obtain ⟨x, hx⟩ : ∃ x, x = flx (add6 (mk6 xs1 ys1) (mk6 xs2 ys2)) := ⟨_, rfl⟩
  obtain ⟨y, hy⟩ : ∃ y, y = fly (add6 (mk6 xs1 ys1) (mk6 xs2 ys2)) := ⟨_, rfl⟩
  have nx : x.length = 16 := by rw [hx]; exact red_len _
  have ny : y.length = 16 := by rw [hy]; exact red_len _
  obtain ⟨Lx, hLx⟩ : ∃ l, l = ptx (ptOk xs1 ys1 && ptOk xs2 ys2) (add6 (mk6 xs1 ys1) (mk6 xs2 ys2)) := ⟨_, rfl⟩
  obtain ⟨Ly, hLy⟩ : ∃ l, l = pty (ptOk xs1 ys1 && ptOk xs2 ys2) (add6 (mk6 xs1 ys1) (mk6 xs2 ys2)) := ⟨_, rfl⟩
  have HN : Hid ((p && q) = false → ∀ {w' : World}, PtT 65 w w' (.agg #[.slice none 0 0, .slice none 0 0]) Lx Ly) := by
    unfold Hid; intro h w'; rw [hp, hq] at h; rw [hLx, hLy, h]; exact ptT_nil _ _ _
  have HY : Hid ((p && q) = true → ∀ (V V' : World) (v : Value), PtT 65 V V' v x y → PtT 65 V V' v Lx Ly) := by
    unfold Hid; intro h V V' v k; rw [hp, hq] at h; rw [hLx, hLy, h]; unfold ptx pty; rw [if_pos rfl, if_pos rfl, ← hx, ← hy]; exact k
  obtain ⟨R, hR⟩ : ∃ R, R = join6 P Q := ⟨_, rfl⟩
  have HX : Hid (p = true → q = true → x = flx R ∧ y = fly R) := by
    unfold Hid; intro h k; rw [hp] at h; rw [hq] at k; rw [hx, hy, hR, hP, hQ]; exact ⟨(add_lists h k).1.symm, (add_lists h k).2.symm⟩
  have HD2 : Hid (p = true → q = true → ∀ Z, Vr Z 4 (I64 PL) → Vr Z 5 (I64 DL) → Calls Tryz.prog 68 #[.agg (I64 P.cells).toArray, .iface 67 (.agg (I64 Q.cells).toArray)] Z fun e w' => e = .returned (.iface 67 (.agg (I64 R.cells).toArray)) ∧ Below Z.heap.size Z w') := by
    unfold Hid; intro h k Z hZ hZ2; rw [hR]; exact implJoined P Q Z (HLL.out h).2 (HLM.out k).2 hZ hZ2
  have HC : Hid (p = true → q = true → ∀ Z, Vr Z 4 (I64 PL) → Calls Tryz.prog 65 #[.iface 67 (.agg (I64 R.cells).toArray)] Z fun e w' => ∃ v, e = .returned v ∧ PtT 65 Z w' v x y ∧ Below Z.heap.size Z w') := by
    unfold Hid; intro h k Z hZ; have hRo : R.Ok := by rw [hR]; exact long6_ok _ _ _ _
    rw [(HX.out h k).1, (HX.out h k).2]; exact implClosed R Z hRo hZ
  rw [← hLx, ← hLy, ← hp, ← hq]
  obtain ⟨W, hW⟩ : ∃ W, W = ((w.alloc (.cells #[.slice a1 n1 c1, .slice b1 m1 d1] 33)).alloc (.cells #[.slice a2 n2 c2, .slice b2 m2 d2] 33)).alloc (.cells #[.slice none 0 0, .slice none 0 0] 33) := ⟨_, rfl⟩
  have fr : Below w.heap.size w W := by rw [hW]; exact ((((Below.refl _ _).alloc (Nat.le_refl _) _).alloc (by simp) _).alloc (by simp; omega) _)
  have pa1 : Arr W w.heap.size 33 ([.slice a1 n1 c1, .slice b1 m1 d1]) := by
    rw [hW]
    have := ((Arr.new (w) ([.slice a1 n1 c1, .slice b1 m1 d1]) 33).alloc (.cells #[.slice a2 n2 c2, .slice b2 m2 d2] 33)).alloc (.cells #[.slice none 0 0, .slice none 0 0] 33)
    exact this
  have pa2 : Arr W (w.heap.size + 1) 33 ([.slice a2 n2 c2, .slice b2 m2 d2]) := by
    rw [hW]
    have := (Arr.new (w.alloc (.cells #[.slice a1 n1 c1, .slice b1 m1 d1] 33)) ([.slice a2 n2 c2, .slice b2 m2 d2]) 33).alloc (.cells #[.slice none 0 0, .slice none 0 0] 33)
    rw [World.size_alloc] at this
    exact this
  have pr : Arr W (w.heap.size + 2) 33 ([.slice none 0 0, .slice none 0 0]) := by
    rw [hW]
    have := Arr.new ((w.alloc (.cells #[.slice a1 n1 c1, .slice b1 m1 d1] 33)).alloc (.cells #[.slice a2 n2 c2, .slice b2 m2 d2] 33)) ([.slice none 0 0, .slice none 0 0]) 33
    rw [World.size_alloc, World.size_alloc] at this
    exact this
  have h0P := hV.lt
  have vP := hV.kept fr
  have h0D := hD.lt
  have vD := hD.kept fr
  clear hV hD
  clear hx hy hLx hLy hp hL hP hx1 hy1 hq hM hQ hx2 hy2 hR HX
  go_enter Tryz.func20, Tryz.ntmps20
  go_upto_region 1 with fail
  rw [← hW]
  clear hW
  go_wp2_with (refine wpList_load_row rfl 33 _ rfl w.heap.size rfl 33 ([Value.slice a1 n1 c1,  Value.slice b1 m1 d1]).toArray (0, 0) _ pa1 Tryz.underlying33 rfl infoPt ?_)
  refine (HO1.out _ fr vP vD).mono ?_
  rintro e y1 ⟨rfl, hb1⟩
  replace fr := fr.trans (hb1.mono fr.size)
  replace pa1 := pa1.kept hb1
  replace pa2 := pa2.kept hb1
  replace pr := pr.kept hb1
  replace vP := vP.kept hb1
  replace vD := vD.kept hb1
  clear hb1
  have hXL : w.heap.size < y1.heap.size ∧ (w.heap.size + 1) < y1.heap.size ∧ (w.heap.size + 2) < y1.heap.size ∧ w.heap.size ≤ y1.heap.size := ⟨pa1.lt, pa2.lt, pr.lt, fr.size⟩
  obtain ⟨bV, AL, q1⟩ := laid_lp y1 L
  replace fr := fr.trans (bV.mono fr.size)
  replace pa1 := pa1.kept bV
  replace pa2 := pa2.kept bV
  replace pr := pr.kept bV
  replace vP := vP.kept bV
  replace vD := vD.kept bV
  go_upto_region 2 with (refine wpList_store_row rfl 67 _ _ rfl y1.heap.size (I64 L).toArray rfl rfl 67 _ q1 iL (by simp [nL]) (by simp [Value.oneCell']) ?_)
  obtain ⟨V2, hVV⟩ : ∃ V, V = (y1.alloc (.cells #[.int .i64 0, .int .i64 0, .int .i64 0, .int .i64 0, .int .i64 0, .int .i64 0, .int .i64 0, .int .i64 0, .int .i64 0, .int .i64 0, .int .i64 0, .int .i64 0, .int .i64 0, .int .i64 0, .int .i64 0, .int .i64 0, .int .i64 0, .int .i64 0, .int .i64 0, .int .i64 0, .int .i64 0, .int .i64 0, .int .i64 0, .int .i64 0, .int .i64 0, .int .i64 0, .int .i64 0, .int .i64 0, .int .i64 0, .int .i64 0, .int .i64 0, .int .i64 0, .int .i64 0, .int .i64 0, .int .i64 0, .int .i64 0, .int .i64 0, .int .i64 0, .int .i64 0, .int .i64 0, .int .i64 0, .int .i64 0, .int .i64 0, .int .i64 0, .int .i64 0, .int .i64 0, .int .i64 0, .int .i64 0, .int .i64 0, .int .i64 0, .int .i64 0, .int .i64 0, .int .i64 0, .int .i64 0, .int .i64 0, .int .i64 0, .int .i64 0, .int .i64 0, .int .i64 0, .int .i64 0, .int .i64 0, .int .i64 0, .int .i64 0, .int .i64 0] 67)).setRow y1.heap.size (I64 L).toArray := ⟨_, rfl⟩
  obtain ⟨XL, hE⟩ : ∃ E, E = y1.heap.size := ⟨_, rfl⟩
  rw [← hVV] at fr pa1 pa2 pr vP vD AL ⊢
  rw [← hE] at AL hXL ⊢
  clear hVV hE q1 bV
  go_wp2_with (refine wpList_load_row rfl 33 _ rfl (w.heap.size + 1) rfl 33 ([Value.slice a2 n2 c2,  Value.slice b2 m2 d2]).toArray (0, 0) _ pa2 Tryz.underlying33 rfl infoPt ?_)
  refine (HO2.out _ fr vP vD).mono ?_
  rintro e y3 ⟨rfl, hb3⟩
  replace fr := fr.trans (hb3.mono fr.size)
  replace pa1 := pa1.kept hb3
  replace pa2 := pa2.kept hb3
  replace pr := pr.kept hb3
  replace vP := vP.kept hb3
  replace vD := vD.kept hb3
  replace AL := AL.kept hb3
  clear hb3
  have hXM : w.heap.size < y3.heap.size ∧ (w.heap.size + 1) < y3.heap.size ∧ (w.heap.size + 2) < y3.heap.size ∧ XL < y3.heap.size ∧ w.heap.size ≤ y3.heap.size := ⟨pa1.lt, pa2.lt, pr.lt, AL.lt, fr.size⟩
  obtain ⟨bV, AM, q1⟩ := laid_lp y3 M
  replace fr := fr.trans (bV.mono fr.size)
  replace pa1 := pa1.kept bV
  replace pa2 := pa2.kept bV
  replace pr := pr.kept bV
  replace vP := vP.kept bV
  replace vD := vD.kept bV
  replace AL := AL.kept bV
  go_upto_region 3 with (refine wpList_store_row rfl 67 _ _ rfl y3.heap.size (I64 M).toArray rfl rfl 67 _ q1 iM (by simp [nM]) (by simp [Value.oneCell']) ?_)
  obtain ⟨V4, hVV⟩ : ∃ V, V = (y3.alloc (.cells #[.int .i64 0, .int .i64 0, .int .i64 0, .int .i64 0, .int .i64 0, .int .i64 0, .int .i64 0, .int .i64 0, .int .i64 0, .int .i64 0, .int .i64 0, .int .i64 0, .int .i64 0, .int .i64 0, .int .i64 0, .int .i64 0, .int .i64 0, .int .i64 0, .int .i64 0, .int .i64 0, .int .i64 0, .int .i64 0, .int .i64 0, .int .i64 0, .int .i64 0, .int .i64 0, .int .i64 0, .int .i64 0, .int .i64 0, .int .i64 0, .int .i64 0, .int .i64 0, .int .i64 0, .int .i64 0, .int .i64 0, .int .i64 0, .int .i64 0, .int .i64 0, .int .i64 0, .int .i64 0, .int .i64 0, .int .i64 0, .int .i64 0, .int .i64 0, .int .i64 0, .int .i64 0, .int .i64 0, .int .i64 0, .int .i64 0, .int .i64 0, .int .i64 0, .int .i64 0, .int .i64 0, .int .i64 0, .int .i64 0, .int .i64 0, .int .i64 0, .int .i64 0, .int .i64 0, .int .i64 0, .int .i64 0, .int .i64 0, .int .i64 0, .int .i64 0] 67)).setRow y3.heap.size (I64 M).toArray := ⟨_, rfl⟩
  obtain ⟨XM, hE⟩ : ∃ E, E = y3.heap.size := ⟨_, rfl⟩
  rw [← hVV] at fr pa1 pa2 pr vP vD AL AM ⊢
  rw [← hE] at AM hXM ⊢
  clear hVV hE q1 bV
  cases p with
  | false =>
    have h2 := pr.row ([.slice none 0 0, .slice none 0 0])
    have HB : Hid _ := setRow_below fr (w.heap.size + 2) ([.slice none 0 0, .slice none 0 0]).toArray (by omega)
    go_wp2_with (refine wpList_store_row rfl 33 _ _ rfl (w.heap.size + 2) ([Value.slice none 0 0,  Value.slice none 0 0]).toArray rfl rfl 33 _ pr infoPt rfl (by simp [Value.oneCell']) ?_)
    exact bodyPost_ret (results_row_tmp (v := .bool false) (cs := [.slice none 0 0, .slice none 0 0]) rfl rfl rfl h2 Tryz.underlying33 rfl infoPt) rfl ⟨_, rfl, HN.out (by simp), HB.out⟩
  | true =>
    cases q with
    | false =>
      have h2 := pr.row ([.slice none 0 0, .slice none 0 0])
      have HB : Hid _ := setRow_below fr (w.heap.size + 2) ([.slice none 0 0, .slice none 0 0]).toArray (by omega)
      go_wp2_with (refine wpList_store_row rfl 33 _ _ rfl (w.heap.size + 2) ([Value.slice none 0 0,  Value.slice none 0 0]).toArray rfl rfl 33 _ pr infoPt rfl (by simp [Value.oneCell']) ?_)
      exact bodyPost_ret (results_row_tmp (v := .bool false) (cs := [.slice none 0 0, .slice none 0 0]) rfl rfl rfl h2 Tryz.underlying33 rfl infoPt) rfl ⟨_, rfl, HN.out (by simp), HB.out⟩
    | true =>
      obtain ⟨eL, hPo⟩ := HLL.out (by simp)
      subst eL
      obtain ⟨eM, hQo⟩ := HLM.out (by simp)
      subst eM
      have hip := infoLp' hPo
      have hiq := infoLp' hQo
      go_wp2_with (first
          | (refine wpList_load_row rfl 67 _ rfl XL rfl 67 (I64 P.cells).toArray (0, 0) _ AL Tryz.underlying67 rfl hip ?_)
          | (refine wpList_load_row rfl 67 _ rfl XM rfl 67 (I64 Q.cells).toArray (0, 0) _ AM Tryz.underlying67 rfl hiq ?_))
      refine (HD2.out (by simp) (by simp) _ vP vD).mono ?_
      rintro e y5 ⟨rfl, hb5⟩
      replace fr := fr.trans (hb5.mono fr.size)
      replace pa1 := pa1.kept hb5
      replace pa2 := pa2.kept hb5
      replace pr := pr.kept hb5
      replace vP := vP.kept hb5
      replace vD := vD.kept hb5
      replace AL := AL.kept hb5
      replace AM := AM.kept hb5
      clear hb5
      go_wp2_with fail
      have hl : w.heap.size + 2 < y5.heap.size := pr.lt
      refine (HC.out (by simp) (by simp) _ vP).mono ?_
      rintro e y6 ⟨v, rfl, hpt, hb6⟩
      replace fr := fr.trans (hb6.mono fr.size)
      replace pa1 := pa1.kept hb6
      replace pa2 := pa2.kept hb6
      replace pr := pr.kept hb6
      replace vP := vP.kept hb6
      replace vD := vD.kept hb6
      replace AL := AL.kept hb6
      replace AM := AM.kept hb6
      clear hb6
      obtain ⟨aa, ca, ab, cb, rfl, oa, ob, hap⟩ := hpt
      rw [nx, ny] at hap ⊢
      rw [nx] at oa
      rw [ny] at ob
      have ia := In.of oa
      have ib := In.of ob
      have HB : Hid _ := setRow_below fr (w.heap.size + 2) ([.slice aa 16 ca, .slice ab 16 cb]).toArray (by omega)
      have h2 := pr.row ([.slice aa 16 ca, .slice ab 16 cb])
      have oa2 := own_rowM oa ia (.inl hl) ([.slice aa 16 ca, .slice ab 16 cb]).toArray
      have ob2 := own_rowM ob ib (.inl hl) ([.slice aa 16 ca, .slice ab 16 cb]).toArray
      go_wp2_with (refine wpList_store_row rfl 33 _ _ rfl (w.heap.size + 2) ([Value.slice aa 16 ca,  Value.slice ab 16 cb]).toArray rfl rfl 33 _ pr infoPt rfl (by simp [Value.oneCell']) ?_)
      exact bodyPost_ret (results_row_tmp (v := .bool true) (cs := [.slice aa 16 ca, .slice ab 16 cb]) rfl rfl rfl h2 Tryz.underlying33 rfl infoPt) rfl ⟨_, rfl, HY.out (by simp) _ _ _ (ptT_16 nx ny (own_base oa2 (by omega)) (own_base ob2 (by omega)) hap), HB.out⟩

end Go.Proofs.YtihoaakbkffejaaGreatDoor
namespace Go.Proofs.YtihoaakbkffejaaGreatDoor
open Go.RowKit
set_option maxRecDepth 100000
set_option maxHeartbeats 4000000
set_option linter.unusedSectionVars false

section
variable [NeZero pN]
end
end Go.Proofs.YtihoaakbkffejaaGreatDoor
