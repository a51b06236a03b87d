/-
  What is proved here: plain facts on points in bytes, on multiples of the base, and what keys and signatures are made of; no program is spoken of, no condition; the contract of the specification's l7clamp; the contract of the specification's PubOf; contracts of the specification's l7join and l7mod; the contract of the specification's l5add: the sum of two multipliers, modulo the order.
-/
import Derived.Test.YtihoaakbkffejaaGreatDoorSApp
import Derived.Test.YtihoaakbkffejaaGreatDoorSUff
import Derived.Test.YtihoaakbkffejaaGreatDoorSJa
import Derived.Test.YtihoaakbkffejaaGreatDoorSOf
import Derived.Test.YtihoaakbkffejaaGreatDoorSKe
import Derived.Test.YtihoaakbkffejaaGreatDoorSWy
import Derived.Test.YtihoaakbkffejaaGreatDoorSQi
import Derived.Deep.CutRange
import Derived.Test.YtihoaakbkffejaaGreatDoorSUc
import Derived.Test.YtihoaakbkffejaaGreatDoorSYe
namespace Go.Proofs.YtihoaakbkffejaaGreatDoor
open Go.RowKit
set_option maxRecDepth 100000

/-- Wide bytes that are zero behind the first half. -/
theorem val_app0' : ∀ (l : List Int) (n : Nat), val (l ++ List.replicate n 0) = val l
  | [], n => by
    induction n with
    | zero => rfl
    | succ n ih => simp only [List.nil_append] at ih ⊢; rw [List.replicate_succ]; show (0 : Int) + 65536 * val (List.replicate n 0) = 0; rw [ih]; rfl
  | x :: l, n => by show x + 65536 * val (l ++ List.replicate n 0) = x + 65536 * val l; rw [val_app0' l n]
theorem some_getD {l : List Int} {i : Nat} (h : i < l.length) : l[i]? = some (l.getD i 0) := by simp [List.getD, List.getElem?_eq_getElem h]
theorem wdL_pad {bs : List Int} (hl : bs.length = 32) (zs : List Int) (hz : zs = List.replicate 32 0) : wdL (bs ++ zs) = rdL bs ++ List.replicate 16 0 := by
  apply List.ext_getElem?
  intro i
  have gl : ∀ j, j < 32 → (bs ++ zs).getD j 0 = bs.getD j 0 := fun j hj => by
    simp only [List.getD, List.getElem?_append_left (show j < bs.length by omega)]
  have gr : ∀ j, 32 ≤ j → (bs ++ zs).getD j 0 = 0 := fun j hj => by
    rw [hz]
    simp only [List.getD, List.getElem?_append_right (show bs.length ≤ j by omega), List.getElem?_replicate]
    split <;> rfl
  by_cases h1 : i < 16
  · rw [List.getElem?_append_left (by rw [rdL_len]; exact h1), some_getD (by rw [wdL_len]; omega), some_getD (by rw [rdL_len]; omega), wdL_get _ i (by omega), rdL_get _ i h1, gl _ (by omega), gl _ (by omega)]
  · rw [List.getElem?_append_right (by rw [rdL_len]; omega), rdL_len, List.getElem?_replicate]
    by_cases h2 : i < 32
    · rw [some_getD (by rw [wdL_len]; omega), wdL_get _ i (by omega), gr _ (by omega), gr _ (by omega), if_pos (by omega)]
      rfl
    · rw [List.getElem?_eq_none (by rw [wdL_len]; omega), if_neg (by omega)]
theorem wide_pad {bs : List Int} (hl : bs.length = 32) : val (wdL (bs ++ List.replicate 32 0)) = val (rdL bs) := by rw [wdL_pad hl _ rfl, val_app0']

/-- The bytes of a point. -/
def enc (p : KF × KF) : List Int := ptBt (cx p.1) (cx p.2)
theorem enc_len (p : KF × KF) : (enc p).length = 32 := ptBt_len (feOk_len (cx_ok _))
theorem enc_byte (p : KF × KF) : ∀ x ∈ enc p, 0 ≤ x ∧ x < 256 := ptBt_byte (cx_ok _)
section
variable [NeZero pN]
theorem ptBt_ext {P : E4} {p : KF × KF} (h : Ext6 P p) : ptBt (flx P) (fly P) = enc p := by
  obtain ⟨a, b⟩ := ext6_flat h
  unfold enc
  rw [a, b]
theorem ptBF_cx {p : KF × KF} (h : On dK p) : ptBF (cx p.1) (cx p.2) = enc p := by
  unfold ptBF
  rw [if_pos (pt_ok h), ptBt_ext (ext6_make _ _), fl_cx, fl_cx]
theorem ext6_base : Ext6 base6 baseK := by
  have h := ext6_make BX BY
  have b := base_lists
  have e : (fl BX, fl BY) = baseK := by rw [b.1, b.2, fl_cx, fl_cx]
  rw [e] at h
  exact h
/-- A multiple of the base hangs on the number modulo the order alone. -/
theorem mul_red (N : Nat) : pMul dK ivK (N % oN) baseK = pMul dK ivK N baseK := by
  have := mul_sum 0 N
  rw [Nat.zero_add] at this
  rw [this]
  exact crvK.zero_add _
end
/-! What a seed comes to. -/
def sA (seed : List Int) : List Int := clL (rdL ((sumOfW seed).take 32))
def mS (xs : List Int) : List Int := redO (val (wdL (sumOfW xs)))
theorem sA_len (seed : List Int) : (sA seed).length = 16 := clL_len (rdL_len _)
theorem take_byte {l : List Int} (h : ∀ x ∈ l, 0 ≤ x ∧ x < 256) (n : Nat) : ∀ x ∈ l.take n, 0 ≤ x ∧ x < 256 := fun x hx => h x (List.mem_of_mem_take hx)
theorem drop_byte {l : List Int} (h : ∀ x ∈ l, 0 ≤ x ∧ x < 256) (n : Nat) : ∀ x ∈ l.drop n, 0 ≤ x ∧ x < 256 := fun x hx => h x (List.mem_of_mem_drop hx)
theorem app_byte {l m : List Int} (h : ∀ x ∈ l, 0 ≤ x ∧ x < 256) (k : ∀ x ∈ m, 0 ≤ x ∧ x < 256) : ∀ x ∈ l ++ m, 0 ≤ x ∧ x < 256 := fun x hx => (List.mem_append.1 hx).elim (h x) (k x)
theorem lm_256 {l : List Int} (h : l.length = 16) (hm : Lm l) : 0 ≤ val l ∧ (val l).toNat < 2 ^ 256 := by
  have h0 := val_nonneg (fun x hx => (hm x hx).1)
  have h1 := val_lt hm
  rw [h] at h1
  refine ⟨h0, ?_⟩
  have : (65536 : Int) ^ 16 = ((2 ^ 256 : Nat) : Int) := by decide
  rw [this] at h1
  omega
end Go.Proofs.YtihoaakbkffejaaGreatDoor
namespace Go.Proofs.YtihoaakbkffejaaGreatDoor
open Go.RowKit
set_option maxRecDepth 100000

theorem infoV : (Tryz.prog.info? 80).map (·.size) = some 16 := by kernel_rfl
theorem infoV' {l : List Int} (h : l.length = 16) : (Tryz.prog.info? 80).map (·.size) = some (I64 l).toArray.size := by simpa [h] using infoV
/-- A number is laid into a new cell. -/
theorem laid_v (w1 : World) (L : List Int) : Below w1.heap.size w1 ((w1.alloc (.cells #[.int .i64 0, .int .i64 0, .int .i64 0, .int .i64 0, .int .i64 0, .int .i64 0, .int .i64 0, .int .i64 0, .int .i64 0, .int .i64 0, .int .i64 0, .int .i64 0, .int .i64 0, .int .i64 0, .int .i64 0, .int .i64 0] 80)).setRow w1.heap.size (I64 L).toArray) ∧ Arr ((w1.alloc (.cells #[.int .i64 0, .int .i64 0, .int .i64 0, .int .i64 0, .int .i64 0, .int .i64 0, .int .i64 0, .int .i64 0, .int .i64 0, .int .i64 0, .int .i64 0, .int .i64 0, .int .i64 0, .int .i64 0, .int .i64 0, .int .i64 0] 80)).setRow w1.heap.size (I64 L).toArray) w1.heap.size 80 (I64 L) ∧ Arr (w1.alloc (.cells #[.int .i64 0, .int .i64 0, .int .i64 0, .int .i64 0, .int .i64 0, .int .i64 0, .int .i64 0, .int .i64 0, .int .i64 0, .int .i64 0, .int .i64 0, .int .i64 0, .int .i64 0, .int .i64 0, .int .i64 0, .int .i64 0] 80)) w1.heap.size 80 (I64 Z16) := by
 have q : Arr (w1.alloc (.cells #[.int .i64 0, .int .i64 0, .int .i64 0, .int .i64 0, .int .i64 0, .int .i64 0, .int .i64 0, .int .i64 0, .int .i64 0, .int .i64 0, .int .i64 0, .int .i64 0, .int .i64 0, .int .i64 0, .int .i64 0, .int .i64 0] 80)) w1.heap.size 80 (I64 Z16) := Arr.new w1 (I64 Z16) _
 exact ⟨setRow_below ((Below.refl _ _).alloc (Nat.le_refl _) _) _ _ (Nat.le_refl _), q.row _, q⟩

set_option maxHeartbeats 2000000 in
theorem specClamp16 (a : Option Addr) (c : Nat) (bs : List Int) (w : World) (hx : Bs w a 32 c bs) :
  Calls Tryz.prog 90 #[.slice a 32 c] w fun e w' => e = .returned (.agg (I64 (clL (rdL bs))).toArray) ∧ Below w.heap.size w w' := by
 have hm : Lm (rdL bs) := rdL_lm hx.2.2.2.1
 have hl := rdL_len bs
 have HR : Hid (∀ (Z : World), Bs Z a 32 c bs → Calls Tryz.prog 51 #[.slice a 32 c] Z fun e w' => e = .returned (.agg (I64 (rdL bs)).toArray) ∧ Below Z.heap.size Z w') := by unfold Hid; intro Z h; exact specRead16 a c bs Z h
 obtain ⟨R, hR⟩ : ∃ R, R = rdL bs := ⟨_, rfl⟩
 rw [← hR] at hm hl HR ⊢
 clear hR
 obtain ⟨x, ex⟩ : ∃ x, x = R.getD 0 0 := ⟨_, rfl⟩
 obtain ⟨y, ey⟩ : ∃ y, y = R.getD 15 0 := ⟨_, rfl⟩
 have bx := gD_lm hm 0
 have b15 := gD_lm hm 15
 rw [← ex] at bx
 rw [← ey] at b15
 have a1 := and_65528 bx.1 bx.2
 have a2 := top_16384 b15.1 b15.2
 obtain ⟨C, hC⟩ : ∃ C, C = clL R := ⟨_, rfl⟩
 have HC : Hid (((I64 R).set 0 (.int .i64 (x / 8 * 8))).set 15 (.int .i64 (y % 16384 + 16384)) = I64 C) := by
  unfold Hid; rw [hC, ex, ey]; simp only [clL, I64, List.map_set]
 have hCl : C.length = 16 := by rw [hC]; exact clL_len hl
 rw [← hC]
 clear hC
 have jR := infoV' hl
 have jC := infoV' hCl
 obtain ⟨W, hW⟩ : ∃ W, W = w.alloc (.cells #[.int .i64 0, .int .i64 0, .int .i64 0, .int .i64 0, .int .i64 0, .int .i64 0, .int .i64 0, .int .i64 0, .int .i64 0, .int .i64 0, .int .i64 0, .int .i64 0, .int .i64 0, .int .i64 0, .int .i64 0, .int .i64 0] 80) := ⟨_, rfl⟩
 have B : Below w.heap.size w W := by rw [hW]; exact (Below.refl _ _).alloc (Nat.le_refl _) _
 have p2 : Arr W w.heap.size 80 (I64 Z16) := by rw [hW]; exact Arr.new _ (I64 Z16) _
 have hxW := hx.below B
 clear hx
 go_enter Tryz.func90, Tryz.ntmps90
 go_upto_region 1 with fail
 rw [← hW]
 clear hW
 go_wp2_with fail
 refine (HR.out _ hxW).mono ?_
 rintro e y1 ⟨rfl, hb1⟩
 replace B := B.trans (hb1.mono B.size)
 replace p2 := p2.kept hb1
 clear hb1 hxW
 have hX : w.heap.size < y1.heap.size := p2.lt
 obtain ⟨bV, A, q1⟩ := laid_v y1 R
 replace B := B.trans (bV.mono B.size)
 replace p2 := p2.kept bV
 go_upto_region 2 with (refine wpList_store_row rfl 80 _ _ rfl y1.heap.size (I64 R).toArray rfl rfl 80 _ q1 jR (by simp [hl]) (by simp [Value.oneCell']) ?_)
 obtain ⟨V, hV⟩ : ∃ V, V = (y1.alloc (.cells #[.int .i64 0, .int .i64 0, .int .i64 0, .int .i64 0, .int .i64 0, .int .i64 0, .int .i64 0, .int .i64 0, .int .i64 0, .int .i64 0, .int .i64 0, .int .i64 0, .int .i64 0, .int .i64 0, .int .i64 0, .int .i64 0] 80)).setRow y1.heap.size (I64 R).toArray := ⟨_, rfl⟩
 obtain ⟨X, hE⟩ : ∃ E, E = y1.heap.size := ⟨_, rfl⟩
 rw [← hV] at B p2 A ⊢
 rw [← hE] at A hX ⊢
 clear hV hE q1 bV
 have c0 : V.cell? ⟨X, 0, none⟩ = some (.int .i64 x) := by rw [A.i64 0 (by omega), ex]
 have fz := A.frozen 0
 have A' := A.set 0 (.int .i64 (x / 8 * 8))
 have p2' := p2.other ⟨X, 0, none⟩ (.int .i64 (x / 8 * 8)) (by show w.heap.size ≠ X; omega)
 have B' := B.setCell (p := ⟨X, 0, none⟩) (by show w.heap.size ≤ X; omega) (.int .i64 (x / 8 * 8))
 clear ex
 go_upto_region 3 with fail
 obtain ⟨V1, hV1⟩ : ∃ Z, Z = V.setCell ⟨X, 0, none⟩ (.int .i64 (x / 8 * 8)) := ⟨_, rfl⟩
 rw [← hV1] at A' p2' B' ⊢
 have c15 : V1.cell? ⟨X, 15, none⟩ = some (.int .i64 y) := by rw [A'.cell 15]; simp [hl, ey]
 have fz1 := A'.frozen 15
 have A2 := A'.set 15 (.int .i64 (y % 16384 + 16384))
 have p22 := p2'.other ⟨X, 15, none⟩ (.int .i64 (y % 16384 + 16384)) (by show w.heap.size ≠ X; omega)
 have B2 := B'.setCell (p := ⟨X, 15, none⟩) (by show w.heap.size ≤ X; omega) (.int .i64 (y % 16384 + 16384))
 clear hV1 c0 fz A p2 B A' p2' B' ey
 go_upto_region 4 with fail
 obtain ⟨V2, hV2⟩ : ∃ Z, Z = V1.setCell ⟨X, 15, none⟩ (.int .i64 (y % 16384 + 16384)) := ⟨_, rfl⟩
 rw [← hV2] at A2 p22 B2 ⊢
 clear hV2 c15 fz1
 rw [HC.out] at A2
 have h2 := p22.row (I64 C)
 have HB : Hid _ := setRow_below B2 w.heap.size (I64 C).toArray (Nat.le_refl _)
 go_wp2_with (first
  | (refine wpList_load_row rfl 80 _ rfl X rfl 80 (I64 C).toArray (0, 0) _ A2 Tryz.underlying80 rfl jC ?_)
  | (refine wpList_store_row rfl 80 _ _ rfl w.heap.size (I64 C).toArray rfl rfl 80 _ p22 jC (by simp [hCl]) (by simp [Value.oneCell']) ?_))
 exact bodyPost_ret (results_cell_row rfl _ _ w.heap.size 80 (I64 C).toArray (0, 0) _ rfl h2 Tryz.underlying80 rfl jC) rfl ⟨rfl, HB.out⟩

end Go.Proofs.YtihoaakbkffejaaGreatDoor
namespace Go.Proofs.YtihoaakbkffejaaGreatDoor
open Go.RowKit
set_option maxRecDepth 100000

/-- The bytes of a multiple of the base. -/
def baseB (N : Nat) : List Int := enc (@pMul pN nzP dK ivK N baseK)
theorem baseB_len (N : Nat) : (baseB N).length = 32 := enc_len _
theorem baseB_byte (N : Nat) : ∀ x ∈ baseB N, 0 ≤ x ∧ x < 256 := enc_byte _
theorem baseB_mul {N : Nat} (h : N < 2 ^ 256) : ptBt (flx (mul6 base6 N)) (fly (mul6 base6 N)) = baseB N := by
  haveI := nzP
  exact ptBt_ext (ext6_mul ext6_base on_base N h)
theorem baseB_red (N : Nat) : baseB (N % oN) = baseB N := by
  haveI := nzP
  unfold baseB
  rw [mul_red]
theorem mul6_ok (P : E4) (N : Nat) : (mul6 P N).Ok := mst_ok P N 256
theorem sumOfW_byte (xs : List Int) : ∀ y ∈ sumOfW xs, 0 ≤ y ∧ y < 256 := sumW_byte _
theorem sA_lm (seed : List Int) : Lm (sA seed) := clL_lm (rdL_lm (take_byte (sumOfW_byte _) 32))

/-- l6bytes of a multiple of the base. -/
theorem specBase (k : List Int) (Z : World) (hk : k.length = 16) (hm : Lm k) :
    Calls Tryz.prog 54 #[.agg (I64 (mul6 base6 (val k).toNat).cells).toArray] Z fun e w' => ∃ v, e = .returned v ∧ w'.ownsRow Z.heap.size 5 1 v 32 (U8 (baseB (val k).toNat)) ∧ Below Z.heap.size Z w' := by
  rw [← baseB_mul (lm_256 hk hm).2]
  exact spec6bytes _ Z (mul6_ok _ _)

end Go.Proofs.YtihoaakbkffejaaGreatDoor
namespace Go.Proofs.YtihoaakbkffejaaGreatDoor
open Go.RowKit
set_option maxRecDepth 100000

set_option maxHeartbeats 2000000 in
theorem specJoin (a1 a2 a3 : Option Addr) (n1 c1 n2 c2 n3 c3 : Nat) (xs ys zs : List Int) (w : World) (h1 : Bs w a1 n1 c1 xs) (h2 : Bs w a2 n2 c2 ys) (h3 : Bs w a3 n3 c3 zs) (hn : n1 + n2 + n3 ≤ 4194304) :
    Calls Tryz.prog 74 #[.slice a1 n1 c1, .slice a2 n2 c2, .slice a3 n3 c3] w fun e w' => ∃ v, e = .returned v ∧ w'.ownsRow w.heap.size 5 1 v (n1 + n2 + n3) (U8 (xs ++ ys ++ zs)) ∧ Below w.heap.size w w' := by
  have ow : (w.alloc (.cells #[] 5)).ownsRow w.heap.size 5 1 (.slice (some ⟨w.heap.size, 0, none⟩) 0 0) 0 (U8 []) := World.ownsRow_lit (base := w.heap.size) (e := 5) (size := 1) w #[] 0 (Nat.le_refl _) (by unfold maxLen; omega) rfl
  have bA : Below w.heap.size w (w.alloc (.cells #[] 5)) := (Below.refl _ _).alloc (Nat.le_refl _) _
  go_enter Tryz.func74, Tryz.ntmps74
  go_wp2_with (at_builtin; refine wpl_append_bs rfl _ _ rfl w.heap.size _ 0 [] rfl a1 n1 c1 xs rfl ow (h1.below bA) (by omega) (by simp) ?_)
  intro v1 w1 ow1 gr1 _
  have b1 : Below w.heap.size w w1 := below_app0 bA bA.size ow gr1
  clear ow bA gr1 h1
  go_wp2_with (at_builtin; refine wpl_append_bs rfl _ _ rfl w.heap.size _ n1 xs rfl a2 n2 c2 ys rfl ow1 (h2.below b1) (by omega) b1.size ?_)
  intro v2 w2 ow2 gr2 _
  have b2 : Below w.heap.size w w2 := below_app0 b1 b1.size ow1 gr2
  replace ow2 : w2.ownsRow w.heap.size 5 1 v2 (n1 + n2) (U8 (xs ++ ys)) := by simpa [U8] using ow2
  clear ow1 b1 gr2 h2
  go_wp2_with (at_builtin; refine wpl_append_bs rfl _ _ rfl w.heap.size _ (n1 + n2) (xs ++ ys) rfl a3 n3 c3 zs rfl ow2 (h3.below b2) (by omega) b2.size ?_)
  intro v3 w3 ow3 gr3 _
  have b3 : Below w.heap.size w w3 := below_app0 b2 b2.size ow2 gr3
  clear ow2 b2 gr3 h3
  go_wp2
  go_ret
  exact ⟨v3, rfl, by simpa [U8] using ow3, b3⟩

set_option maxHeartbeats 2000000 in
theorem specL7mod (l : List Int) (w : World) (hl : l.length = 16) (hm : Lm l) :
    Calls Tryz.prog 93 #[.agg (I64 l).toArray] w fun e w' => e = .returned (.agg (I64 (redO (val l))).toArray) ∧ Below w.heap.size w w' := by
  have HM : Hid (∀ a c Z, Is Z a 16 c l → Calls Tryz.prog 121 #[.slice a 16 c] Z fun e w' => e = .returned (.agg (I64 (redO (val l))).toArray) ∧ Below Z.heap.size Z w') := by unfold Hid; intro a c Z h; exact specMod a 16 c l Z h hm (by omega)
  obtain ⟨R, hR⟩ : ∃ R, R = redO (val l) := ⟨_, rfl⟩
  have hRl : R.length = 16 := by rw [hR]; exact redO_len _
  rw [← hR] at HM ⊢
  clear hR
  have jR := infoV' hRl
  obtain ⟨A, hA⟩ : ∃ A, A = (I64 l).toArray := ⟨_, rfl⟩
  rw [← hA]
  obtain ⟨W, hW⟩ : ∃ W, W = (w.alloc (.cells A 80)).alloc (.cells #[.int .i64 0, .int .i64 0, .int .i64 0, .int .i64 0, .int .i64 0, .int .i64 0, .int .i64 0, .int .i64 0, .int .i64 0, .int .i64 0, .int .i64 0, .int .i64 0, .int .i64 0, .int .i64 0, .int .i64 0, .int .i64 0] 80) := ⟨_, rfl⟩
  have g0 : Arr W w.heap.size 80 (I64 l) := by rw [hW, hA]; exact (Arr.new w (I64 l) _).alloc _
  have g1 : Arr W (w.heap.size + 1) 80 (I64 Z16) := by
    rw [hW]
    have := Arr.new (w.alloc (.cells A 80)) (I64 Z16) 80
    rw [World.size_alloc] at this
    exact this
  have gB : Below w.heap.size w W := by rw [hW]; exact ((Below.refl _ _).alloc (Nat.le_refl _) _).alloc (by simp) _
  clear hA
  go_enter Tryz.func93, Tryz.ntmps93
  go_wp2
  go_loopw [3, 4] (fun v i wr => ∃ k : Nat, k ≤ 16 ∧ i = .int .i64 k ∧ wr.ownsRow (w.heap.size + 2) 3 1 v k (I64 (l.take k)) ∧ Arr wr w.heap.size 80 (I64 l) ∧ Arr wr (w.heap.size + 1) 80 (I64 Z16) ∧ Below w.heap.size w wr ∧ w.heap.size + 2 ≤ wr.heap.size) (fun _ i _ => 16 - (intOf i).toNat)
  case atStart => exact ⟨0, by omega, rfl, by simpa using World.ownsRow_nil _ _ _ _, hW ▸ g0, hW ▸ g1, hW ▸ gB, by simp⟩
  case round =>
    clear g0 g1 gB hW
    obtain ⟨k, hk, rfl, ho, g0, g1, gB, gs⟩ := hrel
    by_cases hlt : k < 16
    · obtain ⟨x, hx⟩ : ∃ x, x = l.getD k 0 := ⟨_, rfl⟩
      have hck := g0.i64 k (by omega)
      rw [← hx] at hck
      have hxb := gD_lm hm k
      rw [← hx] at hxb
      have hts := take_app l k (by omega)
      rw [← hx] at hts
      have HTS : Hid _ := hts
      have hk16 : (k : Int) < 16 := by omega
      have hk0 : (0 : Int) ≤ (k : Int) := by omega
      clear hts hx
      go_wp2_with (at_builtin; refine wpl_append_is rfl _ _ rfl (w.heap.size + 2) _ k (l.take k) rfl (some ⟨wr.heap.size, 0, none⟩) 1 1 [x] rfl (ho.alloc _) ?_ ?_ ?_ ?_)
      · exact Is.one _ _ (by omega) (by omega)
      · omega
      · first | omega | (simp; omega)
      intro v' w' h1 h2 _
      have hbA : Below (w.heap.size + 2) wr w' := ((Below.refl _ _).alloc (by omega) _).grown h2 (by simp; omega) (fun j hj => (ho.lt j hj).1)
      have g0' := g0.below hbA (by omega)
      have g1' := g1.below hbA (by omega)
      have gB' := gB.trans (hbA.mono (by omega))
      have gs' := Nat.le_trans gs hbA.size
      have HR : Hid (w'.ownsRow (w.heap.size + 2) 3 1 v' (k + 1) (I64 (l.take (k + 1)))) := by
        unfold Hid
        rw [HTS.out]; simpa using h1
      clear h1 h2 ho g0 g1 gB hbA HTS hck
      go_wp2
      go_roundw
      case rel => exact ⟨k + 1, by omega, by go_num, HR.out, g0', g1', gB', gs'⟩
      case measure => simp [intOf]; omega
    · obtain rfl : k = 16 := by omega
      rw [List.take_of_length_le (by omega)] at ho
      obtain ⟨a, c, rfl, _, hI⟩ := Is.own ho (fun x hx => by have := hm x hx; omega)
      clear ho g0
      go_wp2_with fail
      refine (HM.out _ _ _ hI).mono ?_
      rintro e y1 ⟨rfl, hb1⟩
      replace g1 := g1.kept hb1
      replace gB := gB.trans (hb1.mono gB.size)
      have h2 := g1.row (I64 R)
      have HB : Hid _ := setRow_below gB (w.heap.size + 1) (I64 R).toArray (by omega)
      go_wp2_with (refine wpList_store_row rfl 80 _ _ rfl (w.heap.size + 1) (I64 R).toArray rfl rfl 80 _ g1 jR (by simp [hRl]) (by simp [Value.oneCell']) ?_)
      exact bodyPost_ret (results_cell_row rfl _ _ (w.heap.size + 1) 80 (I64 R).toArray (0, 0) _ rfl h2 Tryz.underlying80 rfl jR) rfl ⟨rfl, HB.out⟩
end Go.Proofs.YtihoaakbkffejaaGreatDoor
namespace Go.Proofs.YtihoaakbkffejaaGreatDoor
open Go.RowKit
set_option maxRecDepth 100000

set_option maxHeartbeats 4000000 in
theorem specScAdd16 (a b : List Int) (w : World) (ha : a.length = 16) (hb : b.length = 16) (la : Lm a) (lb : Lm b) (va : val a < qO) (vb : val b < qO) :
    Calls Tryz.prog 91 #[.agg (I64 a).toArray, .agg (I64 b).toArray] w fun e w' => e = .returned (.agg (I64 (redO (val a + val b))).toArray) ∧ Below w.heap.size w w' := by
  obtain ⟨zs, hzs⟩ : ∃ zs, zs = List.zipWith (fun x y => x + y) a b := ⟨_, rfl⟩
  have hzl : zs.length = 16 := by rw [hzs]; simp [ha, hb]
  have hzd : Dp zs := by rw [hzs]; exact dp_zip la lb
  have hzv : val zs + 0 = val a + val b := by rw [hzs]; rw [zipAdd_val a b (by omega)]; omega
  have hzx : ∀ k, k < 16 → zs.getD k 0 = a.getD k 0 + b.getD k 0 := by
    intro k hk
    rw [hzs]
    simp [List.getD, List.getElem?_zipWith, show k < a.length by omega, show k < b.length by omega]
  obtain ⟨t, ht⟩ : ∃ t, t = val a + val b := ⟨_, rfl⟩
  have n0 := val_nonneg (fun x hx => (la x hx).1)
  have n1 := val_nonneg (fun x hx => (lb x hx).1)
  have ht0 : 0 ≤ t := by rw [ht]; omega
  have ht1 : t < 2 * qO := by rw [ht]; omega
  have hFe : cps zs 0 = lim 16 t := by rw [cps_lim, hzl, hzv, ht]
  have hFl : (cps zs 0).length = 16 := by rw [cps_len, hzl]
  have hFm : Lm (cps zs 0) := by rw [hFe]; exact lim_lm _ _
  have hFv : val (cps zs 0) = t := by rw [hFe]; exact val_lim16 ht0 ht1
  have hless := lessO ht0 ht1
  rw [← ht]
  have HY : Hid (t < qO → cps zs 0 = redO t) := by unfold Hid; intro h; rw [hFe]; exact hless.1 h
  have HN : Hid (¬ t < qO → tk16 (cps zs 0) OL = redO t) := by unfold Hid; intro h; rw [tk16_lim hFl OL_len, hFv, OL_val]; exact hless.2 h
  have HZX : Hid _ := hzx
  have HFV : Hid _ := hFv
  have HZD : Hid _ := hzd
  clear hzs hzv hzx ht ht0 ht1 hFe hFv hless n0 hzd n1
  obtain ⟨W, hW⟩ : ∃ W, W = ((w.alloc (.cells (I64 a).toArray 80)).alloc (.cells (I64 b).toArray 80)).alloc (.cells #[.int .i64 0, .int .i64 0, .int .i64 0, .int .i64 0, .int .i64 0, .int .i64 0, .int .i64 0, .int .i64 0, .int .i64 0, .int .i64 0, .int .i64 0, .int .i64 0, .int .i64 0, .int .i64 0, .int .i64 0, .int .i64 0] 80) := ⟨_, rfl⟩
  have h0 : Arr W w.heap.size 80 (I64 (cps (zs.take 0) 0 ++ a.drop 0)) := by rw [hW]; exact ((Arr.new w (I64 a) _).alloc _).alloc _
  have h1 : Arr W (w.heap.size + 1) 80 (I64 b) := by
    rw [hW]
    have := (Arr.new (w.alloc (.cells (I64 a).toArray 80)) (I64 b) 80).alloc (.cells (I64 Z16).toArray 80)
    rw [World.size_alloc] at this
    exact this
  have h2 : Arr W (w.heap.size + 2) 80 (I64 Z16) := by
    rw [hW]
    have := Arr.new ((w.alloc (.cells (I64 a).toArray 80)).alloc (.cells (I64 b).toArray 80)) (I64 Z16) 80
    rw [World.size_alloc, World.size_alloc] at this
    exact this
  have hBl : Below w.heap.size w W := by rw [hW]; exact (((Below.refl _ _).alloc (Nat.le_refl _) _).alloc (by simp) _).alloc (by simp; omega) _
  obtain ⟨A, hA⟩ : ∃ A, A = (I64 a).toArray := ⟨_, rfl⟩
  obtain ⟨Bv, hBv⟩ : ∃ B, B = (I64 b).toArray := ⟨_, rfl⟩
  rw [← hA, ← hBv] at hW ⊢
  have HA : Hid _ := hA
  clear hA hBv
  go_enter Tryz.func91, Tryz.ntmps91
  go_wp2
  rw [← hW]
  clear hW
  go_loopw [5, 6] (fun c i wr => ∃ (k : Nat) (d : Int), k ≤ 16 ∧ c = .int .i64 d ∧ d = cpc (zs.take k) 0 ∧ i = .int .i64 k ∧ Arr wr w.heap.size 80 (I64 (cps (zs.take k) 0 ++ a.drop k)) ∧ Arr wr (w.heap.size + 1) 80 (I64 b) ∧ Arr wr (w.heap.size + 2) 80 (I64 Z16) ∧ Below w.heap.size w wr) (fun _ i _ => 16 - (intOf i).toNat)
  case atStart => exact ⟨0, 0, by omega, rfl, by simp [cpc], rfl, h0, h1, h2, hBl⟩
  case round =>
    clear h0 h1 h2 hBl
    obtain ⟨k, d, hk, rfl, hd, rfl, h0, h1, h2, hBl⟩ := hrel
    have hfl : (cps (zs.take k) 0).length = k := by rw [cps_len]; simp; omega
    have hdb := cpc_one (l := zs.take k) (fun x hx => HZD.out x (List.mem_of_mem_take hx)) (c := 0) (by omega) (by omega)
    rw [← hd] at hdb
    by_cases hlt : k < 16
    · obtain ⟨x, hx⟩ : ∃ x, x = a.getD k 0 := ⟨_, rfl⟩
      have cx : wr.cell? ⟨w.heap.size, k, none⟩ = some (.int .i64 x) := by
        rw [h0.i64 k (by rw [len_app hfl (by omega)]; omega), get_app hfl, hx]
      have bx := gD_lm la k
      rw [← hx] at bx
      obtain ⟨y, hy⟩ : ∃ y, y = b.getD k 0 := ⟨_, rfl⟩
      have cy : wr.cell? ⟨w.heap.size + 1, k, none⟩ = some (.int .i64 y) := by rw [hy]; exact h1.i64 k (by omega)
      have by' := gD_lm lb k
      rw [← hy] at by'
      have hz := HZX.out k hlt
      rw [← hx, ← hy] at hz
      have hts := take_app zs k (by omega)
      rw [hz] at hts
      have hs1 : cps (zs.take (k + 1)) 0 = cps (zs.take k) 0 ++ [(x + y + d) % 65536] := by rw [hts, cps_snoc, hd]
      have hs2 : cpc (zs.take (k + 1)) 0 = (x + y + d) / 65536 := by rw [hts, cpc_snoc, hd]
      have hk16 : (k : Int) < 16 := by omega
      have hk0 : (0 : Int) ≤ (k : Int) := by omega
      have hfz := h0.frozen k
      have h0' := h0.set k (.int .i64 ((x + y + d) % 65536))
      rw [set_app hfl (show k < a.length by omega), ← hs1] at h0'
      have h1' := h1.other ⟨w.heap.size, k, none⟩ (.int .i64 ((x + y + d) % 65536)) (by simp)
      have h2' := h2.other ⟨w.heap.size, k, none⟩ (.int .i64 ((x + y + d) % 65536)) (by simp)
      have hb' := hBl.setCell (p := ⟨w.heap.size, k, none⟩) (Nat.le_refl _) (.int .i64 ((x + y + d) % 65536))
      have s0 : IntKind.i64.wrap (x + y) = x + y := by rw [IntKind.wrap_i64]; omega
      have s1 : IntKind.i64.wrap (x + y + d) = x + y + d := by rw [IntKind.wrap_i64]; omega
      have s2 : bits .and .i64 (x + y + d) 65535 = (x + y + d) % 65536 := i64_low16 (by omega) (by omega)
      have H0 : Hid _ := h0'
      have H1 : Hid _ := h1'
      clear h1' h1
      have H2 : Hid _ := h2'
      have HB : Hid _ := hb'
      have HC : Hid _ := hs2
      clear h0' h2' hb' h0 h2 hBl hx hd hz hts hs1 hs2 hy
      go_wp2
      go_quiet (fail)
      rename_i nq
      go_wp2
      go_roundw
      case rel => exact ⟨k + 1, (x + y + d) / 65536, by omega, rfl, HC.out.symm, by go_num, Arr.drewN H0.out _, Arr.drewN H1.out _, Arr.drewN H2.out _, bel_dN HB.out _⟩
      case measure => simp [intOf]; omega
    · obtain rfl : k = 16 := by omega
      rw [List.take_of_length_le (by omega), List.drop_eq_nil_of_le (by omega), List.append_nil] at h0
      obtain ⟨F, hF⟩ : ∃ F, F = cps zs 0 := ⟨_, rfl⟩
      rw [← hF] at h0 hFl hFm HY HN HFV
      clear hF hd hdb hfl h1
      go_wp2_with fail
      refine (specOrder _).mono ?_
      rintro e w1 ⟨rfl, hb1⟩
      have hB1 := hBl.trans (hb1.mono hBl.size)
      have h01 := h0.kept hb1
      have h21 := h2.kept hb1
      have hsz1 := h21.lt
      clear h0 h2 hBl hb1
      obtain ⟨W2, hW2⟩ : ∃ W2, W2 = (w1.alloc (.cells #[.int .i64 0, .int .i64 0, .int .i64 0, .int .i64 0, .int .i64 0, .int .i64 0, .int .i64 0, .int .i64 0, .int .i64 0, .int .i64 0, .int .i64 0, .int .i64 0, .int .i64 0, .int .i64 0, .int .i64 0, .int .i64 0] 80)).setRow w1.heap.size (I64 OL).toArray := ⟨_, rfl⟩
      have hz1 : Arr (w1.alloc (.cells #[.int .i64 0, .int .i64 0, .int .i64 0, .int .i64 0, .int .i64 0, .int .i64 0, .int .i64 0, .int .i64 0, .int .i64 0, .int .i64 0, .int .i64 0, .int .i64 0, .int .i64 0, .int .i64 0, .int .i64 0, .int .i64 0] 80)) w1.heap.size 80 (I64 Z16) := Arr.new w1 (I64 Z16) _
      have hp2 : Arr W2 w1.heap.size 80 (I64 OL) := by rw [hW2]; exact hz1.row (I64 OL)
      have h02 : Arr W2 w.heap.size 80 (I64 F) := by rw [hW2]; exact (h01.alloc _).rowOther _ _ (by omega)
      have h22 : Arr W2 (w.heap.size + 2) 80 (I64 Z16) := by rw [hW2]; exact (h21.alloc _).rowOther _ _ (by omega)
      have hB2 : Below w.heap.size w W2 := by rw [hW2]; exact setRow_below (hB1.alloc hB1.size _) _ _ hB1.size
      have hiF : (Tryz.prog.info? 80).map (·.size) = some (I64 F).toArray.size := by simpa [hFl] using infoE
      have h02' := hW2 ▸ h02
      have hp2' := hW2 ▸ hp2
      have HW2 : Hid _ := hW2
      clear h01 h21 hB1 hW2
      go_wp2_with (first
        | (refine wpList_store_row rfl 80 _ _ rfl w1.heap.size (I64 OL).toArray rfl rfl 80 (I64 Z16).toArray hz1 infoE rfl (by simp [OL, Value.oneCell']) ?_)
        | (refine wpList_load_row rfl 80 _ rfl w.heap.size rfl 80 (I64 F).toArray (0, 0) _ h02' Tryz.underlying80 rfl hiF ?_)
        | (refine wpList_load_row rfl 80 _ rfl w1.heap.size rfl 80 (I64 OL).toArray (0, 0) _ hp2' Tryz.underlying80 rfl infoE ?_))
      rw [← HW2.out]
      clear HW2 h02' hp2' hz1
      refine (specLess F OL _ hFl OL_len hFm OL_lm).mono ?_
      rintro e w3 ⟨rfl, hb3⟩
      have h03 := h02.kept hb3
      have h23 := h22.kept hb3
      have hp3 := hp2.kept hb3
      have hB3 := hB2.trans (hb3.mono hB2.size)
      rw [OL_val, HFV.out]
      clear h02 h22 hp2 hB2 hb3
      by_cases hlp : t < qO
      · have hd : decide (t < qO) = true := by simp [hlp]
        rw [hd]
        have hFR := HY.out hlp
        have h23' := h23.row (I64 F)
        have hb' := setRow_below hB3 (w.heap.size + 2) (I64 F).toArray (by omega)
        clear hd hlp
        go_wp2_with (first
          | (refine wpList_load_row rfl 80 _ rfl w.heap.size rfl 80 (I64 F).toArray (0, 0) _ h03 Tryz.underlying80 rfl hiF ?_)
          | (refine wpList_store_row rfl 80 _ _ rfl (w.heap.size + 2) (I64 F).toArray rfl rfl 80 _ h23 hiF (by simp [hFl]) (by simp [Value.oneCell']) ?_))
        exact bodyPost_ret (results_cell_row rfl _ _ (w.heap.size + 2) 80 (I64 F).toArray (0, 0) _ rfl h23' Tryz.underlying80 rfl hiF) rfl ⟨by rw [← hFR], hb'⟩
      · have hd : decide (t < qO) = false := by simp [hlp]
        rw [hd]
        have hGR := HN.out (by omega)
        clear hd hlp
        go_wp2_with (first
          | (refine wpList_load_row rfl 80 _ rfl w.heap.size rfl 80 (I64 F).toArray (0, 0) _ h03 Tryz.underlying80 rfl hiF ?_)
          | (refine wpList_load_row rfl 80 _ rfl w1.heap.size rfl 80 (I64 OL).toArray (0, 0) _ hp3 Tryz.underlying80 rfl infoE ?_))
        refine (specTake F OL _ hFl OL_len hFm OL_lm).mono ?_
        rintro e w4 ⟨rfl, hb4⟩
        have h04 := h03.kept hb4
        have h24 := h23.kept hb4
        have hB4 := hB3.trans (hb4.mono hB3.size)
        have hGl : (tk16 F OL).length = 16 := by rw [tk16_lim hFl OL_len, lim_len]
        obtain ⟨G, hG⟩ : ∃ G, G = tk16 F OL := ⟨_, rfl⟩
        rw [← hG] at hGl hGR ⊢
        have hiG : (Tryz.prog.info? 80).map (·.size) = some (I64 G).toArray.size := by simpa [hGl] using infoE
        have HGR : Hid _ := hGR
        clear hGR h03 h23 hp3 hB3 hb4 hG
        have h05 := h04.row (I64 G)
        have h25 := h24.rowOther w.heap.size (I64 G).toArray (by omega)
        have hB5 := setRow_below hB4 w.heap.size (I64 G).toArray (Nat.le_refl _)
        have h26 := h25.row (I64 G)
        have hb' := setRow_below hB5 (w.heap.size + 2) (I64 G).toArray (by omega)
        go_wp2_with (first
          | (refine wpList_store_row rfl 80 _ _ rfl w.heap.size (I64 G).toArray rfl rfl 80 _ h04 hiG (by simp [hGl, hFl]) (by simp [Value.oneCell']) ?_)
          | (refine wpList_load_row rfl 80 _ rfl w.heap.size rfl 80 (I64 G).toArray (0, 0) _ h05 Tryz.underlying80 rfl hiG ?_)
          | (refine wpList_store_row rfl 80 _ _ rfl (w.heap.size + 2) (I64 G).toArray rfl rfl 80 _ h25 hiG (by simp [hGl]) (by simp [Value.oneCell']) ?_))
        exact bodyPost_ret (results_cell_row rfl _ _ (w.heap.size + 2) 80 (I64 G).toArray (0, 0) _ rfl h26 Tryz.underlying80 rfl hiG) rfl ⟨by rw [← HGR.out], hb'⟩
end Go.Proofs.YtihoaakbkffejaaGreatDoor
