/-
  What is proved here: what the program's PtMul, PtBase, ScRead (of one) and ScAdd answer where their arguments are points and multipliers; where its variables hold what its text lays into them; plain facts on points in bytes, on multiples of the base, and what keys and signatures are made of; no program is spoken of, no condition; the contract of the specification's l7clamp; the contract of the specification's PubOf.
-/
import Derived.Test.YtihoaakbkffejaaDoorZOhb
import Derived.Test.YtihoaakbkffejaaDoorZOc
import Derived.Test.YtihoaakbkffejaaDoorZOhm
import Derived.Test.YtihoaakbkffejaaDoorZJrd
import Derived.Test.YtihoaakbkffejaaDoorZRbg
import Derived.Test.YtihoaakbkffejaaDoorZYh
import Derived.Test.YtihoaakbkffejaaDoorZUl
import Derived.Test.YtihoaakbkffejaaDoorZLn
import Derived.Test.YtihoaakbkffejaaDoorZArr
import Derived.Deep.CutRange
import Derived.Test.YtihoaakbkffejaaDoorZUh
namespace Go.Proofs.YtihoaakbkffejaaDoor
open Go.RowKit
set_option maxRecDepth 100000
set_option maxHeartbeats 4000000
set_option linter.unusedSectionVars false

theorem sc_int {l : List Int} (h : scOk l = true) : ∀ x ∈ l, -9223372036854775808 ≤ x ∧ x ≤ 9223372036854775807 := fun x hx => by have := ((scOk_iff l).1 h).2.1 x hx; omega
theorem qO_oN : qO = (oN : Int) := by decide
section
variable [NeZero pN]
end
end Go.Proofs.YtihoaakbkffejaaDoor
namespace Go.Proofs.YtihoaakbkffejaaDoor
open Go.RowKit
set_option maxRecDepth 100000

/-- Wide bytes that are zero behind the first half. -/
theorem val_app0' : ∀ (l : List Int) (n : Nat), val (l ++ List.replicate n 0) = val l
  | [], n => by
    induction n with
    | zero => rfl
    | succ n ih => simp only [List.nil_append] at ih ⊢; rw [List.replicate_succ]; show (0 : Int) + 65536 * val (List.replicate n 0) = 0; rw [ih]; rfl
  | x :: l, n => by show x + 65536 * val (l ++ List.replicate n 0) = x + 65536 * val l; rw [val_app0' l n]
theorem some_getD {l : List Int} {i : Nat} (h : i < l.length) : l[i]? = some (l.getD i 0) := by simp [List.getD, List.getElem?_eq_getElem h]
theorem wdL_pad {bs : List Int} (hl : bs.length = 32) (zs : List Int) (hz : zs = List.replicate 32 0) : wdL (bs ++ zs) = rdL bs ++ List.replicate 16 0 := by
  apply List.ext_getElem?
  intro i
  have gl : ∀ j, j < 32 → (bs ++ zs).getD j 0 = bs.getD j 0 := fun j hj => by
    simp only [List.getD, List.getElem?_append_left (show j < bs.length by omega)]
  have gr : ∀ j, 32 ≤ j → (bs ++ zs).getD j 0 = 0 := fun j hj => by
    rw [hz]
    simp only [List.getD, List.getElem?_append_right (show bs.length ≤ j by omega), List.getElem?_replicate]
    split <;> rfl
  by_cases h1 : i < 16
  · rw [List.getElem?_append_left (by rw [rdL_len]; exact h1), some_getD (by rw [wdL_len]; omega), some_getD (by rw [rdL_len]; omega), wdL_get _ i (by omega), rdL_get _ i h1, gl _ (by omega), gl _ (by omega)]
  · rw [List.getElem?_append_right (by rw [rdL_len]; omega), rdL_len, List.getElem?_replicate]
    by_cases h2 : i < 32
    · rw [some_getD (by rw [wdL_len]; omega), wdL_get _ i (by omega), gr _ (by omega), gr _ (by omega), if_pos (by omega)]
      rfl
    · rw [List.getElem?_eq_none (by rw [wdL_len]; omega), if_neg (by omega)]
theorem wide_pad {bs : List Int} (hl : bs.length = 32) : val (wdL (bs ++ List.replicate 32 0)) = val (rdL bs) := by rw [wdL_pad hl _ rfl, val_app0']

/-- The bytes of a point. -/
def enc (p : KF × KF) : List Int := ptBt (cx p.1) (cx p.2)
theorem enc_len (p : KF × KF) : (enc p).length = 32 := ptBt_len (feOk_len (cx_ok _))
theorem enc_byte (p : KF × KF) : ∀ x ∈ enc p, 0 ≤ x ∧ x < 256 := ptBt_byte (cx_ok _)
section
variable [NeZero pN]
theorem ptBt_ext {P : E4} {p : KF × KF} (h : Ext6 P p) : ptBt (flx P) (fly P) = enc p := by
  obtain ⟨a, b⟩ := ext6_flat h
  unfold enc
  rw [a, b]
theorem ptBF_cx {p : KF × KF} (h : On dK p) : ptBF (cx p.1) (cx p.2) = enc p := by
  unfold ptBF
  rw [if_pos (pt_ok h), ptBt_ext (ext6_make _ _), fl_cx, fl_cx]
theorem ext6_base : Ext6 base6 baseK := by
  have h := ext6_make BX BY
  have b := base_lists
  have e : (fl BX, fl BY) = baseK := by rw [b.1, b.2, fl_cx, fl_cx]
  rw [e] at h
  exact h
/-- A multiple of the base hangs on the number modulo the order alone. -/
theorem mul_red (N : Nat) : pMul dK ivK (N % oN) baseK = pMul dK ivK N baseK := by
  have := mul_sum 0 N
  rw [Nat.zero_add] at this
  rw [this]
  exact crvK.zero_add _
end
/-! What a seed comes to. -/
def sA (seed : List Int) : List Int := clL (rdL ((sumOfW seed).take 32))
theorem sA_len (seed : List Int) : (sA seed).length = 16 := clL_len (rdL_len _)
theorem take_byte {l : List Int} (h : ∀ x ∈ l, 0 ≤ x ∧ x < 256) (n : Nat) : ∀ x ∈ l.take n, 0 ≤ x ∧ x < 256 := fun x hx => h x (List.mem_of_mem_take hx)
theorem app_byte {l m : List Int} (h : ∀ x ∈ l, 0 ≤ x ∧ x < 256) (k : ∀ x ∈ m, 0 ≤ x ∧ x < 256) : ∀ x ∈ l ++ m, 0 ≤ x ∧ x < 256 := fun x hx => (List.mem_append.1 hx).elim (h x) (k x)
theorem lm_256 {l : List Int} (h : l.length = 16) (hm : Lm l) : 0 ≤ val l ∧ (val l).toNat < 2 ^ 256 := by
  have h0 := val_nonneg (fun x hx => (hm x hx).1)
  have h1 := val_lt hm
  rw [h] at h1
  refine ⟨h0, ?_⟩
  have : (65536 : Int) ^ 16 = ((2 ^ 256 : Nat) : Int) := by decide
  rw [this] at h1
  omega
end Go.Proofs.YtihoaakbkffejaaDoor
namespace Go.Proofs.YtihoaakbkffejaaDoor
open Go.RowKit
set_option maxRecDepth 100000

theorem infoV : (Tryd.prog.info? 31).map (·.size) = some 16 := by kernel_rfl
theorem infoV' {l : List Int} (h : l.length = 16) : (Tryd.prog.info? 31).map (·.size) = some (I64 l).toArray.size := by simpa [h] using infoV
/-- A number is laid into a new cell. -/
theorem laid_v (w1 : World) (L : List Int) : Below w1.heap.size w1 ((w1.alloc (.cells #[.int .i64 0, .int .i64 0, .int .i64 0, .int .i64 0, .int .i64 0, .int .i64 0, .int .i64 0, .int .i64 0, .int .i64 0, .int .i64 0, .int .i64 0, .int .i64 0, .int .i64 0, .int .i64 0, .int .i64 0, .int .i64 0] 31)).setRow w1.heap.size (I64 L).toArray) ∧ Arr ((w1.alloc (.cells #[.int .i64 0, .int .i64 0, .int .i64 0, .int .i64 0, .int .i64 0, .int .i64 0, .int .i64 0, .int .i64 0, .int .i64 0, .int .i64 0, .int .i64 0, .int .i64 0, .int .i64 0, .int .i64 0, .int .i64 0, .int .i64 0] 31)).setRow w1.heap.size (I64 L).toArray) w1.heap.size 31 (I64 L) ∧ Arr (w1.alloc (.cells #[.int .i64 0, .int .i64 0, .int .i64 0, .int .i64 0, .int .i64 0, .int .i64 0, .int .i64 0, .int .i64 0, .int .i64 0, .int .i64 0, .int .i64 0, .int .i64 0, .int .i64 0, .int .i64 0, .int .i64 0, .int .i64 0] 31)) w1.heap.size 31 (I64 Z16) := by
 have q : Arr (w1.alloc (.cells #[.int .i64 0, .int .i64 0, .int .i64 0, .int .i64 0, .int .i64 0, .int .i64 0, .int .i64 0, .int .i64 0, .int .i64 0, .int .i64 0, .int .i64 0, .int .i64 0, .int .i64 0, .int .i64 0, .int .i64 0, .int .i64 0] 31)) w1.heap.size 31 (I64 Z16) := Arr.new w1 (I64 Z16) _
 exact ⟨setRow_below ((Below.refl _ _).alloc (Nat.le_refl _) _) _ _ (Nat.le_refl _), q.row _, q⟩

set_option maxHeartbeats 2000000 in
theorem specClamp16 (a : Option Addr) (c : Nat) (bs : List Int) (w : World) (hx : Bs w a 32 c bs) :
  Calls Tryd.prog 13 #[.slice a 32 c] w fun e w' => e = .returned (.agg (I64 (clL (rdL bs))).toArray) ∧ Below w.heap.size w w' := by
 have hm : Lm (rdL bs) := rdL_lm hx.2.2.2.1
 have hl := rdL_len bs
 have HR : Hid (∀ (Z : World), Bs Z a 32 c bs → Calls Tryd.prog 22 #[.slice a 32 c] Z fun e w' => e = .returned (.agg (I64 (rdL bs)).toArray) ∧ Below Z.heap.size Z w') := by unfold Hid; intro Z h; exact specRead16 a c bs Z h
 obtain ⟨R, hR⟩ : ∃ R, R = rdL bs := ⟨_, rfl⟩
 rw [← hR] at hm hl HR ⊢
 clear hR
 obtain ⟨x, ex⟩ : ∃ x, x = R.getD 0 0 := ⟨_, rfl⟩
 obtain ⟨y, ey⟩ : ∃ y, y = R.getD 15 0 := ⟨_, rfl⟩
 have bx := gD_lm hm 0
 have b15 := gD_lm hm 15
 rw [← ex] at bx
 rw [← ey] at b15
 have a1 := and_65528 bx.1 bx.2
 have a2 := top_16384 b15.1 b15.2
 obtain ⟨C, hC⟩ : ∃ C, C = clL R := ⟨_, rfl⟩
 have HC : Hid (((I64 R).set 0 (.int .i64 (x / 8 * 8))).set 15 (.int .i64 (y % 16384 + 16384)) = I64 C) := by
  unfold Hid; rw [hC, ex, ey]; simp only [clL, I64, List.map_set]
 have hCl : C.length = 16 := by rw [hC]; exact clL_len hl
 rw [← hC]
 clear hC
 have jR := infoV' hl
 have jC := infoV' hCl
 obtain ⟨W, hW⟩ : ∃ W, W = w.alloc (.cells #[.int .i64 0, .int .i64 0, .int .i64 0, .int .i64 0, .int .i64 0, .int .i64 0, .int .i64 0, .int .i64 0, .int .i64 0, .int .i64 0, .int .i64 0, .int .i64 0, .int .i64 0, .int .i64 0, .int .i64 0, .int .i64 0] 31) := ⟨_, rfl⟩
 have B : Below w.heap.size w W := by rw [hW]; exact (Below.refl _ _).alloc (Nat.le_refl _) _
 have p2 : Arr W w.heap.size 31 (I64 Z16) := by rw [hW]; exact Arr.new _ (I64 Z16) _
 have hxW := hx.below B
 clear hx
 go_enter Tryd.func13, Tryd.ntmps13
 go_upto_region 1 with fail
 rw [← hW]
 clear hW
 go_wp2_with fail
 refine (HR.out _ hxW).mono ?_
 rintro e y1 ⟨rfl, hb1⟩
 replace B := B.trans (hb1.mono B.size)
 replace p2 := p2.kept hb1
 clear hb1 hxW
 have hX : w.heap.size < y1.heap.size := p2.lt
 obtain ⟨bV, A, q1⟩ := laid_v y1 R
 replace B := B.trans (bV.mono B.size)
 replace p2 := p2.kept bV
 go_upto_region 2 with (refine wpList_store_row rfl 31 _ _ rfl y1.heap.size (I64 R).toArray rfl rfl 31 _ q1 jR (by simp [hl]) (by simp [Value.oneCell']) ?_)
 obtain ⟨V, hV⟩ : ∃ V, V = (y1.alloc (.cells #[.int .i64 0, .int .i64 0, .int .i64 0, .int .i64 0, .int .i64 0, .int .i64 0, .int .i64 0, .int .i64 0, .int .i64 0, .int .i64 0, .int .i64 0, .int .i64 0, .int .i64 0, .int .i64 0, .int .i64 0, .int .i64 0] 31)).setRow y1.heap.size (I64 R).toArray := ⟨_, rfl⟩
 obtain ⟨X, hE⟩ : ∃ E, E = y1.heap.size := ⟨_, rfl⟩
 rw [← hV] at B p2 A ⊢
 rw [← hE] at A hX ⊢
 clear hV hE q1 bV
 have c0 : V.cell? ⟨X, 0, none⟩ = some (.int .i64 x) := by rw [A.i64 0 (by omega), ex]
 have fz := A.frozen 0
 have A' := A.set 0 (.int .i64 (x / 8 * 8))
 have p2' := p2.other ⟨X, 0, none⟩ (.int .i64 (x / 8 * 8)) (by show w.heap.size ≠ X; omega)
 have B' := B.setCell (p := ⟨X, 0, none⟩) (by show w.heap.size ≤ X; omega) (.int .i64 (x / 8 * 8))
 clear ex
 go_upto_region 3 with fail
 obtain ⟨V1, hV1⟩ : ∃ Z, Z = V.setCell ⟨X, 0, none⟩ (.int .i64 (x / 8 * 8)) := ⟨_, rfl⟩
 rw [← hV1] at A' p2' B' ⊢
 have c15 : V1.cell? ⟨X, 15, none⟩ = some (.int .i64 y) := by rw [A'.cell 15]; simp [hl, ey]
 have fz1 := A'.frozen 15
 have A2 := A'.set 15 (.int .i64 (y % 16384 + 16384))
 have p22 := p2'.other ⟨X, 15, none⟩ (.int .i64 (y % 16384 + 16384)) (by show w.heap.size ≠ X; omega)
 have B2 := B'.setCell (p := ⟨X, 15, none⟩) (by show w.heap.size ≤ X; omega) (.int .i64 (y % 16384 + 16384))
 clear hV1 c0 fz A p2 B A' p2' B' ey
 go_upto_region 4 with fail
 obtain ⟨V2, hV2⟩ : ∃ Z, Z = V1.setCell ⟨X, 15, none⟩ (.int .i64 (y % 16384 + 16384)) := ⟨_, rfl⟩
 rw [← hV2] at A2 p22 B2 ⊢
 clear hV2 c15 fz1
 rw [HC.out] at A2
 have h2 := p22.row (I64 C)
 have HB : Hid _ := setRow_below B2 w.heap.size (I64 C).toArray (Nat.le_refl _)
 go_wp2_with (first
  | (refine wpList_load_row rfl 31 _ rfl X rfl 31 (I64 C).toArray (0, 0) _ A2 Tryd.underlying31 rfl jC ?_)
  | (refine wpList_store_row rfl 31 _ _ rfl w.heap.size (I64 C).toArray rfl rfl 31 _ p22 jC (by simp [hCl]) (by simp [Value.oneCell']) ?_))
 exact bodyPost_ret (results_cell_row rfl _ _ w.heap.size 31 (I64 C).toArray (0, 0) _ rfl h2 Tryd.underlying31 rfl jC) rfl ⟨rfl, HB.out⟩

end Go.Proofs.YtihoaakbkffejaaDoor
namespace Go.Proofs.YtihoaakbkffejaaDoor
open Go.RowKit
set_option maxRecDepth 100000

/-- The bytes of a multiple of the base. -/
def baseB (N : Nat) : List Int := enc (@pMul pN nzP dK ivK N baseK)
theorem baseB_len (N : Nat) : (baseB N).length = 32 := enc_len _
theorem baseB_byte (N : Nat) : ∀ x ∈ baseB N, 0 ≤ x ∧ x < 256 := enc_byte _
theorem baseB_mul {N : Nat} (h : N < 2 ^ 256) : ptBt (flx (mul6 base6 N)) (fly (mul6 base6 N)) = baseB N := by
  haveI := nzP
  exact ptBt_ext (ext6_mul ext6_base on_base N h)
theorem baseB_red (N : Nat) : baseB (N % oN) = baseB N := by
  haveI := nzP
  unfold baseB
  rw [mul_red]
theorem mul6_ok (P : E4) (N : Nat) : (mul6 P N).Ok := mst_ok P N 256
theorem sumOfW_byte (xs : List Int) : ∀ y ∈ sumOfW xs, 0 ≤ y ∧ y < 256 := sumW_byte _
def pbOk (seed : List Int) : Bool := decide (seed.length = 32)
def pbL (seed : List Int) : List Int := if pbOk seed = true then baseB (val (sA seed)).toNat else []
theorem pbL_byte (seed : List Int) : ∀ x ∈ pbL seed, 0 ≤ x ∧ x < 256 := by
  unfold pbL; split
  · exact baseB_byte _
  · intro x hx; cases hx
theorem pbL_len (seed : List Int) : (pbL seed).length ≤ 64 := by
  unfold pbL; split
  · rw [baseB_len]; omega
  · simp
theorem sA_lm (seed : List Int) : Lm (sA seed) := clL_lm (rdL_lm (take_byte (sumOfW_byte _) 32))

/-- l6bytes of a multiple of the base. -/
theorem specBase (k : List Int) (Z : World) (hk : k.length = 16) (hm : Lm k) :
    Calls Tryd.prog 10 #[.agg (I64 (mul6 base6 (val k).toNat).cells).toArray] Z fun e w' => ∃ v, e = .returned v ∧ w'.ownsRow Z.heap.size 5 1 v 32 (U8 (baseB (val k).toNat)) ∧ Below Z.heap.size Z w' := by
  rw [← baseB_mul (lm_256 hk hm).2]
  exact spec6bytes _ Z (mul6_ok _ _)

set_option maxHeartbeats 2000000 in
theorem specPubOf (a : Option Addr) (n c : Nat) (bs : List Int) (w : World) (hx : Bs w a n c bs) :
    Calls Tryd.prog 4 #[.slice a n c] w fun e w' => ∃ v, e = .returned (.tuple #[v, .bool (pbOk bs)]) ∧ w'.ownsRow w.heap.size 5 1 v (pbL bs).length (U8 (pbL bs)) ∧ Below w.heap.size w w' := by
  have hn : bs.length = n := hx.2.1
  by_cases h : n = 32
  · subst h
    have hok : pbOk bs = true := by unfold pbOk; exact decide_eq_true hn
    have hL : pbL bs = baseB (val (sA bs)).toNat := by unfold pbL; rw [if_pos hok]
    rw [hok, hL, baseB_len]
    have HB : Hid (∀ Z, Calls Tryd.prog 12 #[] Z fun e w' => e = .returned (.agg (I64 base6.cells).toArray) ∧ Below Z.heap.size Z w') := by unfold Hid; intro Z; exact spec6base Z
    have HH : Hid (∀ Z, Bs Z a 32 c bs → Calls Tryd.prog 14 #[.slice a 32 c] Z fun e w' => ∃ v, e = .returned v ∧ w'.ownsRow Z.heap.size 5 1 v 64 (U8 (sumOfW bs)) ∧ Below Z.heap.size Z w') := by unfold Hid; intro Z h; exact specL3sum a 32 c bs Z h (by omega)
    obtain ⟨k, hk⟩ : ∃ k, k = sA bs := ⟨_, rfl⟩
    have HC : Hid (∀ (a : Option Addr) (c : Nat) (Z : World), Bs Z a 32 c ((sumOfW bs).take 32) → Calls Tryd.prog 13 #[.slice a 32 c] Z fun e w' => e = .returned (.agg (I64 k).toArray) ∧ Below Z.heap.size Z w') := by unfold Hid; intro a c Z h; rw [hk]; exact specClamp16 a c _ Z h
    have HM : Hid (∀ Z, Calls Tryd.prog 11 #[.agg (I64 base6.cells).toArray, .agg (I64 k).toArray] Z fun e w' => e = .returned (.agg (I64 (mul6 base6 (val k).toNat).cells).toArray) ∧ Below Z.heap.size Z w') := by unfold Hid; intro Z; rw [hk]; exact spec6mul base6 _ Z base6_ok (sA_len _) (sA_lm _)
    have HY : Hid (∀ Z, Calls Tryd.prog 10 #[.agg (I64 (mul6 base6 (val k).toNat).cells).toArray] Z fun e w' => ∃ v, e = .returned v ∧ w'.ownsRow Z.heap.size 5 1 v 32 (U8 (baseB (val k).toNat)) ∧ Below Z.heap.size Z w') := by unfold Hid; intro Z; rw [hk]; exact specBase _ Z (sA_len _) (sA_lm _)
    have hs := sumOfW_len bs
    have hb := sumOfW_byte bs
    obtain ⟨S, hS⟩ : ∃ S, S = sumOfW bs := ⟨_, rfl⟩
    rw [← hk]
    rw [← hS] at HH HC hs hb
    have HSB : Hid _ := hb
    clear hok hL hk hS hb
    obtain ⟨Q, hQ⟩ : ∃ Q, Q = mul6 base6 (val k).toNat := ⟨_, rfl⟩
    rw [← hQ] at HM HY
    clear hQ
    go_enter Tryd.func4, Tryd.ntmps4
    go_wp2_with fail
    refine (HB.out _).mono ?_
    rintro e y1 ⟨rfl, hb1⟩
    go_wp2_with fail
    refine (HH.out _ (hx.below hb1)).mono ?_
    rintro e y2 ⟨v, rfl, ho, hb2⟩
    have b2 := hb1.trans (hb2.mono hb1.size)
    obtain ⟨a2, c2, rfl, hc2, hB2⟩ := Bs.own ho HSB.out
    have hcc : (32 : Int) ≤ (c2 : Int) := by have := hB2.2.2.1; omega
    clear hb1 hb2 ho HB HH hx
    go_wp2_with fail
    refine (HC.out _ _ _ (hB2.takeW (m := 32) (by omega))).mono ?_
    rintro e y3 ⟨rfl, hb3⟩
    replace b2 := b2.trans (hb3.mono b2.size)
    clear hb3 hB2
    go_wp2_with fail
    refine (HM.out _).mono ?_
    rintro e y4 ⟨rfl, hb4⟩
    replace b2 := b2.trans (hb4.mono b2.size)
    clear hb4
    go_wp2_with fail
    refine (HY.out _).mono ?_
    rintro e y5 ⟨v, rfl, ho, hb5⟩
    go_wp2
    go_ret2
    exact ⟨v, rfl, own_base ho b2.size, b2.trans (hb5.mono b2.size)⟩
  · have hok : pbOk bs = false := by unfold pbOk; exact decide_eq_false (by omega)
    have hL : pbL bs = [] := by unfold pbL; rw [if_neg (by simp [hok])]
    rw [hok, hL]
    have hne : ((n : Int) != 32) = true := by simp; omega
    go_enter Tryd.func4, Tryd.ntmps4
    go_wp2
    go_ret2
    exact ⟨_, rfl, World.ownsRow_nil _ _ _ _, Below.refl _ _⟩
end Go.Proofs.YtihoaakbkffejaaDoor
