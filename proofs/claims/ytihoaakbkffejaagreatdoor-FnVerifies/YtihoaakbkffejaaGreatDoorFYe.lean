/-
  What is proved here: plain mathematics: whole numbers modulo 2^255 - 19 as residues, their; contracts of the specification's l4small and l4sub: a small number in; a law for the walk on 'append' where the first slice is a row of ints that; the contract of the specification's l4out: a number of the field into a; the contract of the specification's l4less: which of two numbers is less; the contract of the specification's l4prime: the prime in sixteen parts; the contract of the specification's l4take: a difference, part by part; nothing of its own: the specification's l4prime, l4less and l4take are.
-/
import Derived.Test.YtihoaakbkffejaaGreatDoorFHbt
import Derived.Test.YtihoaakbkffejaaGreatDoorFFm
import Derived.Deep.RegionHeld3
import Derived.Laws.AppendOwnNone
namespace Go.Proofs.YtihoaakbkffejaaGreatDoor
set_option maxRecDepth 100000
set_option maxHeartbeats 4000000

abbrev KF := Fin pN
theorem pN_ne : pN ≠ 0 := by unfold pN; decide
theorem nzP : NeZero pN := ⟨pN_ne⟩
def fe (x : Int) : KF := ⟨(x % P25519).toNat, by
 have h0 := Int.emod_nonneg x (show P25519 ≠ 0 by unfold P25519; decide)
 have h1 := Int.emod_lt_of_pos x (show 0 < P25519 by unfold P25519; decide)
 have h2 : ((x % P25519).toNat : Int) < (pN : Int) := by rw [pN_int]; omega
 exact Int.ofNat_lt.1 h2⟩
theorem fe_val (x : Int) : ((fe x).val : Int) = x % P25519 := by
 have h0 := Int.emod_nonneg x (show P25519 ≠ 0 by unfold P25519; decide)
 show ((x % P25519).toNat : Int) = _
 omega
theorem kf_ext {a b : KF} (h : ((a.val : Nat) : Int) = ((b.val : Nat) : Int)) : a = b := Fin.ext (Int.ofNat.inj h)
theorem fe_eq {x y : Int} : fe x = fe y ↔ x % P25519 = y % P25519 := by
 constructor
 ·intro h; rw [← fe_val, ← fe_val, h]
 ·intro h; apply kf_ext; rw [fe_val, fe_val, h]
theorem fe_add (x y : Int) : fe (x + y) = fe x + fe y := by
 apply kf_ext
 rw [fe_val, Fin.val_add]
 rw [Int.natCast_emod, Int.natCast_add, fe_val, fe_val, pN_int, ← Int.add_emod]
theorem fe_mul (x y : Int) : fe (x * y) = fe x * fe y := by
 apply kf_ext
 rw [fe_val, Fin.val_mul]
 rw [Int.natCast_emod, Int.natCast_mul, fe_val, fe_val, pN_int, ← Int.mul_emod]
theorem fe_mod (x : Int) : fe (x % P25519) = fe x := fe_eq.2 (Int.emod_emod _ _)
theorem fe_back (a : KF) : fe (a.val : Int) = a := by
 apply kf_ext
 rw [fe_val, ← pN_int]
 exact Int.emod_eq_of_lt (Int.natCast_nonneg _) (Int.ofNat_lt.2 a.isLt)
theorem fe_pow (x : Int) : ∀ n : Nat, fe (x ^ n) = fe ((x % P25519) ^ n)
 | 0 => by rw [Int.pow_zero, Int.pow_zero]
 | n + 1 => by rw [Int.pow_succ, Int.pow_succ, fe_mul, fe_mul, fe_pow x n, fe_mod]
def ivK (a : KF) : KF := fe ((a.val : Int) ^ eInv)
theorem ivK_fe (x : Int) : ivK (fe x) = fe (x ^ eInv) := by
 unfold ivK
 rw [fe_val, ← fe_pow]
def dN : Nat := 37095705934669439343138083508754565189542113879843219016388785533085940283555
def dK : KF := fe (dN : Int)
def iK : KF := fe (qN : Int)
theorem two_gen {x : Int} (h0 : 0 ≤ x) (h1 : x < P25519) (h : (x + x) % P25519 = 0) : x = 0 := by
 have hp : 0 < P25519 := by unfold P25519; decide
 have e := Int.emod_add_mul_ediv (x + x) P25519
 have k0 : 0 ≤ (x + x) / P25519 := Int.ediv_nonneg (by omega) (by omega)
 have k1 : (x + x) / P25519 < 2 := Int.ediv_lt_of_lt_mul hp (by omega)
 rw [h, Int.zero_add] at e
 have hk : (x + x) / P25519 = 0 ∨ (x + x) / P25519 = 1 := by omega
 rcases hk with hk | hk
 ·rw [hk] at e; omega
 ·rw [hk, Int.mul_one] at e
  have hodd : P25519 % 2 = 1 := by decide
  omega
theorem nsq_gen {p D H s t : Nat} (hp : Pri p) (hH : p - 1 = 2 * H) (hD : D ^ H % p = p - 1) (h2p : 2 < p) (ht : ¬ p ∣ t) (h : s * s % p = D * (t * t) % p) : False := by
 have pw2 : ∀ s : Nat, (s * s) ^ H = s ^ (p - 1) := fun s => by rw [hH, Nat.pow_mul, Nat.pow_two]
 have h2 : (s * s) ^ H % p = (D * (t * t)) ^ H % p := by rw [Nat.pow_mod, h, ← Nat.pow_mod]
 rw [pw2 s, Nat.mul_pow D, pw2 t, Nat.mul_mod, hp.one ht, hD, Nat.mul_one, Nat.mod_eq_of_lt (show p - 1 < p by omega)] at h2
 by_cases hs : p ∣ s
 ·have h3 : s ^ (p - 1) % p = 0 := by
   obtain ⟨k, hk⟩ := hs
   rw [hk, show p - 1 = (p - 2) + 1 by omega, Nat.pow_succ, Nat.mul_comm, Nat.mul_assoc, Nat.mul_mod_right]
  omega
 ·have := hp.one hs
  omega
def hP : Nat := 28948022309329048855892746252171976963317496166410141009864396001978282409974
theorem pw_gen {n a f e r : Nat} (h1 : 1 < n) (h2 : e < 2 ^ f) (h : pw n a f e = r) : a ^ e % n = r := (pw_eq h1 f e h2).symm.trans h
theorem one_lt_pN : 1 < pN := by unfold pN; decide
theorem two_lt_pN : 2 < pN := by unfold pN; decide
theorem hP_lt : hP < 2 ^ 255 := by unfold hP; decide
theorem hP_two : pN - 1 = 2 * hP := by unfold pN hP; decide
theorem dN_pw : pw pN dN 255 hP = pN - 1 := by decide +kernel
theorem dN_half : dN ^ hP % pN = pN - 1 := pw_gen one_lt_pN hP_lt dN_pw
theorem dK_val : dK.val = dN := by
 apply Int.ofNat.inj
 show ((fe (dN : Int)).val : Int) = (dN : Int)
 rw [fe_val]
 decide
section
variable [NeZero pN]
theorem fe_zero : fe 0 = 0 := by
 apply kf_ext
 rw [fe_val]
 rfl
theorem fe_one : fe 1 = 1 := by
 apply kf_ext
 rw [fe_val]
 rfl
theorem fe_sub (x y : Int) : fe (x - y) = fe x - fe y := by
 have h : fe (x - y) + fe y = fe x := by rw [← fe_add]; congr 1; omega
 rw [← h]
 grind
theorem fe_nz {x : Int} : fe x = 0 ↔ x % P25519 = 0 := by
 rw [← fe_zero, fe_eq]
 rfl
theorem ivK_inv (a : KF) (h : a ≠ 0) : a * ivK a = 1 := by
 have h0 : 0 < (a.val : Int) := by
  have : a.val ≠ 0 := fun e => h (Fin.ext (by rw [e]; rfl))
  omega
 have h1 : (a.val : Int) < P25519 := by rw [← pN_int]; exact Int.ofNat_lt.2 a.isLt
 have h2 := inv_int h0 h1
 have h3 : fe ((a.val : Int) * (a.val : Int) ^ eInv) = fe 1 := fe_eq.2 (by rw [h2]; rfl)
 rw [fe_mul, fe_back, fe_one] at h3
 exact h3
theorem im_K : iK * iK + 1 = 0 := by
 unfold iK
 rw [← fe_mul, ← fe_one, ← fe_add, fe_nz]
 decide +kernel
theorem one_K : (1 : KF) ≠ 0 := by
 rw [← fe_one, Ne, fe_nz]
 decide
theorem two_K (a : KF) (h : a + a = 0) : a = 0 := by
 have h1 : (a.val : Int) < P25519 := by rw [← pN_int]; exact Int.ofNat_lt.2 a.isLt
 have h2 := Int.natCast_nonneg a.val
 have h3 : ((a.val : Int) + (a.val : Int)) % P25519 = 0 := by
  rw [← fe_nz, fe_add, fe_back]
  exact h
 have h4 := two_gen h2 h1 h3
 rw [← fe_back a, h4, fe_zero]
theorem nsq_K (s t : KF) (h : s * s = dK * (t * t)) : t = 0 := by
 apply Classical.byContradiction
 intro ht
 have htv : ¬ pN ∣ t.val := fun e => ht (Fin.ext (by
  have := Nat.eq_zero_of_dvd_of_lt e t.isLt
  rw [this]; rfl))
 have h1 : s.val * s.val % pN = dN * (t.val * t.val) % pN := by
  have := congrArg Fin.val h
  rw [Fin.val_mul, Fin.val_mul, Fin.val_mul, dK_val, Nat.mul_mod_mod] at this
  exact this
 exact nsq_gen pri_pN hP_two dN_half two_lt_pN htv h1
theorem crvK : Crv dK iK ivK := ⟨im_K, one_K, two_K, nsq_K, ivK_inv⟩
end
end Go.Proofs.YtihoaakbkffejaaGreatDoor
namespace Go.Proofs.YtihoaakbkffejaaGreatDoor
open Go.RowKit
set_option maxRecDepth 100000

theorem list16 {l : List Int} (h : l.length = 16) : ∃ a0 a1 a2 a3 a4 a5 a6 a7 a8 a9 a10 a11 a12 a13 a14 a15, l = [a0, a1, a2, a3, a4, a5, a6, a7, a8, a9, a10, a11, a12, a13, a14, a15] := by
 match l, h with
 | [a0, a1, a2, a3, a4, a5, a6, a7, a8, a9, a10, a11, a12, a13, a14, a15], _ => exact ⟨a0, a1, a2, a3, a4, a5, a6, a7, a8, a9, a10, a11, a12, a13, a14, a15, rfl⟩
theorem lim_snoc (k : Nat) (x : Int) : lim (k + 1) x = lim k x ++ [x / 65536 ^ k % 65536] := by
 induction k generalizing x with
 | zero => simp [lim]
 | succ k ih =>
  rw [lim, ih, lim, Int.pow_succ, Int.mul_comm (65536 ^ k) 65536, ← Int.ediv_ediv_of_nonneg (by omega)]
  rfl
theorem lim_add (m n : Nat) (x : Int) : lim (m + n) x = lim m x ++ lim n (x / 65536 ^ m) := by
 induction m generalizing x with
 | zero => simp [lim]
 | succ m ih =>
  rw [Nat.add_right_comm, lim, ih, lim, Int.pow_succ, Int.mul_comm (65536 ^ m) 65536, ← Int.ediv_ediv_of_nonneg (by omega)]
  rfl
theorem lim_small {n : Int} (h0 : 0 ≤ n) (h1 : n < 18446744073709551616) : lim 4 n ++ Z16.drop 4 = lim 16 n := by
 rw [show 16 = 4 + 12 from rfl, lim_add, show n / 65536 ^ 4 = 0 from Int.ediv_eq_zero_of_lt h0 (by simpa using h1)]
 rfl

set_option maxHeartbeats 1000000 in
theorem specSmall (n : Int) (w : World) (h0 : 0 ≤ n) (h1 : n < 9223372036854775808) :
  Calls Tryz.prog 96 #[.int .i64 n] w fun e w' => e = .returned (.agg (I64 (lim 16 n)).toArray) ∧ Below w.heap.size w w' := by
 have hls := lim_small h0 (by omega)
 obtain ⟨W, hW⟩ : ∃ W, W = (w.alloc (.cells (I64 Z16).toArray 80)).alloc (.cells (I64 Z16).toArray 80) := ⟨_, rfl⟩
 have g0 : Arr W w.heap.size 80 (I64 Z16) := by rw [hW]; exact (Arr.new w (I64 Z16) _).alloc _
 have g1 : Arr W (w.heap.size + 1) 80 (I64 (lim 0 n ++ Z16.drop 0)) := by
  rw [hW]
  have := Arr.new (w.alloc (.cells (I64 Z16).toArray 80)) (I64 Z16) 80
  rw [World.size_alloc] at this
  exact this
 have gB : Below w.heap.size w W := by rw [hW]; exact ((Below.refl _ _).alloc (Nat.le_refl _) _).alloc (by simp) _
 have HLS : Hid _ := hls
 clear hls
 go_enter Tryz.func96, Tryz.ntmps96
 go_wp2
 go_loopw [0, 4] (fun v i wr => ∃ (k : Nat) (m : Int), k ≤ 4 ∧ v = .int .i64 m ∧ m = n / 65536 ^ k ∧ i = .int .i64 k ∧ Arr wr w.heap.size 80 (I64 Z16) ∧ Arr wr (w.heap.size + 1) 80 (I64 (lim k n ++ Z16.drop k)) ∧ Below w.heap.size w wr) (fun _ i _ => 4 - (intOf i).toNat)
 case atStart => exact ⟨0, n, by omega, rfl, by simp, rfl, hW ▸ g0, hW ▸ g1, hW ▸ gB⟩
 case round =>
  clear g0 g1 gB hW
  obtain ⟨k, m, hk, rfl, hm, rfl, g0, g1, gB⟩ := hrel
  have hfl := lim_len k n
  have hm0 : 0 ≤ m ∧ m ≤ n := by
   rw [hm]
   exact ⟨Int.ediv_nonneg h0 (Int.le_of_lt (pow_pos16 k)), Int.ediv_le_self _ h0⟩
  by_cases hlt : k < 4
  ·obtain ⟨u, hu⟩ : ∃ u, wr.cell? ⟨w.heap.size + 1, k, none⟩ = some u := by
    rw [g1.cell k]
    exact ⟨_, List.getElem?_eq_getElem (by simp [hfl]; omega)⟩
   have hfz := g1.frozen k
   have g1' := g1.set k (.int .i64 (m % 65536))
   rw [set_app hfl (show k < Z16.length by show k < 16; omega), hm, ← lim_snoc, ← hm] at g1'
   have g0' := g0.other ⟨w.heap.size + 1, k, none⟩ (.int .i64 (m % 65536)) (by simp)
   have gB' := gB.setCell (p := ⟨w.heap.size + 1, k, none⟩) (by simp) (.int .i64 (m % 65536))
   have s1 : bits .and .i64 m 65535 = m % 65536 := i64_low16 hm0.1 (by omega)
   have hmn : m / 65536 = n / 65536 ^ (k + 1) := by rw [hm, Int.pow_succ, ← Int.ediv_ediv_of_nonneg (Int.le_of_lt (pow_pos16 k))]
   have hk4 : (k : Int) < 4 := by omega
   have hk16 : (k : Int) < 16 := by omega
   have H0 : Hid _ := g0'
   have H1 : Hid _ := g1'
   have HB : Hid _ := gB'
   have HM : Hid _ := hmn
   clear g0' g1' gB' hmn g0 g1 gB hm
   go_wp2
   go_roundw
   case rel => exact ⟨k + 1, m / 65536, by omega, rfl, HM.out, by go_num, H0.out, H1.out, HB.out⟩
   case measure => simp [intOf]; omega
  ·obtain rfl : k = 4 := by omega
   rw [HLS.out] at g1
   have hl : (lim 16 n).length = 16 := lim_len _ _
   obtain ⟨y, hy⟩ : ∃ y, y = lim 16 n := ⟨_, rfl⟩
   rw [← hy] at g1 hl
   have HY : Hid _ := hy
   have g0' := g0.row (I64 y)
   have gB' := setRow_below gB w.heap.size (I64 y).toArray (Nat.le_refl _)
   clear hy hm hfl
   go_wp2_with (first
    | (refine wpList_load_row rfl 80 _ rfl (w.heap.size + 1) rfl 80 (I64 y).toArray (0, 0) _ g1 Tryz.underlying80 rfl (by simpa [hl] using infoE) ?_)
    | (refine wpList_store_row rfl 80 _ _ rfl w.heap.size (I64 y).toArray rfl rfl 80 _ g0 (by simpa [hl] using infoE) (by simp [hl]) (by simp [Value.oneCell']) ?_))
   exact bodyPost_ret (results_cell_row rfl _ _ w.heap.size 80 (I64 y).toArray (0, 0) _ rfl g0' Tryz.underlying80 rfl (by simpa [hl] using infoE)) rfl ⟨by rw [HY.out], gB'⟩
end Go.Proofs.YtihoaakbkffejaaGreatDoor
namespace Go.Proofs.YtihoaakbkffejaaGreatDoor
open Go.RowKit

theorem wpl_append_is {w : World} {ops : Array Oper} {rest : List Oper} {o : Oper} {a : Act} {Q : Exit → Act → World → Prop} (hgd : o.guard = none) (s x : Operand)
  (ho : o.op = .call { callee := .builtin .append, args := #[s, x], argTypes := #[29, 29] })
  (base : Nat) (v : Value) (n : Nat) (xs : List Int) (hs : a.eval s = v) (ao : Option Addr) (m c : Nat) (ys : List Int) (hx : a.eval x = .slice ao m c)
  (hown : w.ownsRow base 3 1 v n (I64 xs)) (hb : Is w ao m c ys) (hlen : n + m ≤ 1099511627776) (hbase : base ≤ w.heap.size)
  (h : ∀ v' w', w'.ownsRow base 3 1 v' (n + m) (I64 (xs ++ ys)) → w.grownBy w' v.ownBlock → (v' = .slice none 0 0 ↔ v = .slice none 0 0 ∧ m = 0) → wpList Tryz.prog ops Q rest (a.put o.dst v') w') :
  wpList Tryz.prog ops Q (o :: rest) a w := by
 obtain ⟨i0, hi, hz0, hz1, hz2⟩ := info_parts Tryz.info3
 obtain ⟨hcap, hl, hc, _, hb⟩ := hb
 cases ao with
 | none =>
  have hc0 := hcap rfl
  subst hc0
  have hm : m = 0 := by omega
  subst hm
  have hy : ys = [] := List.eq_nil_of_length_eq_zero hl
  subst hy
  exact wpList_append_own_none hgd s x 29 ho base 3 i0 1 Tryz.underlying29 hi v n (I64 xs) hs hown hx
   (h v w (by simpa using hown) (World.grownBy.refl _ _) (by simp))
 | some ad =>
  refine wpList_append_own w hgd s x 29 ho base 3 i0 (.int .i64 0) 1 8 Tryz.underlying29 hi hz0 hz1 hz2 rfl (by decide) v n (I64 xs) hs hown ad m c (I64 ys) hx (by simp [hl]) ?_ (ints_oneCell _ _)
   (by unfold maxLen; omega) (by omega) hbase ?_
  ·rcases hb with hb | ⟨b, off, ha, _, hcell⟩
   ·intro j u hj
    have hy : ys = [] := List.eq_nil_of_length_eq_zero (by omega)
    subst hy
    simp at hj
   ·obtain rfl := Option.some.inj ha
    intro j u hj
    have hjl : j < m := by
     have := (List.getElem?_eq_some_iff.1 hj).1
     simpa [hl] using this
    rw [Addr.add_lit, hcell j hjl]
    have e : (I64 ys)[j]? = some (.int .i64 (ys.getD j 0)) := by simp [show j < ys.length by omega]
    rw [e] at hj
    exact hj
  ·intro v' w' h1 h2 h3
   exact h v' w' (by simpa using h1) h2 h3

theorem below_appI0 {B n : Nat} {w wr w' : World} {v : Value} {xs : List Value} (hb : Below B w wr) (hB : B ≤ wr.heap.size) (hown : wr.ownsRow B 3 1 v n xs) (hg : wr.grownBy w' v.ownBlock) : Below B w w' :=
 hb.grown hg hB (fun k hk => (hown.lt k hk).1)

theorem Is.one (w : World) (x : Int) (h0 : -9223372036854775808 ≤ x) (h1 : x ≤ 9223372036854775807) : Is (w.alloc (.cells #[.int .i64 x] 3)) (some ⟨w.heap.size, 0, none⟩) 1 1 [x] := by
 refine ⟨(fun h => by cases h), rfl, Nat.le_refl _, ?_, .inr ⟨w.heap.size, 0, rfl, by simp, ?_⟩⟩
 ·intro y hy; simp at hy; omega
 ·intro j hj
  have : j = 0 := by omega
  subst this
  rw [World.cell?_alloc_at _ _ _ _ rfl]; rfl

end Go.Proofs.YtihoaakbkffejaaGreatDoor
namespace Go.Proofs.YtihoaakbkffejaaGreatDoor
open Go.RowKit
set_option maxRecDepth 100000

theorem own_other' {w : World} {b e s n : Nat} {v : Value} {xs : List Value} (h : w.ownsRow b e s v n xs) (p : Addr) (u : Value) (hp : p.block < b) : (w.setCell p u).ownsRow b e s v n xs := by
 refine ⟨h.1, ?_⟩
 rcases h.2 with hn | ⟨g, cap, cur, rfl, hg, hgg, rest⟩
 ·exact .inl hn
 ·refine .inr ⟨g, cap, cur, rfl, hg, ?_, rest⟩
  rw [heap_setCell_other w p g u (by omega)]
  exact hgg
set_option maxHeartbeats 1000000 in
theorem specLess (a b : List Int) (w : World) (ha : a.length = 16) (hb : b.length = 16) (la : Lm a) (lb : Lm b) :
  Calls Tryz.prog 71 #[.agg (I64 a).toArray, .agg (I64 b).toArray] w fun e w' => e = .returned (.bool (decide (val a < val b))) ∧ Below w.heap.size w w' := by
 obtain ⟨A, hA⟩ : ∃ A, A = (I64 a).toArray := ⟨_, rfl⟩
 obtain ⟨B, hB⟩ : ∃ B, B = (I64 b).toArray := ⟨_, rfl⟩
 rw [← hA, ← hB]
 obtain ⟨W, hW⟩ : ∃ W, W = (w.alloc (.cells A 80)).alloc (.cells B 80) := ⟨_, rfl⟩
 have h0 : Arr W w.heap.size 80 (I64 a) := by rw [hW, hA]; exact (Arr.new w (I64 a) _).alloc _
 have h1 : Arr W (w.heap.size + 1) 80 (I64 b) := by
  rw [hW, hB]
  have := Arr.new (w.alloc (.cells A 80)) (I64 b) 80
  rw [World.size_alloc] at this
  exact this
 have hBl : Below w.heap.size w W := by rw [hW]; exact ((Below.refl _ _).alloc (Nat.le_refl _) _).alloc (by simp) _
 obtain ⟨r, hr⟩ : ∃ r, r = decide (val a < val b) := ⟨_, rfl⟩
 rw [← hr]
 have HR : Hid _ := hr
 have HA : Hid _ := hA
 have HB' : Hid _ := hB
 clear hr hA hB
 go_enter Tryz.func71, Tryz.ntmps71
 go_wp2
 rw [← hW]
 clear hW
 go_loopw [5] (fun i wr => ∃ (k : Nat) (j : Int), k ≤ 16 ∧ j = 15 - (k : Int) ∧ i = .int .i64 j ∧ a.drop (16 - k) = b.drop (16 - k) ∧ Arr wr w.heap.size 80 (I64 a) ∧ Arr wr (w.heap.size + 1) 80 (I64 b) ∧ Below w.heap.size w wr) (fun i _ => (intOf i + 1).toNat)
 case atStart => exact ⟨0, 15, by omega, by omega, rfl, by rw [List.drop_eq_nil_of_le (by omega), List.drop_eq_nil_of_le (by omega)], h0, h1, hBl⟩
 case round =>
  clear h0 h1 hBl
  obtain ⟨k, j, hk, hj, rfl, hd, h0, h1, hBl⟩ := hrel
  by_cases hlt : k < 16
  ·obtain ⟨i, rfl⟩ : ∃ i : Nat, j = (i : Int) := ⟨15 - k, by omega⟩
   have hi : 16 - k = i + 1 := by omega
   rw [hi] at hd
   obtain ⟨x, hx⟩ : ∃ x, x = a.getD i 0 := ⟨_, rfl⟩
   obtain ⟨y, hy⟩ : ∃ y, y = b.getD i 0 := ⟨_, rfl⟩
   have cx : wr.cell? ⟨w.heap.size, i, none⟩ = some (.int .i64 x) := by rw [hx]; exact h0.i64 i (by omega)
   have cy : wr.cell? ⟨w.heap.size + 1, i, none⟩ = some (.int .i64 y) := by rw [hy]; exact h1.i64 i (by omega)
   have hi16 : (i : Int) < 16 := by omega
   have hi0 : (0 : Int) ≤ (i : Int) := by omega
   have s5 : wrap64 ((i : Int) - 1) = (i : Int) - 1 := by unfold wrap64; omega
   have HJ : Hid _ := hj
   by_cases hne : x = y
   ·have hd' : a.drop i = b.drop i := by
     rw [List.drop_eq_getElem_cons (by omega), List.drop_eq_getElem_cons (l := b) (by omega), hd]
     have e1 : a[i] = x := by rw [hx]; simp [show i < a.length by omega]
     have e2 : b[i] = y := by rw [hy]; simp [show i < b.length by omega]
     rw [e1, e2, hne]
    have HD : Hid (a.drop (16 - (k + 1)) = b.drop (16 - (k + 1))) := by unfold Hid; rw [show 16 - (k + 1) = i by omega]; exact hd'
    subst hne
    clear hd hd' hx hy hj hi
    go_wp2
    go_quiet (fail)
    go_wp2
    go_roundw
    case rel => exact ⟨k + 1, (i : Int) - 1, by omega, by have := HJ.out; omega, by go_num, HD.out, h0.drewN _, h1.drewN _, bel_dN hBl _⟩
    case measure => simp [intOf]
   ·have hv := lt_at ha hb la lb (i := i) (by omega) hd (by rw [← hx, ← hy]; exact hne)
    rw [← hx, ← hy] at hv
    have hrr : decide (x < y) = r := by rw [HR.out]; simp only [hv]
    have HRR : Hid _ := hrr
    have hne' : (x != y) = true := by simp [hne]
    clear hd hx hy hj hi hv hrr
    go_wp2
    go_quiet (fail)
    go_wp2
    go_quiet (fail)
    go_wp2
    go_ret
    refine ⟨?_, bel_dN (bel_dN hBl _) _⟩
    rw [← HRR.out]
    rfl
  ·obtain rfl : k = 16 := by omega
   have hj0 : ¬ (0 : Int) ≤ j := by omega
   have hab : a = b := by simpa using hd
   have hrf : r = false := by rw [HR.out, hab]; simp
   clear hd hj
   go_wp2
   go_ret
   exact ⟨rfl, hBl⟩
set_option maxHeartbeats 1000000 in
theorem specPrime (w : World) :
  Calls Tryz.prog 112 #[] w fun e w' => e = .returned (.agg (I64 PL).toArray) ∧ Below w.heap.size w w' := by
 obtain ⟨W, hW⟩ : ∃ W, W = (w.alloc (.cells (I64 Z16).toArray 80)).alloc (.cells (I64 Z16).toArray 80) := ⟨_, rfl⟩
 have h0 : Arr W w.heap.size 80 (I64 Z16) := by rw [hW]; exact (Arr.new w (I64 Z16) _).alloc _
 have h1 : Arr W (w.heap.size + 1) 80 (I64 (List.replicate 0 65535 ++ List.replicate (16 - 0) 0)) := by
  rw [hW]
  have := Arr.new (w.alloc (.cells (I64 Z16).toArray 80)) (I64 Z16) 80
  rw [World.size_alloc] at this
  exact this
 have hB : Below w.heap.size w W := by rw [hW]; exact ((Below.refl _ _).alloc (Nat.le_refl _) _).alloc (by simp) _
 go_enter Tryz.func112, Tryz.ntmps112
 go_wp2
 go_loopw [2] (fun i wr => ∃ k : Nat, k ≤ 16 ∧ i = .int .i64 k ∧ Arr wr w.heap.size 80 (I64 Z16) ∧ Arr wr (w.heap.size + 1) 80 (I64 (List.replicate k 65535 ++ List.replicate (16 - k) 0)) ∧ Below w.heap.size w wr) (fun i _ => 16 - (intOf i).toNat)
 case atStart => exact ⟨0, by omega, rfl, hW ▸ h0, hW ▸ h1, hW ▸ hB⟩
 case round =>
  clear h0 h1 hB hW
  obtain ⟨k, hk, rfl, h0, h1, hb⟩ := hrel
  by_cases hlt : k < 16
  ·have hk16 : (k : Int) < 16 := by omega
   obtain ⟨u, hu⟩ : ∃ u, wr.cell? ⟨w.heap.size + 1, k, none⟩ = some u := by
    rw [h1.cell k]
    exact ⟨_, List.getElem?_eq_getElem (by simp; omega)⟩
   have hfz := h1.frozen k
   have h1' := h1.set k (.int .i64 65535)
   have e : (I64 (List.replicate k 65535 ++ List.replicate (16 - k) 0)).set k (.int .i64 65535) = I64 (List.replicate (k + 1) 65535 ++ List.replicate (16 - (k + 1)) 0) := by
    rw [show 16 - k = (16 - (k + 1)) + 1 by omega, List.replicate_succ, List.replicate_succ' (n := k)]
    simp [List.set_append_right]
   rw [e] at h1'
   have h0' := h0.other ⟨w.heap.size + 1, k, none⟩ (.int .i64 65535) (by simp)
   have hb' := hb.setCell (p := ⟨w.heap.size + 1, k, none⟩) (by simp) (.int .i64 65535)
   have H1 : Hid _ := h1'
   have H0 : Hid _ := h0'
   have HB : Hid _ := hb'
   clear h1' h0' hb' h0 h1 hb e
   go_wp2
   go_roundw
   case rel => exact ⟨k + 1, by omega, by go_num, H0.out, H1.out, HB.out⟩
   case measure => simp [intOf]; omega
  ·obtain rfl : k = 16 := by omega
   have h2 : Arr wr (w.heap.size + 1) 80 (I64 [65535, 65535, 65535, 65535, 65535, 65535, 65535, 65535, 65535, 65535, 65535, 65535, 65535, 65535, 65535, 65535]) := h1
   clear h1
   have c0 : wr.cell? ⟨w.heap.size + 1, 0, none⟩ = some (.int .i64 65535) := h2.cell 0
   have c15 : wr.cell? ⟨w.heap.size + 1, 15, none⟩ = some (.int .i64 65535) := h2.cell 15
   have hf := h2.frozen
   have h3 : Arr ((wr.setCell ⟨w.heap.size + 1, 0, none⟩ (.int .i64 65517)).setCell ⟨w.heap.size + 1, 15, none⟩ (.int .i64 32767)) (w.heap.size + 1) 80 (I64 PL) := (h2.set 0 (.int .i64 65517)).set 15 (.int .i64 32767)
   have h03 := (h0.other ⟨w.heap.size + 1, 0, none⟩ (.int .i64 65517) (by simp)).other ⟨w.heap.size + 1, 15, none⟩ (.int .i64 32767) (by simp)
   have hb3 := (hb.setCell (p := ⟨w.heap.size + 1, 0, none⟩) (by simp) (.int .i64 65517)).setCell (p := ⟨w.heap.size + 1, 15, none⟩) (by simp) (.int .i64 32767)
   have h04 := h03.row (I64 PL)
   have hb4 := setRow_below hb3 w.heap.size (I64 PL).toArray (Nat.le_refl _)
   have HS : Hid (Arr _ _ _ _) := h04
   have HB : Hid (Below _ _ _) := hb4
   clear h2 hb h04 hb4 h0 hb3
   go_wp2_with (first
    | (refine wpList_load_row rfl 80 _ rfl (w.heap.size + 1) rfl 80 (I64 PL).toArray (0, 0) _ h3 Tryz.underlying80 rfl infoE ?_)
    | (refine wpList_store_row rfl 80 _ _ rfl w.heap.size (I64 PL).toArray rfl rfl 80 (I64 Z16).toArray h03 (by kernel_rfl) (by kernel_rfl) (by kernel_rfl) ?_))
   exact bodyPost_ret (results_cell_row rfl _ _ w.heap.size 80 (I64 PL).toArray (0, 0) _ rfl HS.out Tryz.underlying80 rfl (by kernel_rfl)) rfl ⟨rfl, HB.out⟩
set_option maxHeartbeats 2000000 in
theorem specTake (a b : List Int) (w : World) (ha : a.length = 16) (hb : b.length = 16) (la : Lm a) (lb : Lm b) :
  Calls Tryz.prog 120 #[.agg (I64 a).toArray, .agg (I64 b).toArray] w fun e w' => e = .returned (.agg (I64 (tk16 a b)).toArray) ∧ Below w.heap.size w w' := by
 obtain ⟨A, hA⟩ : ∃ A, A = (I64 a).toArray := ⟨_, rfl⟩
 obtain ⟨B, hB⟩ : ∃ B, B = (I64 b).toArray := ⟨_, rfl⟩
 rw [← hA, ← hB]
 obtain ⟨W, hW⟩ : ∃ W, W = ((w.alloc (.cells A 80)).alloc (.cells B 80)).alloc (.cells (I64 Z16).toArray 80) := ⟨_, rfl⟩
 have h0 : Arr W w.heap.size 80 (I64 a) := by rw [hW, hA]; exact ((Arr.new w (I64 a) _).alloc _).alloc _
 have h1 : Arr W (w.heap.size + 1) 80 (I64 b) := by
  rw [hW, hB]
  have := (Arr.new (w.alloc (.cells A 80)) (I64 b) 80).alloc (.cells (I64 Z16).toArray 80)
  rw [World.size_alloc] at this
  exact this
 have h2 : Arr W (w.heap.size + 2) 80 (I64 Z16) := by
  rw [hW]
  have := Arr.new ((w.alloc (.cells A 80)).alloc (.cells B 80)) (I64 Z16) 80
  rw [World.size_alloc, World.size_alloc] at this
  exact this
 have hBl : Below w.heap.size w W := by rw [hW]; exact (((Below.refl _ _).alloc (Nat.le_refl _) _).alloc (by simp) _).alloc (by simp; omega) _
 obtain ⟨zs, hzs⟩ : ∃ zs, zs = List.zipWith (fun x y => x - y) a b := ⟨_, rfl⟩
 have hzl : zs.length = 16 := by rw [hzs]; simp [ha, hb]
 have hcc : ∀ k, cpc (zs.take k) 0 = 0 ∨ cpc (zs.take k) 0 = -1 := by
  intro k
  rw [hzs, List.take_zipWith]
  exact cpc_sub (fun x hx => la x (List.mem_of_mem_take hx)) (fun x hx => lb x (List.mem_of_mem_take hx)) (.inl rfl)
 have htk : tk16 a b = cps zs 0 := by unfold tk16; rw [hzs]
 have hzg : ∀ k, k < 16 → zs.getD k 0 = a.getD k 0 - b.getD k 0 := by
  intro k hk
  rw [hzs]
  simp [List.getD, List.getElem?_zipWith, show k < a.length by omega, show k < b.length by omega]
 have HT : Hid _ := htk
 have HZG : Hid _ := hzg
 have HCC : Hid _ := hcc
 clear hzs htk hzg hcc hA hB
 go_enter Tryz.func120, Tryz.ntmps120
 go_wp2
 go_loopw [5, 6] (fun c i wr => ∃ (k : Nat) (d : Int), k ≤ 16 ∧ c = .int .i64 d ∧ d = -(cpc (zs.take k) 0) ∧ i = .int .i64 k ∧ Arr wr w.heap.size 80 (I64 (cps (zs.take k) 0 ++ a.drop k)) ∧ Arr wr (w.heap.size + 1) 80 (I64 b) ∧ Arr wr (w.heap.size + 2) 80 (I64 Z16) ∧ Below w.heap.size w wr) (fun _ i _ => 16 - (intOf i).toNat)
 case atStart => exact ⟨0, 0, by omega, rfl, by simp [cpc], rfl, by simpa [cps] using (hW ▸ h0), hW ▸ h1, hW ▸ h2, hW ▸ hBl⟩
 case round =>
  clear h0 h1 h2 hBl hW
  obtain ⟨k, d, hk, rfl, hd, rfl, h0, h1, h2, hBl⟩ := hrel
  have hfl : (cps (zs.take k) 0).length = k := by rw [cps_len]; simp; omega
  by_cases hlt : k < 16
  ·obtain ⟨x, hx⟩ : ∃ x, x = a.getD k 0 := ⟨_, rfl⟩
   obtain ⟨y, hy⟩ : ∃ y, y = b.getD k 0 := ⟨_, rfl⟩
   have cx : wr.cell? ⟨w.heap.size, k, none⟩ = some (.int .i64 x) := by
    rw [h0.i64 k (by rw [len_app hfl (by omega)]; omega), get_app hfl, hx]
   have cy : wr.cell? ⟨w.heap.size + 1, k, none⟩ = some (.int .i64 y) := by rw [hy]; exact h1.i64 k (by omega)
   have bx := gD_lm la k
   have by' := gD_lm lb k
   rw [← hx] at bx
   rw [← hy] at by'
   have hc := HCC.out k
   have hz := HZG.out k hlt
   rw [← hx, ← hy] at hz
   have hts := take_app zs k (by omega)
   rw [hz] at hts
   have hs1 : cps (zs.take (k + 1)) 0 = cps (zs.take k) 0 ++ [(x - y + cpc (zs.take k) 0) % 65536] := by rw [hts, cps_snoc]
   have hs2 : cpc (zs.take (k + 1)) 0 = (x - y + cpc (zs.take k) 0) / 65536 := by rw [hts, cpc_snoc]
   have hk16 : (k : Int) < 16 := by omega
   have hfz := h0.frozen k
   have hset := fun v => h0.set k (.int .i64 v)
   have h1s := fun v => h1.other ⟨w.heap.size, k, none⟩ (.int .i64 v) (by simp)
   have h2s := fun v => h2.other ⟨w.heap.size, k, none⟩ (.int .i64 v) (by simp)
   have hbs := fun v => hBl.setCell (p := ⟨w.heap.size, k, none⟩) (Nat.le_refl _) (.int .i64 v)
   simp only [set_app hfl (show k < a.length by omega)] at hset
   have w1 : IntKind.i64.wrap (x - y) = x - y := by rw [IntKind.wrap_i64]; omega
   obtain ⟨z, hzz⟩ : ∃ z, z = x - y - d := ⟨_, rfl⟩
   have w2 : IntKind.i64.wrap (x - y - d) = z := by rw [IntKind.wrap_i64, hzz]; omega
   have HS1 : Hid _ := hs1
   have HS2 : Hid _ := hs2
   have HD : Hid _ := hd
   have HZZ : Hid _ := hzz
   have HSET : Hid _ := hset
   have H1S : Hid _ := h1s
   have H2S : Hid _ := h2s
   have HBS : Hid _ := hbs
   have hzb : -65536 ≤ z ∧ z < 65536 := by omega
   clear hs1 hs2 hd hzz hset h1s h2s hbs hts hz hx hy h0 h1 h2 hBl hc
   go_wp2
   go_quiet (fail)
   rename_i nq
   by_cases hneg : z < 0
   ·have w3 : IntKind.i64.wrap (z + 65536) = z + 65536 := by rw [IntKind.wrap_i64]; omega
    go_wp2
    go_roundw
    case rel =>
     refine ⟨k + 1, 1, by omega, rfl, ?_, by go_num, ?_, (H1S.out _).drewN _, (H2S.out _).drewN _, bel_dN (HBS.out _) _⟩
     ·have e := HS2.out; have e1 := HD.out; have e2 := HZZ.out; omega
     ·have e := HS1.out; have e1 := HD.out; have e2 := HZZ.out
      rw [e, show (x - y + cpc (zs.take k) 0) % 65536 = z + 65536 by omega]
      exact (HSET.out _).drewN _
    case measure => simp [intOf]; omega
   ·go_wp2
    go_roundw
    case rel =>
     refine ⟨k + 1, 0, by omega, rfl, ?_, by go_num, ?_, (H1S.out _).drewN _, (H2S.out _).drewN _, bel_dN (HBS.out _) _⟩
     ·have e := HS2.out; have e1 := HD.out; have e2 := HZZ.out; omega
     ·have e := HS1.out; have e1 := HD.out; have e2 := HZZ.out
      rw [e, show (x - y + cpc (zs.take k) 0) % 65536 = z by omega]
      exact (HSET.out _).drewN _
    case measure => simp [intOf]; omega
  ·obtain rfl : k = 16 := by omega
   have e : cps (zs.take 16) 0 ++ a.drop 16 = tk16 a b := by
    rw [HT.out, List.take_of_length_le (by omega), List.drop_eq_nil_of_le (by omega)]; simp
   rw [e] at h0
   have hl : (tk16 a b).length = 16 := by rw [HT.out, cps_len, hzl]
   obtain ⟨y, hy⟩ : ∃ y, y = tk16 a b := ⟨_, rfl⟩
   rw [← hy] at h0 hl
   have HY : Hid _ := hy
   have h2' := h2.row (I64 y)
   have hb' := setRow_below hBl (w.heap.size + 2) (I64 y).toArray (by omega)
   clear e hy hd hfl
   go_wp2_with (first
    | (refine wpList_load_row rfl 80 _ rfl w.heap.size rfl 80 (I64 y).toArray (0, 0) _ h0 Tryz.underlying80 rfl (by simpa [hl] using infoE) ?_)
    | (refine wpList_store_row rfl 80 _ _ rfl (w.heap.size + 2) (I64 y).toArray rfl rfl 80 _ h2 (by simpa [hl] using infoE) (by simp [hl]) (by simp [Value.oneCell']) ?_))
   exact bodyPost_ret (results_cell_row rfl _ _ (w.heap.size + 2) 80 (I64 y).toArray (0, 0) _ rfl h2' Tryz.underlying80 rfl (by simpa [hl] using infoE)) rfl ⟨by rw [HY.out], hb'⟩
end Go.Proofs.YtihoaakbkffejaaGreatDoor
